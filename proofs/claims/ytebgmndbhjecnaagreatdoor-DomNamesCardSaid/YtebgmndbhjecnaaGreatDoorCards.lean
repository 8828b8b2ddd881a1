/-
  DERIVED. GIVEN WITH THE SEED: THE CARDS: each row of YtebgmndbhjecnaaGreatDoorRows.lean that lists a variable, with what it lists TIED to the program's text (the seventh form; the later family's looks); each row that meets fmt, with fmt's text TOLD by the authors' own Lean function (tested against real Go, not proved from fmt's source: count such statements apart). THE CARD IS WHAT COUNTS. Prove the row's statement (the work); the ties are given (YtebgmndbhjecnaaGreatDoorTie.lean); close each card by the builder's one call (the guide's Derived/Test/ToyasCard.lean, 'card_holds'). Laid BY PROGRAM, IN A SANDBOX (cutbox-door.mjs). By AI agents, Wed Nov 11 2026. No macro, syntax, notation, axiom, sorry.
-/
import Derived.Test.YtebgmndbhjecnaaGreatDoorRows
import GoSem.ClaimSeven
namespace Go.Proofs.YtebgmndbhjecnaaGreatDoor
namespace Rows

/-- THE TIED CARD OF 'wattlelaw24.DomNames'. -/
def domNamesCard : Claim7 := { stood := { row := domNamesRow, standIns := [], harness := (true, "09193d76e490e59eab118b7886602a0143c9f7bf1207ba4bc55f4be5c49b5e84"), looks := false }, kinds := [], alts := [], laidByText := true, laidKinds := [.data], laidTests := true, laidLooks := .later }
def DomNamesCardSaid : Prop := Claim7.holds Tryz.pinned (.plain (OpenSpec.ofChange domNamesSpec)) domNamesCard

/-- THE TIED CARD OF 'wattlelaw28.BallNone'. -/
def ballNoneCard : Claim7 := { stood := { row := ballNoneRow, standIns := [], harness := (true, "09193d76e490e59eab118b7886602a0143c9f7bf1207ba4bc55f4be5c49b5e84"), looks := false }, kinds := [], alts := [], laidByText := true, laidKinds := [.data], laidTests := true, laidLooks := .later }
def BallNoneCardSaid : Prop := Claim7.holds Tryz.pinned (.plain (OpenSpec.ofChange ballNoneSpec)) ballNoneCard

/-- THE TIED CARD OF 'wattlelaw26.TriNone'. -/
def triNoneCard : Claim7 := { stood := { row := triNoneRow, standIns := [], harness := (true, "09193d76e490e59eab118b7886602a0143c9f7bf1207ba4bc55f4be5c49b5e84"), looks := false }, kinds := [], alts := [], laidByText := true, laidKinds := [.data], laidTests := true, laidLooks := .later }
def TriNoneCardSaid : Prop := Claim7.holds Tryz.pinned (.plain (OpenSpec.ofChange triNoneSpec)) triNoneCard

/-- THE SECOND FORM's CARD OF 'wattlelaw24.DomNames'. -/
def domNamesUptoCard : Claim7 := { stood := { row := domNamesUptoRow, standIns := [], harness := (true, "09193d76e490e59eab118b7886602a0143c9f7bf1207ba4bc55f4be5c49b5e84"), looks := false }, kinds := [], alts := [], laidByText := true, laidKinds := [.data], laidTests := true, laidLooks := .later }
def DomNamesUptoCardSaid : Prop := Claim7.holds Tryz.pinned (.plain (OpenSpec.upto domNamesSpec)) domNamesUptoCard

/-- THE SECOND FORM's CARD OF 'wattlelaw28.BallNone'. -/
def ballNoneUptoCard : Claim7 := { stood := { row := ballNoneUptoRow, standIns := [], harness := (true, "09193d76e490e59eab118b7886602a0143c9f7bf1207ba4bc55f4be5c49b5e84"), looks := false }, kinds := [], alts := [], laidByText := true, laidKinds := [.data], laidTests := true, laidLooks := .later }
def BallNoneUptoCardSaid : Prop := Claim7.holds Tryz.pinned (.plain (OpenSpec.upto ballNoneSpec)) ballNoneUptoCard

/-- THE SECOND FORM's CARD OF 'wattlelaw26.TriNone'. -/
def triNoneUptoCard : Claim7 := { stood := { row := triNoneUptoRow, standIns := [], harness := (true, "09193d76e490e59eab118b7886602a0143c9f7bf1207ba4bc55f4be5c49b5e84"), looks := false }, kinds := [], alts := [], laidByText := true, laidKinds := [.data], laidTests := true, laidLooks := .later }
def TriNoneUptoCardSaid : Prop := Claim7.holds Tryz.pinned (.plain (OpenSpec.upto triNoneSpec)) triNoneUptoCard
end Rows
end Go.Proofs.YtebgmndbhjecnaaGreatDoor
