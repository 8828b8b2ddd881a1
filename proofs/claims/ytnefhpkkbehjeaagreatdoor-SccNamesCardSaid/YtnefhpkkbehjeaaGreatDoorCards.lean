/-
  DERIVED. GIVEN WITH THE SEED: THE CARDS: each row of YtnefhpkkbehjeaaGreatDoorRows.lean that lists a variable, with what it lists TIED to the program's text (the seventh form; the later family's looks); each row that meets fmt, with fmt's text TOLD by the authors' own Lean function (tested against real Go, not proved from fmt's source: count such statements apart). THE CARD IS WHAT COUNTS. Prove the row's statement (the work); the ties are given (YtnefhpkkbehjeaaGreatDoorTie.lean); close each card by the builder's one call (the guide's Derived/Test/ToyasCard.lean, 'card_holds'). Laid BY PROGRAM, IN A SANDBOX (cutbox-door.mjs). By AI agents, Wed Nov 11 2026. No macro, syntax, notation, axiom, sorry.
-/
import Derived.Test.YtnefhpkkbehjeaaGreatDoorRows
import GoSem.ClaimSeven
namespace Go.Proofs.YtnefhpkkbehjeaaGreatDoor
namespace Rows

/-- THE TIED CARD OF 'wattlelaw26.TriNone'. -/
def triNoneCard : Claim7 := { stood := { row := triNoneRow, standIns := [], harness := (true, "18d19e259bc8219f3a49eb8b12d7f21c5b3bd1cc9e18e2795047db42623519ec"), looks := false }, kinds := [], alts := [], laidByText := true, laidKinds := [.data], laidTests := true, laidLooks := .later }
def TriNoneCardSaid : Prop := Claim7.holds Tryz.pinned (.plain (OpenSpec.ofChange triNoneSpec)) triNoneCard

/-- THE TIED CARD OF 'wattlelaw23.SccNames'. -/
def sccNamesCard : Claim7 := { stood := { row := sccNamesRow, standIns := [], harness := (true, "18d19e259bc8219f3a49eb8b12d7f21c5b3bd1cc9e18e2795047db42623519ec"), looks := false }, kinds := [], alts := [], laidByText := true, laidKinds := [.data], laidTests := true, laidLooks := .later }
def SccNamesCardSaid : Prop := Claim7.holds Tryz.pinned (.plain (OpenSpec.ofChange sccNamesSpec)) sccNamesCard

/-- THE SECOND FORM's CARD OF 'wattlelaw26.TriNone'. -/
def triNoneUptoCard : Claim7 := { stood := { row := triNoneUptoRow, standIns := [], harness := (true, "18d19e259bc8219f3a49eb8b12d7f21c5b3bd1cc9e18e2795047db42623519ec"), looks := false }, kinds := [], alts := [], laidByText := true, laidKinds := [.data], laidTests := true, laidLooks := .later }
def TriNoneUptoCardSaid : Prop := Claim7.holds Tryz.pinned (.plain (OpenSpec.upto triNoneSpec)) triNoneUptoCard

/-- THE SECOND FORM's CARD OF 'wattlelaw23.SccNames'. -/
def sccNamesUptoCard : Claim7 := { stood := { row := sccNamesUptoRow, standIns := [], harness := (true, "18d19e259bc8219f3a49eb8b12d7f21c5b3bd1cc9e18e2795047db42623519ec"), looks := false }, kinds := [], alts := [], laidByText := true, laidKinds := [.data], laidTests := true, laidLooks := .later }
def SccNamesUptoCardSaid : Prop := Claim7.holds Tryz.pinned (.plain (OpenSpec.upto sccNamesSpec)) sccNamesUptoCard
end Rows
end Go.Proofs.YtnefhpkkbehjeaaGreatDoor
