/-
  DERIVED. GIVEN WITH THE SEED: THE CARDS: each row of YteojaklegpbhhaaGreatDoorRows.lean that lists a variable, with what it lists TIED to the program's text (the seventh form; the later family's looks); each row that meets fmt, with fmt's text TOLD by the authors' own Lean function (tested against real Go, not proved from fmt's source: count such statements apart). THE CARD IS WHAT COUNTS. Prove the row's statement (the work); the ties are given (YteojaklegpbhhaaGreatDoorTie.lean); close each card by the builder's one call (the guide's Derived/Test/ToyasCard.lean, 'card_holds'). Laid BY PROGRAM, IN A SANDBOX (cutbox-door.mjs). By AI agents, Wed Nov 11 2026. No macro, syntax, notation, axiom, sorry.
-/
import Derived.Test.YteojaklegpbhhaaGreatDoorRows
import GoSem.ClaimSeven
namespace Go.Proofs.YteojaklegpbhhaaGreatDoor
namespace Rows

/-- THE TIED CARD OF 'wattlelaw20.TurnNone'. -/
def turnNoneCard : Claim7 := { stood := { row := turnNoneRow, standIns := [], harness := (true, "83c907c117ec4b71dd38e368f63aeac7d478a4d60a7f722fa5f3fce75de3a6a7"), looks := false }, kinds := [], alts := [], laidByText := true, laidKinds := [.data], laidTests := true, laidLooks := .later }
def TurnNoneCardSaid : Prop := Claim7.holds Tryz.pinned (.plain (OpenSpec.ofChange turnNoneSpec)) turnNoneCard

/-- THE SECOND FORM's CARD OF 'wattlelaw20.TurnNone'. -/
def turnNoneUptoCard : Claim7 := { stood := { row := turnNoneUptoRow, standIns := [], harness := (true, "83c907c117ec4b71dd38e368f63aeac7d478a4d60a7f722fa5f3fce75de3a6a7"), looks := false }, kinds := [], alts := [], laidByText := true, laidKinds := [.data], laidTests := true, laidLooks := .later }
def TurnNoneUptoCardSaid : Prop := Claim7.holds Tryz.pinned (.plain (OpenSpec.upto turnNoneSpec)) turnNoneUptoCard
end Rows
end Go.Proofs.YteojaklegpbhhaaGreatDoor
