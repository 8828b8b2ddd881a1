/-
  DERIVED. GIVEN WITH THE SEED: THE CARDS: each row of YtgfmhnconbcdaaaGreatDoorRows.lean that lists a variable, with what it lists TIED to the program's text (the seventh form; the later family's looks); each row that meets fmt, with fmt's text TOLD by the authors' own Lean function (tested against real Go, not proved from fmt's source: count such statements apart). THE CARD IS WHAT COUNTS. Prove the row's statement (the work); the ties are given (YtgfmhnconbcdaaaGreatDoorTie.lean); close each card by the builder's one call (the guide's Derived/Test/ToyasCard.lean, 'card_holds'). Laid BY PROGRAM, IN A SANDBOX (cutbox-door.mjs). By AI agents, Wed Nov 11 2026. No macro, syntax, notation, axiom, sorry.
-/
import Derived.Test.YtgfmhnconbcdaaaGreatDoorRows
import GoSem.ClaimSeven
namespace Go.Proofs.YtgfmhnconbcdaaaGreatDoor
namespace Rows

/-- THE TIED CARD OF 'wattlelaw17.SorterNone'. -/
def sorterNoneCard : Claim7 := { stood := { row := sorterNoneRow, standIns := [], harness := (true, "ccfa89508df130ed6bd992d71c33dc8d42718bce30720c2faef0194d09049210"), looks := false }, kinds := [], alts := [], laidByText := true, laidKinds := [.data], laidTests := true, laidLooks := .later }
def SorterNoneCardSaid : Prop := Claim7.holds Tryz.pinned (.plain (OpenSpec.ofChange sorterNoneSpec)) sorterNoneCard

/-- THE SECOND FORM's CARD OF 'wattlelaw17.SorterNone'. -/
def sorterNoneUptoCard : Claim7 := { stood := { row := sorterNoneUptoRow, standIns := [], harness := (true, "ccfa89508df130ed6bd992d71c33dc8d42718bce30720c2faef0194d09049210"), looks := false }, kinds := [], alts := [], laidByText := true, laidKinds := [.data], laidTests := true, laidLooks := .later }
def SorterNoneUptoCardSaid : Prop := Claim7.holds Tryz.pinned (.plain (OpenSpec.upto sorterNoneSpec)) sorterNoneUptoCard
end Rows
end Go.Proofs.YtgfmhnconbcdaaaGreatDoor
