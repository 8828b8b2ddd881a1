/-
  DERIVED. GIVEN WITH THE SEED: THE CARDS: each row of YtkkmhbgghnddcaaGreatDoorRows.lean that lists a variable, with what it lists TIED to the program's text (the seventh form; the later family's looks); each row that meets fmt, with fmt's text TOLD by the authors' own Lean function (tested against real Go, not proved from fmt's source: count such statements apart). THE CARD IS WHAT COUNTS. Prove the row's statement (the work); the ties are given (YtkkmhbgghnddcaaGreatDoorTie.lean); close each card by the builder's one call (the guide's Derived/Test/ToyasCard.lean, 'card_holds'). Laid BY PROGRAM, IN A SANDBOX (cutbox-door.mjs). By AI agents, Wed Nov 11 2026. No macro, syntax, notation, axiom, sorry.
-/
import Derived.Test.YtkkmhbgghnddcaaGreatDoorRows
import GoSem.ClaimSeven
namespace Go.Proofs.YtkkmhbgghnddcaaGreatDoor
namespace Rows

/-- THE TIED CARD OF 'wattlelaw19.IngestNone'. -/
def ingestNoneCard : Claim7 := { stood := { row := ingestNoneRow, standIns := [], harness := (true, "3414d7698e859f8f082176af8c6fb875882128ec8aba74742f90a20105c5fc17"), looks := false }, kinds := [], alts := [], laidByText := true, laidKinds := [.data], laidTests := true, laidLooks := .later }
def IngestNoneCardSaid : Prop := Claim7.holds Tryz.pinned (.plain (OpenSpec.ofChange ingestNoneSpec)) ingestNoneCard

/-- THE SECOND FORM's CARD OF 'wattlelaw19.IngestNone'. -/
def ingestNoneUptoCard : Claim7 := { stood := { row := ingestNoneUptoRow, standIns := [], harness := (true, "3414d7698e859f8f082176af8c6fb875882128ec8aba74742f90a20105c5fc17"), looks := false }, kinds := [], alts := [], laidByText := true, laidKinds := [.data], laidTests := true, laidLooks := .later }
def IngestNoneUptoCardSaid : Prop := Claim7.holds Tryz.pinned (.plain (OpenSpec.upto ingestNoneSpec)) ingestNoneUptoCard
end Rows
end Go.Proofs.YtkkmhbgghnddcaaGreatDoor
