/-
  DERIVED. GIVEN WITH THE SEED: THE CARDS: each row of YtlheieilhpbkdabDoorRows.lean that lists a variable, with what it lists TIED to the program's text (the seventh form; the later family's looks); each row that meets fmt, with fmt's text TOLD by the authors' own Lean function (tested against real Go, not proved from fmt's source: count such statements apart). THE CARD IS WHAT COUNTS. Prove the row's statement (the work); the ties are given (YtlheieilhpbkdabDoorTie.lean); close each card by the builder's one call (the guide's Derived/Test/ToyasCard.lean, 'card_holds'). Laid BY PROGRAM, IN A SANDBOX (cutbox-door.mjs). By AI agents, Wed Nov 11 2026. No macro, syntax, notation, axiom, sorry.
-/
import Derived.Test.YtlheieilhpbkdabDoorRows
import GoSem.ClaimSeven
namespace Go.Proofs.YtlheieilhpbkdabDoor
namespace Rows

/-- THE TIED CARD OF 'wattlelaw03.SumsReads'. -/
def sumsReadsCard : Claim7 := { stood := { row := sumsReadsRow, standIns := [], harness := (true, "d8012070d101e3c27657f76fe9cef30f1873b47e4ab9ec13a3b1bb459a918d72"), looks := false }, kinds := [], alts := [], laidByText := true, laidKinds := [.data], laidTests := true, laidLooks := .later }
def SumsReadsCardSaid : Prop := Claim7.holds Tryd.pinned (.plain (OpenSpec.ofChange sumsReadsSpec)) sumsReadsCard

/-- THE TIED CARD OF 'wattlelaw03.SumsGoes'. -/
def sumsGoesCard : Claim7 := { stood := { row := sumsGoesRow, standIns := [], harness := (true, "d8012070d101e3c27657f76fe9cef30f1873b47e4ab9ec13a3b1bb459a918d72"), looks := false }, kinds := [], alts := [], laidByText := true, laidKinds := [.data], laidTests := true, laidLooks := .later }
def SumsGoesCardSaid : Prop := Claim7.holds Tryd.pinned (.plain (OpenSpec.ofChange sumsGoesSpec)) sumsGoesCard

/-- THE TIED CARD OF 'wattlelaw03.SumsTold'. -/
def sumsToldCard : Claim7 := { stood := { row := sumsToldRow, standIns := [], harness := (true, "d8012070d101e3c27657f76fe9cef30f1873b47e4ab9ec13a3b1bb459a918d72"), looks := false }, kinds := [], alts := [], laidByText := true, laidKinds := [.data], laidTests := true, laidLooks := .later }
def SumsToldCardSaid : Prop := Claim7.holds Tryd.pinned (.plain (OpenSpec.ofChange sumsToldSpec)) sumsToldCard

/-- THE SECOND FORM's CARD OF 'wattlelaw03.SumsReads'. -/
def sumsReadsUptoCard : Claim7 := { stood := { row := sumsReadsUptoRow, standIns := [], harness := (true, "d8012070d101e3c27657f76fe9cef30f1873b47e4ab9ec13a3b1bb459a918d72"), looks := false }, kinds := [], alts := [], laidByText := true, laidKinds := [.data], laidTests := true, laidLooks := .later }
def SumsReadsUptoCardSaid : Prop := Claim7.holds Tryd.pinned (.plain (OpenSpec.upto sumsReadsSpec)) sumsReadsUptoCard

/-- THE SECOND FORM's CARD OF 'wattlelaw03.SumsGoes'. -/
def sumsGoesUptoCard : Claim7 := { stood := { row := sumsGoesUptoRow, standIns := [], harness := (true, "d8012070d101e3c27657f76fe9cef30f1873b47e4ab9ec13a3b1bb459a918d72"), looks := false }, kinds := [], alts := [], laidByText := true, laidKinds := [.data], laidTests := true, laidLooks := .later }
def SumsGoesUptoCardSaid : Prop := Claim7.holds Tryd.pinned (.plain (OpenSpec.upto sumsGoesSpec)) sumsGoesUptoCard

/-- THE SECOND FORM's CARD OF 'wattlelaw03.SumsTold'. -/
def sumsToldUptoCard : Claim7 := { stood := { row := sumsToldUptoRow, standIns := [], harness := (true, "d8012070d101e3c27657f76fe9cef30f1873b47e4ab9ec13a3b1bb459a918d72"), looks := false }, kinds := [], alts := [], laidByText := true, laidKinds := [.data], laidTests := true, laidLooks := .later }
def SumsToldUptoCardSaid : Prop := Claim7.holds Tryd.pinned (.plain (OpenSpec.upto sumsToldSpec)) sumsToldUptoCard
end Rows
end Go.Proofs.YtlheieilhpbkdabDoor
