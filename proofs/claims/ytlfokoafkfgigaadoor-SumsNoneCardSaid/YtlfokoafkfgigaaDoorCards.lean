/-
  DERIVED. GIVEN WITH THE SEED: THE CARDS: each row of YtlfokoafkfgigaaDoorRows.lean that lists a variable, with what it lists TIED to the program's text (the seventh form; the later family's looks); each row that meets fmt, with fmt's text TOLD by the authors' own Lean function (tested against real Go, not proved from fmt's source: count such statements apart). THE CARD IS WHAT COUNTS. Prove the row's statement (the work); the ties are given (YtlfokoafkfgigaaDoorTie.lean); close each card by the builder's one call (the guide's Derived/Test/ToyasCard.lean, 'card_holds'). Laid BY PROGRAM, IN A SANDBOX (cutbox-door.mjs). By AI agents, Wed Nov 11 2026. No macro, syntax, notation, axiom, sorry.
-/
import Derived.Test.YtlfokoafkfgigaaDoorRows
import GoSem.ClaimSeven
namespace Go.Proofs.YtlfokoafkfgigaaDoor
namespace Rows

/-- THE TIED CARD OF 'wattlelaw03.SumsNone'. -/
def sumsNoneCard : Claim7 := { stood := { row := sumsNoneRow, standIns := [], harness := (true, "51f9d1804d2b8cf4129f71026ea8b26d00bfca4870d857e8a6355f841c73fbf6"), looks := false }, kinds := [], alts := [], laidByText := true, laidKinds := [.data], laidTests := true, laidLooks := .later }
def SumsNoneCardSaid : Prop := Claim7.holds Tryd.pinned (.plain (OpenSpec.ofChange sumsNoneSpec)) sumsNoneCard

/-- THE TIED CARD OF 'wattlelaw07.PageNone'. -/
def pageNoneCard : Claim7 := { stood := { row := pageNoneRow, standIns := [], harness := (true, "51f9d1804d2b8cf4129f71026ea8b26d00bfca4870d857e8a6355f841c73fbf6"), looks := false }, kinds := [], alts := [], laidByText := true, laidKinds := [.data, .pinned], laidTests := true, laidLooks := .later }
def PageNoneCardSaid : Prop := Claim7.holds Tryd.pinned (.plain (OpenSpec.ofChange pageNoneSpec)) pageNoneCard

/-- THE SECOND FORM's CARD OF 'wattlelaw03.SumsNone'. -/
def sumsNoneUptoCard : Claim7 := { stood := { row := sumsNoneUptoRow, standIns := [], harness := (true, "51f9d1804d2b8cf4129f71026ea8b26d00bfca4870d857e8a6355f841c73fbf6"), looks := false }, kinds := [], alts := [], laidByText := true, laidKinds := [.data], laidTests := true, laidLooks := .later }
def SumsNoneUptoCardSaid : Prop := Claim7.holds Tryd.pinned (.plain (OpenSpec.upto sumsNoneSpec)) sumsNoneUptoCard

/-- THE SECOND FORM's CARD OF 'wattlelaw07.PageNone'. -/
def pageNoneUptoCard : Claim7 := { stood := { row := pageNoneUptoRow, standIns := [], harness := (true, "51f9d1804d2b8cf4129f71026ea8b26d00bfca4870d857e8a6355f841c73fbf6"), looks := false }, kinds := [], alts := [], laidByText := true, laidKinds := [.data, .pinned], laidTests := true, laidLooks := .later }
def PageNoneUptoCardSaid : Prop := Claim7.holds Tryd.pinned (.plain (OpenSpec.upto pageNoneSpec)) pageNoneUptoCard
end Rows
end Go.Proofs.YtlfokoafkfgigaaDoor
