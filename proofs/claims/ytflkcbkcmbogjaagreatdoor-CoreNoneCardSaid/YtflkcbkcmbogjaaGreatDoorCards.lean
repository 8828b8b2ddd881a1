/-
  DERIVED. GIVEN WITH THE SEED: THE CARDS: each row of YtflkcbkcmbogjaaGreatDoorRows.lean that lists a variable, with what it lists TIED to the program's text (the seventh form; the later family's looks); each row that meets fmt, with fmt's text TOLD by the authors' own Lean function (tested against real Go, not proved from fmt's source: count such statements apart). THE CARD IS WHAT COUNTS. Prove the row's statement (the work); the ties are given (YtflkcbkcmbogjaaGreatDoorTie.lean); close each card by the builder's one call (the guide's Derived/Test/ToyasCard.lean, 'card_holds'). Laid BY PROGRAM, IN A SANDBOX (cutbox-door.mjs). By AI agents, Wed Nov 11 2026. No macro, syntax, notation, axiom, sorry.
-/
import Derived.Test.YtflkcbkcmbogjaaGreatDoorRows
import GoSem.ClaimSeven
namespace Go.Proofs.YtflkcbkcmbogjaaGreatDoor
namespace Rows

/-- THE TIED CARD OF 'wattlelaw22.BfsNames'. -/
def bfsNamesCard : Claim7 := { stood := { row := bfsNamesRow, standIns := [], harness := (true, "8677ea55c3f4d93703d498cee9fbbc2cdc8bf6e27d02e52a3a7bf5fb02812231"), looks := false }, kinds := [], alts := [], laidByText := true, laidKinds := [.data], laidTests := true, laidLooks := .later }
def BfsNamesCardSaid : Prop := Claim7.holds Tryz.pinned (.plain (OpenSpec.ofChange bfsNamesSpec)) bfsNamesCard

/-- THE TIED CARD OF 'wattlelaw25.CoreNone'. -/
def coreNoneCard : Claim7 := { stood := { row := coreNoneRow, standIns := [], harness := (true, "8677ea55c3f4d93703d498cee9fbbc2cdc8bf6e27d02e52a3a7bf5fb02812231"), looks := false }, kinds := [], alts := [], laidByText := true, laidKinds := [.data], laidTests := true, laidLooks := .later }
def CoreNoneCardSaid : Prop := Claim7.holds Tryz.pinned (.plain (OpenSpec.ofChange coreNoneSpec)) coreNoneCard

/-- THE TIED CARD OF 'wattlelaw26.TriNone'. -/
def triNoneCard : Claim7 := { stood := { row := triNoneRow, standIns := [], harness := (true, "8677ea55c3f4d93703d498cee9fbbc2cdc8bf6e27d02e52a3a7bf5fb02812231"), looks := false }, kinds := [], alts := [], laidByText := true, laidKinds := [.data], laidTests := true, laidLooks := .later }
def TriNoneCardSaid : Prop := Claim7.holds Tryz.pinned (.plain (OpenSpec.ofChange triNoneSpec)) triNoneCard

/-- THE SECOND FORM's CARD OF 'wattlelaw22.BfsNames'. -/
def bfsNamesUptoCard : Claim7 := { stood := { row := bfsNamesUptoRow, standIns := [], harness := (true, "8677ea55c3f4d93703d498cee9fbbc2cdc8bf6e27d02e52a3a7bf5fb02812231"), looks := false }, kinds := [], alts := [], laidByText := true, laidKinds := [.data], laidTests := true, laidLooks := .later }
def BfsNamesUptoCardSaid : Prop := Claim7.holds Tryz.pinned (.plain (OpenSpec.upto bfsNamesSpec)) bfsNamesUptoCard

/-- THE SECOND FORM's CARD OF 'wattlelaw25.CoreNone'. -/
def coreNoneUptoCard : Claim7 := { stood := { row := coreNoneUptoRow, standIns := [], harness := (true, "8677ea55c3f4d93703d498cee9fbbc2cdc8bf6e27d02e52a3a7bf5fb02812231"), looks := false }, kinds := [], alts := [], laidByText := true, laidKinds := [.data], laidTests := true, laidLooks := .later }
def CoreNoneUptoCardSaid : Prop := Claim7.holds Tryz.pinned (.plain (OpenSpec.upto coreNoneSpec)) coreNoneUptoCard

/-- THE SECOND FORM's CARD OF 'wattlelaw26.TriNone'. -/
def triNoneUptoCard : Claim7 := { stood := { row := triNoneUptoRow, standIns := [], harness := (true, "8677ea55c3f4d93703d498cee9fbbc2cdc8bf6e27d02e52a3a7bf5fb02812231"), looks := false }, kinds := [], alts := [], laidByText := true, laidKinds := [.data], laidTests := true, laidLooks := .later }
def TriNoneUptoCardSaid : Prop := Claim7.holds Tryz.pinned (.plain (OpenSpec.upto triNoneSpec)) triNoneUptoCard
end Rows
end Go.Proofs.YtflkcbkcmbogjaaGreatDoor
