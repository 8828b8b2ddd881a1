/-
  No cell of these rows narrows 'for every input' (looked for: loops, veiled, ifaces, maps, wideKeys, modest, calm, conditions, laid).
  DERIVED. THE GIVEN ROWS OF THIS SEAT. 4 by the template 'for every input the law returns true; each argument reads behind the call as it read before'; 0 by the template 'total and deterministic' (their statements: YtfapdmilpbbmdabTotals.lean).
  GIVEN WITH THE SEED: the statements are not yours to turn. If you find one false, say at which input.
  Laid BY PROGRAM, IN A SANDBOX (cutbox-rows.mjs): the forced cells as the released guide's own fill.sh prints them over the translation a5519a71560557f9… (all of the seat's roots in one cut). By AI agents, Wed Nov 11 2026. No macro, syntax, notation, axiom, sorry.
-/
import Derived.Test.YtfapdmilpbbmdabChecked
import GoSem.Claim
import GoSem.ClaimJoined
import GoSem.ClaimMapViews
import Derived.JoinedTies
import Derived.KernelRfl
namespace Go.Proofs.Ytfapdmilpbbmdab
/- THE CELL 'sum', in the pinned program and in every row, IS THE sha256 OF THE DUMP (.gsa) THAT YtfapdmilpbbmdabProg.lean LOADS. Nothing in Lean hashes anything: it is a label: what it is worth is what the hold of that sum in a sandbox is worth. -/
noncomputable def Try.pinned : Pinned := { name := "ytfapdmilpbbmdab", sum := "a5519a71560557f982ea42e4eaed19000940c4a055b45af22be06088a9379e19", checked := Try.checked }
namespace Rows
def none {H : Type} : Left H := { results := [], args := [] }

/-- 'wattlelaw12.EfNone': WHATEVER THE INPUT: true; the input reads as it did. -/
def efNoneSpec : ChangeSpec := { name := "efNone", fn := fun _ => fun
  | [] => { results := [.lit (.bool true)], args := [] }
  | _ => none }
def efNoneRow : OpenClaim := { program := "ytfapdmilpbbmdab", sum := "a5519a71560557f982ea42e4eaed19000940c4a055b45af22be06088a9379e19", func := "wattle/wattlelaw12.EfNone", spec := "efNone", inPlace := ["internal/abi.NoEscape"], unfollowed := true, recurses := true, apart := false }
def EfNoneSaid : Prop := efNoneRow.holds Try.pinned (OpenSpec.ofChange efNoneSpec)

/-- ITS FALSE NEIGHBOUR: 'it returns false'. Refute it at one input. -/
def efNoneWrong : ChangeSpec := { name := "efNone", fn := fun _ => fun
  | [] => { results := [.lit (.bool false)], args := [] }
  | _ => none }
def EfNoneWrongFalsely : Prop := efNoneRow.holds Try.pinned (OpenSpec.ofChange efNoneWrong)

/-- 'wattlelaw27.SketchNone': WHATEVER THE INPUT: true; the input reads as it did. -/
def sketchNoneSpec : ChangeSpec := { name := "sketchNone", fn := fun _ => fun
  | [] => { results := [.lit (.bool true)], args := [] }
  | _ => none }
def sketchNoneRow : OpenClaim := { program := "ytfapdmilpbbmdab", sum := "a5519a71560557f982ea42e4eaed19000940c4a055b45af22be06088a9379e19", func := "wattle/wattlelaw27.SketchNone", spec := "sketchNone", inPlace := ["internal/abi.NoEscape", "internal/bytealg.MakeNoZero"], unfollowed := true, recurses := true, named := ["math/bits.divideError", "math/bits.overflowError"], apart := false }
def SketchNoneSaid : Prop := sketchNoneRow.holds Try.pinned (OpenSpec.ofChange sketchNoneSpec)

/-- ITS FALSE NEIGHBOUR: 'it returns false'. Refute it at one input. -/
def sketchNoneWrong : ChangeSpec := { name := "sketchNone", fn := fun _ => fun
  | [] => { results := [.lit (.bool false)], args := [] }
  | _ => none }
def SketchNoneWrongFalsely : Prop := sketchNoneRow.holds Try.pinned (OpenSpec.ofChange sketchNoneWrong)

/-- 'wattlelaw18.EdgesNone': WHATEVER THE INPUT: true; the input reads as it did. -/
def edgesNoneSpec : ChangeSpec := { name := "edgesNone", fn := fun _ => fun
  | [] => { results := [.lit (.bool true)], args := [] }
  | _ => none }
def edgesNoneRow : OpenClaim := { program := "ytfapdmilpbbmdab", sum := "a5519a71560557f982ea42e4eaed19000940c4a055b45af22be06088a9379e19", func := "wattle/wattlelaw18.EdgesNone", spec := "edgesNone", inPlace := ["internal/bytealg.IndexByteString", "internal/bytealg.IndexString", "internal/abi.NoEscape"], unfollowed := true, recurses := true, named := ["internal/bytealg.MaxLen"], apart := false }
def EdgesNoneSaid : Prop := edgesNoneRow.holds Try.pinned (OpenSpec.ofChange edgesNoneSpec)

/-- ITS FALSE NEIGHBOUR: 'it returns false'. Refute it at one input. -/
def edgesNoneWrong : ChangeSpec := { name := "edgesNone", fn := fun _ => fun
  | [] => { results := [.lit (.bool false)], args := [] }
  | _ => none }
def EdgesNoneWrongFalsely : Prop := edgesNoneRow.holds Try.pinned (OpenSpec.ofChange edgesNoneWrong)

/-- 'wattlelaw13.ListNone': WHATEVER THE INPUT: true; the input reads as it did. -/
def listNoneSpec : ChangeSpec := { name := "listNone", fn := fun _ => fun
  | [] => { results := [.lit (.bool true)], args := [] }
  | _ => none }
def listNoneRow : OpenClaim := { program := "ytfapdmilpbbmdab", sum := "a5519a71560557f982ea42e4eaed19000940c4a055b45af22be06088a9379e19", func := "wattle/wattlelaw13.ListNone", spec := "listNone", unfollowed := true, recurses := true, apart := false }
def ListNoneSaid : Prop := listNoneRow.holds Try.pinned (OpenSpec.ofChange listNoneSpec)

/-- ITS FALSE NEIGHBOUR: 'it returns false'. Refute it at one input. -/
def listNoneWrong : ChangeSpec := { name := "listNone", fn := fun _ => fun
  | [] => { results := [.lit (.bool false)], args := [] }
  | _ => none }
def ListNoneWrongFalsely : Prop := listNoneRow.holds Try.pinned (OpenSpec.ofChange listNoneWrong)

/- THE SECOND FORM. 'bulk': how many values and letters a reading holds, each counted each time it is reached (what is shared counts as often as it is met; a slice's spare places count too). A statement '..UptoSaid' is the law's where the arguments, and the package variables that the reading takes, are together of bulk at most 1048576: NARROWER than '..Said'. Prove '..Said' where nothing that the law and all that it calls make is longer than what came in: it says more and counts as full. Else prove '..UptoSaid'. A law counts once. -/
mutual
def uptoBulk {H : Type} : DataW H → Nat
  | .lit (.string bytes) => bytes.length + 1
  | .lit _ => 1
  | .nil => 1
  | .ptr d => uptoBulk d + 1
  | .slice elems spare => uptoBulkAll elems + uptoBulkAll spare + 1
  | .agg parts => uptoBulkAll parts + 1
  | .iface _ d => uptoBulk d + 1
  | .map entries => uptoBulkEntries entries + 1
  | .held _ => 1
def uptoBulkAll {H : Type} : List (DataW H) → Nat
  | [] => 0
  | d :: r => uptoBulk d + uptoBulkAll r
def uptoBulkEntries {H : Type} : List (Lit × DataW H) → Nat
  | [] => 0
  | x :: r => uptoBulkEntry x + uptoBulkEntries r
def uptoBulkEntry {H : Type} : Lit × DataW H → Nat
  | (.string bytes, d) => bytes.length + uptoBulk d + 1
  | (_, d) => uptoBulk d + 1
 end
def uptoSmall : (H : Type) → List (DataW H) → Bool := fun _ ds => decide (uptoBulkAll ds ≤ 1048576)
def OpenSpec.upto (s : _root_.Go.ChangeSpec) : _root_.Go.OpenSpec := { _root_.Go.OpenSpec.ofChange s with cond := some uptoSmall }

/-- 'wattlelaw12.EfNone', WHERE WHAT IT READS IS OF BULK AT MOST 1048576: true; the input reads as it did. -/
def efNoneUptoRow : OpenClaim := { program := "ytfapdmilpbbmdab", sum := "a5519a71560557f982ea42e4eaed19000940c4a055b45af22be06088a9379e19", func := "wattle/wattlelaw12.EfNone", spec := "efNone", inPlace := ["internal/abi.NoEscape"], unfollowed := true, recurses := true, apart := false, narrowed := true }
def EfNoneUptoSaid : Prop := efNoneUptoRow.holds Try.pinned (OpenSpec.upto efNoneSpec)

/-- 'wattlelaw27.SketchNone', WHERE WHAT IT READS IS OF BULK AT MOST 1048576: true; the input reads as it did. -/
def sketchNoneUptoRow : OpenClaim := { program := "ytfapdmilpbbmdab", sum := "a5519a71560557f982ea42e4eaed19000940c4a055b45af22be06088a9379e19", func := "wattle/wattlelaw27.SketchNone", spec := "sketchNone", inPlace := ["internal/abi.NoEscape", "internal/bytealg.MakeNoZero"], unfollowed := true, recurses := true, named := ["math/bits.divideError", "math/bits.overflowError"], apart := false, narrowed := true }
def SketchNoneUptoSaid : Prop := sketchNoneUptoRow.holds Try.pinned (OpenSpec.upto sketchNoneSpec)

/-- 'wattlelaw18.EdgesNone', WHERE WHAT IT READS IS OF BULK AT MOST 1048576: true; the input reads as it did. -/
def edgesNoneUptoRow : OpenClaim := { program := "ytfapdmilpbbmdab", sum := "a5519a71560557f982ea42e4eaed19000940c4a055b45af22be06088a9379e19", func := "wattle/wattlelaw18.EdgesNone", spec := "edgesNone", inPlace := ["internal/bytealg.IndexByteString", "internal/bytealg.IndexString", "internal/abi.NoEscape"], unfollowed := true, recurses := true, named := ["internal/bytealg.MaxLen"], apart := false, narrowed := true }
def EdgesNoneUptoSaid : Prop := edgesNoneUptoRow.holds Try.pinned (OpenSpec.upto edgesNoneSpec)

/-- 'wattlelaw13.ListNone', WHERE WHAT IT READS IS OF BULK AT MOST 1048576: true; the input reads as it did. -/
def listNoneUptoRow : OpenClaim := { program := "ytfapdmilpbbmdab", sum := "a5519a71560557f982ea42e4eaed19000940c4a055b45af22be06088a9379e19", func := "wattle/wattlelaw13.ListNone", spec := "listNone", unfollowed := true, recurses := true, apart := false, narrowed := true }
def ListNoneUptoSaid : Prop := listNoneUptoRow.holds Try.pinned (OpenSpec.upto listNoneSpec)

end Rows
end Go.Proofs.Ytfapdmilpbbmdab
