/-
  No cell of these rows narrows 'for every input' (looked for: loops, veiled, ifaces, maps, wideKeys, modest, calm, conditions, laid).
  DERIVED. THE GIVEN ROWS OF THIS SEAT. 2 by the template 'for every input the law returns true; each argument reads behind the call as it read before'; 0 by the template 'total and deterministic' (their statements: YtfapdmilpbbmdabGreatTotals.lean).
  GIVEN WITH THE SEED: the statements are not yours to turn. If you find one false, say at which input.
  Laid BY PROGRAM, IN A SANDBOX (cutbox-rows.mjs): the forced cells as the released guide's own fill.sh prints them over the translation db4a1119196238b4… (all of the seat's roots in one cut). By AI agents, Wed Nov 11 2026. No macro, syntax, notation, axiom, sorry.
-/
import Derived.Test.YtfapdmilpbbmdabGreatChecked
import GoSem.Claim
import GoSem.ClaimJoined
import GoSem.ClaimMapViews
import Derived.JoinedTies
import Derived.KernelRfl
namespace Go.Proofs.YtfapdmilpbbmdabGreat
/- THE CELL 'sum', in the pinned program and in every row, IS THE sha256 OF THE DUMP (.gsa) THAT YtfapdmilpbbmdabGreatProg.lean LOADS. Nothing in Lean hashes anything: it is a label: what it is worth is what the hold of that sum in a sandbox is worth. -/
noncomputable def Tryz.pinned : Pinned := { name := "ytfapdmilpbbmdabgreat", sum := "db4a1119196238b4cf85f1f774e5e93b89e0e22d95e234d17c797a46674cd5ef", checked := Tryz.checked }
namespace Rows
def none {H : Type} : Left H := { results := [], args := [] }

/-- 'wattlelaw14.BvNone': WHATEVER THE INPUT: true; the input reads as it did. -/
def bvNoneSpec : ChangeSpec := { name := "bvNone", fn := fun _ => fun
  | [] => { results := [.lit (.bool true)], args := [] }
  | _ => none }
def bvNoneRow : OpenClaim := { program := "ytfapdmilpbbmdabgreat", sum := "db4a1119196238b4cf85f1f774e5e93b89e0e22d95e234d17c797a46674cd5ef", func := "wattle/wattlelaw14.BvNone", spec := "bvNone", unfollowed := true, recurses := true, apart := false }
def BvNoneSaid : Prop := bvNoneRow.holds Tryz.pinned (OpenSpec.ofChange bvNoneSpec)

/-- ITS FALSE NEIGHBOUR: 'it returns false'. Refute it at one input. -/
def bvNoneWrong : ChangeSpec := { name := "bvNone", fn := fun _ => fun
  | [] => { results := [.lit (.bool false)], args := [] }
  | _ => none }
def BvNoneWrongFalsely : Prop := bvNoneRow.holds Tryz.pinned (OpenSpec.ofChange bvNoneWrong)

/-- 'wattlelaw15.PackNone': WHATEVER THE INPUT: true; the input reads as it did. -/
def packNoneSpec : ChangeSpec := { name := "packNone", fn := fun _ => fun
  | [] => { results := [.lit (.bool true)], args := [] }
  | _ => none }
def packNoneRow : OpenClaim := { program := "ytfapdmilpbbmdabgreat", sum := "db4a1119196238b4cf85f1f774e5e93b89e0e22d95e234d17c797a46674cd5ef", func := "wattle/wattlelaw15.PackNone", spec := "packNone", inPlace := ["internal/abi.NoEscape"], unfollowed := true, recurses := true, apart := false }
def PackNoneSaid : Prop := packNoneRow.holds Tryz.pinned (OpenSpec.ofChange packNoneSpec)

/-- ITS FALSE NEIGHBOUR: 'it returns false'. Refute it at one input. -/
def packNoneWrong : ChangeSpec := { name := "packNone", fn := fun _ => fun
  | [] => { results := [.lit (.bool false)], args := [] }
  | _ => none }
def PackNoneWrongFalsely : Prop := packNoneRow.holds Tryz.pinned (OpenSpec.ofChange packNoneWrong)

/- THE SECOND FORM. 'bulk': how many values and letters a reading holds, each counted each time it is reached (what is shared counts as often as it is met; a slice's spare places count too). A statement '..UptoSaid' is the law's where the arguments, and the package variables that the reading takes, are together of bulk at most 1048576: NARROWER than '..Said'. Prove '..Said' where nothing that the law and all that it calls make is longer than what came in: it says more and counts as full. Else prove '..UptoSaid'. A law counts once. -/
mutual
def uptoBulk {H : Type} : DataW H → Nat
  | .lit (.string bytes) => bytes.length + 1
  | .lit _ => 1
  | .nil => 1
  | .ptr d => uptoBulk d + 1
  | .slice elems spare => uptoBulkAll elems + uptoBulkAll spare + 1
  | .agg parts => uptoBulkAll parts + 1
  | .iface _ d => uptoBulk d + 1
  | .map entries => uptoBulkEntries entries + 1
  | .held _ => 1
def uptoBulkAll {H : Type} : List (DataW H) → Nat
  | [] => 0
  | d :: r => uptoBulk d + uptoBulkAll r
def uptoBulkEntries {H : Type} : List (Lit × DataW H) → Nat
  | [] => 0
  | x :: r => uptoBulkEntry x + uptoBulkEntries r
def uptoBulkEntry {H : Type} : Lit × DataW H → Nat
  | (.string bytes, d) => bytes.length + uptoBulk d + 1
  | (_, d) => uptoBulk d + 1
 end
def uptoSmall : (H : Type) → List (DataW H) → Bool := fun _ ds => decide (uptoBulkAll ds ≤ 1048576)
def OpenSpec.upto (s : _root_.Go.ChangeSpec) : _root_.Go.OpenSpec := { _root_.Go.OpenSpec.ofChange s with cond := some uptoSmall }

/-- 'wattlelaw14.BvNone', WHERE WHAT IT READS IS OF BULK AT MOST 1048576: true; the input reads as it did. -/
def bvNoneUptoRow : OpenClaim := { program := "ytfapdmilpbbmdabgreat", sum := "db4a1119196238b4cf85f1f774e5e93b89e0e22d95e234d17c797a46674cd5ef", func := "wattle/wattlelaw14.BvNone", spec := "bvNone", unfollowed := true, recurses := true, apart := false, narrowed := true }
def BvNoneUptoSaid : Prop := bvNoneUptoRow.holds Tryz.pinned (OpenSpec.upto bvNoneSpec)

/-- 'wattlelaw15.PackNone', WHERE WHAT IT READS IS OF BULK AT MOST 1048576: true; the input reads as it did. -/
def packNoneUptoRow : OpenClaim := { program := "ytfapdmilpbbmdabgreat", sum := "db4a1119196238b4cf85f1f774e5e93b89e0e22d95e234d17c797a46674cd5ef", func := "wattle/wattlelaw15.PackNone", spec := "packNone", inPlace := ["internal/abi.NoEscape"], unfollowed := true, recurses := true, apart := false, narrowed := true }
def PackNoneUptoSaid : Prop := packNoneUptoRow.holds Tryz.pinned (OpenSpec.upto packNoneSpec)

end Rows
end Go.Proofs.YtfapdmilpbbmdabGreat
