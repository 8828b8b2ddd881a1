/- The functions Zig and Zag of the program, and of the reference, are the plain ones: twice the number, or one less than twice its opposite; and back. No condition. -/
import Derived.Test.YtepalndienfkfabRows
import Derived.WalkKit
import Derived.ProofKit
namespace Go.Proofs.Ytepalndienfkfab.zigs
open Go.ChangeShapes Go.WideShapes Go.ChangeAt Go.RowKit

def zg (x : Int) : Int := if 0 ≤ x then 2 * x else - 2 * x - 1
def zu (u : Int) : Int := if u % 2 = 0 then u / 2 else - (u / 2) - 1

theorem i64_wf {x : Int} (h : (Lit.int .i64 x).wf = true) : -9223372036854775808 ≤ x ∧ x ≤ 9223372036854775807 := by
  simpa [Lit.wf, IntKind.min, IntKind.max, IntKind.signed, IntKind.bits] using h
theorem u64_wf {x : Int} (h : (Lit.int .u64 x).wf = true) : 0 ≤ x ∧ x ≤ 18446744073709551615 := by
  simpa [Lit.wf, IntKind.min, IntKind.max, IntKind.signed, IntKind.bits] using h
theorem wf_i64 {x : Int} (h : -9223372036854775808 ≤ x ∧ x ≤ 9223372036854775807) : (Lit.int .i64 x).wf = true := by
  simpa [Lit.wf, IntKind.min, IntKind.max, IntKind.signed, IntKind.bits] using h
theorem wf_u64 {x : Int} (h : 0 ≤ x ∧ x ≤ 18446744073709551615) : (Lit.int .u64 x).wf = true := by
  simpa [Lit.wf, IntKind.min, IntKind.max, IntKind.signed, IntKind.bits] using h

theorem zg_range {x : Int} (h : -9223372036854775808 ≤ x ∧ x ≤ 9223372036854775807) : 0 ≤ zg x ∧ zg x ≤ 18446744073709551615 := by
  unfold zg; split <;> omega
theorem zu_range {x : Int} (h : 0 ≤ x ∧ x ≤ 18446744073709551615) : -9223372036854775808 ≤ zu x ∧ zu x ≤ 9223372036854775807 := by
  unfold zu; split <;> omega
theorem zu_zg (x : Int) : zu (zg x) = x := by
  unfold zu zg; split <;> split <;> omega
theorem zg_zu {u : Int} (h : 0 ≤ u) : zg (zu u) = u := by
  unfold zu zg; split <;> split <;> omega
theorem zg_ne {x y : Int} (h : x ≠ y) : zg x ≠ zg y := fun e => h (by rw [← zu_zg x, ← zu_zg y, e])

theorem of64 (x : Int) : ((BitVec.ofInt 64 x).toNat : Int) = x % 18446744073709551616 := by
  rw [BitVec.toNat_ofInt]
  omega
theorem not64 (x : Int) : ((BitVec.ofInt 64 x ^^^ BitVec.allOnes 64).toNat : Int) = 18446744073709551615 - x % 18446744073709551616 := by
  rw [BitVec.xor_allOnes, BitVec.toNat_not]
  have := of64 x
  omega

theorem xor_u0 (x : Int) (h : 0 ≤ x ∧ x ≤ 18446744073709551615) : bits .xor .u64 x 0 = x := by
  show IntKind.u64.wrap ((BitVec.ofInt 64 x ^^^ BitVec.ofInt 64 0).toNat : Int) = _
  rw [show BitVec.ofInt 64 0 = 0#64 from by decide, BitVec.xor_zero, of64, IntKind.wrap_u64]
  omega
theorem xor_u1 (x : Int) (h : 0 ≤ x ∧ x ≤ 18446744073709551615) : bits .xor .u64 x 18446744073709551615 = 18446744073709551615 - x := by
  show IntKind.u64.wrap ((BitVec.ofInt 64 x ^^^ BitVec.ofInt 64 18446744073709551615).toNat : Int) = _
  rw [show BitVec.ofInt 64 18446744073709551615 = BitVec.allOnes 64 from by decide, not64, IntKind.wrap_u64]
  omega
theorem xor_i0 (x : Int) (h : -9223372036854775808 ≤ x ∧ x ≤ 9223372036854775807) : bits .xor .i64 x 0 = x := by
  show IntKind.i64.wrap ((BitVec.ofInt 64 x ^^^ BitVec.ofInt 64 0).toNat : Int) = _
  rw [show BitVec.ofInt 64 0 = 0#64 from by decide, BitVec.xor_zero, of64, IntKind.wrap_i64]
  omega
theorem xor_i1 (x : Int) (h : -9223372036854775808 ≤ x ∧ x ≤ 9223372036854775807) : bits .xor .i64 x (-1) = - x - 1 := by
  show IntKind.i64.wrap ((BitVec.ofInt 64 x ^^^ BitVec.ofInt 64 (-1)).toNat : Int) = _
  rw [show BitVec.ofInt 64 (-1) = BitVec.allOnes 64 from by decide, not64, IntKind.wrap_i64]
  omega
theorem and_u1 (u : Int) (h : 0 ≤ u ∧ u ≤ 18446744073709551615) : bits .and .u64 u 1 = u % 2 := by
  obtain ⟨n, rfl⟩ := Int.eq_ofNat_of_zero_le h.1
  have := bits_and_u64_nat n 1 (by omega) (by omega)
  rw [show (1 : Int) = ((1 : Nat) : Int) from rfl, this, Nat.and_one_is_mod]
  omega

theorem zig4 (x : Int) (h : (Lit.int .i64 x).wf = true) (w : World) : Calls Try.prog 4 #[.int .i64 x] w fun e w' => e = .returned (.int .u64 (zg x)) ∧ w' = w := by
  have k := i64_wf h
  have e : bits BinOp.xor IntKind.u64 (IntKind.u64.wrap (wrap64 (x * 2))) (IntKind.u64.wrap (x / 9223372036854775808)) = zg x := by
    unfold zg
    by_cases c : 0 ≤ x
    · rw [if_pos c, show x / 9223372036854775808 = 0 by omega, show IntKind.u64.wrap 0 = 0 by rw [IntKind.wrap_u64]; omega, show IntKind.u64.wrap (wrap64 (x * 2)) = 2 * x by rw [IntKind.wrap_u64]; unfold wrap64; omega]
      exact xor_u0 _ (by omega)
    · rw [if_neg c, show x / 9223372036854775808 = -1 by omega, show IntKind.u64.wrap (-1) = 18446744073709551615 by rw [IntKind.wrap_u64]; omega, show IntKind.u64.wrap (wrap64 (x * 2)) = 2 * x + 18446744073709551616 by rw [IntKind.wrap_u64]; unfold wrap64; omega]
      rw [xor_u1 _ (by omega)]
      omega
  go_enter Try.func4, Try.ntmps4
  go_wp2
  go_ret
  exact ⟨rfl, rfl⟩

theorem zag6 (u : Int) (h : (Lit.int .u64 u).wf = true) (w : World) : Calls Try.prog 6 #[.int .u64 u] w fun e w' => e = .returned (.int .i64 (zu u)) ∧ w' = w := by
  have k := u64_wf h
  have e : bits BinOp.xor IntKind.i64 (u / 2) (wrap64 (-wrap64 (bits BinOp.and IntKind.u64 u 1))) = zu u := by
    rw [and_u1 u k, show wrap64 (-wrap64 (u % 2)) = -(u % 2) by unfold wrap64; omega]
    unfold zu
    by_cases c : u % 2 = 0
    · rw [if_pos c, c]
      exact xor_i0 _ (by omega)
    · rw [if_neg c, show u % 2 = 1 by omega]
      exact xor_i1 _ (by omega)
  go_enter Try.func6, Try.ntmps6
  go_wp2
  go_ret
  exact ⟨rfl, rfl⟩

theorem zig5 (x : Int) (h : (Lit.int .i64 x).wf = true) (w : World) : Calls Try.prog 5 #[.int .i64 x] w fun e w' => e = .returned (.int .u64 (zg x)) ∧ w' = w := by
  have k := i64_wf h
  by_cases c : 0 ≤ x
  · go_enter Try.func5, Try.ntmps5
    go_wp2
    go_ret
    refine ⟨?_, rfl⟩
    show Ending.returned (Value.int .u64 (2 * x)) = _
    rw [zg, if_pos c]
  · go_enter Try.func5, Try.ntmps5
    go_wp2
    go_ret
    refine ⟨?_, rfl⟩
    show Ending.returned (Value.int .u64 (2 * -(x + 1) + 1)) = _
    rw [zg, if_neg (by omega), show 2 * -(x + 1) + 1 = -2 * x - 1 by omega]

theorem zag7 (u : Int) (h : (Lit.int .u64 u).wf = true) (w : World) : Calls Try.prog 7 #[.int .u64 u] w fun e w' => e = .returned (.int .i64 (zu u)) ∧ w' = w := by
  have k := u64_wf h
  by_cases c : u % 2 = 0
  · go_enter Try.func7, Try.ntmps7
    go_wp2
    go_ret
    refine ⟨?_, rfl⟩
    show Ending.returned (Value.int .i64 (u / 2)) = _
    rw [zu, if_pos c]
  · have t : (u % 2 == 0) = false := by simpa using c
    go_enter Try.func7, Try.ntmps7
    go_wp2
    go_ret
    refine ⟨?_, rfl⟩
    show Ending.returned (Value.int .i64 (-(u / 2) - 1)) = _
    rw [zu, if_neg c]
end Go.Proofs.Ytepalndienfkfab.zigs
