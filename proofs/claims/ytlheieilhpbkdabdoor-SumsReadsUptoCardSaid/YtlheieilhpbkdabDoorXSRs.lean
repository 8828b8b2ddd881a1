/- Towards the laws of this seat: contracts of the program's functions in a logic over a small machine (text XSRs). No condition. -/
import Derived.Test.YtlheieilhpbkdabDoorXSJn
namespace Go.Proofs.YtlheieilhpbkdabDoor
open Go.Wvm Crc
set_option linter.unusedVariables false
set_option linter.unusedSimpArgs false

theorem b1_of (n : Nat) : b1 n = if n % 2 = 1 then n / 2 ^^^ 2197175160 else n / 2 := by
  unfold b1
  rcases Nat.mod_two_eq_zero_or_one n with h | h <;> rw [h]
  · rw [if_neg (by decide), Nat.mul_zero, Nat.xor_zero]
  · rw [if_pos rfl, Nat.mul_one]

set_option maxHeartbeats 2000000 in
theorem refstep_ok {ro : Nat} {M : AM} {n b : Nat} (hn : n < 4294967296) (hb : b < 256) :
    FnC Tryd.prog tables ro 22 [u32v n, .int .u8 (b : Int)] M (fun x M' => x = u32v (st (n ^^^ b)) ∧ M' = M) := by
  refine FnC.body (nt := 24) ok hm fn22 rfl rfl ?_
  have hx : n ^^^ b < 4294967296 := xor_lt hn (by omega)
  (repeat (first
    | refine Ex.seq ok hm ?_
    | refine Ex.block ok hm ?_
    | refine Ex.region ok hm ?_
    | refine Sq.pu ok hm Want.none (by first
    | exact Pu.move rfl
    | exact Pu.assign rfl
    | exact Pu.xorN rfl rfl (by simp only [InR]; omega) (by simp only [InR]; omega)
    | exact Pu.convN hT rfl rfl rfl (by simp only [InR]; omega)) rfl ?_
    | refine Sq.finH (n := 6) ok hm (by repeat (first
    | exact Keep.nil
    | apply Keep.drop rfl
    | apply Keep.keep rfl)) ?_))
  refine Ex.loop ?_
  refine Lp.inv ok hm (α := Nat)
    (fun k E M' => E = [(0, u32v (pw b1 k (n ^^^ b))), (5, .int .i64 (k : Int))] ∧ k ≤ 8 ∧ M' = M)
    (fun k => 8 - k) ?_ 0 [(0, u32v (pw b1 0 (n ^^^ b))), (5, .int .i64 ((0 : Nat) : Int))] ⟨rfl, rfl, trivial⟩ ⟨rfl, Nat.zero_le _, rfl⟩
  intro k E M2 ⟨hE, hk, hM⟩
  subst hE
  subst hM
  have hv := (pw_lin b1_lin k).lt _ hx
  have hsuc : b1 (pw b1 k (n ^^^ b)) = pw b1 (k + 1) (n ^^^ b) := (pw_succ' b1 k _).symm
  by_cases hk8 : k < 8
  · rw [b1_of] at hsuc
    generalize pw b1 k (n ^^^ b) = v at hv hsuc ⊢
    (repeat (first
    | refine Ex.seq ok hm ?_
    | refine Ex.block ok hm ?_
    | refine Ex.skip ok hm ?_
    | refine Ex.region ok hm ?_
    | refine Sq.pu ok hm Want.none (by first
    | exact Pu.move rfl
    | exact Pu.assign rfl
    | exact Pu.quoN rfl rfl (by decide) (by simp only [InR]; omega)
    | exact Pu.remN rfl rfl (by decide)
    | exact Pu.lssI rfl rfl
    | exact Pu.eqlI rfl rfl) rfl ?_
    | refine Sq.finH (n := 7) ok hm (by repeat (first
    | exact Keep.nil
    | apply Keep.drop rfl
    | apply Keep.keep rfl)) ?_
    | refine Ex.condT ok hm rfl (by exact decide_eq_true (by omega)) ?_))
    by_cases h1 : v % 2 = 1
    · rw [if_pos h1] at hsuc
      (repeat (first
    | refine Ex.region ok hm ?_
    | refine Sq.pu ok hm Want.none (by first
    | exact Pu.move rfl
    | exact Pu.assign rfl
    | exact Pu.xorN rfl rfl (by simp only [InR]; omega) (by simp only [InR]; omega)
    | exact Pu.addN rfl rfl (by simp only [InR]; omega)) rfl ?_
    | refine Sq.finH (n := 7) ok hm (by repeat (first
    | exact Keep.nil
    | apply Keep.drop rfl
    | apply Keep.keep rfl)) ?_
    | refine Ex.condT ok hm rfl (by first
    | rfl
    | (simp; omega)) ?_))
      rw [hsuc]
      exact ⟨k + 1, [(0, u32v (pw b1 (k + 1) (n ^^^ b))), (5, .int .i64 ((k + 1 : Nat) : Int))], (by show 8 - (k + 1) < 8 - k; omega), ⟨rfl, rfl, trivial⟩, rfl, hk8, rfl⟩
    · rw [if_neg h1] at hsuc
      (repeat (first
    | refine Ex.skip ok hm ?_
    | refine Ex.region ok hm ?_
    | refine Sq.pu ok hm Want.none (by first
    | exact Pu.move rfl
    | exact Pu.assign rfl
    | exact Pu.addN rfl rfl (by simp only [InR]; omega)) rfl ?_
    | refine Sq.finH (n := 7) ok hm (by repeat (first
    | exact Keep.nil
    | apply Keep.drop rfl
    | apply Keep.keep rfl)) ?_
    | refine Ex.condF ok hm rfl (by first
    | rfl
    | (simp; omega)) ?_))
      rw [hsuc]
      exact ⟨k + 1, [(0, u32v (pw b1 (k + 1) (n ^^^ b))), (5, .int .i64 ((k + 1 : Nat) : Int))], (by show 8 - (k + 1) < 8 - k; omega), ⟨rfl, rfl, trivial⟩, rfl, hk8, rfl⟩
  · obtain rfl : k = 8 := by omega
    (repeat (first
    | refine Ex.seq ok hm ?_
    | refine Ex.region ok hm ?_
    | refine Sq.pu ok hm Want.none (by first
    | exact Pu.move rfl
    | exact Pu.assign rfl
    | exact Pu.lssI rfl rfl) rfl ?_
    | refine Sq.finH (n := 6) ok hm (by repeat (first
    | exact Keep.nil
    | apply Keep.drop rfl
    | apply Keep.keep rfl)) ?_
    | refine Ex.condF ok hm rfl (by rfl) ?_
    | refine Ex.ret ok hm ?_
    | refine Ex.exit ok hm ?_))
    exact ⟨_, .tmp rfl .nil, rfl, rfl⟩

end Go.Proofs.YtlheieilhpbkdabDoor
