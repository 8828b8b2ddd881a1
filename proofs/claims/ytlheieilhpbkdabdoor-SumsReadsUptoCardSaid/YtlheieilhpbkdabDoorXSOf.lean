/- Towards the laws of this seat: contracts of the program's functions in a logic over a small machine (text XSOf). No condition. -/
import Derived.Test.YtlheieilhpbkdabDoorXSJoin
namespace Go.Proofs.YtlheieilhpbkdabDoor
open Go.Wvm Crc
set_option linter.unusedVariables false
set_option linter.unusedSimpArgs false

set_option maxHeartbeats 2000000 in
theorem of_ok {ro : Nat} {M : AM} {f : Nat → Nat} {v : Nat} (hf : Lin f) (hv : v < 4294967296) :
    FnC Tryd.prog tables ro 24 [mat f, u32v v] M (fun x M' => x = u32v (f v) ∧ Fr M M' []) := by
  refine FnC.body (nt := 22) ok hm fn24 rfl rfl ?_
  refine Ex.facts fun hlt hron => ?_
  (repeat (first
    | refine Ex.seq ok hm ?_
    | refine Ex.region ok hm ?_))
  refine Sq.op ok hm Want.none (Op1.box rfl (oneCells_u32 _)) rfl ?_
  (repeat (first
    | refine Ex.seq ok hm ?_
    | refine Ex.block ok hm ?_
    | refine Ex.region ok hm ?_
    | refine Sq.pu ok hm Want.none (by first
    | exact Pu.move rfl
    | exact Pu.assign rfl) rfl ?_
    | refine Sq.finH (n := 8) ok hm (by repeat (first
    | exact Keep.nil
    | apply Keep.keep rfl)) ?_))
  refine Ex.loop ?_
  refine Lp.inv ok hm (α := Nat)
    (fun i E M' => E = [(1, u32v v), (2, .pointer (some ⟨M.next, 0, none⟩)), (5, u32v (f (v % 2 ^ i))), (7, .int .i64 (i : Int))] ∧ i ≤ 32 ∧ M' = M.add (arrO (rows f)))
    (fun i => 32 - i) ?_ 0 [(1, u32v v), (2, .pointer (some ⟨M.next, 0, none⟩)), (5, u32v (f (v % 2 ^ 0))), (7, .int .i64 ((0 : Nat) : Int))] ⟨rfl, rfl, by rw [show v % 2 ^ 0 = 0 by omega, hf.zero]; rfl, rfl, trivial⟩ ⟨rfl, Nat.zero_le _, rfl⟩
  intro i E M1 ⟨hE, hi, hM⟩
  subst hE
  subst hM
  have hfl : f (v % 2 ^ i) < 4294967296 := hf.lt _ (Nat.lt_of_le_of_lt (Nat.mod_le _ _) hv)
  by_cases hil : i < 32
  · have hr : ((rows f).map u32v)[0 + ((i : Nat) : Int).toNat * 1]? = some (u32v (f (2 ^ i))) := by
      rw [Int.toNat_natCast, Nat.zero_add, Nat.mul_one, List.getElem?_map, rows_get _ _ hil]; rfl
    have hp2 : f (2 ^ i) < 4294967296 := hf.lt _ (Nat.pow_lt_pow_right (by decide) (show i < 32 from hil))
    have hstep := of_step hf v i
    have hvi : v / 2 ^ i < 4294967296 := Nat.lt_of_le_of_lt (Nat.div_le_self _ _) hv
    have hbit : v / 2 ^ i &&& 1 = 0 ∨ v / 2 ^ i &&& 1 = 1 := by rw [Nat.and_one_is_mod]; omega
    have hmul : f (2 ^ i) * (v / 2 ^ i &&& 1) < 4294967296 := by
      rcases hbit with e | e <;> rw [e]
      · omega
      · omega
    rw [← Nat.and_one_is_mod] at hstep
    (repeat (first
    | refine Ex.seq ok hm ?_
    | refine Ex.block ok hm ?_
    | refine Ex.skip ok hm ?_
    | refine Ex.region ok hm ?_
    | refine Sq.pu ok hm Want.none (by first
    | exact Pu.move rfl
    | exact Pu.assign rfl
    | exact Pu.lssI rfl rfl) rfl ?_
    | refine Sq.finH (n := 8) ok hm (by repeat (first
    | exact Keep.nil
    | apply Keep.drop rfl
    | apply Keep.keep rfl)) ?_
    | refine Ex.condT ok hm rfl (by first
    | rfl
    | exact decide_eq_true (by omega)) ?_))
    refine Ex.draw ok hm 9 (by kernel_rfl) ?_
    (repeat (refine Hq.pu Want.none (by first
    | exact Pu.move rfl
    | exact Pu.indexP hT rfl rfl rfl rfl (by omega) (by omega)) rfl rfl rfl ?_))
    refine Hq.pu Want.none (Pu.load hT rfl rfl rfl AM.add_same hr) rfl rfl rfl ?_
    (repeat (refine Hq.pu Want.none (by first
    | exact Pu.move rfl
    | exact Pu.shrN rfl rfl (by simp only [InR]; omega)) rfl rfl rfl ?_))
    generalize v / 2 ^ i = q at hvi hbit hmul hstep ⊢
    refine Hq.pu Want.none (Pu.andN (a := q) (b := 1) rfl rfl (by simp only [InR]; omega) (by simp only [InR]; omega)) rfl rfl rfl ?_
    refine Hq.pu Want.none (Pu.mulN (a := f (2 ^ i)) (b := q &&& 1) rfl rfl (by simp only [InR]; omega)) rfl rfl rfl ?_
    refine Hq.nil ?_
    refine Tq.pu Want.none (Pu.xorN (a := f (v % 2 ^ i)) (b := f (2 ^ i) * (q &&& 1)) rfl rfl (by simp only [InR]; omega) (by simp only [InR]; omega)) rfl ?_
    rw [← hstep]
    (repeat (first
    | refine Ex.region ok hm ?_
    | refine Sq.pu ok hm Want.none (by first
    | exact Pu.move rfl
    | exact Pu.addN rfl rfl (by simp only [InR]; omega)) rfl ?_
    | refine Sq.finH (n := 8) ok hm (by repeat (first
    | exact Keep.nil
    | apply Keep.drop rfl
    | apply Keep.keep rfl)) ?_
    | refine Tq.pu Want.none (by exact Pu.assign rfl) rfl ?_
    | refine Tq.finH (n := 8)  (by repeat (first
    | exact Keep.nil
    | apply Keep.drop rfl
    | apply Keep.keep rfl)) ?_))
    exact ⟨i + 1, [(1, u32v v), (2, .pointer (some ⟨M.next, 0, none⟩)), (5, u32v (f (v % 2 ^ (i + 1)))), (7, .int .i64 ((i + 1 : Nat) : Int))], (by show 32 - (i + 1) < 32 - i; omega), ⟨rfl, rfl, rfl, rfl, trivial⟩, rfl, hil, rfl⟩
  · obtain rfl : i = 32 := by omega
    rw [show v % 2 ^ 32 = v from Nat.mod_eq_of_lt hv] at hfl ⊢
    (repeat (first
    | refine Ex.seq ok hm ?_
    | refine Ex.region ok hm ?_
    | refine Sq.pu ok hm Want.none (by first
    | exact Pu.move rfl
    | exact Pu.assign rfl
    | exact Pu.lssI rfl rfl) rfl ?_
    | refine Sq.finH (n := 8) ok hm (by repeat (first
    | exact Keep.nil
    | apply Keep.drop rfl
    | apply Keep.keep rfl)) ?_
    | refine Ex.condF ok hm rfl (by rfl) ?_
    | refine Ex.ret ok hm ?_
    | refine Ex.exit ok hm ?_))
    exact ⟨_, .tmp rfl .nil, rfl, Fr.add _ _ _⟩

end Go.Proofs.YtlheieilhpbkdabDoor
