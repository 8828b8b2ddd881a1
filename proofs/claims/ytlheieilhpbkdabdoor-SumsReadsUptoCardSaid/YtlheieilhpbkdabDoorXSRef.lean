/- Towards the laws of this seat: contracts of the program's functions in a logic over a small machine (text XSRef). No condition. -/
import Derived.Test.YtlheieilhpbkdabDoorXSRs
namespace Go.Proofs.YtlheieilhpbkdabDoor
open Go.Wvm Crc
set_option linter.unusedVariables false
set_option linter.unusedSimpArgs false

set_option maxHeartbeats 2000000 in
theorem refOn_ok {ro : Nat} {M : AM} {n : Nat} {s : List UInt8} (hn : n < 4294967296) (hs : s.length ≤ 4611686018427387904) :
    FnC Tryd.prog tables ro 13 [u32v n, .string ⟨⟨s⟩⟩] M (fun v M' => v = u32v (on n s) ∧ M' = M) := by
  refine FnC.body (nt := 22) ok hm fn13 rfl rfl ?_
  have hc := cpl_lt hn
  (repeat (first
    | refine Ex.seq ok hm ?_
    | refine Ex.block ok hm ?_
    | refine Ex.region ok hm ?_
    | refine Sq.pu ok hm Want.none (by first
    | exact Pu.move rfl
    | exact Pu.assign rfl
    | exact Pu.cpl32 rfl (by omega) (by omega)) rfl ?_
    | refine Sq.finH (n := 6) ok hm (by repeat (first
    | exact Keep.nil
    | apply Keep.drop rfl
    | apply Keep.keep rfl)) ?_))
  rw [cpl_eq hn]
  (repeat (fail))
  refine Ex.loop ?_
  refine Lp.inv ok hm (α := Nat)
    (fun i E M' => E = [(1, .string ⟨⟨s⟩⟩), (5, u32v (goN (cpl n) (s.take i))), (6, .int .i64 (i : Int))] ∧ i ≤ s.length ∧ M' = M)
    (fun i => s.length - i) ?_ 0 [(1, .string ⟨⟨s⟩⟩), (5, u32v (goN (cpl n) (s.take 0))), (6, .int .i64 ((0 : Nat) : Int))] ⟨rfl, rfl, rfl, trivial⟩ ⟨rfl, Nat.zero_le _, rfl⟩
  intro i E M1 ⟨hE, hi, hM⟩
  subst hE
  subst hM
  have hgo := goN_lt (s.take i) _ hc
  by_cases hil : i < s.length
  · have hbyte := (s.getD i 0).toNat_lt
    (repeat (first
    | refine Ex.seq ok hm ?_
    | refine Ex.block ok hm ?_
    | refine Ex.skip ok hm ?_
    | refine Ex.region ok hm ?_
    | refine Sq.pu ok hm Want.none (by first
    | exact Pu.move rfl
    | exact Pu.lssI rfl rfl
    | exact Pu.lenS hT rfl rfl
    | exact Pu.indexS hT rfl rfl rfl (by omega) (by omega)) rfl ?_
    | refine Sq.finH (n := 7) ok hm (by repeat (first
    | exact Keep.nil
    | apply Keep.drop rfl
    | apply Keep.keep rfl)) ?_
    | refine Ex.condT ok hm rfl (by first
    | rfl
    | exact decide_eq_true (by omega)) ?_))
    refine Sq.call ok Want.none (Op1.call rfl rfl fn22) rfl (FnC.mono (refstep_ok (n := goN (cpl n) (s.take i)) (b := (s.getD i 0).toNat) hgo hbyte) ?_)
    rintro x M2 ⟨rfl, rfl⟩
    rw [← goN_take _ _ _ hil]
    (repeat (first
    | refine Ex.region ok hm ?_
    | refine Sq.pu ok hm Want.none (by first
    | exact Pu.move rfl
    | exact Pu.assign rfl
    | exact Pu.addN rfl rfl (by simp only [InR]; omega)) rfl ?_
    | refine Sq.finH (n := 7) ok hm (by repeat (first
    | exact Keep.nil
    | apply Keep.drop rfl
    | apply Keep.keep rfl)) ?_))
    exact ⟨i + 1, [(1, .string ⟨⟨s⟩⟩), (5, u32v (goN (cpl n) (s.take (i + 1)))), (6, .int .i64 ((i + 1 : Nat) : Int))], (by show s.length - (i + 1) < s.length - i; omega), ⟨rfl, rfl, rfl, trivial⟩, rfl, hil, rfl⟩
  · obtain rfl : i = s.length := by omega
    rw [List.take_of_length_le (Nat.le_refl _)] at hgo ⊢
    (repeat (first
    | refine Ex.seq ok hm ?_
    | refine Ex.region ok hm ?_
    | refine Sq.pu ok hm Want.none (by first
    | exact Pu.move rfl
    | exact Pu.assign rfl
    | exact Pu.cpl32 rfl (by omega) (by omega)
    | exact Pu.lssI rfl rfl
    | exact Pu.lenS hT rfl rfl) rfl ?_
    | refine Sq.finH (n := 7) ok hm (by repeat (first
    | exact Keep.nil
    | apply Keep.drop rfl
    | apply Keep.keep rfl)) ?_
    | refine Ex.condF ok hm rfl (by first
    | rfl
    | exact decide_eq_false (by omega)) ?_
    | refine Ex.ret ok hm ?_
    | refine Ex.exit ok hm ?_))
    rw [cpl_eq hgo]
    (repeat (fail))
    exact ⟨_, .tmp rfl .nil, rfl, rfl⟩

theorem refCrc_ok {ro : Nat} {M : AM} {s : List UInt8} (hs : s.length ≤ 4611686018427387904) :
    FnC Tryd.prog tables ro 11 [.string ⟨⟨s⟩⟩] M (fun v M' => v = u32v (crc s) ∧ M' = M) := by
  refine FnC.body (nt := 5) ok hm fn11 rfl rfl ?_
  (repeat (first
    | refine Ex.seq ok hm ?_
    | refine Ex.region ok hm ?_
    | refine Sq.pu ok hm Want.none (by first
    | exact Pu.move rfl
    | exact Pu.assign rfl) rfl ?_
    | refine Sq.finH (n := 3) ok hm (by repeat (first
    | exact Keep.nil
    | apply Keep.keep rfl)) ?_))
  refine Sq.call ok Want.none (Op1.call rfl rfl fn13) rfl (FnC.mono (refOn_ok (n := 0) (by decide) hs) ?_)
  rintro x M2 ⟨rfl, rfl⟩
  (repeat (first
    | refine Sq.pu ok hm Want.none (by exact Pu.assign rfl) rfl ?_
    | refine Sq.finH (n := 3) ok hm (by repeat (first
    | exact Keep.nil
    | apply Keep.drop rfl
    | apply Keep.keep rfl)) ?_
    | refine Ex.ret ok hm ?_))
  exact ⟨_, .tmp rfl .nil, rfl, rfl⟩

set_option maxHeartbeats 2000000 in
theorem refJoin_ok {ro : Nat} {M : AM} {a b : Nat} {n : Int} (ha : a < 4294967296) (hb : b < 4294967296) (hn : InR .i64 n) :
    FnC Tryd.prog tables ro 16 [u32v a, u32v b, .int .i64 n] M (fun x M' => x = .tuple ⟨[u32v (joinE a b n).1, .int .i64 (joinE a b n).2]⟩ ∧ M' = M) := by
  refine FnC.body (nt := 25) ok hm fn16 rfl rfl ?_
  simp only [InR] at hn
  by_cases h1 : n < 0
  · have e : joinE a b n = (0, 1) := if_pos (.inl h1)
    rw [e]
    (repeat (first
    | refine Ex.seq ok hm ?_
    | refine Ex.region ok hm ?_
    | refine Sq.pu ok hm Want.none (by first
    | exact Pu.move rfl
    | exact Pu.assign rfl
    | exact Pu.lssI rfl rfl
    | exact Pu.pickT rfl (by first
    | rfl
    | exact decide_eq_true (by omega)) rfl) rfl ?_
    | refine Sq.skip ok hm (by exact Want.no rfl rfl rfl (by first
    | rfl
    | exact decide_eq_true (by omega))) rfl ?_
    | refine Sq.finH (n := 9) ok hm (by repeat (first
    | exact Keep.nil
    | apply Keep.drop rfl
    | apply Keep.keep rfl)) ?_
    | refine Ex.condT ok hm rfl (by rfl) ?_
    | refine Ex.ret ok hm ?_))
    exact ⟨_, .tmp rfl (.tmp rfl .nil), rfl, rfl⟩
  by_cases h2 : 16777216 < n
  · have e : joinE a b n = (0, 1) := if_pos (.inr h2)
    rw [e]
    (repeat (first
    | refine Ex.seq ok hm ?_
    | refine Ex.region ok hm ?_
    | refine Sq.pu ok hm Want.none (by first
    | exact Pu.move rfl
    | exact Pu.assign rfl
    | exact Pu.lssI rfl rfl
    | exact Pu.gtrI rfl rfl
    | exact Pu.pickF rfl (by first
    | rfl
    | exact decide_eq_false (by omega)) rfl) rfl ?_
    | refine Sq.pu ok hm (by exact Want.yes rfl rfl rfl (by first
    | rfl
    | exact decide_eq_false (by omega))) (by first
    | exact Pu.move rfl
    | exact Pu.gtrI rfl rfl) rfl ?_
    | refine Sq.finH (n := 9) ok hm (by repeat (first
    | exact Keep.nil
    | apply Keep.drop rfl
    | apply Keep.keep rfl)) ?_
    | refine Ex.condT ok hm rfl (by first
    | rfl
    | exact decide_eq_true (by omega)) ?_
    | refine Ex.ret ok hm ?_))
    exact ⟨_, .tmp rfl (.tmp rfl .nil), rfl, rfl⟩
  have e : joinE a b n = (pw st n.toNat a ^^^ b, 0) := if_neg (by omega)
  rw [e]
  obtain ⟨m, rfl⟩ : ∃ m : Nat, n = m := ⟨n.toNat, by omega⟩
  rw [Int.toNat_natCast]
  (repeat (first
    | refine Ex.seq ok hm ?_
    | refine Ex.block ok hm ?_
    | refine Ex.skip ok hm ?_
    | refine Ex.region ok hm ?_
    | refine Sq.pu ok hm Want.none (by first
    | exact Pu.move rfl
    | exact Pu.assign rfl
    | exact Pu.lssI rfl rfl
    | exact Pu.gtrI rfl rfl
    | exact Pu.pickF rfl (by rfl) rfl) rfl ?_
    | refine Sq.pu ok hm (by exact Want.yes rfl rfl rfl (by rfl)) (by first
    | exact Pu.move rfl
    | exact Pu.gtrI rfl rfl) rfl ?_
    | refine Sq.finH (n := 9) ok hm (by repeat (first
    | exact Keep.nil
    | apply Keep.drop rfl
    | apply Keep.keep rfl)) ?_
    | refine Ex.condF ok hm rfl (by first
    | rfl
    | exact decide_eq_false (by omega)) ?_))
  refine Ex.loop ?_
  refine Lp.inv ok hm (α := Nat)
    (fun i E M' => E = [(0, u32v (pw st i a)), (1, u32v b), (2, .int .i64 (m : Int)), (8, .int .i64 (i : Int))] ∧ i ≤ m ∧ M' = M)
    (fun i => m - i) ?_ 0 [(0, u32v (pw st 0 a)), (1, u32v b), (2, .int .i64 (m : Int)), (8, .int .i64 ((0 : Nat) : Int))] ⟨rfl, rfl, rfl, rfl, trivial⟩ ⟨rfl, Nat.zero_le _, rfl⟩
  intro i E M2 ⟨hE, hi, hM⟩
  subst hE
  subst hM
  have hv := (pw_lin st_lin i).lt _ ha
  by_cases hil : i < m
  · (repeat (first
    | refine Ex.seq ok hm ?_
    | refine Ex.block ok hm ?_
    | refine Ex.skip ok hm ?_
    | refine Ex.region ok hm ?_
    | refine Sq.pu ok hm Want.none (by first
    | exact Pu.move rfl
    | exact Pu.lssI rfl rfl) rfl ?_
    | refine Sq.finH (n := 9) ok hm (by repeat (first
    | exact Keep.nil
    | apply Keep.drop rfl
    | apply Keep.keep rfl)) ?_
    | refine Ex.condT ok hm rfl (by first
    | rfl
    | exact decide_eq_true (by omega)) ?_))
    refine Sq.call ok Want.none (Op1.call rfl rfl fn22) rfl (FnC.mono (refstep_ok (n := pw st i a) (b := 0) hv (by decide)) ?_)
    rintro x M3 ⟨rfl, rfl⟩
    rw [Nat.xor_zero, ← pw_succ' st i a]
    (repeat (first
    | refine Ex.region ok hm ?_
    | refine Sq.pu ok hm Want.none (by first
    | exact Pu.move rfl
    | exact Pu.assign rfl
    | exact Pu.addN rfl rfl (by simp only [InR]; omega)) rfl ?_
    | refine Sq.finH (n := 9) ok hm (by repeat (first
    | exact Keep.nil
    | apply Keep.drop rfl
    | apply Keep.keep rfl)) ?_))
    exact ⟨i + 1, [(0, u32v (pw st (i + 1) a)), (1, u32v b), (2, .int .i64 (m : Int)), (8, .int .i64 ((i + 1 : Nat) : Int))], (by show m - (i + 1) < m - i; omega), ⟨rfl, rfl, rfl, rfl, trivial⟩, rfl, hil, rfl⟩
  · obtain rfl : i = m := by omega
    (repeat (first
    | refine Ex.seq ok hm ?_
    | refine Ex.region ok hm ?_
    | refine Sq.pu ok hm Want.none (by first
    | exact Pu.move rfl
    | exact Pu.assign rfl
    | exact Pu.xorN rfl rfl (by simp only [InR]; omega) (by simp only [InR]; omega)
    | exact Pu.lssI rfl rfl) rfl ?_
    | refine Sq.finH (n := 9) ok hm (by repeat (first
    | exact Keep.nil
    | apply Keep.drop rfl
    | apply Keep.keep rfl)) ?_
    | refine Ex.condF ok hm rfl (by first
    | rfl
    | exact decide_eq_false (by omega)) ?_
    | refine Ex.ret ok hm ?_
    | refine Ex.exit ok hm ?_))
    exact ⟨_, .tmp rfl (.tmp rfl .nil), rfl, rfl⟩
end Go.Proofs.YtlheieilhpbkdabDoor
