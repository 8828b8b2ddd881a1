/- Towards the laws of this seat: contracts of the program's functions in a logic over a small machine (text XSJn). No condition. -/
import Derived.Test.YtlheieilhpbkdabDoorXSSq
namespace Go.Proofs.YtlheieilhpbkdabDoor
open Go.Wvm Crc
set_option linter.unusedVariables false
set_option linter.unusedSimpArgs false

theorem mat_len (f : Nat → Nat) : Nat.beq (cellsL (mat f)).length 32 = true := by
  show Nat.beq ((rows f).map u32v).length 32 = true
  rw [List.length_map, rows_length]; rfl
theorem mat_fits (f : Nat → Nat) (l : List Nat) (h : l.length = 32) : 0 + (cellsL (mat f)).length ≤ (l.map u32v).length := by
  show 0 + ((rows f).map u32v).length ≤ _
  rw [List.length_map, List.length_map, rows_length, h]; exact Nat.le_refl 32
theorem mat_set (f : Nat → Nat) (l : List Nat) (h : l.length = 32) : setAt (l.map u32v) 0 (cellsL (mat f)) = (rows f).map u32v := setAt_all _ _ (by
  show ((rows f).map u32v).length = _
  rw [List.length_map, List.length_map, rows_length, h])
theorem mat_one (f : Nat → Nat) : oneCells (cellsL (mat f)) = true := oneCells_u32 _
def joinE (a b : Nat) (n : Int) : Nat × Int := if n < 0 ∨ 16777216 < n then (0, 1) else (pw st n.toNat a ^^^ b, 0)
def sq (f : Nat → Nat) : Nat → Nat → Nat
  | 0 => f
  | k + 1 => fun x => sq f k (sq f k x)
theorem sq_lin {f : Nat → Nat} (h : Lin f) : ∀ k, Lin (sq f k)
  | 0 => h
  | k + 1 => (sq_lin h k).comp (sq_lin h k)
theorem sq_pw (f : Nat → Nat) : ∀ k, sq f k = pw f (2 ^ k)
  | 0 => rfl
  | k + 1 => by
    funext x
    show sq f k (sq f k x) = _
    rw [sq_pw f k, ← pw_add, Nat.pow_succ, Nat.mul_two]
/-- What is left: so many times the map that stands in the row. -/
theorem join_step (k m a : Nat) : pw (sq st k) m a = pw (sq st (k + 1)) (m / 2) (if m % 2 = 1 then sq st k a else a) := by
  have e : sq st (k + 1) = pw (sq st k) 2 := by funext x; rfl
  rw [e, pw_mul]
  by_cases h : m % 2 = 1
  · rw [if_pos h]
    conv => lhs; rw [show m = 2 * (m / 2) + 1 by omega]
    rfl
  · rw [if_neg h]
    conv => lhs; rw [show m = 2 * (m / 2) by omega]

set_option maxHeartbeats 4000000 in
theorem Join_ok {ro : Nat} {M : AM} {a b : Nat} {n : Int} (ha : a < 4294967296) (hb : b < 4294967296) (hn : InR .i64 n) :
    FnC Tryd.prog tables ro 14 [u32v a, u32v b, .int .i64 n] M (fun x M' => x = .tuple ⟨[u32v (joinE a b n).1, .int .i64 (joinE a b n).2]⟩ ∧ Fr M M' []) := by
  refine FnC.body (nt := 32) ok hm fn14 rfl rfl ?_
  refine Ex.facts fun hlt hron => ?_
  simp only [InR] at hn
  by_cases h1 : n < 0
  · have e : joinE a b n = (0, 1) := if_pos (.inl h1)
    rw [e]
    (repeat (first
    | refine Ex.seq ok hm ?_
    | refine Ex.region ok hm ?_
    | refine Sq.pu ok hm Want.none (by first
    | exact Pu.move rfl
    | exact Pu.assign rfl
    | exact Pu.lssI rfl rfl
    | exact Pu.pickT rfl (by first
    | rfl
    | exact decide_eq_true (by omega)) rfl) rfl ?_
    | refine Sq.skip ok hm (by exact Want.no rfl rfl rfl (by first
    | rfl
    | exact decide_eq_true (by omega))) rfl ?_
    | refine Sq.finH (n := 9) ok hm (by repeat (first
    | exact Keep.nil
    | apply Keep.drop rfl
    | apply Keep.keep rfl)) ?_
    | refine Ex.condT ok hm rfl (by rfl) ?_
    | refine Ex.ret ok hm ?_))
    exact ⟨_, .tmp rfl (.tmp rfl .nil), rfl, Fr.refl _ _⟩
  by_cases h2 : 16777216 < n
  · have e : joinE a b n = (0, 1) := if_pos (.inr h2)
    rw [e]
    (repeat (first
    | refine Ex.seq ok hm ?_
    | refine Ex.region ok hm ?_
    | refine Sq.pu ok hm Want.none (by first
    | exact Pu.move rfl
    | exact Pu.assign rfl
    | exact Pu.lssI rfl rfl
    | exact Pu.gtrI rfl rfl
    | exact Pu.pickF rfl (by first
    | rfl
    | exact decide_eq_false (by omega)) rfl) rfl ?_
    | refine Sq.pu ok hm (by exact Want.yes rfl rfl rfl (by first
    | rfl
    | exact decide_eq_false (by omega))) (by first
    | exact Pu.move rfl
    | exact Pu.gtrI rfl rfl) rfl ?_
    | refine Sq.finH (n := 9) ok hm (by repeat (first
    | exact Keep.nil
    | apply Keep.drop rfl
    | apply Keep.keep rfl)) ?_
    | refine Ex.condT ok hm rfl (by first
    | rfl
    | exact decide_eq_true (by omega)) ?_
    | refine Ex.ret ok hm ?_))
    exact ⟨_, .tmp rfl (.tmp rfl .nil), rfl, Fr.refl _ _⟩
  have e : joinE a b n = (pw st n.toNat a ^^^ b, 0) := if_neg (by omega)
  rw [e]
  obtain ⟨m, rfl⟩ : ∃ m : Nat, n = m := ⟨n.toNat, by omega⟩
  rw [Int.toNat_natCast]
  (repeat (first
    | refine Ex.seq ok hm ?_
    | refine Ex.skip ok hm ?_
    | refine Ex.region ok hm ?_
    | refine Sq.pu ok hm Want.none (by first
    | exact Pu.move rfl
    | exact Pu.assign rfl
    | exact Pu.lssI rfl rfl
    | exact Pu.gtrI rfl rfl
    | exact Pu.pickF rfl (by rfl) rfl) rfl ?_
    | refine Sq.pu ok hm (by first
    | exact Want.none
    | exact Want.yes rfl rfl rfl (by rfl)) (by first
    | exact Pu.move rfl
    | exact Pu.gtrI rfl rfl) rfl ?_
    | refine Sq.finH (n := 9) ok hm (by repeat (first
    | exact Keep.nil
    | apply Keep.drop rfl
    | apply Keep.keep rfl)) ?_
    | refine Ex.condF ok hm rfl (by first
    | rfl
    | exact decide_eq_false (by omega)) ?_))
  refine Sq.call ok Want.none (Op1.call rfl rfl fn23) rfl (FnC.mono noughts_ok ?_)
  rintro x M1 ⟨rfl, hF1⟩
  have hn1 := hF1.next
  refine Sq.op ok hm Want.none (Op1.alloc hT rfl rfl rfl) rfl ?_
  refine Sq.act ok hm Want.none (Op1.store (v := mat st) (l := (part st 0).map u32v) hT rfl rfl rfl (mat_len _) AM.add_same (by omega) (Nat.le_of_ble_eq_true rfl) (mat_fits _ _ (part_length _ _)) (mat_one _)) ?_
  rw [mat_set _ _ (part_length _ _), AM.add_upd]
  (repeat (first
    | refine Ex.block ok hm ?_
    | refine Sq.finH (n := 9) ok hm (by repeat (first
    | exact Keep.nil
    | apply Keep.drop rfl
    | apply Keep.keep rfl)) ?_))
  refine Ex.loop ?_
  refine Lp.inv ok hm (α := Nat × Nat × Nat × Nat)
    (fun x E M' => E = [(0, u32v x.1), (1, u32v b), (2, .int .i64 (x.2.1 : Int)), (8, .pointer (some ⟨x.2.2.2, 0, none⟩))] ∧ x.1 < 4294967296 ∧ x.2.1 ≤ m ∧ pw (sq st x.2.2.1) x.2.1 x.1 = pw st m a ∧ ro ≤ x.2.2.2 ∧ M.next ≤ x.2.2.2 ∧ M'.get x.2.2.2 = some (arrO (rows (sq st x.2.2.1))) ∧ Fr M M' [])
    (fun x => x.2.1) ?_ (a, m, 0, M1.next) [(0, u32v a), (1, u32v b), (2, .int .i64 (m : Int)), (8, .pointer (some ⟨M1.next, 0, none⟩))] ⟨rfl, rfl, rfl, rfl, trivial⟩ ⟨rfl, ha, Nat.le_refl _, rfl, by simp only; omega, hn1, ?_, ?_⟩
  · intro ⟨a1, m1, k, p⟩ E M2 ⟨hE, ha1, hm1, hpw, hro, hMp, hp, hF⟩
    simp only at hE ha1 hm1 hpw hro hMp hp
    subst hE
    have loadE : ∀ (E : En) (M3 : AM) (q : Nat) (d : Nat) (g : Nat → Nat), evE E (.tmp d) = some (.pointer (some ⟨q, 0, none⟩)) → M3.get q = some (arrO (rows g)) → Pu Tryd.prog tables E M3 (.load 50 (.tmp d)) (mat g) := by
      intro E M3 q d g hd hq
      have h := Pu.loadA (P := Tryd.prog) (E := E) (t := 50) (x := .tmp d) hT hd rfl rfl hq (by rw [List.length_map, rows_length]; exact Nat.le_refl 32)
      rw [show List.take (TyI.size _) _ = (rows g).map u32v by
        show List.take 32 (List.drop 0 ((rows g).map u32v)) = _
        rw [List.drop_zero, List.take_of_length_le (by rw [List.length_map, rows_length]; exact Nat.le_refl 32)]] at h
      exact h
    have hlin := sq_lin st_lin k
    by_cases hz : m1 = 0
    · subst hz
      (repeat (first
    | refine Ex.seq ok hm ?_
    | refine Ex.region ok hm ?_
    | refine Sq.pu ok hm Want.none (by first
    | exact Pu.move rfl
    | exact Pu.assign rfl
    | exact Pu.xorN rfl rfl (by simp only [InR]; omega) (by simp only [InR]; omega)
    | exact Pu.gtrI rfl rfl) rfl ?_
    | refine Sq.finH (n := 9) ok hm (by repeat (first
    | exact Keep.nil
    | apply Keep.drop rfl
    | apply Keep.keep rfl)) ?_
    | refine Ex.condF ok hm rfl (by rfl) ?_
    | refine Ex.ret ok hm ?_
    | refine Ex.exit ok hm ?_))
      have h3 : pw st m a < 4294967296 := (pw_lin st_lin m).lt _ ha
      have h4 : a1 = pw st m a := hpw
      rw [← h4]
      exact ⟨_, .tmp rfl (.tmp rfl .nil), rfl, hF⟩
    · have hnx := hF.next
      refine Ex.facts fun hlt2 hron2 => ?_
      have hpl := hlt2 _ _ hp
      (repeat (first
    | refine Ex.seq ok hm ?_
    | refine Ex.block ok hm ?_
    | refine Ex.skip ok hm ?_
    | refine Ex.region ok hm ?_
    | refine Sq.pu ok hm Want.none (by first
    | exact Pu.move rfl
    | exact Pu.andN rfl rfl (by simp only [InR]; omega) (by simp only [InR]; omega)
    | exact Pu.gtrI rfl rfl
    | exact Pu.eqlI rfl rfl) rfl ?_
    | refine Sq.finH (n := 9) ok hm (by repeat (first
    | exact Keep.nil
    | apply Keep.drop rfl
    | apply Keep.keep rfl)) ?_
    | refine Ex.condT ok hm rfl (by exact decide_eq_true (by omega)) ?_))
      refine Ex.cut [(0, u32v (if m1 % 2 = 1 then sq st k a1 else a1)), (1, u32v b), (2, .int .i64 (m1 : Int)), (8, .pointer (some ⟨p, 0, none⟩))]
        (fun M3 => M3.get p = some (arrO (rows (sq st k))) ∧ Fr M M3 [] ∧ M2.next ≤ M3.next) ?_ ?_
      · by_cases hb1 : m1 % 2 = 1
        · rw [if_pos hb1]
          refine Ex.condT ok hm rfl (decide_eq_true (by rw [Nat.and_one_is_mod]; omega)) ?_
          refine Ex.region ok hm ?_
          refine Sq.pu ok hm Want.none (loadE _ _ p 8 _ rfl hp) rfl ?_
          (repeat (refine Sq.pu ok hm Want.none (by exact Pu.move rfl) rfl ?_))
          refine Sq.call ok Want.none (Op1.call rfl rfl fn24) rfl (FnC.mono (of_ok (f := sq st k) (v := a1) hlin ha1) ?_)
          rintro x M3 ⟨rfl, hF3⟩
          (repeat (first
    | refine Sq.pu ok hm Want.none (by exact Pu.assign rfl) rfl ?_
    | refine Sq.finH (n := 9) ok hm (by repeat (first
    | exact Keep.nil
    | apply Keep.drop rfl
    | apply Keep.keep rfl)) ?_))
          exact ⟨rfl, ⟨rfl, rfl, rfl, rfl, trivial⟩, (hF3.get p hpl (by simp)).trans hp, hF.trans hF3 (by simp), hF3.next⟩
        · rw [if_neg hb1]
          refine Ex.condF ok hm rfl (decide_eq_false (by rw [Nat.and_one_is_mod]; omega)) ?_
          (repeat (refine Ex.skip ok hm ?_))
          exact ⟨rfl, ⟨rfl, rfl, rfl, rfl, trivial⟩, hp, hF, Nat.le_refl _⟩
      · intro M3 ⟨hp3, hF3, hn3⟩
        (repeat (refine Ex.region ok hm ?_))
        refine Sq.pu ok hm Want.none (loadE _ _ p 8 _ rfl hp3) rfl ?_
        refine Sq.call ok Want.none (Op1.call rfl rfl fn25) rfl (FnC.mono (squared_ok (f := sq st k) hlin) ?_)
        rintro x M4 ⟨rfl, hF4⟩
        have hn4 := hF4.next
        have hp4 : M4.get p = some (arrO (rows (sq st k))) := (hF4.get p (by omega) (by simp)).trans hp3
        refine Sq.act ok hm Want.none (Op1.store (v := mat fun x => sq st k (sq st k x)) hT rfl rfl rfl (mat_len _) hp4 hro (Nat.le_of_ble_eq_true rfl) (mat_fits _ _ (rows_length _)) (mat_one _)) ?_
        rw [mat_set _ _ (rows_length _), show (fun x => sq st k (sq st k x)) = sq st (k + 1) from rfl]
        (repeat (first
    | refine Ex.seq ok hm ?_
    | refine Ex.region ok hm ?_
    | refine Sq.finH (n := 9) ok hm (by repeat (first
    | exact Keep.nil
    | apply Keep.drop rfl
    | apply Keep.keep rfl)) ?_))
        refine Sq.pu ok hm Want.none (loadE _ _ p 8 _ rfl AM.upd_same) rfl ?_
        refine Sq.finH (n := 9) ok hm (by repeat (first
    | exact Keep.nil
    | apply Keep.drop rfl
    | apply Keep.keep rfl)) ?_
        refine Ex.region ok hm ?_
        refine Sq.op ok hm Want.none (Op1.alloc hT rfl rfl rfl) rfl ?_
        refine Sq.act ok hm Want.none (Op1.store (v := mat (sq st (k + 1))) (l := (part st 0).map u32v) hT rfl rfl rfl (mat_len _) AM.add_same (by simp only [AM.next_upd]; omega) (Nat.le_of_ble_eq_true rfl) (mat_fits _ _ (part_length _ _)) (mat_one _)) ?_
        rw [mat_set _ _ (part_length _ _)]
        rw [AM.add_upd]
        (repeat (first
    | refine Ex.region ok hm ?_
    | refine Sq.pu ok hm Want.none (by first
    | exact Pu.move rfl
    | exact Pu.assign rfl
    | exact Pu.shrN rfl rfl (by simp only [InR]; omega)) rfl ?_
    | refine Sq.finH (n := 9) ok hm (by repeat (first
    | exact Keep.nil
    | apply Keep.drop rfl
    | apply Keep.keep rfl)) ?_))
        refine ⟨((if m1 % 2 = 1 then sq st k a1 else a1), m1 / 2, k + 1, M4.next), [(0, u32v (if m1 % 2 = 1 then sq st k a1 else a1)), (1, u32v b), (2, .int .i64 ((m1 / 2 : Nat) : Int)), (8, .pointer (some ⟨M4.next, 0, none⟩))], (by show m1 / 2 < m1; omega), ⟨rfl, rfl, rfl, rfl, trivial⟩, rfl, ?_, ?_, ?_, ?_, ?_, ?_, ?_⟩
        · simp only
          split
          · exact hlin.lt _ ha1
          · exact ha1
        · simp only; omega
        · simp only
          rw [← join_step, hpw]
        · simp only; omega
        · simp only; omega
        · exact AM.add_same
        · exact ((hF3.trans hF4 (by simp)).upd' _ (.inr hMp)).add' _
  · exact AM.add_same
  · exact hF1.add' _
end Go.Proofs.YtlheieilhpbkdabDoor
