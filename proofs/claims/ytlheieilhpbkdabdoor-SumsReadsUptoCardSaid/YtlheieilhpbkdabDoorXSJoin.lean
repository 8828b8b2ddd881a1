/- Towards the laws of this seat: contracts of the program's functions in a logic over a small machine (text XSJoin). No condition. -/
import Derived.Test.YtlheieilhpbkdabDoorXSOn
namespace Go.Proofs.YtlheieilhpbkdabDoor
open Go.Wvm Crc
set_option linter.unusedVariables false
set_option linter.unusedSimpArgs false

theorem oneCells_u32 : ∀ (l : List Nat), oneCells (l.map u32v) = true
  | [] => rfl
  | x :: l => by
    have := oneCells_u32 l
    simpa [oneCells] using this
/-- The first i rows of a linear map, the rest 0. -/
def part (f : Nat → Nat) (i : Nat) : List Nat := (List.range 32).map fun j => if j < i then f (2 ^ j) else 0
theorem part_length (f : Nat → Nat) (i : Nat) : (part f i).length = 32 := by simp [part]
theorem part_zero (f : Nat → Nat) : part f 0 = List.replicate 32 0 := by
  rfl
theorem part_all (f : Nat → Nat) : part f 32 = rows f := by
  apply List.ext_getElem (by simp [part, rows])
  intro j h1 h2
  have : j < 32 := by simpa [part] using h1
  simp [part, rows, this]
theorem part_succ (f : Nat → Nat) (i : Nat) (h : i < 32) : (part f i).set i (f (2 ^ i)) = part f (i + 1) := by
  apply List.ext_getElem (by simp [part])
  intro j h1 h2
  have hj : j < 32 := by simpa [part] using h2
  rw [List.getElem_set]
  by_cases e : i = j
  · subst e; simp [part]
  · rw [if_neg e]
    simp only [part, List.getElem_map, List.getElem_range]
    by_cases k : j < i
    · rw [if_pos k, if_pos (by omega)]
    · rw [if_neg k, if_neg (by omega)]
theorem set_u32 (l : List Nat) (i v : Nat) : setAt (l.map u32v) i (cellsL (u32v v)) = (l.set i v).map u32v := by
  simp only [cellsL, setAt, List.map_set]
theorem setAt_len (vs l : List Value) (o : Nat) : (setAt l o vs).length = l.length := setAt_length vs l o
theorem setAt_all (l cs : List Value) (h : cs.length = l.length) : setAt l 0 cs = cs := by
  apply List.ext_getElem?
  intro i
  rw [getElem?_setAt]
  by_cases hi : i < cs.length
  · rw [if_pos ⟨Nat.zero_le _, by omega, by omega⟩, Nat.sub_zero]
  · rw [if_neg (by omega), List.getElem?_eq_none (by omega), List.getElem?_eq_none (by omega)]
def mat (f : Nat → Nat) : Value := .agg ⟨(rows f).map u32v⟩
abbrev arrO (l : List Nat) : AO := .row (l.map u32v) 0 (some (50, 0))

set_option maxHeartbeats 2000000 in
theorem noughts_ok {ro : Nat} {M : AM} : FnC Tryd.prog tables ro 23 [] M (fun v M' => v = mat st ∧ Fr M M' []) := by
  refine FnC.body (nt := 23) ok hm fn23 rfl rfl ?_
  refine Ex.facts fun hlt hron => ?_
  (repeat (first
    | refine Ex.seq ok hm ?_
    | refine Ex.region ok hm ?_))
  refine Sq.op ok hm Want.none (Op1.alloc hT rfl rfl rfl) rfl ?_
  (repeat (first
    | refine Ex.seq ok hm ?_
    | refine Ex.region ok hm ?_
    | refine Sq.finH (n := 3) ok hm (by repeat (exact Keep.nil)) ?_))
  refine Sq.op ok hm Want.none (Op1.alloc hT rfl rfl rfl) rfl ?_
  (repeat (first
    | refine Ex.seq ok hm ?_
    | refine Ex.block ok hm ?_
    | refine Ex.region ok hm ?_
    | refine Sq.pu ok hm Want.none (by exact Pu.move rfl) rfl ?_
    | refine Sq.finH (n := 5) ok hm (by repeat (first
    | exact Keep.nil
    | apply Keep.keep rfl)) ?_))
  refine Ex.loop ?_
  refine Lp.inv ok hm (α := Nat)
    (fun i E M' => E = [(0, .pointer (some ⟨M.next, 0, none⟩)), (1, .pointer (some ⟨M.next + 1, 0, none⟩)), (4, .int .i64 (i : Int))] ∧ i ≤ 32 ∧ M' = (M.add (arrO (part st 0))).add (arrO (part st i)))
    (fun i => 32 - i) ?_ 0 [(0, .pointer (some ⟨M.next, 0, none⟩)), (1, .pointer (some ⟨M.next + 1, 0, none⟩)), (4, .int .i64 ((0 : Nat) : Int))] ⟨rfl, rfl, rfl, trivial⟩ ⟨rfl, Nat.zero_le _, rfl⟩
  intro i E M1 ⟨hE, hi, hM⟩
  subst hE
  subst hM
  have hp2 : i < 32 → 2 ^ i < 4294967296 := fun h => Nat.pow_lt_pow_right (by decide) (show i < 32 from h)
  by_cases hil : i < 32
  · have hp2 := hp2 hil
    (repeat (first
    | refine Ex.seq ok hm ?_
    | refine Ex.block ok hm ?_
    | refine Ex.skip ok hm ?_
    | refine Ex.region ok hm ?_
    | refine Sq.pu ok hm Want.none (by first
    | exact Pu.move rfl
    | exact Pu.assign rfl
    | exact Pu.lssI rfl rfl) rfl ?_
    | refine Sq.finH (n := 5) ok hm (by repeat (first
    | exact Keep.nil
    | apply Keep.drop rfl
    | apply Keep.keep rfl)) ?_
    | refine Ex.condT ok hm rfl (by first
    | rfl
    | exact decide_eq_true (by omega)) ?_))
    refine Sq.pu ok hm Want.none (Pu.shlN (a := 1) (b := i) rfl rfl (by show i ≤ 32; omega) (by simp only [InR]; omega)) rfl ?_
    rw [Nat.one_mul]
    (repeat (first
    | refine Ex.seq ok hm ?_
    | refine Ex.block ok hm ?_
    | refine Ex.region ok hm ?_
    | refine Sq.pu ok hm Want.none (by first
    | exact Pu.move rfl
    | exact Pu.assign rfl) rfl ?_
    | refine Sq.finH (n := 10) ok hm (by repeat (first
    | exact Keep.nil
    | apply Keep.keep rfl)) ?_))
    refine Ex.loop ?_
    refine Lp.inv ok hm (α := Nat)
      (fun k E M' => E = [(0, .pointer (some ⟨M.next, 0, none⟩)), (1, .pointer (some ⟨M.next + 1, 0, none⟩)), (4, .int .i64 (i : Int)), (2, .int .i64 (i : Int)), (9, .int .i64 (k : Int)), (3, u32v (pw b1 k (2 ^ i)))] ∧ k ≤ 8 ∧ M' = (M.add (arrO (part st 0))).add (arrO (part st i)))
      (fun k => 8 - k) ?_ 0 [(0, .pointer (some ⟨M.next, 0, none⟩)), (1, .pointer (some ⟨M.next + 1, 0, none⟩)), (4, .int .i64 (i : Int)), (2, .int .i64 (i : Int)), (9, .int .i64 ((0 : Nat) : Int)), (3, u32v (pw b1 0 (2 ^ i)))] ⟨rfl, rfl, rfl, rfl, rfl, rfl, trivial⟩ ⟨rfl, Nat.zero_le _, rfl⟩
    intro k E M2 ⟨hE, hk, hM⟩
    subst hE
    subst hM
    by_cases hk8 : k < 8
    · have hv := (pw_lin b1_lin k).lt _ hp2
      have hsuc : b1 (pw b1 k (2 ^ i)) = pw b1 (k + 1) (2 ^ i) := (pw_succ' b1 k (2 ^ i)).symm
      generalize pw b1 k (2 ^ i) = v at hv hsuc ⊢
      have hb1 : v / 2 ^ 1 ^^^ 2197175160 * (v &&& 1) = pw b1 (k + 1) (2 ^ i) := by rw [← hsuc, Nat.and_one_is_mod]; rfl
      (repeat (first
    | refine Ex.seq ok hm ?_
    | refine Ex.block ok hm ?_
    | refine Ex.skip ok hm ?_
    | refine Ex.region ok hm ?_
    | refine Sq.pu ok hm Want.none (by first
    | exact Pu.move rfl
    | exact Pu.andN rfl rfl (by simp only [InR]; omega) (by simp only [InR]; omega)
    | exact Pu.shrN rfl rfl (by simp only [InR]; omega)
    | exact Pu.lssI rfl rfl) rfl ?_
    | refine Sq.finH (n := 10) ok hm (by repeat (first
    | exact Keep.nil
    | apply Keep.keep rfl)) ?_
    | refine Ex.condT ok hm rfl (by first
    | rfl
    | exact decide_eq_true (by omega)) ?_))
      have hbit : v &&& 1 < 2 := by rw [Nat.and_one_is_mod]; omega
      refine Sq.pu ok hm Want.none (Pu.mulN (a := 2197175160) (b := v &&& 1) rfl rfl (by simp only [InR]; omega)) rfl ?_
      refine Sq.pu ok hm Want.none (Pu.xorN (a := v / 2 ^ 1) (b := 2197175160 * (v &&& 1)) rfl rfl (by simp only [InR]; omega) (by simp only [InR]; omega)) rfl ?_
      rw [hb1]
      (repeat (first
    | refine Ex.region ok hm ?_
    | refine Sq.pu ok hm Want.none (by first
    | exact Pu.move rfl
    | exact Pu.assign rfl
    | exact Pu.addN rfl rfl (by simp only [InR]; omega)) rfl ?_
    | refine Sq.finH (n := 10) ok hm (by repeat (first
    | exact Keep.nil
    | apply Keep.drop rfl
    | apply Keep.keep rfl)) ?_))
      refine ⟨k + 1, [(0, .pointer (some ⟨M.next, 0, none⟩)), (1, .pointer (some ⟨M.next + 1, 0, none⟩)), (4, .int .i64 (i : Int)), (2, .int .i64 (i : Int)), (9, .int .i64 ((k + 1 : Nat) : Int)), (3, u32v (pw b1 (k + 1) (2 ^ i)))], (by show 8 - (k + 1) < 8 - k; omega), ⟨rfl, rfl, rfl, rfl, rfl, rfl, trivial⟩, rfl, hk8, rfl⟩
    · obtain rfl : k = 8 := by omega
      have e8 : pw b1 8 (2 ^ i) = st (2 ^ i) := rfl
      rw [e8]
      (repeat (first
    | refine Ex.seq ok hm ?_
    | refine Ex.region ok hm ?_
    | refine Sq.pu ok hm Want.none (by first
    | exact Pu.move rfl
    | exact Pu.lssI rfl rfl
    | exact Pu.indexP hT rfl rfl rfl rfl (by omega) (by omega)) rfl ?_
    | refine Sq.finH (n := 5) ok hm (by repeat (first
    | exact Keep.nil
    | apply Keep.drop rfl
    | apply Keep.keep rfl)) ?_
    | refine Ex.condF ok hm rfl (by rfl) ?_
    | refine Ex.exit ok hm ?_))
      refine Sq.act ok hm Want.none (Op1.store hT rfl rfl rfl rfl (by (repeat (exact AM.add_same))) (by omega) (Nat.le_of_ble_eq_true rfl) (by rw [List.length_map, part_length]; show 0 + ((i : Nat) : Int).toNat * 1 + 1 ≤ 32; omega) rfl) ?_
      rw [set_u32, show 0 + ((i : Nat) : Int).toNat * TyI.size ⟨.int .u32, 1, 4, (some (.int .u32 0)), false⟩ = i by show 0 + ((i : Nat) : Int).toNat * 1 = i; omega, part_succ st i hil]
      (repeat (first
    | refine Ex.region ok hm ?_
    | refine Sq.pu ok hm Want.none (by first
    | exact Pu.move rfl
    | exact Pu.addN rfl rfl (by simp only [InR]; omega)) rfl ?_
    | refine Sq.finH (n := 5) ok hm (by repeat (first
    | exact Keep.nil
    | apply Keep.drop rfl
    | apply Keep.keep rfl)) ?_))
      refine ⟨i + 1, [(0, .pointer (some ⟨M.next, 0, none⟩)), (1, .pointer (some ⟨M.next + 1, 0, none⟩)), (4, .int .i64 ((i + 1 : Nat) : Int))], (by show 32 - (i + 1) < 32 - i; omega), ⟨rfl, rfl, rfl, trivial⟩, rfl, hil, ?_⟩
      exact AM.add_upd (M.add (arrO (part st 0))) _ _
  · obtain rfl : i = 32 := by omega
    (repeat (first
    | refine Ex.seq ok hm ?_
    | refine Ex.region ok hm ?_
    | refine Sq.pu ok hm Want.none (by exact Pu.lssI rfl rfl) rfl ?_
    | refine Sq.finH (n := 5) ok hm (by repeat (first
    | exact Keep.nil
    | apply Keep.keep rfl)) ?_
    | refine Ex.condF ok hm rfl (by rfl) ?_
    | refine Ex.exit ok hm ?_))
    refine Sq.pu ok hm Want.none (Pu.loadA hT rfl rfl rfl (by (repeat (exact AM.add_same))) (by rw [List.length_map, part_length]; exact Nat.le_refl 32)) rfl ?_
    have e : (List.drop 0 ((part st 32).map u32v)).take 32 = (rows st).map u32v := by
      rw [List.drop_zero, part_all, List.take_of_length_le (by rw [List.length_map, rows_length]; exact Nat.le_refl 32)]
    show Sq Tryd.prog tables ro ⟨23, 23⟩ _ _ ((22, .agg ⟨(List.drop 0 ((part st 32).map u32v)).take 32⟩) :: _) _ _
    rw [e]
    refine Sq.act ok hm Want.none (Op1.store hT rfl rfl rfl (by show Nat.beq ((rows st).map u32v).length 32 = true; rw [List.length_map, rows_length]; rfl) (by (repeat (first
    | exact AM.add_same
    | apply (AM.add_ne (by (try simp only [AM.next_add, AM.next_upd, AM.next_rm, AM.next_bump]); omega)).trans))) hron (Nat.le_of_ble_eq_true rfl) (by show 0 + ((rows st).map u32v).length ≤ ((part st 0).map u32v).length; rw [List.length_map, List.length_map, rows_length, part_length]; exact Nat.le_refl 32) (oneCells_u32 _)) ?_
    (repeat (first
    | refine Sq.finH (n := 5) ok hm (by repeat (first
    | exact Keep.nil
    | apply Keep.drop rfl
    | apply Keep.keep rfl)) ?_
    | refine Ex.ret ok hm ?_))
    refine ⟨_, .cell rfl (hT 50 _ rfl) AM.upd_same rfl ?_ .nil, ?_, ?_⟩
    · rw [setAt_len]
      show 0 + 32 ≤ ((part st 0).map u32v).length
      rw [List.length_map, part_length]; exact Nat.le_refl 32
    · show Value.agg ⟨List.take 32 (List.drop 0 (setAt ((part st 0).map u32v) 0 ((rows st).map u32v)))⟩ = mat st
      rw [setAt_all _ _ (by rw [List.length_map, List.length_map, rows_length, part_length]), List.drop_zero, List.take_of_length_le (by rw [List.length_map, rows_length]; exact Nat.le_refl 32)]
      rfl
    · exact (((Fr.refl _ _).add' _).add' _).upd' _ (.inr (Nat.le_refl _))

end Go.Proofs.YtlheieilhpbkdabDoor
