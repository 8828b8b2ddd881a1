/- Towards the laws of this seat: contracts of the program's functions in a logic over a small machine (text XSSq). No condition. -/
import Derived.Test.YtlheieilhpbkdabDoorXSOf
namespace Go.Proofs.YtlheieilhpbkdabDoor
open Go.Wvm Crc
set_option linter.unusedVariables false
set_option linter.unusedSimpArgs false

set_option maxHeartbeats 2000000 in
theorem squared_ok {ro : Nat} {M : AM} {f : Nat → Nat} (hf : Lin f) :
    FnC Tryd.prog tables ro 25 [mat f] M (fun x M' => x = mat (fun x => f (f x)) ∧ Fr M M' []) := by
  have hff : Lin (fun x => f (f x)) := hf.comp hf
  refine FnC.body (nt := 17) ok hm fn25 rfl rfl ?_
  refine Ex.facts fun hlt hron => ?_
  (repeat (first
    | refine Ex.seq ok hm ?_
    | refine Ex.region ok hm ?_))
  refine Sq.op ok hm Want.none (Op1.box rfl (oneCells_u32 _)) rfl ?_
  refine Sq.op ok hm Want.none (Op1.alloc hT rfl rfl rfl) rfl ?_
  (repeat (first
    | refine Ex.seq ok hm ?_
    | refine Ex.region ok hm ?_
    | refine Sq.finH (n := 3) ok hm (by repeat (first
    | exact Keep.nil
    | apply Keep.keep rfl)) ?_))
  refine Sq.op ok hm Want.none (Op1.alloc hT rfl rfl rfl) rfl ?_
  (repeat (first
    | refine Ex.seq ok hm ?_
    | refine Ex.block ok hm ?_
    | refine Ex.region ok hm ?_
    | refine Sq.pu ok hm Want.none (by exact Pu.move rfl) rfl ?_
    | refine Sq.finH (n := 6) ok hm (by repeat (first
    | exact Keep.nil
    | apply Keep.keep rfl)) ?_))
  refine Ex.loop ?_
  refine Lp.inv ok hm (α := Nat)
    (fun i E M' => E = [(1, .pointer (some ⟨M.next, 0, none⟩)), (2, .pointer (some ⟨M.next + 1, 0, none⟩)), (3, .pointer (some ⟨M.next + 2, 0, none⟩)), (5, .int .i64 (i : Int))] ∧ i ≤ 32 ∧ M' = ((M.add (arrO (rows f))).add (arrO (part f 0))).add (arrO (part (fun x => f (f x)) i)))
    (fun i => 32 - i) ?_ 0 [(1, .pointer (some ⟨M.next, 0, none⟩)), (2, .pointer (some ⟨M.next + 1, 0, none⟩)), (3, .pointer (some ⟨M.next + 2, 0, none⟩)), (5, .int .i64 ((0 : Nat) : Int))] ⟨rfl, rfl, rfl, rfl, trivial⟩ ⟨rfl, Nat.zero_le _, rfl⟩
  intro i E M1 ⟨hE, hi, hM⟩
  subst hE
  by_cases hil : i < 32
  · have hr : ((rows f).map u32v)[0 + ((i : Nat) : Int).toNat * 1]? = some (u32v (f (2 ^ i))) := by
      rw [Int.toNat_natCast, Nat.zero_add, Nat.mul_one, List.getElem?_map, rows_get _ _ hil]; rfl
    have hp2 : f (2 ^ i) < 4294967296 := hf.lt _ (Nat.pow_lt_pow_right (by decide) (show i < 32 from hil))
    have h1 : M1.get M.next = some (arrO (rows f)) := by rw [hM]; exact (AM.add_ne (by simp only [AM.next_add]; omega)).trans ((AM.add_ne (by simp only [AM.next_add]; omega)).trans AM.add_same)
    have h3 : M1.get (M.next + 2) = some (arrO (part (fun x => f (f x)) i)) := by rw [hM]; exact AM.add_same
    have e : (List.drop 0 ((rows f).map u32v)).take 32 = (rows f).map u32v := by
      rw [List.drop_zero, List.take_of_length_le (by rw [List.length_map, rows_length]; exact Nat.le_refl 32)]
    (repeat (first
    | refine Ex.seq ok hm ?_
    | refine Ex.block ok hm ?_
    | refine Ex.skip ok hm ?_
    | refine Ex.region ok hm ?_
    | refine Sq.pu ok hm Want.none (by first
    | exact Pu.move rfl
    | exact Pu.assign rfl
    | exact Pu.lssI rfl rfl) rfl ?_
    | refine Sq.finH (n := 6) ok hm (by repeat (first
    | exact Keep.nil
    | apply Keep.drop rfl
    | apply Keep.keep rfl)) ?_
    | refine Ex.condT ok hm rfl (by first
    | rfl
    | exact decide_eq_true (by omega)) ?_))
    refine Ex.draw ok hm 7 (by kernel_rfl) ?_
    (repeat (refine Hq.pu Want.none (by exact Pu.move rfl) rfl rfl rfl ?_))
    refine Hq.pu Want.none (v := mat f) (by
      have h := Pu.loadA (P := Tryd.prog) (E := [(8, .int .i64 (i : Int)), (4, .int .i64 (i : Int)), (1, .pointer (some ⟨M.next, 0, none⟩)), (2, .pointer (some ⟨M.next + 1, 0, none⟩)), (3, .pointer (some ⟨M.next + 2, 0, none⟩)), (5, .int .i64 (i : Int))]) (t := 50) (x := .tmp 1) hT rfl rfl rfl h1 (by rw [List.length_map, rows_length]; exact Nat.le_refl 32)
      rw [show List.take (TyI.size _) _ = (rows f).map u32v from e] at h
      exact h) rfl rfl rfl ?_
    (repeat (refine Hq.pu Want.none (by first
    | exact Pu.move rfl
    | exact Pu.indexP hT rfl rfl rfl rfl (by omega) (by omega)) rfl rfl rfl ?_))
    refine Hq.pu Want.none (Pu.load hT rfl rfl rfl h1 hr) rfl rfl rfl ?_
    refine Hq.call ok Want.none (fun ro => Op1.call rfl rfl fn24) rfl rfl (FnC.mono (of_ok (f := f) (v := f (2 ^ i)) hf hp2) ?_)
    rintro x M2 ⟨rfl, hF⟩
    refine ⟨rfl, ?_⟩
    (repeat (first
    | refine Hq.pu Want.none (by exact Pu.indexP hT rfl rfl rfl rfl (by omega) (by omega)) rfl rfl rfl ?_
    | refine Hq.nil ?_))
    refine Tq.act Want.none (Op1.store hT rfl rfl rfl rfl h3 (by omega) (Nat.le_of_ble_eq_true rfl) (by rw [List.length_map, part_length]; show 0 + ((i : Nat) : Int).toNat * 1 + 1 ≤ 32; omega) rfl) ?_
    rw [set_u32, show 0 + ((i : Nat) : Int).toNat * TyI.size ⟨.int .u32, 1, 4, (some (.int .u32 0)), false⟩ = i by show 0 + ((i : Nat) : Int).toNat * 1 = i; omega, part_succ (fun x => f (f x)) i hil]
    subst hM
    (repeat (first
    | refine Ex.region ok hm ?_
    | refine Sq.pu ok hm Want.none (by first
    | exact Pu.move rfl
    | exact Pu.addN rfl rfl (by simp only [InR]; omega)) rfl ?_
    | refine Sq.finH (n := 6) ok hm (by repeat (first
    | exact Keep.nil
    | apply Keep.drop rfl
    | apply Keep.keep rfl)) ?_
    | refine Tq.finH (n := 6)  (by repeat (first
    | exact Keep.nil
    | apply Keep.drop rfl
    | apply Keep.keep rfl)) ?_))
    refine ⟨i + 1, [(1, .pointer (some ⟨M.next, 0, none⟩)), (2, .pointer (some ⟨M.next + 1, 0, none⟩)), (3, .pointer (some ⟨M.next + 2, 0, none⟩)), (5, .int .i64 ((i + 1 : Nat) : Int))], (by show 32 - (i + 1) < 32 - i; omega), ⟨rfl, rfl, rfl, rfl, trivial⟩, rfl, hil, ?_⟩
    exact AM.add_upd ((M.add (arrO (rows f))).add (arrO (part f 0))) _ _
  · obtain rfl : i = 32 := by omega
    subst hM
    (repeat (first
    | refine Ex.seq ok hm ?_
    | refine Ex.region ok hm ?_
    | refine Sq.pu ok hm Want.none (by exact Pu.lssI rfl rfl) rfl ?_
    | refine Sq.finH (n := 6) ok hm (by repeat (first
    | exact Keep.nil
    | apply Keep.keep rfl)) ?_
    | refine Ex.condF ok hm rfl (by rfl) ?_
    | refine Ex.exit ok hm ?_))
    refine Sq.pu ok hm Want.none (Pu.loadA hT rfl rfl rfl (by (repeat (exact AM.add_same))) (by rw [List.length_map, part_length]; exact Nat.le_refl 32)) rfl ?_
    have e : (List.drop 0 ((part (fun x => f (f x)) 32).map u32v)).take 32 = (rows (fun x => f (f x))).map u32v := by
      rw [List.drop_zero, part_all, List.take_of_length_le (by rw [List.length_map, rows_length]; exact Nat.le_refl 32)]
    show Sq Tryd.prog tables ro ⟨25, 17⟩ _ _ ((16, .agg ⟨(List.drop 0 ((part (fun x => f (f x)) 32).map u32v)).take 32⟩) :: _) _ _
    rw [e]
    refine Sq.act ok hm Want.none (Op1.store hT rfl rfl rfl (by show Nat.beq ((rows (fun x => f (f x))).map u32v).length 32 = true; rw [List.length_map, rows_length]; rfl) (by (repeat (first
    | exact AM.add_same
    | apply (AM.add_ne (by (try simp only [AM.next_add, AM.next_upd, AM.next_rm, AM.next_bump]); omega)).trans))) (by omega) (Nat.le_of_ble_eq_true rfl) (by show 0 + ((rows (fun x => f (f x))).map u32v).length ≤ ((part f 0).map u32v).length; rw [List.length_map, List.length_map, rows_length, part_length]; exact Nat.le_refl 32) (oneCells_u32 _)) ?_
    (repeat (first
    | refine Sq.finH (n := 6) ok hm (by repeat (first
    | exact Keep.nil
    | apply Keep.drop rfl
    | apply Keep.keep rfl)) ?_
    | refine Ex.ret ok hm ?_))
    refine ⟨_, .cell rfl (hT 50 _ rfl) AM.upd_same rfl ?_ .nil, ?_, ?_⟩
    · rw [setAt_len]
      show 0 + 32 ≤ ((part f 0).map u32v).length
      rw [List.length_map, part_length]; exact Nat.le_refl 32
    · show Value.agg ⟨List.take 32 (List.drop 0 (setAt ((part f 0).map u32v) 0 ((rows (fun x => f (f x))).map u32v)))⟩ = mat (fun x => f (f x))
      rw [setAt_all _ _ (by rw [List.length_map, List.length_map, rows_length, part_length]), List.drop_zero, List.take_of_length_le (by rw [List.length_map, rows_length]; exact Nat.le_refl 32)]
      rfl
    · exact ((((Fr.refl _ _).add' _).add' _).add' _).upd' _ (.inr (by omega))
end Go.Proofs.YtlheieilhpbkdabDoor
