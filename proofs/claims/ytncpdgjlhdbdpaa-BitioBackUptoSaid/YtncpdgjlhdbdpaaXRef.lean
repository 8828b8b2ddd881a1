/- Towards the laws of this seat: contracts of the program's functions in a logic over a small machine (text XRef). No condition. -/
import Derived.Test.YtncpdgjlhdbdpaaXTab
import Derived.Test.YtncpdgjlhdbdpaaXBits
import Derived.Test.YtncpdgjlhdbdpaaWvmLgf
namespace Go.Proofs.Ytncpdgjlhdbdpaa
open Go.Wvm Bits
set_option linter.unusedVariables false
set_option linter.unusedSimpArgs false

structure RwAt (M : AM) (r c : Nat) (l : List Bool) : Prop where
  row : M.get r = some (.row [bufV c l.length] 0 (some (28, 0)))
  buf : l ≠ [] → M.get c = some (.row (l.map Value.bool) 1 (some (4, 0)))
  ne : r ≠ c
def RPost (ro : Nat) (M M' : AM) (r c : Nat) (l' : List Bool) : Prop := ∃ c', RwAt M' r c' l' ∧ Fr M M' [r, c] ∧ (c' = c ∨ M.next ≤ c') ∧ ro ≤ c'
theorem RPost.same {ro : Nat} {M : AM} {p q : Nat} {l : List Bool} (h : RwAt M p q l) (hq : ro ≤ q) : RPost ro M M p q l := ⟨q, h, Fr.refl _ _, .inl rfl, hq⟩

theorem bit_eq (v i : Nat) : decide (((((v : Int) / 2 ^ i).toNat &&& (1 : Int).toNat : Nat) : Int) = 1) = v.testBit i := by
  have : (v : Int) / 2 ^ i = ((v / 2 ^ i : Nat) : Int) := by simp
  rw [this, Int.toNat_natCast, Nat.testBit_eq_decide_div_mod_eq]
  show decide (((v / 2 ^ i &&& 1 : Nat) : Int) = 1) = _
  rw [Nat.and_one_is_mod, Bool.eq_iff_iff, decide_eq_true_eq, decide_eq_true_eq]
  omega
theorem div_bd (v e : Nat) : 0 ≤ (v : Int) / 2 ^ e ∧ (v : Int) / 2 ^ e ≤ v := by
  have h : (v : Int) / 2 ^ e = ((v / 2 ^ e : Nat) : Int) := by simp
  rw [h]
  exact ⟨Int.natCast_nonneg _, by exact_mod_cast Nat.div_le_self v (2 ^ e)⟩
theorem bools_one (l : List Bool) : oneCells (l.map Value.bool) = true := by
  induction l with
  | nil => rfl
  | cons b l ih => simpa [oneCells] using ih

set_option maxHeartbeats 4000000 in
theorem Of_ok {ro : Nat} {M : AM} {v n : Nat} (hv : v < 2 ^ 64) (hn : n ≤ 64) :
    FnC Try.prog tables ro 40 [.int .u64 v, .int .i64 n] M (fun r M' => ∃ c, r = bufV c n ∧ (n ≠ 0 → M'.get c = some (.row ((ofN v n).map Value.bool) 1 (some (4, 0)))) ∧ Fr M M' [] ∧ M.next ≤ c) := by
  refine FnC.facts fun hlt0 hron0 => ?_
  refine FnC.body (nt := 22) ok hm fn40 rfl rfl ?_
  (repeat (first
    | refine Ex.seq ok hm ?_
    | refine Ex.block ok hm ?_
    | refine Ex.region ok hm ?_
    | refine Sq.pu ok hm Want.none (by first
    | exact Pu.move rfl
    | exact Pu.assign rfl
    | exact Pu.sub rfl rfl (by simp only [InR]; omega)) rfl ?_
    | refine Sq.finH (n := 7) ok hm (by repeat (first
    | exact Keep.nil
    | apply Keep.drop rfl
    | apply Keep.keep rfl)) ?_))
  refine Ex.loop ?_
  refine Lp.inv ok hm (α := Nat × Nat)
    (fun x E M' => E = [(5, bufV x.2 x.1), (6, .int .i64 ((n : Int) - 1 - x.1)), (0, .int .u64 v), (1, .int .i64 n)] ∧ x.1 ≤ n ∧ (x.1 ≠ 0 → M'.get x.2 = some (.row ((ofN (v / 2 ^ (n - x.1)) x.1).map Value.bool) 1 (some (4, 0)))) ∧ Fr M M' [] ∧ M.next ≤ x.2)
    (fun x => n - x.1) ?_ (0, M.next) [(5, bufV M.next 0), (6, .int .i64 ((n : Int) - 1 - (0 : Nat))), (0, .int .u64 v), (1, .int .i64 n)] ⟨rfl, by rw [show (n : Int) - 1 - (0 : Nat) = n - 1 by omega]; rfl, rfl, rfl, trivial⟩ ⟨rfl, Nat.zero_le _, fun h => absurd rfl h, Fr.refl _ _, Nat.le_refl _⟩
  intro ⟨k, c⟩ E M1 ⟨hE, hk, hb, hF, hc⟩
  simp only at hE hk hb hc
  subst hE
  refine Ex.facts fun hlt hron => ?_
  by_cases hkn : k = n
  · subst hkn
    (repeat (first
    | refine Ex.seq ok hm ?_
    | refine Ex.region ok hm ?_
    | refine Sq.pu ok hm Want.none (by first
    | exact Pu.move rfl
    | exact Pu.assign rfl
    | exact Pu.geqI rfl rfl) rfl ?_
    | refine Sq.finH (n := 7) ok hm (by repeat (first
    | exact Keep.nil
    | apply Keep.drop rfl
    | apply Keep.keep rfl)) ?_
    | refine Ex.condF ok hm rfl (by first
    | rfl
    | exact decide_eq_false (by omega)) ?_
    | refine Ex.ret ok hm ?_
    | refine Ex.exit ok hm ?_))
    refine ⟨_, .tmp rfl .nil, c, rfl, fun h => ?_, hF, hc⟩
    have := hb h
    rw [Nat.sub_self, Nat.pow_zero, Nat.div_one] at this
    exact this
  · have hcl : k ≠ 0 → c < M1.next := fun h => hlt _ _ (hb h)
    have hlen : ((ofN (v / 2 ^ (n - k)) k).map Value.bool).length = k := by rw [List.length_map, ofN_length]
    have hnx := hF.next
    have hd := div_bd v ((n : Int) - 1 - k).toNat
    (repeat (first
    | refine Ex.seq ok hm ?_
    | refine Ex.block ok hm ?_
    | refine Ex.skip ok hm ?_
    | refine Ex.region ok hm ?_
    | refine Sq.pu ok hm Want.none (by first
    | exact Pu.move rfl
    | exact Pu.geqI rfl rfl
    | exact Pu.eqlI rfl rfl
    | exact Pu.shr rfl rfl (by omega) (by omega) (by simp only [InR]; omega)
    | exact Pu.and rfl rfl (by omega) (by omega) (by simp only [InR]; omega) (by simp only [InR]; omega)) rfl ?_
    | refine Sq.op ok hm Want.none (Op1.buildSlice hT rfl rfl rfl rfl rfl rfl rfl) rfl ?_
    | refine Sq.finH (n := 7) ok hm (by repeat (first
    | exact Keep.nil
    | apply Keep.drop rfl
    | apply Keep.keep rfl)) ?_
    | refine Ex.condT ok hm rfl (by first
    | rfl
    | exact decide_eq_true (by omega)) ?_))
    have hbit := bit_eq v (n - 1 - k)
    rw [show ((n : Int) - 1 - k).toNat = n - 1 - k by omega, hbit]
    (repeat (fail))
    refine Sq.op ok hm Want.none (Op1.appendBuf hT rfl rfl (fun h => (AM.add_ne (by have := hcl h; omega)).trans (hb h)) hlen (fun h => by omega) rfl rfl rfl rfl rfl (Src.slice (n := 1) (by (repeat (exact AM.add_same))) (Nat.le_of_ble_eq_true rfl)) (by decide) (by omega) rfl rfl rfl) rfl ?_
    (repeat (first
    | refine Ex.region ok hm ?_
    | refine Sq.pu ok hm Want.none (by first
    | exact Pu.move rfl
    | exact Pu.assign rfl
    | exact Pu.sub rfl rfl (by simp only [InR]; omega)) rfl ?_
    | refine Sq.finH (n := 7) ok hm (by repeat (first
    | exact Keep.nil
    | apply Keep.drop rfl
    | apply Keep.keep rfl)) ?_))
    refine ⟨(k + 1, M1.next + 1), [(5, bufV (M1.next + 1) (k + 1)), (6, .int .i64 ((n : Int) - 1 - k - 1)), (0, .int .u64 v), (1, .int .i64 n)], by simp only; omega, ⟨rfl, rfl, rfl, rfl, trivial⟩, ?_, by simp only; omega, fun _ => ?_, ?_, ?_⟩
    · simp only
      rw [show (n : Int) - 1 - ((k + 1 : Nat) : Int) = (n : Int) - 1 - k - 1 by omega]
    · simp only
      refine AM.add_same.trans ?_
      have e : ofN (v / 2 ^ (n - (k + 1))) (k + 1) = ofN (v / 2 ^ (n - k)) k ++ [v.testBit (n - 1 - k)] := by
        rw [ofN_split _ (k + 1) k (by omega), show k + 1 - k = 1 by omega, Nat.div_div_eq_div_mul, ← Nat.pow_add, show n - (k + 1) + 1 = n - k by omega]
        rw [show ofN (v / 2 ^ (n - (k + 1))) 1 = [(v / 2 ^ (n - (k + 1))).testBit 0] from rfl, Nat.testBit_div_two_pow]
        congr 2
        congr 1; omega
      rw [e, List.map_append]; rfl
    · exact (((hF.add' _).rm' (.inr hc)).add' _)
    · simp only; omega

theorem Fits_ok {ro : Nat} {M : AM} {v n : Int} (hv : 0 ≤ v ∧ v < 18446744073709551616) (hn : 0 ≤ n ∧ n ≤ 64) :
    FnC Try.prog tables ro 39 [.int .u64 v, .int .i64 n] M (fun r M' => r = .bool (decide (64 ≤ n ∨ v / 2 ^ n.toNat = 0)) ∧ M' = M) := by
  refine FnC.body (nt := 13) ok hm fn39 rfl rfl ?_
  by_cases h : n = 64
  · (repeat (first
    | refine Ex.seq ok hm ?_
    | refine Ex.region ok hm ?_
    | refine Sq.pu ok hm Want.none (by first
    | exact Pu.move rfl
    | exact Pu.assign rfl
    | exact Pu.eqlI rfl rfl
    | exact Pu.pickT rfl (by first
    | rfl
    | exact decide_eq_true (by omega)) rfl) rfl ?_
    | refine Sq.skip ok hm (by exact Want.no rfl rfl rfl (by first
    | rfl
    | exact decide_eq_true (by omega))) rfl ?_
    | refine Sq.finH (n := 5) ok hm (by repeat (first
    | exact Keep.nil
    | apply Keep.drop rfl
    | apply Keep.keep rfl)) ?_
    | refine Ex.ret ok hm ?_))
    exact ⟨_, .tmp rfl .nil, by simp [valOf, h], rfl⟩
  · (repeat (first
    | refine Ex.seq ok hm ?_
    | refine Ex.region ok hm ?_
    | refine Sq.pu ok hm Want.none (by first
    | exact Pu.move rfl
    | exact Pu.assign rfl
    | exact Pu.eqlI rfl rfl
    | exact Pu.pickF rfl (by first
    | rfl
    | exact decide_eq_false (by omega)) rfl
    | exact Pu.shr rfl rfl (by omega) (by omega) (by simp only [InR]; omega)) rfl ?_
    | refine Sq.pu ok hm (by exact Want.yes rfl rfl rfl (by first
    | rfl
    | exact decide_eq_false (by omega))) (by first
    | exact Pu.move rfl
    | exact Pu.eqlI rfl rfl
    | exact Pu.shr rfl rfl (by omega) (by omega) (by simp only [InR]; omega)) rfl ?_
    | refine Sq.finH (n := 5) ok hm (by repeat (first
    | exact Keep.nil
    | apply Keep.drop rfl
    | apply Keep.keep rfl)) ?_
    | refine Ex.ret ok hm ?_))
    refine ⟨_, .tmp rfl .nil, ?_, rfl⟩
    simp only [valOf, Value.bool.injEq]
    rw [Bool.eq_iff_iff, decide_eq_true_eq, decide_eq_true_eq]
    exact ⟨.inr, fun k => k.resolve_left (by omega)⟩

set_option maxHeartbeats 4000000 in
theorem rBit_ok {ro : Nat} {M : AM} {p q : Nat} {l : List Bool} {b : Bool} (hp : ro ≤ p) (hq : ro ≤ q) (h : RwAt M p q l) (hl : l.length ≤ 134217728 ∧ l.length ≤ 16777000) :
    FnC Try.prog tables ro 30 [.pointer (some ⟨p, 0, none⟩), .bool b] M (fun r M' => r = .int .i64 (if 134217728 ≤ l.length then 3 else 0) ∧ RPost ro M M' p q (if 134217728 ≤ l.length then l else l ++ [b])) := by
  refine FnC.body (nt := 21) ok hm fn30 rfl rfl ?_
  refine Ex.facts fun hlt hron => ?_
  have hrow := h.row
  have hpl := hlt _ _ hrow
  have hne := h.ne
  have hql : l ≠ [] → q < M.next := fun e => hlt _ _ (h.buf e)
  rw [if_neg (by omega), if_neg (by omega)]
  (repeat (first
    | refine Ex.seq ok hm ?_
    | refine Ex.skip ok hm ?_
    | refine Ex.region ok hm ?_
    | refine Sq.pu ok hm Want.none (by first
    | exact Pu.move rfl
    | exact Pu.assign rfl
    | exact Pu.nilCheck rfl
    | exact Pu.fieldAddr hT rfl rfl rfl rfl rfl
    | (apply Pu.load hT rfl rfl rfl; (focus ((repeat (assumption)))); (focus rfl))
    | exact Pu.geqI rfl rfl
    | exact Pu.lenBuf hT rfl rfl) rfl ?_
    | refine Sq.op ok hm Want.none (Op1.buildSlice hT rfl rfl rfl rfl rfl rfl rfl) rfl ?_
    | refine Sq.finH (n := 5) ok hm (by repeat (first
    | exact Keep.nil
    | apply Keep.drop rfl
    | apply Keep.keep rfl)) ?_
    | refine Ex.condF ok hm rfl (by first
    | rfl
    | exact decide_eq_false (by omega)) ?_))
  refine Sq.op ok hm Want.none (Op1.appendBuf (m := l.length) (c := q) hT rfl rfl (fun e => (AM.add_ne (by have := hql (fun k => e (by rw [k]; rfl)); omega)).trans (h.buf (fun k => e (by rw [k]; rfl)))) (by simp) (fun _ => hq) rfl rfl rfl rfl rfl (Src.slice (n := 1) (by (repeat (exact AM.add_same))) (Nat.le_of_ble_eq_true rfl)) (by decide) (by omega) rfl rfl rfl) rfl ?_
  (repeat (refine Sq.pu ok hm Want.none (by first
    | exact Pu.nilCheck rfl
    | exact Pu.fieldAddr hT rfl rfl rfl rfl rfl) rfl ?_))
  refine Sq.act ok hm Want.none (Op1.store hT rfl rfl rfl rfl (by (repeat (first
    | assumption
    | apply (AM.add_ne (by (try simp only [AM.next_add, AM.next_upd, AM.next_rm, AM.next_bump]); omega)).trans
    | apply (AM.rm_ne (by (try simp only [AM.next_add, AM.next_upd, AM.next_rm, AM.next_bump]); omega)).trans))) hp (Nat.le_of_ble_eq_true rfl) (Nat.le_of_ble_eq_true rfl) rfl) ?_
  (repeat (first
    | refine Ex.seq ok hm ?_
    | refine Ex.region ok hm ?_
    | refine Sq.pu ok hm Want.none (by exact Pu.assign rfl) rfl ?_
    | refine Sq.finH (n := 5) ok hm (by repeat (first
    | exact Keep.nil
    | apply Keep.drop rfl
    | apply Keep.keep rfl)) ?_
    | refine Ex.ret ok hm ?_))
  refine ⟨_, .tmp rfl .nil, rfl, M.next + 1, ⟨?_, fun _ => ?_, by omega⟩, ?_, .inr (by omega), by omega⟩
  · rw [List.length_append]; exact AM.upd_same
  · refine (AM.upd_ne (by omega)).trans (AM.add_same.trans ?_)
    rw [List.map_append]; rfl
  · exact (((((Fr.refl M [p, q]).add' _).rm' (.inl (by simp))).add' _).upd' _ (.inl (by simp)))
end Go.Proofs.Ytncpdgjlhdbdpaa
