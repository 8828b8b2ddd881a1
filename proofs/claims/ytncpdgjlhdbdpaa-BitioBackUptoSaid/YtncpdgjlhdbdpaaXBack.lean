/- Towards the laws of this seat: contracts of the program's functions in a logic over a small machine (text XBack). No condition. -/
import Derived.Test.YtncpdgjlhdbdpaaXMain
import Derived.Test.YtncpdgjlhdbdpaaXRd
import Derived.Test.YtncpdgjlhdbdpaaXBacm
namespace Go.Proofs.Ytncpdgjlhdbdpaa
open Go.Wvm Bits
set_option linter.unusedVariables false
set_option linter.unusedSimpArgs false

theorem remT {E : En} {M : AM} {t t' : TypeId} {x y : Operand} {k : IntKind} {a b : Int} (hx : evE E x = some (.int k a)) (hy : evE E y = some (.int k b)) (h1 : 0 < b) : Pu Try.prog tables E M (.binOp .rem t x y t') (.int k (a.tmod b)) :=
  Pu.int hx hy rfl (by simp only [intOp, ieq0 (show b ≠ 0 by omega)])
def wN (a : Int) : Nat := ((a.tmod 65 + 65) % 65).toNat
theorem tmod65 (a : Int) : -65 < a.tmod 65 ∧ a.tmod 65 < 65 := ⟨Int.lt_tmod_of_pos a (by decide), Int.tmod_lt_of_pos a (by decide)⟩
theorem wN_eq (a : Int) : (a.tmod 65 + 65) % 65 = (wN a : Int) := by
  unfold wN
  rw [Int.toNat_of_nonneg (Int.emod_nonneg _ (by decide))]
theorem wN_le (a : Int) : wN a ≤ 64 := by
  have h1 := wN_eq a
  have h2 := Int.emod_lt_of_pos (a.tmod 65 + 65) (show (0 : Int) < 65 by decide)
  omega
def vV (v n : Nat) : Nat := if n < 64 then v % 2 ^ n else v
theorem vV_lt {v n : Nat} (hv : v < 2 ^ 64) (hn : n ≤ 64) : vV v n < 2 ^ n := by
  unfold vV
  split
  · exact Nat.mod_lt _ (Nat.two_pow_pos n)
  · have : n = 64 := by omega
    rw [this]; exact hv
theorem vV_lt2 {v n : Nat} (hv : v < 2 ^ 64) (hn : n ≤ 64) : vV v n < 2 ^ 64 := Nat.lt_of_lt_of_le (vV_lt hv hn) (Nat.pow_le_pow_right (by omega) hn)
def PutV.w (x : PutV) : Nat := wN x.n
def PutV.val (x : PutV) : Nat := vV x.v x.w
def PutV.seg (x : PutV) : List Bool := ofN x.val x.w
def bitsB (l : List PutV) (i : Nat) : List Bool := (l.take i).flatMap PutV.seg
theorem bitsB_succ (l : List PutV) (i : Nat) (h : i < l.length) : bitsB l (i + 1) = bitsB l i ++ (l[i]'h).seg := by
  unfold bitsB
  rw [List.take_succ_eq_append_getElem h, List.flatMap_append]; simp
theorem bitsB_length (l : List PutV) : ∀ i, (bitsB l i).length ≤ 64 * i := by
  intro i
  induction i with
  | zero => simp [bitsB]
  | succ i ih =>
    by_cases h : i < l.length
    · rw [bitsB_succ l i h, List.length_append]
      have h1 : (l[i]'h).seg.length ≤ 64 := by unfold PutV.seg; rw [ofN_length]; exact wN_le _
      omega
    · have : bitsB l (i + 1) = bitsB l i := by unfold bitsB; rw [List.take_of_length_le (by omega), List.take_of_length_le (by omega)]
      rw [this]; omega
theorem bitsB_in (l : List PutV) (k i : Nat) (hk : k < i) (hi : i ≤ l.length) : ((bitsB l i).drop (bitsB l k).length).take ((l[k]'(by omega)).seg.length) = (l[k]'(by omega)).seg ∧ (bitsB l k).length + (l[k]'(by omega)).seg.length ≤ (bitsB l i).length := by
  have h1 : bitsB l i = bitsB l (k + 1) ++ ((l.take i).drop (k + 1)).flatMap PutV.seg := by
    have h2 : l.take i = l.take (k + 1) ++ (l.take i).drop (k + 1) := by
      have := List.take_append_drop (k + 1) (l.take i)
      rw [List.take_take, Nat.min_eq_left (by omega)] at this
      exact this.symm
    unfold bitsB
    conv => lhs; rw [h2]
    rw [List.flatMap_append]
  rw [h1, bitsB_succ l k (by omega), List.append_assoc]
  refine ⟨?_, by simp only [List.length_append]; omega⟩
  rw [List.drop_append_of_le_length (Nat.le_refl _), List.drop_eq_nil_of_le (Nat.le_refl _), List.nil_append, List.take_append_of_le_length (Nat.le_refl _), List.take_of_length_le (Nat.le_refl _)]
def posL (l : List PutV) (i : Nat) : List Value := (List.range i).map fun j => .int .i64 ((bitsB l j).length : Int)
theorem posL_length (l : List PutV) (i : Nat) : (posL l i).length = i := by simp [posL]
theorem posL_succ (l : List PutV) (i : Nat) : posL l (i + 1) = posL l i ++ [.int .i64 ((bitsB l i).length : Int)] := by simp [posL, List.range_succ]

def LoopB (l : List PutV) (i c : Nat) (M : AM) : Prop :=
  ∃ q q2, WrAt M 1 q (bitsB l i) ∧ WrAt M 2 q2 (bitsB l i) ∧ 3 ≤ M.next ∧ (l.length ≠ 0 → M.get 0 = some (.row (rowP l) 4 none)) ∧ (i ≠ 0 → M.get c = some (.row (posL l i) 1 (some (3, 0)))) ∧
    (bitsB l i ≠ [] → 3 ≤ q ∧ q < M.next ∧ 3 ≤ q2 ∧ q2 < M.next ∧ q ≠ q2) ∧ 3 ≤ c ∧ (i ≠ 0 → c < M.next ∧ (bitsB l i ≠ [] → c ≠ q ∧ c ≠ q2))

/-- The bits of a number, one after the other. -/
theorem bits_ok {M : AM} {E1 : En} {l : List Bool} {q v n : Nat} : True := trivial

set_option maxRecDepth 20000 in
set_option maxHeartbeats 8000000 in
theorem back_ok {M : AM} (l : List PutV) (nil : Bool) (hnil : nil = true → l.length = 0) (hnx : M.next = 1) (hrow : l.length ≠ 0 → M.get 0 = some (.row (rowP l) 4 none))
    (hwf : ∀ x ∈ l, InR .i64 x.kind ∧ x.v < 2 ^ 64 ∧ InR .i64 x.n) (hlen : l.length ≤ 1048576) :
    FnC Try.prog tables 1 6 [inV nil 0 l.length] M (fun v _ => v = .bool true) := by
  refine FnC.body (nt := 193) ok hm fn6 rfl rfl ?_
  (repeat (first
    | refine Ex.seq ok hm ?_
    | refine Ex.region ok hm ?_
    | refine Sq.pu ok hm Want.none (by exact Pu.assign rfl) rfl ?_
    | refine Sq.finH (n := 25) ok hm (by repeat (first
    | exact Keep.nil
    | apply Keep.keep rfl)) ?_))
  refine Sq.call ok Want.none (Op1.call rfl rfl fn7) rfl (FnC.mono new_ok ?_)
  rintro v M1 ⟨rfl, e1⟩
  have hn1 : M1.next = 2 := by rw [e1]; simp only [AM.next_add]; omega
  (repeat (first
    | refine Ex.seq ok hm ?_
    | refine Ex.region ok hm ?_
    | refine Sq.pu ok hm Want.none (by exact Pu.assign rfl) rfl ?_
    | refine Sq.finH (n := 25) ok hm (by repeat (first
    | exact Keep.nil
    | apply Keep.drop rfl
    | apply Keep.keep rfl)) ?_))
  refine Sq.call ok Want.none (Op1.call rfl rfl fn7) rfl (FnC.mono new_ok ?_)
  rintro v M2 ⟨rfl, e2⟩
  have hn2 : M2.next = 3 := by rw [e2]; simp only [AM.next_add]; omega
  have hg0 : l.length ≠ 0 → M2.get 0 = some (.row (rowP l) 4 none) := fun k => by
    rw [e2, AM.add_ne (by omega), e1, AM.add_ne (by omega)]; exact hrow k
  have hg1 : M2.get 1 = some (.row [.slice none 0 0, .int .i64 0] 0 (some (68, 0))) := by
    rw [e2, AM.add_ne (by omega), e1, ← hnx]; exact AM.add_same
  have hg2 : M2.get 2 = some (.row [.slice none 0 0, .int .i64 0] 0 (some (68, 0))) := by
    rw [e2, ← hn1]; exact AM.add_same
  (repeat (first
    | refine Ex.seq ok hm ?_
    | refine Ex.block ok hm ?_
    | refine Ex.region ok hm ?_
    | refine Sq.pu ok hm Want.none (by exact Pu.assign rfl) rfl ?_
    | refine Sq.finH (n := 25) ok hm (by repeat (first
    | exact Keep.nil
    | apply Keep.drop rfl
    | apply Keep.keep rfl)) ?_))
  rw [hnx, hn1]
  refine Ex.loop ?_
  refine Lp.inv ok hm (α := Nat × Nat)
    (fun x E M' => E = [(6, .int .i64 x.1), (5, bufV x.2 x.1), (4, .pointer (some ⟨2, 0, none⟩)), (3, .pointer (some ⟨1, 0, none⟩)), (0, inV nil 0 l.length)] ∧ x.1 ≤ l.length ∧ x.1 ≤ 200 ∧ LoopB l x.1 x.2 M')
    (fun x => 200 - x.1) ?_ (0, 3) [(6, .int .i64 (0 : Nat)), (5, bufV 3 0), (4, .pointer (some ⟨2, 0, none⟩)), (3, .pointer (some ⟨1, 0, none⟩)), (0, inV nil 0 l.length)] ⟨rfl, rfl, rfl, rfl, rfl, trivial⟩ ⟨rfl, Nat.zero_le _, Nat.zero_le _, ?_⟩
  · intro ⟨i, c⟩ E M3 ⟨hE, hi, hi2, q, q2, hW, hP, hnx3, hg, hc, hd, hc3, hdc⟩
    simp only at hE hi hi2 hW hP hc hd hc3 hdc
    subst hE
    by_cases hex : i < l.length ∧ i < 200
    · obtain ⟨hil, hi200⟩ := hex
      have hg' := hg (by omega)
      obtain ⟨hw1, hw2, hw3⟩ := hwf (l[i]'hil) (List.getElem_mem hil)
      have hrg := rowP_get l i hil
      have hkn : (rowP l)[0 + ((i : Nat) : Int).toNat * 4 + 2]? = some (.int .i64 (l[i]'hil).n) := by
        have := congrArg (fun y => y[2]?) hrg
        rw [List.getElem?_take, if_pos (by omega), List.getElem?_drop] at this
        rw [Int.toNat_natCast, Nat.zero_add]; exact this
      have hkv : (rowP l)[0 + ((i : Nat) : Int).toNat * 4 + 1]? = some (.int .u64 ((l[i]'hil).v : Int)) := by
        have := congrArg (fun y => y[1]?) hrg
        rw [List.getElem?_take, if_pos (by omega), List.getElem?_drop] at this
        rw [Int.toNat_natCast, Nat.zero_add]; exact this
      have hsu := bitsB_succ l i hil
      have hbl := bitsB_length l i
      (repeat (first
    | refine Ex.seq ok hm ?_
    | refine Ex.block ok hm ?_
    | refine Ex.skip ok hm ?_
    | refine Ex.region ok hm ?_
    | refine Sq.pu ok hm Want.none (by first
    | exact Pu.move rfl
    | exact Pu.lssI rfl rfl
    | exact Pu.lenIn hT (by assumption) rfl rfl
    | exact Pu.pickT rfl (by first
    | rfl
    | exact decide_eq_true (by omega)) rfl) rfl ?_
    | refine Sq.pu ok hm (by first
    | exact Want.none
    | exact Want.yes rfl rfl rfl (by first
    | rfl
    | exact decide_eq_true (by omega))) (by first
    | exact Pu.move rfl
    | exact Pu.lssI rfl rfl) rfl ?_
    | refine Sq.finH (n := 25) ok hm (by repeat (first
    | exact Keep.nil
    | apply Keep.drop rfl
    | apply Keep.keep rfl)) ?_
    | refine Ex.condT ok hm rfl (by first
    | rfl
    | exact decide_eq_true (by omega)) ?_))
      rw [inV_pos 0 l.length hnil (by omega)]
      (repeat (refine Sq.pu ok hm Want.none (by first
    | exact Pu.fieldAddr hT rfl rfl rfl rfl rfl
    | exact Pu.indexAddr hT rfl rfl rfl rfl (by omega) (by omega)) rfl ?_))
      refine Sq.pu ok hm Want.none (Pu.load hT rfl rfl rfl hg' hkn) rfl ?_
      have ht := tmod65 (l[i]'hil).n
      refine Sq.pu ok hm Want.none (remT rfl rfl (by decide)) rfl ?_
      refine Sq.pu ok hm Want.none (Pu.add rfl rfl (by simp only [InR]; omega)) rfl ?_
      refine Sq.pu ok hm Want.none (Pu.rem rfl rfl (by omega) (by decide)) rfl ?_
      rw [wN_eq]
      have hseg : (l[i]'hil).seg = ofN (vV (l[i]'hil).v (wN (l[i]'hil).n)) (wN (l[i]'hil).n) := rfl
      rw [hseg] at hsu
      have hn64 := wN_le (l[i]'hil).n
      have hvl := vV_lt hw2 hn64
      have hvl2 := vV_lt2 hw2 hn64
      clear hseg ht hw3 hkn
      generalize wN (l[i]'hil).n = n at hsu hn64 hvl hvl2 ⊢
      generalize (l[i]'hil).v = v at hkv hw2 hsu hvl hvl2 ⊢
      (repeat (first
    | refine Ex.seq ok hm ?_
    | refine Ex.region ok hm ?_
    | refine Sq.pu ok hm Want.none (by first
    | exact Pu.move rfl
    | exact Pu.assign rfl
    | exact Pu.fieldAddr hT rfl rfl rfl rfl rfl
    | exact Pu.indexAddr hT rfl rfl rfl rfl (by omega) (by omega)) rfl ?_
    | refine Sq.finH (n := 25) ok hm (by repeat (first
    | exact Keep.nil
    | apply Keep.drop rfl
    | apply Keep.keep rfl)) ?_))
      refine Sq.pu ok hm Want.none (Pu.load hT rfl rfl rfl hg' hkv) rfl ?_
      refine Sq.pu ok hm Want.none (Pu.assign rfl) rfl ?_
      refine Sq.finH (n := 25) ok hm (by repeat (first
    | exact Keep.nil
    | apply Keep.drop rfl
    | apply Keep.keep rfl)) ?_
      refine Ex.seq ok hm ?_
      refine Ex.cut [(8, .int .u64 (vV v n : Nat)), (7, .int .i64 (n : Int)), (6, .int .i64 (i : Int)), (5, bufV c i), (4, .pointer (some ⟨2, 0, none⟩)), (3, .pointer (some ⟨1, 0, none⟩)), (0, .slice (some ⟨0, 0, none⟩) l.length l.length)] (fun M' => M' = M3) ?_ ?_
      · by_cases h64 : n < 64
        · have e64 : (1 : Int) * 2 ^ ((n : Nat) : Int).toNat % 18446744073709551616 = ((2 ^ n : Nat) : Int) := by
            rw [Int.toNat_natCast]
            have h1 : (2 : Nat) ^ n ≤ 2 ^ 63 := Nat.pow_le_pow_right (by omega) (by omega)
            have h2 : (2 : Nat) ^ 63 = 9223372036854775808 := by decide
            have h3 : (1 : Int) * 2 ^ n = ((2 ^ n : Nat) : Int) := by simp
            rw [h3]; omega
          have hvv : (v : Int) % ((2 ^ n : Nat) : Int) = ((vV v n : Nat) : Int) := by unfold vV; rw [if_pos h64]; simp
          (repeat (first
    | refine Ex.seq ok hm ?_
    | refine Ex.region ok hm ?_
    | refine Sq.pu ok hm Want.none (by first
    | exact Pu.move rfl
    | exact Pu.assign rfl
    | exact Pu.rem rfl rfl (by omega) (by omega)
    | exact Pu.lssI rfl rfl
    | exact Pu.shlU64 rfl rfl (by omega) (by omega)) rfl ?_
    | refine Sq.finH (n := 25) ok hm (by repeat (first
    | exact Keep.nil
    | apply Keep.drop rfl
    | apply Keep.keep rfl)) ?_
    | refine Ex.condT ok hm rfl (by first
    | rfl
    | exact decide_eq_true (by omega)) ?_))
          rw [e64, hvv]
          exact ⟨rfl, ⟨rfl, rfl, rfl, rfl, rfl, rfl, rfl, trivial⟩, rfl⟩
        · have hvv : vV v n = v := by unfold vV; rw [if_neg h64]
          rw [hvv]
          (repeat (first
    | refine Ex.seq ok hm ?_
    | refine Ex.skip ok hm ?_
    | refine Ex.region ok hm ?_
    | refine Sq.pu ok hm Want.none (by first
    | exact Pu.move rfl
    | exact Pu.lssI rfl rfl) rfl ?_
    | refine Sq.finH (n := 25) ok hm (by repeat (first
    | exact Keep.nil
    | apply Keep.drop rfl
    | apply Keep.keep rfl)) ?_
    | refine Ex.condF ok hm rfl (by first
    | rfl
    | exact decide_eq_false (by omega)) ?_))
          exact ⟨rfl, ⟨rfl, rfl, rfl, rfl, rfl, rfl, rfl, trivial⟩, rfl⟩
      rintro M4 rfl
      generalize vV v n = w at hsu hvl hvl2 ⊢
      refine Ex.seq ok hm ?_
      refine Ex.cut [(8, .int .u64 (w : Nat)), (7, .int .i64 (n : Int)), (6, .int .i64 (i : Int)), (5, bufV (M4.next + 1) (i + 1)), (4, .pointer (some ⟨2, 0, none⟩)), (3, .pointer (some ⟨1, 0, none⟩)), (0, .slice (some ⟨0, 0, none⟩) l.length l.length)]
        (fun M' => Fr M4 M' [c] ∧ M'.get (M4.next + 1) = some (.row (posL l (i + 1)) 1 (some (3, 0))) ∧ M'.next = M4.next + 2) ?_ ?_
      · (repeat (first
    | refine Ex.region ok hm ?_
    | refine Sq.pu ok hm Want.none (by exact Pu.move rfl) rfl ?_))
        refine Sq.call ok Want.none (Op1.call rfl rfl fn12) rfl (FnC.mono (len_ok hW) ?_)
        rintro x M5 ⟨rfl, rfl⟩
        (repeat (refine Sq.op ok hm Want.none (Op1.buildSlice hT rfl rfl rfl rfl rfl rfl rfl) rfl ?_))
        refine Sq.op ok hm Want.none (Op1.appendBuf hT rfl rfl (fun h => (AM.add_ne (by have := hdc h; omega)).trans (hc h)) (posL_length l i) (fun h => by omega) rfl rfl rfl rfl rfl (Src.slice (n := 1) (by (repeat (exact AM.add_same))) (Nat.le_of_ble_eq_true rfl)) (by decide) (by omega) rfl rfl rfl) rfl ?_
        refine Sq.pu ok hm Want.none (Pu.assign rfl) rfl ?_
        refine Sq.finH (n := 25) ok hm (by repeat (first
    | exact Keep.nil
    | apply Keep.drop rfl
    | apply Keep.keep rfl)) ?_
        refine ⟨rfl, ⟨rfl, rfl, rfl, rfl, rfl, rfl, rfl, trivial⟩, (((Fr.refl _ _).add' _).rm' (.inl (by simp))).add' _, ?_, rfl⟩
        rw [posL_succ]
        exact AM.add_same
      rintro M6 ⟨hF6, hc6, hnx6⟩
      have hW6 : WrAt M6 1 q (bitsB l i) := hW.frame hF6 (by omega) (fun k => by have := hd k; omega) (by simp; omega) (fun k => by
        have h1 : i ≠ 0 := by intro e; subst e; exact k rfl
        have := (hdc h1).2 k; simp; omega)
      have hP6 : WrAt M6 2 q2 (bitsB l i) := hP.frame hF6 (by omega) (fun k => by have := hd k; omega) (by simp; omega) (fun k => by
        have h1 : i ≠ 0 := by intro e; subst e; exact k rfl
        have := (hdc h1).2 k; simp; omega)
      have hg6 : M6.get 0 = some (.row (rowP l) 4 none) := (hF6.get 0 (by omega) (by simp; omega)).trans hg'
      have hput : putE (bitsB l i) w (n : Int) = (0, bitsB l i ++ ofN w n) := by
        unfold putE
        rw [if_neg, if_neg (by omega), Int.toNat_natCast]
        rw [Int.toNat_natCast, Nat.div_eq_of_lt hvl]
        omega
      have hro6 : 1 ≤ pick M6 q (bitsB l i) := by
        unfold pick
        by_cases hz : bitsB l i = []
        · rw [if_pos hz]; omega
        · rw [if_neg hz]; have := hd hz; omega
      (repeat (first
    | refine Ex.seq ok hm ?_
    | refine Ex.region ok hm ?_
    | refine Sq.pu ok hm Want.none (by exact Pu.move rfl) rfl ?_))
      refine Sq.call ok Want.none (Op1.call rfl rfl fn9) rfl (FnC.mono (Put_ok (v := w) (n := n) (by omega) hro6 (hW6.re (by omega)) hvl2 (by simp only [InR]; omega) (by omega)) ?_)
      rintro x M7 ⟨rfl, hW7⟩
      rw [hput] at hW7 ⊢
      obtain ⟨q3, hW7, hF7, hq7, hro7⟩ := hW7
      have hW7 : WrAt M7 1 q3 (bitsB l i ++ ofN w n) := hW7
      have hnx7 := hF7.next
      have hpk6 : pick M6 q (bitsB l i) = M6.next ∧ bitsB l i = [] ∨ pick M6 q (bitsB l i) = q ∧ bitsB l i ≠ [] := by
        unfold pick
        by_cases hz : bitsB l i = []
        · rw [if_pos hz]; exact .inl ⟨rfl, hz⟩
        · rw [if_neg hz]; exact .inr ⟨rfl, hz⟩
      have hP7 : WrAt M7 2 q2 (bitsB l i) := hP6.frame hF7 (by omega) (fun k => by have := hd k; omega)
        (by rcases hpk6 with ⟨h1, h2⟩ | ⟨h1, h2⟩ <;> rw [h1]
            · simp; omega
            · have := hd h2; simp; omega)
        (fun k => by
          rcases hpk6 with ⟨h1, h2⟩ | ⟨h1, h2⟩
          · exact absurd h2 k
          · rw [h1]; have := hd h2; simp; omega)
      have hnp : ∀ b, b < M4.next + 2 → b ≠ 1 → (bitsB l i ≠ [] → b ≠ q) → b ∉ [1, pick M6 q (bitsB l i)] := by
        intro b g1 g2 g3
        rcases hpk6 with ⟨h1, h2⟩ | ⟨h1, h2⟩ <;> rw [h1]
        · simp; omega
        · have := g3 h2; simp; omega
      have hc7 : M7.get (M4.next + 1) = some (.row (posL l (i + 1)) 1 (some (3, 0))) := (hF7.get _ (by omega) (hnp _ (by omega) (by omega) (fun k => by have := hd k; omega))).trans hc6
      have hg7 : M7.get 0 = some (.row (rowP l) 4 none) := (hF7.get _ (by omega) (hnp _ (by omega) (by omega) (fun k => by have := hd k; omega))).trans hg6
      have hpk7 : pick M7 q2 (bitsB l i) = M7.next ∧ bitsB l i = [] ∨ pick M7 q2 (bitsB l i) = q2 ∧ bitsB l i ≠ [] := by
        unfold pick
        by_cases hz : bitsB l i = []
        · rw [if_pos hz]; exact .inl ⟨rfl, hz⟩
        · rw [if_neg hz]; exact .inr ⟨rfl, hz⟩
      (repeat (first
    | refine Ex.seq ok hm ?_
    | refine Ex.block ok hm ?_
    | refine Ex.skip ok hm ?_
    | refine Ex.region ok hm ?_
    | refine Sq.pu ok hm Want.none (by first
    | exact Pu.move rfl
    | exact Pu.assign rfl
    | exact Pu.sub rfl rfl (by simp only [InR]; omega)
    | exact Pu.neqI rfl rfl) rfl ?_
    | refine Sq.finH (n := 25) ok hm (by repeat (first
    | exact Keep.nil
    | apply Keep.drop rfl
    | apply Keep.keep rfl)) ?_
    | refine Ex.condF ok hm rfl (by rfl) ?_))
      refine Ex.facts fun hlt7 hron7 => ?_
      have hq37 : bitsB l i ++ ofN w n ≠ [] → q3 < M7.next := fun k => hlt7 _ _ (hW7.buf (packL_ne.2 k))
      refine Ex.loop ?_
      refine Lp.inv ok hm (α := Nat × Nat)
        (fun x E M' => E = [(9, .int .i64 ((n : Int) - 1 - x.1)), (8, .int .u64 (w : Nat)), (7, .int .i64 (n : Int)), (6, .int .i64 (i : Int)), (5, bufV (M4.next + 1) (i + 1)), (4, .pointer (some ⟨2, 0, none⟩)), (3, .pointer (some ⟨1, 0, none⟩)), (0, .slice (some ⟨0, 0, none⟩) l.length l.length)] ∧ x.1 ≤ n ∧
          WrAt M' 2 x.2 (bitsB l i ++ (ofN w n).take x.1) ∧ Fr M7 M' [2, pick M7 q2 (bitsB l i)] ∧ (x.2 = pick M7 q2 (bitsB l i) ∨ M7.next ≤ x.2) ∧ 1 ≤ x.2)
        (fun x => n - x.1) ?_ (0, pick M7 q2 (bitsB l i)) [(9, .int .i64 ((n : Int) - 1 - (0 : Nat))), (8, .int .u64 (w : Nat)), (7, .int .i64 (n : Int)), (6, .int .i64 (i : Int)), (5, bufV (M4.next + 1) (i + 1)), (4, .pointer (some ⟨2, 0, none⟩)), (3, .pointer (some ⟨1, 0, none⟩)), (0, .slice (some ⟨0, 0, none⟩) l.length l.length)]
        ⟨by rw [show (n : Int) - 1 - (0 : Nat) = n - 1 by omega]; rfl, rfl, rfl, rfl, rfl, rfl, rfl, rfl, trivial⟩ ⟨rfl, Nat.zero_le _, by rw [List.take_zero, List.append_nil]; exact hP7.re (by omega), Fr.refl _ _, .inl rfl, ?_⟩
      · intro ⟨j, q4⟩ E M8 ⟨hE, hj, hP8, hF8, hq8, hro8⟩
        simp only at hE hj hP8 hq8 hro8
        subst hE
        have hnx8 := hF8.next
        refine Ex.facts fun hlt8 hron8 => ?_
        have hq48 : bitsB l i ++ (ofN w n).take j ≠ [] → q4 < M8.next := fun k => hlt8 _ _ (hP8.buf (packL_ne.2 k))
        by_cases hjn : j = n
        · subst hjn
          rw [List.take_of_length_le (by rw [ofN_length]; omega), ← hsu] at hP8 hq48
          rw [← hsu] at hW7 hq37
          have hsne : bitsB l i ≠ [] → bitsB l (i + 1) ≠ [] := by
            intro k e; rw [hsu] at e; exact k (List.append_eq_nil_iff.1 e).1
          have hnp8 : ∀ b, b < M7.next → b ≠ 2 → (bitsB l i ≠ [] → b ≠ q2) → b ∉ [2, pick M7 q2 (bitsB l i)] := by
            intro b g1 g2 g3
            rcases hpk7 with ⟨h1, h2⟩ | ⟨h1, h2⟩ <;> rw [h1]
            · simp; omega
            · have := g3 h2; simp; omega
          have hq3b : 3 ≤ q3 ∧ M4.next + 1 ≠ q3 ∧ (bitsB l i ≠ [] → q3 ≠ q2) := by
            rcases hq7 with g | g
            · rcases hpk6 with ⟨h1, h2⟩ | ⟨h1, h2⟩
              · exact ⟨by omega, by omega, fun k => absurd h2 k⟩
              · have := hd h2
                exact ⟨by omega, by omega, fun _ => by omega⟩
            · exact ⟨by omega, by omega, fun k => by have := hd k; omega⟩
          have hq4b : 3 ≤ q4 ∧ M4.next + 1 ≠ q4 := by
            rcases hq8 with g | g
            · rcases hpk7 with ⟨h1, h2⟩ | ⟨h1, h2⟩
              · omega
              · have := hd h2; omega
            · omega
          have hq34 : bitsB l (i + 1) ≠ [] → q3 ≠ q4 := fun k => by
            have g0 := hq37 k
            rcases hq8 with g | g
            · rcases hpk7 with ⟨h1, h2⟩ | ⟨h1, h2⟩
              · omega
              · have := hq3b.2.2 h2; omega
            · omega
          (repeat (first
    | refine Ex.seq ok hm ?_
    | refine Ex.region ok hm ?_
    | refine Sq.pu ok hm Want.none (by first
    | exact Pu.move rfl
    | exact Pu.assign rfl
    | exact Pu.add rfl rfl (by simp only [InR]; omega)
    | exact Pu.geqI rfl rfl) rfl ?_
    | refine Sq.finH (n := 25) ok hm (by repeat (first
    | exact Keep.nil
    | apply Keep.drop rfl
    | apply Keep.keep rfl)) ?_
    | refine Ex.condF ok hm rfl (by first
    | rfl
    | exact decide_eq_false (by omega)) ?_
    | refine Ex.exit ok hm ?_))
          refine ⟨(i + 1, M4.next + 1), [(6, .int .i64 ((i + 1 : Nat) : Int)), (5, bufV (M4.next + 1) (i + 1)), (4, .pointer (some ⟨2, 0, none⟩)), (3, .pointer (some ⟨1, 0, none⟩)), (0, inV nil 0 l.length)], ?_, ⟨rfl, rfl, rfl, rfl, ?_, trivial⟩, ?_, by simp only; omega, by simp only; omega, q3, q4,
            hW7.frame hF8 (by omega) hq37 (hnp8 1 (by omega) (by omega) (fun k => by have := hd k; omega)) (fun k => hnp8 q3 (hq37 k) (by omega) hq3b.2.2), hP8, by omega,
            fun _ => (hF8.get 0 (by omega) (hnp8 0 (by omega) (by omega) (fun k => by have := hd k; omega))).trans hg7, fun _ => (hF8.get _ (by omega) (hnp8 _ (by omega) (by omega) (fun k => by have := hd k; omega))).trans hc7,
            fun k => ⟨hq3b.1, by have := hq37 k; omega, hq4b.1, hq48 k, hq34 k⟩, by simp only; omega, fun _ => ⟨by simp only; omega, fun _ => ⟨hq3b.2.1, hq4b.2⟩⟩⟩
          · show 200 - (i + 1) < 200 - i
            omega
          · rw [inV_pos 0 l.length hnil (by omega)]; rfl
          · rw [inV_pos 0 l.length hnil (by omega)]
        · have hd2 := div_bd w ((n : Int) - 1 - j).toNat
          (repeat (first
    | refine Ex.seq ok hm ?_
    | refine Ex.block ok hm ?_
    | refine Ex.skip ok hm ?_
    | refine Ex.region ok hm ?_
    | refine Sq.pu ok hm Want.none (by first
    | exact Pu.move rfl
    | exact Pu.geqI rfl rfl
    | exact Pu.eqlI rfl rfl
    | exact Pu.shr rfl rfl (by omega) (by omega) (by simp only [InR]; omega)
    | exact Pu.and rfl rfl (by omega) (by omega) (by simp only [InR]; omega) (by simp only [InR]; omega)) rfl ?_
    | refine Sq.finH (n := 25) ok hm (by repeat (first
    | exact Keep.nil
    | apply Keep.drop rfl
    | apply Keep.keep rfl)) ?_
    | refine Ex.condT ok hm rfl (by first
    | rfl
    | exact decide_eq_true (by omega)) ?_))
          have hbit := bit_eq w (n - 1 - j)
          rw [show ((n : Int) - 1 - j).toNat = n - 1 - j by omega, hbit]
          have hl8 : (bitsB l i ++ (ofN w n).take j).length ≤ 134217727 := by
            rw [List.length_append, List.length_take]; omega
          have hpk8 : pick M8 q4 (bitsB l i ++ (ofN w n).take j) = M8.next ∨ pick M8 q4 (bitsB l i ++ (ofN w n).take j) = q4 := by
            unfold pick
            split
            · exact .inl rfl
            · exact .inr rfl
          have hst : (ofN w n).take (j + 1) = (ofN w n).take j ++ [w.testBit (n - 1 - j)] := by
            rw [take_snoc _ j (by rw [ofN_length]; omega), List.getD_eq_getElem?_getD, ofN_getElem?, if_pos (by omega)]; rfl
          refine Sq.call ok Want.none (Op1.call rfl rfl fn29) rfl (FnC.mono (Bit_ok (b := w.testBit (n - 1 - j)) (by omega) (by rcases hpk8 with h | h <;> omega) (hP8.re (by omega)) (by omega)) ?_)
          rintro x M9 ⟨rfl, hW9⟩
          rw [if_neg (by omega)] at hW9 ⊢
          obtain ⟨q5, hP9, hF9, hq9, hro9⟩ := hW9
          (repeat (first
    | refine Ex.region ok hm ?_
    | refine Sq.pu ok hm Want.none (by first
    | exact Pu.move rfl
    | exact Pu.assign rfl
    | exact Pu.sub rfl rfl (by simp only [InR]; omega)) rfl ?_
    | refine Sq.finH (n := 25) ok hm (by repeat (first
    | exact Keep.nil
    | apply Keep.drop rfl
    | apply Keep.keep rfl)) ?_))
          refine ⟨(j + 1, q5), [(9, .int .i64 ((n : Int) - 1 - (j + 1 : Nat))), (8, .int .u64 (w : Nat)), (7, .int .i64 (n : Int)), (6, .int .i64 (i : Int)), (5, bufV (M4.next + 1) (i + 1)), (4, .pointer (some ⟨2, 0, none⟩)), (3, .pointer (some ⟨1, 0, none⟩)), (0, .slice (some ⟨0, 0, none⟩) l.length l.length)], ?_, ⟨?_, rfl, rfl, rfl, rfl, rfl, rfl, rfl, trivial⟩, rfl, by simp only; omega, ?_, hF8.trans hF9 (fun b hb => ?_), ?_, hro9⟩
          · show n - (j + 1) < n - j
            omega
          · rw [show (n : Int) - 1 - (j + 1 : Nat) = (n : Int) - 1 - j - 1 by omega]; rfl
          · simp only
            rw [hst, ← List.append_assoc]; exact hP9
          · simp only [List.mem_cons, List.not_mem_nil, or_false] at hb ⊢
            rcases hb with h | h
            · exact .inl (.inl h)
            · rcases hpk8 with g | g
              · right; omega
              · rcases hq8 with g2 | g2
                · left; right; omega
                · right; omega
          · simp only
            rcases hq9 with g | g
            · rcases hpk8 with g2 | g2
              · right; omega
              · rcases hq8 with g3 | g3
                · left; omega
                · right; omega
            · right; omega
      · rcases hpk7 with ⟨h1, h2⟩ | ⟨h1, h2⟩
        · simp only; omega
        · have := hd h2; simp only; omega
    · by_cases hil : i < l.length
      all_goals
        have hnx3 := hnx3
        obtain ⟨L, hLd⟩ : ∃ L, bitsB l i = L := ⟨_, rfl⟩
        have hbl := bitsB_length l i
        (repeat (first
    | refine Ex.seq ok hm ?_
    | refine Ex.region ok hm ?_
    | refine Sq.pu ok hm Want.none (by first
    | exact Pu.move rfl
    | exact Pu.lssI rfl rfl
    | exact Pu.lenIn hT (by assumption) rfl rfl
    | exact Pu.pickT rfl (by first
    | rfl
    | exact decide_eq_true (by omega)) rfl
    | exact Pu.pickF rfl (by first
    | rfl
    | exact decide_eq_false (by omega)) rfl) rfl ?_
    | refine Sq.pu ok hm (by first
    | exact Want.none
    | exact Want.yes rfl rfl rfl (by first
    | rfl
    | exact decide_eq_true (by omega))) (by first
    | exact Pu.move rfl
    | exact Pu.lssI rfl rfl) rfl ?_
    | refine Sq.skip ok hm (by exact Want.no rfl rfl rfl (by first
    | rfl
    | exact decide_eq_false (by omega))) rfl ?_
    | refine Sq.finH (n := 25) ok hm (by repeat (first
    | exact Keep.nil
    | apply Keep.drop rfl
    | apply Keep.keep rfl)) ?_
    | refine Ex.condF ok hm rfl (by first
    | rfl
    | exact decide_eq_false (by omega)) ?_
    | refine Ex.exit ok hm ?_))
        refine Sq.call ok Want.none (Op1.call rfl rfl fn10) rfl (FnC.mono (text_ok hW) ?_)
        rintro x M4 ⟨rfl, rfl⟩
        (repeat (first
    | refine Ex.seq ok hm ?_
    | refine Ex.region ok hm ?_
    | refine Sq.pu ok hm Want.none (by first
    | exact Pu.move rfl
    | exact Pu.assign rfl
    | exact Pu.extract rfl rfl) rfl ?_
    | refine Sq.finH (n := 25) ok hm (by repeat (first
    | exact Keep.nil
    | apply Keep.drop rfl
    | apply Keep.keep rfl)) ?_))
        refine Sq.call ok Want.none (Op1.call rfl rfl fn10) rfl (FnC.mono (text_ok hP) ?_)
        rintro x M5 ⟨rfl, rfl⟩
        (repeat (first
    | refine Ex.seq ok hm ?_
    | refine Ex.region ok hm ?_
    | refine Sq.pu ok hm Want.none (by first
    | exact Pu.move rfl
    | exact Pu.assign rfl
    | exact Pu.extract rfl rfl) rfl ?_
    | refine Sq.finH (n := 25) ok hm (by repeat (first
    | exact Keep.nil
    | apply Keep.drop rfl
    | apply Keep.keep rfl)) ?_))
        refine Sq.call ok Want.none (Op1.call rfl rfl fn14) rfl (FnC.mono open_ok ?_)
        rintro x M6 ⟨rfl, rfl⟩
        obtain ⟨r, hr⟩ : ∃ r, M5.next = r := ⟨_, rfl⟩
        have hR6 : RdAt (M5.add (rdO (txt (bitsB l i)) 0)) r (txt (bitsB l i)) 0 := by rw [← hr]; exact AM.add_same
        have hn6 : (M5.add (rdO (txt (bitsB l i)) 0)).next = r + 1 := by simp only [AM.next_add]; omega
        rw [hr]
        (repeat (first
    | refine Ex.seq ok hm ?_
    | refine Ex.block ok hm ?_
    | refine Ex.region ok hm ?_
    | refine Sq.pu ok hm Want.none (by first
    | exact Pu.move rfl
    | exact Pu.assign rfl
    | exact Pu.sub rfl rfl (by simp only [InR]; omega)
    | exact Pu.lenBuf hT rfl rfl) rfl ?_
    | refine Sq.finH (n := 25) ok hm (by repeat (first
    | exact Keep.nil
    | apply Keep.drop rfl
    | apply Keep.keep rfl)) ?_))
        refine Ex.loop ?_
        refine Lp.inv ok hm (α := Nat)
          (fun j E M' => E = [(15, .int .i64 ((j : Int) - 1)), (14, .pointer (some ⟨r, 0, none⟩)), (13, .int .i64 0), (12, .string ⟨⟨txt (bitsB l i)⟩⟩), (11, .int .i64 0), (10, .string ⟨⟨txt (bitsB l i)⟩⟩), (5, bufV c i), (3, .pointer (some ⟨1, 0, none⟩)), (0, inV nil 0 l.length)] ∧ j ≤ i ∧ ∃ at', at' ≤ 8 * (txt (bitsB l i)).length ∧ RdAt M' r (txt (bitsB l i)) at' ∧ Fr (M5.add (rdO (txt (bitsB l i)) 0)) M' [r])
          (fun j => j) ?_ i [(15, .int .i64 ((i : Int) - 1)), (14, .pointer (some ⟨r, 0, none⟩)), (13, .int .i64 0), (12, .string ⟨⟨txt (bitsB l i)⟩⟩), (11, .int .i64 0), (10, .string ⟨⟨txt (bitsB l i)⟩⟩), (5, bufV c i), (3, .pointer (some ⟨1, 0, none⟩)), (0, inV nil 0 l.length)] ⟨rfl, rfl, rfl, rfl, rfl, rfl, rfl, rfl, rfl, trivial⟩ ⟨rfl, Nat.le_refl _, 0, Nat.zero_le _, hR6, Fr.refl _ _⟩
        intro j E M7 ⟨hE, hj, at', hat, hR7, hF7⟩
        subst hE
        by_cases hj0 : j = 0
        · subst hj0
          have hs7 := txt_length (bitsB l i)
          have hW7 : WrAt M7 1 q (bitsB l i) := by
            have f5 : Fr M5 (M5.add (rdO (txt (bitsB l i)) 0)) [] := Fr.add _ _ _
            have g5 := hW.frame f5 (by omega) (fun k => by have := hd k; omega) (by simp) (fun _ => by simp)
            exact g5.frame hF7 (by omega) (fun k => by have := hd k; omega) (by simp; omega) (fun k => by have := hd k; simp; omega)
          (repeat (first
    | refine Ex.seq ok hm ?_
    | refine Ex.region ok hm ?_
    | refine Sq.pu ok hm Want.none (by first
    | exact Pu.move rfl
    | exact Pu.geqI rfl rfl) rfl ?_
    | refine Sq.finH (n := 25) ok hm (by repeat (first
    | exact Keep.nil
    | apply Keep.drop rfl
    | apply Keep.keep rfl)) ?_
    | refine Ex.condF ok hm rfl (by rfl) ?_
    | refine Ex.exit ok hm ?_))
          refine Sq.call ok Want.none (Op1.call rfl rfl fn12) rfl (FnC.mono (len_ok hW7) ?_)
          rintro x M8 ⟨rfl, rfl⟩
          (repeat (fail))
          have hrange : 0 ≤ ((bitsB l i).length : Int) ∧ ((bitsB l i).length : Int) ≤ 8 * ((txt (bitsB l i)).length : Int) := by omega
          refine Sq.call ok Want.none (Op1.call rfl rfl fn20) rfl (FnC.mono (seek_ok (n := ((bitsB l i).length : Int)) (by omega) hR7 (by simp only [InR]; omega) (by omega)) ?_)
          rintro x M9 ⟨rfl, hR9, hF9⟩
          rw [if_pos hrange] at hR9 ⊢
          rw [Int.toNat_natCast] at hR9
          (repeat (first
    | refine Ex.seq ok hm ?_
    | refine Ex.region ok hm ?_
    | refine Sq.pu ok hm Want.none (by first
    | exact Pu.move rfl
    | exact Pu.assign rfl) rfl ?_
    | refine Sq.finH (n := 25) ok hm (by repeat (first
    | exact Keep.nil
    | apply Keep.drop rfl
    | apply Keep.keep rfl)) ?_))
          refine Sq.call ok Want.none (Op1.call rfl rfl fn23) rfl (FnC.mono (left_ok hR9 (by omega) (by omega)) ?_)
          rintro x M10 ⟨rfl, rfl⟩
          obtain ⟨m, hm8⟩ : ∃ m : Nat, 8 * ((txt (bitsB l i)).length : Int) - ((bitsB l i).length : Int) = m := ⟨8 * (txt (bitsB l i)).length - (bitsB l i).length, by omega⟩
          rw [hm8]
          have hmm : m < 8 := by omega
          have hte : takeE (txt (bitsB l i)) (bitsB l i).length (m : Int) = (0, 0, (bitsB l i).length + m) := by
            unfold takeE
            rw [if_neg (by omega), if_neg (by omega), Int.toNat_natCast, midT_rest _ _ (by omega)]
          (repeat (first
    | refine Ex.seq ok hm ?_
    | refine Ex.region ok hm ?_
    | refine Sq.pu ok hm Want.none (by first
    | exact Pu.move rfl
    | exact Pu.assign rfl) rfl ?_
    | refine Sq.finH (n := 25) ok hm (by repeat (first
    | exact Keep.nil
    | apply Keep.drop rfl
    | apply Keep.keep rfl)) ?_))
          refine Sq.call ok Want.none (Op1.call rfl rfl fn18) rfl (FnC.mono (take_ok (n := (m : Int)) (by omega) hR9 (by simp only [InR]; omega) (by omega) (by omega)) ?_)
          rintro x M11 ⟨rfl, hR11, hF11⟩
          rw [hte]
          (repeat (first
    | refine Ex.seq ok hm ?_
    | refine Ex.region ok hm ?_
    | refine Sq.pu ok hm Want.none (by first
    | exact Pu.move rfl
    | exact Pu.assign rfl
    | exact Pu.extract rfl rfl
    | exact Pu.lssI rfl rfl
    | exact Pu.eqlI rfl rfl
    | exact Pu.eqlS rfl rfl
    | exact Pu.pickT rfl (by first
    | rfl
    | exact decide_eq_true (by omega)
    | (simp; done)) rfl) rfl ?_
    | refine Sq.pu ok hm (by exact Want.yes rfl rfl rfl (by first
    | rfl
    | exact decide_eq_true (by omega)
    | (simp; done))) (by first
    | exact Pu.move rfl
    | exact Pu.lssI rfl rfl
    | exact Pu.eqlI rfl rfl
    | exact Pu.eqlS rfl rfl) rfl ?_
    | refine Sq.finH (n := 25) ok hm (by repeat (first
    | exact Keep.nil
    | apply Keep.drop rfl
    | apply Keep.keep rfl)) ?_))
          refine Sq.call ok (by exact Want.yes rfl rfl rfl (by rfl)) (Op1.call rfl rfl fn13) rfl (FnC.mono awake_ok ?_)
          rintro x M12 ⟨rfl, rfl⟩
          (repeat (first
    | refine Sq.pu ok hm Want.none (by first
    | exact Pu.assign rfl
    | exact Pu.pickT rfl (by rfl) rfl) rfl ?_
    | refine Sq.finH (n := 25) ok hm (by repeat (first
    | exact Keep.nil
    | apply Keep.drop rfl
    | apply Keep.keep rfl)) ?_
    | refine Ex.ret ok hm ?_))
          exact ⟨_, .tmp rfl .nil, rfl⟩
        · obtain ⟨k, rfl⟩ : ∃ k, j = k + 1 := ⟨j - 1, by omega⟩
          rw [show ((k + 1 : Nat) : Int) - 1 = (k : Int) by omega]
          have hkl : k < l.length := by omega
          obtain ⟨hw1, hw2, hw3⟩ := hwf (l[k]'hkl) (List.getElem_mem hkl)
          have hrg := rowP_get l k hkl
          have hkn : (rowP l)[0 + ((k : Nat) : Int).toNat * 4 + 2]? = some (.int .i64 (l[k]'hkl).n) := by
            have := congrArg (fun y => y[2]?) hrg
            rw [List.getElem?_take, if_pos (by omega), List.getElem?_drop] at this
            rw [Int.toNat_natCast, Nat.zero_add]; exact this
          have hkv : (rowP l)[0 + ((k : Nat) : Int).toNat * 4 + 1]? = some (.int .u64 ((l[k]'hkl).v : Int)) := by
            have := congrArg (fun y => y[1]?) hrg
            rw [List.getElem?_take, if_pos (by omega), List.getElem?_drop] at this
            rw [Int.toNat_natCast, Nat.zero_add]; exact this
          have hpk : (posL l i)[0 + ((k : Nat) : Int).toNat * 1]? = some (.int .i64 ((bitsB l k).length : Int)) := by
            rw [Int.toNat_natCast, Nat.zero_add, Nat.mul_one]
            simp only [posL]
            rw [List.getElem?_map, List.getElem?_range (by omega)]; rfl
          have hg7 : M7.get 0 = some (.row (rowP l) 4 none) := (hF7.get 0 (by omega) (by simp; omega)).trans ((AM.add_ne (by omega)).trans (hg (by omega)))
          have hc7 : M7.get c = some (.row (posL l i) 1 (some (3, 0))) := (hF7.get c (by have := (hdc (by omega)).1; omega) (by have := (hdc (by omega)).1; simp; omega)).trans ((AM.add_ne (by have := (hdc (by omega)).1; omega)).trans (hc (by omega)))
          have hbk := bitsB_length l k
          (repeat (first
    | refine Ex.seq ok hm ?_
    | refine Ex.block ok hm ?_
    | refine Ex.skip ok hm ?_
    | refine Ex.region ok hm ?_
    | refine Sq.pu ok hm Want.none (by first
    | exact Pu.move rfl
    | exact Pu.geqI rfl rfl) rfl ?_
    | refine Sq.finH (n := 25) ok hm (by repeat (first
    | exact Keep.nil
    | apply Keep.drop rfl
    | apply Keep.keep rfl)) ?_
    | refine Ex.condT ok hm rfl (by rfl) ?_))
          rw [inV_pos 0 l.length hnil (by omega)]
          (repeat (refine Sq.pu ok hm Want.none (by first
    | exact Pu.fieldAddr hT rfl rfl rfl rfl rfl
    | exact Pu.indexAddr hT rfl rfl rfl rfl (by omega) (by omega)) rfl ?_))
          refine Sq.pu ok hm Want.none (Pu.load hT rfl rfl rfl hg7 hkn) rfl ?_
          have ht := tmod65 (l[k]'hkl).n
          refine Sq.pu ok hm Want.none (remT rfl rfl (by decide)) rfl ?_
          refine Sq.pu ok hm Want.none (Pu.add rfl rfl (by simp only [InR]; omega)) rfl ?_
          refine Sq.pu ok hm Want.none (Pu.rem rfl rfl (by omega) (by decide)) rfl ?_
          rw [wN_eq]
          have hseg : (l[k]'hkl).seg = ofN (vV (l[k]'hkl).v (wN (l[k]'hkl).n)) (wN (l[k]'hkl).n) := rfl
          have hin := bitsB_in l k i (by omega) (by omega)
          rw [hseg] at hin
          have hn64 := wN_le (l[k]'hkl).n
          have hvl := vV_lt hw2 hn64
          have hvl2 := vV_lt2 hw2 hn64
          clear hseg ht hw3 hkn
          generalize wN (l[k]'hkl).n = n at hin hn64 hvl hvl2 ⊢
          generalize (l[k]'hkl).v = v at hkv hw2 hin hvl hvl2 ⊢
          (repeat (first
    | refine Ex.seq ok hm ?_
    | refine Ex.region ok hm ?_
    | refine Sq.pu ok hm Want.none (by first
    | exact Pu.move rfl
    | exact Pu.assign rfl
    | exact Pu.fieldAddr hT rfl rfl rfl rfl rfl
    | exact Pu.indexAddr hT rfl rfl rfl rfl (by omega) (by omega)) rfl ?_
    | refine Sq.finH (n := 25) ok hm (by repeat (first
    | exact Keep.nil
    | apply Keep.drop rfl
    | apply Keep.keep rfl)) ?_))
          refine Sq.pu ok hm Want.none (Pu.load hT rfl rfl rfl hg7 hkv) rfl ?_
          refine Sq.pu ok hm Want.none (Pu.assign rfl) rfl ?_
          refine Sq.finH (n := 25) ok hm (by repeat (first
    | exact Keep.nil
    | apply Keep.drop rfl
    | apply Keep.keep rfl)) ?_
          refine Ex.seq ok hm ?_
          refine Ex.cut [(17, .int .u64 (vV v n : Nat)), (16, .int .i64 (n : Int)), (15, .int .i64 (k : Int)), (14, .pointer (some ⟨r, 0, none⟩)), (13, .int .i64 0), (12, .string ⟨⟨txt (bitsB l i)⟩⟩), (11, .int .i64 0), (10, .string ⟨⟨txt (bitsB l i)⟩⟩), (5, bufV c i), (3, .pointer (some ⟨1, 0, none⟩)), (0, .slice (some ⟨0, 0, none⟩) l.length l.length)] (fun M' => M' = M7) ?_ ?_
          · by_cases h64 : n < 64
            · have e64 : (1 : Int) * 2 ^ ((n : Nat) : Int).toNat % 18446744073709551616 = ((2 ^ n : Nat) : Int) := by
                rw [Int.toNat_natCast]
                have h1 : (2 : Nat) ^ n ≤ 2 ^ 63 := Nat.pow_le_pow_right (by omega) (by omega)
                have h2 : (2 : Nat) ^ 63 = 9223372036854775808 := by decide
                have h3 : (1 : Int) * 2 ^ n = ((2 ^ n : Nat) : Int) := by simp
                rw [h3]; omega
              have hvv : (v : Int) % ((2 ^ n : Nat) : Int) = ((vV v n : Nat) : Int) := by unfold vV; rw [if_pos h64]; simp
              (repeat (first
    | refine Ex.seq ok hm ?_
    | refine Ex.region ok hm ?_
    | refine Sq.pu ok hm Want.none (by first
    | exact Pu.move rfl
    | exact Pu.assign rfl
    | exact Pu.rem rfl rfl (by omega) (by omega)
    | exact Pu.lssI rfl rfl
    | exact Pu.shlU64 rfl rfl (by omega) (by omega)) rfl ?_
    | refine Sq.finH (n := 25) ok hm (by repeat (first
    | exact Keep.nil
    | apply Keep.drop rfl
    | apply Keep.keep rfl)) ?_
    | refine Ex.condT ok hm rfl (by first
    | rfl
    | exact decide_eq_true (by omega)) ?_))
              rw [e64, hvv]
              exact ⟨rfl, ⟨rfl, rfl, rfl, rfl, rfl, rfl, rfl, rfl, rfl, rfl, rfl, trivial⟩, rfl⟩
            · have hvv : vV v n = v := by unfold vV; rw [if_neg h64]
              rw [hvv]
              (repeat (first
    | refine Ex.seq ok hm ?_
    | refine Ex.skip ok hm ?_
    | refine Ex.region ok hm ?_
    | refine Sq.pu ok hm Want.none (by first
    | exact Pu.move rfl
    | exact Pu.lssI rfl rfl) rfl ?_
    | refine Sq.finH (n := 25) ok hm (by repeat (first
    | exact Keep.nil
    | apply Keep.drop rfl
    | apply Keep.keep rfl)) ?_
    | refine Ex.condF ok hm rfl (by first
    | rfl
    | exact decide_eq_false (by omega)) ?_))
              exact ⟨rfl, ⟨rfl, rfl, rfl, rfl, rfl, rfl, rfl, rfl, rfl, rfl, rfl, trivial⟩, rfl⟩
          rintro M8 rfl
          generalize vV v n = w at hin hvl hvl2 ⊢
          rw [ofN_length] at hin
          have hs7 := txt_length (bitsB l i)
          have hte : takeE (txt (bitsB l i)) (bitsB l k).length (n : Int) = (w, 0, (bitsB l k).length + n) := by
            unfold takeE
            rw [if_neg (by omega), if_neg (by omega), Int.toNat_natCast, midT_txt _ _ _ hin.2, hin.1, valB_ofN, Nat.mod_eq_of_lt hvl]
          have hrange : 0 ≤ ((bitsB l k).length : Int) ∧ ((bitsB l k).length : Int) ≤ 8 * ((txt (bitsB l i)).length : Int) := by omega
          have hbuf : bufV c i = .slice (some ⟨c, 0, none⟩) i i := bufV_pos c i (by omega)
          (repeat (first
    | refine Ex.seq ok hm ?_
    | refine Ex.region ok hm ?_
    | refine Sq.pu ok hm Want.none (by exact Pu.move rfl) rfl ?_))
          rw [hbuf]
          (repeat (refine Sq.pu ok hm Want.none (by exact Pu.indexAddr hT rfl rfl rfl rfl (by omega) (by omega)) rfl ?_))
          refine Sq.pu ok hm Want.none (Pu.load hT rfl rfl rfl hc7 hpk) rfl ?_
          refine Sq.call ok Want.none (Op1.call rfl rfl fn20) rfl (FnC.mono (seek_ok (n := ((bitsB l k).length : Int)) (by omega) hR7 (by simp only [InR]; omega) (by omega)) ?_)
          rintro x M9 ⟨rfl, hR9, hF9⟩
          rw [if_pos hrange] at hR9 ⊢
          rw [Int.toNat_natCast] at hR9
          (repeat (first
    | refine Ex.seq ok hm ?_
    | refine Ex.region ok hm ?_
    | refine Sq.pu ok hm Want.none (by first
    | exact Pu.move rfl
    | exact Pu.assign rfl) rfl ?_
    | refine Sq.finH (n := 25) ok hm (by repeat (first
    | exact Keep.nil
    | apply Keep.drop rfl
    | apply Keep.keep rfl)) ?_))
          refine Sq.call ok Want.none (Op1.call rfl rfl fn18) rfl (FnC.mono (take_ok (n := (n : Int)) (by omega) hR9 (by simp only [InR]; omega) (by omega) (by omega)) ?_)
          rintro x M10 ⟨rfl, hR10, hF10⟩
          rw [hte] at hR10 ⊢
          have hR10 : RdAt M10 r (txt (bitsB l i)) ((bitsB l k).length + n) := hR10
          have hF10' : Fr (M5.add (rdO (txt (bitsB l i)) 0)) M10 [r] := (hF7.trans hF9 (fun b hb => .inl hb)).trans hF10 (fun b hb => .inl hb)
          have hc10 : M10.get c = some (.row (posL l i) 1 (some (3, 0))) := (hF10'.get c (by have := (hdc (by omega)).1; omega) (by have := (hdc (by omega)).1; simp; omega)).trans ((AM.add_ne (by have := (hdc (by omega)).1; omega)).trans (hc (by omega)))
          (repeat (first
    | refine Ex.seq ok hm ?_
    | refine Sq.pu ok hm Want.none (by first
    | exact Pu.move rfl
    | exact Pu.assign rfl
    | exact Pu.extract rfl rfl) rfl ?_
    | refine Sq.finH (n := 25) ok hm (by repeat (first
    | exact Keep.nil
    | apply Keep.drop rfl
    | apply Keep.keep rfl)) ?_))
          refine Ex.draw ok hm 20 (by kernel_rfl) ?_
          (repeat (first
    | refine Hq.pu Want.none (by first
    | exact Pu.move rfl
    | exact Pu.neqI rfl rfl
    | exact Pu.pickF rfl (by rfl) rfl) rfl rfl rfl ?_
    | refine Hq.pu (by exact Want.yes rfl rfl rfl (by first
    | rfl
    | (simp; done))) (by first
    | exact Pu.move rfl
    | exact Pu.neqI rfl rfl) rfl rfl rfl ?_))
          refine Hq.call ok (by exact Want.yes rfl rfl rfl (by (simp; done))) (fun ro => Op1.call rfl rfl fn22) rfl rfl (FnC.mono (at_ok hR10) ?_)
          rintro x M11 ⟨rfl, _⟩
          refine ⟨rfl, ?_⟩
          (repeat (refine Hq.pu (by exact Want.yes rfl rfl rfl (by (simp; done))) (by first
    | exact Pu.move rfl
    | exact Pu.indexAddr hT rfl rfl rfl rfl (by omega) (by omega)) rfl rfl rfl ?_))
          refine Hq.pu (by exact Want.yes rfl rfl rfl (by (simp; done))) (Pu.load hT rfl rfl rfl hc10 hpk) rfl rfl rfl ?_
          (repeat (first
    | refine Ex.skip ok hm ?_
    | refine Ex.region ok hm ?_
    | refine Sq.pu ok hm Want.none (by first
    | exact Pu.move rfl
    | exact Pu.assign rfl
    | exact Pu.sub rfl rfl (by simp only [InR]; omega)) rfl ?_
    | refine Sq.finH (n := 25) ok hm (by repeat (first
    | exact Keep.nil
    | apply Keep.drop rfl
    | apply Keep.keep rfl)) ?_
    | refine Hq.pu (by exact Want.yes rfl rfl rfl (by first
    | rfl
    | (simp; done))) (by first
    | exact Pu.move rfl
    | exact Pu.add rfl rfl (by simp only [InR]; omega)) rfl rfl rfl ?_
    | refine Hq.nil ?_
    | refine Tq.pu Want.none (by first
    | exact Pu.neqI rfl rfl
    | exact Pu.pickF rfl (by first
    | rfl
    | (simp; done)) rfl) rfl ?_
    | refine Tq.pu (by exact Want.yes rfl rfl rfl (by first
    | rfl
    | (simp; done))) (by exact Pu.neqI rfl rfl) rfl ?_
    | refine Tq.finH (n := 25)  (by repeat (first
    | exact Keep.nil
    | apply Keep.drop rfl
    | apply Keep.keep rfl)) ?_
    | refine Ex.condF ok hm rfl (by first
    | rfl
    | (simp; done)) ?_))
          refine ⟨k, [(15, .int .i64 ((k : Int) - 1)), (14, .pointer (some ⟨r, 0, none⟩)), (13, .int .i64 0), (12, .string ⟨⟨txt (bitsB l i)⟩⟩), (11, .int .i64 0), (10, .string ⟨⟨txt (bitsB l i)⟩⟩), (5, bufV c i), (3, .pointer (some ⟨1, 0, none⟩)), (0, inV nil 0 l.length)], ?_, ⟨rfl, rfl, rfl, rfl, rfl, rfl, ?_, rfl, ?_, trivial⟩, ?_, by omega, _, by omega, hR10, hF10'⟩
          · show k < k + 1
            omega
          · rw [hbuf]; rfl
          · rw [inV_pos 0 l.length hnil (by omega)]; rfl
          · first | rfl | rw [hbuf, inV_pos 0 l.length hnil (by omega)] | rw [inV_pos 0 l.length hnil (by omega)]
  · have hb0 : bitsB l 0 = [] := by simp [bitsB]
    unfold LoopB
    rw [hb0]
    exact ⟨5, 6, ⟨hg1, fun k => absurd rfl k, by omega⟩, ⟨hg2, fun k => absurd rfl k, by omega⟩, by omega, hg0, fun k => absurd rfl k, fun k => absurd rfl k, by omega, fun k => absurd rfl k⟩
end Go.Proofs.Ytncpdgjlhdbdpaa
