/- Towards the laws of this seat: contracts of the program's functions in a logic over a small machine (texts XPk XCm XUn XRu). No condition. -/
import Derived.Test.YtlhfolmhgghjcaaXm1
import Derived.Test.YtlhfolmhgghjcaaWvmLgj
/- N -/
namespace Go.Proofs.Ytlhfolmhgghjcaa
open Go.Wvm Bits
set_option linter.unusedVariables false
set_option linter.unusedSimpArgs false

/-- Numbers of one width as bits. -/
def packB (l : List Nat) (n : Nat) : List Bool := l.flatMap fun v => ofN v n
theorem packB_length (l : List Nat) (n : Nat) : (packB l n).length = l.length * n := by
  induction l with
  | nil => simp [packB]
  | cons x l ih => simp only [packB, List.flatMap_cons, List.length_append, List.length_cons, ofN_length] at ih ⊢; rw [ih, Nat.succ_mul]; omega
theorem packB_take (l : List Nat) (n i : Nat) (h : i < l.length) : packB (l.take (i + 1)) n = packB (l.take i) n ++ ofN (l[i]'h) n := by
  rw [List.take_add_one, List.getElem?_eq_getElem h]
  show packB (l.take i ++ [l[i]'h]) n = _
  unfold packB
  rw [List.flatMap_append]
  simp only [List.flatMap_cons, List.flatMap_nil, List.append_nil]
/-- All of them are in the width. -/
def fitsL (l : List Nat) (n : Nat) : Prop := ∀ i (h : i < l.length), l[i]'h < 2 ^ n
def packS (l : List Nat) (n : Int) : List UInt8 × Int :=
  if n < 1 ∨ 64 < n then ([], 1) else if l.all (fun v => decide (v < 2 ^ n.toNat)) then (txt (packB l n.toNat), 0) else ([], 1)
theorem all_of {l : List Nat} {n : Nat} (h : ∀ i (h : i < l.length), l[i]'h < 2 ^ n) : l.all (fun v => decide (v < 2 ^ n)) = true := by
  rw [List.all_eq_true]
  intro x hx
  obtain ⟨i, hi, rfl⟩ := List.getElem_of_mem hx
  exact decide_eq_true (h i hi)
theorem all_not {l : List Nat} {n i : Nat} (hi : i < l.length) (h : ¬ l[i]'hi < 2 ^ n) : l.all (fun v => decide (v < 2 ^ n)) = false := by
  rw [List.all_eq_false]
  exact ⟨l[i], List.getElem_mem hi, by simpa using h⟩
theorem putE_yes {l : List Bool} {v n : Nat} (hn : n ≤ 64) (hv : v < 2 ^ n) (hl : l.length + n ≤ 134217728) : putE l v (n : Int) = (0, l ++ ofN v n) := by
  unfold putE
  rw [if_neg, if_neg (by omega), Int.toNat_natCast]
  rintro (k | k | ⟨_, k⟩)
  · omega
  · omega
  · rw [Int.toNat_natCast] at k
    exact k (Nat.div_eq_of_lt hv)
theorem putE_no {l : List Bool} {v n : Nat} (h64 : v < 2 ^ 64) (hv : ¬ v < 2 ^ n) : putE l v (n : Int) = (1, l) := by
  unfold putE
  rw [if_pos]
  refine .inr (.inr ?_)
  rw [Int.toNat_natCast]
  have hn : n < 64 := by
    rcases Nat.lt_or_ge n 64 with h | h
    · exact h
    · have : 2 ^ 64 ≤ 2 ^ n := Nat.pow_le_pow_right (by decide) h
      omega
  refine ⟨by omega, fun k => ?_⟩
  have := Nat.two_pow_pos n
  rcases Nat.div_eq_zero_iff.1 k with h | h
  · omega
  · exact hv h
theorem max_div {n : Nat} (h1 : 1 ≤ n) (h2 : n ≤ 64) : 2097152 ≤ 134217728 / n ∧ 134217728 / n ≤ 134217728 :=
  ⟨(Nat.le_div_iff_mul_le (by omega)).2 (by omega), Nat.div_le_self _ _⟩
theorem mul_bd {i m n : Nat} (h1 : i ≤ m) (h2 : m ≤ 1048576) (h3 : n ≤ 64) : i * n ≤ 67108864 := by
  have h4 : i * n ≤ 1048576 * 64 := Nat.mul_le_mul (by omega) h3
  omega

set_option maxHeartbeats 8000000 in
theorem Pack_ok {ro : Nat} {M : AM} {c cap : Nat} {b : Option Addr} (l : List Nat) {n : Int} (hn : InR .i64 n) (h : SlU M c b l) (hv : ∀ i (h : i < l.length), l[i]'h < 2 ^ 64) (hl : l.length ≤ 1048576) :
    FnC Try.prog tables ro 8 [.slice b l.length cap, .int .i64 n] M (fun r M' => r = .tuple ⟨[.string ⟨⟨(packS l n).1⟩⟩, .int .i64 (packS l n).2]⟩ ∧ Fr M M' []) := by
  refine FnC.facts fun hlt hron => ?_
  refine FnC.body (nt := 42) ok hm fn8 rfl rfl ?_
  simp only [InR] at hn
  have hcl := h.lt hlt
  by_cases hbad : n < 1 ∨ 64 < n
  · have e : packS l n = ([], 1) := if_pos hbad
    rw [e]
    by_cases h1 : n < 1
    all_goals
      (repeat (first
    | refine Ex.seq ok hm ?_
    | refine Ex.region ok hm ?_
    | refine Sq.pu ok hm Want.none (by first
    | exact Pu.move rfl
    | exact Pu.assign rfl
    | exact Pu.lssI rfl rfl
    | exact Pu.gtrI rfl rfl
    | exact Pu.pickT rfl (by first
    | rfl
    | exact decide_eq_true (by omega)) rfl
    | exact Pu.pickF rfl (by first
    | rfl
    | exact decide_eq_false (by omega)) rfl) rfl ?_
    | refine Sq.pu ok hm (by exact Want.yes rfl rfl rfl (by first
    | rfl
    | exact decide_eq_false (by omega))) (by first
    | exact Pu.move rfl
    | exact Pu.gtrI rfl rfl) rfl ?_
    | refine Sq.skip ok hm (by exact Want.no rfl rfl rfl (by first
    | rfl
    | exact decide_eq_true (by omega))) rfl ?_
    | refine Sq.finH (n := 10) ok hm (by repeat (first
    | exact Keep.nil
    | apply Keep.drop rfl
    | apply Keep.keep rfl)) ?_
    | refine Ex.condT ok hm rfl (by rfl) ?_
    | refine Ex.ret ok hm ?_))
      exact ⟨_, .tmp rfl (.tmp rfl .nil), rfl, Fr.refl _ _⟩
  obtain ⟨m, rfl⟩ : ∃ m : Nat, n = m := ⟨n.toNat, by omega⟩
  have hm1 : 1 ≤ m := by omega
  have hm64 : m ≤ 64 := by omega
  obtain ⟨hd1, hd2⟩ := max_div hm1 hm64
  have hps : packS l (m : Int) = if l.all (fun v => decide (v < 2 ^ m)) then (txt (packB l m), 0) else ([], 1) := by
    unfold packS; rw [if_neg hbad, Int.toNat_natCast]
  clear hbad hn
  (repeat (first
    | refine Ex.seq ok hm ?_
    | refine Ex.region ok hm ?_
    | refine Sq.pu ok hm Want.none (by first
    | exact Pu.move rfl
    | exact Pu.assign rfl
    | exact Pu.lssI rfl rfl
    | exact Pu.gtrI rfl rfl
    | exact Pu.lenL hT rfl rfl
    | exact Pu.pickF rfl (by first
    | rfl
    | exact decide_eq_false (by omega)) rfl) rfl ?_
    | refine Sq.pu ok hm (by exact Want.yes rfl rfl rfl (by first
    | rfl
    | exact decide_eq_false (by omega))) (by first
    | exact Pu.move rfl
    | exact Pu.gtrI rfl rfl
    | exact Pu.lenL hT rfl rfl) rfl ?_
    | refine Sq.finH (n := 10) ok hm (by repeat (first
    | exact Keep.nil
    | apply Keep.keep rfl)) ?_))
  refine Sq.pu ok hm (by exact Want.yes rfl rfl rfl (by exact decide_eq_false (by omega))) (Pu.quoN (a := 134217728) (b := m) rfl rfl (by omega) (by simp only [InR]; omega)) rfl ?_
  generalize 134217728 / m = dm at hd1 hd2
  (repeat (first
    | refine Ex.seq ok hm ?_
    | refine Ex.skip ok hm ?_
    | refine Ex.region ok hm ?_
    | refine Sq.pu ok hm Want.none (by first
    | exact Pu.gtrI rfl rfl
    | exact Pu.pickF rfl (by first
    | rfl
    | exact decide_eq_false (by omega)) rfl) rfl ?_
    | refine Sq.pu ok hm (by first
    | exact Want.none
    | exact Want.yes rfl rfl rfl (by first
    | rfl
    | exact decide_eq_false (by omega))) (by exact Pu.gtrI rfl rfl) rfl ?_
    | refine Sq.finH (n := 10) ok hm (by repeat (first
    | exact Keep.nil
    | apply Keep.drop rfl
    | apply Keep.keep rfl)) ?_
    | refine Ex.condF ok hm rfl (by first
    | rfl
    | exact decide_eq_false (by omega)) ?_))
  refine Sq.call ok Want.none (Op1.call rfl rfl fn14) rfl (FnC.mono new_ok ?_)
  rintro x M1 ⟨rfl, e1⟩
  obtain ⟨p, hp⟩ : ∃ p, M.next = p := ⟨_, rfl⟩
  have hW1 : WrAt M1 p (p + 1) [] := by rw [e1, ← hp]; exact wr_new _ (by omega)
  have hF1 : Fr M M1 [] := by rw [e1]; exact Fr.add _ _ _
  have hn1 : M1.next = p + 1 := by rw [e1]; simp only [AM.next_add]; omega
  clear e1
  rw [hp]
  have h1 := h.keep hF1 (fun k => ⟨hcl k, by simp⟩)
  (repeat (first
    | refine Ex.seq ok hm ?_
    | refine Ex.block ok hm ?_
    | refine Ex.region ok hm ?_
    | refine Sq.pu ok hm Want.none (by first
    | exact Pu.move rfl
    | exact Pu.assign rfl
    | exact Pu.lenL hT rfl rfl) rfl ?_
    | refine Sq.finH (n := 27) ok hm (by repeat (first
    | exact Keep.nil
    | apply Keep.keep rfl)) ?_))
  refine Ex.loop ?_
  refine Lp.inv ok hm (α := Nat)
    (fun i E M' => E = [(26, .int .i64 (i : Int)), (25, .int .i64 (l.length : Int)), (24, .slice b l.length cap), (6, .pointer (some ⟨p, 0, none⟩)), (1, .int .i64 (m : Int))] ∧ i ≤ l.length ∧ (∀ j (h : j < l.length), j < i → l[j]'h < 2 ^ m) ∧ (∃ q, WrAt M' p q (packB (l.take i) m) ∧ p + 1 ≤ q) ∧ Fr M M' [] ∧ p + 1 ≤ M'.next)
    (fun i => l.length - i) ?_ 0 [(26, .int .i64 (0 : Nat)), (25, .int .i64 (l.length : Int)), (24, .slice b l.length cap), (6, .pointer (some ⟨p, 0, none⟩)), (1, .int .i64 (m : Int))] ⟨rfl, rfl, rfl, rfl, rfl, trivial⟩ ⟨rfl, Nat.zero_le _, fun j _ k => by omega, ⟨p + 1, by rw [List.take_zero]; exact hW1, by omega⟩, hF1, by omega⟩
  intro i E M2 ⟨hE, hi, hfit, ⟨q, hW, hq⟩, hF, hn2⟩
  subst hE
  have hbl : (packB (l.take i) m).length = i * m := by rw [packB_length, List.length_take]; congr 1; omega
  have hbd := mul_bd (i := i) hi hl hm64
  by_cases hil : i < l.length
  · obtain ⟨o, row, u, tt, rfl, g1, q1⟩ := h (by intro e; rw [e] at hil; simp at hil)
    have q1 := q1 i hil
    have g2 := (hF.get c (hcl (by intro e; rw [e] at hil; simp at hil)) (by simp)).trans g1
    have e1 : o + ((i : Nat) : Int).toNat * 1 = o + i := by omega
    have hvi := hv i hil
    have htk := packB_take l m i hil
    have hnot : ¬ l[i]'hil < 2 ^ m → l.all (fun v => decide (v < 2 ^ m)) = false := all_not hil
    have hfit1 : l[i]'hil < 2 ^ m → ∀ j (h : j < l.length), j < i + 1 → l[j]'h < 2 ^ m := fun k j hj hji => by
      rcases Nat.lt_or_ge j i with h | h
      · exact hfit j hj h
      · have : j = i := by omega
        subst this; exact k
    generalize l[i]'hil = x at q1 hvi htk hnot hfit1
    rw [← e1] at q1
    clear hfit h h1 hv hW1 hF1 g1
    (repeat (first
    | refine Ex.seq ok hm ?_
    | refine Ex.block ok hm ?_
    | refine Ex.skip ok hm ?_
    | refine Ex.region ok hm ?_
    | refine Sq.pu ok hm Want.none (by first
    | exact Pu.lssI rfl rfl
    | exact Pu.indexAddr hT rfl rfl rfl rfl (by omega) (by omega)) rfl ?_
    | refine Sq.finH (n := 27) ok hm (by repeat (first
    | exact Keep.nil
    | apply Keep.keep rfl)) ?_
    | refine Ex.condT ok hm rfl (by first
    | rfl
    | exact decide_eq_true (by omega)) ?_))
    refine Sq.pu ok hm Want.none (Pu.load hT rfl rfl rfl g2 q1) rfl ?_
    (repeat (first
    | refine Ex.seq ok hm ?_
    | refine Ex.region ok hm ?_
    | refine Sq.pu ok hm Want.none (by first
    | exact Pu.move rfl
    | exact Pu.assign rfl) rfl ?_
    | refine Sq.finH (n := 27) ok hm (by repeat (first
    | exact Keep.nil
    | apply Keep.drop rfl
    | apply Keep.keep rfl)) ?_))
    refine Sq.call ok Want.none (Op1.call rfl rfl fn16) rfl (FnC.mono (Put_ok (v := x) (n := (m : Int)) (by omega) (by omega) hW hvi (by simp only [InR]; omega) (by omega)) ?_)
    rintro r M3 ⟨rfl, q3, hW3, hF3, hq3, hro3⟩
    have hn3 := hF3.next
    have hFe : Fr M M3 [] := hF.trans hF3 (fun b hb => by simp at hb; right; omega)
    by_cases hx : x < 2 ^ m
    · rw [putE_yes hm64 hx (by omega)] at hW3 ⊢
      rw [← htk] at hW3
      (repeat (first
    | refine Ex.seq ok hm ?_
    | refine Ex.skip ok hm ?_
    | refine Ex.region ok hm ?_
    | refine Sq.pu ok hm Want.none (by first
    | exact Pu.move rfl
    | exact Pu.assign rfl
    | exact Pu.addN rfl rfl (by simp only [InR]; omega)
    | exact Pu.neqI rfl rfl) rfl ?_
    | refine Sq.finH (n := 27) ok hm (by repeat (first
    | exact Keep.nil
    | apply Keep.drop rfl
    | apply Keep.keep rfl)) ?_
    | refine Ex.condF ok hm rfl (by rfl) ?_))
      refine ⟨i + 1, [(26, .int .i64 ((i + 1 : Nat) : Int)), (25, .int .i64 (l.length : Int)), (24, .slice (some ⟨c, o, none⟩) l.length cap), (6, .pointer (some ⟨p, 0, none⟩)), (1, .int .i64 (m : Int))], ?_, ⟨rfl, rfl, rfl, rfl, rfl, trivial⟩, rfl, by omega, hfit1 hx, ⟨q3, hW3, by omega⟩, hFe, by omega⟩
      show l.length - (i + 1) < l.length - i
      omega
    · rw [putE_no hvi hx]
      rw [hps, hnot hx]
      (repeat (first
    | refine Ex.seq ok hm ?_
    | refine Ex.region ok hm ?_
    | refine Sq.pu ok hm Want.none (by first
    | exact Pu.move rfl
    | exact Pu.assign rfl
    | exact Pu.neqI rfl rfl) rfl ?_
    | refine Sq.finH (n := 27) ok hm (by repeat (first
    | exact Keep.nil
    | apply Keep.drop rfl
    | apply Keep.keep rfl)) ?_
    | refine Ex.condT ok hm rfl (by rfl) ?_
    | refine Ex.ret ok hm ?_))
      exact ⟨_, .tmp rfl (.tmp rfl .nil), rfl, hFe⟩
  · have hie : i = l.length := by omega
    rw [hie, List.take_length] at hW
    rw [hps, all_of (fun j hj => hfit j hj (by omega)), if_pos rfl]
    (repeat (first
    | refine Ex.seq ok hm ?_
    | refine Ex.region ok hm ?_
    | refine Sq.pu ok hm Want.none (by first
    | exact Pu.move rfl
    | exact Pu.lssI rfl rfl) rfl ?_
    | refine Sq.finH (n := 27) ok hm (by repeat (first
    | exact Keep.nil
    | apply Keep.keep rfl)) ?_
    | refine Ex.condF ok hm rfl (by first
    | rfl
    | exact decide_eq_false (by omega)) ?_
    | refine Ex.exit ok hm ?_))
    refine Sq.call ok Want.none (Op1.call rfl rfl fn18) rfl (FnC.mono (text_ok hW) ?_)
    rintro x M3 ⟨rfl, rfl⟩
    (repeat (first
    | refine Sq.pu ok hm Want.none (by first
    | exact Pu.assign rfl
    | exact Pu.extract rfl rfl) rfl ?_
    | refine Sq.finH (n := 27) ok hm (by repeat (first
    | exact Keep.nil
    | apply Keep.drop rfl
    | apply Keep.keep rfl)) ?_
    | refine Ex.ret ok hm ?_))
    exact ⟨_, .tmp rfl (.tmp rfl .nil), rfl, hF⟩

set_option maxHeartbeats 8000000 in
theorem rPack_ok {ro : Nat} {M : AM} {c cap : Nat} {b : Option Addr} (l : List Nat) {n : Int} (hn : InR .i64 n) (h : SlU M c b l) (hv : ∀ i (h : i < l.length), l[i]'h < 2 ^ 64) (hl : l.length ≤ 1048576) :
    FnC Try.prog tables ro 9 [.slice b l.length cap, .int .i64 n] M (fun r M' => r = .tuple ⟨[.string ⟨⟨(packS l n).1⟩⟩, .int .i64 (packS l n).2]⟩ ∧ Fr M M' []) := by
  refine FnC.facts fun hlt hron => ?_
  refine FnC.body (nt := 35) ok hm fn9 rfl rfl ?_
  simp only [InR] at hn
  have hcl := h.lt hlt
  by_cases hbad : n < 1 ∨ 64 < n
  · have e : packS l n = ([], 1) := if_pos hbad
    rw [e]
    by_cases h1 : n < 1
    all_goals
      (repeat (first
    | refine Ex.seq ok hm ?_
    | refine Ex.region ok hm ?_
    | refine Sq.pu ok hm Want.none (by first
    | exact Pu.move rfl
    | exact Pu.assign rfl
    | exact Pu.lssI rfl rfl
    | exact Pu.gtrI rfl rfl
    | exact Pu.pickT rfl (by first
    | rfl
    | exact decide_eq_true (by omega)) rfl
    | exact Pu.pickF rfl (by first
    | rfl
    | exact decide_eq_false (by omega)) rfl) rfl ?_
    | refine Sq.pu ok hm (by exact Want.yes rfl rfl rfl (by first
    | rfl
    | exact decide_eq_false (by omega))) (by first
    | exact Pu.move rfl
    | exact Pu.gtrI rfl rfl) rfl ?_
    | refine Sq.skip ok hm (by exact Want.no rfl rfl rfl (by first
    | rfl
    | exact decide_eq_true (by omega))) rfl ?_
    | refine Sq.finH (n := 8) ok hm (by repeat (first
    | exact Keep.nil
    | apply Keep.drop rfl
    | apply Keep.keep rfl)) ?_
    | refine Ex.condT ok hm rfl (by first
    | rfl
    | exact decide_eq_true (by omega)) ?_
    | refine Ex.ret ok hm ?_))
      exact ⟨_, .tmp rfl (.tmp rfl .nil), rfl, Fr.refl _ _⟩
  obtain ⟨m, rfl⟩ : ∃ m : Nat, n = m := ⟨n.toNat, by omega⟩
  have hm1 : 1 ≤ m := by omega
  have hm64 : m ≤ 64 := by omega
  have hps : packS l (m : Int) = if l.all (fun v => decide (v < 2 ^ m)) then (txt (packB l m), 0) else ([], 1) := by
    unfold packS; rw [if_neg hbad, Int.toNat_natCast]
  clear hbad hn
  (repeat (first
    | refine Ex.seq ok hm ?_
    | refine Ex.skip ok hm ?_
    | refine Ex.region ok hm ?_
    | refine Sq.pu ok hm Want.none (by first
    | exact Pu.move rfl
    | exact Pu.assign rfl
    | exact Pu.lssI rfl rfl
    | exact Pu.gtrI rfl rfl
    | exact Pu.pickF rfl (by first
    | rfl
    | exact decide_eq_false (by omega)) rfl) rfl ?_
    | refine Sq.pu ok hm (by first
    | exact Want.none
    | exact Want.yes rfl rfl rfl (by first
    | rfl
    | exact decide_eq_false (by omega))) (by first
    | exact Pu.move rfl
    | exact Pu.gtrI rfl rfl) rfl ?_
    | refine Sq.finH (n := 8) ok hm (by repeat (first
    | exact Keep.nil
    | apply Keep.drop rfl
    | apply Keep.keep rfl)) ?_
    | refine Ex.condF ok hm rfl (by first
    | rfl
    | exact decide_eq_false (by omega)) ?_))
  refine Sq.pu ok hm Want.none (Pu.build hT rfl rfl rfl rfl) rfl ?_
  refine Sq.op ok hm Want.none (Op1.box rfl rfl) rfl ?_
  obtain ⟨p, hp⟩ : ∃ p, M.next = p := ⟨_, rfl⟩
  have hW1 : RwAt (M.add (.row [.slice none 0 0] 0 (some (74, 0)))) p (p + 1) [] := by rw [← hp]; exact ⟨AM.add_same, fun k => absurd rfl k, by omega⟩
  have hF1 : Fr M (M.add (.row [.slice none 0 0] 0 (some (74, 0)))) [] := Fr.add _ _ _
  have hn1 : (M.add (.row [.slice none 0 0] 0 (some (74, 0)))).next = p + 1 := by simp only [AM.next_add]; omega
  (repeat (first
    | refine Ex.seq ok hm ?_
    | refine Ex.block ok hm ?_
    | refine Ex.region ok hm ?_
    | refine Sq.pu ok hm Want.none (by exact Pu.assign rfl) rfl ?_
    | refine Sq.finH (n := 8) ok hm (by repeat (first
    | exact Keep.nil
    | apply Keep.drop rfl
    | apply Keep.keep rfl)) ?_))
  rw [hp]
  show Ex Try.prog tables ro ⟨9, 35⟩ _ _ (M.add (.row [.slice none 0 0] 0 (some (74, 0)))) _
  generalize (M.add (.row [.slice none 0 0] 0 (some (74, 0)))) = M1 at hW1 hF1 hn1 ⊢
  have h1 := h.keep hF1 (fun k => ⟨hcl k, by simp⟩)
  refine Ex.loop ?_
  refine Lp.inv ok hm (α := Nat)
    (fun i E M' => E = [(7, .int .i64 (i : Int)), (6, .pointer (some ⟨p, 0, none⟩)), (0, .slice b l.length cap), (1, .int .i64 (m : Int))] ∧ i ≤ l.length ∧ (∀ j (h : j < l.length), j < i → l[j]'h < 2 ^ m) ∧ (∃ q, RwAt M' p q (packB (l.take i) m) ∧ p + 1 ≤ q) ∧ Fr M M' [] ∧ p + 1 ≤ M'.next)
    (fun i => l.length - i) ?_ 0 [(7, .int .i64 (0 : Nat)), (6, .pointer (some ⟨p, 0, none⟩)), (0, .slice b l.length cap), (1, .int .i64 (m : Int))] ⟨rfl, rfl, rfl, rfl, trivial⟩ ⟨rfl, Nat.zero_le _, fun j _ k => by omega, ⟨p + 1, by rw [List.take_zero]; exact hW1, by omega⟩, hF1, by omega⟩
  intro i E M2 ⟨hE, hi, hfit, ⟨q, hW, hq⟩, hF, hn2⟩
  subst hE
  have hbl : (packB (l.take i) m).length = i * m := by rw [packB_length, List.length_take]; congr 1; omega
  have hbd := mul_bd (i := i) hi hl hm64
  by_cases hil : i < l.length
  · obtain ⟨o, row, u, tt, rfl, g1, q1⟩ := h (by intro e; rw [e] at hil; simp at hil)
    have q1 := q1 i hil
    have g2 := (hF.get c (hcl (by intro e; rw [e] at hil; simp at hil)) (by simp)).trans g1
    have e1 : o + ((i : Nat) : Int).toNat * 1 = o + i := by omega
    have hvi := hv i hil
    have htk := packB_take l m i hil
    have hnot : ¬ l[i]'hil < 2 ^ m → l.all (fun v => decide (v < 2 ^ m)) = false := all_not hil
    have hfit1 : l[i]'hil < 2 ^ m → ∀ j (h : j < l.length), j < i + 1 → l[j]'h < 2 ^ m := fun k j hj hji => by
      rcases Nat.lt_or_ge j i with h | h
      · exact hfit j hj h
      · have : j = i := by omega
        subst this; exact k
    generalize l[i]'hil = x at q1 hvi htk hnot hfit1
    rw [← e1] at q1
    clear hfit h h1 hv hW1 hF1 g1
    (repeat (first
    | refine Ex.seq ok hm ?_
    | refine Ex.block ok hm ?_
    | refine Ex.skip ok hm ?_
    | refine Ex.region ok hm ?_
    | refine Sq.pu ok hm Want.none (by first
    | exact Pu.move rfl
    | exact Pu.lssI rfl rfl
    | exact Pu.lenL hT rfl rfl
    | exact Pu.indexAddr hT rfl rfl rfl rfl (by omega) (by omega)) rfl ?_
    | refine Sq.finH (n := 8) ok hm (by repeat (first
    | exact Keep.nil
    | apply Keep.drop rfl
    | apply Keep.keep rfl)) ?_
    | refine Ex.condT ok hm rfl (by first
    | rfl
    | exact decide_eq_true (by omega)) ?_))
    refine Sq.pu ok hm Want.none (Pu.load hT rfl rfl rfl g2 q1) rfl ?_
    (repeat (refine Sq.pu ok hm Want.none (by exact Pu.move rfl) rfl ?_))
    refine Sq.call ok Want.none (Op1.call rfl rfl fn32) rfl (FnC.mono (rPut_ok (v := x) (n := (m : Int)) (by omega) (by omega) hW hvi (by simp only [InR]; omega) (by omega)) ?_)
    rintro r M3 ⟨rfl, q3, hW3, hF3, hq3, hro3⟩
    have hn3 := hF3.next
    have hFe : Fr M M3 [] := hF.trans hF3 (fun b hb => by simp at hb; right; omega)
    by_cases hx : x < 2 ^ m
    · rw [putE_yes hm64 hx (by omega)] at hW3 ⊢
      rw [← htk] at hW3
      (repeat (first
    | refine Ex.skip ok hm ?_
    | refine Ex.region ok hm ?_
    | refine Sq.pu ok hm Want.none (by first
    | exact Pu.move rfl
    | exact Pu.assign rfl
    | exact Pu.addN rfl rfl (by simp only [InR]; omega)
    | exact Pu.neqI rfl rfl) rfl ?_
    | refine Sq.finH (n := 8) ok hm (by repeat (first
    | exact Keep.nil
    | apply Keep.drop rfl
    | apply Keep.keep rfl)) ?_
    | refine Ex.condF ok hm rfl (by rfl) ?_))
      refine ⟨i + 1, [(7, .int .i64 ((i + 1 : Nat) : Int)), (6, .pointer (some ⟨p, 0, none⟩)), (0, .slice (some ⟨c, o, none⟩) l.length cap), (1, .int .i64 (m : Int))], ?_, ⟨rfl, rfl, rfl, rfl, trivial⟩, rfl, by omega, hfit1 hx, ⟨q3, hW3, by omega⟩, hFe, by omega⟩
      show l.length - (i + 1) < l.length - i
      omega
    · rw [putE_no hvi hx]
      rw [hps, hnot hx]
      (repeat (first
    | refine Ex.seq ok hm ?_
    | refine Ex.region ok hm ?_
    | refine Sq.pu ok hm Want.none (by first
    | exact Pu.assign rfl
    | exact Pu.neqI rfl rfl) rfl ?_
    | refine Sq.finH (n := 8) ok hm (by repeat (first
    | exact Keep.nil
    | apply Keep.drop rfl
    | apply Keep.keep rfl)) ?_
    | refine Ex.condT ok hm rfl (by rfl) ?_
    | refine Ex.ret ok hm ?_))
      exact ⟨_, .tmp rfl (.tmp rfl .nil), rfl, hFe⟩
  · have hie : i = l.length := by omega
    rw [hie, List.take_length] at hW
    have hbl2 : (packB l m).length = l.length * m := packB_length l m
    rw [hie] at hbd
    rw [hps, all_of (fun j hj => hfit j hj (by omega)), if_pos rfl]
    have hrow := hW.row
    (repeat (first
    | refine Ex.seq ok hm ?_
    | refine Ex.region ok hm ?_
    | refine Sq.pu ok hm Want.none (by first
    | exact Pu.move rfl
    | exact Pu.nilCheck rfl
    | exact Pu.fieldAddr hT rfl rfl rfl rfl rfl
    | (apply Pu.load hT rfl rfl rfl; (focus ((repeat (assumption)))); (focus rfl))
    | exact Pu.lssI rfl rfl
    | exact Pu.lenL hT rfl rfl) rfl ?_
    | refine Sq.finH (n := 8) ok hm (by repeat (first
    | exact Keep.nil
    | apply Keep.drop rfl
    | apply Keep.keep rfl)) ?_
    | refine Ex.condF ok hm rfl (by first
    | rfl
    | exact decide_eq_false (by omega)) ?_
    | refine Ex.exit ok hm ?_))
    refine Sq.call ok Want.none (Op1.call rfl rfl fn33) rfl (FnC.mono (rText_ok (c := q) (l := packB l m) (fun k => hW.buf k) (by omega)) ?_)
    rintro x M3 ⟨rfl, hF3⟩
    (repeat (first
    | refine Sq.pu ok hm Want.none (by exact Pu.assign rfl) rfl ?_
    | refine Sq.finH (n := 8) ok hm (by repeat (first
    | exact Keep.nil
    | apply Keep.drop rfl
    | apply Keep.keep rfl)) ?_
    | refine Ex.ret ok hm ?_))
    exact ⟨_, .tmp rfl (.tmp rfl .nil), rfl, hF.trans hF3 (by simp)⟩
end Go.Proofs.Ytlhfolmhgghjcaa
/- N -/
namespace Go.Proofs.Ytlhfolmhgghjcaa
open Go.Wvm Bits
set_option linter.unusedVariables false
set_option linter.unusedSimpArgs false

theorem takeE_yes (s : List UInt8) (a n : Nat) (hn : n ≤ 64) (h : a + n ≤ 8 * s.length) : takeE s a (n : Int) = (valB (midT s a n), 0, a + n) := by
  unfold takeE
  rw [if_neg (by omega), if_neg (by omega), Int.toNat_natCast]
theorem takeE_no (s : List UInt8) (a n : Nat) (hn : n ≤ 64) (h : 8 * s.length < a + n) : takeE s a (n : Int) = (0, 4, a) := by
  unfold takeE
  rw [if_neg (by omega), if_pos (by omega)]
/-- So many bits as a number, and the place behind them. -/
def takeO (s : List UInt8) (a n : Nat) : Option (Nat × Nat) := if a + n ≤ 8 * s.length then some (valB (midT s a n), a + n) else none
theorem takeO_yes {s : List UInt8} {a n : Nat} (h : a + n ≤ 8 * s.length) : takeO s a n = some (valB (midT s a n), a + n) := if_pos h
theorem takeO_no {s : List UInt8} {a n : Nat} (h : 8 * s.length < a + n) : takeO s a n = none := if_neg (by omega)
/-- Bits 0 up to a 1. -/
def unaT (s : List UInt8) : Nat → Nat → Nat → Option (Nat × Nat)
  | 0, _, _ => none
  | f + 1, v, a => (takeO s a 1).bind fun x => if x.1 = 1 then some (v, x.2) else unaT s f (v + 1) x.2
def restT (s : List UInt8) (b a : Nat) : Option (Nat × Nat) := (takeO s a b).map fun x => (2 ^ b + x.1 - 1, x.2)
def gammaT (s : List UInt8) (a : Nat) : Option (Nat × Nat) := (unaT s 48 0 a).bind fun x => restT s x.1 x.2
def deltaT (s : List UInt8) (a : Nat) : Option (Nat × Nat) := (gammaT s a).bind fun x => if 47 < x.1 then none else restT s x.1 x.2
def len64 (n : Nat) : Nat := if n = 0 then 0 else Nat.log2 n + 1
def minT (s : List UInt8) (count a : Nat) : Option (Nat × Nat) :=
  if len64 (count - 1) = 0 then some (0, a) else
  (takeO s a (len64 (count - 1) - 1)).bind fun x => if x.1 < 2 ^ len64 (count - 1) - count then some x else
  (takeO s x.2 1).map fun y => (2 * x.1 + y.1 - (2 ^ len64 (count - 1) - count), y.2)
def zetaT (s : List UInt8) (K a : Nat) : Option (Nat × Nat) :=
  (unaT s (47 / K + 1) 0 a).bind fun h => (minT s (2 ^ ((h.1 + 1) * K) - 2 ^ (h.1 * K)) h.2).bind fun x =>
    if 281474976710654 < 2 ^ (h.1 * K) + x.1 - 1 then none else some (2 ^ (h.1 * K) + x.1 - 1, x.2)
def readT (s : List UInt8) (kind K a : Nat) : Option (Nat × Nat) :=
  if kind = 0 then unaT s 65536 0 a else if kind = 1 then gammaT s a else if kind = 2 then deltaT s a else if kind = 3 then zetaT s K a else minT s K a
def checkE (kind K : Nat) : Int :=
  if kind ≤ 2 then (if K = 0 then 0 else 1) else if kind = 3 then (if 1 ≤ K ∧ K ≤ 16 then 0 else 1) else if kind = 4 then (if 1 ≤ K ∧ K ≤ 281474976710655 then 0 else 1) else 1
def readE (s : List UInt8) (kind K a : Nat) : Nat × Int × Nat :=
  if checkE kind K ≠ 0 then (0, 1, a) else match readT s kind K a with
    | some x => (x.1, 0, x.2)
    | none => (0, 4, a)

theorem len64_lt (n : Nat) : n < 2 ^ len64 n := by
  unfold len64
  split
  · rename_i h; subst h; decide
  · exact Nat.lt_log2_self
theorem len64_le {n : Nat} (h : n ≠ 0) : 2 ^ (len64 n - 1) ≤ n := by
  unfold len64
  rw [if_neg h, Nat.add_sub_cancel]
  exact Nat.log2_self_le h
theorem len64_of {n k : Nat} (h1 : n < 2 ^ k) (h2 : n ≠ 0 → 2 ^ (k - 1) ≤ n) (h0 : n = 0 → k = 0) : len64 n = k := by
  by_cases hz : n = 0
  · subst hz; rw [h0 rfl]; rfl
  · have a1 := len64_lt n
    have a2 := len64_le hz
    have a3 := h2 hz
    have hk : k ≠ 0 := by intro e; subst e; omega
    have hl : len64 n ≠ 0 := by intro e; rw [e] at a1; omega
    have b1 : len64 n - 1 < k := (Nat.pow_lt_pow_iff_right (by decide : 1 < 2)).1 (Nat.lt_of_le_of_lt a2 h1)
    have b2 : k - 1 < len64 n := (Nat.pow_lt_pow_iff_right (by decide : 1 < 2)).1 (Nat.lt_of_le_of_lt a3 a1)
    omega
theorem len64_mono {n k : Nat} (h : n < 2 ^ k) : len64 n ≤ k := by
  by_cases hz : n = 0
  · subst hz; exact Nat.zero_le _
  · have := len64_le hz
    have b1 : len64 n - 1 < k := (Nat.pow_lt_pow_iff_right (by decide : 1 < 2)).1 (Nat.lt_of_le_of_lt this h)
    omega
/-- The least power that is not below. -/
theorem pow_len64 {c : Nat} (h : 1 ≤ c) : c ≤ 2 ^ len64 (c - 1) := by
  have := len64_lt (c - 1); omega

theorem takeO_le {s : List UInt8} {a n : Nat} {x : Nat × Nat} (h : takeO s a n = some x) : x.2 ≤ 8 * s.length ∧ x.1 < 2 ^ n ∧ x.2 = a + n := by
  unfold takeO at h
  split at h
  · cases h; exact ⟨by assumption, midT_lt s a n, rfl⟩
  · cases h
theorem unaT_le {s : List UInt8} : ∀ (f v a : Nat) {x : Nat × Nat}, unaT s f v a = some x → x.2 ≤ 8 * s.length ∧ v ≤ x.1 ∧ x.1 < v + f
  | 0, v, a, x, h => by cases h
  | f + 1, v, a, x, h => by
    simp only [unaT] at h
    cases ht : takeO s a 1 with
    | none => rw [ht] at h; cases h
    | some y =>
      rw [ht] at h
      simp only [Option.bind_some] at h
      split at h
      · cases h
        exact ⟨(takeO_le ht).1, Nat.le_refl _, by omega⟩
      · have := unaT_le f (v + 1) y.2 h
        omega
theorem restT_le {s : List UInt8} {b a : Nat} {x : Nat × Nat} (h : restT s b a = some x) : x.2 ≤ 8 * s.length ∧ x.1 + 2 ≤ 2 ^ (b + 1) := by
  unfold restT at h
  cases ht : takeO s a b with
  | none => rw [ht] at h; cases h
  | some y =>
    rw [ht] at h
    cases h
    have h1 := takeO_le ht
    have h2 := Nat.two_pow_pos b
    refine ⟨h1.1, ?_⟩
    simp only
    rw [Nat.pow_succ]; omega

theorem take2 {ro : Nat} {M : AM} {r a n : Nat} {s : List UInt8} (hr : ro ≤ r) (h : RdAt M r s a) (hn : n ≤ 64) (ha : a ≤ 8 * s.length) (hs : s.length ≤ 1048576) :
    FnC Try.prog tables ro 21 [.pointer (some ⟨r, 0, none⟩), .int .i64 (n : Int)] M (fun x M' => Fr M M' [r] ∧ ((a + n ≤ 8 * s.length ∧ x = .tuple ⟨[.int .u64 (valB (midT s a n) : Nat), .int .i64 0]⟩ ∧ RdAt M' r s (a + n)) ∨ (8 * s.length < a + n ∧ x = .tuple ⟨[.int .u64 ((0 : Nat) : Int), .int .i64 4]⟩ ∧ RdAt M' r s a))) := by
  refine FnC.mono (take_ok (n := (n : Int)) hr h (by simp only [InR]; omega) ha (by omega)) ?_
  rintro x M' ⟨rfl, h1, hF⟩
  refine ⟨hF, ?_⟩
  by_cases hb : a + n ≤ 8 * s.length
  · rw [takeE_yes s a n hn hb] at h1 ⊢
    exact .inl ⟨hb, rfl, h1⟩
  · rw [takeE_no s a n hn (by omega)] at h1 ⊢
    exact .inr ⟨by omega, rfl, h1⟩
theorem bit2 {ro : Nat} {M : AM} {r a : Nat} {s : List UInt8} (hr : ro ≤ r) (h : RdAt M r s a) (ha : a ≤ 8 * s.length) (hs : s.length ≤ 1048576) :
    FnC Try.prog tables ro 31 [.pointer (some ⟨r, 0, none⟩)] M (fun x M' => Fr M M' [r] ∧ ((a + 1 ≤ 8 * s.length ∧ x = .tuple ⟨[.bool (decide (valB (midT s a 1) = 1)), .int .i64 0]⟩ ∧ RdAt M' r s (a + 1)) ∨ (8 * s.length < a + 1 ∧ x = .tuple ⟨[.bool false, .int .i64 4]⟩ ∧ RdAt M' r s a))) := by
  refine FnC.mono (rdBit_ok hr h ha (by omega)) ?_
  rintro x M' ⟨rfl, h1, hF⟩
  refine ⟨hF, ?_⟩
  by_cases hb : a + 1 ≤ 8 * s.length
  · have e := takeE_yes s a 1 (by decide) hb
    rw [show takeE s a 1 = _ from e] at h1 ⊢
    exact .inl ⟨hb, rfl, h1⟩
  · have e := takeE_no s a 1 (by decide) (by omega)
    rw [show takeE s a 1 = _ from e] at h1 ⊢
    exact .inr ⟨by omega, rfl, h1⟩
theorem rtake2 {ro : Nat} {M : AM} {q c a n : Nat} {s : List UInt8} (hr : ro ≤ q) (h : RqAt M q c s a) (hn : n ≤ 64) (ha : a ≤ 8 * s.length) (hs : s.length ≤ 1048576) :
    FnC Try.prog tables ro 34 [.pointer (some ⟨q, 0, none⟩), .int .i64 (n : Int)] M (fun x M' => Fr M M' [q] ∧ ((a + n ≤ 8 * s.length ∧ x = .tuple ⟨[.int .u64 (valB (midT s a n) : Nat), .int .i64 0]⟩ ∧ RqAt M' q c s (a + n)) ∨ (8 * s.length < a + n ∧ x = .tuple ⟨[.int .u64 ((0 : Nat) : Int), .int .i64 4]⟩ ∧ RqAt M' q c s a))) := by
  refine FnC.mono (rTake_ok (n := (n : Int)) hr h (by simp only [InR]; omega) ha (by omega)) ?_
  rintro x M' ⟨rfl, h1, hF⟩
  refine ⟨hF, ?_⟩
  by_cases hb : a + n ≤ 8 * s.length
  · rw [takeE_yes s a n hn hb] at h1 ⊢
    exact .inl ⟨hb, rfl, h1⟩
  · rw [takeE_no s a n hn (by omega)] at h1 ⊢
    exact .inr ⟨by omega, rfl, h1⟩
theorem rbit2 {ro : Nat} {M : AM} {q c a : Nat} {s : List UInt8} (hr : ro ≤ q) (h : RqAt M q c s a) (ha : a ≤ 8 * s.length) (hs : s.length ≤ 1048576) :
    FnC Try.prog tables ro 62 [.pointer (some ⟨q, 0, none⟩)] M (fun x M' => Fr M M' [q] ∧ ((a + 1 ≤ 8 * s.length ∧ x = .tuple ⟨[.bool (decide (valB (midT s a 1) = 1)), .int .i64 0]⟩ ∧ RqAt M' q c s (a + 1)) ∨ (8 * s.length < a + 1 ∧ x = .tuple ⟨[.bool false, .int .i64 4]⟩ ∧ RqAt M' q c s a))) := by
  refine FnC.mono (rdrBit_ok hr h ha (by omega)) ?_
  rintro x M' ⟨rfl, h1, hF⟩
  refine ⟨hF, ?_⟩
  by_cases hb : a + 1 ≤ 8 * s.length
  · have e := takeE_yes s a 1 (by decide) hb
    rw [show takeE s a 1 = _ from e] at h1 ⊢
    exact .inl ⟨hb, rfl, h1⟩
  · have e := takeE_no s a 1 (by decide) (by omega)
    rw [show takeE s a 1 = _ from e] at h1 ⊢
    exact .inr ⟨by omega, rfl, h1⟩
/-- What a reading function hands back. -/
def ROut (s : List UInt8) (M M' : AM) (r : Nat) (o : Option (Nat × Nat)) (x : Value) : Prop :=
  ∃ (v : Nat) (e : Int) (a' : Nat), x = .tuple ⟨[.int .u64 (v : Int), .int .i64 e]⟩ ∧ RdAt M' r s a' ∧ a' ≤ 8 * s.length ∧ Fr M M' [r] ∧ v < 18446744073709551616 ∧ (match o with | some w => v = w.1 ∧ e = 0 ∧ a' = w.2 | none => e = 4)
/-- .. of the document's. -/
def QOut (s : List UInt8) (M M' : AM) (q c : Nat) (k : IntKind) (o : Option (Nat × Nat)) (x : Value) : Prop :=
  ∃ (v : Nat) (b : Bool) (a' : Nat), x = .tuple ⟨[.int k (v : Int), .bool b]⟩ ∧ RqAt M' q c s a' ∧ a' ≤ 8 * s.length ∧ Fr M M' [q] ∧ v < 18446744073709551616 ∧ (match o with | some w => v = w.1 ∧ b = true ∧ a' = w.2 | none => b = false)
end Go.Proofs.Ytlhfolmhgghjcaa
/- N -/
namespace Go.Proofs.Ytlhfolmhgghjcaa
open Go.Wvm Bits
set_option linter.unusedVariables false
set_option linter.unusedSimpArgs false

/-- The first so many numbers of one width in a text. -/
def unpL (s : List UInt8) (n k : Nat) : List Nat := (List.range k).map fun i => valB (midT s (i * n) n)
theorem unpL_length (s : List UInt8) (n k : Nat) : (unpL s n k).length = k := by simp [unpL]
theorem unpL_succ (s : List UInt8) (n k : Nat) : unpL s n (k + 1) = unpL s n k ++ [valB (midT s (k * n) n)] := by simp [unpL, List.range_succ]
def unpackS (s : List UInt8) (n k : Int) : List Nat × Int :=
  if n < 1 ∨ 64 < n ∨ k < 0 then ([], 1)
  else if 134217728 / n.toNat < k.toNat ∨ s.length ≠ (k.toNat * n.toNat + 7) / 8 then ([], 4)
  else if valB (midT s (k.toNat * n.toNat) (8 * s.length - k.toNat * n.toNat)) ≠ 0 then ([], 4)
  else (unpL s n.toNat k.toNat, 0)
abbrev u64v (v : Nat) : Value := .int .u64 (v : Int)
def cellsU (s : List UInt8) (n k i : Nat) : List Value := (unpL s n i).map u64v ++ List.replicate (k - i) (.int .u64 0)
theorem cellsU_length (s : List UInt8) (n : Nat) {k i : Nat} (h : i ≤ k) : (cellsU s n k i).length = k := by
  unfold cellsU; rw [List.length_append, List.length_map, unpL_length, List.length_replicate]; omega
theorem cellsU_set (s : List UInt8) (n : Nat) {k i : Nat} (h : i < k) : (cellsU s n k i).set i (u64v (valB (midT s (i * n) n))) = cellsU s n k (i + 1) := by
  unfold cellsU
  have hl : ((unpL s n i).map u64v).length = i := by rw [List.length_map, unpL_length]
  rw [List.set_append_right _ _ (by omega), hl, Nat.sub_self, unpL_succ, List.map_append, List.append_assoc]
  congr 1
  rw [show k - i = (k - (i + 1)) + 1 by omega, List.replicate_succ]
  rfl
theorem cellsU_full (s : List UInt8) (n k : Nat) : cellsU s n k k = (unpL s n k).map u64v := by
  unfold cellsU; rw [Nat.sub_self]; simp
theorem slU_row {M : AM} {c : Nat} {l : List Nat} {u : Nat} {tt : Option (TypeId × Nat)} (h : M.get c = some (.row (l.map u64v) u tt)) : SlU M c (some ⟨c, 0, none⟩) l := fun _ =>
  ⟨0, _, _, _, rfl, h, fun i hi => by rw [Nat.zero_add, List.getElem?_map, List.getElem?_eq_getElem hi]; rfl⟩
/-- What an unpacking function hands back. -/
def UOut (M M' : AM) (o : List Nat × Int) (x : Value) : Prop :=
  ∃ b cap c, x = .tuple ⟨[.slice b o.1.length cap, .int .i64 o.2]⟩ ∧ SlU M' c b o.1 ∧ Fr M M' [] ∧ M.next ≤ c
theorem UOut.none {M M' : AM} {e : Int} (h : Fr M M' []) : UOut M M' ([], e) (.tuple ⟨[.slice none 0 0, .int .i64 e]⟩) := ⟨_, _, M.next, rfl, SlU.nil, h, Nat.le_refl _⟩

set_option maxHeartbeats 8000000 in
theorem Unpack_ok {ro : Nat} {M : AM} (s : List UInt8) {n k : Int} (hn : InR .i64 n) (hk : InR .i64 k) (hs : s.length ≤ 16777216) :
    FnC Try.prog tables ro 10 [.string ⟨⟨s⟩⟩, .int .i64 n, .int .i64 k] M (fun x M' => UOut M M' (unpackS s n k) x) := by
  refine FnC.facts fun hlt hron => ?_
  refine FnC.body (nt := 66) ok hm fn10 rfl rfl ?_
  simp only [InR] at hn hk
  by_cases hbad : n < 1 ∨ 64 < n ∨ k < 0
  · have e : unpackS s n k = ([], 1) := if_pos hbad
    rw [e]
    by_cases h1 : n < 1
    · (repeat (first
    | refine Ex.seq ok hm ?_
    | refine Ex.region ok hm ?_
    | refine Sq.pu ok hm Want.none (by first
    | exact Pu.move rfl
    | exact Pu.assign rfl
    | exact Pu.lssI rfl rfl
    | exact Pu.pickT rfl (by first
    | rfl
    | exact decide_eq_true (by omega)) rfl) rfl ?_
    | refine Sq.skip ok hm (by exact Want.no rfl rfl rfl (by first
    | rfl
    | exact decide_eq_true (by omega))) rfl ?_
    | refine Sq.finH (n := 8) ok hm (by repeat (first
    | exact Keep.nil
    | apply Keep.drop rfl
    | apply Keep.keep rfl)) ?_
    | refine Ex.condT ok hm rfl (by rfl) ?_
    | refine Ex.ret ok hm ?_))
      exact ⟨_, .tmp rfl (.tmp rfl .nil), UOut.none (Fr.refl _ _)⟩
    · by_cases h2 : 64 < n
      all_goals
        (repeat (first
    | refine Ex.seq ok hm ?_
    | refine Ex.region ok hm ?_
    | refine Sq.pu ok hm Want.none (by first
    | exact Pu.move rfl
    | exact Pu.assign rfl
    | exact Pu.lssI rfl rfl
    | exact Pu.gtrI rfl rfl
    | exact Pu.pickT rfl (by first
    | rfl
    | exact decide_eq_true (by omega)) rfl
    | exact Pu.pickF rfl (by first
    | rfl
    | exact decide_eq_false (by omega)) rfl) rfl ?_
    | refine Sq.pu ok hm (by exact Want.yes rfl rfl rfl (by first
    | rfl
    | exact decide_eq_false (by omega))) (by first
    | exact Pu.move rfl
    | exact Pu.lssI rfl rfl
    | exact Pu.gtrI rfl rfl) rfl ?_
    | refine Sq.skip ok hm (by exact Want.no rfl rfl rfl (by first
    | rfl
    | exact decide_eq_true (by omega))) rfl ?_
    | refine Sq.finH (n := 8) ok hm (by repeat (first
    | exact Keep.nil
    | apply Keep.drop rfl
    | apply Keep.keep rfl)) ?_
    | refine Ex.condT ok hm rfl (by first
    | rfl
    | exact decide_eq_true (by omega)) ?_
    | refine Ex.ret ok hm ?_))
        exact ⟨_, .tmp rfl (.tmp rfl .nil), UOut.none (Fr.refl _ _)⟩
  obtain ⟨m, rfl⟩ : ∃ m : Nat, n = m := ⟨n.toNat, by omega⟩
  obtain ⟨kk, rfl⟩ : ∃ m : Nat, k = m := ⟨k.toNat, by omega⟩
  have hm1 : 1 ≤ m := by omega
  have hm64 : m ≤ 64 := by omega
  obtain ⟨hd1, hd2⟩ := max_div hm1 hm64
  have hps : unpackS s (m : Int) (kk : Int) = if 134217728 / m < kk ∨ s.length ≠ (kk * m + 7) / 8 then ([], 4)
      else if valB (midT s (kk * m) (8 * s.length - kk * m)) ≠ 0 then ([], 4) else (unpL s m kk, 0) := by
    unfold unpackS; rw [if_neg hbad]; simp only [Int.toNat_natCast]
  have hdm : kk ≤ 134217728 / m → kk * m ≤ 134217728 := fun h => (Nat.le_div_iff_mul_le (by omega)).1 h
  clear hbad hn
  by_cases hbig : 134217728 / m < kk
  · rw [hps, if_pos (.inl hbig)]
    (repeat (first
    | refine Ex.seq ok hm ?_
    | refine Ex.skip ok hm ?_
    | refine Ex.region ok hm ?_
    | refine Sq.pu ok hm Want.none (by first
    | exact Pu.move rfl
    | exact Pu.assign rfl
    | exact Pu.lssI rfl rfl
    | exact Pu.gtrI rfl rfl
    | exact Pu.pickF rfl (by first
    | rfl
    | exact decide_eq_false (by omega)) rfl) rfl ?_
    | refine Sq.pu ok hm (by first
    | exact Want.none
    | exact Want.yes rfl rfl rfl (by first
    | rfl
    | exact decide_eq_false (by omega))) (by first
    | exact Pu.move rfl
    | exact Pu.lssI rfl rfl
    | exact Pu.gtrI rfl rfl) rfl ?_
    | refine Sq.finH (n := 8) ok hm (by repeat (first
    | exact Keep.nil
    | apply Keep.drop rfl
    | apply Keep.keep rfl)) ?_
    | refine Ex.condF ok hm rfl (by rfl) ?_))
    refine Sq.pu ok hm Want.none (Pu.quoN (a := 134217728) (b := m) rfl rfl (by omega) (by simp only [InR]; omega)) rfl ?_
    generalize 134217728 / m = dm at hd1 hd2 hbig
    (repeat (first
    | refine Ex.seq ok hm ?_
    | refine Ex.region ok hm ?_
    | refine Sq.pu ok hm Want.none (by first
    | exact Pu.move rfl
    | exact Pu.assign rfl
    | exact Pu.gtrI rfl rfl
    | exact Pu.pickT rfl (by first
    | rfl
    | exact decide_eq_true (by omega)) rfl) rfl ?_
    | refine Sq.skip ok hm (by exact Want.no rfl rfl rfl (by first
    | rfl
    | exact decide_eq_true (by omega))) rfl ?_
    | refine Sq.finH (n := 8) ok hm (by repeat (first
    | exact Keep.nil
    | apply Keep.drop rfl
    | apply Keep.keep rfl)) ?_
    | refine Ex.condT ok hm rfl (by rfl) ?_
    | refine Ex.ret ok hm ?_))
    exact ⟨_, .tmp rfl (.tmp rfl .nil), UOut.none (Fr.refl _ _)⟩
  have hdm := hdm (by omega)
  by_cases hlen : s.length ≠ (kk * m + 7) / 8
  · rw [hps, if_pos (.inr hlen)]
    (repeat (first
    | refine Ex.seq ok hm ?_
    | refine Ex.skip ok hm ?_
    | refine Ex.region ok hm ?_
    | refine Sq.pu ok hm Want.none (by first
    | exact Pu.move rfl
    | exact Pu.assign rfl
    | exact Pu.lssI rfl rfl
    | exact Pu.gtrI rfl rfl
    | exact Pu.pickF rfl (by first
    | rfl
    | exact decide_eq_false (by omega)) rfl) rfl ?_
    | refine Sq.pu ok hm (by first
    | exact Want.none
    | exact Want.yes rfl rfl rfl (by first
    | rfl
    | exact decide_eq_false (by omega))) (by first
    | exact Pu.move rfl
    | exact Pu.lssI rfl rfl
    | exact Pu.gtrI rfl rfl) rfl ?_
    | refine Sq.finH (n := 8) ok hm (by repeat (first
    | exact Keep.nil
    | apply Keep.drop rfl
    | apply Keep.keep rfl)) ?_
    | refine Ex.condF ok hm rfl (by rfl) ?_))
    refine Sq.pu ok hm Want.none (Pu.quoN (a := 134217728) (b := m) rfl rfl (by omega) (by simp only [InR]; omega)) rfl ?_
    generalize 134217728 / m = dm at hd1 hd2 hbig
    (repeat (first
    | refine Sq.pu ok hm Want.none (by first
    | exact Pu.move rfl
    | exact Pu.gtrI rfl rfl
    | exact Pu.lenS hT rfl rfl) rfl ?_
    | refine Sq.pu ok hm (by exact Want.yes rfl rfl rfl (by exact decide_eq_false (by omega))) (by first
    | exact Pu.move rfl
    | exact Pu.lenS hT rfl rfl) rfl ?_))
    refine Sq.pu ok hm (by exact Want.yes rfl rfl rfl (by exact decide_eq_false (by omega))) (Pu.mulN (a := kk) (b := m) rfl rfl (by simp only [InR]; omega)) rfl ?_
    generalize kk * m = km at hdm hlen
    (repeat (first
    | refine Ex.seq ok hm ?_
    | refine Ex.region ok hm ?_
    | refine Sq.pu ok hm Want.none (by first
    | exact Pu.assign rfl
    | exact Pu.quoN rfl rfl (by decide) (by simp only [InR]; omega)
    | exact Pu.addN rfl rfl (by simp only [InR]; omega)
    | exact Pu.neqI rfl rfl
    | exact Pu.pickF rfl (by first
    | rfl
    | exact decide_eq_false (by omega)) rfl) rfl ?_
    | refine Sq.pu ok hm (by exact Want.yes rfl rfl rfl (by first
    | rfl
    | exact decide_eq_false (by omega))) (by first
    | exact Pu.quoN rfl rfl (by decide) (by simp only [InR]; omega)
    | exact Pu.addN rfl rfl (by simp only [InR]; omega)
    | exact Pu.neqI rfl rfl) rfl ?_
    | refine Sq.finH (n := 8) ok hm (by repeat (first
    | exact Keep.nil
    | apply Keep.drop rfl
    | apply Keep.keep rfl)) ?_
    | refine Ex.condT ok hm rfl (by first
    | rfl
    | (simp; omega)) ?_
    | refine Ex.ret ok hm ?_))
    exact ⟨_, .tmp rfl (.tmp rfl .nil), UOut.none (Fr.refl _ _)⟩
  have hlen : s.length = (kk * m + 7) / 8 := by omega
  rw [if_neg (by rintro (h | h); exact hbig h; exact h hlen)] at hps
  (repeat (first
    | refine Ex.seq ok hm ?_
    | refine Ex.skip ok hm ?_
    | refine Ex.region ok hm ?_
    | refine Sq.pu ok hm Want.none (by first
    | exact Pu.move rfl
    | exact Pu.assign rfl
    | exact Pu.lssI rfl rfl
    | exact Pu.gtrI rfl rfl
    | exact Pu.pickF rfl (by first
    | rfl
    | exact decide_eq_false (by omega)) rfl) rfl ?_
    | refine Sq.pu ok hm (by first
    | exact Want.none
    | exact Want.yes rfl rfl rfl (by first
    | rfl
    | exact decide_eq_false (by omega))) (by first
    | exact Pu.move rfl
    | exact Pu.lssI rfl rfl
    | exact Pu.gtrI rfl rfl) rfl ?_
    | refine Sq.finH (n := 8) ok hm (by repeat (first
    | exact Keep.nil
    | apply Keep.drop rfl
    | apply Keep.keep rfl)) ?_
    | refine Ex.condF ok hm rfl (by rfl) ?_))
  refine Sq.pu ok hm Want.none (Pu.quoN (a := 134217728) (b := m) rfl rfl (by omega) (by simp only [InR]; omega)) rfl ?_
  generalize 134217728 / m = dm at hd1 hd2 hbig
  (repeat (first
    | refine Sq.pu ok hm Want.none (by first
    | exact Pu.move rfl
    | exact Pu.gtrI rfl rfl
    | exact Pu.lenS hT rfl rfl) rfl ?_
    | refine Sq.pu ok hm (by exact Want.yes rfl rfl rfl (by exact decide_eq_false (by omega))) (by first
    | exact Pu.move rfl
    | exact Pu.lenS hT rfl rfl) rfl ?_))
  refine Sq.pu ok hm (by exact Want.yes rfl rfl rfl (by exact decide_eq_false (by omega))) (Pu.mulN (a := kk) (b := m) rfl rfl (by simp only [InR]; omega)) rfl ?_
  have hkm : ∀ i, i < kk → i * m + m ≤ kk * m := fun i hi => by
    have := Nat.mul_le_mul_right m (Nat.succ_le_of_lt hi)
    rw [Nat.succ_mul] at this; exact this
  obtain ⟨km, hkd⟩ : ∃ km, kk * m = km := ⟨_, rfl⟩
  rw [hkd] at hdm hlen hps hkm ⊢
  (repeat (first
    | refine Ex.seq ok hm ?_
    | refine Ex.skip ok hm ?_
    | refine Ex.region ok hm ?_
    | refine Sq.pu ok hm Want.none (by first
    | exact Pu.move rfl
    | exact Pu.quoN rfl rfl (by decide) (by simp only [InR]; omega)
    | exact Pu.addN rfl rfl (by simp only [InR]; omega)
    | exact Pu.neqI rfl rfl
    | exact Pu.pickF rfl (by first
    | rfl
    | exact decide_eq_false (by omega)) rfl) rfl ?_
    | refine Sq.pu ok hm (by first
    | exact Want.none
    | exact Want.yes rfl rfl rfl (by first
    | rfl
    | exact decide_eq_false (by omega))) (by first
    | exact Pu.quoN rfl rfl (by decide) (by simp only [InR]; omega)
    | exact Pu.addN rfl rfl (by simp only [InR]; omega)
    | exact Pu.neqI rfl rfl) rfl ?_
    | refine Sq.finH (n := 8) ok hm (by repeat (first
    | exact Keep.nil
    | apply Keep.drop rfl
    | apply Keep.keep rfl)) ?_
    | refine Ex.condF ok hm rfl (by first
    | rfl
    | (simp; omega)) ?_))
  refine Sq.call ok Want.none (Op1.call rfl rfl fn19) rfl (FnC.mono open_ok ?_)
  rintro x M1 ⟨rfl, e1⟩
  obtain ⟨r, hr⟩ : ∃ r, M.next = r := ⟨_, rfl⟩
  have hR1 : RdAt M1 r s 0 := by rw [e1, ← hr]; exact AM.add_same
  have hF1 : Fr M M1 [] := by rw [e1]; exact Fr.add _ _ _
  have hn1 : M1.next = r + 1 := by rw [e1]; simp only [AM.next_add]; omega
  clear e1
  rw [hr]
  (repeat (first
    | refine Ex.seq ok hm ?_
    | refine Ex.region ok hm ?_
    | refine Sq.pu ok hm Want.none (by first
    | exact Pu.move rfl
    | exact Pu.assign rfl) rfl ?_
    | refine Sq.finH (n := 10) ok hm (by repeat (first
    | exact Keep.nil
    | apply Keep.drop rfl
    | apply Keep.keep rfl)) ?_))
  refine Sq.op ok hm Want.none (Op1.makeSlice hT rfl rfl rfl rfl rfl rfl rfl (by omega) (Int.le_refl _) (by omega) rfl) rfl ?_
  rw [Int.toNat_natCast, hn1]
  have hR2 : RdAt (M1.add (.row (List.replicate kk (.int .u64 0)) 1 (some (25, 0)))) r s 0 := (AM.add_ne (by omega)).trans hR1
  have hB2 : (M1.add (.row (List.replicate kk (.int .u64 0)) 1 (some (25, 0)))).get (r + 1) = some (.row (cellsU s m kk 0) 1 (some (25, 0))) := by
    rw [← hn1]
    exact AM.add_same
  have hF2 : Fr M (M1.add (.row (List.replicate kk (.int .u64 0)) 1 (some (25, 0)))) [] := hF1.add' _
  have hn2 : (M1.add (.row (List.replicate kk (.int .u64 0)) 1 (some (25, 0)))).next = r + 2 := by simp only [AM.next_add]; omega
  (repeat (first
    | refine Ex.seq ok hm ?_
    | refine Ex.block ok hm ?_
    | refine Ex.region ok hm ?_
    | refine Sq.pu ok hm Want.none (by first
    | exact Pu.move rfl
    | exact Pu.assign rfl
    | exact Pu.lenL hT rfl rfl) rfl ?_
    | refine Sq.finH (n := 44) ok hm (by repeat (first
    | exact Keep.nil
    | apply Keep.keep rfl)) ?_))
  show Ex Try.prog tables ro ⟨10, 66⟩ _ _ (M1.add (.row (List.replicate kk (.int .u64 0)) 1 (some (25, 0)))) _
  generalize (M1.add (.row (List.replicate kk (.int .u64 0)) 1 (some (25, 0)))) = M2 at hR2 hB2 hF2 hn2 ⊢
  refine Ex.loop ?_
  refine Lp.inv ok hm (α := Nat)
    (fun i E M' => E = [(43, .int .i64 (i : Int)), (42, .int .i64 (kk : Int)), (9, .slice (some ⟨r + 1, 0, none⟩) kk kk), (8, .pointer (some ⟨r, 0, none⟩)), (1, .int .i64 (m : Int))] ∧ i ≤ kk ∧ RdAt M' r s (i * m) ∧ M'.get (r + 1) = some (.row (cellsU s m kk i) 1 (some (25, 0))) ∧ Fr M M' [] ∧ r + 2 ≤ M'.next)
    (fun i => kk - i) ?_ 0 [(43, .int .i64 (0 : Nat)), (42, .int .i64 (kk : Int)), (9, .slice (some ⟨r + 1, 0, none⟩) kk kk), (8, .pointer (some ⟨r, 0, none⟩)), (1, .int .i64 (m : Int))] ⟨rfl, rfl, rfl, rfl, rfl, trivial⟩ ⟨rfl, Nat.zero_le _, by rw [Nat.zero_mul]; exact hR2, hB2, hF2, by omega⟩
  intro i E M3 ⟨hE, hi, hR, hB, hF, hnx⟩
  subst hE
  by_cases hil : i < kk
  · have hkmi := hkm i hil
    have hcl := cellsU_length s m hi
    have hcs := cellsU_set s m hil
    have hsm : i * m + m = (i + 1) * m := by rw [Nat.succ_mul]
    clear hps hR1 hF1 hR2 hB2 hF2 hkm
    obtain ⟨im, him⟩ : ∃ im, i * m = im := ⟨_, rfl⟩
    rw [him] at hR hkmi hcs hsm
    (repeat (first
    | refine Ex.seq ok hm ?_
    | refine Ex.block ok hm ?_
    | refine Ex.skip ok hm ?_
    | refine Ex.region ok hm ?_
    | refine Sq.pu ok hm Want.none (by first
    | exact Pu.move rfl
    | exact Pu.assign rfl
    | exact Pu.lssI rfl rfl) rfl ?_
    | refine Sq.finH (n := 44) ok hm (by repeat (first
    | exact Keep.nil
    | apply Keep.drop rfl
    | apply Keep.keep rfl)) ?_
    | refine Ex.condT ok hm rfl (by first
    | rfl
    | exact decide_eq_true (by omega)) ?_))
    refine Sq.call ok Want.none (Op1.call rfl rfl fn21) rfl (FnC.mono (take_ok (n := (m : Int)) (by omega) hR (by simp only [InR]; omega) (by omega) (by omega)) ?_)
    rintro x M4 ⟨rfl, hR4, hF4⟩
    rw [takeE_yes s im m hm64 (by omega)] at hR4 ⊢
    have hB4 := (hF4.get (r + 1) (by omega) (by simp)).trans hB
    have hn4 := hF4.next
    simp only at hR4
    rw [hsm] at hR4
    generalize valB (midT s im m) = v at hcs
    (repeat (refine Sq.pu ok hm Want.none (by first
    | exact Pu.move rfl
    | exact Pu.extract rfl rfl
    | exact Pu.indexAddr hT rfl rfl rfl rfl (by omega) (by omega)) rfl ?_))
    refine Sq.act ok hm Want.none (Op1.store hT rfl rfl rfl rfl hB4 (by omega) (Nat.zero_le _) (by rw [hcl]; show 0 + ((i : Nat) : Int).toNat * 1 + 1 ≤ _; omega) rfl) ?_
    have hst : setAt (cellsU s m kk i) (0 + ((i : Nat) : Int).toNat * 1) (cellsL (u64v v)) = cellsU s m kk (i + 1) := by
      rw [show 0 + ((i : Nat) : Int).toNat * 1 = i by omega]; exact hcs
    (repeat (first
    | refine Ex.region ok hm ?_
    | refine Sq.pu ok hm Want.none (by first
    | exact Pu.move rfl
    | exact Pu.addN rfl rfl (by simp only [InR]; omega)) rfl ?_
    | refine Sq.finH (n := 44) ok hm (by repeat (first
    | exact Keep.nil
    | apply Keep.drop rfl
    | apply Keep.keep rfl)) ?_))
    refine ⟨i + 1, [(43, .int .i64 ((i + 1 : Nat) : Int)), (42, .int .i64 (kk : Int)), (9, .slice (some ⟨r + 1, 0, none⟩) kk kk), (8, .pointer (some ⟨r, 0, none⟩)), (1, .int .i64 (m : Int))], ?_, ⟨rfl, rfl, rfl, rfl, rfl, trivial⟩, rfl, by omega, (AM.upd_ne (by omega)).trans hR4, ?_, (hF.trans hF4 (fun b hb => by simp at hb; right; omega)).upd' _ (.inr (by omega)), by simp only [AM.next_upd]; omega⟩
    · show kk - (i + 1) < kk - i
      omega
    · rw [← hst]; exact AM.upd_same
  · have hie : i = kk := by omega
    subst hie
    rw [hkd] at hR
    rw [cellsU_full] at hB
    clear hR2 hB2 hF2 hR1 hF1 hkm
    (repeat (first
    | refine Ex.seq ok hm ?_
    | refine Ex.region ok hm ?_
    | refine Sq.pu ok hm Want.none (by first
    | exact Pu.move rfl
    | exact Pu.lssI rfl rfl) rfl ?_
    | refine Sq.finH (n := 44) ok hm (by repeat (first
    | exact Keep.nil
    | apply Keep.keep rfl)) ?_
    | refine Ex.condF ok hm rfl (by first
    | rfl
    | exact decide_eq_false (by omega)) ?_
    | refine Ex.exit ok hm ?_))
    refine Sq.call ok Want.none (Op1.call rfl rfl fn23) rfl (FnC.mono (left_ok hR (by omega) (by omega)) ?_)
    rintro x M4 ⟨rfl, rfl⟩
    have e8 : 8 * (s.length : Int) - (km : Int) = ((8 * s.length - km : Nat) : Int) := by omega
    rw [e8]
    generalize hrd : 8 * s.length - km = rest at hps
    refine Sq.call ok Want.none (Op1.call rfl rfl fn21) rfl (FnC.mono (take_ok (n := (rest : Int)) (by omega) hR (by simp only [InR]; omega) (by omega) (by omega)) ?_)
    rintro x M5 ⟨rfl, hR5, hF5⟩
    rw [takeE_yes s km rest (by omega) (by omega)] at hR5 ⊢
    have hB5 := (hF5.get (r + 1) (by omega) (by simp)).trans hB
    have hF6 := hF.trans hF5 (fun b hb => by simp at hb; right; omega)
    have hv2 := midT_lt s km rest
    have hv3 : 2 ^ rest ≤ 2 ^ 8 := Nat.pow_le_pow_right (by decide) (by omega)
    generalize valB (midT s km rest) = v at hps hv2
    rw [hps]
    by_cases hv0 : v = 0
    · rw [if_neg (fun k => k hv0)]
      (repeat (first
    | refine Ex.seq ok hm ?_
    | refine Ex.skip ok hm ?_
    | refine Ex.region ok hm ?_
    | refine Sq.pu ok hm Want.none (by first
    | exact Pu.move rfl
    | exact Pu.assign rfl
    | exact Pu.extract rfl rfl
    | exact Pu.neqI rfl rfl) rfl ?_
    | refine Sq.finH (n := 44) ok hm (by repeat (first
    | exact Keep.nil
    | apply Keep.drop rfl
    | apply Keep.keep rfl)) ?_
    | refine Ex.condF ok hm rfl (by first
    | rfl
    | (simp; omega)) ?_
    | refine Ex.ret ok hm ?_))
      refine ⟨_, .tmp rfl (.tmp rfl .nil), some ⟨r + 1, 0, none⟩, i, r + 1, ?_, slU_row hB5, hF6, by omega⟩
      rw [unpL_length]; rfl
    · rw [if_pos hv0]
      (repeat (first
    | refine Ex.seq ok hm ?_
    | refine Ex.region ok hm ?_
    | refine Sq.pu ok hm Want.none (by first
    | exact Pu.move rfl
    | exact Pu.assign rfl
    | exact Pu.extract rfl rfl
    | exact Pu.neqI rfl rfl) rfl ?_
    | refine Sq.finH (n := 44) ok hm (by repeat (first
    | exact Keep.nil
    | apply Keep.drop rfl
    | apply Keep.keep rfl)) ?_
    | refine Ex.condT ok hm rfl (by first
    | rfl
    | (simp; omega)) ?_
    | refine Ex.ret ok hm ?_))
      exact ⟨_, .tmp rfl (.tmp rfl .nil), UOut.none hF6⟩
end Go.Proofs.Ytlhfolmhgghjcaa
/- N -/
namespace Go.Proofs.Ytlhfolmhgghjcaa
open Go.Wvm Bits
set_option linter.unusedVariables false
set_option linter.unusedSimpArgs false

theorem sliceTail {M : AM} {t e : TypeId} {c m a u : Nat} {l : List Value} {tt : Option (TypeId × Nat)} {s by' : Nat} {z : Option Value} {g : Bool} {ei : TyI}
    (ht : tyGet T t = some ⟨.slice e, s, by', z, g⟩) (he : tyGet T e = some ei) (hm : m ≠ 0 → M.get c = some (.row l u tt)) (hu : (Nat.beq u 0 || Nat.beq ei.size u) = true) (h0 : a ≤ m) :
    ∃ (b' : Option Addr) (cap' : Nat), (∀ (E : En) (x lo : Operand), evE E x = some (bufV c m) → evE E lo = some (.int .i64 (a : Int)) → Pu Try.prog tables E M (.slice t x (some lo) none none) (.slice b' (m - a) cap')) ∧ (m - a ≠ 0 → b' = some ⟨c, a * ei.size, none⟩) := by
  have hl' : ∀ (E : En) (lo : Operand), evE E lo = some (.int .i64 (a : Int)) → evOE E (some lo) = some (some (.int .i64 (a : Int))) := fun E lo hl => by simp only [evOE, hl]
  by_cases h2 : m = 0
  · subst h2
    refine ⟨none, 0 - a, fun E x lo hx hl => ?_, fun h => by omega⟩
    have hx' : evE E x = some (.slice none 0 0) := hx
    have := Pu.sliceN (P := Try.prog) (M := M) (hi := none) (vh := none) hT hx' (hl' _ _ hl) rfl ht he (bounds_ln (by omega) (by omega))
    simp only [Int.toNat_natCast] at this
    exact this
  · by_cases h3 : a = m
    · have hb : bounds m m (some (.int .i64 (a : Int))) none none = some (m, m, m) := by
        rw [bounds_ln (by omega) (by omega), Int.toNat_natCast, h3]
      refine ⟨some ⟨c, 0, none⟩, 0, fun E x lo hx hl => ?_, fun h => by omega⟩
      rw [bufV_pos c m h2] at hx
      have := Pu.sliceLE (P := Try.prog) (M := M) (hi := none) (vh := none) hT hx (hl' _ _ hl) rfl ht he hb (hm h2) hu
      have e : m - a = 0 := by omega
      rw [e]
      exact this
    · have hb : bounds m m (some (.int .i64 (a : Int))) none none = some (a, m, m) := by
        rw [bounds_ln (by omega) (by omega), Int.toNat_natCast]
      refine ⟨some ⟨c, a * ei.size, none⟩, m - a, fun E x lo hx hl => ?_, fun _ => rfl⟩
      rw [bufV_pos c m h2] at hx
      have := Pu.sliceL (P := Try.prog) (M := M) (hi := none) (vh := none) hT hx (hl' _ _ hl) rfl ht he hb (hm h2) hu (by omega)
      rw [Nat.zero_add] at this
      exact this
theorem bufV_sl (c n : Nat) : ∃ b cap, bufV c n = .slice b n cap ∧ (n ≠ 0 → b = some ⟨c, 0, none⟩) := by
  by_cases h : n = 0
  · subst h; exact ⟨none, 0, rfl, fun k => absurd rfl k⟩
  · exact ⟨some ⟨c, 0, none⟩, n, bufV_pos c n h, fun _ => rfl⟩
theorem sq_factsB {ro : Nat} {F : FX} {all os : List Oper} {E : En} {M : AM} {Q : En → AM → Prop} (h : (∀ b a, M.get b = some a → b < M.next) → ro ≤ M.next → Sq Try.prog tables ro F all os E M Q) : Sq Try.prog tables ro F all os E M Q :=
  fun i hi tm w hE hM => h (fun b a k => hM.bound k) (by rw [← hM.next]; exact hM.ron) i hi tm w hE hM

set_option maxHeartbeats 8000000 in
theorem rUnpack_ok {ro : Nat} {M : AM} (s : List UInt8) {n k : Int} (hn : InR .i64 n) (hk : InR .i64 k) (hs : s.length ≤ 1048576) :
    FnC Try.prog tables ro 11 [.string ⟨⟨s⟩⟩, .int .i64 n, .int .i64 k] M (fun x M' => UOut M M' (unpackS s n k) x) := by
  refine FnC.facts fun hlt hron => ?_
  refine FnC.body (nt := 68) ok hm fn11 rfl rfl ?_
  simp only [InR] at hn hk
  by_cases hbad : n < 1 ∨ 64 < n ∨ k < 0
  · have e : unpackS s n k = ([], 1) := if_pos hbad
    rw [e]
    by_cases h1 : n < 1
    · (repeat (first
    | refine Ex.seq ok hm ?_
    | refine Ex.region ok hm ?_
    | refine Sq.pu ok hm Want.none (by first
    | exact Pu.move rfl
    | exact Pu.assign rfl
    | exact Pu.lssI rfl rfl
    | exact Pu.pickT rfl (by first
    | rfl
    | exact decide_eq_true (by omega)) rfl) rfl ?_
    | refine Sq.skip ok hm (by exact Want.no rfl rfl rfl (by first
    | rfl
    | exact decide_eq_true (by omega))) rfl ?_
    | refine Sq.finH (n := 8) ok hm (by repeat (first
    | exact Keep.nil
    | apply Keep.drop rfl
    | apply Keep.keep rfl)) ?_
    | refine Ex.condT ok hm rfl (by rfl) ?_
    | refine Ex.ret ok hm ?_))
      exact ⟨_, .tmp rfl (.tmp rfl .nil), UOut.none (Fr.refl _ _)⟩
    · by_cases h2 : 64 < n
      all_goals
        (repeat (first
    | refine Ex.seq ok hm ?_
    | refine Ex.region ok hm ?_
    | refine Sq.pu ok hm Want.none (by first
    | exact Pu.move rfl
    | exact Pu.assign rfl
    | exact Pu.lssI rfl rfl
    | exact Pu.gtrI rfl rfl
    | exact Pu.pickT rfl (by first
    | rfl
    | exact decide_eq_true (by omega)) rfl
    | exact Pu.pickF rfl (by first
    | rfl
    | exact decide_eq_false (by omega)) rfl) rfl ?_
    | refine Sq.pu ok hm (by exact Want.yes rfl rfl rfl (by first
    | rfl
    | exact decide_eq_false (by omega))) (by first
    | exact Pu.move rfl
    | exact Pu.lssI rfl rfl
    | exact Pu.gtrI rfl rfl) rfl ?_
    | refine Sq.skip ok hm (by exact Want.no rfl rfl rfl (by first
    | rfl
    | exact decide_eq_true (by omega))) rfl ?_
    | refine Sq.finH (n := 8) ok hm (by repeat (first
    | exact Keep.nil
    | apply Keep.drop rfl
    | apply Keep.keep rfl)) ?_
    | refine Ex.condT ok hm rfl (by first
    | rfl
    | exact decide_eq_true (by omega)) ?_
    | refine Ex.ret ok hm ?_))
        exact ⟨_, .tmp rfl (.tmp rfl .nil), UOut.none (Fr.refl _ _)⟩
  obtain ⟨m, rfl⟩ : ∃ m : Nat, n = m := ⟨n.toNat, by omega⟩
  obtain ⟨kk, rfl⟩ : ∃ m : Nat, k = m := ⟨k.toNat, by omega⟩
  have hm1 : 1 ≤ m := by omega
  have hm64 : m ≤ 64 := by omega
  obtain ⟨hd1, hd2⟩ := max_div hm1 hm64
  have hps : unpackS s (m : Int) (kk : Int) = if 134217728 / m < kk ∨ s.length ≠ (kk * m + 7) / 8 then ([], 4)
      else if valB (midT s (kk * m) (8 * s.length - kk * m)) ≠ 0 then ([], 4) else (unpL s m kk, 0) := by
    unfold unpackS; rw [if_neg hbad]; simp only [Int.toNat_natCast]
  have hdm : kk ≤ 134217728 / m → kk * m ≤ 134217728 := fun h => (Nat.le_div_iff_mul_le (by omega)).1 h
  clear hbad hn
  by_cases hbig : 134217728 / m < kk
  · rw [hps, if_pos (.inl hbig)]
    (repeat (first
    | refine Ex.seq ok hm ?_
    | refine Ex.skip ok hm ?_
    | refine Ex.region ok hm ?_
    | refine Sq.pu ok hm Want.none (by first
    | exact Pu.move rfl
    | exact Pu.assign rfl
    | exact Pu.lssI rfl rfl
    | exact Pu.gtrI rfl rfl
    | exact Pu.pickF rfl (by first
    | rfl
    | exact decide_eq_false (by omega)) rfl) rfl ?_
    | refine Sq.pu ok hm (by first
    | exact Want.none
    | exact Want.yes rfl rfl rfl (by first
    | rfl
    | exact decide_eq_false (by omega))) (by first
    | exact Pu.move rfl
    | exact Pu.lssI rfl rfl
    | exact Pu.gtrI rfl rfl) rfl ?_
    | refine Sq.finH (n := 8) ok hm (by repeat (first
    | exact Keep.nil
    | apply Keep.drop rfl
    | apply Keep.keep rfl)) ?_
    | refine Ex.condF ok hm rfl (by rfl) ?_))
    refine Sq.pu ok hm Want.none (Pu.quoN (a := 134217728) (b := m) rfl rfl (by omega) (by simp only [InR]; omega)) rfl ?_
    generalize 134217728 / m = dm at hd1 hd2 hbig
    (repeat (first
    | refine Ex.seq ok hm ?_
    | refine Ex.region ok hm ?_
    | refine Sq.pu ok hm Want.none (by first
    | exact Pu.move rfl
    | exact Pu.assign rfl
    | exact Pu.gtrI rfl rfl
    | exact Pu.pickT rfl (by first
    | rfl
    | exact decide_eq_true (by omega)) rfl) rfl ?_
    | refine Sq.skip ok hm (by exact Want.no rfl rfl rfl (by first
    | rfl
    | exact decide_eq_true (by omega))) rfl ?_
    | refine Sq.finH (n := 8) ok hm (by repeat (first
    | exact Keep.nil
    | apply Keep.drop rfl
    | apply Keep.keep rfl)) ?_
    | refine Ex.condT ok hm rfl (by rfl) ?_
    | refine Ex.ret ok hm ?_))
    exact ⟨_, .tmp rfl (.tmp rfl .nil), UOut.none (Fr.refl _ _)⟩
  have hdm := hdm (by omega)
  have hkm : ∀ i, i < kk → i * m + m ≤ kk * m := fun i hi => by
    have := Nat.mul_le_mul_right m (Nat.succ_le_of_lt hi)
    rw [Nat.succ_mul] at this; exact this
  by_cases hlen : s.length ≠ (kk * m + 7) / 8
  · rw [hps, if_pos (.inr hlen)]
    (repeat (first
    | refine Ex.seq ok hm ?_
    | refine Ex.skip ok hm ?_
    | refine Ex.region ok hm ?_
    | refine Sq.pu ok hm Want.none (by first
    | exact Pu.move rfl
    | exact Pu.assign rfl
    | exact Pu.lssI rfl rfl
    | exact Pu.gtrI rfl rfl
    | exact Pu.pickF rfl (by first
    | rfl
    | exact decide_eq_false (by omega)) rfl) rfl ?_
    | refine Sq.pu ok hm (by first
    | exact Want.none
    | exact Want.yes rfl rfl rfl (by first
    | rfl
    | exact decide_eq_false (by omega))) (by first
    | exact Pu.move rfl
    | exact Pu.lssI rfl rfl
    | exact Pu.gtrI rfl rfl) rfl ?_
    | refine Sq.finH (n := 8) ok hm (by repeat (first
    | exact Keep.nil
    | apply Keep.drop rfl
    | apply Keep.keep rfl)) ?_
    | refine Ex.condF ok hm rfl (by rfl) ?_))
    refine Sq.pu ok hm Want.none (Pu.quoN (a := 134217728) (b := m) rfl rfl (by omega) (by simp only [InR]; omega)) rfl ?_
    generalize 134217728 / m = dm at hd1 hd2 hbig
    (repeat (first
    | refine Sq.pu ok hm Want.none (by first
    | exact Pu.move rfl
    | exact Pu.gtrI rfl rfl
    | exact Pu.lenS hT rfl rfl) rfl ?_
    | refine Sq.pu ok hm (by exact Want.yes rfl rfl rfl (by exact decide_eq_false (by omega))) (by first
    | exact Pu.move rfl
    | exact Pu.lenS hT rfl rfl) rfl ?_))
    refine Sq.pu ok hm (by exact Want.yes rfl rfl rfl (by exact decide_eq_false (by omega))) (Pu.mulN (a := m) (b := kk) rfl rfl (by rw [Nat.mul_comm]; simp only [InR]; omega)) rfl ?_
    rw [Nat.mul_comm m kk]
    generalize kk * m = km at hdm hlen
    (repeat (first
    | refine Ex.seq ok hm ?_
    | refine Ex.region ok hm ?_
    | refine Sq.pu ok hm Want.none (by first
    | exact Pu.assign rfl
    | exact Pu.quoN rfl rfl (by decide) (by simp only [InR]; omega)
    | exact Pu.addN rfl rfl (by simp only [InR]; omega)
    | exact Pu.neqI rfl rfl
    | exact Pu.pickF rfl (by first
    | rfl
    | exact decide_eq_false (by omega)) rfl) rfl ?_
    | refine Sq.pu ok hm (by exact Want.yes rfl rfl rfl (by first
    | rfl
    | exact decide_eq_false (by omega))) (by first
    | exact Pu.quoN rfl rfl (by decide) (by simp only [InR]; omega)
    | exact Pu.addN rfl rfl (by simp only [InR]; omega)
    | exact Pu.neqI rfl rfl) rfl ?_
    | refine Sq.finH (n := 8) ok hm (by repeat (first
    | exact Keep.nil
    | apply Keep.drop rfl
    | apply Keep.keep rfl)) ?_
    | refine Ex.condT ok hm rfl (by first
    | rfl
    | (simp; omega)) ?_
    | refine Ex.ret ok hm ?_))
    exact ⟨_, .tmp rfl (.tmp rfl .nil), UOut.none (Fr.refl _ _)⟩
  have hlen : s.length = (kk * m + 7) / 8 := by omega
  rw [if_neg (by rintro (h | h); exact hbig h; exact h hlen)] at hps
  (repeat (first
    | refine Ex.seq ok hm ?_
    | refine Ex.skip ok hm ?_
    | refine Ex.region ok hm ?_
    | refine Sq.pu ok hm Want.none (by first
    | exact Pu.move rfl
    | exact Pu.assign rfl
    | exact Pu.lssI rfl rfl
    | exact Pu.gtrI rfl rfl
    | exact Pu.pickF rfl (by first
    | rfl
    | exact decide_eq_false (by omega)) rfl) rfl ?_
    | refine Sq.pu ok hm (by first
    | exact Want.none
    | exact Want.yes rfl rfl rfl (by first
    | rfl
    | exact decide_eq_false (by omega))) (by first
    | exact Pu.move rfl
    | exact Pu.lssI rfl rfl
    | exact Pu.gtrI rfl rfl) rfl ?_
    | refine Sq.finH (n := 8) ok hm (by repeat (first
    | exact Keep.nil
    | apply Keep.drop rfl
    | apply Keep.keep rfl)) ?_
    | refine Ex.condF ok hm rfl (by rfl) ?_))
  refine Sq.pu ok hm Want.none (Pu.quoN (a := 134217728) (b := m) rfl rfl (by omega) (by simp only [InR]; omega)) rfl ?_
  generalize 134217728 / m = dm at hd1 hd2 hbig
  (repeat (first
    | refine Sq.pu ok hm Want.none (by first
    | exact Pu.move rfl
    | exact Pu.gtrI rfl rfl
    | exact Pu.lenS hT rfl rfl) rfl ?_
    | refine Sq.pu ok hm (by exact Want.yes rfl rfl rfl (by exact decide_eq_false (by omega))) (by first
    | exact Pu.move rfl
    | exact Pu.lenS hT rfl rfl) rfl ?_))
  refine Sq.pu ok hm (by exact Want.yes rfl rfl rfl (by exact decide_eq_false (by omega))) (Pu.mulN (a := m) (b := kk) rfl rfl (by rw [Nat.mul_comm]; simp only [InR]; omega)) rfl ?_
  rw [Nat.mul_comm m kk]
  obtain ⟨km, hkd⟩ : ∃ km, kk * m = km := ⟨_, rfl⟩
  rw [hkd] at hdm hlen hps hkm ⊢
  (repeat (first
    | refine Ex.seq ok hm ?_
    | refine Ex.skip ok hm ?_
    | refine Ex.region ok hm ?_
    | refine Sq.pu ok hm Want.none (by first
    | exact Pu.move rfl
    | exact Pu.quoN rfl rfl (by decide) (by simp only [InR]; omega)
    | exact Pu.addN rfl rfl (by simp only [InR]; omega)
    | exact Pu.neqI rfl rfl
    | exact Pu.pickF rfl (by first
    | rfl
    | exact decide_eq_false (by omega)) rfl) rfl ?_
    | refine Sq.pu ok hm (by first
    | exact Want.none
    | exact Want.yes rfl rfl rfl (by first
    | rfl
    | exact decide_eq_false (by omega))) (by first
    | exact Pu.quoN rfl rfl (by decide) (by simp only [InR]; omega)
    | exact Pu.addN rfl rfl (by simp only [InR]; omega)
    | exact Pu.neqI rfl rfl) rfl ?_
    | refine Sq.finH (n := 8) ok hm (by repeat (first
    | exact Keep.nil
    | apply Keep.drop rfl
    | apply Keep.keep rfl)) ?_
    | refine Ex.condF ok hm rfl (by first
    | rfl
    | (simp; omega)) ?_))
  refine Sq.call ok Want.none (Op1.call rfl rfl fn24) rfl (FnC.mono (Bits_ok hs) ?_)
  rintro v M2 ⟨c0, rfl, hb, hF2, hc0⟩
  have hn2 := hF2.next
  refine sq_factsB fun hlt2 hron2 => ?_
  obtain ⟨a, k1, k2, hbv⟩ : ∃ a k1 k2, bufV c0 (8 * s.length) = .slice a k1 k2 := by
    unfold bufV; split <;> exact ⟨_, _, _, rfl⟩
  rw [hbv]
  refine Sq.pu ok hm Want.none (Pu.build hT rfl rfl rfl rfl) rfl ?_
  refine Sq.op ok hm Want.none (Op1.box rfl rfl) rfl ?_
  obtain ⟨q, hq⟩ : ∃ q, M2.next = q := ⟨_, rfl⟩
  obtain ⟨c, hbc, hcq, hc2, hcl⟩ : ∃ c, bufV c0 (8 * s.length) = bufV c (8 * s.length) ∧ q ≠ c ∧ (8 * s.length ≠ 0 → M.next ≤ c ∧ c < q) ∧ (8 * s.length ≠ 0 → M2.get c = some (.row ((bitsOf s).map Value.bool) 1 (some (4, 0)))) := by
    by_cases hz : 8 * s.length = 0
    · refine ⟨q + 1, ?_, by omega, fun k => absurd hz k, fun k => absurd hz k⟩
      rw [hz]; rfl
    · have h3 := hlt2 _ _ (hb hz)
      exact ⟨c0, rfl, by omega, fun _ => by omega, hb⟩
  have hRq : RqAt (M2.add (.row [.slice a k1 k2, .int .i64 0] 0 (some (55, 0)))) q c s 0 := by
    refine ⟨?_, fun k => (AM.add_ne (by have := hc2 k; omega)).trans (hcl k), hcq⟩
    rw [← hbc, hbv, ← hq]; exact AM.add_same
  have hF3 : Fr M (M2.add (.row [.slice a k1 k2, .int .i64 0] 0 (some (55, 0)))) [] := hF2.add' _
  have hnn : (M2.add (.row [.slice a k1 k2, .int .i64 0] 0 (some (55, 0)))).next = q + 1 := by simp only [AM.next_add]; omega
  (repeat (first
    | refine Ex.seq ok hm ?_
    | refine Ex.block ok hm ?_
    | refine Ex.region ok hm ?_
    | refine Sq.pu ok hm Want.none (by exact Pu.assign rfl) rfl ?_
    | refine Sq.finH (n := 13) ok hm (by repeat (first
    | exact Keep.nil
    | apply Keep.drop rfl
    | apply Keep.keep rfl)) ?_))
  rw [hq]
  show Ex Try.prog tables ro ⟨11, 68⟩ _ _ (M2.add (.row [.slice a k1 k2, .int .i64 0] 0 (some (55, 0)))) _
  generalize (M2.add (.row [.slice a k1 k2, .int .i64 0] 0 (some (55, 0)))) = M3 at hRq hF3 hnn ⊢
  clear hb hcl hlt2 hbv hbc hF2
  refine Ex.loop ?_
  refine Lp.inv ok hm (α := Nat × Nat)
    (fun x E M' => E = [(10, .int .i64 (x.1 : Int)), (9, bufV x.2 x.1), (8, .pointer (some ⟨q, 0, none⟩)), (1, .int .i64 (m : Int)), (2, .int .i64 (kk : Int))] ∧ x.1 ≤ kk ∧ RqAt M' q c s (x.1 * m) ∧ (x.1 ≠ 0 → M'.get x.2 = some (.row ((unpL s m x.1).map u64v) 1 (some (25, 0)))) ∧ Fr M M' [] ∧ q + 1 ≤ x.2 ∧ q + 1 ≤ M'.next ∧ (x.1 ≠ 0 → x.2 < M'.next))
    (fun x => kk - x.1) ?_ (0, q + 1) [(10, .int .i64 (0 : Nat)), (9, bufV (q + 1) 0), (8, .pointer (some ⟨q, 0, none⟩)), (1, .int .i64 (m : Int)), (2, .int .i64 (kk : Int))] ⟨rfl, rfl, rfl, rfl, rfl, trivial⟩ ⟨rfl, Nat.zero_le _, by rw [Nat.zero_mul]; exact hRq, fun k => absurd rfl k, hF3, Nat.le_refl _, by omega, fun k => absurd rfl k⟩
  intro ⟨i, cb⟩ E M4 ⟨hE, hi, hR, hB, hF, hcb, hnx, hcbn⟩
  simp only at hE hi hR hB hcb hcbn
  subst hE
  by_cases hil : i < kk
  · have hkmi := hkm i hil
    have hsu := unpL_succ s m i
    have hul := unpL_length s m i
    have hsm : i * m + m = (i + 1) * m := by rw [Nat.succ_mul]
    clear hps hRq hF3 hkm
    obtain ⟨im, him⟩ : ∃ im, i * m = im := ⟨_, rfl⟩
    rw [him] at hR hkmi hsu hsm
    (repeat (first
    | refine Ex.seq ok hm ?_
    | refine Ex.block ok hm ?_
    | refine Ex.skip ok hm ?_
    | refine Ex.region ok hm ?_
    | refine Sq.pu ok hm Want.none (by first
    | exact Pu.move rfl
    | exact Pu.lssI rfl rfl) rfl ?_
    | refine Sq.finH (n := 13) ok hm (by repeat (first
    | exact Keep.nil
    | apply Keep.drop rfl
    | apply Keep.keep rfl)) ?_
    | refine Ex.condT ok hm rfl (by first
    | rfl
    | exact decide_eq_true (by omega)) ?_))
    refine Sq.call ok Want.none (Op1.call rfl rfl fn34) rfl (FnC.mono (rTake_ok (n := (m : Int)) (by omega) hR (by simp only [InR]; omega) (by omega) (by omega)) ?_)
    rintro x M5 ⟨rfl, hR5, hF5⟩
    rw [takeE_yes s im m hm64 (by omega)] at hR5 ⊢
    have hn5 := hF5.next
    have hB5 : i ≠ 0 → M5.get cb = some (.row ((unpL s m i).map u64v) 1 (some (25, 0))) := fun k => (hF5.get cb (hcbn k) (by simp; omega)).trans (hB k)
    simp only at hR5
    rw [hsm] at hR5
    generalize valB (midT s im m) = v at hsu
    (repeat (first
    | refine Ex.region ok hm ?_
    | refine Sq.pu ok hm Want.none (by first
    | exact Pu.move rfl
    | exact Pu.assign rfl
    | exact Pu.extract rfl rfl) rfl ?_
    | refine Sq.op ok hm Want.none (Op1.buildSlice hT rfl rfl rfl rfl rfl rfl rfl) rfl ?_
    | refine Sq.finH (n := 13) ok hm (by repeat (first
    | exact Keep.nil
    | apply Keep.drop rfl
    | apply Keep.keep rfl)) ?_))
    refine Sq.op ok hm Want.none (Op1.appendBuf (c := cb) (m := i) hT rfl rfl (fun h => (AM.add_ne (by have := hcbn h; omega)).trans (hB5 h)) (by rw [List.length_map, hul]) (fun h => by omega) rfl rfl rfl rfl rfl (Src.slice (n := 1) (by (repeat (exact AM.add_same))) (Nat.le_of_ble_eq_true rfl)) (by decide) (by omega) rfl rfl rfl) rfl ?_
    (repeat (first
    | refine Ex.region ok hm ?_
    | refine Sq.pu ok hm Want.none (by first
    | exact Pu.move rfl
    | exact Pu.assign rfl
    | exact Pu.addN rfl rfl (by simp only [InR]; omega)) rfl ?_
    | refine Sq.finH (n := 13) ok hm (by repeat (first
    | exact Keep.nil
    | apply Keep.drop rfl
    | apply Keep.keep rfl)) ?_))
    refine ⟨(i + 1, M5.next + 1), [(10, .int .i64 ((i + 1 : Nat) : Int)), (9, bufV (M5.next + 1) (i + 1)), (8, .pointer (some ⟨q, 0, none⟩)), (1, .int .i64 (m : Int)), (2, .int .i64 (kk : Int))], ?_, ⟨rfl, rfl, rfl, rfl, rfl, trivial⟩, rfl, ?_, ?_, fun _ => ?_, ?_, ?_, ?_, fun _ => ?_⟩
    · show kk - (i + 1) < kk - i
      omega
    · show i + 1 ≤ kk
      omega
    · have key : ∀ b, b ≤ q → ((((M5.add (.row [.int .u64 (v : Int)] 1 (some (25, 0)))).rm cb).add (.row ((unpL s m i).map u64v ++ [.int .u64 (v : Int)]) 1 (some (25, 0))))).get b = M5.get b := fun b hb =>
        (AM.add_ne (by simp only [AM.next_add, AM.next_rm]; omega)).trans ((AM.rm_ne (by omega)).trans (AM.add_ne (by omega)))
      exact ⟨(key q (Nat.le_refl _)).trans hR5.row, fun k => (key c (by have := hc2 k; omega)).trans (hR5.buf k), hcq⟩
    · rw [hsu, List.map_append]
      exact AM.add_same
    · exact (((hF.trans hF5 (fun b hb => by simp at hb; right; omega)).add' _).rm' (.inr (by omega))).add' _
    · show q + 1 ≤ M5.next + 1
      omega
    · simp only [AM.next_add, AM.next_rm]; omega
    · simp only [AM.next_add, AM.next_rm]; omega
  · have hie : i = kk := by omega
    subst hie
    rw [hkd] at hR
    have hrow := hR.row
    have hbl := bitsOf_length s
    obtain ⟨b', cap', hsl, hb'⟩ := sliceTail (M := M4) (t := 52) (m := 8 * s.length) (c := c) (a := km) rfl rfl hR.buf rfl (by omega)
    have hval : valB (((bitsOf s).drop km).take (8 * s.length - km)) = valB (midT s km (8 * s.length - km)) := rfl
    obtain ⟨b2, cap2, hbv2, hb2⟩ := bufV_sl cb i
    have hul := unpL_length s m i
    clear hRq hF3 hkm
    (repeat (first
    | refine Ex.seq ok hm ?_
    | refine Ex.region ok hm ?_
    | refine Sq.pu ok hm Want.none (by first
    | exact Pu.move rfl
    | exact Pu.lssI rfl rfl) rfl ?_
    | refine Sq.finH (n := 13) ok hm (by repeat (first
    | exact Keep.nil
    | apply Keep.drop rfl
    | apply Keep.keep rfl)) ?_
    | refine Ex.condF ok hm rfl (by first
    | rfl
    | exact decide_eq_false (by omega)) ?_
    | refine Ex.exit ok hm ?_))
    refine Ex.draw ok hm 8 (by kernel_rfl) ?_
    (repeat (first
    | refine Hq.pu Want.none (by first
    | exact Pu.move rfl
    | exact Pu.nilCheck rfl
    | exact Pu.fieldAddr hT rfl rfl rfl rfl rfl
    | (apply Pu.load hT rfl rfl rfl; (focus ((repeat (assumption)))); (focus rfl))) rfl rfl rfl ?_
    | refine Hq.nil ?_))
    refine Tq.pu Want.none (hsl _ _ _ rfl rfl) rfl ?_
    refine Tq.call Want.none (Op1.call rfl rfl fn35) rfl (FnC.mono (num_ok (c := c) (o := km) (L := bitsOf s) (fun k => ⟨(hb' k).trans (by simp), hR.buf (by omega), by omega⟩) (by omega)) ?_)
    rintro x M5 ⟨rfl, rfl⟩
    rw [hval]
    rw [hps]
    generalize valB (midT s km (8 * s.length - km)) = v
    by_cases hv0 : v = 0
    · rw [if_neg (fun k => k hv0)]
      (repeat (first
    | refine Ex.seq ok hm ?_
    | refine Ex.skip ok hm ?_
    | refine Ex.region ok hm ?_
    | refine Sq.pu ok hm Want.none (by first
    | exact Pu.move rfl
    | exact Pu.assign rfl) rfl ?_
    | refine Sq.finH (n := 13) ok hm (by repeat (first
    | exact Keep.nil
    | apply Keep.drop rfl
    | apply Keep.keep rfl)) ?_
    | refine Tq.pu Want.none (by exact Pu.neqI rfl rfl) rfl ?_
    | refine Tq.finH (n := 13)  (by repeat (first
    | exact Keep.nil
    | apply Keep.drop rfl
    | apply Keep.keep rfl)) ?_
    | refine Ex.condF ok hm rfl (by first
    | rfl
    | (simp; omega)) ?_
    | refine Ex.ret ok hm ?_))
      rw [hbv2]
      (repeat (fail))
      refine ⟨_, .tmp rfl (.tmp rfl .nil), b2, cap2, cb, ?_, fun k => ?_, hF, by omega⟩
      · rw [hul]; rfl
      · have hi0 : i ≠ 0 := by intro e; subst e; exact k rfl
        rw [hb2 hi0]
        exact slU_row (hB hi0) k
    · rw [if_pos hv0]
      (repeat (first
    | refine Ex.seq ok hm ?_
    | refine Ex.region ok hm ?_
    | refine Sq.pu ok hm Want.none (by exact Pu.assign rfl) rfl ?_
    | refine Sq.finH (n := 13) ok hm (by repeat (first
    | exact Keep.nil
    | apply Keep.drop rfl
    | apply Keep.keep rfl)) ?_
    | refine Tq.pu Want.none (by exact Pu.neqI rfl rfl) rfl ?_
    | refine Tq.finH (n := 13)  (by repeat (first
    | exact Keep.nil
    | apply Keep.drop rfl
    | apply Keep.keep rfl)) ?_
    | refine Ex.condT ok hm rfl (by first
    | rfl
    | (simp; omega)) ?_
    | refine Ex.ret ok hm ?_))
      exact ⟨_, .tmp rfl (.tmp rfl .nil), UOut.none hF⟩
end Go.Proofs.Ytlhfolmhgghjcaa
