/- Towards the laws of this seat: contracts of the program's functions in a logic over a small machine (text XMain). No condition. -/
import Derived.Test.YtncpdgjlhdbdpaaXLaw
import Derived.Test.YtncpdgjlhdbdpaaWvmLgg
namespace Go.Proofs.Ytncpdgjlhdbdpaa
open Go.Wvm Bits
set_option linter.unusedVariables false
set_option linter.unusedSimpArgs false

structure PutV where
  kind : Int
  v : Nat
  n : Int
  text : List UInt8
def PutV.cells (x : PutV) : List Value := [.int .i64 x.kind, .int .u64 x.v, .int .i64 x.n, .string ⟨⟨x.text⟩⟩]
def rowP (l : List PutV) : List Value := l.flatMap PutV.cells
theorem rowP_length (l : List PutV) : (rowP l).length = 4 * l.length := by
  induction l with
  | nil => rfl
  | cons x l ih => simp only [rowP, List.flatMap_cons, List.length_append, List.length_cons] at ih ⊢; rw [ih]; simp [PutV.cells]; omega
theorem rowP_get (l : List PutV) : ∀ (i : Nat) (h : i < l.length), ((rowP l).drop (i * 4)).take 4 = (l[i]'h).cells := by
  induction l with
  | nil => intro i h; simp at h
  | cons x l ih =>
    intro i h
    cases i with
    | zero => simp [rowP, PutV.cells]
    | succ i =>
      have e : rowP (x :: l) = x.cells ++ rowP l := by simp [rowP]
      rw [e, List.drop_append, List.drop_eq_nil_of_le (by simp [PutV.cells]; omega)]
      rw [show (i + 1) * 4 - x.cells.length = i * 4 by simp [PutV.cells]; omega]
      simpa using ih i (by simpa using h)

def PutV.eff (l : List Bool) (x : PutV) : List Bool := Ytncpdgjlhdbdpaa.eff l x.kind x.v x.n x.text
def bitsAt (l : List PutV) (i : Nat) : List Bool := (l.take i).foldl PutV.eff []
theorem bitsAt_succ (l : List PutV) (i : Nat) (h : i < l.length) : bitsAt l (i + 1) = PutV.eff (bitsAt l i) (l[i]'h) := by
  unfold bitsAt
  rw [List.take_succ_eq_append_getElem h, List.foldl_append]; rfl
def textSum (l : List PutV) : Nat := (l.map fun x => x.text.length).sum
theorem textSum_append (a b : List PutV) : textSum (a ++ b) = textSum a + textSum b := by simp [textSum]
theorem textSum_take (l : List PutV) (i : Nat) : textSum (l.take i) ≤ textSum l := by
  conv => rhs; rw [← List.take_append_drop i l]
  rw [textSum_append]; omega
theorem bitsAt_length (l : List PutV) : ∀ (i : Nat), i ≤ l.length → (bitsAt l i).length ≤ 64 * i + 8 * textSum (l.take i) := by
  intro i
  induction i with
  | zero => intro _; simp [bitsAt]
  | succ i ih =>
    intro h
    rw [bitsAt_succ l i h, List.take_succ_eq_append_getElem h, textSum_append]
    have h1 := ih (by omega)
    have h2 := (eff_length (bitsAt l i) (l[i]'h).kind (l[i]'h).v (l[i]'h).n (l[i]'h).text).2
    have h3 : textSum [l[i]'h] = (l[i]'h).text.length := by simp [textSum]
    rw [h3]
    unfold PutV.eff
    omega

theorem awake_ok {ro : Nat} {M : AM} : FnC Try.prog tables ro 13 [] M (fun v M' => v = .bool true ∧ M' = M) :=
  FnC.closed ok hm (fuel := 100000) (by kernel_rfl)

theorem St.frame {ro : Nat} {M M' : AM} {p q r c : Nat} {l : List Bool} {S : List Nat} (h : St ro M p q r c l) (f : Fr M M' S) (h1 : p ∉ S ∧ r ∉ S) (h2 : l ≠ [] → q ∉ S ∧ c ∉ S) : St ro M' p q r c l := by
  have h5 := h.lt
  have hn := f.next
  refine ⟨h.w.frame f h5.1 (fun k => (h.ne k).1) h1.1 (fun k => (h2 k).1), h.d.frame f h5.2 (fun k => (h.ne k).2.1) h1.2 (fun k => (h2 k).2), h.pr, by omega, h.hro, fun k => ?_⟩
  have := h.ne k
  exact ⟨by omega, by omega, this.2.2⟩

def LoopI (l : List PutV) (i : Nat) (M : AM) : Prop :=
  ∃ q c q2 lo, St 1 M 1 q 3 c (bitsAt l i) ∧ WrAt M 2 q2 lo ∧ lo.length = 7 * i ∧ 4 ≤ M.next ∧ (l.length ≠ 0 → M.get 0 = some (.row (rowP l) 4 none)) ∧
    (lo ≠ [] → q2 < M.next ∧ 4 ≤ q2 ∧ (bitsAt l i ≠ [] → q2 ≠ q ∧ q2 ≠ c)) ∧ (bitsAt l i ≠ [] → 4 ≤ q ∧ 4 ≤ c)

set_option maxHeartbeats 8000000 in
theorem main_ok {M : AM} (l : List PutV) (nil : Bool) (hnil : nil = true → l.length = 0) (hnx : M.next = 1) (hrow : l.length ≠ 0 → M.get 0 = some (.row (rowP l) 4 none))
    (hwf : ∀ x ∈ l, InR .i64 x.kind ∧ x.v < 2 ^ 64 ∧ InR .i64 x.n) (hsum : textSum l ≤ 1048576) (hlen : l.length ≤ 1048576) :
    FnC Try.prog tables 1 3 [inV nil 0 l.length] M (fun v _ => v = .bool true) := by
  refine FnC.body (nt := 72) ok hm fn3 rfl rfl ?_
  (repeat (first
    | refine Ex.seq ok hm ?_
    | refine Ex.region ok hm ?_
    | refine Sq.pu ok hm Want.none (by exact Pu.assign rfl) rfl ?_
    | refine Sq.finH (n := 9) ok hm (by repeat (first
    | exact Keep.nil
    | apply Keep.keep rfl)) ?_))
  refine Sq.call ok Want.none (Op1.call rfl rfl fn7) rfl (FnC.mono new_ok ?_)
  rintro v M1 ⟨rfl, e1⟩
  have hn1 : M1.next = 2 := by rw [e1]; simp only [AM.next_add]; omega
  (repeat (first
    | refine Ex.seq ok hm ?_
    | refine Ex.region ok hm ?_
    | refine Sq.pu ok hm Want.none (by exact Pu.assign rfl) rfl ?_
    | refine Sq.finH (n := 9) ok hm (by repeat (first
    | exact Keep.nil
    | apply Keep.drop rfl
    | apply Keep.keep rfl)) ?_))
  refine Sq.call ok Want.none (Op1.call rfl rfl fn7) rfl (FnC.mono new_ok ?_)
  rintro v M2 ⟨rfl, e2⟩
  have hn2 : M2.next = 3 := by rw [e2]; simp only [AM.next_add]; omega
  (repeat (first
    | refine Ex.seq ok hm ?_
    | refine Ex.region ok hm ?_
    | refine Sq.pu ok hm Want.none (by exact Pu.assign rfl) rfl ?_
    | refine Sq.finH (n := 9) ok hm (by repeat (first
    | exact Keep.nil
    | apply Keep.drop rfl
    | apply Keep.keep rfl)) ?_))
  refine Sq.pu ok hm Want.none (Pu.build hT rfl rfl rfl rfl) rfl ?_
  refine Sq.op ok hm Want.none (Op1.box rfl rfl) rfl ?_
  (repeat (first
    | refine Ex.seq ok hm ?_
    | refine Ex.block ok hm ?_
    | refine Ex.region ok hm ?_
    | refine Sq.pu ok hm Want.none (by exact Pu.assign rfl) rfl ?_
    | refine Sq.finH (n := 9) ok hm (by repeat (first
    | exact Keep.nil
    | apply Keep.drop rfl
    | apply Keep.keep rfl)) ?_))
  rw [hnx, hn1, hn2]
  have hg0 : l.length ≠ 0 → (M2.add (.row [.slice none 0 0] 0 (some (28, 0)))).get 0 = some (.row (rowP l) 4 none) := fun k => by
    rw [AM.add_ne (by omega), e2, AM.add_ne (by omega), e1, AM.add_ne (by omega)]; exact hrow k
  have hg1 : (M2.add (.row [.slice none 0 0] 0 (some (28, 0)))).get 1 = some (.row [.slice none 0 0, .int .i64 0] 0 (some (68, 0))) := by
    rw [AM.add_ne (by omega), e2, AM.add_ne (by omega), e1, ← hnx]; exact AM.add_same
  have hg2 : (M2.add (.row [.slice none 0 0] 0 (some (28, 0)))).get 2 = some (.row [.slice none 0 0, .int .i64 0] 0 (some (68, 0))) := by
    rw [AM.add_ne (by omega), e2, ← hn1]; exact AM.add_same
  have hg3 : (M2.add (.row [.slice none 0 0] 0 (some (28, 0)))).get 3 = some (.row [.slice none 0 0] 0 (some (28, 0))) := by
    rw [← hn2]; exact AM.add_same
  have hnn : (M2.add (.row [.slice none 0 0] 0 (some (28, 0)))).next = 4 := by simp only [AM.next_add]; omega
  show Ex Try.prog tables 1 ⟨3, 72⟩ _ _ (M2.add (.row [.slice none 0 0] 0 (some (28, 0)))) _
  generalize (M2.add (.row [.slice none 0 0] 0 (some (28, 0)))) = M3 at hg0 hg1 hg2 hg3 hnn ⊢
  refine Ex.loop ?_
  refine Lp.inv ok hm (α := Nat)
    (fun i E M' => E = [(6, .int .i64 i), (5, .pointer (some ⟨3, 0, none⟩)), (4, .pointer (some ⟨2, 0, none⟩)), (3, .pointer (some ⟨1, 0, none⟩)), (0, inV nil 0 l.length)] ∧ i ≤ l.length ∧ i ≤ 100 ∧ LoopI l i M')
    (fun i => 100 - i) ?_ 0 [(6, .int .i64 (0 : Nat)), (5, .pointer (some ⟨3, 0, none⟩)), (4, .pointer (some ⟨2, 0, none⟩)), (3, .pointer (some ⟨1, 0, none⟩)), (0, inV nil 0 l.length)] ⟨rfl, rfl, rfl, rfl, rfl, trivial⟩ ⟨rfl, Nat.zero_le _, Nat.zero_le _, ?_⟩
  · intro i E M4 ⟨hE, hi, hi2, q, c, q2, lo, hSt, hOt, hlo, hnx4, hrw, hd2, hd3⟩
    subst hE
    have hol : lo.length = 7 * i := hlo
    by_cases hex : i < l.length ∧ i < 100
    · obtain ⟨hil, hi100⟩ := hex
      obtain ⟨hw1, hw2, hw3⟩ := hwf (l[i]'hil) (List.getElem_mem hil)
      have hts : textSum (l.take i) + (l[i]'hil).text.length ≤ textSum l := by
        have h1 := textSum_take l (i + 1)
        rw [List.take_succ_eq_append_getElem hil, textSum_append] at h1
        have : textSum [l[i]'hil] = (l[i]'hil).text.length := by simp [textSum]
        omega
      have hbl := bitsAt_length l i (by omega)
      have hbt := textSum_take l i
      have hrw' := hrw (by omega)
      have hag : ((rowP l).drop (0 + ((i : Nat) : Int).toNat * 4)).take 4 = (l[i]'hil).cells := by
        rw [Int.toNat_natCast, Nat.zero_add]; exact rowP_get l i hil
      (repeat (first
    | refine Ex.seq ok hm ?_
    | refine Ex.block ok hm ?_
    | refine Ex.skip ok hm ?_
    | refine Ex.region ok hm ?_
    | refine Sq.pu ok hm Want.none (by first
    | exact Pu.move rfl
    | exact Pu.lssI rfl rfl
    | exact Pu.lenIn hT (by assumption) rfl rfl
    | exact Pu.pickT rfl (by first
    | rfl
    | exact decide_eq_true (by omega)) rfl) rfl ?_
    | refine Sq.pu ok hm (by first
    | exact Want.none
    | exact Want.yes rfl rfl rfl (by first
    | rfl
    | exact decide_eq_true (by omega))) (by first
    | exact Pu.move rfl
    | exact Pu.lssI rfl rfl) rfl ?_
    | refine Sq.finH (n := 9) ok hm (by repeat (first
    | exact Keep.nil
    | apply Keep.drop rfl
    | apply Keep.keep rfl)) ?_
    | refine Ex.condT ok hm rfl (by first
    | rfl
    | exact decide_eq_true (by omega)) ?_))
      rw [inV_pos 0 l.length hnil (by omega)]
      (repeat (refine Sq.pu ok hm Want.none (by exact Pu.indexAddr hT rfl rfl rfl rfl (by omega) (by omega)) rfl ?_))
      refine Sq.pu ok hm Want.none (Pu.loadA hT rfl rfl rfl hrw' (by rw [rowP_length]; show 0 + ((i : Nat) : Int).toNat * 4 + 4 ≤ _; omega)) rfl ?_
      rw [show (List.take (TyI.size ⟨.struct #[⟨ "Kind", 3, 0, false, "", "", 0⟩, ⟨ "V", 30, 1, false, "", "", 8⟩, ⟨ "N", 3, 2, false, "", "", 16⟩, ⟨ "Text", 9, 3, false, "", "", 24⟩], 4, 40, (some (.agg ⟨[(.int .i64 0), (.int .u64 0), (.int .i64 0), (.string ⟨⟨[]⟩⟩)]⟩)), true⟩) (List.drop (0 + ((i : Nat) : Int).toNat * TyI.size ⟨.struct #[⟨ "Kind", 3, 0, false, "", "", 0⟩, ⟨ "V", 30, 1, false, "", "", 8⟩, ⟨ "N", 3, 2, false, "", "", 16⟩, ⟨ "Text", 9, 3, false, "", "", 24⟩], 4, 40, (some (.agg ⟨[(.int .i64 0), (.int .u64 0), (.int .i64 0), (.string ⟨⟨[]⟩⟩)]⟩)), true⟩) (rowP l))) = (l[i]'hil).cells from hag]
      refine Sq.call ok Want.none (Op1.call rfl rfl fn8) rfl (FnC.mono (lawput_ok hSt hw1 hw2 hw3 (by omega) (by omega)) ?_)
      rintro x M5 ⟨rfl, q', c', hSt5, hF5, hq5⟩
      have heff : eff (bitsAt l i) (l[i]'hil).kind (l[i]'hil).v (l[i]'hil).n (l[i]'hil).text = bitsAt l (i + 1) := (bitsAt_succ l i hil).symm
      rw [heff] at hSt5 hq5
      have hnx5 := hF5.next
      have hfo : ∀ b, b ≠ 1 → b ≠ 3 → (bitsAt l i ≠ [] → b ≠ q ∧ b ≠ c) → b ∉ foot 1 q 3 c (bitsAt l i) := by
        intro b h1 h2 h3
        unfold foot
        by_cases hz : bitsAt l i = []
        · rw [if_pos hz]; simp; omega
        · rw [if_neg hz]; have := h3 hz; simp; omega
      have hOt5 : WrAt M5 2 q2 lo := hOt.frame hF5 (by omega) (fun k => (hd2 k).1) (hfo 2 (by omega) (by omega) (fun k => by have := hd3 k; omega)) (fun k => hfo q2 (by have := hd2 k; omega) (by have := hd2 k; omega) (fun k2 => (hd2 k).2.2 k2))
      have hrw5 : M5.get 0 = some (.row (rowP l) 4 none) := (hF5.get 0 (by omega) (hfo 0 (by omega) (by omega) (fun k => by have := hd3 k; omega))).trans hrw'
      have hput : putE lo 3 7 = (0, lo ++ ofN 3 7) := by
        unfold putE
        rw [if_neg (by decide), if_neg (by omega)]; rfl
      (repeat (first
    | refine Sq.pu ok hm Want.none (by first
    | exact Pu.move rfl
    | exact Pu.not rfl) rfl ?_
    | refine Sq.pu ok hm (by exact Want.yes rfl rfl rfl (by rfl)) (by exact Pu.move rfl) rfl ?_))
      have hro5 : 1 ≤ pick M5 q2 lo := by
        unfold pick
        by_cases hz : lo = []
        · rw [if_pos hz]; omega
        · rw [if_neg hz]; have := hd2 hz; omega
      refine Sq.call ok (by exact Want.yes rfl rfl rfl (by rfl)) (Op1.call rfl rfl fn9) rfl (FnC.mono (Put_ok (v := 3) (n := 7) (by omega) hro5 (hOt5.re (by omega)) (by decide) (by simp only [InR]; omega) (by omega)) ?_)
      rintro x M6 ⟨rfl, hW6⟩
      rw [hput] at hW6 ⊢
      obtain ⟨q3, hOt6, hF6, hq6, hro6⟩ := hW6
      have hnx6 := hF6.next
      have hpk : ∀ b, b ≠ 2 → b < M5.next → (lo ≠ [] → b ≠ q2) → b ∉ [2, pick M5 q2 lo] := by
        intro b h1 h2 h3
        unfold pick
        by_cases hz : lo = []
        · rw [if_pos hz]; simp; omega
        · rw [if_neg hz]; have := h3 hz; simp; omega
      have hq2' : bitsAt l (i + 1) ≠ [] → lo ≠ [] → q' ≠ q2 ∧ c' ≠ q2 := by
        intro k1 k2
        obtain ⟨h1, h2⟩ := hq5 k1
        have h3 := hd2 k2
        refine ⟨?_, ?_⟩
        · rcases h1 with ⟨h1, h4⟩ | h1
          · have := h3.2.2 h4; omega
          · omega
        · rcases h2 with ⟨h2, h4⟩ | h2
          · have := h3.2.2 h4; omega
          · omega
      have hgt : bitsAt l (i + 1) ≠ [] → 4 ≤ q' ∧ 4 ≤ c' := by
        intro k1
        obtain ⟨h1, h2⟩ := hq5 k1
        refine ⟨?_, ?_⟩
        · rcases h1 with ⟨h1, h4⟩ | h1
          · have := hd3 h4; omega
          · omega
        · rcases h2 with ⟨h2, h4⟩ | h2
          · have := hd3 h4; omega
          · omega
      have hSt6 : St 1 M6 1 q' 3 c' (bitsAt l (i + 1)) := hSt5.frame hF6 ⟨hpk 1 (by omega) (by omega) (fun k => by have := hd2 k; omega), hpk 3 (by omega) (by omega) (fun k => by have := hd2 k; omega)⟩
        (fun k => by
          have h1 := hSt5.ne k
          have h2 := hgt k
          exact ⟨hpk q' (by omega) (by omega) (fun k2 => (hq2' k k2).1), hpk c' (by omega) (by omega) (fun k2 => (hq2' k k2).2)⟩)
      have hrw6 : M6.get 0 = some (.row (rowP l) 4 none) := (hF6.get 0 (by omega) (hpk 0 (by omega) (by omega) (fun k => by have := hd2 k; omega))).trans hrw5
      (repeat (first
    | refine Ex.seq ok hm ?_
    | refine Ex.skip ok hm ?_
    | refine Ex.region ok hm ?_
    | refine Sq.pu ok hm Want.none (by first
    | exact Pu.move rfl
    | exact Pu.neqI rfl rfl
    | exact Pu.pickF rfl (by rfl) rfl) rfl ?_
    | refine Sq.pu ok hm (by first
    | exact Want.none
    | exact Want.yes rfl rfl rfl (by rfl)) (by exact Pu.neqI rfl rfl) rfl ?_
    | refine Sq.finH (n := 9) ok hm (by repeat (first
    | exact Keep.nil
    | apply Keep.drop rfl
    | apply Keep.keep rfl)) ?_
    | refine Ex.condF ok hm rfl (by rfl) ?_))
      refine Sq.call ok Want.none (Op1.call rfl rfl fn10) rfl (FnC.mono (text_ok hSt6.w) ?_)
      rintro x M7 ⟨rfl, rfl⟩
      (repeat (first
    | refine Ex.seq ok hm ?_
    | refine Sq.pu ok hm Want.none (by first
    | exact Pu.move rfl
    | exact Pu.assign rfl
    | exact Pu.extract rfl rfl) rfl ?_
    | refine Sq.finH (n := 9) ok hm (by repeat (first
    | exact Keep.nil
    | apply Keep.drop rfl
    | apply Keep.keep rfl)) ?_))
      have hdr := hSt6.d.row
      have hbl6 : (bitsAt l (i + 1)).length ≤ 16777216 := by
        have h1 := bitsAt_length l (i + 1) (by omega)
        have h2 := textSum_take l (i + 1)
        omega
      refine Ex.facts fun hlt7 hron7 => ?_
      have hne3 : packL (lo ++ ofN 3 7) ≠ [] := by
        intro e
        have h1 := congrArg List.length e
        rw [packL_length, List.length_append, ofN_length] at h1
        simp at h1
        omega
      have hq7 := hlt7 q3 _ (hOt6.buf hne3)
      have hq8 : 4 ≤ q3 := by
        rcases hq6 with h1 | h1
        · rw [h1]; unfold pick
          by_cases hz : lo = []
          · rw [if_pos hz]; omega
          · rw [if_neg hz]; exact (hd2 hz).2.1
        · omega
      have hq9 : bitsAt l (i + 1) ≠ [] → q3 ≠ q' ∧ q3 ≠ c' := fun k1 => by
        have h5 := hSt5.ne k1
        rcases hq6 with h1 | h1
        · by_cases hz : lo = []
          · rw [h1]; unfold pick; rw [if_pos hz]; omega
          · have h6 := hq2' k1 hz
            rw [h1]; unfold pick; rw [if_neg hz]; omega
        · omega
      refine Ex.draw ok hm 19 (by kernel_rfl) ?_
      (repeat (refine Hq.pu Want.none (by first
    | exact Pu.move rfl
    | exact Pu.nilCheck rfl
    | exact Pu.fieldAddr hT rfl rfl rfl rfl rfl
    | (apply Pu.load hT rfl rfl rfl; (focus ((repeat (assumption)))); (focus rfl))) rfl rfl rfl ?_))
      refine Hq.call ok Want.none (fun ro => Op1.call rfl rfl fn11) rfl rfl (FnC.mono (rText_ok (c := c') (l := bitsAt l (i + 1)) (fun k => hSt6.d.buf k) hbl6) ?_)
      rintro x M8 ⟨rfl, _⟩
      refine ⟨rfl, ?_⟩
      (repeat (first
    | refine Hq.pu Want.none (by first
    | exact Pu.move rfl
    | exact Pu.neqI rfl rfl
    | exact Pu.neqS rfl rfl
    | exact Pu.pickF rfl (by first
    | rfl
    | (simp; done)) rfl) rfl rfl rfl ?_
    | refine Hq.pu (by exact Want.yes rfl rfl rfl (by first
    | rfl
    | (simp; done))) (by first
    | exact Pu.move rfl
    | exact Pu.neqI rfl rfl) rfl rfl rfl ?_))
      refine Hq.call ok (by exact Want.yes rfl rfl rfl (by rfl)) (fun ro => Op1.call rfl rfl fn12) rfl rfl (FnC.mono (len_ok hSt6.w) ?_)
      rintro x M9 ⟨rfl, rfl⟩
      refine ⟨rfl, ?_⟩
      have hbf := fun k => hSt6.d.buf k
      refine Hq.pu (by exact Want.yes rfl rfl rfl (by rfl)) (Pu.move rfl) rfl rfl rfl ?_
      refine Hq.pu (by exact Want.yes rfl rfl rfl (by rfl)) (Pu.nilCheck rfl) rfl rfl rfl ?_
      refine Hq.pu (by exact Want.yes rfl rfl rfl (by rfl)) (Pu.fieldAddr hT rfl rfl rfl rfl rfl) rfl rfl rfl ?_
      refine Hq.pu (by exact Want.yes rfl rfl rfl (by rfl)) (by (apply Pu.load hT rfl rfl rfl; (focus ((repeat (assumption)))); (focus rfl))) rfl rfl rfl ?_
      refine Hq.pu (by exact Want.yes rfl rfl rfl (by rfl)) (Pu.lenBuf hT rfl rfl) rfl rfl rfl ?_
      (repeat (first
    | refine Ex.skip ok hm ?_
    | refine Ex.region ok hm ?_
    | refine Sq.pu ok hm Want.none (by first
    | exact Pu.move rfl
    | exact Pu.assign rfl
    | exact Pu.add rfl rfl (by simp only [InR]; omega)) rfl ?_
    | refine Sq.finH (n := 9) ok hm (by repeat (first
    | exact Keep.nil
    | apply Keep.drop rfl
    | apply Keep.keep rfl)) ?_
    | refine Hq.nil ?_
    | refine Tq.pu Want.none (by first
    | exact Pu.neqI rfl rfl
    | exact Pu.pickF rfl (by rfl) rfl) rfl ?_
    | refine Tq.pu (by exact Want.yes rfl rfl rfl (by rfl)) (by exact Pu.neqI rfl rfl) rfl ?_
    | refine Tq.finH (n := 9)  (by repeat (first
    | exact Keep.nil
    | apply Keep.drop rfl
    | apply Keep.keep rfl)) ?_
    | refine Ex.condF ok hm rfl (by first
    | rfl
    | (simp; done)) ?_))
      refine ⟨i + 1, [(6, .int .i64 ((i + 1 : Nat) : Int)), (5, .pointer (some ⟨3, 0, none⟩)), (4, .pointer (some ⟨2, 0, none⟩)), (3, .pointer (some ⟨1, 0, none⟩)), (0, inV nil 0 l.length)], ?_, ⟨rfl, rfl, rfl, rfl, ?_, trivial⟩, ⟨?_, by omega, by omega, q', c', q3, lo ++ ofN 3 7, hSt6, hOt6, ?_, by omega, fun _ => hrw6, fun _ => ⟨hq7, hq8, hq9⟩, hgt⟩⟩
      · show 100 - (i + 1) < 100 - i
        omega
      · rw [inV_pos 0 l.length hnil (by omega)]; rfl
      · rw [inV_pos 0 l.length hnil (by omega)]
      · rw [List.length_append, ofN_length]; omega
    · by_cases hil : i < l.length
      all_goals
        (repeat (first
    | refine Ex.seq ok hm ?_
    | refine Ex.region ok hm ?_
    | refine Sq.pu ok hm Want.none (by first
    | exact Pu.move rfl
    | exact Pu.lssI rfl rfl
    | exact Pu.lenIn hT (by assumption) rfl rfl
    | exact Pu.pickT rfl (by first
    | rfl
    | exact decide_eq_true (by omega)) rfl
    | exact Pu.pickF rfl (by first
    | rfl
    | exact decide_eq_false (by omega)) rfl) rfl ?_
    | refine Sq.pu ok hm (by first
    | exact Want.none
    | exact Want.yes rfl rfl rfl (by first
    | rfl
    | exact decide_eq_true (by omega))) (by first
    | exact Pu.move rfl
    | exact Pu.lssI rfl rfl) rfl ?_
    | refine Sq.skip ok hm (by exact Want.no rfl rfl rfl (by first
    | rfl
    | exact decide_eq_false (by omega))) rfl ?_
    | refine Sq.finH (n := 9) ok hm (by repeat (first
    | exact Keep.nil
    | apply Keep.drop rfl
    | apply Keep.keep rfl)) ?_
    | refine Ex.condF ok hm rfl (by first
    | rfl
    | exact decide_eq_false (by omega)) ?_
    | refine Ex.exit ok hm ?_))
        refine Sq.call ok Want.none (Op1.call rfl rfl fn12) rfl (FnC.mono (len_ok hOt) ?_)
        rintro x M5 ⟨rfl, rfl⟩
        rw [hol]
        have hmin : (7 : Int) * min (l.length : Int) 100 = ((7 * i : Nat) : Int) := by omega
        (repeat (refine Sq.pu ok hm Want.none (by first
    | exact Pu.move rfl
    | exact Pu.eqlI rfl rfl
    | exact Pu.min2 rfl rfl
    | exact Pu.lenIn hT (by assumption) rfl rfl
    | exact Pu.mul rfl rfl (by simp only [InR]; omega)) rfl ?_))
        refine Sq.call ok (by exact Want.yes rfl rfl rfl (by exact decide_eq_true (by omega))) (Op1.call rfl rfl fn13) rfl (FnC.mono awake_ok ?_)
        rintro x M6 ⟨rfl, rfl⟩
        (repeat (first
    | refine Sq.pu ok hm Want.none (by first
    | exact Pu.assign rfl
    | exact Pu.pickT rfl (by first
    | rfl
    | exact decide_eq_true (by omega)) rfl) rfl ?_
    | refine Sq.finH (n := 9) ok hm (by repeat (first
    | exact Keep.nil
    | apply Keep.drop rfl
    | apply Keep.keep rfl)) ?_
    | refine Ex.ret ok hm ?_))
        exact ⟨_, .tmp rfl .nil, rfl⟩
  · have hb0 : bitsAt l 0 = [] := by simp [bitsAt]
    unfold LoopI
    rw [hb0]
    refine ⟨5, 5, 5, [], ⟨⟨hg1, fun k => absurd rfl k, by omega⟩, ⟨hg3, fun k => absurd rfl k, by omega⟩, by omega, by omega, by omega, fun k => absurd rfl k⟩, ⟨hg2, fun k => absurd rfl k, by omega⟩, rfl, by omega, hg0, fun k => absurd rfl k, fun k => absurd rfl k⟩
end Go.Proofs.Ytncpdgjlhdbdpaa
