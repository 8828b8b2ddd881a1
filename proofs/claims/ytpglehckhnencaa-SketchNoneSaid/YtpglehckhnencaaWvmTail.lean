/- A region that draws its order: its head quiet in a class of worlds (calls that hand back one value among them), its end one way only. -/
import Derived.Test.YtpglehckhnencaaWvmRun
set_option linter.unusedSimpArgs false
set_option linter.unusedVariables false
namespace Go.Wvm
open Go.RowKit

section
variable {P : Program} {ops : Array Oper} {md : Region.Mode} {C : World → Prop}

/-- Whatever order the head's operations are taken in, 'L' holds once 'f' of them are done. -/
def headQ (P : Program) (md : Region.Mode) (ops : Array Oper) (C : World → Prop) (n : Nat) (L : Array Bool → Act → Prop) : Nat → Array Bool → Act → Prop
  | 0, s, a => L s a
  | f + 1, s, a => Region.ready md ops s ≠ [] ∧ ∀ i, i ∈ Region.ready md ops s → i < n ∧ qOp P ops C i (headQ P md ops C n L f (s.setIfInBounds i true)) a

theorem headQ_any {n g : Nat} {L : Array Bool → Act → Prop} {Q : Exit → Act → World → Prop} (hL : ∀ s a w, C w → L s a → wpAny P md ops Q g s a w) :
    ∀ (f : Nat) (s : Array Bool) (a : Act) (w : World), C w → headQ P md ops C n L f s a → wpAny P md ops Q (g + f) s a w
  | 0, s, a, w, hw, h => hL s a w hw h
  | f + 1, s, a, w, hw, h => by
    refine ⟨fun e => (h.1 e).elim, fun i hi => ?_⟩
    exact wpOp_of_qOp hw (fun a1 w1 hw1 h1 => headQ_any hL f _ a1 w1 hw1 h1) (h.2 i hi).2

/-- Each of the end, but its first, waits for one of the end. -/
def Chain (md : Region.Mode) (ops : Array Oper) (n : Nat) : Prop := ∀ t, n < t → t < ops.size → ∃ j, n ≤ j ∧ j < t ∧ Region.waitsFor md ops t j = true

theorem chain_of_B {n : Nat} (h : Region.chainB md ops n = true) : Chain md ops n := by
  intro t h1 h2
  have := List.all_eq_true.1 h t (List.mem_range.2 h2)
  simp only [Bool.or_eq_true, decide_eq_true_eq] at this
  rcases this with h3 | h3
  · omega
  · exact ⟨t - 1, by omega, by omega, h3⟩

theorem chain_of_W {n : Nat} (h : chainW ops n = true) : Chain .any ops n := by
  intro t h1 h2
  have := List.all_eq_true.1 h t (List.mem_range.2 h2)
  simp only [Bool.or_eq_true, decide_eq_true_eq] at this
  rcases this with h3 | h3
  · omega
  · obtain ⟨j, hj, hb⟩ := List.any_eq_true.1 h3
    simp only [Bool.and_eq_true, decide_eq_true_eq] at hb
    exact ⟨j, hb.1, List.mem_range.1 hj, hb.2⟩

/-- If the first of the end may come up, all of the head have. -/
theorem head_done {n : Nat} {s : Array Bool} (hs : Region.sinkB md ops n = true) (inv : HeadInv md ops n s) (hr : n ∈ Region.ready md ops s) : ∀ d i, i < n → n - i ≤ d → s.getD i false = true := by
  intro d
  induction d with
  | zero => intro i h1 h2; omega
  | succ d ih =>
    intro i h1 h2
    obtain ⟨j, hj, hb⟩ := List.any_eq_true.1 (List.all_eq_true.1 hs i (List.mem_range.2 h1))
    simp only [Bool.and_eq_true, decide_eq_true_eq] at hb
    have hjn : j < n + 1 := List.mem_range.1 hj
    obtain ⟨oj, hoj, e, he, hbind, hon⟩ := Region.waitsFor_spec hb.2
    rw [← hon]
    rcases Nat.lt_or_ge j n with hlt | hge
    · exact inv.closed j oj hoj (ih j hlt (by omega)) e he hbind
    · obtain rfl : j = n := by omega
      obtain ⟨_, on, hon', hall⟩ := mem_ready.1 hr
      obtain rfl : oj = on := Option.some.inj (hoj.symm.trans hon')
      exact hall e he hbind

/-- What may come up is of the head, as long as one of the head has not come up. -/
theorem head_only {n i j : Nat} {s : Array Bool} (hs : Region.sinkB md ops n = true) (hc : Chain md ops n) (hn : n < ops.size) (inv : HeadInv md ops n s) (hin : i < n) (hun : s.getD i true = false) (hj : j ∈ Region.ready md ops s) : j < n := by
  refine Nat.lt_of_not_le fun h => ?_
  rcases Nat.eq_or_lt_of_le h with heq | hlt
  · subst heq
    have := head_done hs inv hj (n - i) i hin (Nat.le_refl _)
    rw [getD_both hun] at this
    cases this
  · obtain ⟨_, oj, hoj, hall⟩ := mem_ready.1 hj
    have hjs : j < ops.size := (Array.getElem?_eq_some_iff.1 hoj).1
    obtain ⟨k, h1, h2, h3⟩ := hc j hlt hjs
    obtain ⟨oj', hoj', e, he, hbind, hon⟩ := Region.waitsFor_spec h3
    obtain rfl : oj = oj' := Option.some.inj (hoj.symm.trans hoj')
    have := hall e he hbind
    rw [hon, getD_both (inv.tail k h1 (by omega))] at this
    cases this

theorem headQ_first {n i : Nat} {oi : Oper} {v : Value} {L : Array Bool → Act → Prop} (hi : ops[i]? = some oi) (hsel : ∀ (j : Nat) (o : Oper) cs b, ops[j]? = some o → o.op ≠ .select cs b)
    (hs : Region.sinkB md ops n = true) (hc : Chain md ops n) (hn : n < ops.size) (hin : i < n) (hdone : ∀ s a, L s a → ∀ j, j ∈ Region.ready md ops s → n ≤ j) (f : Nat) :
    ∀ (s : Array Bool) (a : Act), HeadInv md ops n s →
      (∀ j oj, ops[j]? = some oj → j ≠ i → s.getD j true = false → (∀ e ∈ oj.after, Region.binds md e = true → e.on ≠ i) → oi.apart ops oj = true) →
      i ∈ Region.ready md ops s → YieldsIn P ops C oi v a → headQ P md ops C n L f (s.setIfInBounds i true) (a.put oi.dst v) → headQ P md ops C n L (f + 1) s a := by
  induction f with
  | zero =>
    intro s a inv hfree hr hy H
    have hun := (mem_ready.1 hr).1
    refine ⟨List.ne_nil_of_mem hr, fun j hj => ?_⟩
    have hjn := head_only hs hc hn inv hin hun hj
    rcases Nat.decEq j i with hne | heq
    · have := hdone _ _ H j (ready_mono hj hne)
      omega
    · subst heq
      exact ⟨hjn, hy.qOp hi H⟩
  | succ f ih =>
    intro s a inv hfree hr hy H
    have hun := (mem_ready.1 hr).1
    refine ⟨List.ne_nil_of_mem hr, fun j hj => ?_⟩
    have hjn := head_only hs hc hn inv hin hun hj
    rcases Nat.decEq j i with hne | heq
    · obtain ⟨hjun, oj, hoj, hall⟩ := mem_ready.1 hj
      have hnot : ∀ e ∈ oj.after, Region.binds md e = true → e.on ≠ i := by
        intro e he hb heq
        have := hall e he hb
        rw [heq, getD_both hun] at this
        cases this
      have h2 := qOp_put hoj (hfree j oj hoj hne hjun hnot) (fun cs b => hsel i oi cs b hi) (fun cs b => hsel j oj cs b hoj) hy (H.2 j (ready_mono hj hne)).2
      refine ⟨hjn, qOp_mono (fun a1 h3 => ?_) h2⟩
      refine ih _ a1 (inv.set hj hjn) (fun k ok hk hki hkun hno => ?_) (ready_mono hr (Ne.symm hne)) h3.1 ?_
      · refine hfree k ok hk hki ?_ hno
        rcases Nat.decEq j k with hjk | hjk
        · rwa [getD_set_ne true hjk] at hkun
        · subst hjk; exact hjun
      · rw [Array.setIfInBounds_comm _ _ hne]
        exact h3.2
    · subst heq
      exact ⟨hjn, hy.qOp hi H⟩

theorem headQ_lex {n : Nat} {Lq : Act → Prop} {z : Array Bool} (hsel : Region.noSelect ops = true) (hs : Region.sinkB .any ops n = true) (hc : Chain .any ops n) (hn : n < ops.size) (hz : ∀ j, j ∈ Region.ready .any ops z → n ≤ j) :
    ∀ (l : List Oper) (k : Nat) (s : Array Bool) (a : Act), (∀ j, j < l.length → l[j]? = ops[k + j]?) → k + l.length = n → HeadInv .any ops n s → lexH ops l.length k s = some z → wpQuiet P ops C Lq l a →
    headQ P .any ops C n (fun s' a' => s' = z ∧ Lq a') l.length s a := by
  intro l
  induction l with
  | nil =>
    intro k s a _ hk _ hB h
    exact ⟨by simpa [lexH] using hB, h⟩
  | cons o l ih =>
    intro k s a hl hk inv hB h
    have h0 : ops[k]? = some o := by
      have := hl 0 (by simp)
      simpa using this.symm
    simp only [List.length_cons, lexH] at hB
    split at hB
    case h_2 => cases hB
    rename_i hc2
    rw [Bool.and_eq_true] at hc2
    have hkn : k < n := by simp only [List.length_cons] at hk; omega
    have hr : k ∈ Region.ready .any ops s := by simpa using hc2.1
    have hq : qOp P ops C k (wpQuiet P ops C Lq l) a := by
      unfold qOp
      simp only [h0]
      exact h
    obtain ⟨v, hy, hK⟩ := yieldsIn_of_qOp h0 hq
    refine headQ_first h0 (Region.noSelect_spec hsel) hs hc hn hkn (fun s' a' hL => by rw [hL.1]; exact hz) l.length s a inv (Region.free_spec h0 hc2.2) hr hy ?_
    refine ih (k + 1) _ _ (fun j hj => ?_) (by simp only [List.length_cons] at hk; omega) (inv.set hr hkn) hB hK
    have := hl (j + 1) (by simp only [List.length_cons]; omega)
    simpa [Nat.add_assoc, Nat.add_comm 1 j] using this

theorem wpQuiet_mono {Q Q' : Act → Prop} (h : ∀ a, Q a → Q' a) : ∀ (l : List Oper) (a : Act), wpQuiet P ops C Q l a → wpQuiet P ops C Q' l a
  | [], a, hh => h a hh
  | o :: rest, a, hh => by
    simp only [wpQuiet] at hh ⊢
    split at hh
    · rename_i hw
      rw [if_pos hw]
      exact Oper.quiet_mono (fun a' => wpQuiet_mono h rest a') hh
    · rename_i hw
      rw [if_neg hw]
      exact wpQuiet_mono h rest _ hh

theorem head_region {id n : Nat} {Q : Exit → Act → World → Prop} {a : Act} {w : World} {l : List Oper} {z : Array Bool} (hm : P.follows .mixedOrders = true) (hsel : Region.noSelect l.toArray = true) (hn : n < l.length) (hs : Region.sinkB .any l.toArray n = true)
    (hc : Chain .any l.toArray n) (hl : lexH l.toArray n 0 (Array.replicate l.toArray.size false) = some z) (hz : ∀ j, j ∈ Region.ready .any l.toArray z → n ≤ j) (hC : C { w with drawn := w.drawn + 1 })
    (h : wpQuiet P l.toArray C (fun a' => ∀ w', C w' → wpAny P .any l.toArray Q (l.length - n) z a' w') (l.take n) a) : (Code.region id l.toArray true).wp P Q a w := by
  have h1 : (l.take n).length = n := by simp; omega
  have inv : HeadInv .any l.toArray n (Array.replicate l.toArray.size false) :=
    { size := by simp
      closed := fun j oj _ hl => by rw [getD_replicate_false] at hl; cases hl
      tail := fun t _ ht => getD_in (by simpa using ht) (getD_replicate_false _ _) }
  have H := headQ_lex (P := P) (C := C) hsel hs hc (by simpa using hn) hz (l.take n) 0 _ a (fun j hj => by
    have hj' : j < n := by rw [h1] at hj; exact hj
    simp [hj']) (by simpa using h1) inv (by rw [h1]; exact hl) h
  refine wp_region_any hm ?_
  have K := headQ_any (Q := Q) (g := l.length - n) (fun s a' w' hw' hL => by
    obtain ⟨rfl, hL⟩ := hL
    exact hL w' hw') _ _ _ _ hC H
  rw [h1, show l.length - n + n = l.toArray.size by simp; omega] at K
  exact K

theorem lexH_of_head {g : Nat} : ∀ (f k : Nat) (s : Array Bool), Region.lexHead .any ops g f k s = true → ∃ z, lexH ops f k s = some z ∧ Region.seqB .any ops g (k + f) z = true
  | 0, k, s, h => ⟨s, rfl, by simpa [Region.lexHead] using h⟩
  | f + 1, k, s, h => by
    simp only [Region.lexHead, Bool.and_eq_true] at h
    obtain ⟨z, h1, h2⟩ := lexH_of_head f (k + 1) _ h.2
    refine ⟨z, ?_, by rw [show k + (f + 1) = k + 1 + f by omega]; exact h2⟩
    simp only [lexH, h.1.1, h.1.2, Bool.and_self]
    exact h1

/-- A head that is quiet in a class of worlds, then the end, in the text's order. -/
theorem region_quiet_tail {id n : Nat} {Q : Exit → Act → World → Prop} {a : Act} {w : World} {l : List Oper} (hm : P.follows .mixedOrders = true) (hB : Region.lexTailB .any l.toArray n = true) (hC : C { w with drawn := w.drawn + 1 })
    (h : wpQuiet P l.toArray C (fun a' => ∀ w', C w' → wpList P l.toArray Q (l.drop n) a' w') (l.take n) a) : (Code.region id l.toArray true).wp P Q a w := by
  simp only [Region.lexTailB, Bool.and_eq_true, decide_eq_true_eq] at hB
  have hn : n < l.length := by simpa using hB.1.1.1.2
  have h2 : (l.drop n).length = l.toArray.size - n := by simp
  obtain ⟨z, hz1, hz2⟩ := lexH_of_head _ _ _ hB.2
  rw [Nat.zero_add] at hz2
  refine head_region hm hB.1.1.1.1 hn hB.1.1.2 (chain_of_B hB.1.2) hz1 (seqB_ready hz2) hC ?_
  refine wpQuiet_mono (fun a' ha' w' hw' => ?_) _ _ h
  have := wpAny_of_seq (md := .any) (Q' := Q) (l.drop n) n z a' w' (fun j => by simp [List.getElem?_drop]) (by rw [h2]; exact hz2) (ha' w' hw')
  rwa [h2, show l.toArray.size - n = l.length - n by simp] at this

end
end Go.Wvm
