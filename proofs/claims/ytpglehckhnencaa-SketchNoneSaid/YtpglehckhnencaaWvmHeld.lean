/- A region that draws its order: a load may be taken first where nobody who may come before it writes its cell. -/
import Derived.Test.YtpglehckhnencaaWvmGrow
import Derived.OrdersHeld
set_option linter.unusedSimpArgs false
set_option linter.unusedVariables false
namespace Go.Wvm
open Go.RowKit

section
variable {P : Program} {ops : Array Oper} {Q : Exit → Act → World → Prop} {S : World → Prop}

/-- Whatever order is picked from here on, and 'S' is kept by every operation that does not wait for all loads. -/
def wpAnyU (P : Program) (ops : Array Oper) (Q : Exit → Act → World → Prop) (S : World → Prop) : Nat → Array Bool → Act → World → Prop
  | 0, s, a, w => Region.ready .any ops s = [] ∧ Q .normal a w
  | f + 1, s, a, w => (Region.ready .any ops s = [] → Q .normal a w) ∧
      ∀ i ∈ Region.ready .any ops s, Go.wpOp P ops Q i (fun a' w' => (S w → lateB ops i = false → S w') ∧ wpAnyU P ops Q S f (s.setIfInBounds i true) a' w') a w

theorem wpAny_of_U : ∀ (f : Nat) (s : Array Bool) (a : Act) (w : World), wpAnyU P ops Q S f s a w → wpAny P .any ops Q f s a w
  | 0, _, _, _, h => h
  | f + 1, _, _, _, h => ⟨h.1, fun i hi => wpOp_mono (fun a' w' h' => wpAny_of_U f _ a' w' h'.2) (h.2 i hi)⟩

/-- Who has come up has come up behind what it waits for. -/
def Closed (ops : Array Oper) (s : Array Bool) : Prop := ∀ k ok, ops[k]? = some ok → s.getD k false = true → ∀ e ∈ ok.after, Region.binds .any e = true → s.getD e.on false = true

theorem closed_none (n : Nat) : Closed ops (Array.replicate n false) := by
  intro k ok _ h
  rw [Array.getD_eq_getD_getElem?] at h
  rcases Nat.lt_or_ge k n with hk | hk
  · simp [Array.getElem?_replicate, hk] at h
  · simp [Array.getElem?_replicate, Nat.not_lt.2 hk] at h

theorem getD_set_true {s : Array Bool} {j x : Nat} (h : s.getD x false = true) : (s.setIfInBounds j true).getD x false = true := by
  by_cases hjx : j = x
  · subst hjx
    have hlt : j < s.size := by
      rcases Nat.lt_or_ge j s.size with h' | h'
      · exact h'
      · simp [Array.getElem?_eq_none h'] at h
    simp [hlt]
  · rw [getD_set_ne false hjx]; exact h

theorem Closed.set {s : Array Bool} (h : Closed ops s) {j : Nat} (hj : j ∈ Region.ready .any ops s) : Closed ops (s.setIfInBounds j true) := by
  intro k ok hk hs e he hb
  refine getD_set_true ?_
  obtain ⟨_, oj, hoj, hall⟩ := mem_ready.1 hj
  by_cases hjk : j = k
  · subst hjk
    rw [hk] at hoj
    cases hoj
    exact hall e he hb
  · rw [getD_set_ne false hjk] at hs
    exact h k ok hk hs e he hb

theorem waitsB_spec {i j : Nat} (h : waitsB ops i j = true) : ∃ o, ops[i]? = some o ∧ ∃ e ∈ o.after, Region.binds .any e = true ∧ e.on = j := by
  unfold waitsB at h
  split at h
  · rename_i o ho
    obtain ⟨e, he, hb⟩ := List.any_eq_true.1 h
    rw [Bool.and_eq_true] at hb
    exact ⟨o, ho, e, by simpa using he, hb.1, Nat.eq_of_beq_eq_true hb.2⟩
  · cases h

/-- Who waits for all loads comes behind all loads. -/
theorem lateB_not {i j : Nat} {s : Array Bool} {oi : Oper} (hc : Closed ops s) (hj : j ∈ Region.ready .any ops s) (hi : ops[i]? = some oi) (hl : loadB oi = true) (hir : i ∈ Region.ready .any ops s) (hji : j ≠ i) : lateB ops j = false := by
  cases hb : lateB ops j with
  | false => rfl
  | true =>
    have hun : s.getD i false = false := by
      have h0 := (mem_ready.1 hir).1
      rcases Nat.lt_or_ge i s.size with h' | h'
      · simp [h'] at h0 ⊢; exact h0
      · simp [Array.getElem?_eq_none h']
    obtain ⟨_, oj, hoj, hall⟩ := mem_ready.1 hj
    have direct : ∀ {k}, waitsB ops j k = true → s.getD k false = true := fun {k} hw => by
      obtain ⟨o, ho, e, he, hbind, hon⟩ := waitsB_spec hw
      rw [hoj] at ho
      cases ho
      rw [← hon]
      exact hall e he hbind
    have := List.all_eq_true.1 hb i (List.mem_range.2 (Array.getElem?_eq_some_iff.1 hi).1)
    rw [Bool.or_eq_true, Bool.or_eq_true, Bool.or_eq_true] at this
    rcases this with ((h | h) | h) | h
    · exact absurd (Nat.eq_of_beq_eq_true h).symm hji
    · rw [hi] at h; simp [hl] at h
    · rw [direct h] at hun; cases hun
    · obtain ⟨k, _, hk⟩ := List.any_eq_true.1 h
      rw [Bool.and_eq_true] at hk
      obtain ⟨o, ho, e, he, hbind, hon⟩ := waitsB_spec hk.2
      have := hc k o ho (direct hk.1) e he hbind
      rw [hon, hun] at this
      cases this

theorem wpAnyU_first {T : World → Prop} {i : Nat} {oi : Oper} {v : Value} (hi : ops[i]? = some oi) (hsel : ∀ (j : Nat) (o : Oper) cs b, ops[j]? = some o → o.op ≠ .select cs b)
    (hQ : ∀ c a w, Q (.panic c) (a.put oi.dst v) w → Q (.panic c) a w) (hTS : (T = S ∧ loadB oi = true) ∨ ∀ w, T w) :
    ∀ (f : Nat) (s : Array Bool) (a : Act) (w : World),
      (∀ j oj, ops[j]? = some oj → j ≠ i → s.getD j true = false → (∀ e ∈ oj.after, Region.binds .any e = true → e.on ≠ i) → oi.apart ops oj = true) →
      Closed ops s → i ∈ Region.ready .any ops s → YieldsIf P ops T oi v a → T w →
      wpAnyU P ops Q S f (s.setIfInBounds i true) (a.put oi.dst v) w → wpAnyU P ops Q S (f + 1) s a w := by
  intro f
  induction f with
  | zero =>
    intro s a w _ hcl hr hy hS H
    refine ⟨fun h => (by rw [h] at hr; cases hr), fun j hj => ?_⟩
    by_cases hji : j = i
    · subst hji; exact hy.wpOp hi hS ⟨fun h _ => h, H⟩
    · have := ready_mono hj hji
      rw [H.1] at this
      cases this
  | succ f ih =>
    intro s a w hfree hcl hr hy hS H
    refine ⟨fun h => (by rw [h] at hr; cases hr), fun j hj => ?_⟩
    by_cases hji : j = i
    · subst hji; exact hy.wpOp hi hS ⟨fun h _ => h, H⟩
    · have h1 := H.2 j (ready_mono hj hji)
      obtain ⟨hjun, oj, hoj, hall⟩ := mem_ready.1 hj
      have hnot : ∀ e ∈ oj.after, Region.binds .any e = true → e.on ≠ i := fun e he hb heq => by
        have h1 := hall e he hb
        have h0 := (mem_ready.1 hr).1
        rw [heq] at h1
        rcases Nat.lt_or_ge i s.size with h' | h'
        · simp [h'] at h0 h1; rw [h0] at h1; cases h1
        · simp [Array.getElem?_eq_none h'] at h1
      have h2 := wpOp_putIf hoj (hfree j oj hoj hji hjun hnot) (fun cs b => hsel i oi cs b hi) (fun cs b => hsel j oj cs b hoj) hQ hy h1
      have hfree' : ∀ k ok, ops[k]? = some ok → k ≠ i → (s.setIfInBounds j true).getD k true = false →
          (∀ e ∈ ok.after, Region.binds .any e = true → e.on ≠ i) → oi.apart ops ok = true := fun k ok hk hki hun hno => by
        refine hfree k ok hk hki ?_ hno
        by_cases hjk : j = k
        · subst hjk; exact hjun
        · rw [getD_set_ne true hjk] at hun; exact hun
      refine wpOp_mono (fun a' w' h3 => ⟨h3.2.1, ih (s.setIfInBounds j true) a' w' hfree' (hcl.set hj) (ready_mono hr (Ne.symm hji)) h3.1 ?_ ?_⟩) h2
      · rcases hTS with ⟨rfl, hl⟩ | hT
        · exact h3.2.1 hS (lateB_not hcl hj hi hl hr hji)
        · exact hT _
      · rw [Array.setIfInBounds_comm _ _ hji]
        exact h3.2.2

/-- Take number 'i' first, what hands back one value in whatever world. -/
theorem wpAnyU_takeP {i : Nat} {oi : Oper} {v : Value} {f : Nat} {s : Array Bool} {a : Act} {w : World} (hi : ops[i]? = some oi)
    (hs : Region.noSelect ops = true) (hcl : Closed ops s) (hf : Region.free .any ops s i = true) (hr : (Region.ready .any ops s).contains i = true)
    (hQ : ∀ c a w, Q (.panic c) (a.put oi.dst v) w → Q (.panic c) a w) (hy : YieldsIf P ops (fun _ => True) oi v a)
    (h : wpAnyU P ops Q S f (s.setIfInBounds i true) (a.put oi.dst v) w) : wpAnyU P ops Q S (f + 1) s a w :=
  wpAnyU_first hi (Region.noSelect_spec hs) hQ (.inr fun _ => trivial) f s a w (Region.free_spec hi hf) hcl (by simpa using hr) hy trivial h

/-- Take number 'i' first. -/
theorem wpAnyU_take {i : Nat} {oi : Oper} {v : Value} {f : Nat} {s : Array Bool} {a : Act} {w : World} (hi : ops[i]? = some oi)
    (hs : Region.noSelect ops = true) (hcl : Closed ops s) (hf : Region.free .any ops s i = true) (hr : (Region.ready .any ops s).contains i = true)
    (hQ : ∀ c a w, Q (.panic c) (a.put oi.dst v) w → Q (.panic c) a w) (hl : loadB oi = true) (hy : YieldsIf P ops S oi v a) (hS : S w)
    (h : wpAnyU P ops Q S f (s.setIfInBounds i true) (a.put oi.dst v) w) : wpAnyU P ops Q S (f + 1) s a w :=
  wpAnyU_first hi (Region.noSelect_spec hs) hQ (.inl ⟨rfl, hl⟩) f s a w (Region.free_spec hi hf) hcl (by simpa using hr) hy hS h

theorem wpAnyU_all {rs : List Nat} {f : Nat} {s : Array Bool} {a : Act} {w : World} (hr : Region.ready .any ops s = rs) (hne : rs ≠ [])
    (h : ∀ i ∈ rs, Go.wpOp P ops Q i (fun a' w' => (S w → lateB ops i = false → S w') ∧ wpAnyU P ops Q S f (s.setIfInBounds i true) a' w') a w) : wpAnyU P ops Q S (f + 1) s a w :=
  ⟨fun h0 => absurd (hr ▸ h0) hne, hr ▸ h⟩

theorem wpAnyU_done {s : Array Bool} {a : Act} {w : World} (hr : Region.ready .any ops s = []) (h : Q .normal a w) :
    ∀ f, wpAnyU P ops Q S f s a w
  | 0 => ⟨hr, h⟩
  | _ + 1 => ⟨fun _ => h, by rw [hr]; simp⟩

theorem wp_region_u {id : Nat} {a : Act} {w : World} (hm : P.follows .mixedOrders = true)
    (h : wpAnyU P ops Q S ops.size (Array.replicate ops.size false) a { w with drawn := w.drawn + 1 }) : (Code.region id ops true).wp P Q a w :=
  wp_region_any hm (wpAny_of_U _ _ _ _ h)

end
end Go.Wvm
