/- How the small machine's values and memory stand for the model's. -/
import Derived.Test.YtpglehckhnencaaWvmDefs
import Derived.Below
import Derived.Laws.Sem
import Derived.Laws.World
import Derived.Laws.Rows
import Derived.Laws.Append
set_option linter.unusedSimpArgs false
set_option linter.unusedVariables false
namespace Go.Wvm
open Go.RowKit

/-! ### Tries -/
theorem half_lt {k f : Nat} (h : k + 1 < f + 1) : k / 2 < f := by omega

theorem Tr.get_setF {α : Type} (x : Option α) : ∀ (f : Nat) (t : Tr α) (k j : Nat), k < f → (Tr.setF x f t k).get j = if j = k then x else t.get j
  | 0, _, _, _, h => by omega
  | f + 1, .nil, 0, j, _ => by
    cases j with
    | zero => simp [Tr.setF, Tr.get]
    | succ j => simp only [Tr.setF, Tr.get]; cases Nat.beq (j % 2) 0 <;> simp [Tr.get]
  | f + 1, .node l v r, 0, j, _ => by
    cases j with
    | zero => simp [Tr.setF, Tr.get]
    | succ j => simp [Tr.setF, Tr.get]
  | f + 1, .nil, k + 1, j, h => by
    have hk : k / 2 < f := half_lt h
    cases hb : Nat.beq (k % 2) 0 with
    | true =>
      have hb' : k % 2 = 0 := Nat.eq_of_beq_eq_true hb
      cases j with
      | zero => simp [Tr.setF, Tr.left_eq, Tr.right_eq, Tr.get, hb]
      | succ j =>
        simp only [Tr.setF, Tr.left_eq, Tr.right_eq, Tr.get, hb]
        cases hj : Nat.beq (j % 2) 0 with
        | true =>
          have hj' : j % 2 = 0 := Nat.eq_of_beq_eq_true hj
          simp only [Tr.get_setF x f .nil (k / 2) (j / 2) hk, Tr.get]
          by_cases e : j / 2 = k / 2
          · rw [if_pos e, if_pos (by omega)]
          · rw [if_neg e, if_neg (by omega)]
        | false =>
          have hj' : j % 2 ≠ 0 := fun e => by rw [e] at hj; cases hj
          simp only [Tr.get]
          rw [if_neg (by omega)]
    | false =>
      have hb' : k % 2 ≠ 0 := fun e => by rw [e] at hb; cases hb
      cases j with
      | zero => simp [Tr.setF, Tr.left_eq, Tr.right_eq, Tr.get, hb]
      | succ j =>
        simp only [Tr.setF, Tr.left_eq, Tr.right_eq, Tr.get, hb]
        cases hj : Nat.beq (j % 2) 0 with
        | true =>
          have hj' : j % 2 = 0 := Nat.eq_of_beq_eq_true hj
          simp only [Tr.get]
          rw [if_neg (by omega)]
        | false =>
          have hj' : j % 2 ≠ 0 := fun e => by rw [e] at hj; cases hj
          simp only [Tr.get_setF x f .nil (k / 2) (j / 2) hk, Tr.get]
          by_cases e : j / 2 = k / 2
          · rw [if_pos e, if_pos (by omega)]
          · rw [if_neg e, if_neg (by omega)]
  | f + 1, .node l v r, k + 1, j, h => by
    have hk : k / 2 < f := half_lt h
    cases hb : Nat.beq (k % 2) 0 with
    | true =>
      have hb' : k % 2 = 0 := Nat.eq_of_beq_eq_true hb
      cases j with
      | zero => simp [Tr.setF, Tr.left_eq, Tr.right_eq, Tr.get, hb]
      | succ j =>
        simp only [Tr.setF, Tr.left_eq, Tr.right_eq, Tr.get, hb]
        cases hj : Nat.beq (j % 2) 0 with
        | true =>
          have hj' : j % 2 = 0 := Nat.eq_of_beq_eq_true hj
          simp only [Tr.get_setF x f l (k / 2) (j / 2) hk]
          by_cases e : j / 2 = k / 2
          · rw [if_pos e, if_pos (by omega)]
          · rw [if_neg e, if_neg (by omega)]
        | false =>
          have hj' : j % 2 ≠ 0 := fun e => by rw [e] at hj; cases hj
          rw [if_neg (by omega)]
    | false =>
      have hb' : k % 2 ≠ 0 := fun e => by rw [e] at hb; cases hb
      cases j with
      | zero => simp [Tr.setF, Tr.left_eq, Tr.right_eq, Tr.get, hb]
      | succ j =>
        simp only [Tr.setF, Tr.left_eq, Tr.right_eq, Tr.get, hb]
        cases hj : Nat.beq (j % 2) 0 with
        | true =>
          have hj' : j % 2 = 0 := Nat.eq_of_beq_eq_true hj
          rw [if_neg (by omega)]
        | false =>
          have hj' : j % 2 ≠ 0 := fun e => by rw [e] at hj; cases hj
          simp only [Tr.get_setF x f r (k / 2) (j / 2) hk]
          by_cases e : j / 2 = k / 2
          · rw [if_pos e, if_pos (by omega)]
          · rw [if_neg e, if_neg (by omega)]

theorem Tr.get_set {α : Type} (t : Tr α) (k j : Nat) (x : α) : (t.set k x).get j = if j = k then some x else t.get j :=
  Tr.get_setF _ _ _ _ _ (by omega)
theorem Tr.get_del {α : Type} (t : Tr α) (k j : Nat) : (t.del k).get j = if j = k then none else t.get j :=
  Tr.get_setF _ _ _ _ _ (by omega)
theorem Tr.get_nil {α : Type} (j : Nat) : (Tr.nil : Tr α).get j = none := by cases j <;> rfl

theorem Tr.get_putL {α : Type} : ∀ (l : List α) (t : Tr α) (o j : Nat), (t.putL o l).get j = if o ≤ j ∧ j < o + l.length then l[j - o]? else t.get j
  | [], t, o, j => by simp [Tr.putL]; omega
  | x :: l, t, o, j => by
    simp only [Tr.putL, Tr.get_putL l, Tr.get_set, List.length_cons]
    by_cases h1 : o + 1 ≤ j ∧ j < o + 1 + l.length
    · rw [if_pos h1, if_pos (by omega), show j - o = (j - (o + 1)) + 1 by omega, List.getElem?_cons_succ]
    · rw [if_neg h1]
      by_cases h2 : j = o
      · subst h2; rw [if_pos rfl, if_pos (by omega)]; simp
      · rw [if_neg h2, if_neg (by omega)]

theorem get_tab {α : Type} (g : Nat → Option α) : ∀ (n : Nat) (t : Tr α) (j : Nat) (x : α), (tab g n t).get j = some x → g j = some x ∨ t.get j = some x
  | 0, _, _, _, h => .inr h
  | n + 1, t, j, x, h => by
    simp only [tab] at h
    cases hg : g n with
    | none => rw [hg] at h; exact get_tab g n t j x h
    | some y =>
      rw [hg] at h
      rcases get_tab g n _ j x h with h | h
      · exact .inl h
      · rw [Tr.get_set] at h
        by_cases e : j = n
        · rw [if_pos e] at h; cases h; exact .inl (e ▸ hg)
        · rw [if_neg e] at h; exact .inr h

/-! ### Values -/
/-- Where a block lies: its block, from which cell on, how many cells there are, and of what size are the elements of its slices (0: of slices nothing is told). -/
structure Loc where
  blk : Nat
  off : Nat
  lim : Nat
  unit : Nat

abbrev Mu := Nat → Option Loc

inductive VR (μ : Mu) : Value → Value → Prop
  | bool (b : Bool) : VR μ (.bool b) (.bool b)
  | int (k : IntKind) (n : Int) : VR μ (.int k n) (.int k n)
  | str (s : ByteArray) : VR μ (.string s) (.string s)
  | nilp : VR μ (.pointer none) (.pointer none)
  | ptr {b o : Nat} {L : Loc} (h : μ b = some L) : VR μ (.pointer (some ⟨b, o, none⟩)) (.pointer (some ⟨L.blk, o + L.off, none⟩))
  | glob (g o : Nat) : VR μ (.pointer (some ⟨g, o, some 0⟩)) (.pointer (some ⟨g, o, none⟩))
  | nils : VR μ (.slice none 0 0) (.slice none 0 0)
  | slice {b o o' l c c' : Nat} {L : Loc} (h : μ b = some L) (ho : 0 < c → o' = o) (hc : c ≤ c') (hl : l ≤ c) (hu : (L.unit = 0 → c' = c) ∧ (L.unit ≠ 0 → o' + c' * L.unit ≤ L.lim ∧ (0 < c → o' + c' * L.unit = L.lim))) :
      VR μ (.slice (some ⟨b, o, none⟩) l c) (.slice (some ⟨L.blk, o' + L.off, none⟩) l c')
  | nilm : VR μ (.map none) (.map none)
  | map {r : Nat} {L : Loc} (h : μ r = some L) (h0 : L.off = 0) : VR μ (.map (some r)) (.map (some L.blk))
  | nilf : VR μ .nilFunc .nilFunc
  | func (f : FuncId) {a a' c c' : List Value} (ha : a.length = a'.length) (hc : c.length = c'.length)
      (ra : ∀ i (h1 : i < a.length) (h2 : i < a'.length), VR μ a[i] a'[i])
      (rc : ∀ i (h1 : i < c.length) (h2 : i < c'.length), VR μ c[i] c'[i]) : VR μ (.func (.func f) ⟨a⟩ ⟨c⟩) (.func (.func f) ⟨a'⟩ ⟨c'⟩)
  | yield {l : Nat} {L : Loc} (h : μ l = some L) (h0 : L.off = 0) : VR μ (.func (.yield l) ⟨[]⟩ ⟨[]⟩) (.func (.yield L.blk) ⟨[]⟩ ⟨[]⟩)
  | nili : VR μ .nilIface .nilIface
  | iface (t : TypeId) {v v' : Value} (h : VR μ v v') : VR μ (.iface t v) (.iface t v')
  | agg {a a' : List Value} (ha : a.length = a'.length)
      (ra : ∀ i (h1 : i < a.length) (h2 : i < a'.length), VR μ a[i] a'[i]) : VR μ (.agg ⟨a⟩) (.agg ⟨a'⟩)
  | tuple {a a' : List Value} (ha : a.length = a'.length)
      (ra : ∀ i (h1 : i < a.length) (h2 : i < a'.length), VR μ a[i] a'[i]) : VR μ (.tuple ⟨a⟩) (.tuple ⟨a'⟩)

inductive LR (μ : Mu) : List Value → List Value → Prop
  | nil : LR μ [] []
  | cons {x y : Value} {xs ys : List Value} (h : VR μ x y) (t : LR μ xs ys) : LR μ (x :: xs) (y :: ys)

def Ext (μ μ' : Mu) : Prop := ∀ b x, μ b = some x → μ' b = some x
theorem Ext.refl (μ : Mu) : Ext μ μ := fun _ _ h => h
theorem Ext.trans {a b c : Mu} (h : Ext a b) (k : Ext b c) : Ext a c := fun x y e => k x y (h x y e)

theorem VR.mono {μ μ' : Mu} (e : Ext μ μ') {v v' : Value} (h : VR μ v v') : VR μ' v v' := by
  induction h with
  | bool b => exact .bool b
  | int k n => exact .int k n
  | str s => exact .str s
  | nilp => exact .nilp
  | ptr h => exact .ptr (e _ _ h)
  | glob g o => exact .glob g o
  | nils => exact .nils
  | slice h ho hc hl hu => exact .slice (e _ _ h) ho hc hl hu
  | nilm => exact .nilm
  | map h h0 => exact .map (e _ _ h) h0
  | nilf => exact .nilf
  | func f ha hc _ _ ia ic => exact .func f ha hc ia ic
  | yield h h0 => exact .yield (e _ _ h) h0
  | nili => exact .nili
  | iface t _ ih => exact .iface t ih
  | agg ha _ ih => exact .agg ha ih
  | tuple ha _ ih => exact .tuple ha ih

theorem LR.mono {μ μ' : Mu} (e : Ext μ μ') {a b : List Value} (h : LR μ a b) : LR μ' a b := by
  induction h with
  | nil => exact .nil
  | cons h _ ih => exact .cons (h.mono e) ih

theorem LR.length {μ : Mu} {a b : List Value} (h : LR μ a b) : a.length = b.length := by
  induction h with
  | nil => rfl
  | cons _ _ ih => simp [ih]

theorem LR.get {μ : Mu} {a b : List Value} (h : LR μ a b) : ∀ {i : Nat} {v : Value}, a[i]? = some v → ∃ v', b[i]? = some v' ∧ VR μ v v' := by
  induction h with
  | nil => intro i v h; simp at h
  | cons hx _ ih =>
    intro i v h
    cases i with
    | zero => simp at h; subst h; exact ⟨_, by simp, hx⟩
    | succ i => simp at h; obtain ⟨v', h1, h2⟩ := ih (i := i) (by simpa using h); exact ⟨v', by simpa using h1, h2⟩

theorem LR.of_idx {μ : Mu} : ∀ {a b : List Value}, a.length = b.length → (∀ i (h1 : i < a.length) (h2 : i < b.length), VR μ a[i] b[i]) → LR μ a b
  | [], [], _, _ => .nil
  | [], _ :: _, h, _ => by simp at h
  | _ :: _, [], h, _ => by simp at h
  | x :: xs, y :: ys, h, r => .cons (r 0 (by simp) (by simp)) (LR.of_idx (by simpa using h) fun i h1 h2 => by
      have := r (i + 1) (by simp; omega) (by simp; omega); simpa using this)

theorem LR.idx {μ : Mu} {a b : List Value} (h : LR μ a b) : ∀ i (h1 : i < a.length) (h2 : i < b.length), VR μ a[i] b[i] := by
  intro i h1 h2
  obtain ⟨v', e, r⟩ := h.get (i := i) (v := a[i]) (by simp [h1])
  rw [List.getElem?_eq_getElem h2] at e
  cases e
  exact r

theorem VR.aggL {μ : Mu} {a b : List Value} (h : LR μ a b) : VR μ (.agg ⟨a⟩) (.agg ⟨b⟩) := .agg h.length h.idx
theorem VR.tupleL {μ : Mu} {a b : List Value} (h : LR μ a b) : VR μ (.tuple ⟨a⟩) (.tuple ⟨b⟩) := .tuple h.length h.idx
theorem VR.funcL {μ : Mu} (f : FuncId) {a a' c c' : List Value} (h : LR μ a a') (k : LR μ c c') : VR μ (.func (.func f) ⟨a⟩ ⟨c⟩) (.func (.func f) ⟨a'⟩ ⟨c'⟩) :=
  .func f h.length k.length h.idx k.idx
theorem VR.agg_inv {μ : Mu} {a : List Value} {v : Value} (h : VR μ (.agg ⟨a⟩) v) : ∃ b, v = .agg ⟨b⟩ ∧ LR μ a b := by
  cases h with
  | agg ha ra => exact ⟨_, rfl, LR.of_idx ha ra⟩
theorem VR.tuple_inv {μ : Mu} {a : List Value} {v : Value} (h : VR μ (.tuple ⟨a⟩) v) : ∃ b, v = .tuple ⟨b⟩ ∧ LR μ a b := by
  cases h with
  | tuple ha ra => exact ⟨_, rfl, LR.of_idx ha ra⟩
theorem VR.func_inv {μ : Mu} {f : FuncId} {a c : List Value} {v : Value} (h : VR μ (.func (.func f) ⟨a⟩ ⟨c⟩) v) : ∃ a' c', v = .func (.func f) ⟨a'⟩ ⟨c'⟩ ∧ LR μ a a' ∧ LR μ c c' := by
  cases h with
  | func _ ha hc ra rc => exact ⟨_, _, rfl, LR.of_idx ha ra, LR.of_idx hc rc⟩

theorem VR.undef (μ : Mu) : VR μ undef undef := VR.tupleL .nil

theorem LR.append {μ : Mu} {a b c d : List Value} (h : LR μ a b) (k : LR μ c d) : LR μ (a ++ c) (b ++ d) := by
  induction h with
  | nil => exact k
  | cons hx _ ih => exact .cons hx ih

theorem LR.drop {μ : Mu} {a b : List Value} (h : LR μ a b) : ∀ n, LR μ (a.drop n) (b.drop n) := by
  induction h with
  | nil => intro n; simpa using LR.nil
  | cons hx ht ih =>
    intro n
    cases n with
    | zero => exact .cons hx ht
    | succ n => simpa using ih n
theorem LR.take {μ : Mu} {a b : List Value} (h : LR μ a b) : ∀ n, LR μ (a.take n) (b.take n) := by
  induction h with
  | nil => intro n; simpa using LR.nil
  | cons hx ht ih =>
    intro n
    cases n with
    | zero => simpa using LR.nil
    | succ n => simpa using LR.cons hx (ih n)

/-! ### Values without addresses stand for themselves -/
theorem flat_refl {μ : Mu} : ∀ (n : Nat) (v : Value), flat n v = true → VR μ v v := by
  intro n
  induction n with
  | zero =>
    intro v h
    cases v with
    | bool b => exact .bool b
    | int k n => exact .int k n
    | string s => exact .str s
    | pointer a => cases a with
      | none => exact .nilp
      | some a => simp [flat] at h
    | slice a l c =>
      cases a with
      | none => cases l with
        | zero => cases c with
          | zero => exact .nils
          | succ _ => simp [flat] at h
        | succ _ => simp [flat] at h
      | some a => simp [flat] at h
    | map r => cases r with
      | none => exact .nilm
      | some r => simp [flat] at h
    | nilFunc => exact .nilf
    | nilIface => exact .nili
    | func f a c =>
      cases f with
      | func f =>
        obtain ⟨a⟩ := a; obtain ⟨c⟩ := c
        cases a with
        | nil => cases c with
          | nil => exact VR.funcL f .nil .nil
          | cons _ _ => simp [flat] at h
        | cons _ _ => simp [flat] at h
      | _ => simp [flat] at h
    | _ => simp [flat] at h
  | succ n ih =>
    intro v h
    have hl : ∀ l : List Value, l.all (flat n) = true → LR μ l l := by
      intro l
      induction l with
      | nil => intro _; exact .nil
      | cons x l ihl =>
        intro h
        simp only [List.all_cons, Bool.and_eq_true] at h
        exact .cons (ih x h.1) (ihl h.2)
    cases v with
    | bool b => exact .bool b
    | int k n => exact .int k n
    | string s => exact .str s
    | pointer a => cases a with
      | none => exact .nilp
      | some a => simp [flat] at h
    | slice a l c =>
      cases a with
      | none => cases l with
        | zero => cases c with
          | zero => exact .nils
          | succ _ => simp [flat] at h
        | succ _ => simp [flat] at h
      | some a => simp [flat] at h
    | map r => cases r with
      | none => exact .nilm
      | some r => simp [flat] at h
    | nilFunc => exact .nilf
    | nilIface => exact .nili
    | func f a c =>
      cases f with
      | func f =>
        obtain ⟨a⟩ := a; obtain ⟨c⟩ := c
        cases a with
        | nil => cases c with
          | nil => exact VR.funcL f .nil .nil
          | cons _ _ => simp [flat] at h
        | cons _ _ => simp [flat] at h
      | _ => simp [flat] at h
    | iface t v => exact .iface t (ih v (by simpa [flat] using h))
    | agg cs => obtain ⟨l⟩ := cs; exact VR.aggL (hl l (by simpa [flat] using h))
    | tuple cs => obtain ⟨l⟩ := cs; exact VR.tupleL (hl l (by simpa [flat] using h))
    | _ => simp [flat] at h

theorem flat_eq {μ : Mu} : ∀ (n : Nat) (v v' : Value), flat n v = true → VR μ v v' → v' = v := by
  intro n
  induction n with
  | zero =>
    intro v v' h r
    cases r <;> first
      | rfl
      | (simp [flat] at h; done)
      | skip
    rename_i f a a' c c' ha hc ra rc
    cases a with
    | nil => cases c with
      | nil => rw [List.eq_nil_of_length_eq_zero ha.symm, List.eq_nil_of_length_eq_zero hc.symm]
      | cons _ _ => simp [flat] at h
    | cons _ _ => simp [flat] at h
  | succ n ih =>
    intro v v' h r
    have hl : ∀ {l m : List Value}, LR μ l m → l.all (flat n) = true → m = l := by
      intro l m hr
      induction hr with
      | nil => intro _; rfl
      | cons hx _ ihl =>
        intro h
        simp only [List.all_cons, Bool.and_eq_true] at h
        rw [ih _ _ h.1 hx, ihl h.2]
    cases r with
    | func f ha hc ra rc =>
      rename_i a a' c c'
      cases a with
      | nil => cases c with
        | nil => rw [List.eq_nil_of_length_eq_zero ha.symm, List.eq_nil_of_length_eq_zero hc.symm]
        | cons _ _ => simp [flat] at h
      | cons _ _ => simp [flat] at h
    | iface t hr => rw [ih _ _ (by simpa [flat] using h) hr]
    | agg ha ra => rw [hl (LR.of_idx ha ra) (by simpa [flat] using h)]
    | tuple ha ra => rw [hl (LR.of_idx ha ra) (by simpa [flat] using h)]
    | _ => first | rfl | (simp [flat] at h; done)

end Go.Wvm
