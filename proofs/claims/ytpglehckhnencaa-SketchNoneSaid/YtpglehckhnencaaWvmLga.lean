/- A logic over the small machine: what is known of a frame's temporaries (a list) and of the memory (rows of values by number), and what each operation makes of it. -/
import Derived.Test.YtpglehckhnencaaWvmMemo
set_option linter.unusedSimpArgs false
set_option linter.unusedVariables false
namespace Go.Wvm
open Go.RowKit

/-! ### Temporaries -/
abbrev En := List (Nat × Value)
def enGet : En → Nat → Option Value
  | [], _ => none
  | (a, v) :: r, t => match Nat.beq a t with
    | true => some v
    | false => enGet r t
def Has (tm : Tr Value) (E : En) : Prop := ∀ t v, enGet E t = some v → tm.get t = some v
def evE (E : En) : Operand → Option Value
  | .tmp t => enGet E t
  | .const v => match flat 10 v with | true => some v | false => none
  | .func f => some (.func (.func f) #[] #[])
  | .global g => some (.pointer (some ⟨g, 0, some 0⟩))
def evsE (E : En) : List Operand → Option (List Value)
  | [] => some []
  | x :: xs => match evE E x, evsE E xs with
    | some v, some vs => some (v :: vs)
    | _, _ => none
def evPartsE (E : En) : List (Nat × Operand) → Option (List (Nat × Value))
  | [] => some []
  | (i, x) :: xs => match evE E x, evPartsE E xs with
    | some v, some vs => some ((i, v) :: vs)
    | _, _ => none
def evOE (E : En) : Option Operand → Option (Option Value)
  | none => some none
  | some x => match evE E x with
    | some v => some (some v)
    | none => none

theorem Has.ev {fr : VF} {E : En} (h : Has fr.tm E) {x : Operand} {v : Value} (k : evE E x = some v) : fr.ev x = some v := by
  cases x with
  | tmp t => simp only [VF.ev, h t v k]
  | const u => exact k
  | func f => exact k
  | global g => exact k
theorem Has.evs {fr : VF} {E : En} (h : Has fr.tm E) : ∀ {xs : List Operand} {vs : List Value}, evsE E xs = some vs → fr.evs xs = some vs
  | [], vs, k => k
  | x :: xs, vs, k => by
    simp only [evsE] at k
    split at k
    · rename_i v vs' h1 h2
      simp only [VF.evs, h.ev h1, h.evs h2]; exact k
    · cases k
theorem Has.evParts {fr : VF} {E : En} (h : Has fr.tm E) : ∀ {xs : List (Nat × Operand)} {vs : List (Nat × Value)}, evPartsE E xs = some vs → fr.evParts xs = some vs
  | [], vs, k => k
  | (i, x) :: xs, vs, k => by
    simp only [evPartsE] at k
    split at k
    · rename_i v vs' h1 h2
      simp only [VF.evParts, h.ev h1, h.evParts h2]; exact k
    · cases k
theorem Has.evO {fr : VF} {E : En} (h : Has fr.tm E) {x : Option Operand} {v : Option Value} (k : evOE E x = some v) : fr.evO x = some v := by
  cases x with
  | none => exact k
  | some x =>
    simp only [evOE] at k
    split at k
    · rename_i u h1
      simp only [VF.evO, h.ev h1]; exact k
    · cases k

theorem Has.put {tm : Tr Value} {E : En} (h : Has tm E) {nt d : Nat} (hd : Nat.blt d nt = true) (v : Value) : Has (putT nt tm (some d) v) ((d, v) :: E) := by
  intro t u k
  simp only [putT, hd]
  rw [Tr.get_set]
  simp only [enGet] at k
  split at k
  · rename_i hb
    rw [if_pos (Nat.eq_of_beq_eq_true hb).symm]; exact k
  · rename_i hb
    rw [if_neg (fun e => by subst e; rw [Nat.beq_refl] at hb; cases hb)]
    exact h t u k

/-- All that the first says the second says. -/
def SubE : En → En → Prop
  | [], _ => True
  | (t, v) :: r, E => enGet E t = some v ∧ SubE r E
theorem SubE.get {E : En} : ∀ {E0 : En}, SubE E0 E → ∀ {t v}, enGet E0 t = some v → enGet E t = some v
  | [], _, t, v, h => by cases h
  | (a, u) :: r, hs, t, v, h => by
    simp only [enGet] at h
    split at h
    · rename_i hb
      cases h
      rw [← Nat.eq_of_beq_eq_true hb]; exact hs.1
    · exact hs.2.get h
theorem Has.sub {tm : Tr Value} {E0 E : En} (h : Has tm E) (s : SubE E0 E) : Has tm E0 := fun t v k => h t v (s.get k)

/-- Temporaries below n alone. -/
inductive Keep (n : Nat) : En → En → Prop
  | nil : Keep n [] []
  | drop {a : Nat} {v : Value} {r r' : En} (h : Nat.ble n a = true) (t : Keep n r r') : Keep n ((a, v) :: r) r'
  | keep {a : Nat} {v : Value} {r r' : En} (h : Nat.blt a n = true) (t : Keep n r r') : Keep n ((a, v) :: r) ((a, v) :: r')
theorem Keep.get {n : Nat} {E E' : En} (h : Keep n E E') : ∀ {t v}, enGet E' t = some v → t < n ∧ enGet E t = some v := by
  induction h with
  | nil => intro t v k; cases k
  | @drop a u r r' h _ ih =>
    intro t v k
    have := Nat.le_of_ble_eq_true h
    obtain ⟨h1, h2⟩ := ih k
    have hb : Nat.beq a t = false := by
      cases hb : Nat.beq a t with
      | false => rfl
      | true => have := Nat.eq_of_beq_eq_true hb; omega
    simp only [enGet, hb]
    exact ⟨h1, h2⟩
  | @keep a u r r' h _ ih =>
    intro t v k
    simp only [enGet] at k ⊢
    split at k
    · rename_i hb
      rw [← Nat.eq_of_beq_eq_true hb]
      exact ⟨Nat.le_of_ble_eq_true h, k⟩
    · exact ih k

/-! ### Memory -/
inductive AO where
  | row (l : List Value) (u : Nat) (t : Option (TypeId × Nat))
  | map (es : List (Value × Value))
  | raw (o : VObj)

structure AM where
  next : Nat
  get : Nat → Option AO
  gl : Tr (List Value)

def AM.upd (M : AM) (b : Nat) (o : AO) : AM := { M with get := fun x => if x = b then some o else M.get x }
def AM.add (M : AM) (o : AO) : AM := { next := M.next + 1, get := fun x => if x = M.next then some o else M.get x, gl := M.gl }
def AM.rm (M : AM) (b : Nat) : AM := { M with get := fun x => if x = b then none else M.get x }
def AM.bump (M : AM) (n : Nat) : AM := { M with next := n }

theorem AM.get_upd (M : AM) (b : Nat) (o : AO) (x : Nat) : (M.upd b o).get x = if x = b then some o else M.get x := rfl
theorem AM.get_add (M : AM) (o : AO) (x : Nat) : (M.add o).get x = if x = M.next then some o else M.get x := rfl
theorem AM.get_rm (M : AM) (b : Nat) (x : Nat) : (M.rm b).get x = if x = b then none else M.get x := rfl
theorem AM.get_bump (M : AM) (n : Nat) (x : Nat) : (M.bump n).get x = M.get x := rfl
theorem AM.next_upd (M : AM) (b : Nat) (o : AO) : (M.upd b o).next = M.next := rfl
theorem AM.next_add (M : AM) (o : AO) : (M.add o).next = M.next + 1 := rfl
theorem AM.next_rm (M : AM) (b : Nat) : (M.rm b).next = M.next := rfl
theorem AM.next_bump (M : AM) (n : Nat) : (M.bump n).next = n := rfl
theorem AM.gl_upd (M : AM) (b : Nat) (o : AO) : (M.upd b o).gl = M.gl := rfl
theorem AM.gl_add (M : AM) (o : AO) : (M.add o).gl = M.gl := rfl
theorem AM.gl_rm (M : AM) (b : Nat) : (M.rm b).gl = M.gl := rfl
theorem AM.gl_bump (M : AM) (n : Nat) : (M.bump n).gl = M.gl := rfl
theorem AM.upd_same {M : AM} {b : Nat} {o : AO} : (M.upd b o).get b = some o := if_pos rfl
theorem AM.upd_ne {M : AM} {b x : Nat} {o : AO} (h : x ≠ b) : (M.upd b o).get x = M.get x := if_neg h
theorem AM.add_same {M : AM} {o : AO} : (M.add o).get M.next = some o := if_pos rfl
theorem AM.add_ne {M : AM} {x : Nat} {o : AO} (h : x ≠ M.next) : (M.add o).get x = M.get x := if_neg h
theorem AM.rm_ne {M : AM} {b x : Nat} (h : x ≠ b) : (M.rm b).get x = M.get x := if_neg h

def AbsO (o : VObj) (a : AO) : Prop :=
  match a with
  | .row l u t => ∃ n c d, o = .cells n c d u t ∧ n = l.length ∧ ∀ i v, l[i]? = some v → cellAt n c d i = some v
  | .map es => o = .map es
  | .raw o' => o = o'

structure Abs (ro : Nat) (w : VW) (M : AM) : Prop where
  next : w.next = M.next
  gl : w.gl = M.gl
  lt : ∀ b o, w.heap.get b = some o → b < w.next
  obj : ∀ b a, M.get b = some a → ∃ o, w.heap.get b = some o ∧ AbsO o a
  ron : ro ≤ w.next

theorem Abs.bound {ro : Nat} {w : VW} {M : AM} (h : Abs ro w M) {b : Nat} {a : AO} (k : M.get b = some a) : b < M.next := by
  obtain ⟨o, h1, _⟩ := h.obj b a k
  rw [← h.next]; exact h.lt b o h1

/-- What the first knows the second knows. -/
structure AM.Le (M0 M : AM) : Prop where
  next : M0.next = M.next
  gl : M0.gl = M.gl
  get : ∀ b a, M0.get b = some a → M.get b = some a
theorem AM.Le.refl (M : AM) : AM.Le M M := ⟨rfl, rfl, fun _ _ h => h⟩
theorem Abs.le {ro : Nat} {w : VW} {M0 M : AM} (h : Abs ro w M) (k : AM.Le M0 M) : Abs ro w M0 :=
  ⟨h.next.trans k.next.symm, h.gl.trans k.gl.symm, h.lt, fun b a e => h.obj b a (k.get b a e), h.ron⟩

/-- Blocks that were there are as they were, but for those of S. -/
structure Fr (M M' : AM) (S : List Nat) : Prop where
  next : M.next ≤ M'.next
  gl : M'.gl = M.gl
  get : ∀ b, b < M.next → b ∉ S → M'.get b = M.get b
theorem Fr.refl (M : AM) (S : List Nat) : Fr M M S := ⟨Nat.le_refl _, rfl, fun _ _ _ => rfl⟩
theorem Fr.trans {M M1 M2 : AM} {S S1 : List Nat} (h : Fr M M1 S) (k : Fr M1 M2 S1) (hs : ∀ b ∈ S1, b ∈ S ∨ M.next ≤ b) : Fr M M2 S :=
  ⟨Nat.le_trans h.next k.next, k.gl.trans h.gl, fun b hb hn => by
    rw [k.get b (Nat.lt_of_lt_of_le hb h.next) (fun hm => (hs b hm).elim hn (fun e => by omega)), h.get b hb hn]⟩
theorem Fr.mono {M M' : AM} {S S' : List Nat} (h : Fr M M' S) (hs : ∀ b ∈ S, b ∈ S') : Fr M M' S' :=
  ⟨h.next, h.gl, fun b hb hn => h.get b hb (fun hm => hn (hs b hm))⟩
theorem Fr.upd {M : AM} {b : Nat} {o : AO} {S : List Nat} (h : b ∈ S) : Fr M (M.upd b o) S :=
  ⟨Nat.le_refl _, rfl, fun x _ hn => AM.upd_ne (fun e => hn (e ▸ h))⟩
theorem Fr.rm {M : AM} {b : Nat} {S : List Nat} (h : b ∈ S) : Fr M (M.rm b) S :=
  ⟨Nat.le_refl _, rfl, fun x _ hn => AM.rm_ne (fun e => hn (e ▸ h))⟩
theorem Fr.add (M : AM) (o : AO) (S : List Nat) : Fr M (M.add o) S :=
  ⟨Nat.le_succ _, rfl, fun x hx _ => AM.add_ne (Nat.ne_of_lt hx)⟩

theorem Fr.add' {M M1 : AM} {S : List Nat} (h : Fr M M1 S) (o : AO) : Fr M (M1.add o) S :=
  ⟨Nat.le_succ_of_le h.next, h.gl, fun x hx hn => (AM.add_ne (Nat.ne_of_lt (Nat.lt_of_lt_of_le hx h.next))).trans (h.get x hx hn)⟩
theorem Fr.upd' {M M1 : AM} {S : List Nat} (h : Fr M M1 S) {b : Nat} (o : AO) (hb : b ∈ S ∨ M.next ≤ b) : Fr M (M1.upd b o) S :=
  ⟨h.next, h.gl, fun x hx hn => (AM.upd_ne (b := b) (x := x) (fun e => hb.elim (fun k => hn (by rw [e]; exact k)) (fun k => by omega))).trans (h.get x hx hn)⟩
theorem Fr.rm' {M M1 : AM} {S : List Nat} (h : Fr M M1 S) {b : Nat} (hb : b ∈ S ∨ M.next ≤ b) : Fr M (M1.rm b) S :=
  ⟨h.next, h.gl, fun x hx hn => (AM.rm_ne (b := b) (x := x) (fun e => hb.elim (fun k => hn (by rw [e]; exact k)) (fun k => by omega))).trans (h.get x hx hn)⟩

/-! ### Rows -/
def setAt (l : List Value) (o : Nat) : List Value → List Value
  | [] => l
  | v :: vs => setAt (l.set o v) (o + 1) vs
theorem setAt_length : ∀ (vs l : List Value) (o : Nat), (setAt l o vs).length = l.length
  | [], l, o => rfl
  | v :: vs, l, o => by simp only [setAt]; rw [setAt_length vs]; simp
theorem getElem?_setAt : ∀ (vs l : List Value) (o i : Nat), (setAt l o vs)[i]? = if o ≤ i ∧ i < o + vs.length ∧ i < l.length then vs[i - o]? else l[i]?
  | [], l, o, i => by simp only [setAt, List.length_nil]; rw [if_neg (by omega)]
  | v :: vs, l, o, i => by
    simp only [setAt]
    rw [getElem?_setAt vs]
    simp only [List.length_set, List.length_cons]
    by_cases h1 : o + 1 ≤ i ∧ i < o + 1 + vs.length ∧ i < l.length
    · rw [if_pos h1, if_pos (by omega), show i - o = (i - (o + 1)) + 1 by omega, List.getElem?_cons_succ]
    · rw [if_neg h1]
      by_cases h2 : i = o
      · subst h2
        by_cases h3 : i < l.length
        · rw [if_pos (by omega), List.getElem?_set_self h3]; simp
        · rw [if_neg (by omega), List.getElem?_eq_none (by simp; omega), List.getElem?_eq_none (by omega)]
      · rw [if_neg (by omega), List.getElem?_set_ne (by omega)]

theorem cells_load {n : Nat} {c : Tr Value} {d : Option Value} {l : List Value} (h : ∀ i v, l[i]? = some v → cellAt n c d i = some v) : ∀ (k o : Nat), o + k ≤ l.length → loadL n c d o k = some ((l.drop o).take k)
  | 0, o, _ => by simp [loadL]
  | k + 1, o, hk => by
    have ho : o < l.length := by omega
    simp only [loadL, h o l[o] (List.getElem?_eq_getElem ho), cells_load h k (o + 1) (by omega)]
    rw [List.drop_eq_getElem_cons ho, List.take_succ_cons]

theorem cells_holds {n : Nat} {c : Tr Value} {d : Option Value} {l : List Value} (h : ∀ i v, l[i]? = some v → cellAt n c d i = some v) : ∀ (k o : Nat), o + k ≤ l.length → holds n c d o k = true
  | 0, o, _ => rfl
  | k + 1, o, hk => by
    have ho : o < l.length := by omega
    simp only [holds, h o l[o] (List.getElem?_eq_getElem ho), cells_holds h k (o + 1) (by omega)]

theorem cellAt_putA {n : Nat} {c : Tr Value} {d : Option Value} (vs : List Value) (o i : Nat) : cellAt n (c.putL o vs) d i = if o ≤ i ∧ i < o + vs.length ∧ i < n then vs[i - o]? else cellAt n c d i := by
  unfold cellAt
  rw [blt_eq]
  by_cases hn : i < n
  · simp only [hn, decide_true, and_true]
    rw [Tr.get_putL]
    by_cases h : o ≤ i ∧ i < o + vs.length
    · rw [if_pos h, if_pos h]
      cases hv : vs[i - o]? with
      | none => exfalso; rw [List.getElem?_eq_none_iff] at hv; omega
      | some v => rfl
    · rw [if_neg h, if_neg h]
  · simp only [hn, decide_false, and_false, if_false]

theorem cells_put {n : Nat} {c : Tr Value} {d : Option Value} {l : List Value} (hn : n = l.length) (h : ∀ i v, l[i]? = some v → cellAt n c d i = some v) (vs : List Value) (o : Nat) :
    ∀ i v, (setAt l o vs)[i]? = some v → cellAt n (c.putL o vs) d i = some v := by
  intro i v hv
  rw [getElem?_setAt] at hv
  rw [cellAt_putA, hn]
  by_cases k : o ≤ i ∧ i < o + vs.length ∧ i < l.length
  · rw [if_pos k] at hv ⊢; exact hv
  · rw [if_neg k] at hv ⊢; rw [← hn]; exact h i v hv

theorem cells_new {l : List Value} : ∀ i v, l[i]? = some v → cellAt l.length (Tr.putL .nil 0 l) none i = some v := by
  intro i v hv
  have hi : i < l.length := by
    rcases Nat.lt_or_ge i l.length with h | h
    · exact h
    · rw [List.getElem?_eq_none h] at hv; cases hv
  rw [cellAt_putA, if_pos (by omega)]; simpa using hv

theorem Abs.upd {ro : Nat} {w : VW} {M : AM} (h : Abs ro w M) {b : Nat} {o o' : VObj} {a : AO} (hb : w.heap.get b = some o) (ho : AbsO o' a) : Abs ro { w with heap := w.heap.set b o' } (M.upd b a) := by
  refine ⟨h.next, h.gl, fun x y k => ?_, fun x y k => ?_, h.ron⟩
  · have k : (w.heap.set b o').get x = some y := k
    rw [Tr.get_set] at k
    by_cases e : x = b
    · rw [e]; exact h.lt b o hb
    · rw [if_neg e] at k; exact h.lt x y k
  · rw [AM.get_upd] at k
    show ∃ z, (w.heap.set b o').get x = some z ∧ _
    rw [Tr.get_set]
    by_cases e : x = b
    · rw [if_pos e] at k ⊢; cases k; exact ⟨o', rfl, ho⟩
    · rw [if_neg e] at k ⊢; exact h.obj x y k

theorem Abs.add {ro : Nat} {w : VW} {M : AM} (h : Abs ro w M) {o : VObj} {a : AO} (ho : AbsO o a) : Abs ro (w.add o) (M.add a) := by
  refine ⟨by simp only [VW.add, AM.add, h.next], h.gl, fun x y k => ?_, fun x y k => ?_, by have := h.ron; simp only [VW.add]; omega⟩
  · have k : (w.heap.set w.next o).get x = some y := k
    rw [Tr.get_set] at k
    simp only [VW.add]
    by_cases e : x = w.next
    · omega
    · rw [if_neg e] at k; have := h.lt x y k; omega
  · rw [AM.get_add] at k
    show ∃ z, (w.heap.set w.next o).get x = some z ∧ _
    rw [Tr.get_set]
    rw [← h.next] at k
    by_cases e : x = w.next
    · rw [if_pos e] at k ⊢; cases k; exact ⟨o, rfl, ho⟩
    · rw [if_neg e] at k ⊢; exact h.obj x y k

theorem Abs.rm {ro : Nat} {w : VW} {M : AM} (h : Abs ro w M) (b : Nat) : Abs ro { w with heap := w.heap.del b } (M.rm b) := by
  refine ⟨h.next, h.gl, fun x y k => ?_, fun x y k => ?_, h.ron⟩
  · have k : (w.heap.del b).get x = some y := k
    rw [Tr.get_del] at k
    by_cases e : x = b
    · rw [if_pos e] at k; cases k
    · rw [if_neg e] at k; exact h.lt x y k
  · rw [AM.get_rm] at k
    show ∃ z, (w.heap.del b).get x = some z ∧ _
    rw [Tr.get_del]
    by_cases e : x = b
    · rw [if_pos e] at k; cases k
    · rw [if_neg e] at k ⊢; exact h.obj x y k

theorem Abs.row {ro : Nat} {w : VW} {M : AM} (h : Abs ro w M) {b u : Nat} {l : List Value} {t : Option (TypeId × Nat)} (k : M.get b = some (.row l u t)) :
    ∃ c d, w.heap.get b = some (.cells l.length c d u t) ∧ ∀ i v, l[i]? = some v → cellAt l.length c d i = some v := by
  obtain ⟨o, h1, n, c, d, rfl, rfl, h4⟩ := h.obj _ _ k
  exact ⟨c, d, h1, h4⟩

theorem AbsO.new {l : List Value} {u : Nat} {t : Option (TypeId × Nat)} : AbsO (.cells l.length (Tr.putL .nil 0 l) none u t) (.row l u t) :=
  ⟨_, _, _, rfl, rfl, cells_new⟩

theorem Abs.putCells {ro : Nat} {w : VW} {M : AM} (h : Abs ro w M) {b o u : Nat} {l vs : List Value} {t : Option (TypeId × Nat)} (k : M.get b = some (.row l u t)) (hr : ro ≤ b) (hf : fzOf t ≤ o) (hl : o + vs.length ≤ l.length) (h1 : oneCells vs = true) :
    ∃ w', putCells ro ⟨b, o, none⟩ vs w = some w' ∧ Abs ro w' (M.upd b (.row (setAt l o vs) u t)) := by
  obtain ⟨c, d, hb, hc⟩ := h.row k
  cases vs with
  | nil =>
    refine ⟨w, rfl, ⟨h.next, h.gl, h.lt, fun x a e => ?_, h.ron⟩⟩
    rw [AM.get_upd] at e
    by_cases q : x = b
    · rw [if_pos q] at e; cases e; rw [q]; exact h.obj b _ k
    · rw [if_neg q] at e; exact h.obj x a e
  | cons v vs =>
    refine ⟨{ w with heap := w.heap.set b (.cells l.length (c.putL o (v :: vs)) d u t) }, ?_, h.upd hb ⟨_, _, _, rfl, (setAt_length ..).symm, cells_put rfl hc _ _⟩⟩
    have e1 : Nat.ble ro b = true := Nat.ble_eq_true_of_le hr
    have e2 : (Nat.ble (o + (v :: vs).length) l.length && Nat.ble (fzOf t) o) = true := by rw [Nat.ble_eq_true_of_le hl, Nat.ble_eq_true_of_le hf]; rfl
    simp only [Wvm.putCells, hb, e1, h1, e2]

end Go.Wvm
