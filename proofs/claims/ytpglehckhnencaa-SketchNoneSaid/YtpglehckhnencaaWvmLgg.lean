/- From the logic to calls of the model: closed runs, arguments. -/
import Derived.Test.YtpglehckhnencaaWvmLgf
import Derived.ChangeArms
set_option linter.unusedSimpArgs false
set_option linter.unusedVariables false
namespace Go.Wvm
open Go.RowKit

section
variable {P : Program} {vp : VP}

/-- A frame of a function without arguments has but one frame that it stands for. -/
theorem AR.empty {μ : Mu} {fn nt : Nat} {k : List Item} {a : Act} (A : AR μ ⟨fn, .nil, nt, k, [], false, .normal, none⟩ a) : a = { tmps := Array.replicate nt undef, defers := [] } := by
  obtain ⟨tmps, ds⟩ := a
  have h1 : tmps.size = nt := A.size
  have h2 : ds = [] := by
    have := A.defers
    simp only at this
    cases this; rfl
  have h3 : tmps = Array.replicate nt undef := by
    apply Array.ext
    · rw [h1, Array.size_replicate]
    · intro i hi1 hi2
      have := A.non i (Tr.get_nil i)
      simp only [Array.getD_eq_getD_getElem?] at this
      rw [Array.getElem?_eq_getElem hi1] at this
      rw [Array.getElem_replicate]
      exact this
  rw [h2, h3]

/-- A run without arguments: whatever lies there stays. -/
theorem FnC.closed (ok : VPok P vp) (hm : P.follows .mixedOrders = true) {ro fuel g : Nat} {M : AM} (h : yes P vp 0 fuel g = true) : FnC P vp ro g [] M (fun v M' => v = .bool true ∧ M' = M) := by
  intro w hM
  have h0 := h
  unfold yes yesG startV at h0
  split at h0
  case h_2 => cases h0
  rename_i m hmm
  split at hmm
  case h_2 => cases hmm
  rename_i fn hfn
  split at hmm
  case h_2 => cases hmm
  rename_i f' hfe
  refine ⟨.bool true, w, M, ⟨rfl, rfl⟩, hM, fn, f', hfn, hfe, ?_⟩
  intro w0 f cs V μ a r Fs wm hmm' A hr C R bottom
  cases hmm'
  cases C
  obtain ⟨e, w', F, ⟨rfl, hb⟩, h1, h2, h3⟩ := yes_sound ok hm h wm bottom
  have hfe' := hfe
  unfold VF.enter at hfe
  split at hfe
  case h_2 => cases hfe
  rename_i c hc
  simp only [Option.some.injEq] at hfe
  obtain ⟨hf, _, _⟩ := fn_facts ok hfn
  obtain ⟨a', g1, g2, g3, g4⟩ := enter_sound (μ := μ) hf .nil hfe'
  subst hfe
  have e1 := AR.empty (A := A)
  have e2 := AR.empty (A := g2)
  obtain rfl := (show RdR μ none r from hr).none_inv
  refine ⟨.bool true, μ, w', F, ?_, h2.trans ?_, h3, Ext.refl _, R.more hb, .bool true⟩
  · have h1 : Steps P (lone (Frame.enter P g ⟨[]⟩ .normal) bottom wm) _ := h1
    rw [g1, e2, ← e1] at h1
    exact h1
  · rfl

/-- What is shown of a function in the logic, of a call of the model. -/
theorem calls_of_fn (ok : VPok P vp) {k g : Nat} {vargs args' : List Value} {M : AM} {V : VW} {μ : Mu} {W : World} (h : FnC P vp k g vargs M (fun v _ => v = .bool true)) (hA : Abs k V M) (R : Rel μ k W V W) (hl : LR μ vargs args') :
    Calls P g ⟨args'⟩ W fun e w' => e = .returned (.bool true) ∧ Below W.heap.size W w' := by
  obtain ⟨v, w', M', rfl, _, fn, f', hg, he, hend⟩ := h V hA
  refine (subOne_ok ok hg he hend g fn f' vargs args' V W μ W (.bool true) w' hg he (by unfold subOne; simp) R hl).mono fun e w2 ⟨v', μ', h1, h2, h3, h4⟩ => ?_
  rw [VR.bool_inv h4] at h1
  exact ⟨h1, h3.below⟩

/-! ### What lies there when a call begins -/
/-- A slice that is handed in, nil or not. -/
def inV (nil : Bool) (b n : Nat) : Value := if nil then .slice none 0 0 else .slice (some ⟨b, 0, none⟩) n n
theorem inV_pos {nil : Bool} (b n : Nat) (h : nil = true → n = 0) (h0 : n ≠ 0) : inV nil b n = .slice (some ⟨b, 0, none⟩) n n := by
  unfold inV
  cases nil with
  | true => exact absurd (h rfl) h0
  | false => rfl
theorem Pu.lenIn {E : En} {M : AM} {T : List (Nat × TyI)} (hT : TyOk vp T) {t : TypeId} {x : Operand} {nil : Bool} {b n s by' : Nat} {z : Option Value} {g : Bool} {e : TypeId} (h : nil = true → n = 0) (hx : evE E x = some (inV nil b n)) (ht : tyGet T t = some ⟨.slice e, s, by', z, g⟩) : Pu P vp E M (.call { callee := .builtin .len, args := #[x], argTypes := #[t] }) (.int .i64 (n : Int)) := by
  cases nil with
  | true =>
    have := h rfl
    subst this
    exact Pu.lenL hT hx ht
  | false => exact Pu.lenL hT hx ht
/-- A row of plain values lies there, and may be read; it is not frozen. -/
def LiesAt (W : World) (cells : List Value) (L : Loc) : Prop :=
  ∃ C e lo hi, W.heap[L.blk]? = some (.cells C e (lo, hi)) ∧ (∀ i v, cells[i]? = some v → C[i + L.off]? = some v ∧ flat 10 v = true) ∧ cells.length ≤ L.lim ∧ ∀ i, i < L.lim → i + L.off < C.size ∧ ¬ (lo ≤ i + L.off ∧ i + L.off < hi)

/-- One row (none: nothing is known of what lies there). -/
def startW (c : Option (List Value)) (L : Loc) : VW :=
  { next := 1, heap := match c with
    | some cells => Tr.set .nil 0 (.cells cells.length (Tr.putL .nil 0 cells) none L.unit none)
    | none => .nil, gl := .nil }
def startM (c : Option (List Value)) (L : Loc) : AM :=
  { next := 1, get := fun b => if b = 0 then c.map fun cells => .row cells L.unit none else none, gl := .nil }
def startMu (L : Loc) : Mu := fun b => if b = 0 then some L else none

theorem start_abs (c : Option (List Value)) (L : Loc) : Abs 1 (startW c L) (startM c L) := by
  refine ⟨rfl, rfl, fun b o h => ?_, fun b a h => ?_, Nat.le_refl _⟩
  · cases c with
    | none => rw [show (startW none L).heap.get b = none from Tr.get_nil b] at h; cases h
    | some cells =>
      have h : (Tr.set .nil 0 (.cells cells.length (Tr.putL .nil 0 cells) none L.unit none) : Tr VObj).get b = some o := h
      rw [Tr.get_set] at h
      by_cases e : b = 0
      · subst e; exact Nat.one_pos
      · rw [if_neg e, Tr.get_nil] at h; cases h
  · have h : (if b = 0 then c.map (fun cells => AO.row cells L.unit none) else none) = some a := h
    by_cases e : b = 0
    · rw [if_pos e] at h
      cases c with
      | none => cases h
      | some cells =>
        simp only [Option.map_some, Option.some.injEq] at h
        subst h; subst e
        refine ⟨.cells cells.length (Tr.putL .nil 0 cells) none L.unit none, ?_, AbsO.new⟩
        show (Tr.set .nil 0 _ : Tr VObj).get 0 = _
        rw [Tr.get_set, if_pos rfl]
    · rw [if_neg e] at h; cases h

theorem start_rel {W : World} (c : Option (List Value)) (L : Loc) (h : ∀ cells, c = some cells → LiesAt W cells L) : Rel (startMu L) 1 W (startW c L) W where
  below := Below.refl _ _
  fresh b hb := by
    have hb : 1 ≤ b := hb
    refine ⟨by unfold startMu; rw [if_neg (by omega)], ?_⟩
    cases c with
    | none => exact Tr.get_nil b
    | some cells =>
      show (Tr.set .nil 0 _ : Tr VObj).get b = none
      rw [Tr.get_set, if_neg (by omega), Tr.get_nil]
  obj b o hb := by
    cases c with
    | none => rw [show (startW none L).heap.get b = none from Tr.get_nil b] at hb; cases hb
    | some cells =>
      have hb : (Tr.set .nil 0 (.cells cells.length (Tr.putL .nil 0 cells) none L.unit none) : Tr VObj).get b = some o := hb
      rw [Tr.get_set] at hb
      by_cases e : b = 0
      · rw [if_pos e] at hb
        cases hb
        obtain ⟨C, t, lo, hi, h1, h2, h3, h4⟩ := h cells rfl
        refine ⟨L, _, by unfold startMu; rw [if_pos e], h1, rfl, C, t, lo, hi, rfl, fun i v hv => ?_, fun i hi' => ⟨(h4 i hi').1, fun _ _ => (h4 i hi').2⟩, h3, fun x k hk => by cases hk⟩
        rw [cellAt_putA] at hv
        by_cases q : 0 ≤ i ∧ i < 0 + cells.length ∧ i < cells.length
        · rw [if_pos q, Nat.sub_zero] at hv
          obtain ⟨k1, k2⟩ := h2 i v hv
          exact ⟨by omega, v, k1, flat_refl 10 v k2⟩
        · rw [if_neg q] at hv
          unfold cellAt at hv
          split at hv
          · rw [Tr.get_nil] at hv; cases hv
          · cases hv
      · rw [if_neg e, Tr.get_nil] at hb; cases hb
  inj b b' L1 L2 o o' hne h1 h2 := by
    cases c with
    | none => rw [show (startW none L).heap.get b = none from Tr.get_nil b] at h1; cases h1
    | some cells =>
      have h1 : (Tr.set .nil 0 (.cells cells.length (Tr.putL .nil 0 cells) none L.unit none) : Tr VObj).get b = some o := h1
      have h2 : (Tr.set .nil 0 (.cells cells.length (Tr.putL .nil 0 cells) none L.unit none) : Tr VObj).get b' = some o' := h2
      rw [Tr.get_set, Tr.get_nil] at h1 h2
      by_cases e : b = 0
      · rw [if_neg (by omega)] at h2; cases h2
      · rw [if_neg e] at h1; cases h1
  new b L' hb hm := by unfold startMu at hm; rw [if_neg (by omega)] at hm; cases hm
  tot b hb := by
    have hb : b < 1 := hb
    exact ⟨L, by unfold startMu; rw [if_pos (by omega)]⟩
  ron := Nat.le_refl _
  glob g l hg := by rw [show (startW c L).gl.get g = none from Tr.get_nil g] at hg; cases hg
end
end Go.Wvm
