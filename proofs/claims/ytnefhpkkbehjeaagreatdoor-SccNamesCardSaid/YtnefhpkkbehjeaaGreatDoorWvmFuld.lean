/- Regions that draw their order. -/
import Derived.Test.YtnefhpkkbehjeaaGreatDoorWvmSame
set_option linter.unusedSimpArgs false
set_option linter.unusedVariables false
namespace Go.Wvm
open Go.RowKit

section
variable {P : Program} {vp : VP} {μ : Mu} {ro : Nat} {w0 : Base} {V V' : VW} {w : World} {ops : Array Oper}

theorem fullX_same {sub : VM → VS} {f f' : VF} (h : fullX P vp sub ro ops f V = some (f', V')) : SameF f f' := by
  unfold fullX at h
  split at h
  case h_2 => cases h
  split at h
  case h_2 => cases h
  rename_i hg
  cases h
  rw [greedyX_eq .zero] at hg
  exact greedyX0_same hg

theorem fullX_sound (ok : VPok P vp) {sub : VM → VS} (hsub : SubOk P vp ro sub) {Q : Exit → Act → World → Prop} (hQp : ∀ c a w, ¬ Q (.panic c) a w) {f f' : VF} {a : Act} (A : AR μ f a) (R : Rel μ ro w0 V w)
    (h : fullX P vp sub ro ops f V = some (f', V')) (hQ : ∀ a' w' μ', Ext μ μ' → AR μ' f' a' → Rel μ' ro w0 V' w' → Q .normal a' w') : wpAny P .any ops Q ops.size (Array.replicate ops.size false) a w := by
  unfold fullX at h
  split at h
  case h_2 => cases h
  rename_i hsel
  split at h
  case h_2 => cases h
  rename_i f1 V1 D' hg
  cases h
  rw [greedyX_eq .zero, Array.length_toList] at hg
  have hk : ∀ x ∈ V :: [], ∀ e ∈ ([] : List DE), keepsE vp e x = true := fun _ _ _ he => by cases he
  have hD : HasX μ D' := keepsX_has ok R (keepsX_of fun e he => greedyX0_keeps hg hk V (.head _) e he)
  have := greedyX0_sound (w0 := w0) (Q := Q) ok hsub hsel hQp hD (2 * (3 * ops.size + 1)) (3 * ops.size + 1) 0 (by omega) none _ f V [] [] hg hk (3 * ops.size + 1) (Array.replicate ops.size false) a w μ w0 (Ext.refl _) (closed_none _) ⟨rfl, rfl, by omega, rfl⟩ A R hQ
  refine wpAny_of_U (S := SX P μ D') _ _ _ _ (wpAnyU_fuel (2 * ops.size + 1) ?_ (by rw [leftN_rep]; exact Nat.le_refl _))
  rw [show ops.size + (2 * ops.size + 1) = 3 * ops.size + 1 by omega]
  exact this

/-- **A region that draws its order.** -/
theorem drawV_sound (ok : VPok P vp) (hm : P.follows .mixedOrders = true) (R : Rel μ ro w0 V w) {sub : VM → VS} (hs : SubOk P vp ro sub) {id : Nat} {f f' : VF} {a : Act} (A : AR μ f a)
    (h : drawV P vp sub ro ops f V = some (f', V')) : SameF f f' ∧ (Code.region id ops true).wp P (fun e a' w' => e = .normal ∧ ∃ μ', Ext μ μ' ∧ AR μ' f' a' ∧ Rel μ' ro w0 V' w') a w := by
  unfold drawV at h
  split at h
  · rename_i f1 hq1
    simp only [Option.some.injEq, Prod.mk.injEq] at h
    obtain ⟨rfl, rfl⟩ := h
    unfold tryQ at hq1
    split at hq1
    case h_2 => cases hq1
    rename_i hB
    replace hB := lexM_lex hB
    obtain ⟨s1, s2⟩ := quietL_sound ok R noSub_ok ops.toList f f1 a (fun a' => ∀ w', Below w.heap.size w w' → (fun e a' w' => e = Exit.normal ∧ ∃ μ', Ext μ μ' ∧ AR μ' f1 a' ∧ Rel μ' ro w0 V w') Exit.normal a' w') A hq1
      (fun a' A' w' hw' => ⟨rfl, μ, Ext.refl _, A', R.more hw'⟩)
    exact ⟨s1, wp_region_quiet hm hB (C := fun w' => Below w.heap.size w w') (Below.refl _ _ |>.drew) s2⟩
  · exact ⟨fullX_same h, wp_region_any hm (fullX_sound ok hs (fun c a w hh => by cases hh.1) A (R.drawn _) h (fun a' w' μ' e A' R' => ⟨rfl, μ', e, A', R'⟩))⟩
end
end Go.Wvm
