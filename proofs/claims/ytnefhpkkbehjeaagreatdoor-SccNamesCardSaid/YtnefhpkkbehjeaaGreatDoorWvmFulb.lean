/- Regions that draw their order: the whole of it. -/
import Derived.Test.YtnefhpkkbehjeaaGreatDoorWvmFull
set_option linter.unusedSimpArgs false
set_option linter.unusedVariables false
namespace Go.Wvm
open Go.RowKit

/-! ### Fuel -/
theorem count_set : ∀ (l : List Bool) (j : Nat), l[j]? = some false → (l.set j true).countP (fun b => !b) + 1 = l.countP (fun b => !b)
  | [], j, h => by simp at h
  | b :: l, 0, h => by simp at h; subst h; simp
  | b :: l, j + 1, h => by
    simp at h
    have := count_set l j (by simpa using h)
    simp only [List.set_cons_succ, List.countP_cons]
    omega
theorem count_pos : ∀ (l : List Bool) (j : Nat), l[j]? = some false → 1 ≤ l.countP (fun b => !b)
  | [], j, h => by simp at h
  | b :: l, 0, h => by simp at h; subst h; simp
  | b :: l, j + 1, h => by
    simp at h
    have := count_pos l j (by simpa using h)
    simp only [List.countP_cons]
    omega
def leftN (s : Array Bool) : Nat := s.toList.countP (fun b => !b)
theorem getD_false {s : Array Bool} {j : Nat} (h : s.getD j true = false) : s.toList[j]? = some false := by
  rw [Array.getD_eq_getD_getElem?] at h
  rw [Array.getElem?_toList]
  cases hx : s[j]? with
  | none => rw [hx] at h; simp at h
  | some b => rw [hx] at h; simp at h; rw [h]
theorem leftN_set {s : Array Bool} {j : Nat} (h : s.getD j true = false) : leftN (s.setIfInBounds j true) + 1 = leftN s := by
  unfold leftN
  rw [Array.toList_setIfInBounds]
  exact count_set _ _ (getD_false h)
theorem leftN_rep (n : Nat) : leftN (Array.replicate n false) = n := by
  unfold leftN
  rw [Array.toList_replicate]
  induction n with
  | zero => rfl
  | succ n ih => rw [List.replicate_succ, List.countP_cons, ih]; rfl

section
variable {P : Program} {ops : Array Oper} {Q : Exit → Act → World → Prop} {S : World → Prop}
theorem wpAnyU_less : ∀ (f : Nat) (s : Array Bool) (a : Act) (w : World), wpAnyU P ops Q S (f + 1) s a w → leftN s ≤ f → wpAnyU P ops Q S f s a w
  | 0, s, a, w, h, hl => by
    have hr : Region.ready .any ops s = [] := by
      cases hr : Region.ready .any ops s with
      | nil => rfl
      | cons j l =>
        have hj : j ∈ Region.ready .any ops s := by rw [hr]; exact .head _
        have := count_pos _ _ (getD_false (mem_ready.1 hj).1)
        unfold leftN at hl
        omega
    exact ⟨hr, h.1 hr⟩
  | f + 1, s, a, w, h, hl => by
    refine ⟨h.1, fun i hi => wpOp_mono (fun a' w' h' => ⟨h'.1, wpAnyU_less f _ a' w' h'.2 ?_⟩) (h.2 i hi)⟩
    have := leftN_set (mem_ready.1 hi).1
    omega
theorem wpAnyU_fuel {f : Nat} {s : Array Bool} {a : Act} {w : World} : ∀ (k : Nat), wpAnyU P ops Q S (f + k) s a w → leftN s ≤ f → wpAnyU P ops Q S f s a w
  | 0, h, _ => h
  | k + 1, h, hl => wpAnyU_fuel k (wpAnyU_less (f + k) s a w h (by omega)) hl

theorem wpAnyU_more : ∀ (f : Nat) (s : Array Bool) (a : Act) (w : World), wpAnyU P ops Q S f s a w → wpAnyU P ops Q S (f + 1) s a w
  | 0, s, a, w, h => ⟨fun _ => h.2, fun i hi => (by rw [h.1] at hi; cases hi)⟩
  | f + 1, s, a, w, h => ⟨h.1, fun i hi => wpOp_mono (fun a' w' h' => ⟨h'.1, wpAnyU_more f _ a' w' h'.2⟩) (h.2 i hi)⟩
theorem wpAnyU_le {f : Nat} {s : Array Bool} {a : Act} {w : World} (h : wpAnyU P ops Q S f s a w) : ∀ {g : Nat}, f ≤ g → wpAnyU P ops Q S g s a w := by
  intro g hg
  induction g with
  | zero => obtain rfl : f = 0 := by omega
            exact h
  | succ g ih =>
    by_cases e : f = g + 1
    · rw [← e]; exact h
    · exact wpAnyU_more g s a w (ih (by omega))

theorem apart_symm {x y : Oper} (h : x.apart ops y = true) : y.apart ops x = true := by
  obtain ⟨h1, h2, h3⟩ := Oper.apart_spec h
  unfold Oper.apart
  rw [Bool.and_eq_true]
  constructor
  · cases hy : y.dst with
    | none => rfl
    | some d =>
      have := h3 d hy
      have hne : x.dst ≠ some d := fun e => h2 d e hy
      simp only [Bool.and_eq_true, Bool.not_eq_true', List.contains_eq_mem, decide_eq_false_iff_not, bne_iff_ne, ne_eq]
      exact ⟨this, hne⟩
  · cases hx : x.dst with
    | none => rfl
    | some d =>
      have := h1 d hx
      simp only [Bool.not_eq_true', List.contains_eq_mem, decide_eq_false_iff_not]
      exact this
end

section
variable {P : Program} {vp : VP} {μ : Mu} {ro : Nat} {w0 B : Base} {V V' : VW} {w : World} {ops : Array Oper} {Q : Exit → Act → World → Prop}

theorem putV_ne {f : VF} {d : Nat} {x : Option Tmp} (h : x ≠ some d) (v : Value) : (f.put x v).get d = f.tm.get d := by
  cases x with
  | none => rfl
  | some y =>
    simp only [VF.put]
    split
    · rw [Tr.get_set, if_neg (fun e => h (by rw [e]))]
    · rfl
theorem putA_ne {a : Act} {d : Nat} {x : Option Tmp} (h : x ≠ some d) (v : Value) : (a.put x v).tmps.getD d undef = a.tmps.getD d undef := by
  cases x with
  | none => rfl
  | some y =>
    show (a.tmps.setIfInBounds y v).getD d undef = _
    rw [getD_set, if_neg (fun e => h (by rw [e.1]))]
theorem putA_size {a : Act} (x : Option Tmp) (v : Value) : (a.put x v).tmps.size = a.tmps.size := by
  cases x with
  | none => rfl
  | some y => show (a.tmps.setIfInBounds y v).size = _; simp

theorem AR.drop {f : VF} {a : Act} (A : AR μ f a) {o : Oper} (h : freshT f o = true) : AR μ (f.drop o) a ∧ SameF f (f.drop o) ∧ ∃ d, o.dst = some d ∧ (f.drop o).tm.get d = none := by
  unfold freshT at h
  unfold VF.drop
  split at h
  case h_2 => cases h
  rename_i d hd
  rw [hd]
  have hg : ∀ t, (f.tm.del d).get t = if t = d then none else f.tm.get t := fun t => Tr.get_del _ _ _
  refine ⟨⟨A.size, fun t v ht => ?_, fun t ht => ?_, A.defers⟩, ⟨rfl, rfl, rfl, rfl, rfl, rfl⟩, d, rfl, by show (f.tm.del d).get d = none; rw [hg, if_pos rfl]⟩
  · have ht : (f.tm.del d).get t = some v := ht
    rw [hg] at ht
    split at ht
    · cases ht
    · exact A.tmp t v ht
  · have ht : (f.tm.del d).get t = none := ht
    rw [hg] at ht
    split at ht
    · rename_i e
      subst e
      intro b hb
      cases hv : f.tm.get t with
      | none => exact A.non t hv b hb
      | some u =>
        have hr := A.tmp t u hv
        rw [hb] at hr
        cases hr
        rw [hv] at h
        cases h
    · exact A.non t ht

theorem doX_same {sub : VM → VS} {o : Oper} {f f1 : VF} {V1 : VW} (h : doX P vp sub ro ops o f V = some (f1, V1)) : SameF f f1 := by
  unfold doX at h
  split at h
  · cases h
  split at h
  · cases h; exact SameF.refl _
  · cases h; exact SameF.refl _
  · split at h
    case h_2 => cases h
    split at h
    case h_2 => cases h
    split at h
    case h_2 => cases h
    cases h; exact SameF.refl _
  · cases h

/-- The only one: its step. -/
theorem doX_sound (ok : VPok P vp) {sub : VM → VS} (hsub : SubOk P vp ro sub) {o : Oper} {f f1 : VF} {V1 : VW} {a : Act} (A : AR μ f a) (R : Rel μ ro B V w) {i : Nat} (ho : ops[i]? = some o) (h : doX P vp sub ro ops o f V = some (f1, V1)) {K : Act → World → Prop}
    (hK : ∀ v v' w' μ', f1 = { f with tm := f.put o.dst v } → Ext μ μ' → AR μ' f1 (a.put o.dst v') → Rel μ' ro B V1 w' → K (a.put o.dst v') w') : wpOp P ops Q i K a w := by
  have hw := wanted_sound A o ops
  unfold doX at h
  split at h
  · cases h
  rename_i hw2
  rw [hw2] at hw
  unfold wpOp
  simp only [ho, hw, if_true]
  left
  split at h
  · rename_i v Vx hex
    cases h
    obtain ⟨n', w1, μ1, r1, r2, r3, r4⟩ := execV_sound ok R A.ev hex
    cases r4 with
    | value hv =>
      unfold Oper.wp
      rw [r1]
      exact hK v _ w1 μ1 rfl r2 ((A.mono r2).put hv o.dst) r3
  · rename_i Vx hex
    cases h
    obtain ⟨n', w1, μ1, r1, r2, r3, r4⟩ := execV_sound ok R A.ev hex
    cases r4
    unfold Oper.wp
    rw [r1]
    exact hK undef undef w1 μ1 rfl r2 ((A.mono r2).put (VR.undef μ1) o.dst) r3
  · rename_i g args Vx hex
    obtain ⟨n', w1, μ1, r1, r2, r3, r4⟩ := execV_sound ok R A.ev hex
    split at h
    case h_2 => cases h
    rename_i fn hfn
    split at h
    case h_2 => cases h
    rename_i fe hfe
    split at h
    case h_2 => cases h
    rename_i v W hrun
    cases h
    cases r4 with
    | enter _ hargs =>
      rename_i args'
      have hcall := hsub g fn fe args args' Vx w1 μ1 B v V1 hfn hfe hrun r3 hargs
      unfold Oper.wp
      rw [r1]
      show Calls P g ⟨args'⟩ w1 _
      refine hcall.mono fun e w2 ⟨v', μ2, he, e2, R2, hv⟩ => ?_
      subst he
      exact hK v v' w2 μ2 rfl (r2.trans e2) ((A.mono (r2.trans e2)).put hv o.dst) R2
  · cases h

theorem greedyX0_same {sub : VM → VS} : ∀ {n : Nat} {I : Option (Nat × Oper × Pay)} {s : Array Bool} {f f' : VF} {V V' : VW} {D D' : List DE} {H : List VW}, greedyX0 P vp sub ro ops n I s f V D H = some (f', V', D') → SameF f f'
  | 0, _, _, _, _, _, _, _, _, _, h => by cases h
  | n + 1, I, s, f, f', V, V', D, D', H, h => by
    simp only [greedyX0] at h
    split at h
    · cases h; exact SameF.refl _
    split at h
    · exact (greedyX0_same h).of_tm
    split at h
    · exact (greedyX0_same h).of_tm
    split at h
    · split at h
      case h_2 => cases h
      exact (greedyX0_same h).of_tm
    split at h
    · split at h
      case h_2 => cases h
      split at h
      case h_2 => cases h
      rename_i hdo
      split at h
      · exact (doX_same hdo).trans (greedyX0_same h)
      · split at h
        case h_2 => cases h
        split at h
        case h_2 => cases h
        rename_i hge
        cases h
        exact (doX_same hdo).trans (greedyE0_same hge)
    · split at h
      case h_2 => cases h
      rename_i j o p hpb
      have hs := greedyX0_same h
      refine SameF.trans ?_ hs
      unfold VF.drop
      split <;> exact SameF.refl _

theorem greedyX0_mem {sub : VM → VS} : ∀ {n : Nat} {I : Option (Nat × Oper × Pay)} {s : Array Bool} {f f' : VF} {V V' : VW} {D D' : List DE} {H : List VW}, greedyX0 P vp sub ro ops n I s f V D H = some (f', V', D') → ∀ e ∈ D, e ∈ D'
  | 0, _, _, _, _, _, _, _, _, _, h, _, _ => by cases h
  | n + 1, I, s, f, f', V, V', D, D', H, h, e, he => by
    simp only [greedyX0] at h
    split at h
    · cases h; exact he
    split at h
    · exact greedyX0_mem h e he
    split at h
    · exact greedyX0_mem h e (.tail _ he)
    split at h
    · split at h
      case h_2 => cases h
      exact greedyX0_mem h e he
    split at h
    · split at h
      case h_2 => cases h
      split at h
      case h_2 => cases h
      split at h
      · exact greedyX0_mem h e he
      · split at h
        case h_2 => cases h
        split at h
        case h_2 => cases h
        cases h
        exact he
    · split at h
      case h_2 => cases h
      exact greedyX0_mem h e he

/-- What is in the list at the end stayed all the while. -/
theorem greedyX0_keeps {sub : VM → VS} : ∀ {n : Nat} {I : Option (Nat × Oper × Pay)} {s : Array Bool} {f f' : VF} {V V' : VW} {D D' : List DE} {H : List VW}, greedyX0 P vp sub ro ops n I s f V D H = some (f', V', D') →
    (∀ x ∈ V :: H, ∀ e ∈ D, keepsE vp e x = true) → (∀ x ∈ V :: H, ∀ e ∈ D', keepsE vp e x = true)
  | 0, _, _, _, _, _, _, _, _, _, h, _ => by cases h
  | n + 1, I, s, f, f', V, V', D, D', H, h, hk => by
    simp only [greedyX0] at h
    split at h
    · cases h; exact hk
    split at h
    · exact greedyX0_keeps h hk
    split at h
    · rename_i j o e v hp
      refine greedyX0_keeps h fun x hx e' he' => ?_
      cases he' with
      | head =>
        unfold pickY0 at hp
        split at hp
        · cases hp
        · exact keepsH_mem (pickX0_some hp).2.2.2.2.2 x hx
      | tail _ he' => exact hk x hx e' he'
    split at h
    · split at h
      case h_2 => cases h
      rename_i hkx
      have := greedyX0_keeps h (fun x hx e he => by
        cases hx with
        | head => exact keepsX_mem hkx e he
        | tail _ hx => exact hk x hx e he)
      exact fun x hx e he => this x (.tail _ hx) e he
    split at h
    · split at h
      case h_2 => cases h
      split at h
      case h_2 => cases h
      split at h
      · rename_i hkx
        have := greedyX0_keeps h (fun x hx e he => by
          cases hx with
          | head => exact keepsX_mem hkx e he
          | tail _ hx => exact hk x hx e he)
        exact fun x hx e he => this x (.tail _ hx) e he
      · split at h
        case h_2 => cases h
        split at h
        case h_2 => cases h
        cases h
        exact hk
    · split at h
      case h_2 => cases h
      exact greedyX0_keeps h hk
end
end Go.Wvm
