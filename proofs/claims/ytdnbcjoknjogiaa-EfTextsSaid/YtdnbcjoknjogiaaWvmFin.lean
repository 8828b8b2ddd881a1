/- A run of the small machine tells a call of the model. -/
import Derived.Test.YtdnbcjoknjogiaaWvmEnd
set_option linter.unusedSimpArgs false
set_option linter.unusedVariables false
namespace Go.Wvm
open Go.RowKit

section
variable {P : Program} {vp : VP} {ro : Nat} {w0 : World}

theorem moves_one {μ μ' : Mu} {F : Frame} {Fs : List Frame} {w w' : World} {bottom : List Frame} {m' : VM} {a' : Act} {Fs' : List Frame} (h : step P (lone F (Fs ++ bottom) w) = .next (lone (mkF m'.fr a') (Fs' ++ bottom) w')) (e : Ext μ μ') (A : AR μ' m'.fr a') (C : CsR μ' m'.cs Fs') (R : Rel μ' ro w0 m'.w w') :
    Moves P μ ro w0 F Fs w bottom m' := ⟨a', Fs', w', μ', .one h, e, A, C, R⟩

/-- **A step.** -/
theorem stepV_sound (ok : VPok P vp) {μ : Mu} {f : VF} {cs : List VF} {V : VW} {a : Act} {Fs : List Frame} {w : World} (A : AR μ f a) (C : CsR μ cs Fs) (R : Rel μ ro w0 V w) {m' : VM} (h : stepV P vp ro { fr := f, cs, w := V } = .next m') (bottom : List Frame) :
    Moves P μ ro w0 (mkF f a) Fs w bottom m' ∧ bot m'.fr.fn m'.cs = bot f.fn cs := by
  unfold stepV at h
  simp only at h
  split at h
  · -- it returns
    rename_i hret
    have hmode : (mkF f a).mode = .returning := by unfold mkF; rw [hret]; rfl
    split at h
    · rename_i hdef
      have hd : a.defers = [] := by have := A.defers; rw [hdef] at this; generalize a.defers = q at this; cases this; rfl
      split at h
      · cases h
      rename_i fn hfn
      obtain ⟨hf, _, _⟩ := fn_facts ok hfn
      split at h
      · cases h
      rename_i v hres
      obtain ⟨v', r1, r2⟩ := results_sound ok R A hres
      split at h
      · split at h <;> cases h
      rename_i c rest
      cases C with
      | cons hc hrest =>
        rename_i ac Fr
        split at h
        · -- of a call
          rename_i hk
          split at h
          case h_2 => cases h
          rename_i c' hcr hfin
          simp only [VS.next.injEq] at h
          subst h
          obtain ⟨a', g1, g2, g3⟩ := finish_sound hc r2 hcr hfin
          have hleave : (mkF f a).leaving P w (.returned v') := ⟨hmode, hd, hk, fn, hf, r1⟩
          have hs := step_leave_returned (c := mkF c ac) (cs := Fr ++ bottom) hleave
          rw [g1] at hs
          exact ⟨moves_one hs (Ext.refl _) g2 hrest R, by show bot c'.fn rest = bot c.fn rest; rw [g3]⟩
        · -- of a deferred one
          rename_i hk
          split at h
          case h_2 => cases h
          rename_i hcr
          simp only [VS.next.injEq] at h
          subst h
          have hgo : (mkF f a).going P w (.returned v') := ⟨hmode, hd, fn, hf, r1⟩
          have hs := step_going_returned (c := mkF c ac) (cs := Fr ++ bottom) hk hgo
          have hset : ({ mkF c ac with mode := settle (mkF c ac).mode } : Frame) = mkF c ac := by
            have : (mkF c ac).mode = .returning := by unfold mkF; rw [hcr]; rfl
            rw [this]
            show ({ mkF c ac with mode := .returning } : Frame) = _
            rw [← this]
          rw [hset] at hs
          exact ⟨moves_one hs (Ext.refl _) hc hrest R, rfl⟩
        · cases h
    · -- a deferred call
      rename_i d ds hdef
      have hD := A.defers
      rw [hdef] at hD
      generalize had : a.defers = ad at hD
      cases hD with
      | cons g hcc haa ht =>
        rename_i c c' x x' l'
        simp only at h
        split at h
        case h_2 => cases h
        rename_i fn hfn
        split at h
        case h_2 => cases h
        rename_i fe hfe
        simp only [VS.next.injEq] at h
        subst h
        obtain ⟨hf, _, _⟩ := fn_facts ok hfn
        obtain ⟨a', g1, g2, g3, g4⟩ := enter_sound hf (haa.append hcc) hfe
        have hi : (invoke (.fn (.func g) ⟨c'⟩) ⟨x'⟩).run P w = .ok (.enter g ⟨x' ++ c'⟩) w := by
          have : (Array.mk x' ++ Array.mk c') = ⟨x' ++ c'⟩ := by apply Array.ext'; simp
          simp only [invoke, this, callFunc_run ok hfn]
        have hs := step_defer (fr := mkF f a) (cs := Fs ++ bottom) (ds := l') (by rw [hmode]; simp) had rfl hi
        rw [g1] at hs
        have hfr : ({ mkF f a with defers := l' } : Frame) = mkF { f with defers := ds } { a with defers := l' } := rfl
        rw [hfr] at hs
        have A2 : AR μ { f with defers := ds } { a with defers := l' } := ⟨A.size, A.tmp, A.non, ht⟩
        exact ⟨moves_one (Fs' := mkF { f with defers := ds } { a with defers := l' } :: Fs) hs (Ext.refl _) g2 (.cons A2 C) R, rfl⟩
  · -- it goes on
    rename_i hret
    have hF : mkF f a = (base f).at a f.todo := mkF_run a hret
    have to : ∀ (k : List Item), AR μ { f with todo := k } a := fun k => ⟨A.size, A.tmp, A.non, A.defers⟩
    have mk : ∀ (k : List Item), mkF { f with todo := k } a = (base f).at a k := fun k => mkF_run (f := { f with todo := k }) a hret
    rw [hF]
    split at h
    · -- the end
      rename_i htodo
      simp only [VS.next.injEq] at h
      subst h
      rw [htodo]
      refine ⟨moves_one (a' := a) (Fs' := Fs) ?_ (Ext.refl _) ⟨A.size, A.tmp, A.non, A.defers⟩ C R, rfl⟩
      rw [step_end]
      unfold mkF Frame.at base
      simp [htodo]
    · rename_i htodo
      simp only [VS.next.injEq] at h
      subst h
      rw [htodo]
      refine ⟨moves_one (a' := a) (Fs' := Fs) ?_ (Ext.refl _) ⟨A.size, A.tmp, A.non, A.defers⟩ C R, rfl⟩
      rw [step_ret]
      unfold mkF Frame.at base
      simp [htodo]
    · rename_i k htodo
      simp only [VS.next.injEq] at h
      subst h
      rw [htodo]
      exact ⟨moves_one (a' := a) (Fs' := Fs) (by rw [mk]; exact step_skip) (Ext.refl _) (to _) C R, rfl⟩
    · rename_i k htodo
      simp only [VS.next.injEq] at h
      subst h
      rw [htodo]
      exact ⟨moves_one (a' := a) (Fs' := Fs) (by rw [mk]; exact step_label) (Ext.refl _) (to _) C R, rfl⟩
    · rename_i k htodo
      simp only [VS.next.injEq] at h
      subst h
      rw [htodo]
      exact ⟨moves_one (a' := a) (Fs' := Fs) (by rw [mk]; exact step_inBlock) (Ext.refl _) (to _) C R, rfl⟩
    · rename_i k htodo
      simp only [VS.next.injEq] at h
      subst h
      rw [htodo]
      refine ⟨moves_one (a' := a) (Fs' := Fs) (by rw [mk]; exact step_lone_go (by simp [stepG, stepG.exec, Frame.at])) (Ext.refl _) (to _) C R, rfl⟩
    · rename_i x y k htodo
      simp only [VS.next.injEq] at h
      subst h
      rw [htodo]
      exact ⟨moves_one (a' := a) (Fs' := Fs) (by rw [mk]; exact step_seq) (Ext.refl _) (to _) C R, rfl⟩
    · rename_i c x y k htodo
      rw [htodo]
      split at h
      · rename_i hc
        simp only [VS.next.injEq] at h
        subst h
        have hc := VR.bool_inv (A.ev _ _ hc)
        exact ⟨moves_one (a' := a) (Fs' := Fs) (by rw [mk]; have := step_cond (P := P) (b := base f) (k := k) (cs := Fs ++ bottom) (w := w) (x := x) (y := y) hc; simpa using this) (Ext.refl _) (to _) C R, rfl⟩
      · rename_i hc
        simp only [VS.next.injEq] at h
        subst h
        have hc := VR.bool_inv (A.ev _ _ hc)
        exact ⟨moves_one (a' := a) (Fs' := Fs) (by rw [mk]; have := step_cond (P := P) (b := base f) (k := k) (cs := Fs ++ bottom) (w := w) (x := x) (y := y) hc; simpa using this) (Ext.refl _) (to _) C R, rfl⟩
      · cases h
    · rename_i id c k htodo
      simp only [VS.next.injEq] at h
      subst h
      rw [htodo]
      exact ⟨moves_one (a' := a) (Fs' := Fs) (by rw [mk]; exact step_block) (Ext.refl _) (to _) C R, rfl⟩
    · rename_i c k htodo
      simp only [VS.next.injEq] at h
      subst h
      rw [htodo]
      exact ⟨moves_one (a' := a) (Fs' := Fs) (by rw [mk]; exact step_loop) (Ext.refl _) (to _) C R, rfl⟩
    · rename_i c k htodo
      simp only [VS.next.injEq] at h
      subst h
      rw [htodo]
      exact ⟨moves_one (a' := a) (Fs' := Fs) (by rw [mk]; exact step_inLoop) (Ext.refl _) (to _) C R, rfl⟩
    · rename_i c k htodo
      simp only [VS.next.injEq] at h
      subst h
      rw [htodo]
      refine ⟨moves_one (a' := a) (Fs' := Fs) (by rw [mk]; exact step_lone_go (by simp [stepG, stepG.exec, Frame.at])) (Ext.refl _) (to _) C R, rfl⟩
    · rename_i id k htodo
      rw [htodo]
      split at h
      case h_2 => cases h
      rename_i k' hk
      simp only [VS.next.injEq] at h
      subst h
      exact ⟨moves_one (a' := a) (Fs' := Fs) (by rw [mk]; exact step_exit hk) (Ext.refl _) (to _) C R, rfl⟩
    · rename_i l k htodo
      rw [htodo]
      split at h
      case h_2 => cases h
      rename_i k' hk
      simp only [VS.next.injEq] at h
      subst h
      exact ⟨moves_one (a' := a) (Fs' := Fs) (by rw [mk]; exact step_goto hk) (Ext.refl _) (to _) C R, rfl⟩
    · rename_i id ops draw k htodo
      rw [htodo]
      split at h
      case h_2 => cases h
      simp only [VS.next.injEq] at h
      subst h
      have hrange : rangeL ops.toList.length 0 = List.range ops.size := by rw [rangeL_eq, List.range_eq_range']; rfl
      exact ⟨moves_one (a' := a) (Fs' := Fs) (by rw [mk, hrange]; exact step_region) (Ext.refl _) (to _) C R, rfl⟩
    · rename_i ops k htodo
      simp only [VS.next.injEq] at h
      subst h
      rw [htodo]
      exact ⟨moves_one (a' := a) (Fs' := Fs) (by rw [mk]; exact step_region_end) (Ext.refl _) (to _) C R, rfl⟩
    · rename_i ops i rest k htodo
      rw [htodo]
      split at h
      · cases h
      rename_i o ho
      have ho' : ops[i]? = some o := by rw [← Array.getElem?_toList]; exact ho
      have hw := wanted_sound A o ops
      split at h
      · rename_i hwant
        simp only [VS.next.injEq] at h
        subst h
        rw [hwant] at hw
        have A' := A.put (VR.undef μ) o.dst
        refine ⟨moves_one (a' := a.put o.dst undef) (Fs' := Fs) ?_ (Ext.refl _) ⟨A'.size, A'.tmp, A'.non, A'.defers⟩ C R, rfl⟩
        rw [mkF_run _ (show ({ f with tm := f.put o.dst undef, todo := .inRegion ops rest :: k } : VF).ret = false from hret)]
        have hs := step_op_skip (P := P) (b := base f) (a := a) (k := k) (cs := Fs ++ bottom) (w := w) (ops := ops) (i := i) (rest := rest) (by rw [ho']; simpa using hw)
        rw [ho'] at hs
        exact hs
      · rename_i hwant
        rw [hwant] at hw
        split at h
        · cases h
        · rename_i v V1 hex
          simp only [VS.next.injEq] at h
          subst h
          obtain ⟨n', w1, μ1, r1, r2, r3, r4⟩ := execV_sound ok R A.ev hex
          cases r4 with
          | value hv =>
            have A' := (A.mono r2).put hv o.dst
            refine ⟨moves_one (Fs' := Fs) ?_ r2 ⟨A'.size, A'.tmp, A'.non, A'.defers⟩ (C.mono r2) r3, rfl⟩
            rw [mkF_run _ (show ({ f with tm := f.put o.dst v, todo := .inRegion ops rest :: k } : VF).ret = false from hret)]
            exact step_value ho' hw r1
        · rename_i V1 hex
          simp only [VS.next.injEq] at h
          subst h
          obtain ⟨n', w1, μ1, r1, r2, r3, r4⟩ := execV_sound ok R A.ev hex
          cases r4
          have A' := (A.mono r2).put (VR.undef μ1) o.dst
          refine ⟨moves_one (Fs' := Fs) ?_ r2 ⟨A'.size, A'.tmp, A'.non, A'.defers⟩ (C.mono r2) r3, rfl⟩
          rw [mkF_run _ (show ({ f with tm := f.put o.dst undef, todo := .inRegion ops rest :: k } : VF).ret = false from hret)]
          exact step_skipped ho' hw r1
        · rename_i d V1 hex
          simp only [VS.next.injEq] at h
          subst h
          obtain ⟨n', w1, μ1, r1, r2, r3, r4⟩ := execV_sound ok R A.ev hex
          cases r4 with
          | defer g hc ha =>
            rename_i c c' x x'
            have A1 : AR μ1 { f with defers := { target := .fn (.func g) ⟨c⟩, args := ⟨x⟩ } :: f.defers } { a with defers := { target := .fn (.func g) ⟨c'⟩, args := ⟨x'⟩ } :: a.defers } :=
              ⟨A.size, (A.mono r2).tmp, A.non, .cons g hc ha (A.mono r2).defers⟩
            have A' := A1.put (VR.undef μ1) o.dst
            refine ⟨moves_one (Fs' := Fs) ?_ r2 ⟨A'.size, A'.tmp, A'.non, A'.defers⟩ (C.mono r2) r3, rfl⟩
            rw [mkF_run _ (show ({ f with tm := f.put o.dst undef, todo := .inRegion ops rest :: k, defers := { target := .fn (.func g) ⟨c⟩, args := ⟨x⟩ } :: f.defers } : VF).ret = false from hret)]
            exact step_deferred ho' hw r1
        · rename_i g args V1 hex
          split at h
          case h_2 => cases h
          rename_i fn hfn
          split at h
          case h_2 => cases h
          rename_i fe hfe
          simp only [VS.next.injEq] at h
          subst h
          obtain ⟨n', w1, μ1, r1, r2, r3, r4⟩ := execV_sound ok R A.ev hex
          cases r4 with
          | enter _ hargs =>
            rename_i args'
            obtain ⟨hf, _, _⟩ := fn_facts ok hfn
            obtain ⟨a', g1, g2, g3, g4⟩ := enter_sound hf hargs hfe
            have hs := step_entered (P := P) (b := base f) (k := k) (cs := Fs ++ bottom) (rest := rest) ho' hw r1
            rw [g1] at hs
            have hFF : (base f).at a (.inRegion ops (i :: rest) :: k) = mkF f a := by rw [hF, htodo]
            rw [hFF] at hs ⊢
            exact ⟨moves_one (Fs' := mkF f a :: Fs) hs r2 g2 (.cons (A.mono r2) (C.mono r2)) r3, rfl⟩
        · rename_i V1 hex
          split at h
          case h_2 => cases h
          rename_i hcan
          simp only [VS.next.injEq] at h
          subst h
          obtain ⟨n', w1, μ1, r1, r2, r3, r4⟩ := execV_sound ok R A.ev hex
          cases r4
          have A' := (A.mono r2).put (VR.nili (μ := μ1)) o.dst
          refine ⟨moves_one (Fs' := Fs) ?_ r2 ⟨A'.size, A'.tmp, A'.non, A'.defers⟩ (C.mono r2) r3, rfl⟩
          rw [mkF_run _ (show ({ f with tm := f.put o.dst .nilIface, todo := .inRegion ops rest :: k } : VF).ret = false from hret)]
          refine step_recovered ho' hw r1 ?_
          have hk : ((base f).at a (.inRegion ops (i :: rest) :: k)).kind = f.kind := rfl
          unfold tryRecover
          rw [hk]
          cases hkind : f.kind with
          | deferred =>
            rw [hkind] at hcan
            cases C with
            | nil => simp at hcan
            | cons hc hrest =>
              rename_i c ac fs Fr
              simp only at hcan
              have hmode : (mkF c ac).mode = .returning := by unfold mkF; rw [hcan]; rfl
              simp [hmode]
          | normal => rfl
          | _ => simp [hkind] at hcan
    · cases h

/-- **The end of a run.** -/
theorem over_sound (ok : VPok P vp) {μ : Mu} {f : VF} {cs : List VF} {V W : VW} {a : Act} {w : World} {v : Value} (A : AR μ f a) (R : Rel μ ro w0 V w) (h : stepV P vp ro { fr := f, cs, w := V } = .over v W) :
    cs = [] ∧ W = V ∧ ∃ v', (mkF f a).leaving P w (.returned v') ∧ VR μ v v' := by
  unfold stepV at h
  simp only at h
  split at h
  · rename_i hret
    have hmode : (mkF f a).mode = .returning := by unfold mkF; rw [hret]; rfl
    split at h
    · rename_i hdef
      have hd : a.defers = [] := by have := A.defers; rw [hdef] at this; generalize a.defers = q at this; cases this; rfl
      split at h
      · cases h
      rename_i fn hfn
      obtain ⟨hf, _, _⟩ := fn_facts ok hfn
      split at h
      · cases h
      rename_i u hres
      obtain ⟨v', r1, r2⟩ := results_sound ok R A hres
      split at h
      · split at h
        · rename_i hk
          simp only [VS.over.injEq] at h
          obtain ⟨rfl, rfl⟩ := h
          exact ⟨rfl, rfl, v', ⟨hmode, hd, hk, fn, hf, r1⟩, r2⟩
        · cases h
      · repeat' (first | (cases h; done) | split at h)
    · repeat' (first | (cases h; done) | split at h)
  · repeat' (first | (cases h; done) | split at h)

theorem runV_sound (ok : VPok P vp) (hm : P.follows .mixedOrders = true) : ∀ (n ro : Nat) (w0 : World) (f : VF) (cs : List VF) (V W : VW) (v : Value) (μ : Mu) (a : Act) (Fs : List Frame) (w : World), AR μ f a → CsR μ cs Fs → Rel μ ro w0 V w →
    runV P vp n ro { fr := f, cs, w := V } = .over v W → ∀ bottom, ∃ v' μ' w' F, Steps P (lone (mkF f a) (Fs ++ bottom) w) (lone F bottom w') ∧ F.fn = bot f.fn cs ∧ F.leaving P w' (.returned v') ∧ Ext μ μ' ∧ Rel μ' ro w0 W w' ∧ VR μ' v v'
  | 0, _, _, _, _, _, _, _, _, _, _, _, _, _, _, h => by cases h
  | n + 1, ro, w0, f, cs, V, W, v, μ, a, Fs, w, A, C, R, h => by
    intro bottom
    have subOk : ∀ ro, SubOk P vp ro (runV P vp n ro) := by
      intro ro g fn f' args args' V w μ w0 v W hfn hfe hrun R hl bottom
      obtain ⟨hf, _, _⟩ := fn_facts ok hfn
      obtain ⟨a', g1, g2, g3, g4⟩ := enter_sound hf hl hfe
      obtain ⟨v', μ', w', F, h1, h2, h3, h4, h5, h6⟩ := runV_sound ok hm n ro w0 f' [] V W v μ a' [] w g2 .nil R hrun bottom
      refine ⟨.returned v', w', F, ⟨v', μ', rfl, h4, h5, h6⟩, ?_, h2.trans g3, h3⟩
      show Steps P _ _
      rw [g1]; exact h1
    have plain : ∀ s, stepV P vp ro { fr := f, cs, w := V } = s → (match s with | .next m' => runV P vp n ro m' | s => s) = .over v W → ∃ v' μ' w' F, Steps P (lone (mkF f a) (Fs ++ bottom) w) (lone F bottom w') ∧ F.fn = bot f.fn cs ∧ F.leaving P w' (.returned v') ∧ Ext μ μ' ∧ Rel μ' ro w0 W w' ∧ VR μ' v v' := by
      intro s hs hr
      cases s with
      | next m' =>
        obtain ⟨⟨a', Fs', w1, μ1, h1, h2, h3, h4, h5⟩, hb⟩ := stepV_sound ok A C R hs bottom
        obtain ⟨f1, cs1, V1⟩ := m'
        obtain ⟨v', μ', w', F, k1, k2, k3, k4, k5, k6⟩ := runV_sound ok hm n ro w0 f1 cs1 V1 W v μ1 a' Fs' w1 h3 h4 h5 hr bottom
        exact ⟨v', μ', w', F, h1.trans k1, k2.trans hb, k3, h2.trans k4, k5, k6⟩
      | over u U =>
        simp only [VS.over.injEq] at hr
        obtain ⟨rfl, rfl⟩ := hr
        obtain ⟨rfl, rfl, v', h1, h2⟩ := over_sound ok A R hs
        cases C
        exact ⟨v', μ, w, mkF f a, Steps.refl _ _, rfl, h1, Ext.refl _, R, h2⟩
      | stop q => cases hr
    unfold runV at h
    simp only at h
    split at h
    · rename_i id ops k hret htodo
      split at h
      case h_2 => cases h
      rename_i f1 V1 hd
      obtain ⟨⟨q1, q2, q3, q4, q5, q6⟩, hwp⟩ := drawV_sound (id := id) ok hm R (subOk V.next) (subOk ro) A hd
      have hsm : ({ f with tm := f1.tm, todo := k } : VF) = { f1 with todo := k } := by
        obtain ⟨a1, a2, a3, a4, a5, a6, a7⟩ := f
        obtain ⟨b1, b2, b3, b4, b5, b6, b7⟩ := f1
        simp only at q1 q2 q3 q4 q5 q6
        subst q1; subst q2; subst q4; subst q5; subst q6
        rfl
      rw [hsm] at h
      obtain ⟨e, a', w1, ⟨rfl, μ1, e1, A1, R1⟩, harr⟩ := hwp (base f) k (Fs ++ bottom)
      have harr : Steps P (lone ((base f).at a (.code (.region id ops true) :: k)) (Fs ++ bottom) w) (lone ((base f).at a' k) (Fs ++ bottom) w1) := harr
      have A2 : AR μ1 { f1 with todo := k } a' := ⟨A1.size, A1.tmp, A1.non, A1.defers⟩
      obtain ⟨v', μ', w', F, k1, k2, k3, k4, k5, k6⟩ := runV_sound ok hm n ro w0 { f1 with todo := k } cs V1 W v μ1 a' Fs w1 A2 (C.mono e1) R1 h bottom
      have hstart : mkF f a = (base f).at a (.code (.region id ops true) :: k) := by rw [mkF_run _ hret, htodo]
      have hend : mkF { f1 with todo := k } a' = (base f).at a' k := by
        rw [mkF_run _ (show ({ f1 with todo := k } : VF).ret = false from q5.trans hret)]
        unfold base Frame.at
        simp only [q1, q6]
      rw [hend] at k1
      rw [hstart]
      refine ⟨v', μ', w', F, harr.trans k1, k2.trans ?_, k3, e1.trans k4, k5, k6⟩
      show bot f1.fn cs = bot f.fn cs
      rw [q1]
    · exact plain _ rfl h

/-- What is known of the package-level variables. -/
def GlobOk (gl : Tr (List Value)) (w : World) : Prop := ∀ g l, gl.get g = some l → (∀ v ∈ l, flat 10 v = true) ∧ ∃ e fz, w.heap[g]? = some (.cells ⟨l⟩ e fz)

/-- **A run of the small machine without arguments tells a call of the model**, in whatever world in which the package-level variables hold what is known of them. -/
theorem yesG_sound (ok : VPok P vp) (hm : P.follows .mixedOrders = true) {gl : Tr (List Value)} {fuel f : Nat} (h : yesG P vp gl 0 fuel f = true) (w : World) (hG : GlobOk gl w) :
    Calls P f #[] w fun e w' => e = .returned (.bool true) ∧ Below w.heap.size w w' := by
  unfold yesG startV at h
  split at h
  case h_2 => cases h
  rename_i m hmm
  split at hmm
  case h_2 => cases hmm
  rename_i fn hfn
  split at hmm
  case h_2 => cases hmm
  rename_i f' hfe
  simp only [Option.some.injEq] at hmm
  subst hmm
  split at h
  case h_2 => cases h
  rename_i W hrun
  rw [runF_eq] at hrun
  obtain ⟨hf, _, _⟩ := fn_facts ok hfn
  have R : Rel (fun _ => none) 0 w { next := 0, heap := .nil, gl } w :=
    { below := Below.refl _ _
      fresh := fun b _ => ⟨rfl, Tr.get_nil b⟩
      obj := fun b o hb => by rw [show ({ next := 0, heap := .nil, gl } : VW).heap.get b = none from Tr.get_nil b] at hb; cases hb
      inj := fun b b' L L' o o' _ hb => by rw [show ({ next := 0, heap := .nil, gl } : VW).heap.get b = none from Tr.get_nil b] at hb; cases hb
      new := fun b L _ hm => by cases hm
      tot := fun b hb => absurd hb (Nat.not_lt_zero b)
      ron := Nat.le_refl _
      glob := fun g l hl => by
        obtain ⟨h2, e, fz, h3⟩ := hG g l hl
        exact ⟨heap_lt h3, h2, e, fz, h3⟩ }
  obtain ⟨a', g1, g2, g3, g4⟩ := enter_sound hf (μ := fun _ => none) .nil hfe
  intro bottom
  obtain ⟨v', μ', w', F, h1, h2, h3, h4, h5, h6⟩ := runV_sound ok hm fuel 0 w f' [] _ W _ _ a' [] w g2 .nil R hrun bottom
  rw [VR.bool_inv h6] at h3
  refine ⟨.returned (.bool true), w', F, ⟨rfl, h5.below⟩, ?_, h2.trans g3, h3⟩
  show Steps P _ _
  rw [show (#[] : Array Value) = ⟨[]⟩ from rfl, g1]; exact h1

/-- .. whatever the world. -/
theorem yes_sound (ok : VPok P vp) (hm : P.follows .mixedOrders = true) {fuel f : Nat} (h : yes P vp 0 fuel f = true) (w : World) :
    Calls P f #[] w fun e w' => e = .returned (.bool true) ∧ Below w.heap.size w w' :=
  yesG_sound ok hm h w fun g l hl => by rw [Tr.get_nil] at hl; cases hl

end
end Go.Wvm
