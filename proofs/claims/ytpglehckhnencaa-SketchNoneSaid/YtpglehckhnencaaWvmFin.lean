/- A run of the small machine tells a call of the model. -/
import Derived.Test.YtpglehckhnencaaWvmEnd
set_option linter.unusedSimpArgs false
set_option linter.unusedVariables false
namespace Go.Wvm
open Go.RowKit

section
variable {P : Program} {vp : VP} {ro : Nat} {w0 : World}

theorem moves_one {μ μ' : Mu} {F : Frame} {Fs : List Frame} {w w' : World} {bottom : List Frame} {m' : VM} {a' : Act} {r' : Option Nat} {Fs' : List Frame} (h : step P (lone F (Fs ++ bottom) w) = .next (lone (mkF m'.fr a' r') (Fs' ++ bottom) w')) (e : Ext μ μ') (A : AR μ' m'.fr a') (hr : RdR μ' m'.fr.rd r') (C : CsR μ' m'.cs Fs') (R : Rel μ' ro w0 m'.w w') :
    Moves P μ ro w0 F Fs w bottom m' := ⟨a', Fs', w', μ', r', .one h, e, A, hr, C, R⟩

/-- A round is left. -/
theorem leave_sound (ok : VPok P vp) {μ : Mu} {f : VF} {cs : List VF} {V : VW} {Fs : List Frame} {w : World} {r : Option Nat} {b : Nat} (hrd : f.rd = some b) (hr : RdR μ f.rd r) (C : CsR μ cs Fs) (R : Rel μ ro w0 V w) {m' : VM} {jump : Option Code} (h : leaveV ro b jump f cs V = .next m') (bottom : List Frame) (F : Frame)
    (hs : ∀ {l : Nat} {c : Frame} {cs' : List Frame} {v : Value} {w' : World}, r = some l → f.kind = .normal → (Instr.endRound l jump).run P w = .ok v w' → step P (lone F (c :: cs') w) = .next (lone (c.finish v) cs' w')) :
    Moves P μ ro w0 F Fs w bottom m' ∧ bot m'.fr.fn m'.cs = bot f.fn cs := by
  rw [hrd] at hr
  obtain ⟨L, hL, h0, rfl⟩ := hr.some_inv
  unfold leaveV at h
  split at h
  case h_2 => cases h
  rename_i l c rest hk hg hro
  have hro := Nat.le_of_ble_eq_true hro
  split at h
  case h_2 => cases h
  rename_i c' hcr hfin
  simp only [VS.next.injEq] at h
  subst h
  obtain ⟨L', O, k1, k2, k3⟩ := R.obj _ _ hg
  rw [hL] at k1; cases k1
  obtain ⟨_, Q, rfl, q1, q2, q3, q4, q5, q6, q7⟩ := k3
  have hend := run_endRound (P := P) (w := w) jump k2
  cases C with
  | cons hc hrc hrest =>
    rename_i ac rc Fr
    obtain ⟨a', g1, g2, g3, g4⟩ := finish_sound hc (.bool jump.isNone) hcr hfin (r := rc)
    have h1 := hs (c := mkF c ac rc) (cs' := Fr ++ bottom) rfl hk hend
    rw [g1] at h1
    have hlt := heap_lt k2
    have R' : Rel μ ro w0 { V with heap := V.heap.set b (.loop { l with state := (if jump.isNone then .ready else .done), pending := jump }) } (w.putObj L.blk (.loop { Q with state := if jump.isNone then .ready else .done, pending := jump })) :=
      R.change (O' := .loop { Q with state := if jump.isNone then .ready else .done, pending := jump }) hro hg hL (World.putObj_size ..) (World.putObj_heap_same hlt) (fun k hk => World.putObj_heap_other hk) ⟨h0, _, rfl, rfl, rfl, q3, q4, q5, q6, q7⟩
    exact ⟨moves_one h1 (Ext.refl _) g2 (by rw [g4]; exact hrc) hrest R', by show bot c'.fn rest = bot c.fn rest; rw [g3]⟩

/-- **A step.** -/
theorem stepV_sound (ok : VPok P vp) {μ : Mu} {f : VF} {cs : List VF} {V : VW} {a : Act} {r : Option Nat} {Fs : List Frame} {w : World} (A : AR μ f a) (hr : RdR μ f.rd r) (C : CsR μ cs Fs) (R : Rel μ ro w0 V w) {m' : VM} (h : stepV P vp ro { fr := f, cs, w := V } = .next m') (bottom : List Frame) :
    Moves P μ ro w0 (mkF f a r) Fs w bottom m' ∧ bot m'.fr.fn m'.cs = bot f.fn cs := by
  unfold stepV at h
  simp only at h
  split at h
  · -- it returns
    rename_i hret
    have hmode : (mkF f a r).mode = .returning := by unfold mkF; rw [hret]; rfl
    split at h
    · rename_i hdef
      have hd : a.defers = [] := by have := A.defers; rw [hdef] at this; generalize a.defers = q at this; cases this; rfl
      split at h
      · cases h
      rename_i fn hfn
      obtain ⟨hf, _, _⟩ := fn_facts ok hfn
      split at h
      · cases h
      rename_i v hres
      obtain ⟨v', r1, r2⟩ := results_sound ok R A hres
      split at h
      · split at h <;> cases h
      rename_i c rest
      cases C with
      | cons hc hrc hrest =>
        rename_i ac rc Fr
        split at h
        · -- of a call
          rename_i hk
          split at h
          case h_2 => cases h
          rename_i c' hcr hfin
          simp only [VS.next.injEq] at h
          subst h
          obtain ⟨a', g1, g2, g3, g4⟩ := finish_sound hc r2 hcr hfin (r := rc)
          have hleave : (mkF f a r).leaving P w (.returned v') := ⟨hmode, hd, hk, fn, hf, r1⟩
          have hs := step_leave_returned (c := mkF c ac rc) (cs := Fr ++ bottom) hleave
          rw [g1] at hs
          exact ⟨moves_one hs (Ext.refl _) g2 (by rw [g4]; exact hrc) hrest R, by show bot c'.fn rest = bot c.fn rest; rw [g3]⟩
        · -- of a deferred one
          rename_i hk
          split at h
          case h_2 => cases h
          rename_i hcr
          simp only [VS.next.injEq] at h
          subst h
          have hgo : (mkF f a r).going P w (.returned v') := ⟨hmode, hd, fn, hf, r1⟩
          have hs := step_going_returned (c := mkF c ac rc) (cs := Fr ++ bottom) hk hgo
          have hset : ({ mkF c ac rc with mode := settle (mkF c ac rc).mode } : Frame) = mkF c ac rc := by
            have : (mkF c ac rc).mode = .returning := by unfold mkF; rw [hcr]; rfl
            rw [this]
            show ({ mkF c ac rc with mode := .returning } : Frame) = _
            rw [← this]
          rw [hset] at hs
          exact ⟨moves_one hs (Ext.refl _) hc hrc hrest R, rfl⟩
        · cases h
    · -- a deferred call
      rename_i d ds hdef
      have hD := A.defers
      rw [hdef] at hD
      generalize had : a.defers = ad at hD
      cases hD with
      | cons g hcc haa ht =>
        rename_i c c' x x' l'
        simp only at h
        split at h
        case h_2 => cases h
        rename_i fn hfn
        split at h
        case h_2 => cases h
        rename_i fe hfe
        simp only [VS.next.injEq] at h
        subst h
        obtain ⟨hf, _, _⟩ := fn_facts ok hfn
        obtain ⟨a', g1, g2, g3, g4⟩ := enter_sound hf (haa.append hcc) hfe
        have hi : (invoke (.fn (.func g) ⟨c'⟩) ⟨x'⟩).run P w = .ok (.enter g ⟨x' ++ c'⟩) w := by
          have : (Array.mk x' ++ Array.mk c') = ⟨x' ++ c'⟩ := by apply Array.ext'; simp
          simp only [invoke, this, callFunc_run ok hfn]
        have hs := step_defer (fr := mkF f a r) (cs := Fs ++ bottom) (ds := l') (by rw [hmode]; simp) had rfl hi
        rw [g1] at hs
        have hfr : ({ mkF f a r with defers := l' } : Frame) = mkF { f with defers := ds } { a with defers := l' } r := rfl
        rw [hfr] at hs
        have A2 : AR μ { f with defers := ds } { a with defers := l' } := ⟨A.size, A.tmp, A.non, ht⟩
        exact ⟨moves_one (Fs' := mkF { f with defers := ds } { a with defers := l' } r :: Fs) hs (Ext.refl _) g2 (by rw [g4]; exact trivial) (.cons A2 hr C) R, rfl⟩
      | mark hb h0 ht =>
        rename_i b L l'
        simp only [markV] at h
        split at h
        case h_2 => cases h
        rename_i hg hro _
        have hro := Nat.le_of_ble_eq_true hro
        simp only [VS.next.injEq] at h
        subst h
        obtain ⟨L', O, k1, k2, k3⟩ := R.obj _ _ hg
        rw [hb] at k1; cases k1
        obtain ⟨_, rfl, _⟩ := k3
        have hs := step_collected (P := P) (fr := mkF f a r) (cs := Fs ++ bottom) (ds := l') (by rw [hmode]; simp) had rfl (run_takeDeferred k2)
        have hfr : ({ mkF f a r with defers := [] ++ l' } : Frame) = mkF { f with defers := ds } { a with defers := l' } r := rfl
        rw [hfr] at hs
        have hlt := heap_lt k2
        have R' : Rel μ ro w0 { V with heap := V.heap.set b (.deferred none) } (w.putObj L.blk (.deferred none)) :=
          R.change (O' := .deferred none) hro hg hb (World.putObj_size ..) (World.putObj_heap_same hlt) (fun k hk => World.putObj_heap_other hk) ⟨h0, rfl, fun l hl => by cases hl⟩
        exact ⟨moves_one (Fs' := Fs) hs (Ext.refl _) ⟨A.size, A.tmp, A.non, ht⟩ hr C R', rfl⟩
  · -- it goes on
    rename_i hret
    have hF : mkF f a r = (base f r).atR a f.todo := mkF_run a hret
    have to : ∀ (k : List Item), AR μ { f with todo := k } a := fun k => ⟨A.size, A.tmp, A.non, A.defers⟩
    have mk : ∀ (k : List Item), mkF { f with todo := k } a r = (base f r).atR a k := fun k => mkF_run (f := { f with todo := k }) a hret
    rw [hF]
    split at h
    · -- the end
      rename_i htodo
      rw [htodo]
      split at h
      · rename_i hrd
        rw [hrd] at hr
        obtain rfl := hr.none_inv
        simp only [VS.next.injEq] at h
        subst h
        refine ⟨moves_one (a' := a) (r' := none) (Fs' := Fs) ?_ (Ext.refl _) ⟨A.size, A.tmp, A.non, A.defers⟩ (by simp only [hrd]; exact trivial) C R, rfl⟩
        rw [stepR_end rfl]
        unfold mkF Frame.atR base
        simp [htodo]
      · rename_i b hrd
        exact leave_sound ok hrd hr C R h bottom _ (fun hl hk he => by subst hl; exact stepR_round_end rfl hk he)
    · rename_i htodo
      rw [htodo]
      split at h
      · rename_i hrd
        rw [hrd] at hr
        obtain rfl := hr.none_inv
        simp only [VS.next.injEq] at h
        subst h
        refine ⟨moves_one (a' := a) (r' := none) (Fs' := Fs) ?_ (Ext.refl _) ⟨A.size, A.tmp, A.non, A.defers⟩ (by simp only [hrd]; exact trivial) C R, rfl⟩
        rw [stepR_ret rfl]
        unfold mkF Frame.atR base
        simp [htodo]
      · rename_i b hrd
        exact leave_sound ok hrd hr C R h bottom _ (fun hl hk he => by subst hl; exact stepR_round_ret rfl hk he)
    · rename_i k htodo
      rw [htodo]
      split at h
      · cases h
      rename_i b hrd
      have hr2 := hr
      rw [hrd] at hr2
      obtain ⟨L, hL, h0, rfl⟩ := hr2.some_inv
      unfold beginV at h
      split at h
      case h_2 => cases h
      rename_i l hg hro
      have hro := Nat.le_of_ble_eq_true hro
      split at h
      case h_2 => cases h
      rename_i hst
      simp only [VS.next.injEq] at h
      subst h
      obtain ⟨L', O, k1, k2, k3⟩ := R.obj _ _ hg
      rw [hL] at k1; cases k1
      obtain ⟨_, Q, rfl, q1, q2, q3, q4, q5, q6, q7⟩ := k3
      have hrun := run_beginRound (P := P) (w := w) k2 (q1.trans hst)
      have hlt := heap_lt k2
      have R' : Rel μ ro w0 { V with heap := V.heap.set b (.loop { l with state := .busy }) } (w.putObj L.blk (.loop { Q with state := .busy })) :=
        R.change (O' := .loop { Q with state := .busy }) hro hg hL (World.putObj_size ..) (World.putObj_heap_same hlt) (fun k hk => World.putObj_heap_other hk) ⟨h0, _, rfl, rfl, q2, q3, q4, q5, q6, q7⟩
      exact ⟨moves_one (a' := a) (Fs' := Fs) (by rw [mk]; exact stepR_beginRound rfl hrun) (Ext.refl _) (to _) hr C R', rfl⟩
    · rename_i k htodo
      simp only [VS.next.injEq] at h
      subst h
      rw [htodo]
      exact ⟨moves_one (a' := a) (Fs' := Fs) (by rw [mk]; exact stepR_skip) (Ext.refl _) (to _) hr C R, rfl⟩
    · rename_i k htodo
      simp only [VS.next.injEq] at h
      subst h
      rw [htodo]
      exact ⟨moves_one (a' := a) (Fs' := Fs) (by rw [mk]; exact stepR_label) (Ext.refl _) (to _) hr C R, rfl⟩
    · rename_i k htodo
      simp only [VS.next.injEq] at h
      subst h
      rw [htodo]
      exact ⟨moves_one (a' := a) (Fs' := Fs) (by rw [mk]; exact stepR_inBlock) (Ext.refl _) (to _) hr C R, rfl⟩
    · rename_i k htodo
      simp only [VS.next.injEq] at h
      subst h
      rw [htodo]
      refine ⟨moves_one (a' := a) (Fs' := Fs) (by rw [mk]; exact step_lone_go (by simp [stepG, stepG.exec, Frame.atR])) (Ext.refl _) (to _) hr C R, rfl⟩
    · rename_i x y k htodo
      simp only [VS.next.injEq] at h
      subst h
      rw [htodo]
      exact ⟨moves_one (a' := a) (Fs' := Fs) (by rw [mk]; exact stepR_seq) (Ext.refl _) (to _) hr C R, rfl⟩
    · rename_i c x y k htodo
      rw [htodo]
      split at h
      · rename_i hc
        simp only [VS.next.injEq] at h
        subst h
        have hc := VR.bool_inv (A.ev _ _ hc)
        exact ⟨moves_one (a' := a) (Fs' := Fs) (by rw [mk]; have := stepR_cond (P := P) (b := base f r) (k := k) (cs := Fs ++ bottom) (w := w) (x := x) (y := y) hc; simpa using this) (Ext.refl _) (to _) hr C R, rfl⟩
      · rename_i hc
        simp only [VS.next.injEq] at h
        subst h
        have hc := VR.bool_inv (A.ev _ _ hc)
        exact ⟨moves_one (a' := a) (Fs' := Fs) (by rw [mk]; have := stepR_cond (P := P) (b := base f r) (k := k) (cs := Fs ++ bottom) (w := w) (x := x) (y := y) hc; simpa using this) (Ext.refl _) (to _) hr C R, rfl⟩
      · cases h
    · rename_i id c k htodo
      simp only [VS.next.injEq] at h
      subst h
      rw [htodo]
      exact ⟨moves_one (a' := a) (Fs' := Fs) (by rw [mk]; exact stepR_block) (Ext.refl _) (to _) hr C R, rfl⟩
    · rename_i c k htodo
      simp only [VS.next.injEq] at h
      subst h
      rw [htodo]
      exact ⟨moves_one (a' := a) (Fs' := Fs) (by rw [mk]; exact stepR_loop) (Ext.refl _) (to _) hr C R, rfl⟩
    · rename_i c k htodo
      simp only [VS.next.injEq] at h
      subst h
      rw [htodo]
      exact ⟨moves_one (a' := a) (Fs' := Fs) (by rw [mk]; exact stepR_inLoop) (Ext.refl _) (to _) hr C R, rfl⟩
    · rename_i c k htodo
      simp only [VS.next.injEq] at h
      subst h
      rw [htodo]
      refine ⟨moves_one (a' := a) (Fs' := Fs) (by rw [mk]; exact step_lone_go (by simp [stepG, stepG.exec, Frame.atR])) (Ext.refl _) (to _) hr C R, rfl⟩
    · rename_i id k htodo
      rw [htodo]
      split at h
      · rename_i k' hk
        simp only [VS.next.injEq] at h
        subst h
        exact ⟨moves_one (a' := a) (Fs' := Fs) (by rw [mk]; exact stepR_exit hk) (Ext.refl _) (to _) hr C R, rfl⟩
      · rename_i hx
        split at h
        · cases h
        rename_i b hrd
        exact leave_sound ok hrd hr C R h bottom _ (fun hl hk he => by subst hl; exact stepR_round_exit rfl hk hx he)
    · rename_i l k htodo
      rw [htodo]
      split at h
      · rename_i k' hk
        simp only [VS.next.injEq] at h
        subst h
        exact ⟨moves_one (a' := a) (Fs' := Fs) (by rw [mk]; exact stepR_goto hk) (Ext.refl _) (to _) hr C R, rfl⟩
      · rename_i hx
        split at h
        · cases h
        rename_i b hrd
        exact leave_sound ok hrd hr C R h bottom _ (fun hl hk he => by subst hl; exact stepR_round_goto rfl hk hx he)
    · rename_i id ops draw k htodo
      rw [htodo]
      split at h
      case h_2 => cases h
      simp only [VS.next.injEq] at h
      subst h
      have hrange : rangeL ops.toList.length 0 = List.range ops.size := by rw [rangeL_eq, List.range_eq_range']; rfl
      exact ⟨moves_one (a' := a) (Fs' := Fs) (by rw [mk, hrange]; exact stepR_region) (Ext.refl _) (to _) hr C R, rfl⟩
    · rename_i ops k htodo
      simp only [VS.next.injEq] at h
      subst h
      rw [htodo]
      exact ⟨moves_one (a' := a) (Fs' := Fs) (by rw [mk]; exact stepR_region_end) (Ext.refl _) (to _) hr C R, rfl⟩
    · rename_i ops i rest k htodo
      rw [htodo]
      split at h
      · cases h
      rename_i o ho
      have ho' : ops[i]? = some o := by rw [← Array.getElem?_toList]; exact ho
      have hw := wanted_sound A o ops
      split at h
      · rename_i hwant
        simp only [VS.next.injEq] at h
        subst h
        rw [hwant] at hw
        have A' := A.put (VR.undef μ) o.dst
        refine ⟨moves_one (a' := a.put o.dst undef) (Fs' := Fs) ?_ (Ext.refl _) ⟨A'.size, A'.tmp, A'.non, A'.defers⟩ hr C R, rfl⟩
        rw [mkF_run _ (show ({ f with tm := f.put o.dst undef, todo := .inRegion ops rest :: k } : VF).ret = false from hret)]
        have hs := stepR_op_skip (P := P) (b := base f r) (a := a) (k := k) (cs := Fs ++ bottom) (w := w) (ops := ops) (i := i) (rest := rest) (by rw [ho']; simpa using hw)
        rw [ho'] at hs
        exact hs
      · rename_i hwant
        rw [hwant] at hw
        split at h
        · cases h
        · rename_i v V1 hex
          simp only [VS.next.injEq] at h
          subst h
          obtain ⟨n', w1, μ1, r1, r2, r3, r4⟩ := execV_sound ok R A.ev hex
          cases r4 with
          | value hv =>
            have A' := (A.mono r2).put hv o.dst
            refine ⟨moves_one (Fs' := Fs) ?_ r2 ⟨A'.size, A'.tmp, A'.non, A'.defers⟩ (hr.mono r2) (C.mono r2) r3, rfl⟩
            rw [mkF_run _ (show ({ f with tm := f.put o.dst v, todo := .inRegion ops rest :: k } : VF).ret = false from hret)]
            exact step_value ho' hw (by rw [exec_semAt hex (fun d hd => by cases hd)]; exact r1)
        · rename_i V1 hex
          simp only [VS.next.injEq] at h
          subst h
          obtain ⟨n', w1, μ1, r1, r2, r3, r4⟩ := execV_sound ok R A.ev hex
          cases r4
          have A' := (A.mono r2).put (VR.undef μ1) o.dst
          refine ⟨moves_one (Fs' := Fs) ?_ r2 ⟨A'.size, A'.tmp, A'.non, A'.defers⟩ (hr.mono r2) (C.mono r2) r3, rfl⟩
          rw [mkF_run _ (show ({ f with tm := f.put o.dst undef, todo := .inRegion ops rest :: k } : VF).ret = false from hret)]
          exact step_skipped ho' hw (by rw [exec_semAt hex (fun d hd => by cases hd)]; exact r1)
        · rename_i d V1 hex
          split at h
          case h_2 => cases h
          rename_i hrd
          have hr2 := hr
          rw [hrd] at hr2
          obtain rfl := hr2.none_inv
          simp only [VS.next.injEq] at h
          subst h
          obtain ⟨n', w1, μ1, r1, r2, r3, r4⟩ := execV_sound ok R A.ev hex
          cases r4 with
          | defer g hc ha =>
            rename_i c c' x x'
            have A1 : AR μ1 { f with defers := { target := .fn (.func g) ⟨c⟩, args := ⟨x⟩ } :: f.defers } { a with defers := { target := .fn (.func g) ⟨c'⟩, args := ⟨x'⟩ } :: a.defers } :=
              ⟨A.size, (A.mono r2).tmp, A.non, .cons g hc ha (A.mono r2).defers⟩
            have A' := A1.put (VR.undef μ1) o.dst
            refine ⟨moves_one (Fs' := Fs) ?_ r2 ⟨A'.size, A'.tmp, A'.non, A'.defers⟩ (hr.mono r2) (C.mono r2) r3, rfl⟩
            rw [mkF_run _ (show ({ f with tm := f.put o.dst undef, todo := .inRegion ops rest :: k, defers := { target := .fn (.func g) ⟨c⟩, args := ⟨x⟩ } :: f.defers } : VF).ret = false from hret)]
            exact step_deferred rfl ho' hw r1
        · rename_i fr2 V1 hex
          simp only [VS.next.injEq] at h
          subst h
          obtain ⟨n', w1, μ1, r1, r2, r3, r4⟩ := execV_sound ok R A.ev hex
          cases r4 with
          | round hf hT hb h0 =>
            rename_i b fn tm nt assign body tmps L
            subst hf
            have hs := step_rounded (P := P) (b := base f r) (k := k) (cs := Fs ++ bottom) (rest := rest) ho' hw (by rw [exec_semAt hex (fun d hd => by cases hd)]; exact r1)
            have hFF : (base f r).atR a (.inRegion ops (i :: rest) :: k) = mkF f a r := by rw [hF, htodo]
            rw [hFF] at hs ⊢
            exact ⟨moves_one (a' := { tmps := tmps, defers := [] }) (r' := some L.blk) (Fs' := mkF f a r :: Fs) hs r2 ⟨hT.size, hT.tmp, hT.non, .nil⟩ ⟨L, hb, h0, rfl⟩ (.cons (A.mono r2) (hr.mono r2) (C.mono r2)) r3, rfl⟩
        · rename_i g args V1 hex
          split at h
          case h_2 => cases h
          rename_i fn hfn
          split at h
          case h_2 => cases h
          rename_i fe hfe
          simp only [VS.next.injEq] at h
          subst h
          obtain ⟨n', w1, μ1, r1, r2, r3, r4⟩ := execV_sound ok R A.ev hex
          cases r4 with
          | enter _ hargs =>
            rename_i args'
            obtain ⟨hf, _, _⟩ := fn_facts ok hfn
            obtain ⟨a', g1, g2, g3, g4⟩ := enter_sound hf hargs hfe
            have hs := step_entered (P := P) (b := base f r) (k := k) (cs := Fs ++ bottom) (rest := rest) ho' hw (by rw [exec_semAt hex (fun d hd => by cases hd)]; exact r1)
            rw [g1] at hs
            have hFF : (base f r).atR a (.inRegion ops (i :: rest) :: k) = mkF f a r := by rw [hF, htodo]
            rw [hFF] at hs ⊢
            exact ⟨moves_one (Fs' := mkF f a r :: Fs) hs r2 g2 (by rw [g4]; exact trivial) (.cons (A.mono r2) (hr.mono r2) (C.mono r2)) r3, rfl⟩
        · rename_i V1 hex
          split at h
          case h_2 => cases h
          rename_i hcan
          rw [Bool.and_eq_true] at hcan
          obtain ⟨hnone, hcan⟩ := hcan
          have hrd : f.rd = none := by simpa using hnone
          have hr2 := hr
          rw [hrd] at hr2
          obtain rfl := hr2.none_inv
          simp only [VS.next.injEq] at h
          subst h
          obtain ⟨n', w1, μ1, r1, r2, r3, r4⟩ := execV_sound ok R A.ev hex
          cases r4
          have A' := (A.mono r2).put (VR.nili (μ := μ1)) o.dst
          refine ⟨moves_one (Fs' := Fs) ?_ r2 ⟨A'.size, A'.tmp, A'.non, A'.defers⟩ (hr.mono r2) (C.mono r2) r3, rfl⟩
          rw [mkF_run _ (show ({ f with tm := f.put o.dst .nilIface, todo := .inRegion ops rest :: k } : VF).ret = false from hret)]
          refine step_recovered rfl ho' hw r1 ?_
          have hk : ((base f none).atR a (.inRegion ops (i :: rest) :: k)).kind = f.kind := rfl
          unfold tryRecover
          rw [hk]
          cases hkind : f.kind with
          | deferred =>
            rw [hkind] at hcan
            cases C with
            | nil => simp at hcan
            | cons hc hrc hrest =>
              rename_i c ac rc fs Fr
              simp only at hcan
              have hmode : (mkF c ac rc).mode = .returning := by unfold mkF; rw [hcan]; rfl
              simp [hmode]
          | normal => rfl
          | _ => simp [hkind] at hcan
    · cases h

/-- **The end of a run.** -/
theorem over_sound (ok : VPok P vp) {μ : Mu} {f : VF} {cs : List VF} {V W : VW} {a : Act} {r : Option Nat} {w : World} {v : Value} (A : AR μ f a) (R : Rel μ ro w0 V w) (h : stepV P vp ro { fr := f, cs, w := V } = .over v W) :
    cs = [] ∧ W = V ∧ ∃ v', (mkF f a r).leaving P w (.returned v') ∧ VR μ v v' := by
  have leave : ∀ (b : Nat) (jump : Option Code), leaveV ro b jump f cs V ≠ .over v W := fun b jump hh => by
    unfold leaveV at hh
    repeat' (first | (cases hh; done) | split at hh)
  have begins : ∀ (b : Nat) (k : List Item), beginV ro b f k cs V ≠ .over v W := fun b k hh => by
    unfold beginV at hh
    repeat' (first | (cases hh; done) | split at hh)
  unfold stepV at h
  simp only at h
  split at h
  · rename_i hret
    have hmode : (mkF f a r).mode = .returning := by unfold mkF; rw [hret]; rfl
    split at h
    · rename_i hdef
      have hd : a.defers = [] := by have := A.defers; rw [hdef] at this; generalize a.defers = q at this; cases this; rfl
      split at h
      · cases h
      rename_i fn hfn
      obtain ⟨hf, _, _⟩ := fn_facts ok hfn
      split at h
      · cases h
      rename_i u hres
      obtain ⟨v', r1, r2⟩ := results_sound ok R A hres
      split at h
      · split at h
        · rename_i hk
          simp only [VS.over.injEq] at h
          obtain ⟨rfl, rfl⟩ := h
          exact ⟨rfl, rfl, v', ⟨hmode, hd, hk, fn, hf, r1⟩, r2⟩
        · cases h
      · repeat' (first | (cases h; done) | split at h)
    · repeat' (first | (cases h; done) | split at h)
  · repeat' (first | (cases h; done) | exact absurd h (leave _ _) | exact absurd h (begins _ _) | split at h)

/-- What is shown of the end of a run. -/
def Ends (P : Program) (μ : Mu) (ro : Nat) (w0 : World) (f : VF) (a : Act) (r : Option Nat) (cs : List VF) (Fs : List Frame) (w : World) (v : Value) (W : VW) (bottom : List Frame) : Prop :=
  ∃ v' μ' w' F, Steps P (lone (mkF f a r) (Fs ++ bottom) w) (lone F bottom w') ∧ F.fn = bot f.fn cs ∧ F.leaving P w' (.returned v') ∧ Ext μ μ' ∧ Rel μ' ro w0 W w' ∧ VR μ' v v'

/-- **A move.** -/
theorem bigV_sound (ok : VPok P vp) (hm : P.follows .mixedOrders = true) {sub : Nat → VM → VS} (subOk : ∀ ro, SubOk P vp ro (sub ro)) {ro : Nat} {w0 : World} {f : VF} {cs : List VF} {V : VW} {μ : Mu} {a : Act} {r : Option Nat} {Fs : List Frame} {w : World} (A : AR μ f a) (hr : RdR μ f.rd r) (C : CsR μ cs Fs) (R : Rel μ ro w0 V w) (bottom : List Frame) :
    (∀ m', bigV P vp sub ro { fr := f, cs, w := V } = .next m' → Moves P μ ro w0 (mkF f a r) Fs w bottom m' ∧ bot m'.fr.fn m'.cs = bot f.fn cs) ∧
    (∀ v W, bigV P vp sub ro { fr := f, cs, w := V } = .over v W → Ends P μ ro w0 f a r cs Fs w v W bottom) := by
  have plain : (∀ m', stepV P vp ro { fr := f, cs, w := V } = .next m' → Moves P μ ro w0 (mkF f a r) Fs w bottom m' ∧ bot m'.fr.fn m'.cs = bot f.fn cs) ∧
      (∀ v W, stepV P vp ro { fr := f, cs, w := V } = .over v W → Ends P μ ro w0 f a r cs Fs w v W bottom) := by
    refine ⟨fun m' h => stepV_sound ok A hr C R h bottom, fun v W h => ?_⟩
    obtain ⟨rfl, rfl, v', h1, h2⟩ := over_sound ok A R h (r := r)
    cases C
    exact ⟨v', μ, w, mkF f a r, Steps.refl _ _, rfl, h1, Ext.refl _, R, h2⟩
  -- behind a region that draws
  have behind : ∀ {id : Nat} {ops : Array Oper} {k : List Item} {f1 : VF} {V1 : VW}, f.ret = false → f.todo = .code (.region id ops true) :: k → SameF f f1 →
      (∃ a' w1 μ1, Ext μ μ1 ∧ AR μ1 f1 a' ∧ Rel μ1 ro w0 V1 w1 ∧ Steps P (lone ((base f r).atR a (.code (.region id ops true) :: k)) (Fs ++ bottom) w) (lone ((base f r).atR a' k) (Fs ++ bottom) w1)) →
      Moves P μ ro w0 (mkF f a r) Fs w bottom { fr := { f with tm := f1.tm, todo := k }, cs, w := V1 } := by
    intro id ops k f1 V1 hret htodo hsame ⟨a', w1, μ1, e1, A1, R1, harr⟩
    obtain ⟨q1, q2, q3, q4, q5, q6⟩ := hsame
    have A2 : AR μ1 { f with tm := f1.tm, todo := k } a' := ⟨A1.size.trans q2, A1.tmp, A1.non, by have := A1.defers; rw [q4] at this; exact this⟩
    have hstart : mkF f a r = (base f r).atR a (.code (.region id ops true) :: k) := by rw [mkF_run _ hret, htodo]
    have hend : mkF { f with tm := f1.tm, todo := k } a' r = (base f r).atR a' k := mkF_run (f := { f with tm := f1.tm, todo := k }) a' hret
    refine ⟨a', Fs, w1, μ1, r, ?_, e1, A2, hr.mono e1, C.mono e1, R1⟩
    rw [hstart]
    show Steps P _ (lone (mkF { f with tm := f1.tm, todo := k } a' r) _ _)
    rw [hend]
    exact harr
  unfold bigV
  simp only
  split
  · rename_i id ops k hret hrd htodo
    refine ⟨fun m' h => ?_, fun v W h => by split at h <;> cases h⟩
    split at h
    case h_2 => cases h
    rename_i f1 V1 hd
    simp only [VS.next.injEq] at h
    subst h
    have hr2 := hr
    rw [hrd] at hr2
    obtain rfl := hr2.none_inv
    obtain ⟨hsame, hwp⟩ := drawV_sound (id := id) ok hm R (subOk V.next) (subOk ro) A hd
    obtain ⟨e, a', w1, ⟨rfl, μ1, e1, A1, R1⟩, harr⟩ := hwp (base f none) k (Fs ++ bottom)
    have harr : Steps P (lone ((base f none).at a (.code (.region id ops true) :: k)) (Fs ++ bottom) w) (lone ((base f none).at a' k) (Fs ++ bottom) w1) := harr
    exact ⟨behind hret htodo hsame ⟨a', w1, μ1, e1, A1, R1, by rw [Frame.atR_of_none rfl, Frame.atR_of_none rfl]; exact harr⟩, rfl⟩
  · rename_i b id ops k hret hrd htodo
    refine ⟨fun m' h => ?_, fun v W h => by split at h <;> cases h⟩
    split at h
    case h_2 => cases h
    rename_i f1 V1 hd
    simp only [VS.next.injEq] at h
    subst h
    obtain ⟨hsame, hst⟩ := drawR_sound (id := id) ok hm R (subOk V.next) (subOk ro) A hd
    obtain ⟨a', w1, μ1, e1, A1, R1, harr⟩ := hst (base f r) k (Fs ++ bottom)
    exact ⟨behind hret htodo hsame ⟨a', w1, μ1, e1, A1, R1, harr⟩, rfl⟩
  · -- a loop over a function
    rename_i g ps assign body k hret hrd htodo
    refine ⟨fun m' h => ?_, fun v W h => by repeat' (first | (cases h; done) | split at h)⟩
    have hr2 := hr
    rw [hrd] at hr2
    obtain rfl := hr2.none_inv
    split at h
    case h_2 => cases h
    rename_i f' V1 hrange
    unfold rangeV at hrange
    split at hrange
    case h_2 => cases hrange
    rename_i gf first captured hg
    split at hrange
    case h_2 => cases hrange
    rename_i fn hfn
    split at hrange
    case h_2 => cases hrange
    rename_i fe hfe
    simp only [Option.some.injEq, Prod.mk.injEq] at hrange
    obtain ⟨rfl, rfl⟩ := hrange
    split at h
    case h_2 => cases h
    case h_3 => cases h
    rename_i u W1 hsub
    split at h
    case h_2 => cases h
    rename_i jump W2 hend
    simp only [VS.next.injEq] at h
    subst h
    -- the two blocks
    let O0 : Obj := .deferred (some [])
    let O1 : Obj := .loop { state := .ready, pending := none, fn := f.fn, tmps := a.tmps, params := ps, assign, body, defers := w.heap.size }
    let L0 : Loc := ⟨w.heap.size, 0, 0, 0⟩
    let w1 : World := w.alloc O0
    let L1 : Loc := ⟨w1.heap.size, 0, 0, 0⟩
    let w2 : World := w1.alloc O1
    have hsz : w1.heap.size = w.heap.size + 1 := World.size_alloc ..
    have f0 := (R.fresh V.next (Nat.le_refl _)).1
    have R1 : Rel (μ.put V.next L0) ro w0 (V.add (.deferred (some []))) w1 := R.alloc (O := O0) (m := 0) (u := 0) ⟨rfl, rfl, fun l hl => by cases hl; rfl⟩
    have e1 : Ext μ (μ.put V.next L0) := Mu.ext_put f0
    have f1 := (R1.fresh (V.next + 1) (Nat.le_refl _)).1
    have R2 : Rel ((μ.put V.next L0).put (V.next + 1) L1) ro w0 ((V.add (.deferred (some []))).add (.loop { state := .ready, pending := none, fn := f.fn, tm := f.tm, nt := f.nt, params := ps.toList, assign, body })) w2 :=
      R1.alloc (O := O1) (m := 0) (u := 0) ⟨rfl, _, rfl, rfl, rfl, rfl, ⟨A.size, fun t v hv => (A.tmp t v hv).mono e1, A.non⟩, rfl, rfl, rfl⟩
    have e2 : Ext (μ.put V.next L0) ((μ.put V.next L0).put (V.next + 1) L1) := Mu.ext_put f1
    have hl1 : ((μ.put V.next L0).put (V.next + 1) L1) (V.next + 1) = some L1 := Mu.put_self _ _ _
    have hl0 : ((μ.put V.next L0).put (V.next + 1) L1) V.next = some L0 := e2 _ _ (Mu.put_self _ _ _)
    -- the call
    obtain ⟨x', c', eg, hx, hc⟩ := ((A.ev _ _ hg).mono (e1.trans e2)).func_inv
    have hargs : LR ((μ.put V.next L0).put (V.next + 1) L1) (first ++ [.func (.yield (V.next + 1)) ⟨[]⟩ ⟨[]⟩] ++ captured) (x' ++ [.func (.yield L1.blk) ⟨[]⟩ ⟨[]⟩] ++ c') :=
      (hx.append (.cons (.yield hl1 rfl) .nil)).append hc
    obtain ⟨hf, _, _⟩ := fn_facts ok hfn
    obtain ⟨a', g1, g2, g3, g4⟩ := enter_sound hf hargs hfe
    have henter : (Instr.enterLoop (base f none).fn a.tmps ps assign body (base f none).roundOf).run P w = .ok (w.heap.size + 1, [{ target := .collected w.heap.size, args := #[] }]) w2 := run_enterLoop_outer ..
    have hres : (resolve a.eval (rangeCall g (w.heap.size + 1)) 0).run P w2 = .ok { target := .fn (.func gf) ⟨c'⟩, args := ⟨x' ++ [.func (.yield (w.heap.size + 1)) ⟨[]⟩ ⟨[]⟩]⟩ } w2 := by
      have harr : (Array.mk x' ++ #[Value.func (.yield (w.heap.size + 1)) #[] #[]]) = ⟨x' ++ [.func (.yield (w.heap.size + 1)) ⟨[]⟩ ⟨[]⟩]⟩ := by apply Array.ext'; simp
      have hev : a.eval (.const (.func (.yield (w.heap.size + 1)) #[] #[])) = .func (.yield (w.heap.size + 1)) #[] #[] := rfl
      simp only [resolve, Deferred.ofValue, eg, pure_bind, Sem.run_pure, List.map_toArray, List.map_cons, List.map_nil, hev, harr]
    have hinv : (invoke (.fn (.func gf) ⟨c'⟩) ⟨x' ++ [.func (.yield (w.heap.size + 1)) ⟨[]⟩ ⟨[]⟩]⟩).run P w2 = .ok (.enter gf ⟨x' ++ [.func (.yield L1.blk) ⟨[]⟩ ⟨[]⟩] ++ c'⟩) w2 := by
      have : (Array.mk (x' ++ [Value.func (.yield (w.heap.size + 1)) ⟨[]⟩ ⟨[]⟩]) ++ Array.mk c') = ⟨x' ++ [.func (.yield L1.blk) ⟨[]⟩ ⟨[]⟩] ++ c'⟩ := by
        have : L1.blk = w.heap.size + 1 := hsz
        rw [this]; apply Array.ext'; simp
      simp only [invoke, this, callFunc_run ok hfn]
    have hstep := stepR_rangeFunc (b := base f none) (a := a) (k := k) (cs := Fs ++ bottom) henter hres hinv
    rw [g1] at hstep
    -- its run
    obtain ⟨e1', w3, F1, ⟨v1, μ3, rfl, s4, s5, s6⟩, s1, s2, s3⟩ := subOk ro gf fn fe _ _ _ w2 _ w0 u W1 hfn hfe hsub R2 hargs
      ((base f none).atR { a with defers := [{ target := .collected w.heap.size, args := #[] }] ++ a.defers } (.inRangeFunc (w.heap.size + 1) :: k) :: (Fs ++ bottom))
    have s1 : Steps P _ _ := s1
    rw [g1] at s1
    have sback := step_leave_returned (c := (base f none).atR { a with defers := [{ target := .collected w.heap.size, args := #[] }] ++ a.defers } (.inRangeFunc (w.heap.size + 1) :: k)) (cs := Fs ++ bottom) s3
    rw [finish_atR_inRangeFunc] at sback
    -- its end
    unfold endV at hend
    split at hend
    case h_2 => cases hend
    rename_i l hgl hrol
    have hrol := Nat.le_of_ble_eq_true hrol
    obtain ⟨L', O', k1, k2, k3⟩ := s5.obj _ _ hgl
    rw [s4 _ _ hl1] at k1
    cases k1
    obtain ⟨_, Q, rfl, q1, q2, q3, q4, q5, q6, q7⟩ := k3
    have hblk : L1.blk = w.heap.size + 1 := hsz
    rw [hblk] at k2
    have hlt := heap_lt k2
    have hbusy : l.state ≠ .busy ∧ jump = l.pending ∧ W2 = { W1 with heap := W1.heap.set (V.next + 1) (.loop { l with state := .exhausted }) } := by
      split at hend
      · cases hend
      · rename_i hb
        simp only [Option.some.injEq, Prod.mk.injEq] at hend
        exact ⟨hb, hend.1.symm, hend.2.symm⟩
    obtain ⟨hb, rfl, rfl⟩ := hbusy
    have hrunEnd := run_endLoop (P := P) (w := w3) k2 (by rw [q1]; exact hb)
    have R4 : Rel μ3 ro w0 { W1 with heap := W1.heap.set (V.next + 1) (.loop { l with state := .exhausted }) } (w3.putObj (w.heap.size + 1) (.loop { Q with state := .exhausted })) :=
      s5.change (L := L1) (O' := .loop { Q with state := .exhausted }) hrol hgl (s4 _ _ hl1) (World.putObj_size ..) (by rw [hblk]; exact World.putObj_heap_same hlt) (fun k hk => by rw [hblk] at hk; exact World.putObj_heap_other hk) ⟨rfl, _, rfl, rfl, q2, q3, q4, q5, q6, q7⟩
    have sendd := stepR_endRangeFunc (b := base f none) (a := { a with defers := [{ target := .collected w.heap.size, args := #[] }] ++ a.defers }) (k := k) (cs := Fs ++ bottom) hrunEnd
    have eall : Ext μ μ3 := (e1.trans e2).trans s4
    have A4 : AR μ3 { f with todo := afterV l.pending k, defers := markV V.next :: f.defers } { a with defers := [{ target := .collected w.heap.size, args := #[] }] ++ a.defers } :=
      ⟨A.size, fun t v hv => (A.tmp t v hv).mono eall, A.non, .mark (s4 _ _ hl0) rfl (A.defers.mono eall)⟩
    have hstart : mkF f a none = (base f none).atR a (.code (.rangeFunc g ps assign body) :: k) := by rw [mkF_run _ hret, htodo]
    have hlast : mkF { f with todo := afterV l.pending k, defers := markV V.next :: f.defers } { a with defers := [{ target := .collected w.heap.size, args := #[] }] ++ a.defers } none = (base f none).atR { a with defers := [{ target := .collected w.heap.size, args := #[] }] ++ a.defers } ((Q.pending.map Item.code).toList ++ k) := by
      rw [mkF_run _ (show ({ f with todo := afterV l.pending k, defers := markV V.next :: f.defers } : VF).ret = false from hret), q2]
      rfl
    refine ⟨⟨_, Fs, _, μ3, none, ?_, eall, A4, by simp only [hrd]; exact trivial, C.mono eall, R4⟩, rfl⟩
    rw [hstart]
    show Steps P _ (lone (mkF { f with todo := afterV l.pending k, defers := markV V.next :: f.defers } { a with defers := [{ target := .collected w.heap.size, args := #[] }] ++ a.defers } none) _ _)
    rw [hlast]
    exact .head hstep (s1.trans (.head sback (.one sendd)))
  · exact plain

/-- A run, by its moves. -/
theorem run_sound (ok : VPok P vp) (hm : P.follows .mixedOrders = true) {sub : Nat → VM → VS} (subOk : ∀ ro, SubOk P vp ro (sub ro)) {run : VM → VS} {ro : Nat} {w0 : World} {f : VF} {cs : List VF} {V W : VW} {v : Value} {μ : Mu} {a : Act} {r : Option Nat} {Fs : List Frame} {w : World} (A : AR μ f a) (hr : RdR μ f.rd r) (C : CsR μ cs Fs) (R : Rel μ ro w0 V w) (bottom : List Frame)
    (ih : ∀ (f : VF) (cs : List VF) (V : VW) (μ : Mu) (a : Act) (r : Option Nat) (Fs : List Frame) (w : World), AR μ f a → RdR μ f.rd r → CsR μ cs Fs → Rel μ ro w0 V w → run { fr := f, cs, w := V } = .over v W → Ends P μ ro w0 f a r cs Fs w v W bottom)
    (h : (match bigV P vp sub ro { fr := f, cs, w := V } with | .next m' => run m' | s => s) = .over v W) : Ends P μ ro w0 f a r cs Fs w v W bottom := by
  obtain ⟨b1, b2⟩ := bigV_sound ok hm subOk A hr C R bottom
  split at h
  · rename_i m' hb
    obtain ⟨⟨a', Fs', w1, μ1, r', h1, h2, h3, hr', h4, h5⟩, hbot⟩ := b1 m' hb
    obtain ⟨f1, cs1, V1⟩ := m'
    obtain ⟨v', μ', w', F, k1, k2, k3, k4, k5, k6⟩ := ih f1 cs1 V1 μ1 a' r' Fs' w1 h3 hr' h4 h5 h
    exact ⟨v', μ', w', F, h1.trans k1, k2.trans hbot, k3, h2.trans k4, k5, k6⟩
  · exact b2 v W h

theorem runV_sound (ok : VPok P vp) (hm : P.follows .mixedOrders = true) : ∀ (n ro : Nat) (w0 : World) (f : VF) (cs : List VF) (V W : VW) (v : Value) (μ : Mu) (a : Act) (r : Option Nat) (Fs : List Frame) (w : World), AR μ f a → RdR μ f.rd r → CsR μ cs Fs → Rel μ ro w0 V w →
    runV P vp n ro { fr := f, cs, w := V } = .over v W → ∀ bottom, Ends P μ ro w0 f a r cs Fs w v W bottom
  | 0, _, _, _, _, _, _, _, _, _, _, _, _, _, _, _, _, h => by cases h
  | n + 1, ro, w0, f, cs, V, W, v, μ, a, r, Fs, w, A, hr, C, R, h => by
    intro bottom
    have subOk : ∀ ro, SubOk P vp ro (runV P vp n ro) := by
      intro ro g fn f' args args' V w μ w0 v W hfn hfe hrun R hl bottom
      obtain ⟨hf, _, _⟩ := fn_facts ok hfn
      obtain ⟨a', g1, g2, g3, g4⟩ := enter_sound hf hl hfe
      obtain ⟨v', μ', w', F, h1, h2, h3, h4, h5, h6⟩ := runV_sound ok hm n ro w0 f' [] V W v μ a' none [] w g2 (by rw [g4]; exact trivial) .nil R hrun bottom
      refine ⟨.returned v', w', F, ⟨v', μ', rfl, h4, h5, h6⟩, ?_, h2.trans g3, h3⟩
      show Steps P _ _
      rw [g1]; exact h1
    exact run_sound ok hm subOk A hr C R bottom (fun f cs V μ a r Fs w A hr C R h => runV_sound ok hm n ro w0 f cs V W v μ a r Fs w A hr C R h bottom) h

theorem runV_subOk (ok : VPok P vp) (hm : P.follows .mixedOrders = true) (n ro : Nat) : SubOk P vp ro (runV P vp n ro) := by
  intro g fn f' args args' V w μ w0 v W hfn hfe hrun R hl bottom
  obtain ⟨hf, _, _⟩ := fn_facts ok hfn
  obtain ⟨a', g1, g2, g3, g4⟩ := enter_sound hf hl hfe
  obtain ⟨v', μ', w', F, h1, h2, h3, h4, h5, h6⟩ := runV_sound ok hm n ro w0 f' [] V W v μ a' none [] w g2 (by rw [g4]; exact trivial) .nil R hrun bottom
  refine ⟨.returned v', w', F, ⟨v', μ', rfl, h4, h5, h6⟩, ?_, h2.trans g3, h3⟩
  show Steps P _ _
  rw [g1]; exact h1

theorem runK_sound (ok : VPok P vp) (hm : P.follows .mixedOrders = true) (N : Nat) : ∀ (n ro : Nat) (w0 : World) (f : VF) (cs : List VF) (V W : VW) (v : Value) (μ : Mu) (a : Act) (r : Option Nat) (Fs : List Frame) (w : World), AR μ f a → RdR μ f.rd r → CsR μ cs Fs → Rel μ ro w0 V w →
    runK P vp N n ro { fr := f, cs, w := V } = .over v W → ∀ bottom, Ends P μ ro w0 f a r cs Fs w v W bottom
  | 0, _, _, _, _, _, _, _, _, _, _, _, _, _, _, _, _, h => by cases h
  | n + 1, ro, w0, f, cs, V, W, v, μ, a, r, Fs, w, A, hr, C, R, h => by
    intro bottom
    unfold runK at h
    rw [runF_eq, bigF_eq] at h
    exact run_sound ok hm (fun ro => runV_subOk ok hm N ro) A hr C R bottom (fun f cs V μ a r Fs w A hr C R h => runK_sound ok hm N n ro w0 f cs V W v μ a r Fs w A hr C R h bottom) h

/-- What is known of the package-level variables. -/
def GlobOk (gl : Tr (List Value)) (w : World) : Prop := ∀ g l, gl.get g = some l → (∀ v ∈ l, flat 10 v = true) ∧ ∃ e fz, w.heap[g]? = some (.cells ⟨l⟩ e fz)

theorem startV_sound (ok : VPok P vp) {gl : Tr (List Value)} {f : Nat} {m : VM} (h : startV vp gl f 0 = some m) (w : World) (hG : GlobOk gl w)
    (hrun : ∀ (f' : VF) (V : VW) (μ : Mu) (a : Act), m = { fr := f', cs := [], w := V } → AR μ f' a → f'.rd = none → Rel μ 0 w V w → ∃ W, ∀ bottom, Ends P μ 0 w f' a none [] [] w (.bool true) W bottom) :
    Calls P f #[] w fun e w' => e = .returned (.bool true) ∧ Below w.heap.size w w' := by
  unfold startV at h
  split at h
  case h_2 => cases h
  rename_i fn hfn
  split at h
  case h_2 => cases h
  rename_i f' hfe
  simp only [Option.some.injEq] at h
  obtain ⟨hf, _, _⟩ := fn_facts ok hfn
  have R : Rel (fun _ => none) 0 w { next := 0, heap := .nil, gl } w :=
    { below := Below.refl _ _
      fresh := fun b _ => ⟨rfl, Tr.get_nil b⟩
      obj := fun b o hb => by rw [show ({ next := 0, heap := .nil, gl } : VW).heap.get b = none from Tr.get_nil b] at hb; cases hb
      inj := fun b b' L L' o o' _ hb => by rw [show ({ next := 0, heap := .nil, gl } : VW).heap.get b = none from Tr.get_nil b] at hb; cases hb
      new := fun b L _ hm => by cases hm
      tot := fun b hb => absurd hb (Nat.not_lt_zero b)
      ron := Nat.le_refl _
      glob := fun g l hl => by
        obtain ⟨h2, e, fz, h3⟩ := hG g l hl
        exact ⟨heap_lt h3, h2, e, fz, h3⟩ }
  obtain ⟨a', g1, g2, g3, g4⟩ := enter_sound hf (μ := fun _ => none) .nil hfe
  obtain ⟨W, hend⟩ := hrun f' _ _ a' h.symm g2 g4 R
  intro bottom
  obtain ⟨v', μ', w', F, h1, h2, h3, h4, h5, h6⟩ := hend bottom
  rw [VR.bool_inv h6] at h3
  refine ⟨.returned (.bool true), w', F, ⟨rfl, h5.below⟩, ?_, h2.trans g3, h3⟩
  show Steps P _ _
  rw [show (#[] : Array Value) = ⟨[]⟩ from rfl, g1]; exact h1

/-- **A run of the small machine without arguments tells a call of the model**, in whatever world in which the package-level variables hold what is known of them. -/
theorem yesG_sound (ok : VPok P vp) (hm : P.follows .mixedOrders = true) {gl : Tr (List Value)} {fuel f : Nat} (h : yesG P vp gl 0 fuel f = true) (w : World) (hG : GlobOk gl w) :
    Calls P f #[] w fun e w' => e = .returned (.bool true) ∧ Below w.heap.size w w' := by
  unfold yesG at h
  split at h
  case h_2 => cases h
  rename_i m hmm
  refine startV_sound ok hmm w hG fun f' V μ a hm' A hrd R => ?_
  subst hm'
  split at h
  case h_2 => cases h
  rename_i W hrun
  rw [runF_eq] at hrun
  exact ⟨W, runV_sound ok hm fuel 0 w f' [] V W _ μ a none [] w A (by rw [hrd]; exact trivial) .nil R hrun⟩

/-- .. the run in stretches. -/
theorem yesK_sound (ok : VPok P vp) (hm : P.follows .mixedOrders = true) {gl : Tr (List Value)} {N k f : Nat} {m : VM} (hs : startV vp gl f 0 = some m) (h : trueV (runK P vp N k 0 m) = true) (w : World) (hG : GlobOk gl w) :
    Calls P f #[] w fun e w' => e = .returned (.bool true) ∧ Below w.heap.size w w' := by
  unfold trueV at h
  split at h
  case h_2 => cases h
  rename_i W hrun
  refine startV_sound ok hs w hG fun f' V μ a hm' A hrd R => ?_
  subst hm'
  exact ⟨W, runK_sound ok hm N k 0 w f' [] V W _ μ a none [] w A (by rw [hrd]; exact trivial) .nil R hrun⟩

/-- .. whatever the world. -/
theorem yes_sound (ok : VPok P vp) (hm : P.follows .mixedOrders = true) {fuel f : Nat} (h : yes P vp 0 fuel f = true) (w : World) :
    Calls P f #[] w fun e w' => e = .returned (.bool true) ∧ Below w.heap.size w w' :=
  yesG_sound ok hm h w fun g l hl => by rw [Tr.get_nil] at hl; cases hl

end
end Go.Wvm
