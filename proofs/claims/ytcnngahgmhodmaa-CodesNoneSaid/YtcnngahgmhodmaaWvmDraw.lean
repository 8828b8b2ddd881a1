/- Regions that draw their order. -/
import Derived.Test.YtcnngahgmhodmaaWvmRun
set_option linter.unusedSimpArgs false
set_option linter.unusedVariables false
namespace Go.Wvm
open Go.RowKit

section
variable {P : Program} {vp : VP} {μ : Mu} {ro : Nat} {w0 : World} {V V' : VW} {w : World}

/-- A run from a call's beginning tells the call. -/
def SubOk (P : Program) (vp : VP) (ro : Nat) (sub : VM → VS) : Prop :=
  ∀ (g : FuncId) (fn : Func) (f' : VF) (args args' : List Value) (V : VW) (w : World) (μ : Mu) (w0 : World) (v : Value) (W : VW), vp.fn.get g = some fn → VF.enter fn g args .normal = some f' →
    sub { fr := f', cs := [], w := V } = .over v W → Rel μ ro w0 V w → LR μ args args' →
    Calls P g ⟨args'⟩ w fun e w2 => ∃ v' μ', e = .returned v' ∧ Ext μ μ' ∧ Rel μ' ro w0 W w2 ∧ VR μ' v v'

theorem noSub_ok : SubOk P vp ro noSub := by
  intro g fn f' args args' V w μ w0 v W _ _ h
  cases h

/-- In a world that has more blocks it stands as it stood. -/
theorem Rel.more (R : Rel μ ro w0 V w) {w1 : World} (h : Below w.heap.size w w1) : Rel μ ro w0 V w1 where
  below := R.below.trans (h.mono R.below.size)
  fresh := R.fresh
  obj b o hb := by
    obtain ⟨L, O, h1, h2, h3⟩ := R.obj b o hb
    exact ⟨L, O, h1, (h.block _ (heap_lt h2)).trans h2, h3⟩
  inj := R.inj
  new := R.new
  ron := R.ron

/-- What does not turn in a frame within a region. -/
def SameF (f g : VF) : Prop := g.fn = f.fn ∧ g.nt = f.nt ∧ g.todo = f.todo ∧ g.defers = f.defers ∧ g.ret = f.ret ∧ g.kind = f.kind

theorem SameF.refl (f : VF) : SameF f f := ⟨rfl, rfl, rfl, rfl, rfl, rfl⟩
theorem SameF.of_tm {f g : VF} {t : Tr Value} (h : SameF { f with tm := t } g) : SameF f g := h

theorem quietL_sound (ok : VPok P vp) (R : Rel μ ro w0 V w) {sub : VM → VS} (hsub : SubOk P vp V.next sub) {ops : Array Oper} : ∀ (l : List Oper) (f f' : VF) (a : Act) (Q : Act → Prop), AR μ f a →
    quietL P vp sub ops.toList V l f = some f' → (∀ a', AR μ f' a' → Q a') → SameF f f' ∧ wpQuiet P ops (fun w' => Below w.heap.size w w') Q l a
  | [], f, f', a, Q, A, h, hQ => by
    simp only [quietL, Option.some.injEq] at h
    subst h
    exact ⟨SameF.refl _, hQ a A⟩
  | o :: rest, f, f', a, Q, A, h, hQ => by
    simp only [quietL] at h
    have hw := wanted_sound A o ops
    simp only [wpQuiet]
    rw [hw]
    split at h
    · rename_i hf
      rw [hf]
      simp only [Bool.false_eq_true, if_false]
      obtain ⟨s1, s2⟩ := quietL_sound ok R hsub rest _ f' _ Q (A.put (VR.undef μ) o.dst) h hQ
      exact ⟨s1.of_tm, s2⟩
    · rename_i ht
      rw [ht]
      simp only [if_true]
      split at h
      · rename_i v V1 _ hex
        split at h
        case h_2 => cases h
        rename_i hq
        obtain ⟨v', h1, h2⟩ := quiet_op ok R A.ev hq hex
        obtain ⟨s1, s2⟩ := quietL_sound ok R hsub rest _ f' _ Q (A.put h1 o.dst) h hQ
        refine ⟨s1.of_tm, v', fun w1 hw1 => ?_, s2⟩
        unfold Oper.quietAt
        rw [h2 w1 hw1.block]
        exact ⟨rfl, rfl⟩
      · rename_i g args V1 hcall hex
        split at h
        case h_2 => cases h
        rename_i fn hfn
        split at h
        case h_2 => cases h
        rename_i fe hfe
        split at h
        case h_2 => cases h
        rename_i v W hrun
        split at h
        case h_2 => cases h
        rename_i hflat
        obtain ⟨s1, s2⟩ := quietL_sound ok R hsub rest _ f' _ Q (A.put (flat_refl 10 v hflat) o.dst) h hQ
        refine ⟨s1.of_tm, v, fun w1 hw1 => ?_, s2⟩
        have R1 := R.at' (w1 := w1) hw1.block
        obtain ⟨g', as, args', r1, rfl, r3, r4⟩ := exec_call (w := w1) ok A.ev hcall hex
        cases r1
        unfold Oper.quietAt
        rw [r3]
        refine ⟨rfl, ?_⟩
        refine (hsub g fn fe args args' V1 w1 μ w1 v W hfn hfe hrun R1 r4).mono fun e w3 ⟨v', μ2, he, _, R3, hv⟩ => ?_
        subst he
        rw [flat_eq 10 _ _ hflat hv]
        exact ⟨rfl, hw1.trans (R3.below.mono hw1.size)⟩
      · cases h

theorem still_sound (ok : VPok P vp) (R : Rel μ ro w0 V w) {ops : Array Oper} : ∀ (l : List Oper) (f f' : VF) (a : Act) (Q : Act → Prop), AR μ f a →
    quietL P vp noSub ops.toList V l f = some f' → (∀ a', AR μ f' a' → Q a') → SameF f f' ∧ wpStill P ops w Q l a
  | [], f, f', a, Q, A, h, hQ => by
    simp only [quietL, Option.some.injEq] at h
    subst h
    exact ⟨SameF.refl _, hQ a A⟩
  | o :: rest, f, f', a, Q, A, h, hQ => by
    simp only [quietL] at h
    have hw := wanted_sound A o ops
    simp only [wpStill]
    rw [hw]
    split at h
    · rename_i hf
      rw [hf]
      simp only [Bool.false_eq_true, if_false]
      obtain ⟨s1, s2⟩ := still_sound ok R rest _ f' _ Q (A.put (VR.undef μ) o.dst) h hQ
      exact ⟨s1.of_tm, s2⟩
    · rename_i ht
      rw [ht]
      simp only [if_true]
      split at h
      · rename_i v V1 _ hex
        split at h
        case h_2 => cases h
        rename_i hq
        obtain ⟨v', h1, h2⟩ := quiet_op ok R A.ev hq hex
        obtain ⟨s1, s2⟩ := still_sound ok R rest _ f' _ Q (A.put h1 o.dst) h hQ
        refine ⟨s1.of_tm, ?_⟩
        unfold Oper.still
        rw [h2 w fun _ _ => rfl]
        exact ⟨rfl, s2⟩
      · split at h
        case h_2 => cases h
        split at h
        case h_2 => cases h
        split at h
        case h_2 => cases h
        rename_i hrun
        cases hrun
      · cases h

theorem tailL_same {sub : VM → VS} {all : List Oper} : ∀ {l : List Oper} {f f' : VF} {V V' : VW}, tailL P vp sub ro all l f V = some (f', V') → SameF f f'
  | [], f, f', V, V', h => by
    simp only [tailL, Option.some.injEq, Prod.mk.injEq] at h
    obtain ⟨rfl, rfl⟩ := h
    exact SameF.refl _
  | o :: rest, f, f', V, V', h => by
    simp only [tailL] at h
    split at h
    · exact (tailL_same h).of_tm
    · split at h
      · exact (tailL_same h).of_tm
      · exact (tailL_same h).of_tm
      · split at h
        case h_2 => cases h
        split at h
        case h_2 => cases h
        split at h
        case h_2 => cases h
        exact (tailL_same h).of_tm
      · cases h

theorem tailL_sound (ok : VPok P vp) {sub : VM → VS} (hsub : SubOk P vp ro sub) {ops : Array Oper} : ∀ (l : List Oper) (f f' : VF) (a : Act) (V V' : VW) (w : World) (μ : Mu) (Q : Exit → Act → World → Prop), AR μ f a → Rel μ ro w0 V w →
    tailL P vp sub ro ops.toList l f V = some (f', V') → (∀ a' w' μ', Ext μ μ' → AR μ' f' a' → Rel μ' ro w0 V' w' → Q .normal a' w') → SameF f f' ∧ wpList P ops Q l a w
  | [], f, f', a, V, V', w, μ, Q, A, R, h, hQ => by
    simp only [tailL, Option.some.injEq, Prod.mk.injEq] at h
    obtain ⟨rfl, rfl⟩ := h
    exact ⟨SameF.refl _, hQ a w μ (Ext.refl _) A R⟩
  | o :: rest, f, f', a, V, V', w, μ, Q, A, R, h, hQ => by
    simp only [tailL] at h
    have hw := wanted_sound A o ops
    simp only [wpList]
    rw [hw]
    split at h
    · rename_i hf
      rw [hf]
      simp only [Bool.false_eq_true, if_false]
      obtain ⟨s1, s2⟩ := tailL_sound ok hsub rest _ f' _ V V' w μ Q (A.put (VR.undef μ) o.dst) R h hQ
      exact ⟨s1.of_tm, s2⟩
    · rename_i ht
      rw [ht]
      simp only [if_true]
      split at h
      · rename_i v V1 hex
        obtain ⟨n', w1, μ1, r1, r2, r3, r4⟩ := execV_sound ok R A.ev hex
        cases r4 with
        | value hv =>
          obtain ⟨s1, s2⟩ := tailL_sound ok hsub rest _ f' _ V1 V' w1 μ1 Q ((A.mono r2).put hv o.dst) r3 h (fun a' w' μ' e => hQ a' w' μ' (r2.trans e))
          refine ⟨s1.of_tm, .inl ?_⟩
          unfold Oper.wp
          rw [r1]
          exact s2
      · rename_i V1 hex
        obtain ⟨n', w1, μ1, r1, r2, r3, r4⟩ := execV_sound ok R A.ev hex
        cases r4
        obtain ⟨s1, s2⟩ := tailL_sound ok hsub rest _ f' _ V1 V' w1 μ1 Q ((A.mono r2).put (VR.undef μ1) o.dst) r3 h (fun a' w' μ' e => hQ a' w' μ' (r2.trans e))
        refine ⟨s1.of_tm, .inl ?_⟩
        unfold Oper.wp
        rw [r1]
        exact s2
      · rename_i g args V1 hex
        obtain ⟨n', w1, μ1, r1, r2, r3, r4⟩ := execV_sound ok R A.ev hex
        split at h
        case h_2 => cases h
        rename_i fn hfn
        split at h
        case h_2 => cases h
        rename_i fe hfe
        split at h
        case h_2 => cases h
        rename_i v W hrun
        cases r4 with
        | enter _ hargs =>
          rename_i args'
          have hcall := hsub g fn fe args args' V1 w1 μ1 w0 v W hfn hfe hrun r3 hargs
          -- the rest, whatever the call hands back
          have key : ∀ v' μ2 w2, Ext μ1 μ2 → Rel μ2 ro w0 W w2 → VR μ2 v v' → SameF f f' ∧ wpList P ops Q rest (a.put o.dst v') w2 := by
            intro v' μ2 w2 e2 R2 hv
            obtain ⟨s1, s2⟩ := tailL_sound ok hsub rest _ f' _ W V' w2 μ2 Q ((A.mono (r2.trans e2)).put hv o.dst) R2 h (fun a' w' μ' e => hQ a' w' μ' ((r2.trans e2).trans e))
            exact ⟨s1.of_tm, s2⟩
          have hs : SameF f f' := by
            obtain ⟨e, w2, fr2, ⟨v', μ2, _, e2, R2, hv⟩, _⟩ := hcall []
            exact (key v' μ2 w2 e2 R2 hv).1
          refine ⟨hs, .inl ?_⟩
          unfold Oper.wp
          rw [r1]
          show Calls P g ⟨args'⟩ w1 _
          refine hcall.mono fun e w2 ⟨v', μ2, he, e2, R2, hv⟩ => ?_
          subst he
          exact (key v' μ2 w2 e2 R2 hv).2
      · cases h

/-- **A region that draws its order.** -/
theorem drawV_sound (ok : VPok P vp) (hm : P.follows .mixedOrders = true) (R : Rel μ ro w0 V w) {subQ sub : VM → VS} (hq : SubOk P vp V.next subQ) (hs : SubOk P vp ro sub) {ops : Array Oper} {id : Nat} {f f' : VF} {a : Act} (A : AR μ f a)
    (h : drawV P vp subQ sub ro ops f V = some (f', V')) : SameF f f' ∧ (Code.region id ops true).wp P (fun e a' w' => e = .normal ∧ ∃ μ', Ext μ μ' ∧ AR μ' f' a' ∧ Rel μ' ro w0 V' w') a w := by
  unfold drawV at h
  split at h
  · rename_i f1 hq1
    simp only [Option.some.injEq, Prod.mk.injEq] at h
    obtain ⟨rfl, rfl⟩ := h
    split at hq1
    case h_2 => cases hq1
    rename_i hB
    obtain ⟨s1, s2⟩ := quietL_sound ok R hq ops.toList f f1 a (fun a' => ∀ w', Below w.heap.size w w' → (fun e a' w' => e = Exit.normal ∧ ∃ μ', Ext μ μ' ∧ AR μ' f1 a' ∧ Rel μ' ro w0 V w') Exit.normal a' w') A hq1
      (fun a' A' w' hw' => ⟨rfl, μ, Ext.refl _, A', R.more hw'⟩)
    exact ⟨s1, wp_region_quiet hm hB (C := fun w' => Below w.heap.size w w') (Below.refl _ _ |>.drew) s2⟩
  · split at h
    case h_2 => cases h
    rename_i hB
    split at h
    case h_2 => cases h
    rename_i f1 hq1
    have R1 : Rel μ ro w0 V { w with drawn := w.drawn + 1 } := R.drawn _
    -- the end, from whatever frame the head leaves
    have key : ∀ a', AR μ f1 a' → SameF f1 f' ∧ wpList P ops (fun e a' w' => e = Exit.normal ∧ ∃ μ', Ext μ μ' ∧ AR μ' f' a' ∧ Rel μ' ro w0 V' w') (ops.toList.drop (headN ops.toList)) a' { w with drawn := w.drawn + 1 } := fun a' A' =>
      tailL_sound ok hs _ f1 f' a' V V' _ μ _ A' R1 h (fun a' w' μ' e A'' R'' => ⟨rfl, μ', e, A'', R''⟩)
    obtain ⟨s1, s2⟩ := still_sound ok R1 (ops := ops) (ops.toList.take (headN ops.toList)) f f1 a (fun a' => wpList P ops (fun e a' w' => e = Exit.normal ∧ ∃ μ', Ext μ μ' ∧ AR μ' f' a' ∧ Rel μ' ro w0 V' w') (ops.toList.drop (headN ops.toList)) a' { w with drawn := w.drawn + 1 }) A hq1
      (fun a' A' => (key a' A').2)
    have hsame : SameF f1 f' := by
      exact tailL_same h
    refine ⟨?_, ?_⟩
    · obtain ⟨p1, p2, p3, p4, p5, p6⟩ := s1
      obtain ⟨q1, q2, q3, q4, q5, q6⟩ := hsame
      exact ⟨q1.trans p1, q2.trans p2, q3.trans p3, q4.trans p4, q5.trans p5, q6.trans p6⟩
    · exact wp_region_still_tail (l := ops.toList) (headN ops.toList) hm hB s2

end
end Go.Wvm
