/- Regions that draw their order. -/
import Derived.Test.YtpglehckhnencaaWvmHeld
import Derived.OrdersHeld
set_option linter.unusedSimpArgs false
set_option linter.unusedVariables false
namespace Go.Wvm
open Go.RowKit

section
variable {P : Program} {vp : VP} {μ : Mu} {ro : Nat} {w0 : World} {V V' : VW} {w : World}

/-- A run from a call's beginning tells the call. -/
def SubOk (P : Program) (vp : VP) (ro : Nat) (sub : VM → VS) : Prop :=
  ∀ (g : FuncId) (fn : Func) (f' : VF) (args args' : List Value) (V : VW) (w : World) (μ : Mu) (w0 : World) (v : Value) (W : VW), vp.fn.get g = some fn → VF.enter fn g args .normal = some f' →
    sub { fr := f', cs := [], w := V } = .over v W → Rel μ ro w0 V w → LR μ args args' →
    Calls P g ⟨args'⟩ w fun e w2 => ∃ v' μ', e = .returned v' ∧ Ext μ μ' ∧ Rel μ' ro w0 W w2 ∧ VR μ' v v'

theorem noSub_ok : SubOk P vp ro noSub := by
  intro g fn f' args args' V w μ w0 v W _ _ h
  cases h

/-- In a world that has more blocks it stands as it stood. -/
theorem Rel.more (R : Rel μ ro w0 V w) {w1 : World} (h : Below w.heap.size w w1) : Rel μ ro w0 V w1 where
  below := R.below.trans (h.mono R.below.size)
  fresh := R.fresh
  obj b o hb := by
    obtain ⟨L, O, h1, h2, h3⟩ := R.obj b o hb
    exact ⟨L, O, h1, (h.block _ (heap_lt h2)).trans h2, h3⟩
  inj := R.inj
  new := R.new
  tot := R.tot
  ron := R.ron
  glob g l hl := by
    obtain ⟨q1, q2, e, fz, q3⟩ := R.glob g l hl
    exact ⟨q1, q2, e, fz, (h.block _ (heap_lt q3)).trans q3⟩

/-- What does not turn in a frame within a region. -/
def SameF (f g : VF) : Prop := g.fn = f.fn ∧ g.nt = f.nt ∧ g.todo = f.todo ∧ g.defers = f.defers ∧ g.ret = f.ret ∧ g.kind = f.kind

theorem SameF.refl (f : VF) : SameF f f := ⟨rfl, rfl, rfl, rfl, rfl, rfl⟩
theorem SameF.of_tm {f g : VF} {t : Tr Value} (h : SameF { f with tm := t } g) : SameF f g := h

theorem quietL_sound (ok : VPok P vp) (R : Rel μ ro w0 V w) {sub : VM → VS} (hsub : SubOk P vp V.next sub) {ops : Array Oper} : ∀ (l : List Oper) (f f' : VF) (a : Act) (Q : Act → Prop), AR μ f a →
    quietL P vp sub ops.toList V l f = some f' → (∀ a', AR μ f' a' → Q a') → SameF f f' ∧ wpQuiet P ops (fun w' => Below w.heap.size w w') Q l a
  | [], f, f', a, Q, A, h, hQ => by
    simp only [quietL, Option.some.injEq] at h
    subst h
    exact ⟨SameF.refl _, hQ a A⟩
  | o :: rest, f, f', a, Q, A, h, hQ => by
    simp only [quietL] at h
    have hw := wanted_sound A o ops
    simp only [wpQuiet]
    rw [hw]
    split at h
    · rename_i hf
      rw [hf]
      simp only [Bool.false_eq_true, if_false]
      obtain ⟨s1, s2⟩ := quietL_sound ok R hsub rest _ f' _ Q (A.put (VR.undef μ) o.dst) h hQ
      exact ⟨s1.of_tm, s2⟩
    · rename_i ht
      rw [ht]
      simp only [if_true]
      split at h
      · rename_i v V1 _ hex
        split at h
        case h_2 => cases h
        rename_i hq
        obtain ⟨v', h1, h2⟩ := quiet_op ok R A.ev hq hex
        obtain ⟨s1, s2⟩ := quietL_sound ok R hsub rest _ f' _ Q (A.put h1 o.dst) h hQ
        refine ⟨s1.of_tm, v', fun w1 hw1 => ?_, s2⟩
        unfold Oper.quietAt
        rw [h2 w1 hw1.block]
        exact ⟨rfl, rfl⟩
      · rename_i g args V1 hcall hex
        split at h
        case h_2 => cases h
        rename_i fn hfn
        split at h
        case h_2 => cases h
        rename_i fe hfe
        split at h
        case h_2 => cases h
        rename_i v W hrun
        split at h
        case h_2 => cases h
        rename_i hflat
        obtain ⟨s1, s2⟩ := quietL_sound ok R hsub rest _ f' _ Q (A.put (flat_refl 10 v hflat) o.dst) h hQ
        refine ⟨s1.of_tm, v, fun w1 hw1 => ?_, s2⟩
        have R1 := R.at' (w1 := w1) hw1.block
        obtain ⟨g', as, args', r1, rfl, r3, r4⟩ := exec_call (w := w1) ok R1 A.ev hcall hex
        cases r1
        unfold Oper.quietAt
        rw [r3]
        refine ⟨rfl, ?_⟩
        refine (hsub g fn fe args args' V1 w1 μ w1 v W hfn hfe hrun R1 r4).mono fun e w3 ⟨v', μ2, he, _, R3, hv⟩ => ?_
        subst he
        rw [flat_eq 10 _ _ hflat hv]
        exact ⟨rfl, hw1.trans (R3.below.mono hw1.size)⟩
      · cases h

theorem still_sound (ok : VPok P vp) (R : Rel μ ro w0 V w) {ops : Array Oper} : ∀ (l : List Oper) (f f' : VF) (a : Act) (Q : Act → Prop), AR μ f a →
    quietL P vp noSub ops.toList V l f = some f' → (∀ a', AR μ f' a' → Q a') → SameF f f' ∧ wpStill P ops w Q l a
  | [], f, f', a, Q, A, h, hQ => by
    simp only [quietL, Option.some.injEq] at h
    subst h
    exact ⟨SameF.refl _, hQ a A⟩
  | o :: rest, f, f', a, Q, A, h, hQ => by
    simp only [quietL] at h
    have hw := wanted_sound A o ops
    simp only [wpStill]
    rw [hw]
    split at h
    · rename_i hf
      rw [hf]
      simp only [Bool.false_eq_true, if_false]
      obtain ⟨s1, s2⟩ := still_sound ok R rest _ f' _ Q (A.put (VR.undef μ) o.dst) h hQ
      exact ⟨s1.of_tm, s2⟩
    · rename_i ht
      rw [ht]
      simp only [if_true]
      split at h
      · rename_i v V1 _ hex
        split at h
        case h_2 => cases h
        rename_i hq
        obtain ⟨v', h1, h2⟩ := quiet_op ok R A.ev hq hex
        obtain ⟨s1, s2⟩ := still_sound ok R rest _ f' _ Q (A.put h1 o.dst) h hQ
        refine ⟨s1.of_tm, ?_⟩
        unfold Oper.still
        rw [h2 w fun _ _ => rfl]
        exact ⟨rfl, s2⟩
      · split at h
        case h_2 => cases h
        split at h
        case h_2 => cases h
        split at h
        case h_2 => cases h
        rename_i hrun
        cases hrun
      · cases h

theorem tailL_same {sub : VM → VS} {all : List Oper} : ∀ {l : List Oper} {f f' : VF} {V V' : VW}, tailL P vp sub ro all l f V = some (f', V') → SameF f f'
  | [], f, f', V, V', h => by
    simp only [tailL, Option.some.injEq, Prod.mk.injEq] at h
    obtain ⟨rfl, rfl⟩ := h
    exact SameF.refl _
  | o :: rest, f, f', V, V', h => by
    simp only [tailL] at h
    split at h
    · exact (tailL_same h).of_tm
    · split at h
      · exact (tailL_same h).of_tm
      · exact (tailL_same h).of_tm
      · split at h
        case h_2 => cases h
        split at h
        case h_2 => cases h
        split at h
        case h_2 => cases h
        exact (tailL_same h).of_tm
      · cases h

theorem tailL_sound (ok : VPok P vp) {sub : VM → VS} (hsub : SubOk P vp ro sub) {ops : Array Oper} : ∀ (l : List Oper) (f f' : VF) (a : Act) (V V' : VW) (w : World) (μ : Mu) (Q : Exit → Act → World → Prop), AR μ f a → Rel μ ro w0 V w →
    tailL P vp sub ro ops.toList l f V = some (f', V') → (∀ a' w' μ', Ext μ μ' → AR μ' f' a' → Rel μ' ro w0 V' w' → Q .normal a' w') → SameF f f' ∧ wpList P ops Q l a w
  | [], f, f', a, V, V', w, μ, Q, A, R, h, hQ => by
    simp only [tailL, Option.some.injEq, Prod.mk.injEq] at h
    obtain ⟨rfl, rfl⟩ := h
    exact ⟨SameF.refl _, hQ a w μ (Ext.refl _) A R⟩
  | o :: rest, f, f', a, V, V', w, μ, Q, A, R, h, hQ => by
    simp only [tailL] at h
    have hw := wanted_sound A o ops
    simp only [wpList]
    rw [hw]
    split at h
    · rename_i hf
      rw [hf]
      simp only [Bool.false_eq_true, if_false]
      obtain ⟨s1, s2⟩ := tailL_sound ok hsub rest _ f' _ V V' w μ Q (A.put (VR.undef μ) o.dst) R h hQ
      exact ⟨s1.of_tm, s2⟩
    · rename_i ht
      rw [ht]
      simp only [if_true]
      split at h
      · rename_i v V1 hex
        obtain ⟨n', w1, μ1, r1, r2, r3, r4⟩ := execV_sound ok R A.ev hex
        cases r4 with
        | value hv =>
          obtain ⟨s1, s2⟩ := tailL_sound ok hsub rest _ f' _ V1 V' w1 μ1 Q ((A.mono r2).put hv o.dst) r3 h (fun a' w' μ' e => hQ a' w' μ' (r2.trans e))
          refine ⟨s1.of_tm, .inl ?_⟩
          unfold Oper.wp
          rw [r1]
          exact s2
      · rename_i V1 hex
        obtain ⟨n', w1, μ1, r1, r2, r3, r4⟩ := execV_sound ok R A.ev hex
        cases r4
        obtain ⟨s1, s2⟩ := tailL_sound ok hsub rest _ f' _ V1 V' w1 μ1 Q ((A.mono r2).put (VR.undef μ1) o.dst) r3 h (fun a' w' μ' e => hQ a' w' μ' (r2.trans e))
        refine ⟨s1.of_tm, .inl ?_⟩
        unfold Oper.wp
        rw [r1]
        exact s2
      · rename_i g args V1 hex
        obtain ⟨n', w1, μ1, r1, r2, r3, r4⟩ := execV_sound ok R A.ev hex
        split at h
        case h_2 => cases h
        rename_i fn hfn
        split at h
        case h_2 => cases h
        rename_i fe hfe
        split at h
        case h_2 => cases h
        rename_i v W hrun
        cases r4 with
        | enter _ hargs =>
          rename_i args'
          have hcall := hsub g fn fe args args' V1 w1 μ1 w0 v W hfn hfe hrun r3 hargs
          -- the rest, whatever the call hands back
          have key : ∀ v' μ2 w2, Ext μ1 μ2 → Rel μ2 ro w0 W w2 → VR μ2 v v' → SameF f f' ∧ wpList P ops Q rest (a.put o.dst v') w2 := by
            intro v' μ2 w2 e2 R2 hv
            obtain ⟨s1, s2⟩ := tailL_sound ok hsub rest _ f' _ W V' w2 μ2 Q ((A.mono (r2.trans e2)).put hv o.dst) R2 h (fun a' w' μ' e => hQ a' w' μ' ((r2.trans e2).trans e))
            exact ⟨s1.of_tm, s2⟩
          have hs : SameF f f' := by
            obtain ⟨e, w2, fr2, ⟨v', μ2, _, e2, R2, hv⟩, _⟩ := hcall []
            exact (key v' μ2 w2 e2 R2 hv).1
          refine ⟨hs, .inl ?_⟩
          unfold Oper.wp
          rw [r1]
          show Calls P g ⟨args'⟩ w1 _
          refine hcall.mono fun e w2 ⟨v', μ2, he, e2, R2, hv⟩ => ?_
          subst he
          exact (key v' μ2 w2 e2 R2 hv).2
      · cases h

theorem drawT_sound (ok : VPok P vp) (hm : P.follows .mixedOrders = true) (R : Rel μ ro w0 V w) {subQ sub : VM → VS} (hq : SubOk P vp V.next subQ) (hs : SubOk P vp ro sub) {ops : Array Oper} {id : Nat} {f f' : VF} {a : Act} (A : AR μ f a)
    (h : drawT P vp subQ sub ro ops f V = some (f', V')) : SameF f f' ∧ (Code.region id ops true).wp P (fun e a' w' => e = .normal ∧ ∃ μ', Ext μ μ' ∧ AR μ' f' a' ∧ Rel μ' ro w0 V' w') a w := by
  unfold drawT at h
  split at h
  · cases h
  rename_i m hlen
  split at h
  case h_2 => cases h
  rename_i hB
  split at h
  case h_2 => cases h
  rename_i f1 hq1
  have key : ∀ a', AR μ f1 a' → ∀ w1, Below w.heap.size w w1 → wpList P ops (fun e a' w' => e = Exit.normal ∧ ∃ μ', Ext μ μ' ∧ AR μ' f' a' ∧ Rel μ' ro w0 V' w') (ops.toList.drop m) a' w1 := fun a' A' w1 hw1 =>
    (tailL_sound ok hs _ f1 f' a' V V' w1 μ _ A' (R.more hw1) h (fun a' w' μ' e A'' R'' => ⟨rfl, μ', e, A'', R''⟩)).2
  obtain ⟨s1, s2⟩ := quietL_sound ok R hq (ops := ops) (ops.toList.take m) f f1 a (fun a' => ∀ w1, Below w.heap.size w w1 → wpList P ops (fun e a' w' => e = Exit.normal ∧ ∃ μ', Ext μ μ' ∧ AR μ' f' a' ∧ Rel μ' ro w0 V' w') (ops.toList.drop m) a' w1) A hq1 key
  have hsame : SameF f1 f' := tailL_same h
  refine ⟨?_, ?_⟩
  · obtain ⟨p1, p2, p3, p4, p5, p6⟩ := s1
    obtain ⟨q1, q2, q3, q4, q5, q6⟩ := hsame
    exact ⟨q1.trans p1, q2.trans p2, q3.trans p3, q4.trans p4, q5.trans p5, q6.trans p6⟩
  · exact region_quiet_tail (l := ops.toList) (n := m) (C := fun w' => Below w.heap.size w w') hm hB (Below.refl _ _ |>.drew) s2

theorem uniqS1_eq {v a b : Value} (h : uniqS1 v = true) (ha : VR μ v a) (hb : VR μ v b) : a = b := by
  unfold uniqS1 at h
  split at h
  · rename_i p l c
    have h := lt_of_blt h
    cases ha with
    | slice h1 ho1 hc1 hl1 hu1 =>
      cases hb with
      | slice h2 ho2 hc2 hl2 hu2 =>
        rename_i b0 o0 o1 c1 L1 o2 c2 L2
        rw [h1] at h2; cases h2
        have e1 := ho1 h
        have e2 := ho2 h
        subst e1
        subst e2
        have hcc : c1 = c2 := by
          rcases Nat.eq_zero_or_pos L1.unit with hz | hz
          · rw [hu1.1 hz, hu2.1 hz]
          · have q1 := (hu1.2 (by omega)).2 h
            have q2 := (hu2.2 (by omega)).2 h
            exact Nat.eq_of_mul_eq_mul_right hz (by omega)
        rw [hcc]
  · exact uniq_eq 10 _ _ _ h ha hb

/-! ### One operation at a time -/
theorem pureV_sound (ok : VPok P vp) {N : Nat} {fr : VF} {ρ : Operand → Value} (E : Ev μ fr ρ) (hN : ∀ b, N ≤ b → μ b = none) (hT : ∀ b, b < N → ∃ L, μ b = some L) {o : Oper} {v : Value} (h : pureV P vp N fr o = some v) :
    ∃ v', VR μ v v' ∧ ∀ w1, (execOp ρ o).run P w1 = .ok (.value v') w1 := by
  have R0 : ∀ w1 : World, Rel μ N w1 { next := N, heap := .nil, gl := .nil } w1 := fun w1 =>
    { below := Below.refl _ _
      fresh := fun b hb => ⟨hN b hb, Tr.get_nil b⟩
      obj := fun b o hb => by rw [show ({ next := N, heap := .nil, gl := .nil } : VW).heap.get b = none from Tr.get_nil b] at hb; cases hb
      inj := fun b b' L L' o o' _ hb => by rw [show ({ next := N, heap := .nil, gl := .nil } : VW).heap.get b = none from Tr.get_nil b] at hb; cases hb
      new := fun b L hb hm => by rw [hN b hb] at hm; cases hm
      tot := hT
      ron := Nat.le_refl _
      glob := fun g l hl => by rw [show ({ next := N, heap := .nil, gl := .nil } : VW).gl.get g = none from Tr.get_nil g] at hl; cases hl }
  unfold pureV at h
  split at h
  case h_2 => cases h
  rename_i u V1 hex
  split at h
  case h_2 => cases h
  rename_i hk
  cases h
  rw [Bool.or_eq_true] at hk
  rcases hk with hk | hk
  · unfold execV at hex
    cases hop : o.op <;> rw [hop] at hex hk <;> dsimp only at hex <;> (first | (cases hex; done) | (simp [isMove] at hk; done) | skip)
    case move x =>
      unfold one at hex
      split at hex
      case h_2 => cases hex
      rename_i y hy
      simp only [Option.some.injEq, Prod.mk.injEq, VN.value.injEq] at hex
      obtain ⟨rfl, _⟩ := hex
      exact ⟨ρ x, E _ _ hy, fun w1 => by simp [execOp, hop]⟩
    case assign x =>
      unfold one at hex
      split at hex
      case h_2 => cases hex
      rename_i y hy
      simp only [Option.some.injEq, Prod.mk.injEq, VN.value.injEq] at hex
      obtain ⟨rfl, _⟩ := hex
      exact ⟨ρ x, E _ _ hy, fun w1 => by simp [execOp, hop]⟩
  · rw [Bool.or_eq_true, Bool.and_eq_true, Bool.and_eq_true] at hk
    rcases hk with hk | hk
    · have hns : ∀ a b c, VN.value v ≠ .value (.slice (some a) b c) := fun a b c e => by cases e; simp [uniq] at hk
      obtain ⟨u, v', h1, _, h3, h4⟩ := quietK_fine ok (R0 default) E hk.1 hex hns
      cases h1
      refine ⟨v', h4, fun w1 => ?_⟩
      obtain ⟨u, v2, h1, _, h5, h6⟩ := quietK_fine ok (R0 w1) E hk.1 hex hns
      cases h1
      rw [h5, uniq_eq 10 _ _ _ hk.2 h4 h6]
    · unfold execV at hex
      cases hop : o.op <;> rw [hop] at hex hk <;> dsimp only at hex <;> (first | (cases hex; done) | (simp [isSlice] at hk; done) | skip)
      case slice t x lo hi mx =>
        obtain ⟨u, v', h1, _, h3, h4⟩ := (exec_slice ok (R0 default) E hop hex).fineS
        cases h1
        refine ⟨v', h4, fun w1 => ?_⟩
        obtain ⟨u, v2, h1, _, h5, h6⟩ := (exec_slice ok (R0 w1) E hop hex).fineS
        cases h1
        rw [h5, uniqS1_eq hk.2 h4 h6]

theorem pickP_some {N : Nat} {ops : Array Oper} {s : Array Bool} {fr : VF} : ∀ {l : List Nat} {j : Nat} {o : Oper} {v : Value}, pickP P vp N ops s fr l = some (j, o, v) →
    j ∈ l ∧ ops[j]? = some o ∧ Region.free .any ops s j = true ∧ ((wantedV o ops.toList fr.tm = false ∧ v = undef) ∨ (wantedV o ops.toList fr.tm = true ∧ pureV P vp N fr o = some v))
  | [], j, o, v, h => by cases h
  | i :: r, j, o, v, h => by
    have more : pickP P vp N ops s fr r = some (j, o, v) → j ∈ i :: r ∧ ops[j]? = some o ∧ Region.free .any ops s j = true ∧ ((wantedV o ops.toList fr.tm = false ∧ v = undef) ∨ (wantedV o ops.toList fr.tm = true ∧ pureV P vp N fr o = some v)) := fun h => by
      obtain ⟨h1, h2⟩ := pickP_some h
      exact ⟨List.mem_cons_of_mem _ h1, h2⟩
    unfold pickP at h
    split at h
    · rename_i o' ho hf
      split at h
      · rename_i hw
        simp only [Option.some.injEq, Prod.mk.injEq] at h
        obtain ⟨rfl, rfl, rfl⟩ := h
        exact ⟨List.mem_cons_self, ho, hf, .inl ⟨hw, rfl⟩⟩
      · rename_i hw
        split at h
        · rename_i u hu
          simp only [Option.some.injEq, Prod.mk.injEq] at h
          obtain ⟨rfl, rfl, rfl⟩ := h
          exact ⟨List.mem_cons_self, ho, hf, .inr ⟨hw, hu⟩⟩
        · exact more h
    · exact more h

theorem greedyL_same {sub : VM → VS} {ops : Array Oper} : ∀ {n : Nat} {s : Array Bool} {f f' : VF} {V V' : VW}, greedyL P vp sub ro ops n s f V = some (f', V') → SameF f f'
  | 0, s, f, f', V, V', h => by
    unfold greedyL at h
    split at h
    · simp only [Option.some.injEq, Prod.mk.injEq] at h; rw [h.1]; exact SameF.refl _
    · cases h
  | n + 1, s, f, f', V, V', h => by
    unfold greedyL at h
    split at h
    · simp only [Option.some.injEq, Prod.mk.injEq] at h; rw [h.1]; exact SameF.refl _
    · split at h
      · exact (greedyL_same h).of_tm
      · split at h
        · split at h
          · cases h
          · split at h
            · exact (greedyL_same h).of_tm
            · exact (greedyL_same h).of_tm
            · split at h
              case h_2 => cases h
              split at h
              case h_2 => cases h
              split at h
              case h_2 => cases h
              exact (greedyL_same h).of_tm
            · cases h
        · cases h

theorem greedyL_sound (ok : VPok P vp) {sub : VM → VS} (hsub : SubOk P vp ro sub) {ops : Array Oper} (hsel : Region.noSelect ops = true) {Q : Exit → Act → World → Prop} (hQp : ∀ c a w, ¬ Q (.panic c) a w) :
    ∀ (n : Nat) (s : Array Bool) (f f' : VF) (a : Act) (V V' : VW) (w : World) (μ : Mu), AR μ f a → Rel μ ro w0 V w →
    greedyL P vp sub ro ops n s f V = some (f', V') → (∀ a' w' μ', Ext μ μ' → AR μ' f' a' → Rel μ' ro w0 V' w' → Q .normal a' w') → wpAny P .any ops Q n s a w
  | 0, s, f, f', a, V, V', w, μ, A, R, h, hQ => by
    unfold greedyL at h
    split at h
    case h_2 => cases h
    rename_i hr
    simp only [Option.some.injEq, Prod.mk.injEq] at h
    obtain ⟨rfl, rfl⟩ := h
    exact ⟨hr, hQ a w μ (Ext.refl _) A R⟩
  | n + 1, s, f, f', a, V, V', w, μ, A, R, h, hQ => by
    unfold greedyL at h
    split at h
    · rename_i hr
      simp only [Option.some.injEq, Prod.mk.injEq] at h
      obtain ⟨rfl, rfl⟩ := h
      exact wpAny_done hr (hQ a w μ (Ext.refl _) A R) _
    · rename_i i r hr
      split at h
      · -- one that looks at no world
        rename_i j o v hp
        obtain ⟨hj, ho, hf, hv⟩ := pickP_some hp
        have hw := wanted_sound A o ops
        have hc : (Region.ready .any ops s).contains j = true := by rw [hr]; simpa using hj
        rcases hv with ⟨hw2, rfl⟩ | ⟨hw2, hv⟩
        · rw [hw2] at hw
          exact wpAny_take ho hsel hf hc (fun c a w hq => (hQp c _ w hq).elim) (.inr ⟨hw, rfl⟩) (greedyL_sound ok hsub hsel hQp n _ _ f' _ V V' w μ (A.put (VR.undef μ) o.dst) R h hQ)
        · rw [hw2] at hw
          obtain ⟨v', r1, r2⟩ := pureV_sound ok A.ev (fun b hb => (R.fresh b hb).1) R.tot hv
          exact wpAny_take ho hsel hf hc (fun c a w hq => (hQp c _ w hq).elim) (.inl ⟨hw, r2⟩) (greedyL_sound ok hsub hsel hQp n _ _ f' _ V V' w μ (A.put r1 o.dst) R h hQ)
      · -- the only one
        split at h
        case h_2 => cases h
        rename_i o ho _
        have hw := wanted_sound A o ops
        split at h
        · cases h
        rename_i hw2
        rw [hw2] at hw
        refine wpAny_all hr (by simp) fun k hk => ?_
        obtain rfl : k = i := by simpa using hk
        unfold wpOp
        simp only [ho, hw, if_true]
        left
        split at h
        · rename_i v V1 hex
          obtain ⟨n', w1, μ1, r1, r2, r3, r4⟩ := execV_sound ok R A.ev hex
          cases r4 with
          | value hv =>
            unfold Oper.wp
            rw [r1]
            exact greedyL_sound ok hsub hsel hQp n _ _ f' _ V1 V' w1 μ1 ((A.mono r2).put hv o.dst) r3 h (fun a' w' μ' e => hQ a' w' μ' (r2.trans e))
        · rename_i V1 hex
          obtain ⟨n', w1, μ1, r1, r2, r3, r4⟩ := execV_sound ok R A.ev hex
          cases r4
          unfold Oper.wp
          rw [r1]
          exact greedyL_sound ok hsub hsel hQp n _ _ f' _ V1 V' w1 μ1 ((A.mono r2).put (VR.undef μ1) o.dst) r3 h (fun a' w' μ' e => hQ a' w' μ' (r2.trans e))
        · rename_i g args V1 hex
          obtain ⟨n', w1, μ1, r1, r2, r3, r4⟩ := execV_sound ok R A.ev hex
          split at h
          case h_2 => cases h
          rename_i fn hfn
          split at h
          case h_2 => cases h
          rename_i fe hfe
          split at h
          case h_2 => cases h
          rename_i v W hrun
          cases r4 with
          | enter _ hargs =>
            rename_i args'
            have hcall := hsub g fn fe args args' V1 w1 μ1 w0 v W hfn hfe hrun r3 hargs
            unfold Oper.wp
            rw [r1]
            show Calls P g ⟨args'⟩ w1 _
            refine hcall.mono fun e w2 ⟨v', μ2, he, e2, R2, hv⟩ => ?_
            subst he
            exact greedyL_sound ok hsub hsel hQp n _ _ f' _ W V' w2 μ2 ((A.mono (r2.trans e2)).put hv o.dst) R2 h (fun a' w' μ' e => hQ a' w' μ' ((r2.trans e2).trans e))
        · cases h

/-! ### .. where loads stand beside calls -/
theorem uniqS1_list : ∀ {l x y : List Value}, l.all uniqS1 = true → LR μ l x → LR μ l y → x = y
  | [], _, _, _, .nil, .nil => rfl
  | v :: l, _, _, h, .cons h1 t1, .cons h2 t2 => by
    simp only [List.all_cons, Bool.and_eq_true] at h
    rw [uniqS1_eq h.1 h1 h2, uniqS1_list h.2 t1 t2]

theorem uniqS_eq {v a b : Value} (h : uniqS v = true) (ha : VR μ v a) (hb : VR μ v b) : a = b := by
  unfold uniqS at h
  rw [Bool.or_eq_true] at h
  rcases h with h | h
  · exact uniqS1_eq h ha hb
  · split at h
    · obtain ⟨x, rfl, hx⟩ := ha.agg_inv
      obtain ⟨y, rfl, hy⟩ := hb.agg_inv
      rw [uniqS1_list h hx hy]
    · cases h

theorem veq1_spec {a b : Value} (h : veq1 a b = true) : a = b ∧ uniqS1 a = true := by
  unfold veq1 at h
  split at h
  · rename_i x y
    cases x <;> cases y <;> first | exact ⟨rfl, rfl⟩ | cases h
  · split at h
    · rename_i hk
      have := keq_eq hk
      rw [ieq_eq, decide_eq_true_eq] at h
      exact ⟨by rw [this, h], rfl⟩
    · cases h
  · rw [leq_eq, decide_eq_true_eq] at h
    exact ⟨by rw [h], rfl⟩
  · exact ⟨rfl, rfl⟩
  · split at h
    · rename_i hk
      have h1 := Nat.eq_of_beq_eq_true hk
      have h2 := Nat.eq_of_beq_eq_true h
      exact ⟨by rw [h1, h2], rfl⟩
    · cases h
  · split at h
    · rename_i hk
      have h1 := Nat.eq_of_beq_eq_true hk
      have h2 := Nat.eq_of_beq_eq_true h
      exact ⟨by rw [h1, h2], rfl⟩
    · cases h
  · split at h
    · rename_i hk
      simp only [Bool.and_eq_true] at hk
      obtain ⟨⟨⟨h1, h2⟩, h3⟩, h4⟩ := hk
      exact ⟨by rw [Nat.eq_of_beq_eq_true h1, Nat.eq_of_beq_eq_true h2, Nat.eq_of_beq_eq_true h3, Nat.eq_of_beq_eq_true h4], h⟩
    · cases h
  · exact ⟨rfl, rfl⟩
  · exact ⟨by rw [Nat.eq_of_beq_eq_true h], rfl⟩
  · exact ⟨rfl, rfl⟩
  · exact ⟨rfl, rfl⟩
  · cases h

theorem veqL_spec : ∀ {x y : List Value}, veqL x y = true → x = y ∧ x.all uniqS1 = true
  | [], [], _ => ⟨rfl, rfl⟩
  | [], _ :: _, h => by cases h
  | _ :: _, [], h => by cases h
  | a :: x, b :: y, h => by
    unfold veqL at h
    split at h
    · rename_i h1
      obtain ⟨e1, u1⟩ := veq1_spec h1
      obtain ⟨e2, u2⟩ := veqL_spec h
      exact ⟨by rw [e1, e2], by simp only [List.all_cons, u1, u2, Bool.and_self]⟩
    · cases h

theorem veqB_spec {a b : Value} (h : veqB a b = true) : a = b ∧ uniqS a = true := by
  unfold veqB at h
  split at h
  · obtain ⟨e, u⟩ := veqL_spec h
    exact ⟨by rw [e], by unfold uniqS; rw [Bool.or_eq_true]; exact .inr u⟩
  · split at h
    · rename_i h1 h2 h3
      exact ⟨by rw [Nat.eq_of_beq_eq_true h1, (veqL_spec h2).1, (veqL_spec h3).1], by unfold uniqS uniqS1; simp only [h, Bool.true_or]⟩
    · cases h
  · split at h
    · rename_i h1 h2
      exact ⟨by rw [Nat.eq_of_beq_eq_true h1, (veq1_spec h2).1], by unfold uniqS uniqS1; simp only [h, Bool.true_or]⟩
    · cases h
  · obtain ⟨e, u⟩ := veq1_spec h
    exact ⟨e, by unfold uniqS; rw [Bool.or_eq_true]; exact .inl u⟩

/-- What 'D' says, of a world. -/
def SD (P : Program) (μ : Mu) (D : List (TypeId × Addr × Value)) (w1 : World) : Prop :=
  ∀ t a v, (t, a, v) ∈ D → ∀ a' v', VR μ (.pointer (some a)) (.pointer (some a')) → VR μ v v' → (loadVar t a').run P w1 = .ok v' w1

theorem keepsD_mem : ∀ {D : List (TypeId × Addr × Value)} {V : VW}, keepsD vp D V = true → ∀ t a v, (t, a, v) ∈ D → loadV vp t a V = some v ∧ uniqS v = true
  | [], _, _, _, _, _, h => by cases h
  | (t0, a0, v0) :: r, V, h, t, a, v, hm => by
    unfold keepsD at h
    split at h
    case h_2 => cases h
    rename_i u hu
    split at h
    case h_2 => cases h
    rename_i hv
    obtain ⟨h1, h2⟩ := veqB_spec hv
    cases hm with
    | head => exact ⟨by rw [hu, h1], h2⟩
    | tail _ hm => exact keepsD_mem h t a v hm

theorem keepsD_sound (ok : VPok P vp) {μ0 : Mu} (e : Ext μ0 μ) (R : Rel μ ro w0 V w) {D : List (TypeId × Addr × Value)} (h : keepsD vp D V = true) : SD P μ0 D w := by
  intro t a v hm a' v' ha hv
  obtain ⟨h1, h2⟩ := keepsD_mem h t a v hm
  obtain ⟨v2, r1, r2⟩ := loadV_sound ok R (ha.mono e) h1
  rw [r1, uniqS_eq h2 r2 (hv.mono e)]

theorem findD_mem : ∀ {D : List (TypeId × Addr × Value)} {t : TypeId} {a : Addr} {v : Value}, findD D t a = some v → (t, a, v) ∈ D
  | [], _, _, _, h => by cases h
  | (t0, a0, v0) :: r, t, a, v, h => by
    unfold findD at h
    split at h
    · rename_i hq
      simp only [Bool.and_eq_true] at hq
      obtain ⟨⟨⟨⟨h1, h2⟩, h3⟩, h4⟩, h5⟩ := hq
      cases h
      obtain ⟨b0, o0, s0⟩ := a0
      obtain ⟨b1, o1, s1⟩ := a
      replace h1 := Nat.eq_of_beq_eq_true h1
      replace h2 := Nat.eq_of_beq_eq_true h2
      replace h3 := Nat.eq_of_beq_eq_true h3
      simp only at h2 h3 h4 h5
      subst h1; subst h2; subst h3
      cases s0 <;> cases s1 <;> first | exact .head _ | (simp at h4; done) | (simp at h5; done)
    · exact .tail _ (findD_mem h)

theorem pickH_some {N : Nat} {D : List (TypeId × Addr × Value)} {ops : Array Oper} {s : Array Bool} {fr : VF} : ∀ {l : List Nat} {j : Nat} {o : Oper} {v : Value}, pickH P vp N D ops s fr l = some (j, o, v) →
    j ∈ l ∧ ops[j]? = some o ∧ Region.free .any ops s j = true ∧ ((wantedV o ops.toList fr.tm = false ∧ v = undef) ∨ (wantedV o ops.toList fr.tm = true ∧ (pureV P vp N fr o = some v ∨ loadD D fr o = some v)))
  | [], j, o, v, h => by cases h
  | i :: r, j, o, v, h => by
    have more : pickH P vp N D ops s fr r = some (j, o, v) → j ∈ i :: r ∧ ops[j]? = some o ∧ Region.free .any ops s j = true ∧ ((wantedV o ops.toList fr.tm = false ∧ v = undef) ∨ (wantedV o ops.toList fr.tm = true ∧ (pureV P vp N fr o = some v ∨ loadD D fr o = some v))) := fun h => by
      obtain ⟨h1, h2⟩ := pickH_some h
      exact ⟨List.mem_cons_of_mem _ h1, h2⟩
    unfold pickH at h
    split at h
    · rename_i o' ho hf
      split at h
      · rename_i hw
        simp only [Option.some.injEq, Prod.mk.injEq] at h
        obtain ⟨rfl, rfl, rfl⟩ := h
        exact ⟨List.mem_cons_self, ho, hf, .inl ⟨hw, rfl⟩⟩
      · rename_i hw
        split at h
        · rename_i u hu
          simp only [Option.some.injEq, Prod.mk.injEq] at h
          obtain ⟨rfl, rfl, rfl⟩ := h
          exact ⟨List.mem_cons_self, ho, hf, .inr ⟨hw, .inl hu⟩⟩
        · split at h
          · rename_i u hu
            simp only [Option.some.injEq, Prod.mk.injEq] at h
            obtain ⟨rfl, rfl, rfl⟩ := h
            exact ⟨List.mem_cons_self, ho, hf, .inr ⟨hw, .inr hu⟩⟩
          · exact more h
    · exact more h

theorem greedyE_same {ops : Array Oper} : ∀ {n : Nat} {s : Array Bool} {f f' : VF} {V V' : VW}, greedyE P vp ro ops n s f V = some (f', V') → SameF f f'
  | 0, s, f, f', V, V', h => by
    unfold greedyE at h
    split at h
    · simp only [Option.some.injEq, Prod.mk.injEq] at h; rw [h.1]; exact SameF.refl _
    · cases h
  | n + 1, s, f, f', V, V', h => by
    unfold greedyE at h
    split at h
    · simp only [Option.some.injEq, Prod.mk.injEq] at h; rw [h.1]; exact SameF.refl _
    · split at h
      · exact (greedyE_same h).of_tm
      · split at h
        case h_2 => cases h
        split at h
        · cases h
        · split at h
          · exact (greedyE_same h).of_tm
          · exact (greedyE_same h).of_tm
          · cases h

theorem greedyE_sound (ok : VPok P vp) {ops : Array Oper} {S : World → Prop} (hsel : Region.noSelect ops = true) {Q : Exit → Act → World → Prop} (hQp : ∀ c a w, ¬ Q (.panic c) a w) :
    ∀ (n : Nat) (s : Array Bool) (f f' : VF) (a : Act) (V V' : VW) (w : World) (μ : Mu), Closed ops s → AR μ f a → Rel μ ro w0 V w →
    greedyE P vp ro ops n s f V = some (f', V') → (∀ a' w' μ', Ext μ μ' → AR μ' f' a' → Rel μ' ro w0 V' w' → Q .normal a' w') → wpAnyU P ops Q S n s a w
  | 0, s, f, f', a, V, V', w, μ, hcl, A, R, h, hQ => by
    unfold greedyE at h
    split at h
    case h_2 => cases h
    rename_i hr
    simp only [Option.some.injEq, Prod.mk.injEq] at h
    obtain ⟨rfl, rfl⟩ := h
    exact ⟨hr, hQ a w μ (Ext.refl _) A R⟩
  | n + 1, s, f, f', a, V, V', w, μ, hcl, A, R, h, hQ => by
    unfold greedyE at h
    split at h
    · rename_i hr
      simp only [Option.some.injEq, Prod.mk.injEq] at h
      obtain ⟨rfl, rfl⟩ := h
      exact wpAnyU_done hr (hQ a w μ (Ext.refl _) A R) _
    · rename_i i r hr
      split at h
      · rename_i j o v hp
        obtain ⟨hj, ho, hf, hv⟩ := pickP_some hp
        have hw := wanted_sound A o ops
        have hc : (Region.ready .any ops s).contains j = true := by rw [hr]; simpa using hj
        rcases hv with ⟨hw2, rfl⟩ | ⟨hw2, hv⟩
        · rw [hw2] at hw
          exact wpAnyU_takeP ho hsel hcl hf hc (fun c a w hq => (hQp c _ w hq).elim) (.inr ⟨hw, rfl⟩) (greedyE_sound ok hsel hQp n _ _ f' _ V V' w μ (hcl.set (by simpa using hc)) (A.put (VR.undef μ) o.dst) R h hQ)
        · rw [hw2] at hw
          obtain ⟨v', r1, r2⟩ := pureV_sound ok A.ev (fun b hb => (R.fresh b hb).1) R.tot hv
          exact wpAnyU_takeP ho hsel hcl hf hc (fun c a w hq => (hQp c _ w hq).elim) (.inl ⟨hw, fun w1 _ => r2 w1⟩) (greedyE_sound ok hsel hQp n _ _ f' _ V V' w μ (hcl.set (by simpa using hc)) (A.put r1 o.dst) R h hQ)
      · split at h
        case h_2 => cases h
        rename_i o ho hlate _
        have hw := wanted_sound A o ops
        split at h
        · cases h
        rename_i hw2
        rw [hw2] at hw
        refine wpAnyU_all hr (by simp) fun k hk => ?_
        obtain rfl : k = i := by simpa using hk
        have hkr : k ∈ Region.ready .any ops s := by rw [hr]; exact hk
        unfold wpOp
        simp only [ho, hw, if_true]
        left
        split at h
        · rename_i v V1 hex
          obtain ⟨n', w1, μ1, r1, r2, r3, r4⟩ := execV_sound ok R A.ev hex
          cases r4 with
          | value hv =>
            unfold Oper.wp
            rw [r1]
            exact ⟨fun _ hl => (by rw [hlate] at hl; cases hl), greedyE_sound ok hsel hQp n _ _ f' _ V1 V' w1 μ1 (hcl.set hkr) ((A.mono r2).put hv o.dst) r3 h (fun a' w' μ' e => hQ a' w' μ' (r2.trans e))⟩
        · rename_i V1 hex
          obtain ⟨n', w1, μ1, r1, r2, r3, r4⟩ := execV_sound ok R A.ev hex
          cases r4
          unfold Oper.wp
          rw [r1]
          exact ⟨fun _ hl => (by rw [hlate] at hl; cases hl), greedyE_sound ok hsel hQp n _ _ f' _ V1 V' w1 μ1 (hcl.set hkr) ((A.mono r2).put (VR.undef μ1) o.dst) r3 h (fun a' w' μ' e => hQ a' w' μ' (r2.trans e))⟩
        · cases h

theorem greedyH_same {sub : VM → VS} {D : List (TypeId × Addr × Value)} {ops : Array Oper} : ∀ {n : Nat} {s : Array Bool} {f f' : VF} {V V' : VW}, greedyH P vp sub ro D ops n s f V = some (f', V') → SameF f f'
  | 0, s, f, f', V, V', h => by
    unfold greedyH at h
    split at h
    · simp only [Option.some.injEq, Prod.mk.injEq] at h; rw [h.1]; exact SameF.refl _
    · cases h
  | n + 1, s, f, f', V, V', h => by
    unfold greedyH at h
    split at h
    · simp only [Option.some.injEq, Prod.mk.injEq] at h; rw [h.1]; exact SameF.refl _
    · split at h
      · exact (greedyH_same h).of_tm
      · split at h
        case h_2 => cases h
        split at h
        · cases h
        · split at h
          · split at h
            case h_2 => cases h
            exact (greedyH_same h).of_tm
          · split at h
            · exact (greedyH_same h).of_tm
            · split at h
              · exact (greedyE_same h).of_tm
              · cases h
          · split at h
            case h_2 => cases h
            split at h
            case h_2 => cases h
            split at h
            case h_2 => cases h
            split at h
            case h_2 => cases h
            exact (greedyH_same h).of_tm
          · cases h

/-- What is there at the start of what 'D' says. -/
def HasD (μ : Mu) (D : List (TypeId × Addr × Value)) : Prop := ∀ t a v, (t, a, v) ∈ D → (a.spot = none → ∃ L, μ a.block = some L) ∧ ∃ v', VR μ v v'

theorem keepsD_has (ok : VPok P vp) (R : Rel μ ro w0 V w) {D : List (TypeId × Addr × Value)} (h : keepsD vp D V = true) : HasD μ D := by
  intro t a v hm
  obtain ⟨h1, h2⟩ := keepsD_mem h t a v hm
  obtain ⟨b, o, sp⟩ := a
  cases sp with
  | none =>
    have h1' : loadC vp t ⟨b, o, none⟩ V = some v := h1
    unfold loadC at h1'
    split at h1'
    case h_2 => cases h1'
    rename_i i n c d u tt ht hg hsp
    obtain ⟨L, O, k1, k2, k3⟩ := R.obj _ _ hg
    simp only at k1
    obtain ⟨v', _, r2⟩ := loadV_sound (P := P) ok R (VR.ptr k1 (o := o)) h1
    exact ⟨fun _ => ⟨L, k1⟩, v', r2⟩
  | some s =>
    have h1' : loadG vp t ⟨b, o, some s⟩ V = some v := h1
    have h1'' : loadG vp t ⟨b, o, some 0⟩ V = some v := h1'
    obtain ⟨v', _, r2⟩ := loadG_all (P := P) ok R h1''
    exact ⟨fun hh => (by cases hh), v', r2⟩

theorem greedyH_sound (ok : VPok P vp) {sub : VM → VS} (hsub : SubOk P vp ro sub) {ops : Array Oper} (hsel : Region.noSelect ops = true) {Q : Exit → Act → World → Prop} (hQp : ∀ c a w, ¬ Q (.panic c) a w)
    {D : List (TypeId × Addr × Value)} {μ0 : Mu} (hD : HasD μ0 D) :
    ∀ (n : Nat) (s : Array Bool) (f f' : VF) (a : Act) (V V' : VW) (w : World) (μ : Mu), Ext μ0 μ → Closed ops s → SD P μ0 D w → AR μ f a → Rel μ ro w0 V w →
    greedyH P vp sub ro D ops n s f V = some (f', V') → (∀ a' w' μ', Ext μ μ' → AR μ' f' a' → Rel μ' ro w0 V' w' → Q .normal a' w') → wpAnyU P ops Q (SD P μ0 D) n s a w
  | 0, s, f, f', a, V, V', w, μ, e0, hcl, hS, A, R, h, hQ => by
    unfold greedyH at h
    split at h
    case h_2 => cases h
    rename_i hr
    simp only [Option.some.injEq, Prod.mk.injEq] at h
    obtain ⟨rfl, rfl⟩ := h
    exact ⟨hr, hQ a w μ (Ext.refl _) A R⟩
  | n + 1, s, f, f', a, V, V', w, μ, e0, hcl, hS, A, R, h, hQ => by
    unfold greedyH at h
    split at h
    · rename_i hr
      simp only [Option.some.injEq, Prod.mk.injEq] at h
      obtain ⟨rfl, rfl⟩ := h
      exact wpAnyU_done hr (hQ a w μ (Ext.refl _) A R) _
    · rename_i i r hr
      split at h
      · -- one that may be taken first
        rename_i j o v hp
        obtain ⟨hj, ho, hf, hv⟩ := pickH_some hp
        have hw := wanted_sound A o ops
        have hc : (Region.ready .any ops s).contains j = true := by rw [hr]; simpa using hj
        rcases hv with ⟨hw2, rfl⟩ | ⟨hw2, hv⟩
        · rw [hw2] at hw
          exact wpAnyU_takeP ho hsel hcl hf hc (fun c a w hq => (hQp c _ w hq).elim) (.inr ⟨hw, rfl⟩) (greedyH_sound ok hsub hsel hQp hD n _ _ f' _ V V' w μ e0 (hcl.set (by simpa using hc)) hS (A.put (VR.undef μ) o.dst) R h hQ)
        · rw [hw2] at hw
          rcases hv with hv | hv
          · obtain ⟨v', r1, r2⟩ := pureV_sound ok A.ev (fun b hb => (R.fresh b hb).1) R.tot hv
            exact wpAnyU_takeP ho hsel hcl hf hc (fun c a w hq => (hQp c _ w hq).elim) (.inl ⟨hw, fun w1 _ => r2 w1⟩) (greedyH_sound ok hsub hsel hQp hD n _ _ f' _ V V' w μ e0 (hcl.set (by simpa using hc)) hS (A.put r1 o.dst) R h hQ)
          · -- a load
            unfold loadD at hv
            split at hv
            case h_2 => cases hv
            rename_i t x hop
            split at hv
            case h_2 => cases hv
            rename_i ad hx
            have hm := findD_mem hv
            obtain ⟨hLL, v', hvr⟩ := hD _ _ _ hm
            have hr2 := A.ev _ _ hx
            obtain ⟨a2, ea⟩ := VR.ptr_inv hr2
            rw [ea] at hr2
            have hr0 : VR μ0 (.pointer (some ad)) (.pointer (some a2)) := by
              cases hr2 with
              | glob g o => exact .glob g o
              | ptr hm2 =>
                obtain ⟨L, hL⟩ := hLL rfl
                simp only at hL
                have := e0 _ _ hL
                rw [hm2] at this
                cases this
                exact .ptr hL
            refine wpAnyU_take ho hsel hcl hf hc (fun c a w hq => (hQp c _ w hq).elim) (by unfold loadB; rw [hop]) (.inl ⟨hw, fun w1 hw1 => ?_⟩) hS (greedyH_sound ok hsub hsel hQp hD n _ _ f' _ V V' w μ e0 (hcl.set (by simpa using hc)) hS (A.put (hvr.mono e0) o.dst) R h hQ)
            simp [execOp, hop, Instr.loadAt, ea, sureAddr_ptr, hw1 _ _ _ hm _ _ hr0 hvr]
      · -- the only one
        split at h
        case h_2 => cases h
        rename_i o ho _
        have hw := wanted_sound A o ops
        split at h
        · cases h
        rename_i hw2
        rw [hw2] at hw
        refine wpAnyU_all hr (by simp) fun k hk => ?_
        obtain rfl : k = i := by simpa using hk
        have hkr : k ∈ Region.ready .any ops s := by rw [hr]; exact hk
        unfold wpOp
        simp only [ho, hw, if_true]
        left
        split at h
        · rename_i v V1 hex
          obtain ⟨n', w1, μ1, r1, r2, r3, r4⟩ := execV_sound ok R A.ev hex
          split at h
          case h_2 => cases h
          rename_i hk
          have hS1 := keepsD_sound ok (e0.trans r2) r3 hk
          cases r4 with
          | value hv =>
            unfold Oper.wp
            rw [r1]
            exact ⟨fun _ _ => hS1, greedyH_sound ok hsub hsel hQp hD n _ _ f' _ V1 V' w1 μ1 (e0.trans r2) (hcl.set hkr) hS1 ((A.mono r2).put hv o.dst) r3 h (fun a' w' μ' e => hQ a' w' μ' (r2.trans e))⟩
        · rename_i V1 hex
          obtain ⟨n', w1, μ1, r1, r2, r3, r4⟩ := execV_sound ok R A.ev hex
          split at h
          case h_2 =>
            split at h
            case h_2 => cases h
            rename_i hlate
            cases r4
            unfold Oper.wp
            rw [r1]
            exact ⟨fun _ hl => (by rw [hlate] at hl; cases hl), greedyE_sound ok hsel hQp n _ _ f' _ V1 V' w1 μ1 (hcl.set hkr) ((A.mono r2).put (VR.undef μ1) o.dst) r3 h (fun a' w' μ' e => hQ a' w' μ' (r2.trans e))⟩
          rename_i hk
          have hS1 := keepsD_sound ok (e0.trans r2) r3 hk
          cases r4
          unfold Oper.wp
          rw [r1]
          exact ⟨fun _ _ => hS1, greedyH_sound ok hsub hsel hQp hD n _ _ f' _ V1 V' w1 μ1 (e0.trans r2) (hcl.set hkr) hS1 ((A.mono r2).put (VR.undef μ1) o.dst) r3 h (fun a' w' μ' e => hQ a' w' μ' (r2.trans e))⟩
        · rename_i g args V1 hex
          obtain ⟨n', w1, μ1, r1, r2, r3, r4⟩ := execV_sound ok R A.ev hex
          split at h
          case h_2 => cases h
          rename_i fn hfn
          split at h
          case h_2 => cases h
          rename_i fe hfe
          split at h
          case h_2 => cases h
          rename_i v W hrun
          split at h
          case h_2 => cases h
          rename_i hk
          cases r4 with
          | enter _ hargs =>
            rename_i args'
            have hcall := hsub g fn fe args args' V1 w1 μ1 w0 v W hfn hfe hrun r3 hargs
            unfold Oper.wp
            rw [r1]
            show Calls P g ⟨args'⟩ w1 _
            refine hcall.mono fun e w2 ⟨v', μ2, he, e2, R2, hv⟩ => ?_
            subst he
            have hS2 := keepsD_sound ok (e0.trans (r2.trans e2)) R2 hk
            exact ⟨fun _ _ => hS2, greedyH_sound ok hsub hsel hQp hD n _ _ f' _ W V' w2 μ2 (e0.trans (r2.trans e2)) (hcl.set hkr) hS2 ((A.mono (r2.trans e2)).put hv o.dst) R2 h (fun a' w' μ' e => hQ a' w' μ' ((r2.trans e2).trans e))⟩
        · cases h

/-! ### .. where nothing old is written -/
theorem oldV_rel {μ0 : Mu} (e : Ext μ0 μ) {N : Nat} (hT : ∀ b, b < N → ∃ L, μ0 b = some L) : ∀ (n : Nat) (v v' : Value), oldV N n v = true → VR μ v v' → VR μ0 v v' := by
  have hq : ∀ b L, b < N → μ b = some L → μ0 b = some L := fun b L hb hm => by
    obtain ⟨L0, h0⟩ := hT b hb
    have := e _ _ h0
    rw [hm] at this
    cases this
    exact h0
  intro n
  induction n with
  | zero =>
    intro v v' h r
    cases r with
    | bool b => exact .bool b
    | int k n => exact .int k n
    | str s => exact .str s
    | nilp => exact .nilp
    | nils => exact .nils
    | nilm => exact .nilm
    | nilf => exact .nilf
    | nili => exact .nili
    | glob g o => exact .glob g o
    | ptr hm => exact .ptr (hq _ _ (lt_of_blt (by simpa [oldV] using h)) hm)
    | slice hm ho hc hl hu => exact .slice (hq _ _ (lt_of_blt h) hm) ho hc hl hu
    | map hm h0 => exact .map (hq _ _ (lt_of_blt h) hm) h0
    | _ => simp [oldV] at h
  | succ n ih =>
    have hl : ∀ {l m : List Value}, l.all (oldV N n) = true → LR μ l m → LR μ0 l m := by
      intro l m h1 h2
      induction h2 with
      | nil => exact .nil
      | cons hx _ ihl =>
        simp only [List.all_cons, Bool.and_eq_true] at h1
        exact .cons (ih _ _ h1.1 hx) (ihl h1.2)
    intro v v' h r
    cases r with
    | bool b => exact .bool b
    | int k n => exact .int k n
    | str s => exact .str s
    | nilp => exact .nilp
    | nils => exact .nils
    | nilm => exact .nilm
    | nilf => exact .nilf
    | nili => exact .nili
    | glob g o => exact .glob g o
    | ptr hm => exact .ptr (hq _ _ (lt_of_blt (by simpa [oldV] using h)) hm)
    | slice hm ho hc hl' hu => exact .slice (hq _ _ (lt_of_blt h) hm) ho hc hl' hu
    | map hm h0 => exact .map (hq _ _ (lt_of_blt h) hm) h0
    | iface t hv => exact .iface t (ih _ _ h hv)
    | agg ha ra => exact VR.aggL (hl h (LR.of_idx ha ra))
    | tuple ha ra => exact VR.tupleL (hl h (LR.of_idx ha ra))
    | func f ha hc ra rc =>
      simp only [oldV, Bool.and_eq_true] at h
      exact VR.funcL f (hl h.1 (LR.of_idx ha ra)) (hl h.2 (LR.of_idx hc rc))
    | _ => simp [oldV] at h

theorem oldL_rel {μ0 : Mu} (e : Ext μ0 μ) {N : Nat} (hT : ∀ b, b < N → ∃ L, μ0 b = some L) : ∀ {l m : List Value}, l.all (oldV N 10) = true → LR μ l m → LR μ0 l m
  | _, _, _, .nil => .nil
  | _, _, h, .cons hx ht => by
    simp only [List.all_cons, Bool.and_eq_true] at h
    exact .cons (oldV_rel e hT 10 _ _ h.1 hx) (oldL_rel e hT h.2 ht)

theorem yieldA_sound (ok : VPok P vp) {μ0 : Mu} {ws : World} (R0 : Rel μ0 ro w0 V ws) (e : Ext μ0 μ) {fr : VF} {ρ : Operand → Value} (E : Ev μ fr ρ) {sub : VM → VS} (hsub : SubOk P vp V.next sub) {o : Oper} {v : Value}
    (h : yieldA P vp sub fr o V = some v) : ∃ v', VR μ0 v v' ∧ ∀ w1, Grow ws w1 → Oper.quietUpon P (Grow w1) w1 v' ((execOp ρ o).run P w1) := by
  unfold yieldA at h
  split at h
  · rename_i hc
    split at h
    case h_2 => cases h
    rename_i g args V1 hex
    split at h
    case h_2 => cases h
    rename_i fn hfn hold
    split at h
    case h_2 => cases h
    rename_i f' hfe
    split at h
    case h_2 => cases h
    rename_i u W hrun
    split at h
    case h_2 => cases h
    rename_i hflat
    cases h
    refine ⟨v, flat_refl 10 v hflat, fun w1 hw1 => ?_⟩
    have R1 := R0.at' (w1 := w1) hw1.block
    -- what is asked, over what stands now
    have key : ∃ args', (execOp ρ o).run P w1 = .ok (.enter g ⟨args'⟩) w1 ∧ LR μ args args' := by
      obtain ⟨g', as, args', q1, _, q3, q4⟩ := exec_callE (w := w1) ok E hc hex
      cases q1
      exact ⟨args', q3, q4⟩
    obtain ⟨args', q3, q4⟩ := key
    have hl := oldL_rel e R0.tot hold q4
    rw [q3]
    refine ⟨rfl, ?_⟩
    refine (hsub g fn f' args args' V w1 μ0 w1 v W hfn hfe hrun R1 hl).mono fun e' w3 ⟨v', μ2, he, _, R3, hv⟩ => ?_
    subst he
    rw [flat_eq 10 _ _ hflat hv]
    exact ⟨rfl, R3.below⟩
  · split at h
    case h_2 => cases h
    rename_i t x hop
    split at h
    case h_2 => cases h
    rename_i ad hx
    have hr2 := E _ _ hx
    obtain ⟨a2, ea⟩ := VR.ptr_inv hr2
    rw [ea] at hr2
    have hr0 : VR μ0 (.pointer (some ad)) (.pointer (some a2)) := by
      cases hr2 with
      | glob g o => exact .glob g o
      | ptr hm2 =>
        have h' := h
        unfold loadV at h'
        simp only at h'
        unfold loadC at h'
        split at h'
        case h_2 => cases h'
        rename_i i n c d u tt ht hg hsp
        obtain ⟨L, O, k1, _, _⟩ := R0.obj _ _ hg
        simp only at k1
        have := e _ _ k1
        rw [hm2] at this
        cases this
        exact .ptr k1
    obtain ⟨v', r1, r2⟩ := loadV_all (P := P) ok R0 hr0 h
    refine ⟨v', r2, fun w1 hw1 => ?_⟩
    have : (execOp ρ o).run P w1 = .ok (.value v') w1 := by simp [execOp, hop, Instr.loadAt, ea, sureAddr_ptr, r1 w1 hw1.block]
    rw [this]
    exact ⟨rfl, rfl⟩

theorem pickQ_some {sub : VM → VS} {N : Nat} {V0 : VW} {ops : Array Oper} {s : Array Bool} {fr : VF} : ∀ {l : List Nat} {j : Nat} {o : Oper} {v : Value}, pickQ P vp sub N V0 ops s fr l = some (j, o, v) →
    j ∈ l ∧ ops[j]? = some o ∧ Region.free .any ops s j = true ∧ ((wantedV o ops.toList fr.tm = false ∧ v = undef) ∨ (wantedV o ops.toList fr.tm = true ∧ (pureV P vp N fr o = some v ∨ yieldA P vp sub fr o V0 = some v)))
  | [], j, o, v, h => by cases h
  | i :: r, j, o, v, h => by
    have more : pickQ P vp sub N V0 ops s fr r = some (j, o, v) → j ∈ i :: r ∧ ops[j]? = some o ∧ Region.free .any ops s j = true ∧ ((wantedV o ops.toList fr.tm = false ∧ v = undef) ∨ (wantedV o ops.toList fr.tm = true ∧ (pureV P vp N fr o = some v ∨ yieldA P vp sub fr o V0 = some v))) := fun h => by
      obtain ⟨h1, h2⟩ := pickQ_some h
      exact ⟨List.mem_cons_of_mem _ h1, h2⟩
    unfold pickQ at h
    split at h
    · rename_i o' ho hf
      split at h
      · rename_i hw
        simp only [Option.some.injEq, Prod.mk.injEq] at h
        obtain ⟨rfl, rfl, rfl⟩ := h
        exact ⟨List.mem_cons_self, ho, hf, .inl ⟨hw, rfl⟩⟩
      · rename_i hw
        split at h
        · rename_i u hu
          simp only [Option.some.injEq, Prod.mk.injEq] at h
          obtain ⟨rfl, rfl, rfl⟩ := h
          exact ⟨List.mem_cons_self, ho, hf, .inr ⟨hw, .inl hu⟩⟩
        · split at h
          · rename_i u hu
            simp only [Option.some.injEq, Prod.mk.injEq] at h
            obtain ⟨rfl, rfl, rfl⟩ := h
            exact ⟨List.mem_cons_self, ho, hf, .inr ⟨hw, .inr hu⟩⟩
          · exact more h
    · exact more h

theorem greedyQ_same {sub : VM → VS} {V0 : VW} {ops : Array Oper} : ∀ {n : Nat} {s : Array Bool} {f f' : VF} {V V' : VW}, greedyQ P vp sub V0 ops n s f V = some (f', V') → SameF f f'
  | 0, s, f, f', V, V', h => by
    unfold greedyQ at h
    split at h
    · simp only [Option.some.injEq, Prod.mk.injEq] at h; rw [h.1]; exact SameF.refl _
    · cases h
  | n + 1, s, f, f', V, V', h => by
    unfold greedyQ at h
    split at h
    · simp only [Option.some.injEq, Prod.mk.injEq] at h; rw [h.1]; exact SameF.refl _
    · split at h
      · exact (greedyQ_same h).of_tm
      · split at h
        case h_2 => cases h
        split at h
        · cases h
        · split at h
          · exact (greedyQ_same h).of_tm
          · exact (greedyQ_same h).of_tm
          · split at h
            case h_2 => cases h
            split at h
            case h_2 => cases h
            split at h
            case h_2 => cases h
            exact (greedyQ_same h).of_tm
          · cases h

theorem greedyQ_sound (ok : VPok P vp) {V0 : VW} {ws : World} {μ0 : Mu} (R0 : Rel μ0 ro w0 V0 ws) {sub : VM → VS} (hsub : SubOk P vp V0.next sub) {ops : Array Oper} (hsel : Region.noSelect ops = true) {Q : Exit → Act → World → Prop} (hQp : ∀ c a w, ¬ Q (.panic c) a w) :
    ∀ (n : Nat) (s : Array Bool) (f f' : VF) (a : Act) (V V' : VW) (w : World) (μ : Mu), Ext μ0 μ → AR μ f a → Rel μ V0.next ws V w →
    greedyQ P vp sub V0 ops n s f V = some (f', V') → (∀ a' w' μ', Ext μ μ' → AR μ' f' a' → Rel μ' V0.next ws V' w' → Q .normal a' w') → wpAnyG P .any ops Q (Grow ws) n s a w
  | 0, s, f, f', a, V, V', w, μ, e0, A, R, h, hQ => by
    unfold greedyQ at h
    split at h
    case h_2 => cases h
    rename_i hr
    simp only [Option.some.injEq, Prod.mk.injEq] at h
    obtain ⟨rfl, rfl⟩ := h
    exact fun w1 g _ => ⟨hr, hQ a w1 μ (Ext.refl _) A (R.more g)⟩
  | n + 1, s, f, f', a, V, V', w, μ, e0, A, R, h, hQ => by
    have hSg : ∀ w w1, Grow ws w → Grow w w1 → Grow ws w1 := fun _ _ h k => h.trans k
    unfold greedyQ at h
    split at h
    · rename_i hr
      simp only [Option.some.injEq, Prod.mk.injEq] at h
      obtain ⟨rfl, rfl⟩ := h
      exact fun w1 g _ => ⟨fun _ => hQ a w1 μ (Ext.refl _) A (R.more g), fun i hi => by rw [hr] at hi; cases hi⟩
    · rename_i i r hr
      split at h
      · -- one that may be taken first
        rename_i j o v hp
        obtain ⟨hj, ho, hf, hv⟩ := pickQ_some hp
        have hw := wanted_sound A o ops
        have hc : (Region.ready .any ops s).contains j = true := by rw [hr]; simpa using hj
        rcases hv with ⟨hw2, rfl⟩ | ⟨hw2, hv⟩
        · rw [hw2] at hw
          exact wpAnyG_take hSg ho hsel hf hc (fun c a w hq => (hQp c _ w hq).elim) (.inr ⟨hw, rfl⟩) (greedyQ_sound ok R0 hsub hsel hQp n _ _ f' _ V V' w μ e0 (A.put (VR.undef μ) o.dst) R h hQ)
        · rw [hw2] at hw
          rcases hv with hv | hv
          · obtain ⟨v', r1, r2⟩ := pureV_sound ok A.ev (fun b hb => (R.fresh b hb).1) R.tot hv
            exact wpAnyG_take hSg ho hsel hf hc (fun c a w hq => (hQp c _ w hq).elim) (.inl ⟨hw, fun w1 _ => by unfold Oper.quietAt; rw [r2 w1]; exact ⟨rfl, rfl⟩⟩) (greedyQ_sound ok R0 hsub hsel hQp n _ _ f' _ V V' w μ e0 (A.put r1 o.dst) R h hQ)
          · obtain ⟨v', r1, r2⟩ := yieldA_sound ok R0 e0 A.ev hsub hv
            exact wpAnyG_take hSg ho hsel hf hc (fun c a w hq => (hQp c _ w hq).elim) (.inl ⟨hw, fun w1 hw1 => r2 w1 hw1⟩) (greedyQ_sound ok R0 hsub hsel hQp n _ _ f' _ V V' w μ e0 (A.put (r1.mono e0) o.dst) R h hQ)
      · -- the only one
        split at h
        case h_2 => cases h
        rename_i o ho _
        have hw := wanted_sound A o ops
        split at h
        · cases h
        rename_i hw2
        rw [hw2] at hw
        intro w9 g9 hS9
        have R9 := R.more g9
        refine ⟨fun hh => (by rw [hr] at hh; cases hh), fun k hk => ?_⟩
        rw [hr] at hk
        obtain rfl : k = i := by simpa using hk
        unfold wpOp
        simp only [ho, hw, if_true]
        left
        split at h
        · rename_i v V1 hex
          obtain ⟨n', w1, μ1, r1, r2, r3, r4⟩ := execV_sound ok R9 A.ev hex
          cases r4 with
          | value hv =>
            unfold Oper.wp
            rw [r1]
            exact ⟨r3.below, greedyQ_sound ok R0 hsub hsel hQp n _ _ f' _ V1 V' w1 μ1 (e0.trans r2) ((A.mono r2).put hv o.dst) r3 h (fun a' w' μ' e => hQ a' w' μ' (r2.trans e))⟩
        · rename_i V1 hex
          obtain ⟨n', w1, μ1, r1, r2, r3, r4⟩ := execV_sound ok R9 A.ev hex
          cases r4
          unfold Oper.wp
          rw [r1]
          exact ⟨r3.below, greedyQ_sound ok R0 hsub hsel hQp n _ _ f' _ V1 V' w1 μ1 (e0.trans r2) ((A.mono r2).put (VR.undef μ1) o.dst) r3 h (fun a' w' μ' e => hQ a' w' μ' (r2.trans e))⟩
        · rename_i g args V1 hex
          obtain ⟨n', w1, μ1, r1, r2, r3, r4⟩ := execV_sound ok R9 A.ev hex
          split at h
          case h_2 => cases h
          rename_i fn hfn
          split at h
          case h_2 => cases h
          rename_i fe hfe
          split at h
          case h_2 => cases h
          rename_i v W hrun
          cases r4 with
          | enter _ hargs =>
            rename_i args'
            have hcall := hsub g fn fe args args' V1 w1 μ1 ws v W hfn hfe hrun r3 hargs
            unfold Oper.wp
            rw [r1]
            show Calls P g ⟨args'⟩ w1 _
            refine hcall.mono fun e w2 ⟨v', μ2, he, e2, R2, hv⟩ => ?_
            subst he
            exact ⟨R2.below, greedyQ_sound ok R0 hsub hsel hQp n _ _ f' _ W V' w2 μ2 (e0.trans (r2.trans e2)) ((A.mono (r2.trans e2)).put hv o.dst) R2 h (fun a' w' μ' e => hQ a' w' μ' ((r2.trans e2).trans e))⟩
        · cases h

theorem SameF.trans {f g k : VF} (p : SameF f g) (q : SameF g k) : SameF f k := by
  obtain ⟨p1, p2, p3, p4, p5, p6⟩ := p
  obtain ⟨q1, q2, q3, q4, q5, q6⟩ := q
  exact ⟨q1.trans p1, q2.trans p2, q3.trans p3, q4.trans p4, q5.trans p5, q6.trans p6⟩

theorem drawG_sound (ok : VPok P vp) (hm : P.follows .mixedOrders = true) (R : Rel μ ro w0 V w) {subQ sub : VM → VS} (hq : SubOk P vp V.next subQ) (hs : SubOk P vp ro sub) {ops : Array Oper} {id : Nat} {f f' : VF} {a : Act} (A : AR μ f a)
    (h : drawG P vp subQ sub ro ops f V = some (f', V')) : SameF f f' ∧ (Code.region id ops true).wp P (fun e a' w' => e = .normal ∧ ∃ μ', Ext μ μ' ∧ AR μ' f' a' ∧ Rel μ' ro w0 V' w') a w := by
  have hQp : ∀ c a w, ¬ (fun (e : Exit) (a' : Act) (w' : World) => e = .normal ∧ ∃ μ', Ext μ μ' ∧ AR μ' f' a' ∧ Rel μ' ro w0 V' w') (.panic c) a w := fun c a w hh => by cases hh.1
  unfold drawG at h
  split at h
  · cases h
  rename_i hsel
  split at h
  · rename_i r hg
    cases h
    exact ⟨greedyL_same hg, wp_region_any hm (greedyL_sound ok hs hsel hQp _ _ f f' a V V' _ μ A (R.drawn _) hg (fun a' w' μ' e A' R' => ⟨rfl, μ', e, A', R'⟩))⟩
  · split at h
    · rename_i r hg
      cases h
      unfold heldG at hg
      split at hg
      · cases hg
      rename_i x rr _
      split at hg
      case h_2 => cases hg
      rename_i hk
      exact ⟨greedyH_same hg, wp_region_u hm (greedyH_sound ok hs hsel hQp (keepsD_has ok R hk) _ _ f f' a V V' _ μ (Ext.refl _) (closed_none _) (keepsD_sound ok (Ext.refl _) (R.drawn _) hk) A (R.drawn _) hg (fun a' w' μ' e A' R' => ⟨rfl, μ', e, A', R'⟩))⟩
    split at h
    · rename_i fq Vq hg
      cases h
      have Rs := R.drawn (w.drawn + 1)
      exact ⟨greedyQ_same hg, wp_region_any hm (wpAny_of_G _ _ _ _ (Grow.refl _) (greedyQ_sound ok Rs hq hsel hQp _ _ f f' a V Vq _ μ (Ext.refl _) A Rs.sub hg (fun a' w' μ' e A' R' => ⟨rfl, μ', e, A', Rs.unsub e R'⟩)))⟩
    generalize quietN P vp subQ ops.toList V ops.toList f = m at h
    unfold headG at h
    split at h
    case h_2 => cases h
    rename_i z hb hl
    split at h
    case h_2 => cases h
    rename_i hz
    split at h
    case h_2 => cases h
    rename_i f1 hq1
    simp only [Bool.and_eq_true] at hb
    have hn : m < ops.toList.length := lt_of_blt hb.1.1.2
    obtain ⟨s1, s2⟩ := quietL_sound ok R hq (ops := ops) (ops.toList.take m) f f1 a
      (fun a' => ∀ w1, Below w.heap.size w w1 → wpAny P .any ops (fun e a' w' => e = Exit.normal ∧ ∃ μ', Ext μ μ' ∧ AR μ' f' a' ∧ Rel μ' ro w0 V' w') (ops.toList.length - m) z a' w1) A hq1
      (fun a' A' w1 hw1 => greedyL_sound ok hs hsel hQp _ _ f1 f' a' V V' w1 μ A' (R.more hw1) h (fun a' w' μ' e A'' R'' => ⟨rfl, μ', e, A'', R''⟩))
    exact ⟨s1.trans (greedyL_same h), head_region (l := ops.toList) (n := m) (z := z) (C := fun w' => Below w.heap.size w w') hm hsel hn hb.1.2 (chain_of_W hb.2) hl
      (fun j hj => Nat.le_of_ble_eq_true (List.all_eq_true.1 hz j hj)) (Below.refl _ _ |>.drew) s2⟩

/-- **A region that draws its order.** -/
theorem drawV_sound (ok : VPok P vp) (hm : P.follows .mixedOrders = true) (R : Rel μ ro w0 V w) {subQ sub : VM → VS} (hq : SubOk P vp V.next subQ) (hs : SubOk P vp ro sub) {ops : Array Oper} {id : Nat} {f f' : VF} {a : Act} (A : AR μ f a)
    (h : drawV P vp subQ sub ro ops f V = some (f', V')) : SameF f f' ∧ (Code.region id ops true).wp P (fun e a' w' => e = .normal ∧ ∃ μ', Ext μ μ' ∧ AR μ' f' a' ∧ Rel μ' ro w0 V' w') a w := by
  unfold drawV at h
  split at h
  · rename_i f1 hq1
    simp only [Option.some.injEq, Prod.mk.injEq] at h
    obtain ⟨rfl, rfl⟩ := h
    split at hq1
    case h_2 => cases hq1
    rename_i hB
    obtain ⟨s1, s2⟩ := quietL_sound ok R hq ops.toList f f1 a (fun a' => ∀ w', Below w.heap.size w w' → (fun e a' w' => e = Exit.normal ∧ ∃ μ', Ext μ μ' ∧ AR μ' f1 a' ∧ Rel μ' ro w0 V w') Exit.normal a' w') A hq1
      (fun a' A' w' hw' => ⟨rfl, μ, Ext.refl _, A', R.more hw'⟩)
    exact ⟨s1, wp_region_quiet hm hB (C := fun w' => Below w.heap.size w w') (Below.refl _ _ |>.drew) s2⟩
  · split at h
    case h_2 =>
      split at h
      · rename_i r hr
        cases h
        exact drawT_sound ok hm R hq hs A hr
      · exact drawG_sound ok hm R hq hs A h
    rename_i hB
    split at h
    case h_2 => cases h
    rename_i f1 hq1
    have R1 : Rel μ ro w0 V { w with drawn := w.drawn + 1 } := R.drawn _
    -- the end, from whatever frame the head leaves
    have key : ∀ a', AR μ f1 a' → SameF f1 f' ∧ wpList P ops (fun e a' w' => e = Exit.normal ∧ ∃ μ', Ext μ μ' ∧ AR μ' f' a' ∧ Rel μ' ro w0 V' w') (ops.toList.drop (headN ops.toList)) a' { w with drawn := w.drawn + 1 } := fun a' A' =>
      tailL_sound ok hs _ f1 f' a' V V' _ μ _ A' R1 h (fun a' w' μ' e A'' R'' => ⟨rfl, μ', e, A'', R''⟩)
    obtain ⟨s1, s2⟩ := still_sound ok R1 (ops := ops) (ops.toList.take (headN ops.toList)) f f1 a (fun a' => wpList P ops (fun e a' w' => e = Exit.normal ∧ ∃ μ', Ext μ μ' ∧ AR μ' f' a' ∧ Rel μ' ro w0 V' w') (ops.toList.drop (headN ops.toList)) a' { w with drawn := w.drawn + 1 }) A hq1
      (fun a' A' => (key a' A').2)
    have hsame : SameF f1 f' := by
      exact tailL_same h
    refine ⟨?_, ?_⟩
    · obtain ⟨p1, p2, p3, p4, p5, p6⟩ := s1
      obtain ⟨q1, q2, q3, q4, q5, q6⟩ := hsame
      exact ⟨q1.trans p1, q2.trans p2, q3.trans p3, q4.trans p4, q5.trans p5, q6.trans p6⟩
    · exact wp_region_still_tail (l := ops.toList) (headN ops.toList) hm hB s2

end
end Go.Wvm
