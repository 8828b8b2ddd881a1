/- Regions that draw their order. -/
import Derived.Test.YtnefhpkkbehjeaaGreatDoorWvmHeld
import Derived.OrdersHeld
set_option linter.unusedSimpArgs false
set_option linter.unusedVariables false
namespace Go.Wvm
open Go.RowKit

section
variable {P : Program} {vp : VP} {μ : Mu} {ro : Nat} {w0 : Base} {V V' : VW} {w : World}

/-- A run from a call's beginning tells the call. -/
def SubOk (P : Program) (vp : VP) (ro : Nat) (sub : VM → VS) : Prop :=
  ∀ (g : FuncId) (fn : Func) (f' : VF) (args args' : List Value) (V : VW) (w : World) (μ : Mu) (w0 : Base) (v : Value) (W : VW), vp.fn.get g = some fn → VF.enter fn g args .normal = some f' →
    sub { fr := f', cs := [], w := V } = .over v W → Rel μ ro w0 V w → LR μ args args' →
    Calls P g ⟨args'⟩ w fun e w2 => ∃ v' μ', e = .returned v' ∧ Ext μ μ' ∧ Rel μ' ro w0 W w2 ∧ VR μ' v v'

theorem noSub_ok : SubOk P vp ro noSub := by
  intro g fn f' args args' V w μ w0 v W _ _ h
  cases h

/-- In a world that has more blocks it stands as it stood. -/
theorem Rel.more (R : Rel μ ro w0 V w) {w1 : World} (h : Below w.heap.size w w1) : Rel μ ro w0 V w1 where
  below := R.below.trans (h.mono R.below.size)
  fresh := R.fresh
  obj b o hb := by
    obtain ⟨L, O, h1, h2, h3⟩ := R.obj b o hb
    exact ⟨L, O, h1, (h.block _ (heap_lt h2)).trans h2, h3⟩
  inj := R.inj
  new := R.new
  tot := R.tot
  ron := R.ron
  glob g l hl := by
    obtain ⟨q1, q2, e, fz, q3⟩ := R.glob g l hl
    exact ⟨q1, q2, e, fz, (h.block _ (heap_lt q3)).trans q3⟩
  keep k O hk := (h.block _ (heap_lt (R.keep k O hk))).trans (R.keep k O hk)
  lt b L hb hm := Nat.lt_of_lt_of_le (R.lt b L hb hm) h.size
  apart := R.apart
  stale := R.stale

/-- What does not turn in a frame within a region. -/
def SameF (f g : VF) : Prop := g.fn = f.fn ∧ g.nt = f.nt ∧ g.todo = f.todo ∧ g.defers = f.defers ∧ g.ret = f.ret ∧ g.kind = f.kind

theorem SameF.refl (f : VF) : SameF f f := ⟨rfl, rfl, rfl, rfl, rfl, rfl⟩
theorem SameF.of_tm {f g : VF} {t : Tr Value} (h : SameF { f with tm := t } g) : SameF f g := h

theorem quietL_sound (ok : VPok P vp) (R : Rel μ ro w0 V w) {sub : VM → VS} (hsub : SubOk P vp V.next sub) {ops : Array Oper} : ∀ (l : List Oper) (f f' : VF) (a : Act) (Q : Act → Prop), AR μ f a →
    quietL P vp sub ops.toList V l f = some f' → (∀ a', AR μ f' a' → Q a') → SameF f f' ∧ wpQuiet P ops (fun w' => Below w.heap.size w w') Q l a
  | [], f, f', a, Q, A, h, hQ => by
    simp only [quietL, Option.some.injEq] at h
    subst h
    exact ⟨SameF.refl _, hQ a A⟩
  | o :: rest, f, f', a, Q, A, h, hQ => by
    simp only [quietL] at h
    have hw := wanted_sound A o ops
    simp only [wpQuiet]
    rw [hw]
    split at h
    · rename_i hf
      rw [hf]
      simp only [Bool.false_eq_true, if_false]
      obtain ⟨s1, s2⟩ := quietL_sound ok R hsub rest _ f' _ Q (A.put (VR.undef μ) o.dst) h hQ
      exact ⟨s1.of_tm, s2⟩
    · rename_i ht
      rw [ht]
      simp only [if_true]
      split at h
      · rename_i v V1 _ hex
        split at h
        case h_2 => cases h
        rename_i hq
        obtain ⟨v', h1, h2⟩ := quiet_op ok R A.ev hq hex
        obtain ⟨s1, s2⟩ := quietL_sound ok R hsub rest _ f' _ Q (A.put h1 o.dst) h hQ
        refine ⟨s1.of_tm, v', fun w1 hw1 => ?_, s2⟩
        unfold Oper.quietAt
        rw [h2 w1 hw1.block]
        exact ⟨rfl, rfl⟩
      · rename_i g args V1 hcall hex
        split at h
        case h_2 => cases h
        rename_i fn hfn
        split at h
        case h_2 => cases h
        rename_i fe hfe
        split at h
        case h_2 => cases h
        rename_i v W hrun
        split at h
        case h_2 => cases h
        rename_i hflat
        obtain ⟨s1, s2⟩ := quietL_sound ok R hsub rest _ f' _ Q (A.put (flat_refl 10 v hflat) o.dst) h hQ
        refine ⟨s1.of_tm, v, fun w1 hw1 => ?_, s2⟩
        have R1 := R.at' (w1 := w1) hw1.block
        obtain ⟨g', as, args', r1, rfl, r3, r4⟩ := exec_call (w := w1) ok R1 A.ev hcall hex
        cases r1
        unfold Oper.quietAt
        rw [r3]
        refine ⟨rfl, ?_⟩
        refine (hsub g fn fe args args' V1 w1 μ w1 v W hfn hfe hrun R1 r4).mono fun e w3 ⟨v', μ2, he, _, R3, hv⟩ => ?_
        subst he
        rw [flat_eq 10 _ _ hflat hv]
        exact ⟨rfl, hw1.trans (R3.below.mono hw1.size)⟩
      · cases h

theorem still_sound (ok : VPok P vp) (R : Rel μ ro w0 V w) {ops : Array Oper} : ∀ (l : List Oper) (f f' : VF) (a : Act) (Q : Act → Prop), AR μ f a →
    quietL P vp noSub ops.toList V l f = some f' → (∀ a', AR μ f' a' → Q a') → SameF f f' ∧ wpStill P ops w Q l a
  | [], f, f', a, Q, A, h, hQ => by
    simp only [quietL, Option.some.injEq] at h
    subst h
    exact ⟨SameF.refl _, hQ a A⟩
  | o :: rest, f, f', a, Q, A, h, hQ => by
    simp only [quietL] at h
    have hw := wanted_sound A o ops
    simp only [wpStill]
    rw [hw]
    split at h
    · rename_i hf
      rw [hf]
      simp only [Bool.false_eq_true, if_false]
      obtain ⟨s1, s2⟩ := still_sound ok R rest _ f' _ Q (A.put (VR.undef μ) o.dst) h hQ
      exact ⟨s1.of_tm, s2⟩
    · rename_i ht
      rw [ht]
      simp only [if_true]
      split at h
      · rename_i v V1 _ hex
        split at h
        case h_2 => cases h
        rename_i hq
        obtain ⟨v', h1, h2⟩ := quiet_op ok R A.ev hq hex
        obtain ⟨s1, s2⟩ := still_sound ok R rest _ f' _ Q (A.put h1 o.dst) h hQ
        refine ⟨s1.of_tm, ?_⟩
        unfold Oper.still
        rw [h2 w fun _ _ => rfl]
        exact ⟨rfl, s2⟩
      · split at h
        case h_2 => cases h
        split at h
        case h_2 => cases h
        split at h
        case h_2 => cases h
        rename_i hrun
        cases hrun
      · cases h


theorem uniqS1_eq {v a b : Value} (h : uniqS1 v = true) (ha : VR μ v a) (hb : VR μ v b) : a = b := by
  unfold uniqS1 at h
  split at h
  · rename_i p l c
    have h := lt_of_blt h
    cases ha with
    | slice h1 ho1 hc1 hl1 hu1 =>
      cases hb with
      | slice h2 ho2 hc2 hl2 hu2 =>
        rename_i b0 o0 o1 c1 L1 o2 c2 L2
        rw [h1] at h2; cases h2
        have e1 := ho1 h
        have e2 := ho2 h
        subst e1
        subst e2
        have hcc : c1 = c2 := by
          rcases Nat.eq_zero_or_pos L1.unit with hz | hz
          · rw [hu1.1 hz, hu2.1 hz]
          · have q1 := (hu1.2 (by omega)).2 h
            have q2 := (hu2.2 (by omega)).2 h
            exact Nat.eq_of_mul_eq_mul_right hz (by omega)
        rw [hcc]
  · exact uniq_eq 10 _ _ _ h ha hb

/-! ### One operation at a time -/
theorem pureV_sound (ok : VPok P vp) {N : Nat} {fr : VF} {ρ : Operand → Value} (E : Ev μ fr ρ) (hN : ∀ b, N ≤ b → μ b = none) (hT : ∀ b, b < N → ∃ L, μ b = some L) {o : Oper} {v : Value} (h : pureV P vp N fr o = some v) :
    ∃ v', VR μ v v' ∧ ∀ w1, (execOp ρ o).run P w1 = .ok (.value v') w1 := by
  have R0 : ∀ w1 : World, Rel μ N w1 { next := N, heap := .nil, gl := .nil } w1 := fun w1 =>
    { below := Below.refl _ _
      keep := fun _ _ h => nomatch h
      lt := fun b L hb hm => by rw [hN b hb] at hm; cases hm
      apart := fun _ _ _ _ => rfl
      stale := fun _ _ h => h.elim
      fresh := fun b hb => ⟨hN b hb, Tr.get_nil b⟩
      obj := fun b o hb => by rw [show ({ next := N, heap := .nil, gl := .nil } : VW).heap.get b = none from Tr.get_nil b] at hb; cases hb
      inj := fun b b' L L' o o' _ hb => by rw [show ({ next := N, heap := .nil, gl := .nil } : VW).heap.get b = none from Tr.get_nil b] at hb; cases hb
      new := fun b L hb hm => by rw [hN b hb] at hm; cases hm
      tot := hT
      ron := Nat.le_refl _
      glob := fun g l hl => by rw [show ({ next := N, heap := .nil, gl := .nil } : VW).gl.get g = none from Tr.get_nil g] at hl; cases hl }
  unfold pureV at h
  split at h
  case h_2 => cases h
  rename_i u V1 hex
  split at h
  case h_2 => cases h
  rename_i hk
  cases h
  rw [Bool.or_eq_true] at hk
  rcases hk with hk | hk
  · unfold execV at hex
    cases hop : o.op <;> rw [hop] at hex hk <;> dsimp only at hex <;> (first | (cases hex; done) | (simp [isMove] at hk; done) | skip)
    case move x =>
      unfold one at hex
      split at hex
      case h_2 => cases hex
      rename_i y hy
      simp only [Option.some.injEq, Prod.mk.injEq, VN.value.injEq] at hex
      obtain ⟨rfl, _⟩ := hex
      exact ⟨ρ x, E _ _ hy, fun w1 => by simp [execOp, hop]⟩
    case assign x =>
      unfold one at hex
      split at hex
      case h_2 => cases hex
      rename_i y hy
      simp only [Option.some.injEq, Prod.mk.injEq, VN.value.injEq] at hex
      obtain ⟨rfl, _⟩ := hex
      exact ⟨ρ x, E _ _ hy, fun w1 => by simp [execOp, hop]⟩
  · rw [Bool.or_eq_true, Bool.and_eq_true, Bool.and_eq_true] at hk
    rcases hk with hk | hk
    · have hns : ∀ a b c, VN.value v ≠ .value (.slice (some a) b c) := fun a b c e => by cases e; simp [uniq] at hk
      obtain ⟨u, v', h1, _, h3, h4⟩ := quietK_fine ok (R0 default) E hk.1 hex hns
      cases h1
      refine ⟨v', h4, fun w1 => ?_⟩
      obtain ⟨u, v2, h1, _, h5, h6⟩ := quietK_fine ok (R0 w1) E hk.1 hex hns
      cases h1
      rw [h5, uniq_eq 10 _ _ _ hk.2 h4 h6]
    · unfold execV at hex
      cases hop : o.op <;> rw [hop] at hex hk <;> dsimp only at hex <;> (first | (cases hex; done) | (simp [isSlice] at hk; done) | skip)
      case slice t x lo hi mx =>
        obtain ⟨u, v', h1, _, h3, h4⟩ := (exec_slice ok (R0 default) E hop hex).fineS
        cases h1
        refine ⟨v', h4, fun w1 => ?_⟩
        obtain ⟨u, v2, h1, _, h5, h6⟩ := (exec_slice ok (R0 w1) E hop hex).fineS
        cases h1
        rw [h5, uniqS1_eq hk.2 h4 h6]

theorem pickP0_some {N : Nat} {ops : Array Oper} {s : Array Bool} {fr : VF} : ∀ {l : List Nat} {j : Nat} {o : Oper} {v : Value}, pickP0 P vp N ops s fr l = some (j, o, v) →
    j ∈ l ∧ ops[j]? = some o ∧ Region.free .any ops s j = true ∧ ((wantedV o ops.toList fr.tm = false ∧ v = undef) ∨ (wantedV o ops.toList fr.tm = true ∧ pureV P vp N fr o = some v))
  | [], j, o, v, h => by cases h
  | i :: r, j, o, v, h => by
    have more : pickP0 P vp N ops s fr r = some (j, o, v) → j ∈ i :: r ∧ ops[j]? = some o ∧ Region.free .any ops s j = true ∧ ((wantedV o ops.toList fr.tm = false ∧ v = undef) ∨ (wantedV o ops.toList fr.tm = true ∧ pureV P vp N fr o = some v)) := fun h => by
      obtain ⟨h1, h2⟩ := pickP0_some h
      exact ⟨List.mem_cons_of_mem _ h1, h2⟩
    unfold pickP0 at h
    split at h
    · rename_i o' ho hf
      split at h
      · rename_i hw
        simp only [Option.some.injEq, Prod.mk.injEq] at h
        obtain ⟨rfl, rfl, rfl⟩ := h
        exact ⟨List.mem_cons_self, ho, hf, .inl ⟨hw, rfl⟩⟩
      · rename_i hw
        split at h
        · rename_i u hu
          simp only [Option.some.injEq, Prod.mk.injEq] at h
          obtain ⟨rfl, rfl, rfl⟩ := h
          exact ⟨List.mem_cons_self, ho, hf, .inr ⟨hw, hu⟩⟩
        · exact more h
    · exact more h

/-! ### .. where loads stand beside calls -/
theorem uniqS1_list : ∀ {l x y : List Value}, l.all uniqS1 = true → LR μ l x → LR μ l y → x = y
  | [], _, _, _, .nil, .nil => rfl
  | v :: l, _, _, h, .cons h1 t1, .cons h2 t2 => by
    simp only [List.all_cons, Bool.and_eq_true] at h
    rw [uniqS1_eq h.1 h1 h2, uniqS1_list h.2 t1 t2]

theorem uniqS_eq {v a b : Value} (h : uniqS v = true) (ha : VR μ v a) (hb : VR μ v b) : a = b := by
  unfold uniqS at h
  rw [Bool.or_eq_true] at h
  rcases h with h | h
  · exact uniqS1_eq h ha hb
  · split at h
    · obtain ⟨x, rfl, hx⟩ := ha.agg_inv
      obtain ⟨y, rfl, hy⟩ := hb.agg_inv
      rw [uniqS1_list h hx hy]
    · cases h

theorem veq1_spec {a b : Value} (h : veq1 a b = true) : a = b ∧ uniqS1 a = true := by
  unfold veq1 at h
  split at h
  · rename_i x y
    cases x <;> cases y <;> first | exact ⟨rfl, rfl⟩ | cases h
  · split at h
    · rename_i hk
      have := keq_eq hk
      rw [ieq_eq, decide_eq_true_eq] at h
      exact ⟨by rw [this, h], rfl⟩
    · cases h
  · rw [leq_eq, decide_eq_true_eq] at h
    exact ⟨by rw [h], rfl⟩
  · exact ⟨rfl, rfl⟩
  · split at h
    · rename_i hk
      have h1 := Nat.eq_of_beq_eq_true hk
      have h2 := Nat.eq_of_beq_eq_true h
      exact ⟨by rw [h1, h2], rfl⟩
    · cases h
  · split at h
    · rename_i hk
      have h1 := Nat.eq_of_beq_eq_true hk
      have h2 := Nat.eq_of_beq_eq_true h
      exact ⟨by rw [h1, h2], rfl⟩
    · cases h
  · split at h
    · rename_i hk
      simp only [Bool.and_eq_true] at hk
      obtain ⟨⟨⟨h1, h2⟩, h3⟩, h4⟩ := hk
      exact ⟨by rw [Nat.eq_of_beq_eq_true h1, Nat.eq_of_beq_eq_true h2, Nat.eq_of_beq_eq_true h3, Nat.eq_of_beq_eq_true h4], h⟩
    · cases h
  · exact ⟨rfl, rfl⟩
  · exact ⟨by rw [Nat.eq_of_beq_eq_true h], rfl⟩
  · exact ⟨rfl, rfl⟩
  · exact ⟨rfl, rfl⟩
  · cases h

theorem veqL_spec : ∀ {x y : List Value}, veqL x y = true → x = y ∧ x.all uniqS1 = true
  | [], [], _ => ⟨rfl, rfl⟩
  | [], _ :: _, h => by cases h
  | _ :: _, [], h => by cases h
  | a :: x, b :: y, h => by
    unfold veqL at h
    split at h
    · rename_i h1
      obtain ⟨e1, u1⟩ := veq1_spec h1
      obtain ⟨e2, u2⟩ := veqL_spec h
      exact ⟨by rw [e1, e2], by simp only [List.all_cons, u1, u2, Bool.and_self]⟩
    · cases h

theorem veqB_spec {a b : Value} (h : veqB a b = true) : a = b ∧ uniqS a = true := by
  unfold veqB at h
  split at h
  · obtain ⟨e, u⟩ := veqL_spec h
    exact ⟨by rw [e], by unfold uniqS; rw [Bool.or_eq_true]; exact .inr u⟩
  · split at h
    · rename_i h1 h2 h3
      exact ⟨by rw [Nat.eq_of_beq_eq_true h1, (veqL_spec h2).1, (veqL_spec h3).1], by unfold uniqS uniqS1; simp only [h, Bool.true_or]⟩
    · cases h
  · split at h
    · rename_i h1 h2
      exact ⟨by rw [Nat.eq_of_beq_eq_true h1, (veq1_spec h2).1], by unfold uniqS uniqS1; simp only [h, Bool.true_or]⟩
    · cases h
  · obtain ⟨e, u⟩ := veq1_spec h
    exact ⟨e, by unfold uniqS; rw [Bool.or_eq_true]; exact .inl u⟩

theorem greedyE0_same {ops : Array Oper} : ∀ {n : Nat} {s : Array Bool} {f f' : VF} {V V' : VW}, greedyE0 P vp ro ops n s f V = some (f', V') → SameF f f'
  | 0, s, f, f', V, V', h => by
    unfold greedyE0 at h
    split at h
    · simp only [Option.some.injEq, Prod.mk.injEq] at h; rw [h.1]; exact SameF.refl _
    · cases h
  | n + 1, s, f, f', V, V', h => by
    unfold greedyE0 at h
    split at h
    · simp only [Option.some.injEq, Prod.mk.injEq] at h; rw [h.1]; exact SameF.refl _
    · split at h
      · exact (greedyE0_same h).of_tm
      · split at h
        case h_2 => cases h
        split at h
        · cases h
        · split at h
          · exact (greedyE0_same h).of_tm
          · exact (greedyE0_same h).of_tm
          · cases h

theorem greedyE0_sound (ok : VPok P vp) {ops : Array Oper} {S : World → Prop} (hsel : Region.noSelect ops = true) {Q : Exit → Act → World → Prop} (hQp : ∀ c a w, ¬ Q (.panic c) a w) :
    ∀ (n : Nat) (s : Array Bool) (f f' : VF) (a : Act) (V V' : VW) (w : World) (μ : Mu), Closed ops s → AR μ f a → Rel μ ro w0 V w →
    greedyE0 P vp ro ops n s f V = some (f', V') → (∀ a' w' μ', Ext μ μ' → AR μ' f' a' → Rel μ' ro w0 V' w' → Q .normal a' w') → wpAnyU P ops Q S n s a w
  | 0, s, f, f', a, V, V', w, μ, hcl, A, R, h, hQ => by
    unfold greedyE0 at h
    split at h
    case h_2 => cases h
    rename_i hr
    simp only [Option.some.injEq, Prod.mk.injEq] at h
    obtain ⟨rfl, rfl⟩ := h
    exact ⟨hr, hQ a w μ (Ext.refl _) A R⟩
  | n + 1, s, f, f', a, V, V', w, μ, hcl, A, R, h, hQ => by
    unfold greedyE0 at h
    split at h
    · rename_i hr
      simp only [Option.some.injEq, Prod.mk.injEq] at h
      obtain ⟨rfl, rfl⟩ := h
      exact wpAnyU_done hr (hQ a w μ (Ext.refl _) A R) _
    · rename_i i r hr
      split at h
      · rename_i j o v hp
        obtain ⟨hj, ho, hf, hv⟩ := pickP0_some hp
        have hw := wanted_sound A o ops
        have hc : (Region.ready .any ops s).contains j = true := by rw [hr]; simpa using hj
        rcases hv with ⟨hw2, rfl⟩ | ⟨hw2, hv⟩
        · rw [hw2] at hw
          exact wpAnyU_takeP ho hsel hcl hf hc (fun c a w hq => (hQp c _ w hq).elim) (.inr ⟨hw, rfl⟩) (greedyE0_sound ok hsel hQp n _ _ f' _ V V' w μ (hcl.set (by simpa using hc)) (A.put (VR.undef μ) o.dst) R h hQ)
        · rw [hw2] at hw
          obtain ⟨v', r1, r2⟩ := pureV_sound ok A.ev (fun b hb => (R.fresh b hb).1) R.tot hv
          exact wpAnyU_takeP ho hsel hcl hf hc (fun c a w hq => (hQp c _ w hq).elim) (.inl ⟨hw, fun w1 _ => r2 w1⟩) (greedyE0_sound ok hsel hQp n _ _ f' _ V V' w μ (hcl.set (by simpa using hc)) (A.put r1 o.dst) R h hQ)
      · split at h
        case h_2 => cases h
        rename_i o ho hlate _
        have hw := wanted_sound A o ops
        split at h
        · cases h
        rename_i hw2
        rw [hw2] at hw
        refine wpAnyU_all hr (by simp) fun k hk => ?_
        obtain rfl : k = i := by simpa using hk
        have hkr : k ∈ Region.ready .any ops s := by rw [hr]; exact hk
        unfold wpOp
        simp only [ho, hw, if_true]
        left
        split at h
        · rename_i v V1 hex
          obtain ⟨n', w1, μ1, r1, r2, r3, r4⟩ := execV_sound ok R A.ev hex
          cases r4 with
          | value hv =>
            unfold Oper.wp
            rw [r1]
            exact ⟨fun _ hl => (by rw [hlate] at hl; cases hl), greedyE0_sound ok hsel hQp n _ _ f' _ V1 V' w1 μ1 (hcl.set hkr) ((A.mono r2).put hv o.dst) r3 h (fun a' w' μ' e => hQ a' w' μ' (r2.trans e))⟩
        · rename_i V1 hex
          obtain ⟨n', w1, μ1, r1, r2, r3, r4⟩ := execV_sound ok R A.ev hex
          cases r4
          unfold Oper.wp
          rw [r1]
          exact ⟨fun _ hl => (by rw [hlate] at hl; cases hl), greedyE0_sound ok hsel hQp n _ _ f' _ V1 V' w1 μ1 (hcl.set hkr) ((A.mono r2).put (VR.undef μ1) o.dst) r3 h (fun a' w' μ' e => hQ a' w' μ' (r2.trans e))⟩
        · cases h

theorem SameF.trans {f g k : VF} (p : SameF f g) (q : SameF g k) : SameF f k := by
  obtain ⟨p1, p2, p3, p4, p5, p6⟩ := p
  obtain ⟨q1, q2, q3, q4, q5, q6⟩ := q
  exact ⟨q1.trans p1, q2.trans p2, q3.trans p3, q4.trans p4, q5.trans p5, q6.trans p6⟩

end
end Go.Wvm
