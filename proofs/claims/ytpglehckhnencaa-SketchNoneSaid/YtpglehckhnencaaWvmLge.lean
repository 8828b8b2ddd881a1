/- Regions that draw their order, in the logic over the small machine. -/
import Derived.Test.YtpglehckhnencaaWvmLgd
set_option linter.unusedSimpArgs false
set_option linter.unusedVariables false
namespace Go.Wvm
open Go.RowKit

section
variable {P : Program} {vp : VP}

/-- What is known of one run. -/
noncomputable def subOne (m1 : VM) (v : Value) (W : VW) : VM → VS := by
  classical exact fun m => if m = m1 then .over v W else .stop 0

theorem subOne_ok (ok : VPok P vp) {ro : Nat} {g : FuncId} {args : List Value} {V W : VW} {v : Value} {fn : Func} {f' : VF} (hg : vp.fn.get g = some fn) (he : VF.enter fn g args .normal = some f') (hend : EndsFrom P ro { fr := f', cs := [], w := V } v W) :
    SubOk P vp ro (subOne { fr := f', cs := [], w := V } v W) := by
  intro g2 fn2 f2 args2 args2' V2 w μ w0 v2 W2 hfn hfe hrun R hl bottom
  unfold subOne at hrun
  split at hrun
  case isFalse => cases hrun
  rename_i e
  simp only [VS.over.injEq] at hrun
  obtain ⟨rfl, rfl⟩ := hrun
  simp only [VM.mk.injEq] at e
  obtain ⟨rfl, _, rfl⟩ := e
  obtain ⟨hf, _, _⟩ := fn_facts ok hfn
  obtain ⟨a', g1, g2, g3, g4⟩ := enter_sound hf hl hfe
  obtain ⟨v', μ', w', F, h1, h2, h3, h4, h5, h6⟩ := hend w0 f2 [] V2 μ a' none [] w rfl g2 (by rw [g4]; exact trivial) .nil R bottom
  refine ⟨.returned v', w', F, ⟨v', μ', rfl, h4, h5, h6⟩, ?_, h2.trans g3, h3⟩
  show Steps P _ _
  rw [g1]; exact h1

/-- Quiet operations, one behind the other. -/
inductive QR (P : Program) (vp : VP) (all : List Oper) (V : VW) : List Oper → VF → VF → Prop
  | nil {f : VF} : QR P vp all V [] f f
  | cons {o : Oper} {rest : List Oper} {f f1 f2 : VF} {sub : VM → VS} (hs : SubOk P vp V.next sub) (h : quietL P vp sub all V [o] f = some f1) (t : QR P vp all V rest f1 f2) : QR P vp all V (o :: rest) f f2
/-- Others. -/
inductive TR (P : Program) (vp : VP) (ro : Nat) (all : List Oper) : List Oper → VF → VW → VF → VW → Prop
  | nil {f : VF} {w : VW} : TR P vp ro all [] f w f w
  | skip {o : Oper} {rest : List Oper} {f f2 : VF} {w w2 : VW} (hw : wantedV o all f.tm = false) (t : TR P vp ro all rest { f with tm := f.put o.dst undef } w f2 w2) : TR P vp ro all (o :: rest) f w f2 w2
  | value {o : Oper} {rest : List Oper} {f f2 : VF} {w w1 w2 : VW} {v : Value} (hw : wantedV o all f.tm = true) (hx : execV P vp ro f o w = some (.value v, w1)) (t : TR P vp ro all rest { f with tm := f.put o.dst v } w1 f2 w2) : TR P vp ro all (o :: rest) f w f2 w2
  | act {o : Oper} {rest : List Oper} {f f2 : VF} {w w1 w2 : VW} (hw : wantedV o all f.tm = true) (hx : execV P vp ro f o w = some (.skip, w1)) (t : TR P vp ro all rest { f with tm := f.put o.dst undef } w1 f2 w2) : TR P vp ro all (o :: rest) f w f2 w2
  | call {o : Oper} {rest : List Oper} {f f2 : VF} {w w1 w2 w3 : VW} {g : FuncId} {args : List Value} {v : Value} (hw : wantedV o all f.tm = true) (hx : execV P vp ro f o w = some (.enter g args, w1)) (hr : FnRuns P vp ro g args w1 v w2) (t : TR P vp ro all rest { f with tm := f.put o.dst v } w2 f2 w3) : TR P vp ro all (o :: rest) f w f2 w3

theorem QR.sound (ok : VPok P vp) {μ : Mu} {ro : Nat} {w0 : World} {V : VW} {w : World} (R : Rel μ ro w0 V w) {ops : Array Oper} {l : List Oper} {f f' : VF} (h : QR P vp ops.toList V l f f') : ∀ (a : Act) (Q : Act → Prop), AR μ f a → (∀ a', AR μ f' a' → Q a') →
    SameF f f' ∧ wpQuiet P ops (fun w' => Below w.heap.size w w') Q l a := by
  induction h with
  | nil => exact fun a Q A hQ => ⟨SameF.refl _, hQ a A⟩
  | @cons o rest f f1 f2 sub hs h1 t ih =>
    intro a Q A hQ
    have hsame : SameF f1 f2 := by
      -- from any frame that stands for it
      obtain ⟨s1, s2⟩ := quietL_sound ok R hs (ops := ops) [o] f f1 a (fun _ => True) A h1 (fun _ _ => trivial)
      by_cases hex : ∃ a', AR μ f1 a'
      · obtain ⟨a', A'⟩ := hex
        exact (ih a' Q A' hQ).1
      · exfalso
        have := (quietL_sound ok R hs (ops := ops) [o] f f1 a (fun _ => False) A h1 (fun a' A' => hex ⟨a', A'⟩)).2
        have := s2
        have hq : ∀ (l : List Oper) (a : Act), wpQuiet P ops (fun w' => Below w.heap.size w w') (fun _ => False) l a → False := by
          intro l
          induction l with
          | nil => exact fun a h => h
          | cons o l ihl =>
            intro a h
            simp only [wpQuiet] at h
            split at h
            · obtain ⟨v, _, h2⟩ := h
              exact ihl _ h2
            · exact ihl _ h
        exact hq _ _ ‹wpQuiet P ops _ (fun _ => False) [o] a›
    obtain ⟨s1, s2⟩ := quietL_sound ok R hs (ops := ops) [o] f f1 a (fun a' => wpQuiet P ops (fun w' => Below w.heap.size w w') Q rest a') A h1 (fun a' A' => (ih a' Q A' hQ).2)
    exact ⟨s1.trans hsame, s2⟩

theorem TR.same {ro : Nat} {all l : List Oper} {f f' : VF} {V V' : VW} (h : TR P vp ro all l f V f' V') : SameF f f' := by
  induction h with
  | nil => exact SameF.refl _
  | skip _ _ ih => exact ih.of_tm
  | value _ _ _ ih => exact ih.of_tm
  | act _ _ _ ih => exact ih.of_tm
  | call _ _ _ _ ih => exact ih.of_tm

theorem TR.sound (ok : VPok P vp) {ro : Nat} {w0 : World} {ops : Array Oper} {l : List Oper} {f f' : VF} {V V' : VW} (h : TR P vp ro ops.toList l f V f' V') : ∀ (a : Act) (w : World) (μ : Mu) (Q : Exit → Act → World → Prop), AR μ f a → Rel μ ro w0 V w →
    (∀ a' w' μ', Ext μ μ' → AR μ' f' a' → Rel μ' ro w0 V' w' → Q .normal a' w') → wpList P ops Q l a w := by
  induction h with
  | nil => exact fun a w μ Q A R hQ => hQ a w μ (Ext.refl _) A R
  | skip hw t ih =>
    intro a w μ Q A R hQ
    have hw' := wanted_sound A ‹Oper› ops
    simp only [wpList]
    rw [hw', hw]
    simp only [Bool.false_eq_true, if_false]
    exact ih _ w μ Q (A.put (VR.undef μ) _) R hQ
  | value hw hx t ih =>
    intro a w μ Q A R hQ
    have hw' := wanted_sound A ‹Oper› ops
    simp only [wpList]
    rw [hw', hw]
    simp only [if_true]
    obtain ⟨n', w1, μ1, r1, r2, r3, r4⟩ := execV_sound ok R A.ev hx
    cases r4 with
    | value hv =>
      refine .inl ?_
      unfold Oper.wp
      rw [r1]
      exact ih _ w1 μ1 Q ((A.mono r2).put hv _) r3 (fun a' w' μ' e => hQ a' w' μ' (r2.trans e))
  | act hw hx t ih =>
    intro a w μ Q A R hQ
    have hw' := wanted_sound A ‹Oper› ops
    simp only [wpList]
    rw [hw', hw]
    simp only [if_true]
    obtain ⟨n', w1, μ1, r1, r2, r3, r4⟩ := execV_sound ok R A.ev hx
    cases r4
    refine .inl ?_
    unfold Oper.wp
    rw [r1]
    exact ih _ w1 μ1 Q ((A.mono r2).put (VR.undef μ1) _) r3 (fun a' w' μ' e => hQ a' w' μ' (r2.trans e))
  | @call o rest f f2 Va Vb Vc Vd g args v hw hx hr t ih =>
    intro a w μ Q A R hQ
    have hw' := wanted_sound A o ops
    simp only [wpList]
    rw [hw', hw]
    simp only [if_true]
    obtain ⟨n', w1, μ1, r1, r2, r3, r4⟩ := execV_sound ok R A.ev hx
    obtain ⟨fn, fe, hfn, hfe, hend⟩ := hr
    cases r4 with
    | enter _ hargs =>
      rename_i args'
      have hcall := subOne_ok ok hfn hfe hend g fn fe args args' Vb w1 μ1 w0 v Vc hfn hfe (by unfold subOne; simp) r3 hargs
      refine .inl ?_
      unfold Oper.wp
      rw [r1]
      show Calls P g ⟨args'⟩ w1 _
      refine hcall.mono fun e w2 ⟨v', μ2, he, e2, R2, hv⟩ => ?_
      subst he
      exact ih _ w2 μ2 Q ((A.mono (r2.trans e2)).put hv _) R2 (fun a' w' μ' e => hQ a' w' μ' ((r2.trans e2).trans e))

theorem leads_region {ro : Nat} {id : Nat} {ops : Array Oper} {fn nt : Nat} {tm tm' : Tr Value} {k : List Item} {ds : List Deferred} {kind : CallKind} {cs : List VF} {V V' : VW}
    (h : ∀ (w0 : World) (μ : Mu) (a : Act) (w : World), AR μ ⟨fn, tm, nt, .code (.region id ops true) :: k, ds, false, kind, none⟩ a → Rel μ ro w0 V w →
      (Code.region id ops true).wp P (fun e a' w' => e = .normal ∧ ∃ μ', Ext μ μ' ∧ AR μ' ⟨fn, tm', nt, .code (.region id ops true) :: k, ds, false, kind, none⟩ a' ∧ Rel μ' ro w0 V' w') a w) :
    Leads P ro ⟨⟨fn, tm, nt, .code (.region id ops true) :: k, ds, false, kind, none⟩, cs, V⟩ ⟨⟨fn, tm', nt, k, ds, false, kind, none⟩, cs, V'⟩ := by
  intro w0 f cs0 V0 μ a r Fs w hmm A hrd C R bottom
  cases hmm
  obtain rfl := (show RdR μ none r from hrd).none_inv
  obtain ⟨e, a', w1, ⟨rfl, μ1, e1, A1, R1⟩, harr⟩ := h w0 μ a w A R (base ⟨fn, tm, nt, .code (.region id ops true) :: k, ds, false, kind, none⟩ none) k (Fs ++ bottom)
  have harr : Steps P (lone ((base ⟨fn, tm, nt, .code (.region id ops true) :: k, ds, false, kind, none⟩ none).at a (.code (.region id ops true) :: k)) (Fs ++ bottom) w) (lone ((base ⟨fn, tm, nt, .code (.region id ops true) :: k, ds, false, kind, none⟩ none).at a' k) (Fs ++ bottom) w1) := harr
  rw [← Frame.atR_of_none rfl, ← Frame.atR_of_none rfl] at harr
  refine ⟨⟨a', Fs, w1, μ1, none, ?_, e1, ⟨A1.size, A1.tmp, A1.non, A1.defers⟩, trivial, C.mono e1, R1⟩, rfl⟩
  exact harr

theorem leads_draw (ok : VPok P vp) (hm : P.follows .mixedOrders = true) {ro : Nat} {id n : Nat} {ops : Array Oper} {fn nt : Nat} {tm tm1 tm2 : Tr Value} {k : List Item} {ds : List Deferred} {kind : CallKind} {cs : List VF} {V V2 : VW}
    (hB : Region.lexTailB .any ops n = true) (h1 : QR P vp ops.toList V (ops.toList.take n) ⟨fn, tm, nt, .code (.region id ops true) :: k, ds, false, kind, none⟩ ⟨fn, tm1, nt, .code (.region id ops true) :: k, ds, false, kind, none⟩)
    (h2 : TR P vp ro ops.toList (ops.toList.drop n) ⟨fn, tm1, nt, .code (.region id ops true) :: k, ds, false, kind, none⟩ V ⟨fn, tm2, nt, .code (.region id ops true) :: k, ds, false, kind, none⟩ V2) :
    Leads P ro ⟨⟨fn, tm, nt, .code (.region id ops true) :: k, ds, false, kind, none⟩, cs, V⟩ ⟨⟨fn, tm2, nt, k, ds, false, kind, none⟩, cs, V2⟩ := by
  refine leads_region fun w0 μ a w A R => ?_
  obtain ⟨s1, s2⟩ := h1.sound ok R a (fun a' => ∀ w1, Below w.heap.size w w1 → wpList P ops (fun e a' w' => e = Exit.normal ∧ ∃ μ', Ext μ μ' ∧ AR μ' ⟨fn, tm2, nt, .code (.region id ops true) :: k, ds, false, kind, none⟩ a' ∧ Rel μ' ro w0 V2 w') (ops.toList.drop n) a' w1) A
    (fun a' A' w1 hw1 => h2.sound ok a' w1 μ _ A' (R.more hw1) (fun a' w' μ' e A'' R'' => ⟨rfl, μ', e, A'', R''⟩))
  exact region_quiet_tail (l := ops.toList) (n := n) (C := fun w' => Below w.heap.size w w') hm hB (Below.refl _ _ |>.drew) s2

/-- .. where all of it is quiet. -/
theorem leads_quiet (ok : VPok P vp) (hm : P.follows .mixedOrders = true) {ro : Nat} {id : Nat} {ops : Array Oper} {fn nt : Nat} {tm tm1 : Tr Value} {k : List Item} {ds : List Deferred} {kind : CallKind} {cs : List VF} {V : VW}
    (hB : Region.lexB .any ops = true) (h1 : QR P vp ops.toList V ops.toList ⟨fn, tm, nt, .code (.region id ops true) :: k, ds, false, kind, none⟩ ⟨fn, tm1, nt, .code (.region id ops true) :: k, ds, false, kind, none⟩) :
    Leads P ro ⟨⟨fn, tm, nt, .code (.region id ops true) :: k, ds, false, kind, none⟩, cs, V⟩ ⟨⟨fn, tm1, nt, k, ds, false, kind, none⟩, cs, V⟩ := by
  refine leads_region fun w0 μ a w A R => ?_
  obtain ⟨s1, s2⟩ := h1.sound ok R a (fun a' => ∀ w', Below w.heap.size w w' → (fun e a' w' => e = Exit.normal ∧ ∃ μ', Ext μ μ' ∧ AR μ' ⟨fn, tm1, nt, .code (.region id ops true) :: k, ds, false, kind, none⟩ a' ∧ Rel μ' ro w0 V w') Exit.normal a' w') A
    (fun a' A' w' hw' => ⟨rfl, μ, Ext.refl _, A', R.more hw'⟩)
  exact wp_region_quiet hm hB (C := fun w' => Below w.heap.size w w') (Below.refl _ _ |>.drew) s2

/-! ### Heads and tails -/
def Hq (P : Program) (vp : VP) (F : FX) (all os : List Oper) (E : En) (M : AM) (Q : En → Prop) : Prop :=
  ∀ ro tm w, Has tm E → Abs ro w M → ∃ E' tm', Q E' ∧ Has tm' E' ∧ ∀ k ds kind, QR P vp all w os ⟨F.fn, tm, F.nt, k, ds, false, kind, none⟩ ⟨F.fn, tm', F.nt, k, ds, false, kind, none⟩
def Tq (P : Program) (vp : VP) (ro : Nat) (F : FX) (all os : List Oper) (E : En) (M : AM) (Q : En → AM → Prop) : Prop :=
  ∀ tm w, Has tm E → Abs ro w M → ∃ E' M' tm' w', Q E' M' ∧ Has tm' E' ∧ Abs ro w' M' ∧ ∀ k ds kind, TR P vp ro all os ⟨F.fn, tm, F.nt, k, ds, false, kind, none⟩ w ⟨F.fn, tm', F.nt, k, ds, false, kind, none⟩ w'

section
variable {ro : Nat} {F : FX} {all os : List Oper} {E : En} {M : AM}
theorem putVF {fn nt : Nat} {tm : Tr Value} {k : List Item} {ds : List Deferred} {kind : CallKind} {d : Option Nat} {v : Value} : ({ VF.mk fn tm nt k ds false kind none with tm := (VF.mk fn tm nt k ds false kind none).put d v } : VF) = ⟨fn, putT nt tm d v, nt, k, ds, false, kind, none⟩ := rfl

theorem Hq.nil {Q : En → Prop} (h : Q E) : Hq P vp F all [] E M Q := fun ro tm w hE hM => ⟨E, tm, h, hE, fun k ds kind => .nil⟩
theorem Hq.pu {Q : En → Prop} {d : Nat} {op : Op} {ty : TypeId} {pos : String} {after : Array Edge} {g : Option (Nat × Bool)} {v : Value} (hw : Want E all g true) (h1 : Pu P vp E M op v) (hc : isCall op = false) (hq : (quietAny op || (quietK op && uniq 10 v)) = true) (hd : Nat.blt d F.nt = true)
    (h : Hq P vp F all os ((d, v) :: E) M Q) : Hq P vp F all (⟨some d, op, ty, pos, after, g⟩ :: os) E M Q := by
  intro ro tm w hE hM
  obtain ⟨E', tm', q1, q2, q3⟩ := h ro (putT F.nt tm (some d) v) w (hE.put hd v) hM
  refine ⟨E', tm', q1, q2, fun k ds kind => .cons (sub := noSub) (fun g fn f' args args' V w μ w0 v W _ _ h => by cases h) ?_ (q3 k ds kind)⟩
  have hwv := Want.wantedV (o := ⟨some d, op, ty, pos, after, g⟩) hw hE
  have hx := h1 w.next ro ⟨F.fn, tm, F.nt, k, ds, false, kind, none⟩ w ⟨some d, op, ty, pos, after, g⟩ rfl hE hM
  simp only [quietL, hwv, hc, hx, hq]
  rfl
theorem Hq.skip {Q : En → Prop} {d : Nat} {op : Op} {ty : TypeId} {pos : String} {after : Array Edge} {g : Option (Nat × Bool)} (hw : Want E all g false) (hd : Nat.blt d F.nt = true) (h : Hq P vp F all os ((d, undef) :: E) M Q) :
    Hq P vp F all (⟨some d, op, ty, pos, after, g⟩ :: os) E M Q := by
  intro ro tm w hE hM
  obtain ⟨E', tm', q1, q2, q3⟩ := h ro (putT F.nt tm (some d) undef) w (hE.put hd undef) hM
  refine ⟨E', tm', q1, q2, fun k ds kind => .cons (sub := noSub) (fun g fn f' args args' V w μ w0 v W _ _ h => by cases h) ?_ (q3 k ds kind)⟩
  have hwv := Want.wantedV (o := ⟨some d, op, ty, pos, after, g⟩) hw hE
  simp only [quietL, hwv]
  rfl
/-- A call that hands back a value without addresses, and changes nothing that was there. -/
theorem Hq.call (ok : VPok P vp) {Q : En → Prop} {d : Nat} {op : Op} {ty : TypeId} {pos : String} {after : Array Edge} {g : Option (Nat × Bool)} {f : FuncId} {args : List Value} (hw : Want E all g true) (h1 : ∀ ro, Op1 P vp ro E M op (.enter f args) M) (hc : isCall op = true) (hd : Nat.blt d F.nt = true)
    (hf : FnC P vp M.next f args M (fun v M1 => flat 10 v = true ∧ Hq P vp F all os ((d, v) :: E) M Q)) : Hq P vp F all (⟨some d, op, ty, pos, after, g⟩ :: os) E M Q := by
  intro ro tm w hE hM
  have hM0 : Abs M.next w M := ⟨hM.next, hM.gl, hM.lt, hM.obj, by rw [hM.next]; exact Nat.le_refl _⟩
  obtain ⟨w1, hx, hM1⟩ := h1 M.next ⟨F.fn, tm, F.nt, [], [], false, .normal, none⟩ w ⟨some d, op, ty, pos, after, g⟩ rfl hE hM0
  obtain ⟨v, w', M1, ⟨hfl, hq⟩, _, fn, f', hg, he, hend⟩ := hf w hM0
  obtain ⟨E', tm', q1, q2, q3⟩ := hq ro (putT F.nt tm (some d) v) w (hE.put hd v) hM
  have hs : SubOk P vp w.next (subOne { fr := f', cs := [], w := w } v w') := by
    rw [hM.next]; exact subOne_ok ok hg he hend
  refine ⟨E', tm', q1, q2, fun k ds kind => .cons hs ?_ (q3 k ds kind)⟩
  have hwv := Want.wantedV (o := ⟨some d, op, ty, pos, after, g⟩) hw hE
  have hx2 : execV P vp w.next ⟨F.fn, tm, F.nt, k, ds, false, kind, none⟩ ⟨some d, op, ty, pos, after, g⟩ w = some (.enter f args, w1) := by
    rw [hM.next, ← hx]; exact execV_frame rfl
  have hsub : subOne { fr := f', cs := [], w := w } v w' { fr := f', cs := [], w := w } = .over v w' := by unfold subOne; simp
  simp only [quietL, hwv, hc, hx2, hg, he, hsub, hfl]
  rfl

theorem Tq.nil {Q : En → AM → Prop} (h : Q E M) : Tq P vp ro F all [] E M Q := fun tm w hE hM => ⟨E, M, tm, w, h, hE, hM, fun k ds kind => .nil⟩
theorem Tq.fin {Q : En → AM → Prop} {n : Nat} {E' : En} (k : Keep n E E') (h : Q E' M) : Tq P vp ro F all [] E M Q :=
  fun tm w hE hM => ⟨E', M, tm, w, h, fun t v e => hE t v (k.get e).2, hM, fun k ds kind => .nil⟩
theorem Tq.finH {Q : En → AM → Prop} {n d : Nat} {v : Value} {E' : En} (k : Keep n E E') (h : Q ((d, v) :: E') M) : Tq P vp ro F all [] ((d, v) :: E) M Q :=
  fun tm w hE hM => ⟨(d, v) :: E', M, tm, w, h, fun t u e => hE t u (by
    simp only [enGet] at e ⊢
    split at e
    · exact e
    · exact (k.get e).2), hM, fun k ds kind => .nil⟩
theorem Tq.op {Q : En → AM → Prop} {d : Nat} {op : Op} {ty : TypeId} {pos : String} {after : Array Edge} {g : Option (Nat × Bool)} {v : Value} {M1 : AM} (hw : Want E all g true) (h1 : Op1 P vp ro E M op (.value v) M1) (hd : Nat.blt d F.nt = true) (h : Tq P vp ro F all os ((d, v) :: E) M1 Q) :
    Tq P vp ro F all (⟨some d, op, ty, pos, after, g⟩ :: os) E M Q := by
  intro tm w hE hM
  obtain ⟨w1, hx, hM1⟩ := h1 ⟨F.fn, tm, F.nt, [], [], false, .normal, none⟩ w ⟨some d, op, ty, pos, after, g⟩ rfl hE hM
  obtain ⟨E', M', tm', w', q1, q2, q3, q4⟩ := h (putT F.nt tm (some d) v) w1 (hE.put hd v) hM1
  have hwv := Want.wantedV (o := ⟨some d, op, ty, pos, after, g⟩) hw hE
  exact ⟨E', M', tm', w', q1, q2, q3, fun k ds kind => .value hwv (by rw [← hx]; exact execV_frame rfl) (q4 k ds kind)⟩
theorem Tq.pu {Q : En → AM → Prop} {d : Nat} {op : Op} {ty : TypeId} {pos : String} {after : Array Edge} {g : Option (Nat × Bool)} {v : Value} (hw : Want E all g true) (h1 : Pu P vp E M op v) (hd : Nat.blt d F.nt = true) (h : Tq P vp ro F all os ((d, v) :: E) M Q) :
    Tq P vp ro F all (⟨some d, op, ty, pos, after, g⟩ :: os) E M Q := Tq.op hw (Op1.of_pu h1) hd h
theorem Tq.act {Q : En → AM → Prop} {op : Op} {ty : TypeId} {pos : String} {after : Array Edge} {g : Option (Nat × Bool)} {M1 : AM} (hw : Want E all g true) (h1 : Op1 P vp ro E M op .skip M1) (h : Tq P vp ro F all os E M1 Q) :
    Tq P vp ro F all (⟨none, op, ty, pos, after, g⟩ :: os) E M Q := by
  intro tm w hE hM
  obtain ⟨w1, hx, hM1⟩ := h1 ⟨F.fn, tm, F.nt, [], [], false, .normal, none⟩ w ⟨none, op, ty, pos, after, g⟩ rfl hE hM
  obtain ⟨E', M', tm', w', q1, q2, q3, q4⟩ := h tm w1 hE hM1
  have hwv := Want.wantedV (o := ⟨none, op, ty, pos, after, g⟩) hw hE
  exact ⟨E', M', tm', w', q1, q2, q3, fun k ds kind => .act hwv (by rw [← hx]; exact execV_frame rfl) (q4 k ds kind)⟩
theorem Tq.skip {Q : En → AM → Prop} {d : Nat} {op : Op} {ty : TypeId} {pos : String} {after : Array Edge} {g : Option (Nat × Bool)} (hw : Want E all g false) (hd : Nat.blt d F.nt = true) (h : Tq P vp ro F all os ((d, undef) :: E) M Q) :
    Tq P vp ro F all (⟨some d, op, ty, pos, after, g⟩ :: os) E M Q := by
  intro tm w hE hM
  obtain ⟨E', M', tm', w', q1, q2, q3, q4⟩ := h (putT F.nt tm (some d) undef) w (hE.put hd undef) hM
  have hwv := Want.wantedV (o := ⟨some d, op, ty, pos, after, g⟩) hw hE
  exact ⟨E', M', tm', w', q1, q2, q3, fun k ds kind => .skip hwv (q4 k ds kind)⟩
theorem Tq.skip0 {Q : En → AM → Prop} {op : Op} {ty : TypeId} {pos : String} {after : Array Edge} {g : Option (Nat × Bool)} (hw : Want E all g false) (h : Tq P vp ro F all os E M Q) :
    Tq P vp ro F all (⟨none, op, ty, pos, after, g⟩ :: os) E M Q := by
  intro tm w hE hM
  obtain ⟨E', M', tm', w', q1, q2, q3, q4⟩ := h tm w hE hM
  have hwv := Want.wantedV (o := ⟨none, op, ty, pos, after, g⟩) hw hE
  exact ⟨E', M', tm', w', q1, q2, q3, fun k ds kind => .skip hwv (q4 k ds kind)⟩
theorem Tq.call {Q : En → AM → Prop} {d : Nat} {op : Op} {ty : TypeId} {pos : String} {after : Array Edge} {g : Option (Nat × Bool)} {f : FuncId} {args : List Value} (hw : Want E all g true) (h1 : Op1 P vp ro E M op (.enter f args) M) (hd : Nat.blt d F.nt = true)
    (hf : FnC P vp ro f args M (fun v M1 => Tq P vp ro F all os ((d, v) :: E) M1 Q)) : Tq P vp ro F all (⟨some d, op, ty, pos, after, g⟩ :: os) E M Q := by
  intro tm w hE hM
  obtain ⟨w1, hx, hM1⟩ := h1 ⟨F.fn, tm, F.nt, [], [], false, .normal, none⟩ w ⟨some d, op, ty, pos, after, g⟩ rfl hE hM
  obtain ⟨v, w2, M2, htq, hM2, hrun⟩ := hf w1 hM1
  obtain ⟨E', M', tm', w', q1, q2, q3, q4⟩ := htq (putT F.nt tm (some d) v) w2 (hE.put hd v) hM2
  have hwv := Want.wantedV (o := ⟨some d, op, ty, pos, after, g⟩) hw hE
  exact ⟨E', M', tm', w', q1, q2, q3, fun k ds kind => .call hwv (by rw [← hx]; exact execV_frame rfl) hrun (q4 k ds kind)⟩
theorem Tq.call0 {Q : En → AM → Prop} {op : Op} {ty : TypeId} {pos : String} {after : Array Edge} {g : Option (Nat × Bool)} {f : FuncId} {args : List Value} (hw : Want E all g true) (h1 : Op1 P vp ro E M op (.enter f args) M)
    (hf : FnC P vp ro f args M (fun v M1 => Tq P vp ro F all os E M1 Q)) : Tq P vp ro F all (⟨none, op, ty, pos, after, g⟩ :: os) E M Q := by
  intro tm w hE hM
  obtain ⟨w1, hx, hM1⟩ := h1 ⟨F.fn, tm, F.nt, [], [], false, .normal, none⟩ w ⟨none, op, ty, pos, after, g⟩ rfl hE hM
  obtain ⟨v, w2, M2, htq, hM2, hrun⟩ := hf w1 hM1
  obtain ⟨E', M', tm', w', q1, q2, q3, q4⟩ := htq tm w2 hE hM2
  have hwv := Want.wantedV (o := ⟨none, op, ty, pos, after, g⟩) hw hE
  exact ⟨E', M', tm', w', q1, q2, q3, fun k ds kind => .call hwv (by rw [← hx]; exact execV_frame rfl) hrun (q4 k ds kind)⟩

/-- A region that draws: its first n operations are quiet. -/
theorem Ex.draw (ok : VPok P vp) (hm : P.follows .mixedOrders = true) {Q : Out → En → AM → Prop} {id : Nat} {os : List Oper} (n : Nat) (hB : Region.lexTailB .any os.toArray n = true) (h : Hq P vp F os (os.take n) E M (fun E1 => Tq P vp ro F os (os.drop n) E1 M (fun E M => Q .norm E M))) :
    Ex P vp ro F (.region id os.toArray true) E M Q := by
  intro tm w hE hM
  obtain ⟨E1, tm1, p1, p2, p3⟩ := h ro tm w hE hM
  obtain ⟨E', M', tm', w', q1, q2, q3, q4⟩ := p1 tm1 w p2 hM
  exact ⟨.norm, E', M', tm', w', q1, q2, q3, fun k ds kind cs => leads_draw ok hm hB (by simpa using p3 _ ds kind) (by simpa using q4 _ ds kind)⟩
/-- .. all of them are. -/
theorem Ex.quiet (ok : VPok P vp) (hm : P.follows .mixedOrders = true) {Q : Out → En → AM → Prop} {id : Nat} {os : List Oper} (hB : Region.lexB .any os.toArray = true) (h : Hq P vp F os os E M (fun E1 => Q .norm E1 M)) :
    Ex P vp ro F (.region id os.toArray true) E M Q := by
  intro tm w hE hM
  obtain ⟨E1, tm1, p1, p2, p3⟩ := h ro tm w hE hM
  exact ⟨.norm, E1, M, tm1, w, p1, p2, hM, fun k ds kind cs => leads_quiet ok hm hB (by simpa using p3 _ ds kind)⟩
theorem Hq.fin {Q : En → Prop} {n : Nat} {E' : En} (k : Keep n E E') (h : Q E') : Hq P vp F all [] E M Q := fun ro tm w hE hM => ⟨E', tm, h, fun t v e => hE t v (k.get e).2, fun k ds kind => .nil⟩
end
end
end Go.Wvm
