/- Regions that draw their order and write nothing old: calls that hand back one value wherever they come may be taken first, in the logic over the small machine. -/
import Derived.Test.YtpglehckhnencaaWvmLgh
set_option linter.unusedSimpArgs false
set_option linter.unusedVariables false
namespace Go.Wvm
open Go.RowKit

section
variable {P : Program} {vp : VP}

inductive GR (P : Program) (vp : VP) (V0 : VW) (ops : Array Oper) : Nat → Array Bool → VF → VW → VF → VW → Prop
  | done {n : Nat} {s : Array Bool} {f : VF} {w : VW} (h : doneB ops s = true) : GR P vp V0 ops n s f w f w
  | skip {n j : Nat} {s : Array Bool} {o : Oper} {f f' : VF} {w w' : VW} (hj : mayB ops s j = true) (ho : ops[j]? = some o) (hw : wantedV o ops.toList f.tm = false) (t : GR P vp V0 ops n (s.setIfInBounds j true) { f with tm := f.put o.dst undef } w f' w') : GR P vp V0 ops (n + 1) s f w f' w'
  | pure {n j : Nat} {s : Array Bool} {o : Oper} {v : Value} {f f' : VF} {w w' : VW} (hj : mayB ops s j = true) (ho : ops[j]? = some o) (hw : wantedV o ops.toList f.tm = true) (hv : pureV P vp w.next f o = some v) (t : GR P vp V0 ops n (s.setIfInBounds j true) { f with tm := f.put o.dst v } w f' w') : GR P vp V0 ops (n + 1) s f w f' w'
  | early {n j : Nat} {s : Array Bool} {o : Oper} {g : FuncId} {args : List Value} {v : Value} {f f' : VF} {w w' V1 W : VW} (hj : mayB ops s j = true) (ho : ops[j]? = some o) (hw : wantedV o ops.toList f.tm = true) (hc : isCall o.op = true) (hx : execV P vp V0.next f o V0 = some (.enter g args, V1))
      (hold : args.all (oldV V0.next 10) = true) (hr : FnRuns P vp V0.next g args V0 v W) (hf : flat 10 v = true) (t : GR P vp V0 ops n (s.setIfInBounds j true) { f with tm := f.put o.dst v } w f' w') : GR P vp V0 ops (n + 1) s f w f' w'
  | load {n j : Nat} {s : Array Bool} {o : Oper} {v : Value} {f f' : VF} {w w' : VW} {ty : TypeId} {x : Operand} {ad : Addr} (hj : mayB ops s j = true) (ho : ops[j]? = some o) (hw : wantedV o ops.toList f.tm = true) (hop : o.op = .load ty x) (hx : f.ev x = some (.pointer (some ad))) (hl : loadV vp ty ad V0 = some v)
      (t : GR P vp V0 ops n (s.setIfInBounds j true) { f with tm := f.put o.dst v } w f' w') : GR P vp V0 ops (n + 1) s f w f' w'
  | value {n j : Nat} {s : Array Bool} {o : Oper} {v : Value} {f f' : VF} {w w1 w' : VW} (hj : onlyB ops s j = true) (ho : ops[j]? = some o) (hw : wantedV o ops.toList f.tm = true) (hx : execV P vp V0.next f o w = some (.value v, w1)) (t : GR P vp V0 ops n (s.setIfInBounds j true) { f with tm := f.put o.dst v } w1 f' w') : GR P vp V0 ops (n + 1) s f w f' w'
  | act {n j : Nat} {s : Array Bool} {o : Oper} {f f' : VF} {w w1 w' : VW} (hj : onlyB ops s j = true) (ho : ops[j]? = some o) (hw : wantedV o ops.toList f.tm = true) (hx : execV P vp V0.next f o w = some (.skip, w1)) (t : GR P vp V0 ops n (s.setIfInBounds j true) { f with tm := f.put o.dst undef } w1 f' w') : GR P vp V0 ops (n + 1) s f w f' w'
  | call {n j : Nat} {s : Array Bool} {o : Oper} {g : FuncId} {args : List Value} {v : Value} {f f' : VF} {w w1 w2 w' : VW} (hj : onlyB ops s j = true) (ho : ops[j]? = some o) (hw : wantedV o ops.toList f.tm = true) (hx : execV P vp V0.next f o w = some (.enter g args, w1)) (hr : FnRuns P vp V0.next g args w1 v w2)
      (t : GR P vp V0 ops n (s.setIfInBounds j true) { f with tm := f.put o.dst v } w2 f' w') : GR P vp V0 ops (n + 1) s f w f' w'

theorem GR.same {V0 : VW} {ops : Array Oper} {n : Nat} {s : Array Bool} {f f' : VF} {w w' : VW} (h : GR P vp V0 ops n s f w f' w') : SameF f f' := by
  induction h with
  | done => exact SameF.refl _
  | _ => rename_i ih; exact ih.of_tm

theorem GR.sound (ok : VPok P vp) {ro : Nat} {w0 : World} {V0 : VW} {ws : World} {μ0 : Mu} (R0 : Rel μ0 ro w0 V0 ws) {ops : Array Oper} (hsel : Region.noSelect ops = true) {n : Nat} {s : Array Bool} {f f' : VF} {V V' : VW} (h : GR P vp V0 ops n s f V f' V') :
    ∀ (Q : Exit → Act → World → Prop) (hQp : ∀ c a w, ¬ Q (.panic c) a w) (a : Act) (w : World) (μ : Mu), Ext μ0 μ → AR μ f a → Rel μ V0.next ws V w →
      (∀ a' w' μ', Ext μ μ' → AR μ' f' a' → Rel μ' V0.next ws V' w' → Q .normal a' w') → wpAnyG P .any ops Q (Grow ws) n s a w := by
  have hSg : ∀ w w1, Grow ws w → Grow w w1 → Grow ws w1 := fun _ _ h k => h.trans k
  induction h with
  | @done n s f w h =>
    intro Q hQp a w μ e0 A R hQ
    have hr := doneB_eq h
    cases n with
    | zero => exact fun w1 g _ => ⟨hr, hQ a w1 μ (Ext.refl _) A (R.more g)⟩
    | succ n => exact fun w1 g _ => ⟨fun _ => hQ a w1 μ (Ext.refl _) A (R.more g), fun i hi => by rw [hr] at hi; cases hi⟩
  | @skip n j s o f f' V V' hj ho hw t ih =>
    intro Q hQp a w μ e0 A R hQ
    unfold mayB at hj
    rw [Bool.and_eq_true] at hj
    have hw' := wanted_sound A o ops
    rw [hw] at hw'
    exact wpAnyG_take hSg ho hsel hj.2 hj.1 (fun c a w hq => (hQp c _ w hq).elim) (.inr ⟨hw', rfl⟩) (ih Q hQp _ w μ e0 (A.put (VR.undef μ) o.dst) R hQ)
  | @pure n j s o v f f' V V' hj ho hw hv t ih =>
    intro Q hQp a w μ e0 A R hQ
    unfold mayB at hj
    rw [Bool.and_eq_true] at hj
    have hw' := wanted_sound A o ops
    rw [hw] at hw'
    obtain ⟨v', r1, r2⟩ := pureV_sound ok A.ev (fun b hb => (R.fresh b hb).1) R.tot hv
    exact wpAnyG_take hSg ho hsel hj.2 hj.1 (fun c a w hq => (hQp c _ w hq).elim) (.inl ⟨hw', fun w1 _ => by unfold Oper.quietAt; rw [r2 w1]; exact ⟨rfl, rfl⟩⟩) (ih Q hQp _ w μ e0 (A.put r1 o.dst) R hQ)
  | @early n j s o g args v f f' V V' V1 W hj ho hw hc hx hold hrun hfl t ih =>
    intro Q hQp a w μ e0 A R hQ
    unfold mayB at hj
    rw [Bool.and_eq_true] at hj
    have hw' := wanted_sound A o ops
    rw [hw] at hw'
    obtain ⟨fn, fe, hfn, hfe, hend⟩ := hrun
    obtain ⟨v', r1, r2⟩ := yieldA_sound ok R0 e0 A.ev (subOne_ok ok hfn hfe hend) (o := o) (v := v) (by
      unfold yieldA
      simp only [hc, hx, hfn, hold, hfe]
      unfold subOne
      simp [hfl])
    exact wpAnyG_take hSg ho hsel hj.2 hj.1 (fun c a w hq => (hQp c _ w hq).elim) (.inl ⟨hw', fun w1 hw1 => r2 w1 hw1⟩) (ih Q hQp _ w μ e0 (A.put (r1.mono e0) o.dst) R hQ)
  | @load n j s o v f f' V V' ty x ad hj ho hw hop hx hl t ih =>
    intro Q hQp a w μ e0 A R hQ
    unfold mayB at hj
    rw [Bool.and_eq_true] at hj
    have hw' := wanted_sound A o ops
    rw [hw] at hw'
    obtain ⟨v', r1, r2⟩ := yieldA_sound ok R0 e0 A.ev (noSub_ok (P := P) (vp := vp) (ro := V0.next)) (o := o) (v := v) (by
      unfold yieldA
      rw [hop]
      simp only [isCall, hx, hl])
    exact wpAnyG_take hSg ho hsel hj.2 hj.1 (fun c a w hq => (hQp c _ w hq).elim) (.inl ⟨hw', fun w1 hw1 => r2 w1 hw1⟩) (ih Q hQp _ w μ e0 (A.put (r1.mono e0) o.dst) R hQ)
  | @value n j s o v f f' V V1 V' hj ho hw hx t ih =>
    intro Q hQp a w μ e0 A R hQ
    have hr := onlyB_eq hj
    have hw' := wanted_sound A o ops
    rw [hw] at hw'
    intro w9 g9 hS9
    have R9 := R.more g9
    refine ⟨fun hh => (by rw [hr] at hh; cases hh), fun k hk => ?_⟩
    rw [hr] at hk
    obtain rfl : k = j := by simpa using hk
    unfold wpOp
    simp only [ho, hw', if_true]
    left
    obtain ⟨n', w1, μ1, r1, r2, r3, r4⟩ := execV_sound ok R9 A.ev hx
    cases r4 with
    | value hv =>
      unfold Oper.wp
      rw [r1]
      exact ⟨r3.below, ih Q hQp _ w1 μ1 (e0.trans r2) ((A.mono r2).put hv o.dst) r3 (fun a' w' μ' e => hQ a' w' μ' (r2.trans e))⟩
  | @act n j s o f f' V V1 V' hj ho hw hx t ih =>
    intro Q hQp a w μ e0 A R hQ
    have hr := onlyB_eq hj
    have hw' := wanted_sound A o ops
    rw [hw] at hw'
    intro w9 g9 hS9
    have R9 := R.more g9
    refine ⟨fun hh => (by rw [hr] at hh; cases hh), fun k hk => ?_⟩
    rw [hr] at hk
    obtain rfl : k = j := by simpa using hk
    unfold wpOp
    simp only [ho, hw', if_true]
    left
    obtain ⟨n', w1, μ1, r1, r2, r3, r4⟩ := execV_sound ok R9 A.ev hx
    cases r4
    unfold Oper.wp
    rw [r1]
    exact ⟨r3.below, ih Q hQp _ w1 μ1 (e0.trans r2) ((A.mono r2).put (VR.undef μ1) o.dst) r3 (fun a' w' μ' e => hQ a' w' μ' (r2.trans e))⟩
  | @call n j s o g args v f f' V Va Vb V' hj ho hw hx hrun t ih =>
    intro Q hQp a w μ e0 A R hQ
    have hr := onlyB_eq hj
    have hw' := wanted_sound A o ops
    rw [hw] at hw'
    intro w9 g9 hS9
    have R9 := R.more g9
    refine ⟨fun hh => (by rw [hr] at hh; cases hh), fun k hk => ?_⟩
    rw [hr] at hk
    obtain rfl : k = j := by simpa using hk
    unfold wpOp
    simp only [ho, hw', if_true]
    left
    obtain ⟨n', w1, μ1, r1, r2, r3, r4⟩ := execV_sound ok R9 A.ev hx
    obtain ⟨fn, fe, hfn, hfe, hend⟩ := hrun
    cases r4 with
    | enter _ hargs =>
      rename_i args'
      have hcall := subOne_ok ok hfn hfe hend g fn fe args args' Va w1 μ1 ws v Vb hfn hfe (by unfold subOne; simp) r3 hargs
      unfold Oper.wp
      rw [r1]
      show Calls P g ⟨args'⟩ w1 _
      refine hcall.mono fun e w2 ⟨v', μ2, he, e2, R2, hv⟩ => ?_
      subst he
      exact ⟨R2.below, ih Q hQp _ w2 μ2 (e0.trans (r2.trans e2)) ((A.mono (r2.trans e2)).put hv o.dst) R2 (fun a' w' μ' e => hQ a' w' μ' ((r2.trans e2).trans e))⟩

theorem leads_grow (ok : VPok P vp) (hm : P.follows .mixedOrders = true) {ro : Nat} {id : Nat} {ops : Array Oper} {fn nt : Nat} {tm tm1 : Tr Value} {k : List Item} {ds : List Deferred} {kind : CallKind} {cs : List VF} {V V1 : VW} (hgl : V1.gl = V.gl)
    (hsel : Region.noSelect ops = true)
    (h1 : GR P vp V ops ops.size (Array.replicate ops.size false) ⟨fn, tm, nt, .code (.region id ops true) :: k, ds, false, kind, none⟩ V ⟨fn, tm1, nt, .code (.region id ops true) :: k, ds, false, kind, none⟩ V1) :
    Leads P ro ⟨⟨fn, tm, nt, .code (.region id ops true) :: k, ds, false, kind, none⟩, cs, V⟩ ⟨⟨fn, tm1, nt, k, ds, false, kind, none⟩, cs, V1⟩ := by
  refine leads_region fun w0 μ a w A R => ?_
  have Rs := R.drawn (w.drawn + 1)
  have hV : (⟨V1.next, V1.heap, V.gl⟩ : VW) = V1 := by rw [← hgl]
  exact wp_region_any hm (wpAny_of_G _ _ _ _ (Grow.refl _) (h1.sound ok Rs hsel _ (fun c a w hh => by cases hh.1) a _ μ (Ext.refl _) A Rs.sub (fun a' w' μ' e A' R' => ⟨rfl, μ', e, A', hV ▸ Rs.unsub e R'⟩)))

/-! ### At the level of what is known -/
def Kq (P : Program) (vp : VP) (V0 : VW) (F : FX) (all : List Oper) (n : Nat) (s : Array Bool) (E : En) (M : AM) (Q : En → AM → Prop) : Prop :=
  ∀ tm w, Has tm E → Abs V0.next w M → ∃ E' M' tm' w', Q E' M' ∧ Has tm' E' ∧ Abs V0.next w' M' ∧ ∀ k ds kind, GR P vp V0 all.toArray n s ⟨F.fn, tm, F.nt, k, ds, false, kind, none⟩ w ⟨F.fn, tm', F.nt, k, ds, false, kind, none⟩ w'

section
variable {V0 : VW} {M0 : AM} {F : FX} {all : List Oper} {n : Nat} {s : Array Bool} {E : En} {M : AM} {Q : En → AM → Prop}
theorem Kq.done (h : doneB all.toArray s = true) (hQ : Q E M) : Kq P vp V0 F all n s E M Q := fun tm w hE hM => ⟨E, M, tm, w, hQ, hE, hM, fun k ds kind => .done h⟩
theorem Kq.fin {N d : Nat} {v : Value} {E' : En} (h : doneB all.toArray s = true) (k : Keep N E E') (hQ : Q ((d, v) :: E') M) : Kq P vp V0 F all n s ((d, v) :: E) M Q :=
  fun tm w hE hM => ⟨(d, v) :: E', M, tm, w, hQ, fun t u e => hE t u (by
    simp only [enGet] at e ⊢
    split at e
    · exact e
    · exact (k.get e).2), hM, fun k ds kind => .done h⟩
theorem Kq.pure {d j : Nat} {op : Op} {ty : TypeId} {pos : String} {after : Array Edge} {g : Option (Nat × Bool)} {v : Value} (hj : mayB all.toArray s j = true) (ho : all[j]? = some ⟨some d, op, ty, pos, after, g⟩) (hw : Want E all g true)
    (hp : ∀ N, Pu P vp E ⟨N, fun _ => none, .nil⟩ op v) (hc : (isMove op || ((quietK op && uniq 10 v) || (isSlice op && uniqS1 v))) = true) (hd : Nat.blt d F.nt = true) (t : Kq P vp V0 F all n (s.setIfInBounds j true) ((d, v) :: E) M Q) : Kq P vp V0 F all (n + 1) s E M Q := by
  intro tm w hE hM
  obtain ⟨E', M', tm', w', q1, q2, q3, q4⟩ := t (putT F.nt tm (some d) v) w (hE.put hd v) hM
  refine ⟨E', M', tm', w', q1, q2, q3, fun k ds kind => .pure (o := ⟨some d, op, ty, pos, after, g⟩) hj (toArr ho) ?_ ?_ (q4 k ds kind)⟩
  · have := Want.wantedV (o := ⟨some d, op, ty, pos, after, g⟩) hw hE
    simpa using this
  · have h0 : Abs 0 ({ next := w.next, heap := .nil, gl := .nil } : VW) ⟨w.next, fun _ => none, .nil⟩ := ⟨rfl, rfl, fun b o h => (by rw [show ({ next := w.next, heap := .nil, gl := .nil } : VW).heap.get b = none from Tr.get_nil b] at h; cases h), (fun b a h => nomatch h), Nat.zero_le _⟩
    have := hp w.next w.next 0 ⟨F.fn, tm, F.nt, k, ds, false, kind, none⟩ { next := w.next, heap := .nil, gl := .nil } ⟨some d, op, ty, pos, after, g⟩ rfl hE h0
    simp only [pureV, this, hc]
theorem Kq.skip {d j : Nat} {op : Op} {ty : TypeId} {pos : String} {after : Array Edge} {g : Option (Nat × Bool)} (hj : mayB all.toArray s j = true) (ho : all[j]? = some ⟨some d, op, ty, pos, after, g⟩) (hw : Want E all g false)
    (hd : Nat.blt d F.nt = true) (t : Kq P vp V0 F all n (s.setIfInBounds j true) ((d, undef) :: E) M Q) : Kq P vp V0 F all (n + 1) s E M Q := by
  intro tm w hE hM
  obtain ⟨E', M', tm', w', q1, q2, q3, q4⟩ := t (putT F.nt tm (some d) undef) w (hE.put hd undef) hM
  refine ⟨E', M', tm', w', q1, q2, q3, fun k ds kind => .skip (o := ⟨some d, op, ty, pos, after, g⟩) hj (toArr ho) ?_ (q4 k ds kind)⟩
  have := Want.wantedV (o := ⟨some d, op, ty, pos, after, g⟩) hw hE
  simpa using this
/-- A call that is taken first: what it hands back it hands back from the region's beginning. -/
theorem Kq.early {d j : Nat} {op : Op} {ty : TypeId} {pos : String} {after : Array Edge} {g : Option (Nat × Bool)} {f : FuncId} {args : List Value} {v : Value} (h0 : Abs V0.next V0 M0) (hj : mayB all.toArray s j = true) (ho : all[j]? = some ⟨some d, op, ty, pos, after, g⟩) (hw : Want E all g true)
    (hc : isCall op = true) (h1 : ∀ ro M, Op1 P vp ro E M op (.enter f args) M) (hold : args.all (oldV V0.next 10) = true) (hf : FnC P vp V0.next f args M0 (fun u _ => u = v)) (hfl : flat 10 v = true) (hd : Nat.blt d F.nt = true) (t : Kq P vp V0 F all n (s.setIfInBounds j true) ((d, v) :: E) M Q) : Kq P vp V0 F all (n + 1) s E M Q := by
  intro tm w hE hM
  obtain ⟨w1, hx, _⟩ := h1 V0.next M0 ⟨F.fn, tm, F.nt, [], [], false, .normal, none⟩ V0 ⟨some d, op, ty, pos, after, g⟩ rfl hE h0
  obtain ⟨u, W, M2, rfl, hM2, hrun⟩ := hf V0 h0
  obtain ⟨E', M', tm', w', q1, q2, q3, q4⟩ := t (putT F.nt tm (some d) u) w (hE.put hd u) hM
  have hx2 : ∀ k ds kind, execV P vp V0.next ⟨F.fn, tm, F.nt, k, ds, false, kind, none⟩ ⟨some d, op, ty, pos, after, g⟩ V0 = some (.enter f args, w1) := fun k ds kind => by rw [← hx]; exact execV_frame rfl
  refine ⟨E', M', tm', w', q1, q2, q3, fun k ds kind => .early (o := ⟨some d, op, ty, pos, after, g⟩) hj (toArr ho) ?_ hc (hx2 k ds kind) hold hrun hfl (q4 k ds kind)⟩
  have := Want.wantedV (o := ⟨some d, op, ty, pos, after, g⟩) hw hE
  simpa using this
theorem Kq.op {d j : Nat} {op : Op} {ty : TypeId} {pos : String} {after : Array Edge} {g : Option (Nat × Bool)} {v : Value} {M1 : AM} (hj : onlyB all.toArray s j = true) (ho : all[j]? = some ⟨some d, op, ty, pos, after, g⟩) (hw : Want E all g true)
    (h1 : Op1 P vp V0.next E M op (.value v) M1) (hd : Nat.blt d F.nt = true) (hg : Kq P vp V0 F all n (s.setIfInBounds j true) ((d, v) :: E) M1 Q) : Kq P vp V0 F all (n + 1) s E M Q := by
  intro tm w hE hM
  obtain ⟨w1, hx, hM1⟩ := h1 ⟨F.fn, tm, F.nt, [], [], false, .normal, none⟩ w ⟨some d, op, ty, pos, after, g⟩ rfl hE hM
  obtain ⟨E', M', tm', w', q1, q2, q3, q4⟩ := hg (putT F.nt tm (some d) v) w1 (hE.put hd v) hM1
  refine ⟨E', M', tm', w', q1, q2, q3, fun k ds kind => .value (o := ⟨some d, op, ty, pos, after, g⟩) hj (toArr ho) ?_ (by rw [← hx]; exact execV_frame rfl) (q4 k ds kind)⟩
  have := Want.wantedV (o := ⟨some d, op, ty, pos, after, g⟩) hw hE
  simpa using this
theorem Kq.pu {d j : Nat} {op : Op} {ty : TypeId} {pos : String} {after : Array Edge} {g : Option (Nat × Bool)} {v : Value} (hj : onlyB all.toArray s j = true) (ho : all[j]? = some ⟨some d, op, ty, pos, after, g⟩) (hw : Want E all g true)
    (h1 : Pu P vp E M op v) (hd : Nat.blt d F.nt = true) (hg : Kq P vp V0 F all n (s.setIfInBounds j true) ((d, v) :: E) M Q) : Kq P vp V0 F all (n + 1) s E M Q :=
  Kq.op hj ho hw (Op1.of_pu h1) hd hg

/-- A region that draws, and writes nothing old. -/
theorem Ex.grow (ok : VPok P vp) (hm : P.follows .mixedOrders = true) {ro : Nat} {Q : Out → En → AM → Prop} {id : Nat} {os : List Oper} (n : Nat) (hn : os.length = n) (hsel : Region.noSelect os.toArray = true)
    (h : ∀ V0 : VW, V0.next = M.next → Abs V0.next V0 M → Kq P vp V0 F os n (Array.replicate n false) E M (fun E M' => M'.gl = M.gl ∧ Q .norm E M')) : Ex P vp ro F (.region id os.toArray true) E M Q := by
  subst hn
  intro tm w hE hM
  have h0 : Abs w.next w M := ⟨hM.next, hM.gl, hM.lt, hM.obj, Nat.le_refl _⟩
  obtain ⟨E', M', tm', w', ⟨q0, q1⟩, q2, q3, q4⟩ := h w hM.next h0 tm w hE h0
  refine ⟨.norm, E', M', tm', w', q1, q2, ⟨q3.next, q3.gl, q3.lt, q3.obj, Nat.le_trans hM.ron q3.ron⟩, fun k ds kind cs => leads_grow ok hm (by rw [q3.gl, q0, hM.gl]) hsel (by simpa using q4 _ ds kind)⟩
end
end
end Go.Wvm
