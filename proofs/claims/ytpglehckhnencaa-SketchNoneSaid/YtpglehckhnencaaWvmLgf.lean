/- Regions that draw their order and hold calls that write: what is loaded elsewhere stays, in the logic over the small machine. -/
import Derived.Test.YtpglehckhnencaaWvmLge
set_option linter.unusedSimpArgs false
set_option linter.unusedVariables false
namespace Go.Wvm
open Go.RowKit

/-- It may be taken first, as far as the order goes. -/
def mayB (ops : Array Oper) (s : Array Bool) (j : Nat) : Bool := (Region.ready .any ops s).contains j && Region.free .any ops s j
/-- It is the only one that may come up. -/
def onlyB (ops : Array Oper) (s : Array Bool) (j : Nat) : Bool := match Region.ready .any ops s with
  | [i] => Nat.beq i j
  | _ => false
def doneB (ops : Array Oper) (s : Array Bool) : Bool := match Region.ready .any ops s with
  | [] => true
  | _ => false

section
variable {P : Program} {vp : VP}

/-- A run of a region, one operation at a time, where what 'D' says stays ('late': where it need not any more). -/
inductive HR (P : Program) (vp : VP) (ro : Nat) (D : List (TypeId × Addr × Value)) (ops : Array Oper) : Bool → Nat → Array Bool → VF → VW → VF → VW → Prop
  | done {l : Bool} {n : Nat} {s : Array Bool} {f : VF} {w : VW} (h : doneB ops s = true) : HR P vp ro D ops l n s f w f w
  | skip {l : Bool} {n j : Nat} {s : Array Bool} {o : Oper} {f f' : VF} {w w' : VW} (hj : mayB ops s j = true) (ho : ops[j]? = some o) (hw : wantedV o ops.toList f.tm = false) (t : HR P vp ro D ops l n (s.setIfInBounds j true) { f with tm := f.put o.dst undef } w f' w') : HR P vp ro D ops l (n + 1) s f w f' w'
  | pure {l : Bool} {n j : Nat} {s : Array Bool} {o : Oper} {v : Value} {f f' : VF} {w w' : VW} (hj : mayB ops s j = true) (ho : ops[j]? = some o) (hw : wantedV o ops.toList f.tm = true) (hv : pureV P vp w.next f o = some v) (t : HR P vp ro D ops l n (s.setIfInBounds j true) { f with tm := f.put o.dst v } w f' w') : HR P vp ro D ops l (n + 1) s f w f' w'
  | held {n j : Nat} {s : Array Bool} {o : Oper} {v : Value} {f f' : VF} {w w' : VW} (hj : mayB ops s j = true) (ho : ops[j]? = some o) (hw : wantedV o ops.toList f.tm = true) {ty : TypeId} {x : Operand} {ad : Addr} (hop : o.op = .load ty x) (hx : f.ev x = some (.pointer (some ad))) (hm : (ty, ad, v) ∈ D) (t : HR P vp ro D ops false n (s.setIfInBounds j true) { f with tm := f.put o.dst v } w f' w') : HR P vp ro D ops false (n + 1) s f w f' w'
  | value {n j : Nat} {s : Array Bool} {o : Oper} {v : Value} {f f' : VF} {w w1 w' : VW} (hj : onlyB ops s j = true) (ho : ops[j]? = some o) (hw : wantedV o ops.toList f.tm = true) (hx : execV P vp ro f o w = some (.value v, w1)) (hk : keepsD vp D w1 = true) (t : HR P vp ro D ops false n (s.setIfInBounds j true) { f with tm := f.put o.dst v } w1 f' w') : HR P vp ro D ops false (n + 1) s f w f' w'
  | act {n j : Nat} {s : Array Bool} {o : Oper} {f f' : VF} {w w1 w' : VW} (hj : onlyB ops s j = true) (ho : ops[j]? = some o) (hw : wantedV o ops.toList f.tm = true) (hx : execV P vp ro f o w = some (.skip, w1)) (hk : keepsD vp D w1 = true) (t : HR P vp ro D ops false n (s.setIfInBounds j true) { f with tm := f.put o.dst undef } w1 f' w') : HR P vp ro D ops false (n + 1) s f w f' w'
  | call {n j : Nat} {s : Array Bool} {o : Oper} {g : FuncId} {args : List Value} {v : Value} {f f' : VF} {w w1 w2 w' : VW} (hj : onlyB ops s j = true) (ho : ops[j]? = some o) (hw : wantedV o ops.toList f.tm = true) (hx : execV P vp ro f o w = some (.enter g args, w1)) (hr : FnRuns P vp ro g args w1 v w2) (hk : keepsD vp D w2 = true)
      (t : HR P vp ro D ops false n (s.setIfInBounds j true) { f with tm := f.put o.dst v } w2 f' w') : HR P vp ro D ops false (n + 1) s f w f' w'
  | lateV {l : Bool} {n j : Nat} {s : Array Bool} {o : Oper} {v : Value} {f f' : VF} {w w1 w' : VW} (hj : onlyB ops s j = true) (hl : lateB ops j = true) (ho : ops[j]? = some o) (hw : wantedV o ops.toList f.tm = true) (hx : execV P vp ro f o w = some (.value v, w1)) (t : HR P vp ro D ops true n (s.setIfInBounds j true) { f with tm := f.put o.dst v } w1 f' w') : HR P vp ro D ops l (n + 1) s f w f' w'
  | lateA {l : Bool} {n j : Nat} {s : Array Bool} {o : Oper} {f f' : VF} {w w1 w' : VW} (hj : onlyB ops s j = true) (hl : lateB ops j = true) (ho : ops[j]? = some o) (hw : wantedV o ops.toList f.tm = true) (hx : execV P vp ro f o w = some (.skip, w1)) (t : HR P vp ro D ops true n (s.setIfInBounds j true) { f with tm := f.put o.dst undef } w1 f' w') : HR P vp ro D ops l (n + 1) s f w f' w'

theorem onlyB_eq {ops : Array Oper} {s : Array Bool} {j : Nat} (h : onlyB ops s j = true) : Region.ready .any ops s = [j] := by
  unfold onlyB at h
  split at h
  · rename_i i e
    rw [e, Nat.eq_of_beq_eq_true h]
  · cases h
theorem doneB_eq {ops : Array Oper} {s : Array Bool} (h : doneB ops s = true) : Region.ready .any ops s = [] := by
  unfold doneB at h
  split at h
  · assumption
  · cases h

theorem HR.same {ro : Nat} {D : List (TypeId × Addr × Value)} {ops : Array Oper} {l : Bool} {n : Nat} {s : Array Bool} {f f' : VF} {w w' : VW} (h : HR P vp ro D ops l n s f w f' w') : SameF f f' := by
  induction h with
  | done => exact SameF.refl _
  | _ => rename_i ih; exact ih.of_tm

theorem HR.sound (ok : VPok P vp) {ro : Nat} {w0 : World} {ops : Array Oper} (hsel : Region.noSelect ops = true) {D : List (TypeId × Addr × Value)} {μ0 : Mu} (hD : HasD μ0 D) {l : Bool} {n : Nat} {s : Array Bool} {f f' : VF} {V V' : VW} (h : HR P vp ro D ops l n s f V f' V') :
    ∀ (Q : Exit → Act → World → Prop) (hQp : ∀ c a w, ¬ Q (.panic c) a w) (a : Act) (w : World) (μ : Mu), Ext μ0 μ → Closed ops s → (l = false → SD P μ0 D w) → AR μ f a → Rel μ ro w0 V w →
      (∀ a' w' μ', Ext μ μ' → AR μ' f' a' → Rel μ' ro w0 V' w' → Q .normal a' w') → wpAnyU P ops Q (SD P μ0 D) n s a w := by
  induction h with
  | done h =>
    intro Q hQp a w μ e0 hcl hS A R hQ
    exact wpAnyU_done (doneB_eq h) (hQ a w μ (Ext.refl _) A R) _
  | @skip l n j s o f f' V V' hj ho hw t ih =>
    intro Q hQp a w μ e0 hcl hS A R hQ
    unfold mayB at hj
    rw [Bool.and_eq_true] at hj
    have hw' := wanted_sound A o ops
    rw [hw] at hw'
    exact wpAnyU_takeP ho hsel hcl hj.2 hj.1 (fun c a w hq => (hQp c _ w hq).elim) (.inr ⟨hw', rfl⟩) (ih Q hQp _ w μ e0 (hcl.set (by simpa using hj.1)) hS (A.put (VR.undef μ) o.dst) R hQ)
  | @pure l n j s o v f f' V V' hj ho hw hv t ih =>
    intro Q hQp a w μ e0 hcl hS A R hQ
    unfold mayB at hj
    rw [Bool.and_eq_true] at hj
    have hw' := wanted_sound A o ops
    rw [hw] at hw'
    obtain ⟨v', r1, r2⟩ := pureV_sound ok A.ev (fun b hb => (R.fresh b hb).1) R.tot hv
    exact wpAnyU_takeP ho hsel hcl hj.2 hj.1 (fun c a w hq => (hQp c _ w hq).elim) (.inl ⟨hw', fun w1 _ => r2 w1⟩) (ih Q hQp _ w μ e0 (hcl.set (by simpa using hj.1)) hS (A.put r1 o.dst) R hQ)
  | @held n j s o v f f' V V' hj ho hw t' x ad hop hx hm t ih =>
    intro Q hQp a w μ e0 hcl hS A R hQ
    unfold mayB at hj
    rw [Bool.and_eq_true] at hj
    have hw' := wanted_sound A o ops
    rw [hw] at hw'
    obtain ⟨hLL, v', hvr⟩ := hD _ _ _ hm
    have hr2 := A.ev _ _ hx
    obtain ⟨a2, ea⟩ := VR.ptr_inv hr2
    rw [ea] at hr2
    have hr0 : VR μ0 (.pointer (some ad)) (.pointer (some a2)) := by
      cases hr2 with
      | glob g o => exact .glob g o
      | ptr hm2 =>
        obtain ⟨L, hL⟩ := hLL rfl
        simp only at hL
        have := e0 _ _ hL
        rw [hm2] at this
        cases this
        exact .ptr hL
    refine wpAnyU_take ho hsel hcl hj.2 hj.1 (fun c a w hq => (hQp c _ w hq).elim) (by unfold loadB; rw [hop]) (.inl ⟨hw', fun w1 hw1 => ?_⟩) (hS rfl) (ih Q hQp _ w μ e0 (hcl.set (by simpa using hj.1)) hS (A.put (hvr.mono e0) o.dst) R hQ)
    simp [execOp, hop, Instr.loadAt, ea, sureAddr_ptr, hw1 _ _ _ hm _ _ hr0 hvr]
  | @value n j s o v f f' V V1 V' hj ho hw hx hk t ih =>
    intro Q hQp a w μ e0 hcl hS A R hQ
    have hr := onlyB_eq hj
    have hw' := wanted_sound A o ops
    rw [hw] at hw'
    refine wpAnyU_all hr (by simp) fun k hk' => ?_
    obtain rfl : k = j := by simpa using hk'
    have hkr : k ∈ Region.ready .any ops s := by rw [hr]; exact hk'
    unfold wpOp
    simp only [ho, hw', if_true]
    left
    obtain ⟨n', w1, μ1, r1, r2, r3, r4⟩ := execV_sound ok R A.ev hx
    have hS1 := keepsD_sound ok (e0.trans r2) r3 hk
    cases r4 with
    | value hv =>
      unfold Oper.wp
      rw [r1]
      exact ⟨fun _ _ => hS1, ih Q hQp _ w1 μ1 (e0.trans r2) (hcl.set hkr) (fun _ => hS1) ((A.mono r2).put hv o.dst) r3 (fun a' w' μ' e => hQ a' w' μ' (r2.trans e))⟩
  | @act n j s o f f' V V1 V' hj ho hw hx hk t ih =>
    intro Q hQp a w μ e0 hcl hS A R hQ
    have hr := onlyB_eq hj
    have hw' := wanted_sound A o ops
    rw [hw] at hw'
    refine wpAnyU_all hr (by simp) fun k hk' => ?_
    obtain rfl : k = j := by simpa using hk'
    have hkr : k ∈ Region.ready .any ops s := by rw [hr]; exact hk'
    unfold wpOp
    simp only [ho, hw', if_true]
    left
    obtain ⟨n', w1, μ1, r1, r2, r3, r4⟩ := execV_sound ok R A.ev hx
    have hS1 := keepsD_sound ok (e0.trans r2) r3 hk
    cases r4
    unfold Oper.wp
    rw [r1]
    exact ⟨fun _ _ => hS1, ih Q hQp _ w1 μ1 (e0.trans r2) (hcl.set hkr) (fun _ => hS1) ((A.mono r2).put (VR.undef μ1) o.dst) r3 (fun a' w' μ' e => hQ a' w' μ' (r2.trans e))⟩
  | @call n j s o g args v f f' V Va Vb V' hj ho hw hx hrun hk t ih =>
    intro Q hQp a w μ e0 hcl hS A R hQ
    have hr := onlyB_eq hj
    have hw' := wanted_sound A o ops
    rw [hw] at hw'
    refine wpAnyU_all hr (by simp) fun k hk' => ?_
    obtain rfl : k = j := by simpa using hk'
    have hkr : k ∈ Region.ready .any ops s := by rw [hr]; exact hk'
    unfold wpOp
    simp only [ho, hw', if_true]
    left
    obtain ⟨n', w1, μ1, r1, r2, r3, r4⟩ := execV_sound ok R A.ev hx
    obtain ⟨fn, fe, hfn, hfe, hend⟩ := hrun
    cases r4 with
    | enter _ hargs =>
      rename_i args'
      have hcall := subOne_ok ok hfn hfe hend g fn fe args args' Va w1 μ1 w0 v Vb hfn hfe (by unfold subOne; simp) r3 hargs
      unfold Oper.wp
      rw [r1]
      show Calls P g ⟨args'⟩ w1 _
      refine hcall.mono fun e w2 ⟨v', μ2, he, e2, R2, hv⟩ => ?_
      subst he
      have hS2 := keepsD_sound ok (e0.trans (r2.trans e2)) R2 hk
      exact ⟨fun _ _ => hS2, ih Q hQp _ w2 μ2 (e0.trans (r2.trans e2)) (hcl.set hkr) (fun _ => hS2) ((A.mono (r2.trans e2)).put hv o.dst) R2 (fun a' w' μ' e => hQ a' w' μ' ((r2.trans e2).trans e))⟩
  | @lateV l n j s o v f f' V V1 V' hj hl ho hw hx t ih =>
    intro Q hQp a w μ e0 hcl hS A R hQ
    have hr := onlyB_eq hj
    have hw' := wanted_sound A o ops
    rw [hw] at hw'
    refine wpAnyU_all hr (by simp) fun k hk' => ?_
    obtain rfl : k = j := by simpa using hk'
    have hkr : k ∈ Region.ready .any ops s := by rw [hr]; exact hk'
    unfold wpOp
    simp only [ho, hw', if_true]
    left
    obtain ⟨n', w1, μ1, r1, r2, r3, r4⟩ := execV_sound ok R A.ev hx
    cases r4 with
    | value hv =>
      unfold Oper.wp
      rw [r1]
      exact ⟨fun _ hl' => (by rw [hl] at hl'; cases hl'), ih Q hQp _ w1 μ1 (e0.trans r2) (hcl.set hkr) (fun h => by cases h) ((A.mono r2).put hv o.dst) r3 (fun a' w' μ' e => hQ a' w' μ' (r2.trans e))⟩
  | @lateA l n j s o f f' V V1 V' hj hl ho hw hx t ih =>
    intro Q hQp a w μ e0 hcl hS A R hQ
    have hr := onlyB_eq hj
    have hw' := wanted_sound A o ops
    rw [hw] at hw'
    refine wpAnyU_all hr (by simp) fun k hk' => ?_
    obtain rfl : k = j := by simpa using hk'
    have hkr : k ∈ Region.ready .any ops s := by rw [hr]; exact hk'
    unfold wpOp
    simp only [ho, hw', if_true]
    left
    obtain ⟨n', w1, μ1, r1, r2, r3, r4⟩ := execV_sound ok R A.ev hx
    cases r4
    unfold Oper.wp
    rw [r1]
    exact ⟨fun _ hl' => (by rw [hl] at hl'; cases hl'), ih Q hQp _ w1 μ1 (e0.trans r2) (hcl.set hkr) (fun h => by cases h) ((A.mono r2).put (VR.undef μ1) o.dst) r3 (fun a' w' μ' e => hQ a' w' μ' (r2.trans e))⟩

theorem leads_held (ok : VPok P vp) (hm : P.follows .mixedOrders = true) {ro : Nat} {id : Nat} {ops : Array Oper} {D : List (TypeId × Addr × Value)} {fn nt : Nat} {tm tm1 : Tr Value} {k : List Item} {ds : List Deferred} {kind : CallKind} {cs : List VF} {V V1 : VW}
    (hsel : Region.noSelect ops = true) (hk : keepsD vp D V = true)
    (h1 : HR P vp ro D ops false ops.size (Array.replicate ops.size false) ⟨fn, tm, nt, .code (.region id ops true) :: k, ds, false, kind, none⟩ V ⟨fn, tm1, nt, .code (.region id ops true) :: k, ds, false, kind, none⟩ V1) :
    Leads P ro ⟨⟨fn, tm, nt, .code (.region id ops true) :: k, ds, false, kind, none⟩, cs, V⟩ ⟨⟨fn, tm1, nt, k, ds, false, kind, none⟩, cs, V1⟩ := by
  refine leads_region fun w0 μ a w A R => ?_
  exact wp_region_u hm (h1.sound ok hsel (keepsD_has ok R hk) _ (fun c a w hh => by cases hh.1) a _ μ (Ext.refl _) (closed_none _) (fun _ => keepsD_sound ok (Ext.refl _) (R.drawn _) hk) A (R.drawn _) (fun a' w' μ' e A' R' => ⟨rfl, μ', e, A', R'⟩))
/-! ### At the level of what is known -/
def Gq (P : Program) (vp : VP) (ro : Nat) (F : FX) (D : List (TypeId × Addr × Value)) (all : List Oper) (l : Bool) (n : Nat) (s : Array Bool) (E : En) (M : AM) (Q : En → AM → Prop) : Prop :=
  ∀ tm w, Has tm E → Abs ro w M → ∃ E' M' tm' w', Q E' M' ∧ Has tm' E' ∧ Abs ro w' M' ∧ ∀ k ds kind, HR P vp ro D all.toArray l n s ⟨F.fn, tm, F.nt, k, ds, false, kind, none⟩ w ⟨F.fn, tm', F.nt, k, ds, false, kind, none⟩ w'

/-- What lies where. -/
inductive KeepsM (T : List (Nat × TyI)) (M : AM) : List (TypeId × Addr × Value) → Prop
  | nil : KeepsM T M []
  | cons {t : TypeId} {b o u : Nat} {v : Value} {i : TyI} {l : List Value} {tt : Option (TypeId × Nat)} {r : List (TypeId × Addr × Value)} (ht : tyGet T t = some i) (ha : i.agg = false) (hb : M.get b = some (.row l u tt)) (hv : l[o]? = some v) (hs : veqB v v = true) (h : KeepsM T M r) : KeepsM T M ((t, ⟨b, o, none⟩, v) :: r)
theorem KeepsM.sound {T : List (Nat × TyI)} (hT : TyOk vp T) {ro : Nat} {M : AM} {D : List (TypeId × Addr × Value)} (h : KeepsM T M D) {w : VW} (hM : Abs ro w M) : keepsD vp D w = true := by
  induction h with
  | nil => rfl
  | cons ht ha hb hv hs _ ih =>
    obtain ⟨c, dv, hw, hc⟩ := hM.row hb
    simp only [keepsD, loadV, loadC, hT _ _ ht, hw, ha, hc _ _ hv, hs, ih]

theorem veqB_int (k : IntKind) (n : Int) : veqB (.int k n) (.int k n) = true := by
  simp only [veqB, veq1, keq_self, ieq_eq, decide_true]
theorem veqB_bool (b : Bool) : veqB (.bool b) (.bool b) = true := by cases b <;> rfl
theorem veqB_str (l : List UInt8) : veqB (.string ⟨⟨l⟩⟩) (.string ⟨⟨l⟩⟩) = true := by
  simp only [veqB, veq1, leq_eq, decide_true]
theorem veqB_ptr (b o : Nat) : veqB (.pointer (some ⟨b, o, none⟩)) (.pointer (some ⟨b, o, none⟩)) = true := by
  simp only [veqB, veq1, Nat.beq_refl]
theorem veqB_slice (b o l c : Nat) (h : 0 < c) : veqB (.slice (some ⟨b, o, none⟩) l c) (.slice (some ⟨b, o, none⟩) l c) = true := by
  simp only [veqB, veq1, Nat.beq_refl, Bool.and_self, blt_eq, h, decide_true]
theorem veqB_slice0 (l c : Nat) : veqB (.slice none l c) (.slice none l c) = true := by
  simp only [veqB, veq1, Nat.beq_refl]

section
variable {ro : Nat} {F : FX} {D : List (TypeId × Addr × Value)} {all : List Oper} {l : Bool} {n : Nat} {s : Array Bool} {E : En} {M : AM} {Q : En → AM → Prop}
theorem Gq.done (h : doneB all.toArray s = true) (hQ : Q E M) : Gq P vp ro F D all l n s E M Q := fun tm w hE hM => ⟨E, M, tm, w, hQ, hE, hM, fun k ds kind => .done h⟩
theorem Gq.fin {N d : Nat} {v : Value} {E' : En} (h : doneB all.toArray s = true) (k : Keep N E E') (hQ : Q ((d, v) :: E') M) : Gq P vp ro F D all l n s ((d, v) :: E) M Q :=
  fun tm w hE hM => ⟨(d, v) :: E', M, tm, w, hQ, fun t u e => hE t u (by
    simp only [enGet] at e ⊢
    split at e
    · exact e
    · exact (k.get e).2), hM, fun k ds kind => .done h⟩
theorem Gq.facts (h : (∀ b a, M.get b = some a → b < M.next) → ro ≤ M.next → Gq P vp ro F D all l n s E M Q) : Gq P vp ro F D all l n s E M Q :=
  fun tm w hE hM => h (fun b a k => hM.bound k) (by rw [← hM.next]; exact hM.ron) tm w hE hM
theorem toArr {o : Oper} {j : Nat} (ho : all[j]? = some o) : all.toArray[j]? = some o := by simpa using ho
theorem Gq.pure {d j : Nat} {op : Op} {ty : TypeId} {pos : String} {after : Array Edge} {g : Option (Nat × Bool)} {v : Value} (hj : mayB all.toArray s j = true) (ho : all[j]? = some ⟨some d, op, ty, pos, after, g⟩) (hw : Want E all g true)
    (hp : ∀ N, Pu P vp E ⟨N, fun _ => none, .nil⟩ op v) (hc : (isMove op || ((quietK op && uniq 10 v) || (isSlice op && uniqS1 v))) = true) (hd : Nat.blt d F.nt = true) (t : Gq P vp ro F D all l n (s.setIfInBounds j true) ((d, v) :: E) M Q) : Gq P vp ro F D all l (n + 1) s E M Q := by
  intro tm w hE hM
  obtain ⟨E', M', tm', w', q1, q2, q3, q4⟩ := t (putT F.nt tm (some d) v) w (hE.put hd v) hM
  refine ⟨E', M', tm', w', q1, q2, q3, fun k ds kind => .pure (o := ⟨some d, op, ty, pos, after, g⟩) hj (toArr ho) ?_ ?_ (q4 k ds kind)⟩
  · have := Want.wantedV (o := ⟨some d, op, ty, pos, after, g⟩) hw hE
    simpa using this
  · have h0 : Abs 0 ({ next := w.next, heap := .nil, gl := .nil } : VW) ⟨w.next, fun _ => none, .nil⟩ := ⟨rfl, rfl, fun b o h => (by rw [show ({ next := w.next, heap := .nil, gl := .nil } : VW).heap.get b = none from Tr.get_nil b] at h; cases h), (fun b a h => nomatch h), Nat.zero_le _⟩
    have := hp w.next w.next 0 ⟨F.fn, tm, F.nt, k, ds, false, kind, none⟩ { next := w.next, heap := .nil, gl := .nil } ⟨some d, op, ty, pos, after, g⟩ rfl hE h0
    simp only [pureV, this, hc]
theorem Gq.skip {d j : Nat} {op : Op} {ty : TypeId} {pos : String} {after : Array Edge} {g : Option (Nat × Bool)} (hj : mayB all.toArray s j = true) (ho : all[j]? = some ⟨some d, op, ty, pos, after, g⟩) (hw : Want E all g false)
    (hd : Nat.blt d F.nt = true) (t : Gq P vp ro F D all l n (s.setIfInBounds j true) ((d, undef) :: E) M Q) : Gq P vp ro F D all l (n + 1) s E M Q := by
  intro tm w hE hM
  obtain ⟨E', M', tm', w', q1, q2, q3, q4⟩ := t (putT F.nt tm (some d) undef) w (hE.put hd undef) hM
  refine ⟨E', M', tm', w', q1, q2, q3, fun k ds kind => .skip (o := ⟨some d, op, ty, pos, after, g⟩) hj (toArr ho) ?_ (q4 k ds kind)⟩
  have := Want.wantedV (o := ⟨some d, op, ty, pos, after, g⟩) hw hE
  simpa using this
theorem Gq.held {d j : Nat} {t : TypeId} {x : Operand} {ad : Addr} {ty : TypeId} {pos : String} {after : Array Edge} {g : Option (Nat × Bool)} {v : Value} (hj : mayB all.toArray s j = true) (ho : all[j]? = some ⟨some d, .load t x, ty, pos, after, g⟩) (hw : Want E all g true)
    (hx : evE E x = some (.pointer (some ad))) (hm : (t, ad, v) ∈ D) (hd : Nat.blt d F.nt = true) (h : Gq P vp ro F D all false n (s.setIfInBounds j true) ((d, v) :: E) M Q) : Gq P vp ro F D all false (n + 1) s E M Q := by
  intro tm w hE hM
  obtain ⟨E', M', tm', w', q1, q2, q3, q4⟩ := h (putT F.nt tm (some d) v) w (hE.put hd v) hM
  refine ⟨E', M', tm', w', q1, q2, q3, fun k ds kind => .held (o := ⟨some d, .load t x, ty, pos, after, g⟩) hj (toArr ho) ?_ rfl (Has.ev (fr := ⟨F.fn, tm, F.nt, k, ds, false, kind, none⟩) hE hx) hm (q4 k ds kind)⟩
  have := Want.wantedV (o := ⟨some d, .load t x, ty, pos, after, g⟩) hw hE
  simpa using this
theorem Gq.call {T : List (Nat × TyI)} (hT : TyOk vp T) {d j : Nat} {op : Op} {ty : TypeId} {pos : String} {after : Array Edge} {g : Option (Nat × Bool)} {f : FuncId} {args : List Value} (hj : onlyB all.toArray s j = true) (ho : all[j]? = some ⟨some d, op, ty, pos, after, g⟩) (hw : Want E all g true)
    (h1 : Op1 P vp ro E M op (.enter f args) M) (hd : Nat.blt d F.nt = true) (hf : FnC P vp ro f args M (fun v M1 => KeepsM T M1 D ∧ Gq P vp ro F D all false n (s.setIfInBounds j true) ((d, v) :: E) M1 Q)) : Gq P vp ro F D all false (n + 1) s E M Q := by
  intro tm w hE hM
  obtain ⟨w1, hx, hM1⟩ := h1 ⟨F.fn, tm, F.nt, [], [], false, .normal, none⟩ w ⟨some d, op, ty, pos, after, g⟩ rfl hE hM
  obtain ⟨v, w2, M2, ⟨hk, hg⟩, hM2, hrun⟩ := hf w1 hM1
  obtain ⟨E', M', tm', w', q1, q2, q3, q4⟩ := hg (putT F.nt tm (some d) v) w2 (hE.put hd v) hM2
  refine ⟨E', M', tm', w', q1, q2, q3, fun k ds kind => .call (o := ⟨some d, op, ty, pos, after, g⟩) hj (toArr ho) ?_ (by rw [← hx]; exact execV_frame rfl) hrun (hk.sound hT hM2) (q4 k ds kind)⟩
  have := Want.wantedV (o := ⟨some d, op, ty, pos, after, g⟩) hw hE
  simpa using this
theorem Gq.call0 {T : List (Nat × TyI)} (hT : TyOk vp T) {j : Nat} {op : Op} {ty : TypeId} {pos : String} {after : Array Edge} {g : Option (Nat × Bool)} {f : FuncId} {args : List Value} (hj : onlyB all.toArray s j = true) (ho : all[j]? = some ⟨none, op, ty, pos, after, g⟩) (hw : Want E all g true)
    (h1 : Op1 P vp ro E M op (.enter f args) M) (hf : FnC P vp ro f args M (fun v M1 => KeepsM T M1 D ∧ Gq P vp ro F D all false n (s.setIfInBounds j true) E M1 Q)) : Gq P vp ro F D all false (n + 1) s E M Q := by
  intro tm w hE hM
  obtain ⟨w1, hx, hM1⟩ := h1 ⟨F.fn, tm, F.nt, [], [], false, .normal, none⟩ w ⟨none, op, ty, pos, after, g⟩ rfl hE hM
  obtain ⟨v, w2, M2, ⟨hk, hg⟩, hM2, hrun⟩ := hf w1 hM1
  obtain ⟨E', M', tm', w', q1, q2, q3, q4⟩ := hg tm w2 hE hM2
  refine ⟨E', M', tm', w', q1, q2, q3, fun k ds kind => .call (o := ⟨none, op, ty, pos, after, g⟩) hj (toArr ho) ?_ (by rw [← hx]; exact execV_frame rfl) hrun (hk.sound hT hM2) (q4 k ds kind)⟩
  have := Want.wantedV (o := ⟨none, op, ty, pos, after, g⟩) hw hE
  simpa using this
theorem Gq.op {T : List (Nat × TyI)} (hT : TyOk vp T) {d j : Nat} {op : Op} {ty : TypeId} {pos : String} {after : Array Edge} {g : Option (Nat × Bool)} {v : Value} {M1 : AM} (hj : onlyB all.toArray s j = true) (ho : all[j]? = some ⟨some d, op, ty, pos, after, g⟩) (hw : Want E all g true)
    (h1 : Op1 P vp ro E M op (.value v) M1) (hd : Nat.blt d F.nt = true) (hk : KeepsM T M1 D) (hg : Gq P vp ro F D all false n (s.setIfInBounds j true) ((d, v) :: E) M1 Q) : Gq P vp ro F D all false (n + 1) s E M Q := by
  intro tm w hE hM
  obtain ⟨w1, hx, hM1⟩ := h1 ⟨F.fn, tm, F.nt, [], [], false, .normal, none⟩ w ⟨some d, op, ty, pos, after, g⟩ rfl hE hM
  obtain ⟨E', M', tm', w', q1, q2, q3, q4⟩ := hg (putT F.nt tm (some d) v) w1 (hE.put hd v) hM1
  refine ⟨E', M', tm', w', q1, q2, q3, fun k ds kind => .value (o := ⟨some d, op, ty, pos, after, g⟩) hj (toArr ho) ?_ (by rw [← hx]; exact execV_frame rfl) (hk.sound hT hM1) (q4 k ds kind)⟩
  have := Want.wantedV (o := ⟨some d, op, ty, pos, after, g⟩) hw hE
  simpa using this
theorem Gq.lateA {j : Nat} {op : Op} {ty : TypeId} {pos : String} {after : Array Edge} {g : Option (Nat × Bool)} {M1 : AM} (hj : onlyB all.toArray s j = true) (hl : lateB all.toArray j = true) (ho : all[j]? = some ⟨none, op, ty, pos, after, g⟩) (hw : Want E all g true)
    (h1 : Op1 P vp ro E M op .skip M1) (hg : Gq P vp ro F D all true n (s.setIfInBounds j true) E M1 Q) : Gq P vp ro F D all l (n + 1) s E M Q := by
  intro tm w hE hM
  obtain ⟨w1, hx, hM1⟩ := h1 ⟨F.fn, tm, F.nt, [], [], false, .normal, none⟩ w ⟨none, op, ty, pos, after, g⟩ rfl hE hM
  obtain ⟨E', M', tm', w', q1, q2, q3, q4⟩ := hg tm w1 hE hM1
  refine ⟨E', M', tm', w', q1, q2, q3, fun k ds kind => .lateA (o := ⟨none, op, ty, pos, after, g⟩) hj hl (toArr ho) ?_ (by rw [← hx]; exact execV_frame rfl) (q4 k ds kind)⟩
  have := Want.wantedV (o := ⟨none, op, ty, pos, after, g⟩) hw hE
  simpa using this

/-- A region that draws, where what 'D' says stays. -/
theorem Ex.held (ok : VPok P vp) (hm : P.follows .mixedOrders = true) {T : List (Nat × TyI)} (hT : TyOk vp T) {Q : Out → En → AM → Prop} {id : Nat} {os : List Oper} (D : List (TypeId × Addr × Value)) (n : Nat) (hn : os.length = n) (hsel : Region.noSelect os.toArray = true) (hk : KeepsM T M D)
    (h : Gq P vp ro F D os false n (Array.replicate n false) E M (fun E M => Q .norm E M)) : Ex P vp ro F (.region id os.toArray true) E M Q := by
  subst hn
  intro tm w hE hM
  obtain ⟨E', M', tm', w', q1, q2, q3, q4⟩ := h tm w hE hM
  exact ⟨.norm, E', M', tm', w', q1, q2, q3, fun k ds kind cs => leads_held ok hm hsel (hk.sound hT hM) (by simpa using q4 _ ds kind)⟩
end
end
end Go.Wvm
