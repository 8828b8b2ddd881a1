/- Codes, loops and calls, in the logic over the small machine. -/
import Derived.Test.YtpglehckhnencaaWvmLgc
set_option linter.unusedSimpArgs false
set_option linter.unusedVariables false
namespace Go.Wvm
open Go.RowKit

section
variable {P : Program} {vp : VP}

/-- A call's run, told from its beginning. -/
def FnRuns (P : Program) (vp : VP) (ro : Nat) (g : FuncId) (args : List Value) (w : VW) (v : Value) (w' : VW) : Prop :=
  ∃ fn f', vp.fn.get g = some fn ∧ VF.enter fn g args .normal = some f' ∧ EndsFrom P ro { fr := f', cs := [], w := w } v w'

theorem leads_step (ok : VPok P vp) (hm : P.follows .mixedOrders = true) {ro : Nat} {m m' : VM} (h : bigF P vp (fun _ => noSub) ro m = .next m') : Leads P ro m m' :=
  leads_big ok hm (fun _ => noSub_ok) h

/-- What is called from the middle of a region. -/
theorem leads_call (ok : VPok P vp) {ro : Nat} {fn nt : Nat} {tm : Tr Value} {ops : Array Oper} {i : Nat} {rest : List Nat} {k : List Item} {ds : List Deferred} {kind : CallKind} {cs : List VF} {w w1 w2 : VW} {o : Oper} {g : FuncId} {args : List Value} {v : Value}
    (ho : ops.toList[i]? = some o) (hw : wantedV o ops.toList tm = true) (hx : execV P vp ro ⟨fn, tm, nt, .inRegion ops (i :: rest) :: k, ds, false, kind, none⟩ o w = some (.enter g args, w1)) (hr : FnRuns P vp ro g args w1 v w2) :
    Leads P ro ⟨⟨fn, tm, nt, .inRegion ops (i :: rest) :: k, ds, false, kind, none⟩, cs, w⟩ ⟨⟨fn, putT nt tm o.dst v, nt, .inRegion ops rest :: k, ds, false, kind, none⟩, cs, w2⟩ := by
  obtain ⟨fnc, f', hg, he, hend⟩ := hr
  intro w0 f cs0 V μ a r Fs wm hmm A hrd C R bottom
  cases hmm
  have hstep : stepV P vp ro ⟨⟨fn, tm, nt, .inRegion ops (i :: rest) :: k, ds, false, kind, none⟩, cs, w⟩ = .next { fr := f', cs := ⟨fn, tm, nt, .inRegion ops (i :: rest) :: k, ds, false, kind, none⟩ :: cs, w := w1 } := by
    simp only [stepV, ho, hw, hx, hg, he]
  obtain ⟨⟨a', Fs', wm1, μ1, r', h1, h2, h3, hr', h4, h5⟩, hbot⟩ := stepV_sound ok A hrd C R hstep bottom
  generalize hFs : Fs' = Fs0 at h4 h1
  cases h4 with
  | @cons _ ac rc _ Fs2 hac hrc hcs =>
  obtain ⟨v', μ2, wm2, F, k1, k2, k3, k4, k5, k6⟩ := hend w0 f' [] w1 μ1 a' r' [] wm1 rfl h3 hr' .nil h5 (mkF ⟨fn, tm, nt, .inRegion ops (i :: rest) :: k, ds, false, kind, none⟩ ac rc :: (Fs2 ++ bottom))
  have sback := step_leave_returned (c := mkF ⟨fn, tm, nt, .inRegion ops (i :: rest) :: k, ds, false, kind, none⟩ ac rc) (cs := Fs2 ++ bottom) k3
  have hfin : (VF.mk fn tm nt (.inRegion ops (i :: rest) :: k) ds false kind none).finish v = some ⟨fn, putT nt tm o.dst v, nt, .inRegion ops rest :: k, ds, false, kind, none⟩ := by
    simp only [VF.finish, ho]; rfl
  obtain ⟨a2, g1, g2, g3, g4⟩ := finish_sound (μ := μ2) (hac.mono k4) k6 rfl hfin (r := rc)
  rw [g1] at sback
  refine ⟨⟨a2, Fs2, wm2, μ2, rc, ?_, h2.trans k4, g2, ?_, hcs.mono k4, k5⟩, rfl⟩
  · exact h1.trans ((show Steps P _ _ from k1).trans (.one sback))
  · exact (show RdR μ1 none rc from hrc).mono k4

theorem execV_frame {P : Program} {vp : VP} {ro : Nat} {fr fr' : VF} {o : Oper} {w : VW} (h : fr.tm = fr'.tm) : execV P vp ro fr o w = execV P vp ro fr' o w := by
  have e1 : fr.ev = fr'.ev := by funext x; cases x <;> simp only [VF.ev, h]
  have e2 : fr.evs = fr'.evs := by
    funext l
    induction l with
    | nil => rfl
    | cons x l ih => simp only [VF.evs, e1, ih]
  have e3 : fr.evParts = fr'.evParts := by
    funext l
    induction l with
    | nil => rfl
    | cons x l ih => obtain ⟨i, x⟩ := x; simp only [VF.evParts, e1, ih]
  have e4 : fr.evO = fr'.evO := by funext x; cases x <;> simp only [VF.evO, e1]
  simp only [execV, xBinOp, xLoad, xStore, xNilCheck, xFieldAddr, xField, xIndexAddr, xIndex, xAlloc, xBox, xBuild, xBuildSlice, xConvert, xMakeInterface, xMakeFunc, xMakeMap, xMakeSlice, xSlice, xLookup, xMapUpdate, xTypeAssert, xDefer, e1, e2, e3, e4]

/-! ### Calls -/
def FnC (P : Program) (vp : VP) (ro : Nat) (g : FuncId) (args : List Value) (M : AM) (Q : Value → AM → Prop) : Prop :=
  ∀ w, Abs ro w M → ∃ v w' M', Q v M' ∧ Abs ro w' M' ∧ FnRuns P vp ro g args w v w'
theorem FnC.mono {ro : Nat} {g : FuncId} {args : List Value} {M : AM} {Q Q' : Value → AM → Prop} (h : FnC P vp ro g args M Q) (k : ∀ v M', Q v M' → Q' v M') : FnC P vp ro g args M Q' := by
  intro w hM
  obtain ⟨v, w', M', h1, h2, h3⟩ := h w hM
  exact ⟨v, w', M', k v M' h1, h2, h3⟩

/-! ### Regions -/
structure FX where
  fn : Nat
  nt : Nat

/-- From an operation on a region is run. -/
def Sq (P : Program) (vp : VP) (ro : Nat) (F : FX) (all os : List Oper) (E : En) (M : AM) (Q : En → AM → Prop) : Prop :=
  ∀ i, all.drop i = os → ∀ tm w, Has tm E → Abs ro w M → ∃ E' M' tm' w', Q E' M' ∧ Has tm' E' ∧ Abs ro w' M' ∧ ∀ k ds kind cs,
    Leads P ro ⟨⟨F.fn, tm, F.nt, .inRegion ⟨all⟩ (rangeL os.length i) :: k, ds, false, kind, none⟩, cs, w⟩ ⟨⟨F.fn, tm', F.nt, k, ds, false, kind, none⟩, cs, w'⟩

/-- Whether an operation is wanted. -/
inductive Want (E : En) (all : List Oper) : Option (Nat × Bool) → Bool → Prop
  | none : Want E all none true
  | yes {j d : Nat} {c want : Bool} {p : Oper} (hp : all[j]? = some p) (hd : p.dst = some d) (hc : enGet E d = some (.bool c)) (h : c = want) : Want E all (some (j, want)) true
  | no {j d : Nat} {c want : Bool} {p : Oper} (hp : all[j]? = some p) (hd : p.dst = some d) (hc : enGet E d = some (.bool c)) (h : c = !want) : Want E all (some (j, want)) false

theorem Want.wantedV {E : En} {all : List Oper} {o : Oper} {b : Bool} {tm : Tr Value} (h : Want E all o.guard b) (hE : Has tm E) : wantedV o all tm = b := by
  obtain ⟨dst, op, type, pos, after, guard⟩ := o
  cases h with
  | none => rfl
  | yes hp hd hc h =>
    subst h
    simp only [Wvm.wantedV, hp, hd, hE _ _ hc]
    rename_i c _
    cases c <;> rfl
  | no hp hd hc h =>
    subst h
    simp only [Wvm.wantedV, hp, hd, hE _ _ hc]
    rename_i want _
    cases want <;> rfl

section
variable (ok : VPok P vp) (hm : P.follows .mixedOrders = true)
include ok hm
variable {ro : Nat} {F : FX} {all os : List Oper} {E : En} {M : AM} {Q : En → AM → Prop}

theorem Sq.nil (h : Q E M) : Sq P vp ro F all [] E M Q := by
  intro i hi tm w hE hM
  refine ⟨E, M, tm, w, h, hE, hM, fun k ds kind cs => leads_step ok hm ?_⟩
  simp only [List.length_nil, rangeL, bigF, stepF, nextF]
theorem Sq.fin {n : Nat} {E' : En} (k : Keep n E E') (h : Q E' M) : Sq P vp ro F all [] E M Q := by
  intro i hi tm w hE hM
  refine ⟨E', M, tm, w, h, fun t v e => hE t v (k.get e).2, hM, fun k ds kind cs => leads_step ok hm ?_⟩
  simp only [List.length_nil, rangeL, bigF, stepF, nextF]
/-- .. and the last one. -/
theorem Sq.finH {n d : Nat} {v : Value} {E' : En} (k : Keep n E E') (h : Q ((d, v) :: E') M) : Sq P vp ro F all [] ((d, v) :: E) M Q := by
  intro i hi tm w hE hM
  refine ⟨(d, v) :: E', M, tm, w, h, fun t u e => ?_, hM, fun k ds kind cs => leads_step ok hm ?_⟩
  · refine hE t u ?_
    simp only [enGet] at e ⊢
    split at e
    · exact e
    · exact (k.get e).2
  · simp only [List.length_nil, rangeL, bigF, stepF, nextF]
omit ok hm in
theorem Sq.mono {Q' : En → AM → Prop} (h : Sq P vp ro F all os E M Q) (k : ∀ E1 M1, Q E1 M1 → Q' E1 M1) : Sq P vp ro F all os E M Q' := by
  intro i hi tm w hE hM
  obtain ⟨E', M', tm', w', q1, q2, q3, q4⟩ := h i hi tm w hE hM
  exact ⟨E', M', tm', w', k _ _ q1, q2, q3, q4⟩

omit ok hm in
theorem drop_cons {all os : List Oper} {o : Oper} {i : Nat} (h : all.drop i = o :: os) : all[i]? = some o ∧ all.drop (i + 1) = os := by
  have h1 : (all.drop i)[0]? = some o := by rw [h]; rfl
  rw [List.getElem?_drop] at h1
  refine ⟨by simpa using h1, ?_⟩
  rw [← List.drop_drop, h]; rfl


/-- An operation that yields a value. -/
theorem Sq.op {d : Nat} {op : Op} {ty : TypeId} {pos : String} {after : Array Edge} {g : Option (Nat × Bool)} {v : Value} {M1 : AM} (hw : Want E all g true) (h1 : Op1 P vp ro E M op (.value v) M1) (hd : Nat.blt d F.nt = true) (h : Sq P vp ro F all os ((d, v) :: E) M1 Q) :
    Sq P vp ro F all (⟨some d, op, ty, pos, after, g⟩ :: os) E M Q := by
  intro i hi tm w hE hM
  obtain ⟨ho, hr⟩ := drop_cons hi
  obtain ⟨w1, hx, hM1⟩ := h1 ⟨F.fn, tm, F.nt, [], [], false, .normal, none⟩ w ⟨some d, op, ty, pos, after, g⟩ rfl hE hM
  obtain ⟨E', M', tm', w', q1, q2, q3, q4⟩ := h (i + 1) hr (putT F.nt tm (some d) v) w1 (hE.put hd v) hM1
  refine ⟨E', M', tm', w', q1, q2, q3, fun k ds kind cs => .trans (leads_step ok hm ?_) (q4 k ds kind cs)⟩
  have hwv := Want.wantedV (o := ⟨some d, op, ty, pos, after, g⟩) hw hE
  have hx2 : execV P vp ro ⟨F.fn, tm, F.nt, .inRegion ⟨all⟩ (i :: rangeL os.length (i + 1)) :: k, ds, false, kind, none⟩ ⟨some d, op, ty, pos, after, g⟩ w = some (.value v, w1) := by
    rw [← hx]; exact execV_frame rfl
  simp only [List.length_cons, rangeL, bigF, stepF, opF, ho, hwv, hx2, opF2, nextF]
/-- .. the same, nothing made of it. -/
theorem Sq.pu {d : Nat} {op : Op} {ty : TypeId} {pos : String} {after : Array Edge} {g : Option (Nat × Bool)} {v : Value} (hw : Want E all g true) (h1 : Pu P vp E M op v) (hd : Nat.blt d F.nt = true) (h : Sq P vp ro F all os ((d, v) :: E) M Q) :
    Sq P vp ro F all (⟨some d, op, ty, pos, after, g⟩ :: os) E M Q :=
  Sq.op ok hm hw (Op1.of_pu h1) hd h
/-- .. whose value nobody takes. -/
theorem Sq.op0 {op : Op} {ty : TypeId} {pos : String} {after : Array Edge} {g : Option (Nat × Bool)} {v : Value} {M1 : AM} (hw : Want E all g true) (h1 : Op1 P vp ro E M op (.value v) M1) (h : Sq P vp ro F all os E M1 Q) :
    Sq P vp ro F all (⟨none, op, ty, pos, after, g⟩ :: os) E M Q := by
  intro i hi tm w hE hM
  obtain ⟨ho, hr⟩ := drop_cons hi
  obtain ⟨w1, hx, hM1⟩ := h1 ⟨F.fn, tm, F.nt, [], [], false, .normal, none⟩ w ⟨none, op, ty, pos, after, g⟩ rfl hE hM
  obtain ⟨E', M', tm', w', q1, q2, q3, q4⟩ := h (i + 1) hr tm w1 hE hM1
  refine ⟨E', M', tm', w', q1, q2, q3, fun k ds kind cs => .trans (leads_step ok hm ?_) (q4 k ds kind cs)⟩
  have hwv := Want.wantedV (o := ⟨none, op, ty, pos, after, g⟩) hw hE
  have hx2 : execV P vp ro ⟨F.fn, tm, F.nt, .inRegion ⟨all⟩ (i :: rangeL os.length (i + 1)) :: k, ds, false, kind, none⟩ ⟨none, op, ty, pos, after, g⟩ w = some (.value v, w1) := by
    rw [← hx]; exact execV_frame rfl
  simp only [List.length_cons, rangeL, bigF, stepF, opF, ho, hwv, hx2, opF2, nextF, putT]
/-- An operation without a value. -/
theorem Sq.act {op : Op} {ty : TypeId} {pos : String} {after : Array Edge} {g : Option (Nat × Bool)} {M1 : AM} (hw : Want E all g true) (h1 : Op1 P vp ro E M op .skip M1) (h : Sq P vp ro F all os E M1 Q) :
    Sq P vp ro F all (⟨none, op, ty, pos, after, g⟩ :: os) E M Q := by
  intro i hi tm w hE hM
  obtain ⟨ho, hr⟩ := drop_cons hi
  obtain ⟨w1, hx, hM1⟩ := h1 ⟨F.fn, tm, F.nt, [], [], false, .normal, none⟩ w ⟨none, op, ty, pos, after, g⟩ rfl hE hM
  obtain ⟨E', M', tm', w', q1, q2, q3, q4⟩ := h (i + 1) hr tm w1 hE hM1
  refine ⟨E', M', tm', w', q1, q2, q3, fun k ds kind cs => .trans (leads_step ok hm ?_) (q4 k ds kind cs)⟩
  have hwv := Want.wantedV (o := ⟨none, op, ty, pos, after, g⟩) hw hE
  have hx2 : execV P vp ro ⟨F.fn, tm, F.nt, .inRegion ⟨all⟩ (i :: rangeL os.length (i + 1)) :: k, ds, false, kind, none⟩ ⟨none, op, ty, pos, after, g⟩ w = some (.skip, w1) := by
    rw [← hx]; exact execV_frame rfl
  simp only [List.length_cons, rangeL, bigF, stepF, opF, ho, hwv, hx2, opF2, nextF, putT]
/-- An operation that is not wanted. -/
theorem Sq.skip {d : Nat} {op : Op} {ty : TypeId} {pos : String} {after : Array Edge} {g : Option (Nat × Bool)} (hw : Want E all g false) (hd : Nat.blt d F.nt = true) (h : Sq P vp ro F all os ((d, undef) :: E) M Q) :
    Sq P vp ro F all (⟨some d, op, ty, pos, after, g⟩ :: os) E M Q := by
  intro i hi tm w hE hM
  obtain ⟨ho, hr⟩ := drop_cons hi
  obtain ⟨E', M', tm', w', q1, q2, q3, q4⟩ := h (i + 1) hr (putT F.nt tm (some d) undef) w (hE.put hd undef) hM
  refine ⟨E', M', tm', w', q1, q2, q3, fun k ds kind cs => .trans (leads_step ok hm ?_) (q4 k ds kind cs)⟩
  have hwv := Want.wantedV (o := ⟨some d, op, ty, pos, after, g⟩) hw hE
  simp only [List.length_cons, rangeL, bigF, stepF, opF, ho, hwv, nextF]
theorem Sq.skip0 {op : Op} {ty : TypeId} {pos : String} {after : Array Edge} {g : Option (Nat × Bool)} (hw : Want E all g false) (h : Sq P vp ro F all os E M Q) :
    Sq P vp ro F all (⟨none, op, ty, pos, after, g⟩ :: os) E M Q := by
  intro i hi tm w hE hM
  obtain ⟨ho, hr⟩ := drop_cons hi
  obtain ⟨E', M', tm', w', q1, q2, q3, q4⟩ := h (i + 1) hr tm w hE hM
  refine ⟨E', M', tm', w', q1, q2, q3, fun k ds kind cs => .trans (leads_step ok hm ?_) (q4 k ds kind cs)⟩
  have hwv := Want.wantedV (o := ⟨none, op, ty, pos, after, g⟩) hw hE
  simp only [List.length_cons, rangeL, bigF, stepF, opF, ho, hwv, nextF, putT]
omit hm in
/-- A call. -/
theorem Sq.call {d : Nat} {op : Op} {ty : TypeId} {pos : String} {after : Array Edge} {g : Option (Nat × Bool)} {f : FuncId} {args : List Value} (hw : Want E all g true) (h1 : Op1 P vp ro E M op (.enter f args) M) (hd : Nat.blt d F.nt = true) (hf : FnC P vp ro f args M (fun v M1 => Sq P vp ro F all os ((d, v) :: E) M1 Q)) :
    Sq P vp ro F all (⟨some d, op, ty, pos, after, g⟩ :: os) E M Q := by
  intro i hi tm w hE hM
  obtain ⟨ho, hr⟩ := drop_cons hi
  obtain ⟨w1, hx, hM1⟩ := h1 ⟨F.fn, tm, F.nt, [], [], false, .normal, none⟩ w ⟨some d, op, ty, pos, after, g⟩ rfl hE hM
  obtain ⟨v, w2, M2, hsq, hM2, hrun⟩ := hf w1 hM1
  obtain ⟨E', M', tm', w', q1, q2, q3, q4⟩ := hsq (i + 1) hr (putT F.nt tm (some d) v) w2 (hE.put hd v) hM2
  have hwv := Want.wantedV (o := ⟨some d, op, ty, pos, after, g⟩) hw hE
  exact ⟨E', M', tm', w', q1, q2, q3, fun k ds kind cs => .trans (leads_call ok (o := ⟨some d, op, ty, pos, after, g⟩) ho hwv (by rw [← hx]; exact execV_frame rfl) hrun) (q4 k ds kind cs)⟩
omit hm in
theorem Sq.call0 {op : Op} {ty : TypeId} {pos : String} {after : Array Edge} {g : Option (Nat × Bool)} {f : FuncId} {args : List Value} (hw : Want E all g true) (h1 : Op1 P vp ro E M op (.enter f args) M) (hf : FnC P vp ro f args M (fun v M1 => Sq P vp ro F all os E M1 Q)) :
    Sq P vp ro F all (⟨none, op, ty, pos, after, g⟩ :: os) E M Q := by
  intro i hi tm w hE hM
  obtain ⟨ho, hr⟩ := drop_cons hi
  obtain ⟨w1, hx, hM1⟩ := h1 ⟨F.fn, tm, F.nt, [], [], false, .normal, none⟩ w ⟨none, op, ty, pos, after, g⟩ rfl hE hM
  obtain ⟨v, w2, M2, hsq, hM2, hrun⟩ := hf w1 hM1
  obtain ⟨E', M', tm', w', q1, q2, q3, q4⟩ := hsq (i + 1) hr tm w2 hE hM2
  have hwv := Want.wantedV (o := ⟨none, op, ty, pos, after, g⟩) hw hE
  exact ⟨E', M', tm', w', q1, q2, q3, fun k ds kind cs => .trans (leads_call ok (o := ⟨none, op, ty, pos, after, g⟩) ho hwv (by rw [← hx]; exact execV_frame rfl) hrun) (q4 k ds kind cs)⟩
end

/-! ### Codes -/
inductive Out where
  | norm
  | ret
  | exit (id : Nat)

/-- How a code is left. -/
def LeadsO (P : Program) (ro : Nat) (F : FX) (it : Item) (tm : Tr Value) (w : VW) (o : Out) (tm' : Tr Value) (w' : VW) : Prop :=
  match o with
  | .norm => ∀ k ds kind cs, Leads P ro ⟨⟨F.fn, tm, F.nt, it :: k, ds, false, kind, none⟩, cs, w⟩ ⟨⟨F.fn, tm', F.nt, k, ds, false, kind, none⟩, cs, w'⟩
  | .ret => ∀ k ds kind cs, ∃ k', Leads P ro ⟨⟨F.fn, tm, F.nt, it :: k, ds, false, kind, none⟩, cs, w⟩ ⟨⟨F.fn, tm', F.nt, k', ds, true, kind, none⟩, cs, w'⟩
  | .exit id => ∀ k k' ds kind cs, exitTo id k = some k' → Leads P ro ⟨⟨F.fn, tm, F.nt, it :: k, ds, false, kind, none⟩, cs, w⟩ ⟨⟨F.fn, tm', F.nt, k', ds, false, kind, none⟩, cs, w'⟩

def ExI (P : Program) (vp : VP) (ro : Nat) (F : FX) (it : Item) (E : En) (M : AM) (Q : Out → En → AM → Prop) : Prop :=
  ∀ tm w, Has tm E → Abs ro w M → ∃ o E' M' tm' w', Q o E' M' ∧ Has tm' E' ∧ Abs ro w' M' ∧ LeadsO P ro F it tm w o tm' w'
def Ex (P : Program) (vp : VP) (ro : Nat) (F : FX) (c : Code) (E : En) (M : AM) (Q : Out → En → AM → Prop) : Prop := ExI P vp ro F (.code c) E M Q
/-- A loop, from either of the states in which a round of it may begin. -/
def Lp (P : Program) (vp : VP) (ro : Nat) (F : FX) (body : Code) (E : En) (M : AM) (Q : Out → En → AM → Prop) : Prop :=
  ∀ tm w, Has tm E → Abs ro w M → ∃ o E' M' tm' w', Q o E' M' ∧ Has tm' E' ∧ Abs ro w' M' ∧ LeadsO P ro F (.code (.loop body)) tm w o tm' w' ∧ LeadsO P ro F (.inLoop body) tm w o tm' w'

section
variable (ok : VPok P vp) (hm : P.follows .mixedOrders = true)
include ok hm
variable {ro : Nat} {F : FX} {E : En} {M : AM} {Q : Out → En → AM → Prop}

/-- A first step, then something that is left in this way. -/
theorem LeadsO.pre {it it' : Item} {tm tm' : Tr Value} {w w' : VW} {o : Out} (h : ∀ k ds kind cs, bigF P vp (fun _ => noSub) ro ⟨⟨F.fn, tm, F.nt, it :: k, ds, false, kind, none⟩, cs, w⟩ = .next ⟨⟨F.fn, tm, F.nt, it' :: k, ds, false, kind, none⟩, cs, w⟩) (k : LeadsO P ro F it' tm w o tm' w') : LeadsO P ro F it tm w o tm' w' := by
  cases o with
  | norm => exact fun k' ds kind cs => (leads_step ok hm (h k' ds kind cs)).trans (k k' ds kind cs)
  | ret => exact fun k' ds kind cs => let ⟨k2, q⟩ := k k' ds kind cs; ⟨k2, (leads_step ok hm (h k' ds kind cs)).trans q⟩
  | exit id => exact fun k' k2 ds kind cs e => (leads_step ok hm (h k' ds kind cs)).trans (k k' k2 ds kind cs e)

omit ok hm in
theorem Ex.mono {c : Code} {Q' : Out → En → AM → Prop} (h : Ex P vp ro F c E M Q) (k : ∀ o E1 M1, Q o E1 M1 → Q' o E1 M1) : Ex P vp ro F c E M Q' := by
  intro tm w hE hM
  obtain ⟨o, E', M', tm', w', q1, q2⟩ := h tm w hE hM
  exact ⟨o, E', M', tm', w', k _ _ _ q1, q2⟩
omit ok hm in
theorem Lp.mono {c : Code} {Q' : Out → En → AM → Prop} (h : Lp P vp ro F c E M Q) (k : ∀ o E1 M1, Q o E1 M1 → Q' o E1 M1) : Lp P vp ro F c E M Q' := by
  intro tm w hE hM
  obtain ⟨o, E', M', tm', w', q1, q2⟩ := h tm w hE hM
  exact ⟨o, E', M', tm', w', k _ _ _ q1, q2⟩
omit ok hm in
theorem Ex.weaken {c : Code} {E0 : En} {M0 : AM} (h : Ex P vp ro F c E0 M0 Q) (s : SubE E0 E) (l : AM.Le M0 M) : Ex P vp ro F c E M Q :=
  fun tm w hE hM => h tm w (hE.sub s) (hM.le l)
omit ok hm in
theorem Lp.weaken {c : Code} {E0 : En} {M0 : AM} (h : Lp P vp ro F c E0 M0 Q) (s : SubE E0 E) (l : AM.Le M0 M) : Lp P vp ro F c E M Q :=
  fun tm w hE hM => h tm w (hE.sub s) (hM.le l)

theorem Ex.skip (h : Q .norm E M) : Ex P vp ro F .skip E M Q := fun tm w hE hM =>
  ⟨.norm, E, M, tm, w, h, hE, hM, fun k ds kind cs => leads_step ok hm (by simp only [bigF, stepF, nextF])⟩
theorem Ex.label {l : Nat} (h : Q .norm E M) : Ex P vp ro F (.label l) E M Q := fun tm w hE hM =>
  ⟨.norm, E, M, tm, w, h, hE, hM, fun k ds kind cs => leads_step ok hm (by simp only [bigF, stepF, nextF])⟩
theorem Ex.ret (h : Q .ret E M) : Ex P vp ro F .ret E M Q := fun tm w hE hM =>
  ⟨.ret, E, M, tm, w, h, hE, hM, fun k ds kind cs => ⟨.code .ret :: k, leads_step ok hm (by simp only [bigF, stepF])⟩⟩
theorem Ex.exit {id : Nat} (h : Q (.exit id) E M) : Ex P vp ro F (.exit id) E M Q := fun tm w hE hM =>
  ⟨.exit id, E, M, tm, w, h, hE, hM, fun k k' ds kind cs e => leads_step ok hm (by simp only [bigF, stepF, e, nextF])⟩

omit ok hm in
theorem exitTo_code {id : Nat} {c : Code} {k : List Item} : exitTo id (.code c :: k) = exitTo id k := rfl
omit ok hm in
theorem exitTo_loop {id : Nat} {c : Code} {k : List Item} : exitTo id (.inLoop c :: k) = exitTo id k := rfl
omit ok hm in
theorem exitTo_scope {id : Nat} {c : Code} {k : List Item} : exitTo id (.inScope c :: k) = exitTo id k := rfl

/-- What stands behind a code, in the middle of a sequence. -/
def seqQ (P : Program) (vp : VP) (ro : Nat) (F : FX) (b : Code) (Q : Out → En → AM → Prop) : Out → En → AM → Prop
  | .norm, E, M => Ex P vp ro F b E M Q
  | o, E, M => Q o E M
theorem Ex.seq {a b : Code} (h : Ex P vp ro F a E M (seqQ P vp ro F b Q)) : Ex P vp ro F (.seq a b) E M Q := by
  intro tm w hE hM
  have st : ∀ (k : List Item) ds kind cs, Leads P ro ⟨⟨F.fn, tm, F.nt, .code (.seq a b) :: k, ds, false, kind, none⟩, cs, w⟩ ⟨⟨F.fn, tm, F.nt, .code a :: .code b :: k, ds, false, kind, none⟩, cs, w⟩ :=
    fun k ds kind cs => leads_step ok hm (by simp only [bigF, stepF, nextF])
  obtain ⟨o, E', M', tm', w', q1, q2, q3, q4⟩ := h tm w hE hM
  cases o with
  | norm =>
    obtain ⟨o, E2, M2, tm2, w2, p1, p2, p3, p4⟩ := (show Ex P vp ro F b E' M' Q from q1) tm' w' q2 q3
    refine ⟨o, E2, M2, tm2, w2, p1, p2, p3, ?_⟩
    cases o with
    | norm => exact fun k ds kind cs => ((st k ds kind cs).trans (q4 _ _ _ _)).trans (p4 _ _ _ _)
    | ret => exact fun k ds kind cs => let ⟨k2, r⟩ := p4 k ds kind cs; ⟨k2, ((st k ds kind cs).trans (q4 _ _ _ _)).trans r⟩
    | exit id => exact fun k k' ds kind cs e => ((st k ds kind cs).trans (q4 _ _ _ _)).trans (p4 _ _ _ _ _ e)
  | ret => exact ⟨.ret, E', M', tm', w', q1, q2, q3, fun k ds kind cs => let ⟨k2, r⟩ := q4 (.code b :: k) ds kind cs; ⟨k2, (st k ds kind cs).trans r⟩⟩
  | exit id => exact ⟨.exit id, E', M', tm', w', q1, q2, q3, fun k k' ds kind cs e => (st k ds kind cs).trans (q4 _ _ _ _ _ e)⟩

/-- What stands behind a block. -/
def blockQ (id : Nat) (Q : Out → En → AM → Prop) : Out → En → AM → Prop
  | .exit j, E, M => match Nat.beq j id with
    | true => Q .norm E M
    | false => Q (.exit j) E M
  | o, E, M => Q o E M
theorem Ex.block {id : Nat} {c : Code} (h : Ex P vp ro F c E M (blockQ id Q)) : Ex P vp ro F (.block id c) E M Q := by
  intro tm w hE hM
  have st : ∀ (k : List Item) ds kind cs, Leads P ro ⟨⟨F.fn, tm, F.nt, .code (.block id c) :: k, ds, false, kind, none⟩, cs, w⟩ ⟨⟨F.fn, tm, F.nt, .code c :: .inBlock id :: k, ds, false, kind, none⟩, cs, w⟩ :=
    fun k ds kind cs => leads_step ok hm (by simp only [bigF, stepF, nextF])
  obtain ⟨o, E', M', tm', w', q1, q2, q3, q4⟩ := h tm w hE hM
  cases o with
  | norm =>
    refine ⟨.norm, E', M', tm', w', q1, q2, q3, fun k ds kind cs => ((st k ds kind cs).trans (q4 _ _ _ _)).trans (leads_step ok hm (by simp only [bigF, stepF, nextF]))⟩
  | ret => exact ⟨.ret, E', M', tm', w', q1, q2, q3, fun k ds kind cs => let ⟨k2, r⟩ := q4 (.inBlock id :: k) ds kind cs; ⟨k2, (st k ds kind cs).trans r⟩⟩
  | exit j =>
    simp only [blockQ] at q1
    by_cases e : j = id
    · rw [show Nat.beq j id = true by subst e; exact Nat.beq_refl _] at q1
      refine ⟨.norm, E', M', tm', w', q1, q2, q3, fun k ds kind cs => (st k ds kind cs).trans (q4 _ k _ _ _ ?_)⟩
      subst e
      simp [exitTo]
    · rw [show Nat.beq j id = false by rw [beq_eq]; simpa using e] at q1
      refine ⟨.exit j, E', M', tm', w', q1, q2, q3, fun k k' ds kind cs hk => (st k ds kind cs).trans (q4 _ _ _ _ _ ?_)⟩
      have : (id == j) = false := by simp; omega
      simp only [exitTo, this]
      exact hk

theorem Ex.scope {c : Code} (h : Ex P vp ro F c E M Q) : Ex P vp ro F (.scope c) E M Q := by
  intro tm w hE hM
  have st : ∀ (k : List Item) ds kind cs, Leads P ro ⟨⟨F.fn, tm, F.nt, .code (.scope c) :: k, ds, false, kind, none⟩, cs, w⟩ ⟨⟨F.fn, tm, F.nt, .code c :: .inScope c :: k, ds, false, kind, none⟩, cs, w⟩ :=
    fun k ds kind cs => leads_step ok hm (by simp only [bigF, stepF, nextF])
  obtain ⟨o, E', M', tm', w', q1, q2, q3, q4⟩ := h tm w hE hM
  cases o with
  | norm => exact ⟨.norm, E', M', tm', w', q1, q2, q3, fun k ds kind cs => ((st k ds kind cs).trans (q4 _ _ _ _)).trans (leads_step ok hm (by simp only [bigF, stepF, nextF]))⟩
  | ret => exact ⟨.ret, E', M', tm', w', q1, q2, q3, fun k ds kind cs => let ⟨k2, r⟩ := q4 (.inScope c :: k) ds kind cs; ⟨k2, (st k ds kind cs).trans r⟩⟩
  | exit j => exact ⟨.exit j, E', M', tm', w', q1, q2, q3, fun k k' ds kind cs hk => (st k ds kind cs).trans (q4 _ _ _ _ _ hk)⟩

theorem Ex.cond {c : Operand} {a b : Code} {x : Bool} (hc : evE E c = some (.bool x)) (ha : x = true → Ex P vp ro F a E M Q) (hb : x = false → Ex P vp ro F b E M Q) : Ex P vp ro F (.cond c a b) E M Q := by
  intro tm w hE hM
  have hev : ∀ k ds kind, (VF.mk F.fn tm F.nt k ds false kind none).ev c = some (.bool x) := fun k ds kind => Has.ev (fr := VF.mk F.fn tm F.nt k ds false kind none) hE hc
  cases x with
  | true =>
    obtain ⟨o, E', M', tm', w', q1, q2, q3, q4⟩ := ha rfl tm w hE hM
    exact ⟨o, E', M', tm', w', q1, q2, q3, LeadsO.pre ok hm (it' := .code a) (fun k ds kind cs => by simp only [bigF, stepF, condF, hev, nextF]) q4⟩
  | false =>
    obtain ⟨o, E', M', tm', w', q1, q2, q3, q4⟩ := hb rfl tm w hE hM
    exact ⟨o, E', M', tm', w', q1, q2, q3, LeadsO.pre ok hm (it' := .code b) (fun k ds kind cs => by simp only [bigF, stepF, condF, hev, nextF]) q4⟩

theorem Ex.condT {c : Operand} {a b : Code} {x : Bool} (hc : evE E c = some (.bool x)) (h : x = true) (ha : Ex P vp ro F a E M Q) : Ex P vp ro F (.cond c a b) E M Q :=
  Ex.cond ok hm hc (fun _ => ha) (fun e => by rw [h] at e; cases e)
theorem Ex.condF {c : Operand} {a b : Code} {x : Bool} (hc : evE E c = some (.bool x)) (h : x = false) (hb : Ex P vp ro F b E M Q) : Ex P vp ro F (.cond c a b) E M Q :=
  Ex.cond ok hm hc (fun e => by rw [h] at e; cases e) (fun _ => hb)

/-- Behind a loop's round. -/
def loopQ (P : Program) (vp : VP) (ro : Nat) (F : FX) (body : Code) (Q : Out → En → AM → Prop) : Out → En → AM → Prop
  | .norm, E, M => Lp P vp ro F body E M Q
  | o, E, M => Q o E M
theorem Lp.round {body : Code} (h : Ex P vp ro F body E M (loopQ P vp ro F body Q)) : Lp P vp ro F body E M Q := by
  intro tm w hE hM
  obtain ⟨o, E', M', tm', w', q1, q2, q3, q4⟩ := h tm w hE hM
  have key : ∀ (o : Out) (tm2 : Tr Value) (w2 : VW), (∀ k ds kind cs, (match o with
      | .norm => Leads P ro ⟨⟨F.fn, tm, F.nt, .code body :: .inLoop body :: k, ds, false, kind, none⟩, cs, w⟩ ⟨⟨F.fn, tm2, F.nt, k, ds, false, kind, none⟩, cs, w2⟩
      | .ret => ∃ k', Leads P ro ⟨⟨F.fn, tm, F.nt, .code body :: .inLoop body :: k, ds, false, kind, none⟩, cs, w⟩ ⟨⟨F.fn, tm2, F.nt, k', ds, true, kind, none⟩, cs, w2⟩
      | .exit id => ∀ k', exitTo id k = some k' → Leads P ro ⟨⟨F.fn, tm, F.nt, .code body :: .inLoop body :: k, ds, false, kind, none⟩, cs, w⟩ ⟨⟨F.fn, tm2, F.nt, k', ds, false, kind, none⟩, cs, w2⟩ : Prop)) →
      LeadsO P ro F (.code (.loop body)) tm w o tm2 w2 ∧ LeadsO P ro F (.inLoop body) tm w o tm2 w2 := by
    intro o tm2 w2 hk
    have s1 : ∀ (k : List Item) ds kind cs, Leads P ro ⟨⟨F.fn, tm, F.nt, .code (.loop body) :: k, ds, false, kind, none⟩, cs, w⟩ ⟨⟨F.fn, tm, F.nt, .code body :: .inLoop body :: k, ds, false, kind, none⟩, cs, w⟩ :=
      fun k ds kind cs => leads_step ok hm (by simp only [bigF, stepF, nextF])
    have s2 : ∀ (k : List Item) ds kind cs, Leads P ro ⟨⟨F.fn, tm, F.nt, .inLoop body :: k, ds, false, kind, none⟩, cs, w⟩ ⟨⟨F.fn, tm, F.nt, .code body :: .inLoop body :: k, ds, false, kind, none⟩, cs, w⟩ :=
      fun k ds kind cs => leads_step ok hm (by simp only [bigF, stepF, nextF])
    cases o with
    | norm => exact ⟨fun k ds kind cs => (s1 k ds kind cs).trans (hk k ds kind cs), fun k ds kind cs => (s2 k ds kind cs).trans (hk k ds kind cs)⟩
    | ret => exact ⟨fun k ds kind cs => let ⟨k2, r⟩ := hk k ds kind cs; ⟨k2, (s1 k ds kind cs).trans r⟩, fun k ds kind cs => let ⟨k2, r⟩ := hk k ds kind cs; ⟨k2, (s2 k ds kind cs).trans r⟩⟩
    | exit id => exact ⟨fun k k' ds kind cs e => (s1 k ds kind cs).trans (hk k ds kind cs k' e), fun k k' ds kind cs e => (s2 k ds kind cs).trans (hk k ds kind cs k' e)⟩
  cases o with
  | norm =>
    obtain ⟨o, E2, M2, tm2, w2, p1, p2, p3, _, p4⟩ := (show Lp P vp ro F body E' M' Q from q1) tm' w' q2 q3
    refine ⟨o, E2, M2, tm2, w2, p1, p2, p3, key o tm2 w2 fun k ds kind cs => ?_⟩
    cases o with
    | norm => exact (q4 _ _ _ _).trans (p4 _ _ _ _)
    | ret => obtain ⟨k2, r⟩ := p4 k ds kind cs; exact ⟨k2, (q4 _ _ _ _).trans r⟩
    | exit id => exact fun k' e => (q4 _ _ _ _).trans (p4 _ _ _ _ _ e)
  | ret => exact ⟨.ret, E', M', tm', w', q1, q2, q3, key .ret tm' w' fun k ds kind cs => q4 (.inLoop body :: k) ds kind cs⟩
  | exit id => exact ⟨.exit id, E', M', tm', w', q1, q2, q3, key (.exit id) tm' w' fun k ds kind cs k' e => q4 (.inLoop body :: k) k' ds kind cs e⟩
omit ok hm in
theorem Ex.loop {body : Code} (h : Lp P vp ro F body E M Q) : Ex P vp ro F (.loop body) E M Q := by
  intro tm w hE hM
  obtain ⟨o, E', M', tm', w', q1, q2, q3, q4, _⟩ := h tm w hE hM
  exact ⟨o, E', M', tm', w', q1, q2, q3, q4⟩

/-- What is so at the head of each round, told by a number of things (a); a measure that goes down. -/
def invQ {α : Type} (I : α → En → AM → Prop) (μ : α → Nat) (a : α) (Q : Out → En → AM → Prop) : Out → En → AM → Prop
  | .norm, E, M => ∃ b E0, μ b < μ a ∧ SubE E0 E ∧ I b E0 M
  | o, E, M => Q o E M
theorem Lp.inv {α : Type} (I : α → En → AM → Prop) (μ : α → Nat) {body : Code} (h : ∀ a E M, I a E M → Ex P vp ro F body E M (invQ I μ a Q)) (a : α) (E0 : En) (hs : SubE E0 E) (hI : I a E0 M) : Lp P vp ro F body E M Q := by
  have key : ∀ (n : Nat) (a : α) (E : En) (M : AM), μ a ≤ n → I a E M → Lp P vp ro F body E M Q := by
    intro n
    induction n with
    | zero =>
      intro a E M hn hI
      refine Lp.round ok hm ((h a E M hI).mono fun o E1 M1 hq => ?_)
      cases o with
      | norm => obtain ⟨b, _, hlt, _⟩ := hq; omega
      | ret => exact hq
      | exit id => exact hq
    | succ n ih =>
      intro a E M hn hI
      refine Lp.round ok hm ((h a E M hI).mono fun o E1 M1 hq => ?_)
      cases o with
      | norm =>
        obtain ⟨b, E0, hlt, hs, hI⟩ := hq
        exact (ih b E0 M1 (by omega) hI).weaken hs (AM.Le.refl _)
      | ret => exact hq
      | exit id => exact hq
  exact (key _ a E0 M (Nat.le_refl _) hI).weaken hs (AM.Le.refl _)
omit ok hm in
/-- A piece whose ways meet again. -/
theorem Ex.cut {a b : Code} (E1 : En) (R : AM → Prop) (h1 : Ex P vp ro F a E M (fun o E' M' => o = .norm ∧ SubE E1 E' ∧ R M')) (h2 : ∀ M', R M' → Ex P vp ro F b E1 M' Q) : Ex P vp ro F a E M (seqQ P vp ro F b Q) :=
  h1.mono fun o E' M' ⟨ho, hs, hr⟩ => by subst ho; exact (h2 M' hr).weaken hs (AM.Le.refl _)
omit ok hm in
theorem Ex.facts {c : Code} (h : (∀ b a, M.get b = some a → b < M.next) → ro ≤ M.next → Ex P vp ro F c E M Q) : Ex P vp ro F c E M Q :=
  fun tm w hE hM => h (fun b a k => hM.bound k) (by rw [← hM.next]; exact hM.ron) tm w hE hM
omit ok hm in
theorem FnC.facts {g : FuncId} {args : List Value} {Q : Value → AM → Prop} (h : (∀ b a, M.get b = some a → b < M.next) → ro ≤ M.next → FnC P vp ro g args M Q) : FnC P vp ro g args M Q :=
  fun w hM => h (fun b a k => hM.bound k) (by rw [← hM.next]; exact hM.ron) w hM

theorem Ex.region {id : Nat} {os : List Oper} (h : Sq P vp ro F os os E M (fun E M => Q .norm E M)) : Ex P vp ro F (.region id os.toArray false) E M Q := by
  intro tm w hE hM
  obtain ⟨E', M', tm', w', q1, q2, q3, q4⟩ := h 0 rfl tm w hE hM
  exact ⟨.norm, E', M', tm', w', q1, q2, q3, fun k ds kind cs => (leads_step ok hm (by simp only [bigF, stepF, nextF, List.toList_toArray])).trans (q4 k ds kind cs)⟩

/-! ### A function -/
def argsE : Nat → List Value → En
  | _, [] => []
  | i, v :: vs => (i, v) :: argsE (i + 1) vs
omit ok hm in
theorem argsE_get : ∀ (l : List Value) (i t : Nat) (v : Value), enGet (argsE i l) t = some v → i ≤ t ∧ l[t - i]? = some v
  | [], _, _, _, h => by cases h
  | x :: l, i, t, v, h => by
    simp only [argsE, enGet] at h
    split at h
    · rename_i hb
      cases h
      have := Nat.eq_of_beq_eq_true hb
      subst this
      simp
    · obtain ⟨h1, h2⟩ := argsE_get l (i + 1) t v h
      refine ⟨by omega, ?_⟩
      rw [show t - i = (t - (i + 1)) + 1 by omega, List.getElem?_cons_succ]; exact h2
omit ok hm in
theorem argsE_has (l : List Value) : Has (Tr.putL .nil 0 l) (argsE 0 l) := by
  intro t v h
  obtain ⟨_, h2⟩ := argsE_get l 0 t v h
  rw [Nat.sub_zero] at h2
  have hlt : t < 0 + l.length := by
    rcases Nat.lt_or_ge t l.length with h | h
    · omega
    · rw [List.getElem?_eq_none h] at h2; cases h2
  rw [Tr.get_putL, if_pos ⟨Nat.zero_le _, hlt⟩, Nat.sub_zero]
  exact h2

/-- What a function hands back. -/
inductive ResL (vp : VP) (E : En) (M : AM) : List ResultVar → List Value → Prop
  | nil : ResL vp E M [] []
  | tmp {t : Tmp} {v : Value} {rs : List ResultVar} {vs : List Value} (h : enGet E t = some v) (r : ResL vp E M rs vs) : ResL vp E M (.tmp t :: rs) (v :: vs)
  | cell {a : Tmp} {t : TypeId} {v : Value} {rs : List ResultVar} {vs : List Value} {b o u : Nat} {l : List Value} {tt : Option (TypeId × Nat)} {i : TyI} (h : enGet E a = some (.pointer (some ⟨b, o, none⟩))) (ht : vp.ty.get t = some i) (hb : M.get b = some (.row l u tt))
      (hv : (if i.agg then some (.agg ⟨(l.drop o).take i.size⟩) else l[o]?) = some v) (hl : o + i.size ≤ l.length) (r : ResL vp E M rs vs) : ResL vp E M (.cell a t :: rs) (v :: vs)
omit ok hm in
theorem ResL.sound {vp : VP} {E : En} {M : AM} {rs : List ResultVar} {vs : List Value} (h : ResL vp E M rs vs) {fr : VF} {w : VW} (hE : Has fr.tm E) (hM : Abs ro w M) : resultsL vp fr w rs = some vs := by
  induction h with
  | nil => rfl
  | tmp h _ ih => simp only [resultsL, results1, hE _ _ h, ih]
  | @cell a t v rs vs b o u l tt i h ht hb hv hl _ ih =>
    obtain ⟨c, dv, hw, hc⟩ := hM.row hb
    simp only [resultsL, results1, hE _ _ h, loadV, loadC, ht, hw, ih]
    cases ha : i.agg with
    | true => rw [ha] at hv; simp at hv; simp only [cells_load hc _ _ hl, hv]
    | false => rw [ha] at hv; simp at hv; simp only [hc _ _ hv]
def valOf : List Value → Value
  | [v] => v
  | vs => .tuple ⟨vs⟩

/-- How a function's body hands back its results. -/
def RetQ (vp : VP) (rs : List ResultVar) (Q : Value → AM → Prop) : Out → En → AM → Prop
  | .exit _, _, _ => False
  | _, E, M => ∃ vs, ResL vp E M rs vs ∧ Q (valOf vs) M

theorem FnC.body {g : FuncId} {args : List Value} {fn : Func} {c : Code} {nt : Nat} {Q : Value → AM → Prop} (hf : vp.fn.get g = some fn) (hb : fn.body = some c) (hnt : args.length + (fn.ntmps - args.length) = nt)
    (h : Ex P vp ro ⟨g, nt⟩ c (argsE 0 args) M (RetQ vp fn.results.toList Q)) : FnC P vp ro g args M Q := by
  intro w hM
  obtain ⟨o, E', M', tm', w', q1, q2, q3, q4⟩ := h _ w (argsE_has args) hM
  have fin : ∀ k vs, ResL vp E' M' fn.results.toList vs → EndsFrom P ro ⟨⟨g, tm', nt, k, [], true, .normal, none⟩, [], w'⟩ (valOf vs) w' := by
    intro k vs hr
    refine ends_big ok hm (fun _ => noSub_ok) ?_
    have hr2 := hr.sound (fr := ⟨g, tm', nt, k, [], true, .normal, none⟩) q2 q3
    have hv : resultsV vp ⟨g, tm', nt, k, [], true, .normal, none⟩ w' fn.results.toList = some (valOf vs) := by
      unfold resultsV
      rw [hr2]
      cases vs with
      | nil => rfl
      | cons x xs => cases xs <;> rfl
    simp only [bigF, stepV, hf, hv]
  have he : VF.enter fn g args .normal = some ⟨g, Tr.putL .nil 0 args, nt, [.code c], [], false, .normal, none⟩ := by
    simp only [VF.enter, hb, hnt]
  cases o with
  | exit id => exact q1.elim
  | norm =>
    obtain ⟨vs, hr, hq⟩ := q1
    refine ⟨valOf vs, w', M', hq, q3, fn, _, hf, he, ?_⟩
    refine ((q4 [] [] .normal []).trans (leads_step ok hm ?_)).ends (fin [] vs hr)
    simp only [bigF, stepF]
  | ret =>
    obtain ⟨vs, hr, hq⟩ := q1
    obtain ⟨k', hl⟩ := q4 [] [] .normal []
    exact ⟨valOf vs, w', M', hq, q3, fn, _, hf, he, hl.ends (fin k' vs hr)⟩
end
end
end Go.Wvm
