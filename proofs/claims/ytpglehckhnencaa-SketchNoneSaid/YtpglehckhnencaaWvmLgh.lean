/- Deferred calls, in the logic over the small machine. -/
import Derived.Test.YtpglehckhnencaaWvmLgg
set_option linter.unusedSimpArgs false
set_option linter.unusedVariables false
namespace Go.Wvm
open Go.RowKit

section
variable {P : Program} {vp : VP}

/-- How a code is left, with the calls that it has put off. -/
def LeadsD (P : Program) (ro : Nat) (F : FX) (it : Item) (tm : Tr Value) (w : VW) (o : Out) (D : List Deferred) (tm' : Tr Value) (w' : VW) : Prop :=
  match o with
  | .norm => ∀ k ds kind cs, Leads P ro ⟨⟨F.fn, tm, F.nt, it :: k, ds, false, kind, none⟩, cs, w⟩ ⟨⟨F.fn, tm', F.nt, k, D ++ ds, false, kind, none⟩, cs, w'⟩
  | .ret => ∀ k ds kind cs, ∃ k', Leads P ro ⟨⟨F.fn, tm, F.nt, it :: k, ds, false, kind, none⟩, cs, w⟩ ⟨⟨F.fn, tm', F.nt, k', D ++ ds, true, kind, none⟩, cs, w'⟩
  | .exit id => ∀ k k' ds kind cs, exitTo id k = some k' → Leads P ro ⟨⟨F.fn, tm, F.nt, it :: k, ds, false, kind, none⟩, cs, w⟩ ⟨⟨F.fn, tm', F.nt, k', D ++ ds, false, kind, none⟩, cs, w'⟩

def ExD (P : Program) (vp : VP) (ro : Nat) (F : FX) (c : Code) (E : En) (M : AM) (Q : Out → List Deferred → En → AM → Prop) : Prop :=
  ∀ tm w, Has tm E → Abs ro w M → ∃ o D E' M' tm' w', Q o D E' M' ∧ Has tm' E' ∧ Abs ro w' M' ∧ LeadsD P ro F (.code c) tm w o D tm' w'

section
variable (ok : VPok P vp) (hm : P.follows .mixedOrders = true)
include ok hm
variable {ro : Nat} {F : FX} {E : En} {M : AM} {Q : Out → List Deferred → En → AM → Prop}

omit ok hm in
theorem LeadsO.toD {it : Item} {tm tm' : Tr Value} {w w' : VW} {o : Out} (h : LeadsO P ro F it tm w o tm' w') : LeadsD P ro F it tm w o [] tm' w' := by
  cases o <;> exact h
omit ok hm in
theorem LeadsD.pre0 {it it' : Item} {tm tm' tm1 : Tr Value} {w w' w1 : VW} {o : Out} {D D1 : List Deferred} (h : ∀ k ds kind cs, Leads P ro ⟨⟨F.fn, tm, F.nt, it :: k, ds, false, kind, none⟩, cs, w⟩ ⟨⟨F.fn, tm1, F.nt, it' :: k, D1 ++ ds, false, kind, none⟩, cs, w1⟩) (k : LeadsD P ro F it' tm1 w1 o D tm' w') : LeadsD P ro F it tm w o (D ++ D1) tm' w' := by
  cases o with
  | norm =>
    intro k' ds kind cs
    have h2 := (h k' ds kind cs).trans (k k' (D1 ++ ds) kind cs)
    rwa [← List.append_assoc] at h2
  | ret =>
    intro k' ds kind cs
    obtain ⟨k2, q⟩ := k k' (D1 ++ ds) kind cs
    have h2 := (h k' ds kind cs).trans q
    rw [← List.append_assoc] at h2
    exact ⟨k2, h2⟩
  | exit id =>
    intro k' k2 ds kind cs e
    have h2 := (h k' ds kind cs).trans (k k' k2 (D1 ++ ds) kind cs e)
    rwa [← List.append_assoc] at h2

omit ok hm in
theorem ExD.of {c : Code} (h : Ex P vp ro F c E M (fun o E M => Q o [] E M)) : ExD P vp ro F c E M Q := by
  intro tm w hE hM
  obtain ⟨o, E', M', tm', w', q1, q2, q3, q4⟩ := h tm w hE hM
  exact ⟨o, [], E', M', tm', w', q1, q2, q3, LeadsO.toD q4⟩

def seqD (P : Program) (vp : VP) (ro : Nat) (F : FX) (b : Code) (Q : Out → List Deferred → En → AM → Prop) : Out → List Deferred → En → AM → Prop
  | .norm, D, E, M => ExD P vp ro F b E M (fun o D' E M => Q o (D' ++ D) E M)
  | o, D, E, M => Q o D E M

theorem ExD.seq {a b : Code} (h : ExD P vp ro F a E M (seqD P vp ro F b Q)) : ExD P vp ro F (.seq a b) E M Q := by
  intro tm w hE hM
  obtain ⟨o, D, E', M', tm', w', q1, q2, q3, q4⟩ := h tm w hE hM
  have step : ∀ k ds kind cs, Leads P ro ⟨⟨F.fn, tm, F.nt, .code (.seq a b) :: k, ds, false, kind, none⟩, cs, w⟩ ⟨⟨F.fn, tm, F.nt, .code a :: .code b :: k, ds, false, kind, none⟩, cs, w⟩ :=
    fun k ds kind cs => leads_step ok hm (by simp only [bigF, stepF, nextF])
  cases o with
  | norm =>
    obtain ⟨o2, D2, E2, M2, tm2, w2, r1, r2, r3, r4⟩ := q1 tm' w' q2 q3
    refine ⟨o2, D2 ++ D, E2, M2, tm2, w2, r1, r2, r3, ?_⟩
    exact LeadsD.pre0 (fun k ds kind cs => (step k ds kind cs).trans (q4 (.code b :: k) ds kind cs)) r4
  | ret =>
    refine ⟨.ret, D, E', M', tm', w', q1, q2, q3, fun k ds kind cs => ?_⟩
    obtain ⟨k', q⟩ := q4 (.code b :: k) ds kind cs
    exact ⟨k', (step k ds kind cs).trans q⟩
  | exit id =>
    refine ⟨.exit id, D, E', M', tm', w', q1, q2, q3, fun k k' ds kind cs e => ?_⟩
    exact (step k ds kind cs).trans (q4 (.code b :: k) k' ds kind cs (by rw [exitTo_code]; exact e))

theorem ExD.scope {c : Code} (h : ExD P vp ro F c E M Q) : ExD P vp ro F (.scope c) E M Q := by
  intro tm w hE hM
  obtain ⟨o, D, E', M', tm', w', q1, q2, q3, q4⟩ := h tm w hE hM
  have step : ∀ k ds kind cs, Leads P ro ⟨⟨F.fn, tm, F.nt, .code (.scope c) :: k, ds, false, kind, none⟩, cs, w⟩ ⟨⟨F.fn, tm, F.nt, .code c :: .inScope c :: k, ds, false, kind, none⟩, cs, w⟩ :=
    fun k ds kind cs => leads_step ok hm (by simp only [bigF, stepF, nextF])
  refine ⟨o, D, E', M', tm', w', q1, q2, q3, ?_⟩
  cases o with
  | norm => exact fun k ds kind cs => ((step k ds kind cs).trans (q4 (.inScope c :: k) ds kind cs)).trans (leads_step ok hm (by simp only [bigF, stepF, nextF]))
  | ret => exact fun k ds kind cs => let ⟨k', q⟩ := q4 (.inScope c :: k) ds kind cs; ⟨k', (step k ds kind cs).trans q⟩
  | exit id => exact fun k k' ds kind cs e => (step k ds kind cs).trans (q4 (.inScope c :: k) k' ds kind cs (by rw [exitTo_scope]; exact e))

/-- A region (in sequence) with a deferred call in it. -/
def SqD (P : Program) (vp : VP) (ro : Nat) (F : FX) (all os : List Oper) (E : En) (M : AM) (Q : List Deferred → En → AM → Prop) : Prop :=
  ∀ i, all.drop i = os → ∀ tm w, Has tm E → Abs ro w M → ∃ D E' M' tm' w', Q D E' M' ∧ Has tm' E' ∧ Abs ro w' M' ∧ ∀ k ds kind cs,
    Leads P ro ⟨⟨F.fn, tm, F.nt, .inRegion ⟨all⟩ (rangeL os.length i) :: k, ds, false, kind, none⟩, cs, w⟩ ⟨⟨F.fn, tm', F.nt, k, D ++ ds, false, kind, none⟩, cs, w'⟩

omit ok hm in
theorem SqD.of {all os : List Oper} {Q : List Deferred → En → AM → Prop} (h : Sq P vp ro F all os E M (fun E M => Q [] E M)) : SqD P vp ro F all os E M Q := by
  intro i hi tm w hE hM
  obtain ⟨E', M', tm', w', q1, q2, q3, q4⟩ := h i hi tm w hE hM
  exact ⟨[], E', M', tm', w', q1, q2, q3, q4⟩

theorem SqD.op {all os : List Oper} {Q : List Deferred → En → AM → Prop} {d : Nat} {op : Op} {ty : TypeId} {pos : String} {after : Array Edge} {g : Option (Nat × Bool)} {v : Value} {M1 : AM} (hw : Want E all g true) (h1 : Op1 P vp ro E M op (.value v) M1) (hd : Nat.blt d F.nt = true) (h : SqD P vp ro F all os ((d, v) :: E) M1 Q) :
    SqD P vp ro F all (⟨some d, op, ty, pos, after, g⟩ :: os) E M Q := by
  intro i hi tm w hE hM
  obtain ⟨ho, hr⟩ := drop_cons hi
  obtain ⟨w1, hx, hM1⟩ := h1 ⟨F.fn, tm, F.nt, [], [], false, .normal, none⟩ w ⟨some d, op, ty, pos, after, g⟩ rfl hE hM
  obtain ⟨D, E', M', tm', w', q1, q2, q3, q4⟩ := h (i + 1) hr (putT F.nt tm (some d) v) w1 (hE.put hd v) hM1
  have hwv := Want.wantedV (o := ⟨some d, op, ty, pos, after, g⟩) hw hE
  refine ⟨D, E', M', tm', w', q1, q2, q3, fun k ds kind cs => .trans (leads_step ok hm ?_) (q4 k ds kind cs)⟩
  have hx2 : execV P vp ro ⟨F.fn, tm, F.nt, .inRegion ⟨all⟩ (i :: rangeL os.length (i + 1)) :: k, ds, false, kind, none⟩ ⟨some d, op, ty, pos, after, g⟩ w = some (.value v, w1) := by
    rw [← hx]; exact execV_frame rfl
  simp only [List.length_cons, rangeL, bigF, stepF, opF, ho, hwv, hx2, opF2, nextF]

theorem SqD.pu {all os : List Oper} {Q : List Deferred → En → AM → Prop} {d : Nat} {op : Op} {ty : TypeId} {pos : String} {after : Array Edge} {g : Option (Nat × Bool)} {v : Value} (hw : Want E all g true) (h1 : Pu P vp E M op v) (hd : Nat.blt d F.nt = true) (h : SqD P vp ro F all os ((d, v) :: E) M Q) :
    SqD P vp ro F all (⟨some d, op, ty, pos, after, g⟩ :: os) E M Q := SqD.op ok hm hw (Op1.of_pu h1) hd h

theorem SqD.defer {all os : List Oper} {Q : List Deferred → En → AM → Prop} {f : Operand} {args : Array Operand} {ats : Array TypeId} {g : FuncId} {first cap vs : List Value} {ty : TypeId} {pos : String} {after : Array Edge} (hf : evE E f = some (.func (.func g) ⟨first⟩ ⟨cap⟩)) (ha : evsE E args.toList = some vs)
    (h : Sq P vp ro F all os E M (fun E M => Q [⟨.fn (.func g) ⟨cap⟩, ⟨first ++ vs⟩⟩] E M)) :
    SqD P vp ro F all (⟨none, .defer { callee := .value f, args := args, argTypes := ats }, ty, pos, after, none⟩ :: os) E M Q := by
  intro i hi tm w hE hM
  obtain ⟨ho, hr⟩ := drop_cons hi
  obtain ⟨E', M', tm', w', q1, q2, q3, q4⟩ := h (i + 1) hr tm w hE hM
  have hwv := Want.wantedV (o := ⟨none, .defer { callee := .value f, args := args, argTypes := ats }, ty, pos, after, none⟩) (E := E) (all := all) (b := true) .none hE
  refine ⟨_, E', M', tm', w', q1, q2, q3, fun k ds kind cs => .trans (leads_step ok hm ?_) (q4 k (_ :: ds) kind cs)⟩
  have h1 := Has.ev (fr := ⟨F.fn, tm, F.nt, .inRegion ⟨all⟩ (i :: rangeL os.length (i + 1)) :: k, ds, false, kind, none⟩) hE hf
  have h2 := Has.evs (fr := ⟨F.fn, tm, F.nt, .inRegion ⟨all⟩ (i :: rangeL os.length (i + 1)) :: k, ds, false, kind, none⟩) hE ha
  have hx2 : execV P vp ro ⟨F.fn, tm, F.nt, .inRegion ⟨all⟩ (i :: rangeL os.length (i + 1)) :: k, ds, false, kind, none⟩ ⟨none, .defer { callee := .value f, args := args, argTypes := ats }, ty, pos, after, none⟩ w = some (.defer { target := .fn (.func g) ⟨cap⟩, args := ⟨first ++ vs⟩ }, w) := by
    simp only [execV, xDefer, h1, h2]
  simp only [List.length_cons, rangeL, bigF, stepF, opF, ho, hwv, hx2, opF2, nextF]
  rfl

theorem ExD.region {id : Nat} {os : List Oper} (h : SqD P vp ro F os os E M (fun D E M => Q .norm D E M)) : ExD P vp ro F (.region id os.toArray false) E M Q := by
  intro tm w hE hM
  obtain ⟨D, E', M', tm', w', q1, q2, q3, q4⟩ := h 0 rfl tm w hE hM
  exact ⟨.norm, D, E', M', tm', w', q1, q2, q3, fun k ds kind cs => (leads_step ok hm (by simp only [bigF, stepF, nextF, List.toList_toArray])).trans (q4 k ds kind cs)⟩

/-- A deferred call, run when its function ends. -/
def DefC (P : Program) (vp : VP) (ro : Nat) (d : Deferred) (M : AM) (R : AM → Prop) : Prop :=
  ∃ (g : FuncId) (cap : List Value) (fn : Func) (c : Code) (nt : Nat), d.target = .fn (.func g) ⟨cap⟩ ∧ vp.fn.get g = some fn ∧ fn.body = some c ∧ (d.args.toList ++ cap).length + (fn.ntmps - (d.args.toList ++ cap).length) = nt ∧
    Ex P vp ro ⟨g, nt⟩ c (argsE 0 (d.args.toList ++ cap)) M (RetQ vp fn.results.toList (fun _ M' => R M'))
omit ok hm in
theorem DefC.intro {g : FuncId} {cap args : List Value} {fn : Func} {c : Code} {nt : Nat} {R : AM → Prop} (hf : vp.fn.get g = some fn) (hb : fn.body = some c) (hnt : (args ++ cap).length + (fn.ntmps - (args ++ cap).length) = nt)
    (h : Ex P vp ro ⟨g, nt⟩ c (argsE 0 (args ++ cap)) M (RetQ vp fn.results.toList (fun _ M' => R M'))) : DefC P vp ro ⟨.fn (.func g) ⟨cap⟩, ⟨args⟩⟩ M R :=
  ⟨g, cap, fn, c, nt, rfl, hf, hb, hnt, h⟩
def DefsC (P : Program) (vp : VP) (ro : Nat) : List Deferred → AM → (AM → Prop) → Prop
  | [], M, R => R M
  | d :: ds, M, R => DefC P vp ro d M (fun M' => DefsC P vp ro ds M' R)

def RetD (P : Program) (vp : VP) (ro : Nat) (rs : List ResultVar) (Q : Value → AM → Prop) : Out → List Deferred → En → AM → Prop
  | .exit _, _, _, _ => False
  | _, D, E, M => DefsC P vp ro D M (fun M' => ∃ vs, ResL vp E M' rs vs ∧ Q (valOf vs) M')

theorem ends_defs {g : FuncId} {tm : Tr Value} {nt : Nat} {k : List Item} {fn : Func} {Q : Value → AM → Prop} (hf : vp.fn.get g = some fn) (hE : Has tm E) :
    ∀ (D : List Deferred) (M : AM) (w : VW), Abs ro w M → DefsC P vp ro D M (fun M' => ∃ vs, ResL vp E M' fn.results.toList vs ∧ Q (valOf vs) M') →
      ∃ v w' M', Q v M' ∧ Abs ro w' M' ∧ EndsFrom P ro ⟨⟨g, tm, nt, k, D, true, .normal, none⟩, [], w⟩ v w'
  | [], M, w, hM, h => by
    obtain ⟨vs, hr, hq⟩ := h
    refine ⟨valOf vs, w, M, hq, hM, ends_big ok hm (fun _ => noSub_ok) ?_⟩
    have hr2 := hr.sound (fr := ⟨g, tm, nt, k, [], true, .normal, none⟩) hE hM
    have hv : resultsV vp ⟨g, tm, nt, k, [], true, .normal, none⟩ w fn.results.toList = some (valOf vs) := by
      unfold resultsV
      rw [hr2]
      cases vs with
      | nil => rfl
      | cons x xs => cases xs <;> rfl
    simp only [bigF, stepV, hf, hv]
  | d :: ds, M, w, hM, h => by
    obtain ⟨g2, cap, fn2, c, nt2, ht, hf2, hb2, hnt2, hex⟩ := h
    obtain ⟨o, E', M', tm', w', q1, q2, q3, q4⟩ := hex _ w (argsE_has _) hM
    obtain ⟨tgt, dargs⟩ := d
    simp only at ht
    subst ht
    have he : VF.enter fn2 g2 (dargs.toList ++ cap) .deferred = some ⟨g2, Tr.putL .nil 0 (dargs.toList ++ cap), nt2, [.code c], [], false, .deferred, none⟩ := by
      simp only [VF.enter, hb2, hnt2]
    have s1 : Leads P ro ⟨⟨g, tm, nt, k, ⟨.fn (.func g2) ⟨cap⟩, dargs⟩ :: ds, true, .normal, none⟩, [], w⟩ ⟨⟨g2, Tr.putL .nil 0 (dargs.toList ++ cap), nt2, [.code c], [], false, .deferred, none⟩, [⟨g, tm, nt, k, ds, true, .normal, none⟩], w⟩ :=
      leads_step ok hm (by simp only [bigF, stepV, hf2, he])
    have s3 : ∀ k' vs, ResL vp E' M' fn2.results.toList vs → Leads P ro ⟨⟨g2, tm', nt2, k', [], true, .deferred, none⟩, [⟨g, tm, nt, k, ds, true, .normal, none⟩], w'⟩ ⟨⟨g, tm, nt, k, ds, true, .normal, none⟩, [], w'⟩ := by
      intro k' vs hr
      have hr2 := hr.sound (fr := ⟨g2, tm', nt2, k', [], true, .deferred, none⟩) q2 q3
      have hv : resultsV vp ⟨g2, tm', nt2, k', [], true, .deferred, none⟩ w' fn2.results.toList = some (valOf vs) := by
        unfold resultsV
        rw [hr2]
        cases vs with
        | nil => rfl
        | cons x xs => cases xs <;> rfl
      exact leads_step ok hm (by simp only [bigF, stepV, hf2, hv])
    cases o with
    | exit id => exact q1.elim
    | norm =>
      obtain ⟨vs, hr, hq⟩ := q1
      obtain ⟨v, w2, M2, r1, r2, r3⟩ := ends_defs hf hE ds M' w' q3 hq
      have s2 : Leads P ro ⟨⟨g2, tm', nt2, [], [], false, .deferred, none⟩, [⟨g, tm, nt, k, ds, true, .normal, none⟩], w'⟩ ⟨⟨g2, tm', nt2, [], [], true, .deferred, none⟩, [⟨g, tm, nt, k, ds, true, .normal, none⟩], w'⟩ :=
        leads_step ok hm (by simp only [bigF, stepF])
      exact ⟨v, w2, M2, r1, r2, (((s1.trans (q4 [] [] .deferred _)).trans s2).trans (s3 [] vs hr)).ends r3⟩
    | ret =>
      obtain ⟨vs, hr, hq⟩ := q1
      obtain ⟨k', hl⟩ := q4 [] [] .deferred [⟨g, tm, nt, k, ds, true, .normal, none⟩]
      obtain ⟨v, w2, M2, r1, r2, r3⟩ := ends_defs hf hE ds M' w' q3 hq
      exact ⟨v, w2, M2, r1, r2, ((s1.trans hl).trans (s3 k' vs hr)).ends r3⟩

theorem FnC.bodyD {g : FuncId} {args : List Value} {fn : Func} {c : Code} {nt : Nat} {Q : Value → AM → Prop} (hf : vp.fn.get g = some fn) (hb : fn.body = some c) (hnt : args.length + (fn.ntmps - args.length) = nt)
    (h : ExD P vp ro ⟨g, nt⟩ c (argsE 0 args) M (RetD P vp ro fn.results.toList Q)) : FnC P vp ro g args M Q := by
  intro w hM
  obtain ⟨o, D, E', M', tm', w', q1, q2, q3, q4⟩ := h _ w (argsE_has args) hM
  have he : VF.enter fn g args .normal = some ⟨g, Tr.putL .nil 0 args, nt, [.code c], [], false, .normal, none⟩ := by
    simp only [VF.enter, hb, hnt]
  cases o with
  | exit id => exact q1.elim
  | norm =>
    obtain ⟨v, w2, M2, r1, r2, r3⟩ := ends_defs (k := []) (nt := nt) ok hm hf q2 D M' w' q3 q1
    refine ⟨v, w2, M2, r1, r2, fn, _, hf, he, ?_⟩
    have := q4 [] [] .normal []
    rw [List.append_nil] at this
    refine (this.trans (leads_step ok hm ?_)).ends r3
    simp only [bigF, stepF]
  | ret =>
    obtain ⟨k', hl⟩ := q4 [] [] .normal []
    rw [List.append_nil] at hl
    obtain ⟨v, w2, M2, r1, r2, r3⟩ := ends_defs (k := k') (nt := nt) ok hm hf q2 D M' w' q3 q1
    exact ⟨v, w2, M2, r1, r2, fn, _, hf, he, hl.ends r3⟩
end
end
end Go.Wvm
