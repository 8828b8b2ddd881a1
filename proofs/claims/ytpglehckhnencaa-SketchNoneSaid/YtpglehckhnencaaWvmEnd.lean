/- Steps and runs: what a run of the small machine tells, the model's call tells. -/
import Derived.Test.YtpglehckhnencaaWvmRound
import Derived.RangeFuncIn
import Derived.RangeFuncLeaves
set_option linter.unusedSimpArgs false
set_option linter.unusedVariables false
namespace Go.Wvm
open Go.RowKit

/-- A frame of the model; 'r': of which loop it is a round. -/
def mkF (f : VF) (a : Act) (r : Option Nat) : Frame := { fn := f.fn, tmps := a.tmps, todo := f.todo, defers := a.defers, mode := if f.ret then .returning else .run, kind := f.kind, roundOf := r }

def base (f : VF) (r : Option Nat) : Frame := { (default : Frame) with fn := f.fn, kind := f.kind, roundOf := r }

theorem mkF_run {f : VF} (a : Act) {r : Option Nat} (h : f.ret = false) : mkF f a r = (base f r).atR a f.todo := by
  unfold mkF Frame.atR base
  rw [h]; rfl

/-- How the number of a loop stands for the model's. -/
def RdR (μ : Mu) : Option Nat → Option Nat → Prop
  | none, none => True
  | some b, some l => ∃ L, μ b = some L ∧ L.off = 0 ∧ L.blk = l
  | _, _ => False
theorem RdR.mono {μ μ' : Mu} (e : Ext μ μ') {a b : Option Nat} (h : RdR μ a b) : RdR μ' a b := by
  cases a <;> cases b <;> first
    | exact h
    | (obtain ⟨L, h1, h2⟩ := h; exact ⟨L, e _ _ h1, h2⟩)
theorem RdR.none_inv {μ : Mu} {r : Option Nat} (h : RdR μ none r) : r = none := by cases r <;> first | rfl | cases h
theorem RdR.some_inv {μ : Mu} {b : Nat} {r : Option Nat} (h : RdR μ (some b) r) : ∃ L, μ b = some L ∧ L.off = 0 ∧ r = some L.blk := by
  cases r with
  | none => cases h
  | some l => obtain ⟨L, h1, h2, h3⟩ := h; exact ⟨L, h1, h2, by rw [h3]⟩

inductive CsR (μ : Mu) : List VF → List Frame → Prop
  | nil : CsR μ [] []
  | cons {f : VF} {a : Act} {r : Option Nat} {fs : List VF} {Fs : List Frame} (h : AR μ f a) (hr : RdR μ f.rd r) (t : CsR μ fs Fs) : CsR μ (f :: fs) (mkF f a r :: Fs)

theorem CsR.mono {μ μ' : Mu} (e : Ext μ μ') {a : List VF} {b : List Frame} (h : CsR μ a b) : CsR μ' a b := by
  induction h with
  | nil => exact .nil
  | cons h hr _ ih => exact .cons (h.mono e) (hr.mono e) ih

def bot : FuncId → List VF → FuncId
  | f, [] => f
  | _, c :: cs => bot c.fn cs

theorem rangeL_eq : ∀ (n i : Nat), rangeL n i = List.range' i n
  | 0, _ => rfl
  | n + 1, i => by simp only [rangeL, List.range', rangeL_eq n (i + 1)]

section
variable {P : Program} {vp : VP} {μ : Mu} {ro : Nat} {w0 : World} {V V' : VW} {w : World}

theorem finish_sound {c c' : VF} {ac : Act} (A : AR μ c ac) {v v' : Value} (hv : VR μ v v') (hr : c.ret = false) (h : c.finish v = some c') {r : Option Nat} : ∃ a', (mkF c ac r).finish v' = mkF c' a' r ∧ AR μ c' a' ∧ c'.fn = c.fn ∧ c'.rd = c.rd := by
  unfold VF.finish at h
  split at h
  case h_2 => cases h
  rename_i ops i rest k htodo
  split at h
  case h_2 => cases h
  rename_i o ho
  simp only [Option.some.injEq] at h
  subst h
  have ho' : ops[i]? = some o := by rw [← Array.getElem?_toList]; exact ho
  refine ⟨ac.put o.dst v', ?_, ⟨(A.put hv o.dst).size, (A.put hv o.dst).tmp, (A.put hv o.dst).non, (A.put hv o.dst).defers⟩, rfl, rfl⟩
  rw [mkF_run _ hr, htodo, Frame.finish_atR, ho']
  rw [mkF_run _ (show ({ c with tm := c.put o.dst v, todo := .inRegion ops rest :: k } : VF).ret = false from hr)]
  rfl

def rvOf (tmps : Array Value) : ResultVar → Sem Value
  | .tmp t => pure (tmps.getD t undef)
  | .cell p t => do loadVar t (← asAddr (tmps.getD p undef))

theorem results_eq (fn : Func) (tmps : Array Value) : results fn tmps = (do
    let vs ← fn.results.mapM (rvOf tmps)
    pure (if h : vs.size = 1 then vs[0] else .tuple vs)) := by
  unfold results
  exact congrArg (fun g : ResultVar → Sem Value => (do
    let vs ← fn.results.mapM g
    pure (if h : vs.size = 1 then vs[0] else .tuple vs) : Sem Value)) (funext fun r => by cases r <;> rfl)

theorem one_sound (ok : VPok P vp) (R : Rel μ ro w0 V w) {f : VF} {a : Act} (A : AR μ f a) {r : ResultVar} {u : Value} (h1 : results1 vp f V r = some u) : ∃ u', VR μ u u' ∧ (rvOf a.tmps r).run P w = .ok u' w := by
  unfold results1 at h1
  cases r with
  | tmp t =>
    simp only at h1
    split at h1
    · rename_i q hq; cases h1; exact ⟨_, A.tmp _ _ hq, rfl⟩
    · rename_i hq
      cases h1
      refine ⟨undef, VR.undef μ, ?_⟩
      show (pure (a.tmps.getD t undef) : Sem Value).run P w = _
      rw [A.non _ hq]; rfl
  | cell p t =>
    simp only at h1
    split at h1
    case h_2 => cases h1
    rename_i ad hq
    have hp := A.tmp _ _ hq
    obtain ⟨a', ea⟩ := VR.ptr_inv hp
    rw [ea] at hp
    obtain ⟨u', g1, g2⟩ := loadV_sound ok R hp h1
    refine ⟨u', g2, ?_⟩
    show (do loadVar t (← asAddr (a.tmps.getD p undef)) : Sem Value).run P w = _
    rw [ea]
    simp only [asAddr, pure_bind, g1]

theorem list_sound (ok : VPok P vp) (R : Rel μ ro w0 V w) {f : VF} {a : Act} (A : AR μ f a) : ∀ (rs : List ResultVar) (vs : List Value), resultsL vp f V rs = some vs → ∃ vs', LR μ vs vs' ∧ (rs.mapM (rvOf a.tmps)).run P w = .ok vs' w
  | [], vs, h => by cases h; exact ⟨[], .nil, by simp⟩
  | r :: rs, vs, h => by
    simp only [resultsL] at h
    split at h
    case h_2 => cases h
    rename_i u us h1 h2
    cases h
    obtain ⟨us', k1, k2⟩ := list_sound ok R A rs us h2
    obtain ⟨u', g1, g2⟩ := one_sound ok R A h1
    refine ⟨u' :: us', .cons g1 k1, ?_⟩
    simp only [List.mapM_cons, Sem.run_bind, g2, Result.andThen_ok, k2, Sem.run_pure]

theorem results_sound (ok : VPok P vp) (R : Rel μ ro w0 V w) {f : VF} {a : Act} (A : AR μ f a) {fn : Func} {v : Value} (h : resultsV vp f V fn.results.toList = some v) : ∃ v', (results fn a.tmps).run P w = .ok v' w ∧ VR μ v v' := by
  have harr : ∀ vs', (fn.results.toList.mapM (rvOf a.tmps)).run P w = .ok vs' w → (fn.results.mapM (rvOf a.tmps)).run P w = .ok ⟨vs'⟩ w := by
    intro vs' hv
    rw [show fn.results = fn.results.toList.toArray from rfl, List.mapM_toArray, Sem.run_map, hv]
    rfl
  unfold resultsV at h
  split at h
  · rename_i u hu
    cases h
    obtain ⟨vs', k1, k2⟩ := list_sound ok R A _ _ hu
    obtain ⟨u', rfl, hv⟩ := k1.one
    refine ⟨u', ?_, hv⟩
    rw [results_eq, Sem.run_bind, harr _ k2]
    rfl
  · rename_i us hu hne
    cases h
    obtain ⟨vs', k1, k2⟩ := list_sound ok R A _ _ hne
    refine ⟨.tuple ⟨vs'⟩, ?_, VR.tupleL k1⟩
    rw [results_eq, Sem.run_bind, harr _ k2]
    have hl : (Array.mk vs').size ≠ 1 := by
      intro e
      have e : vs'.length = 1 := e
      rw [← k1.length] at e
      match us, e with
      | [x], _ => exact hu x rfl
    simp only [Result.andThen_ok, Sem.run_pure]
    rw [dif_neg hl]
  · cases h

theorem enter_sound {fn : Func} {g : FuncId} (hf : P.funcs[g]? = some fn) {args args' : List Value} (hl : LR μ args args') {kind : CallKind} {f' : VF} (h : VF.enter fn g args kind = some f') :
    ∃ a', Frame.enter P g ⟨args'⟩ kind = mkF f' a' none ∧ AR μ f' a' ∧ f'.fn = g ∧ f'.rd = none := by
  unfold VF.enter at h
  split at h
  case h_2 => cases h
  rename_i c hc
  simp only [Option.some.injEq] at h
  subst h
  have hlen := hl.length
  have hgetD : ∀ t, ((Array.mk args') ++ Array.replicate (fn.ntmps - (Array.mk args').size) undef).getD t undef = (args'[t]?).getD undef := by
    intro t
    rw [Array.getD_eq_getD_getElem?, Array.getElem?_append]
    have hs : (Array.mk args').size = args'.length := rfl
    rw [hs]
    by_cases ht : t < args'.length
    · rw [if_pos ht, mk_get?]
    · rw [if_neg ht, List.getElem?_eq_none (by omega), Array.getElem?_replicate]
      split <;> rfl
  refine ⟨{ tmps := (Array.mk args') ++ Array.replicate (fn.ntmps - (Array.mk args').size) undef, defers := [] }, ?_, ⟨?_, fun t v ht => ?_, fun t ht => ?_, .nil⟩, rfl, rfl⟩
  · simp [Frame.enter, mkF, hf, hc]
  · have hs : (Array.mk args').size = args'.length := rfl
    simp only [Array.size_append, Array.size_replicate, hs, hlen]
  · rw [hgetD]
    have ht : (Tr.nil.putL 0 args).get t = some v := ht
    rw [Tr.get_putL, Tr.get_nil] at ht
    split at ht
    · rw [Nat.sub_zero] at ht
      obtain ⟨v', k1, k2⟩ := hl.get ht
      rw [k1]; exact k2
    · cases ht
  · rw [hgetD]
    have ht : (Tr.nil.putL 0 args).get t = none := ht
    rw [Tr.get_putL, Tr.get_nil] at ht
    split at ht
    · rename_i hin
      rw [Nat.sub_zero, List.getElem?_eq_getElem (by omega)] at ht; cases ht
    · rw [List.getElem?_eq_none (by omega)]; rfl

/-- What is shown of a step. -/
def Moves (P : Program) (μ : Mu) (ro : Nat) (w0 : World) (F : Frame) (Fs : List Frame) (w : World) (bottom : List Frame) (m' : VM) : Prop :=
  ∃ a' Fs' w' μ' r', Steps P (lone F (Fs ++ bottom) w) (lone (mkF m'.fr a' r') (Fs' ++ bottom) w') ∧ Ext μ μ' ∧ AR μ' m'.fr a' ∧ RdR μ' m'.fr.rd r' ∧ CsR μ' m'.cs Fs' ∧ Rel μ' ro w0 m'.w w'

theorem AR.todo {f : VF} {a : Act} (A : AR μ f a) {k : List Item} {r : Bool} : AR μ { f with todo := k, ret := r } a := ⟨A.size, A.tmp, A.non, A.defers⟩

theorem step_value {b : Frame} {a : Act} {k : List Item} {cs : List Frame} {ops : Array Oper} {i : Nat} {rest : List Nat} {o : Oper} {v : Value} {w' : World} (ho : ops[i]? = some o) (hw : Region.wanted o (yielded ops a.tmps) = true) (hr : (o.semAt b.roundOf a.eval).run P w = .ok (.value v) w') :
    step P (lone (b.atR a (.inRegion ops (i :: rest) :: k)) cs w) = .next (lone (b.atR (a.put o.dst v) (.inRegion ops rest :: k)) cs w') := by
  have hg := stepGR_op (P := P) (b := b) (k := k) (cs := cs) (w := w) (rest := rest) ho hw
  have hfin : (b.atR a (.inRegion ops (i :: rest) :: k)).finish v = b.atR (a.put o.dst v) (.inRegion ops rest :: k) := by rw [Frame.finish_atR, ho]; rfl
  refine step_lone_go ?_
  rw [hg, ← hfin]; simp [stepG.apply, hr]

theorem step_skipped {b : Frame} {a : Act} {k : List Item} {cs : List Frame} {ops : Array Oper} {i : Nat} {rest : List Nat} {o : Oper} {w' : World} (ho : ops[i]? = some o) (hw : Region.wanted o (yielded ops a.tmps) = true) (hr : (o.semAt b.roundOf a.eval).run P w = .ok .skip w') :
    step P (lone (b.atR a (.inRegion ops (i :: rest) :: k)) cs w) = .next (lone (b.atR (a.put o.dst undef) (.inRegion ops rest :: k)) cs w') := by
  have hg := stepGR_op (P := P) (b := b) (k := k) (cs := cs) (w := w) (rest := rest) ho hw
  have hfin : (b.atR a (.inRegion ops (i :: rest) :: k)).finish undef = b.atR (a.put o.dst undef) (.inRegion ops rest :: k) := by rw [Frame.finish_atR, ho]; rfl
  refine step_lone_go ?_
  rw [hg, ← hfin]; simp [stepG.apply, hr]

theorem step_deferred {b : Frame} {a : Act} {k : List Item} {cs : List Frame} {ops : Array Oper} {i : Nat} {rest : List Nat} {o : Oper} {d : Deferred} {w' : World} (hb : b.roundOf = none) (ho : ops[i]? = some o) (hw : Region.wanted o (yielded ops a.tmps) = true) (hr : (execOp a.eval o).run P w = .ok (.defer d) w') :
    step P (lone (b.atR a (.inRegion ops (i :: rest) :: k)) cs w) = .next (lone (b.atR ({ a with defers := d :: a.defers }.put o.dst undef) (.inRegion ops rest :: k)) cs w') := by
  have hg := stepGR_op (P := P) (b := b) (k := k) (cs := cs) (w := w) (rest := rest) ho hw
  rw [hb, Oper.semAt_none] at hg
  refine step_lone_go ?_
  have : ({ b.atR a (.inRegion ops (i :: rest) :: k) with defers := d :: a.defers } : Frame).finish undef = b.atR ({ a with defers := d :: a.defers }.put o.dst undef) (.inRegion ops rest :: k) := by
    have := Frame.finish_atR b { a with defers := d :: a.defers } ops i rest k undef
    rw [ho] at this; exact this
  rw [hg]; simp only [stepG.apply, Sem.runT_eq, hr, GStep.bare_after]
  exact congrArg (fun fr => GStep.go { frame := fr, callers := cs, status := .running, dying := none } w') this

theorem step_recovered {b : Frame} {a : Act} {k : List Item} {cs : List Frame} {ops : Array Oper} {i : Nat} {rest : List Nat} {o : Oper} {w' : World} (hb : b.roundOf = none) (ho : ops[i]? = some o) (hw : Region.wanted o (yielded ops a.tmps) = true) (hr : (execOp a.eval o).run P w = .ok .recover w')
    (ht : tryRecover (b.atR a (.inRegion ops (i :: rest) :: k)) cs = none) :
    step P (lone (b.atR a (.inRegion ops (i :: rest) :: k)) cs w) = .next (lone (b.atR (a.put o.dst .nilIface) (.inRegion ops rest :: k)) cs w') := by
  have hg := stepGR_op (P := P) (b := b) (k := k) (cs := cs) (w := w) (rest := rest) ho hw
  rw [hb, Oper.semAt_none] at hg
  have hfin : (b.atR a (.inRegion ops (i :: rest) :: k)).finish .nilIface = b.atR (a.put o.dst .nilIface) (.inRegion ops rest :: k) := by rw [Frame.finish_atR, ho]; rfl
  refine step_lone_go ?_
  rw [hg, ← hfin]
  have hro : (b.atR a (.inRegion ops (i :: rest) :: k)).roundOf = none := hb
  simp [stepG.apply, hr, hro, ht]

theorem step_entered {b : Frame} {a : Act} {k : List Item} {cs : List Frame} {ops : Array Oper} {i : Nat} {rest : List Nat} {o : Oper} {f : FuncId} {args : Array Value} {w' : World} (ho : ops[i]? = some o) (hw : Region.wanted o (yielded ops a.tmps) = true) (hr : (o.semAt b.roundOf a.eval).run P w = .ok (.enter f args) w') :
    step P (lone (b.atR a (.inRegion ops (i :: rest) :: k)) cs w) = .next (lone (Frame.enter P f args .normal) (b.atR a (.inRegion ops (i :: rest) :: k) :: cs) w') := by
  have hg := stepGR_op (P := P) (b := b) (k := k) (cs := cs) (w := w) (rest := rest) ho hw
  exact step_lone_go (by rw [hg]; simp [stepG.apply, hr, Frame.atR])

theorem step_rounded {b : Frame} {a : Act} {k : List Item} {cs : List Frame} {ops : Array Oper} {i : Nat} {rest : List Nat} {o : Oper} {l f : Nat} {tmps : Array Value} {assign body : Code} {w' : World} (ho : ops[i]? = some o) (hw : Region.wanted o (yielded ops a.tmps) = true)
    (hr : (o.semAt b.roundOf a.eval).run P w = .ok (.round l f tmps assign body) w') :
    step P (lone (b.atR a (.inRegion ops (i :: rest) :: k)) cs w) = .next (lone (Frame.round l f tmps assign body .normal) (b.atR a (.inRegion ops (i :: rest) :: k) :: cs) w') := by
  have hg := stepGR_op (P := P) (b := b) (k := k) (cs := cs) (w := w) (rest := rest) ho hw
  exact step_lone_go (by rw [hg]; simp [stepG.apply, hr, Frame.atR])

/-- An operation that defers nothing is carried out in a round as elsewhere. -/
theorem exec_semAt {fr : VF} {o : Oper} {n : VN} {r : Option Nat} {ρ : Operand → Value} (h : execV P vp ro fr o V = some (n, V')) (hn : ∀ d, n ≠ .defer d) : o.semAt r ρ = execOp ρ o := by
  refine Oper.semAt_eq r ρ o fun c hc => ?_
  unfold execV at h
  rw [hc] at h
  simp only at h
  unfold xDefer at h
  split at h
  case h_2 => cases h
  split at h
  case h_2 => cases h
  simp only [Option.some.injEq, Prod.mk.injEq] at h
  exact hn _ h.1.symm

end
end Go.Wvm
