/- Regions that draw, steps, runs: a run of the small machine tells a call of the model. -/
import Derived.Test.YtpglehckhnencaaWvmAle
import Derived.Deep.Quiet
import Derived.StillTail
import Derived.Defers
set_option linter.unusedSimpArgs false
set_option linter.unusedVariables false
namespace Go.Wvm
open Go.RowKit

/-! ### Frames -/
inductive DR (μ : Mu) : List Deferred → List Deferred → Prop
  | nil : DR μ [] []
  | cons (g : FuncId) {c c' a a' : List Value} {l l' : List Deferred} (hc : LR μ c c') (ha : LR μ a a') (t : DR μ l l') :
      DR μ ({ target := .fn (.func g) ⟨c⟩, args := ⟨a⟩ } :: l) ({ target := .fn (.func g) ⟨c'⟩, args := ⟨a'⟩ } :: l')
  | mark {b : Nat} {L : Loc} {l l' : List Deferred} (hb : μ b = some L) (h0 : L.off = 0) (t : DR μ l l') : DR μ (markV b :: l) ({ target := .collected L.blk, args := #[] } :: l')

theorem DR.mono {μ μ' : Mu} (e : Ext μ μ') {a b : List Deferred} (h : DR μ a b) : DR μ' a b := by
  induction h with
  | nil => exact .nil
  | cons g hc ha _ ih => exact .cons g (hc.mono e) (ha.mono e) ih
  | mark hb h0 _ ih => exact .mark (e _ _ hb) h0 ih

structure AR (μ : Mu) (f : VF) (a : Act) : Prop where
  size : a.tmps.size = f.nt
  tmp : ∀ t v, f.tm.get t = some v → VR μ v (a.tmps.getD t undef)
  non : ∀ t, f.tm.get t = none → a.tmps.getD t undef = undef
  defers : DR μ f.defers a.defers

theorem AR.mono {μ μ' : Mu} (e : Ext μ μ') {f : VF} {a : Act} (h : AR μ f a) : AR μ' f a :=
  ⟨h.size, fun t v k => (h.tmp t v k).mono e, h.non, h.defers.mono e⟩

theorem AR.ev {μ : Mu} {f : VF} {a : Act} (h : AR μ f a) : Ev μ f a.eval := by
  intro x v hx
  cases x with
  | tmp t =>
    simp only [VF.ev] at hx
    split at hx
    · rename_i u hu; cases hx; exact h.tmp t _ hu
    · rename_i hu; cases hx
      have := h.non t hu
      show VR μ undef (a.tmps.getD t undef)
      rw [this]; exact VR.undef μ
  | const u =>
    simp only [VF.ev] at hx
    split at hx
    · rename_i hf; cases hx; exact flat_refl _ _ hf
    · cases hx
  | global g => simp only [VF.ev, Option.some.injEq] at hx; subst hx; exact .glob g 0
  | func g => simp only [VF.ev, Option.some.injEq] at hx; subst hx; exact VR.funcL g .nil .nil

theorem AR.put {μ : Mu} {f : VF} {a : Act} (h : AR μ f a) {v v' : Value} (hv : VR μ v v') (d : Option Tmp) : AR μ { f with tm := f.put d v } (a.put d v') := by
  cases d with
  | none => exact ⟨h.size, h.tmp, h.non, h.defers⟩
  | some d =>
    have hs : (a.put (some d) v').tmps = a.tmps.setIfInBounds d v' := rfl
    have htm : ∀ t, ({ f with tm := f.put (some d) v } : VF).tm.get t = if t = d ∧ d < a.tmps.size then some v else f.tm.get t := by
      intro t
      show (f.put (some d) v).get t = _
      simp only [VF.put]
      rw [h.size]
      split
      · rename_i hb
        have hb := lt_of_blt hb
        rw [Tr.get_set]
        by_cases e : t = d
        · rw [if_pos e, if_pos ⟨e, hb⟩]
        · rw [if_neg e, if_neg (fun k => e k.1)]
      · rename_i hb
        have hb : ¬ d < f.nt := fun k => by rw [blt_true k] at hb; cases hb
        rw [if_neg (fun k => hb k.2)]
    refine ⟨by rw [hs]; simpa using h.size, fun t u hu => ?_, fun t hu => ?_, h.defers⟩
    · rw [htm] at hu
      rw [hs, getD_set]
      by_cases e : t = d ∧ d < a.tmps.size
      · rw [if_pos e] at hu; cases hu; rw [if_pos e]; exact hv
      · rw [if_neg e] at hu; rw [if_neg e]; exact h.tmp t u hu
    · rw [htm] at hu
      rw [hs, getD_set]
      by_cases e : t = d ∧ d < a.tmps.size
      · rw [if_pos e] at hu; cases hu
      · rw [if_neg e] at hu; rw [if_neg e]; exact h.non t hu

theorem wanted_sound {μ : Mu} {f : VF} {a : Act} (h : AR μ f a) (o : Oper) (ops : Array Oper) : Region.wanted o (yielded ops a.tmps) = wantedV o ops.toList f.tm := by
  unfold Region.wanted wantedV
  cases hg : o.guard with
  | none => rfl
  | some jw =>
    obtain ⟨j, want⟩ := jw
    simp only
    unfold yielded
    have hj : ops[j]? = ops.toList[j]? := by rw [Array.getElem?_toList]
    rw [hj]
    cases ho : ops.toList[j]? with
    | none => rfl
    | some p =>
      simp only [Option.bind_some]
      cases hd : p.dst with
      | none => rfl
      | some d =>
        simp only [Option.bind_some]
        have key : ∀ b, f.tm.get d = some (.bool b) → a.tmps[d]? = some (.bool b) := by
          intro b hb
          have := VR.bool_inv (h.tmp d _ hb)
          rw [Array.getD_eq_getD_getElem?] at this
          cases hx : a.tmps[d]? with
          | none => rw [hx] at this; cases this
          | some x => rw [hx] at this; simp at this; rw [this]
        cases hb : f.tm.get d with
        | none =>
          have := h.non d hb
          rw [Array.getD_eq_getD_getElem?] at this
          cases hx : a.tmps[d]? with
          | none => rfl
          | some x => rw [hx] at this; simp at this; subst this; rfl
        | some v =>
          cases v with
          | bool b => rw [key b hb]; cases b <;> cases want <;> rfl
          | _ =>
            have hv := h.tmp d _ hb
            rw [Array.getD_eq_getD_getElem?] at hv
            cases hx : a.tmps[d]? with
            | none => rfl
            | some x =>
              rw [hx] at hv
              simp only [Option.getD_some] at hv
              cases hv <;> rfl

/-! ### What is told by one value -/
theorem uniq_eq {μ : Mu} : ∀ (n : Nat) (v a b : Value), uniq n v = true → VR μ v a → VR μ v b → a = b := by
  intro n
  induction n with
  | zero =>
    intro v a b hu ha hb
    cases v with
    | bool q => rw [VR.bool_inv ha, VR.bool_inv hb]
    | int k q => rw [VR.int_inv ha, VR.int_inv hb]
    | string q => rw [VR.str_inv ha, VR.str_inv hb]
    | pointer p =>
      cases ha with
      | nilp => cases hb; rfl
      | ptr h1 => cases hb with
        | ptr h2 => rw [h1] at h2; cases h2; rfl
      | glob g o => cases hb; rfl
    | map p =>
      cases ha with
      | nilm => cases hb; rfl
      | map h1 _ => cases hb with
        | map h2 _ => rw [h1] at h2; cases h2; rfl
    | slice p l c =>
      cases p with
      | none => cases ha; cases hb; rfl
      | some p => simp [uniq] at hu
    | nilFunc => cases ha; cases hb; rfl
    | nilIface => cases ha; cases hb; rfl
    | _ => simp [uniq] at hu
  | succ n ih =>
    intro v a b hu ha hb
    have hl : ∀ {l m k : List Value}, l.all (uniq n) = true → LR μ l m → LR μ l k → m = k := by
      intro l m k h1 h2
      induction h2 generalizing k with
      | nil => intro h3; cases h3; rfl
      | cons hx _ ihl =>
        intro h3
        cases h3 with
        | cons hy ht =>
          simp only [List.all_cons, Bool.and_eq_true] at h1
          rw [ih _ _ _ h1.1 hx hy, ihl h1.2 ht]
    cases v with
    | iface t v =>
      cases ha with
      | iface _ h1 => cases hb with
        | iface _ h2 => rw [ih _ _ _ (by simpa [uniq] using hu) h1 h2]
    | agg cs =>
      obtain ⟨l⟩ := cs
      obtain ⟨m, rfl, h1⟩ := ha.agg_inv
      obtain ⟨k, rfl, h2⟩ := hb.agg_inv
      rw [hl (by simpa [uniq] using hu) h1 h2]
    | tuple cs =>
      obtain ⟨l⟩ := cs
      obtain ⟨m, rfl, h1⟩ := ha.tuple_inv
      obtain ⟨k, rfl, h2⟩ := hb.tuple_inv
      rw [hl (by simpa [uniq] using hu) h1 h2]
    | func f x c =>
      cases f with
      | func f =>
        obtain ⟨x⟩ := x; obtain ⟨c⟩ := c
        obtain ⟨m, k, rfl, h1, h2⟩ := ha.func_inv
        obtain ⟨m', k', rfl, h3, h4⟩ := hb.func_inv
        simp only [uniq, Bool.and_eq_true] at hu
        rw [hl hu.1 h1 h3, hl hu.2 h2 h4]
      | _ => simp [uniq] at hu
    | bool q => rw [VR.bool_inv ha, VR.bool_inv hb]
    | int k q => rw [VR.int_inv ha, VR.int_inv hb]
    | string q => rw [VR.str_inv ha, VR.str_inv hb]
    | pointer p =>
      cases ha with
      | nilp => cases hb; rfl
      | ptr h1 => cases hb with
        | ptr h2 => rw [h1] at h2; cases h2; rfl
      | glob g o => cases hb; rfl
    | map p =>
      cases ha with
      | nilm => cases hb; rfl
      | map h1 _ => cases hb with
        | map h2 _ => rw [h1] at h2; cases h2; rfl
    | slice p l c =>
      cases p with
      | none => cases ha; cases hb; rfl
      | some p => simp [uniq] at hu
    | nilFunc => cases ha; cases hb; rfl
    | nilIface => cases ha; cases hb; rfl
    | _ => cases ha

section
variable {P : Program} {vp : VP} {μ : Mu} {ro : Nat} {w0 : World} {V V' : VW} {w : World} {fr : VF} {ρ : Operand → Value}

/-- In a world that has what was there nothing may be written. -/
theorem Rel.at' (R : Rel μ ro w0 V w) {w1 : World} (h : Agree w w1) : Rel μ V.next w1 V w1 where
  below := Below.refl _ _
  fresh := R.fresh
  obj b o hb := by
    obtain ⟨L, O, h1, h2, h3⟩ := R.obj b o hb
    exact ⟨L, O, h1, (h _ (heap_lt h2)).trans h2, h3⟩
  inj := R.inj
  new b L hb hl := by rw [(R.fresh b hb).1] at hl; cases hl
  tot := R.tot
  ron := Nat.le_refl _
  glob g l hl := by
    obtain ⟨q1, q2, e, fz, q3⟩ := R.glob g l hl
    have q4 := (h _ (heap_lt q3)).trans q3
    exact ⟨heap_lt q4, q2, e, fz, q4⟩

theorem quietK_fine (ok : VPok P vp) (R : Rel μ ro w0 V w) (E : Ev μ fr ρ) {o : Oper} {n : VN} (hq : quietK o.op = true) (h : execV P vp ro fr o V = some (n, V')) (hns : ∀ a b c, n ≠ .value (.slice (some a) b c)) : FineS P μ w (execOp ρ o) n V V' := by
  unfold execV at h
  cases hop : o.op <;> rw [hop] at h hq <;> dsimp only at h <;> (first | (cases h; done) | (simp [quietK] at hq; done) | skip)
  case pick c a b =>
    split at h
    · rename_i hc
      have hc := VR.bool_inv (E _ _ hc)
      exact FineS.of_one h fun v hv => ⟨_, by simp [execOp, hop, hc, asBool], E _ _ hv⟩
    · rename_i hc
      have hc := VR.bool_inv (E _ _ hc)
      exact FineS.of_one h fun v hv => ⟨_, by simp [execOp, hop, hc, asBool], E _ _ hv⟩
    · cases h
  case build t parts => exact exec_build ok R E hop h
  case nilCheck x => exact exec_nilCheck R E hop h
  case binOp op t x y yt => exact exec_binOp ok R E hop h
  case unOp op t x =>
    split at h
    case h_2 => cases h
    rename_i a ha
    refine FineS.of_one h fun v hv => ?_
    obtain ⟨r1, r2⟩ := unOp_sound (P := P) (w := w) (E _ _ ha) hv
    exact ⟨v, by simp only [execOp, hop, Sem.run_bind, r1, Result.andThen_ok, Sem.run_pure], r2⟩
  case convert s d x =>
    rcases exec_convert ok R E hop h with h1 | ⟨_, a, b, c, h2⟩
    · exact h1
    · exact absurd h2 (hns a b c)
  case makeInterface t x => exact exec_makeInterface ok R E hop h
  case makeFunc fn a b => exact exec_makeFunc R E h hop
  case fieldAddr s x f => exact exec_fieldAddr ok R E hop h
  case field s x f => exact exec_field ok R E hop h
  case indexAddr t x ix => exact exec_indexAddr ok R E hop h
  case index t x ix => exact exec_index ok R E hop h
  case lookup t x k q => exact exec_lookup ok R E h hop
  case typeAssert x xt t q => exact exec_typeAssert ok R E h hop
  case extract x i => exact exec_extract R E hop h
  case call c =>
    cases hb : c.callee with
    | builtin b =>
      rw [hb] at h
      dsimp only at h
      split at h
      case h_2 => cases h
      rename_i args hargs
      rcases exec_builtin ok R E hop hb hargs h with h1 | ⟨_, h2⟩
      · exact h1
      · exfalso
        unfold quietK at hq
        rcases h2 with rfl | rfl | rfl | rfl | rfl | rfl <;> (obtain ⟨callee, args', ats⟩ := c; simp only at hb; subst hb; simp at hq)
    | value f =>
      obtain ⟨callee, args', ats⟩ := c; simp only at hb; subst hb; simp [quietK] at hq
    | invoke r name =>
      obtain ⟨callee, args', ats⟩ := c; simp only at hb; subst hb; simp [quietK] at hq

theorem quietAny_fine (ok : VPok P vp) (R : Rel μ ro w0 V w) (E : Ev μ fr ρ) {o : Oper} {n : VN} {r : Nat} (hq : quietAny o.op = true) (h : execV P vp r fr o V = some (n, V')) : FineA P μ w (execOp ρ o) n V V' := by
  unfold execV at h
  cases hop : o.op <;> rw [hop] at h hq <;> dsimp only at h <;> (first | (cases h; done) | (simp [quietAny] at hq; done) | skip)
  case move x => exact FineA.of_one h fun v hv => ⟨_, fun w _ => by simp [execOp, hop], E _ _ hv⟩
  case assign x => exact FineA.of_one h fun v hv => ⟨_, fun w _ => by simp [execOp, hop], E _ _ hv⟩
  case load t a => exact exec_load ok R E hop h
  case slice t x lo hi mx => exact exec_slice ok R E hop h

theorem quiet_op (ok : VPok P vp) (R : Rel μ ro w0 V w) (E : Ev μ fr ρ) {o : Oper} {v : Value} (hq : (quietAny o.op || (quietK o.op && uniq 10 v)) = true) (h : execV P vp V.next fr o V = some (.value v, V')) :
    ∃ v', VR μ v v' ∧ ∀ w1, Agree w w1 → (execOp ρ o).run P w1 = .ok (.value v') w1 := by
  rw [Bool.or_eq_true] at hq
  rcases hq with hq | hq
  · obtain ⟨u, v', h1, _, h3, h4⟩ := quietAny_fine ok R E hq h
    cases h1
    exact ⟨v', h4, h3⟩
  · rw [Bool.and_eq_true] at hq
    have hns : ∀ a b c, VN.value v ≠ .value (.slice (some a) b c) := fun a b c e => by cases e; simp [uniq] at hq
    obtain ⟨u, v', h1, _, h3, h4⟩ := quietK_fine ok (R.at' (fun _ _ => rfl)) E hq.1 h hns
    cases h1
    refine ⟨v', h4, fun w1 hw => ?_⟩
    obtain ⟨u, v2, h1, _, h5, h6⟩ := quietK_fine ok (R.at' hw) E hq.1 h hns
    cases h1
    rw [h5, uniq_eq 10 _ _ _ hq.2 h4 h6]

end
end Go.Wvm
