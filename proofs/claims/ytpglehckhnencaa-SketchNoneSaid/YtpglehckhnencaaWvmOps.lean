/- One operation of the small machine is the model's. -/
import Derived.Test.YtpglehckhnencaaWvmArith
import Derived.Laws.StructEq
set_option linter.unusedSimpArgs false
set_option linter.unusedVariables false
namespace Go.Wvm
open Go.RowKit

theorem mk_get? {α : Type} (l : List α) (i : Nat) : (Array.mk l)[i]? = l[i]? := by rw [← Array.getElem?_toList]
theorem map_mk {α β : Type} (f : α → β) (a : Array α) : a.map f = ⟨a.toList.map f⟩ := by
  apply Array.ext'
  simp

def Ev (μ : Mu) (fr : VF) (ρ : Operand → Value) : Prop := ∀ x v, fr.ev x = some v → VR μ v (ρ x)

theorem Ev.list {μ : Mu} {fr : VF} {ρ : Operand → Value} (E : Ev μ fr ρ) : ∀ {xs : List Operand} {vs : List Value}, fr.evs xs = some vs → LR μ vs (xs.map ρ)
  | [], vs, h => by cases h; exact .nil
  | x :: xs, vs, h => by
    simp only [VF.evs] at h
    split at h
    · rename_i v vs' h1 h2
      cases h
      exact .cons (E x v h1) (Ev.list E h2)
    · cases h

inductive PR (μ : Mu) : List (Nat × Value) → List (Nat × Value) → Prop
  | nil : PR μ [] []
  | cons {i : Nat} {x y : Value} {xs ys : List (Nat × Value)} (h : VR μ x y) (t : PR μ xs ys) : PR μ ((i, x) :: xs) ((i, y) :: ys)

theorem Ev.parts {μ : Mu} {fr : VF} {ρ : Operand → Value} (E : Ev μ fr ρ) : ∀ {xs : List (Nat × Operand)} {vs : List (Nat × Value)}, fr.evParts xs = some vs → PR μ vs (xs.map fun (i, x) => (i, ρ x))
  | [], vs, h => by cases h; exact .nil
  | (i, x) :: xs, vs, h => by
    simp only [VF.evParts] at h
    split at h
    · rename_i v vs' h1 h2
      cases h
      exact .cons (E x v h1) (Ev.parts E h2)
    · cases h

inductive OptR (μ : Mu) : Option Value → Option Value → Prop
  | none : OptR μ .none .none
  | some {x y : Value} (h : VR μ x y) : OptR μ (.some x) (.some y)

theorem Ev.opt {μ : Mu} {fr : VF} {ρ : Operand → Value} (E : Ev μ fr ρ) {x : Option Operand} {v : Option Value} (h : fr.evO x = some v) : OptR μ v (x.map ρ) := by
  cases x with
  | none => cases h; exact .none
  | some x =>
    simp only [VF.evO] at h
    split at h
    · rename_i v h1; cases h; exact .some (E x v h1)
    · cases h

inductive NR (μ : Mu) : VN → Next → Prop
  | value {v v' : Value} (h : VR μ v v') : NR μ (.value v) (.value v')
  | skip : NR μ .skip .skip
  | enter (f : FuncId) {a a' : List Value} (h : LR μ a a') : NR μ (.enter f a) (.enter f ⟨a'⟩)
  | defer (g : FuncId) {c c' a a' : List Value} (hc : LR μ c c') (ha : LR μ a a') : NR μ (.defer { target := .fn (.func g) ⟨c⟩, args := ⟨a⟩ }) (.defer { target := .fn (.func g) ⟨c'⟩, args := ⟨a'⟩ })
  | recover : NR μ .recover .recover
  | round {f : VF} {b fn : Nat} {tm : Tr Value} {nt : Nat} {assign body : Code} {tmps : Array Value} {L : Loc} (hf : f = { fn, tm, nt, todo := [.code assign, .beginRound, .code body], defers := [], ret := false, kind := .normal, rd := some b })
      (hT : TmR μ tm nt tmps) (hb : μ b = some L) (h0 : L.off = 0) : NR μ (.round f) (.round L.blk fn tmps assign body)

/-- What is shown of an operation. -/
def Fine (P : Program) (μ : Mu) (ro : Nat) (w0 : World) (w : World) (s : Sem Next) (n : VN) (V' : VW) : Prop :=
  ∃ n' w' μ', s.run P w = .ok n' w' ∧ Ext μ μ' ∧ Rel μ' ro w0 V' w' ∧ NR μ' n n'

section
variable {P : Program} {vp : VP} {μ : Mu} {ro : Nat} {w0 : World} {V V' : VW} {w : World}

theorem Fine.same (R : Rel μ ro w0 V w) {s : Sem Next} {v v' : Value} (h : s.run P w = .ok (.value v') w) (hv : VR μ v v') : Fine P μ ro w0 w s (.value v) V :=
  ⟨_, w, μ, h, Ext.refl _, R, .value hv⟩

/-- An operation that hands back a value; the world stays. -/
def FineS (P : Program) (μ : Mu) (w : World) (s : Sem Next) (n : VN) (V V' : VW) : Prop :=
  ∃ v v', n = .value v ∧ V' = V ∧ s.run P w = .ok (.value v') w ∧ VR μ v v'

theorem FineS.fine (R : Rel μ ro w0 V w) {s : Sem Next} {n : VN} (h : FineS P μ w s n V V') : Fine P μ ro w0 w s n V' := by
  obtain ⟨v, v', rfl, rfl, h1, h2⟩ := h
  exact Fine.same R h1 h2

/-- What was there is there. -/
def Agree (w w1 : World) : Prop := ∀ k, k < w.heap.size → w1.heap[k]? = w.heap[k]?

/-- An operation that hands back one value in every world that has what was there. -/
def FineA (P : Program) (μ : Mu) (w : World) (s : Sem Next) (n : VN) (V V' : VW) : Prop :=
  ∃ v v', n = .value v ∧ V' = V ∧ (∀ w1, Agree w w1 → s.run P w1 = .ok (.value v') w1) ∧ VR μ v v'

theorem FineA.fineS {s : Sem Next} {n : VN} (h : FineA P μ w s n V V') : FineS P μ w s n V V' := by
  obtain ⟨v, v', h1, h2, h3, h4⟩ := h
  exact ⟨v, v', h1, h2, h3 w fun _ _ => rfl, h4⟩

theorem FineA.of_one {s : Sem Next} {o : Option Value} {n : VN} (h : one o V = some (n, V')) (hs : ∀ v, o = some v → ∃ v', (∀ w1, Agree w w1 → s.run P w1 = .ok (.value v') w1) ∧ VR μ v v') : FineA P μ w s n V V' := by
  unfold one at h
  split at h
  · rename_i v
    cases h
    obtain ⟨v', h1, h2⟩ := hs v rfl
    exact ⟨v, v', rfl, rfl, h1, h2⟩
  · cases h

/-- 'one': the world stays. -/
theorem FineS.of_one {s : Sem Next} {o : Option Value} {n : VN} (h : one o V = some (n, V')) (hs : ∀ v, o = some v → ∃ v', s.run P w = .ok (.value v') w ∧ VR μ v v') : FineS P μ w s n V V' := by
  unfold one at h
  split at h
  · rename_i v
    cases h
    obtain ⟨v', h1, h2⟩ := hs v rfl
    exact ⟨v, v', rfl, rfl, h1, h2⟩
  · cases h

/-! ### Comparisons -/
theorem eqOp_sound' (d : Nat) (ok : VPok P vp) {t : TypeId} {i : TyI} (ht : vp.ty.get t = some i) {x y x' y' : Value} (hx : VR μ x x') (hy : VR μ y y') {b : Bool} (h : eqOp i.desc x y = some b) :
    (Op.equalIn (d + 1) t x' y').run P w = .ok b w := by
  obtain ⟨inf, f⟩ := ok.fits ht
  have e : (underlying t).run P w = .ok i.desc w := f.run_underlying w
  unfold Op.equalIn
  simp only [Sem.run_bind, e, Result.andThen_ok]
  generalize i.desc = d at h e
  clear e f ht
  unfold eqOp at h
  split at h <;> (first | (cases h; done) | skip) <;> simp only [Option.some.injEq] at h <;> subst h <;> cases hx <;> cases hy <;> first | rfl | (simp; done) | skip
  rename_i a b
  cases a <;> cases b <;> rfl

theorem eqOp_sound (ok : VPok P vp) {t : TypeId} {i : TyI} (ht : vp.ty.get t = some i) {x y x' y' : Value} (hx : VR μ x x') (hy : VR μ y y') {b : Bool} (h : eqOp i.desc x y = some b) :
    (Op.equal t x' y').run P w = .ok b w := eqOp_sound' 9999 ok ht hx hy h

theorem eqScalar_sound (d : Nat) (ok : VPok P vp) {t : TypeId} {i : TyI} (ht : vp.ty.get t = some i) {x y x' y' : Value} (hx : VR μ x x') (hy : VR μ y y') {b : Bool} (h : eqScalar i.desc x y = some b) :
    (Op.equalIn (d + 1) t x' y').run P w = .ok b w := by
  obtain ⟨inf, f⟩ := ok.fits ht
  have e : (underlying t).run P w = .ok i.desc w := f.run_underlying w
  unfold eqScalar at h
  split at h
  · rename_i q k a k' b0 hd
    split at h
    · rename_i hk
      obtain rfl := keq_eq hk
      cases hx; cases hy; cases h
      unfold Op.equalIn
      simp only [Sem.run_bind, e, Result.andThen_ok, hd, if_true, ieq_eq]
      rfl
    · cases h
  · rename_i a b0 hd
    cases hx; cases hy; cases h
    unfold Op.equalIn
    simp only [Sem.run_bind, e, Result.andThen_ok, hd, leq_eq]
    rw [Sem.run_pure]
    congr 1
    rw [Bool.eq_iff_iff]
    show ((Array.mk a : Array UInt8) == Array.mk b0) = true ↔ _
    simp
  · exact eqOp_sound' d ok ht hx hy h

theorem equal_nils {t : TypeId} {ms : Array (String × TypeId)} (e : (underlying t).run P w = .ok (.interface ms) w) : (Op.equal t .nilIface .nilIface).run P w = .ok true w := by
  unfold Op.equal Op.maxDepth
  unfold Op.equalIn
  simp only [Sem.run_bind, e, Result.andThen_ok]
  rfl

theorem isLit_iff (x : Operand) (h : isLit x = true) : x = .const .nilIface := by
  unfold isLit at h
  split at h
  · rfl
  · cases h

theorem eqGuard_other (op : BinOp) (t : TypeId) (x y : Operand) {a b : Value} (ho : ¬ (op = .eql ∨ op = .neq) ∨ (¬ (a = .nilIface ∧ b = .nilIface) ∧ (∀ xs ys, ¬ (a = .agg xs ∧ b = .agg ys)))) : (eqGuard op t x y a b).run P w = .ok () w := by
  rcases ho with h | ⟨h1, h2⟩
  · cases op <;> first | (simp at h; done) | simp [eqGuard]
  · unfold eqGuard
    cases hop : (!(op matches .eql | .neq)) with
    | true => simp
    | false =>
      simp only [Bool.false_eq_true, if_false, Sem.run_bind, Sem.run_pure, Result.andThen_ok, pure_bind]
      split
      · exact absurd ⟨rfl, rfl⟩ h1
      · exact absurd ⟨rfl, rfl⟩ (h2 _ _)
      · rfl

/-! ### Parts -/
theorem partL_sound (ok : VPok P vp) {t : TypeId} {cs cs' : List Value} {off : Nat} {v : Value} (hl : LR μ cs cs') (h : partL vp t cs off = some v) :
    ∃ v', (part t ⟨cs'⟩ off).run P w = .ok v' w ∧ VR μ v v' := by
  unfold partL at h
  split at h
  case h_2 => cases h
  rename_i i ht
  obtain ⟨inf, f⟩ := ok.fits ht
  simp only [part, Sem.run_bind, f.run_isAgg, Result.andThen_ok]
  split at h
  · rename_i hg
    split at h
    case h_2 => cases h
    cases h
    refine ⟨.agg ⟨(cs'.drop off).take i.size⟩, ?_, VR.aggL ((hl.drop off).take _)⟩
    simp only [hg, if_true, Sem.run_bind, f.run_sizeOf, Result.andThen_ok, Sem.run_pure]
    congr 2
    apply Array.ext'
    simp [List.extract_eq_take_drop, Nat.add_sub_cancel_left]
  · rename_i hg
    obtain ⟨v', h1, h2⟩ := hl.get h
    refine ⟨v', ?_, h2⟩
    simp [hg, mk_get?, h1]

/-! ### Structs -/
theorem eqFieldsV_sound (d : Nat) (ok : VPok P vp) {a b a' b' : List Value} (la : LR μ a a') (lb : LR μ b b') : ∀ {fs : List Field} {r : Bool}, eqFieldsV vp a b fs = some r → (Op.eqFields (d + 1) ⟨a'⟩ ⟨b'⟩ fs).run P w = .ok r w
  | [], r, h => by
    simp only [eqFieldsV, Option.some.injEq] at h
    subst h
    simp [Op.eqFields]
  | f :: fs, r, h => by
    unfold eqFieldsV at h
    split at h
    · rename_i hn
      have hn' : f.name = "_" := by simpa using hn
      have ih := eqFieldsV_sound d ok la lb h
      simp only [Op.eqFields, hn', ne_eq, not_true_eq_false, if_false]
      exact ih
    · rename_i hn
      have hn' : ¬ f.name = "_" := by simpa using hn
      split at h
      case h_2 => cases h
      rename_i x y i hx hy hi
      obtain ⟨x', p1, v1⟩ := partL_sound (P := P) (w := w) ok la hx
      obtain ⟨y', p2, v2⟩ := partL_sound (P := P) (w := w) ok lb hy
      split at h
      · rename_i he
        have q := eqScalar_sound (P := P) (w := w) d ok hi v1 v2 he
        have ih := eqFieldsV_sound d ok la lb h
        simp only [Op.eqFields, hn', ne_eq, not_false_eq_true, if_true, Sem.run_bind, p1, p2, q, Result.andThen_ok, Bool.not_true, Bool.false_eq_true, if_false]
        exact ih
      · rename_i he
        cases h
        have q := eqScalar_sound (P := P) (w := w) d ok hi v1 v2 he
        simp [Op.eqFields, hn', p1, p2, q]
      · cases h

theorem eqPart_sound (d : Nat) (ok : VPok P vp) {t : TypeId} {i : TyI} (ht : vp.ty.get t = some i) {x y x' y' : Value} (hx : VR μ x x') (hy : VR μ y y') {b : Bool} (h : eqPart vp t i.desc x y = some b) :
    (Op.equalIn (d + 2) t x' y').run P w = .ok b w := by
  unfold eqPart at h
  split at h
  · rename_i gs a b' hd
    split at h
    case h_2 => cases h
    rename_i hp
    obtain ⟨inf, f⟩ := ok.fits ht
    have hu : P.underlying t = some (.struct gs) := by rw [f.und, hd]
    obtain ⟨_, g2⟩ := ok.plain t hp
    obtain ⟨a', rfl, la⟩ := hx.agg_inv
    obtain ⟨b', rfl, lb⟩ := hy.agg_inv
    have hfs : P.fieldsOf t = gs := by simp [Program.fieldsOf, hu]
    rw [run_equalIn_struct w (d + 1) t _ _ (by rw [hfs]; exact hu) g2, hfs]
    exact eqFieldsV_sound d ok la lb h
  · exact eqScalar_sound (d + 1) ok ht hx hy h

theorem eqFieldsW_sound (d : Nat) (ok : VPok P vp) {a b a' b' : List Value} (la : LR μ a a') (lb : LR μ b b') : ∀ {fs : List Field} {r : Bool}, eqFieldsW vp a b fs = some r → (Op.eqFields (d + 2) ⟨a'⟩ ⟨b'⟩ fs).run P w = .ok r w
  | [], r, h => by
    simp only [eqFieldsW, Option.some.injEq] at h
    subst h
    simp [Op.eqFields]
  | f :: fs, r, h => by
    unfold eqFieldsW at h
    split at h
    · rename_i hn
      have hn' : f.name = "_" := by simpa using hn
      have ih := eqFieldsW_sound d ok la lb h
      simp only [Op.eqFields, hn', ne_eq, not_true_eq_false, if_false]
      exact ih
    · rename_i hn
      have hn' : ¬ f.name = "_" := by simpa using hn
      split at h
      case h_2 => cases h
      rename_i x y i hx hy hi
      obtain ⟨x', p1, v1⟩ := partL_sound (P := P) (w := w) ok la hx
      obtain ⟨y', p2, v2⟩ := partL_sound (P := P) (w := w) ok lb hy
      split at h
      · rename_i he
        have q := eqPart_sound (P := P) (w := w) d ok hi v1 v2 he
        have ih := eqFieldsW_sound d ok la lb h
        simp only [Op.eqFields, hn', ne_eq, not_false_eq_true, if_true, Sem.run_bind, p1, p2, q, Result.andThen_ok, Bool.not_true, Bool.false_eq_true, if_false]
        exact ih
      · rename_i he
        cases h
        have q := eqPart_sound (P := P) (w := w) d ok hi v1 v2 he
        simp [Op.eqFields, hn', p1, p2, q]
      · cases h

theorem binOp_sound (ok : VPok P vp) {op : BinOp} {t : TypeId} {xo yo : Operand} {x y x' y' v : Value} (hx : VR μ x x') (hy : VR μ y y') (h : binOp vp op t xo yo x y = some v) :
    (do eqGuard op t xo yo x' y'; Go.binOp op t x' y' : Sem Value).run P w = .ok v w ∧ VR μ v v := by
  have intflat : ∀ {k a b} {u}, intOp op k a b = some u → VR μ u u := by
    intro k a b u hu
    cases op <;> simp only [intOp] at hu <;> first
      | (cases hu; done)
      | (simp only [Option.some.injEq] at hu; subst hu; first | exact .int _ _ | exact .bool _)
      | (split at hu <;> first | (cases hu; done) | (simp only [Option.some.injEq] at hu; subst hu; exact .int _ _))
  unfold binOp at h
  split at h
  · -- integers
    rename_i k a k' b
    cases hx; cases hy
    have g : (eqGuard op t xo yo (.int k a) (.int k' b)).run P w = .ok () w := eqGuard_other op t xo yo (.inr ⟨by simp, by simp⟩)
    simp only [Sem.run_bind, g, Result.andThen_ok]
    split at h
    · refine ⟨shiftOp_sound P w .shl t k k' a b v (.inl rfl) h, ?_⟩
      unfold shiftOp at h
      split at h
      · cases h
      · simp only [Option.some.injEq] at h; subst h; exact .int _ _
    · refine ⟨shiftOp_sound P w .shr t k k' a b v (.inr rfl) h, ?_⟩
      unfold shiftOp at h
      split at h
      · cases h
      · simp only [Option.some.injEq] at h; subst h; exact .int _ _
    · split at h
      · rename_i hk
        obtain rfl := keq_eq hk
        exact ⟨intOp_sound P w op t k a b v h, intflat h⟩
      · cases h
  · -- texts
    rename_i a b
    cases hx; cases hy
    have g : (eqGuard op t xo yo (.string ⟨⟨a⟩⟩) (.string ⟨⟨b⟩⟩)).run P w = .ok () w := eqGuard_other op t xo yo (.inr ⟨by simp, by simp⟩)
    simp only [Sem.run_bind, g, Result.andThen_ok]
    refine ⟨strOp_sound P w op t a b v h, ?_⟩
    cases op <;> simp only [strOp] at h <;> first
      | (cases h; done)
      | (simp only [Option.some.injEq] at h; subst h; exact .bool _)
      | (split at h <;> first | (cases h; done) | (simp only [Option.some.injEq] at h; subst h; exact .str _))
  · -- two nil interface values
    cases hx; cases hy
    have hlit : ∀ {b}, (isLit xo || isLit yo) = b → b = true → (∃ z, xo = .const z) ∨ (∃ z, yo = .const z) := by
      intro b h1 h2
      subst h2
      rw [Bool.or_eq_true] at h1
      rcases h1 with h1 | h1
      · exact .inl ⟨_, isLit_iff _ h1⟩
      · exact .inr ⟨_, isLit_iff _ h1⟩
    have g : ∀ (hl : (isLit xo || isLit yo) = true), (eqGuard op t xo yo .nilIface .nilIface).run P w = .ok () w := by
      intro hl
      unfold eqGuard
      rcases hlit hl rfl with ⟨z, rfl⟩ | ⟨z, rfl⟩
      · cases op <;> simp
      · cases op <;> simp <;> (split <;> rfl)
    split at h
    · rename_i hl ht
      obtain ⟨inf, f⟩ := ok.fits ht
      have e := f.run_underlying w
      simp only at e
      cases h
      simp only [Sem.run_bind, g hl, Result.andThen_ok]
      refine ⟨?_, .bool _⟩
      show (do pure (.bool (← Op.equal t .nilIface .nilIface)) : Sem Value).run P w = _
      rw [Sem.run_bind, equal_nils e]; rfl
    · rename_i hl ht
      obtain ⟨inf, f⟩ := ok.fits ht
      have e := f.run_underlying w
      simp only at e
      cases h
      simp only [Sem.run_bind, g hl, Result.andThen_ok]
      refine ⟨?_, .bool _⟩
      show (do pure (.bool (!(← Op.equal t .nilIface .nilIface))) : Sem Value).run P w = _
      rw [Sem.run_bind, equal_nils e]; rfl
    · cases h
  · -- two structs
    rename_i a b
    split at h
    case h_2 => cases h
    rename_i fs _ _ _ _ hp ht
    obtain ⟨inf, f⟩ := ok.fits ht
    have hu : P.underlying t = some (.struct fs) := f.und
    obtain ⟨g1, g2⟩ := ok.plain t hp
    obtain ⟨a', rfl, la⟩ : ∃ a', x' = .agg ⟨a'⟩ ∧ LR μ a a' := by
      cases hx with
      | agg ha ra => exact ⟨_, rfl, LR.of_idx ha ra⟩
    obtain ⟨b', rfl, lb⟩ : ∃ b', y' = .agg ⟨b'⟩ ∧ LR μ b b' := by
      cases hy with
      | agg ha ra => exact ⟨_, rfl, LR.of_idx ha ra⟩
    have hfs : P.fieldsOf t = fs := by simp [Program.fieldsOf, hu]
    have eg : (eqGuard op t xo yo (.agg ⟨a'⟩) (.agg ⟨b'⟩)).run P w = .ok () w := by
      unfold eqGuard
      cases hop : (!(op matches .eql | .neq)) with
      | true => cases op <;> first
          | (simp at hop; done)
          | simp
      | false =>
        cases op <;> first
          | (simp at hop; done)
          | simp [run_program, g1]
    have eq : ∀ {r}, eqFieldsW vp a b fs.toList = some r → (Op.equal t (.agg ⟨a'⟩) (.agg ⟨b'⟩)).run P w = .ok r w := by
      intro r hr
      show (Op.equalIn (9999 + 1) t _ _).run P w = _
      rw [run_equalIn_struct w 9999 t _ _ (by rw [hfs]; exact hu) g2, hfs]
      exact eqFieldsW_sound 9997 ok la lb hr
    split at h
    · rename_i r hr
      cases h
      rw [Sem.run_bind, eg, Result.andThen_ok]
      refine ⟨?_, .bool _⟩
      show (do pure (.bool (← Op.equal t (.agg ⟨a'⟩) (.agg ⟨b'⟩))) : Sem Value).run P w = _
      simp [eq hr]
    · rename_i r hr
      cases h
      rw [Sem.run_bind, eg, Result.andThen_ok]
      refine ⟨?_, .bool _⟩
      show (do pure (.bool (!(← Op.equal t (.agg ⟨a'⟩) (.agg ⟨b'⟩)))) : Sem Value).run P w = _
      simp [eq hr]
    · cases h
  · -- all else
    rename_i hni hns hnn
    split at h
    · cases h
    · rename_i i ht
      have nn : ∀ b, eqOp i.desc x y = some b → ¬ (x' = .nilIface ∧ y' = .nilIface) ∧ (∀ xs ys, ¬ (x' = .agg xs ∧ y' = .agg ys)) ∧ (Go.binOp .eql t x' y' = (do pure (.bool (← Op.equal t x' y')))) ∧ (Go.binOp .neq t x' y' = (do pure (.bool (!(← Op.equal t x' y'))))) := by
        intro b hb
        unfold eqOp at hb
        split at hb <;> first
          | (cases hb; done)
          | (cases hx <;> cases hy <;> exact ⟨by simp, by simp, rfl, rfl⟩)
      split at h
      · rename_i b hb
        cases h
        obtain ⟨n1, n2, n3, _⟩ := nn b hb
        rw [Sem.run_bind, eqGuard_other _ _ _ _ (.inr ⟨n1, n2⟩), Result.andThen_ok, n3]
        refine ⟨?_, .bool _⟩
        simp [eqOp_sound ok ht hx hy hb]
      · rename_i b hb
        cases h
        obtain ⟨n1, n2, _, n4⟩ := nn b hb
        rw [Sem.run_bind, eqGuard_other _ _ _ _ (.inr ⟨n1, n2⟩), Result.andThen_ok, n4]
        refine ⟨?_, .bool _⟩
        simp [eqOp_sound ok ht hx hy hb]
      · cases h

theorem unOp_sound {op : UnOp} {x x' v : Value} (hx : VR μ x x') (h : unOp op x = some v) : (Op.unary op x').run P w = .ok v w ∧ VR μ v v := by
  unfold unOp at h
  split at h
  · cases hx; simp only [Option.some.injEq] at h; subst h
    exact ⟨by simp [Op.unary, Op.intArith, fwrap_eq], .int _ _⟩
  · rename_i k n
    cases hx; simp only [Option.some.injEq] at h; subst h
    refine ⟨?_, .int _ _⟩
    have e2 := ofInt_toNat k n
    simp only [Op.unary, Op.intBits, Sem.run_pure, fwrap_eq]
    congr 2
    have hall : BitVec.ofInt k.bits (if k.signed then -1 else k.max) = BitVec.allOnes k.bits := by cases k <;> decide
    rw [hall, BitVec.allOnes_xor, BitVec.toNat_not, e2, modOf_nat]
    rfl
  · cases hx; simp only [Option.some.injEq] at h; subst h
    exact ⟨by simp [Op.unary], .bool _⟩
  · cases h

/-! ### Filling -/
theorem setL_spec : ∀ {cs : List Value} {off : Nat} {vs r : List Value}, setL cs off vs = some r → off + vs.length ≤ cs.length ∧ r.length = cs.length ∧ ∀ k, r[k]? = if off ≤ k ∧ k < off + vs.length then vs[k - off]? else cs[k]?
  | cs, 0, [], r, h => by
    simp only [setL, Option.some.injEq] at h; subst h
    exact ⟨by simp, rfl, fun k => by rw [if_neg (by simp only [List.length_nil]; omega)]⟩
  | c :: cs, 0, v :: vs, r, h => by
    simp only [setL] at h
    split at h
    · rename_i r' h'
      cases h
      obtain ⟨h1, h2, h3⟩ := setL_spec h'
      refine ⟨by simp only [List.length_cons]; omega, by simp [h2], fun k => ?_⟩
      cases k with
      | zero => simp
      | succ k =>
        simp only [List.getElem?_cons_succ, List.length_cons, h3 k, Nat.sub_zero]
        by_cases e : 0 ≤ k ∧ k < 0 + vs.length
        · rw [if_pos e, if_pos (by omega)]
        · rw [if_neg e, if_neg (by omega)]
    · cases h
  | [], 0, _ :: _, r, h => by simp [setL] at h
  | c :: cs, n + 1, vs, r, h => by
    simp only [setL] at h
    split at h
    · rename_i r' h'
      cases h
      obtain ⟨h1, h2, h3⟩ := setL_spec h'
      refine ⟨by simp only [List.length_cons]; omega, by simp [h2], fun k => ?_⟩
      cases k with
      | zero => simp
      | succ k =>
        simp only [List.getElem?_cons_succ, h3 k]
        by_cases e : n ≤ k ∧ k < n + vs.length
        · rw [if_pos e, if_pos (by omega), show k + 1 - (n + 1) = k - n by omega]
        · rw [if_neg e, if_neg (by omega)]
    · cases h
  | [], _ + 1, _, r, h => by simp [setL] at h

theorem foldl_set (off : Nat) : ∀ (l : List Value) (j : Nat) (A : Array Value) (k : Nat),
    ((l.zipIdx j).foldl (fun (cs : Array Value) (p : Value × Nat) => cs.setIfInBounds (off + p.2) p.1) A)[k]? = if off + j ≤ k ∧ k < off + j + l.length ∧ k < A.size then l[k - (off + j)]? else A[k]?
  | [], j, A, k => by simp; intro h1 h2; omega
  | v :: l, j, A, k => by
    simp only [List.zipIdx_cons, List.foldl_cons, foldl_set off l (j + 1), List.length_cons, Array.size_setIfInBounds]
    by_cases e : off + (j + 1) ≤ k ∧ k < off + (j + 1) + l.length ∧ k < A.size
    · rw [if_pos e, if_pos (by omega), show k - (off + j) = (k - (off + (j + 1))) + 1 by omega, List.getElem?_cons_succ]
    · rw [if_neg e]
      by_cases e2 : k = off + j ∧ k < A.size
      · rw [if_pos (by omega)]
        obtain ⟨e2, e3⟩ := e2
        subst e2
        rw [Array.getElem?_setIfInBounds_self_of_lt e3]; simp
      · rw [if_neg (by omega)]
        by_cases e3 : k = off + j
        · have : ¬ k < A.size := fun h => e2 ⟨e3, h⟩
          rw [Array.getElem?_eq_none (by simp; omega), Array.getElem?_eq_none (by omega)]
        · rw [Array.getElem?_setIfInBounds_ne (by omega)]

theorem LR.ext_of {a b : List Value} {μ : Mu} (hs : a.length = b.length) (h : ∀ (k : Nat) v, a[k]? = some v → ∃ v', b[k]? = some v' ∧ VR μ v v') : LR μ a b :=
  LR.of_idx hs fun i h1 h2 => by
    obtain ⟨v', e, r⟩ := h i a[i] (by simp [h1])
    rw [List.getElem?_eq_getElem h2] at e
    cases e; exact r

theorem foldl_set_size (off : Nat) : ∀ (l : List (Value × Nat)) (A : Array Value), (l.foldl (fun (cs : Array Value) (p : Value × Nat) => cs.setIfInBounds (off + p.2) p.1) A).size = A.size
  | [], _ => rfl
  | p :: l, A => by simp only [List.foldl_cons, foldl_set_size off l, Array.size_setIfInBounds]

theorem fill_sound (place : Nat → Option (Nat × Nat)) : ∀ {ps qs : List (Nat × Value)}, PR μ ps qs → ∀ {cs cs' : List Value} {r : List Value}, LR μ cs cs' → fillL place cs ps = some r →
    ∃ r', Instr.fill place ⟨cs'⟩ qs = some ⟨r'⟩ ∧ LR μ r r' := by
  intro ps qs hp
  induction hp with
  | nil => intro cs cs' r hc h; cases h; exact ⟨cs', rfl, hc⟩
  | cons hv ht ih =>
    rename_i i x y xs ys
    intro cs cs' r hc h
    simp only [fillL] at h
    simp only [Instr.fill]
    cases hpl : place i with
    | none => rw [hpl] at h; cases h
    | some os =>
      obtain ⟨off, size⟩ := os
      rw [hpl] at h
      simp only at h ⊢
      have hl := cellsL_rel hv
      split at h
      · cases h
      · rename_i hs
        have hs := Nat.eq_of_beq_eq_true hs
        cases hset : setL cs off (cellsL x) with
        | none => rw [hset] at h; cases h
        | some cs1 =>
          rw [hset] at h
          obtain ⟨k1, k2, k3⟩ := setL_spec hset
          have hlen := hl.length
          have hlen' : (cellsL x).length = y.cells.size := by rw [hlen]; simp
          have hsz : y.cells.size = size := by rw [← hs, hlen']
          have hcl := hc.length
          have hcs0 : (Array.mk cs').size = cs'.length := rfl
          rw [if_neg (by
            rw [hcs0]
            simp only [hsz, ne_eq, not_true_eq_false, decide_false, Bool.false_or, decide_eq_true_eq]
            omega)]
          refine ih (cs := cs1) (cs' := (y.cells.zipIdx.foldl (fun (cs : Array Value) (p : Value × Nat) => cs.setIfInBounds (off + p.2) p.1) ⟨cs'⟩).toList) ?_ h
          have hform : (y.cells.zipIdx.foldl (fun (cs : Array Value) (p : Value × Nat) => cs.setIfInBounds (off + p.2) p.1) ⟨cs'⟩) = ((y.cells.toList.zipIdx 0).foldl (fun (cs : Array Value) (p : Value × Nat) => cs.setIfInBounds (off + p.2) p.1) ⟨cs'⟩) := by
            rw [← Array.foldl_toList]; simp
          have hsize : (y.cells.zipIdx.foldl (fun (cs : Array Value) (p : Value × Nat) => cs.setIfInBounds (off + p.2) p.1) ⟨cs'⟩).size = cs'.length := by
            rw [hform, foldl_set_size]; rfl
          refine LR.ext_of ?_ ?_
          · have : (y.cells.zipIdx.foldl (fun (cs : Array Value) (p : Value × Nat) => cs.setIfInBounds (off + p.2) p.1) ⟨cs'⟩).toList.length = cs'.length := by rw [Array.length_toList]; exact hsize
            rw [k2, hcl]; exact this.symm
          · intro k v hk
            rw [k3] at hk
            have hg := foldl_set off y.cells.toList 0 ⟨cs'⟩ k
            rw [← hform, ← Array.getElem?_toList] at hg
            simp only [Nat.add_zero] at hg
            have hcs : (Array.mk cs').size = cs'.length := rfl
            rw [hcs] at hg
            by_cases e : off ≤ k ∧ k < off + (cellsL x).length
            · rw [if_pos e] at hk
              obtain ⟨v', m1, m2⟩ := hl.get hk
              refine ⟨v', ?_, m2⟩
              rw [if_pos (by omega), m1] at hg
              exact hg
            · rw [if_neg e] at hk
              obtain ⟨v', m1, m2⟩ := hc.get hk
              refine ⟨v', ?_, m2⟩
              rw [if_neg (by omega), mk_get?, m1] at hg
              exact hg

theorem places_sound (ok : VPok P vp) : ∀ {fs : List Field} {l : List (Nat × Nat)}, fieldPlaces vp fs = some l → ((fs.mapM fun f => do pure (f.offset, ← sizeOf f.type) : Sem (List (Nat × Nat)))).run P w = .ok l w
  | [], l, h => by cases h; simp
  | f :: fs, l, h => by
    simp only [fieldPlaces] at h
    split at h
    · rename_i i r h1 h2
      cases h
      obtain ⟨inf, ft⟩ := ok.fits h1
      have := places_sound ok h2
      simp only [List.mapM_cons, Sem.run_bind, ft.run_sizeOf, Result.andThen_ok, Sem.run_pure, this]
    · cases h

end
end Go.Wvm
