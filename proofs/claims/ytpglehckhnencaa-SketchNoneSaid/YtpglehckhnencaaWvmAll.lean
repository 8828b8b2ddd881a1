/- Every operation of the small machine is the model's: put together. -/
import Derived.Test.YtpglehckhnencaaWvmMaps
import Derived.LaidEqlPtr
set_option linter.unusedSimpArgs false
set_option linter.unusedVariables false
namespace Go.Wvm
open Go.RowKit

section
variable {P : Program} {vp : VP} {μ : Mu} {ro : Nat} {w0 : World} {V V' : VW} {w : World}

theorem sureAddr_ptr (a : Addr) : (Instr.sureAddr (.pointer (some a))) = pure a := rfl

theorem natIn_sound {v v' : Value} {hi hi' n : Nat} {code : BoundsCode} (hv : VR μ v v') (h : natIn v hi = some n) (hh : hi ≤ hi') : n ≤ hi ∧ ∀ w, (Instr.sliceBound v' hi' code).run P w = .ok n w := by
  unfold natIn at h
  split at h
  case h_2 => cases h
  rename_i k m
  split at h
  case h_2 => cases h
  rename_i hb
  cases h
  have hb := Nat.le_of_ble_eq_true hb
  obtain rfl := VR.int_inv hv
  refine ⟨hb, fun w => ?_⟩
  simp only [Instr.sliceBound, asIntOf, pure_bind]
  rw [if_pos ⟨by simp only [Int.ofNat_eq_natCast]; omega, by simp only [Int.ofNat_eq_natCast]; omega⟩]
  simp

/-- The bounds that a slice takes: in a row of more room they are the same. -/
theorem bounds_sound {len cap cap' : Nat} {lo hi mx : Option Value} {lo' hi' mx' : Option Value} (h1 : OptR μ lo lo') (h2 : OptR μ hi hi') (h3 : OptR μ mx mx') {a b m : Nat} (h : bounds len cap lo hi mx = some (a, b, m)) (hc : cap ≤ cap') (hl : len ≤ cap) (s : Bool) :
    a ≤ b ∧ b ≤ cap ∧ m = cap ∧ ∀ w, (Instr.sliceBounds s len cap' lo' hi' mx').run P w = .ok (a, b, cap') w := by
  unfold bounds at h
  split at h
  · cases h
  cases h3
  split at h
  · cases h
  rename_i hb hhb
  split at h
  · cases h
  rename_i la hla
  simp only [Option.some.injEq, Prod.mk.injEq] at h
  obtain ⟨rfl, rfl, rfl⟩ := h
  have key : hb ≤ cap ∧ ∀ w, (match hi', (none : Option Value) with
      | some v, some _ => Instr.sliceBound v cap' .slice3B
      | some v, none => Instr.sliceBound v cap' (if s then .sliceAcap else .sliceAlen)
      | none, none => pure len
      | none, some _ => stuck "Slice: max without high").run P w = .ok hb w := by
    cases h2 with
    | none => cases hhb; exact ⟨hl, fun w => rfl⟩
    | some hv =>
      obtain ⟨k1, k2⟩ := natIn_sound (P := P) (code := if s then .sliceAcap else .sliceAlen) hv hhb hc
      exact ⟨k1, k2⟩
  have key2 : la ≤ hb ∧ ∀ w, (match lo' with
      | some v => Instr.sliceBound v hb (if (none : Option Value).isSome then .slice3C else .sliceB)
      | none => pure 0).run P w = .ok la w := by
    cases h1 with
    | none => cases hla; exact ⟨Nat.zero_le _, fun w => rfl⟩
    | some hv =>
      obtain ⟨k1, k2⟩ := natIn_sound (P := P) (code := .sliceB) hv hla (Nat.le_refl _)
      exact ⟨k1, k2⟩
  refine ⟨key2.1, key.1, rfl, fun w => ?_⟩
  have e1 := key.2 w
  have e2 := key2.2 w
  cases h2 with
  | none =>
    cases h1 with
    | none => cases hhb; cases hla; simp [Instr.sliceBounds]
    | some hv =>
      cases hhb
      simp only at e1 e2
      simp only [Instr.sliceBounds, pure_bind, Sem.run_bind, Sem.run_pure, Result.andThen_ok]
      simp only [Option.isSome_none, Bool.false_eq_true, if_false] at e2 ⊢
      rw [e2]; rfl
  | some hv =>
    cases h1 with
    | none =>
      cases hla
      simp only at e1
      simp only [Instr.sliceBounds, pure_bind, Sem.run_bind, Sem.run_pure, Result.andThen_ok, e1]
    | some hv2 =>
      simp only at e1 e2
      simp only [Instr.sliceBounds, pure_bind, Sem.run_bind, Sem.run_pure, Result.andThen_ok, e1]
      simp only [Option.isSome_none, Bool.false_eq_true, if_false] at e2 ⊢
      rw [e2]; rfl

/-! ### Operations, one by one -/
variable {fr : VF} {ρ : Operand → Value}

theorem VR.ptr_inv {a : Addr} {v : Value} (h : VR μ (.pointer (some a)) v) : ∃ a', v = .pointer (some a') := by cases h <;> exact ⟨_, rfl⟩

theorem exec_load (ok : VPok P vp) (R : Rel μ ro w0 V w) (E : Ev μ fr ρ) {o : Oper} {t : TypeId} {a : Operand} (hop : o.op = .load t a) {n : VN}
    (h : (match fr.ev a with | some (.pointer (some ad)) => one (loadV vp t ad V) V | _ => none) = some (n, V')) : FineA P μ w (execOp ρ o) n V V' := by
  split at h
  case h_2 => cases h
  rename_i ad ha
  have hr := E _ _ ha
  obtain ⟨a', ea⟩ := VR.ptr_inv hr
  rw [ea] at hr
  refine FineA.of_one h fun v hv => ?_
  obtain ⟨v', h1, h2⟩ := loadV_all ok R hr hv
  exact ⟨v', fun w1 hw1 => by simp [execOp, hop, Instr.loadAt, ea, sureAddr_ptr, h1 w1 hw1], h2⟩

theorem eqGuard_ptr (op : BinOp) (t : TypeId) (x y : Operand) (a b : Addr) : (eqGuard op t x y (.pointer (some a)) (.pointer (some b))).run P w = .ok () w :=
  eqGuard_other op t x y (.inr ⟨by simp, by simp⟩)

theorem ptrEq_sound (ok : VPok P vp) (R : Rel μ ro w0 V w) {t : TypeId} {a b a' b' : Addr} (ha : VR μ (.pointer (some a)) (.pointer (some a'))) (hb : VR μ (.pointer (some b)) (.pointer (some b'))) {r : Bool} (h : ptrEqV vp t a b V = some r) :
    (Op.equal t (.pointer (some a')) (.pointer (some b'))).run P w = .ok r w := by
  unfold ptrEqV at h
  split at h
  case h_2 => cases h
  rename_i e _ _ _ _ ht hsa hsb
  split at h
  case h_2 => cases h
  rename_i ei he
  split at h
  · cases h
  rename_i hz
  have hz : ei.size ≠ 0 := fun k => by rw [k] at hz; simp at hz
  obtain ⟨inf, ft⟩ := ok.fits ht
  obtain ⟨infe, fe⟩ := ok.fits he
  have eu := ft.run_underlying w
  simp only at eu
  have key : ∀ {q : Bool}, (sameAddr a' b').run P w = .ok q w → (Op.equal t (.pointer (some a')) (.pointer (some b'))).run P w = .ok q w := by
    intro q hq
    show (Op.equalIn (9999 + 1) t (.pointer (some a')) (.pointer (some b'))).run P w = _
    unfold Op.equalIn
    simp only [Sem.run_bind, eu, Result.andThen_ok, fe.run_sizeOf, ne_eq, hz, not_false_eq_true, if_true, hq]
  refine key ?_
  cases ha with
  | glob => cases hsa
  | ptr h1 =>
    cases hb with
    | glob => cases hsb
    | ptr h2 =>
      rename_i b1 o1 L1 b2 o2 L2
      split at h
      · rename_i hbb
        have hbb : b1 = b2 := Nat.eq_of_beq_eq_true hbb
        subst hbb
        rw [h1] at h2
        cases h2
        cases h
        simp only
        cases hq : Nat.beq o1 o2 with
        | true => rw [Nat.eq_of_beq_eq_true hq]; exact run_sameAddr_same w _
        | false =>
          have hne : o1 ≠ o2 := fun k => by rw [k] at hq; simp at hq
          have : (⟨L1.blk, o1 + L1.off, none⟩ : Addr) ≠ ⟨L1.blk, o2 + L1.off, none⟩ := by simp; omega
          simp [sameAddr, this]
      · rename_i hbb
        have hbb : b1 ≠ b2 := fun k => by subst k; simp at hbb
        simp only at h
        split at h
        case h_2 => cases h
        rename_i n1 c1 d1 u1 t1 n2 c2 d2 u2 t2 hg1 hg2
        cases h
        obtain ⟨M1, O1, k1, k2, k3⟩ := R.obj _ _ hg1
        obtain ⟨M2, O2, m1, m2, m3⟩ := R.obj _ _ hg2
        rw [h1] at k1; cases k1
        rw [h2] at m1; cases m1
        have hne := R.inj b1 b2 L1 L2 _ _ hbb hg1 hg2 h1 h2
        obtain ⟨_, C1, e1, lo1, hi1, rfl, q1⟩ := k3
        obtain ⟨_, C2, e2, lo2, hi2, rfl, q2⟩ := m3
        obtain ⟨_, _, hh1, hl1⟩ := q1.ty _ _ rfl
        obtain ⟨_, _, hh2, hl2⟩ := q2.ty _ _ rfl
        obtain rfl := hl1 rfl
        obtain rfl := hl2 rfl
        obtain rfl : hi1 = 0 := by omega
        obtain rfl : hi2 = 0 := by omega
        exact run_sameAddr_other w (fun k => hne (congrArg Addr.block k)) k2 m2

theorem exec_binOp (ok : VPok P vp) (R : Rel μ ro w0 V w) (E : Ev μ fr ρ) {o : Oper} {op : BinOp} {t : TypeId} {x y : Operand} {yt : TypeId} (hop : o.op = .binOp op t x y yt) {n : VN}
    (h : (match fr.ev x, fr.ev y with
    | some (.pointer (some a)), some (.pointer (some b)) => one (ptrOp vp op t a b V) V
    | some a, some b => one (binOp vp op t x y a b) V
    | _, _ => none) = some (n, V')) : FineS P μ w (execOp ρ o) n V V' := by
  split at h
  case h_3 => cases h
  · rename_i a b ha hb
    have ha := E _ _ ha
    have hb := E _ _ hb
    obtain ⟨a', ea⟩ := VR.ptr_inv ha
    obtain ⟨b', eb⟩ := VR.ptr_inv hb
    rw [ea] at ha
    rw [eb] at hb
    refine FineS.of_one h fun v hv => ?_
    unfold ptrOp at hv
    have hg : (eqGuard op t x y (.pointer (some a')) (.pointer (some b'))).run P w = .ok () w := eqGuard_ptr op t x y a' b'
    split at hv
    · rename_i r hr
      cases hv
      refine ⟨.bool r, ?_, .bool _⟩
      simp only [execOp, hop, ea, eb, Sem.run_bind, hg, Result.andThen_ok]
      show ((do pure (.bool (← Op.equal t (.pointer (some a')) (.pointer (some b')))) : Sem Value).run P w).andThen _ = _
      simp only [Sem.run_bind, ptrEq_sound ok R ha hb hr, Result.andThen_ok, Sem.run_pure]
    · rename_i r hr
      cases hv
      refine ⟨.bool (!r), ?_, .bool _⟩
      simp only [execOp, hop, ea, eb, Sem.run_bind, hg, Result.andThen_ok]
      show ((do pure (.bool (!(← Op.equal t (.pointer (some a')) (.pointer (some b'))))) : Sem Value).run P w).andThen _ = _
      simp only [Sem.run_bind, ptrEq_sound ok R ha hb hr, Result.andThen_ok, Sem.run_pure]
    · cases hv
  · rename_i a b _ ha hb
    refine FineS.of_one h fun v hv => ?_
    obtain ⟨r1, r2⟩ := binOp_sound (P := P) (w := w) ok (E _ _ ha) (E _ _ hb) hv
    refine ⟨v, ?_, r2⟩
    simp only [execOp, hop]
    rw [Sem.run_bind, r1]
    rfl

theorem exec_store (ok : VPok P vp) (R : Rel μ ro w0 V w) (E : Ev μ fr ρ) {o : Oper} {t : TypeId} {a x : Operand} (hop : o.op = .store t a x) {n : VN}
    (h : (match fr.ev a, fr.ev x with | some (.pointer (some ad)), some v => unit (storeV vp ro t ad v V) | _, _ => none) = some (n, V')) : Fine P μ ro w0 w (execOp ρ o) n V' := by
  split at h
  case h_2 => cases h
  rename_i ad v ha hx
  have hr := E _ _ ha
  obtain ⟨a', ea⟩ := VR.ptr_inv hr
  rw [ea] at hr
  unfold unit at h
  split at h
  case h_2 => cases h
  rename_i V1 hs
  simp only [Option.some.injEq, Prod.mk.injEq] at h
  obtain ⟨rfl, rfl⟩ := h
  obtain ⟨w', h1, h2⟩ := storeV_sound ok R hr (E _ _ hx) hs
  exact ⟨.skip, w', μ, by simp [execOp, hop, Instr.storeAt, ea, sureAddr_ptr, h1], Ext.refl _, h2, .skip⟩

theorem exec_boxed (R : Rel μ ro w0 V w) {s : Sem Next} {n : VN} {l l' : List Value} (hl : LR μ l l') {t : Option TypeId} (h : boxed (newCells 0 t l V) = some (n, V')) (e : TypeId) (ht : ∀ x, t = some x → x = e)
    (hs : ∀ w, s.run P w = .ok (.value (.pointer (some ⟨w.heap.size, 0, none⟩))) { w with heap := w.heap.push (.cells ⟨l'⟩ e) }) : Fine P μ ro w0 w s n V' := by
  unfold boxed at h
  split at h
  case h_2 => cases h
  rename_i a V1 hn
  simp only [Option.some.injEq, Prod.mk.injEq] at h
  obtain ⟨rfl, rfl⟩ := h
  obtain ⟨_, rfl, r3, _⟩ := newCells_sound (P := P) R e ht hl hn
  exact ⟨_, _, _, hs w, Mu.ext_put (R.fresh _ (Nat.le_refl _)).1, r3, .value (VR.new_ptr rfl)⟩

theorem exec_sliced (R : Rel μ ro w0 V w) {s : Sem Next} {n : VN} {l l' : List Value} {len cap u : Nat} (hl : LR μ l l') (hlen : len ≤ cap) (hcu : cap * u = l.length) {t : Option TypeId} (h : sliced len cap (newCells u t l V) = some (n, V')) (e : TypeId) (ht : ∀ x, t = some x → x = e)
    (hs : ∀ w, s.run P w = .ok (.value (.slice (some ⟨w.heap.size, 0, none⟩) len cap)) { w with heap := w.heap.push (.cells ⟨l'⟩ e) }) : Fine P μ ro w0 w s n V' := by
  unfold sliced at h
  split at h
  case h_2 => cases h
  rename_i a V1 hn
  simp only [Option.some.injEq, Prod.mk.injEq] at h
  obtain ⟨rfl, rfl⟩ := h
  obtain ⟨_, rfl, r3, _⟩ := newCells_sound (P := P) R e ht hl hn
  exact ⟨_, _, _, hs w, Mu.ext_put (R.fresh _ (Nat.le_refl _)).1, r3, .value (VR.new_slice (L := ⟨w.heap.size, 0, l.length, u⟩) rfl hlen (Nat.le_refl _) ⟨fun _ => rfl, fun _ => hcu⟩)⟩

theorem exec_alloc (ok : VPok P vp) (R : Rel μ ro w0 V w) {o : Oper} {e : TypeId} (hop : o.op = .alloc e) {n : VN}
    (h : (match vp.ty.get e with | some i => (match i.zero with | some z => boxed (newCells 0 (some e) (cellsL z) V) | none => none) | none => none) = some (n, V')) : Fine P μ ro w0 w (execOp ρ o) n V' := by
  split at h
  case h_2 => cases h
  rename_i i he
  split at h
  case h_2 => cases h
  rename_i z hz
  obtain ⟨inf, f⟩ := ok.fits he
  refine exec_boxed R (flat_list (f.zero z hz).2.1) h e (fun x hx => by cases hx; rfl) fun w => ?_
  simp [execOp, hop, Instr.alloc, f.run_zero w hz, newVar, newRow, cells_eq]

theorem exec_box (R : Rel μ ro w0 V w) (E : Ev μ fr ρ) {o : Oper} {e : TypeId} {x : Operand} (hop : o.op = .box e x) {n : VN}
    (h : (match fr.ev x with | some v => boxed (newCells 0 (some e) (cellsL v) V) | none => none) = some (n, V')) : Fine P μ ro w0 w (execOp ρ o) n V' := by
  split at h
  case h_2 => cases h
  rename_i v hx
  have hl := cellsL_rel (E _ _ hx)
  refine exec_boxed R hl h e (fun x hx => by cases hx; rfl) fun w => ?_
  simp [execOp, hop, Instr.box, newVar, newRow]

theorem exec_build (ok : VPok P vp) (R : Rel μ ro w0 V w) (E : Ev μ fr ρ) {o : Oper} {t : TypeId} {parts : Array (Nat × Operand)} (hop : o.op = .build t parts) {n : VN}
    (h : (match vp.ty.get t, fr.evParts parts.toList with
    | some ⟨.struct fs, _, _, some z, _⟩, some ps => match fieldPlaces vp fs.toList with
      | some places => match fillL (places[·]?) (cellsL z) ps with
        | some cs => one (some (.agg ⟨cs⟩)) V
        | none => none
      | none => none
    | some ⟨.array _ e, _, _, some z, _⟩, some ps => match vp.ty.get e with
      | some ei => match fillL (fun i => some (i * ei.size, ei.size)) (cellsL z) ps with
        | some cs => one (some (.agg ⟨cs⟩)) V
        | none => none
      | none => none
    | _, _ => none) = some (n, V')) : FineS P μ w (execOp ρ o) n V V' := by
  split at h
  case h_3 => cases h
  · rename_i fs _ _ z _ ps ht hps
    split at h
    case h_2 => cases h
    rename_i places hpl
    split at h
    case h_2 => cases h
    rename_i cs hcs
    obtain ⟨inf, f⟩ := ok.fits ht
    obtain ⟨r', k1, k2⟩ := fill_sound _ (E.parts hps) (flat_list (μ := μ) (f.zero z rfl).2.1) hcs
    refine FineS.of_one h fun v hv => ?_
    cases hv
    refine ⟨.agg ⟨r'⟩, ?_, VR.aggL k2⟩
    have eu := f.run_underlying w
    simp only at eu
    have ep : (fs.mapM fun f => do pure (f.offset, ← sizeOf f.type) : Sem (Array (Nat × Nat))).run P w = .ok ⟨places⟩ w := by
      have := places_sound (w := w) ok hpl
      rw [show fs = fs.toList.toArray from rfl, List.mapM_toArray, Sem.run_map, this]
      rfl
    have hpr : (fun x : Nat => (Array.mk places)[x]?) = (fun x : Nat => places[x]?) := by funext x; exact mk_get? _ _
    simp only [execOp, hop, Instr.build, Sem.run_bind, f.run_zero w rfl, Result.andThen_ok, eu, ep, cells_eq, hpr, map_mk, k1, Sem.run_pure]
  · rename_i len e _ _ z _ ps ht hps
    split at h
    case h_2 => cases h
    rename_i ei he
    split at h
    case h_2 => cases h
    rename_i cs hcs
    obtain ⟨inf, f⟩ := ok.fits ht
    obtain ⟨infe, fe⟩ := ok.fits he
    obtain ⟨r', k1, k2⟩ := fill_sound _ (E.parts hps) (flat_list (μ := μ) (f.zero z rfl).2.1) hcs
    refine FineS.of_one h fun v hv => ?_
    cases hv
    refine ⟨.agg ⟨r'⟩, ?_, VR.aggL k2⟩
    have eu := f.run_underlying w
    simp only at eu
    simp only [execOp, hop, Instr.build, Sem.run_bind, f.run_zero w rfl, Result.andThen_ok, eu, fe.run_sizeOf, cells_eq, map_mk, k1, Sem.run_pure]

theorem exec_buildSlice (ok : VPok P vp) (R : Rel μ ro w0 V w) (E : Ev μ fr ρ) {o : Oper} {t : TypeId} {len : Nat} {parts : Array (Nat × Operand)} (hop : o.op = .buildSlice t len parts) {n : VN}
    (h : (match vp.ty.get t, fr.evParts parts.toList with
    | some ⟨.slice e, _, _, _, _⟩, some ps => match vp.ty.get e with
      | some ei => match ei.zero, Nat.ble (len * ei.size) tiny with
        | some z, true => match fillL (fun i => some (i * ei.size, ei.size)) (repL (cellsL z) len) ps with
          | some cs => sliced len len (newCells ei.size (some e) cs V)
          | none => none
        | _, _ => none
      | none => none
    | _, _ => none) = some (n, V')) : Fine P μ ro w0 w (execOp ρ o) n V' := by
  split at h
  case h_2 => cases h
  rename_i e _ _ _ _ ps ht hps
  split at h
  case h_2 => cases h
  rename_i ei he
  split at h
  case h_2 => cases h
  rename_i z hz hb
  split at h
  case h_2 => cases h
  rename_i cs hcs
  obtain ⟨inf, f⟩ := ok.fits ht
  obtain ⟨infe, fe⟩ := ok.fits he
  have hb := Nat.le_of_ble_eq_true hb
  have hzl := (fe.zero z hz).2.2
  obtain ⟨r', k1, k2⟩ := fill_sound _ (E.parts hps) ((flat_list (μ := μ) (fe.zero z hz).2.1).rep len) hcs
  have hlen : cs.length = len * ei.size := by
    have : ∀ (ps : List (Nat × Value)) (a r : List Value), fillL (fun i => some (i * ei.size, ei.size)) a ps = some r → r.length = a.length := by
      intro ps
      induction ps with
      | nil => intro a r h; cases h; rfl
      | cons p ps ih =>
        intro a r h
        obtain ⟨i, v⟩ := p
        simp only [fillL] at h
        split at h
        · cases h
        · split at h
          · rename_i a' ha'
            rw [ih _ _ h, (setL_spec ha').2.1]
          · cases h
    rw [this _ _ _ hcs, repL_length, hzl]
  refine exec_sliced R k2 (Nat.le_refl _) (by omega) h e (fun x hx => by cases hx; rfl) fun w => ?_
  have eu := f.run_underlying w
  simp only at eu
  have h24 : ¬ (len * ei.size > 2 ^ 24) := by unfold tiny at hb; omega
  have hr := range_rep (cellsL z) len
  rw [hzl] at hr
  simp only [execOp, hop, Instr.buildSlice, Sem.run_bind, eu, Result.andThen_ok, fe.run_sizeOf, if_neg h24]
  by_cases h0 : len * ei.size = 0
  · have hrep : repL (cellsL z) len = [] := List.eq_nil_of_length_eq_zero (by rw [repL_length, hzl]; exact h0)
    rw [hrep] at k1
    have hr0 : ∀ f : Nat → Value, (Array.range (len * ei.size)).map f = ⟨[]⟩ := fun f => by rw [h0]; simp
    simp only [if_pos h0, Sem.run_pure, Result.andThen_ok, hr0, Array.toList_map, k1, newRow, Sem.run_bind, run_newObj]
  · simp only [if_neg h0, Sem.run_bind, fe.run_zero w hz, Result.andThen_ok, Sem.run_pure, cells_eq, hr, Array.toList_map, k1, newRow, run_newObj]

end
end Go.Wvm
