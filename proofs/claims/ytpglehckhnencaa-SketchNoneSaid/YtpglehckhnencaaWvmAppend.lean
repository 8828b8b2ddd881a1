/- Appending. -/
import Derived.Test.YtpglehckhnencaaWvmMore
set_option linter.unusedSimpArgs false
set_option linter.unusedVariables false
namespace Go.Wvm
open Go.RowKit

theorem list2 {α : Type} {a : Array α} {x y : α} (h : a.toList = [x, y]) : a = #[x, y] := by
  apply Array.ext'; rw [h]

section
variable {P : Program} {vp : VP} {μ : Mu} {ro : Nat} {w0 : World} {V V' : VW} {w : World}

theorem append_in (t1 t2 e ty : TypeId) (e1 : ∀ w, (underlying t1).run P w = .ok (.slice e) w) {d2 : TypeDesc} (e2 : ∀ w, (underlying t2).run P w = .ok d2 w) (hd : lenable d2 = true)
    (size : Nat) (e3 : ∀ w, (sizeOf e).run P w = .ok size w) {x : Value} {n : Nat} (hx : ∀ w, (Builtin.lenOf x).run P w = .ok n w) {base : Option Addr} {sLen sCap : Nat} (hn : sLen + n ≤ sCap)
    {new : List Value} (hf : (Builtin.firstCells size n x).run P w = .ok ⟨new⟩ w) :
    (Builtin.append_ #[t1, t2] ty #[.slice base sLen sCap, x]).run P w = ((match base with | some a => storeCells (a.add (sLen * size)) new | none => pure ()) >>= fun _ => pure (.slice base (sLen + n) sCap) : Sem Value).run P w := by
  cases d2 <;> first
    | (cases hd; done)
    | (cases base <;> simp [Builtin.append_, e1, e2, e3, hx, hn, hf])

theorem append_grow (t1 t2 e ty : TypeId) (e1 : ∀ w, (underlying t1).run P w = .ok (.slice e) w) {d2 : TypeDesc} (e2 : ∀ w, (underlying t2).run P w = .ok d2 w) (hd : lenable d2 = true)
    (size : Nat) (e3 : ∀ w, (sizeOf e).run P w = .ok size w) {inf : TypeInfo} (e4 : ∀ w, (typeInfo e).run P w = .ok inf w) {z : Value} (e5 : ∀ w, (zeroValue e).run P w = .ok z w)
    {x : Value} {n : Nat} (hx : ∀ w, (Builtin.lenOf x).run P w = .ok n w) {base : Option Addr} {sLen sCap : Nat} (hn : ¬ sLen + n ≤ sCap)
    (hb : inf.bytes ≠ 0) (h48 : ¬ (281474976710656 < Builtin.nextslicecap (sLen + n) sCap * inf.bytes))
    {old new : List Value} (hf : (Builtin.firstCells size n x).run P w.drew = .ok ⟨new⟩ w.drew) (ho : (Builtin.firstCells size sLen (.slice base sLen sCap)).run P w.drew = .ok ⟨old⟩ w.drew) :
    (Builtin.append_ #[t1, t2] ty #[.slice base sLen sCap, x]).run P w =
      .ok (.slice (some ⟨w.heap.size, 0, none⟩) (sLen + n) (grownCap w (sLen + n) sCap e))
        (w.drew.alloc (.cells ⟨(old ++ new) ++ (Builtin.zeroCells z.cells (grownCap w (sLen + n) sCap e - (sLen + n))).toList⟩ e)) := by
  have hA : ∀ Z : Array Value, (Array.mk old) ++ ((Array.mk new) ++ Z) = ⟨(old ++ new) ++ Z.toList⟩ := fun Z => by apply Array.ext'; simp
  cases d2 <;> first
    | (cases hd; done)
    | (simp [Builtin.append_, e1, e2, e3, e4, e5, hx, hn, hb, h48, hf, ho, Question.forced, newRow, grownCap, hA])

theorem cut_ge (need old e t : Nat) (h : need < 2 ^ 63) : need ≤ (Question.appendCap need old e).cut t := by
  simp only [Question.cut]; omega

/-- Where a slice's elements lie in the model. -/
theorem loadL_cells {n : Nat} {c : Tr Value} {d : Option Value} : ∀ (k o : Nat) (l : List Value), loadL n c d o k = some l → l.length = k ∧ ∀ j, j < k → cellAt n c d (o + j) = l[j]?
  | 0, o, l, h => by cases h; exact ⟨rfl, fun j hj => by omega⟩
  | k + 1, o, l, h => by
    simp only [loadL] at h
    split at h
    case h_2 => cases h
    rename_i v h1
    split at h
    case h_2 => cases h
    rename_i r h2
    cases h
    obtain ⟨k1, k2⟩ := loadL_cells k (o + 1) r h2
    refine ⟨by simp [k1], fun j hj => ?_⟩
    cases j with
    | zero => simpa using h1
    | succ j => rw [show o + (j + 1) = o + 1 + j by omega, k2 j (by omega), List.getElem?_cons_succ]

theorem loadL_of_holds {n : Nat} {c : Tr Value} {d : Option Value} : ∀ (k o : Nat), holds n c d o k = true → ∃ l, loadL n c d o k = some l
  | 0, o, _ => ⟨[], rfl⟩
  | k + 1, o, h => by
    simp only [holds] at h
    split at h
    case h_2 => cases h
    rename_i v h1
    obtain ⟨l, hl⟩ := loadL_of_holds k (o + 1) h
    exact ⟨v :: l, by simp only [loadL, h1, hl]⟩

theorem keepOk_le {t t' : Option (TypeId × Nat)} {n : Nat} (h : keepOk t t' n = true) : fzOf t ≤ n := by
  unfold keepOk at h
  split at h
  · rename_i h0; omega
  · exact Nat.le_of_ble_eq_true h
  · cases h
theorem keepOk_none {t : Option (TypeId × Nat)} {n : Nat} (h : keepOk t none n = true) : fzOf t = 0 := by
  unfold keepOk at h
  split at h
  · rename_i h0; exact h0
  · rename_i h0 h1; cases h0
  · cases h

/-- A slice that has no room left for sure: in place, or copied; a new number for either. -/
theorem append_unsure (R : Rel μ ro w0 V w) {t1 t2 e ty : TypeId} (e1 : ∀ w, (underlying t1).run P w = .ok (.slice e) w) {d2 : TypeDesc} (e2 : ∀ w, (underlying t2).run P w = .ok d2 w) (hd : lenable d2 = true)
    {size : Nat} (e3 : ∀ w, (sizeOf e).run P w = .ok size w) {inf : TypeInfo} (e4 : ∀ w, (typeInfo e).run P w = .ok inf w) {z : Value} (e5 : ∀ w, (zeroValue e).run P w = .ok z w) (hzl : z.cells.size = size)
    {x' : Value} {n : Nat} (hx : ∀ w, (Builtin.lenOf x').run P w = .ok n w) (hsz : size ≠ 0) (hb0 : inf.bytes ≠ 0) (hb : inf.bytes ≤ 65536)
    {new new' : List Value} (hnew : LR μ new new') (hf : ∀ d, (Builtin.firstCells size n x').run P { w with drawn := d } = .ok ⟨new'⟩ { w with drawn := d }) (hnl : new.length = n * size) (hone : oneCells new = true)
    {b o m : Nat} {c : Tr Value} {d : Option Value} {u sLen sCap : Nat} {s' : Value} (hs : VR μ (.slice (some ⟨b, o, none⟩) sLen sCap) s') (hro : ro ≤ b) {tt tt' : Option (TypeId × Nat)} (hg : V.heap.get b = some (.cells m c d u tt)) (hu : u = size) (htt : ∀ x k, tt' = some (x, k) → tt = some (x, k) ∧ x = e ∧ o = 0 ∧ 0 < sCap) (hko : keepOk tt tt' (sLen * size) = true)
    (hneed : sLen + n ≤ small) {old : List Value} (hold : loadL m c d o (sLen * size) = some old)
    {c' : Tr Value} {d' : Option Value} (hc' : ∀ i v, cellAt ((sLen + n) * size) c' d' i = some v → (old ++ new)[i]? = some v) :
    ∃ v' w' μ', (Builtin.append_ #[t1, t2] ty #[s', x']).run P w = .ok v' w' ∧ Ext μ μ' ∧
      Rel μ' ro w0 (VW.add { V with heap := V.heap.del b } (.cells ((sLen + n) * size) c' d' size tt')) w' ∧ VR μ' (.slice (some ⟨V.next, 0, none⟩) (sLen + n) (sLen + n)) v' := by
  cases hs with
  | slice hm ho hc hl hlim =>
    rename_i o' sCap' L
    have hoo : sLen * size ≠ 0 → o' = o := fun h => ho (by
      rcases Nat.eq_zero_or_pos sLen with e | e
      · rw [e, Nat.zero_mul] at h; exact absurd rfl h
      · omega)
    obtain ⟨L', O, h1, h2, h3⟩ := R.obj _ _ hg
    rw [hm] at h1; cases h1
    obtain ⟨h0, C, e', lo, hi, rfl, hcs⟩ := h3
    have hunit : L.unit = size := h0.trans hu
    have hlim' : o' + sCap' * size ≤ L.lim := by
      have := (hlim.2 (by rw [hunit]; exact hsz)).1
      rwa [hunit] at this
    obtain ⟨old', m1, m2, m3⟩ := loadL_rel hcs _ _ _ hold
    obtain ⟨q1, q2⟩ := loadL_cells _ _ _ hold
    have hmul : (sLen + n) * size = sLen * size + n * size := Nat.add_mul _ _ _
    have hnl' : new'.length = n * size := by rw [← hnew.length, hnl]
    have hone' := hnew.oneCells (oneCells_spec hone)
    have hfz1 : fzOf tt ≤ sLen * size := keepOk_le hko
    have hfz2 : fzOf tt = fzOf tt' ∨ fzOf tt = 0 := by
      cases hk : tt' with
      | none => exact .inr (keepOk_none (hk ▸ hko))
      | some p =>
        obtain ⟨x, k⟩ := p
        rw [(htt x k hk).1]; exact .inl rfl
    have hfresh := (R.fresh V.next (Nat.le_refl _)).1
    have R1 := R.forget b
    by_cases hin : sLen + n ≤ sCap'
    · -- in place
      have hle : (sLen + n) * size ≤ sCap' * size := Nat.mul_le_mul_right _ hin
      have hrun := append_in (w := w) t1 t2 e ty e1 e2 hd size e3 hx hin (hf w.drawn) (base := some ⟨L.blk, o' + L.off, none⟩)
      obtain ⟨H, C', r1, r2, r3, r4, r5⟩ := run_storeCells (P := P) (β := L.blk) (o := o' + L.off + sLen * size) new' 0 w C h2
        (fun j hj => by
          obtain ⟨k1, k2⟩ := hcs.room (o' + sLen * size + j) (by omega)
          have k2 := k2 (by omega) trivial
          rw [show o' + L.off + sLen * size + 0 + j = o' + sLen * size + j + L.off by omega]
          exact ⟨k1, k2⟩) hone'
      have hsz' : ∀ i, i < L.lim → i + L.off < C'.size := fun i hi => by
        have h5 := r5 (i + L.off)
        have := (hcs.room i hi).1
        rcases Nat.lt_or_ge (i + L.off) C'.size with h' | h'
        · exact h'
        · rw [Array.getElem?_eq_none h'] at h5
          split at h5
          · rename_i hr; rw [List.getElem?_eq_getElem (by omega)] at h5; cases h5
          · rw [Array.getElem?_eq_getElem this] at h5; cases h5
      -- the world behind it: the old number is forgotten, so its block may change
      have R2 : Rel μ ro w0 { V with heap := V.heap.del b } { w with heap := H } := R.forgets hro hg hm r2 r4
      refine ⟨.slice (some ⟨L.blk, o' + L.off, none⟩) (sLen + n) sCap', { w with heap := H }, _, ?_, Mu.ext_put (L := ⟨L.blk, L.off + o', sCap' * size, size⟩) hfresh, R2.adds (O := .cells C' e' (lo, hi)) (L := ⟨L.blk, L.off + o', sCap' * size, size⟩) r3 (R.new b L hro hm) ?_ ⟨rfl, C', e', lo, hi, rfl, ?_, ?_, ?_, ?_⟩, ?_⟩
      · rw [hrun]
        simp only [add_none, Sem.run_bind, r1, Result.andThen_ok, Sem.run_pure]
      · intro b' o' L2 hb' hm'
        have hb'' : (V.heap.del b).get b' = some o' := hb'
        rw [Tr.get_del] at hb''
        have hne : b' ≠ b := fun e => by rw [if_pos e] at hb''; cases hb''
        rw [if_neg hne] at hb''
        exact R.inj b b' L L2 _ _ (Ne.symm hne) hg hb'' hm hm'
      · intro i v hv
        have hi := cellAt_lt hv
        have hov := hc' i v hv
        simp only
        refine ⟨by omega, ?_⟩
        by_cases hio : i < sLen * size
        · rw [List.getElem?_append_left (by omega)] at hov
          obtain ⟨v', k1, k2⟩ := m1.get hov
          refine ⟨v', ?_, k2⟩
          rw [r5, if_neg (by omega)]
          have := hoo (by omega)
          subst this
          rw [show i + (L.off + o') = o' + i + L.off by omega]
          exact m3 i v' k1
        · rw [List.getElem?_append_right (by omega), q1] at hov
          obtain ⟨v', k1, k2⟩ := hnew.get hov
          refine ⟨v', ?_, k2⟩
          rw [r5, if_pos (by omega), show i + (L.off + o') - (o' + L.off + sLen * size + 0) = i - sLen * size by omega]
          exact k1
      · intro i hi
        simp only at hi ⊢
        have := hsz' (o' + i) (by omega)
        refine ⟨by omega, fun q _ => ?_⟩
        have := (hcs.room (o' + i) (by omega)).2 (by omega) trivial
        rw [show i + (L.off + o') = o' + i + L.off by omega]; exact this
      · simp only; omega
      · intro x k hx
        obtain ⟨q1, q2, q3, q4⟩ := htt x k hx
        obtain ⟨p1, p2, p3, p4⟩ := hcs.ty x k q1
        have := ho q4
        simp only
        exact ⟨p1, by omega, p3, p4⟩
      · have := VR.slice (μ := μ.put V.next ⟨L.blk, L.off + o', sCap' * size, size⟩) (o := 0) (o' := 0) (Mu.put_self _ _ _) (fun _ => rfl) hin (Nat.le_refl (sLen + n)) (by simp only; exact ⟨fun h => absurd h hsz, fun _ => ⟨by omega, fun _ => by omega⟩⟩)
        rw [show o' + L.off = 0 + (L.off + o') by omega]; exact this
    · -- copied
      have hcells : (Builtin.firstCells size sLen (.slice (some ⟨L.blk, o' + L.off, none⟩) sLen sCap')).run P w.drew = .ok ⟨old'⟩ w.drew := by
        have := run_loadCells_rel (P := P) (w := w.drew) (o := o' + L.off) h2 old' (fun j v hj => by
          have := hoo (by have := lt_of_some hj; omega)
          subst this
          rw [show o' + L.off + j = o' + j + L.off by omega]; exact m3 j v hj)
        rw [m2] at this
        simpa [Builtin.firstCells] using this
      have hfit : ¬ (281474976710656 < Builtin.nextslicecap (sLen + n) sCap' * inf.bytes) := by
        have := growslice_fits (need := sLen + n) (old := sCap') (bytes := inf.bytes) (by omega) (by
          have : (sLen + n) * inf.bytes ≤ small * 65536 := Nat.mul_le_mul hneed hb
          unfold small at this; omega)
        omega
      have hrun := append_grow (w := w) t1 t2 e ty e1 e2 hd size e3 e4 e5 hx hin hb0 hfit (hf (w.drawn + 1)) hcells
      have hcap : sLen + n ≤ grownCap w (sLen + n) sCap' e := cut_ge _ _ _ _ (by unfold small at hneed; omega)
      generalize grownCap w (sLen + n) sCap' e = G at hrun hcap
      have hzc : (Builtin.zeroCells z.cells (G - (sLen + n))).toList.length = (G - (sLen + n)) * size := by
        simp [Builtin.zeroCells, hzl]
      generalize hZ : (Builtin.zeroCells z.cells (G - (sLen + n))).toList = Z at hrun hzc
      have hG : G * size = (sLen + n) * size + (G - (sLen + n)) * size := by rw [← Nat.add_mul]; congr 1; omega
      refine ⟨_, _, _, hrun, Mu.ext_put (L := ⟨w.heap.size, 0, G * size, size⟩) hfresh, ?_, ?_⟩
      · refine ((R1.drawn (w.drawn + 1)).alloc (m := G * size) (u := size) ⟨rfl, _, e, 0, 0, rfl, ?_, ?_, ?_, ?_⟩)
        · intro i v hv
          have hi := cellAt_lt hv
          obtain ⟨v', k1, k2⟩ := (m1.append hnew).get (hc' i v hv)
          refine ⟨by simp only; omega, v', ?_, k2⟩
          simp only [Nat.add_zero]
          rw [mk_get?, List.getElem?_append_left (by have := lt_of_some k1; exact this)]
          exact k1
        · intro i hi
          simp only at hi
          refine ⟨?_, fun _ _ => by omega⟩
          have : (Array.mk (old' ++ new' ++ Z)).size = (old' ++ new' ++ Z).length := rfl
          rw [this]
          simp only [List.length_append, m2, hnl', hzc]
          omega
        · simp only; omega
        · exact fun x k hx => ⟨(htt x k hx).2.1, rfl, Nat.zero_le _, fun _ => rfl⟩
      · exact VR.new_slice (L := ⟨w.heap.size, 0, G * size, size⟩) rfl (Nat.le_refl _) hcap ⟨fun h => absurd h hsz, fun _ => rfl⟩

end
end Go.Wvm
