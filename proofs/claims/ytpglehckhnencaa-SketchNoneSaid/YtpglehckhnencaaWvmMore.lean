/- Slices that are made, appended to, copied, sliced; maps. -/
import Derived.Test.YtpglehckhnencaaWvmOps
import Derived.Lib.Strings
set_option linter.unusedSimpArgs false
set_option linter.unusedVariables false
namespace Go.Wvm
open Go.RowKit

/-! ### Zero cells -/
theorem cells_eq (z : Value) : z.cells = ⟨cellsL z⟩ := by
  cases z with
  | agg cs => rfl
  | _ => rfl

theorem repL_get (l : List Value) : ∀ (n k : Nat), (repL l n)[k]? = if k < n * l.length then l[k % l.length]? else none
  | 0, k => by simp [repL]
  | n + 1, k => by
    simp only [repL]
    have hm : (n + 1) * l.length = n * l.length + l.length := by rw [Nat.add_mul, Nat.one_mul]
    by_cases h : k < l.length
    · rw [List.getElem?_append_left h, Nat.mod_eq_of_lt h, if_pos (by omega)]
    · rw [List.getElem?_append_right (by omega), repL_get l n (k - l.length)]
      by_cases h2 : k < (n + 1) * l.length
      · rw [if_pos (by omega), if_pos h2, ← Nat.mod_eq_sub_mod (by omega)]
      · rw [if_neg (by omega), if_neg h2]

theorem repL_length (l : List Value) : ∀ n, (repL l n).length = n * l.length
  | 0 => by simp [repL]
  | n + 1 => by simp only [repL, List.length_append, repL_length l n, Nat.add_mul, Nat.one_mul]; omega

theorem range_rep (l : List Value) (n : Nat) : (Array.range (n * l.length)).map (fun i => (Array.mk l)[i % (Array.mk l).size]!) = ⟨repL l n⟩ := by
  apply Array.ext_getElem?
  intro k
  rw [show (Array.mk (repL l n))[k]? = (repL l n)[k]? from mk_get? _ _, repL_get]
  have hs : (Array.mk l).size = l.length := rfl
  by_cases h : k < n * l.length
  · rw [if_pos h]
    have hl : 0 < l.length := by
      rcases Nat.eq_zero_or_pos l.length with e | e
      · rw [e] at h; simp at h
      · exact e
    have hk : k % l.length < l.length := Nat.mod_lt _ hl
    simp only [Array.getElem?_map, Array.getElem?_range, if_pos h, Option.map_some, hs]
    rw [List.getElem?_eq_getElem hk]
    congr 1
    exact getElem!_pos (Array.mk l) (k % l.length) hk
  · rw [if_neg h]
    simp [h]

theorem range_zero (f : Nat → Value) : (Array.range 0).map f = ⟨[]⟩ := by simp

section
variable {P : Program} {vp : VP} {μ : Mu} {ro : Nat} {w0 : World} {V V' : VW} {w : World}

theorem flat_list {n : Nat} {z : Value} (h : flat n z = true) : LR μ (cellsL z) (cellsL z) := by
  have := cellsL_rel (flat_refl (μ := μ) n z h)
  rwa [cells_eq] at this

theorem LR.rep {l m : List Value} (h : LR μ l m) : ∀ n, LR μ (repL l n) (repL m n)
  | 0 => .nil
  | n + 1 => h.append (LR.rep h n)

/-- A slice over a new row. -/
theorem VR.new_slice {b : Nat} {L : Loc} {l c c' : Nat} (h0 : L.off = 0) (hl : l ≤ c) (hc : c ≤ c') (hu : (L.unit = 0 → c' = c) ∧ (L.unit ≠ 0 → c' * L.unit = L.lim)) :
    VR (μ.put b L) (.slice (some ⟨b, 0, none⟩) l c) (.slice (some ⟨L.blk, 0, none⟩) l c') := by
  have := VR.slice (o := 0) (o' := 0) (Mu.put_self μ b L) (fun _ => rfl) hc hl ⟨hu.1, fun h => by have := hu.2 h; exact ⟨by omega, fun _ => by omega⟩⟩
  rwa [h0] at this

theorem toNat_wrap {n : Nat} (h : n ≤ small) : IntKind.i64.wrap (n : Int) = n := by
  rw [← fwrap_eq]
  have h1 : (n : Int) = .ofNat n := rfl
  rw [h1]
  unfold small at h
  unfold fwrap
  simp only [sgn, fmod, modOf]
  rw [show n % 18446744073709551616 = n by omega, blt_true (by omega)]

theorem makeSlice_run (ok : VPok P vp) {t e : TypeId} {s b : Nat} {z0 : Option Value} {g : Bool} {ei : TyI} (ht : vp.ty.get t = some ⟨.slice e, s, b, z0, g⟩) (he : vp.ty.get e = some ei) {z : Value} (hz : ei.zero = some z)
    {k k' : IntKind} {l c : Nat} (hlc : l ≤ c) (hc : c ≤ small) (hb : ei.bytes ≤ 65536) :
    (Instr.makeSlice t (.int k l) (.int k' c)).run P w = .ok (.slice (some ⟨w.heap.size, 0, none⟩) l c) { w with heap := w.heap.push (.cells ⟨repL (cellsL z) c⟩ e) } := by
  obtain ⟨inft, ft⟩ := ok.fits ht
  obtain ⟨infe, fe⟩ := ok.fits he
  have e1 := fe.bytes
  have hm : ei.bytes * c ≤ 65536 * small := Nat.mul_le_mul hb hc
  have hml : ei.bytes * l ≤ 65536 * small := Nat.mul_le_mul hb (by omega)
  unfold small at hm hml
  have hz' := (fe.zero z hz).2.2
  have u := ft.run_underlying w
  simp only at u
  simp only [Instr.makeSlice, Sem.run_bind, u, Result.andThen_ok, asInt, asIntOf, Sem.run_pure, pure_bind, fe.run_typeInfo, toNat_wrap (show l ≤ small by omega), toNat_wrap hc, e1]
  have c1 : ¬ ((c : Int) < 0) := by omega
  have c2 : ¬ ((l : Int) < 0) := by omega
  have c3 : ¬ ((c : Int) < (l : Int)) := by omega
  have c4 : ¬ ((2 : Int) ^ 48 < (ei.bytes : Int) * (c : Int)) := by
    have : ((ei.bytes * c : Nat) : Int) ≤ 70368744177664 := by omega
    rw [Int.natCast_mul] at this
    have e48 : (2 : Int) ^ 48 = 281474976710656 := by decide
    rw [e48]; omega
  simp only [c1, c2, c4, decide_false, Bool.or_false, Bool.false_or, Bool.false_eq_true, if_false, gt_iff_lt, c3, run_askRoom, Sem.run_bind, Sem.run_pure, Result.andThen_ok, Int.toNat_natCast, fe.run_sizeOf]
  by_cases hn : c * ei.size = 0
  · rw [if_pos hn]
    have : repL (cellsL z) c = [] := List.eq_nil_of_length_eq_zero (by rw [repL_length, hz']; exact hn)
    simp only [Sem.run_pure, Result.andThen_ok, hn, range_zero, this, newRow, Sem.run_bind, run_newObj]
  · rw [if_neg hn]
    have hr := range_rep (cellsL z) c
    rw [hz'] at hr
    simp only [Sem.run_bind, fe.run_zero w hz, Result.andThen_ok, Sem.run_pure, cells_eq, hr, newRow, run_newObj]

/-! ### Appending -/
theorem srcCells_zero {size : Nat} {x : Value} {V : VW} {l : List Value} (h : srcCells size 0 x V = some l) : l = [] := by
  unfold srcCells at h
  split at h
  · simp only [Option.some.injEq] at h
    exact h.symm
  · cases h; rfl
  · cases h; simp
  · cases h
theorem srcCells_sound (R : Rel μ ro w0 V w) {size n m : Nat} {x x' : Value} {l : List Value} (hx : VR μ x x') (hm : lenV x = some m) (hnm : n ≤ m) (h : srcCells size n x V = some l) :
    ∃ l', LR μ l l' ∧ ∀ d, (Builtin.firstCells size n x').run P { w with drawn := d } = .ok ⟨l'⟩ { w with drawn := d } := by
  by_cases hn0 : n = 0
  · subst hn0
    obtain rfl := srcCells_zero h
    refine ⟨[], .nil, fun d => ?_⟩
    cases hx with
    | slice hmu ho hc hl hu => simp [Builtin.firstCells, loadCells, loadCellsFrom]
    | nils => simp [Builtin.firstCells]
    | str s => simp [Builtin.firstCells]
    | _ => simp [lenV] at hm
  unfold srcCells at h
  split at h
  · rename_i a len cap
    split at h
    · exact absurd rfl hn0
    split at h
    case h_2 => cases h
    rename_i m c d u tt hb hsp
    cases hx with
    | slice hmu ho hc hl hu =>
      rename_i b o o' c' L
      simp only [lenV, Option.some.injEq] at hm
      obtain ⟨L', O, h1, h2, h3⟩ := R.obj _ _ hb
      rw [hmu] at h1; cases h1
      obtain ⟨_, C, e', lo, hi, rfl, hcs⟩ := h3
      obtain ⟨l', m1, m2, m3⟩ := loadL_rel hcs _ _ _ h
      refine ⟨l', m1, fun d => ?_⟩
      have := run_loadCells_rel (P := P) (w := { w with drawn := d }) (o := o' + L.off) h2 l' (fun j v hj => by
        have hj' := lt_of_some hj
        have hn : 0 < n := by
          rcases Nat.eq_zero_or_pos n with e | e
          · rw [m2, e, Nat.zero_mul] at hj'; omega
          · exact e
        have := ho (by omega)
        subst this
        rw [show o' + L.off + j = o' + j + L.off by omega]; exact m3 j v hj)
      rw [m2] at this
      simpa [Builtin.firstCells] using this
  · cases h
    cases hx
    exact ⟨[], .nil, fun d => by simp [Builtin.firstCells]⟩
  · rename_i s
    cases h
    cases hx
    refine ⟨(s.take n).map fun b => .int .u8 (.ofNat b.toNat), ?_, fun d => ?_⟩
    · generalize s.take n = q
      induction q with
      | nil => exact .nil
      | cons b q ih => exact .cons (.int _ _) ih
    · simp only [Builtin.firstCells, Sem.run_pure]
      congr 1
      apply Array.ext'
      rw [Array.toList_map, Lib.extract_data]
      simp
  · cases h

theorem lenV_sound {x x' : Value} {n : Nat} (hx : VR μ x x') (h : lenV x = some n) (w : World) : (Builtin.lenOf x').run P w = .ok n w := by
  unfold lenV at h
  split at h
  · cases h; cases hx <;> rfl
  · cases h; cases hx; rfl
  · cases h

end
end Go.Wvm
