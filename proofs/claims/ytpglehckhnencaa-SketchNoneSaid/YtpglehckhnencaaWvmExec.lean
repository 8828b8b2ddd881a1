/- Every operation of the small machine is the model's. -/
import Derived.Test.YtpglehckhnencaaWvmAppend
set_option linter.unusedSimpArgs false
set_option linter.unusedVariables false
namespace Go.Wvm
open Go.RowKit

section
variable {P : Program} {vp : VP} {μ : Mu} {ro : Nat} {w0 : World} {V V' : VW} {w : World}

theorem new_at {w : World} {O : Obj} : ({ w with heap := w.heap.push O } : World).heap[w.heap.size]? = some O := by simp

theorem keepTy_spec {t : Option (TypeId × Nat)} {e : TypeId} {o c : Nat} (x : TypeId) (k : Nat) (h : keepTy t e (Nat.beq o 0 && Nat.blt 0 c) = some (x, k)) : t = some (x, k) ∧ x = e ∧ o = 0 ∧ 0 < c := by
  unfold keepTy at h
  split at h
  case h_2 => cases h
  rename_i y k' hb
  split at h
  case h_2 => cases h
  rename_i hy
  cases h
  rw [Bool.and_eq_true] at hb
  exact ⟨rfl, Nat.eq_of_beq_eq_true hy, Nat.eq_of_beq_eq_true hb.1, lt_of_blt hb.2⟩

theorem appendV_sound (ok : VPok P vp) (R : Rel μ ro w0 V w) {ts : Array TypeId} {s x s' x' v : Value} (hs : VR μ s s') (hx : VR μ x x') (h : appendV vp ro ts.toList s x V = some (v, V')) (ty : TypeId) :
    ∃ v' w' μ', (Builtin.append_ ts ty #[s', x']).run P w = .ok v' w' ∧ Ext μ μ' ∧ Rel μ' ro w0 V' w' ∧ VR μ' v v' := by
  unfold appendV at h
  split at h
  case h_2 => cases h
  rename_i t1 t2 hts
  obtain rfl := list2 hts
  split at h
  case h_2 => cases h
  rename_i e _ _ _ _ ti2 base sLen sCap ht1 ht2
  split at h
  case h_2 => cases h
  rename_i ei he hd
  obtain ⟨inf1, f1⟩ := ok.fits ht1
  obtain ⟨inf2, f2⟩ := ok.fits ht2
  obtain ⟨infe, fe⟩ := ok.fits he
  have e1 : ∀ w, (underlying t1).run P w = .ok (.slice e) w := f1.run_underlying
  have e2 : ∀ w, (underlying t2).run P w = .ok ti2.desc w := f2.run_underlying
  have e3 : ∀ w, (sizeOf e).run P w = .ok ei.size w := fe.run_sizeOf
  have e4 : ∀ w, (typeInfo e).run P w = .ok infe w := fe.run_typeInfo
  split at h
  · cases h
  rename_i n hlen
  have hlx := lenV_sound (P := P) hx hlen
  split at h
  · cases h
  rename_i new hsrc
  obtain ⟨new', hnew, hf⟩ := srcCells_sound (P := P) R hx hlen (Nat.le_refl _) hsrc
  dsimp only at h
  cases hroom : Nat.ble (sLen + n) sCap with
  | true =>
    -- room enough
    rw [hroom] at h
    have hroom := Nat.le_of_ble_eq_true hroom
    cases base with
    | none =>
      simp only [Option.some.injEq, Prod.mk.injEq] at h
      obtain ⟨rfl, rfl⟩ := h
      cases hs
      refine ⟨.slice none (0 + n) 0, w, μ, ?_, Ext.refl _, R, ?_⟩
      · rw [append_in (w := w) t1 t2 e ty e1 e2 hd ei.size e3 hlx hroom (hf w.drawn)]; rfl
      · rw [show 0 + n = 0 by omega]; exact .nils
    | some a =>
      simp only at h
      split at h
      case h_2 => cases h
      rename_i V1 hput
      simp only [Option.some.injEq, Prod.mk.injEq] at h
      obtain ⟨rfl, rfl⟩ := h
      cases hs with
      | slice hm ho hc hl hlim =>
        rename_i b o o' sCap' L
        have hp : VR μ (.pointer (some (plus ⟨b, o, none⟩ (sLen * ei.size)))) (.pointer (some ⟨L.blk, o + sLen * ei.size + L.off, none⟩)) := .ptr hm
        obtain ⟨w', r1, r2⟩ := putCells_sound (P := P) R hp hnew hput
        refine ⟨.slice (some ⟨L.blk, o' + L.off, none⟩) (sLen + n) sCap', w', μ, ?_, Ext.refl _, r2, .slice hm ho hc hroom hlim⟩
        rw [append_in (w := w) t1 t2 e ty e1 e2 hd ei.size e3 hlx (by omega) (hf w.drawn)]
        simp only [add_none, Sem.run_bind]
        rcases Nat.eq_zero_or_pos sCap with h0 | h0
        · -- nothing is stored
          have hn0 : n = 0 := by omega
          have hs0 : sLen = 0 := by omega
          subst hn0; subst hs0
          have hnl : new' = [] := by
            have := hf w.drawn
            have hl0 : new = [] := srcCells_zero hsrc
            rw [hl0] at hnew; cases hnew; rfl
          subst hnl
          cases hnew
          simp only [putCells, Option.some.injEq] at hput
          subst hput
          simp only [storeCells, Sem.run_pure] at r1 ⊢
          cases r1; rfl
        · have := ho h0
          subst this
          rw [show o' + L.off + sLen * ei.size = o' + sLen * ei.size + L.off by omega, r1]; rfl
  | false =>
    rw [hroom] at h
    -- none for sure
    have hroom : ¬ sLen + n ≤ sCap := fun h => by rw [Nat.ble_eq_true_of_le h] at hroom; cases hroom
    simp only at h
    split at h
    · cases h
    rename_i hchk
    simp only [Bool.and_eq_true] at hchk
    obtain ⟨⟨⟨⟨⟨⟨c1, c2⟩, c3⟩, c4⟩, c5⟩, c6⟩, c7⟩ := hchk
    have c1 := Nat.le_of_ble_eq_true c1
    have c2 := Nat.le_of_ble_eq_true c2
    have c3 : ei.bytes ≠ 0 := fun k => by rw [k] at c3; simp at c3
    have c4 : ei.size ≠ 0 := fun k => by rw [k] at c4; simp at c4
    have c7 := Nat.eq_of_beq_eq_true c7
    obtain ⟨z, hz⟩ := Option.isSome_iff_exists.1 c6
    have e5 : ∀ w, (zeroValue e).run P w = .ok z w := fun w => fe.run_zero w hz
    have hzl : z.cells.size = ei.size := by rw [cells_eq]; exact (fe.zero z hz).2.2
    have hone' := hnew.oneCells (oneCells_spec c5)
    cases base with
    | none =>
      -- no row yet
      simp only at h
      split at h
      case h_2 => cases h
      simp only [Option.some.injEq, Prod.mk.injEq] at h
      obtain ⟨rfl, rfl⟩ := h
      cases hs
      have hfit : ¬ (281474976710656 < Builtin.nextslicecap (0 + n) 0 * infe.bytes) := by
        have := growslice_fits (need := 0 + n) (old := 0) (bytes := infe.bytes) (by omega) (by
          have : (0 + n) * infe.bytes ≤ small * 65536 := Nat.mul_le_mul c1 (by rw [fe.bytes]; exact c2)
          unfold small at this; omega)
        omega
      have hrun := append_grow (w := w) (base := none) (sLen := 0) (sCap := 0) (old := []) t1 t2 e ty e1 e2 hd ei.size e3 e4 e5 hlx (by omega) (by rw [fe.bytes]; exact c3) hfit (hf (w.drawn + 1)) (by simp [Builtin.firstCells])
      have hcap : 0 + n ≤ grownCap w (0 + n) 0 e := cut_ge _ _ _ _ (by unfold small at c1; omega)
      generalize grownCap w (0 + n) 0 e = G at hrun hcap
      have hzc : (Builtin.zeroCells z.cells (G - (0 + n))).toList.length = (G - (0 + n)) * ei.size := by simp [Builtin.zeroCells, hzl]
      generalize (Builtin.zeroCells z.cells (G - (0 + n))).toList = Z at hrun hzc
      have hG : G * ei.size = (0 + n) * ei.size + (G - (0 + n)) * ei.size := by rw [← Nat.add_mul]; congr 1; omega
      have hn0 : (0 + n) * ei.size = new.length := by rw [c7, Nat.zero_add]
      rw [List.nil_append] at hrun
      refine ⟨_, _, _, hrun, Mu.ext_put (L := ⟨w.heap.size, 0, G * ei.size, ei.size⟩) (R.fresh _ (Nat.le_refl _)).1, (R.drawn (w.drawn + 1)).alloc (m := G * ei.size) (u := ei.size) ⟨rfl, _, e, 0, 0, rfl, ?_⟩,
        VR.new_slice (L := ⟨w.heap.size, 0, G * ei.size, ei.size⟩) rfl (Nat.le_refl _) hcap ⟨fun h => absurd h c4, fun _ => rfl⟩⟩
      rw [hn0]
      exact cellsR_new hnew Z w.heap.size (G * ei.size) ei.size (by omega) (by rw [hzc, ← hnew.length]; omega) (t := some e) (fun x hx => by cases hx; rfl)
    | some a =>
      simp only at h
      split at h
      case h_2 => cases h
      rename_i m c d u tt hg hsp hro0
      have hro : ro ≤ a.block := Nat.le_of_ble_eq_true hro0
      clear hro0
      split at h
      · cases h
      rename_i hu
      rw [Bool.and_eq_true] at hu
      obtain ⟨hu, hko⟩ := hu
      have hu := Nat.eq_of_beq_eq_true hu
      obtain ⟨b, o, spot⟩ := a
      simp only at hsp hg hro
      subst hsp
      have hkeep : ∀ x k, keepTy tt e (Nat.beq o 0 && Nat.blt 0 sCap) = some (x, k) → tt = some (x, k) ∧ x = e ∧ o = 0 ∧ 0 < sCap := keepTy_spec
      split at h
      · rename_i hmv
        simp only [Bool.and_eq_true] at hmv
        obtain ⟨⟨h1, h2⟩, h3⟩ := hmv
        have h1 : o = 0 := Nat.eq_of_beq_eq_true h1
        have h2 := Nat.eq_of_beq_eq_true h2
        subst h1
        subst h2
        obtain ⟨old, hold⟩ := loadL_of_holds _ _ h3
        obtain ⟨q1, q2⟩ := loadL_cells _ _ _ hold
        simp only [Option.some.injEq, Prod.mk.injEq] at h
        obtain ⟨rfl, rfl⟩ := h
        refine append_unsure R e1 e2 hd e3 e4 e5 hzl hlx c4 (by rw [fe.bytes]; exact c3) (by rw [fe.bytes]; exact c2) hnew hf c7 c5 hs hro hg hu hkeep hko c1 hold ?_
        intro i v hv
        have hmul : (sLen + n) * ei.size = sLen * ei.size + n * ei.size := Nat.add_mul _ _ _
        rw [cellAt_putL (by omega)] at hv
        by_cases hi : sLen * ei.size ≤ i ∧ i < sLen * ei.size + new.length
        · rw [if_pos hi] at hv
          rw [List.getElem?_append_right (by omega), q1]; exact hv
        · rw [if_neg hi] at hv
          have hlt := cellAt_lt hv
          rw [List.getElem?_append_left (by omega), ← q2 i (by omega), Nat.zero_add]
          unfold cellAt at hv ⊢
          rw [blt_true (by omega)] at hv ⊢
          exact hv
      · split at h
        case h_2 => cases h
        rename_i old hold
        simp only [Option.some.injEq, Prod.mk.injEq] at h
        obtain ⟨rfl, rfl⟩ := h
        refine append_unsure R e1 e2 hd e3 e4 e5 hzl hlx c4 (by rw [fe.bytes]; exact c3) (by rw [fe.bytes]; exact c2) hnew hf c7 c5 hs hro hg hu hkeep hko c1 hold ?_
        intro i v hv
        have hmul : (sLen + n) * ei.size = sLen * ei.size + n * ei.size := Nat.add_mul _ _ _
        obtain ⟨q1, _⟩ := loadL_cells _ _ _ hold
        have hlen' : (old ++ new).length = (sLen + n) * ei.size := by rw [List.length_append]; omega
        rw [← hlen'] at hv
        exact cellAt_none i v hv

/-! ### Maps -/
theorem bytes_beq (a b : List UInt8) : ((⟨⟨a⟩⟩ : ByteArray) == ⟨⟨b⟩⟩) = leq a b := by
  rw [leq_eq]
  show (Array.mk a == Array.mk b) = _
  rw [Bool.eq_iff_iff]; simp

theorem VR.int_inv {k : IntKind} {n : Int} {v : Value} (h : VR μ (.int k n) v) : v = .int k n := by cases h; rfl
theorem VR.str_inv {s : ByteArray} {v : Value} (h : VR μ (.string s) v) : v = .string s := by cases h; rfl
theorem VR.bool_inv {b : Bool} {v : Value} (h : VR μ (.bool b) v) : v = .bool b := by cases h; rfl

theorem keyEq_sound {d : TypeDesc} {k x y : Value} (hk : isKey d k = true) (hx : VR μ x y) {b : Bool} (h : keyEq k x = some b) : Instr.sameNow d k y = some b ∧ (b = true → y = k) := by
  unfold keyEq at h
  split at h
  · rename_i a n a' m
    obtain rfl := VR.int_inv hx
    split at h
    · rename_i hq
      obtain rfl := keq_eq hq
      cases d <;> first | (cases hk; done) | skip
      simp only [Option.some.injEq] at h
      subst h
      refine ⟨by simp [Instr.sameNow, ieq_beq], fun h => ?_⟩
      rw [ieq_eq, decide_eq_true_eq] at h
      rw [h]
    · cases h
  · rename_i a a'
    obtain rfl := VR.str_inv hx
    cases d <;> first | (cases hk; done) | skip
    simp only [Option.some.injEq] at h
    subst h
    refine ⟨by simp [Instr.sameNow, bytes_beq], fun h => ?_⟩
    rw [leq_eq, decide_eq_true_eq] at h
    rw [h]
  · cases h

theorem findNow_hit {d : TypeDesc} {k : Value} {e : MapEntry} {es : List MapEntry} {i : Nat} (h : Instr.sameNow d k e.key = some true) : Instr.findNow d k (e :: es) i = some (some (i, e.val)) := by
  simp [Instr.findNow, h]
theorem findNow_miss {d : TypeDesc} {k : Value} {e : MapEntry} {es : List MapEntry} {i : Nat} (h : Instr.sameNow d k e.key = some false) : Instr.findNow d k (e :: es) i = Instr.findNow d k es (i + 1) := by
  simp [Instr.findNow, h]

theorem findNow_sound {d : TypeDesc} {k : Value} (hk : isKey d k = true) : ∀ {l : List (Value × Value)} {es : List MapEntry} (i : Nat), MR μ l es → ∀ {r : Option Value}, mapFind k l = some r →
    (r = none ∧ Instr.findNow d k es i = some none) ∨ ∃ v v' j, r = some v ∧ VR μ v v' ∧ Instr.findNow d k es i = some (some (j, v')) := by
  intro l es i hm
  induction hm generalizing i with
  | nil => intro r h; cases h; exact .inl ⟨rfl, rfl⟩
  | cons hkr hv ht ih =>
    rename_i x v e l es
    intro r h
    simp only [mapFind] at h
    split at h
    · rename_i hq
      cases h
      exact .inr ⟨v, e.val, i, rfl, hv, findNow_hit (keyEq_sound hk hkr hq).1⟩
    · rename_i hq
      rw [findNow_miss (keyEq_sound hk hkr hq).1]
      exact ih (i + 1) h
    · cases h

end
end Go.Wvm
