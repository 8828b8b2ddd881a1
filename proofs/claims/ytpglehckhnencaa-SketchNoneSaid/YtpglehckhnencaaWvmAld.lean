/- Every operation of the small machine is the model's: slices of slices, calls; put together. -/
import Derived.Test.YtpglehckhnencaaWvmAlc
set_option linter.unusedSimpArgs false
set_option linter.unusedVariables false
namespace Go.Wvm
open Go.RowKit

section
variable {P : Program} {vp : VP} {μ : Mu} {ro : Nat} {w0 : World} {V V' : VW} {w : World} {fr : VF} {ρ : Operand → Value}

theorem unitAt_some {b u : Nat} (h : unitAt V b = some u) : ∃ n c d t, V.heap.get b = some (.cells n c d u t) := by
  unfold unitAt at h
  split at h
  · rename_i n c d u' t hg; cases h; exact ⟨n, c, d, t, hg⟩
  · cases h

theorem exec_slice (ok : VPok P vp) (R : Rel μ ro w0 V w) (E : Ev μ fr ρ) {o : Oper} {t : TypeId} {x : Operand} {lo hi mx : Option Operand} (hop : o.op = .slice t x lo hi mx) {n : VN}
    (h : (match fr.ev x, fr.evO lo, fr.evO hi, fr.evO mx, vp.ty.get t with
    | some (.string ⟨⟨l⟩⟩), some lo, some hi, some none, some ⟨.string, _, _, _, _⟩ => match bounds l.length l.length lo hi none with
      | some (a, b, _) => one (some (.string ⟨⟨(l.drop a).take (b - a)⟩⟩)) V
      | none => none
    | some (.slice base len cap), some lo, some hi, some mx, some ⟨.slice e, _, _, _, _⟩ => match bounds len cap lo hi mx, vp.ty.get e with
      | some (a, b, m), some ei => match base with
        | none => one (some (.slice none (b - a) (m - a))) V
        | some ad => match ad.spot, unitAt V ad.block with
          | none, some u => match Nat.beq u 0 || Nat.beq ei.size u, Nat.beq m a with
            | true, true => one (some (.slice (some ad) 0 0)) V
            | true, false => one (some (.slice (some (plus ad (a * ei.size))) (b - a) (m - a))) V
            | false, _ => none
          | _, _ => none
      | _, _ => none
    | some (.pointer (some ad)), some lo, some hi, some mx, some ⟨.array n e, _, _, _, _⟩ => match bounds n n lo hi mx, vp.ty.get e, ad.spot with
      | some (a, b, m), some ei, none => match Nat.beq m a, V.heap.get ad.block with
        | false, some (.cells k _ _ u _) => match Nat.beq u 0 with
          | true => one (some (.slice (some (plus ad (a * ei.size))) (b - a) (m - a))) V
          | false => none
        | _, _ => none
      | _, _, _ => none
    | _, _, _, _, _ => none) = some (n, V')) : FineA P μ w (execOp ρ o) n V V' := by
  split at h
  case h_4 => cases h
  · -- a text
    rename_i l vlo vhi _ _ _ _ hx hlo hhi hmx ht
    split at h
    case h_2 => cases h
    rename_i a b m hb
    obtain ⟨inf, ft⟩ := ok.fits ht
    have eu := ft.run_underlying
    simp only at eu
    have hr := VR.str_inv (E _ _ hx)
    have h3 := E.opt hmx
    obtain ⟨k1, k2, k3, k4⟩ := bounds_sound (P := P) (E.opt hlo) (E.opt hhi) (.none (μ := μ)) hb (Nat.le_refl _) (Nat.le_refl _) false
    have hmx' : mx.map ρ = none := by generalize mx.map ρ = y at h3 ⊢; cases h3; rfl
    refine FineA.of_one h fun v hv => ?_
    cases hv
    refine ⟨.string ⟨⟨(l.drop a).take (b - a)⟩⟩, fun w _ => ?_, .str _⟩
    have hsz : (⟨⟨l⟩⟩ : ByteArray).size = l.length := rfl
    simp only [execOp, hop, Instr.sliceAt, Instr.slice, Sem.run_bind, eu, Result.andThen_ok, hr, hmx', Option.isSome_none, Bool.false_eq_true, if_false, hsz, k4, Sem.run_pure]
    congr 2
    simp only [Value.string.injEq]
    have := Lib.extract_data ⟨⟨l⟩⟩ a b
    generalize (⟨⟨l⟩⟩ : ByteArray).extract a b = q at this ⊢
    obtain ⟨⟨q⟩⟩ := q
    simp only at this
    rw [this]
  · -- a slice
    rename_i base len cap vlo vhi vmx e _ _ _ _ hx hlo hhi hmx ht
    split at h
    case h_2 => cases h
    rename_i a b m ei hb he
    obtain ⟨inf, ft⟩ := ok.fits ht
    obtain ⟨infe, fe⟩ := ok.fits he
    have eu := ft.run_underlying
    simp only at eu
    have hr := E _ _ hx
    cases base with
    | none =>
      have hx' : ρ x = .slice none 0 0 ∧ len = 0 ∧ cap = 0 := by generalize ρ x = y at hr; cases hr; exact ⟨rfl, rfl, rfl⟩
      obtain ⟨hx', rfl, rfl⟩ := hx'
      obtain ⟨k1, k2, k3, k4⟩ := bounds_sound (P := P) (E.opt hlo) (E.opt hhi) (E.opt hmx) hb (Nat.le_refl _) (Nat.le_refl _) true
      have hb0 : b = 0 := by omega
      have ha0 : a = 0 := by omega
      subst hb0; subst ha0; subst k3
      refine FineA.of_one h fun v hv => ?_
      cases hv
      refine ⟨.slice none 0 0, fun w _ => ?_, .nils⟩
      simp only [execOp, hop, Instr.sliceAt, Instr.slice, Sem.run_bind, eu, Result.andThen_ok, hx', k4, fe.run_sizeOf, Sem.run_pure]
      simp
    | some ad =>
      simp only at h
      split at h
      case h_2 => cases h
      rename_i u hsp hun
      obtain ⟨n0, c0, d0, t0, hg⟩ := unitAt_some hun
      generalize hy : ρ x = y at hr
      cases hr with
      | slice hm ho hc hl hlim =>
        rename_i b0 f f' c' L
        obtain ⟨L', O, h1, h2, h3⟩ := R.obj _ _ hg
        rw [hm] at h1; cases h1
        have hlu : L.unit = u := h3.1
        obtain ⟨k1, k2, k3, k4⟩ := bounds_sound (P := P) (E.opt hlo) (E.opt hhi) (E.opt hmx) hb hc hl true
        subst k3
        have hrun : ∀ w1, Agree w w1 → (execOp ρ o).run P w1 = .ok (.value (.slice (some (if c' = a then ⟨L.blk, f' + L.off, none⟩ else ⟨L.blk, f' + L.off + a * ei.size, none⟩)) (b - a) (c' - a))) w1 := by
          intro w1 _
          simp only [execOp, hop, Instr.sliceAt, Instr.slice, Sem.run_bind, eu, Result.andThen_ok, hy, k4, fe.run_sizeOf, Sem.run_pure]
          by_cases hca : c' = a
          · rw [if_pos hca, if_pos hca]
          · rw [if_neg hca, if_neg hca]; simp only [Option.map_some, add_none]
        -- what the unit says of a part
        have hbu : ∀ {q : Bool}, (Nat.beq u 0 || Nat.beq ei.size u) = q → q = true → (u = 0 ∨ ei.size = u) := by
          intro q h1 h2
          subst h2
          rw [Bool.or_eq_true] at h1
          rcases h1 with h1 | h1
          · exact .inl (Nat.eq_of_beq_eq_true h1)
          · exact .inr (Nat.eq_of_beq_eq_true h1)
        have hpart : (u = 0 ∨ ei.size = u) → L.unit ≠ 0 → ∀ X, f' + c' * L.unit = X → (f' + a * ei.size) + (c' - a) * L.unit = X := by
          intro hu hn X hX
          rcases hu with hu | hu
          · exact absurd (hlu.trans hu) hn
          · have h1 : a * ei.size = a * L.unit := by rw [hlu, hu]
            have h2 : c' * L.unit = a * L.unit + (c' - a) * L.unit := by rw [← Nat.add_mul]; congr 1; omega
            omega
        split at h
        · rename_i hq hma
          have hma := Nat.eq_of_beq_eq_true hma
          have hu := hbu hq rfl
          refine FineA.of_one h fun v hv => ?_
          cases hv
          refine ⟨_, hrun, ?_⟩
          have hb0 : b - a = 0 := by omega
          rw [hb0]
          by_cases hca : c' = a
          · rw [if_pos hca, hca, Nat.sub_self]
            exact .slice hm (fun h => by omega) (Nat.le_refl _) (Nat.le_refl _) ⟨fun _ => rfl, fun hn => ⟨by have := (hlim.2 hn).1; rw [Nat.zero_mul]; omega, fun h => by omega⟩⟩
          · rw [if_neg hca, show f' + L.off + a * ei.size = f' + a * ei.size + L.off by omega]
            exact .slice hm (fun h => by omega) (Nat.zero_le _) (Nat.le_refl _) ⟨fun h0 => by have := hlim.1 h0; omega, fun hn => ⟨by have h3 := (hlim.2 hn).1; have := hpart hu hn _ rfl; omega, fun h => by omega⟩⟩
        · rename_i hq hma
          have hma : ¬ (m = a) := fun e => by rw [e] at hma; simp at hma
          have hu := hbu hq rfl
          refine FineA.of_one h fun v hv => ?_
          cases hv
          refine ⟨_, hrun, ?_⟩
          have hca : ¬ (c' = a) := by omega
          rw [if_neg hca, show f' + L.off + a * ei.size = f' + a * ei.size + L.off by omega]
          have := ho (by omega)
          subst this
          exact .slice hm (fun _ => rfl) (by omega) (by omega) ⟨fun h0 => by have := hlim.1 h0; omega, fun hn => by
            have h3 := (hlim.2 hn).2 (by omega)
            have h4 := hpart hu hn _ h3
            exact ⟨by omega, fun _ => by omega⟩⟩
        · cases h
  · -- an array behind a pointer
    rename_i ad vlo vhi vmx len e _ _ _ _ hx hlo hhi hmx ht
    split at h
    case h_2 => cases h
    rename_i a b m ei hb he hsp
    split at h
    case h_2 => cases h
    rename_i k c0 d0 u tt hma hg
    split at h
    case h_2 => cases h
    rename_i hq
    obtain ⟨inf, ft⟩ := ok.fits ht
    obtain ⟨infe, fe⟩ := ok.fits he
    have eu := ft.run_underlying
    simp only at eu
    have hr := E _ _ hx
    generalize hy : ρ x = y at hr
    cases hr with
    | glob => cases hsp
    | ptr hm =>
      rename_i b0 f L
      obtain ⟨L', O, h1, h2, h3⟩ := R.obj _ _ hg
      rw [hm] at h1; cases h1
      obtain ⟨hlu, C, e', lo', hi', rfl, hcs⟩ := h3
      obtain ⟨k1, k2, k3, k4⟩ := bounds_sound (P := P) (E.opt hlo) (E.opt hhi) (E.opt hmx) hb (Nat.le_refl _) (Nat.le_refl _) false
      subst k3
      have hma : ¬ (m = a) := fun e => by rw [e] at hma; simp at hma
      refine FineA.of_one h fun v hv => ?_
      cases hv
      refine ⟨.slice (some ⟨L.blk, f + a * ei.size + L.off, none⟩) (b - a) (m - a), fun w _ => ?_, .slice hm (fun _ => rfl) (Nat.le_refl _) (by omega) ?_⟩
      · simp only [execOp, hop, Instr.sliceAt, Sem.run_bind, eu, Result.andThen_ok, hy, sureAddr_ptr, Sem.run_pure, k4, fe.run_sizeOf, if_neg hma, add_none]
        rw [show f + L.off + a * ei.size = f + a * ei.size + L.off by omega]
      · have hq := Nat.eq_of_beq_eq_true hq
        exact ⟨fun _ => rfl, fun hn => absurd (hlu.trans hq) hn⟩

end
end Go.Wvm
