/- Maps are written and cut. -/
import Derived.Test.YtpglehckhnencaaWvmExec
set_option linter.unusedSimpArgs false
set_option linter.unusedVariables false
namespace Go.Wvm
open Go.RowKit

section
variable {P : Program} {vp : VP} {μ : Mu} {ro : Nat} {w0 : World} {V V' : VW} {w : World}

theorem isKey_flat {d : TypeDesc} {k k' : Value} (hk : isKey d k = true) (h : VR μ k k') : k' = k := by
  unfold isKey at hk
  split at hk
  · exact VR.int_inv h
  · exact VR.str_inv h
  · cases hk

theorem isKey_rel {d : TypeDesc} {k : Value} (hk : isKey d k = true) : VR μ k k := by
  unfold isKey at hk
  split at hk
  · exact .int _ _
  · exact .str _
  · cases hk

theorem mapPut_sound {d : TypeDesc} {k u u' : Value} (hk : isKey d k = true) (hu : VR μ u u') : ∀ {l : List (Value × Value)} {es : List MapEntry} (i : Nat), MR μ l es → ∀ {r : List (Value × Value)}, mapPut k u l = some r →
    (Instr.findNow d k es i = some none ∧ ∀ born, MR μ r (es ++ [{ key := k, val := u', born }])) ∨
    ∃ v' j e, Instr.findNow d k es i = some (some (i + j, v')) ∧ es[j]? = some e ∧ e.key = k ∧ MR μ r (es.modify j fun e => { e with key := k, val := u' }) := by
  intro l es i hm
  induction hm generalizing i with
  | nil => intro r h; cases h; exact .inl ⟨rfl, fun born => .cons (isKey_rel hk) hu .nil⟩
  | cons hkr hv ht ih =>
    rename_i x v e l es
    intro r h
    simp only [mapPut] at h
    split at h
    case h_3 => cases h
    · rename_i hq
      obtain ⟨h1, h3⟩ := keyEq_sound hk hkr hq
      cases h
      exact .inr ⟨e.val, 0, e, by rw [findNow_hit h1]; rfl, rfl, h3 rfl, .cons (e := { e with key := k, val := u' }) (isKey_rel hk) hu ht⟩
    · rename_i hq
      have h1 := (keyEq_sound hk hkr hq).1
      have h2 := h
      cases hp : mapPut k u l with
      | none => rw [hp] at h2; cases h2
      | some r' =>
        rw [hp] at h2; cases h2
        rcases ih (i + 1) hp with ⟨g1, g2⟩ | ⟨v', j, e', g1, g2, g3, g4⟩
        · exact .inl ⟨by rw [findNow_miss h1, g1], fun born => .cons hkr hv (g2 born)⟩
        · refine .inr ⟨v', j + 1, e', by rw [findNow_miss h1, g1, show i + 1 + j = i + (j + 1) by omega], by simpa using g2, g3, ?_⟩
          rw [List.modify_succ_cons]
          exact .cons hkr hv g4

theorem mapDel_sound {d : TypeDesc} {k : Value} (hk : isKey d k = true) : ∀ {l : List (Value × Value)} {es : List MapEntry} (i : Nat), MR μ l es → ∀ {r : List (Value × Value)}, mapDel k l = some r →
    (Instr.findNow d k es i = some none ∧ MR μ r es) ∨ ∃ v' j, Instr.findNow d k es i = some (some (i + j, v')) ∧ MR μ r (es.eraseIdx j) := by
  intro l es i hm
  induction hm generalizing i with
  | nil => intro r h; cases h; exact .inl ⟨rfl, .nil⟩
  | cons hkr hv ht ih =>
    rename_i x v e l es
    intro r h
    simp only [mapDel] at h
    split at h
    case h_3 => cases h
    · rename_i hq
      have h1 := (keyEq_sound hk hkr hq).1
      cases h
      exact .inr ⟨e.val, 0, by rw [findNow_hit h1]; rfl, ht⟩
    · rename_i hq
      have h1 := (keyEq_sound hk hkr hq).1
      have h2 := h
      cases hp : mapDel k l with
      | none => rw [hp] at h2; cases h2
      | some r' =>
        rw [hp] at h2; cases h2
        rcases ih (i + 1) hp with ⟨g1, g2⟩ | ⟨v', j, g1, g2⟩
        · exact .inl ⟨by rw [findNow_miss h1, g1], .cons hkr hv g2⟩
        · refine .inr ⟨v', j + 1, by rw [findNow_miss h1, g1, show i + 1 + j = i + (j + 1) by omega], ?_⟩
          rw [List.eraseIdx_cons_succ]
          exact .cons hkr hv g2

theorem run_checkKey {t : TypeId} {d : TypeDesc} {k : Value} (e : ∀ w, (underlying t).run P w = .ok d w) (hk : isKey d k = true) (b : Bool) (w : World) : (Instr.checkKey b 10000 t k).run P w = .ok () w := by
  unfold Instr.checkKey
  simp only [Sem.run_bind, e, Result.andThen_ok]
  unfold isKey at hk
  split at hk
  · rfl
  · rfl
  · cases hk

theorem run_getObj_map {w : World} {β : Nat} {E : Array MapEntry} {cl : Nat} (h : w.heap[β]? = some (.map E cl)) : (getObj β).run P w = .ok (.map E cl) w := by
  simp only [getObj, Sem.run, h]

theorem run_setObj_map {w : World} {β : Nat} {E : Array MapEntry} {cl : Nat} {O : Obj} (h : w.heap[β]? = some (.map E cl)) : (setObj β O).run P w = .ok () { w with heap := w.heap.setIfInBounds β O } := by
  simp only [setObj, Sem.run, h]

theorem run_findKey {t : TypeId} {d : TypeDesc} {k : Value} {es : List MapEntry} {r : Option (Nat × Value)} (e : ∀ w, (underlying t).run P w = .ok d w) (h : Instr.findNow d k es 0 = some r) (w : World) : (Instr.findKey t k es).run P w = .ok r w := by
  simp only [Instr.findKey, Sem.run_bind, e, Result.andThen_ok, h, Sem.run_pure]

theorem Rel.setMap (R : Rel μ ro w0 V w) {b : Nat} {L : Loc} {l l' : List (Value × Value)} (hro : ro ≤ b) (hb : V.heap.get b = some (.map l)) (hm : μ b = some L) (h0 : L.off = 0) (E : List MapEntry) (cl : Nat) (hl : MR μ l' E) :
    Rel μ ro w0 { V with heap := V.heap.set b (.map l') } { w with heap := w.heap.setIfInBounds L.blk (.map ⟨E⟩ cl) } := by
  obtain ⟨L', O, h1, h2, _⟩ := R.obj b _ hb
  rw [hm] at h1; cases h1
  exact R.change hro hb hm (by simp) (by rw [Array.getElem?_setIfInBounds_self_of_lt (heap_lt h2)]) (fun k hk => by rw [Array.getElem?_setIfInBounds_ne (Ne.symm hk)]) ⟨h0, E, cl, rfl, hl⟩

theorem run_keyThatStays {d : TypeDesc} {k : Value} (hk : isKey d k = true) (w : World) : (Instr.keyThatStays k k).run P w = .ok k w := by
  unfold isKey at hk
  split at hk
  · simp [Instr.keyThatStays, Instr.sameBits]
  · rename_i s
    have : (s == s) = true := by
      obtain ⟨⟨l⟩⟩ := s
      rw [bytes_beq, leq_eq]; simp
    simp [Instr.keyThatStays, Instr.sameBits, this]
  · cases hk

theorem mapUpdate_sound (ok : VPok P vp) (R : Rel μ ro w0 V w) {t kt e : TypeId} {s b : Nat} {z : Option Value} {g : Bool} {ki : TyI} (ht : vp.ty.get t = some ⟨.map kt e, s, b, z, g⟩) (hki : vp.ty.get kt = some ki)
    {r : Nat} {m' k k' u u' : Value} {l l' : List (Value × Value)} (hm : VR μ (.map (some r)) m') (hk : VR μ k k') (hu : VR μ u u') (hkey : isKey ki.desc k = true) (hg : V.heap.get r = some (.map l)) (hro : ro ≤ r) (hp : mapPut k u l = some l') :
    ∃ w', (Instr.mapUpdate t m' k' u').run P w = .ok () w' ∧ Rel μ ro w0 { V with heap := V.heap.set r (.map l') } w' := by
  obtain ⟨inft, ft⟩ := ok.fits ht
  obtain ⟨infk, fk⟩ := ok.fits hki
  obtain rfl := isKey_flat hkey hk
  cases hm with
  | map hL h0 =>
    rename_i L
    obtain ⟨L', O, h1, h2, h3⟩ := R.obj _ _ hg
    rw [hL] at h1; cases h1
    obtain ⟨_, E, cl, rfl, hmr⟩ := h3
    have eu := ft.run_underlying w
    simp only at eu
    have ek : ∀ w, (underlying kt).run P w = .ok ki.desc w := fk.run_underlying
    simp only [Instr.mapUpdate, Sem.run_bind, eu, Result.andThen_ok, run_getObj_map h2, run_checkKey ek hkey]
    rcases mapPut_sound hkey hu 0 hmr hp with ⟨g1, g2⟩ | ⟨v', j, e', g1, g2, g3, g4⟩
    · simp only [run_findKey ek g1, Result.andThen_ok, run_setObj_map h2]
      refine ⟨_, rfl, ?_⟩
      have : (Array.mk E).push { key := k', val := u', born := cl } = ⟨E ++ [{ key := k', val := u', born := cl }]⟩ := by apply Array.ext'; simp
      rw [this]
      exact R.setMap hro hg hL h0 _ _ (g2 cl)
    · rw [Nat.zero_add] at g1
      have hkk : (((Array.mk E)[j]?).map (·.key)).getD k' = k' := by rw [mk_get?, g2]; simp [g3]
      simp only [run_findKey ek g1, Result.andThen_ok, hkk, Sem.run_bind, run_keyThatStays hkey, run_setObj_map h2]
      refine ⟨_, rfl, ?_⟩
      have : (Array.mk E).modify j (fun e => { e with key := k', val := u' }) = ⟨E.modify j fun e => { e with key := k', val := u' }⟩ := by apply Array.ext'; simp
      rw [this]
      exact R.setMap hro hg hL h0 _ _ g4

theorem mapDelete_sound (ok : VPok P vp) (R : Rel μ ro w0 V w) {ts : Array TypeId} {t kt e : TypeId} {rest : List TypeId} {s b : Nat} {z : Option Value} {g : Bool} {ki : TyI} (hts : ts.toList = t :: rest) (ht : vp.ty.get t = some ⟨.map kt e, s, b, z, g⟩) (hki : vp.ty.get kt = some ki)
    {r : Nat} {m' k k' : Value} {l l' : List (Value × Value)} (hm : VR μ (.map (some r)) m') (hk : VR μ k k') (hkey : isKey ki.desc k = true) (hg : V.heap.get r = some (.map l)) (hro : ro ≤ r) (hp : mapDel k l = some l') (ty : TypeId) :
    ∃ w', (Builtin.delete_ ts ty #[m', k']).run P w = .ok undef w' ∧ Rel μ ro w0 { V with heap := V.heap.set r (.map l') } w' := by
  obtain ⟨inft, ft⟩ := ok.fits ht
  obtain ⟨infk, fk⟩ := ok.fits hki
  obtain rfl := isKey_flat hkey hk
  have hts0 : ts[0]? = some t := by rw [← Array.getElem?_toList, hts]; rfl
  cases hm with
  | map hL h0 =>
    rename_i L
    obtain ⟨L', O, h1, h2, h3⟩ := R.obj _ _ hg
    rw [hL] at h1; cases h1
    obtain ⟨_, E, cl, rfl, hmr⟩ := h3
    have eu := ft.run_underlying w
    simp only at eu
    have ek : ∀ w, (underlying kt).run P w = .ok ki.desc w := fk.run_underlying
    have a0 : (#[Value.map (some L.blk), k'] : Array Value)[0]? = some (.map (some L.blk)) := rfl
    have a1 : (#[Value.map (some L.blk), k'] : Array Value)[1]? = some k' := rfl
    simp only [Builtin.delete_, hts0, a0, a1, Sem.run_bind, eu, Result.andThen_ok, run_getObj_map h2, run_checkKey ek hkey]
    rcases mapDel_sound hkey 0 hmr hp with ⟨g1, g2⟩ | ⟨v', j, g1, g2⟩
    · simp only [run_findKey ek g1, Result.andThen_ok, Sem.run_bind, run_setObj_map h2, Sem.run_pure]
      exact ⟨_, rfl, R.setMap hro hg hL h0 _ _ g2⟩
    · rw [Nat.zero_add] at g1
      simp only [run_findKey ek g1, Result.andThen_ok, Sem.run_bind, run_setObj_map h2, Sem.run_pure]
      refine ⟨_, rfl, ?_⟩
      have : (Array.mk E).eraseIdxIfInBounds j = ⟨E.eraseIdx j⟩ := by
        apply Array.ext'; simp
      rw [this]
      exact R.setMap hro hg hL h0 _ _ g2

end
end Go.Wvm
