/- Every operation of the small machine is the model's: the rest. -/
import Derived.Test.YtpglehckhnencaaWvmAll
set_option linter.unusedSimpArgs false
set_option linter.unusedVariables false
namespace Go.Wvm
open Go.RowKit

section
variable {P : Program} {vp : VP} {μ : Mu} {ro : Nat} {w0 : World} {V V' : VW} {w : World} {fr : VF} {ρ : Operand → Value}

theorem exec_nilCheck (R : Rel μ ro w0 V w) (E : Ev μ fr ρ) {o : Oper} {x : Operand} (hop : o.op = .nilCheck x) {n : VN}
    (h : (match fr.ev x with
    | some (.pointer (some a)) => one (some (.pointer (some a))) V
    | some (.func (.func f) a b) => one (some (.func (.func f) a b)) V
    | some (.func (.yield f) a b) => one (some (.func (.yield f) a b)) V
    | some (.iface t v) => one (some (.iface t v)) V
    | _ => none) = some (n, V')) : FineS P μ w (execOp ρ o) n V V' := by
  split at h
  case h_5 => cases h
  all_goals
    rename_i hx
    have hr := E _ _ hx
    refine FineS.of_one h fun v hv => ?_
    cases hv
    refine ⟨ρ x, ?_, hr⟩
    simp only [execOp, hop]
    generalize ρ x = y at hr ⊢
    cases hr <;> rfl

theorem exec_fieldAddr (ok : VPok P vp) (R : Rel μ ro w0 V w) (E : Ev μ fr ρ) {o : Oper} {s : TypeId} {x : Operand} {f : Nat} (hop : o.op = .fieldAddr s x f) {n : VN}
    (h : (match fr.ev x, vp.ty.get s with
    | some (.pointer (some a)), some ⟨.struct fs, _, _, _, _⟩ => match fs.toList[f]?, a.spot with
      | some fd, none => match vp.ty.get fd.type with
        | some fi => match Nat.beq fi.size 0 with
          | true => none
          | false => one (some (.pointer (some (plus a fd.offset)))) V
        | none => none
      | _, _ => none
    | _, _ => none) = some (n, V')) : FineS P μ w (execOp ρ o) n V V' := by
  split at h
  case h_2 => cases h
  rename_i a fs _ _ _ _ hx ht
  split at h
  case h_2 => cases h
  rename_i fd hfd hsp
  split at h
  case h_2 => cases h
  rename_i fi hfi
  split at h
  · cases h
  rename_i hsz
  have hr := E _ _ hx
  obtain ⟨inf, ft⟩ := ok.fits ht
  obtain ⟨inff, ff⟩ := ok.fits hfi
  refine FineS.of_one h fun v hv => ?_
  cases hv
  generalize hy : ρ x = y at hr
  cases hr with
  | glob => cases hsp
  | ptr hm =>
    rename_i b off L
    refine ⟨.pointer (some ⟨L.blk, off + fd.offset + L.off, none⟩), ?_, .ptr hm⟩
    have eu := ft.run_underlying w
    simp only at eu
    have hfd' : fs[f]? = some fd := by rw [← Array.getElem?_toList]; exact hfd
    have hs0 : ¬ (fi.size = 0) := fun e => by rw [e] at hsz; simp at hsz
    simp only [execOp, hop, Instr.fieldAt, Sem.run_bind, eu, Result.andThen_ok, hfd', hy, sureAddr_ptr, Sem.run_pure, fieldPlace, ff.run_sizeOf, if_neg hs0, add_none]
    rw [show off + L.off + fd.offset = off + fd.offset + L.off by omega]

theorem exec_field (ok : VPok P vp) (R : Rel μ ro w0 V w) (E : Ev μ fr ρ) {o : Oper} {s : TypeId} {x : Operand} {f : Nat} (hop : o.op = .field s x f) {n : VN}
    (h : (match fr.ev x, vp.ty.get s with
    | some (.agg ⟨cs⟩), some ⟨.struct fs, _, _, _, _⟩ => match fs.toList[f]? with
      | some fd => one (partL vp fd.type cs fd.offset) V
      | none => none
    | _, _ => none) = some (n, V')) : FineS P μ w (execOp ρ o) n V V' := by
  split at h
  case h_2 => cases h
  rename_i cs fs _ _ _ _ hx ht
  split at h
  case h_2 => cases h
  rename_i fd hfd
  have hr := E _ _ hx
  obtain ⟨inf, ft⟩ := ok.fits ht
  refine FineS.of_one h fun v hv => ?_
  obtain ⟨cs', e1, hl⟩ := hr.agg_inv
  obtain ⟨v', h1, h2⟩ := partL_sound (P := P) (w := w) ok hl hv
  refine ⟨v', ?_, h2⟩
  have eu := ft.run_underlying w
  simp only at eu
  have hfd' : fs[f]? = some fd := by rw [← Array.getElem?_toList]; exact hfd
  simp only [execOp, hop, Instr.field, Sem.run_bind, eu, Result.andThen_ok, hfd', e1, asAgg, Sem.run_pure, h1]

theorem exec_indexAddr (ok : VPok P vp) (R : Rel μ ro w0 V w) (E : Ev μ fr ρ) {o : Oper} {t : TypeId} {x ix : Operand} (hop : o.op = .indexAddr t x ix) {n : VN}
    (h : (match fr.ev x, fr.ev ix, vp.ty.get t with
    | some (.slice (some a) len _), some (.int _ (.ofNat i)), some ⟨.slice e, _, _, _, _⟩ => match Nat.blt i len, vp.ty.get e, a.spot with
      | true, some ei, none => one (some (.pointer (some (plus a (i * ei.size))))) V
      | _, _, _ => none
    | some (.pointer (some a)), some (.int _ (.ofNat i)), some ⟨.array len e, _, _, _, _⟩ => match Nat.blt i len, vp.ty.get e, a.spot with
      | true, some ei, none => one (some (.pointer (some (plus a (i * ei.size))))) V
      | true, some ei, some _ => one (some (.pointer (some ⟨a.block, a.off + i * ei.size, a.spot⟩))) V
      | _, _, _ => none
    | _, _, _ => none) = some (n, V')) : FineS P μ w (execOp ρ o) n V V' := by
  split at h
  case h_3 => cases h
  · rename_i a len _ k i e _ _ _ _ hx hix ht
    split at h
    case h_2 => cases h
    rename_i ei hb he hsp
    have hb := lt_of_blt hb
    have hr := E _ _ hx
    have hri := VR.int_inv (E _ _ hix)
    obtain ⟨inf, ft⟩ := ok.fits ht
    obtain ⟨infe, fe⟩ := ok.fits he
    refine FineS.of_one h fun v hv => ?_
    cases hv
    generalize hy : ρ x = y at hr
    cases hr with
    | slice hm ho hc hl hu =>
      rename_i b off off' c' L
      have := ho (by omega)
      subst this
      refine ⟨.pointer (some ⟨L.blk, off' + i * ei.size + L.off, none⟩), ?_, .ptr hm⟩
      have eu := ft.run_underlying w
      simp only at eu
      have hin : (0 : Int) ≤ Int.ofNat i ∧ Int.ofNat i < (len : Int) := ⟨by simp only [Int.ofNat_eq_natCast]; omega, by simp only [Int.ofNat_eq_natCast]; omega⟩
      simp only [execOp, hop, Instr.indexAt, Sem.run_bind, hri, asIntOf, Sem.run_pure, Result.andThen_ok, eu, hy, if_pos hin, fe.run_sizeOf, add_none]
      rw [show (Int.ofNat i).toNat = i from rfl, show off' + L.off + i * ei.size = off' + i * ei.size + L.off by omega]
  · rename_i a k i len e _ _ _ _ hx hix ht
    have hr := E _ _ hx
    have hri := VR.int_inv (E _ _ hix)
    obtain ⟨inf, ft⟩ := ok.fits ht
    have eu := ft.run_underlying w
    simp only at eu
    split at h
    case h_3 => cases h
    · rename_i ei hb he hsp
      have hb := lt_of_blt hb
      obtain ⟨infe, fe⟩ := ok.fits he
      refine FineS.of_one h fun v hv => ?_
      cases hv
      generalize hy : ρ x = y at hr
      have hin : (0 : Int) ≤ Int.ofNat i ∧ Int.ofNat i < (len : Int) := ⟨by simp only [Int.ofNat_eq_natCast]; omega, by simp only [Int.ofNat_eq_natCast]; omega⟩
      cases hr with
      | glob => cases hsp
      | ptr hm =>
        rename_i b off L
        refine ⟨.pointer (some ⟨L.blk, off + i * ei.size + L.off, none⟩), ?_, .ptr hm⟩
        simp only [execOp, hop, Instr.indexAt, Sem.run_bind, hri, asIntOf, Sem.run_pure, Result.andThen_ok, eu, hy, sureAddr_ptr, if_pos hin, fe.run_sizeOf, add_none]
        rw [show (Int.ofNat i).toNat = i from rfl, show off + L.off + i * ei.size = off + i * ei.size + L.off by omega]
    · rename_i ei _ hb he hsp
      have hb := lt_of_blt hb
      obtain ⟨infe, fe⟩ := ok.fits he
      refine FineS.of_one h fun v hv => ?_
      cases hv
      generalize hy : ρ x = y at hr
      have hin : (0 : Int) ≤ Int.ofNat i ∧ Int.ofNat i < (len : Int) := ⟨by simp only [Int.ofNat_eq_natCast]; omega, by simp only [Int.ofNat_eq_natCast]; omega⟩
      cases hr with
      | ptr hm => cases hsp
      | glob g off =>
        refine ⟨.pointer (some ⟨g, off + i * ei.size, none⟩), ?_, .glob _ _⟩
        simp only [execOp, hop, Instr.indexAt, Sem.run_bind, hri, asIntOf, Sem.run_pure, Result.andThen_ok, eu, hy, sureAddr_ptr, if_pos hin, fe.run_sizeOf, add_none]
        rw [show (Int.ofNat i).toNat = i from rfl]

theorem exec_index (ok : VPok P vp) (R : Rel μ ro w0 V w) (E : Ev μ fr ρ) {o : Oper} {t : TypeId} {x ix : Operand} (hop : o.op = .index t x ix) {n : VN}
    (h : (match fr.ev x, fr.ev ix, vp.ty.get t with
    | some (.string ⟨⟨l⟩⟩), some (.int _ (.ofNat i)), some ⟨.string, _, _, _, _⟩ => match l[i]? with
      | some b => one (some (.int .u8 (.ofNat b.toNat))) V
      | none => none
    | some (.agg ⟨cs⟩), some (.int _ (.ofNat i)), some ⟨.array len e, _, _, _, _⟩ => match Nat.blt i len, vp.ty.get e with
      | true, some ei => one (partL vp e cs (i * ei.size)) V
      | _, _ => none
    | _, _, _ => none) = some (n, V')) : FineS P μ w (execOp ρ o) n V V' := by
  split at h
  case h_3 => cases h
  · rename_i l k i _ _ _ _ hx hix ht
    split at h
    case h_2 => cases h
    rename_i b hb
    have hr := VR.str_inv (E _ _ hx)
    have hri := VR.int_inv (E _ _ hix)
    obtain ⟨inf, ft⟩ := ok.fits ht
    refine FineS.of_one h fun v hv => ?_
    cases hv
    refine ⟨_, ?_, .int _ _⟩
    have eu := ft.run_underlying w
    simp only at eu
    have h0 : (0 : Int) ≤ Int.ofNat i := by simp only [Int.ofNat_eq_natCast]; omega
    have hs : (⟨⟨l⟩⟩ : ByteArray)[i]? = some b := by
      have hlt : i < l.length := by
        rcases Nat.lt_or_ge i l.length with h' | h'
        · exact h'
        · rw [List.getElem?_eq_none h'] at hb; cases hb
      have hlt' : i < (⟨⟨l⟩⟩ : ByteArray).size := hlt
      rw [getElem?_pos (⟨⟨l⟩⟩ : ByteArray) i hlt']
      rw [List.getElem?_eq_getElem hlt] at hb
      exact hb
    simp only [execOp, hop, Instr.index, Sem.run_bind, hri, asIntOf, Sem.run_pure, Result.andThen_ok, eu, hr, if_pos h0]
    rw [show (Int.ofNat i).toNat = i from rfl, hs]
    rfl
  · rename_i cs k i len e _ _ _ _ hx hix ht
    split at h
    case h_2 => cases h
    rename_i ei hb he
    have hb := lt_of_blt hb
    obtain ⟨cs', e1, hl⟩ := (E _ _ hx).agg_inv
    have hri := VR.int_inv (E _ _ hix)
    obtain ⟨inf, ft⟩ := ok.fits ht
    obtain ⟨infe, fe⟩ := ok.fits he
    refine FineS.of_one h fun v hv => ?_
    obtain ⟨v', h1, h2⟩ := partL_sound (P := P) (w := w) ok hl hv
    refine ⟨v', ?_, h2⟩
    have eu := ft.run_underlying w
    simp only at eu
    have hin : (0 : Int) ≤ Int.ofNat i ∧ Int.ofNat i < (len : Int) := ⟨by simp only [Int.ofNat_eq_natCast]; omega, by simp only [Int.ofNat_eq_natCast]; omega⟩
    simp only [execOp, hop, Instr.index, Sem.run_bind, hri, asIntOf, Sem.run_pure, Result.andThen_ok, eu, e1, if_pos hin, fe.run_sizeOf]
    rw [show (Int.ofNat i).toNat = i from rfl, h1]
    rfl

theorem exec_extract (R : Rel μ ro w0 V w) (E : Ev μ fr ρ) {o : Oper} {x : Operand} {i : Nat} (hop : o.op = .extract x i) {n : VN}
    (h : (match fr.ev x with | some (.tuple ⟨vs⟩) => one (vs[i]?) V | _ => none) = some (n, V')) : FineS P μ w (execOp ρ o) n V V' := by
  split at h
  case h_2 => cases h
  rename_i vs hx
  obtain ⟨vs', e1, hl⟩ := (E _ _ hx).tuple_inv
  refine FineS.of_one h fun v hv => ?_
  obtain ⟨v', h1, h2⟩ := hl.get hv
  exact ⟨v', by simp [execOp, hop, Instr.extract, e1, mk_get?, h1], h2⟩

theorem exec_makeInterface (ok : VPok P vp) (R : Rel μ ro w0 V w) (E : Ev μ fr ρ) {o : Oper} {t : TypeId} {x : Operand} (hop : o.op = .makeInterface t x) {n : VN}
    (h : (match fr.ev x, vp.ty.get t with
    | some v, some i => match i.desc with
      | .interface _ => none
      | _ => one (some (.iface t v)) V
    | _, _ => none) = some (n, V')) : FineS P μ w (execOp ρ o) n V V' := by
  split at h
  case h_2 => cases h
  rename_i v i hx ht
  obtain ⟨inf, ft⟩ := ok.fits ht
  have eu := ft.run_underlying w
  split at h
  · cases h
  rename_i hni
  refine FineS.of_one h fun u hu => ?_
  cases hu
  refine ⟨.iface t (ρ x), ?_, .iface t (E _ _ hx)⟩
  simp only [execOp, hop, Instr.makeInterface, Sem.run_bind, eu, Result.andThen_ok]
  cases hd : i.desc <;> first | (exact absurd hd (hni _)) | rfl

theorem exec_makeFunc (R : Rel μ ro w0 V w) (E : Ev μ fr ρ) {o : Oper} {fn : Fn} {first captured : Array Operand} {n : VN}
    (h : (match fr.evs first.toList, fr.evs captured.toList with
    | some a, some b => match fn with
      | .func f => one (some (.func (.func f) ⟨a⟩ ⟨b⟩)) V
      | _ => none
    | _, _ => none) = some (n, V')) (hop : o.op = .makeFunc fn first captured) : FineS P μ w (execOp ρ o) n V V' := by
  split at h
  case h_2 => cases h
  rename_i a b ha hb
  cases fn <;> first | (cases h; done) | skip
  refine FineS.of_one h fun v hv => ?_
  cases hv
  exact ⟨_, by simp only [execOp, hop, Instr.makeFunc, Sem.run_bind, Sem.run_pure, Result.andThen_ok, map_mk], VR.funcL _ (E.list ha) (E.list hb)⟩

theorem exec_newMap (R : Rel μ ro w0 V w) {s : Sem Next} (hs : s.run P w = .ok (.value (.map (some w.heap.size))) { w with heap := w.heap.push (.map #[] 0) }) : Fine P μ ro w0 w s (.value (.map (some V.next))) (V.add (.map [])) := by
  refine ⟨_, _, _, hs, Mu.ext_put (L := ⟨w.heap.size, 0, 0, 0⟩) (R.fresh _ (Nat.le_refl _)).1, R.alloc (m := 0) (u := 0) ⟨rfl, [], 0, rfl, .nil⟩, .value ?_⟩
  exact VR.map (Mu.put_self _ _ _) rfl

theorem exec_makeMap (ok : VPok P vp) (R : Rel μ ro w0 V w) (E : Ev μ fr ρ) {o : Oper} {t : TypeId} {r : Option Operand} {n : VN}
    (h : (match r with
    | none => some (VN.value (.map (some V.next)), V.add (.map []))
    | some x => match fr.ev x, vp.ty.get t with
      | some (.int _ _), some ⟨.map _ _, _, _, _, _⟩ => some (.value (.map (some V.next)), V.add (.map []))
      | _, _ => none) = some (n, V')) (hop : o.op = .makeMap t r) : Fine P μ ro w0 w (execOp ρ o) n V' := by
  cases r with
  | none =>
    simp only [Option.some.injEq, Prod.mk.injEq] at h
    obtain ⟨rfl, rfl⟩ := h
    exact exec_newMap R (by simp [execOp, hop, Instr.makeMap])
  | some x =>
    simp only at h
    split at h
    case h_2 => cases h
    rename_i k i _ _ _ _ _ _ hx ht
    simp only [Option.some.injEq, Prod.mk.injEq] at h
    obtain ⟨rfl, rfl⟩ := h
    obtain ⟨inf, ft⟩ := ok.fits ht
    have eu := ft.run_underlying w
    simp only at eu
    have hri := VR.int_inv (E _ _ hx)
    exact exec_newMap R (by simp [execOp, hop, Instr.makeMap, eu, asInt, asIntOf, hri])

theorem exec_makeSlice (ok : VPok P vp) (R : Rel μ ro w0 V w) (E : Ev μ fr ρ) {o : Oper} {t : TypeId} {l c : Operand} (hop : o.op = .makeSlice t l c) {n : VN}
    (h : (match fr.ev l, fr.ev c, vp.ty.get t with
    | some (.int _ (.ofNat l)), some (.int _ (.ofNat c)), some ⟨.slice e, _, _, _, _⟩ => match vp.ty.get e with
      | some ei => match ei.zero, Nat.ble l c && Nat.ble c small && Nat.ble ei.bytes 65536 with
        | some z, true => match cellsL z with
          | [z1] => match oneCells [z1] with
            | true => some (VN.value (.slice (some ⟨V.next, 0, none⟩) l c), V.add (.cells c .nil (some z1) 1 (some (e, 0))))
            | false => none
          | zs => sliced l c (newCells ei.size (some e) (repL zs c) V)
        | _, _ => none
      | none => none
    | _, _, _ => none) = some (n, V')) : Fine P μ ro w0 w (execOp ρ o) n V' := by
  split at h
  case h_2 => cases h
  rename_i kl len kc cap e _ _ _ _ hl hc ht
  split at h
  case h_2 => cases h
  rename_i ei he
  split at h
  case h_2 => cases h
  rename_i z hz hchk
  simp only [Bool.and_eq_true] at hchk
  obtain ⟨⟨c1, c2⟩, c3⟩ := hchk
  have c1 := Nat.le_of_ble_eq_true c1
  have c2 := Nat.le_of_ble_eq_true c2
  have c3 := Nat.le_of_ble_eq_true c3
  have hrl := VR.int_inv (E _ _ hl)
  have hrc := VR.int_inv (E _ _ hc)
  obtain ⟨infe, fe⟩ := ok.fits he
  obtain ⟨_, zf, hzl⟩ := fe.zero z hz
  have hrun : ∀ w, (execOp ρ o).run P w = .ok (.value (.slice (some ⟨w.heap.size, 0, none⟩) len cap)) { w with heap := w.heap.push (.cells ⟨repL (cellsL z) cap⟩ e) } := fun w => by
    have := makeSlice_run (P := P) (w := w) ok ht he hz (k := kl) (k' := kc) c1 c2 c3
    simp only [execOp, hop, hrl, hrc, Sem.run_bind, Int.ofNat_eq_natCast, this, Result.andThen_ok, Sem.run_pure]
  split at h
  · rename_i z1 hz1
    split at h
    case h_2 => cases h
    simp only [Option.some.injEq, Prod.mk.injEq] at h
    obtain ⟨rfl, rfl⟩ := h
    refine ⟨_, _, _, hrun w, Mu.ext_put (L := ⟨w.heap.size, 0, cap, 1⟩) (R.fresh _ (Nat.le_refl _)).1, R.alloc (m := cap) (u := 1) ⟨rfl, _, e, 0, 0, rfl, ?_, ?_, Nat.le_refl _, fun x k hx => by cases hx; exact ⟨rfl, rfl, Nat.le_refl _, fun _ => rfl⟩⟩, .value (VR.new_slice (L := ⟨w.heap.size, 0, cap, 1⟩) rfl c1 (Nat.le_refl _) ⟨fun _ => rfl, fun _ => by simp⟩)⟩
    · intro i v hv
      have hi := cellAt_lt hv
      refine ⟨hi, v, ?_, ?_⟩
      · unfold cellAt at hv
        rw [blt_true hi, Tr.get_nil] at hv
        cases hv
        rw [mk_get?, hz1, repL_get]
        simp only [List.length_cons, List.length_nil, Nat.zero_add, Nat.mul_one, Nat.add_zero]
        rw [if_pos hi, Nat.mod_one]; rfl
      · unfold cellAt at hv
        rw [blt_true hi, Tr.get_nil] at hv
        cases hv
        have := flat_list (μ := μ) zf
        rw [hz1] at this
        cases this with
        | cons hx _ => exact hx
    · intro i hi
      refine ⟨?_, fun _ => by omega⟩
      have : (Array.mk (repL (cellsL z) cap)).size = (repL (cellsL z) cap).length := rfl
      rw [this, repL_length, hz1]
      simpa using hi
  · refine exec_sliced R ((flat_list (μ := μ) zf).rep cap) c1 ?_ h e (fun x hx => by cases hx; rfl) hrun
    rw [repL_length, hzl]

/-! ### Conversions, slices of slices, maps, assertions -/
theorem bytesL_flat : ∀ {l l' : List Value} {bs : List UInt8}, bytesL l = some bs → LR μ l l' → l' = l
  | [], _, _, _, .nil => rfl
  | v :: l, _, bs, h, .cons hx ht => by
    unfold bytesL at h
    split at h
    · rename_i hc; cases hc
    · rename_i n r hc
      cases hc
      split at h
      · rename_i bs' hb
        rw [VR.int_inv hx, bytesL_flat hb ht]
      · cases h
    · cases h

theorem exec_lookup (ok : VPok P vp) (R : Rel μ ro w0 V w) (E : Ev μ fr ρ) {o : Oper} {t : TypeId} {x k : Operand} {okk : Bool} {n : VN}
    (h : (match fr.ev x, fr.ev k, vp.ty.get t with
    | some m, some k, some ⟨.map kt e, _, _, _, _⟩ => match vp.ty.get kt, vp.ty.get e with
      | some ki, some ei => match isKey ki.desc k, ei.zero with
        | true, some z => match mapLook V m k with
          | some (some v) => one (some (match okk with | true => .tuple ⟨[v, .bool true]⟩ | false => v)) V
          | some none => one (some (match okk with | true => .tuple ⟨[z, .bool false]⟩ | false => z)) V
          | none => none
        | _, _ => none
      | _, _ => none
    | _, _, _ => none) = some (n, V')) (hop : o.op = .lookup t x k okk) : FineS P μ w (execOp ρ o) n V V' := by
  split at h
  case h_2 => cases h
  rename_i m kv kt e _ _ _ _ hx hk ht
  split at h
  case h_2 => cases h
  rename_i ki ei hki hei
  split at h
  case h_2 => cases h
  rename_i z hkey hz
  obtain ⟨inf, ft⟩ := ok.fits ht
  obtain ⟨infk, fk⟩ := ok.fits hki
  obtain ⟨infe, fe⟩ := ok.fits hei
  have eu := ft.run_underlying w
  simp only at eu
  have ek : ∀ w, (underlying kt).run P w = .ok ki.desc w := fk.run_underlying
  have hkr := isKey_flat hkey (E _ _ hk)
  have hzr : VR μ z z := flat_refl _ _ (fe.zero z hz).2.1
  have hm := E _ _ hx
  -- what the map answers
  have key : ∀ (q : Option Value), mapLook V m kv = some q → (∃ v v', q = some v ∧ VR μ v v' ∧ (execOp ρ o).run P w = .ok (.value (if okk then .tuple #[v', .bool true] else v')) w) ∨
      (q = none ∧ (execOp ρ o).run P w = .ok (.value (if okk then .tuple #[z, .bool false] else z)) w) := by
    intro q hq
    unfold mapLook at hq
    cases m <;> first | (cases hq; done) | skip
    rename_i r
    cases r with
    | none =>
      simp only [Option.some.injEq] at hq; subst hq
      have hm' : ρ x = .map none := by generalize ρ x = y at hm; cases hm; rfl
      have hf : Instr.findNow ki.desc kv [] 0 = some none := rfl
      refine .inr ⟨rfl, ?_⟩
      simp only [execOp, hop, Instr.lookup, Sem.run_bind, eu, Result.andThen_ok, hm', hkr, Sem.run_pure, run_checkKey ek hkey, run_findKey ek hf, fe.run_zero _ hz]
    | some r =>
      simp only at hq
      split at hq
      case h_2 => cases hq
      rename_i es hes
      have hm' : ∃ L, ρ x = .map (some L.blk) ∧ μ r = some L ∧ L.off = 0 := by
        generalize ρ x = y at hm
        cases hm with
        | map h h0 => exact ⟨_, rfl, h, h0⟩
      obtain ⟨L, hm', hL, h0⟩ := hm'
      obtain ⟨L', O, h1, h2, h3⟩ := R.obj _ _ hes
      rw [hL] at h1; cases h1
      obtain ⟨_, EE, cl, rfl, hmr⟩ := h3
      rcases findNow_sound hkey 0 hmr hq with ⟨rfl, g⟩ | ⟨v, v', j, rfl, g1, g2⟩
      · refine .inr ⟨rfl, ?_⟩
        simp only [execOp, hop, Instr.lookup, Sem.run_bind, eu, Result.andThen_ok, hm', hkr, Sem.run_pure, run_getObj_map h2, run_checkKey ek hkey, run_findKey ek g, fe.run_zero _ hz]
      · refine .inl ⟨v, v', rfl, g1, ?_⟩
        simp only [execOp, hop, Instr.lookup, Sem.run_bind, eu, Result.andThen_ok, hm', hkr, Sem.run_pure, run_getObj_map h2, run_checkKey ek hkey, run_findKey ek g2]
  split at h
  · rename_i v hq
    rcases key _ hq with ⟨u, v', hu, h1, h2⟩ | ⟨hu, _⟩
    · cases hu
      refine FineS.of_one h fun u hu => ?_
      cases hu
      cases okk
      · exact ⟨_, h2, h1⟩
      · exact ⟨_, h2, VR.tupleL (.cons h1 (.cons (.bool _) .nil))⟩
    · cases hu
  · rename_i hq
    rcases key _ hq with ⟨u, v', hu, _, _⟩ | ⟨_, h2⟩
    · cases hu
    · refine FineS.of_one h fun u hu => ?_
      cases hu
      cases okk
      · exact ⟨_, h2, hzr⟩
      · exact ⟨_, h2, VR.tupleL (.cons hzr (.cons (.bool _) .nil))⟩
  · cases h

theorem exec_mapUpdate (ok : VPok P vp) (R : Rel μ ro w0 V w) (E : Ev μ fr ρ) {o : Oper} {t : TypeId} {m k x : Operand} (hop : o.op = .mapUpdate t m k x) {n : VN}
    (h : (match fr.ev m, fr.ev k, fr.ev x, vp.ty.get t with
    | some (.map (some r)), some k, some u, some ⟨.map kt _, _, _, _, _⟩ => match vp.ty.get kt, V.heap.get r, Nat.ble ro r with
      | some ki, some (.map es), true => match isKey ki.desc k, mapPut k u es with
        | true, some es' => some (VN.skip, { V with heap := V.heap.set r (.map es') })
        | _, _ => none
      | _, _, _ => none
    | _, _, _, _ => none) = some (n, V')) : Fine P μ ro w0 w (execOp ρ o) n V' := by
  split at h
  case h_2 => cases h
  rename_i r kv u kt _ _ _ _ _ hm hk hx ht
  split at h
  case h_2 => cases h
  rename_i ki es hki hg hro
  split at h
  case h_2 => cases h
  rename_i es' hkey hp
  simp only [Option.some.injEq, Prod.mk.injEq] at h
  obtain ⟨rfl, rfl⟩ := h
  obtain ⟨w', h1, h2⟩ := mapUpdate_sound (P := P) ok R ht hki (E _ _ hm) (E _ _ hk) (E _ _ hx) hkey hg (Nat.le_of_ble_eq_true hro) hp
  exact ⟨.skip, w', μ, by simp [execOp, hop, h1], Ext.refl _, h2, .skip⟩

theorem exec_typeAssert (ok : VPok P vp) (R : Rel μ ro w0 V w) (E : Ev μ fr ρ) {o : Oper} {xt t : TypeId} {x : Operand} {okk : Bool} {n : VN}
    (h : (match fr.ev x, vp.ty.get t with
    | some (.iface u v), some i => match i.desc, Nat.beq u t with
      | .interface _, _ => none
      | _, true => one (some (match okk with | true => .tuple ⟨[v, .bool true]⟩ | false => v)) V
      | _, false => match okk, i.zero with
        | true, some z => one (some (.tuple ⟨[z, .bool false]⟩)) V
        | _, _ => none
    | some .nilIface, some i => match i.zero, okk with
      | some z, true => one (some (.tuple ⟨[z, .bool false]⟩)) V
      | _, _ => none
    | _, _ => none) = some (n, V')) (hop : o.op = .typeAssert x xt t okk) : FineS P μ w (execOp ρ o) n V V' := by
  split at h
  case h_3 => cases h
  · rename_i u v i hx ht
    obtain ⟨inf, ft⟩ := ok.fits ht
    have eu := ft.run_underlying w
    have hm := E _ _ hx
    have hm' : ∃ v', ρ x = .iface u v' ∧ VR μ v v' := by
      generalize ρ x = y at hm
      cases hm with
      | iface _ h => exact ⟨_, rfl, h⟩
    obtain ⟨v', hm', hv⟩ := hm'
    split at h
    · cases h
    · rename_i hut hni
      have hut := Nat.eq_of_beq_eq_true hut
      subst hut
      refine FineS.of_one h fun q hq => ?_
      cases hq
      refine ⟨if okk then .tuple #[v', .bool true] else v', ?_, by cases okk <;> first | exact hv | exact VR.tupleL (.cons hv (.cons (.bool _) .nil))⟩
      simp only [execOp, hop, Instr.typeAssert, Sem.run_bind, eu, Result.andThen_ok, hm']
      cases hd : i.desc <;> first | (exact absurd hd (hni _)) | (simp)
    · rename_i hut hni
      have hne : u ≠ t := fun e => by rw [e] at hut; simp at hut
      split at h
      case h_2 => cases h
      rename_i z hz
      refine FineS.of_one h fun q hq => ?_
      cases hq
      refine ⟨.tuple #[z, .bool false], ?_, VR.tupleL (.cons (flat_refl _ _ (ft.zero z hz).2.1) (.cons (.bool _) .nil))⟩
      simp only [execOp, hop, Instr.typeAssert, Sem.run_bind, eu, Result.andThen_ok, hm']
      cases hd : i.desc <;> first | (exact absurd hd (hni _)) | (simp [hne, ft.run_zero _ hz])
  · rename_i i hx ht
    obtain ⟨inf, ft⟩ := ok.fits ht
    have eu := ft.run_underlying w
    have hm := E _ _ hx
    have hm' : ρ x = .nilIface := by generalize ρ x = y at hm; cases hm; rfl
    split at h
    case h_2 => cases h
    rename_i z hz
    refine FineS.of_one h fun q hq => ?_
    cases hq
    refine ⟨.tuple #[z, .bool false], ?_, VR.tupleL (.cons (flat_refl _ _ (ft.zero z hz).2.1) (.cons (.bool _) .nil))⟩
    simp only [execOp, hop, Instr.typeAssert, Sem.run_bind, eu, Result.andThen_ok, hm']
    cases hd : i.desc <;> (simp [ft.run_zero _ hz])

end
end Go.Wvm
