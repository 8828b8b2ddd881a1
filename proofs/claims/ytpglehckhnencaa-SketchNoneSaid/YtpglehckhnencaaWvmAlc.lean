/- Every operation of the small machine is the model's: conversions, slices of slices, calls; put together. -/
import Derived.Test.YtpglehckhnencaaWvmAlb
import Derived.Lib.Builder
set_option linter.unusedSimpArgs false
set_option linter.unusedVariables false
namespace Go.Wvm
open Go.RowKit

section
variable {P : Program} {vp : VP} {μ : Mu} {ro : Nat} {w0 : World} {V V' : VW} {w : World} {fr : VF} {ρ : Operand → Value}

theorem new_at' {w : World} {O : Obj} : (w.heap.push O)[w.heap.size]? = some O := by simp

theorem forIn_mk {β : Type} (l : List Value) (acc : β) (f : Value → β → Sem (ForInStep β)) : (forIn (Array.mk l) acc f : Sem β) = forIn l acc f := by
  rw [← List.forIn_toArray]

theorem forIn_bytes {f : Value → ByteArray → Sem (ForInStep ByteArray)} (hf : ∀ n r, f (.int .u8 n) r = pure (.yield (r.push (UInt8.ofNat n.toNat)))) :
    ∀ {l : List Value} {bs : List UInt8}, bytesL l = some bs → ∀ (acc : ByteArray), (forIn l acc f : Sem ByteArray).run P w = .ok ⟨⟨acc.data.toList ++ bs⟩⟩ w
  | [], bs, h, acc => by cases h; simp
  | v :: l, bs, h, acc => by
    unfold bytesL at h
    split at h
    · rename_i hc; cases hc
    · rename_i n r hc
      cases hc
      split at h
      · rename_i bs' hb
        cases h
        have := forIn_bytes hf hb (acc.push (UInt8.ofNat n.toNat))
        rw [List.forIn_cons, hf, pure_bind]
        simp only [this]
        congr 2
        simp [ByteArray.push]
      · cases h
    · cases h

theorem liesAt_one {e : TypeId} {s count : Nat} (hc : P.cellsOf e = s) (hs : s ≠ 0) (hn : 0 < count) : liesAt P P.depth e count (0 + 0) e 1 = true := by
  have hd : P.depth = (2 * (P.types.size + Made.depth) + 1) + 1 := rfl
  rw [hd]
  simp only [liesAt, Bool.or_eq_true]
  left
  rw [hd]
  simp [rowAt, hc, hs, sameLayout]
  left
  omega

theorem exec_convert (ok : VPok P vp) (R : Rel μ ro w0 V w) (E : Ev μ fr ρ) {o : Oper} {s d : TypeId} {x : Operand} (hop : o.op = .convert s d x) {n : VN}
    (h : (match fr.ev x, vp.ty.get s, vp.ty.get d with
    | some (.int _ n), some si, some ⟨.int k, _, _, _, _⟩ => match si.desc with
      | .int _ => one (some (.int k (fwrap k n))) V
      | _ => none
    | some (.string b), some ⟨.string, _, _, _, _⟩, some ⟨.string, _, _, _, _⟩ => one (some (.string b)) V
    | some (.string ⟨⟨l⟩⟩), some ⟨.string, _, _, _, _⟩, some ⟨.slice e, _, _, _, _⟩ => match vp.ty.get e with
      | some ⟨.int .u8, _, _, _, _⟩ => sliced l.length l.length (newCells 1 none (l.map fun b => .int .u8 (.ofNat b.toNat)) V)
      | _ => none
    | some (.slice base len _), some ⟨.slice e, _, _, _, _⟩, some ⟨.string, _, _, _, _⟩ => match vp.ty.get e, base with
      | some ⟨.int .u8, _, _, _, _⟩, none => one (some (.string ⟨⟨[]⟩⟩)) V
      | some ⟨.int .u8, _, _, _, _⟩, some a => match V.heap.get a.block, a.spot with
        | some (.cells n c dv _ _), none => match loadL n c dv a.off len with
          | some l => match bytesL l with
            | some bs => one (some (.string ⟨⟨bs⟩⟩)) V
            | none => none
          | none => none
        | _, _ => none
      | _, _ => none
    | some (.pointer (some a)), some si, some di => match si.desc, di.desc with
      | .pointer e, .unsafePointer => match vp.ty.get e, V.heap.get a.block, a.spot with
        | some ei, some (.cells n _ _ _ _), none => match Nat.beq ei.size 0, Nat.blt a.off n with
          | false, true => one (some (.pointer (some a))) V
          | _, _ => none
        | _, _, _ => none
      | .unsafePointer, .pointer e => match vp.ty.get e, V.heap.get a.block, a.spot with
        | some ei, some (.cells n _ _ _ (some (t, _))), none => match Nat.beq ei.size 0, Nat.beq t e && Nat.beq a.off 0 && Nat.ble ei.size n with
          | false, true => one (some (.pointer (some a))) V
          | _, _ => none
        | _, _, _ => none
      | _, _ => none
    | _, _, _ => none) = some (n, V')) : FineS P μ w (execOp ρ o) n V V' ∨ (Fine P μ ro w0 w (execOp ρ o) n V' ∧ ∃ a b c, n = .value (.slice (some a) b c)) := by
  split at h
  case h_6 => cases h
  · -- integers
    rename_i k' i si k _ _ _ _ hx hs hd
    split at h
    case h_2 => cases h
    rename_i k2 hsi
    obtain ⟨infs, fs⟩ := ok.fits hs
    obtain ⟨infd, fd⟩ := ok.fits hd
    have es := fs.run_underlying w
    have ed := fd.run_underlying w
    rw [hsi] at es
    simp only at ed
    have hr := VR.int_inv (E _ _ hx)
    refine .inl (FineS.of_one h fun v hv => ?_)
    cases hv
    exact ⟨_, by simp [execOp, hop, convert, es, ed, hr, Conv.intToInt, fwrap_eq], .int _ _⟩
  · -- a text as it is
    rename_i b _ _ _ _ _ _ _ _ hx hs hd
    obtain ⟨infs, fs⟩ := ok.fits hs
    obtain ⟨infd, fd⟩ := ok.fits hd
    have es := fs.run_underlying w
    have ed := fd.run_underlying w
    simp only at es ed
    have hr := VR.str_inv (E _ _ hx)
    refine .inl (FineS.of_one h fun v hv => ?_)
    cases hv
    exact ⟨_, by simp [execOp, hop, convert, es, ed, hr], .str _⟩
  · -- a text's bytes
    rename_i l _ _ _ _ e _ _ _ _ hx hs hd
    split at h
    case h_2 => cases h
    rename_i _ _ _ _ he
    obtain ⟨infs, fs⟩ := ok.fits hs
    obtain ⟨infd, fd⟩ := ok.fits hd
    obtain ⟨infe, fe⟩ := ok.fits he
    have es := fs.run_underlying w
    have ed := fd.run_underlying w
    have ee := fe.run_underlying w
    simp only at es ed ee
    have hr := VR.str_inv (E _ _ hx)
    unfold sliced at h
    split at h
    case h_2 => cases h
    rename_i a V1 hn
    simp only [Option.some.injEq, Prod.mk.injEq] at h
    obtain ⟨rfl, rfl⟩ := h
    unfold newCells at hn
    split at hn
    case h_2 => cases hn
    rename_i hone
    simp only [Option.some.injEq, Prod.mk.injEq] at hn
    obtain ⟨rfl, rfl⟩ := hn
    have hll : LR μ (l.map fun b => Value.int .u8 (.ofNat b.toNat)) (l.map fun b => Value.int .u8 (.ofNat b.toNat)) := by
      generalize l = q
      induction q with
      | nil => exact .nil
      | cons b q ih => exact .cons (.int _ _) ih
    have hsz : (⟨⟨l⟩⟩ : ByteArray).size = l.length := rfl
    have hcap : l.length ≤ grownCap w l.length 0 e := by
      unfold grownCap Question.cut
      simp only
      omega
    have hml : (l.map fun b => Value.int .u8 (.ofNat b.toNat)).length = l.length := by simp
    let O : Obj := .cells ((l.map fun b => Value.int .u8 (.ofNat b.toNat)) ++ (List.replicate (grownCap w l.length 0 e - l.length) (Value.int .u8 0))).toArray e
    have hsize : ((l.map fun b => Value.int .u8 (.ofNat b.toNat)) ++ (List.replicate (grownCap w l.length 0 e - l.length) (Value.int .u8 0))).toArray.size = grownCap w l.length 0 e := by simp; omega
    have hObj : ObjR μ True (.cells (l.map fun b => Value.int .u8 (.ofNat b.toNat)).length (Tr.putL .nil 0 (l.map fun b => Value.int .u8 (.ofNat b.toNat))) none 1 none)
        (.cells ((l.map fun b => Value.int .u8 (.ofNat b.toNat)) ++ (List.replicate (grownCap w l.length 0 e - l.length) (Value.int .u8 0))).toArray e (grownCap w l.length 0 e, grownCap w l.length 0 e + 1)) ⟨w.heap.size, 0, grownCap w l.length 0 e, 1⟩ := by
      have hc := cellsR_new hll (List.replicate (grownCap w l.length 0 e - l.length) (Value.int .u8 0)) w.heap.size (grownCap w l.length 0 e) 1 (by rw [hml]; exact hcap) (by simp; omega) (t := none) (e := e) (fun x hx => by cases hx)
      refine ⟨rfl, _, e, _, _, rfl, hc.val, fun i hi => ⟨(hc.room i hi).1, fun _ _ => ?_⟩, hc.len, fun x k hx => by cases hx⟩
      simp only at hi ⊢; omega
    have R1 := (R.drawn (w.drawn + 1)).alloc hObj
    refine .inr ⟨⟨.value (.slice (some ⟨w.heap.size, 0, none⟩) l.length (grownCap w l.length 0 e)), _, _, ?_, Mu.ext_put (L := ⟨w.heap.size, 0, grownCap w l.length 0 e, 1⟩) (R.fresh _ (Nat.le_refl _)).1, R1, .value (VR.new_slice (L := ⟨w.heap.size, 0, grownCap w l.length 0 e, 1⟩) rfl (Nat.le_refl _) hcap ⟨fun h => (by cases h), fun _ => Nat.mul_one _⟩)⟩, _, _, _, rfl⟩
    have hdata : (Array.map (fun b : UInt8 => Value.int .u8 (b.toNat : Int)) ⟨l⟩ ++ Array.replicate (grownCap w l.length 0 e - l.length) (Value.int .u8 0)) = ((l.map fun b => Value.int .u8 (.ofNat b.toNat)) ++ (List.replicate (grownCap w l.length 0 e - l.length) (Value.int .u8 0))).toArray := by
      apply Array.ext'; simp
    simp only [execOp, hop, convert, es, ed, ee, hr, Sem.run_bind, Result.andThen_ok, Conv.stringToBytes, run_choose, Question.forced, Bool.false_eq_true, if_false, hsz]
    simp only [show (Question.appendCap l.length 0 e).cut (w.tape w.drawn (.appendCap l.length 0 e)) = grownCap w l.length 0 e from rfl, newRow, Sem.run_bind, run_newObj, Result.andThen_ok, Sem.run_pure, hdata]
    have hshape : World.shape? { ({ w with drawn := w.drawn + 1 } : World) with heap := w.heap.push (.cells ((l.map fun b => Value.int .u8 (.ofNat b.toNat)) ++ (List.replicate (grownCap w l.length 0 e - l.length) (Value.int .u8 0))).toArray e) } w.heap.size = some (e, grownCap w l.length 0 e) := by
      simp only [World.shape?, new_at']
      rw [hsize]
    simp only [markStringish, Sem.run_bind, run_shape, Result.andThen_ok]
    rw [hshape]
    simp only [run_freeze, Result.andThen_ok]
    congr 1
    simp only [World.freeze, Nat.one_ne_zero, if_false]
    congr 1
    apply Array.ext_getElem?
    intro j
    rw [Array.getElem?_modify, Array.getElem?_push, Array.getElem?_push]
    by_cases hj : j = w.heap.size
    · subst hj; simp
    · simp only [if_neg hj]
      rw [if_neg (Ne.symm hj)]
  · -- bytes as a text
    rename_i base len cap e _ _ _ _ _ _ _ _ hx hs hd
    obtain ⟨infs, fs⟩ := ok.fits hs
    obtain ⟨infd, fd⟩ := ok.fits hd
    have es := fs.run_underlying w
    have ed := fd.run_underlying w
    simp only at es ed
    have hr := E _ _ hx
    split at h
    case h_3 => cases h
    · rename_i _ _ _ _ he
      obtain ⟨infe, fe⟩ := ok.fits he
      have ee := fe.run_underlying w
      simp only at ee
      have hx' : ρ x = .slice none 0 0 := by generalize ρ x = y at hr; cases hr; rfl
      refine .inl (FineS.of_one h fun v hv => ?_)
      cases hv
      exact ⟨_, by simp [execOp, hop, convert, es, ed, ee, hx', Conv.bytesToString]; rfl, .str _⟩
    · rename_i _ _ _ _ a he
      obtain ⟨infe, fe⟩ := ok.fits he
      have ee := fe.run_underlying w
      simp only at ee
      split at h
      case h_2 => cases h
      rename_i m c dv u tt hg hsp
      split at h
      case h_2 => cases h
      rename_i l hl
      split at h
      case h_2 => cases h
      rename_i bs hbs
      refine .inl (FineS.of_one h fun v hv => ?_)
      cases hv
      refine ⟨.string ⟨⟨bs⟩⟩, ?_, .str _⟩
      generalize hy : ρ x = y at hr
      cases hr with
      | slice hm ho hc hll hu =>
        rename_i b o o' c' L
        obtain ⟨L', O, h1, h2, h3⟩ := R.obj _ _ hg
        rw [hm] at h1; cases h1
        obtain ⟨_, C, e', lo, hi, rfl, hcs⟩ := h3
        obtain ⟨l', m1, m2, m3⟩ := loadL_rel hcs _ _ _ hl
        have hll' := bytesL_flat hbs m1
        subst hll'
        have hload := run_loadCells_rel (P := P) (w := w) (o := o' + L.off) h2 l' (fun j v hj => by
          have hj' := lt_of_some hj
          have := ho (by omega)
          subst this
          rw [show o' + L.off + j = o' + j + L.off by omega]; exact m3 j v hj)
        rw [m2] at hload
        simp only [execOp, hop, convert, es, ed, ee, hy, Sem.run_bind, Result.andThen_ok, Conv.bytesToString, hload]
        rw [forIn_mk, forIn_bytes (P := P) (w := w) (fun n r => rfl) hbs]
        simp
  · -- an address seen as an address, and back
    rename_i a si di hx hs hd
    obtain ⟨infs, fs⟩ := ok.fits hs
    obtain ⟨infd, fd⟩ := ok.fits hd
    have es := fs.und
    have ed := fd.und
    have hr := E _ _ hx
    split at h
    case h_3 => cases h
    · rename_i e hsd hdd
      rw [hsd] at es
      rw [hdd] at ed
      split at h
      case h_2 => cases h
      rename_i ei m c dv u tt he hg hsp
      split at h
      case h_2 => cases h
      rename_i hz hlt
      replace hlt := lt_of_blt hlt
      obtain ⟨infe, fe⟩ := ok.fits he
      refine .inl (FineS.of_one h fun v hv => ?_)
      cases hv
      generalize hy : ρ x = y at hr
      cases hr with
      | glob => cases hsp
      | ptr hm =>
        rename_i b o L
        obtain ⟨L', O, h1, h2, h3⟩ := R.obj _ _ hg
        rw [hm] at h1; cases h1
        obtain ⟨_, C, e', lo, hi, rfl, hcs⟩ := h3
        have hlen := hcs.len
        simp only at hlt
        have hroom := (hcs.room o (by omega)).1
        have hsh : w.shape? L.blk = some (e', C.size) := by simp [World.shape?, h2]
        have hsz : infe.size ≠ 0 := fun k => by rw [fe.size] at k; rw [k] at hz; simp at hz
        refine ⟨.pointer (some ⟨L.blk, o + L.off, none⟩), ?_, .ptr hm⟩
        simp only [execOp, hop, hy, Sem.run_bind, Lib.run_to_unsafe w ⟨L.blk, o + L.off, none⟩ es ed fe.info hsz hsh hroom, Result.andThen_ok, Sem.run_pure]
    · rename_i e hsd hdd
      rw [hsd] at es
      rw [hdd] at ed
      split at h
      case h_2 => cases h
      rename_i ei m c dv u tt kk he hg hsp
      split at h
      case h_2 => cases h
      rename_i hz hchk
      simp only [Bool.and_eq_true] at hchk
      obtain ⟨⟨c1, c2⟩, c3⟩ := hchk
      have c1 := Nat.eq_of_beq_eq_true c1
      replace c2 := Nat.eq_of_beq_eq_true c2
      have c3 := Nat.le_of_ble_eq_true c3
      have hz : ei.size ≠ 0 := fun k => by rw [k] at hz; simp at hz
      obtain ⟨infe, fe⟩ := ok.fits he
      refine .inl (FineS.of_one h fun v hv => ?_)
      cases hv
      generalize hy : ρ x = y at hr
      cases hr with
      | glob => cases hsp
      | ptr hm =>
        rename_i b o L
        simp only at c2
        subst c2
        obtain ⟨L', O, h1, h2, h3⟩ := R.obj _ _ hg
        rw [hm] at h1; cases h1
        obtain ⟨_, C, e', lo, hi, rfl, hcs⟩ := h3
        obtain ⟨t1, t2, t3, t4⟩ := hcs.ty _ _ rfl
        have hlen := hcs.len
        have hroom := (hcs.room (m - 1) (by omega)).1
        have hsh : w.shape? L.blk = some (e', C.size) := by simp [World.shape?, h2]
        have hcell : P.cellsOf e = ei.size := by simp [Program.cellsOf, fe.info, fe.size]
        have hee : e' = e := t1.symm.trans c1
        refine ⟨.pointer (some ⟨L.blk, 0 + L.off, none⟩), ?_, .ptr hm⟩
        have hl : liesAt P P.depth e' (C.size / P.cellsOf e') (0 + L.off) e 1 = true := by
          rw [hee, t2, hcell]
          exact liesAt_one hcell hz (Nat.div_pos (by omega) (Nat.pos_of_ne_zero hz))
        simp only [execOp, hop, hy, Sem.run_bind, Lib.run_from_unsafe w ⟨L.blk, 0 + L.off, none⟩ es ed fe.info hsh hl, Result.andThen_ok, Sem.run_pure]

end
end Go.Wvm
