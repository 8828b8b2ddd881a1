/- Every operation of the small machine is the model's: calls; all of it. -/
import Derived.Test.YtpglehckhnencaaWvmAld
import Derived.Lib.UnsafeStr
import Derived.Laws.Externs
import Derived.Lib.MakeNoZero
import Derived.KernelRfl
import Derived.RangeFuncRecord
set_option linter.unusedSimpArgs false
set_option linter.unusedVariables false
namespace Go.Wvm
open Go.RowKit

section
variable {P : Program} {vp : VP} {μ : Mu} {ro : Nat} {w0 : World} {V V' : VW} {w : World} {fr : VF} {ρ : Operand → Value}

theorem LR.one {x : Value} {l : List Value} (h : LR μ [x] l) : ∃ x', l = [x'] ∧ VR μ x x' := by
  cases h with
  | cons h t => cases t; exact ⟨_, rfl, h⟩
theorem LR.two {x y : Value} {l : List Value} (h : LR μ [x, y] l) : ∃ x' y', l = [x', y'] ∧ VR μ x x' ∧ VR μ y y' := by
  cases h with
  | cons h t =>
    obtain ⟨y', rfl, k⟩ := t.one
    exact ⟨_, _, rfl, h, k⟩
theorem LR.three {x y z : Value} {l : List Value} (h : LR μ [x, y, z] l) : ∃ x' y' z', l = [x', y', z'] ∧ VR μ x x' ∧ VR μ y y' ∧ VR μ z z' := by
  cases h with
  | cons h t =>
    obtain ⟨y', z', rfl, k, m⟩ := t.two
    exact ⟨_, _, _, rfl, h, k, m⟩

theorem len_sound (ok : VPok P vp) (R : Rel μ ro w0 V w) {ts : Array TypeId} {t : TypeId} {r : List TypeId} (hts : ts.toList = t :: r) {i : TyI} (ht : vp.ty.get t = some i) {x x' v : Value} (hx : VR μ x x') (h : lenOf i.desc x V = some v) (ty : TypeId) :
    (Builtin.len_ ts ty #[x']).run P w = .ok v w ∧ VR μ v v := by
  obtain ⟨inf, ft⟩ := ok.fits ht
  have eu := ft.run_underlying w
  have h0 : ts[0]? = some t := by rw [← Array.getElem?_toList, hts]; rfl
  have hx0 : (#[x'] : Array Value)[0]? = some x' := rfl
  unfold lenOf at h
  simp only [Builtin.len_, h0, hx0, Sem.run_bind, eu, Result.andThen_ok]
  split at h
  · rename_i l hd
    cases h
    obtain rfl := VR.str_inv hx
    simp only [hd]
    exact ⟨rfl, .int _ _⟩
  · rename_i e a n c hd
    cases h
    simp only [hd]
    cases hx <;> exact ⟨rfl, .int _ _⟩
  · rename_i hd
    cases h
    simp only [hd]
    cases hx; exact ⟨rfl, .int _ _⟩
  · rename_i r hd
    split at h
    case h_2 => cases h
    rename_i es hg
    cases h
    simp only [hd]
    cases hx with
    | map hm h0 =>
      obtain ⟨L', O, h1, h2, h3⟩ := R.obj _ _ hg
      rw [hm] at h1; cases h1
      obtain ⟨_, E, cl, rfl, hmr⟩ := h3
      simp only [Sem.run_bind, run_getObj_map h2, Result.andThen_ok, Sem.run_pure]
      refine ⟨?_, .int _ _⟩
      rw [show (Array.mk E).size = E.length from rfl, ← hmr.length]; rfl
  · cases h

theorem copy_sound (ok : VPok P vp) (R : Rel μ ro w0 V w) {ts : Array TypeId} {d s d' s' v : Value} (hd : VR μ d d') (hs : VR μ s s') (h : copyV vp ro ts.toList d s V = some (v, V')) (ty : TypeId) :
    ∃ w', (Builtin.copy_ ts ty #[d', s']).run P w = .ok v w' ∧ Rel μ ro w0 V' w' ∧ VR μ v v := by
  unfold copyV at h
  split at h
  case h_2 => cases h
  rename_i t1 r base dLen dCap hts
  have h0 : ts[0]? = some t1 := by rw [← Array.getElem?_toList, hts]; rfl
  split at h
  case h_2 => cases h
  rename_i e _ _ _ _ ht
  split at h
  case h_2 => cases h
  rename_i ei sl he hsl
  split at h
  · cases h
  rename_i l hsrc
  obtain ⟨inf, ft⟩ := ok.fits ht
  obtain ⟨infe, fe⟩ := ok.fits he
  have eu := ft.run_underlying w
  simp only at eu
  have hlx := lenV_sound (P := P) hs hsl
  have hn : nmin sl dLen ≤ sl := by rw [nmin_eq]; omega
  obtain ⟨l', hl, hf⟩ := srcCells_sound (P := P) R hs hsl hn hsrc
  have hf := hf w.drawn
  rw [nmin_eq] at hf h
  have hx0 : (#[d', s'] : Array Value)[0]? = some d' := rfl
  have hx1 : (#[d', s'] : Array Value)[1]? = some s' := rfl
  cases base with
  | none =>
    simp only [Option.some.injEq, Prod.mk.injEq] at h
    obtain ⟨rfl, rfl⟩ := h
    cases hd
    refine ⟨w, ?_, R, .int _ _⟩
    simp only [Builtin.copy_, h0, hx0, hx1, Sem.run_bind, eu, Result.andThen_ok, hlx, fe.run_sizeOf]
    rw [show Nat.min sl 0 = min sl 0 from rfl]
    rw [show ({ w with drawn := w.drawn } : World) = w from rfl] at hf
    simp only [hf, Result.andThen_ok, Sem.run_pure]
    rfl
  | some a =>
    simp only at h
    cases hd with
    | slice hm ho hc hll hlim =>
      rename_i b o o' c' L
      rw [show ({ w with drawn := w.drawn } : World) = w from rfl] at hf
      have hrun : ∀ (q : Sem Value), q = (do storeCells ⟨L.blk, o' + L.off, none⟩ l'; pure (goInt (min sl dLen : Nat))) → (Builtin.copy_ ts ty #[.slice (some ⟨L.blk, o' + L.off, none⟩) dLen c', s']).run P w = q.run P w := by
        intro q hq
        subst hq
        simp only [Builtin.copy_, h0, hx0, hx1, Sem.run_bind, eu, Result.andThen_ok, hlx, fe.run_sizeOf]
        rw [show Nat.min sl dLen = min sl dLen from rfl]
        simp only [hf, Result.andThen_ok]
      split at h
      · rename_i V1 hb hput
        have hb := lt_of_blt hb
        simp only [Option.some.injEq, Prod.mk.injEq] at h
        obtain ⟨rfl, rfl⟩ := h
        have := ho (by omega)
        subst this
        obtain ⟨w', r1, r2⟩ := putCells_sound (P := P) R (VR.ptr (o := o') hm) hl hput
        refine ⟨w', ?_, r2, .int _ _⟩
        rw [hrun _ rfl]
        simp only [Sem.run_bind, r1, Result.andThen_ok, Sem.run_pure]
        rfl
      · rename_i hb
        have hb : dLen = 0 := by
          rcases Nat.eq_zero_or_pos dLen with e | e
          · exact e
          · rw [blt_true e] at hb; cases hb
        simp only [Option.some.injEq, Prod.mk.injEq] at h
        obtain ⟨rfl, rfl⟩ := h
        subst hb
        refine ⟨w, ?_, R, .int _ _⟩
        rw [hrun _ rfl]
        have hl0 : l' = [] := by
          have hn0 : nmin sl 0 = 0 := by rw [nmin_eq]; omega
          rw [hn0] at hsrc
          have : l = [] := srcCells_zero hsrc
          rw [this] at hl; cases hl; rfl
        subst hl0
        simp only [storeCells, pure_bind, Sem.run_pure]
        rw [show min sl 0 = 0 by omega]; rfl
      · cases h

theorem delete_sound (ok : VPok P vp) (R : Rel μ ro w0 V w) {ts : Array TypeId} {m k m' k' v : Value} (hm : VR μ m m') (hk : VR μ k k') (h : deleteV vp ro ts.toList m k V = some (v, V')) (ty : TypeId) :
    ∃ w', (Builtin.delete_ ts ty #[m', k']).run P w = .ok v w' ∧ Rel μ ro w0 V' w' ∧ VR μ v v := by
  unfold deleteV at h
  split at h
  case h_2 => cases h
  rename_i t rest r hts
  split at h
  case h_2 => cases h
  rename_i kt _ _ _ _ _ ht
  split at h
  case h_2 => cases h
  rename_i ki es hki hg hro
  split at h
  case h_2 => cases h
  rename_i es' hkey hp
  simp only [Option.some.injEq, Prod.mk.injEq] at h
  obtain ⟨rfl, rfl⟩ := h
  obtain ⟨w', h1, h2⟩ := mapDelete_sound (P := P) ok R hts ht hki hm hk hkey hg (Nat.le_of_ble_eq_true hro) hp ty
  exact ⟨w', h1, h2, VR.undef μ⟩

theorem minV_sound {x y x' y' v : Value} (hx : VR μ x x') (hy : VR μ y y') (h : minV x y = some v) : (∀ w, (Builtin.min2 x' y').run P w = .ok v w) ∧ VR μ v v := by
  unfold minV at h
  split at h
  case h_2 => cases h
  cases h
  obtain rfl := VR.int_inv hx
  obtain rfl := VR.int_inv hy
  refine ⟨fun w => ?_, .int _ _⟩
  simp only [Builtin.min2, Sem.run_pure, ilt_eq]
  congr 2
  split <;> split <;> simp_all <;> omega
theorem maxV_sound {x y x' y' v : Value} (hx : VR μ x x') (hy : VR μ y y') (h : maxV x y = some v) : (∀ w, (Builtin.max2 x' y').run P w = .ok v w) ∧ VR μ v v := by
  unfold maxV at h
  split at h
  case h_2 => cases h
  cases h
  obtain rfl := VR.int_inv hx
  obtain rfl := VR.int_inv hy
  refine ⟨fun w => ?_, .int _ _⟩
  simp only [Builtin.max2, Sem.run_pure, ilt_eq]
  congr 2
  split <;> split <;> simp_all <;> omega

theorem bytesN_spec : ∀ {l : List Value} {bs : List UInt8}, bytesN l = some bs → l = bs.map fun b => .int .u8 (b.toNat : Int)
  | [], bs, h => by cases h; rfl
  | v :: l, bs, h => by
    unfold bytesN at h
    split at h
    · rename_i hq; cases hq
    · rename_i n r hq
      cases hq
      split at h
      case h_2 => cases h
      rename_i bs' hn hb
      cases h
      have hn := lt_of_blt hn
      rw [List.map_cons, ← bytesN_spec hb]
      congr 2
      simp [UInt8.ofNat, UInt8.toNat, Nat.mod_eq_of_lt hn]
    · cases h

theorem flats_bytes {bs : List UInt8} {l : List Value} (h : LR μ (bs.map fun b => .int .u8 (b.toNat : Int)) l) : l = bs.map fun b => .int .u8 (b.toNat : Int) := by
  induction bs generalizing l with
  | nil => cases h; rfl
  | cons b bs ih =>
    cases h with
    | cons hx ht => rw [VR.int_inv hx, ih ht]; rfl

theorem unsafeStr_sound (ok : VPok P vp) (R : Rel μ ro w0 V w) {ts : Array TypeId} {p : Option Addr} {n : Nat} {x' v : Value} (hx : VR μ (.pointer p) x') (h : unsafeStrV vp ro ts.toList p n V = some (v, V')) (ty : TypeId) :
    ∃ w', (Builtin.unsafeString_ ts ty #[x', .int .i64 (.ofNat n)]).run P w = .ok v w' ∧ Rel μ ro w0 V' w' ∧ VR μ v v := by
  unfold unsafeStrV at h
  split at h
  case h_2 => cases h
  rename_i pt it hts
  obtain rfl := list2 hts
  split at h
  · cases h
    have : ∃ p', x' = .pointer p' := by cases hx <;> exact ⟨_, rfl⟩
    obtain ⟨p', rfl⟩ := this
    exact ⟨w, Lib.run_unsafeString_none w pt it ty p', R, .str _⟩
  · rename_i m a
    split at h
    case h_2 => cases h
    rename_i e _ _ _ _ mm c d u t kk ht hg hsp
    split at h
    case h_2 => cases h
    rename_i ei l he hl hchk
    split at h
    case h_2 => cases h
    rename_i bs hs1 hbs
    simp only [Option.some.injEq, Prod.mk.injEq] at h
    obtain ⟨rfl, rfl⟩ := h
    simp only [Bool.and_eq_true] at hchk
    obtain ⟨⟨⟨c1, c2⟩, c3⟩, c4⟩ := hchk
    replace c1 := Nat.eq_of_beq_eq_true c1
    replace c2 := Nat.eq_of_beq_eq_true c2
    replace c3 := Nat.le_of_ble_eq_true c3
    have c4 := Nat.le_of_ble_eq_true c4
    have hs1 := Nat.eq_of_beq_eq_true hs1
    obtain ⟨inf, ft⟩ := ok.fits ht
    obtain ⟨infe, fe⟩ := ok.fits he
    have hp := ft.und
    simp only at hp
    cases hx with
    | glob => cases hsp
    | ptr hm =>
      rename_i b o L
      simp only at c2 c3 hg
      subst c2
      obtain ⟨L', O, h1, h2, h3⟩ := R.obj _ _ hg
      rw [hm] at h1; cases h1
      obtain ⟨hu0, C, e', lo, hi, rfl, hcs⟩ := h3
      obtain ⟨t1, t2, t3, t4⟩ := hcs.ty _ _ rfl
      have hee : e' = e := t1.symm.trans c1
      subst hee
      obtain ⟨l', m1, m2, m3⟩ := loadL_rel hcs _ _ _ hl
      have hbl := bytesN_spec hbs
      rw [hbl] at m1
      obtain rfl := flats_bytes m1
      have hbn : bs.length = m + 1 := by simpa using m2
      have hcell : P.cellsOf e' = 1 := by simp [Program.cellsOf, fe.info, fe.size, hs1]
      have hsh : w.shape? L.blk = some (e', C.size) := by simp [World.shape?, h2]
      have hcap : m + 1 ≤ C.size := by
        have := m3 m (.int .u8 (bs[m].toNat : Int)) (by simp [hbn])
        rcases Nat.lt_or_ge (0 + m + L.off) C.size with h' | h'
        · omega
        · rw [Array.getElem?_eq_none h'] at this; cases this
      have hrun := Lib.run_unsafeString_row (P := P) w pt it ty e' hp hcell L.blk C.size hsh bs (by intro k; rw [k] at hbn; cases hbn) (by omega) (by unfold tiny at c4; omega) (fun j x hj => by
        have hq : (⟨L.blk, 0, none⟩ : Addr).add j = ⟨L.blk, 0 + j, none⟩ := add_none _ _ _
        rw [hq, cell_of_cells h2]
        have := m3 j (.int .u8 (x.toNat : Int)) (by simp [hj])
        rw [t2] at this
        simpa using this)
      rw [hbn] at hrun
      refine ⟨w.freeze ⟨L.blk, 0, none⟩ (m + 1), ?_, ?_, .str _⟩
      · rw [t2]
        exact hrun
      · have hfr : w.freeze ⟨L.blk, 0, none⟩ (m + 1) = { w with heap := (w.freeze ⟨L.blk, 0, none⟩ (m + 1)).heap } := by
          unfold World.freeze
          split <;> rfl
        rw [hfr]
        refine R.change (O' := .cells C e' (if lo == hi then (0, 0 + (m + 1)) else (min lo 0, max hi (0 + (m + 1))))) c3 hg hm ?_ ?_ (fun k hk => ?_) ?_
        · unfold World.freeze
          split <;> simp
        · unfold World.freeze
          rw [if_neg (by omega)]
          simp only [Array.getElem?_modify, if_true, h2]
          rfl
        · unfold World.freeze
          split
          · rfl
          · simp only [Array.getElem?_modify]
            rw [if_neg (Ne.symm hk)]
        · obtain ⟨lo', hi', hlh, hb1, hb2⟩ : ∃ lo' hi', (if lo == hi then (0, 0 + (m + 1)) else (min lo 0, max hi (0 + (m + 1)))) = (lo', hi') ∧ lo' = 0 ∧ hi' ≤ nmax kk (m + 1) := by
            have hmx : ∀ a b, a ≤ nmax a b ∧ b ≤ nmax a b := fun a b => by
              unfold nmax
              cases hq : Nat.ble a b with
              | true => exact ⟨Nat.le_of_ble_eq_true hq, Nat.le_refl _⟩
              | false =>
                have : ¬ a ≤ b := fun k => by rw [Nat.ble_eq_true_of_le k] at hq; cases hq
                simp only; omega
            have h5 := hmx kk (m + 1)
            by_cases hlo : (lo == hi) = true
            · rw [if_pos hlo]; exact ⟨_, _, rfl, rfl, by omega⟩
            · rw [if_neg hlo]; exact ⟨_, _, rfl, by omega, by omega⟩
          rw [hlh]
          have hmono : ∀ a b, a ≤ nmax a b := fun a b => by
            unfold nmax
            cases hq : Nat.ble a b with
            | true => exact Nat.le_of_ble_eq_true hq
            | false => exact Nat.le_refl _
          refine ⟨hu0, C, e', lo', hi', rfl, fun i v hv => hcs.val i v hv, fun i hi => ⟨(hcs.room i hi).1, fun q _ => ?_⟩, hcs.len, fun x k hx => ?_⟩
          · have q : nmax kk (m + 1) ≤ i := q
            omega
          · cases hx
            refine ⟨t1, t2, hb2, fun _ => hb1⟩
  · cases h

theorem clear_sound (ok : VPok P vp) (R : Rel μ ro w0 V w) {ts : Array TypeId} {x x' v : Value} (hx : VR μ x x') (h : clearV vp ro ts.toList x V = some (v, V')) (ty : TypeId) :
    ∃ w', (Builtin.clear_ ts ty #[x']).run P w = .ok (.tuple #[]) w' ∧ Rel μ ro w0 V' w' ∧ v = undef := by
  have hx0 : (#[x'] : Array Value)[0]? = some x' := rfl
  unfold clearV at h
  split at h
  case h_3 => cases h
  · rename_i t r a n c hts
    have h0 : ts[0]? = some t := by rw [← Array.getElem?_toList, hts]; rfl
    split at h
    case h_2 => cases h
    rename_i e _ _ _ _ ht
    obtain ⟨inf, ft⟩ := ok.fits ht
    have eu := ft.run_underlying w
    simp only at eu
    cases hx with
    | slice hm ho hc hll hlim =>
      rename_i b o o' c' L
      split at h
      · simp only [Option.some.injEq, Prod.mk.injEq] at h
        obtain ⟨rfl, rfl⟩ := h
        refine ⟨w, ?_, R, rfl⟩
        simp only [Builtin.clear_, h0, hx0, Sem.run_bind, eu, Result.andThen_ok, Sem.run_pure]
      · rename_i n ei he
        split at h
        case h_2 => cases h
        rename_i z hz
        split at h
        case h_2 => cases h
        rename_i V1 hput
        simp only [Option.some.injEq, Prod.mk.injEq] at h
        obtain ⟨rfl, rfl⟩ := h
        obtain ⟨infe, fe⟩ := ok.fits he
        obtain ⟨_, zf, hzl⟩ := fe.zero z hz
        have := ho (by omega)
        subst this
        obtain ⟨w', r1, r2⟩ := putCells_sound (P := P) R (VR.ptr (o := o') hm) ((flat_list (μ := μ) zf).rep (n + 1)) hput
        have hzc : (Builtin.zeroCells z.cells (n + 1)).toList = repL (cellsL z) (n + 1) := by
          unfold Builtin.zeroCells
          rw [cells_eq]
          have := range_rep (cellsL z) (n + 1)
          rw [show (Array.mk (cellsL z)).size = (cellsL z).length from rfl] at this ⊢
          rw [this]
        refine ⟨w', ?_, r2, rfl⟩
        simp only [Builtin.clear_, h0, hx0, Sem.run_bind, eu, Result.andThen_ok, fe.run_zero w hz, hzc, r1, Sem.run_pure]
      · cases h
  · rename_i t r c hts
    have h0 : ts[0]? = some t := by rw [← Array.getElem?_toList, hts]; rfl
    split at h
    case h_2 => cases h
    rename_i i ht
    simp only [Option.some.injEq, Prod.mk.injEq] at h
    obtain ⟨rfl, rfl⟩ := h
    obtain ⟨inf, ft⟩ := ok.fits ht
    have eu := ft.run_underlying w
    cases hx
    refine ⟨w, ?_, R, rfl⟩
    simp only [Builtin.clear_, h0, hx0, Sem.run_bind, eu, Result.andThen_ok, Sem.run_pure]

/-- A builtin's call. -/
theorem exec_builtin (ok : VPok P vp) (R : Rel μ ro w0 V w) (E : Ev μ fr ρ) {o : Oper} {c : Call} {b : Builtin} (hop : o.op = .call c) (hb : c.callee = .builtin b) {args : List Value} (hargs : fr.evs c.args.toList = some args) {n : VN}
    (h : builtinV vp ro b c.argTypes.toList args V = some (n, V')) : FineS P μ w (execOp ρ o) n V V' ∨ (Fine P μ ro w0 w (execOp ρ o) n V' ∧ (b = .append ∨ b = .copy ∨ b = .delete ∨ b = .recover ∨ b = .unsafeString ∨ b = .clear)) := by
  have hl := E.list hargs
  have run : ∀ (as : List Value), c.args.toList.map ρ = as → ∀ q, (builtin b c.argTypes o.type (c.args.map fun | .const _ => true | _ => false) ⟨as⟩).run P w = q → (execOp ρ o).run P w = q := by
    intro as has q hq
    subst has
    simp only [execOp, hop, resolve, hb, pure_bind, invoke, map_mk] at hq ⊢
    exact hq
  unfold builtinV at h
  split at h
  · -- len
    obtain ⟨x', hx', hx⟩ := hl.one
    split at h
    case h_2 => cases h
    rename_i t r hts
    split at h
    case h_2 => cases h
    rename_i i ht
    refine .inl (FineS.of_one h fun v hv => ?_)
    obtain ⟨r1, r2⟩ := len_sound ok R hts ht hx hv o.type
    exact ⟨v, run _ hx' _ (by simp only [builtin, Sem.run_bind, r1, Result.andThen_ok, Sem.run_pure]), r2⟩
  · -- append
    obtain ⟨s', x', hx', hs, hx⟩ := hl.two
    unfold Wvm.two at h
    split at h
    case h_2 => cases h
    rename_i v V1 ha
    simp only [Option.some.injEq, Prod.mk.injEq] at h
    obtain ⟨rfl, rfl⟩ := h
    obtain ⟨v', w', μ', r1, r2, r3, r4⟩ := appendV_sound (P := P) ok R hs hx ha o.type
    exact .inr ⟨⟨.value v', w', μ', run _ hx' _ (by simp only [builtin, Sem.run_bind, r1, Result.andThen_ok, Sem.run_pure]), r2, r3, .value r4⟩, by simp⟩
  · -- copy
    obtain ⟨s', x', hx', hs, hx⟩ := hl.two
    unfold Wvm.two at h
    split at h
    case h_2 => cases h
    rename_i v V1 ha
    simp only [Option.some.injEq, Prod.mk.injEq] at h
    obtain ⟨rfl, rfl⟩ := h
    obtain ⟨w', r1, r2, r3⟩ := copy_sound (P := P) ok R hs hx ha o.type
    exact .inr ⟨⟨.value v, w', μ, run _ hx' _ (by simp only [builtin, Sem.run_bind, r1, Result.andThen_ok, Sem.run_pure]), Ext.refl _, r2, .value r3⟩, by simp⟩
  · -- clear
    obtain ⟨x', hx', hx⟩ := hl.one
    unfold Wvm.two at h
    split at h
    case h_2 => cases h
    rename_i v V1 ha
    simp only [Option.some.injEq, Prod.mk.injEq] at h
    obtain ⟨rfl, rfl⟩ := h
    obtain ⟨w', r1, r2, rfl⟩ := clear_sound (P := P) ok R hx ha o.type
    exact .inr ⟨⟨.value (.tuple #[]), w', μ, run _ hx' _ (by simp only [builtin, Sem.run_bind, r1, Result.andThen_ok, Sem.run_pure]), Ext.refl _, r2, .value (VR.undef μ)⟩, by simp⟩
  · -- min
    obtain ⟨x', y', hx', hx, hy⟩ := hl.two
    refine .inl (FineS.of_one h fun v hv => ?_)
    obtain ⟨r1, r2⟩ := minV_sound (P := P) hx hy hv
    exact ⟨v, run _ hx' _ (by simp only [builtin, Builtin.min_, Sem.run_bind, List.foldlM_cons, List.foldlM_nil, r1, Result.andThen_ok, Sem.run_pure]), r2⟩
  · -- max
    obtain ⟨x', y', hx', hx, hy⟩ := hl.two
    refine .inl (FineS.of_one h fun v hv => ?_)
    obtain ⟨r1, r2⟩ := maxV_sound (P := P) hx hy hv
    exact ⟨v, run _ hx' _ (by simp only [builtin, Builtin.max_, Sem.run_bind, List.foldlM_cons, List.foldlM_nil, r1, Result.andThen_ok, Sem.run_pure]), r2⟩
  · -- min of three
    obtain ⟨x', y', z', hx', hx, hy, hz⟩ := hl.three
    refine .inl (FineS.of_one h fun v hv => ?_)
    obtain ⟨u, hu, hv⟩ := Option.bind_eq_some_iff.1 hv
    obtain ⟨r1, r2⟩ := minV_sound (P := P) hx hy hu
    obtain ⟨q1, q2⟩ := minV_sound (P := P) r2 hz hv
    exact ⟨v, run _ hx' _ (by simp only [builtin, Builtin.min_, Sem.run_bind, List.foldlM_cons, List.foldlM_nil, r1, q1, Result.andThen_ok, Sem.run_pure]), q2⟩
  · -- max of three
    obtain ⟨x', y', z', hx', hx, hy, hz⟩ := hl.three
    refine .inl (FineS.of_one h fun v hv => ?_)
    obtain ⟨u, hu, hv⟩ := Option.bind_eq_some_iff.1 hv
    obtain ⟨r1, r2⟩ := maxV_sound (P := P) hx hy hu
    obtain ⟨q1, q2⟩ := maxV_sound (P := P) r2 hz hv
    exact ⟨v, run _ hx' _ (by simp only [builtin, Builtin.max_, Sem.run_bind, List.foldlM_cons, List.foldlM_nil, r1, q1, Result.andThen_ok, Sem.run_pure]), q2⟩
  · -- delete
    obtain ⟨s', x', hx', hs, hx⟩ := hl.two
    unfold Wvm.two at h
    split at h
    case h_2 => cases h
    rename_i v V1 ha
    simp only [Option.some.injEq, Prod.mk.injEq] at h
    obtain ⟨rfl, rfl⟩ := h
    obtain ⟨w', r1, r2, r3⟩ := delete_sound (P := P) ok R hs hx ha o.type
    exact .inr ⟨⟨.value v, w', μ, run _ hx' _ (by simp only [builtin, Sem.run_bind, r1, Result.andThen_ok, Sem.run_pure]), Ext.refl _, r2, .value r3⟩, by simp⟩
  · -- recover
    simp only [Option.some.injEq, Prod.mk.injEq] at h
    obtain ⟨rfl, rfl⟩ := h
    have hx' : c.args.toList.map ρ = [] := by
      generalize c.args.toList.map ρ = q at hl
      cases hl; rfl
    exact .inr ⟨⟨.recover, w, μ, run _ hx' _ rfl, Ext.refl _, R, .recover⟩, by simp⟩
  · -- a nil slice's data
    obtain ⟨x', hx', hx⟩ := hl.one
    refine .inl (FineS.of_one h fun v hv => ?_)
    cases hv
    have : ∃ c, x' = .slice none c c := by cases hx; exact ⟨0, rfl⟩
    obtain ⟨c, rfl⟩ := this
    exact ⟨_, run _ hx' _ (by simp only [builtin, Sem.run_bind, Lib.run_unsafeSliceData_nil, Result.andThen_ok, Sem.run_pure]), .nilp⟩
  · -- a slice's data
    rename_i a _ c
    obtain ⟨x', hx', hx⟩ := hl.one
    split at h
    case h_2 => cases h
    rename_i hsp hc
    have hc := lt_of_blt hc
    refine .inl (FineS.of_one h fun v hv => ?_)
    cases hv
    cases hx with
    | slice hm ho hcc hll hlim =>
      have := ho hc
      subst this
      have hne := Nat.ne_of_gt (Nat.lt_of_lt_of_le hc hcc)
      refine ⟨_, run _ hx' _ ?_, .ptr hm⟩
      simp only [builtin, Sem.run_bind]
      rw [Lib.run_unsafeSliceData_row w _ _ _ _ _ hne]
      rfl
  · -- bytes at an address as a text
    rename_i p m
    obtain ⟨x', y', hx', hx, hy⟩ := hl.two
    unfold Wvm.two at h
    split at h
    case h_2 => cases h
    rename_i v V1 ha
    simp only [Option.some.injEq, Prod.mk.injEq] at h
    obtain ⟨rfl, rfl⟩ := h
    obtain rfl := VR.int_inv hy
    obtain ⟨w', r1, r2, r3⟩ := unsafeStr_sound (P := P) ok R hx ha o.type
    exact .inr ⟨⟨.value v, w', μ, run _ hx' _ (by simp only [builtin, Sem.run_bind, r1, Result.andThen_ok, Sem.run_pure]), Ext.refl _, r2, .value r3⟩, by simp⟩
  · -- the room of a nil slice
    obtain ⟨x', hx', hx⟩ := hl.one
    split at h
    case h_2 => cases h
    rename_i t r hts
    split at h
    case h_2 => cases h
    rename_i q1 q2 q3 q4 q5 ht
    obtain ⟨inf, ft⟩ := ok.fits ht
    have eu := ft.run_underlying w
    simp only at eu
    refine .inl (FineS.of_one h fun v hv => ?_)
    cases hv
    cases hx
    have h0 : c.argTypes[0]? = some t := by rw [← Array.getElem?_toList, hts]; rfl
    refine ⟨.int .i64 0, run _ hx' _ ?_, .int _ _⟩
    have hx0 : (#[Value.slice none 0 0] : Array Value)[0]? = some (.slice none 0 0) := rfl
    simp only [builtin, Builtin.cap_, h0, hx0, Sem.run_bind, eu, Result.andThen_ok, Sem.run_pure]
    rfl
  · cases h

theorem fn_facts (ok : VPok P vp) {g : FuncId} {fn : Func} (h : vp.fn.get g = some fn) : P.funcs[g]? = some fn ∧ (∃ c, fn.body = some c) ∧ (fn.name == "runtime.NumGoroutine") = false := by
  have h := ok.fn g fn h
  unfold fnOf at h
  split at h
  · rename_i fn' h1
    split at h
    · rename_i c h2 h3
      cases h
      exact ⟨h1, ⟨c, h2⟩, h3⟩
    · cases h
  · cases h

theorem callFunc_run (ok : VPok P vp) {g : FuncId} {fn : Func} (h : vp.fn.get g = some fn) (args : Array Value) (w : World) : (callFunc g args).run P w = .ok (.enter g args) w := by
  obtain ⟨h1, ⟨c, h2⟩, h3⟩ := fn_facts ok h
  have h3' : ¬ fn.name = "runtime.NumGoroutine" := by simpa using h3
  simp [callFunc, h1, h2, h3']

/-- An operation that enters a function. -/
def FineE (P : Program) (μ : Mu) (w : World) (s : Sem Next) (n : VN) (V V' : VW) : Prop :=
  ∃ g args args', n = .enter g args ∧ V' = V ∧ s.run P w = .ok (.enter g ⟨args'⟩) w ∧ LR μ args args'

theorem FineE.fine (R : Rel μ ro w0 V w) {s : Sem Next} {n : VN} (h : FineE P μ w s n V V') : Fine P μ ro w0 w s n V' := by
  obtain ⟨g, args, args', rfl, rfl, h1, h2⟩ := h
  exact ⟨_, w, μ, h1, Ext.refl _, R, .enter g h2⟩

theorem findNext_of {fn : Func} (h1 : fn.name = "internal/abi.NoEscape" ∨ fn.name = "internal/bytealg.MakeNoZero" ∨ fn.name = "internal/bytealg.IndexByteString") (h2 : fn.origin = "") : Extern.findNext fn = none := by
  unfold Extern.findNext
  rcases h1 with h1 | h1 | h1 <;> (simp only [h1, h2]; kernel_rfl)
theorem find_noEscape {fn : Func} (h1 : fn.name = "internal/abi.NoEscape") : Extern.find fn = some Extern.AbiNoEscape.same := by
  unfold Extern.find
  simp only [h1]
  kernel_rfl
theorem find_indexByte {fn : Func} (h1 : fn.name = "internal/bytealg.IndexByteString") : Extern.find fn = some Extern.BytealgIndexByte.indexByte := by
  unfold Extern.find
  simp only [h1]
  kernel_rfl

theorem idx_eq (c : UInt8) : ∀ l : List UInt8, (List.range l.length).find? (fun i => l[i]! == c) = idxN c l
  | [] => rfl
  | x :: l => by
    rw [List.length_cons, List.range_succ_eq_map, List.find?_cons]
    have h0 : (x :: l)[0]! = x := rfl
    simp only [idxN, h0]
    cases hx : Nat.beq x.toNat c.toNat with
    | true =>
      have : x = c := UInt8.toNat_inj.1 (Nat.eq_of_beq_eq_true hx)
      subst this
      simp
    | false =>
      have hne : (x == c) = false := by
        have : x ≠ c := fun e => by subst e; simp at hx
        simpa using this
      rw [hne]
      simp only
      have ih := idx_eq c l
      rw [List.find?_map]
      have hf : ((fun i => (x :: l)[i]! == c) ∘ Nat.succ) = (fun i => l[i]! == c) := by funext i; simp
      rw [hf, ih]
      cases idxN c l <;> rfl

theorem firstIdx_eq (c : UInt8) (l : List UInt8) : firstIdx ⟨⟨l⟩⟩ c = match idxN c l with | some k => (k : Int) | none => -1 := by
  unfold firstIdx
  have h : (List.range (ByteArray.size ⟨⟨l⟩⟩)).find? (fun i => (⟨⟨l⟩⟩ : ByteArray)[i]! == c) = idxN c l := by
    rw [← idx_eq c l]
    have hs : ByteArray.size ⟨⟨l⟩⟩ = l.length := rfl
    rw [hs]
    have hf : (fun i : Nat => (⟨⟨l⟩⟩ : ByteArray)[i]! == c) = (fun i : Nat => l[i]! == c) := by
      funext i
      congr 1
      by_cases hi : i < l.length
      · rw [getElem!_pos (⟨⟨l⟩⟩ : ByteArray) i hi, getElem!_pos l i hi]; rfl
      · rw [getElem!_neg (⟨⟨l⟩⟩ : ByteArray) i hi, getElem!_neg l i hi]
    rw [hf]
  rw [h]
  cases idxN c l <;> rfl

theorem find_makeNoZero {fn : Func} (h1 : fn.name = "internal/bytealg.MakeNoZero") : Extern.find fn = some (Extern.BytealgMakeNoZero.makeNoZero fn.params fn.resultTypes) := by
  unfold Extern.find
  simp only [h1]
  kernel_rfl

/-- A function without a Go body. -/
theorem ext_sound (ok : VPok P vp) (R : Rel μ ro w0 V w) {g : FuncId} {k : Nat × TypeId} (hk : vp.ext.get g = some k) {args args' : List Value} (hl : LR μ args args') {n : VN} (h : extV vp k args V = some (n, V')) :
    Fine P μ ro w0 w (callFunc g ⟨args'⟩) n V' ∧ ∃ v, n = .value v := by
  have h0 := ok.ext g k hk
  unfold extOf at h0
  split at h0
  case h_2 => cases h0
  rename_i fn hfn
  split at h0
  case h_2 => cases h0
  rename_i hbody
  have hbn : fn.body.isNone = true := by simp [hbody]
  unfold extNo at h0
  split at h0
  · rename_i ho hname
    have ho : fn.origin = "" := by simpa using ho
    have hname : fn.name = "internal/abi.NoEscape" := by simpa using hname
    cases h0
    have hrun := run_callFunc_extern hfn (by rw [hname]; rfl) hbn (findNext_of (.inl hname) ho) (find_noEscape hname) ⟨args'⟩ w
    unfold extV at h
    split at h
    · obtain ⟨x', rfl, hx⟩ := hl.one
      unfold Wvm.one at h
      split at h
      case h_2 => cases h
      rename_i v hv
      cases hv
      simp only [Option.some.injEq, Prod.mk.injEq] at h
      obtain ⟨rfl, rfl⟩ := h
      exact ⟨⟨.value x', w, μ, by rw [hrun]; rfl, Ext.refl _, R, .value hx⟩, _, rfl⟩
    · rename_i hq; cases hq
    · rename_i hq; cases hq
    · cases h
  · rename_i ho hname _
    have ho : fn.origin = "" := by simpa using ho
    have hname : fn.name = "internal/bytealg.IndexByteString" := by simpa using hname
    cases h0
    have hrun := run_callFunc_extern hfn (by rw [hname]; rfl) hbn (findNext_of (.inr (.inr hname)) ho) (find_indexByte hname) ⟨args'⟩ w
    unfold extV at h
    split at h
    · rename_i hq; cases hq
    · rename_i l c hq
      obtain ⟨x', y', rfl, hx, hy⟩ := hl.two
      obtain rfl := VR.str_inv hx
      obtain rfl := VR.int_inv hy
      have hrun2 := run_indexByte_string (P := P) ⟨⟨l⟩⟩ (.ofNat c) w
      have hr3 : (Extern.BytealgIndexByte.indexByte ⟨[.string ⟨⟨l⟩⟩, .int .u8 (.ofNat c)]⟩).run P w = _ := hrun2
      rw [hr3] at hrun
      have hc : (Int.ofNat c).toNat.toUInt8 = UInt8.ofNat c := rfl
      rw [hc, firstIdx_eq] at hrun
      cases hidx : idxN (UInt8.ofNat c) l with
      | some k =>
        rw [hidx] at h hrun
        simp only [Wvm.one, Option.some.injEq, Prod.mk.injEq] at h
        obtain ⟨rfl, rfl⟩ := h
        exact ⟨⟨.value _, w, μ, hrun, Ext.refl _, R, .value (.int _ _)⟩, _, rfl⟩
      | none =>
        rw [hidx] at h hrun
        simp only [Wvm.one, Option.some.injEq, Prod.mk.injEq] at h
        obtain ⟨rfl, rfl⟩ := h
        exact ⟨⟨.value _, w, μ, hrun, Ext.refl _, R, .value (.int _ _)⟩, _, rfl⟩
    · rename_i hq; cases hq
    · cases h
  · rename_i ho hname _ _
    have ho : fn.origin = "" := by simpa using ho
    have hname : fn.name = "internal/bytealg.MakeNoZero" := by simpa using hname
    split at h0
    case h_2 => cases h0
    rename_i t hres
    split at h0
    case h_2 => cases h0
    rename_i e hu
    cases h0
    have hrun := run_callFunc_extern hfn (by rw [hname]; rfl) hbn (findNext_of (.inr (.inl hname)) ho) (find_makeNoZero hname) ⟨args'⟩ w
    unfold extV at h
    split at h
    · rename_i hq; cases hq
    · rename_i hq; cases hq
    · rename_i e' m hq
      cases hq
      obtain ⟨x', rfl, hx⟩ := hl.one
      obtain rfl := VR.int_inv hx
      split at h
      case h_2 => cases h
      rename_i ei he hm
      have hm := Nat.le_of_ble_eq_true hm
      split at h
      case h_2 => cases h
      simp only [Option.some.injEq, Prod.mk.injEq] at h
      obtain ⟨rfl, rfl⟩ := h
      have hres' : fn.resultTypes = #[t] := by apply Array.ext'; rw [hres]
      obtain ⟨cs, r1, r2, _⟩ := Lib.run_makeNoZero (P := P) w fn.params t e hu m (by unfold tiny at hm; omega)
      rw [hres'] at hrun
      have r1' : (Extern.BytealgMakeNoZero.makeNoZero fn.params #[t] ⟨[.int .i64 (.ofNat m)]⟩).run P w = _ := r1
      rw [r1'] at hrun
      have hC : CellsR μ True m .nil none cs 0 0 ⟨w.heap.size, 0, cs.size, 1⟩ (some (e, 0)) e := {
        val := fun i v hv => by
          unfold cellAt at hv
          rw [Tr.get_nil] at hv
          split at hv <;> cases hv
        room := fun i hi => ⟨by simpa using hi, fun _ _ => by omega⟩
        len := r2
        ty := fun x k hx => by cases hx; exact ⟨rfl, rfl, Nat.le_refl _, fun _ => rfl⟩ }
      have R1 := (R.drawn (w.drawn + 1 + 1)).alloc (o := .cells m .nil none 1 (some (e, 0))) (O := .cells cs e) (m := cs.size) (u := 1) ⟨rfl, cs, e, 0, 0, rfl, hC⟩
      exact ⟨⟨.value (.slice (some ⟨w.heap.size, 0, none⟩) m cs.size), _, _, hrun, Mu.ext_put (L := ⟨w.heap.size, 0, cs.size, 1⟩) (R.fresh _ (Nat.le_refl _)).1, R1, .value (VR.new_slice (L := ⟨w.heap.size, 0, cs.size, 1⟩) rfl (Nat.le_refl _) r2 ⟨fun h => (by cases h), fun _ => Nat.mul_one _⟩)⟩, _, rfl⟩
    · cases h
  · cases h0

theorem extV_value {k : Nat × TypeId} {args : List Value} {n : VN} (h : extV vp k args V = some (n, V')) : ∃ v, n = .value v := by
  unfold extV Wvm.one at h
  repeat' split at h
  all_goals first
    | (cases h; done)
    | (simp only [Option.some.injEq, Prod.mk.injEq] at h; exact ⟨_, h.1.symm⟩)

theorem exec_invokeE (ok : VPok P vp) (E : Ev μ fr ρ) {o : Oper} {c : Call} {f : Operand} (hop : o.op = .call c) (hb : c.callee = .value f) {fv : Value} (hf : fr.ev f = some fv) {args : List Value} (hargs : fr.evs c.args.toList = some args) {q : FuncId} {as : List Value}
    (h : invokeV vp fv args V = some (.enter q as, V')) : FineE P μ w (execOp ρ o) (.enter q as) V V' := by
  have hl := E.list hargs
  unfold invokeV at h
  split at h
  · unfold roundV at h
    split at h
    case h_2 => cases h
    split at h
    · simp only [Option.some.injEq, Prod.mk.injEq] at h; cases h.1
    · cases h
  case h_3 => cases h
  rename_i g first captured
  obtain ⟨a', c', e, ha, hc⟩ := (E _ _ hf).func_inv
  have harr : ∀ (x y z : List Value), (Array.mk x ++ Array.mk y ++ Array.mk z) = ⟨x ++ y ++ z⟩ := fun x y z => by apply Array.ext'; simp
  have hex : execOp ρ o = callFunc g ⟨a' ++ c.args.toList.map ρ ++ c'⟩ := by
    simp only [execOp, hop, resolve, hb, Deferred.ofValue, e, pure_bind, invoke, map_mk, harr]
  split at h
  · rename_i fn hfn
    simp only [Option.some.injEq, Prod.mk.injEq] at h
    obtain ⟨h1, rfl⟩ := h
    cases h1
    exact ⟨q, _, a' ++ c.args.toList.map ρ ++ c', rfl, rfl, by rw [hex, callFunc_run ok hfn], (ha.append hl).append hc⟩
  · split at h
    case h_2 => cases h
    obtain ⟨v, hv⟩ := extV_value h
    cases hv

theorem arr_nil {α : Type} {a : Array α} (h : a.toList = []) : a = #[] := by apply Array.ext'; rw [h]

/-- A round is asked. -/
theorem round_sound (ok : VPok P vp) (R : Rel μ ro w0 V w) {b : Nat} {fv' : Value} (hf : VR μ (.func (.yield b) ⟨[]⟩ ⟨[]⟩) fv') {args args' : List Value} (hl : LR μ args args') {n : VN} (h : roundV b args V = some (n, V')) :
    ∃ L, fv' = .func (.yield L.blk) ⟨[]⟩ ⟨[]⟩ ∧ μ b = some L ∧ V' = V ∧ ∃ f n', n = .round f ∧ (Instr.yield L.blk ⟨args'⟩).run P w = .ok n' w ∧ NR μ n n' := by
  cases hf with
  | yield hm h0 =>
    rename_i L
    unfold roundV at h
    split at h
    case h_2 => cases h
    rename_i l hg
    split at h
    case h_2 => cases h
    rename_i tm hps
    simp only [Option.some.injEq, Prod.mk.injEq] at h
    obtain ⟨rfl, rfl⟩ := h
    obtain ⟨L', O, k1, k2, k3⟩ := R.obj _ _ hg
    rw [hm] at k1; cases k1
    obtain ⟨_, Q, rfl, q1, q2, q3, q4, q5, q6, q7⟩ := k3
    obtain ⟨s1, s2⟩ := setPs_sound q4 hl hps
    have hsz : (Array.mk args').size = Q.params.size := by
      show args'.length = _
      rw [s1, ← q5]; simp
    have hy := run_yield (P := P) (w := w) k2 hsz
    have hz : ((Q.params.zip ⟨args'⟩).foldl (fun tmps (t, a) => tmps.setIfInBounds t a) Q.tmps) = ((l.params.zip args').foldl (fun tmps (t, a) => tmps.setIfInBounds t a) Q.tmps) := by
      rw [← Array.foldl_toList, Array.toList_zip, q5]
    refine ⟨L, rfl, hm, rfl, _, _, rfl, hy, ?_⟩
    rw [hz, q3, q6, q7]
    exact .round rfl s2 hm h0

theorem exec_invoke (ok : VPok P vp) (R : Rel μ ro w0 V w) (E : Ev μ fr ρ) {o : Oper} {c : Call} {f : Operand} (hop : o.op = .call c) (hb : c.callee = .value f) {fv : Value} (hf : fr.ev f = some fv) {args : List Value} (hargs : fr.evs c.args.toList = some args) {n : VN}
    (h : invokeV vp fv args V = some (n, V')) : FineE P μ w (execOp ρ o) n V V' ∨ (Fine P μ ro w0 w (execOp ρ o) n V' ∧ ((∃ v, n = .value v) ∨ ∃ f, n = .round f)) := by
  have hl := E.list hargs
  unfold invokeV at h
  split at h
  · rename_i b
    obtain ⟨L, e, hm, rfl, f, n', rfl, hy, hn⟩ := round_sound ok R (E _ _ hf) hl h
    have hex : execOp ρ o = Instr.yield L.blk ⟨c.args.toList.map ρ⟩ := by
      have harr : ∀ (x z : List Value), (Array.mk x ++ Array.mk z) = ⟨x ++ z⟩ := fun x z => by apply Array.ext'; simp
      simp only [execOp, hop, resolve, hb, Deferred.ofValue, e, pure_bind, invoke, map_mk, harr, List.nil_append, List.append_nil]
    exact .inr ⟨⟨n', w, μ, by rw [hex, hy], Ext.refl _, R, hn⟩, .inr ⟨f, rfl⟩⟩
  case h_3 => cases h
  rename_i g first captured
  obtain ⟨a', c', e, ha, hc⟩ := (E _ _ hf).func_inv
  have harr : ∀ (x y z : List Value), (Array.mk x ++ Array.mk y ++ Array.mk z) = ⟨x ++ y ++ z⟩ := fun x y z => by apply Array.ext'; simp
  have hex : execOp ρ o = callFunc g ⟨a' ++ c.args.toList.map ρ ++ c'⟩ := by
    simp only [execOp, hop, resolve, hb, Deferred.ofValue, e, pure_bind, invoke, map_mk, harr]
  split at h
  · rename_i fn hfn
    simp only [Option.some.injEq, Prod.mk.injEq] at h
    obtain ⟨rfl, rfl⟩ := h
    exact .inl ⟨g, _, a' ++ c.args.toList.map ρ ++ c', rfl, rfl, by rw [hex, callFunc_run ok hfn], (ha.append hl).append hc⟩
  · split at h
    case h_2 => cases h
    rename_i k hk
    rw [hex]
    obtain ⟨q1, q2⟩ := ext_sound ok R hk ((ha.append hl).append hc) h
    exact .inr ⟨q1, .inl q2⟩

theorem exec_method (ok : VPok P vp) (E : Ev μ fr ρ) {o : Oper} {c : Call} {r : Operand} {name : String} (hop : o.op = .call c) (hb : c.callee = .invoke r name) {t : TypeId} {v : Value} (hf : fr.ev r = some (.iface t v)) {args : List Value} (hargs : fr.evs c.args.toList = some args) {n : VN}
    (h : methodV vp t v name P args V = some (n, V')) : FineE P μ w (execOp ρ o) n V V' := by
  have hl := E.list hargs
  unfold methodV at h
  split at h
  · cases h
  rename_i ti hti
  split at h
  · cases h
  rename_i m hm
  split at h
  case h_2 => cases h
  rename_i f ptr i hpath hfunc ht
  split at h
  · cases h
  rename_i fn hfn
  obtain ⟨inf, ft⟩ := ok.fits ht
  have eu := ft.run_underlying w
  have hr := E _ _ hf
  have hr' : ∃ v', ρ r = .iface t v' ∧ VR μ v v' := by
    generalize ρ r = y at hr
    cases hr with
    | iface _ h => exact ⟨_, rfl, h⟩
  obtain ⟨v', e, hv⟩ := hr'
  have hm' : ti.methods.find? (·.name == name) = some m := by rw [← Array.find?_toList]; exact hm
  have hrecv : n = .enter f (v :: args) ∧ V' = V ∧ (receiverAt t (.val v') ptr (if m.path.isEmpty then some ((name.splitOn ".").getLastD name) else none)).run P w = .ok v' w := by
    split at h
    · simp only [Option.some.injEq, Prod.mk.injEq] at h
      refine ⟨h.1.symm, h.2.symm, ?_⟩
      rename_i hd
      rw [hd] at eu
      simp only [receiverAt, Sem.run_bind, eu, Result.andThen_ok, Place.get, Sem.run_pure]
    · cases h
    · rename_i hni
      simp only [Option.some.injEq, Prod.mk.injEq] at h
      refine ⟨h.1.symm, h.2.symm, ?_⟩
      simp only [receiverAt, Sem.run_bind, eu, Result.andThen_ok]
      cases hd : i.desc <;> first | (exact absurd hd (hni _)) | rfl
    · cases h
  obtain ⟨rfl, rfl, hrecv⟩ := hrecv
  refine ⟨f, _, v' :: c.args.toList.map ρ, rfl, rfl, ?_, .cons hv hl⟩
  have harr : (#[v'] ++ (#[Value.iface t v'] ++ c.args.map ρ).extract 1 (#[Value.iface t v'] ++ c.args.map ρ).size) = ⟨v' :: c.args.toList.map ρ⟩ := by
    apply Array.ext'; simp; exact List.take_of_length_le (by simp)
  have h0 : (#[Value.iface t v'] ++ c.args.map ρ)[0]? = some (.iface t v') := by rw [Array.getElem?_append_left (by simp)]; rfl
  obtain ⟨q, hq⟩ : ∃ q, P.types.size + Made.depth = q + 1 := ⟨P.types.size + Made.depth - 1, by unfold Made.depth; omega⟩
  have hmeth : (method (P.types.size + Made.depth) t v' name).run P w = .ok (f, v') w := by
    rw [hq]
    unfold method
    have e1 : (typeInfo t).run P w = .ok ti w := by simp [typeInfo, hti]
    simp only [Sem.run_bind, e1, Result.andThen_ok, hm', hpath, follow, Sem.run_pure, hfunc]
    rw [hrecv]; rfl
  simp only [execOp, hop, resolve, hb, pure_bind, invoke, e, h0, callMethod, Sem.run_bind, run_program, Result.andThen_ok, hmeth, harr, callFunc_run ok hfn]

theorem exec_defer (R : Rel μ ro w0 V w) (E : Ev μ fr ρ) {o : Oper} {c : Call} (hop : o.op = .defer c) {n : VN}
    (h : (match c.callee with
    | .value f => match fr.ev f, fr.evs c.args.toList with
      | some (.func (.func g) ⟨first⟩ captured), some args => some (VN.defer { target := .fn (.func g) captured, args := ⟨first ++ args⟩ }, V)
      | _, _ => none
    | _ => none) = some (n, V')) : Fine P μ ro w0 w (execOp ρ o) n V' := by
  split at h
  case h_2 => cases h
  rename_i f hb
  split at h
  case h_2 => cases h
  rename_i g first captured args hf hargs
  simp only [Option.some.injEq, Prod.mk.injEq] at h
  obtain ⟨rfl, rfl⟩ := h
  obtain ⟨captured⟩ := captured
  have hl := E.list hargs
  obtain ⟨a', c', e, ha, hc⟩ := (E _ _ hf).func_inv
  refine ⟨.defer { target := .fn (.func g) ⟨c'⟩, args := ⟨a' ++ c.args.toList.map ρ⟩ }, w, μ, ?_, Ext.refl _, R, .defer g hc (ha.append hl)⟩
  have harr : ∀ (x y : List Value), (Array.mk x ++ Array.mk y) = ⟨x ++ y⟩ := fun x y => by apply Array.ext'; simp
  simp only [execOp, hop, resolve, hb, Deferred.ofValue, e, Sem.run_bind, Sem.run_pure, Result.andThen_ok, map_mk, harr]

/-- A call of a Go function. -/
theorem exec_call (ok : VPok P vp) (R : Rel μ ro w0 V w) (E : Ev μ fr ρ) {o : Oper} {q : FuncId} {as : List Value} (hc : isCall o.op = true) (h : execV P vp ro fr o V = some (.enter q as, V')) : FineE P μ w (execOp ρ o) (.enter q as) V V' := by
  unfold execV at h
  cases hop : o.op <;> rw [hop] at h hc <;> dsimp only at h <;> (first | (cases h; done) | (simp [isCall] at hc; done) | skip)
  case call c =>
    cases hb : c.callee with
    | builtin b => obtain ⟨callee, as, ats⟩ := c; simp only at hb; subst hb; simp [isCall] at hc
    | value f =>
      rw [hb] at h
      dsimp only at h
      split at h
      case h_2 => cases h
      rename_i fv args hf hargs
      exact (exec_invoke ok R E hop hb hf hargs h).elim id (fun h => by obtain ⟨_, h⟩ := h; rcases h with ⟨v, hv⟩ | ⟨f, hv⟩ <;> cases hv)
    | invoke r name =>
      rw [hb] at h
      dsimp only at h
      split at h
      case h_2 => cases h
      rename_i t v args hf hargs
      exact exec_method ok E hop hb hf hargs h

/-- What a call of a Go function asks hangs on its operands alone. -/
theorem exec_callE (ok : VPok P vp) (E : Ev μ fr ρ) {o : Oper} {q : FuncId} {as : List Value} (hc : isCall o.op = true) (h : execV P vp ro fr o V = some (.enter q as, V')) : FineE P μ w (execOp ρ o) (.enter q as) V V' := by
  unfold execV at h
  cases hop : o.op <;> rw [hop] at h hc <;> dsimp only at h <;> (first | (cases h; done) | (simp [isCall] at hc; done) | skip)
  case call c =>
    cases hb : c.callee with
    | builtin b => obtain ⟨callee, as, ats⟩ := c; simp only at hb; subst hb; simp [isCall] at hc
    | value f =>
      rw [hb] at h
      dsimp only at h
      split at h
      case h_2 => cases h
      rename_i fv args hf hargs
      exact exec_invokeE ok E hop hb hf hargs h
    | invoke r name =>
      rw [hb] at h
      dsimp only at h
      split at h
      case h_2 => cases h
      rename_i t v args hf hargs
      exact exec_method ok E hop hb hf hargs h

/-- **An operation of the small machine is the model's.** -/
theorem execV_sound (ok : VPok P vp) (R : Rel μ ro w0 V w) (E : Ev μ fr ρ) {o : Oper} {n : VN} (h : execV P vp ro fr o V = some (n, V')) : Fine P μ ro w0 w (execOp ρ o) n V' := by
  unfold execV at h
  cases hop : o.op <;> rw [hop] at h <;> dsimp only at h <;> (first | (cases h; done) | skip)
  case move x =>
    exact FineS.fine R (FineS.of_one h fun v hv => ⟨_, by simp [execOp, hop], E _ _ hv⟩)
  case assign x =>
    exact FineS.fine R (FineS.of_one h fun v hv => ⟨_, by simp [execOp, hop], E _ _ hv⟩)
  case pick c a b =>
    split at h
    · rename_i hc
      have hc := VR.bool_inv (E _ _ hc)
      exact FineS.fine R (FineS.of_one h fun v hv => ⟨_, by simp [execOp, hop, hc, asBool], E _ _ hv⟩)
    · rename_i hc
      have hc := VR.bool_inv (E _ _ hc)
      exact FineS.fine R (FineS.of_one h fun v hv => ⟨_, by simp [execOp, hop, hc, asBool], E _ _ hv⟩)
    · cases h
  case alloc e => exact exec_alloc ok R hop h
  case box e x => exact exec_box R E hop h
  case build t parts => exact (exec_build ok R E hop h).fine R
  case buildSlice t len parts => exact exec_buildSlice ok R E hop h
  case load t a => exact (exec_load ok R E hop h).fineS.fine R
  case store t a x => exact exec_store ok R E hop h
  case nilCheck x => exact (exec_nilCheck R E hop h).fine R
  case binOp op t x y yt => exact (exec_binOp ok R E hop h).fine R
  case unOp op t x =>
    split at h
    case h_2 => cases h
    rename_i a ha
    refine FineS.fine R (FineS.of_one h fun v hv => ?_)
    obtain ⟨r1, r2⟩ := unOp_sound (P := P) (w := w) (E _ _ ha) hv
    exact ⟨v, by simp only [execOp, hop, Sem.run_bind, r1, Result.andThen_ok, Sem.run_pure], r2⟩
  case convert s d x => exact (exec_convert ok R E hop h).elim (·.fine R) (·.1)
  case makeInterface t x => exact (exec_makeInterface ok R E hop h).fine R
  case makeFunc fn a b => exact (exec_makeFunc R E h hop).fine R
  case makeMap t r => exact exec_makeMap ok R E h hop
  case makeSlice t l c => exact exec_makeSlice ok R E hop h
  case slice t x lo hi mx => exact (exec_slice ok R E hop h).fineS.fine R
  case fieldAddr s x f => exact (exec_fieldAddr ok R E hop h).fine R
  case field s x f => exact (exec_field ok R E hop h).fine R
  case indexAddr t x ix => exact (exec_indexAddr ok R E hop h).fine R
  case index t x ix => exact (exec_index ok R E hop h).fine R
  case lookup t x k q => exact (exec_lookup ok R E h hop).fine R
  case mapUpdate t m k x => exact exec_mapUpdate ok R E hop h
  case typeAssert x xt t q => exact (exec_typeAssert ok R E h hop).fine R
  case extract x i => exact (exec_extract R E hop h).fine R
  case call c =>
    cases hb : c.callee with
    | builtin b =>
      rw [hb] at h
      dsimp only at h
      split at h
      case h_2 => cases h
      rename_i args hargs
      exact (exec_builtin ok R E hop hb hargs h).elim (·.fine R) (·.1)
    | value f =>
      rw [hb] at h
      dsimp only at h
      split at h
      case h_2 => cases h
      rename_i fv args hf hargs
      exact (exec_invoke ok R E hop hb hf hargs h).elim (·.fine R) (·.1)
    | invoke r name =>
      rw [hb] at h
      dsimp only at h
      split at h
      case h_2 => cases h
      rename_i t v args hf hargs
      exact (exec_method ok E hop hb hf hargs h).fine R
  case defer c => exact exec_defer R E hop h

end
end Go.Wvm
