/- Regions that draw their order: what stays may be looked at first, and a block that is put there may be put off. -/
import Derived.Test.YtnefhpkkbehjeaaGreatDoorWvmDraw
set_option linter.unusedSimpArgs false
set_option linter.unusedVariables false
namespace Go.Wvm
open Go.RowKit

section
variable {P : Program} {vp : VP} {μ : Mu} {ro : Nat} {w0 : Base} {V V' : VW} {w : World}

/-! ### What stays -/
/-- What is known to stay, of a world. -/
def SE (P : Program) (μ : Mu) (w1 : World) : DE → Prop
  | .load t a v => ∀ a' v', VR μ (.pointer (some a)) (.pointer (some a')) → VR μ v v' → (loadVar t a').run P w1 = .ok v' w1
  | .peq t a b r => ∀ a' b', VR μ (.pointer (some a)) (.pointer (some a')) → VR μ (.pointer (some b)) (.pointer (some b')) → (Op.equal t (.pointer (some a')) (.pointer (some b'))).run P w1 = .ok r w1
  | .txt s d a n c r => ∀ (x' : Value), VR μ (.slice (some a) n c) x' → ∀ (o : Oper) (x : Operand) (ρ : Operand → Value), o.op = .convert s d x → ρ x = x' → (execOp ρ o).run P w1 = .ok (.value (.string ⟨⟨r⟩⟩)) w1
def SX (P : Program) (μ : Mu) (D : List DE) (w1 : World) : Prop := ∀ e ∈ D, SE P μ w1 e
/-- What is there at the start. -/
def HasE (μ : Mu) : DE → Prop
  | .load _ a v => (a.spot = none → ∃ L, μ a.block = some L) ∧ ∃ v', VR μ v v'
  | .peq _ a b _ => (∃ L, μ a.block = some L) ∧ ∃ L, μ b.block = some L
  | .txt _ _ a _ _ _ => ∃ L, μ a.block = some L
def HasX (μ : Mu) (D : List DE) : Prop := ∀ e ∈ D, HasE μ e

theorem keepsX_mem : ∀ {D : List DE} {V : VW}, keepsX vp D V = true → ∀ e ∈ D, keepsE vp e V = true
  | [], _, _, _, h => by cases h
  | d :: r, V, h, e, hm => by
    unfold keepsX at h
    split at h
    case h_2 => cases h
    rename_i h1
    cases hm with
    | head => exact h1
    | tail _ hm => exact keepsX_mem h e hm
theorem keepsX_of : ∀ {D : List DE} {V : VW}, (∀ e ∈ D, keepsE vp e V = true) → keepsX vp D V = true
  | [], _, _ => rfl
  | d :: r, V, h => by
    unfold keepsX
    rw [h d (.head _)]
    exact keepsX_of fun e he => h e (.tail _ he)
theorem keepsH_mem : ∀ {H : List VW} {e : DE}, keepsH vp e H = true → ∀ x ∈ H, keepsE vp e x = true
  | [], _, _, _, h => by cases h
  | y :: r, e, h, x, hm => by
    unfold keepsH at h
    split at h
    case h_2 => cases h
    rename_i h1
    cases hm with
    | head => exact h1
    | tail _ hm => exact keepsH_mem h x hm

theorem txtV_has {s d : TypeId} {a : Addr} {n : Nat} {r : List UInt8} (h : txtV vp s d a n V = some r) : ∃ o, V.heap.get a.block = some o := by
  unfold txtV at h
  split at h
  case h_2 => cases h
  split at h
  case h_2 => cases h
  rename_i hg _
  exact ⟨_, hg⟩

theorem keepsE_has (ok : VPok P vp) (R : Rel μ ro w0 V w) {e : DE} (h : keepsE vp e V = true) : HasE μ e := by
  cases e with
  | load t a v =>
    simp only [keepsE] at h
    split at h
    case h_2 => cases h
    rename_i u hu
    obtain ⟨h1, h2⟩ := veqB_spec h
    subst h1
    obtain ⟨b, o, sp⟩ := a
    cases sp with
    | none =>
      have h1' : loadC vp t ⟨b, o, none⟩ V = some v := hu
      unfold loadC at h1'
      split at h1'
      case h_2 => cases h1'
      rename_i i n c d u tt ht hg hsp
      obtain ⟨L, O, k1, k2, k3⟩ := R.obj _ _ hg
      simp only at k1
      obtain ⟨v', _, r2⟩ := loadV_sound (P := P) ok R (VR.ptr k1 (o := o)) hu
      exact ⟨fun _ => ⟨L, k1⟩, v', r2⟩
    | some s =>
      have h1' : loadG vp t ⟨b, o, some s⟩ V = some v := hu
      have h1'' : loadG vp t ⟨b, o, some 0⟩ V = some v := h1'
      obtain ⟨v', _, r2⟩ := loadG_all (P := P) ok R h1''
      exact ⟨fun hh => (by cases hh), v', r2⟩
  | peq t a b r =>
    simp only [keepsE] at h
    have : (∃ x, V.heap.get a.block = some x) ∧ ∃ x, V.heap.get b.block = some x := by
      split at h
      · rename_i h1 h2 _; exact ⟨⟨_, h1⟩, ⟨_, h2⟩⟩
      · rename_i h1 h2 _; exact ⟨⟨_, h1⟩, ⟨_, h2⟩⟩
      · cases h
    obtain ⟨⟨x, hx⟩, ⟨y, hy⟩⟩ := this
    obtain ⟨L, _, k1, _⟩ := R.obj _ _ hx
    obtain ⟨M, _, m1, _⟩ := R.obj _ _ hy
    exact ⟨⟨L, k1⟩, ⟨M, m1⟩⟩
  | txt s d a n c r =>
    simp only [keepsE] at h
    split at h
    case h_2 => cases h
    rename_i l hl
    obtain ⟨x, hx⟩ := txtV_has hl
    obtain ⟨L, _, k1, _⟩ := R.obj _ _ hx
    exact ⟨L, k1⟩

theorem txt_sound (ok : VPok P vp) (R : Rel μ ro w0 V w) {s d : TypeId} {a : Addr} {n c : Nat} {r : List UInt8} (h : txtV vp s d a n V = some r) {y : Value} (hr : VR μ (.slice (some a) n c) y) {o : Oper} {x : Operand} {ρ : Operand → Value} (hop : o.op = .convert s d x) (hy : ρ x = y) :
    (execOp ρ o).run P w = .ok (.value (.string ⟨⟨r⟩⟩)) w := by
  unfold txtV at h
  split at h
  case h_2 => cases h
  rename_i e _ _ _ _ _ _ _ _ hs hd
  split at h
  case h_2 => cases h
  rename_i m cc dv u tt he hg hsp
  split at h
  case h_2 => cases h
  rename_i l hl
  obtain ⟨infs, fs⟩ := ok.fits hs
  obtain ⟨infd, fd⟩ := ok.fits hd
  obtain ⟨infe, fe⟩ := ok.fits he
  have es := fs.run_underlying w
  have ed := fd.run_underlying w
  have ee := fe.run_underlying w
  simp only at es ed ee
  cases hr with
  | slice hm ho hc hll hu =>
    rename_i b o1 o' c' L
    obtain ⟨L', O, h1, h2, h3⟩ := R.obj _ _ hg
    rw [hm] at h1; cases h1
    obtain ⟨_, C, e', lo, hi, rfl, hcs⟩ := h3
    obtain ⟨l', m1, m2, m3⟩ := loadL_rel hcs _ _ _ hl
    have hll' := bytesL_flat h m1
    subst hll'
    have hload := run_loadCells_rel (P := P) (w := w) (o := o' + L.off) h2 l' (fun j v hj => by
      have hj' := lt_of_some hj
      have := ho (by omega)
      subst this
      rw [show o' + L.off + j = o' + j + L.off by omega]; exact m3 j v hj)
    rw [m2] at hload
    simp only [execOp, hop, convert, es, ed, ee, hy, Sem.run_bind, Result.andThen_ok, Conv.bytesToString, hload]
    rw [forIn_mk, forIn_bytes (P := P) (w := w) (fun n r => rfl) h]
    simp

theorem keepsE_sound (ok : VPok P vp) {μ0 : Mu} (e0 : Ext μ0 μ) (R : Rel μ ro w0 V w) {e : DE} (h : keepsE vp e V = true) : SE P μ0 w e := by
  cases e with
  | load t a v =>
    simp only [keepsE] at h
    split at h
    case h_2 => cases h
    rename_i u hu
    obtain ⟨h1, h2⟩ := veqB_spec h
    subst h1
    intro a' v' ha hv
    obtain ⟨v2, r1, r2⟩ := loadV_sound ok R (ha.mono e0) hu
    rw [r1, uniqS_eq h2 r2 (hv.mono e0)]
  | peq t a b r =>
    intro a' b' ha hb
    simp only [keepsE] at h
    split at h
    · rename_i _ _ hp; exact ptrEq_sound ok R (ha.mono e0) (hb.mono e0) hp
    · rename_i _ _ hp; exact ptrEq_sound ok R (ha.mono e0) (hb.mono e0) hp
    · cases h
  | txt s d a n c r =>
    simp only [keepsE] at h
    split at h
    case h_2 => cases h
    rename_i l hl
    have hl2 : r = l := by have := leq_eq r l; rw [this] at h; exact of_decide_eq_true h
    subst hl2
    intro x' hx o x ρ hop hy
    exact txt_sound ok R hl (hx.mono e0) hop hy

theorem keepsX_sound (ok : VPok P vp) {μ0 : Mu} (e0 : Ext μ0 μ) (R : Rel μ ro w0 V w) {D : List DE} (h : keepsX vp D V = true) : SX P μ0 D w :=
  fun e he => keepsE_sound ok e0 R (keepsX_mem h e he)
theorem keepsX_has (ok : VPok P vp) (R : Rel μ ro w0 V w) {D : List DE} (h : keepsX vp D V = true) : HasX μ D :=
  fun e he => keepsE_has ok R (keepsX_mem h e he)

theorem ptr_old {μ0 : Mu} (e0 : Ext μ0 μ) {a a' : Addr} (h : VR μ (.pointer (some a)) (.pointer (some a'))) (hs : a.spot = none → ∃ L, μ0 a.block = some L) : VR μ0 (.pointer (some a)) (.pointer (some a')) := by
  cases h with
  | glob g o => exact .glob g o
  | ptr hm2 =>
    obtain ⟨L, hL⟩ := hs rfl
    simp only at hL
    have := e0 _ _ hL
    rw [hm2] at this
    cases this
    exact .ptr hL

/-- What an operation yields in each world in which that stays. -/
theorem stayV_sound {μ0 : Mu} (e0 : Ext μ0 μ) {fr : VF} {ρ : Operand → Value} (E : Ev μ fr ρ) {o : Oper} {e : DE} {v : Value} (h : stayV vp fr o V = some (e, v)) (hH : HasE μ0 e) :
    loadB o = true ∧ ∃ v', VR μ v v' ∧ ∀ w1, SE P μ0 w1 e → (execOp ρ o).run P w1 = .ok (.value v') w1 := by
  unfold stayV at h
  split at h
  case h_5 => cases h
  · -- a load
    rename_i t x hop
    split at h
    case h_2 => cases h
    rename_i ad hx
    split at h
    case h_2 => cases h
    rename_i u hu
    split at h
    case h_2 => cases h
    simp only [Option.some.injEq, Prod.mk.injEq] at h
    obtain ⟨rfl, rfl⟩ := h
    obtain ⟨hL, v', hv⟩ := hH
    have hr := E _ _ hx
    obtain ⟨a2, ea⟩ := VR.ptr_inv hr
    rw [ea] at hr
    refine ⟨by unfold loadB; rw [hop], v', hv.mono e0, fun w1 hw1 => ?_⟩
    simp [execOp, hop, Instr.loadAt, ea, sureAddr_ptr, hw1 _ _ (ptr_old e0 hr hL) hv]
  · -- two addresses
    rename_i t x y yt hop
    split at h
    case h_2 => cases h
    rename_i a b ha hb
    split at h
    case h_2 => cases h
    rename_i r hr
    simp only [Option.some.injEq, Prod.mk.injEq] at h
    obtain ⟨rfl, rfl⟩ := h
    obtain ⟨⟨L, hL⟩, ⟨M, hM⟩⟩ := hH
    have ha := E _ _ ha
    have hb := E _ _ hb
    obtain ⟨a', ea⟩ := VR.ptr_inv ha
    obtain ⟨b', eb⟩ := VR.ptr_inv hb
    rw [ea] at ha
    rw [eb] at hb
    refine ⟨by unfold loadB; rw [hop], .bool r, .bool _, fun w1 hw1 => ?_⟩
    have hg : (eqGuard .eql t x y (.pointer (some a')) (.pointer (some b'))).run P w1 = .ok () w1 := eqGuard_ptr .eql t x y a' b'
    simp only [execOp, hop, ea, eb, Sem.run_bind, hg, Result.andThen_ok]
    show ((do pure (.bool (← Op.equal t (.pointer (some a')) (.pointer (some b')))) : Sem Value).run P w1).andThen _ = _
    simp only [Sem.run_bind, hw1 _ _ (ptr_old e0 ha fun _ => ⟨L, hL⟩) (ptr_old e0 hb fun _ => ⟨M, hM⟩), Result.andThen_ok, Sem.run_pure]
  · rename_i t x y yt hop
    split at h
    case h_2 => cases h
    rename_i a b ha hb
    split at h
    case h_2 => cases h
    rename_i r hr
    simp only [Option.some.injEq, Prod.mk.injEq] at h
    obtain ⟨rfl, rfl⟩ := h
    obtain ⟨⟨L, hL⟩, ⟨M, hM⟩⟩ := hH
    have ha := E _ _ ha
    have hb := E _ _ hb
    obtain ⟨a', ea⟩ := VR.ptr_inv ha
    obtain ⟨b', eb⟩ := VR.ptr_inv hb
    rw [ea] at ha
    rw [eb] at hb
    refine ⟨by unfold loadB; rw [hop], .bool (!r), .bool _, fun w1 hw1 => ?_⟩
    have hg : (eqGuard .neq t x y (.pointer (some a')) (.pointer (some b'))).run P w1 = .ok () w1 := eqGuard_ptr .neq t x y a' b'
    simp only [execOp, hop, ea, eb, Sem.run_bind, hg, Result.andThen_ok]
    show ((do pure (.bool (!(← Op.equal t (.pointer (some a')) (.pointer (some b'))))) : Sem Value).run P w1).andThen _ = _
    simp only [Sem.run_bind, hw1 _ _ (ptr_old e0 ha fun _ => ⟨L, hL⟩) (ptr_old e0 hb fun _ => ⟨M, hM⟩), Result.andThen_ok, Sem.run_pure]
  · -- a text
    rename_i s d x hop
    split at h
    case h_2 => cases h
    rename_i a n c hx
    split at h
    case h_2 => cases h
    rename_i l hl
    simp only [Option.some.injEq, Prod.mk.injEq] at h
    obtain ⟨rfl, rfl⟩ := h
    obtain ⟨L, hL⟩ := hH
    have hr := E _ _ hx
    refine ⟨by unfold loadB; rw [hop], .string ⟨⟨l⟩⟩, .str _, fun w1 hw1 => hw1 _ ?_ o x ρ hop rfl⟩
    generalize ρ x = y at hr
    cases hr with
    | slice hm ho hc hll hu =>
      simp only at hL
      have := e0 _ _ hL
      rw [hm] at this
      cases this
      exact .slice hL ho hc hll hu

theorem pickX0_some {H : List VW} {ops : Array Oper} {s : Array Bool} {fr : VF} : ∀ {l : List Nat} {j : Nat} {o : Oper} {e : DE} {v : Value}, pickX0 vp H ops s fr V l = some (j, o, e, v) →
    j ∈ l ∧ ops[j]? = some o ∧ Region.free .any ops s j = true ∧ wantedV o ops.toList fr.tm = true ∧ stayV vp fr o V = some (e, v) ∧ keepsH vp e H = true
  | [], j, o, e, v, h => by cases h
  | i :: r, j, o, e, v, h => by
    have more : pickX0 vp H ops s fr V r = some (j, o, e, v) → j ∈ i :: r ∧ ops[j]? = some o ∧ Region.free .any ops s j = true ∧ wantedV o ops.toList fr.tm = true ∧ stayV vp fr o V = some (e, v) ∧ keepsH vp e H = true := fun h => by
      obtain ⟨h1, h2⟩ := pickX0_some h
      exact ⟨List.mem_cons_of_mem _ h1, h2⟩
    unfold pickX0 at h
    split at h
    · rename_i o' ho hf
      split at h
      · rename_i e' v' hw hst
        split at h
        · rename_i hk
          simp only [Option.some.injEq, Prod.mk.injEq] at h
          obtain ⟨rfl, rfl, rfl, rfl⟩ := h
          exact ⟨List.mem_cons_self, ho, hf, hw, hst, hk⟩
        · exact more h
      · exact more h
    · exact more h

theorem pickA0_some {ops : Array Oper} {s : Array Bool} {fr : VF} : ∀ {l : List Nat} {j : Nat} {o : Oper} {p : Pay}, pickA0 vp ops s fr l = some (j, o, p) →
    j ∈ l ∧ ops[j]? = some o ∧ Region.free .any ops s j = true ∧ wantedV o ops.toList fr.tm = true ∧ freshT fr o = true ∧ payV vp fr o = some p
  | [], j, o, p, h => by cases h
  | i :: r, j, o, p, h => by
    have more : pickA0 vp ops s fr r = some (j, o, p) → j ∈ i :: r ∧ ops[j]? = some o ∧ Region.free .any ops s j = true ∧ wantedV o ops.toList fr.tm = true ∧ freshT fr o = true ∧ payV vp fr o = some p := fun h => by
      obtain ⟨h1, h2⟩ := pickA0_some h
      exact ⟨List.mem_cons_of_mem _ h1, h2⟩
    unfold pickA0 at h
    split at h
    · rename_i o' ho hf
      split at h
      · rename_i p' hw hp
        simp only [Option.some.injEq, Prod.mk.injEq] at h
        obtain ⟨rfl, rfl, rfl⟩ := h
        rw [Bool.and_eq_true] at hw
        exact ⟨List.mem_cons_self, ho, hf, hw.1, hw.2, hp⟩
      · exact more h
    · exact more h

/-! ### A block that is put there -/
structure PayR (P : Program) (μ : Mu) (p : Pay) (l' : List Value) : Prop where
  rel : LR μ p.l l'
  one : oneCells p.l = true
  len : ∀ n, p.k = some n → n * p.u = p.l.length
theorem PayR.mono {μ' : Mu} (e : Ext μ μ') {p : Pay} {l' : List Value} (h : PayR P μ p l') : PayR P μ' p l' := ⟨h.rel.mono e, h.one, h.len⟩

theorem payV_sound (ok : VPok P vp) {fr : VF} {ρ : Operand → Value} (E : Ev μ fr ρ) {o : Oper} {p : Pay} (h : payV vp fr o = some p) :
    ∃ l', PayR P μ p l' ∧ ∀ w1 : World, (execOp ρ o).run P w1 = .ok (.value (p.val w1.heap.size)) { w1 with heap := w1.heap.push (.cells ⟨l'⟩ p.e) } := by
  unfold payV at h
  split at h
  case h_4 => cases h
  · rename_i e hop
    split at h
    case h_2 => cases h
    rename_i i he
    split at h
    case h_2 => cases h
    rename_i z hz
    split at h
    case h_2 => cases h
    rename_i hone
    cases h
    obtain ⟨inf, f⟩ := ok.fits he
    exact ⟨cellsL z, ⟨flat_list (f.zero z hz).2.1, hone, fun n hn => by cases hn⟩, fun w1 => by simp [execOp, hop, Instr.alloc, f.run_zero w1 hz, newVar, newRow, cells_eq, Pay.val]⟩
  · rename_i e x hop
    split at h
    case h_2 => cases h
    rename_i v hx
    split at h
    case h_2 => cases h
    rename_i hone
    cases h
    exact ⟨_, ⟨cellsL_rel (E _ _ hx), hone, fun n hn => by cases hn⟩, fun w1 => by simp [execOp, hop, Instr.box, newVar, newRow, Pay.val]⟩
  · rename_i t len parts hop
    split at h
    case h_2 => cases h
    rename_i e _ _ _ _ ps ht hps
    split at h
    case h_2 => cases h
    rename_i ei he
    split at h
    case h_2 => cases h
    rename_i z hz hb
    split at h
    case h_2 => cases h
    rename_i cs hcs
    split at h
    case h_2 => cases h
    rename_i hone hlen
    cases h
    obtain ⟨inf, f⟩ := ok.fits ht
    obtain ⟨infe, fe⟩ := ok.fits he
    have hb := Nat.le_of_ble_eq_true hb
    have hlen := Nat.eq_of_beq_eq_true hlen
    have hzl := (fe.zero z hz).2.2
    obtain ⟨r', k1, k2⟩ := fill_sound _ (E.parts hps) ((flat_list (μ := μ) (fe.zero z hz).2.1).rep len) hcs
    refine ⟨r', ⟨k2, hone, fun n hn => by cases hn; exact hlen.symm⟩, fun w1 => ?_⟩
    have eu := f.run_underlying w1
    simp only at eu
    have h24 : ¬ (len * ei.size > 2 ^ 24) := by unfold small at hb; omega
    have hr := range_rep (cellsL z) len
    rw [hzl] at hr
    simp only [execOp, hop, Instr.buildSlice, Sem.run_bind, eu, Result.andThen_ok, fe.run_sizeOf, if_neg h24, Pay.val]
    by_cases h0 : len * ei.size = 0
    · have hrep : repL (cellsL z) len = [] := List.eq_nil_of_length_eq_zero (by rw [repL_length, hzl]; exact h0)
      rw [hrep] at k1
      have hr0 : ∀ f : Nat → Value, (Array.range (len * ei.size)).map f = ⟨[]⟩ := fun f => by rw [h0]; simp
      simp only [if_pos h0, Sem.run_pure, Result.andThen_ok, hr0, Array.toList_map, k1, newRow, Sem.run_bind, run_newObj]
    · simp only [if_neg h0, Sem.run_bind, fe.run_zero w1 hz, Result.andThen_ok, Sem.run_pure, cells_eq, hr, Array.toList_map, k1, newRow, run_newObj]

/-- .. a block that stays as it is and has no number yet. -/
def Base.hold (B : Base) (k : Nat) (O : Obj) (V : VW) : Base := ⟨B.world, fun x => if x = k then some O else B.guard x, fun b => V.heap.get b = none ∨ B.dead b⟩
theorem Rel.hold (R : Rel μ ro w0 V w) (O : Obj) : Rel μ ro (w0.hold w.heap.size O V) V { w with heap := w.heap.push O } where
  below := (R.grows O).below
  fresh := R.fresh
  obj := (R.grows O).obj
  inj := R.inj
  new := R.new
  tot := R.tot
  ron := R.ron
  glob := (R.grows O).glob
  keep k O' h := by
    unfold Base.hold at h
    simp only at h
    by_cases e : k = w.heap.size
    · rw [if_pos e] at h; cases h; subst e; simp
    · rw [if_neg e] at h; exact (R.grows O).keep k O' h
  lt := (R.grows O).lt
  apart b L hb hm := by
    have := R.lt b L hb hm
    show (if L.blk = w.heap.size then some O else w0.guard L.blk) = none
    rw [if_neg (by omega)]; exact R.apart b L hb hm
  stale b hb hd := hd.elim id (R.stale b hb)

/-- .. is given its number. -/
theorem Rel.settle {rb : Nat} {p : Pay} {l' : List Value} {Vc : VW} {μc : Mu} (R : Rel μ ro (w0.hold rb (.cells ⟨l'⟩ p.e) Vc) V w) (h0 : w0.guard rb = none) (hrb : w0.heap.size ≤ rb) (ec : Ext μc μ) (hold : ∀ b o, b < ro → Vc.heap.get b = some o → ∃ L, μc b = some L ∧ L.blk ≠ rb) (hp : PayR P μ p l') :
    Rel (μ.put V.next ⟨rb, 0, p.l.length, p.u⟩) ro w0 (V.add p.obj) w := by
  have hO : w.heap[rb]? = some (.cells ⟨l'⟩ p.e) := R.keep rb _ (by show (if rb = rb then _ else _) = _; rw [if_pos rfl])
  have R0 : Rel μ ro w0 V w :=
    { below := R.below
      fresh := R.fresh
      obj := R.obj
      inj := R.inj
      new := R.new
      tot := R.tot
      ron := R.ron
      glob := R.glob
      keep := fun k O h => by
        by_cases e : k = rb
        · subst e; rw [h0] at h; cases h
        · exact R.keep k O (by show (if k = rb then _ else _) = _; rw [if_neg e]; exact h)
      lt := R.lt
      apart := fun b L hb hm => by
        have := R.apart b L hb hm
        have this : (if L.blk = rb then _ else w0.guard L.blk) = none := this
        by_cases e : L.blk = rb
        · rw [e]; exact h0
        · rw [if_neg e] at this; exact this
      stale := fun b hb hd => R.stale b hb (.inr hd) }
  refine R0.adds (O := .cells ⟨l'⟩ p.e) (L := ⟨rb, 0, p.l.length, p.u⟩) hO hrb h0 (fun b o' L' hb hm => ?_) ⟨rfl, ⟨l'⟩, p.e, 0, 0, rfl, ?_⟩
  · rcases Nat.lt_or_ge b ro with hlt | hge
    · cases hv : Vc.heap.get b with
      | none => rw [R.stale b hlt (.inl hv)] at hb; cases hb
      | some oc =>
        obtain ⟨L2, m1, m2⟩ := hold b oc hlt hv
        have := ec _ _ m1
        rw [hm] at this
        cases this
        exact Ne.symm m2
    · have := R.apart b L' hge hm
      have this : (if L'.blk = rb then _ else w0.guard L'.blk) = none := this
      intro e
      rw [if_pos e.symm] at this
      cases this
  · have := cellsR_new hp.rel [] rb p.l.length p.u (Nat.le_refl _) (by have := hp.rel.length; omega) (t := some p.e) (fun x hx => by cases hx; rfl)
    rw [List.append_nil] at this
    exact this
theorem Pay.val_rel {b rb : Nat} {p : Pay} {l' : List Value} (hp : PayR P μ p l') : VR (μ.put b ⟨rb, 0, p.l.length, p.u⟩) (p.val b) (p.val rb) := by
  unfold Pay.val
  split
  · exact VR.new_ptr (L := ⟨rb, 0, p.l.length, p.u⟩) rfl
  · rename_i n hn
    exact VR.new_slice (L := ⟨rb, 0, p.l.length, p.u⟩) rfl (Nat.le_refl _) (Nat.le_refl _) ⟨fun _ => rfl, fun _ => hp.len n hn⟩
theorem Pay.val_not {b : Nat} {p : Pay} (q : Bool) : p.val b ≠ .bool q := by
  unfold Pay.val
  split <;> intro h <;> cases h
end
end Go.Wvm
