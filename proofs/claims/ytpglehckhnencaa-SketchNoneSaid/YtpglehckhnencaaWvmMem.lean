/- How the small machine's memory stands for the model's; loads, stores, new blocks. -/
import Derived.Test.YtpglehckhnencaaWvmRel
import Derived.Laws.Cells
set_option linter.unusedSimpArgs false
set_option linter.unusedVariables false
namespace Go.Wvm
open Go.RowKit

/-! ### Tables -/
structure VPok (P : Program) (vp : VP) : Prop where
  ty : ∀ t i, vp.ty.get t = some i → tyOf P t = some i
  fn : ∀ f fn, vp.fn.get f = some fn → fnOf P f = some fn
  ext : ∀ f k, vp.ext.get f = some k → extOf P f = some k
  plain : ∀ t, vp.plain t = true → P.eqGuardType P.depth t = false ∧ P.stoodInHeld t = false

theorem VP.of_ok (P : Program) : VPok P (VP.of P) :=
  ⟨fun t i h => (get_tab _ _ _ _ _ h).elim id (fun h => by rw [Tr.get_nil] at h; cases h),
   fun t i h => (get_tab _ _ _ _ _ h).elim id (fun h => by rw [Tr.get_nil] at h; cases h),
   fun t i h => (get_tab _ _ _ _ _ h).elim id (fun h => by rw [Tr.get_nil] at h; cases h),
   fun t h => by simpa [VP.of] using h⟩

structure TyFits (P : Program) (t : TypeId) (i : TyI) (inf : TypeInfo) : Prop where
  info : P.info? t = some inf
  und : P.underlying t = some i.desc
  size : inf.size = i.size
  bytes : inf.bytes = i.bytes
  zero : ∀ z, i.zero = some z → inf.zero = some z ∧ flat 10 z = true ∧ (cellsL z).length = i.size
  agg : i.agg = aggOf i.desc

theorem zeroOf_some {n : Nat} {a : Option Value} {z : Value} (h : zeroOf n a = some z) : a = some z ∧ flat 10 z = true ∧ (cellsL z).length = n := by
  unfold zeroOf at h
  split at h
  · split at h
    · rename_i hh
      cases h
      rw [Bool.and_eq_true] at hh
      exact ⟨rfl, hh.1, Nat.eq_of_beq_eq_true hh.2⟩
    · cases h
  · cases h

theorem VPok.fits {P : Program} {vp : VP} (ok : VPok P vp) {t : TypeId} {i : TyI} (h : vp.ty.get t = some i) : ∃ inf, TyFits P t i inf := by
  have h := ok.ty t i h
  unfold tyOf at h
  split at h
  · rename_i inf d h1 h2
    cases h
    exact ⟨inf, h1, h2, rfl, rfl, fun z hz => zeroOf_some hz, rfl⟩
  · cases h

section
variable {P : Program} {t : TypeId} {i : TyI} {inf : TypeInfo} (f : TyFits P t i inf) (w : World)
include f
theorem TyFits.run_typeInfo : (typeInfo t).run P w = .ok inf w := by simp [typeInfo, f.info]
theorem TyFits.run_underlying : (underlying t).run P w = .ok i.desc w := by simp [underlying, f.und]
theorem TyFits.run_sizeOf : (sizeOf t).run P w = .ok i.size w := by simp [sizeOf, f.run_typeInfo, f.size]
theorem TyFits.run_zero {z : Value} (hz : i.zero = some z) : (zeroValue t).run P w = .ok z w := by simp [zeroValue, f.run_typeInfo, (f.zero z hz).1]
theorem TyFits.run_isAgg : (isAgg t).run P w = .ok i.agg w := by
  simp only [isAgg, Sem.run_bind, f.run_underlying, Result.andThen_ok, f.agg]
  cases i.desc <;> rfl
end

/-! ### Temporaries -/
/-- How a frame's temporaries stand for the model's. -/
structure TmR (μ : Mu) (tm : Tr Value) (nt : Nat) (tmps : Array Value) : Prop where
  size : tmps.size = nt
  tmp : ∀ t v, tm.get t = some v → VR μ v (tmps.getD t undef)
  non : ∀ t, tm.get t = none → tmps.getD t undef = undef

theorem TmR.mono {μ μ' : Mu} (e : Ext μ μ') {tm : Tr Value} {nt : Nat} {tmps : Array Value} (h : TmR μ tm nt tmps) : TmR μ' tm nt tmps :=
  ⟨h.size, fun t v k => (h.tmp t v k).mono e, h.non⟩

theorem getD_set {A : Array Value} {d t : Nat} {v : Value} : (A.setIfInBounds d v).getD t undef = if t = d ∧ d < A.size then v else A.getD t undef := by
  simp only [Array.getD_eq_getD_getElem?]
  by_cases h : t = d
  · subst h
    by_cases hs : t < A.size
    · rw [if_pos ⟨rfl, hs⟩, Array.getElem?_setIfInBounds_self_of_lt hs]; rfl
    · rw [if_neg (fun k => hs k.2), Array.getElem?_eq_none (by simp; omega), Array.getElem?_eq_none (by omega)]
  · rw [if_neg (fun k => h k.1), Array.getElem?_setIfInBounds_ne (Ne.symm h)]

theorem blt_true' {a b : Nat} (h : a < b) : Nat.blt a b = true := Nat.ble_eq_true_of_le h
theorem lt_of_blt' {a b : Nat} (h : Nat.blt a b = true) : a < b := Nat.le_of_ble_eq_true h

theorem TmR.set {μ : Mu} {tm : Tr Value} {nt : Nat} {tmps : Array Value} (h : TmR μ tm nt tmps) (d : Nat) {v v' : Value} (hv : VR μ v v') :
    TmR μ (match Nat.blt d nt with | true => tm.set d v | false => tm) nt (tmps.setIfInBounds d v') := by
  have hg : ∀ t, (match Nat.blt d nt with | true => tm.set d v | false => tm).get t = if t = d ∧ d < tmps.size then some v else tm.get t := by
    intro t
    rw [h.size]
    split
    · rename_i hb
      have hb := lt_of_blt' hb
      rw [Tr.get_set]
      by_cases e : t = d
      · rw [if_pos e, if_pos ⟨e, hb⟩]
      · rw [if_neg e, if_neg (fun k => e k.1)]
    · rename_i hb
      have hb : ¬ d < nt := fun k => by rw [blt_true' k] at hb; cases hb
      rw [if_neg (fun k => hb k.2)]
  refine ⟨by simpa using h.size, fun t u hu => ?_, fun t hu => ?_⟩
  · rw [hg] at hu
    rw [getD_set]
    by_cases e : t = d ∧ d < tmps.size
    · rw [if_pos e] at hu; cases hu; rw [if_pos e]; exact hv
    · rw [if_neg e] at hu; rw [if_neg e]; exact h.tmp t u hu
  · rw [hg] at hu
    rw [getD_set]
    by_cases e : t = d ∧ d < tmps.size
    · rw [if_pos e] at hu; cases hu
    · rw [if_neg e] at hu; rw [if_neg e]; exact h.non t hu

theorem setPs_sound {μ : Mu} {nt : Nat} : ∀ {ps : List Tmp} {vs vs' : List Value} {tm tm' : Tr Value} {tmps : Array Value}, TmR μ tm nt tmps → LR μ vs vs' → setPs nt ps vs tm = some tm' →
    vs'.length = ps.length ∧ TmR μ tm' nt ((ps.zip vs').foldl (fun tmps (t, a) => tmps.setIfInBounds t a) tmps)
  | [], [], [], _, _, _, h, .nil, k => by cases k; exact ⟨rfl, h⟩
  | p :: ps, v :: vs, v' :: vs', tm, tm', tmps, h, .cons hv ht, k => by
    simp only [setPs] at k
    obtain ⟨h1, h2⟩ := setPs_sound (h.set p hv) ht k
    exact ⟨by simp [h1], h2⟩

/-! ### Memory -/
inductive MR (μ : Mu) : List (Value × Value) → List MapEntry → Prop
  | nil : MR μ [] []
  | cons {k v : Value} {e : MapEntry} {l : List (Value × Value)} {es : List MapEntry} (hk : VR μ k e.key) (hv : VR μ v e.val) (t : MR μ l es) : MR μ ((k, v) :: l) (e :: es)

theorem MR.mono {μ μ' : Mu} (e : Ext μ μ') {a : List (Value × Value)} {b : List MapEntry} (h : MR μ a b) : MR μ' a b := by
  induction h with
  | nil => exact .nil
  | cons hk hv _ ih => exact .cons (hk.mono e) (hv.mono e) ih

theorem MR.length {μ : Mu} {a : List (Value × Value)} {b : List MapEntry} (h : MR μ a b) : a.length = b.length := by
  induction h with
  | nil => rfl
  | cons _ _ _ ih => simp [ih]

/-- What a row of cells is known to hold lies there; and so many cells are there, not frozen, if they may be written. -/
structure CellsR (μ : Mu) (wr : Prop) (n : Nat) (c : Tr Value) (d : Option Value) (C : Array Value) (lo hi : Nat) (L : Loc) (t : Option (TypeId × Nat)) (e : TypeId) : Prop where
  val : ∀ i v, cellAt n c d i = some v → i < L.lim ∧ ∃ v', C[i + L.off]? = some v' ∧ VR μ v v'
  room : ∀ i, i < L.lim → i + L.off < C.size ∧ (fzOf t ≤ i → wr → ¬ (lo ≤ i + L.off ∧ i + L.off < hi))
  len : n ≤ L.lim
  ty : ∀ x k, t = some (x, k) → x = e ∧ L.off = 0 ∧ hi ≤ k ∧ (k = 0 → lo = 0)

def ObjR (μ : Mu) (wr : Prop) (o : VObj) (O : Obj) (L : Loc) : Prop :=
  match o with
  | .cells n c d u t => L.unit = u ∧ ∃ C e lo hi, O = .cells C e (lo, hi) ∧ CellsR μ wr n c d C lo hi L t e
  | .map es => L.off = 0 ∧ ∃ E cl, O = .map ⟨E⟩ cl ∧ MR μ es E
  | .iter s p => L.off = 0 ∧ O = .stringIter ⟨⟨s⟩⟩ p
  | .loop l => L.off = 0 ∧ ∃ R : Loop, O = .loop R ∧ R.state = l.state ∧ R.pending = l.pending ∧ R.fn = l.fn ∧ TmR μ l.tm l.nt R.tmps ∧ R.params.toList = l.params ∧ R.assign = l.assign ∧ R.body = l.body
  | .deferred c => L.off = 0 ∧ O = .deferred c ∧ ∀ l, c = some l → l = []

theorem ObjR.mono {μ μ' : Mu} (e : Ext μ μ') {wr wr' : Prop} (hw : wr' → wr) {o : VObj} {O : Obj} {L : Loc} (h : ObjR μ wr o O L) : ObjR μ' wr' o O L := by
  cases o with
  | cells n c d u t =>
    obtain ⟨h0, C, e', lo, hi, rfl, hc⟩ := h
    refine ⟨h0, C, e', lo, hi, rfl, fun i v hv => ?_, fun i hi => ⟨(hc.room i hi).1, fun q k => (hc.room i hi).2 q (hw k)⟩, hc.len, hc.ty⟩
    obtain ⟨h1, v', h2, h3⟩ := hc.val i v hv
    exact ⟨h1, v', h2, h3.mono e⟩
  | map es => obtain ⟨h0, E, cl, rfl, hm⟩ := h; exact ⟨h0, E, cl, rfl, hm.mono e⟩
  | iter s p => exact h
  | loop l =>
    obtain ⟨h0, R, rfl, h1, h2, h3, h4, h5⟩ := h
    exact ⟨h0, R, rfl, h1, h2, h3, h4.mono e, h5⟩
  | deferred c => exact h

structure Rel (μ : Mu) (ro : Nat) (w0 : World) (V : VW) (w : World) : Prop where
  below : Below w0.heap.size w0 w
  fresh : ∀ b, V.next ≤ b → μ b = none ∧ V.heap.get b = none
  obj : ∀ b o, V.heap.get b = some o → ∃ L O, μ b = some L ∧ w.heap[L.blk]? = some O ∧ ObjR μ True o O L
  inj : ∀ b b' L L' o o', b ≠ b' → V.heap.get b = some o → V.heap.get b' = some o' → μ b = some L → μ b' = some L' → L.blk ≠ L'.blk
  new : ∀ b L, ro ≤ b → μ b = some L → w0.heap.size ≤ L.blk
  tot : ∀ b, b < V.next → ∃ L, μ b = some L
  ron : ro ≤ V.next
  glob : ∀ g l, V.gl.get g = some l → g < w0.heap.size ∧ (∀ v ∈ l, flat 10 v = true) ∧ ∃ e fz, w.heap[g]? = some (.cells ⟨l⟩ e fz)

theorem Rel.lt {μ : Mu} {ro : Nat} {w0 : World} {V : VW} {w : World} (R : Rel μ ro w0 V w) {b : Nat} {o : VObj} (h : V.heap.get b = some o) : b < V.next := by
  rcases Nat.lt_or_ge b V.next with h' | h'
  · exact h'
  · rw [(R.fresh b h').2] at h; cases h

theorem heap_lt {w : World} {β : Nat} {O : Obj} (h : w.heap[β]? = some O) : β < w.heap.size := by
  rcases Nat.lt_or_ge β w.heap.size with h' | h'
  · exact h'
  · rw [Array.getElem?_eq_none h'] at h; cases h

/-- A run within the run: nothing that is there may be written. -/
theorem Rel.sub {μ : Mu} {ro : Nat} {w0 : World} {V : VW} {w : World} (R : Rel μ ro w0 V w) : Rel μ V.next w V w where
  below := Below.refl _ _
  fresh := R.fresh
  obj b o h := by
    obtain ⟨L, O, h1, h2, h3⟩ := R.obj b o h
    exact ⟨L, O, h1, h2, h3⟩
  inj := R.inj
  new b L hb h := by rw [(R.fresh b hb).1] at h; cases h
  tot := R.tot
  ron := Nat.le_refl _
  glob g l h := by
    obtain ⟨h1, h2, e, fz, h3⟩ := R.glob g l h
    exact ⟨heap_lt h3, h2, e, fz, h3⟩

/-- The same world with a draw more. -/
theorem Rel.drawn {μ : Mu} {ro : Nat} {w0 : World} {V : VW} {w : World} (R : Rel μ ro w0 V w) (n : Nat) : Rel μ ro w0 V { w with drawn := n } where
  below := ⟨R.below.os, R.below.tape, R.below.output, R.below.size, R.below.block⟩
  fresh := R.fresh
  obj := R.obj
  inj := R.inj
  new := R.new
  tot := R.tot
  ron := R.ron
  glob := R.glob

def Mu.put (μ : Mu) (b : Nat) (L : Loc) : Mu := fun x => if x = b then some L else μ x

theorem Mu.put_self (μ : Mu) (b : Nat) (L : Loc) : μ.put b L b = some L := by unfold Mu.put; rw [if_pos rfl]

theorem Mu.ext_put {μ : Mu} {b : Nat} {L : Loc} (h : μ b = none) : Ext μ (μ.put b L) := fun x y e => by
  unfold Mu.put
  by_cases k : x = b
  · subst k; rw [h] at e; cases e
  · rw [if_neg k]; exact e

/-- A new number for a block that has none yet. -/
theorem Rel.adds {μ : Mu} {ro : Nat} {w0 : World} {V : VW} {w : World} (R : Rel μ ro w0 V w) {o : VObj} {O : Obj} {L : Loc} (hO : w.heap[L.blk]? = some O) (hnew : w0.heap.size ≤ L.blk)
    (hfree : ∀ b o' L', V.heap.get b = some o' → μ b = some L' → L.blk ≠ L'.blk) (h : ObjR μ True o O L) : Rel (μ.put V.next L) ro w0 (V.add o) w where
  below := R.below
  fresh b hb := by
    simp only [VW.add] at hb ⊢
    refine ⟨?_, ?_⟩
    · unfold Mu.put; rw [if_neg (by omega)]; exact (R.fresh b (by omega)).1
    · rw [Tr.get_set, if_neg (by omega)]; exact (R.fresh b (by omega)).2
  obj b o' hb := by
    simp only [VW.add] at hb
    rw [Tr.get_set] at hb
    have he : Ext μ (μ.put V.next L) := Mu.ext_put (R.fresh _ (Nat.le_refl _)).1
    by_cases e : b = V.next
    · rw [if_pos e] at hb; cases hb
      exact ⟨L, O, by unfold Mu.put; rw [if_pos e], hO, h.mono he fun _ => trivial⟩
    · rw [if_neg e] at hb
      obtain ⟨L', O', h1, h2, h3⟩ := R.obj b o' hb
      exact ⟨L', O', he _ _ h1, h2, h3.mono he id⟩
  inj b b' L1 L2 o1 o2 hne h1 h2 m1 m2 := by
    simp only [VW.add] at h1 h2
    rw [Tr.get_set] at h1 h2
    unfold Mu.put at m1 m2
    by_cases e : b = V.next
    · rw [if_pos e] at m1; cases m1
      rw [if_neg (by omega)] at m2 h2
      exact hfree b' o2 L2 h2 m2
    · rw [if_neg e] at m1 h1
      by_cases e' : b' = V.next
      · rw [if_pos e'] at m2; cases m2
        exact Ne.symm (hfree b o1 L1 h1 m1)
      · rw [if_neg e'] at m2 h2
        exact R.inj b b' L1 L2 o1 o2 hne h1 h2 m1 m2
  new b L' hr hm := by
    unfold Mu.put at hm
    by_cases e : b = V.next
    · rw [if_pos e] at hm; cases hm; exact hnew
    · rw [if_neg e] at hm; exact R.new b L' hr hm
  tot b hb := by
    simp only [VW.add] at hb
    unfold Mu.put
    by_cases e : b = V.next
    · rw [if_pos e]; exact ⟨_, rfl⟩
    · rw [if_neg e]; exact R.tot b (by omega)
  ron := by simp only [VW.add]; have := R.ron; omega
  glob := R.glob

/-- The world has a block more. -/
theorem Rel.grows {μ : Mu} {ro : Nat} {w0 : World} {V : VW} {w : World} (R : Rel μ ro w0 V w) (O : Obj) : Rel μ ro w0 V { w with heap := w.heap.push O } where
  below := R.below.alloc R.below.size O
  fresh := R.fresh
  obj b o h := by
    obtain ⟨L, O', h1, h2, h3⟩ := R.obj b o h
    refine ⟨L, O', h1, ?_, h3⟩
    have := heap_lt h2
    show (w.heap.push O)[L.blk]? = _
    rw [Array.getElem?_push, if_neg (by omega)]; exact h2
  inj := R.inj
  new := R.new
  tot := R.tot
  ron := R.ron
  glob g l h := by
    obtain ⟨h1, h2, e, fz, h3⟩ := R.glob g l h
    refine ⟨h1, h2, e, fz, ?_⟩
    have := heap_lt h3
    show (w.heap.push O)[g]? = _
    rw [Array.getElem?_push, if_neg (by omega)]; exact h3

/-- A new block. -/
theorem Rel.alloc {μ : Mu} {ro : Nat} {w0 : World} {V : VW} {w : World} (R : Rel μ ro w0 V w) {o : VObj} {O : Obj} {m u : Nat} (h : ObjR μ True o O ⟨w.heap.size, 0, m, u⟩) :
    Rel (μ.put V.next ⟨w.heap.size, 0, m, u⟩) ro w0 (V.add o) { w with heap := w.heap.push O } :=
  (R.grows O).adds (O := O) (by simp) R.below.size (fun b o' L' hb hm => by
    obtain ⟨L, O', h1, h2, _⟩ := R.obj b o' hb
    rw [hm] at h1; cases h1
    have := heap_lt h2
    simp only; omega) h

/-- A block that may be written is changed. -/
theorem Rel.change {μ : Mu} {ro : Nat} {w0 : World} {V : VW} {w : World} (R : Rel μ ro w0 V w) {b : Nat} {L : Loc} {o o' : VObj} {O' : Obj} (hro : ro ≤ b)
    (hb : V.heap.get b = some o) (hm : μ b = some L) {H : Array Obj} (hs : H.size = w.heap.size) (h1 : H[L.blk]? = some O') (h2 : ∀ k, k ≠ L.blk → H[k]? = w.heap[k]?) (h : ObjR μ True o' O' L) :
    Rel μ ro w0 { V with heap := V.heap.set b o' } { w with heap := H } where
  below := R.below.trans ⟨rfl, rfl, rfl, by simp [hs], fun k hk => h2 k (by have := R.new b L hro hm; omega)⟩
  fresh b' hb' := by
    refine ⟨(R.fresh b' hb').1, ?_⟩
    have hb' : V.next ≤ b' := hb'
    have := R.lt hb
    show (V.heap.set b o').get b' = none
    rw [Tr.get_set, if_neg (by omega)]; exact (R.fresh b' hb').2
  obj b' o1 hb1 := by
    have hb1 : (V.heap.set b o').get b' = some o1 := hb1
    rw [Tr.get_set] at hb1
    by_cases e : b' = b
    · rw [if_pos e] at hb1; cases hb1
      exact ⟨L, O', by rw [e]; exact hm, h1, h.mono (Ext.refl _) fun _ => trivial⟩
    · rw [if_neg e] at hb1
      obtain ⟨L', O1, k1, k2, k3⟩ := R.obj b' o1 hb1
      have hne := R.inj b b' L L' o o1 (Ne.symm e) hb hb1 hm k1
      exact ⟨L', O1, k1, by show H[L'.blk]? = _; rw [h2 L'.blk (Ne.symm hne)]; exact k2, k3⟩
  inj b1 b2 L1 L2 o1 o2 hne k1 k2 m1 m2 := by
    have k1 : (V.heap.set b o').get b1 = some o1 := k1
    have k2 : (V.heap.set b o').get b2 = some o2 := k2
    rw [Tr.get_set] at k1 k2
    have live : ∀ x y, (if x = b then some o' else V.heap.get x) = some y → ∃ z, V.heap.get x = some z := by
      intro x y hx
      by_cases e : x = b
      · rw [e]; exact ⟨o, hb⟩
      · rw [if_neg e] at hx; exact ⟨y, hx⟩
    obtain ⟨z1, hz1⟩ := live _ _ k1
    obtain ⟨z2, hz2⟩ := live _ _ k2
    exact R.inj b1 b2 L1 L2 z1 z2 hne hz1 hz2 m1 m2
  new := R.new
  tot := R.tot
  ron := R.ron
  glob g l hl := by
    obtain ⟨q1, q2, e, fz, q3⟩ := R.glob g l hl
    have hnew := R.new b L hro hm
    exact ⟨q1, q2, e, fz, by show H[g]? = _; rw [h2 g (by omega)]; exact q3⟩

/-- A block is forgotten. -/
theorem Rel.forget {μ : Mu} {ro : Nat} {w0 : World} {V : VW} {w : World} (R : Rel μ ro w0 V w) (b : Nat) : Rel μ ro w0 { V with heap := V.heap.del b } w := by
  have sub : ∀ x y, (V.heap.del b).get x = some y → x ≠ b ∧ V.heap.get x = some y := by
    intro x y h
    rw [Tr.get_del] at h
    by_cases e : x = b
    · rw [if_pos e] at h; cases h
    · rw [if_neg e] at h; exact ⟨e, h⟩
  exact {
    below := R.below
    fresh := fun b' hb' => ⟨(R.fresh b' hb').1, by
      show (V.heap.del b).get b' = none
      rw [Tr.get_del]; split
      · rfl
      · exact (R.fresh b' hb').2⟩
    obj := fun b' o h => R.obj b' o (sub _ _ h).2
    inj := fun b1 b2 L1 L2 o1 o2 hne h1 h2 => R.inj b1 b2 L1 L2 o1 o2 hne (sub _ _ h1).2 (sub _ _ h2).2
    new := R.new
    tot := R.tot
    ron := R.ron
    glob := R.glob }

/-- A block that may be written is forgotten: it may change. -/
theorem Rel.forgets {μ : Mu} {ro : Nat} {w0 : World} {V : VW} {w : World} (R : Rel μ ro w0 V w) {b : Nat} {L : Loc} {o : VObj} (hro : ro ≤ b) (hg : V.heap.get b = some o) (hm : μ b = some L)
    {H : Array Obj} (hs : H.size = w.heap.size) (h2 : ∀ k, k ≠ L.blk → H[k]? = w.heap[k]?) : Rel μ ro w0 { V with heap := V.heap.del b } { w with heap := H } := by
  have R1 := R.forget b
  have hbelow : Below w0.heap.size w { w with heap := H } := ⟨rfl, rfl, rfl, by simp [hs], fun k hk => h2 k (by have := R.new b L hro hm; omega)⟩
  exact {
    below := R1.below.trans hbelow
    fresh := R1.fresh
    obj := fun b' o' hb' => by
      obtain ⟨L2, O2, k1, k2, k3⟩ := R1.obj b' o' hb'
      have hb'' : (V.heap.del b).get b' = some o' := hb'
      rw [Tr.get_del] at hb''
      have hne : b' ≠ b := fun e => by rw [if_pos e] at hb''; cases hb''
      rw [if_neg hne] at hb''
      have hblk := R.inj b b' L L2 _ _ (Ne.symm hne) hg hb'' hm k1
      exact ⟨L2, O2, k1, by show H[L2.blk]? = _; rw [h2 _ (Ne.symm hblk)]; exact k2, k3⟩
    inj := R1.inj
    new := R1.new
    tot := R1.tot
    ron := R1.ron
    glob := fun g l hl => by
      obtain ⟨q1, q2, e, fz, q3⟩ := R.glob g l hl
      have hnew := R.new b L hro hm
      exact ⟨q1, q2, e, fz, by show H[g]? = _; rw [h2 g (by omega)]; exact q3⟩ }

/-- What was done where nothing old was written is done in the run around it. -/
theorem Rel.unsub {μ μ1 : Mu} {ro : Nat} {w0 : World} {V V1 : VW} {w w1 : World} (R : Rel μ ro w0 V w) (e : Ext μ μ1) (R1 : Rel μ1 V.next w V1 w1) : Rel μ1 ro w0 ⟨V1.next, V1.heap, V.gl⟩ w1 where
  below := R.below.trans (R1.below.mono R.below.size)
  fresh := R1.fresh
  obj := R1.obj
  inj := R1.inj
  new b L hb hm := by
    rcases Nat.lt_or_ge b V.next with h | h
    · obtain ⟨L0, h0⟩ := R.tot b h
      have := e _ _ h0
      rw [hm] at this
      cases this
      exact R.new b L hb h0
    · have := R1.new b L h hm
      have := R.below.size
      omega
  tot := R1.tot
  ron := Nat.le_trans R.ron R1.ron
  glob g l hl := by
    obtain ⟨h1, h2, e, fz, h3⟩ := R.glob g l hl
    exact ⟨h1, h2, e, fz, (R1.below.block g (heap_lt h3)).trans h3⟩

/-! ### Loads -/
theorem add_none (β o n : Nat) : Addr.add ⟨β, o, none⟩ n = ⟨β, o + n, none⟩ := by
  unfold Addr.add
  split
  · rename_i h; subst h; rfl
  · rfl

theorem cell_of_cells {w : World} {β i : Nat} {C : Array Value} {e : TypeId} {fz : Nat × Nat} (h : w.heap[β]? = some (.cells C e fz)) : w.cell? ⟨β, i, none⟩ = C[i]? := by
  simp [World.cell?, h]

theorem loadL_rel {μ : Mu} {wr : Prop} {n : Nat} {c : Tr Value} {d : Option Value} {C : Array Value} {lo hi : Nat} {L : Loc} {t : Option (TypeId × Nat)} {e : TypeId} (hc : CellsR μ wr n c d C lo hi L t e) :
    ∀ (k o : Nat) (l : List Value), loadL n c d o k = some l → ∃ l', LR μ l l' ∧ l'.length = k ∧ ∀ j v, l'[j]? = some v → C[o + j + L.off]? = some v
  | 0, o, l, h => by cases h; exact ⟨[], .nil, rfl, fun j v h => by simp at h⟩
  | k + 1, o, l, h => by
    simp only [loadL] at h
    cases h1 : cellAt n c d o with
    | none => rw [h1] at h; cases h
    | some v =>
      rw [h1] at h
      cases h2 : loadL n c d (o + 1) k with
      | none => rw [h2] at h; cases h
      | some r =>
        rw [h2] at h
        cases h
        obtain ⟨_, v', k1, k2⟩ := hc.val o v h1
        obtain ⟨l', m1, m2, m3⟩ := loadL_rel hc k (o + 1) r h2
        refine ⟨v' :: l', .cons k2 m1, by simp [m2], fun j u hj => ?_⟩
        cases j with
        | zero => simp at hj; subst hj; simpa using k1
        | succ j =>
          simp at hj
          have := m3 j u hj
          rw [show o + (j + 1) + L.off = o + 1 + j + L.off by omega]; exact this

theorem run_loadCells_rel {P : Program} {w : World} {β o : Nat} {C : Array Value} {e : TypeId} {fz : Nat × Nat} (h : w.heap[β]? = some (.cells C e fz)) (l : List Value)
    (hl : ∀ j v, l[j]? = some v → C[o + j]? = some v) : (loadCells ⟨β, o, none⟩ l.length).run P w = .ok ⟨l⟩ w := by
  have := run_loadCells_list (P := P) (w := w) ⟨β, o, none⟩ l fun j v hj => by
    rw [add_none, cell_of_cells h]; exact hl j v hj
  simpa using this

theorem loadC_all {P : Program} {vp : VP} (ok : VPok P vp) {μ : Mu} {ro : Nat} {w0 : World} {V : VW} {w : World} (R : Rel μ ro w0 V w) {t : TypeId} {a : Addr} {v : Value} {a' : Addr}
    (ha : VR μ (.pointer (some a)) (.pointer (some a'))) (h : loadC vp t a V = some v) : ∃ v', (∀ w1 : World, (∀ k, k < w.heap.size → w1.heap[k]? = w.heap[k]?) → (loadVar t a').run P w1 = .ok v' w1) ∧ VR μ v v' := by
  unfold loadC at h
  split at h
  case h_2 => cases h
  rename_i i n c d e tt ht hb hsp
  obtain ⟨inf, f⟩ := ok.fits ht
  cases ha with
  | glob => cases hsp
  | ptr hm =>
    rename_i b o L
    obtain ⟨L', O, h1, h2, h3⟩ := R.obj _ _ hb
    rw [hm] at h1; cases h1
    obtain ⟨_, C, e', lo, hi, rfl, hc⟩ := h3
    cases hg : i.agg with
    | true =>
      rw [hg] at h
      simp only at h
      cases hl : loadL n c d o i.size with
      | none => rw [hl] at h; cases h
      | some l =>
        rw [hl] at h; cases h
        obtain ⟨l', m1, m2, m3⟩ := loadL_rel hc _ _ _ hl
        refine ⟨.agg ⟨l'⟩, fun w1 hw1 => ?_, VR.aggL m1⟩
        have h2' := (hw1 _ (heap_lt h2)).trans h2
        simp only [loadVar, Sem.run_bind, f.run_isAgg, Result.andThen_ok, hg]
        simp only [if_true, Sem.run_bind, f.run_sizeOf, Result.andThen_ok]
        rw [← m2, run_loadCells_rel h2' l' (fun j v hj => by rw [show o + L.off + j = o + j + L.off by omega]; exact m3 j v hj)]
        rfl
    | false =>
      rw [hg] at h
      obtain ⟨_, v', k1, k2⟩ := hc.val _ _ h
      refine ⟨v', fun w1 hw1 => ?_, k2⟩
      have h2' := (hw1 _ (heap_lt h2)).trans h2
      simp only [loadVar, Sem.run_bind, f.run_isAgg, Result.andThen_ok, hg]
      simp [run_load, cell_of_cells h2', k1]

theorem flats {μ : Mu} : ∀ {l : List Value}, (∀ v ∈ l, flat 10 v = true) → LR μ l l
  | [], _ => .nil
  | v :: l, h => .cons (flat_refl 10 v (h v (.head _))) (flats fun u hu => h u (.tail _ hu))

theorem loadG_all {P : Program} {vp : VP} (ok : VPok P vp) {μ : Mu} {ro : Nat} {w0 : World} {V : VW} {w : World} (R : Rel μ ro w0 V w) {t : TypeId} {g o : Nat} {v : Value}
    (h : loadG vp t ⟨g, o, some 0⟩ V = some v) : ∃ v', (∀ w1 : World, (∀ k, k < w.heap.size → w1.heap[k]? = w.heap[k]?) → (loadVar t ⟨g, o, none⟩).run P w1 = .ok v' w1) ∧ VR μ v v' := by
  unfold loadG at h
  split at h
  case h_2 => cases h
  rename_i i l ht hb
  obtain ⟨inf, f⟩ := ok.fits ht
  obtain ⟨q1, q2, e, fz, q3⟩ := R.glob g l hb
  have hfl := flats (μ := μ) q2
  cases hg : i.agg with
  | true =>
    rw [hg] at h
    simp only at h
    split at h
    case h_2 => cases h
    rename_i hle
    have hle := Nat.le_of_ble_eq_true hle
    cases h
    refine ⟨.agg ⟨(l.drop o).take i.size⟩, fun w1 hw1 => ?_, VR.aggL ((hfl.drop o).take _)⟩
    have h2' := (hw1 _ (heap_lt q3)).trans q3
    simp only [loadVar, Sem.run_bind, f.run_isAgg, Result.andThen_ok, hg]
    simp only [if_true, Sem.run_bind, f.run_sizeOf, Result.andThen_ok]
    have hlen : ((l.drop o).take i.size).length = i.size := by simp; omega
    have := run_loadCells_rel (P := P) (o := o) h2' ((l.drop o).take i.size) (fun j v hj => by
      have hjl := List.getElem?_eq_some_iff.1 hj
      obtain ⟨hjl, hje⟩ := hjl
      rw [hlen] at hjl
      rw [List.getElem?_take, if_pos hjl, List.getElem?_drop] at hj
      rw [← Array.getElem?_toList]; exact hj)
    rw [hlen] at this
    rw [this]
    rfl
  | false =>
    rw [hg] at h
    simp only at h
    obtain ⟨v', k1, k2⟩ := hfl.get h
    refine ⟨v', fun w1 hw1 => ?_, k2⟩
    have h2' := (hw1 _ (heap_lt q3)).trans q3
    simp only [loadVar, Sem.run_bind, f.run_isAgg, Result.andThen_ok, hg]
    have : (Array.mk l)[o]? = some v' := by rw [← Array.getElem?_toList]; exact k1
    simp [run_load, cell_of_cells h2', this]

theorem loadV_all {P : Program} {vp : VP} (ok : VPok P vp) {μ : Mu} {ro : Nat} {w0 : World} {V : VW} {w : World} (R : Rel μ ro w0 V w) {t : TypeId} {a : Addr} {v : Value} {a' : Addr}
    (ha : VR μ (.pointer (some a)) (.pointer (some a'))) (h : loadV vp t a V = some v) : ∃ v', (∀ w1 : World, (∀ k, k < w.heap.size → w1.heap[k]? = w.heap[k]?) → (loadVar t a').run P w1 = .ok v' w1) ∧ VR μ v v' := by
  unfold loadV at h
  split at h
  · exact loadC_all ok R ha h
  · rename_i s hs
    cases ha with
    | ptr hm => cases hs
    | glob g o => exact loadG_all ok R h

theorem loadV_sound {P : Program} {vp : VP} (ok : VPok P vp) {μ : Mu} {ro : Nat} {w0 : World} {V : VW} {w : World} (R : Rel μ ro w0 V w) {t : TypeId} {a : Addr} {v : Value} {a' : Addr}
    (ha : VR μ (.pointer (some a)) (.pointer (some a'))) (h : loadV vp t a V = some v) : ∃ v', (loadVar t a').run P w = .ok v' w ∧ VR μ v v' := by
  obtain ⟨v', h1, h2⟩ := loadV_all ok R ha h
  exact ⟨v', h1 w fun _ _ => rfl, h2⟩

/-! ### Stores -/
theorem VR.oneCell {μ : Mu} {v v' : Value} (h : VR μ v v') : v'.oneCell' = v.oneCell' := by cases h <;> rfl

theorem oneCells_spec : ∀ {l : List Value}, oneCells l = true → ∀ v ∈ l, v.oneCell' = true
  | [], _, _, h => by cases h
  | x :: l, h, v, hv => by
    cases hx : x.oneCell' with
    | true =>
      have h' : oneCells l = true := by cases x <;> first | exact h | (simp [Value.oneCell'] at hx; done)
      cases hv with
      | head => exact hx
      | tail _ hm => exact oneCells_spec h' v hm
    | false => cases x <;> first | (simp [Value.oneCell'] at hx; done) | (simp [oneCells] at h; done)

theorem LR.oneCells {μ : Mu} {a b : List Value} (h : LR μ a b) (ho : ∀ v ∈ a, v.oneCell' = true) : ∀ v ∈ b, v.oneCell' = true := by
  induction h with
  | nil => exact fun v h => by cases h
  | cons hx _ ih =>
    intro v hv
    cases hv with
    | head => rw [hx.oneCell]; exact ho _ (.head _)
    | tail _ hm => exact ih (fun u hu => ho u (.tail _ hu)) v hm

theorem run_storeCells {P : Program} {β o : Nat} {e : TypeId} {lo hi : Nat} : ∀ (l : List Value) (i : Nat) (w : World) (C : Array Value), w.heap[β]? = some (.cells C e (lo, hi)) →
    (∀ j, j < l.length → o + i + j < C.size ∧ ¬ (lo ≤ o + i + j ∧ o + i + j < hi)) → (∀ v ∈ l, v.oneCell' = true) →
    ∃ (H : Array Obj) (C' : Array Value), (storeCells ⟨β, o, none⟩ l i).run P w = .ok () { w with heap := H } ∧ H.size = w.heap.size ∧ H[β]? = some (.cells C' e (lo, hi)) ∧ (∀ k, k ≠ β → H[k]? = w.heap[k]?) ∧
      ∀ k, C'[k]? = if o + i ≤ k ∧ k < o + i + l.length then l[k - (o + i)]? else C[k]?
  | [], i, w, C, hw, _, _ => ⟨w.heap, C, rfl, rfl, hw, fun _ _ => rfl, fun k => by rw [if_neg (by simp only [List.length_nil]; omega)]⟩
  | v :: l, i, w, C, hw, hin, ho => by
    have h0 := hin 0 (by simp)
    simp only [Nat.add_zero] at h0
    have hcell : w.cell? ⟨β, o + i, none⟩ = some C[o + i] := by rw [cell_of_cells hw, Array.getElem?_eq_getElem h0.1]
    have hfz : w.frozen? ⟨β, o + i, none⟩ = false := by
      simp only [World.frozen?, hw]
      have := h0.2
      by_cases a : lo ≤ o + i <;> by_cases b : o + i < hi <;> simp_all
    have hset : (w.setCell ⟨β, o + i, none⟩ v).heap[β]? = some (.cells (C.setIfInBounds (o + i) v) e (lo, hi)) := by
      simp only [World.setCell, Array.getElem?_modify, if_true, hw]
      simp
    have hsz : (w.setCell ⟨β, o + i, none⟩ v).heap.size = w.heap.size := by simp
    obtain ⟨H, C', r1, r2, r3, r4, r5⟩ := run_storeCells (P := P) (o := o) l (i + 1) (w.setCell ⟨β, o + i, none⟩ v) _ hset
      (fun j hj => by
        have := hin (j + 1) (by simp; omega)
        rw [show o + (i + 1) + j = o + i + (j + 1) by omega]
        simpa using this)
      (fun u hu => ho u (.tail _ hu))
    refine ⟨H, C', ?_, by rw [r2, hsz], r3, fun k hk => ?_, fun k => ?_⟩
    · simp only [storeCells, Sem.run_bind, add_none, run_store _ _ _ _ _ (ho v (.head _)), hcell, hfz]
      simp only [Bool.false_eq_true, if_false, Result.andThen_ok, r1]
      rfl
    · rw [r4 k hk]
      simp only [World.setCell, Array.getElem?_modify]
      rw [if_neg (Ne.symm hk)]
    · rw [r5 k]
      simp only [List.length_cons]
      by_cases e1 : o + (i + 1) ≤ k ∧ k < o + (i + 1) + l.length
      · rw [if_pos e1, if_pos (by omega), show k - (o + i) = (k - (o + (i + 1))) + 1 by omega, List.getElem?_cons_succ]
      · rw [if_neg e1]
        by_cases e2 : k = o + i
        · subst e2
          rw [if_pos (by omega), Array.getElem?_setIfInBounds_self_of_lt h0.1]
          simp
        · rw [if_neg (by omega), Array.getElem?_setIfInBounds_ne (by omega)]

theorem holds_spec {n : Nat} {c : Tr Value} {d : Option Value} : ∀ (k o : Nat), holds n c d o k = true → ∀ j, j < k → ∃ v, cellAt n c d (o + j) = some v
  | 0, _, _, j, hj => by omega
  | k + 1, o, h, j, hj => by
    simp only [holds] at h
    cases h1 : cellAt n c d o with
    | none => rw [h1] at h; cases h
    | some v =>
      rw [h1] at h
      cases j with
      | zero => exact ⟨v, h1⟩
      | succ j =>
        obtain ⟨u, hu⟩ := holds_spec k (o + 1) h j (by omega)
        exact ⟨u, by rw [show o + (j + 1) = o + 1 + j by omega]; exact hu⟩

theorem blt_true {a b : Nat} (h : a < b) : Nat.blt a b = true := Nat.ble_eq_true_of_le h
theorem lt_of_blt {a b : Nat} (h : Nat.blt a b = true) : a < b := Nat.le_of_ble_eq_true h
theorem cellAt_lt {n : Nat} {c : Tr Value} {d : Option Value} {i : Nat} {v : Value} (h : cellAt n c d i = some v) : i < n := by
  unfold cellAt at h
  split at h
  · rename_i hb; exact lt_of_blt hb
  · cases h

theorem cellAt_putL {n : Nat} {c : Tr Value} {d : Option Value} {o : Nat} {l : List Value} (hn : o + l.length ≤ n) (i : Nat) :
    cellAt n (c.putL o l) d i = if o ≤ i ∧ i < o + l.length then l[i - o]? else cellAt n c d i := by
  unfold cellAt
  rw [Tr.get_putL]
  by_cases h : o ≤ i ∧ i < o + l.length
  · rw [if_pos h, if_pos h, blt_true (by omega)]
    have : i - o < l.length := by omega
    rw [List.getElem?_eq_getElem this]
  · rw [if_neg h, if_neg h]

theorem putCells_sound {P : Program} {μ : Mu} {ro : Nat} {w0 : World} {V V' : VW} {w : World} (R : Rel μ ro w0 V w) {a a' : Addr} {l l' : List Value}
    (ha : VR μ (.pointer (some a)) (.pointer (some a'))) (hl : LR μ l l') (h : putCells ro a l V = some V') :
    ∃ w', (storeCells a' l').run P w = .ok () w' ∧ Rel μ ro w0 V' w' := by
  unfold putCells at h
  cases hl with
  | nil => simp only [Option.some.injEq] at h; subst h; exact ⟨w, rfl, R⟩
  | cons hx ht =>
    rename_i x y xs ys
    have hl : LR μ (x :: xs) (y :: ys) := .cons hx ht
    revert hl
    generalize hL : x :: xs = L at h ⊢
    generalize hL' : y :: ys = L'
    intro hl
    simp only [← hL] at h
    rw [hL] at h
    split at h
    case h_2 => cases h
    rename_i n c d e tt hb hsp hro hone
    split at h
    case h_2 => cases h
    rename_i hh
    rw [Bool.and_eq_true] at hh
    obtain ⟨hh, hfz⟩ := hh
    replace hh := Nat.le_of_ble_eq_true hh
    replace hfz := Nat.le_of_ble_eq_true hfz
    cases h
    have hro' : ro ≤ a.block := Nat.le_of_ble_eq_true hro
    cases ha with
    | glob => cases hsp
    | ptr hm =>
      rename_i b o Λ
      obtain ⟨Λ', O, h1, h2, h3⟩ := R.obj _ _ hb
      rw [hm] at h1; cases h1
      obtain ⟨h0, C, e', lo, hi, rfl, hc⟩ := h3
      have hlen := hl.length
      have hn : o + L.length ≤ n := hh
      have hin : ∀ j, j < L.length → o + j < Λ.lim := fun j hj => by
        have := hc.len
        omega
      obtain ⟨H, C', r1, r2, r3, r4, r5⟩ := run_storeCells (P := P) (β := Λ.blk) (o := o + Λ.off) L' 0 w C h2
        (fun j hj => by
          obtain ⟨k1, k2⟩ := hc.room _ (hin j (by omega))
          simp only at hfz
          have k2 := k2 (by omega) trivial
          exact ⟨by omega, by rw [show o + Λ.off + 0 + j = o + j + Λ.off by omega]; exact k2⟩)
        (hl.oneCells (oneCells_spec hone))
      have hsz : C'.size = C.size := by
        rcases Nat.lt_trichotomy C'.size C.size with h' | h' | h'
        · have := r5 C'.size
          rw [Array.getElem?_eq_none (Nat.le_refl _)] at this
          split at this
          · rename_i hr; rw [List.getElem?_eq_getElem (by omega)] at this; cases this
          · rw [Array.getElem?_eq_getElem h'] at this; cases this
        · exact h'
        · have := r5 C.size
          rw [Array.getElem?_eq_getElem h'] at this
          split at this
          · rename_i hr
            have := (hc.room _ (hin (C.size - (o + Λ.off + 0)) (by omega))).1
            omega
          · rw [Array.getElem?_eq_none (Nat.le_refl _)] at this; cases this
      refine ⟨_, r1, R.change hro' hb hm r2 r3 r4 ⟨h0, C', e', lo, hi, rfl, fun i v hv => ?_, fun i hi => ?_, hc.len, hc.ty⟩⟩
      · rw [cellAt_putL hn] at hv
        by_cases hi : o ≤ i ∧ i < o + L.length
        · rw [if_pos hi] at hv
          obtain ⟨v', k1, k2⟩ := hl.get hv
          refine ⟨by have := hin (i - o) (by omega); omega, v', ?_, k2⟩
          rw [r5, if_pos (by omega), show i + Λ.off - (o + Λ.off + 0) = i - o by omega]; exact k1
        · rw [if_neg hi] at hv
          obtain ⟨k0, v', k1, k2⟩ := hc.val i v hv
          refine ⟨k0, v', ?_, k2⟩
          rw [r5, if_neg (by omega)]; exact k1
      · rw [hsz]; exact ⟨(hc.room i hi).1, fun q _ => (hc.room i hi).2 q trivial⟩

theorem cellsL_rel {μ : Mu} {v v' : Value} (h : VR μ v v') : LR μ (cellsL v) v'.cells.toList := by
  cases h with
  | agg ha ra => exact LR.of_idx ha ra
  | tuple ha ra => exact .cons (.tuple ha ra) .nil
  | func f ha hc ra rc => exact .cons (.func f ha hc ra rc) .nil
  | bool b => exact .cons (.bool b) .nil
  | int k n => exact .cons (.int k n) .nil
  | str s => exact .cons (.str s) .nil
  | nilp => exact .cons .nilp .nil
  | glob g o => exact .cons (.glob g o) .nil
  | ptr h => exact .cons (.ptr h) .nil
  | nils => exact .cons .nils .nil
  | slice h ho hc hl hu => exact .cons (.slice h ho hc hl hu) .nil
  | nilm => exact .cons .nilm .nil
  | map h h0 => exact .cons (.map h h0) .nil
  | nilf => exact .cons .nilf .nil
  | yield h h0 => exact .cons (.yield h h0) .nil
  | nili => exact .cons .nili .nil
  | iface t h => exact .cons (.iface t h) .nil

theorem storeV_sound {P : Program} {vp : VP} (ok : VPok P vp) {μ : Mu} {ro : Nat} {w0 : World} {V V' : VW} {w : World} (R : Rel μ ro w0 V w) {t : TypeId} {a : Addr} {v v' : Value} {a' : Addr}
    (ha : VR μ (.pointer (some a)) (.pointer (some a'))) (hv : VR μ v v') (h : storeV vp ro t a v V = some V') : ∃ w', (storeVar t a' v').run P w = .ok () w' ∧ Rel μ ro w0 V' w' := by
  unfold storeV at h
  split at h
  case h_2 => cases h
  rename_i i ht
  obtain ⟨inf, f⟩ := ok.fits ht
  dsimp only at h
  split at h
  case h_2 => cases h
  rename_i hs
  have hs := Nat.eq_of_beq_eq_true hs
  have hl := cellsL_rel hv
  have hsz : v'.cells.size = i.size := by rw [← hs, hl.length]; simp
  obtain ⟨w', r1, r2⟩ := putCells_sound (P := P) R ha hl h
  refine ⟨w', ?_, r2⟩
  simp only [storeVar, Sem.run_bind, f.run_sizeOf, Result.andThen_ok, hsz]
  simp [r1]

/-! ### New rows of cells -/
theorem cellAt_none {l : List Value} (i : Nat) (v : Value) (h : cellAt l.length (Tr.putL .nil 0 l) none i = some v) : l[i]? = some v := by
  rw [cellAt_putL (by omega)] at h
  by_cases k : 0 ≤ i ∧ i < 0 + l.length
  · rw [if_pos k] at h; simpa using h
  · rw [if_neg k] at h
    have := cellAt_lt h
    omega

theorem lt_of_some {l : List Value} {i : Nat} {v : Value} (h : l[i]? = some v) : i < l.length := by
  rcases Nat.lt_or_ge i l.length with h' | h'
  · exact h'
  · rw [List.getElem?_eq_none h'] at h; cases h

theorem cellsR_new {μ : Mu} {l l' : List Value} (hl : LR μ l l') (ex : List Value) (blk m u : Nat) (h1 : l.length ≤ m) (h2 : m ≤ l'.length + ex.length) {t : Option TypeId} {e : TypeId} (ht : ∀ x, t = some x → x = e) :
    CellsR μ True l.length (Tr.putL .nil 0 l) none ⟨l' ++ ex⟩ 0 0 ⟨blk, 0, m, u⟩ (tag t) e where
  val i v hv := by
    have hv := cellAt_none i v hv
    obtain ⟨v', k1, k2⟩ := hl.get hv
    refine ⟨by have := lt_of_some hv; simp only; omega, v', ?_, k2⟩
    simpa [List.getElem?_append_left (lt_of_some k1)] using k1
  room i hi := ⟨by simp only at hi; simp; omega, fun _ _ => by omega⟩
  len := h1
  ty x k hx := by
    cases t with
    | none => cases hx
    | some y => cases hx; exact ⟨ht _ rfl, rfl, Nat.le_refl _, fun _ => rfl⟩

theorem newCells_sound {P : Program} {μ : Mu} {ro : Nat} {w0 : World} {V V' : VW} {w : World} (R : Rel μ ro w0 V w) {u : Nat} {t : Option TypeId} (e : TypeId) (ht : ∀ x, t = some x → x = e) {l : List Value} {l' : List Value} {a : Addr}
    (hl : LR μ l l') (h : newCells u t l V = some (a, V')) :
    (newRow e ⟨l'⟩).run P w = .ok ⟨w.heap.size, 0, none⟩ { w with heap := w.heap.push (.cells ⟨l'⟩ e) } ∧ a = ⟨V.next, 0, none⟩ ∧
      Rel (μ.put V.next ⟨w.heap.size, 0, l.length, u⟩) ro w0 V' { w with heap := w.heap.push (.cells ⟨l'⟩ e) } ∧ (∀ v ∈ l', v.oneCell' = true) := by
  unfold newCells at h
  split at h
  case h_2 => cases h
  rename_i hone
  simp only [Option.some.injEq, Prod.mk.injEq] at h
  obtain ⟨rfl, rfl⟩ := h
  refine ⟨by simp [newRow], rfl, R.alloc ⟨rfl, ⟨l'⟩, e, 0, 0, rfl, ?_⟩, hl.oneCells (oneCells_spec hone)⟩
  simpa using cellsR_new hl [] w.heap.size l.length u (Nat.le_refl _) (by have := hl.length; omega) ht

theorem VR.new_ptr {μ : Mu} {b : Nat} {L : Loc} (h0 : L.off = 0) : VR (μ.put b L) (.pointer (some ⟨b, 0, none⟩)) (.pointer (some ⟨L.blk, 0, none⟩)) := by
  have := VR.ptr (o := 0) (Mu.put_self μ b L)
  rwa [h0] at this

end Go.Wvm
