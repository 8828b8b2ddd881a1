/- More operations, in the logic over the small machine: arrays, numbers of 32 bits, complements, tables. -/
import Derived.Test.YtpglehckhnencaaWvmLgi
import Derived.Test.YtpglehckhnencaaWvmFin
set_option linter.unusedSimpArgs false
set_option linter.unusedVariables false
namespace Go.Wvm
open Go.RowKit

section
variable {P : Program} {vp : VP} {ro : Nat} {E : En} {M : AM}

theorem Pu.cpl32 {t : TypeId} {x : Operand} {n : Int} (hx : evE E x = some (.int .u32 n)) (h0 : 0 ≤ n) (h1 : n < 4294967296) : Pu P vp E M (.unOp .xor t x) (.int .u32 (4294967295 - n)) := by
  refine Pu.un hx ?_
  simp only [unOp, modOf]
  rw [fmod_in h0 (by omega)]
  congr 2
  have e : (Int.ofNat (4294967296 - 1 - n.toNat)) = 4294967295 - n := by simp only [Int.ofNat_eq_natCast]; omega
  rw [e]
  exact fwrap_in (by simp only [InR]; omega)
theorem Pu.shlU32 {t t' : TypeId} {x y : Operand} {k' : IntKind} {a b : Int} (hx : evE E x = some (.int .u32 a)) (hy : evE E y = some (.int k' b)) (hb : 0 ≤ b) (hle : b.toNat ≤ 32) : Pu P vp E M (.binOp .shl t x y t') (.int .u32 (a * 2 ^ b.toNat % 4294967296)) := by
  have h := Pu.shlW (P := P) (vp := vp) (M := M) (t := t) (t' := t') hx hy hb (by simpa [bitsOf] using hle)
  rwa [fwrap_u32] at h
theorem Pu.addU32 {t t' : TypeId} {x y : Operand} {a b : Int} (hx : evE E x = some (.int .u32 a)) (hy : evE E y = some (.int .u32 b)) : Pu P vp E M (.binOp .add t x y t') (.int .u32 ((a + b) % 4294967296)) :=
  Pu.int hx hy rfl (by simp only [intOp, fwrap_u32])
theorem Pu.subU32 {t t' : TypeId} {x y : Operand} {a b : Int} (hx : evE E x = some (.int .u32 a)) (hy : evE E y = some (.int .u32 b)) : Pu P vp E M (.binOp .sub t x y t') (.int .u32 ((a - b) % 4294967296)) :=
  Pu.int hx hy rfl (by simp only [intOp, fwrap_u32])
theorem Pu.mulU32 {t t' : TypeId} {x y : Operand} {a b : Int} (hx : evE E x = some (.int .u32 a)) (hy : evE E y = some (.int .u32 b)) : Pu P vp E M (.binOp .mul t x y t') (.int .u32 ((a * b) % 4294967296)) :=
  Pu.int hx hy rfl (by simp only [intOp, fwrap_u32])

/-! numbers from 0 on -/
theorem Pu.xorN {t t' : TypeId} {x y : Operand} {k : IntKind} {a b : Nat} (hx : evE E x = some (.int k (a : Int))) (hy : evE E y = some (.int k (b : Int))) (ha : InR k (a : Int)) (hb : InR k (b : Int)) : Pu P vp E M (.binOp .xor t x y t') (.int k ((a ^^^ b : Nat) : Int)) := by
  have h := Pu.xor (P := P) (vp := vp) (M := M) (t := t) (t' := t') hx hy (by omega) (by omega) ha hb
  rwa [Int.toNat_natCast, Int.toNat_natCast] at h
theorem Pu.orN {t t' : TypeId} {x y : Operand} {k : IntKind} {a b : Nat} (hx : evE E x = some (.int k (a : Int))) (hy : evE E y = some (.int k (b : Int))) (ha : InR k (a : Int)) (hb : InR k (b : Int)) : Pu P vp E M (.binOp .or t x y t') (.int k ((a ||| b : Nat) : Int)) := by
  have h := Pu.or (P := P) (vp := vp) (M := M) (t := t) (t' := t') hx hy (by omega) (by omega) ha hb
  rwa [Int.toNat_natCast, Int.toNat_natCast] at h
theorem Pu.andN {t t' : TypeId} {x y : Operand} {k : IntKind} {a b : Nat} (hx : evE E x = some (.int k (a : Int))) (hy : evE E y = some (.int k (b : Int))) (ha : InR k (a : Int)) (hb : InR k (b : Int)) : Pu P vp E M (.binOp .and t x y t') (.int k ((a &&& b : Nat) : Int)) := by
  have h := Pu.and (P := P) (vp := vp) (M := M) (t := t) (t' := t') hx hy (by omega) (by omega) ha hb
  rwa [Int.toNat_natCast, Int.toNat_natCast] at h
theorem Pu.shrN {t t' : TypeId} {x y : Operand} {k k' : IntKind} {a b : Nat} (hx : evE E x = some (.int k (a : Int))) (hy : evE E y = some (.int k' (b : Int))) (hr : InR k (a : Int)) : Pu P vp E M (.binOp .shr t x y t') (.int k ((a / 2 ^ b : Nat) : Int)) := by
  have h := Pu.shr (P := P) (vp := vp) (M := M) (t := t) (t' := t') hx hy (by omega) (by omega) hr
  rw [Int.toNat_natCast] at h
  have e : (a : Int) / 2 ^ b = ((a / 2 ^ b : Nat) : Int) := by simp
  rwa [e] at h
theorem Pu.mulN {t t' : TypeId} {x y : Operand} {k : IntKind} {a b : Nat} (hx : evE E x = some (.int k (a : Int))) (hy : evE E y = some (.int k (b : Int))) (h : InR k ((a * b : Nat) : Int)) : Pu P vp E M (.binOp .mul t x y t') (.int k ((a * b : Nat) : Int)) := by
  have := Pu.mul (P := P) (vp := vp) (M := M) (t := t) (t' := t') hx hy (by rw [← Int.natCast_mul]; exact h)
  rwa [← Int.natCast_mul] at this
theorem Pu.addN {t t' : TypeId} {x y : Operand} {k : IntKind} {a b : Nat} (hx : evE E x = some (.int k (a : Int))) (hy : evE E y = some (.int k (b : Int))) (h : InR k ((a + b : Nat) : Int)) : Pu P vp E M (.binOp .add t x y t') (.int k ((a + b : Nat) : Int)) := by
  have := Pu.add (P := P) (vp := vp) (M := M) (t := t) (t' := t') hx hy (by rw [← Int.natCast_add]; exact h)
  rwa [← Int.natCast_add] at this
theorem Pu.subN {t t' : TypeId} {x y : Operand} {k : IntKind} {a b : Nat} (hx : evE E x = some (.int k (a : Int))) (hy : evE E y = some (.int k (b : Int))) (hle : b ≤ a) (h : InR k ((a - b : Nat) : Int)) : Pu P vp E M (.binOp .sub t x y t') (.int k ((a - b : Nat) : Int)) := by
  have := Pu.sub (P := P) (vp := vp) (M := M) (t := t) (t' := t') hx hy (by rw [← Int.natCast_sub hle]; exact h)
  rwa [← Int.natCast_sub hle] at this
theorem Pu.quoN {t t' : TypeId} {x y : Operand} {k : IntKind} {a b : Nat} (hx : evE E x = some (.int k (a : Int))) (hy : evE E y = some (.int k (b : Int))) (h1 : 0 < b) (h : InR k (a : Int)) : Pu P vp E M (.binOp .quo t x y t') (.int k ((a / b : Nat) : Int)) := by
  have := Pu.quo (P := P) (vp := vp) (M := M) (t := t) (t' := t') hx hy (by omega) (by omega) h
  rwa [← Int.natCast_ediv] at this
theorem Pu.remN {t t' : TypeId} {x y : Operand} {k : IntKind} {a b : Nat} (hx : evE E x = some (.int k (a : Int))) (hy : evE E y = some (.int k (b : Int))) (h1 : 0 < b) : Pu P vp E M (.binOp .rem t x y t') (.int k ((a % b : Nat) : Int)) := by
  have := Pu.rem (P := P) (vp := vp) (M := M) (t := t) (t' := t') hx hy (by omega) (by omega)
  rwa [← Int.natCast_emod] at this
theorem Pu.shlN {t t' : TypeId} {x y : Operand} {k k' : IntKind} {a b : Nat} (hx : evE E x = some (.int k (a : Int))) (hy : evE E y = some (.int k' (b : Int))) (hle : b ≤ bitsOf k) (hr : InR k ((a * 2 ^ b : Nat) : Int)) : Pu P vp E M (.binOp .shl t x y t') (.int k ((a * 2 ^ b : Nat) : Int)) := by
  have e : (a : Int) * 2 ^ b = ((a * 2 ^ b : Nat) : Int) := by simp
  have h := Pu.shl (P := P) (vp := vp) (M := M) (t := t) (t' := t') hx hy (by omega) (by rw [Int.toNat_natCast]; exact hle) (by rw [Int.toNat_natCast, e]; exact hr)
  rw [Int.toNat_natCast, e] at h
  exact h
theorem Pu.shlP {t t' : TypeId} {x y : Operand} {k k' : IntKind} {a b p : Nat} (hp : 2 ^ b = p) (hx : evE E x = some (.int k (a : Int))) (hy : evE E y = some (.int k' (b : Int))) (hle : b ≤ bitsOf k) (hr : InR k ((a * p : Nat) : Int)) : Pu P vp E M (.binOp .shl t x y t') (.int k ((a * p : Nat) : Int)) := by
  subst hp
  exact Pu.shlN hx hy hle hr
theorem AM.upd_upd (M : AM) (a : Nat) (o o' : AO) : (M.upd a o).upd a o' = M.upd a o' := by
  simp only [AM.upd]
  congr 1
  funext x
  by_cases h : x = a
  · simp [h]
  · simp [h]
theorem AM.upd_self (M : AM) (a : Nat) (o : AO) (h : M.get a = some o) : M.upd a o = M := by
  obtain ⟨n, g, gl⟩ := M
  simp only [AM.upd]
  congr 1
  funext x
  by_cases hx : x = a
  · subst hx; simp; exact h.symm
  · simp [hx]
theorem AM.add_upd (M : AM) (o o' : AO) : (M.add o).upd M.next o' = M.add o' := by
  simp only [AM.upd, AM.add]
  congr 1
  funext x
  by_cases h : x = M.next
  · simp [h]
  · simp [h]

variable {T : List (Nat × TyI)} (hT : TyOk vp T)
include hT
theorem Pu.convU32 {s d : TypeId} {x : Operand} {k0 k1 : IntKind} {n : Int} {a1 a2 b1 b2 : Nat} {z1 z2 : Option Value} {g1 g2 : Bool} (hx : evE E x = some (.int k0 n)) (hs : tyGet T s = some ⟨.int k1, a1, b1, z1, g1⟩) (hd : tyGet T d = some ⟨.int .u32, a2, b2, z2, g2⟩) :
    Pu P vp E M (.convert s d x) (.int .u32 (n % 4294967296)) := by
  have h := Pu.convI (P := P) (M := M) hT hx hs hd
  rwa [fwrap_u32] at h
theorem Pu.convU16 {s d : TypeId} {x : Operand} {k0 k1 : IntKind} {n : Int} {a1 a2 b1 b2 : Nat} {z1 z2 : Option Value} {g1 g2 : Bool} (hx : evE E x = some (.int k0 n)) (hs : tyGet T s = some ⟨.int k1, a1, b1, z1, g1⟩) (hd : tyGet T d = some ⟨.int .u16, a2, b2, z2, g2⟩) :
    Pu P vp E M (.convert s d x) (.int .u16 (n % 65536)) := by
  have h := Pu.convI (P := P) (M := M) hT hx hs hd
  rwa [fwrap_u16] at h
theorem Pu.indexP {t e : TypeId} {x ix : Operand} {b o len sz by' : Nat} {z : Option Value} {g : Bool} {k : IntKind} {i : Int} {ei : TyI} (hx : evE E x = some (.pointer (some ⟨b, o, none⟩))) (hi : evE E ix = some (.int k i)) (ht : tyGet T t = some ⟨.array len e, sz, by', z, g⟩)
    (he : tyGet T e = some ei) (h0 : 0 ≤ i) (h1 : i < len) : Pu P vp E M (.indexAddr t x ix) (.pointer (some ⟨b, o + i.toNat * ei.size, none⟩)) := by
  intro ro ro' fr w o' ho hE hM
  have hi2 : evE E ix = some (.int k (.ofNat i.toNat)) := by rw [hi]; congr 2; exact toNat_ofNat h0
  have hb : Nat.blt i.toNat len = true := Nat.ble_eq_true_of_le (by omega)
  simp only [execV, ho, xIndexAddr, hE.ev hx, hE.ev hi2, hT _ _ ht, hT _ _ he, hb, one, plus]
theorem Pu.indexG {t e : TypeId} {x ix : Operand} {b o len sz by' sp : Nat} {z : Option Value} {g : Bool} {k : IntKind} {i : Int} {ei : TyI} (hx : evE E x = some (.pointer (some ⟨b, o, some sp⟩))) (hi : evE E ix = some (.int k i)) (ht : tyGet T t = some ⟨.array len e, sz, by', z, g⟩)
    (he : tyGet T e = some ei) (h0 : 0 ≤ i) (h1 : i < len) : Pu P vp E M (.indexAddr t x ix) (.pointer (some ⟨b, o + i.toNat * ei.size, some sp⟩)) := by
  intro ro ro' fr w o' ho hE hM
  have hi2 : evE E ix = some (.int k (.ofNat i.toNat)) := by rw [hi]; congr 2; exact toNat_ofNat h0
  have hb : Nat.blt i.toNat len = true := Nat.ble_eq_true_of_le (by omega)
  simp only [execV, ho, xIndexAddr, hE.ev hx, hE.ev hi2, hT _ _ ht, hT _ _ he, hb, one, plus]
theorem Pu.indexSN {t : TypeId} {x ix : Operand} {l : List UInt8} {sz by' : Nat} {z : Option Value} {g : Bool} {k : IntKind} {i : Nat} (hx : evE E x = some (.string ⟨⟨l⟩⟩)) (hi : evE E ix = some (.int k (i : Int))) (ht : tyGet T t = some ⟨.string, sz, by', z, g⟩)
    (h1 : i < l.length) : Pu P vp E M (.index t x ix) (.int .u8 ((l.getD i 0).toNat : Int)) :=
  Pu.indexS hT hx hi ht (by omega) (by omega)
theorem Pu.sliceLH {t : TypeId} {x : Operand} {lo hi : Option Operand} {l : List UInt8} {a b : Nat} {k k' : IntKind} {s by' : Nat} {z : Option Value} {g : Bool} (h1 : a ≤ b) (h2 : b ≤ l.length) (hx : evE E x = some (.string ⟨⟨l⟩⟩)) (hl : evOE E lo = some (some (.int k (a : Int)))) (hh : evOE E hi = some (some (.int k' (b : Int)))) (ht : tyGet T t = some ⟨.string, s, by', z, g⟩) :
    Pu P vp E M (.slice t x lo hi none) (.string ⟨⟨(l.drop a).take (b - a)⟩⟩) :=
  Pu.sliceS hT hx hl hh ht (by rw [bounds_lh (by omega) (by omega) (by omega)]; rfl)
theorem Pu.sliceLo {t : TypeId} {x : Operand} {lo : Option Operand} {l : List UInt8} {a : Nat} {k : IntKind} {s by' : Nat} {z : Option Value} {g : Bool} (h1 : a ≤ l.length) (hx : evE E x = some (.string ⟨⟨l⟩⟩)) (hl : evOE E lo = some (some (.int k (a : Int)))) (ht : tyGet T t = some ⟨.string, s, by', z, g⟩) :
    Pu P vp E M (.slice t x lo none none) (.string ⟨⟨l.drop a⟩⟩) := by
  have h := Pu.sliceS (P := P) (M := M) (a := a) (b := l.length) (hi := none) (vh := none) hT hx hl rfl ht (by rw [bounds_ln (by omega) (by omega)]; rfl)
  rwa [List.take_of_length_le (by rw [List.length_drop]; exact Nat.le_refl _)] at h
theorem Pu.sliceHi {t : TypeId} {x : Operand} {hi : Option Operand} {l : List UInt8} {b : Nat} {k : IntKind} {s by' : Nat} {z : Option Value} {g : Bool} (h1 : b ≤ l.length) (hx : evE E x = some (.string ⟨⟨l⟩⟩)) (hh : evOE E hi = some (some (.int k (b : Int)))) (ht : tyGet T t = some ⟨.string, s, by', z, g⟩) :
    Pu P vp E M (.slice t x none hi none) (.string ⟨⟨l.take b⟩⟩) := by
  have h := Pu.sliceS (P := P) (M := M) (a := 0) (b := b) (lo := none) (vl := none) hT hx rfl hh ht (by rw [bounds_nh (by omega) (by omega)]; rfl)
  rwa [List.drop_zero, Nat.sub_zero] at h
/-- An array's value. -/
theorem Pu.buildA {t e : TypeId} {parts : Array (Nat × Operand)} {n s by' : Nat} {z : Value} {g : Bool} {ps : List (Nat × Value)} {cs : List Value} {ei : TyI} (ht : tyGet T t = some ⟨.array n e, s, by', some z, g⟩) (he : tyGet T e = some ei) (hp : evPartsE E parts.toList = some ps)
    (hc : fillL (fun i => some (i * ei.size, ei.size)) (cellsL z) ps = some cs) : Pu P vp E M (.build t parts) (.agg ⟨cs⟩) := by
  intro ro ro' fr w o' ho hE hM
  simp only [execV, ho, xBuild, hT _ _ ht, hT _ _ he, hE.evParts hp, hc, one]
/-- A cut of an array that lies in a block of its own. -/
theorem Pu.slicePA {t e : TypeId} {x : Operand} {lo hi : Option Operand} {p o n a b : Nat} {l : List Value} {tt : Option (TypeId × Nat)} {vl vh : Option Value} {s by' : Nat} {z : Option Value} {g : Bool} {ei : TyI} (hx : evE E x = some (.pointer (some ⟨p, o, none⟩))) (hl : evOE E lo = some vl) (hh : evOE E hi = some vh)
    (ht : tyGet T t = some ⟨.array n e, s, by', z, g⟩) (he : tyGet T e = some ei) (hb : bounds n n vl vh none = some (a, b, n)) (hm : M.get p = some (.row l 0 tt)) (hc : a < n) :
    Pu P vp E M (.slice t x lo hi none) (.slice (some ⟨p, o + a * ei.size, none⟩) (b - a) (n - a)) := by
  intro ro ro' fr w o' ho hE hM
  have hn : fr.evO none = some none := rfl
  obtain ⟨c, dv, hw, _⟩ := hM.row hm
  have h1 : Nat.beq n a = false := by rw [beq_eq]; simp; omega
  simp only [execV, ho, xSlice, hE.ev hx, hE.evO hl, hE.evO hh, hn, hT _ _ ht, hT _ _ he, hb, hw, h1, Nat.beq_refl, one, plus]
omit hT
/-- A run without arguments, where the package-level tables are known: whatever lies there stays. -/
theorem FnC.closedG (ok : VPok P vp) (hm : P.follows .mixedOrders = true) {gl : Tr (List Value)} {fuel g : Nat} (h : yesG P vp gl 0 fuel g = true) (hgl : M.gl = gl) : FnC P vp ro g [] M (fun v M' => v = .bool true ∧ M' = M) := by
  intro w hM
  have h0 := h
  unfold yesG startV at h0
  split at h0
  case h_2 => cases h0
  rename_i m hmm
  split at hmm
  case h_2 => cases hmm
  rename_i fn hfn
  split at hmm
  case h_2 => cases hmm
  rename_i f' hfe
  refine ⟨.bool true, w, M, ⟨rfl, rfl⟩, hM, fn, f', hfn, hfe, ?_⟩
  intro w0 f cs V μ a r Fs wm hmm' A hr C R bottom
  cases hmm'
  cases C
  have hG : GlobOk gl wm := fun g l hl => by
    obtain ⟨_, h2, h3⟩ := R.glob g l (by rw [hM.gl, hgl]; exact hl)
    exact ⟨h2, h3⟩
  obtain ⟨e, w', F, ⟨rfl, hb⟩, h1, h2, h3⟩ := yesG_sound ok hm h wm hG bottom
  have hfe' := hfe
  unfold VF.enter at hfe
  split at hfe
  case h_2 => cases hfe
  rename_i c hc
  simp only [Option.some.injEq] at hfe
  obtain ⟨hf, _, _⟩ := fn_facts ok hfn
  obtain ⟨a', g1, g2, g3, g4⟩ := enter_sound (μ := μ) hf .nil hfe'
  subst hfe
  have e1 := AR.empty (A := A)
  have e2 := AR.empty (A := g2)
  obtain rfl := (show RdR μ none r from hr).none_inv
  refine ⟨.bool true, μ, w', F, ?_, h2.trans ?_, h3, Ext.refl _, R.more hb, .bool true⟩
  · have h1 : Steps P (lone (Frame.enter P g ⟨[]⟩ .normal) bottom wm) _ := h1
    rw [g1, e2, ← e1] at h1
    exact h1
  · rfl

/-! ### A call whose arguments bring no memory -/
def start0 (gl : Tr (List Value)) : VW := { next := 0, heap := .nil, gl }
def start0M (gl : Tr (List Value)) : AM := { next := 0, get := fun _ => none, gl }
theorem start0_abs (gl : Tr (List Value)) : Abs 0 (start0 gl) (start0M gl) :=
  ⟨rfl, rfl, (fun b o h => by rw [show (start0 gl).heap.get b = none from Tr.get_nil b] at h; cases h), (fun b a h => nomatch h), Nat.le_refl _⟩
theorem start0_rel {gl : Tr (List Value)} {W : World} (hG : GlobOk gl W) : Rel (fun _ => none) 0 W (start0 gl) W :=
  { below := Below.refl _ _
    fresh := fun b _ => ⟨rfl, Tr.get_nil b⟩
    obj := fun b o hb => by rw [show (start0 gl).heap.get b = none from Tr.get_nil b] at hb; cases hb
    inj := fun b b' L L' o o' _ hb => by rw [show (start0 gl).heap.get b = none from Tr.get_nil b] at hb; cases hb
    new := fun b L _ hm => by cases hm
    tot := fun b hb => absurd hb (Nat.not_lt_zero b)
    ron := Nat.le_refl _
    glob := fun g l hl => by
      obtain ⟨h2, e, fz, h3⟩ := hG g l hl
      exact ⟨heap_lt h3, h2, e, fz, h3⟩ }
end
end Go.Wvm
