/- What each operation yields and makes of the memory, in the logic over the small machine. -/
import Derived.Test.YtpglehckhnencaaWvmLga
set_option linter.unusedSimpArgs false
set_option linter.unusedVariables false
namespace Go.Wvm
open Go.RowKit

/-! ### Types that are known -/
def tyGet : List (Nat × TyI) → Nat → Option TyI
  | [], _ => none
  | (a, v) :: r, t => match Nat.beq a t with
    | true => some v
    | false => tyGet r t
def TyOk (vp : VP) (T : List (Nat × TyI)) : Prop := ∀ t i, tyGet T t = some i → vp.ty.get t = some i
theorem TyOk.nil (vp : VP) : TyOk vp [] := fun t i h => by cases h
theorem TyOk.cons {vp : VP} {T : List (Nat × TyI)} {t : Nat} {i : TyI} (h : vp.ty.get t = some i) (k : TyOk vp T) : TyOk vp ((t, i) :: T) := by
  intro u j hu
  simp only [tyGet] at hu
  split at hu
  · rename_i hb
    cases hu; rw [← Nat.eq_of_beq_eq_true hb]; exact h
  · exact k u j hu

theorem TyOk.of_map {vp : VP} : ∀ {T : List (Nat × TyI)}, (T.map fun p => vp.ty.get p.1) = T.map (fun p => some p.2) → TyOk vp T
  | [], _ => TyOk.nil vp
  | (t, i) :: T, h => by
    simp only [List.map_cons, List.cons.injEq] at h
    exact TyOk.cons h.1 (TyOk.of_map h.2)

/-! ### Integers -/
/-- It is a number of that kind. -/
def InR (k : IntKind) (n : Int) : Prop := match k with
  | .i8 => -128 ≤ n ∧ n ≤ 127
  | .i16 => -32768 ≤ n ∧ n ≤ 32767
  | .i32 => -2147483648 ≤ n ∧ n ≤ 2147483647
  | .i64 => -9223372036854775808 ≤ n ∧ n ≤ 9223372036854775807
  | .u8 => 0 ≤ n ∧ n ≤ 255
  | .u16 => 0 ≤ n ∧ n ≤ 65535
  | .u32 => 0 ≤ n ∧ n ≤ 4294967295
  | .u64 => 0 ≤ n ∧ n ≤ 18446744073709551615
theorem fwrap_in {k : IntKind} {n : Int} (h : InR k n) : fwrap k n = n := by
  rw [fwrap_eq]
  unfold IntKind.wrap
  cases k <;> simp only [InR] at h <;> simp only [IntKind.bits, IntKind.signed] <;> simp <;> omega
theorem fwrap_u64 (n : Int) : fwrap .u64 n = n % 18446744073709551616 := by
  rw [fwrap_eq]; simp [IntKind.wrap, IntKind.bits, IntKind.signed]
theorem fwrap_u8 (n : Int) : fwrap .u8 n = n % 256 := by
  rw [fwrap_eq]; simp [IntKind.wrap, IntKind.bits, IntKind.signed]
theorem fwrap_u32 (n : Int) : fwrap .u32 n = n % 4294967296 := by
  rw [fwrap_eq]; simp [IntKind.wrap, IntKind.bits, IntKind.signed]
theorem fwrap_u16 (n : Int) : fwrap .u16 n = n % 65536 := by
  rw [fwrap_eq]; simp [IntKind.wrap, IntKind.bits, IntKind.signed]
theorem fmod_in {n : Int} {m : Nat} (h0 : 0 ≤ n) (h1 : n < m) : fmod n m = n.toNat := by
  have := fmod_eq n m (by omega)
  rw [Int.emod_eq_of_lt h0 h1] at this
  omega
theorem keq_self (k : IntKind) : keq k k = true := by cases k <;> rfl

section
variable {P : Program} {vp : VP} {E : En} {M : AM}

/-- An operation that leaves the world, and what it yields. -/
def Pu (P : Program) (vp : VP) (E : En) (M : AM) (op : Op) (v : Value) : Prop :=
  ∀ (ro ro' : Nat) (fr : VF) (w : VW) (o : Oper), o.op = op → Has fr.tm E → Abs ro' w M → execV P vp ro fr o w = some (.value v, w)
/-- An operation, and what it makes of the memory. -/
def Op1 (P : Program) (vp : VP) (ro : Nat) (E : En) (M : AM) (op : Op) (n : VN) (M' : AM) : Prop :=
  ∀ (fr : VF) (w : VW) (o : Oper), o.op = op → Has fr.tm E → Abs ro w M → ∃ w', execV P vp ro fr o w = some (n, w') ∧ Abs ro w' M'

theorem Pu.move {x : Operand} {v : Value} (h : evE E x = some v) : Pu P vp E M (.move x) v := by
  intro ro ro' fr w o ho hE hM
  simp only [execV, ho, hE.ev h, one]
theorem Pu.assign {x : Operand} {v : Value} (h : evE E x = some v) : Pu P vp E M (.assign x) v := by
  intro ro ro' fr w o ho hE hM
  simp only [execV, ho, hE.ev h, one]
theorem Pu.pickT {c x y : Operand} {b : Bool} {v : Value} (h : evE E c = some (.bool b)) (hb : b = true) (k : evE E x = some v) : Pu P vp E M (.pick c x y) v := by
  subst hb
  intro ro ro' fr w o ho hE hM
  simp only [execV, ho, hE.ev h, hE.ev k, one]
theorem Pu.pickF {c x y : Operand} {b : Bool} {v : Value} (h : evE E c = some (.bool b)) (hb : b = false) (k : evE E y = some v) : Pu P vp E M (.pick c x y) v := by
  subst hb
  intro ro ro' fr w o ho hE hM
  simp only [execV, ho, hE.ev h, hE.ev k, one]

def isShift : BinOp → Bool
  | .shl | .shr => true
  | _ => false
theorem Pu.int {op : BinOp} {t t' : TypeId} {x y : Operand} {k : IntKind} {a b : Int} {v : Value} (hx : evE E x = some (.int k a)) (hy : evE E y = some (.int k b)) (hs : isShift op = false) (h : intOp op k a b = some v) :
    Pu P vp E M (.binOp op t x y t') v := by
  intro ro ro' fr w o ho hE hM
  simp only [execV, ho, xBinOp, hE.ev hx, hE.ev hy, binOp]
  cases op <;> first
    | (cases hs; done)
    | (simp only [keq_self, h, one])
theorem Pu.add {t t' : TypeId} {x y : Operand} {k : IntKind} {a b : Int} (hx : evE E x = some (.int k a)) (hy : evE E y = some (.int k b)) (h : InR k (a + b)) : Pu P vp E M (.binOp .add t x y t') (.int k (a + b)) :=
  Pu.int hx hy rfl (by simp only [intOp, fwrap_in h])
theorem Pu.sub {t t' : TypeId} {x y : Operand} {k : IntKind} {a b : Int} (hx : evE E x = some (.int k a)) (hy : evE E y = some (.int k b)) (h : InR k (a - b)) : Pu P vp E M (.binOp .sub t x y t') (.int k (a - b)) :=
  Pu.int hx hy rfl (by simp only [intOp, fwrap_in h])
theorem Pu.mul {t t' : TypeId} {x y : Operand} {k : IntKind} {a b : Int} (hx : evE E x = some (.int k a)) (hy : evE E y = some (.int k b)) (h : InR k (a * b)) : Pu P vp E M (.binOp .mul t x y t') (.int k (a * b)) :=
  Pu.int hx hy rfl (by simp only [intOp, fwrap_in h])
theorem ieq0 {b : Int} (h : b ≠ 0) : ieq b 0 = false := by rw [ieq_eq]; simpa using h
theorem Pu.rem {t t' : TypeId} {x y : Operand} {k : IntKind} {a b : Int} (hx : evE E x = some (.int k a)) (hy : evE E y = some (.int k b)) (h0 : 0 ≤ a) (h1 : 0 < b) : Pu P vp E M (.binOp .rem t x y t') (.int k (a % b)) :=
  Pu.int hx hy rfl (by simp only [intOp, ieq0 (show b ≠ 0 by omega), Int.tmod_eq_emod_of_nonneg h0])
theorem Pu.quo {t t' : TypeId} {x y : Operand} {k : IntKind} {a b : Int} (hx : evE E x = some (.int k a)) (hy : evE E y = some (.int k b)) (h0 : 0 ≤ a) (h1 : 0 < b) (h : InR k a) : Pu P vp E M (.binOp .quo t x y t') (.int k (a / b)) := by
  refine Pu.int hx hy rfl ?_
  have e : a.tdiv b = a / b := Int.tdiv_eq_ediv_of_nonneg h0
  have h2 : 0 ≤ a / b := Int.ediv_nonneg h0 (by omega)
  have h3 : a / b ≤ a := Int.ediv_le_self _ h0
  simp only [intOp, ieq0 (show b ≠ 0 by omega), e]
  rw [fwrap_in]
  cases k <;> simp only [InR] at h ⊢ <;> omega
theorem Pu.eqlI {t t' : TypeId} {x y : Operand} {k : IntKind} {a b : Int} (hx : evE E x = some (.int k a)) (hy : evE E y = some (.int k b)) : Pu P vp E M (.binOp .eql t x y t') (.bool (decide (a = b))) :=
  Pu.int hx hy rfl (by simp only [intOp, ieq_eq])
theorem Pu.neqI {t t' : TypeId} {x y : Operand} {k : IntKind} {a b : Int} (hx : evE E x = some (.int k a)) (hy : evE E y = some (.int k b)) : Pu P vp E M (.binOp .neq t x y t') (.bool (!decide (a = b))) :=
  Pu.int hx hy rfl (by simp only [intOp, ieq_eq])
theorem Pu.lssI {t t' : TypeId} {x y : Operand} {k : IntKind} {a b : Int} (hx : evE E x = some (.int k a)) (hy : evE E y = some (.int k b)) : Pu P vp E M (.binOp .lss t x y t') (.bool (decide (a < b))) :=
  Pu.int hx hy rfl (by simp only [intOp, ilt_eq])
theorem Pu.gtrI {t t' : TypeId} {x y : Operand} {k : IntKind} {a b : Int} (hx : evE E x = some (.int k a)) (hy : evE E y = some (.int k b)) : Pu P vp E M (.binOp .gtr t x y t') (.bool (decide (b < a))) :=
  Pu.int hx hy rfl (by simp only [intOp, ilt_eq])
theorem Pu.leqI {t t' : TypeId} {x y : Operand} {k : IntKind} {a b : Int} (hx : evE E x = some (.int k a)) (hy : evE E y = some (.int k b)) : Pu P vp E M (.binOp .leq t x y t') (.bool (decide (a ≤ b))) :=
  Pu.int hx hy rfl (by simp only [intOp, ilt_eq]; congr 2; rw [Bool.eq_iff_iff]; simp)
theorem Pu.geqI {t t' : TypeId} {x y : Operand} {k : IntKind} {a b : Int} (hx : evE E x = some (.int k a)) (hy : evE E y = some (.int k b)) : Pu P vp E M (.binOp .geq t x y t') (.bool (decide (b ≤ a))) :=
  Pu.int hx hy rfl (by simp only [intOp, ilt_eq]; congr 2; rw [Bool.eq_iff_iff]; simp)

theorem InR.lt_mod {k : IntKind} {n : Int} (h : InR k n) : n < modOf k := by cases k <;> simp only [InR] at h <;> simp only [modOf] <;> omega
theorem modOf_le_bits (k : IntKind) : modOf k = 2 ^ bitsOf k := by rw [bitsOf_eq, modOf_nat]
theorem bit_in {k : IntKind} {a b : Int} (f : Nat → Nat → Nat) (hf : ∀ x y : Nat, ∀ n, x < 2 ^ n → y < 2 ^ n → f x y < 2 ^ n) (ha : InR k a) (hb : InR k b) (a0 : 0 ≤ a) (b0 : 0 ≤ b) :
    fwrap k (.ofNat (f (fmod a (modOf k)) (fmod b (modOf k)))) = ((f a.toNat b.toNat : Nat) : Int) := by
  rw [fmod_in a0 ha.lt_mod, fmod_in b0 hb.lt_mod]
  apply fwrap_in
  have key : ∀ n, a < (2 ^ n : Nat) → b < (2 ^ n : Nat) → f a.toNat b.toNat < 2 ^ n := fun n h1 h2 => hf _ _ n (by omega) (by omega)
  cases k <;> simp only [InR] at ha hb ⊢
  · have := key 7 (by omega) (by omega); simp only [Int.ofNat_eq_natCast]; omega
  · have := key 15 (by omega) (by omega); simp only [Int.ofNat_eq_natCast]; omega
  · have := key 31 (by omega) (by omega); simp only [Int.ofNat_eq_natCast]; omega
  · have := key 63 (by omega) (by omega); simp only [Int.ofNat_eq_natCast]; omega
  · have := key 8 (by omega) (by omega); simp only [Int.ofNat_eq_natCast]; omega
  · have := key 16 (by omega) (by omega); simp only [Int.ofNat_eq_natCast]; omega
  · have := key 32 (by omega) (by omega); simp only [Int.ofNat_eq_natCast]; omega
  · have := key 64 (by omega) (by omega); simp only [Int.ofNat_eq_natCast]; omega
theorem Pu.and {t t' : TypeId} {x y : Operand} {k : IntKind} {a b : Int} (hx : evE E x = some (.int k a)) (hy : evE E y = some (.int k b)) (a0 : 0 ≤ a) (b0 : 0 ≤ b) (ha : InR k a) (hb : InR k b) :
    Pu P vp E M (.binOp .and t x y t') (.int k ((a.toNat &&& b.toNat : Nat) : Int)) :=
  Pu.int hx hy rfl (by simp only [intOp]; rw [bit_in Nat.land (fun x y n h1 h2 => Nat.and_lt_two_pow x h2) ha hb a0 b0]; rfl)
theorem Pu.or {t t' : TypeId} {x y : Operand} {k : IntKind} {a b : Int} (hx : evE E x = some (.int k a)) (hy : evE E y = some (.int k b)) (a0 : 0 ≤ a) (b0 : 0 ≤ b) (ha : InR k a) (hb : InR k b) :
    Pu P vp E M (.binOp .or t x y t') (.int k ((a.toNat ||| b.toNat : Nat) : Int)) :=
  Pu.int hx hy rfl (by simp only [intOp]; rw [bit_in Nat.lor (fun x y n h1 h2 => Nat.or_lt_two_pow h1 h2) ha hb a0 b0]; rfl)
theorem Pu.xor {t t' : TypeId} {x y : Operand} {k : IntKind} {a b : Int} (hx : evE E x = some (.int k a)) (hy : evE E y = some (.int k b)) (a0 : 0 ≤ a) (b0 : 0 ≤ b) (ha : InR k a) (hb : InR k b) :
    Pu P vp E M (.binOp .xor t x y t') (.int k ((a.toNat ^^^ b.toNat : Nat) : Int)) :=
  Pu.int hx hy rfl (by simp only [intOp]; rw [bit_in Nat.xor (fun x y n h1 h2 => Nat.xor_lt_two_pow h1 h2) ha hb a0 b0]; rfl)

theorem Pu.shift {op : BinOp} {t t' : TypeId} {x y : Operand} {k k' : IntKind} {a b : Int} {v : Value} (hx : evE E x = some (.int k a)) (hy : evE E y = some (.int k' b)) (hs : isShift op = true) (h : shiftOp op k a b = some v) :
    Pu P vp E M (.binOp op t x y t') v := by
  intro ro ro' fr w o ho hE hM
  simp only [execV, ho, xBinOp, hE.ev hx, hE.ev hy, binOp]
  cases op <;> first
    | (cases hs; done)
    | (simp only [h, one])
theorem toNat_ofNat {b : Int} (h : 0 ≤ b) : b = .ofNat b.toNat := by simp only [Int.ofNat_eq_natCast]; omega
/-- A shift to the right of a number that is not less than 0. -/
theorem Pu.shr {t t' : TypeId} {x y : Operand} {k k' : IntKind} {a b : Int} (hx : evE E x = some (.int k a)) (hy : evE E y = some (.int k' b)) (hb : 0 ≤ b) (ha : 0 ≤ a) (hr : InR k a) :
    Pu P vp E M (.binOp .shr t x y t') (.int k (a / 2 ^ b.toNat)) := by
  refine Pu.shift hx hy rfl ?_
  have e : shiftOp .shr k a b = some (.int k (ishr a (nmin b.toNat (bitsOf k)))) := by
    conv => lhs; rw [toNat_ofNat hb]
    rfl
  rw [e, nmin_eq, ishr_eq]
  have hlt := hr.lt_mod
  rw [modOf_le_bits] at hlt
  have hp : ∀ n : Nat, (0 : Int) < 2 ^ n := fun n => by have := Nat.two_pow_pos n; exact_mod_cast this
  rw [Int.fdiv_eq_ediv_of_nonneg _ (Int.le_of_lt (hp _))]
  congr 2
  by_cases h : b.toNat ≤ bitsOf k
  · rw [Nat.min_eq_left h]
  · rw [Nat.min_eq_right (by omega)]
    rw [Int.ediv_eq_zero_of_lt ha (by exact_mod_cast hlt), Int.ediv_eq_zero_of_lt ha]
    have : (2 : Nat) ^ bitsOf k ≤ 2 ^ b.toNat := Nat.pow_le_pow_right (by omega) (by omega)
    have h2 : ((2 ^ bitsOf k : Nat) : Int) ≤ ((2 ^ b.toNat : Nat) : Int) := by exact_mod_cast this
    have h3 : ((2 ^ b.toNat : Nat) : Int) = (2 : Int) ^ b.toNat := by simp
    omega
/-- A shift to the left. -/
theorem Pu.shlW {t t' : TypeId} {x y : Operand} {k k' : IntKind} {a b : Int} (hx : evE E x = some (.int k a)) (hy : evE E y = some (.int k' b)) (hb : 0 ≤ b) (hle : b.toNat ≤ bitsOf k) :
    Pu P vp E M (.binOp .shl t x y t') (.int k (fwrap k (a * 2 ^ b.toNat))) := by
  refine Pu.shift hx hy rfl ?_
  have e : shiftOp .shl k a b = some (.int k (fwrap k (a * .ofNat (2 ^ nmin b.toNat (bitsOf k))))) := by
    conv => lhs; rw [toNat_ofNat hb]
    rfl
  rw [e, nmin_eq, Nat.min_eq_left hle]
  congr 3
theorem Pu.shl {t t' : TypeId} {x y : Operand} {k k' : IntKind} {a b : Int} (hx : evE E x = some (.int k a)) (hy : evE E y = some (.int k' b)) (hb : 0 ≤ b) (hle : b.toNat ≤ bitsOf k) (hr : InR k (a * 2 ^ b.toNat)) :
    Pu P vp E M (.binOp .shl t x y t') (.int k (a * 2 ^ b.toNat)) := by
  have := Pu.shlW (P := P) (vp := vp) (M := M) (t := t) (t' := t') hx hy hb hle
  rw [fwrap_in hr] at this; exact this

theorem Pu.addU64 {t t' : TypeId} {x y : Operand} {a b : Int} (hx : evE E x = some (.int .u64 a)) (hy : evE E y = some (.int .u64 b)) : Pu P vp E M (.binOp .add t x y t') (.int .u64 ((a + b) % 18446744073709551616)) :=
  Pu.int hx hy rfl (by simp only [intOp, fwrap_u64])
theorem Pu.subU64 {t t' : TypeId} {x y : Operand} {a b : Int} (hx : evE E x = some (.int .u64 a)) (hy : evE E y = some (.int .u64 b)) : Pu P vp E M (.binOp .sub t x y t') (.int .u64 ((a - b) % 18446744073709551616)) :=
  Pu.int hx hy rfl (by simp only [intOp, fwrap_u64])
theorem Pu.mulU64 {t t' : TypeId} {x y : Operand} {a b : Int} (hx : evE E x = some (.int .u64 a)) (hy : evE E y = some (.int .u64 b)) : Pu P vp E M (.binOp .mul t x y t') (.int .u64 ((a * b) % 18446744073709551616)) :=
  Pu.int hx hy rfl (by simp only [intOp, fwrap_u64])
theorem Pu.subU8 {t t' : TypeId} {x y : Operand} {a b : Int} (hx : evE E x = some (.int .u8 a)) (hy : evE E y = some (.int .u8 b)) : Pu P vp E M (.binOp .sub t x y t') (.int .u8 ((a - b) % 256)) :=
  Pu.int hx hy rfl (by simp only [intOp, fwrap_u8])
theorem Pu.addU8 {t t' : TypeId} {x y : Operand} {a b : Int} (hx : evE E x = some (.int .u8 a)) (hy : evE E y = some (.int .u8 b)) : Pu P vp E M (.binOp .add t x y t') (.int .u8 ((a + b) % 256)) :=
  Pu.int hx hy rfl (by simp only [intOp, fwrap_u8])
theorem Pu.shlU8 {t t' : TypeId} {x y : Operand} {k' : IntKind} {a b : Int} (hx : evE E x = some (.int .u8 a)) (hy : evE E y = some (.int k' b)) (hb : 0 ≤ b) (hle : b.toNat ≤ 8) : Pu P vp E M (.binOp .shl t x y t') (.int .u8 (a * 2 ^ b.toNat % 256)) := by
  have := Pu.shlW (P := P) (vp := vp) (M := M) (t := t) (t' := t') hx hy hb hle
  rw [fwrap_u8] at this; exact this
theorem Pu.shlU64 {t t' : TypeId} {x y : Operand} {k' : IntKind} {a b : Int} (hx : evE E x = some (.int .u64 a)) (hy : evE E y = some (.int k' b)) (hb : 0 ≤ b) (hle : b.toNat ≤ 64) : Pu P vp E M (.binOp .shl t x y t') (.int .u64 (a * 2 ^ b.toNat % 18446744073709551616)) := by
  have := Pu.shlW (P := P) (vp := vp) (M := M) (t := t) (t' := t') hx hy hb hle
  rw [fwrap_u64] at this; exact this

/-! texts -/
theorem Pu.str {op : BinOp} {t t' : TypeId} {x y : Operand} {a b : List UInt8} {v : Value} (hx : evE E x = some (.string ⟨⟨a⟩⟩)) (hy : evE E y = some (.string ⟨⟨b⟩⟩)) (h : strOp op a b = some v) : Pu P vp E M (.binOp op t x y t') v := by
  intro ro ro' fr w o ho hE hM
  simp only [execV, ho, xBinOp, hE.ev hx, hE.ev hy, binOp, h, one]
theorem Pu.eqlS {t t' : TypeId} {x y : Operand} {a b : List UInt8} (hx : evE E x = some (.string ⟨⟨a⟩⟩)) (hy : evE E y = some (.string ⟨⟨b⟩⟩)) : Pu P vp E M (.binOp .eql t x y t') (.bool (decide (a = b))) :=
  Pu.str hx hy (by simp only [strOp, leq_eq])
theorem Pu.neqS {t t' : TypeId} {x y : Operand} {a b : List UInt8} (hx : evE E x = some (.string ⟨⟨a⟩⟩)) (hy : evE E y = some (.string ⟨⟨b⟩⟩)) : Pu P vp E M (.binOp .neq t x y t') (.bool (!decide (a = b))) :=
  Pu.str hx hy (by simp only [strOp, leq_eq])
theorem Pu.catS {t t' : TypeId} {x y : Operand} {a b : List UInt8} (hx : evE E x = some (.string ⟨⟨a⟩⟩)) (hy : evE E y = some (.string ⟨⟨b⟩⟩)) (h : a.length + b.length ≤ 4294967296) : Pu P vp E M (.binOp .add t x y t') (.string ⟨⟨a ++ b⟩⟩) :=
  Pu.str hx hy (by simp only [strOp, Nat.ble_eq_true_of_le h])

/-! what is nil -/
theorem Pu.eqK {op : BinOp} {t t' : TypeId} {x y : Operand} {a b v : Value} (hx : evE E x = some a) (hy : evE E y = some b) (h : binOp vp op t x y a b = some v) (hp : (match a, b with | .pointer (some _), .pointer (some _) => false | _, _ => true) = true) : Pu P vp E M (.binOp op t x y t') v := by
  intro ro ro' fr w o ho hE hM
  simp only [execV, ho, xBinOp, hE.ev hx, hE.ev hy]
  split
  · rename_i h1 h2
    cases h1; cases h2; cases hp
  · rename_i h1 h2
    cases h1; cases h2
    simp only [h, one]
  · rename_i h1
    exact absurd rfl (h1 _ _ rfl)
section
variable {T : List (Nat × TyI)} (hT : TyOk vp T)
include hT
theorem Pu.eqlP {t t' e : TypeId} {x y : Operand} {a : Option Addr} {s b : Nat} {z : Option Value} {g : Bool} (hx : evE E x = some (.pointer a)) (hy : evE E y = some (.pointer none)) (ht : tyGet T t = some ⟨.pointer e, s, b, z, g⟩) : Pu P vp E M (.binOp .eql t x y t') (.bool (!a.isSome)) := by
  refine Pu.eqK hx hy ?_ (by cases a <;> rfl)
  cases a <;> simp [binOp, hT _ _ ht, eqOp]
theorem Pu.neqP {t t' e : TypeId} {x y : Operand} {a : Option Addr} {s b : Nat} {z : Option Value} {g : Bool} (hx : evE E x = some (.pointer a)) (hy : evE E y = some (.pointer none)) (ht : tyGet T t = some ⟨.pointer e, s, b, z, g⟩) : Pu P vp E M (.binOp .neq t x y t') (.bool a.isSome) := by
  refine Pu.eqK hx hy ?_ (by cases a <;> rfl)
  cases a <;> simp [binOp, hT _ _ ht, eqOp]
theorem Pu.eqlB {t t' : TypeId} {x y : Operand} {a b : Bool} {s c : Nat} {z : Option Value} {g : Bool} (hx : evE E x = some (.bool a)) (hy : evE E y = some (.bool b)) (ht : tyGet T t = some ⟨.bool, s, c, z, g⟩) : Pu P vp E M (.binOp .eql t x y t') (.bool (a == b)) := by
  refine Pu.eqK hx hy ?_ rfl
  cases a <;> cases b <;> simp [binOp, hT _ _ ht, eqOp]
theorem Pu.neqB {t t' : TypeId} {x y : Operand} {a b : Bool} {s c : Nat} {z : Option Value} {g : Bool} (hx : evE E x = some (.bool a)) (hy : evE E y = some (.bool b)) (ht : tyGet T t = some ⟨.bool, s, c, z, g⟩) : Pu P vp E M (.binOp .neq t x y t') (.bool (a != b)) := by
  refine Pu.eqK hx hy ?_ rfl
  cases a <;> cases b <;> simp [binOp, hT _ _ ht, eqOp]
end

theorem Pu.un {op : UnOp} {t : TypeId} {x : Operand} {a v : Value} (hx : evE E x = some a) (h : unOp op a = some v) : Pu P vp E M (.unOp op t x) v := by
  intro ro ro' fr w o ho hE hM
  simp only [execV, ho, hE.ev hx, h, one]
theorem Pu.not {t : TypeId} {x : Operand} {b : Bool} (hx : evE E x = some (.bool b)) : Pu P vp E M (.unOp .not t x) (.bool (!b)) := Pu.un hx rfl
theorem Pu.neg {t : TypeId} {x : Operand} {k : IntKind} {n : Int} (hx : evE E x = some (.int k n)) (h : InR k (0 - n)) : Pu P vp E M (.unOp .neg t x) (.int k (-n)) :=
  Pu.un hx (by simp only [unOp, fwrap_in h]; simp)

theorem Pu.nilCheck {x : Operand} {a : Addr} (hx : evE E x = some (.pointer (some a))) : Pu P vp E M (.nilCheck x) (.pointer (some a)) := by
  intro ro ro' fr w o ho hE hM
  simp only [execV, ho, xNilCheck, hE.ev hx, one]
theorem Pu.nilCheckF {x : Operand} {f : FuncId} {a b : Array Value} (hx : evE E x = some (.func (.func f) a b)) : Pu P vp E M (.nilCheck x) (.func (.func f) a b) := by
  intro ro ro' fr w o ho hE hM
  simp only [execV, ho, xNilCheck, hE.ev hx, one]

section
variable {T : List (Nat × TyI)} (hT : TyOk vp T)
include hT
theorem Pu.fieldAddr {s : TypeId} {x : Operand} {f b o sz by' : Nat} {z : Option Value} {g : Bool} {fs : Array Field} {fd : Field} {fi : TyI} (hx : evE E x = some (.pointer (some ⟨b, o, none⟩))) (ht : tyGet T s = some ⟨.struct fs, sz, by', z, g⟩)
    (hf : fs.toList[f]? = some fd) (hi : tyGet T fd.type = some fi) (h0 : Nat.beq fi.size 0 = false) : Pu P vp E M (.fieldAddr s x f) (.pointer (some ⟨b, o + fd.offset, none⟩)) := by
  intro ro ro' fr w o' ho hE hM
  simp only [execV, ho, xFieldAddr, hE.ev hx, hT _ _ ht, hf, hT _ _ hi, h0, one, plus]
theorem Pu.field {s : TypeId} {x : Operand} {f sz by' : Nat} {z : Option Value} {g : Bool} {fs : Array Field} {fd : Field} {cs : List Value} {v : Value} (hx : evE E x = some (.agg ⟨cs⟩)) (ht : tyGet T s = some ⟨.struct fs, sz, by', z, g⟩)
    (hf : fs.toList[f]? = some fd) {fi : TyI} (hi : tyGet T fd.type = some fi) (ha : fi.agg = false) (hv : cs[fd.offset]? = some v) : Pu P vp E M (.field s x f) v := by
  intro ro ro' fr w o ho hE hM
  simp only [execV, ho, xField, hE.ev hx, hT _ _ ht, hf, partL, hT _ _ hi, ha, hv, one]
theorem Pu.fieldA {s : TypeId} {x : Operand} {f sz by' : Nat} {z : Option Value} {g : Bool} {fs : Array Field} {fd : Field} {cs : List Value} (hx : evE E x = some (.agg ⟨cs⟩)) (ht : tyGet T s = some ⟨.struct fs, sz, by', z, g⟩)
    (hf : fs.toList[f]? = some fd) {fi : TyI} (hi : tyGet T fd.type = some fi) (ha : fi.agg = true) (hv : fd.offset + fi.size ≤ cs.length) : Pu P vp E M (.field s x f) (.agg ⟨(cs.drop fd.offset).take fi.size⟩) := by
  intro ro ro' fr w o ho hE hM
  simp only [execV, ho, xField, hE.ev hx, hT _ _ ht, hf, partL, hT _ _ hi, ha, Nat.ble_eq_true_of_le hv, one]
theorem Pu.indexAddr {t e : TypeId} {x ix : Operand} {b o len cap sz by' : Nat} {z : Option Value} {g : Bool} {k : IntKind} {i : Int} {ei : TyI} (hx : evE E x = some (.slice (some ⟨b, o, none⟩) len cap)) (hi : evE E ix = some (.int k i)) (ht : tyGet T t = some ⟨.slice e, sz, by', z, g⟩)
    (he : tyGet T e = some ei) (h0 : 0 ≤ i) (h1 : i < len) : Pu P vp E M (.indexAddr t x ix) (.pointer (some ⟨b, o + i.toNat * ei.size, none⟩)) := by
  intro ro ro' fr w o' ho hE hM
  have hi2 : evE E ix = some (.int k (.ofNat i.toNat)) := by rw [hi]; congr 2; exact toNat_ofNat h0
  have hb : Nat.blt i.toNat len = true := Nat.ble_eq_true_of_le (by omega)
  simp only [execV, ho, xIndexAddr, hE.ev hx, hE.ev hi2, hT _ _ ht, hT _ _ he, hb, one, plus]
theorem Pu.indexS {t : TypeId} {x ix : Operand} {l : List UInt8} {sz by' : Nat} {z : Option Value} {g : Bool} {k : IntKind} {i : Int} (hx : evE E x = some (.string ⟨⟨l⟩⟩)) (hi : evE E ix = some (.int k i)) (ht : tyGet T t = some ⟨.string, sz, by', z, g⟩)
    (h0 : 0 ≤ i) (h1 : i < l.length) : Pu P vp E M (.index t x ix) (.int .u8 ((l.getD i.toNat 0).toNat : Int)) := by
  intro ro ro' fr w o' ho hE hM
  have hi2 : evE E ix = some (.int k (.ofNat i.toNat)) := by rw [hi]; congr 2; exact toNat_ofNat h0
  have hb : l[i.toNat]? = some (l.getD i.toNat 0) := by rw [List.getD_eq_getElem?_getD, List.getElem?_eq_getElem (by omega)]; rfl
  simp only [execV, ho, xIndex, hE.ev hx, hE.ev hi2, hT _ _ ht, hb, one]
  rfl
omit hT in
theorem Pu.extract {x : Operand} {i : Nat} {vs : List Value} {v : Value} (hx : evE E x = some (.tuple ⟨vs⟩)) (hv : vs[i]? = some v) : Pu P vp E M (.extract x i) v := by
  intro ro ro' fr w o' ho hE hM
  simp only [execV, ho, hE.ev hx, hv, one]

omit hT in
theorem Pu.bi1 {b : Builtin} {args : Array Operand} {ts : Array TypeId} {vs : List Value} {v : Value} (hx : evsE E args.toList = some vs) (h : ∀ ro w, builtinV vp ro b ts.toList vs w = some (.value v, w)) : Pu P vp E M (.call { callee := .builtin b, args, argTypes := ts }) v := by
  intro ro ro' fr w o' ho hE hM
  simp only [execV, ho, hE.evs hx, h]
theorem Pu.lenL {t : TypeId} {x : Operand} {b : Option Addr} {n c s by' : Nat} {z : Option Value} {g : Bool} {e : TypeId} (hx : evE E x = some (.slice b n c)) (ht : tyGet T t = some ⟨.slice e, s, by', z, g⟩) : Pu P vp E M (.call { callee := .builtin .len, args := #[x], argTypes := #[t] }) (.int .i64 (n : Int)) :=
  Pu.bi1 (vs := [.slice b n c]) (by simp [evsE, hx]) fun ro w => by simp only [builtinV, hT _ _ ht, lenOf, one]; rfl
theorem Pu.lenS {t : TypeId} {x : Operand} {l : List UInt8} {s by' : Nat} {z : Option Value} {g : Bool} (hx : evE E x = some (.string ⟨⟨l⟩⟩)) (ht : tyGet T t = some ⟨.string, s, by', z, g⟩) : Pu P vp E M (.call { callee := .builtin .len, args := #[x], argTypes := #[t] }) (.int .i64 (l.length : Int)) :=
  Pu.bi1 (vs := [.string ⟨⟨l⟩⟩]) (by simp [evsE, hx]) fun ro w => by simp only [builtinV, hT _ _ ht, lenOf, one]; rfl
omit hT in
theorem minV_int (k : IntKind) (a b : Int) : minV (.int k a) (.int k b) = some (.int k (min a b)) := by
  simp only [minV, ilt_eq]
  by_cases h : b < a
  · simp only [h, decide_true]; rw [Int.min_eq_right (by omega)]
  · simp only [h, decide_false]; rw [Int.min_eq_left (by omega)]
omit hT in
theorem maxV_int (k : IntKind) (a b : Int) : maxV (.int k a) (.int k b) = some (.int k (max a b)) := by
  simp only [maxV, ilt_eq]
  by_cases h : a < b
  · simp only [h, decide_true]; rw [Int.max_eq_right (by omega)]
  · simp only [h, decide_false]; rw [Int.max_eq_left (by omega)]
omit hT in
theorem Pu.min2 {ts : Array TypeId} {x y : Operand} {k : IntKind} {a b : Int} (hx : evE E x = some (.int k a)) (hy : evE E y = some (.int k b)) : Pu P vp E M (.call { callee := .builtin .min, args := #[x, y], argTypes := ts }) (.int k (min a b)) :=
  Pu.bi1 (vs := [.int k a, .int k b]) (by simp [evsE, hx, hy]) fun ro w => by simp only [builtinV, minV_int, one]
omit hT in
theorem Pu.max2 {ts : Array TypeId} {x y : Operand} {k : IntKind} {a b : Int} (hx : evE E x = some (.int k a)) (hy : evE E y = some (.int k b)) : Pu P vp E M (.call { callee := .builtin .max, args := #[x, y], argTypes := ts }) (.int k (max a b)) :=
  Pu.bi1 (vs := [.int k a, .int k b]) (by simp [evsE, hx, hy]) fun ro w => by simp only [builtinV, maxV_int, one]

theorem Pu.convI {s d : TypeId} {x : Operand} {k0 k1 k2 : IntKind} {n : Int} {a1 a2 b1 b2 : Nat} {z1 z2 : Option Value} {g1 g2 : Bool} (hx : evE E x = some (.int k0 n)) (hs : tyGet T s = some ⟨.int k1, a1, b1, z1, g1⟩) (hd : tyGet T d = some ⟨.int k2, a2, b2, z2, g2⟩) :
    Pu P vp E M (.convert s d x) (.int k2 (fwrap k2 n)) := by
  intro ro ro' fr w o' ho hE hM
  simp only [execV, ho, xConvert, hE.ev hx, hT _ _ hs, hT _ _ hd, one]
theorem Pu.convN {s d : TypeId} {x : Operand} {k0 k1 k2 : IntKind} {n : Int} {a1 a2 b1 b2 : Nat} {z1 z2 : Option Value} {g1 g2 : Bool} (hx : evE E x = some (.int k0 n)) (hs : tyGet T s = some ⟨.int k1, a1, b1, z1, g1⟩) (hd : tyGet T d = some ⟨.int k2, a2, b2, z2, g2⟩) (h : InR k2 n) :
    Pu P vp E M (.convert s d x) (.int k2 n) := by
  have := Pu.convI (P := P) (M := M) hT hx hs hd
  rw [fwrap_in h] at this; exact this
theorem Pu.convU8 {s d : TypeId} {x : Operand} {k0 k1 : IntKind} {n : Int} {a1 a2 b1 b2 : Nat} {z1 z2 : Option Value} {g1 g2 : Bool} (hx : evE E x = some (.int k0 n)) (hs : tyGet T s = some ⟨.int k1, a1, b1, z1, g1⟩) (hd : tyGet T d = some ⟨.int .u8, a2, b2, z2, g2⟩) :
    Pu P vp E M (.convert s d x) (.int .u8 (n % 256)) := by
  have := Pu.convI (P := P) (M := M) hT hx hs hd
  rw [fwrap_u8] at this; exact this
theorem Pu.convU64 {s d : TypeId} {x : Operand} {k0 k1 : IntKind} {n : Int} {a1 a2 b1 b2 : Nat} {z1 z2 : Option Value} {g1 g2 : Bool} (hx : evE E x = some (.int k0 n)) (hs : tyGet T s = some ⟨.int k1, a1, b1, z1, g1⟩) (hd : tyGet T d = some ⟨.int .u64, a2, b2, z2, g2⟩) :
    Pu P vp E M (.convert s d x) (.int .u64 (n % 18446744073709551616)) := by
  have := Pu.convI (P := P) (M := M) hT hx hs hd
  rw [fwrap_u64] at this; exact this
theorem Pu.convS {s d : TypeId} {x : Operand} {b : ByteArray} {a1 a2 b1 b2 : Nat} {z1 z2 : Option Value} {g1 g2 : Bool} (hx : evE E x = some (.string b)) (hs : tyGet T s = some ⟨.string, a1, b1, z1, g1⟩) (hd : tyGet T d = some ⟨.string, a2, b2, z2, g2⟩) :
    Pu P vp E M (.convert s d x) (.string b) := by
  intro ro ro' fr w o' ho hE hM
  simp only [execV, ho, xConvert, hE.ev hx, hT _ _ hs, hT _ _ hd, one]
omit hT in
theorem bytesL_map (bs : List UInt8) : bytesL (bs.map fun b => .int .u8 ((b.toNat : Nat) : Int)) = some bs := by
  induction bs with
  | nil => rfl
  | cons b bs ih =>
    simp only [List.map_cons, bytesL, ih]
    simp
/-- Bytes of a row as a text. -/
theorem Pu.convB {s d e : TypeId} {x : Operand} {b o len cap u : Nat} {t : Option (TypeId × Nat)} {l : List Value} {bs : List UInt8} {a1 a2 a3 b1 b2 b3 : Nat} {z1 z2 z3 : Option Value} {g1 g2 g3 : Bool} (hx : evE E x = some (.slice (some ⟨b, o, none⟩) len cap)) (hs : tyGet T s = some ⟨.slice e, a1, b1, z1, g1⟩)
    (he : tyGet T e = some ⟨.int .u8, a3, b3, z3, g3⟩) (hd : tyGet T d = some ⟨.string, a2, b2, z2, g2⟩) (hb : M.get b = some (.row l u t)) (hl : (l.drop o).take len = bs.map fun b => .int .u8 ((b.toNat : Nat) : Int)) (hlen : o + len ≤ l.length) :
    Pu P vp E M (.convert s d x) (.string ⟨⟨bs⟩⟩) := by
  intro ro ro' fr w o' ho hE hM
  obtain ⟨c, dv, hw, hc⟩ := hM.row hb
  simp only [execV, ho, xConvert, hE.ev hx, hT _ _ hs, hT _ _ hd, hT _ _ he, hw, cells_load hc len o hlen, hl, bytesL_map, one]
theorem Pu.convB0 {s d e : TypeId} {x : Operand} {len cap : Nat} {a1 a2 a3 b1 b2 b3 : Nat} {z1 z2 z3 : Option Value} {g1 g2 g3 : Bool} (hx : evE E x = some (.slice none len cap)) (hs : tyGet T s = some ⟨.slice e, a1, b1, z1, g1⟩)
    (he : tyGet T e = some ⟨.int .u8, a3, b3, z3, g3⟩) (hd : tyGet T d = some ⟨.string, a2, b2, z2, g2⟩) : Pu P vp E M (.convert s d x) (.string ⟨⟨[]⟩⟩) := by
  intro ro ro' fr w o' ho hE hM
  simp only [execV, ho, xConvert, hE.ev hx, hT _ _ hs, hT _ _ hd, hT _ _ he, one]

theorem Pu.makeInterface {t : TypeId} {x : Operand} {v : Value} {i : TyI} (hx : evE E x = some v) (ht : tyGet T t = some i) (hd : (match i.desc with | .interface _ => false | _ => true) = true) : Pu P vp E M (.makeInterface t x) (.iface t v) := by
  intro ro ro' fr w o' ho hE hM
  obtain ⟨d, s, b, z, g⟩ := i
  simp only [execV, ho, xMakeInterface, hE.ev hx, hT _ _ ht]
  cases d <;> first
    | (cases hd; done)
    | rfl
omit hT in
theorem Pu.makeFunc {f : FuncId} {first captured : Array Operand} {a c : List Value} (ha : evsE E first.toList = some a) (hc : evsE E captured.toList = some c) : Pu P vp E M (.makeFunc (.func f) first captured) (.func (.func f) ⟨a⟩ ⟨c⟩) := by
  intro ro ro' fr w o' ho hE hM
  simp only [execV, ho, xMakeFunc, hE.evs ha, hE.evs hc, one]

omit hT in
def placesT (T : List (Nat × TyI)) : List Field → Option (List (Nat × Nat))
  | [] => some []
  | f :: fs => match tyGet T f.type, placesT T fs with
    | some i, some r => some ((f.offset, i.size) :: r)
    | _, _ => none
theorem placesT_ok : ∀ {fs : List Field} {r : List (Nat × Nat)}, placesT T fs = some r → fieldPlaces vp fs = some r
  | [], r, h => h
  | f :: fs, r, h => by
    simp only [placesT] at h
    split at h
    · rename_i i r' h1 h2
      simp only [fieldPlaces, hT _ _ h1, placesT_ok h2]; exact h
    · cases h
theorem Pu.build {t : TypeId} {parts : Array (Nat × Operand)} {fs : Array Field} {s by' : Nat} {z : Value} {g : Bool} {ps : List (Nat × Value)} {pl : List (Nat × Nat)} {cs : List Value} (ht : tyGet T t = some ⟨.struct fs, s, by', some z, g⟩) (hp : evPartsE E parts.toList = some ps) (hpl : placesT T fs.toList = some pl)
    (hc : fillL (pl[·]?) (cellsL z) ps = some cs) : Pu P vp E M (.build t parts) (.agg ⟨cs⟩) := by
  intro ro ro' fr w o' ho hE hM
  simp only [execV, ho, xBuild, hT _ _ ht, hE.evParts hp, placesT_ok hT hpl, hc, one]

/-! loads -/
theorem Pu.load {t : TypeId} {x : Operand} {b o u : Nat} {l : List Value} {tt : Option (TypeId × Nat)} {i : TyI} {v : Value} (hx : evE E x = some (.pointer (some ⟨b, o, none⟩))) (ht : tyGet T t = some i) (ha : i.agg = false) (hb : M.get b = some (.row l u tt)) (hv : l[o]? = some v) :
    Pu P vp E M (.load t x) v := by
  intro ro ro' fr w o' ho hE hM
  obtain ⟨c, dv, hw, hc⟩ := hM.row hb
  simp only [execV, ho, xLoad, hE.ev hx, loadV, loadC, hT _ _ ht, hw, ha, hc _ _ hv, one]
theorem Pu.loadA {t : TypeId} {x : Operand} {b o u : Nat} {l : List Value} {tt : Option (TypeId × Nat)} {i : TyI} (hx : evE E x = some (.pointer (some ⟨b, o, none⟩))) (ht : tyGet T t = some i) (ha : i.agg = true) (hb : M.get b = some (.row l u tt)) (hv : o + i.size ≤ l.length) :
    Pu P vp E M (.load t x) (.agg ⟨(l.drop o).take i.size⟩) := by
  intro ro ro' fr w o' ho hE hM
  obtain ⟨c, dv, hw, hc⟩ := hM.row hb
  simp only [execV, ho, xLoad, hE.ev hx, loadV, loadC, hT _ _ ht, hw, ha, cells_load hc _ _ hv, one]
theorem Pu.loadG {t : TypeId} {x : Operand} {g o s : Nat} {l : List Value} {i : TyI} {v : Value} (hx : evE E x = some (.pointer (some ⟨g, o, some s⟩))) (ht : tyGet T t = some i) (ha : i.agg = false) (hb : M.gl.get g = some l) (hv : l[o]? = some v) :
    Pu P vp E M (.load t x) v := by
  intro ro ro' fr w o' ho hE hM
  have hg : w.gl.get g = some l := by rw [hM.gl]; exact hb
  simp only [execV, ho, xLoad, hE.ev hx, loadV, Wvm.loadG, hT _ _ ht, hg, ha, hv, one]

/-! cuts -/
omit hT in
def loOf : Option Value → Int
  | some (.int _ n) => n
  | _ => 0
theorem Pu.sliceS {t : TypeId} {x : Operand} {lo hi : Option Operand} {l : List UInt8} {a b : Nat} {vl vh : Option Value} {s by' : Nat} {z : Option Value} {g : Bool} (hx : evE E x = some (.string ⟨⟨l⟩⟩)) (hl : evOE E lo = some vl) (hh : evOE E hi = some vh) (ht : tyGet T t = some ⟨.string, s, by', z, g⟩)
    (hb : bounds l.length l.length vl vh none = some (a, b, l.length)) : Pu P vp E M (.slice t x lo hi none) (.string ⟨⟨(l.drop a).take (b - a)⟩⟩) := by
  intro ro ro' fr w o' ho hE hM
  have hn : fr.evO none = some none := rfl
  simp only [execV, ho, xSlice, hE.ev hx, hE.evO hl, hE.evO hh, hn, hT _ _ ht, hb, one]
end
omit P vp E M in
theorem natIn_int {k : IntKind} {n : Int} {hi : Nat} (h0 : 0 ≤ n) (h1 : n ≤ hi) : natIn (.int k n) hi = some n.toNat := by
  have : natIn (.int k (.ofNat n.toNat)) hi = some n.toNat := by
    simp only [natIn, Nat.ble_eq_true_of_le (show n.toNat ≤ hi by omega)]
  conv => lhs; rw [toNat_ofNat h0]
  exact this
omit P vp E M in
theorem bounds_nn {len cap : Nat} (h : len ≤ cap) : bounds len cap none none none = some (0, len, cap) := rfl
omit P vp E M in
theorem bounds_ln {len cap : Nat} {k : IntKind} {a : Int} (h0 : 0 ≤ a) (h1 : a ≤ len) : bounds len cap (some (.int k a)) none none = some (a.toNat, len, cap) := by
  simp only [bounds, natIn_int h0 h1]
omit P vp E M in
theorem bounds_nh {len cap : Nat} {k : IntKind} {b : Int} (h0 : 0 ≤ b) (h1 : b ≤ cap) : bounds len cap none (some (.int k b)) none = some (0, b.toNat, cap) := by
  simp only [bounds, natIn_int h0 h1]
omit P vp E M in
theorem bounds_lh {len cap : Nat} {k k' : IntKind} {a b : Int} (h0 : 0 ≤ a) (h1 : a ≤ b) (h2 : b ≤ cap) : bounds len cap (some (.int k a)) (some (.int k' b)) none = some (a.toNat, b.toNat, cap) := by
  simp only [bounds, natIn_int (show 0 ≤ b by omega) h2, natIn_int (hi := b.toNat) h0 (by omega)]
section
variable {T : List (Nat × TyI)} (hT : TyOk vp T)
include hT
/-- A cut of a slice: at the end of its room (1), elsewhere (2). -/
theorem Pu.sliceL {t e : TypeId} {x : Operand} {lo hi : Option Operand} {p o len cap a b u : Nat} {l : List Value} {tt : Option (TypeId × Nat)} {vl vh : Option Value} {s by' : Nat} {z : Option Value} {g : Bool} {ei : TyI} (hx : evE E x = some (.slice (some ⟨p, o, none⟩) len cap)) (hl : evOE E lo = some vl) (hh : evOE E hi = some vh)
    (ht : tyGet T t = some ⟨.slice e, s, by', z, g⟩) (he : tyGet T e = some ei) (hb : bounds len cap vl vh none = some (a, b, cap)) (hm : M.get p = some (.row l u tt)) (hu : (Nat.beq u 0 || Nat.beq ei.size u) = true) (hc : a < cap) :
    Pu P vp E M (.slice t x lo hi none) (.slice (some ⟨p, o + a * ei.size, none⟩) (b - a) (cap - a)) := by
  intro ro ro' fr w o' ho hE hM
  have hn : fr.evO none = some none := rfl
  obtain ⟨c, dv, hw, _⟩ := hM.row hm
  have h1 : Nat.beq cap a = false := by rw [beq_eq]; simp; omega
  simp only [execV, ho, xSlice, hE.ev hx, hE.evO hl, hE.evO hh, hn, hT _ _ ht, hT _ _ he, hb, unitAt, hw, hu, h1, one, plus]
theorem Pu.sliceLE {t e : TypeId} {x : Operand} {lo hi : Option Operand} {p o len cap b u : Nat} {l : List Value} {tt : Option (TypeId × Nat)} {vl vh : Option Value} {s by' : Nat} {z : Option Value} {g : Bool} {ei : TyI} (hx : evE E x = some (.slice (some ⟨p, o, none⟩) len cap)) (hl : evOE E lo = some vl) (hh : evOE E hi = some vh)
    (ht : tyGet T t = some ⟨.slice e, s, by', z, g⟩) (he : tyGet T e = some ei) (hb : bounds len cap vl vh none = some (cap, b, cap)) (hm : M.get p = some (.row l u tt)) (hu : (Nat.beq u 0 || Nat.beq ei.size u) = true) :
    Pu P vp E M (.slice t x lo hi none) (.slice (some ⟨p, o, none⟩) 0 0) := by
  intro ro ro' fr w o' ho hE hM
  have hn : fr.evO none = some none := rfl
  obtain ⟨c, dv, hw, _⟩ := hM.row hm
  simp only [execV, ho, xSlice, hE.ev hx, hE.evO hl, hE.evO hh, hn, hT _ _ ht, hT _ _ he, hb, unitAt, hw, hu, Nat.beq_refl, one]
theorem Pu.sliceN {t e : TypeId} {x : Operand} {lo hi : Option Operand} {len cap a b m : Nat} {vl vh : Option Value} {s by' : Nat} {z : Option Value} {g : Bool} {ei : TyI} (hx : evE E x = some (.slice none len cap)) (hl : evOE E lo = some vl) (hh : evOE E hi = some vh)
    (ht : tyGet T t = some ⟨.slice e, s, by', z, g⟩) (he : tyGet T e = some ei) (hb : bounds len cap vl vh none = some (a, b, m)) :
    Pu P vp E M (.slice t x lo hi none) (.slice none (b - a) (m - a)) := by
  intro ro ro' fr w o' ho hE hM
  have hn : fr.evO none = some none := rfl
  simp only [execV, ho, xSlice, hE.ev hx, hE.evO hl, hE.evO hh, hn, hT _ _ ht, hT _ _ he, hb, one]
end
end
end Go.Wvm
