/- The small machine's arithmetic is the model's. -/
import Derived.Test.YtpglehckhnencaaWvmMem
import Derived.Laws.Strings
set_option linter.unusedSimpArgs false
set_option linter.unusedVariables false
namespace Go.Wvm

theorem fmod_eq (n : Int) (m : Nat) (hm : 0 < m) : ((fmod n m : Nat) : Int) = n % (m : Int) := by
  cases n with
  | ofNat a => simp [fmod]
  | negSucc a =>
    have h1 : a % m < m := Nat.mod_lt _ hm
    have h2 : (a : Int) = m * (a / m : Nat) + (a % m : Nat) := by
      have := Nat.div_add_mod a m
      exact_mod_cast this.symm
    simp only [fmod]
    rw [show Int.negSucc a = ((m - 1 - a % m : Nat) : Int) + m * (-((a / m : Nat) : Int) - 1) from ?_]
    · rw [Int.add_mul_emod_self_left, Int.emod_eq_of_lt (by omega) (by omega)]
    · rw [Int.negSucc_eq]
      rw [Int.mul_sub, Int.mul_neg]
      omega

theorem modOf_eq (k : IntKind) : ((modOf k : Nat) : Int) = (2 : Int) ^ k.bits := by cases k <;> rfl
theorem modOf_nat (k : IntKind) : modOf k = 2 ^ k.bits := by cases k <;> rfl
theorem modOf_pos (k : IntKind) : 0 < modOf k := by cases k <;> decide
theorem sgn_eq (k : IntKind) : sgn k = k.signed := by cases k <;> rfl
theorem bitsOf_eq (k : IntKind) : bitsOf k = k.bits := by cases k <;> rfl
theorem half_eq (k : IntKind) : (((modOf k / 2 : Nat)) : Int) = (2 : Int) ^ (k.bits - 1) := by cases k <;> rfl

theorem fwrap_eq (k : IntKind) (n : Int) : fwrap k n = k.wrap n := by
  unfold fwrap IntKind.wrap
  dsimp only
  have h1 := fmod_eq n (modOf k) (modOf_pos k)
  have hlt : (fmod n (modOf k) : Int) < modOf k := by rw [h1]; exact Int.emod_lt_of_pos _ (by have := modOf_pos k; omega)
  rw [← modOf_eq, ← half_eq, ← h1, ← sgn_eq]
  generalize fmod n (modOf k) = r at *
  cases sgn k with
  | false => simp
  | true =>
    cases hb : Nat.blt r (modOf k / 2) with
    | true =>
      have hb := Nat.le_of_ble_eq_true hb
      simp only [Bool.true_and, decide_eq_true_eq]
      rw [if_neg (by omega)]
      rfl
    | false =>
      have hb : ¬ r < modOf k / 2 := fun h => by
        have : Nat.blt r (modOf k / 2) = true := Nat.ble_eq_true_of_le h
        rw [this] at hb; cases hb
      simp only [Bool.true_and, decide_eq_true_eq]
      rw [if_pos (by omega)]
      rw [Int.negSucc_eq]
      omega

theorem blt_eq (a b : Nat) : Nat.blt a b = decide (a < b) := by
  rw [Bool.eq_iff_iff, decide_eq_true_eq]
  exact ⟨fun h => Nat.le_of_ble_eq_true h, fun h => Nat.ble_eq_true_of_le h⟩

theorem beq_eq (a b : Nat) : Nat.beq a b = decide (a = b) := by
  rw [Bool.eq_iff_iff, decide_eq_true_eq]
  exact ⟨Nat.eq_of_beq_eq_true, fun h => by subst h; exact Nat.beq_refl _⟩

theorem ilt_eq (x y : Int) : ilt x y = decide (x < y) := by
  cases x with
  | ofNat a => cases y with
    | ofNat b => simp only [ilt, blt_eq]; rw [Bool.eq_iff_iff]; simp only [decide_eq_true_eq, Int.ofNat_eq_natCast]; omega
    | negSucc b => simp only [ilt]; symm; rw [decide_eq_false_iff_not]; rw [Int.negSucc_eq]; simp only [Int.ofNat_eq_natCast]; omega
  | negSucc a => cases y with
    | ofNat b => simp only [ilt]; symm; rw [decide_eq_true_eq]; rw [Int.negSucc_eq]; simp only [Int.ofNat_eq_natCast]; omega
    | negSucc b =>
      simp only [ilt, blt_eq]
      rw [Bool.eq_iff_iff]; simp only [decide_eq_true_eq, Int.negSucc_eq]; omega

theorem ieq_eq (x y : Int) : ieq x y = decide (x = y) := by
  cases x with
  | ofNat a => cases y with
    | ofNat b => simp only [ieq, beq_eq]; rw [Bool.eq_iff_iff]; simp only [decide_eq_true_eq, Int.ofNat_eq_natCast]; omega
    | negSucc b => simp only [ieq]; symm; rw [decide_eq_false_iff_not]; intro h; cases h
  | negSucc a => cases y with
    | ofNat b => simp only [ieq]; symm; rw [decide_eq_false_iff_not]; intro h; cases h
    | negSucc b => simp only [ieq, beq_eq]; rw [Bool.eq_iff_iff]; simp only [decide_eq_true_eq, Int.negSucc_eq]; omega

theorem ieq_beq (x y : Int) : ieq x y = (x == y) := by rw [ieq_eq]; rfl

theorem keq_eq {k k' : IntKind} (h : keq k k' = true) : k = k' := by cases k <;> cases k' <;> first | rfl | (cases h; done)

theorem nmin_eq (a b : Nat) : nmin a b = min a b := by
  unfold nmin
  cases hb : Nat.ble a b with
  | true => have := Nat.le_of_ble_eq_true hb; simp only; omega
  | false =>
    have : ¬ a ≤ b := fun h => by rw [Nat.ble_eq_true_of_le h] at hb; cases hb
    simp only; omega

theorem ishr_eq (x : Int) (n : Nat) : ishr x n = x.fdiv (2 ^ n) := by
  have hn := Nat.two_pow_pos n
  have hp : (0 : Int) < ((2 ^ n : Nat) : Int) := by omega
  have hc : ((2 ^ n : Nat) : Int) = (2 : Int) ^ n := by simp
  rw [← hc, Int.fdiv_eq_ediv_of_nonneg _ (by omega)]
  cases x with
  | ofNat a => rfl
  | negSucc a =>
    rw [Int.negSucc_ediv a hp]
    simp only [ishr, Int.negSucc_eq]
    rfl

theorem ofInt_toNat (k : IntKind) (x : Int) : (BitVec.ofInt k.bits x).toNat = fmod x (modOf k) := by
  rw [BitVec.toNat_ofInt]
  have := fmod_eq x (modOf k) (modOf_pos k)
  have h2 : ((2 ^ k.bits : Nat) : Int) = (modOf k : Int) := by rw [modOf_nat]
  rw [h2, ← this]
  simp

section
variable (P : Program) (w : World)

theorem bits_sound (op : BinOp) (k : IntKind) (x y : Int) (v : Value) (ho : op = .and ∨ op = .or ∨ op = .xor ∨ op = .andNot) (h : intOp op k x y = some v) :
    (Op.intBits op k x y).run P w = .ok v w := by
  have e1 := ofInt_toNat k x
  have e2 := ofInt_toNat k y
  rcases ho with rfl | rfl | rfl | rfl <;> simp only [intOp, Option.some.injEq] at h <;> subst h <;> simp only [Op.intBits, Sem.run_pure, fwrap_eq]
  · rw [BitVec.toNat_and, e1, e2]; rfl
  · rw [BitVec.toNat_or, e1, e2]; rfl
  · rw [BitVec.toNat_xor, e1, e2]; rfl
  · rw [BitVec.toNat_and, BitVec.toNat_not, e1, e2, modOf_nat]; rfl

theorem intOp_sound (op : BinOp) (t : TypeId) (k : IntKind) (x y : Int) (v : Value) (h : intOp op k x y = some v) : (Go.binOp op t (.int k x) (.int k y)).run P w = .ok v w := by
  cases op with
  | add => simp only [intOp, Option.some.injEq] at h; subst h; simp [Go.binOp, Op.intArith, fwrap_eq]
  | sub => simp only [intOp, Option.some.injEq] at h; subst h; simp [Go.binOp, Op.intArith, fwrap_eq]
  | mul => simp only [intOp, Option.some.injEq] at h; subst h; simp [Go.binOp, Op.intArith, fwrap_eq]
  | quo =>
    simp only [intOp] at h
    cases hz : ieq y 0 with
    | true => rw [hz] at h; cases h
    | false =>
      rw [hz] at h; simp only [Option.some.injEq] at h; subst h
      rw [ieq_eq, decide_eq_false_iff_not] at hz
      simp [Go.binOp, Op.intDiv, hz, fwrap_eq]
  | rem =>
    simp only [intOp] at h
    cases hz : ieq y 0 with
    | true => rw [hz] at h; cases h
    | false =>
      rw [hz] at h; simp only [Option.some.injEq] at h; subst h
      rw [ieq_eq, decide_eq_false_iff_not] at hz
      simp [Go.binOp, Op.intDiv, hz]
  | and => have := bits_sound P w .and k x y v (by simp) h; simpa [Go.binOp] using this
  | or => have := bits_sound P w .or k x y v (by simp) h; simpa [Go.binOp] using this
  | xor => have := bits_sound P w .xor k x y v (by simp) h; simpa [Go.binOp] using this
  | andNot => have := bits_sound P w .andNot k x y v (by simp) h; simpa [Go.binOp] using this
  | shl => simp [intOp] at h
  | shr => simp [intOp] at h
  | eql => simp only [intOp, Option.some.injEq] at h; subst h; simp [Go.binOp, Op.intCmp, ieq_beq]
  | neq => simp only [intOp, Option.some.injEq] at h; subst h; simp [Go.binOp, Op.intCmp, ieq_beq, bne]
  | lss => simp only [intOp, Option.some.injEq] at h; subst h; simp [Go.binOp, Op.intCmp, ilt_eq]
  | leq =>
    simp only [intOp, Option.some.injEq] at h; subst h
    simp only [Go.binOp, Op.intCmp, ilt_eq, ne_eq, not_true_eq_false, if_false, Sem.run_pure]
    congr 2
    rw [Bool.eq_iff_iff]; simp
  | gtr =>
    simp only [intOp, Option.some.injEq] at h; subst h
    simp [Go.binOp, Op.intCmp, ilt_eq]
  | geq =>
    simp only [intOp, Option.some.injEq] at h; subst h
    simp only [Go.binOp, Op.intCmp, ilt_eq, ne_eq, not_true_eq_false, if_false, Sem.run_pure]
    congr 2
    rw [Bool.eq_iff_iff]; simp

theorem shiftOp_sound (op : BinOp) (t : TypeId) (k k' : IntKind) (x y : Int) (v : Value) (ho : op = .shl ∨ op = .shr) (h : shiftOp op k x y = some v) : (Go.binOp op t (.int k x) (.int k' y)).run P w = .ok v w := by
  cases y with
  | negSucc b => simp [shiftOp] at h
  | ofNat b =>
    simp only [shiftOp, nmin_eq, bitsOf_eq] at h
    rcases ho with rfl | rfl <;> simp only [Option.some.injEq] at h <;> subst h
    · simp only [Go.binOp, Op.shift]
      rw [if_neg (by simp only [Int.ofNat_eq_natCast]; omega)]
      simp [fwrap_eq]
    · simp only [Go.binOp, Op.shift]
      rw [if_neg (by simp only [Int.ofNat_eq_natCast]; omega)]
      simp [ishr_eq]
end

/-! ### Texts -/
theorem leq_eq : ∀ (a b : List UInt8), leq a b = decide (a = b)
  | [], [] => by simp [leq]
  | [], _ :: _ => by simp [leq]
  | _ :: _, [] => by simp [leq]
  | a :: x, b :: y => by
    simp only [leq]
    cases h : Nat.beq a.toNat b.toNat with
    | true =>
      have := Nat.eq_of_beq_eq_true h
      have : a = b := UInt8.toNat_inj.1 this
      subst this
      simp [leq_eq x y]
    | false =>
      have : a ≠ b := fun e => by subst e; simp at h
      simp [this]

theorem llt_eq : ∀ (a b : List UInt8), llt a b = Op.bytesLess a b
  | _, [] => by cases ‹List UInt8› <;> rfl
  | [], _ :: _ => rfl
  | a :: x, b :: y => by
    simp only [llt, Op.bytesLess]
    rw [blt_eq, beq_eq, llt_eq x y]
    by_cases h : a.toNat < b.toNat
    · have : a < b := h
      simp [h, this]
    · have h' : ¬ a < b := h
      by_cases e : a.toNat = b.toNat
      · have e' : a = b := UInt8.toNat_inj.1 e
        simp [h, h', e, e']
      · have e' : a ≠ b := fun k => e (by rw [k])
        simp [h, h', e, e']

theorem toList_loop (a : List UInt8) : (ByteArray.mk ⟨a⟩).toList = a := by
  rw [ByteArray.toList_eq]

theorem beq_dec (a b : List UInt8) : (a == b) = decide (a = b) := by
  rw [Bool.eq_iff_iff]; simp

theorem bytesLess_total : ∀ (a b : List UInt8), (Op.bytesLess a b || (a == b)) = !Op.bytesLess b a := by
  intro a
  induction a with
  | nil => intro b; cases b <;> simp [Op.bytesLess]
  | cons x a ih =>
    intro b
    cases b with
    | nil => simp [Op.bytesLess]
    | cons y b =>
      have := ih b
      simp only [Op.bytesLess, List.cons_beq_cons]
      by_cases h1 : x < y
      · have h2 : ¬ y < x := fun k => absurd (UInt8.lt_trans h1 k) (UInt8.lt_irrefl x)
        have h3 : ¬ y = x := fun e => by subst e; exact UInt8.lt_irrefl _ h1
        simp [h1, h2, h3]
      · by_cases h2 : y < x
        · have h3 : ¬ x = y := fun e => by subst e; exact UInt8.lt_irrefl _ h2
          simp [h1, h2, h3]
        · have h3 : x = y := by
            apply UInt8.toNat_inj.1
            have a1 : ¬ x.toNat < y.toNat := h1
            have a2 : ¬ y.toNat < x.toNat := h2
            omega
          subst h3
          simp [h1, ← this]

theorem strOp_sound (P : Program) (w : World) (op : BinOp) (t : TypeId) (a b : List UInt8) (v : Value) (h : strOp op a b = some v) :
    (Go.binOp op t (.string ⟨⟨a⟩⟩) (.string ⟨⟨b⟩⟩)).run P w = .ok v w := by
  cases op <;> simp only [strOp] at h <;> first
    | (cases h; done)
    | (simp only [Option.some.injEq] at h; subst h; simp only [Go.binOp, Op.stringOp, toList_loop, Sem.run_pure, leq_eq, llt_eq, beq_dec]; done)
    | skip
  case add =>
    split at h
    · rename_i hb
      have hb := Nat.le_of_ble_eq_true hb
      simp only [Option.some.injEq] at h; subst h
      simp only [Go.binOp, Op.stringOp]
      rw [if_neg]
      · simp [ByteArray.ext_iff]
      · have e1 : (ByteArray.mk ⟨a⟩).size = a.length := by simp [ByteArray.size]
        have e2 : (ByteArray.mk ⟨b⟩).size = b.length := by simp [ByteArray.size]
        have e3 : IntKind.i64.max = 9223372036854775807 := by decide
        rw [e1, e2, e3]; omega
    · cases h
  case leq =>
    simp only [Option.some.injEq] at h; subst h
    simp only [Go.binOp, Op.stringOp, toList_loop, Sem.run_pure, llt_eq, bytesLess_total]
  case gtr =>
    simp only [Option.some.injEq] at h; subst h
    simp only [Go.binOp, Op.stringOp, toList_loop, Sem.run_pure, llt_eq, bytesLess_total, Bool.not_not]
end Go.Wvm
