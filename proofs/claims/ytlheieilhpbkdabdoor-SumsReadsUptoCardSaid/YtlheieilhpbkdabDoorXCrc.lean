/- Plain mathematics of a checksum of 32 bits: its steps are linear, and none of them forgets. -/
namespace Crc

abbrev poly : Nat := 0x82F63B78
/-- One bit goes out. -/
def b1 (n : Nat) : Nat := n / 2 ^^^ poly * (n % 2)
def b4 (n : Nat) : Nat := b1 (b1 (b1 (b1 n)))
/-- A byte 00. -/
def st (n : Nat) : Nat := b4 (b4 n)
def pw (f : Nat → Nat) : Nat → Nat → Nat
  | 0, x => x
  | k + 1, x => pw f k (f x)
def cpl (n : Nat) : Nat := n ^^^ 4294967295
def goN (n : Nat) (s : List UInt8) : Nat := s.foldl (fun n b => st (n ^^^ b.toNat)) n
def on (c : Nat) (s : List UInt8) : Nat := cpl (goN (cpl c) s)
def crc (s : List UInt8) : Nat := on 0 s

structure Lin (f : Nat → Nat) : Prop where
  zero : f 0 = 0
  xor : ∀ x y, f (x ^^^ y) = f x ^^^ f y
  lt : ∀ x, x < 4294967296 → f x < 4294967296

theorem xor_mod_two (x y : Nat) : (x ^^^ y) % 2 = (x % 2 + y % 2) % 2 := by
  have h := Nat.testBit_xor x y 0
  simp only [Nat.testBit_zero] at h
  have ha : x % 2 = 0 ∨ x % 2 = 1 := by omega
  have hb : y % 2 = 0 ∨ y % 2 = 1 := by omega
  have hc : (x ^^^ y) % 2 = 0 ∨ (x ^^^ y) % 2 = 1 := by omega
  generalize (x ^^^ y) % 2 = c at h hc ⊢
  generalize x % 2 = a at h ha ⊢
  generalize y % 2 = b at h hb ⊢
  rcases ha with rfl | rfl <;> rcases hb with rfl | rfl <;> rcases hc with rfl | rfl <;> revert h <;> decide
theorem xor4 (a b c d : Nat) : (a ^^^ b) ^^^ (c ^^^ d) = (a ^^^ c) ^^^ (b ^^^ d) := by
  rw [Nat.xor_assoc, Nat.xor_assoc, ← Nat.xor_assoc b c d, Nat.xor_comm b c, Nat.xor_assoc c b d]
theorem xor_lt {a b : Nat} (ha : a < 4294967296) (hb : b < 4294967296) : a ^^^ b < 4294967296 := Nat.xor_lt_two_pow (n := 32) ha hb
theorem b1_lin : Lin b1 where
  zero := rfl
  xor x y := by
    unfold b1
    rw [xor4]
    congr 1
    · apply Nat.eq_of_testBit_eq
      intro i
      rw [Nat.testBit_xor, Nat.testBit_div_two, Nat.testBit_xor, Nat.testBit_div_two, Nat.testBit_div_two]
    · rw [xor_mod_two]
      rcases Nat.mod_two_eq_zero_or_one x with hx | hx <;> rcases Nat.mod_two_eq_zero_or_one y with hy | hy <;> rw [hx, hy] <;> decide
  lt x h := by
    unfold b1
    rcases Nat.mod_two_eq_zero_or_one x with hx | hx <;> rw [hx]
    · exact xor_lt (by omega) (by decide)
    · exact xor_lt (by omega) (by decide)
theorem Lin.comp {f g : Nat → Nat} (hf : Lin f) (hg : Lin g) : Lin (fun x => f (g x)) :=
  ⟨by rw [hg.zero, hf.zero], fun x y => by rw [hg.xor, hf.xor], fun x h => hf.lt _ (hg.lt _ h)⟩
theorem b4_lin : Lin b4 := b1_lin.comp (b1_lin.comp (b1_lin.comp b1_lin))
theorem st_lin : Lin st := b4_lin.comp b4_lin
theorem pw_lin {f : Nat → Nat} (h : Lin f) : ∀ k, Lin (pw f k)
  | 0 => ⟨rfl, fun _ _ => rfl, fun _ h => h⟩
  | k + 1 => (pw_lin h k).comp h
theorem pw_add (f : Nat → Nat) (a b x : Nat) : pw f (a + b) x = pw f a (pw f b x) := by
  induction b generalizing x with
  | zero => rfl
  | succ b ih => exact ih (f x)
theorem pw_mul (f : Nat → Nat) (a b x : Nat) : pw (pw f a) b x = pw f (a * b) x := by
  induction b generalizing x with
  | zero => rfl
  | succ b ih =>
    show pw (pw f a) b (pw f a x) = _
    rw [Nat.mul_succ, pw_add f (a * b) a x]; exact ih (pw f a x)
theorem pw_succ' (f : Nat → Nat) (a x : Nat) : pw f (a + 1) x = f (pw f a x) := by rw [Nat.add_comm, pw_add]; rfl

theorem b1_even (q : Nat) : b1 (2 * q) = q := by
  unfold b1
  rw [show 2 * q % 2 = 0 by omega, show 2 * q / 2 = q by omega, Nat.mul_zero, Nat.xor_zero]
theorem b4_16 (q : Nat) : b4 (16 * q) = q := by
  unfold b4
  rw [show 16 * q = 2 * (2 * (2 * (2 * q))) by omega, b1_even, b1_even, b1_even, b1_even]
def nibs : List Nat := [0x00000000, 0x105EC76F, 0x20BD8EDE, 0x30E349B1, 0x417B1DBC, 0x5125DAD3, 0x61C69362, 0x7198540D, 0x82F63B78, 0x92A8FC17, 0xA24BB5A6, 0xB21572C9, 0xC38D26C4, 0xD3D3E1AB, 0xE330A81A, 0xF36E6F75]
theorem nib_eq (r : Nat) (h : r < 16) : nibs[r]? = some (b4 r) := by
  have : ∀ r, r < 16 → nibs[r]? = some (b4 r) := by decide
  exact this r h
theorem split16 (x : Nat) : x = 16 * (x / 16) ^^^ x % 16 := by
  have h : 2 ^ 4 * (x / 16) ||| x % 16 = 2 ^ 4 * (x / 16) + x % 16 := (Nat.two_pow_add_eq_or_of_lt (Nat.mod_lt _ (by decide)) _).symm
  apply Nat.eq_of_testBit_eq
  intro i
  have e : x = 16 * (x / 16) + x % 16 := by omega
  have h2 : x = 2 ^ 4 * (x / 16) ||| x % 16 := by omega
  conv => lhs; rw [h2]
  rw [Nat.testBit_or, Nat.testBit_xor]
  show _ = ((2 ^ 4 * (x / 16)).testBit i ^^ (x % 16).testBit i)
  by_cases hi : i < 4
  · rw [Nat.testBit_two_pow_mul]
    simp [show ¬ 4 ≤ i by omega]
  · have : (x % 16).testBit i = false := Nat.testBit_lt_two_pow (Nat.lt_of_lt_of_le (Nat.mod_lt _ (by decide)) (show 2 ^ 4 ≤ 2 ^ i from Nat.pow_le_pow_right (by decide) (by omega)))
    rw [this]; simp
/-- Four bits at once. -/
theorem b4_nib (x : Nat) : b4 x = x / 16 ^^^ b4 (x % 16) := by
  conv => lhs; rw [split16 x]
  rw [b4_lin.xor, b4_16]

theorem goN_append (n : Nat) (s t : List UInt8) : goN n (s ++ t) = goN (goN n s) t := List.foldl_append ..
theorem goN_cons (n : Nat) (b : UInt8) (t : List UInt8) : goN n (b :: t) = goN (st (n ^^^ b.toNat)) t := rfl
theorem goN_lt (s : List UInt8) : ∀ n, n < 4294967296 → goN n s < 4294967296 := by
  induction s with
  | nil => intro n h; exact h
  | cons b s ih =>
    intro n h
    have := b.toNat_lt
    exact ih _ (st_lin.lt _ (xor_lt h (by omega)))
theorem cpl_lt {n : Nat} (h : n < 4294967296) : cpl n < 4294967296 := xor_lt h (by decide)
theorem cpl_cpl (n : Nat) : cpl (cpl n) = n := by unfold cpl; rw [Nat.xor_assoc, Nat.xor_self, Nat.xor_zero]
theorem on_lt {c : Nat} (s : List UInt8) (h : c < 4294967296) : on c s < 4294967296 := cpl_lt (goN_lt s _ (cpl_lt h))
theorem crc_lt (s : List UInt8) : crc s < 4294967296 := on_lt s (by decide)
theorem on_on (c : Nat) (s t : List UInt8) : on (on c s) t = on c (s ++ t) := by
  unfold on; rw [cpl_cpl, goN_append]
/-- What stands ahead is laid over what comes. -/
theorem goN_xor (s : List UInt8) : ∀ x y, goN (x ^^^ y) s = pw st s.length x ^^^ goN y s := by
  induction s with
  | nil => intro x y; rfl
  | cons b s ih =>
    intro x y
    rw [goN_cons, goN_cons, Nat.xor_assoc, st_lin.xor, ih]; rfl
theorem pw_zero {f : Nat → Nat} (h : Lin f) (k : Nat) : pw f k 0 = 0 := (pw_lin h k).zero
theorem join_eq (a b : List UInt8) : pw st b.length (crc a) ^^^ crc b = crc (a ++ b) := by
  unfold crc on
  rw [goN_append]
  have h1 : goN (goN (cpl 0) a) b = goN (cpl (goN (cpl 0) a) ^^^ cpl 0) b := by
    congr 1
    unfold cpl
    rw [Nat.zero_xor, Nat.xor_assoc, Nat.xor_self, Nat.xor_zero]
  rw [h1, goN_xor]
  unfold cpl
  rw [Nat.xor_assoc]

/-! ### A linear map by its rows -/
def rows (f : Nat → Nat) : List Nat := (List.range 32).map fun i => f (2 ^ i)
theorem rows_length (f : Nat → Nat) : (rows f).length = 32 := by simp [rows]
theorem rows_get (f : Nat → Nat) (i : Nat) (h : i < 32) : (rows f)[i]? = some (f (2 ^ i)) := by
  rw [List.getElem?_eq_getElem (by rw [rows_length]; exact h)]; simp [rows]
theorem bit_split (v i : Nat) : v % 2 ^ (i + 1) = v % 2 ^ i ^^^ 2 ^ i * (v / 2 ^ i % 2) := by
  apply Nat.eq_of_testBit_eq
  intro j
  rw [Nat.testBit_xor, Nat.testBit_mod_two_pow, Nat.testBit_mod_two_pow, Nat.testBit_two_pow_mul]
  by_cases h1 : j < i
  · simp [h1, show j < i + 1 by omega, show ¬ i ≤ j by omega]
  · by_cases h2 : j = i
    · subst h2
      simp [Nat.testBit_eq_decide_div_mod_eq]
    · have : (v / 2 ^ i % 2).testBit (j - i) = false := Nat.testBit_lt_two_pow (Nat.lt_of_lt_of_le (Nat.mod_lt _ (by decide)) (show 2 ^ 1 ≤ 2 ^ (j - i) from Nat.pow_le_pow_right (by decide) (by omega)))
      simp [h1, show ¬ j < i + 1 by omega, this]
theorem lin_bit {f : Nat → Nat} (h : Lin f) (i b : Nat) (hb : b < 2) : f (2 ^ i * b) = f (2 ^ i) * b := by
  rcases (show b = 0 ∨ b = 1 by omega) with e | e <;> subst e
  · rw [Nat.mul_zero, Nat.mul_zero, h.zero]
  · rw [Nat.mul_one, Nat.mul_one]
/-- The next row is laid over. -/
theorem of_step {f : Nat → Nat} (h : Lin f) (v i : Nat) : f (v % 2 ^ (i + 1)) = f (v % 2 ^ i) ^^^ f (2 ^ i) * (v / 2 ^ i % 2) := by
  rw [bit_split, h.xor, lin_bit h _ _ (Nat.mod_lt _ (by decide))]

/-! ### Nothing is forgotten -/
theorem b1_inj {x y : Nat} (hx : x < 4294967296) (hy : y < 4294967296) (h : b1 x = b1 y) : x = y := by
  have h0 : b1 (x ^^^ y) = 0 := by rw [b1_lin.xor, h, Nat.xor_self]
  have hz : x ^^^ y < 4294967296 := xor_lt hx hy
  have key : ∀ z, z < 4294967296 → b1 z = 0 → z = 0 := by
    intro z hz e
    unfold b1 at e
    rcases Nat.mod_two_eq_zero_or_one z with hx | hx
    · rw [hx, Nat.mul_zero, Nat.xor_zero] at e; omega
    · rw [hx, Nat.mul_one] at e
      have e2 : z / 2 = poly := by
        have := congrArg (· ^^^ poly) e
        simp only [Nat.zero_xor] at this
        rw [Nat.xor_assoc, Nat.xor_self, Nat.xor_zero] at this
        exact this
      have : poly = 2197175160 := rfl
      omega
  have hq := key _ hz h0
  have := congrArg (· ^^^ y) hq
  simp only [Nat.zero_xor] at this
  rw [Nat.xor_assoc, Nat.xor_self, Nat.xor_zero] at this
  exact this
theorem b4_inj {x y : Nat} (hx : x < 4294967296) (hy : y < 4294967296) (h : b4 x = b4 y) : x = y :=
  b1_inj hx hy (b1_inj (b1_lin.lt _ hx) (b1_lin.lt _ hy) (b1_inj (b1_lin.lt _ (b1_lin.lt _ hx)) (b1_lin.lt _ (b1_lin.lt _ hy)) (b1_inj (b1_lin.lt _ (b1_lin.lt _ (b1_lin.lt _ hx))) (b1_lin.lt _ (b1_lin.lt _ (b1_lin.lt _ hy))) h)))
theorem st_inj {x y : Nat} (hx : x < 4294967296) (hy : y < 4294967296) (h : st x = st y) : x = y :=
  b4_inj hx hy (b4_inj (b4_lin.lt _ hx) (b4_lin.lt _ hy) h)
theorem xor_inj {a x y : Nat} (h : a ^^^ x = a ^^^ y) : x = y := by
  have := congrArg (a ^^^ ·) h
  simp only [← Nat.xor_assoc, Nat.xor_self, Nat.zero_xor] at this
  exact this
theorem xor_inj' {a x y : Nat} (h : x ^^^ a = y ^^^ a) : x = y := by
  rw [Nat.xor_comm x, Nat.xor_comm y] at h; exact xor_inj h
theorem goN_inj (s : List UInt8) : ∀ {x y : Nat}, x < 4294967296 → y < 4294967296 → goN x s = goN y s → x = y := by
  induction s with
  | nil => intro x y _ _ h; exact h
  | cons b s ih =>
    intro x y hx hy h
    have := b.toNat_lt
    have h1 := ih (st_lin.lt _ (xor_lt hx (by omega))) (st_lin.lt _ (xor_lt hy (by omega))) h
    exact xor_inj' (st_inj (xor_lt hx (by omega)) (xor_lt hy (by omega)) h1)
theorem cpl_inj {x y : Nat} (h : cpl x = cpl y) : x = y := by rw [← cpl_cpl x, h, cpl_cpl]
/-- One byte otherwise is told. -/
theorem crc_told (a b : List UInt8) (x y : UInt8) (h : crc (a ++ x :: b) = crc (a ++ y :: b)) : x = y := by
  have h1 := cpl_inj h
  rw [goN_append, goN_append, goN_cons, goN_cons] at h1
  have ha := goN_lt a (cpl 0) (by decide)
  have hx := x.toNat_lt
  have hy := y.toNat_lt
  have h2 := goN_inj b (st_lin.lt _ (xor_lt ha (by omega))) (st_lin.lt _ (xor_lt ha (by omega))) h1
  have h3 := xor_inj (st_inj (xor_lt ha (by omega)) (xor_lt ha (by omega)) h2)
  exact UInt8.toNat_inj.1 h3
end Crc
