/- Plain mathematics of rows of bits: reading out of a text. -/
import Derived.Test.YtncpdgjlhdbdpaaXBits
namespace Bits

theorem drop_ofN (v u k : Nat) : (ofN v (u + k)).drop u = ofN v k := by
  rw [ofN_split v (u + k) u (by omega), List.drop_append_of_le_length (by rw [ofN_length]; omega), List.drop_eq_nil_of_le (by rw [ofN_length]; omega), show u + k - u = k by omega]; rfl
theorem mid_byte (b u k : Nat) (h : u + k ≤ 8) : (b * 2 ^ u % 256) / 2 ^ (8 - k) = b / 2 ^ (8 - (u + k)) % 2 ^ k := by
  have e1 : (256 : Nat) = 2 ^ u * 2 ^ (8 - u) := by rw [← Nat.pow_add, show u + (8 - u) = 8 by omega]
  have e2 : (2 : Nat) ^ (8 - k) = 2 ^ u * 2 ^ (8 - (u + k)) := by rw [← Nat.pow_add]; congr 1; omega
  have e3 : (2 : Nat) ^ (8 - u) = 2 ^ (8 - (u + k)) * 2 ^ k := by rw [← Nat.pow_add]; congr 1; omega
  rw [e1, e2, Nat.mul_comm b, Nat.mul_mod_mul_left, Nat.mul_div_mul_left _ _ (Nat.two_pow_pos u), e3, Nat.mod_mul_right_div_self]
/-- The bits of a text, some of them. -/
def midT (s : List UInt8) (a n : Nat) : List Bool := ((bitsOf s).drop a).take n
theorem midT_length (s : List UInt8) (a n : Nat) (h : a + n ≤ 8 * s.length) : (midT s a n).length = n := by
  unfold midT; rw [List.length_take, List.length_drop, bitsOf_length]; omega
theorem midT_zero (s : List UInt8) (a : Nat) : midT s a 0 = [] := by simp [midT]
theorem midT_add (s : List UInt8) (a m k : Nat) : midT s a (m + k) = midT s a m ++ midT s (a + m) k := by
  unfold midT; rw [List.take_add, List.drop_drop]
theorem midT_byte (s : List UInt8) (a k : Nat) (h : a / 8 < s.length) (hk : a % 8 + k ≤ 8) : valB (midT s a k) = ((s.getD (a / 8) 0).toNat * 2 ^ (a % 8) % 256) / 2 ^ (8 - k) := by
  have h1 := bitsOf_take_rest s (a / 8) (a % 8 + k) h hk
  have h2 : midT s a k = ((bitsOf s).take (a + k)).drop a := by
    unfold midT; rw [List.drop_take, show a + k - a = k by omega]
  rw [show 8 * (a / 8) + (a % 8 + k) = a + k by omega] at h1
  have h3 : ((bitsOf s).take (8 * (a / 8))).length = 8 * (a / 8) := by rw [List.length_take, bitsOf_length]; omega
  rw [h2, h1, List.drop_append, h3, List.drop_eq_nil_of_le (by rw [h3]; omega), show a - 8 * (a / 8) = a % 8 by omega, List.nil_append, drop_ofN, valB_ofN, mid_byte _ _ _ hk]
theorem midT_step (s : List UInt8) (a m k : Nat) (h : (a + m) / 8 < s.length) (hk : (a + m) % 8 + k ≤ 8) :
    valB (midT s a (m + k)) = valB (midT s a m) * 2 ^ k ||| ((s.getD ((a + m) / 8) 0).toNat * 2 ^ ((a + m) % 8) % 256) / 2 ^ (8 - k) := by
  have h1 := midT_byte s (a + m) k h hk
  have h2 : (midT s (a + m) k).length = k := midT_length _ _ _ (by omega)
  have h3 := valB_lt (midT s (a + m) k)
  rw [h2] at h3
  rw [midT_add, valB_append, h2, ← h1, or_disjoint _ _ _ h3]
theorem midT_lt (s : List UInt8) (a n : Nat) : valB (midT s a n) < 2 ^ n := by
  have h := valB_lt (midT s a n)
  have h2 : (midT s a n).length ≤ n := by unfold midT; rw [List.length_take]; omega
  exact Nat.lt_of_lt_of_le h (Nat.pow_le_pow_right (by omega) h2)
end Bits
