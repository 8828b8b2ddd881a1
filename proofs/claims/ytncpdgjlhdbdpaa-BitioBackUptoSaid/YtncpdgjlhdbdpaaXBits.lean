/- Plain mathematics of rows of bits: their values, their bytes. -/
namespace Bits

def valB (l : List Bool) : Nat := l.foldl (fun a b => 2 * a + b.toNat) 0
def ofN (v n : Nat) : List Bool := (List.range n).map fun i => v.testBit (n - 1 - i)
def byteB (c : List Bool) : Nat := valB c * 2 ^ (8 - c.length)
def packL (l : List Bool) : List Nat := (List.range ((l.length + 7) / 8)).map fun j => byteB ((l.drop (8 * j)).take 8)

theorem foldl_valB (l : List Bool) : ∀ a, l.foldl (fun a b => 2 * a + b.toNat) a = a * 2 ^ l.length + valB l := by
  induction l with
  | nil => intro a; simp [valB]
  | cons b l ih =>
    intro a
    simp only [List.foldl_cons, List.length_cons, valB]
    rw [ih, ih (2 * 0 + b.toNat)]
    rw [Nat.pow_succ, Nat.add_mul]
    simp only [Nat.mul_zero, Nat.zero_add]
    rw [Nat.mul_comm 2 a, Nat.mul_assoc, Nat.mul_comm 2 (2 ^ l.length)]
    omega
theorem valB_append (a b : List Bool) : valB (a ++ b) = valB a * 2 ^ b.length + valB b := by
  unfold valB
  rw [List.foldl_append, foldl_valB b]; rfl
theorem valB_nil : valB [] = 0 := rfl
theorem valB_cons (b : Bool) (l : List Bool) : valB (b :: l) = b.toNat * 2 ^ l.length + valB l := by
  have := valB_append [b] l
  simpa [valB] using this
theorem valB_lt (l : List Bool) : valB l < 2 ^ l.length := by
  induction l with
  | nil => simp [valB]
  | cons b l ih =>
    rw [valB_cons, List.length_cons, Nat.pow_succ]
    have : b.toNat ≤ 1 := Bool.toNat_le b
    have : b.toNat * 2 ^ l.length ≤ 1 * 2 ^ l.length := Nat.mul_le_mul_right _ this
    omega
theorem ofN_length (v n : Nat) : (ofN v n).length = n := by simp [ofN]
theorem ofN_zero (v : Nat) : ofN v 0 = [] := rfl
theorem ofN_getElem? (v n i : Nat) : (ofN v n)[i]? = if i < n then some (v.testBit (n - 1 - i)) else none := by
  by_cases h : i < n
  · rw [if_pos h, List.getElem?_eq_getElem (by rw [ofN_length]; exact h)]
    simp [ofN]
  · rw [if_neg h, List.getElem?_eq_none (by rw [ofN_length]; omega)]
theorem ofN_split (v n k : Nat) (h : k ≤ n) : ofN v n = ofN (v / 2 ^ (n - k)) k ++ ofN v (n - k) := by
  apply List.ext_getElem
  · simp [ofN_length]; omega
  · intro i h1 h2
    simp only [ofN, List.getElem_map, List.getElem_range, List.getElem_append, List.length_map, List.length_range]
    by_cases hi : i < k
    · rw [dif_pos hi, Nat.testBit_div_two_pow]
      congr 1; omega
    · rw [dif_neg hi]
      congr 1
      simp [ofN_length] at h1
      omega
theorem ofN_one (v : Nat) : ofN v 1 = [v.testBit 0] := rfl
theorem ofN_succ (v n : Nat) : ofN v (n + 1) = v.testBit n :: ofN v n := by
  rw [ofN_split v (n + 1) 1 (by omega), ofN_one]
  simp [Nat.testBit_eq_decide_div_mod_eq]
theorem valB_ofN (v n : Nat) : valB (ofN v n) = v % 2 ^ n := by
  induction n with
  | zero => simp [ofN_zero, valB, Nat.mod_one]
  | succ n ih =>
    rw [ofN_succ, valB_cons, ih, ofN_length, Nat.pow_succ, Nat.mod_mul, Nat.testBit_eq_decide_div_mod_eq]
    by_cases h : v / 2 ^ n % 2 = 1
    · simp [h]; omega
    · have h0 : v / 2 ^ n % 2 = 0 := by omega
      simp [h0]
theorem ofN_mod (v n m : Nat) (h : n ≤ m) : ofN (v % 2 ^ m) n = ofN v n := by
  unfold ofN
  apply List.map_congr_left
  intro i hi
  rw [List.mem_range] at hi
  rw [Nat.testBit_mod_two_pow]
  simp; omega
theorem ofN_valB (l : List Bool) : ofN (valB l) l.length = l := by
  induction l with
  | nil => rfl
  | cons b l ih =>
    have hl := valB_lt l
    rw [List.length_cons, ofN_succ, valB_cons]
    have e1 : (b.toNat * 2 ^ l.length + valB l).testBit l.length = b := by
      rw [Nat.testBit_eq_decide_div_mod_eq, Nat.mul_comm, Nat.mul_add_div (Nat.two_pow_pos _), Nat.div_eq_of_lt hl]
      cases b <;> simp
    have e2 : ofN (b.toNat * 2 ^ l.length + valB l) l.length = ofN (valB l) l.length := by
      rw [← ofN_mod (b.toNat * 2 ^ l.length + valB l) l.length l.length (Nat.le_refl _), Nat.mul_comm, Nat.mul_add_mod, ofN_mod _ _ _ (Nat.le_refl _)]
    rw [e1, e2, ih]
theorem valB_inj {a b : List Bool} (h : a.length = b.length) (e : valB a = valB b) : a = b := by
  rw [← ofN_valB a, ← ofN_valB b, h, e]

theorem packL_length (l : List Bool) : (packL l).length = (l.length + 7) / 8 := by simp [packL]
theorem packL_nil : packL [] = [] := rfl
theorem packL_getElem? (l : List Bool) (j : Nat) (h : j < (l.length + 7) / 8) : (packL l)[j]? = some (byteB ((l.drop (8 * j)).take 8)) := by
  rw [List.getElem?_eq_getElem (by rw [packL_length]; exact h)]
  simp [packL]
theorem byteB_lt (c : List Bool) (h : c.length ≤ 8) : byteB c < 256 := by
  unfold byteB
  have := valB_lt c
  have h2 : valB c * 2 ^ (8 - c.length) < 2 ^ c.length * 2 ^ (8 - c.length) := Nat.mul_lt_mul_of_pos_right this (Nat.two_pow_pos _)
  rw [← Nat.pow_add] at h2
  rw [show c.length + (8 - c.length) = 8 by omega] at h2
  exact h2

/-- The bytes when the next byte has been begunL. -/
def begunL (l : List Bool) : List Nat := if l.length % 8 = 0 then packL l ++ [0] else packL l
theorem begunL_length (l : List Bool) : (begunL l).length = l.length / 8 + 1 := by
  unfold begunL
  split
  · rw [List.length_append, packL_length]; simp; omega
  · rw [packL_length]; omega
theorem begunL_last (l : List Bool) : (begunL l)[l.length / 8]? = some (byteB (l.drop (8 * (l.length / 8)))) := by
  unfold begunL
  split
  · rename_i h
    rw [List.getElem?_append_right (by rw [packL_length]; omega), packL_length, show l.length / 8 - (l.length + 7) / 8 = 0 by omega]
    rw [List.drop_eq_nil_of_le (by omega)]; rfl
  · rw [packL_getElem? _ _ (by omega), List.take_of_length_le (by rw [List.length_drop]; omega)]
theorem or_disjoint (a b i : Nat) (h : b < 2 ^ i) : (a * 2 ^ i) ||| b = a * 2 ^ i + b := by
  rw [Nat.mul_comm, Nat.two_pow_add_eq_or_of_lt h]
/-- So many bits more within a byte. -/
theorem pack_step (l d : List Bool) (h0 : 0 < d.length) (h : l.length % 8 + d.length ≤ 8) :
    packL (l ++ d) = (begunL l).set (l.length / 8) (byteB (l.drop (8 * (l.length / 8))) ||| valB d * 2 ^ (8 - l.length % 8 - d.length)) := by
  have hl : (l.drop (8 * (l.length / 8))).length = l.length % 8 := by rw [List.length_drop]; omega
  have key : byteB (l.drop (8 * (l.length / 8))) ||| valB d * 2 ^ (8 - l.length % 8 - d.length) = byteB (l.drop (8 * (l.length / 8)) ++ d) := by
    unfold byteB
    rw [hl, List.length_append, hl, valB_append]
    have hd := valB_lt d
    have h1 : valB d * 2 ^ (8 - l.length % 8 - d.length) < 2 ^ (8 - l.length % 8) := by
      have : valB d * 2 ^ (8 - l.length % 8 - d.length) < 2 ^ d.length * 2 ^ (8 - l.length % 8 - d.length) := Nat.mul_lt_mul_of_pos_right hd (Nat.two_pow_pos _)
      rw [← Nat.pow_add, show d.length + (8 - l.length % 8 - d.length) = 8 - l.length % 8 by omega] at this
      exact this
    rw [or_disjoint _ _ _ h1, Nat.add_mul, Nat.mul_assoc, ← Nat.pow_add, show d.length + (8 - (l.length % 8 + d.length)) = 8 - l.length % 8 by omega, show 8 - (l.length % 8 + d.length) = 8 - l.length % 8 - d.length by omega]
  rw [key]
  apply List.ext_getElem?
  intro j
  rw [List.getElem?_set, begunL_length]
  by_cases hj : l.length / 8 = j
  · subst hj
    rw [if_pos rfl, if_pos (by omega), packL_getElem? _ _ (by rw [List.length_append]; omega)]
    rw [List.drop_append_of_le_length (by omega), List.take_of_length_le (by rw [List.length_append, hl]; omega)]
  · rw [if_neg hj]
    by_cases hj2 : j < l.length / 8
    · have e1 : (begunL l)[j]? = (packL l)[j]? := by
        unfold begunL
        split
        · rw [List.getElem?_append_left (by rw [packL_length]; omega)]
        · rfl
      rw [e1, packL_getElem? _ _ (by rw [List.length_append]; omega), packL_getElem? _ _ (by omega)]
      rw [List.drop_append_of_le_length (by omega), List.take_append_of_le_length (by rw [List.length_drop]; omega)]
    · rw [List.getElem?_eq_none (by rw [packL_length, List.length_append]; omega), List.getElem?_eq_none (by rw [begunL_length]; omega)]
theorem byteB_dvd (l : List Bool) (h : l.length ≤ 8) : byteB l < 256 := byteB_lt l h
theorem packL_lt (l : List Bool) : ∀ b ∈ packL l, b < 256 := by
  intro b hb
  unfold packL at hb
  rw [List.mem_map] at hb
  obtain ⟨j, _, rfl⟩ := hb
  exact byteB_lt _ (by rw [List.length_take]; omega)
theorem begunL_lt (l : List Bool) : ∀ b ∈ begunL l, b < 256 := by
  intro b hb
  unfold begunL at hb
  split at hb
  · rw [List.mem_append] at hb
    rcases hb with hb | hb
    · exact packL_lt l b hb
    · simp at hb; omega
  · exact packL_lt l b hb
theorem part_eq (v n k : Nat) (h1 : 1 ≤ k) (h8 : k ≤ 8) (hkn : k ≤ n) :
    (((v : Int) / 2 ^ ((n : Int) - (k : Int)).toNat % 256).toNat &&& ((1 * 2 ^ ((k : Int)).toNat % 256 - 1) % 256 : Int).toNat) = v / 2 ^ (n - k) % 2 ^ k := by
  have e1 : ((n : Int) - (k : Int)).toNat = n - k := by omega
  rw [e1]
  have e2 : ((v : Int) / 2 ^ (n - k) % 256).toNat = v / 2 ^ (n - k) % 256 := by
    have : ((v : Int) / 2 ^ (n - k) % 256) = ((v / 2 ^ (n - k) % 256 : Nat) : Int) := by simp
    rw [this]; rfl
  rw [e2]
  have e3 : ((1 * 2 ^ ((k : Int)).toNat % 256 - 1) % 256 : Int).toNat = 2 ^ k - 1 := by
    have : k = 1 ∨ k = 2 ∨ k = 3 ∨ k = 4 ∨ k = 5 ∨ k = 6 ∨ k = 7 ∨ k = 8 := by omega
    rcases this with rfl | rfl | rfl | rfl | rfl | rfl | rfl | rfl <;> rfl
  rw [e3, Nat.and_two_pow_sub_one_eq_mod]
  have : (2 : Nat) ^ k ∣ 256 := by
    rw [show 256 = 2 ^ 8 from rfl]; exact Nat.pow_dvd_pow 2 h8
  exact Nat.mod_mod_of_dvd _ this

end Bits
namespace Bits
def txt (l : List Bool) : List UInt8 := (packL l).map UInt8.ofNat
def bitsOf (s : List UInt8) : List Bool := s.flatMap fun b => ofN b.toNat 8
theorem txt_toNat (l : List Bool) : (txt l).map (·.toNat) = packL l := by
  unfold txt
  rw [List.map_map]
  have : ∀ b ∈ packL l, (UInt8.toNat ∘ UInt8.ofNat) b = b := by
    intro b hb
    have := packL_lt l b hb
    simp; omega
  rw [List.map_congr_left this]; simp
theorem bitsOf_nil : bitsOf [] = [] := rfl
theorem bitsOf_cons (b : UInt8) (s : List UInt8) : bitsOf (b :: s) = ofN b.toNat 8 ++ bitsOf s := by simp [bitsOf]
theorem bitsOf_append (s t : List UInt8) : bitsOf (s ++ t) = bitsOf s ++ bitsOf t := by simp [bitsOf]
theorem bitsOf_length (s : List UInt8) : (bitsOf s).length = 8 * s.length := by
  induction s with
  | nil => rfl
  | cons b s ih => rw [bitsOf_cons, List.length_append, ofN_length, ih, List.length_cons]; omega
theorem bitsOf_take (s : List UInt8) (i : Nat) (h : i ≤ s.length) : (bitsOf s).take (8 * i) = bitsOf (s.take i) := by
  conv => lhs; rw [← List.take_append_drop i s]
  rw [bitsOf_append, List.take_append_of_le_length (by rw [bitsOf_length, List.length_take]; omega), List.take_of_length_le (by rw [bitsOf_length, List.length_take]; omega)]
theorem bitsOf_take_succ (s : List UInt8) (i : Nat) (h : i < s.length) : (bitsOf s).take (8 * (i + 1)) = (bitsOf s).take (8 * i) ++ ofN (s.getD i 0).toNat 8 := by
  rw [bitsOf_take s (i + 1) h, bitsOf_take s i (by omega), List.take_succ_eq_append_getElem h, bitsOf_append]
  simp [bitsOf, List.getD_eq_getElem?_getD, h]
theorem ofN_take (v n k : Nat) (h : k ≤ n) : (ofN v n).take k = ofN (v / 2 ^ (n - k)) k := by
  rw [ofN_split v n k h, List.take_append_of_le_length (by rw [ofN_length]; omega), List.take_of_length_le (by rw [ofN_length]; omega)]
theorem bitsOf_take_rest (s : List UInt8) (i r : Nat) (h : i < s.length) (hr : r ≤ 8) : (bitsOf s).take (8 * i + r) = (bitsOf s).take (8 * i) ++ ofN ((s.getD i 0).toNat / 2 ^ (8 - r)) r := by
  have h1 := bitsOf_take_succ s i h
  have h2 : (bitsOf s).take (8 * i + r) = ((bitsOf s).take (8 * (i + 1))).take (8 * i + r) := by
    rw [List.take_take, Nat.min_eq_left (by omega)]
  have h3 : ((bitsOf s).take (8 * i)).length = 8 * i := by rw [List.length_take, bitsOf_length]; omega
  rw [h2, h1, List.take_append, h3, List.take_of_length_le (by omega), show 8 * i + r - 8 * i = r by omega, ofN_take _ _ _ hr]
end Bits
namespace Bits
/-- The bytes with zeros behind. -/
def padL (l : List Bool) (W : Nat) : List Nat := packL l ++ List.replicate (W - (packL l).length) 0
theorem padL_length (l : List Bool) (W : Nat) (h : (packL l).length ≤ W) : (padL l W).length = W := by
  unfold padL; rw [List.length_append, List.length_replicate]; omega
theorem padL_nil (W : Nat) : padL [] W = List.replicate W 0 := by unfold padL; rw [packL_nil]; rfl
theorem padL_full (l : List Bool) : padL l ((l.length + 7) / 8) = packL l := by unfold padL; rw [packL_length, Nat.sub_self]; simp
theorem padL_begun (l : List Bool) (W : Nat) (h : l.length / 8 < W) : padL l W = begunL l ++ List.replicate (W - (l.length / 8 + 1)) 0 := by
  unfold padL begunL
  split
  · rename_i hu
    rw [packL_length, show (l.length + 7) / 8 = l.length / 8 by omega, List.append_assoc]
    congr 1
    rw [show W - l.length / 8 = (W - (l.length / 8 + 1)) + 1 by omega, List.replicate_succ]; rfl
  · rename_i hu
    rw [packL_length, show (l.length + 7) / 8 = l.length / 8 + 1 by omega]
theorem padL_get (l : List Bool) (W : Nat) (h : l.length / 8 < W) : (padL l W)[l.length / 8]? = some (byteB (l.drop (8 * (l.length / 8)))) := by
  rw [padL_begun l W h, List.getElem?_append_left (by rw [begunL_length]; omega)]
  exact begunL_last l
theorem set_same {α : Type} {l : List α} {i : Nat} {x : α} (h : l[i]? = some x) : l.set i x = l := by
  apply List.ext_getElem?
  intro j
  rw [List.getElem?_set]
  by_cases hj : i = j
  · subst hj
    rw [if_pos rfl]
    split
    · exact h.symm
    · rename_i hl; rw [List.getElem?_eq_none (by omega)]
  · rw [if_neg hj]
theorem padL_step (l : List Bool) (b : Bool) (W : Nat) (h : l.length / 8 < W) :
    padL (l ++ [b]) W = if b then (padL l W).set (l.length / 8) (byteB (l.drop (8 * (l.length / 8))) ||| 2 ^ (7 - l.length % 8)) else padL l W := by
  have hs := pack_step l [b] (by simp) (by simp; omega)
  have hl : (packL (l ++ [b])).length = l.length / 8 + 1 := by rw [packL_length, List.length_append]; simp; omega
  have e1 : padL (l ++ [b]) W = packL (l ++ [b]) ++ List.replicate (W - (l.length / 8 + 1)) 0 := by unfold padL; rw [hl]
  rw [e1, hs, padL_begun l W h]
  cases b with
  | true =>
    rw [if_pos rfl]
    have : valB [true] * 2 ^ (8 - l.length % 8 - [true].length) = 2 ^ (7 - l.length % 8) := by
      rw [show valB [true] = 1 from rfl, Nat.one_mul]
      congr 1; simp; omega
    rw [this, List.set_append_left _ _ (by rw [begunL_length]; omega)]
  | false =>
    rw [if_neg (by decide)]
    rw [show valB [false] = 0 from rfl, Nat.zero_mul, Nat.or_zero, set_same (begunL_last l)]
theorem take_snoc (l : List Bool) (i : Nat) (h : i < l.length) : l.take (i + 1) = l.take i ++ [l.getD i false] := by
  rw [List.take_succ_eq_append_getElem h]
  simp [List.getD_eq_getElem?_getD, h]
end Bits
