/- Plain mathematics of rows of bits: a text of bits read again. -/
import Derived.Test.YtncpdgjlhdbdpaaXBitr
namespace Bits
set_option linter.unusedVariables false

theorem valB_rep (n : Nat) : valB (List.replicate n false) = 0 := by
  induction n with
  | zero => rfl
  | succ n ih => rw [List.replicate_succ, valB_cons, ih]; simp
theorem ofN_byte (c : List Bool) (h : c.length ≤ 8) : ofN (byteB c) 8 = c ++ List.replicate (8 - c.length) false := by
  have e : byteB c = valB (c ++ List.replicate (8 - c.length) false) := by
    rw [valB_append, valB_rep, List.length_replicate]; simp [byteB]
  have h2 := ofN_valB (c ++ List.replicate (8 - c.length) false)
  rw [List.length_append, List.length_replicate, show c.length + (8 - c.length) = 8 by omega] at h2
  rw [e, h2]
theorem txt_length (L : List Bool) : (txt L).length = (L.length + 7) / 8 := by
  have := congrArg List.length (txt_toNat L)
  rw [List.length_map, packL_length] at this
  exact this
theorem txt_getD (L : List Bool) (i : Nat) (h : i < (L.length + 7) / 8) : ((txt L).getD i 0).toNat = byteB ((L.drop (8 * i)).take 8) := by
  have h1 := packL_getElem? L i h
  rw [← txt_toNat, List.getElem?_map, List.getElem?_eq_getElem (by rw [txt_length]; exact h)] at h1
  rw [List.getD_eq_getElem?_getD, List.getElem?_eq_getElem (by rw [txt_length]; exact h)]
  simpa using h1
theorem bitsOf_txt (L : List Bool) : bitsOf (txt L) = L ++ List.replicate (8 * ((L.length + 7) / 8) - L.length) false := by
  apply List.ext_getElem?
  intro a
  by_cases ha : a < 8 * ((L.length + 7) / 8)
  · have hi : a / 8 < (txt L).length := by rw [txt_length]; omega
    have h1 := bitsOf_take_succ (txt L) (a / 8) hi
    have h2 : (bitsOf (txt L))[a]? = ((bitsOf (txt L)).take (8 * (a / 8 + 1)))[a]? := by rw [List.getElem?_take, if_pos (by omega)]
    have h3 : ((bitsOf (txt L)).take (8 * (a / 8))).length = 8 * (a / 8) := by rw [List.length_take, bitsOf_length]; omega
    have hc : ((L.drop (8 * (a / 8))).take 8).length ≤ 8 := by rw [List.length_take]; omega
    rw [h2, h1, List.getElem?_append_right (by rw [h3]; omega), h3, txt_getD L _ (by rw [txt_length] at hi; exact hi), ofN_byte _ hc]
    by_cases hl : a < L.length
    · rw [List.getElem?_append_left (by rw [List.length_take, List.length_drop]; omega), List.getElem?_append_left hl, List.getElem?_take, if_pos (by omega), List.getElem?_drop]
      congr 1; omega
    · have hlen : ((L.drop (8 * (a / 8))).take 8).length = L.length - 8 * (a / 8) := by rw [List.length_take, List.length_drop]; omega
      rw [List.getElem?_append_right (by rw [hlen]; omega), List.getElem?_append_right (by omega), List.getElem?_replicate, List.getElem?_replicate, if_pos (by rw [hlen]; omega), if_pos (by omega)]
  · rw [List.getElem?_eq_none (by rw [bitsOf_length, txt_length]; omega), List.getElem?_eq_none (by rw [List.length_append, List.length_replicate]; omega)]
theorem midT_txt (L : List Bool) (a n : Nat) (h : a + n ≤ L.length) : midT (txt L) a n = (L.drop a).take n := by
  unfold midT
  rw [bitsOf_txt, List.drop_append_of_le_length (by omega), List.take_append_of_le_length (by rw [List.length_drop]; omega)]
theorem midT_rest (L : List Bool) (n : Nat) (h : L.length + n ≤ 8 * ((L.length + 7) / 8)) : valB (midT (txt L) L.length n) = 0 := by
  unfold midT
  rw [bitsOf_txt, List.drop_append_of_le_length (Nat.le_refl _), List.drop_eq_nil_of_le (Nat.le_refl _), List.nil_append, List.take_replicate]
  exact valB_rep _
end Bits
