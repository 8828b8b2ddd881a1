/- Plain mathematics of frames: what is turned or cut is told. -/
import Derived.Test.YtlheieilhpbkdabDoorXSUn
namespace Go.Proofs.YtlheieilhpbkdabDoor
open Go.Wvm Crc
set_option linter.unusedVariables false
set_option linter.unusedSimpArgs false

theorem rd4_app (a r : List UInt8) (h : a.length = 4) : rd4 (a ++ r) = rd4 a := by
  rw [← rd4_take (a ++ r), ← rd4_take a, List.take_append_of_le_length (by omega)]
theorem unE_of (k : UInt8) (l4 c4 q r : List UInt8) (hl : l4.length = 4) (hc : c4.length = 4) (hq : q.length = rd4 l4) (hle : rd4 l4 ≤ 16777216) :
    unE (k :: (l4 ++ (c4 ++ (q ++ r)))) = if crc (k :: (l4 ++ q)) ≠ rd4 c4 then (0, [], [], 4) else (k.toNat, q, r, 0) := by
  have h1 : rd4 ((k :: (l4 ++ (c4 ++ (q ++ r)))).drop 1) = q.length := by
    rw [List.drop_succ_cons, List.drop_zero, rd4_app _ _ hl, hq]
  have h5 : (k :: (l4 ++ (c4 ++ (q ++ r)))).drop 5 = c4 ++ (q ++ r) := by
    rw [List.drop_succ_cons, List.drop_append_of_le_length (by omega), List.drop_eq_nil_of_le (by omega)]; rfl
  have h9 : (k :: (l4 ++ (c4 ++ (q ++ r)))).drop 9 = q ++ r := by
    rw [List.drop_succ_cons, List.drop_append, List.drop_eq_nil_of_le (by omega), hl, List.nil_append, List.drop_append_of_le_length (by omega), List.drop_eq_nil_of_le (by omega)]; rfl
  have h5t : (k :: (l4 ++ (c4 ++ (q ++ r)))).take 5 = k :: l4 := by
    rw [List.take_succ_cons, List.take_append_of_le_length (by omega), List.take_of_length_le (by omega)]
  have hlen : (k :: (l4 ++ (c4 ++ (q ++ r)))).length = 9 + q.length + r.length := by
    simp only [List.length_cons, List.length_append]; omega
  have e1 : (q ++ r).take q.length = q := by rw [List.take_append_of_le_length (Nat.le_refl _), List.take_of_length_le (Nat.le_refl _)]
  have e2 : (k :: (l4 ++ (c4 ++ (q ++ r)))).drop (9 + q.length) = r := by
    rw [← List.drop_drop, h9, List.drop_append_of_le_length (Nat.le_refl _), List.drop_eq_nil_of_le (Nat.le_refl _)]; rfl
  unfold unE
  rw [if_neg (by omega), h1, if_neg (by omega), h9, e1, h5, h5t, rd4_app _ _ hc, e2]
  rfl
theorem laid_eq (K : Nat) (p : List UInt8) : laid K p = UInt8.ofNat K :: (be4 p.length ++ (be4 (crc (headB K p ++ p)) ++ p)) := by
  simp only [laid, headB, List.cons_append, List.append_assoc]
theorem laid_app (K : Nat) (p r : List UInt8) : laid K p ++ r = UInt8.ofNat K :: (be4 p.length ++ (be4 (crc (headB K p ++ p)) ++ (p ++ r))) := by
  simp only [laid, headB, List.cons_append, List.append_assoc]
theorem rd4_be4' (v : Nat) (h : v < 4294967296) : rd4 (be4 v) = v := by
  have := rd4_be4 v h []
  rwa [List.append_nil] at this
/-- A frame tells what it was made of. -/
theorem un_laid (K : Nat) (p r : List UInt8) (hK : K < 256) (hp : p.length ≤ 16777216) : unE (laid K p ++ r) = (K, p, r, 0) := by
  rw [laid_app, unE_of _ _ _ _ _ rfl rfl (rd4_be4' _ (by omega)).symm (by rw [rd4_be4' _ (by omega)]; exact hp)]
  rw [rd4_be4' _ (crc_lt _), if_neg (by intro h; exact h rfl)]
  rw [UInt8.toNat_ofNat', Nat.mod_eq_of_lt hK]
/-- A byte that is turned is told. -/
theorem un_turned (K : Nat) (p r : List UInt8) (hp : p.length ≤ 16777216) (at' : Nat) (b : UInt8) (h0 : at' = 0 ∨ 5 ≤ at') (h1 : at' < 9 + p.length) (hb : (laid K p ++ r)[at']? ≠ some b) :
    unE ((laid K p ++ r).set at' b) = (0, [], [], 4) := by
  have hn := rd4_be4' p.length (by omega)
  rw [laid_app] at hb ⊢
  rcases h0 with rfl | h5
  · rw [List.set_cons_zero, unE_of _ _ _ _ _ rfl rfl hn.symm (by omega), rd4_be4' _ (crc_lt _), if_pos]
    intro h
    have := crc_told [] (be4 p.length ++ p) b (UInt8.ofNat K) h
    exact hb (by rw [this]; rfl)
  · obtain ⟨j, rfl⟩ : ∃ j, at' = j + 5 := ⟨at' - 5, by omega⟩
    have e1 : ∀ (X : List UInt8), (UInt8.ofNat K :: (be4 p.length ++ X)).set (j + 5) b = UInt8.ofNat K :: (be4 p.length ++ X.set j b) := fun X => rfl
    have e2 : ∀ (X : List UInt8), (UInt8.ofNat K :: (be4 p.length ++ X))[j + 5]? = X[j]? := fun X => rfl
    rw [e1]
    rw [e2] at hb
    by_cases hj : j < 4
    · have e3 : (be4 (crc (headB K p ++ p)) ++ (p ++ r)).set j b = (be4 (crc (headB K p ++ p))).set j b ++ (p ++ r) := by
        rw [List.set_append, if_pos (by rw [be4_length]; exact hj)]
      rw [e3, unE_of _ _ _ _ _ rfl (by rw [List.length_set]; rfl) hn.symm (by omega), if_pos]
      intro h
      have h2 : rd4 ((be4 (crc (headB K p ++ p))).set j b) = rd4 (be4 (crc (headB K p ++ p))) := by rw [rd4_be4' _ (crc_lt _), ← h]; rfl
      have h3 := rd4_inj _ _ (by rw [List.length_set]; rfl) rfl h2
      have h4 : (be4 (crc (headB K p ++ p)))[j]? = some b := by
        rw [← h3, List.getElem?_set_self (by rw [be4_length]; exact hj)]
      rw [List.getElem?_append_left (by rw [be4_length]; exact hj)] at hb
      exact hb h4
    · obtain ⟨i, rfl⟩ : ∃ i, j = i + 4 := ⟨j - 4, by omega⟩
      have hi : i < p.length := by omega
      have e3 : (be4 (crc (headB K p ++ p)) ++ (p ++ r)).set (i + 4) b = be4 (crc (headB K p ++ p)) ++ (p.set i b ++ r) := by
        show be4 (crc (headB K p ++ p)) ++ (p ++ r).set i b = _
        rw [List.set_append, if_pos hi]
      have e4 : (be4 (crc (headB K p ++ p)) ++ (p ++ r))[i + 4]? = p[i]? := by
        show (p ++ r)[i]? = _
        rw [List.getElem?_append_left hi]
      rw [e3, unE_of _ _ _ _ _ rfl rfl (by rw [List.length_set]; exact hn.symm) (by omega), rd4_be4' _ (crc_lt _), if_pos]
      intro h
      rw [e4, List.getElem?_eq_getElem hi] at hb
      have s1 : p.set i b = p.take i ++ b :: p.drop (i + 1) := List.set_eq_take_append_cons_drop .. |>.trans (by rw [if_pos hi])
      have s2 : p = p.take i ++ p[i] :: p.drop (i + 1) := by rw [List.getElem_cons_drop, List.take_append_drop]
      have h2 : crc ((UInt8.ofNat K :: be4 p.length ++ p.take i) ++ b :: p.drop (i + 1)) = crc ((UInt8.ofNat K :: be4 p.length ++ p.take i) ++ p[i] :: p.drop (i + 1)) := by
        have k1 : (UInt8.ofNat K :: be4 p.length ++ p.take i) ++ b :: p.drop (i + 1) = UInt8.ofNat K :: (be4 p.length ++ p.set i b) := by rw [s1]; simp
        have k2 : (UInt8.ofNat K :: be4 p.length ++ p.take i) ++ p[i] :: p.drop (i + 1) = headB K p ++ p := by
          conv => rhs; rw [headB]
          conv => rhs; arg 2; rw [s2]
          simp
        rw [k1, k2]; exact h
      exact hb (congrArg some (crc_told _ _ _ _ h2).symm)
/-- What is cut is told. -/
theorem un_cut (K : Nat) (p : List UInt8) (hp : p.length ≤ 16777216) (c : Nat) (hc : c < 9 + p.length) : unE ((laid K p).take c) = (0, [], [], 4) := by
  have hll := laid_length K p
  have hlen : ((laid K p).take c).length = c := by rw [List.length_take]; omega
  unfold unE
  by_cases h : c < 9
  · rw [if_pos (by omega)]
  · rw [if_neg (by omega)]
    have h1 : rd4 (((laid K p).take c).drop 1) = p.length := by
      rw [← rd4_take, laid_eq]
      obtain ⟨d, rfl⟩ : ∃ d, c = d + 5 := ⟨c - 5, by omega⟩
      have : List.take 4 (List.drop 1 (List.take (d + 5) (UInt8.ofNat K :: (be4 p.length ++ (be4 (crc (headB K p ++ p)) ++ p))))) = be4 p.length := rfl
      rw [this, rd4_be4' _ (by omega)]
    rw [h1, if_pos (.inr (by omega))]
end Go.Proofs.YtlheieilhpbkdabDoor
