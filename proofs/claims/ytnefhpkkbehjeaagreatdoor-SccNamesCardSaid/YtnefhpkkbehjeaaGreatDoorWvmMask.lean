/- Sets of operations as bits of a number: they say what the tables of truth values say. -/
import Derived.Test.YtnefhpkkbehjeaaGreatDoorWvmDefs
import Derived.Still
set_option linter.unusedSimpArgs false
set_option linter.unusedVariables false
namespace Go.Wvm

theorem bitM_eq (s i : Nat) : bitM s i = s.testBit i := by
  unfold bitM
  rw [Nat.testBit_eq_decide_div_mod_eq]
  have h : Nat.land (Nat.shiftRight s i) 1 = s / 2 ^ i % 2 := by
    show (s >>> i) &&& 1 = _
    rw [Nat.and_one_is_mod, Nat.shiftRight_eq_div_pow]
  rw [h]
  by_cases hh : s / 2 ^ i % 2 = 1
  · simp [hh]
  · simp only [hh, decide_false]
    cases hb : (s / 2 ^ i % 2).beq 1
    · rfl
    · exact absurd (Nat.eq_of_beq_eq_true hb) hh

theorem or_bit (a b i : Nat) : (Nat.lor a b).testBit i = (a.testBit i || b.testBit i) := Nat.testBit_or a b i
theorem and_bit (a b i : Nat) : (Nat.land a b).testBit i = (a.testBit i && b.testBit i) := Nat.testBit_and a b i
theorem one_bit (d i : Nat) : (Nat.shiftLeft 1 d).testBit i = decide (d = i) := by
  show (1 <<< d).testBit i = _
  rw [Nat.one_shiftLeft, Nat.testBit_two_pow]
theorem setM_bit (s j i : Nat) : (setM s j).testBit i = (s.testBit i || decide (j = i)) := by
  unfold setM; rw [or_bit, one_bit]

theorem sub_iff {a s : Nat} : Nat.beq (Nat.land a s) a = true ↔ ∀ i, a.testBit i = true → s.testBit i = true := by
  rw [Nat.beq_eq]
  constructor
  · intro h i hi
    have := and_bit a s i
    rw [h, hi] at this
    simpa using this.symm
  · intro h
    apply Nat.eq_of_testBit_eq
    intro i
    rw [and_bit]
    by_cases hi : a.testBit i = true
    · rw [hi, h i hi]; rfl
    · simp at hi; rw [hi]; rfl

theorem disj_iff {a b : Nat} : Nat.beq (Nat.land a b) 0 = true ↔ ∀ i, a.testBit i = true → b.testBit i = false := by
  rw [Nat.beq_eq]
  constructor
  · intro h i hi
    have := and_bit a b i
    rw [h, hi] at this
    simpa using this.symm
  · intro h
    apply Nat.eq_of_testBit_eq
    intro i
    rw [and_bit, Nat.zero_testBit]
    by_cases hi : a.testBit i = true
    · rw [hi, h i hi]; rfl
    · simp at hi; rw [hi]; rfl

theorem depL_bit (i : Nat) : ∀ l : List Edge, (depL l).testBit i = l.any fun e => Region.binds .any e && e.on == i
  | [] => by simp [depL]
  | e :: r => by
    simp only [depL, List.any_cons]
    split <;> rename_i h
    · rw [or_bit, one_bit, depL_bit i r, h]
      by_cases hh : e.on = i <;> simp [hh]
    · rw [depL_bit i r, h]; simp

theorem depO_bit (o : Oper) (i : Nat) : (depO o).testBit i = o.after.any fun e => Region.binds .any e && e.on == i := by
  unfold depO; rw [depL_bit, Array.any_toList]

/-- A number tells the table. -/
structure RelS (ops : Array Oper) (m : Nat) (A : Array Bool) : Prop where
  size : A.size = ops.size
  at_ : ∀ i, A.getD i false = m.testBit i

section
variable {ops : Array Oper} {m : Nat} {A : Array Bool}

theorem RelS.zero : RelS ops 0 (Array.replicate ops.size false) :=
  ⟨by simp, fun i => by rw [Nat.zero_testBit]; by_cases h : i < ops.size <;> simp [Array.getD, h]⟩

theorem RelS.set (h : RelS ops m A) {j : Nat} (hj : j < ops.size) : RelS ops (setM m j) (A.setIfInBounds j true) :=
  ⟨by simp [h.size], fun i => by
    rw [setM_bit, ← h.at_ i]
    by_cases hi : j = i
    · subst hi; simp [Array.getD_eq_getD_getElem?, Array.getElem?_setIfInBounds, h.size, hj]
    · simp [Array.getD_eq_getD_getElem?, Array.getElem?_setIfInBounds, hi]⟩

theorem RelS.lt (h : RelS ops m A) {i : Nat} (hi : i < ops.size) : A.getD i true = m.testBit i := by
  rw [← h.at_ i]
  have : i < A.size := by rw [h.size]; exact hi
  simp [Array.getD, this]

theorem RelS.waits (h : RelS ops m A) (o : Oper) : Nat.beq (Nat.land (depO o) m) (depO o) = o.after.all fun e => !Region.binds .any e || A.getD e.on false := by
  rw [Bool.eq_iff_iff, sub_iff, Array.all_eq_true_iff_forall_mem]
  constructor
  · intro hh e he
    rw [h.at_]
    cases hb : Region.binds .any e
    · rfl
    · simp only [Bool.not_true, Bool.false_or]
      apply hh
      rw [depO_bit]
      exact Array.any_eq_true'.2 ⟨e, he, by simp [hb]⟩
  · intro hh i hi
    rw [depO_bit] at hi
    obtain ⟨e, he, hb⟩ := Array.any_eq_true'.1 hi
    simp only [Bool.and_eq_true, beq_iff_eq] at hb
    have := hh e he
    rw [hb.1, hb.2, h.at_] at this
    simpa using this

theorem readyL_eq (h : RelS ops m A) : ∀ (l : List Oper) (k : Nat), (∀ j, l[j]? = ops[k + j]?) → k + l.length = ops.size →
    readyL m k l = (List.range' k l.length).filter fun i => !A.getD i true && ((ops[i]?).map (·.after.all fun e => !Region.binds .any e || A.getD e.on false)).getD false
  | [], k, _, _ => by simp [readyL]
  | o :: r, k, hl, hk => by
    have h0 : ops[k]? = some o := by simpa using (hl 0).symm
    have hkl : k < ops.size := by simp at hk; omega
    have ih := readyL_eq h r (k + 1) (fun j => by have := hl (j + 1); simpa [Nat.add_assoc, Nat.add_comm 1 j] using this) (by simp at hk; omega)
    simp only [List.length_cons, List.range'_succ, List.filter_cons]
    rw [← ih, h0, h.lt hkl]
    simp only [readyL, bitM_eq, Option.map_some, Option.getD_some, h.waits o]
    rcases Bool.eq_false_or_eq_true (o.after.all fun e => !Region.binds .any e || A.getD e.on false) with hy | hy <;>
      rcases Bool.eq_false_or_eq_true (m.testBit k) with hb | hb <;> simp only [hy, hb, Bool.and_true, Bool.and_false, Bool.not_true, Bool.not_false, if_true, if_false, Bool.false_eq_true]

theorem readyM_eq (h : RelS ops m A) : readyM ops m = Region.ready .any ops A := by
  unfold readyM Region.ready
  rw [readyL_eq h ops.toList 0 (by simp) (by simp), List.range_eq_range']
  simp

theorem tmpL_bit (t : Nat) : ∀ l : List Operand, (tmpL l).testBit t = (l.filterMap fun | .tmp t => some t | _ => none).contains t
  | [] => by simp [tmpL]
  | x :: r => by
    have ih := tmpL_bit t r
    cases x <;> simp only [tmpL, List.filterMap_cons] <;> first
      | exact ih
      | (rw [or_bit, one_bit, ih, List.contains_cons]
         rename_i t'
         by_cases hh : t' = t
         · subst hh; simp
         · simp [hh, Ne.symm hh])

theorem looksM_bit (o : Oper) (t : Nat) : (looksM ops o).testBit t = (o.looksAt ops).contains t := by
  unfold looksM Oper.looksAt
  rw [or_bit, tmpL_bit]
  have : (guardM ops o).testBit t = (match o.guard with | some (g, _) => ((ops[g]?).bind (·.dst)).toList | none => []).contains t := by
    unfold guardM
    cases o.guard with
    | none => simp
    | some gw =>
      obtain ⟨g, b⟩ := gw
      simp only
      cases ops[g]? with
      | none => simp
      | some p =>
        simp only [Option.bind_some]
        cases p.dst with
        | none => simp
        | some d =>
          rw [one_bit]
          by_cases hh : d = t
          · subst hh; simp
          · simp [hh, Ne.symm hh]
  rw [this]
  simp only [List.contains_eq_mem, List.mem_append, Bool.decide_or]
  rfl

theorem apartM_eq (x y : Oper) : apartM ops x y = x.apart ops y := by
  unfold apartM Oper.apart
  congr 1
  · unfold dstM
    cases hx : x.dst with
    | none => simp [Nat.beq_eq, disj_iff]; 
    | some d =>
      simp only
      rw [Bool.eq_iff_iff, disj_iff]
      simp only [one_bit, decide_eq_true_eq, forall_eq', or_bit, looksM_bit, Bool.or_eq_false_iff, Bool.and_eq_true, Bool.not_eq_true', bne_iff_ne, ne_eq]
      cases hy : y.dst with
      | none => simp
      | some d' => rw [one_bit]; simp
  · unfold dstM
    cases hy : y.dst with
    | none => simp [disj_iff]
    | some d =>
      simp only
      rw [Bool.eq_iff_iff, disj_iff]
      simp only [one_bit, decide_eq_true_eq, forall_eq', looksM_bit, Bool.not_eq_true']

theorem confL_bit (i : Nat) (oi : Oper) (t : Nat) : ∀ (l : List Oper) (k : Nat),
    (confL ops i oi k l).testBit t = true ↔ ∃ o, k ≤ t ∧ l[t - k]? = some o ∧ t ≠ i ∧ (depO o).testBit i = false ∧ oi.apart ops o = false
  | [], k => by simp [confL]
  | o :: r, k => by
    have ih := confL_bit i oi t r (k + 1)
    have hn : (∃ o', k ≤ t ∧ (o :: r)[t - k]? = some o' ∧ t ≠ i ∧ (depO o').testBit i = false ∧ oi.apart ops o' = false) ↔
        ((t = k ∧ t ≠ i ∧ (depO o).testBit i = false ∧ oi.apart ops o = false) ∨ ∃ o', k + 1 ≤ t ∧ r[t - (k + 1)]? = some o' ∧ t ≠ i ∧ (depO o').testBit i = false ∧ oi.apart ops o' = false) := by
      constructor
      · rintro ⟨o', h1, h2, h3⟩
        by_cases hk : t = k
        · subst hk
          simp at h2
          subst h2
          exact .inl ⟨rfl, h3⟩
        · refine .inr ⟨o', by omega, ?_, h3⟩
          rw [show t - k = (t - (k + 1)) + 1 by omega] at h2
          simpa using h2
      · rintro (⟨rfl, h3⟩ | ⟨o', h1, h2, h3⟩)
        · exact ⟨o, Nat.le_refl _, by simp, h3⟩
        · refine ⟨o', by omega, ?_, h3⟩
          rw [show t - k = (t - (k + 1)) + 1 by omega]
          simpa using h2
    rw [hn, ← ih]
    simp only [confL]
    split <;> rename_i hc
    · constructor
      · exact .inr
      · rintro (⟨rfl, h1, h2, h3⟩ | h)
        · rw [bitM_eq, h2, apartM_eq, h3] at hc
          simp [Nat.beq_eq, h1] at hc
        · exact h
    · rw [or_bit, one_bit, Bool.or_eq_true, decide_eq_true_eq]
      rw [bitM_eq, apartM_eq] at hc
      simp only [Bool.or_eq_false_iff] at hc
      constructor
      · rintro (rfl | h)
        · exact .inl ⟨rfl, fun h => by have := hc.1.1; rw [h] at this; simp at this, hc.1.2, hc.2⟩
        · exact .inr h
      · rintro (⟨rfl, _⟩ | h)
        · exact .inl rfl
        · exact .inr h

theorem freeM_eq (h : RelS ops m A) (i : Nat) : freeM ops m i = Region.free .any ops A i := by
  unfold freeM Region.free
  cases hi : ops[i]? with
  | none => rfl
  | some oi =>
    simp only
    rw [Bool.eq_iff_iff, sub_iff, List.all_eq_true]
    unfold confO
    simp only [hi, confL_bit]
    constructor
    · intro hh j hj
      have hj' : j < ops.size := by simpa using hj
      obtain ⟨oj, hoj⟩ : ∃ oj, ops[j]? = some oj := ⟨ops[j], by simp [hj']⟩
      have := hh j
      rw [hoj, h.lt hj']
      simp only [Bool.or_eq_true, beq_iff_eq]
      rw [← depO_bit]
      by_cases h1 : j = i
      · exact .inl (.inl h1)
      by_cases h2 : (depO oj).testBit i = true
      · exact .inr (.inl h2)
      by_cases h3 : oi.apart ops oj = true
      · exact .inr (.inr h3)
      · exact .inl (.inr (this ⟨oj, Nat.zero_le _, by simpa using hoj, h1, by simpa using h2, by simpa using h3⟩))
    · rintro hh j ⟨oj, _, h1, h2, h3, h4⟩
      have hoj : ops[j]? = some oj := by simpa using h1
      have hj' : j < ops.size := (Array.getElem?_eq_some_iff.1 hoj).1
      have := hh j (by simpa using hj')
      rw [hoj, h.lt hj'] at this
      simp only [Bool.or_eq_true, beq_iff_eq] at this
      rw [← depO_bit, h3, h4] at this
      simpa [h2] using this

theorem lexL_lex : ∀ (l : List Oper) (k m : Nat) (A : Array Bool), RelS ops m A → (∀ j, l[j]? = ops[k + j]?) → k + l.length = ops.size → (∀ i, i < k → m.testBit i = true) → (∀ i, k ≤ i → m.testBit i = false) →
    lexL ops l k m = true → Region.lexFrom .any ops l.length k A = true
  | [], k, m, A, h, _, hk, hl, _, _ => by
    simp only [List.length_nil, Region.lexFrom, List.isEmpty_iff]
    cases hr : Region.ready .any ops A with
    | nil => rfl
    | cons j t =>
      have hj : j ∈ Region.ready .any ops A := by rw [hr]; exact .head _
      unfold Region.ready at hj
      rw [List.mem_filter] at hj
      have hjs : j < ops.size := by simpa using hj.1
      have := hj.2
      rw [h.lt hjs, hl j (by simp at hk; omega)] at this
      simp at this
  | o :: r, k, m, A, h, hl, hk, hlo, hhi, hx => by
    have h0 : ops[k]? = some o := by simpa using (hl 0).symm
    have hkl : k < ops.size := by simp at hk; omega
    simp only [lexL] at hx
    split at hx
    case h_2 => cases hx
    rename_i hc
    rw [Bool.and_eq_true] at hc
    simp only [List.length_cons, Region.lexFrom, Bool.and_eq_true]
    refine ⟨⟨?_, by rw [← freeM_eq h]; exact hc.2⟩, lexL_lex r (k + 1) _ _ (h.set hkl) (fun j => by have := hl (j + 1); simpa [Nat.add_assoc, Nat.add_comm 1 j] using this) (by simp at hk; omega) ?_ ?_ hx⟩
    · rw [List.contains_eq_mem, decide_eq_true_eq]
      unfold Region.ready
      rw [List.mem_filter, h.lt hkl, hhi k (Nat.le_refl _), h0]
      refine ⟨by simpa using hkl, ?_⟩
      have := hc.1
      rw [h.waits] at this
      simpa using this
    · intro i hi
      rw [setM_bit]
      by_cases hh : k = i
      · simp [hh]
      · rw [hlo i (by omega)]; rfl
    · intro i hi
      rw [setM_bit, hhi i (by omega)]
      simp; omega

theorem lexM_lex (h : lexM ops = true) : Region.lexB .any ops = true := by
  unfold lexM at h
  rw [Bool.and_eq_true] at h
  unfold Region.lexB
  rw [h.1, Bool.true_and]
  have := lexL_lex ops.toList 0 0 (Array.replicate ops.size false) .zero (by simp) (by simp) (by simp) (by simp) h.2
  simpa using this
end
end Go.Wvm
