/- The walk over bits is the walk over tables. -/
import Derived.Test.YtnefhpkkbehjeaaGreatDoorWvmMask
import Derived.Test.YtnefhpkkbehjeaaGreatDoorWvmFulc
set_option linter.unusedSimpArgs false
set_option linter.unusedVariables false
namespace Go.Wvm
open Go.RowKit

section
variable {P : Program} {vp : VP} {ro : Nat} {ops : Array Oper} {m : Nat} {A : Array Bool}

theorem pickP_eq (h : RelS ops m A) {N : Nat} {fr : VF} : ∀ l, pickP P vp N ops m fr l = pickP0 P vp N ops A fr l
  | [] => rfl
  | i :: r => by simp only [pickP, pickP0, freeM_eq h, pickP_eq h r]
theorem pickX_eq (h : RelS ops m A) {H : List VW} {fr : VF} {w : VW} : ∀ l, pickX vp H ops m fr w l = pickX0 vp H ops A fr w l
  | [] => rfl
  | i :: r => by simp only [pickX, pickX0, freeM_eq h, pickX_eq h r]
theorem pickA_eq (h : RelS ops m A) {fr : VF} : ∀ l, pickA vp ops m fr l = pickA0 vp ops A fr l
  | [] => rfl
  | i :: r => by simp only [pickA, pickA0, freeM_eq h, pickA_eq h r]
theorem pickY_eq (h : RelS ops m A) {H : List VW} {fr : VF} {w : VW} (l l' : List Nat) : pickY vp H ops m fr w l l' = pickY0 vp H ops A fr w l l' := by
  simp only [pickY, pickY0, pickX_eq h]
theorem pickB_eq (h : RelS ops m A) {fr : VF} {I : Option (Nat × Oper × Pay)} (l : List Nat) : pickB vp ops m fr I l = pickB0 vp ops A fr I l := by
  simp only [pickB, pickB0, pickA_eq h]

theorem lt_of_at {j : Nat} {o : Oper} (h : ops[j]? = some o) : j < ops.size := (Array.getElem?_eq_some_iff.1 h).1

theorem greedyE_eq : ∀ {n m : Nat} {A : Array Bool} {fr : VF} {w : VW}, RelS ops m A → greedyE P vp ro ops n m fr w = greedyE0 P vp ro ops n A fr w
  | 0, m, A, fr, w, h => by simp only [greedyE, greedyE0, readyM_eq h]
  | n + 1, m, A, fr, w, h => by
    simp only [greedyE, greedyE0, readyM_eq h, pickP_eq h]
    cases hr : Region.ready .any ops A with
    | nil => rfl
    | cons i r =>
      simp only
      cases hp : pickP0 P vp w.next ops A fr (i :: r) with
      | some x =>
        obtain ⟨j, o, v⟩ := x
        simp only
        exact greedyE_eq (h.set (lt_of_at (pickP0_some hp).2.1))
      | none =>
        simp only
        cases r with
        | cons => rfl
        | nil =>
          cases ho : ops[i]? with
          | none => rfl
          | some o =>
            cases hl : lateB ops i with
            | false => rfl
            | true =>
              simp only
              cases wantedV o ops.toList fr.tm with
              | false => rfl
              | true =>
                simp only
                have hs := h.set (lt_of_at ho)
                cases execV P vp ro fr o w with
                | none => rfl
                | some y =>
                  obtain ⟨y, w'⟩ := y
                  cases y <;> first | rfl | exact greedyE_eq hs

theorem pickY0_lt {H : List VW} {fr : VF} {w : VW} {l l' : List Nat} {j : Nat} {o : Oper} {e : DE} {v : Value} (h : pickY0 vp H ops A fr w l l' = some (j, o, e, v)) : j < ops.size := by
  unfold pickY0 at h
  split at h
  · cases h
  · cases H with
    | nil => exact lt_of_at (pickX0_some h).2.1
    | cons => exact lt_of_at (pickX0_some h).2.1
theorem pickB0_lt {fr : VF} {I : Option (Nat × Oper × Pay)} {l : List Nat} {j : Nat} {o : Oper} {p : Pay} (h : pickB0 vp ops A fr I l = some (j, o, p)) : j < ops.size := by
  unfold pickB0 at h
  split at h
  · exact lt_of_at (pickA0_some h).2.1
  · cases h

theorem greedyX_eq {sub : VM → VS} : ∀ {n m : Nat} {A : Array Bool} {I : Option (Nat × Oper × Pay)} {fr : VF} {w : VW} {D : List DE} {H : List VW}, RelS ops m A →
    greedyX P vp sub ro ops n I m fr w D H = greedyX0 P vp sub ro ops n I A fr w D H
  | 0, m, A, I, fr, w, D, H, h => rfl
  | n + 1, m, A, I, fr, w, D, H, h => by
    have hset : ∀ {j : Nat} {I : Option (Nat × Oper × Pay)} {fr : VF} {w : VW} {D : List DE} {H : List VW}, j < ops.size → greedyX P vp sub ro ops n I (setM m j) fr w D H = greedyX0 P vp sub ro ops n I (A.setIfInBounds j true) fr w D H := fun hj => greedyX_eq (h.set hj)
    have hE : ∀ {j : Nat} {fr : VF} {w : VW}, j < ops.size → greedyE P vp ro ops n (setM m j) fr w = greedyE0 P vp ro ops n (A.setIfInBounds j true) fr w := fun hj => greedyE_eq (h.set hj)
    have hlast : ∀ (I : Option (Nat × Oper × Pay)) (l : List Nat), (match pickB vp ops m fr I l with
        | some (j, o, p) => greedyX P vp sub ro ops n (some (j, o, p)) (setM m j) (fr.drop o) w D H
        | none => none) = (match pickB0 vp ops A fr I l with
        | some (j, o, p) => greedyX0 P vp sub ro ops n (some (j, o, p)) (A.setIfInBounds j true) (fr.drop o) w D H
        | none => none) := fun I l => by
      rw [pickB_eq h]
      cases hb : pickB0 vp ops A fr I l with
      | none => rfl
      | some x => obtain ⟨j, o, p⟩ := x; exact hset (pickB0_lt hb)
    have hone : ∀ (I : Option (Nat × Oper × Pay)) (i : Nat), (match ops[i]? with
            | some o => match doX P vp sub ro ops o fr w with
              | some (fr', w') => match keepsX vp D w' with
                | true => greedyX P vp sub ro ops n I (setM m i) fr' w' D (w :: H)
                | false => match I, lateB ops i with
                  | none, true => match greedyE P vp ro ops n (setM m i) fr' w' with
                    | some (fr'', w'') => some (fr'', w'', D)
                    | none => none
                  | _, _ => none
              | none => none
            | none => none) = (match ops[i]? with
            | some o => match doX P vp sub ro ops o fr w with
              | some (fr', w') => match keepsX vp D w' with
                | true => greedyX0 P vp sub ro ops n I (A.setIfInBounds i true) fr' w' D (w :: H)
                | false => match I, lateB ops i with
                  | none, true => match greedyE0 P vp ro ops n (A.setIfInBounds i true) fr' w' with
                    | some (fr'', w'') => some (fr'', w'', D)
                    | none => none
                  | _, _ => none
              | none => none
            | none => none) := fun I i => by
      cases ho : ops[i]? with
      | none => rfl
      | some o =>
        have hi := lt_of_at ho
        simp only
        cases doX P vp sub ro ops o fr w with
        | none => rfl
        | some y =>
          obtain ⟨fr', w'⟩ := y
          simp only
          cases keepsX vp D w' with
          | true => exact hset hi
          | false => simp only [hE hi]
    have hlow : ∀ (I : Option (Nat × Oper × Pay)) (l b : List Nat), (match l, b with
          | [i], [_] => match ops[i]? with
            | some o => match doX P vp sub ro ops o fr w with
              | some (fr', w') => match keepsX vp D w' with
                | true => greedyX P vp sub ro ops n I (setM m i) fr' w' D (w :: H)
                | false => match I, lateB ops i with
                  | none, true => match greedyE P vp ro ops n (setM m i) fr' w' with
                    | some (fr'', w'') => some (fr'', w'', D)
                    | none => none
                  | _, _ => none
              | none => none
            | none => none
          | l, _ => match pickB vp ops m fr I l with
            | some (j, o, p) => greedyX P vp sub ro ops n (some (j, o, p)) (setM m j) (fr.drop o) w D H
            | none => none) = (match l, b with
          | [i], [_] => match ops[i]? with
            | some o => match doX P vp sub ro ops o fr w with
              | some (fr', w') => match keepsX vp D w' with
                | true => greedyX0 P vp sub ro ops n I (A.setIfInBounds i true) fr' w' D (w :: H)
                | false => match I, lateB ops i with
                  | none, true => match greedyE0 P vp ro ops n (A.setIfInBounds i true) fr' w' with
                    | some (fr'', w'') => some (fr'', w'', D)
                    | none => none
                  | _, _ => none
              | none => none
            | none => none
          | l, _ => match pickB0 vp ops A fr I l with
            | some (j, o, p) => greedyX0 P vp sub ro ops n (some (j, o, p)) (A.setIfInBounds j true) (fr.drop o) w D H
            | none => none) := fun I l b => by
      have hlast := hlast I l
      match l, b, hlast with
      | [i], [_], _ => exact hone I i
      | [], _, hlast => exact hlast
      | [_], [], hlast => exact hlast
      | [_], _ :: _ :: _, hlast => exact hlast
      | _ :: _ :: _, _, hlast => exact hlast
    have hrest : ∀ (l : List Nat) (I : Option (Nat × Oper × Pay)), (match pickP P vp w.next ops m fr (besides ops I l) with
      | some (j, o, v) => greedyX P vp sub ro ops n I (setM m j) { fr with tm := fr.put o.dst v } w D H
      | none => match pickY vp (w :: H) ops m fr w l (besides ops I l) with
        | some (j, o, e, v) => greedyX P vp sub ro ops n I (setM m j) { fr with tm := fr.put o.dst v } w (e :: D) H
        | none => match besides ops I l, I with
          | [], some (_, o, p) => match keepsX vp D (w.add p.obj) with
            | true => greedyX P vp sub ro ops n none m { fr with tm := fr.put o.dst (p.val w.next) } (w.add p.obj) D (w :: H)
            | false => none
          | l', I => match l, l' with
            | [i], [_] => match ops[i]? with
              | some o => match doX P vp sub ro ops o fr w with
                | some (fr', w') => match keepsX vp D w' with
                  | true => greedyX P vp sub ro ops n I (setM m i) fr' w' D (w :: H)
                  | false => match I, lateB ops i with
                    | none, true => match greedyE P vp ro ops n (setM m i) fr' w' with
                      | some (fr'', w'') => some (fr'', w'', D)
                      | none => none
                    | _, _ => none
                | none => none
              | none => none
            | l, _ => match pickB vp ops m fr I l with
              | some (j, o, p) => greedyX P vp sub ro ops n (some (j, o, p)) (setM m j) (fr.drop o) w D H
              | none => none) = (match pickP0 P vp w.next ops A fr (besides ops I l) with
      | some (j, o, v) => greedyX0 P vp sub ro ops n I (A.setIfInBounds j true) { fr with tm := fr.put o.dst v } w D H
      | none => match pickY0 vp (w :: H) ops A fr w l (besides ops I l) with
        | some (j, o, e, v) => greedyX0 P vp sub ro ops n I (A.setIfInBounds j true) { fr with tm := fr.put o.dst v } w (e :: D) H
        | none => match besides ops I l, I with
          | [], some (_, o, p) => match keepsX vp D (w.add p.obj) with
            | true => greedyX0 P vp sub ro ops n none A { fr with tm := fr.put o.dst (p.val w.next) } (w.add p.obj) D (w :: H)
            | false => none
          | l', I => match l, l' with
            | [i], [_] => match ops[i]? with
              | some o => match doX P vp sub ro ops o fr w with
                | some (fr', w') => match keepsX vp D w' with
                  | true => greedyX0 P vp sub ro ops n I (A.setIfInBounds i true) fr' w' D (w :: H)
                  | false => match I, lateB ops i with
                    | none, true => match greedyE0 P vp ro ops n (A.setIfInBounds i true) fr' w' with
                      | some (fr'', w'') => some (fr'', w'', D)
                      | none => none
                    | _, _ => none
                | none => none
              | none => none
            | l, _ => match pickB0 vp ops A fr I l with
              | some (j, o, p) => greedyX0 P vp sub ro ops n (some (j, o, p)) (A.setIfInBounds j true) (fr.drop o) w D H
              | none => none) := fun l I => by
      rw [pickP_eq h]
      cases hp : pickP0 P vp w.next ops A fr (besides ops I l) with
      | some x =>
        obtain ⟨j, o, v⟩ := x
        exact hset (lt_of_at (pickP0_some hp).2.1)
      | none =>
      simp only
      rw [pickY_eq h]
      cases hy : pickY0 vp (w :: H) ops A fr w l (besides ops I l) with
      | some x =>
        obtain ⟨j, o, e, v⟩ := x
        exact hset (pickY0_lt hy)
      | none =>
      simp only
      have hlow := hlow I l (besides ops I l)
      clear hp hy
      generalize besides ops I l = b at hlow
      match b, I, hlow with
      | [], some (i, o, p), _ =>
        simp only
        cases keepsX vp D (w.add p.obj) with
        | true => exact greedyX_eq h
        | false => rfl
      | [], none, hlow => exact hlow
      | _ :: _, none, hlow => exact hlow
      | _ :: _, some _, hlow => exact hlow
    simp only [greedyX, greedyX0, readyM_eq h]
    generalize Region.ready .any ops A = l
    match l, I with
    | [], none => rfl
    | [], some x => exact hrest [] (some x)
    | i :: r, I => exact hrest (i :: r) I
end
end Go.Wvm
