/- Towards the laws of this seat: contracts of the program's functions in a logic over a small machine (texts XKp XKq XKs XKc XKi XKj). No condition. -/
import Derived.Test.YtpglehckhnencaaXm1
/- Rules of the logic for strings.Builder: rows whose front alone is known, bytes as a text without a copy, what has no Go body. -/
namespace Go.Wvm
open Go.RowKit
set_option linter.unusedVariables false
section
variable {P : Program} {vp : VP} {ro : Nat} {E : En} {M : AM}
/-- A row of which not all is known. -/
abbrev partO (e n k : Nat) (c : Tr Value) : AO := .raw (.cells n c none 1 (some (e, k)))
theorem Abs.raw {w : VW} (h : Abs ro w M) {b : Nat} {o : VObj} (k : M.get b = some (.raw o)) : w.heap.get b = some o := by
  obtain ⟨o', h1, h2⟩ := h.obj b _ k
  have h2 : o' = o := h2
  rw [h1, h2]
theorem Op1.makeNoZero {f : Operand} {g e n : Nat} {args : Array Operand} {ts : Array TypeId} {T : List (Nat × TyI)} (hT : TyOk vp T) {ei : TyI} (hf : evE E f = some (.func (.func g) ⟨[]⟩ ⟨[]⟩)) (ha : evsE E args.toList = some [.int .i64 (n : Int)]) (hg : vp.fn.get g = none) (hx : vp.ext.get g = some (2, e))
    (he : tyGet T e = some ei) (hs : Nat.beq ei.size 1 = true) (hn : n ≤ 16777216) :
    Op1 P vp ro E M (.call { callee := .value f, args, argTypes := ts }) (.value (.slice (some ⟨M.next, 0, none⟩) n n)) (M.add (partO e n 0 .nil)) := by
  intro fr w o ho hE hM
  refine ⟨w.add (.cells n .nil none 1 (some (e, 0))), ?_, hM.add rfl⟩
  have ha2 : fr.evs args.toList = some [.int .i64 (.ofNat n)] := hE.evs ha
  have hb : Nat.ble n tiny = true := Nat.ble_eq_true_of_le hn
  simp only [execV, ho, hE.ev hf, ha2, invokeV, hg, hx, List.nil_append, List.append_nil, extV, hT _ _ he, hb, hs, hM.next]
theorem Pu.ext1 {f : Operand} {g e : Nat} {args : Array Operand} {ts : Array TypeId} {v : Value} (hf : evE E f = some (.func (.func g) ⟨[]⟩ ⟨[]⟩)) (ha : evsE E args.toList = some [v]) (hg : vp.fn.get g = none) (hx : vp.ext.get g = some (1, e)) :
    Pu P vp E M (.call { callee := .value f, args, argTypes := ts }) v := by
  intro ro ro' fr w o ho hE hM
  simp only [execV, ho, hE.ev hf, hE.evs ha, invokeV, hg, hx, List.nil_append, List.append_nil, extV, one]
variable {T : List (Nat × TyI)} (hT : TyOk vp T)
include hT
omit hT in
theorem Pu.min3 {ts : Array TypeId} {x y z : Operand} {k : IntKind} {a b c : Int} (hx : evE E x = some (.int k a)) (hy : evE E y = some (.int k b)) (hz : evE E z = some (.int k c)) : Pu P vp E M (.call { callee := .builtin .min, args := #[x, y, z], argTypes := ts }) (.int k (min (min a b) c)) :=
  Pu.bi1 (vs := [.int k a, .int k b, .int k c]) (by simp [evsE, hx, hy, hz]) fun ro w => by simp only [builtinV, minV_int, Option.bind_some, one]
/-- A pointer as one without a type, and back. -/
theorem Pu.toUnsafe {s d e : TypeId} {x : Operand} {b o u : Nat} {l : List Value} {t : Option (TypeId × Nat)} {ei : TyI} {a1 a2 b1 b2 : Nat} {z1 z2 : Option Value} {g1 g2 : Bool} (hx : evE E x = some (.pointer (some ⟨b, o, none⟩))) (hs : tyGet T s = some ⟨.pointer e, a1, b1, z1, g1⟩) (hd : tyGet T d = some ⟨.unsafePointer, a2, b2, z2, g2⟩)
    (he : tyGet T e = some ei) (h0 : Nat.beq ei.size 0 = false) (hm : M.get b = some (.row l u t)) (hl : o < l.length) : Pu P vp E M (.convert s d x) (.pointer (some ⟨b, o, none⟩)) := by
  intro ro ro' fr w o' ho hE hM
  obtain ⟨c, dv, hw, _⟩ := hM.row hm
  have h2 : Nat.blt o l.length = true := Nat.ble_eq_true_of_le hl
  simp only [execV, ho, xConvert, hE.ev hx, hT _ _ hs, hT _ _ hd, hT _ _ he, hw, h0, h2, one]
theorem Pu.ofUnsafe {s d e : TypeId} {x : Operand} {b u k : Nat} {l : List Value} {ei : TyI} {a1 a2 b1 b2 : Nat} {z1 z2 : Option Value} {g1 g2 : Bool} (hx : evE E x = some (.pointer (some ⟨b, 0, none⟩))) (hs : tyGet T s = some ⟨.unsafePointer, a1, b1, z1, g1⟩) (hd : tyGet T d = some ⟨.pointer e, a2, b2, z2, g2⟩)
    (he : tyGet T e = some ei) (h0 : Nat.beq ei.size 0 = false) (hm : M.get b = some (.row l u (some (e, k)))) (hl : ei.size ≤ l.length) : Pu P vp E M (.convert s d x) (.pointer (some ⟨b, 0, none⟩)) := by
  intro ro ro' fr w o' ho hE hM
  obtain ⟨c, dv, hw, _⟩ := hM.row hm
  have h2 : (Nat.beq e e && Nat.beq 0 0 && Nat.ble ei.size l.length) = true := by rw [Nat.beq_refl, Nat.ble_eq_true_of_le hl]; rfl
  simp only [execV, ho, xConvert, hE.ev hx, hT _ _ hs, hT _ _ hd, hT _ _ he, hw, h0, h2, one]
/-- One address against itself. -/
theorem Pu.neqSame {t t' e : TypeId} {x y : Operand} {b o : Nat} {s bb : Nat} {z : Option Value} {g : Bool} {ei : TyI} (hx : evE E x = some (.pointer (some ⟨b, o, none⟩))) (hy : evE E y = some (.pointer (some ⟨b, o, none⟩))) (ht : tyGet T t = some ⟨.pointer e, s, bb, z, g⟩) (he : tyGet T e = some ei) (h0 : Nat.beq ei.size 0 = false) :
    Pu P vp E M (.binOp .neq t x y t') (.bool false) := by
  intro ro ro' fr w o' ho hE hM
  simp only [execV, ho, xBinOp, hE.ev hx, hE.ev hy, ptrOp, ptrEqV, hT _ _ ht, hT _ _ he, h0, Nat.beq_refl, one]
  rfl
theorem Pu.capNil {t : TypeId} {x : Operand} {a c : Nat} {s by' : Nat} {z : Option Value} {g : Bool} {e : TypeId} (hx : evE E x = some (.slice none a c)) (ht : tyGet T t = some ⟨.slice e, s, by', z, g⟩) : Pu P vp E M (.call { callee := .builtin .cap, args := #[x], argTypes := #[t] }) (.int .i64 0) :=
  Pu.bi1 (vs := [.slice none a c]) (by simp [evsE, hx]) fun ro w => by simp only [builtinV, hT _ _ ht, one]
omit hT in
theorem Pu.sliceData {ts : Array TypeId} {x : Operand} {b o l c : Nat} (h : 0 < c) (hx : evE E x = some (.slice (some ⟨b, o, none⟩) l c)) : Pu P vp E M (.call { callee := .builtin .unsafeSliceData, args := #[x], argTypes := ts }) (.pointer (some ⟨b, o, none⟩)) :=
  Pu.bi1 (vs := [.slice (some ⟨b, o, none⟩) l c]) (by simp [evsE, hx]) fun ro w => by
    have : Nat.blt 0 c = true := Nat.ble_eq_true_of_le h
    simp only [builtinV, this, one]
theorem Pu.sliceRaw {t e : TypeId} {x : Operand} {hi : Operand} {p n k len cap : Nat} {c : Tr Value} {kk : IntKind} {b : Int} {s by' : Nat} {z : Option Value} {g : Bool} {ei : TyI} (hx : evE E x = some (.slice (some ⟨p, 0, none⟩) len cap)) (hh : evE E hi = some (.int kk b)) (ht : tyGet T t = some ⟨.slice e, s, by', z, g⟩) (he : tyGet T e = some ei)
    (hm : M.get p = some (partO e n k c)) (hu : Nat.beq ei.size 1 = true) (h0 : 0 ≤ b) (h1 : b ≤ cap) (hc : 0 < cap) : Pu P vp E M (.slice t x none (some hi) none) (.slice (some ⟨p, 0, none⟩) b.toNat cap) := by
  intro ro ro' fr w o' ho hE hM
  have hw := hM.raw hm
  have hn : fr.evO none = some none := rfl
  have h2 : evOE E (some hi) = some (some (.int kk b)) := by simp only [evOE, hh]
  have h3 : Nat.beq cap 0 = false := by rw [beq_eq]; simp; omega
  have h4 : (Nat.beq 1 0 || Nat.beq ei.size 1) = true := by rw [hu]; rfl
  simp only [execV, ho, xSlice, hE.ev hx, hE.evO h2, hn, hT _ _ ht, hT _ _ he, bounds_nh h0 h1, unitAt, hw, h4, h3, one, plus, Nat.zero_mul, Nat.add_zero, Nat.sub_zero]
/-- A copy of nothing. -/
theorem Pu.copy0 {ts : Array TypeId} {t1 e : TypeId} {x y : Operand} {a : Addr} {c c2 s by' : Nat} {z : Option Value} {g : Bool} {ei : TyI} (hx : evE E x = some (.slice (some a) 0 c)) (hy : evE E y = some (.slice none 0 c2)) (hts : ts.toList.head? = some t1) (ht : tyGet T t1 = some ⟨.slice e, s, by', z, g⟩) (he : tyGet T e = some ei) :
    Pu P vp E M (.call { callee := .builtin .copy, args := #[x, y], argTypes := ts }) (.int .i64 0) := by
  intro ro ro' fr w o' ho hE hM
  have ha : evsE E [x, y] = some [.slice (some a) 0 c, .slice none 0 c2] := by simp [evsE, hx, hy]
  obtain ⟨ts⟩ := ts
  cases ts with
  | nil => cases hts
  | cons t ts =>
    simp at hts
    subst hts
    have hb : Nat.blt 0 0 = false := rfl
    simp only [execV, ho, hE.evs ha, builtinV, copyV, hT _ _ ht, hT _ _ he, lenV, srcCells, hb, two]
    rfl
/-- A text behind the front of such a row. -/
theorem Op1.appendRaw {t1 t2 e : TypeId} {x y : Operand} {q m n k s by' : Nat} {c : Tr Value} {z : Option Value} {g : Bool} {ei ti2 : TyI} {l : List UInt8} (hx : evE E x = some (.slice (some ⟨q, 0, none⟩) m n)) (hy : evE E y = some (.string ⟨⟨l⟩⟩)) (hb : M.get q = some (partO e n k c)) (hr : ro ≤ q) (hk : k ≤ m) (h0 : l ≠ []) (hc : m + l.length ≤ n)
    (ht : tyGet T t1 = some ⟨.slice e, s, by', z, g⟩) (ht2 : tyGet T t2 = some ti2) (he : tyGet T e = some ei) (hs : ei.size = 1) (hl : lenable ti2.desc = true) :
    Op1 P vp ro E M (.call { callee := .builtin .append, args := #[x, y], argTypes := #[t1, t2] }) (.value (.slice (some ⟨q, 0, none⟩) (m + l.length) n)) (M.upd q (partO e n k (c.putL m (l.map fun b => .int .u8 (.ofNat b.toNat))))) := by
  refine Op1.app hx hy _ fun w hM => ?_
  have hw := hM.raw hb
  have h1 : srcCells 1 l.length (.string ⟨⟨l⟩⟩) w = some (l.map fun b => .int .u8 (.ofNat b.toNat)) := by simp only [srcCells, List.take_length]
  have h2 : Nat.ble ro q = true := Nat.ble_eq_true_of_le hr
  have h3 := oneCells_bytes l
  have h4 : (Nat.ble (m + (l.map fun b => (.int .u8 (.ofNat b.toNat) : Value)).length) n && Nat.ble (fzOf (some (e, k))) m) = true := by
    rw [List.length_map, Nat.ble_eq_true_of_le hc]; exact Nat.ble_eq_true_of_le hk
  have h5 : putCells ro ⟨q, m, none⟩ (l.map fun b => .int .u8 (.ofNat b.toNat)) w = some { w with heap := w.heap.set q (.cells n (c.putL m (l.map fun b => .int .u8 (.ofNat b.toNat))) none 1 (some (e, k))) } := by
    cases l with
    | nil => exact absurd rfl h0
    | cons a l => simp only [List.map_cons, putCells, hw, h2] at h3 h4 ⊢; simp only [h3, h4]
  refine ⟨_, ?_, hM.upd hw rfl⟩
  simp only [appendV, hT _ _ ht, hT _ _ ht2, hT _ _ he, hl, lenV, hs, h1, Nat.ble_eq_true_of_le hc, plus, Nat.mul_one, Nat.zero_add, h5]
omit hT in
theorem bytesN_map (l : List UInt8) : bytesN (l.map fun b => .int .u8 (.ofNat b.toNat)) = some l := by
  induction l with
  | nil => rfl
  | cons b l ih =>
    have h : Nat.blt b.toNat 256 = true := Nat.ble_eq_true_of_le b.toNat_lt
    simp only [List.map_cons, bytesN, h, ih]
    simp
omit hT in
/-- What is known of the front. -/
def Front (n : Nat) (c : Tr Value) (l : List UInt8) : Prop := l.length ≤ n ∧ ∀ i, i < l.length → cellAt n c none i = some (.int .u8 (.ofNat (l.getD i 0).toNat))
omit hT in
theorem Front.nil {n : Nat} {c : Tr Value} : Front n c [] := ⟨Nat.zero_le _, fun i h => by cases h⟩
omit hT in
theorem Front.put {n : Nat} {c : Tr Value} {l k : List UInt8} (h : Front n c l) (hc : l.length + k.length ≤ n) : Front n (c.putL l.length (k.map fun b => .int .u8 (.ofNat b.toNat))) (l ++ k) := by
  refine ⟨by rw [List.length_append]; exact hc, fun i hi => ?_⟩
  rw [List.length_append] at hi
  rw [cellAt_putA, List.length_map]
  by_cases h1 : l.length ≤ i
  · rw [if_pos (by omega), List.getElem?_map, List.getElem?_eq_getElem (by omega)]
    simp only [Option.map_some]
    rw [List.getD_eq_getElem?_getD, List.getElem?_append_right h1, List.getElem?_eq_getElem (by omega)]
    rfl
  · rw [if_neg (by omega), h.2 i (by omega), List.getD_eq_getElem?_getD, List.getD_eq_getElem?_getD, List.getElem?_append_left (by omega)]
omit hT in
theorem Front.load {n : Nat} {c : Tr Value} {l : List UInt8} (h : Front n c l) : ∀ (k o : Nat), o + k ≤ l.length → loadL n c none o k = some (((l.drop o).take k).map fun b => .int .u8 (.ofNat b.toNat))
  | 0, o, _ => by simp [loadL]
  | k + 1, o, hk => by
    have ho : o < l.length := by omega
    simp only [loadL, h.2 o ho, Front.load h k (o + 1) (by omega)]
    rw [List.drop_eq_getElem_cons ho, List.take_succ_cons, List.map_cons, List.getD_eq_getElem?_getD, List.getElem?_eq_getElem ho]
    rfl
/-- The front of such a row as a text; it may not turn any more. -/
theorem Op1.unsafeStr {t e t2 : TypeId} {x y : Operand} {q n k : Nat} {c : Tr Value} {s by' : Nat} {z : Option Value} {g : Bool} {ei : TyI} {l : List UInt8} (hx : evE E x = some (.pointer (some ⟨q, 0, none⟩))) (hy : evE E y = some (.int .i64 (l.length : Int))) (h0 : l ≠ []) (hb : M.get q = some (partO e n k c)) (hf : Front n c l) (hr : ro ≤ q) (hn : l.length ≤ 16777216) (hk : k ≤ l.length)
    (ht : tyGet T t = some ⟨.pointer e, s, by', z, g⟩) (he : tyGet T e = some ei) (hs : ei.size = 1) :
    Op1 P vp ro E M (.call { callee := .builtin .unsafeString, args := #[x, y], argTypes := #[t, t2] }) (.value (.string ⟨⟨l⟩⟩)) (M.upd q (partO e n l.length c)) := by
  intro fr w o' ho hE hM
  have hw := hM.raw hb
  have ha : evsE E [x, y] = some [.pointer (some ⟨q, 0, none⟩), .int .i64 (.ofNat l.length)] := by
    simp only [evsE, hx, hy]; rfl
  obtain ⟨m, hm⟩ : ∃ m, l.length = m + 1 := ⟨l.length - 1, by have := List.length_pos_iff.2 h0; omega⟩
  have hld := hf.load l.length 0 (by omega)
  rw [List.drop_zero, List.take_length, hm] at hld
  have h2 : (Nat.beq e e && Nat.beq 0 0 && Nat.ble ro q && Nat.ble m tiny) = true := by
    rw [Nat.beq_refl, Nat.ble_eq_true_of_le hr, Nat.ble_eq_true_of_le (show m ≤ tiny by unfold tiny; omega)]; rfl
  have h3 : nmax k (m + 1) = m + 1 := by
    unfold nmax
    rw [Nat.ble_eq_true_of_le (show k ≤ m + 1 by omega)]
  refine ⟨{ w with heap := w.heap.set q (.cells n c none 1 (some (e, m + 1))) }, ?_, by rw [hm]; exact hM.upd hw rfl⟩
  rw [hm] at ha
  simp only [execV, ho, hE.evs ha, builtinV, unsafeStrV, hT _ _ ht, hw, hT _ _ he, hld, h2, hs, bytesN_map, h3, two]
/-- A load of what lay there at the region's beginning. -/
theorem Kq.load {V0 : VW} {M0 : AM} {F : FX} {all : List Oper} {n : Nat} {s : Array Bool} {Q : En → AM → Prop} {d j : Nat} {t : TypeId} {x : Operand} {b o u : Nat} {l : List Value} {tt : Option (TypeId × Nat)} {i : TyI} {v : Value} {ty : TypeId} {pos : String} {after : Array Edge} {g : Option (Nat × Bool)} (h0 : Abs V0.next V0 M0) (hj : mayB all.toArray s j = true) (ho : all[j]? = some ⟨some d, .load t x, ty, pos, after, g⟩) (hw : Want E all g true)
    (hx : evE E x = some (.pointer (some ⟨b, o, none⟩))) (ht : tyGet T t = some i) (ha : i.agg = false) (hb : M0.get b = some (.row l u tt)) (hv : l[o]? = some v) (hd : Nat.blt d F.nt = true) (k : Kq P vp V0 F all n (s.setIfInBounds j true) ((d, v) :: E) M Q) : Kq P vp V0 F all (n + 1) s E M Q := by
  intro tm w hE hM
  obtain ⟨E', M', tm', w', q1, q2, q3, q4⟩ := k (putT F.nt tm (some d) v) w (hE.put hd v) hM
  refine ⟨E', M', tm', w', q1, q2, q3, fun k ds kind => .load (o := ⟨some d, .load t x, ty, pos, after, g⟩) (ad := ⟨b, o, none⟩) hj (toArr ho) ?_ rfl (Has.ev (fr := ⟨F.fn, tm, F.nt, k, ds, false, kind, none⟩) hE hx) ?_ (q4 k ds kind)⟩
  · have := Want.wantedV (o := ⟨some d, .load t x, ty, pos, after, g⟩) hw hE
    simpa using this
  · obtain ⟨c, dv, hw2, hc⟩ := h0.row hb
    simp only [loadV, loadC, hT _ _ ht, hw2, ha, hc _ _ hv]
end
end Go.Wvm
/- A place of an array's value, in the logic. -/
namespace Go.Wvm
open Go.RowKit
set_option linter.unusedVariables false
theorem Pu.indexAgg {P : Program} {vp : VP} {E : En} {M : AM} {T : List (Nat × TyI)} (hT : TyOk vp T) {t e : TypeId} {x ix : Operand} {cs : List Value} {len sz by' : Nat} {z : Option Value} {g : Bool} {k : IntKind} {i : Nat} {ei : TyI} {v : Value} (hx : evE E x = some (.agg ⟨cs⟩)) (hi : evE E ix = some (.int k (i : Int))) (ht : tyGet T t = some ⟨.array len e, sz, by', z, g⟩)
    (he : tyGet T e = some ei) (ha : ei.agg = false) (hs : ei.size = 1) (h1 : i < len) (hv : cs[i]? = some v) : Pu P vp E M (.index t x ix) v := by
  intro ro ro' fr w o' ho hE hM
  have hb : Nat.blt i len = true := Nat.ble_eq_true_of_le h1
  have hi2 : evE E ix = some (.int k (.ofNat i)) := hi
  simp only [execV, ho, xIndex, hE.ev hx, hE.ev hi2, hT _ _ ht, hb, hT _ _ he, partL, ha, hs, Nat.mul_one, hv, one]
end Go.Wvm
/- N -/
namespace Go.Proofs.Ytpglehckhnencaa
open Go.Wvm Sk
set_option linter.unusedVariables false
set_option linter.unusedSimpArgs false

/-- How often each rank comes. -/
def cntL (s : List UInt8) : List Value := (List.range 62).map fun r => u64 (cnt s r)
theorem cntL_len (s : List UInt8) : (cntL s).length = 62 := by unfold cntL; rw [List.length_map, List.length_range]
theorem cntL_get (s : List UInt8) {r : Nat} (h : r < 62) : (cntL s)[r]? = some (u64 (cnt s r)) := by
  unfold cntL
  rw [List.getElem?_map, List.getElem?_range h]; rfl
theorem cntL_set {s : List UInt8} {i : Nat} (h : i < s.length) (hb : (s.getD i 0).toNat < 62) : setAt (cntL (s.take i)) (0 + (((s.getD i 0).toNat : Nat) : Int).toNat * 1) [u64 (cnt (s.take i) (s.getD i 0).toNat + 1)] = cntL (s.take (i + 1)) := by
  show (cntL (s.take i)).set (0 + (((s.getD i 0).toNat : Nat) : Int).toNat * 1) _ = _
  rw [show 0 + (((s.getD i 0).toNat : Nat) : Int).toNat * 1 = (s.getD i 0).toNat by omega]
  refine List.ext_getElem? fun r => ?_
  by_cases hr : r < 62
  · rw [List.getElem?_set, cntL_get _ hr, cntL_get _ hr, cnt_take h r]
    by_cases e : (s.getD i 0).toNat = r
    · rw [if_pos e, if_pos (by rw [cntL_len]; omega), if_pos e, e]
    · rw [if_neg e, if_neg e, Nat.add_zero]
  · rw [List.getElem?_eq_none (by rw [List.length_set, cntL_len]; omega), List.getElem?_eq_none (by rw [cntL_len]; omega)]
theorem cntL_one (s : List UInt8) : oneCells (cntL s) = true := by
  unfold cntL
  generalize List.range 62 = l
  induction l with
  | nil => rfl
  | cons a l ih => exact ih
theorem wN_lit (k : Nat) : max ((40 : Int) - (k : Int)) 0 = ((40 - min 40 k : Nat) : Int) := by omega

abbrev arrB (s : List UInt8) : AO := .row (cntL s) 0 (some (47, 0))
abbrev eE (s : List UInt8) (a i : Nat) : En := [(0, strV s), (6, .pointer (some ⟨a, 0, none⟩)), (26, .int .i64 (s.length : Int)), (27, .int .i64 (i : Int))]
abbrev eF (s : List UInt8) (a k : Nat) : En := [(0, strV s), (6, .pointer (some ⟨a, 0, none⟩)), (8, u64 (psum s k)), (38, .agg ⟨cntL s⟩), (39, .int .i64 (k : Int))]
set_option maxHeartbeats 16000000 in
theorem Estimate_ok {ro : Nat} {M : AM} {s : List UInt8} (hs : s.length ≤ 140737488355328) :
    FnC Try.prog tables ro 11 [strV s] M (fun v M' => v = estV s ∧ Fr M M' []) := by
  refine FnC.body (nt := 91) ok hm fn11 rfl rfl ?_
  refine Ex.facts fun hlt hron => ?_
  (repeat (first
    | refine Ex.seq ok hm ?_
    | refine Ex.region ok hm ?_
    | refine Sq.pu ok hm Want.none (by first
    | exact Pu.move rfl
    | exact Pu.assign rfl) rfl ?_
    | refine Sq.finH (n := 6) ok hm (by repeat (first
    | exact Keep.nil
    | apply Keep.keep rfl)) ?_))
  refine Sq.call ok Want.none (Op1.call rfl rfl fn13) rfl (FnC.mono (Exponent_ok (s := s) hs) ?_)
  rintro x M1 ⟨rfl, rfl⟩
  rcases exE_cases s with ⟨p, hp, _⟩ | ⟨hno, _⟩
  · rw [exV_some hp, estV_some hp]
    have hsz := hp.size
    have hby := hp.bytes
    (repeat (first
    | refine Ex.seq ok hm ?_
    | refine Ex.skip ok hm ?_
    | refine Ex.region ok hm ?_
    | refine Sq.pu ok hm Want.none (by first
    | exact Pu.move rfl
    | exact Pu.assign rfl
    | exact Pu.extract rfl rfl
    | exact Pu.neqI rfl rfl) rfl ?_
    | refine Sq.finH (n := 7) ok hm (by repeat (first
    | exact Keep.nil
    | apply Keep.drop rfl
    | apply Keep.keep rfl)) ?_
    | refine Ex.condF ok hm rfl (by rfl) ?_))
    refine Sq.op ok hm Want.none (Op1.alloc (T := T) hT rfl rfl rfl) rfl ?_
    have hrow : (M1.add (arrB [])).get M1.next = some (arrB []) := AM.add_same
    have hF : Fr M1 (M1.add (arrB [])) [] := Fr.add _ _ _
    show Sq Try.prog tables ro ⟨11, 91⟩ _ _ _ (M1.add (arrB [])) _
    generalize M1.add (arrB []) = M2 at hrow hF ⊢
    obtain ⟨a, ha⟩ : ∃ a, a = M1.next := ⟨_, rfl⟩
    rw [← ha] at hrow ⊢
    (repeat (first
    | refine Ex.seq ok hm ?_
    | refine Ex.block ok hm ?_
    | refine Ex.region ok hm ?_
    | refine Sq.pu ok hm Want.none (by first
    | exact Pu.move rfl
    | exact Pu.lenS hT rfl rfl) rfl ?_
    | refine Sq.finH (n := 28) ok hm (by repeat (first
    | exact Keep.nil
    | apply Keep.keep rfl)) ?_))
    refine Ex.loop ?_
    refine Lp.inv ok hm (α := Nat)
      (fun i E M' => E = eE s a i ∧ i ≤ s.length ∧ M'.get a = some (arrB (s.take i)) ∧ Fr M1 M' [])
      (fun i => s.length - i) ?_ 0 (eE s a 0) ⟨rfl, rfl, rfl, rfl, trivial⟩ ⟨rfl, Nat.zero_le _, hrow, hF⟩
    intro i E M3 ⟨hE, hi, hrow3, hF3⟩
    subst hE
    by_cases hil : i < s.length
    · have hb : (s.getD i 0).toNat < 62 := hby _ (by
        rw [List.getD_eq_getElem?_getD, List.getElem?_eq_getElem hil]; exact List.getElem_mem hil)
      have hset := cntL_set hil hb
      have hget := cntL_get (s.take i) hb
      have hcl := cnt_le (s.take i) (s.getD i 0).toNat
      have htl : (s.take i).length = i := by rw [List.length_take]; omega
      rw [htl] at hcl
      have hlen := cntL_len (s.take i)
      have hget2 : (cntL (s.take i))[0 + (((s.getD i 0).toNat : Nat) : Int).toNat * 1]? = some (u64 (cnt (s.take i) (s.getD i 0).toNat)) := by
        rw [show 0 + (((s.getD i 0).toNat : Nat) : Int).toNat * 1 = (s.getD i 0).toNat by omega]; exact hget
      generalize cnt (s.take i) (s.getD i 0).toNat = c at hset hget2 hcl ⊢
      (repeat (first
    | refine Ex.seq ok hm ?_
    | refine Ex.block ok hm ?_
    | refine Ex.skip ok hm ?_
    | refine Ex.region ok hm ?_
    | refine Sq.pu ok hm Want.none (by first
    | exact Pu.move rfl
    | exact Pu.assign rfl
    | exact Pu.lssI rfl rfl
    | exact Pu.indexP hT rfl rfl rfl rfl (by omega) (by omega)
    | exact Pu.indexSN hT rfl rfl rfl (by omega)) rfl ?_
    | refine Sq.finH (n := 28) ok hm (by repeat (first
    | exact Keep.nil
    | apply Keep.drop rfl
    | apply Keep.keep rfl)) ?_
    | refine Ex.condT ok hm rfl (by first
    | rfl
    | exact decide_eq_true (by omega)) ?_))
      refine Sq.pu ok hm Want.none (Pu.load hT rfl rfl rfl hrow3 hget2) rfl ?_
      (repeat (refine Sq.pu ok hm Want.none (by first
    | exact Pu.addN rfl rfl (by simp only [InR]; omega)
    | exact Pu.indexP hT rfl rfl rfl rfl (by omega) (by omega)) rfl ?_))
      refine Sq.act ok hm Want.none (Op1.store (l := cntL (s.take i)) hT rfl rfl rfl rfl hrow3 (by omega) (Nat.zero_le _) (by rw [hlen]; show 0 + (((s.getD i 0).toNat : Nat) : Int).toNat * 1 + 1 ≤ 62; omega) rfl) ?_
      show Sq Try.prog tables ro ⟨11, 91⟩ _ _ _ (M3.upd a (.row (setAt (cntL (s.take i)) (0 + (((s.getD i 0).toNat : Nat) : Int).toNat * 1) [u64 (c + 1)]) 0 (some (47, 0)))) _
      rw [hset]
      (repeat (first
    | refine Ex.region ok hm ?_
    | refine Sq.pu ok hm Want.none (by first
    | exact Pu.move rfl
    | exact Pu.addN rfl rfl (by simp only [InR]; omega)) rfl ?_
    | refine Sq.finH (n := 28) ok hm (by repeat (first
    | exact Keep.nil
    | apply Keep.drop rfl
    | apply Keep.keep rfl)) ?_))
      refine ⟨i + 1, eE s a (i + 1), ?_, ⟨rfl, rfl, rfl, rfl, trivial⟩, rfl, hil, AM.upd_same, hF3.upd' _ (.inr (by omega))⟩
      show s.length - (i + 1) < s.length - i
      omega
    · obtain rfl : i = s.length := by omega
      rw [List.take_length] at hrow3
      have hlen := cntL_len s
      (repeat (first
    | refine Ex.seq ok hm ?_
    | refine Ex.region ok hm ?_
    | refine Sq.pu ok hm Want.none (by first
    | exact Pu.assign rfl
    | exact Pu.lssI rfl rfl) rfl ?_
    | refine Sq.finH (n := 28) ok hm (by repeat (first
    | exact Keep.nil
    | apply Keep.drop rfl
    | apply Keep.keep rfl)) ?_
    | refine Ex.condF ok hm rfl (by first
    | rfl
    | exact decide_eq_false (by omega)) ?_
    | refine Ex.exit ok hm ?_))
      refine Sq.pu ok hm Want.none (Pu.loadA hT rfl rfl rfl hrow3 (by rw [hlen]; exact Nat.le_refl 62)) rfl ?_
      rw [show List.take (TyI.size _) (List.drop 0 (cntL s)) = cntL s by
        show List.take 62 (List.drop 0 (cntL s)) = _
        rw [List.drop_zero, List.take_of_length_le (by omega)]]
      (repeat (first
    | refine Ex.block ok hm ?_
    | refine Sq.pu ok hm Want.none (by exact Pu.move rfl) rfl ?_
    | refine Sq.finH (n := 40) ok hm (by repeat (first
    | exact Keep.nil
    | apply Keep.keep rfl)) ?_))
      refine Ex.loop ?_
      refine Lp.inv ok hm (α := Nat)
        (fun k E M' => E = eF s a k ∧ k ≤ 62 ∧ M' = M3)
        (fun k => 62 - k) ?_ 0 (eF s a 0) ⟨rfl, rfl, rfl, rfl, rfl, trivial⟩ ⟨rfl, Nat.zero_le _, rfl⟩
      intro k E M4 ⟨hE, hk, hM⟩
      subst hE hM
      have hge := sumS_ge s
      have hsl := sumS_le s
      have hpa := psum_all s hby
      by_cases hkl : k < 62
      · have hstep := psum_step hby hkl
        have hck := cnt_le s k
        have hget := cntL_get s hkl
        have hps : psum s (k + 1) = psum s k + cnt s k * wN k := rfl
        have hwl := wN_lit k
        have hw : wN k = 2 ^ (40 - min 40 k) := rfl
        generalize cnt s k = c at hstep hck hget hps ⊢
        (repeat (first
    | refine Ex.seq ok hm ?_
    | refine Ex.block ok hm ?_
    | refine Ex.skip ok hm ?_
    | refine Ex.region ok hm ?_
    | refine Sq.pu ok hm Want.none (by first
    | exact Pu.move rfl
    | exact Pu.lssI rfl rfl) rfl ?_
    | refine Sq.finH (n := 40) ok hm (by repeat (first
    | exact Keep.nil
    | apply Keep.keep rfl)) ?_
    | refine Ex.condT ok hm rfl (by first
    | rfl
    | exact decide_eq_true (by omega)) ?_))
        refine Sq.pu ok hm Want.none (Pu.indexAgg hT rfl rfl rfl rfl rfl rfl hkl hget) rfl ?_
        (repeat (first
    | refine Ex.region ok hm ?_
    | refine Sq.pu ok hm Want.none (by first
    | exact Pu.move rfl
    | exact Pu.assign rfl) rfl ?_
    | refine Sq.finH (n := 40) ok hm (by repeat (first
    | exact Keep.nil
    | apply Keep.drop rfl
    | apply Keep.keep rfl)) ?_))
        refine Sq.pu ok hm Want.none (Pu.sub (k := .i64) (a := 40) (b := (k : Int)) rfl rfl (by simp only [InR]; omega)) rfl ?_
        refine Sq.pu ok hm Want.none (Pu.max2 rfl rfl) rfl ?_
        rw [hwl]
        refine Sq.pu ok hm Want.none (Pu.shlN (k := .u64) (a := c) (b := 40 - min 40 k) rfl rfl (by show _ ≤ 64; omega) (by rw [← hw]; simp only [InR]; omega)) rfl ?_
        rw [← hw]
        refine Sq.pu ok hm Want.none (Pu.addN (k := .u64) (a := psum s k) (b := c * wN k) rfl rfl (by simp only [InR]; omega)) rfl ?_
        rw [← hps]
        (repeat (first
    | refine Ex.region ok hm ?_
    | refine Sq.pu ok hm Want.none (by first
    | exact Pu.move rfl
    | exact Pu.assign rfl
    | exact Pu.addN rfl rfl (by simp only [InR]; omega)) rfl ?_
    | refine Sq.finH (n := 40) ok hm (by repeat (first
    | exact Keep.nil
    | apply Keep.drop rfl
    | apply Keep.keep rfl)) ?_))
        refine ⟨k + 1, eF s a (k + 1), ?_, ⟨rfl, rfl, rfl, rfl, rfl, trivial⟩, rfl, hkl, rfl⟩
        show 62 - (k + 1) < 62 - k
        omega
      · obtain rfl : k = 62 := by omega
        have hq := quo_le (s := s) (by omega) hsz.2
        have hx := xN_lt hsz.2
        have hqe : quoN s = xN s.length * 2 ^ 40 / sumS s := rfl
        have hes : estN s = if 0 < zeros s ∧ 2 * quoN s ≤ 5 * s.length then smallN s.length (zeros s) else quoN s := rfl
        have hxe : xN s.length = 7213 * s.length * s.length * s.length / (10000 * s.length + 10790) := rfl
        have b1 : 7213 * s.length * s.length ≤ 7213 * 65536 * 65536 := Nat.mul_le_mul (Nat.mul_le_mul_left _ hsz.2) hsz.2
        have b2 : 7213 * s.length * s.length * s.length ≤ 7213 * 65536 * 65536 * 65536 := Nat.mul_le_mul b1 hsz.2
        have hhi := hi_lt hsz.1 hsz.2 hge
        have hzl := zeros_le s
        have hget := cntL_get s (r := 0) (by decide)
        rw [cnt_zero] at hget
        obtain ⟨L, hrowL, hgetL⟩ : ∃ L, M4.get a = some (.row L 0 (some (47, 0))) ∧ L[0]? = some (u64 (zeros s)) := ⟨_, hrow3, hget⟩
        clear hrow3 hget
        obtain ⟨m, hme⟩ : ∃ m, m = s.length := ⟨_, rfl⟩
        rw [← hme] at hge hx hqe hes hxe b1 b2 hsz hhi hsl hzl
        have hlm : ((s.length : Nat) : Int) = (m : Int) := by omega
        have hdm := Nat.div_add_mod (xN m * 1099511627776) 18446744073709551616
        have hmm := mod64 (xN m * 1099511627776)
        have hdq : (xN m * 1099511627776 / 18446744073709551616 * 18446744073709551616 + xN m * 1099511627776 % 18446744073709551616) / sumS s = quoN s := by
          rw [Nat.mul_comm (xN m * 1099511627776 / 18446744073709551616), hdm, hqe]
        (repeat (first
    | refine Ex.seq ok hm ?_
    | refine Ex.region ok hm ?_
    | refine Sq.pu ok hm Want.none (by first
    | exact Pu.move rfl
    | exact Pu.assign rfl
    | exact Pu.lssI rfl rfl
    | exact Pu.lenS hT rfl rfl
    | exact Pu.convN hT rfl rfl rfl (by simp only [InR]; omega)) rfl ?_
    | refine Sq.finH (n := 13) ok hm (by repeat (first
    | exact Keep.nil
    | apply Keep.drop rfl
    | apply Keep.keep rfl)) ?_
    | refine Ex.condF ok hm rfl (by rfl) ?_
    | refine Ex.exit ok hm ?_))
        rw [hlm]
        refine Sq.pu ok hm Want.none (Pu.mulN (k := .u64) (a := 7213) (b := m) rfl rfl (by simp only [InR]; omega)) rfl ?_
        (repeat (refine Sq.pu ok hm Want.none (by exact Pu.move rfl) rfl ?_))
        refine Sq.pu ok hm Want.none (Pu.mulN (k := .u64) (a := 7213 * m) (b := m) rfl rfl (by simp only [InR]; omega)) rfl ?_
        (repeat (refine Sq.pu ok hm Want.none (by exact Pu.move rfl) rfl ?_))
        refine Sq.pu ok hm Want.none (Pu.mulN (k := .u64) (a := 7213 * m * m) (b := m) rfl rfl (by simp only [InR]; omega)) rfl ?_
        (repeat (refine Sq.pu ok hm Want.none (by exact Pu.move rfl) rfl ?_))
        refine Sq.pu ok hm Want.none (Pu.mulN (k := .u64) (a := 10000) (b := m) rfl rfl (by simp only [InR]; omega)) rfl ?_
        refine Sq.pu ok hm Want.none (Pu.addN (k := .u64) (a := 10000 * m) (b := 10790) rfl rfl (by simp only [InR]; omega)) rfl ?_
        refine Sq.pu ok hm Want.none (Pu.quoN (k := .u64) (a := 7213 * m * m * m) (b := 10000 * m + 10790) rfl rfl (by omega) (by simp only [InR]; omega)) rfl ?_
        rw [← hxe]
        (repeat (first
    | refine Ex.seq ok hm ?_
    | refine Ex.region ok hm ?_
    | refine Sq.pu ok hm Want.none (by first
    | exact Pu.move rfl
    | exact Pu.assign rfl) rfl ?_
    | refine Sq.finH (n := 13) ok hm (by repeat (first
    | exact Keep.nil
    | apply Keep.drop rfl
    | apply Keep.keep rfl)) ?_))
        refine Sq.call ok Want.none (Op1.call rfl rfl fn25) rfl (FnC.mono (Mul64_ok (x := xN m) (y := 1099511627776) (by omega) (by decide)) ?_)
        rintro v M5 ⟨rfl, rfl⟩
        (repeat (first
    | refine Ex.seq ok hm ?_
    | refine Ex.region ok hm ?_
    | refine Sq.pu ok hm Want.none (by first
    | exact Pu.move rfl
    | exact Pu.assign rfl
    | exact Pu.extract rfl rfl) rfl ?_
    | refine Sq.finH (n := 15) ok hm (by repeat (first
    | exact Keep.nil
    | apply Keep.drop rfl
    | apply Keep.keep rfl)) ?_))
        rw [hpa]
        refine Sq.call ok Want.none (Op1.call rfl rfl fn26) rfl (FnC.mono (Div64_ok (hi := xN m * 1099511627776 / 18446744073709551616) (lo := xN m * 1099511627776 % 18446744073709551616) (y := sumS s) hhi (by omega) hmm) ?_)
        rintro v M6 ⟨⟨r, rfl⟩, rfl⟩
        rw [hdq]
        clear hdq hdm hmm hhi
        generalize quoN s = Q at hq hes ⊢
        generalize zeros s = z at hes hzl hgetL ⊢
        rw [hes]
        (repeat (first
    | refine Ex.seq ok hm ?_
    | refine Ex.region ok hm ?_
    | refine Sq.pu ok hm Want.none (by first
    | exact Pu.move rfl
    | exact Pu.assign rfl
    | exact Pu.extract rfl rfl
    | exact Pu.indexP hT rfl rfl rfl rfl (by omega) (by omega)) rfl ?_
    | refine Sq.finH (n := 17) ok hm (by repeat (first
    | exact Keep.nil
    | apply Keep.drop rfl
    | apply Keep.keep rfl)) ?_))
        refine Sq.pu ok hm Want.none (Pu.load hT rfl rfl rfl hrowL hgetL) rfl ?_
        by_cases hz0 : z = 0
        · rw [if_neg (by omega)]
          (repeat (first
    | refine Ex.seq ok hm ?_
    | refine Ex.skip ok hm ?_
    | refine Ex.region ok hm ?_
    | refine Sq.pu ok hm Want.none (by first
    | exact Pu.move rfl
    | exact Pu.assign rfl
    | exact Pu.gtrI rfl rfl
    | exact Pu.pickF rfl (by first
    | rfl
    | exact decide_eq_false (by omega)) rfl) rfl ?_
    | refine Sq.skip ok hm (by exact Want.no rfl rfl rfl (by first
    | rfl
    | exact decide_eq_false (by omega))) rfl ?_
    | refine Sq.finH (n := 17) ok hm (by repeat (first
    | exact Keep.nil
    | apply Keep.drop rfl
    | apply Keep.keep rfl)) ?_
    | refine Ex.condF ok hm rfl (by rfl) ?_
    | refine Ex.ret ok hm ?_))
          exact ⟨_, .tmp rfl (.tmp rfl .nil), rfl, hF3⟩
        · (repeat (first
    | refine Sq.pu ok hm Want.none (by first
    | exact Pu.move rfl
    | exact Pu.gtrI rfl rfl) rfl ?_
    | refine Sq.pu ok hm (by exact Want.yes rfl rfl rfl (by exact decide_eq_true (by omega))) (by exact Pu.move rfl) rfl ?_))
          refine Sq.pu ok hm (Want.yes rfl rfl rfl (by first | rfl | (simp; omega))) (Pu.mulN (k := .u64) (a := 2) (b := Q) rfl rfl (by simp only [InR]; omega)) rfl ?_
          (repeat (refine Sq.pu ok hm (by exact Want.yes rfl rfl rfl (by exact decide_eq_true (by omega))) (by exact Pu.move rfl) rfl ?_))
          refine Sq.pu ok hm (Want.yes rfl rfl rfl (by first | rfl | (simp; omega))) (Pu.mulN (k := .u64) (a := 5) (b := m) rfl rfl (by simp only [InR]; omega)) rfl ?_
          by_cases hbig : 2 * Q ≤ 5 * m
          · rw [if_pos (by omega)]
            (repeat (first
    | refine Ex.seq ok hm ?_
    | refine Ex.region ok hm ?_
    | refine Sq.pu ok hm Want.none (by first
    | exact Pu.move rfl
    | exact Pu.leqI rfl rfl
    | exact Pu.pickT rfl (by first
    | rfl
    | exact decide_eq_true (by omega)) rfl
    | exact Pu.indexP hT rfl rfl rfl rfl (by omega) (by omega)) rfl ?_
    | refine Sq.pu ok hm (by first
    | exact Want.none
    | exact Want.yes rfl rfl rfl (by first
    | rfl
    | exact decide_eq_true (by omega))) (by exact Pu.leqI rfl rfl) rfl ?_
    | refine Sq.finH (n := 17) ok hm (by repeat (first
    | exact Keep.nil
    | apply Keep.drop rfl
    | apply Keep.keep rfl)) ?_
    | refine Ex.condT ok hm rfl (by first
    | rfl
    | exact decide_eq_true (by omega)) ?_))
            refine Sq.pu ok hm Want.none (Pu.load hT rfl rfl rfl hrowL hgetL) rfl ?_
            refine Sq.call ok Want.none (Op1.call rfl rfl fn27) rfl (FnC.mono (small_ok (m := m) (z := z) (by omega) hzl) ?_)
            rintro v M7 ⟨rfl, rfl⟩
            (repeat (first
    | refine Sq.pu ok hm Want.none (by exact Pu.assign rfl) rfl ?_
    | refine Sq.finH (n := 17) ok hm (by repeat (first
    | exact Keep.nil
    | apply Keep.drop rfl
    | apply Keep.keep rfl)) ?_
    | refine Ex.ret ok hm ?_))
            exact ⟨_, .tmp rfl (.tmp rfl .nil), rfl, hF3⟩
          · rw [if_neg (by omega)]
            (repeat (first
    | refine Ex.seq ok hm ?_
    | refine Ex.skip ok hm ?_
    | refine Ex.region ok hm ?_
    | refine Sq.pu ok hm Want.none (by first
    | exact Pu.move rfl
    | exact Pu.assign rfl
    | exact Pu.leqI rfl rfl
    | exact Pu.pickT rfl (by first
    | rfl
    | exact decide_eq_true (by omega)) rfl) rfl ?_
    | refine Sq.pu ok hm (by exact Want.yes rfl rfl rfl (by first
    | rfl
    | exact decide_eq_true (by omega))) (by exact Pu.leqI rfl rfl) rfl ?_
    | refine Sq.finH (n := 17) ok hm (by repeat (first
    | exact Keep.nil
    | apply Keep.drop rfl
    | apply Keep.keep rfl)) ?_
    | refine Ex.condF ok hm rfl (by first
    | rfl
    | exact decide_eq_false (by omega)) ?_
    | refine Ex.ret ok hm ?_))
            exact ⟨_, .tmp rfl (.tmp rfl .nil), rfl, hF3⟩
  · rw [exV_none hno, estV_none hno]
    (repeat (first
    | refine Ex.seq ok hm ?_
    | refine Ex.region ok hm ?_
    | refine Sq.pu ok hm Want.none (by first
    | exact Pu.move rfl
    | exact Pu.assign rfl
    | exact Pu.extract rfl rfl
    | exact Pu.neqI rfl rfl) rfl ?_
    | refine Sq.finH (n := 6) ok hm (by repeat (first
    | exact Keep.nil
    | apply Keep.drop rfl
    | apply Keep.keep rfl)) ?_
    | refine Ex.condT ok hm rfl (by rfl) ?_
    | refine Ex.ret ok hm ?_))
    exact ⟨_, .tmp rfl (.tmp rfl .nil), rfl, Fr.refl _ _⟩
end Go.Proofs.Ytpglehckhnencaa
/- N -/
namespace Go.Proofs.Ytpglehckhnencaa
open Go.Wvm Sk
set_option linter.unusedVariables false
set_option linter.unusedSimpArgs false

set_option maxHeartbeats 8000000 in
theorem Rank_ok {ro : Nat} {M : AM} {p h : Nat} (hp : p ≤ 16) (hh : h < 18446744073709551616) :
    FnC Try.prog tables ro 22 [.int .i64 (p : Int), .int .u64 (h : Int)] M (fun v M' => v = .int .u8 (rankN p h : Nat) ∧ M' = M) := by
  refine FnC.body (nt := 24) ok hm fn22 rfl rfl ?_
  (repeat (first
    | refine Ex.seq ok hm ?_
    | refine Ex.region ok hm ?_
    | refine Sq.pu ok hm Want.none (by first
    | exact Pu.move rfl
    | exact Pu.assign rfl) rfl ?_
    | refine Sq.finH (n := 6) ok hm (by repeat (first
    | exact Keep.nil
    | apply Keep.keep rfl)) ?_))
  refine Sq.pu ok hm Want.none (Pu.subZ (k := .i64) (a := 63) (b := p) (63 - p) (by omega) (by simp only [InR]; omega) rfl rfl) rfl ?_
  (repeat (first
    | refine Ex.block ok hm ?_
    | refine Sq.pu ok hm Want.none (by exact Pu.assign rfl) rfl ?_
    | refine Sq.finH (n := 6) ok hm (by repeat (first
    | exact Keep.nil
    | apply Keep.drop rfl
    | apply Keep.keep rfl)) ?_))
  refine Ex.loop ?_
  refine Lp.inv ok hm (α := Nat × Int)
    (fun x E M' => E = [(6, .int .i64 x.2), (5, .int .i64 ((x.1 + 1 : Nat) : Int)), (0, .int .i64 (p : Int)), (1, .int .u64 (h : Int))] ∧ x.2 = 63 - (p : Int) - (x.1 : Int) ∧ x.1 ≤ 64 - p ∧ h % 2 ^ (64 - p) < 2 ^ (64 - p - x.1) ∧ M' = M)
    (fun x => 64 - p - x.1) ?_ (0, ((63 - p : Nat) : Int)) [(6, .int .i64 ((63 - p : Nat) : Int)), (5, .int .i64 1), (0, .int .i64 (p : Int)), (1, .int .u64 (h : Int))] ⟨rfl, rfl, rfl, rfl, trivial⟩ ⟨rfl, by simp only; omega, Nat.zero_le _, Nat.mod_lt _ (Nat.two_pow_pos _), rfl⟩
  intro ⟨j, z⟩ E M1 ⟨hE, hz, hj, hlo, hM⟩
  simp only at hE hz hj hlo
  subst hE hM
  by_cases hend : j = 64 - p
  · have hneg : z = -1 := by omega
    subst hneg
    have hr := rank_end (p := p) (h := h) (by omega) (by rw [← Nat.sub_self (64 - p)]; rw [hend] at hlo; exact hlo)
    (repeat (first
    | refine Ex.seq ok hm ?_
    | refine Ex.region ok hm ?_
    | refine Sq.pu ok hm Want.none (by first
    | exact Pu.move rfl
    | exact Pu.assign rfl
    | exact Pu.geqI rfl rfl
    | exact Pu.pickF rfl (by rfl) rfl
    | exact Pu.convN hT rfl rfl rfl (by simp only [InR]; omega)) rfl ?_
    | refine Sq.skip ok hm (by exact Want.no rfl rfl rfl (by rfl)) rfl ?_
    | refine Sq.finH (n := 7) ok hm (by repeat (first
    | exact Keep.nil
    | apply Keep.drop rfl
    | apply Keep.keep rfl)) ?_
    | refine Ex.condF ok hm rfl (by rfl) ?_
    | refine Ex.ret ok hm ?_
    | refine Ex.exit ok hm ?_))
    have e : ((j + 1 : Nat) : Int) = ((rankN p h : Nat) : Int) := by rw [hr]; omega
    rw [e]
    have hrl := rankN_le p h
    (repeat (fail))
    exact ⟨_, .tmp rfl .nil, rfl, rfl⟩
  · obtain ⟨i, rfl⟩ : ∃ i : Nat, z = i := ⟨63 - p - j, by omega⟩
    have hij : 64 - p - j = i + 1 := by omega
    rw [hij] at hlo
    by_cases hb : h / 2 ^ i % 2 = 0
    · have hb2 : ((h / 2 ^ i % 2 : Nat) : Int) = 0 := by omega
      have hlo2 := rank_step0 (by omega) hlo hb
      (repeat (first
    | refine Ex.seq ok hm ?_
    | refine Ex.block ok hm ?_
    | refine Ex.skip ok hm ?_
    | refine Ex.region ok hm ?_
    | refine Sq.pu ok hm Want.none (by first
    | exact Pu.move rfl
    | exact Pu.assign rfl
    | exact Pu.shrN rfl rfl (by simp only [InR]; omega)
    | exact Pu.remN rfl rfl (by decide)
    | exact Pu.addN rfl rfl (by simp only [InR]; omega)
    | exact Pu.geqI rfl rfl
    | exact Pu.eqlI rfl rfl
    | exact Pu.pickT rfl (by rfl) rfl) rfl ?_
    | refine Sq.pu ok hm (by first
    | exact Want.none
    | exact Want.yes rfl rfl rfl (by rfl)) (by first
    | exact Pu.move rfl
    | exact Pu.shrN rfl rfl (by simp only [InR]; omega)
    | exact Pu.remN rfl rfl (by decide)
    | exact Pu.eqlI rfl rfl) rfl ?_
    | refine Sq.finH (n := 7) ok hm (by repeat (first
    | exact Keep.nil
    | apply Keep.drop rfl
    | apply Keep.keep rfl)) ?_
    | refine Ex.condT ok hm rfl (by first
    | rfl
    | exact decide_eq_true (by omega)) ?_))
      refine Sq.pu ok hm Want.none (Pu.sub (k := .i64) rfl rfl (by simp only [InR]; omega)) rfl ?_
      (repeat (first
    | refine Sq.pu ok hm Want.none (by exact Pu.assign rfl) rfl ?_
    | refine Sq.finH (n := 7) ok hm (by repeat (first
    | exact Keep.nil
    | apply Keep.drop rfl
    | apply Keep.keep rfl)) ?_))
      refine ⟨(j + 1, (i : Int) - 1), [(6, .int .i64 ((i : Int) - 1)), (5, .int .i64 ((j + 1 + 1 : Nat) : Int)), (0, .int .i64 (p : Int)), (1, .int .u64 (h : Int))], ?_, ⟨rfl, rfl, rfl, rfl, trivial⟩, rfl, by simp only; omega, by simp only; omega, ?_, rfl⟩
      · show 64 - p - (j + 1) < 64 - p - j
        omega
      · simp only
        rw [show 64 - p - (j + 1) = i by omega]; exact hlo2
    · have hr := rank_step1 (by omega) hlo hb
      have hb2 : ((h / 2 ^ i % 2 : Nat) : Int) ≠ 0 := by omega
      (repeat (first
    | refine Ex.seq ok hm ?_
    | refine Ex.region ok hm ?_
    | refine Sq.pu ok hm Want.none (by first
    | exact Pu.move rfl
    | exact Pu.assign rfl
    | exact Pu.shrN rfl rfl (by simp only [InR]; omega)
    | exact Pu.remN rfl rfl (by decide)
    | exact Pu.geqI rfl rfl
    | exact Pu.eqlI rfl rfl
    | exact Pu.pickT rfl (by rfl) rfl
    | exact Pu.convN hT rfl rfl rfl (by simp only [InR]; omega)) rfl ?_
    | refine Sq.pu ok hm (by exact Want.yes rfl rfl rfl (by rfl)) (by first
    | exact Pu.move rfl
    | exact Pu.shrN rfl rfl (by simp only [InR]; omega)
    | exact Pu.remN rfl rfl (by decide)
    | exact Pu.eqlI rfl rfl) rfl ?_
    | refine Sq.finH (n := 7) ok hm (by repeat (first
    | exact Keep.nil
    | apply Keep.drop rfl
    | apply Keep.keep rfl)) ?_
    | refine Ex.condF ok hm rfl (by first
    | rfl
    | exact decide_eq_false (by omega)) ?_
    | refine Ex.ret ok hm ?_
    | refine Ex.exit ok hm ?_))
      have e : ((j + 1 : Nat) : Int) = ((rankN p h : Nat) : Int) := by rw [hr]; omega
      rw [e]
      have hrl := rankN_le p h
      (repeat (fail))
      exact ⟨_, .tmp rfl .nil, rfl, rfl⟩
end Go.Proofs.Ytpglehckhnencaa
/- N -/
namespace Go.Proofs.Ytpglehckhnencaa
open Go.Wvm Sk
set_option linter.unusedVariables false
set_option linter.unusedSimpArgs false

/-- What Add answers. -/
noncomputable def addV (s : List UInt8) (h : Nat) : Value := match exE s with
  | some p => .tuple ⟨[strV (addS p s h), .int .i64 0]⟩
  | none => .tuple ⟨[strV [], .int .i64 4]⟩
theorem addV_some {p h : Nat} {s : List UInt8} (k : Okp p s) : addV s h = .tuple ⟨[strV (addS p s h), .int .i64 0]⟩ := by unfold addV; rw [exE_some k]
theorem addV_none {h : Nat} {s : List UInt8} (k : ∀ p, ¬ Okp p s) : addV s h = .tuple ⟨[strV [], .int .i64 4]⟩ := by unfold addV; rw [exE_none k]
theorem one_rk (p h : Nat) : (List.drop 0 [(.int .u8 ((rankN p h : Nat) : Int) : Value)]).take 1 = [rk p h].map fun b => .int .u8 ((b.toNat : Nat) : Int) := by
  show [_] = [(.int .u8 (((rk p h).toNat : Nat) : Int) : Value)]
  rw [rk_nat]

set_option maxHeartbeats 8000000 in
theorem Add_ok {ro : Nat} {M : AM} {s : List UInt8} {h : Nat} (hs : s.length ≤ 140737488355328) (hh : h < 18446744073709551616) :
    FnC Try.prog tables ro 7 [strV s, .int .u64 (h : Int)] M (fun v M' => v = addV s h ∧ Fr M M' []) := by
  refine FnC.body (nt := 51) ok hm fn7 rfl rfl ?_
  (repeat (first
    | refine Ex.seq ok hm ?_
    | refine Ex.region ok hm ?_
    | refine Sq.pu ok hm Want.none (by first
    | exact Pu.move rfl
    | exact Pu.assign rfl) rfl ?_
    | refine Sq.finH (n := 8) ok hm (by repeat (first
    | exact Keep.nil
    | apply Keep.keep rfl)) ?_))
  refine Sq.call ok Want.none (Op1.call rfl rfl fn13) rfl (FnC.mono (Exponent_ok (s := s) hs) ?_)
  rintro x M1 ⟨rfl, rfl⟩
  rcases exE_cases s with ⟨p, hp, _⟩ | ⟨hno, _⟩
  · rw [exV_some hp, addV_some hp]
    have hsz := hp.size
    have hpl := hp.2.1
    have hat := atN_lt (p := p) (h := h) (by omega) hh
    have hat2 : atN p h < s.length := by rw [hp.2.2.1]; exact hat
    have hpw := pow_p hp.1 hp.2.1
    have hr := own_rank (p := p) (h := h) hpl
    have hrl := rankN_le p h
    (repeat (first
    | refine Ex.seq ok hm ?_
    | refine Ex.skip ok hm ?_
    | refine Ex.region ok hm ?_
    | refine Sq.pu ok hm Want.none (by first
    | exact Pu.move rfl
    | exact Pu.assign rfl
    | exact Pu.extract rfl rfl
    | exact Pu.neqI rfl rfl) rfl ?_
    | refine Sq.finH (n := 8) ok hm (by repeat (first
    | exact Keep.nil
    | apply Keep.drop rfl
    | apply Keep.keep rfl)) ?_
    | refine Ex.condF ok hm rfl (by rfl) ?_))
    refine Sq.pu ok hm Want.none (Pu.subZ (k := .i64) (a := 64) (b := p) (64 - p) (by omega) (by simp only [InR]; omega) rfl rfl) rfl ?_
    refine Sq.pu ok hm Want.none (Pu.shrN (k := .u64) (a := h) (b := 64 - p) rfl rfl (by simp only [InR]; omega)) rfl ?_
    rw [show h / 2 ^ (64 - p) = atN p h from rfl]
    generalize hate : atN p h = a at hat hat2 ⊢
    (repeat (first
    | refine Ex.seq ok hm ?_
    | refine Ex.region ok hm ?_
    | refine Sq.pu ok hm Want.none (by first
    | exact Pu.move rfl
    | exact Pu.assign rfl
    | exact Pu.convN hT rfl rfl rfl (by simp only [InR]; omega)) rfl ?_
    | refine Sq.finH (n := 9) ok hm (by repeat (first
    | exact Keep.nil
    | apply Keep.drop rfl
    | apply Keep.keep rfl)) ?_))
    refine Sq.pu ok hm Want.none (Pu.shlM (a := h) (b := p) rfl rfl (by omega)) rfl ?_
    obtain ⟨y, hy⟩ : ∃ y, y = h * 2 ^ p % 18446744073709551616 := ⟨_, rfl⟩
    have hy2 : y < 18446744073709551616 := by rw [hy]; exact mod64 _
    rw [← hy] at hr ⊢
    refine Sq.call ok Want.none (Op1.call rfl rfl fn21) rfl (FnC.mono (LZ_ok (n := y) hy2) ?_)
    rintro x M2 ⟨rfl, rfl⟩
    refine Sq.pu ok hm Want.none (Pu.move rfl) rfl ?_
    refine Sq.pu ok hm Want.none (Pu.subZ (k := .i64) (a := 64) (b := p) (64 - p) (by omega) (by simp only [InR]; omega) rfl rfl) rfl ?_
    refine Sq.pu ok hm Want.none (Pu.min2 rfl rfl) rfl ?_
    rw [show min ((64 - len64 y : Nat) : Int) ((64 - p : Nat) : Int) = ((min (64 - len64 y) (64 - p) : Nat) : Int) by omega]
    refine Sq.pu ok hm Want.none (Pu.addN (k := .i64) (a := 1) (b := min (64 - len64 y) (64 - p)) rfl rfl (by simp only [InR]; omega)) rfl ?_
    rw [hr]
    by_cases hle : rankN p h ≤ (s.getD a 0).toNat
    · have hbyte := (s.getD a 0).toNat_lt
      rw [addS_same hp.2.2.1 (by omega) hh (by rw [hate]; exact hle)]
      generalize rankN p h = r at hle hrl ⊢
      (repeat (first
    | refine Ex.seq ok hm ?_
    | refine Ex.region ok hm ?_
    | refine Sq.pu ok hm Want.none (by first
    | exact Pu.move rfl
    | exact Pu.assign rfl
    | exact Pu.leqI rfl rfl
    | exact Pu.convN hT rfl rfl rfl (by simp only [InR]; omega)
    | exact Pu.indexSN hT rfl rfl rfl (by omega)) rfl ?_
    | refine Sq.finH (n := 10) ok hm (by repeat (first
    | exact Keep.nil
    | apply Keep.drop rfl
    | apply Keep.keep rfl)) ?_
    | refine Ex.condT ok hm rfl (by first
    | rfl
    | exact decide_eq_true (by omega)) ?_
    | refine Ex.ret ok hm ?_))
      exact ⟨_, .tmp rfl (.tmp rfl .nil), rfl, Fr.refl _ _⟩
    · have hbyte := (s.getD a 0).toNat_lt
      have hcut := addS_cut (p := p) (h := h) hp.2.2.1 (by omega) hh (by rw [hate]; omega)
      rw [hate] at hcut
      rw [hcut]
      have hone := one_rk p h
      have hrkl : ([rk p h] : List UInt8).length = 1 := rfl
      generalize rk p h = rb at hone hrkl ⊢
      generalize rankN p h = r at hle hrl hone ⊢
      (repeat (first
    | refine Ex.seq ok hm ?_
    | refine Ex.skip ok hm ?_
    | refine Ex.region ok hm ?_
    | refine Sq.pu ok hm Want.none (by first
    | exact Pu.move rfl
    | exact Pu.assign rfl
    | exact Pu.leqI rfl rfl
    | exact Pu.convN hT rfl rfl rfl (by simp only [InR]; omega)
    | exact Pu.indexSN hT rfl rfl rfl (by omega)) rfl ?_
    | refine Sq.finH (n := 10) ok hm (by repeat (first
    | exact Keep.nil
    | apply Keep.drop rfl
    | apply Keep.keep rfl)) ?_
    | refine Ex.condF ok hm rfl (by first
    | rfl
    | exact decide_eq_false (by omega)) ?_))
      refine Ex.grow ok hm 15 rfl (by kernel_rfl) fun V0 hV0 hA => ?_
      refine Kq.pure (j := 0) (by kernel_rfl) rfl Want.none (fun N => Pu.move rfl) rfl rfl ?_
      refine Kq.pure (j := 1) (by kernel_rfl) rfl Want.none (fun N => Pu.move rfl) rfl rfl ?_
      refine Kq.pure (j := 2) (by kernel_rfl) rfl Want.none (fun N => Pu.sliceHi (b := a) hT (by omega) rfl rfl rfl) rfl rfl ?_
      refine Kq.pure (j := 3) (by kernel_rfl) rfl Want.none (fun N => Pu.move rfl) rfl rfl ?_
      refine Kq.pure (j := 4) (by kernel_rfl) rfl Want.none (fun N => Pu.convN (n := (r : Int)) hT rfl rfl rfl (by simp only [InR]; omega)) rfl rfl ?_
      refine Kq.pure (j := 8) (by kernel_rfl) rfl Want.none (fun N => Pu.move rfl) rfl rfl ?_
      refine Kq.pure (j := 9) (by kernel_rfl) rfl Want.none (fun N => Pu.move rfl) rfl rfl ?_
      refine Kq.pure (j := 10) (by kernel_rfl) rfl Want.none (fun N => Pu.addN (k := .i64) (a := a) (b := 1) rfl rfl (by simp only [InR]; omega)) rfl rfl ?_
      refine Kq.pure (j := 11) (by kernel_rfl) rfl Want.none (fun N => Pu.sliceLo (a := a + 1) hT (by omega) rfl rfl rfl) rfl rfl ?_
      refine Kq.op (j := 5) (by kernel_rfl) rfl Want.none (Op1.buildSlice hT rfl rfl rfl rfl rfl rfl rfl) rfl ?_
      refine Kq.pu (j := 6) (by kernel_rfl) rfl Want.none (Pu.convB (bs := [rb]) hT rfl rfl rfl rfl AM.add_same hone (Nat.le_refl 1)) rfl ?_
      refine Kq.pu (j := 7) (by kernel_rfl) rfl Want.none (Pu.catS rfl rfl (by rw [List.length_take]; simp only [List.length_cons, List.length_nil]; omega)) rfl ?_
      refine Kq.pu (j := 12) (by kernel_rfl) rfl Want.none (Pu.catS rfl rfl (by rw [List.length_append, List.length_take, List.length_drop]; simp only [List.length_cons, List.length_nil]; omega)) rfl ?_
      refine Kq.pu (j := 13) (by kernel_rfl) rfl Want.none (Pu.assign rfl) rfl ?_
      refine Kq.pu (j := 14) (by kernel_rfl) rfl Want.none (Pu.assign rfl) rfl ?_
      refine Kq.fin (N := 8) (by kernel_rfl) (by repeat (first
    | exact Keep.nil
    | apply Keep.drop rfl
    | apply Keep.keep rfl)) ⟨rfl, ?_⟩
      (repeat (refine Ex.ret ok hm ?_))
      exact ⟨_, .tmp rfl (.tmp rfl .nil), rfl, Fr.add _ _ _⟩
  · rw [exV_none hno, addV_none hno]
    (repeat (first
    | refine Ex.seq ok hm ?_
    | refine Ex.region ok hm ?_
    | refine Sq.pu ok hm Want.none (by first
    | exact Pu.move rfl
    | exact Pu.assign rfl
    | exact Pu.extract rfl rfl
    | exact Pu.neqI rfl rfl) rfl ?_
    | refine Sq.finH (n := 8) ok hm (by repeat (first
    | exact Keep.nil
    | apply Keep.drop rfl
    | apply Keep.keep rfl)) ?_
    | refine Ex.condT ok hm rfl (by rfl) ?_
    | refine Ex.ret ok hm ?_))
    exact ⟨_, .tmp rfl (.tmp rfl .nil), rfl, Fr.refl _ _⟩

abbrev byV (b : UInt8) : Value := .int .u8 ((b.toNat : Nat) : Int)
theorem mxV (a b : UInt8) : max ((a.toNat : Nat) : Int) ((b.toNat : Nat) : Int) = (((mx a b).toNat : Nat) : Int) := by rw [mx_nat]; omega
theorem row_set (s : List UInt8) (a : Nat) (v : UInt8) : setAt (s.map byV) a [byV v] = (s.set a v).map byV := by
  show (s.map byV).set a (byV v) = _
  rw [List.map_set]
theorem row_get (s : List UInt8) (a : Nat) (h : a < s.length) : (s.map byV)[a]? = some (byV (s.getD a 0)) := by
  rw [List.getElem?_map, List.getElem?_eq_getElem h, List.getD_eq_getElem?_getD, List.getElem?_eq_getElem h]; rfl
theorem row_take (s : List UInt8) : ((s.map byV).drop 0).take s.length = s.map fun b => .int .u8 ((b.toNat : Nat) : Int) := by
  rw [List.drop_zero, List.take_of_length_le (by simp)]

set_option maxHeartbeats 8000000 in
theorem RAdd_ok {ro : Nat} {M : AM} {s : List UInt8} {h : Nat} (hs : s.length ≤ 140737488355328) (hh : h < 18446744073709551616) :
    FnC Try.prog tables ro 8 [strV s, .int .u64 (h : Int)] M (fun v M' => v = addV s h ∧ Fr M M' []) := by
  refine FnC.body (nt := 37) ok hm fn8 rfl rfl ?_
  refine Ex.facts fun hlt hron => ?_
  (repeat (first
    | refine Ex.seq ok hm ?_
    | refine Ex.region ok hm ?_
    | refine Sq.pu ok hm Want.none (by first
    | exact Pu.move rfl
    | exact Pu.assign rfl) rfl ?_
    | refine Sq.finH (n := 8) ok hm (by repeat (first
    | exact Keep.nil
    | apply Keep.keep rfl)) ?_))
  refine Sq.call ok Want.none (Op1.call rfl rfl fn14) rfl (FnC.mono (RExponent_ok (s := s) hs) ?_)
  rintro x M1 ⟨rfl, rfl⟩
  rcases exE_cases s with ⟨p, hp, _⟩ | ⟨hno, _⟩
  · rw [exV_some hp, addV_some hp]
    have hsz := hp.size
    have hpl := hp.2.1
    have hat := atN_lt (p := p) (h := h) (by omega) hh
    have hat2 : atN p h < s.length := by rw [hp.2.2.1]; exact hat
    have hrl := rankN_le p h
    have hset : addS p s h = s.set (atN p h) (mx (s.getD (atN p h) 0) (rk p h)) := rfl
    (repeat (first
    | refine Ex.seq ok hm ?_
    | refine Ex.skip ok hm ?_
    | refine Ex.region ok hm ?_
    | refine Sq.pu ok hm Want.none (by first
    | exact Pu.move rfl
    | exact Pu.assign rfl
    | exact Pu.extract rfl rfl
    | exact Pu.neqI rfl rfl) rfl ?_
    | refine Sq.finH (n := 8) ok hm (by repeat (first
    | exact Keep.nil
    | apply Keep.drop rfl
    | apply Keep.keep rfl)) ?_
    | refine Ex.condF ok hm rfl (by rfl) ?_))
    refine Sq.op ok hm Want.none (Op1.bytes hT rfl rfl rfl rfl) rfl ?_
    have hrow : (M1.add (.row (s.map byV) 1 none)).get M1.next = some (.row (s.map byV) 1 none) := AM.add_same
    have hF : Fr M1 (M1.add (.row (s.map byV) 1 none)) [] := Fr.add _ _ _
    show Sq Try.prog tables ro ⟨8, 37⟩ _ _ _ (M1.add (.row (s.map byV) 1 none)) _
    generalize M1.add (.row (s.map byV) 1 none) = M2 at hrow hF ⊢
    obtain ⟨q, hq⟩ : ∃ q, q = M1.next := ⟨_, rfl⟩
    rw [← hq] at hrow ⊢
    (repeat (first
    | refine Ex.seq ok hm ?_
    | refine Ex.region ok hm ?_
    | refine Sq.pu ok hm Want.none (by first
    | exact Pu.move rfl
    | exact Pu.assign rfl) rfl ?_
    | refine Sq.finH (n := 9) ok hm (by repeat (first
    | exact Keep.nil
    | apply Keep.drop rfl
    | apply Keep.keep rfl)) ?_))
    refine Sq.pu ok hm Want.none (Pu.subZ (k := .i64) (a := 64) (b := p) (64 - p) (by omega) (by simp only [InR]; omega) rfl rfl) rfl ?_
    refine Sq.pu ok hm Want.none (Pu.shrN (k := .u64) (a := h) (b := 64 - p) rfl rfl (by simp only [InR]; omega)) rfl ?_
    rw [show h / 2 ^ (64 - p) = atN p h from rfl]
    generalize hate : atN p h = a at hat hat2 hset ⊢
    have hget : (s.map byV)[0 + ((a : Nat) : Int).toNat * 1]? = some (byV (s.getD a 0)) := by
      rw [show 0 + ((a : Nat) : Int).toNat * 1 = a by omega]; exact row_get s a hat2
    (repeat (first
    | refine Ex.seq ok hm ?_
    | refine Sq.pu ok hm Want.none (by exact Pu.assign rfl) rfl ?_
    | refine Sq.finH (n := 10) ok hm (by repeat (first
    | exact Keep.nil
    | apply Keep.drop rfl
    | apply Keep.keep rfl)) ?_))
    refine Ex.draw ok hm 10 (by kernel_rfl) ?_
    (repeat (refine Hq.pu Want.none (by first
    | exact Pu.move rfl
    | exact Pu.indexAddr hT rfl rfl rfl rfl (by omega) (by omega)) rfl rfl rfl ?_))
    refine Hq.pu Want.none (Pu.load hT rfl rfl rfl hrow hget) rfl rfl rfl ?_
    (repeat (refine Hq.pu Want.none (by exact Pu.move rfl) rfl rfl rfl ?_))
    refine Hq.call ok Want.none (fun ro => Op1.call rfl rfl fn22) rfl rfl (FnC.mono (Rank_ok (p := p) (h := h) hpl hh) ?_)
    rintro x M3 ⟨rfl, rfl⟩
    refine ⟨rfl, ?_⟩
    refine Hq.pu Want.none (Pu.max2 rfl rfl) rfl rfl rfl ?_
    rw [← rk_nat (p := p) (h := h), mxV]
    refine Hq.nil ?_
    refine Tq.pu Want.none (Pu.indexAddr hT rfl rfl rfl rfl (by omega) (by omega)) rfl ?_
    refine Tq.act Want.none (Op1.store hT rfl rfl rfl rfl hrow (by omega) (Nat.zero_le _) (by show 0 + ((a : Nat) : Int).toNat * 1 + 1 ≤ (s.map byV).length; rw [List.length_map]; omega) rfl) ?_
    show Tq Try.prog tables ro ⟨8, 37⟩ _ _ _ (M3.upd q (.row (setAt (s.map byV) (0 + ((a : Nat) : Int).toNat * 1) [byV (mx (s.getD a 0) (rk p h))]) 1 none)) _
    rw [show 0 + ((a : Nat) : Int).toNat * 1 = a by omega, row_set, ← hset]
    have hF2 : Fr M1 (M3.upd q (.row ((addS p s h).map byV) 1 none)) [] := hF.upd' _ (.inr (by omega))
    have hrow2 : (M3.upd q (.row ((addS p s h).map byV) 1 none)).get q = some (.row ((addS p s h).map byV) 1 none) := AM.upd_same
    have hal : (addS p s h).length = s.length := addS_length p s h
    generalize M3.upd q (.row ((addS p s h).map byV) 1 none) = M4 at hF2 hrow2 ⊢
    (repeat (first
    | refine Ex.seq ok hm ?_
    | refine Ex.region ok hm ?_
    | refine Sq.pu ok hm Want.none (by exact Pu.move rfl) rfl ?_
    | refine Tq.finH (n := 10)  (by repeat (first
    | exact Keep.nil
    | apply Keep.drop rfl
    | apply Keep.keep rfl)) ?_))
    refine Sq.pu ok hm Want.none (Pu.convB (bs := addS p s h) hT rfl rfl rfl rfl hrow2 (by rw [← hal]; exact row_take _) (by rw [List.length_map, hal]; omega)) rfl ?_
    (repeat (first
    | refine Sq.pu ok hm Want.none (by exact Pu.assign rfl) rfl ?_
    | refine Sq.finH (n := 10) ok hm (by repeat (first
    | exact Keep.nil
    | apply Keep.drop rfl
    | apply Keep.keep rfl)) ?_
    | refine Ex.ret ok hm ?_))
    exact ⟨_, .tmp rfl (.tmp rfl .nil), rfl, hF2⟩
  · rw [exV_none hno, addV_none hno]
    (repeat (first
    | refine Ex.seq ok hm ?_
    | refine Ex.region ok hm ?_
    | refine Sq.pu ok hm Want.none (by first
    | exact Pu.move rfl
    | exact Pu.assign rfl
    | exact Pu.extract rfl rfl
    | exact Pu.neqI rfl rfl) rfl ?_
    | refine Sq.finH (n := 8) ok hm (by repeat (first
    | exact Keep.nil
    | apply Keep.drop rfl
    | apply Keep.keep rfl)) ?_
    | refine Ex.condT ok hm rfl (by rfl) ?_
    | refine Ex.ret ok hm ?_))
    exact ⟨_, .tmp rfl (.tmp rfl .nil), rfl, Fr.refl _ _⟩
end Go.Proofs.Ytpglehckhnencaa
/- N -/
namespace Go.Proofs.Ytpglehckhnencaa
open Go.Wvm Sk
set_option linter.unusedVariables false
set_option linter.unusedSimpArgs false

/-- What Union answers. -/
noncomputable def uniV (s t : List UInt8) : Value := match exE s, exE t with
  | some p, some q => if p = q then .tuple ⟨[strV (uniS s t), .int .i64 0]⟩ else .tuple ⟨[strV [], .int .i64 1]⟩
  | _, _ => .tuple ⟨[strV [], .int .i64 4]⟩
theorem uniV_same {p : Nat} {s t : List UInt8} (h : Okp p s) (k : Okp p t) : uniV s t = .tuple ⟨[strV (uniS s t), .int .i64 0]⟩ := by unfold uniV; rw [exE_some h, exE_some k]; exact if_pos rfl
theorem uniV_other {p q : Nat} {s t : List UInt8} (h : Okp p s) (k : Okp q t) (n : p ≠ q) : uniV s t = .tuple ⟨[strV [], .int .i64 1]⟩ := by unfold uniV; rw [exE_some h, exE_some k]; exact if_neg n
theorem uniV_none {s t : List UInt8} (h : (∀ p, ¬ Okp p s) ∨ (∀ p, ¬ Okp p t)) : uniV s t = .tuple ⟨[strV [], .int .i64 4]⟩ := by
  unfold uniV
  rcases h with h | h
  · rw [exE_none h]
  · rw [exE_none h]; cases exE s <;> rfl

abbrev byW (b : UInt8) : Value := .int .u8 ((b.toNat : Nat) : Int)
theorem mxW (a b : UInt8) : max ((a.toNat : Nat) : Int) ((b.toNat : Nat) : Int) = (((mx a b).toNat : Nat) : Int) := by rw [mx_nat]; omega
theorem uni_take {s t : List UInt8} (h : s.length = t.length) (i : Nat) (hi : i < s.length) : (uniS s t).take (i + 1) = (uniS s t).take i ++ [mx (s.getD i 0) (t.getD i 0)] := by
  have hl : i < (uniS s t).length := by rw [uniS_length h]; exact hi
  rw [List.take_succ_eq_append_getElem hl]
  have := uniS_getD h i
  rw [List.getD_eq_getElem?_getD, List.getElem?_eq_getElem hl] at this
  simp only [Option.getD_some] at this
  rw [this]

theorem row_app (l : List UInt8) (v : UInt8) (n : Nat) (h : l.length < n) : setAt (l.map byW ++ List.replicate (n - l.length) (.int .u8 0 : Value)) (0 + l.length * 1) [byW v] = (l ++ [v]).map byW ++ List.replicate (n - (l ++ [v]).length) (.int .u8 0 : Value) := by
  show (l.map byW ++ List.replicate (n - l.length) (.int .u8 0 : Value)).set (0 + l.length * 1) (byW v) = _
  rw [show 0 + l.length * 1 = l.length by omega, List.set_append_right _ _ (by rw [List.length_map]; exact Nat.le_refl _), List.length_map, Nat.sub_self]
  obtain ⟨k, hk⟩ : ∃ k, n - l.length = k + 1 := ⟨n - l.length - 1, by omega⟩
  rw [hk, List.replicate_succ, List.set_cons_zero, List.map_append, List.append_assoc, List.length_append, show n - (l.length + [v].length) = k by simp only [List.length_cons, List.length_nil]; omega]
  rfl
/-- One more register: the list that the closure appends to stands in the cell a, in a block with room for all. -/
theorem each_ok {ro a q i n : Nat} {x y : UInt8} {l : List UInt8} {M : AM} (hra : ro ≤ a) (hrq : ro ≤ q) (hne : a ≠ q) (ha : M.get a = some (.row [.slice (some ⟨q, 0, none⟩) l.length n] 0 (some (42, 0)))) (hq : M.get q = some (.row (l.map byW ++ List.replicate (n - l.length) (.int .u8 0)) 1 (some (5, 0)))) (hl : l.length < n) (hn : n ≤ 65536) :
    FnC Try.prog tables ro 24 [byW x, byW y, .pointer (some ⟨a, 0, none⟩)] M (fun _ M' => M'.get a = some (.row [.slice (some ⟨q, 0, none⟩) (l ++ [mx x y]).length n] 0 (some (42, 0))) ∧ M'.get q = some (.row ((l ++ [mx x y]).map byW ++ List.replicate (n - (l ++ [mx x y]).length) (.int .u8 0)) 1 (some (5, 0))) ∧ Fr M M' [a, q]) := by
  refine FnC.body (nt := 11) ok hm fn24 rfl rfl ?_
  refine Ex.facts fun hlt hron => ?_
  have hal := hlt _ _ ha
  have hql := hlt _ _ hq
  (repeat (first
    | refine Ex.region ok hm ?_
    | refine Sq.pu ok hm Want.none (by first
    | exact Pu.move rfl
    | (apply Pu.load hT rfl rfl rfl; (focus ((repeat (assumption)))); (focus rfl))
    | exact Pu.max2 rfl rfl) rfl ?_
    | refine Sq.op ok hm Want.none (Op1.buildSlice hT rfl rfl rfl rfl rfl rfl rfl) rfl ?_))
  rw [mxW]
  have hr : (M.add (.row [byW (mx x y)] 1 (some (5, 0)))).get M.next = some (.row [byW (mx x y)] 1 (some (5, 0))) := AM.add_same
  have ha2 : (M.add (.row [byW (mx x y)] 1 (some (5, 0)))).get a = _ := (AM.add_ne (Nat.ne_of_lt hal)).trans ha
  have hq2 : (M.add (.row [byW (mx x y)] 1 (some (5, 0)))).get q = _ := (AM.add_ne (Nat.ne_of_lt hql)).trans hq
  have hF : Fr M (M.add (.row [byW (mx x y)] 1 (some (5, 0)))) [a, q] := Fr.add _ _ _
  show Sq Try.prog tables ro ⟨24, 11⟩ _ _ _ (M.add (.row [byW (mx x y)] 1 (some (5, 0)))) _
  generalize M.add (.row [byW (mx x y)] 1 (some (5, 0))) = M1 at hr ha2 hq2 hF ⊢
  have hsrc := Src.slice (size := 1) (o := 0) (n := 1) (c := 1) hr (Nat.le_refl _)
  refine Sq.op ok hm Want.none (Op1.appendFits (n := 1) hT rfl rfl hq2 hrq (Nat.zero_le _) ?_ (by omega) rfl rfl rfl rfl hsrc rfl rfl) rfl ?_
  · show 0 + l.length * 1 + 1 ≤ (l.map byW ++ List.replicate (n - l.length) (.int .u8 0 : Value)).length
    rw [List.length_append, List.length_map, List.length_replicate]; omega
  show Sq Try.prog tables ro ⟨24, 11⟩ _ _ ((10, .slice (some ⟨q, 0, none⟩) (l.length + 1) n) :: _) (M1.upd q (.row (setAt (l.map byW ++ List.replicate (n - l.length) (.int .u8 0 : Value)) (0 + l.length * 1) [byW (mx x y)]) 1 (some (5, 0)))) _
  rw [row_app l (mx x y) n hl]
  have ha3 : (M1.upd q (.row ((l ++ [mx x y]).map byW ++ List.replicate (n - (l ++ [mx x y]).length) (.int .u8 0)) 1 (some (5, 0)))).get a = _ := (AM.upd_ne hne).trans ha2
  (repeat (fail))
  refine Sq.act ok hm Want.none (Op1.store hT rfl rfl rfl rfl ha3 hra (Nat.le_of_ble_eq_true rfl) (Nat.le_of_ble_eq_true rfl) rfl) ?_
  (repeat (refine Sq.finH (n := 12) ok hm (by repeat (first
    | exact Keep.nil
    | apply Keep.keep rfl)) ?_))
  refine ⟨_, .nil, ?_, (AM.upd_ne (Ne.symm hne)).trans AM.upd_same, (hF.upd' _ (.inl (by simp))).upd' _ (.inl (by simp))⟩
  rw [show (l ++ [mx x y]).length = l.length + 1 from List.length_append]
  exact AM.upd_same

abbrev boE (s t : List UInt8) (a i : Nat) : En := [(0, strV s), (1, strV t), (2, .func (.func 24) ⟨[]⟩ ⟨[.pointer (some ⟨a, 0, none⟩)]⟩), (8, .int .i64 (s.length : Int)), (9, .int .i64 (i : Int))]
/-- The room of a list that is being written. -/
def Room (M : AM) (a q n : Nat) (l : List UInt8) : Prop := M.get a = some (.row [.slice (some ⟨q, 0, none⟩) l.length n] 0 (some (42, 0))) ∧ M.get q = some (.row (l.map byW ++ List.replicate (n - l.length) (.int .u8 0)) 1 (some (5, 0)))
set_option maxHeartbeats 8000000 in
theorem both_ok {ro a q : Nat} {s t : List UInt8} {M : AM} (hra : ro ≤ a) (hrq : ro ≤ q) (hne : a ≠ q) (h : Room M a q s.length []) (hst : s.length = t.length) (hs : s.length ≤ 65536) :
    FnC Try.prog tables ro 23 [strV s, strV t, .func (.func 24) ⟨[]⟩ ⟨[.pointer (some ⟨a, 0, none⟩)]⟩] M (fun _ M' => Room M' a q s.length (uniS s t) ∧ Fr M M' [a, q]) := by
  refine FnC.body (nt := 21) ok hm fn23 rfl rfl ?_
  (repeat (first
    | refine Ex.seq ok hm ?_
    | refine Ex.block ok hm ?_
    | refine Ex.region ok hm ?_
    | refine Sq.pu ok hm Want.none (by first
    | exact Pu.move rfl
    | exact Pu.lenS hT rfl rfl) rfl ?_
    | refine Sq.finH (n := 10) ok hm (by repeat (first
    | exact Keep.nil
    | apply Keep.keep rfl)) ?_))
  refine Ex.loop ?_
  refine Lp.inv ok hm (α := Nat)
    (fun i E M' => E = boE s t a i ∧ i ≤ s.length ∧ Room M' a q s.length ((uniS s t).take i) ∧ Fr M M' [a, q])
    (fun i => s.length - i) ?_ 0 (boE s t a 0) ⟨rfl, rfl, rfl, rfl, rfl, trivial⟩ ⟨rfl, Nat.zero_le _, h, Fr.refl _ _⟩
  intro i E M1 ⟨hE, hi, hR, hF⟩
  subst hE
  have hul : (uniS s t).length = s.length := uniS_length hst
  by_cases hil : i < s.length
  · have hl : ((uniS s t).take i).length = i := by rw [List.length_take]; omega
    (repeat (first
    | refine Ex.seq ok hm ?_
    | refine Ex.block ok hm ?_
    | refine Ex.skip ok hm ?_
    | refine Ex.region ok hm ?_
    | refine Sq.pu ok hm Want.none (by first
    | exact Pu.move rfl
    | exact Pu.assign rfl
    | exact Pu.lssI rfl rfl) rfl ?_
    | refine Sq.finH (n := 10) ok hm (by repeat (first
    | exact Keep.nil
    | apply Keep.drop rfl
    | apply Keep.keep rfl)) ?_
    | refine Ex.condT ok hm rfl (by first
    | rfl
    | exact decide_eq_true (by omega)) ?_))
    refine Ex.draw ok hm 7 (by kernel_rfl) ?_
    (repeat (first
    | refine Hq.pu Want.none (by first
    | exact Pu.move rfl
    | exact Pu.indexSN hT rfl rfl rfl (by omega)) rfl rfl rfl ?_
    | refine Hq.nil ?_))
    refine Tq.call Want.none (Op1.call rfl rfl fn24) rfl (FnC.mono (each_ok (i := i) (x := s.getD i 0) (y := t.getD i 0) hra hrq hne hR.1 hR.2 (by rw [hl]; exact hil) hs) ?_)
    rintro x M2 ⟨h1, h2, hF2⟩
    rw [← uni_take hst i hil] at h1 h2
    (repeat (first
    | refine Ex.region ok hm ?_
    | refine Sq.pu ok hm Want.none (by first
    | exact Pu.move rfl
    | exact Pu.addN rfl rfl (by simp only [InR]; omega)) rfl ?_
    | refine Sq.finH (n := 10) ok hm (by repeat (first
    | exact Keep.nil
    | apply Keep.drop rfl
    | apply Keep.keep rfl)) ?_
    | refine Tq.finH (n := 10)  (by repeat (first
    | exact Keep.nil
    | apply Keep.drop rfl
    | apply Keep.keep rfl)) ?_))
    refine ⟨i + 1, boE s t a (i + 1), ?_, ⟨rfl, rfl, rfl, rfl, rfl, trivial⟩, rfl, hil, ⟨h1, h2⟩, hF.trans hF2 (fun x hx => .inl hx)⟩
    show s.length - (i + 1) < s.length - i
    omega
  · obtain rfl : i = s.length := by omega
    rw [← hul, List.take_length] at hR
    (repeat (first
    | refine Ex.seq ok hm ?_
    | refine Ex.region ok hm ?_
    | refine Sq.pu ok hm Want.none (by exact Pu.lssI rfl rfl) rfl ?_
    | refine Sq.finH (n := 10) ok hm (by repeat (first
    | exact Keep.nil
    | apply Keep.keep rfl)) ?_
    | refine Ex.condF ok hm rfl (by first
    | rfl
    | exact decide_eq_false (by omega)) ?_
    | refine Ex.exit ok hm ?_))
    rw [hul] at hR
    exact ⟨_, .nil, hR, hF⟩

set_option maxHeartbeats 8000000 in
theorem Union_ok {ro : Nat} {M : AM} {s t : List UInt8} (hs : s.length ≤ 140737488355328) (ht : t.length ≤ 140737488355328) :
    FnC Try.prog tables ro 9 [strV s, strV t] M (fun v M' => v = uniV s t ∧ Fr M M' []) := by
  refine FnC.body (nt := 39) ok hm fn9 rfl rfl ?_
  refine Ex.facts fun hlt hron => ?_
  (repeat (first
    | refine Ex.seq ok hm ?_
    | refine Ex.region ok hm ?_
    | refine Sq.pu ok hm Want.none (by first
    | exact Pu.move rfl
    | exact Pu.assign rfl) rfl ?_
    | refine Sq.finH (n := 10) ok hm (by repeat (first
    | exact Keep.nil
    | apply Keep.keep rfl)) ?_))
  refine Sq.call ok Want.none (Op1.call rfl rfl fn13) rfl (FnC.mono (Exponent_ok (s := s) hs) ?_)
  rintro x M1 ⟨rfl, rfl⟩
  rcases exE_cases s with ⟨p, hp, _⟩ | ⟨hno, _⟩
  · rw [exV_some hp]
    (repeat (first
    | refine Ex.seq ok hm ?_
    | refine Ex.region ok hm ?_
    | refine Sq.pu ok hm Want.none (by first
    | exact Pu.move rfl
    | exact Pu.assign rfl
    | exact Pu.extract rfl rfl) rfl ?_
    | refine Sq.finH (n := 10) ok hm (by repeat (first
    | exact Keep.nil
    | apply Keep.drop rfl
    | apply Keep.keep rfl)) ?_))
    refine Sq.call ok Want.none (Op1.call rfl rfl fn13) rfl (FnC.mono (Exponent_ok (s := t) ht) ?_)
    rintro x M2 ⟨rfl, rfl⟩
    rcases exE_cases t with ⟨q, hq, _⟩ | ⟨hno, _⟩
    · rw [exV_some hq]
      by_cases hpq : p = q
      · subst hpq
        rw [uniV_same hp hq]
        have hsz := hp.size
        have hst : s.length = t.length := hp.2.2.1.trans hq.2.2.1.symm
        have hul := uniS_length hst
        (repeat (first
    | refine Ex.seq ok hm ?_
    | refine Ex.skip ok hm ?_
    | refine Ex.region ok hm ?_
    | refine Sq.pu ok hm Want.none (by first
    | exact Pu.move rfl
    | exact Pu.assign rfl
    | exact Pu.extract rfl rfl
    | exact Pu.neqI rfl rfl
    | exact Pu.lenS hT rfl rfl
    | exact Pu.pickF rfl (by rfl) rfl) rfl ?_
    | refine Sq.pu ok hm (by first
    | exact Want.none
    | exact Want.yes rfl rfl rfl (by rfl)) (by first
    | exact Pu.move rfl
    | exact Pu.neqI rfl rfl) rfl ?_
    | refine Sq.finH (n := 11) ok hm (by repeat (first
    | exact Keep.nil
    | apply Keep.drop rfl
    | apply Keep.keep rfl)) ?_
    | refine Ex.condF ok hm rfl (by first
    | rfl
    | (simp; done) | omega) ?_))
        refine Sq.op ok hm Want.none (Op1.makeSlice (k := .i64) (k' := .i64) (a := 0) (b := (s.length : Int)) hT rfl rfl rfl rfl rfl rfl rfl (by omega) (by omega) (by omega) rfl) rfl ?_
        refine Sq.op ok hm Want.none (Op1.alloc hT rfl rfl rfl) rfl ?_
        refine Sq.act ok hm Want.none (Op1.store hT rfl rfl rfl rfl AM.add_same (by simp only [AM.next_add]; omega) (Nat.le_of_ble_eq_true rfl) (Nat.le_of_ble_eq_true rfl) rfl) ?_
        rw [AM.add_upd]
        have hR : Room ((M2.add (.row (List.replicate s.length (.int .u8 0)) 1 (some (5, 0)))).add (.row [.slice (some ⟨M2.next, 0, none⟩) 0 s.length] 0 (some (42, 0)))) (M2.next + 1) M2.next s.length [] :=
          ⟨AM.add_same, (AM.add_ne (by simp only [AM.next_add]; omega)).trans AM.add_same⟩
        have hF : Fr M2 ((M2.add (.row (List.replicate s.length (.int .u8 0)) 1 (some (5, 0)))).add (.row [.slice (some ⟨M2.next, 0, none⟩) 0 s.length] 0 (some (42, 0)))) [] := (Fr.add _ _ _).add' _
        show Sq Try.prog tables ro ⟨9, 39⟩ _ _ ((10, .pointer (some ⟨M2.next + 1, 0, none⟩)) :: _) ((M2.add (.row (List.replicate s.length (.int .u8 0)) 1 (some (5, 0)))).add (.row [.slice (some ⟨M2.next, 0, none⟩) 0 s.length] 0 (some (42, 0)))) _
        generalize (M2.add (.row (List.replicate s.length (.int .u8 0)) 1 (some (5, 0)))).add (.row [.slice (some ⟨M2.next, 0, none⟩) 0 s.length] 0 (some (42, 0))) = M3 at hR hF ⊢
        obtain ⟨b, hb⟩ : ∃ b, b = M2.next := ⟨_, rfl⟩
        rw [← hb] at hR ⊢
        (repeat (first
    | refine Ex.seq ok hm ?_
    | refine Ex.region ok hm ?_
    | refine Sq.pu ok hm Want.none (by first
    | exact Pu.move rfl
    | exact Pu.makeFunc rfl rfl) rfl ?_
    | refine Sq.finH (n := 11) ok hm (by repeat (first
    | exact Keep.nil
    | apply Keep.drop rfl
    | apply Keep.keep rfl)) ?_))
        refine Sq.call ok Want.none (Op1.call rfl rfl fn23) rfl (FnC.mono (both_ok (s := s) (t := t) (by omega) (by omega) (by omega) hR hst (by omega)) ?_)
        rintro x M4 ⟨hR4, hF4⟩
        have hcell := hR4.1
        have hrow := hR4.2
        rw [hul, Nat.sub_self, List.replicate_zero, List.append_nil] at hrow
        rw [hul] at hcell
        (repeat (first
    | refine Ex.seq ok hm ?_
    | refine Ex.region ok hm ?_
    | refine Sq.pu ok hm Want.none (by (apply Pu.load hT rfl rfl rfl; (focus ((repeat (assumption)))); (focus rfl))) rfl ?_
    | refine Sq.finH (n := 11) ok hm (by repeat (first
    | exact Keep.nil
    | apply Keep.drop rfl
    | apply Keep.keep rfl)) ?_))
        refine Sq.pu ok hm Want.none (Pu.convB (bs := uniS s t) hT rfl rfl rfl rfl hrow (by rw [List.drop_zero, List.take_of_length_le (by rw [List.length_map, hul]; omega)]) (by rw [List.length_map, hul]; omega)) rfl ?_
        (repeat (first
    | refine Sq.pu ok hm Want.none (by exact Pu.assign rfl) rfl ?_
    | refine Sq.finH (n := 11) ok hm (by repeat (first
    | exact Keep.nil
    | apply Keep.drop rfl
    | apply Keep.keep rfl)) ?_
    | refine Ex.ret ok hm ?_))
        exact ⟨_, .tmp rfl (.tmp rfl .nil), rfl, hF.trans hF4 (fun x hx => by simp at hx; right; omega)⟩
      · rw [uniV_other hp hq hpq]
        (repeat (first
    | refine Ex.seq ok hm ?_
    | refine Ex.skip ok hm ?_
    | refine Ex.region ok hm ?_
    | refine Sq.pu ok hm Want.none (by first
    | exact Pu.move rfl
    | exact Pu.assign rfl
    | exact Pu.extract rfl rfl
    | exact Pu.neqI rfl rfl
    | exact Pu.pickF rfl (by rfl) rfl) rfl ?_
    | refine Sq.pu ok hm (by exact Want.yes rfl rfl rfl (by rfl)) (by first
    | exact Pu.move rfl
    | exact Pu.neqI rfl rfl) rfl ?_
    | refine Sq.finH (n := 10) ok hm (by repeat (first
    | exact Keep.nil
    | apply Keep.drop rfl
    | apply Keep.keep rfl)) ?_
    | refine Ex.condT ok hm rfl (by first
    | rfl
    | (simp; omega)) ?_
    | refine Ex.condF ok hm rfl (by rfl) ?_
    | refine Ex.ret ok hm ?_))
        exact ⟨_, .tmp rfl (.tmp rfl .nil), rfl, Fr.refl _ _⟩
    · rw [exV_none hno, uniV_none (.inr hno)]
      (repeat (first
    | refine Ex.seq ok hm ?_
    | refine Ex.region ok hm ?_
    | refine Sq.pu ok hm Want.none (by first
    | exact Pu.move rfl
    | exact Pu.assign rfl
    | exact Pu.extract rfl rfl
    | exact Pu.neqI rfl rfl
    | exact Pu.pickF rfl (by rfl) rfl) rfl ?_
    | refine Sq.pu ok hm (by exact Want.yes rfl rfl rfl (by rfl)) (by first
    | exact Pu.move rfl
    | exact Pu.neqI rfl rfl) rfl ?_
    | refine Sq.finH (n := 10) ok hm (by repeat (first
    | exact Keep.nil
    | apply Keep.drop rfl
    | apply Keep.keep rfl)) ?_
    | refine Ex.condT ok hm rfl (by rfl) ?_
    | refine Ex.ret ok hm ?_))
      exact ⟨_, .tmp rfl (.tmp rfl .nil), rfl, Fr.refl _ _⟩
  · rw [exV_none hno, uniV_none (.inl hno)]
    (repeat (first
    | refine Ex.seq ok hm ?_
    | refine Ex.region ok hm ?_
    | refine Sq.pu ok hm Want.none (by first
    | exact Pu.move rfl
    | exact Pu.assign rfl
    | exact Pu.extract rfl rfl) rfl ?_
    | refine Sq.finH (n := 10) ok hm (by repeat (first
    | exact Keep.nil
    | apply Keep.drop rfl
    | apply Keep.keep rfl)) ?_))
    refine Sq.call ok Want.none (Op1.call rfl rfl fn13) rfl (FnC.mono (Exponent_ok (s := t) ht) ?_)
    rintro x M2 ⟨rfl, rfl⟩
    rcases exE_cases t with ⟨q, hq, _⟩ | ⟨hno2, _⟩
    · rw [exV_some hq]
      (repeat (first
    | refine Ex.seq ok hm ?_
    | refine Ex.region ok hm ?_
    | refine Sq.pu ok hm Want.none (by first
    | exact Pu.move rfl
    | exact Pu.assign rfl
    | exact Pu.extract rfl rfl
    | exact Pu.neqI rfl rfl
    | exact Pu.pickT rfl (by rfl) rfl) rfl ?_
    | refine Sq.skip ok hm (by exact Want.no rfl rfl rfl (by rfl)) rfl ?_
    | refine Sq.finH (n := 10) ok hm (by repeat (first
    | exact Keep.nil
    | apply Keep.drop rfl
    | apply Keep.keep rfl)) ?_
    | refine Ex.condT ok hm rfl (by rfl) ?_
    | refine Ex.ret ok hm ?_))
      exact ⟨_, .tmp rfl (.tmp rfl .nil), rfl, Fr.refl _ _⟩
    · rw [exV_none hno2]
      (repeat (first
    | refine Ex.seq ok hm ?_
    | refine Ex.region ok hm ?_
    | refine Sq.pu ok hm Want.none (by first
    | exact Pu.move rfl
    | exact Pu.assign rfl
    | exact Pu.extract rfl rfl
    | exact Pu.neqI rfl rfl
    | exact Pu.pickT rfl (by rfl) rfl) rfl ?_
    | refine Sq.skip ok hm (by exact Want.no rfl rfl rfl (by rfl)) rfl ?_
    | refine Sq.finH (n := 10) ok hm (by repeat (first
    | exact Keep.nil
    | apply Keep.drop rfl
    | apply Keep.keep rfl)) ?_
    | refine Ex.condT ok hm rfl (by rfl) ?_
    | refine Ex.ret ok hm ?_))
      exact ⟨_, .tmp rfl (.tmp rfl .nil), rfl, Fr.refl _ _⟩
end Go.Proofs.Ytpglehckhnencaa
