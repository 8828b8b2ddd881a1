/- What operations that write or make memory make of it, in the logic over the small machine. -/
import Derived.Test.YtpglehckhnencaaWvmLgb
set_option linter.unusedSimpArgs false
set_option linter.unusedVariables false
namespace Go.Wvm
open Go.RowKit

section
variable {P : Program} {vp : VP} {ro : Nat} {E : En} {M : AM}

theorem Op1.of_pu {op : Op} {v : Value} (h : Pu P vp E M op v) : Op1 P vp ro E M op (.value v) M :=
  fun fr w o ho hE hM => ⟨w, h ro ro fr w o ho hE hM, hM⟩

theorem Abs.newCells {w : VW} (h : Abs ro w M) {u : Nat} {t : Option TypeId} {l : List Value} (h1 : oneCells l = true) :
    ∃ w', newCells u t l w = some (⟨M.next, 0, none⟩, w') ∧ Abs ro w' (M.add (.row l u (tag t))) := by
  refine ⟨w.add (.cells l.length (Tr.putL .nil 0 l) none u (tag t)), ?_, h.add AbsO.new⟩
  simp only [Wvm.newCells, h1, h.next]

theorem oneCells_bytes (l : List UInt8) : oneCells (l.map fun b => (.int .u8 (.ofNat b.toNat) : Value)) = true := by
  induction l with
  | nil => rfl
  | cons b l ih => simpa [oneCells] using ih

/-- A slice that fills its block. -/
def bufV (q n : Nat) : Value := if n = 0 then .slice none 0 0 else .slice (some ⟨q, 0, none⟩) n n
theorem bufV_zero (q : Nat) : bufV q 0 = .slice none 0 0 := rfl
theorem bufV_pos (q n : Nat) (h : n ≠ 0) : bufV q n = .slice (some ⟨q, 0, none⟩) n n := by unfold bufV; rw [if_neg h]

/-- What is appended or copied: so many, these cells. -/
def Src (M : AM) (size : Nat) (v : Value) (n : Nat) (new : List Value) : Prop :=
  lenV v = some n ∧ ∀ ro w, Abs ro w M → ∀ k, k ≤ n → srcCells size k v w = some (new.take (k * size))
theorem Src.slice {size b o n c u : Nat} {l : List Value} {t : Option (TypeId × Nat)} (hb : M.get b = some (.row l u t)) (hl : o + n * size ≤ l.length) : Src M size (.slice (some ⟨b, o, none⟩) n c) n ((l.drop o).take (n * size)) := by
  refine ⟨rfl, fun ro w hM k hk => ?_⟩
  obtain ⟨c, dv, hw, hc⟩ := hM.row hb
  have : k * size ≤ n * size := Nat.mul_le_mul_right _ hk
  cases k with
  | zero => simp [srcCells]
  | succ k =>
    simp only [srcCells, hw, cells_load hc ((k + 1) * size) o (by omega)]
    rw [List.take_take, Nat.min_eq_left this]
/-- Of no cells at all. -/
theorem Src.zero {M : AM} {size c : Nat} {b : Option Addr} : Src M size (.slice b 0 c) 0 [] := by
  refine ⟨rfl, fun ro w hM k hk => ?_⟩
  obtain rfl : k = 0 := by omega
  cases b with
  | none => simp [srcCells]
  | some a => simp [srcCells]
theorem Src.none {size c : Nat} : Src M size (.slice none 0 c) 0 [] := ⟨rfl, fun ro w hM k hk => by simp [srcCells]⟩
theorem Src.str {l : List UInt8} : Src M 1 (.string ⟨⟨l⟩⟩) l.length (l.map fun b => .int .u8 (.ofNat b.toNat)) := ⟨rfl, fun ro w hM k hk => by simp [srcCells, List.map_take]⟩

section
variable {T : List (Nat × TyI)} (hT : TyOk vp T)
include hT

theorem Op1.store {t : TypeId} {a x : Operand} {b o u : Nat} {l : List Value} {tt : Option (TypeId × Nat)} {i : TyI} {v : Value} (hx : evE E a = some (.pointer (some ⟨b, o, none⟩))) (hv : evE E x = some v) (ht : tyGet T t = some i) (hs : Nat.beq (cellsL v).length i.size = true)
    (hb : M.get b = some (.row l u tt)) (hr : ro ≤ b) (hf : fzOf tt ≤ o) (hl : o + (cellsL v).length ≤ l.length) (h1 : oneCells (cellsL v) = true) :
    Op1 P vp ro E M (.store t a x) .skip (M.upd b (.row (setAt l o (cellsL v)) u tt)) := by
  intro fr w o' ho hE hM
  obtain ⟨w', h2, h3⟩ := hM.putCells hb hr hf hl h1
  refine ⟨w', ?_, h3⟩
  simp only [execV, ho, xStore, hE.ev hx, hE.ev hv, storeV, hT _ _ ht, hs, h2, unit]

theorem Op1.alloc {e : TypeId} {i : TyI} {z : Value} (ht : tyGet T e = some i) (hz : i.zero = some z) (h1 : oneCells (cellsL z) = true) :
    Op1 P vp ro E M (.alloc e) (.value (.pointer (some ⟨M.next, 0, none⟩))) (M.add (.row (cellsL z) 0 (some (e, 0)))) := by
  intro fr w o' ho hE hM
  obtain ⟨w', h2, h3⟩ := hM.newCells (u := 0) (t := some e) h1
  refine ⟨w', ?_, h3⟩
  simp only [execV, ho, xAlloc, hT _ _ ht, hz, h2, boxed]

omit hT in
theorem Op1.box {e : TypeId} {x : Operand} {v : Value} (hx : evE E x = some v) (h1 : oneCells (cellsL v) = true) :
    Op1 P vp ro E M (.box e x) (.value (.pointer (some ⟨M.next, 0, none⟩))) (M.add (.row (cellsL v) 0 (some (e, 0)))) := by
  intro fr w o' ho hE hM
  obtain ⟨w', h2, h3⟩ := hM.newCells (u := 0) (t := some e) h1
  refine ⟨w', ?_, h3⟩
  simp only [execV, ho, xBox, hE.ev hx, h2, boxed]

theorem Op1.buildSlice {t e : TypeId} {len s by' : Nat} {z : Option Value} {g : Bool} {ei : TyI} {z1 : Value} {parts : Array (Nat × Operand)} {ps : List (Nat × Value)} {cs : List Value} (ht : tyGet T t = some ⟨.slice e, s, by', z, g⟩) (he : tyGet T e = some ei) (hz : ei.zero = some z1)
    (hp : evPartsE E parts.toList = some ps) (hs : Nat.ble (len * ei.size) tiny = true) (hc : fillL (fun i => some (i * ei.size, ei.size)) (repL (cellsL z1) len) ps = some cs) (h1 : oneCells cs = true) :
    Op1 P vp ro E M (.buildSlice t len parts) (.value (.slice (some ⟨M.next, 0, none⟩) len len)) (M.add (.row cs ei.size (some (e, 0)))) := by
  intro fr w o' ho hE hM
  obtain ⟨w', h2, h3⟩ := hM.newCells (u := ei.size) (t := some e) h1
  refine ⟨w', ?_, h3⟩
  simp only [execV, ho, xBuildSlice, hT _ _ ht, hE.evParts hp, hT _ _ he, hz, hs, hc, h2, sliced]

theorem Op1.makeSlice {t e : TypeId} {l c : Operand} {k k' : IntKind} {a b : Int} {s by' : Nat} {z : Option Value} {g : Bool} {ei : TyI} {z1 z2 : Value} (hl : evE E l = some (.int k a)) (hc : evE E c = some (.int k' b)) (ht : tyGet T t = some ⟨.slice e, s, by', z, g⟩) (he : tyGet T e = some ei) (hz : ei.zero = some z1)
    (h1 : cellsL z1 = [z2]) (h2 : oneCells [z2] = true) (h3 : 0 ≤ a) (h4 : a ≤ b) (h5 : b ≤ 1073741824) (h6 : Nat.ble ei.bytes 65536 = true) :
    Op1 P vp ro E M (.makeSlice t l c) (.value (.slice (some ⟨M.next, 0, none⟩) a.toNat b.toNat)) (M.add (.row (List.replicate b.toNat z2) 1 (some (e, 0)))) := by
  intro fr w o' ho hE hM
  have hl2 : evE E l = some (.int k (.ofNat a.toNat)) := by rw [hl]; congr 2; exact toNat_ofNat h3
  have hc2 : evE E c = some (.int k' (.ofNat b.toNat)) := by rw [hc]; congr 2; exact toNat_ofNat (by omega)
  have e1 : (Nat.ble a.toNat b.toNat && Nat.ble b.toNat small && Nat.ble ei.bytes 65536) = true := by
    rw [Nat.ble_eq_true_of_le (show a.toNat ≤ b.toNat by omega), Nat.ble_eq_true_of_le (show b.toNat ≤ small by unfold small; omega), h6]; rfl
  refine ⟨w.add (.cells b.toNat .nil (some z2) 1 (some (e, 0))), ?_, hM.add ⟨_, _, _, rfl, by simp, fun i v hv => ?_⟩⟩
  · simp only [execV, ho, xMakeSlice, hE.ev hl2, hE.ev hc2, hT _ _ ht, hT _ _ he, hz, e1, h1, h2, hM.next]
  · rw [List.getElem?_replicate] at hv
    split at hv
    · rename_i hi
      cases hv
      simp only [cellAt, Tr.get_nil, blt_eq, hi, decide_true]
    · cases hv

/-! append -/
omit hT in
theorem Op1.app {t1 t2 : TypeId} {x y : Operand} {v u : Value} (hx : evE E x = some v) (hy : evE E y = some u)
    (n : Value) {M' : AM} (h : ∀ w, Abs ro w M → ∃ w', appendV vp ro [t1, t2] v u w = some (n, w') ∧ Abs ro w' M') :
    Op1 P vp ro E M (.call { callee := .builtin .append, args := #[x, y], argTypes := #[t1, t2] }) (.value n) M' := by
  intro fr w o' ho hE hM
  obtain ⟨w', h1, h2⟩ := h w hM
  refine ⟨w', ?_, h2⟩
  have ha : evsE E [x, y] = some [v, u] := by simp [evsE, hx, hy]
  simp only [execV, ho, hE.evs ha, builtinV, h1, two]
/-- To a slice that is nil. -/
theorem Op1.appendNil {t1 t2 e : TypeId} {x y : Operand} {s by' n : Nat} {z : Option Value} {g : Bool} {ei ti2 : TyI} {u : Value} {new : List Value} (hx : evE E x = some (.slice none 0 0)) (hy : evE E y = some u)
    (ht : tyGet T t1 = some ⟨.slice e, s, by', z, g⟩) (ht2 : tyGet T t2 = some ti2) (he : tyGet T e = some ei) (hl : lenable ti2.desc = true) (hs : Src M ei.size u n new) (h0 : 0 < n) (hn : n ≤ 1073741824) (hlen : new.length = n * ei.size)
    (hok : (Nat.ble ei.bytes 65536 && !Nat.beq ei.bytes 0 && !Nat.beq ei.size 0 && ei.zero.isSome) = true) (h1 : oneCells new = true) :
    Op1 P vp ro E M (.call { callee := .builtin .append, args := #[x, y], argTypes := #[t1, t2] }) (.value (.slice (some ⟨M.next, 0, none⟩) n n)) (M.add (.row new ei.size (some (e, 0)))) := by
  refine Op1.app hx hy _ fun w hM => ?_
  obtain ⟨q1, q2⟩ := hs
  have q3 := q2 ro w hM n (Nat.le_refl _)
  rw [← hlen, List.take_length] at q3
  have b1 : Nat.ble (0 + n) 0 = false := by
    cases hb : Nat.ble (0 + n) 0 with
    | false => rfl
    | true => have := Nat.le_of_ble_eq_true hb; omega
  simp only [Bool.and_eq_true] at hok
  have b2 : (Nat.ble (0 + n) small && Nat.ble ei.bytes 65536 && !Nat.beq ei.bytes 0 && !Nat.beq ei.size 0 && oneCells new && ei.zero.isSome && Nat.beq new.length (n * ei.size)) = true := by
    rw [Nat.ble_eq_true_of_le (show 0 + n ≤ small by unfold small; omega), hok.1.1.1, hok.1.1.2, hok.1.2, hok.2, h1, hlen, Nat.beq_refl]; rfl
  refine ⟨w.add (.cells ((0 + n) * ei.size) (Tr.putL .nil 0 new) none ei.size (some (e, 0))), ?_, hM.add ⟨_, _, _, rfl, by rw [hlen, Nat.zero_add], ?_⟩⟩
  · simp only [appendV, hT _ _ ht, hT _ _ ht2, hT _ _ he, hl, q1, q3, b1, b2, Nat.beq_refl, hM.next]
    simp
  · rw [Nat.zero_add, ← hlen]; exact cells_new
/-- To a slice that fills its block. -/
theorem Op1.appendFull {t1 t2 e : TypeId} {x y : Operand} {b m s by' n f : Nat} {z : Option Value} {g : Bool} {ei ti2 : TyI} {u : Value} {l new : List Value} (hx : evE E x = some (.slice (some ⟨b, 0, none⟩) m m)) (hy : evE E y = some u)
    (hb : M.get b = some (.row l ei.size (some (e, f)))) (hm : l.length = m * ei.size) (h0 : 0 < m) (hr : ro ≤ b) (hf : f ≤ m * ei.size)
    (ht : tyGet T t1 = some ⟨.slice e, s, by', z, g⟩) (ht2 : tyGet T t2 = some ti2) (he : tyGet T e = some ei) (hl : lenable ti2.desc = true) (hs : Src M ei.size u n new) (hn0 : 0 < n) (hn : m + n ≤ 1073741824) (hlen : new.length = n * ei.size)
    (hok : (Nat.ble ei.bytes 65536 && !Nat.beq ei.bytes 0 && !Nat.beq ei.size 0 && ei.zero.isSome) = true) (h1 : oneCells new = true) :
    Op1 P vp ro E M (.call { callee := .builtin .append, args := #[x, y], argTypes := #[t1, t2] }) (.value (.slice (some ⟨M.next, 0, none⟩) (m + n) (m + n))) ((M.rm b).add (.row (l ++ new) ei.size (some (e, f)))) := by
  refine Op1.app hx hy _ fun w hM => ?_
  obtain ⟨q1, q2⟩ := hs
  have q3 := q2 ro w hM n (Nat.le_refl _)
  rw [← hlen, List.take_length] at q3
  obtain ⟨c, dv, hw, hc⟩ := hM.row hb
  have b1 : Nat.ble (m + n) m = false := by
    cases hb : Nat.ble (m + n) m with
    | false => rfl
    | true => have := Nat.le_of_ble_eq_true hb; omega
  simp only [Bool.and_eq_true] at hok
  have b2 : (Nat.ble (m + n) small && Nat.ble ei.bytes 65536 && !Nat.beq ei.bytes 0 && !Nat.beq ei.size 0 && oneCells new && ei.zero.isSome && Nat.beq new.length (n * ei.size)) = true := by
    rw [Nat.ble_eq_true_of_le (show m + n ≤ small by unfold small; omega), hok.1.1.1, hok.1.1.2, hok.1.2, hok.2, h1, hlen, Nat.beq_refl]; rfl
  have b3 : keepTy (some (e, f)) e (Nat.beq 0 0 && Nat.blt 0 m) = some (e, f) := by
    rw [blt_eq]; simp [keepTy, h0]
  have b4 : keepOk (some (e, f)) (some (e, f)) (m * ei.size) = true := by
    unfold keepOk fzOf
    cases f with
    | zero => rfl
    | succ f => exact Nat.ble_eq_true_of_le hf
  have b5 : (Nat.beq 0 0 && Nat.beq l.length (m * ei.size) && holds l.length c dv 0 l.length) = true := by
    rw [hm, Nat.beq_refl, Nat.beq_refl, ← hm, cells_holds hc _ _ (by omega)]; rfl
  have b6 : (Nat.beq ei.size ei.size && keepOk (some (e, f)) (some (e, f)) (m * ei.size)) = true := by rw [Nat.beq_refl, b4]; rfl
  have hr' := Nat.ble_eq_true_of_le hr
  have key : Abs ro (VW.add { w with heap := w.heap.del b } (.cells ((m + n) * ei.size) (c.putL l.length new) dv ei.size (some (e, f)))) ((M.rm b).add (.row (l ++ new) ei.size (some (e, f)))) := by
    refine (hM.rm b).add ⟨_, _, _, rfl, by rw [List.length_append, hlen, hm, Nat.add_mul], fun i v hv => ?_⟩
    rw [cellAt_putA]
    have hi : i < l.length + new.length := by
      rcases Nat.lt_or_ge i (l ++ new).length with h | h
      · simpa using h
      · rw [List.getElem?_eq_none h] at hv; cases hv
    have hd : (m + n) * ei.size = l.length + new.length := by rw [hlen, hm, Nat.add_mul]
    rw [hd]
    by_cases h : l.length ≤ i
    · rw [if_pos ⟨h, hi, hi⟩]
      rw [List.getElem?_append_right h] at hv; exact hv
    · rw [if_neg (fun k => h k.1)]
      rw [List.getElem?_append_left (by omega)] at hv
      have := hc i v hv
      unfold cellAt at this ⊢
      rw [blt_eq] at this ⊢
      rw [decide_eq_true (show i < l.length by omega)] at this
      rw [decide_eq_true hi]
      exact this
  refine ⟨_, ?_, key⟩
  simp only [appendV, hT _ _ ht, hT _ _ ht2, hT _ _ he, hl, q1, q3, b1, b2, hw, hr', b3, b5, b6]
  simp [VW.add, hM.next]
/-- Nothing. -/
theorem Op1.appendNone {t1 t2 e : TypeId} {x y : Operand} {m c s by' : Nat} {b : Option Addr} {z : Option Value} {g : Bool} {ei ti2 : TyI} {u : Value} (hx : evE E x = some (.slice b m c)) (hy : evE E y = some u) (hc : m ≤ c)
    (ht : tyGet T t1 = some ⟨.slice e, s, by', z, g⟩) (ht2 : tyGet T t2 = some ti2) (he : tyGet T e = some ei) (hl : lenable ti2.desc = true) (hs : Src M ei.size u 0 []) :
    Op1 P vp ro E M (.call { callee := .builtin .append, args := #[x, y], argTypes := #[t1, t2] }) (.value (.slice b m c)) M := by
  refine Op1.app hx hy _ fun w hM => ⟨w, ?_, hM⟩
  obtain ⟨q1, q2⟩ := hs
  have q3 := q2 ro w hM 0 (Nat.le_refl _)
  rw [List.take_nil] at q3
  cases b with
  | none => simp only [appendV, hT _ _ ht, hT _ _ ht2, hT _ _ he, hl, q1, q3, Nat.add_zero, Nat.ble_eq_true_of_le hc]
  | some a => simp only [appendV, hT _ _ ht, hT _ _ ht2, hT _ _ he, hl, q1, q3, Nat.add_zero, Nat.ble_eq_true_of_le hc, putCells]
/-- Where there is room. -/
theorem Op1.appendFits {t1 t2 e : TypeId} {x y : Operand} {b o m c s by' n u' : Nat} {tt : Option (TypeId × Nat)} {z : Option Value} {g : Bool} {ei ti2 : TyI} {u : Value} {l new : List Value} (hx : evE E x = some (.slice (some ⟨b, o, none⟩) m c)) (hy : evE E y = some u)
    (hb : M.get b = some (.row l u' tt)) (hr : ro ≤ b) (hf : fzOf tt ≤ o + m * ei.size) (hroom : o + m * ei.size + new.length ≤ l.length) (hc : m + n ≤ c)
    (ht : tyGet T t1 = some ⟨.slice e, s, by', z, g⟩) (ht2 : tyGet T t2 = some ti2) (he : tyGet T e = some ei) (hl : lenable ti2.desc = true) (hs : Src M ei.size u n new) (hlen : new.length = n * ei.size) (h1 : oneCells new = true) :
    Op1 P vp ro E M (.call { callee := .builtin .append, args := #[x, y], argTypes := #[t1, t2] }) (.value (.slice (some ⟨b, o, none⟩) (m + n) c)) (M.upd b (.row (setAt l (o + m * ei.size) new) u' tt)) := by
  refine Op1.app hx hy _ fun w hM => ?_
  obtain ⟨q1, q2⟩ := hs
  have q3 := q2 ro w hM n (Nat.le_refl _)
  rw [← hlen, List.take_length] at q3
  obtain ⟨w', p1, p2⟩ := hM.putCells hb hr hf hroom h1
  refine ⟨w', ?_, p2⟩
  simp only [appendV, hT _ _ ht, hT _ _ ht2, hT _ _ he, hl, q1, q3, Nat.ble_eq_true_of_le hc, plus, p1]

/-- To a slice that the run itself has made by appending, nil included. -/
theorem Op1.appendBuf {t1 t2 e : TypeId} {x y : Operand} {c m s by' n : Nat} {z : Option Value} {g : Bool} {ei ti2 : TyI} {u : Value} {l new : List Value} (hx : evE E x = some (bufV c m)) (hy : evE E y = some u)
    (hb : m ≠ 0 → M.get c = some (.row l 1 (some (e, 0)))) (hm : l.length = m) (hr : m ≠ 0 → ro ≤ c)
    (ht : tyGet T t1 = some ⟨.slice e, s, by', z, g⟩) (ht2 : tyGet T t2 = some ti2) (he : tyGet T e = some ei) (h1 : ei.size = 1) (hl : lenable ti2.desc = true) (hs : Src M 1 u n new) (hn0 : 0 < n) (hn : m + n ≤ 1073741824) (hlen : new.length = n)
    (hok : (Nat.ble ei.bytes 65536 && !Nat.beq ei.bytes 0 && !Nat.beq ei.size 0 && ei.zero.isSome) = true) (ho : oneCells new = true) :
    Op1 P vp ro E M (.call { callee := .builtin .append, args := #[x, y], argTypes := #[t1, t2] }) (.value (bufV M.next (m + n))) ((M.rm c).add (.row (l ++ new) 1 (some (e, 0)))) := by
  rw [← h1] at hs
  have e1 : bufV M.next (m + n) = .slice (some ⟨M.next, 0, none⟩) (m + n) (m + n) := by unfold bufV; rw [if_neg (by omega)]
  rw [e1]
  by_cases h0 : m = 0
  · subst h0
    obtain rfl : l = [] := List.length_eq_zero_iff.1 hm
    have hx' : evE E x = some (.slice none 0 0) := hx
    have := Op1.appendNil (P := P) (ro := ro) hT (t1 := t1) (t2 := t2) hx' hy ht ht2 he hl hs hn0 (by omega) (by rw [hlen, h1, Nat.mul_one]) hok ho
    intro fr w o h3 h4 h5
    obtain ⟨w', h6, h7⟩ := this fr w o h3 h4 h5
    rw [Nat.zero_add]
    refine ⟨w', h6, h7.le ⟨rfl, rfl, fun b a hba => ?_⟩⟩
    rw [AM.get_add, AM.get_rm] at hba
    rw [AM.get_add]
    by_cases k : b = M.next
    · rw [if_pos (show b = (M.rm c).next from k)] at hba
      rw [if_pos k, h1]; simpa using hba
    · rw [if_neg (show ¬ b = (M.rm c).next from k)] at hba
      rw [if_neg k]
      by_cases k2 : b = c
      · rw [if_pos k2] at hba; cases hba
      · rw [if_neg k2] at hba; exact hba
  · have hx' : evE E x = some (.slice (some ⟨c, 0, none⟩) m m) := by rw [hx]; unfold bufV; rw [if_neg h0]
    have hb' := hb h0
    rw [← h1] at hb'
    have := Op1.appendFull (P := P) (ro := ro) hT (t1 := t1) (t2 := t2) hx' hy hb' (by rw [hm, h1, Nat.mul_one]) (by omega) (hr h0) (Nat.zero_le _) ht ht2 he hl hs hn0 hn (by rw [hlen, h1, Nat.mul_one]) hok ho
    rw [← h1]; exact this

theorem Op1.appendBuf0 {t1 t2 e : TypeId} {x y : Operand} {c m s by' : Nat} {z : Option Value} {g : Bool} {ei ti2 : TyI} {u : Value} (hx : evE E x = some (bufV c m)) (hy : evE E y = some u)
    (ht : tyGet T t1 = some ⟨.slice e, s, by', z, g⟩) (ht2 : tyGet T t2 = some ti2) (he : tyGet T e = some ei) (h1 : ei.size = 1) (hl : lenable ti2.desc = true) (hs : Src M 1 u 0 []) :
    Op1 P vp ro E M (.call { callee := .builtin .append, args := #[x, y], argTypes := #[t1, t2] }) (.value (bufV c m)) M := by
  rw [← h1] at hs
  by_cases h0 : m = 0
  · subst h0; exact Op1.appendNone hT hx hy (Nat.le_refl _) ht ht2 he hl hs
  · rw [bufV_pos c m h0] at hx ⊢
    exact Op1.appendNone hT hx hy (Nat.le_refl _) ht ht2 he hl hs

/-- A text as bytes. -/
theorem Op1.bytes {s d e : TypeId} {x : Operand} {l : List UInt8} {a1 a2 a3 b1 b2 b3 : Nat} {z1 z2 z3 : Option Value} {g1 g2 g3 : Bool} (hx : evE E x = some (.string ⟨⟨l⟩⟩)) (hs : tyGet T s = some ⟨.string, a1, b1, z1, g1⟩) (hd : tyGet T d = some ⟨.slice e, a2, b2, z2, g2⟩)
    (he : tyGet T e = some ⟨.int .u8, a3, b3, z3, g3⟩) :
    Op1 P vp ro E M (.convert s d x) (.value (.slice (some ⟨M.next, 0, none⟩) l.length l.length)) (M.add (.row (l.map fun b => .int .u8 (.ofNat b.toNat)) 1 none)) := by
  intro fr w o' ho hE hM
  have h1 := oneCells_bytes l
  obtain ⟨w', h2, h3⟩ := hM.newCells (u := 1) (t := Option.none) h1
  refine ⟨w', ?_, h3⟩
  simp only [execV, ho, xConvert, hE.ev hx, hT _ _ hs, hT _ _ hd, hT _ _ he, h2, sliced]

/-- A copy. -/
theorem Op1.copy {ts : Array TypeId} {t1 e : TypeId} {x y : Operand} {b o m c s by' n u' : Nat} {tt : Option (TypeId × Nat)} {z : Option Value} {g : Bool} {ei : TyI} {v : Value} {l new : List Value} (hx : evE E x = some (.slice (some ⟨b, o, none⟩) m c)) (hy : evE E y = some v) (hts : ts.toList.head? = some t1)
    (hb : M.get b = some (.row l u' tt)) (hr : ro ≤ b) (hf : fzOf tt ≤ o) (h0 : 0 < m) (ht : tyGet T t1 = some ⟨.slice e, s, by', z, g⟩) (he : tyGet T e = some ei) (hs : Src M ei.size v n new)
    (hroom : o + (new.take (min n m * ei.size)).length ≤ l.length) (h1 : oneCells (new.take (min n m * ei.size)) = true) :
    Op1 P vp ro E M (.call { callee := .builtin .copy, args := #[x, y], argTypes := ts }) (.value (.int .i64 ((min n m : Nat) : Int))) (M.upd b (.row (setAt l o (new.take (min n m * ei.size))) u' tt)) := by
  intro fr w o' ho hE hM
  obtain ⟨q1, q2⟩ := hs
  have q3 := q2 ro w hM (min n m) (Nat.min_le_left _ _)
  obtain ⟨w', p1, p2⟩ := hM.putCells hb hr hf hroom h1
  refine ⟨w', ?_, p2⟩
  have ha : evsE E [x, y] = some [.slice (some ⟨b, o, none⟩) m c, v] := by simp [evsE, hx, hy]
  obtain ⟨ts⟩ := ts
  cases ts with
  | nil => cases hts
  | cons t ts =>
    simp at hts
    subst hts
    have hm : Nat.blt 0 m = true := Nat.ble_eq_true_of_le h0
    simp only [execV, ho, hE.evs ha, builtinV, copyV, hT _ _ ht, hT _ _ he, q1, nmin_eq, q3, hm, p1, two]
    rfl
end

theorem Src.buf {M : AM} {q n u : Nat} {l : List Value} {t : Option (TypeId × Nat)} (hb : n ≠ 0 → M.get q = some (.row l u t)) (hl : l.length = n) : Src M 1 (bufV q n) n l := by
  by_cases h0 : n = 0
  · subst h0
    obtain rfl : l = [] := List.length_eq_zero_iff.1 hl
    exact Src.none
  · rw [bufV_pos q n h0]
    have := Src.slice (M := M) (size := 1) (o := 0) (n := n) (c := n) (hb h0) (by omega)
    rw [List.drop_zero, Nat.mul_one, ← hl, List.take_length] at this
    rw [← hl]; exact this
theorem Pu.lenBuf {T : List (Nat × TyI)} (hT : TyOk vp T) {t : TypeId} {x : Operand} {q n s by' : Nat} {z : Option Value} {g : Bool} {e : TypeId} (hx : evE E x = some (bufV q n)) (ht : tyGet T t = some ⟨.slice e, s, by', z, g⟩) : Pu P vp E M (.call { callee := .builtin .len, args := #[x], argTypes := #[t] }) (.int .i64 (n : Int)) := by
  by_cases h0 : n = 0
  · subst h0; exact Pu.lenL hT hx ht
  · rw [bufV_pos q n h0] at hx; exact Pu.lenL hT hx ht

/-- The front of such a slice. -/
def slN (c m n : Nat) : Value := if m = 0 then .slice none 0 0 else .slice (some ⟨c, 0, none⟩) n m
theorem Src.slN {M : AM} {c m n u : Nat} {l : List Value} {t : Option (TypeId × Nat)} (hb : m ≠ 0 → M.get c = some (.row l u t)) (hl : l.length = m) (hn : n ≤ m) : Src M 1 (slN c m n) n (l.take n) := by
  unfold Wvm.slN
  by_cases h0 : m = 0
  · subst h0
    obtain rfl : n = 0 := by omega
    rw [if_pos rfl, List.take_zero]; exact Src.none
  · rw [if_neg h0]
    have := Src.slice (M := M) (size := 1) (o := 0) (n := n) (c := m) (hb h0) (by omega)
    rw [List.drop_zero, Nat.mul_one] at this
    exact this
theorem Pu.sliceBuf {T : List (Nat × TyI)} (hT : TyOk vp T) {t e : TypeId} {x : Operand} {hi : Operand} {c m u : Nat} {l : List Value} {tt : Option (TypeId × Nat)} {k : IntKind} {b : Int} {s by' : Nat} {z : Option Value} {g : Bool} {ei : TyI} (hx : evE E x = some (bufV c m)) (hh : evE E hi = some (.int k b))
    (ht : tyGet T t = some ⟨.slice e, s, by', z, g⟩) (he : tyGet T e = some ei) (hm : m ≠ 0 → M.get c = some (.row l u tt)) (hu : (Nat.beq u 0 || Nat.beq ei.size u) = true) (h0 : 0 ≤ b) (h1 : b ≤ m) :
    Pu P vp E M (.slice t x none (some hi) none) (slN c m b.toNat) := by
  have hh' : evOE E (some hi) = some (some (.int k b)) := by simp only [evOE, hh]
  unfold slN
  by_cases h2 : m = 0
  · subst h2
    rw [if_pos rfl]
    have hx' : evE E x = some (.slice none 0 0) := hx
    have := Pu.sliceN (P := P) (M := M) hT (lo := none) hx' rfl hh' ht he (bounds_nh h0 h1)
    have e1 : b.toNat = 0 := by omega
    rw [e1] at this; exact this
  · rw [if_neg h2]
    rw [bufV_pos c m h2] at hx
    have := Pu.sliceL (P := P) (M := M) hT (lo := none) hx rfl hh' ht he (bounds_nh h0 h1) (hm h2) hu (by omega)
    simpa using this

theorem Op1.call {f : Operand} {g : FuncId} {first cap vs : List Value} {args : Array Operand} {ts : Array TypeId} {fn : Func} (hf : evE E f = some (.func (.func g) ⟨first⟩ ⟨cap⟩)) (ha : evsE E args.toList = some vs) (hg : vp.fn.get g = some fn) :
    Op1 P vp ro E M (.call { callee := .value f, args, argTypes := ts }) (.enter g (first ++ vs ++ cap)) M := by
  intro fr w o' ho hE hM
  refine ⟨w, ?_, hM⟩
  simp only [execV, ho, hE.ev hf, hE.evs ha, invokeV, hg]
end
end Go.Wvm
