/- Towards the laws of this seat: contracts of the program's functions in a logic over a small machine (text XRq). No condition. -/
import Derived.Test.YtncpdgjlhdbdpaaXRd
import Derived.Test.YtncpdgjlhdbdpaaXRef2
namespace Go.Proofs.Ytncpdgjlhdbdpaa
open Go.Wvm Bits
set_option linter.unusedVariables false
set_option linter.unusedSimpArgs false

theorem sliceMid {M : AM} {t e : TypeId} {c m a b u : Nat} {l : List Value} {tt : Option (TypeId × Nat)} {s by' : Nat} {z : Option Value} {g : Bool} {ei : TyI}
    (ht : tyGet T t = some ⟨.slice e, s, by', z, g⟩) (he : tyGet T e = some ei) (hm : m ≠ 0 → M.get c = some (.row l u tt)) (hu : (Nat.beq u 0 || Nat.beq ei.size u) = true) (h0 : a ≤ b) (h1 : b ≤ m) :
    ∃ (b' : Option Addr) (cap' : Nat), (∀ (E : En) (x lo hi : Operand), evE E x = some (bufV c m) → evE E lo = some (.int .i64 (a : Int)) → evE E hi = some (.int .i64 (b : Int)) → Pu Try.prog tables E M (.slice t x (some lo) (some hi) none) (.slice b' (b - a) cap')) ∧ (b - a ≠ 0 → b' = some ⟨c, a * ei.size, none⟩) := by
  have hl' : ∀ (E : En) (lo : Operand), evE E lo = some (.int .i64 (a : Int)) → evOE E (some lo) = some (some (.int .i64 (a : Int))) := fun E lo hl => by simp only [evOE, hl]
  have hh' : ∀ (E : En) (lo : Operand), evE E lo = some (.int .i64 (b : Int)) → evOE E (some lo) = some (some (.int .i64 (b : Int))) := fun E lo hl => by simp only [evOE, hl]
  by_cases h2 : m = 0
  · subst h2
    refine ⟨none, 0 - a, fun E x lo hi hx hl hh => ?_, fun h => by omega⟩
    have hx' : evE E x = some (.slice none 0 0) := hx
    have := Pu.sliceN (P := Try.prog) (M := M) hT hx' (hl' _ _ hl) (hh' _ _ hh) ht he (bounds_lh (by omega) (by omega) (by omega))
    simp only [Int.toNat_natCast] at this
    exact this
  · by_cases h3 : a = m
    · have hb : bounds m m (some (.int .i64 (a : Int))) (some (.int .i64 (b : Int))) none = some (m, b, m) := by
        rw [bounds_lh (by omega) (by omega) (by omega), Int.toNat_natCast, Int.toNat_natCast, h3]
      refine ⟨some ⟨c, 0, none⟩, 0, fun E x lo hi hx hl hh => ?_, fun h => by omega⟩
      rw [bufV_pos c m h2] at hx
      have := Pu.sliceLE (P := Try.prog) (M := M) hT hx (hl' _ _ hl) (hh' _ _ hh) ht he hb (hm h2) hu
      have e : b - a = 0 := by omega
      rw [e]
      exact this
    · have hb : bounds m m (some (.int .i64 (a : Int))) (some (.int .i64 (b : Int))) none = some (a, b, m) := by
        rw [bounds_lh (by omega) (by omega) (by omega), Int.toNat_natCast, Int.toNat_natCast]
      refine ⟨some ⟨c, a * ei.size, none⟩, m - a, fun E x lo hi hx hl hh => ?_, fun _ => rfl⟩
      rw [bufV_pos c m h2] at hx
      have := Pu.sliceL (P := Try.prog) (M := M) hT hx (hl' _ _ hl) (hh' _ _ hh) ht he hb (hm h2) hu (by omega)
      rw [Nat.zero_add] at this
      exact this

set_option maxHeartbeats 4000000 in
theorem num_ok {ro : Nat} {M : AM} {c o n cap : Nat} {b : Option Addr} {L : List Bool} (hb : n ≠ 0 → b = some ⟨c, o, none⟩ ∧ M.get c = some (.row (L.map Value.bool) 1 (some (4, 0))) ∧ o + n ≤ L.length) (hn : n ≤ 64) :
    FnC Try.prog tables ro 38 [.slice b n cap] M (fun v M' => v = .int .u64 (valB ((L.drop o).take n) : Nat) ∧ M' = M) := by
  refine FnC.body (nt := 20) ok hm fn38 rfl rfl ?_
  (repeat (first
    | refine Ex.seq ok hm ?_
    | refine Ex.block ok hm ?_
    | refine Ex.region ok hm ?_
    | refine Sq.pu ok hm Want.none (by exact Pu.assign rfl) rfl ?_
    | refine Sq.finH (n := 5) ok hm (by repeat (first
    | exact Keep.nil
    | apply Keep.keep rfl)) ?_))
  refine Ex.loop ?_
  refine Lp.inv ok hm (α := Nat)
    (fun i E M' => E = [(3, .int .u64 (valB ((L.drop o).take i) : Nat)), (4, .int .i64 i), (0, .slice b n cap)] ∧ i ≤ n ∧ M' = M)
    (fun i => n - i) ?_ 0 [(3, .int .u64 (valB ((L.drop o).take 0) : Nat)), (4, .int .i64 (0 : Nat)), (0, .slice b n cap)] ⟨rfl, rfl, rfl, trivial⟩ ⟨rfl, Nat.zero_le _, rfl⟩
  intro i E M1 ⟨hE, hi, hM1⟩
  subst hE hM1
  by_cases hin : i = n
  · subst hin
    (repeat (first
    | refine Ex.seq ok hm ?_
    | refine Ex.region ok hm ?_
    | refine Sq.pu ok hm Want.none (by first
    | exact Pu.move rfl
    | exact Pu.assign rfl
    | exact Pu.lssI rfl rfl
    | exact Pu.lenL hT rfl rfl) rfl ?_
    | refine Sq.finH (n := 5) ok hm (by repeat (first
    | exact Keep.nil
    | apply Keep.drop rfl
    | apply Keep.keep rfl)) ?_
    | refine Ex.condF ok hm rfl (by first
    | rfl
    | exact decide_eq_false (by omega)) ?_
    | refine Ex.ret ok hm ?_
    | refine Ex.exit ok hm ?_))
    exact ⟨_, .tmp rfl .nil, rfl, rfl⟩
  · obtain ⟨hb1, hb2, hb3⟩ := hb (by omega)
    subst hb1
    have hlt : valB ((L.drop o).take i) < 2 ^ i := by
      have h := valB_lt ((L.drop o).take i)
      have h2 : ((L.drop o).take i).length ≤ i := by rw [List.length_take]; omega
      exact Nat.lt_of_lt_of_le h (Nat.pow_le_pow_right (by omega) h2)
    have hlt2 : (2 : Nat) ^ i ≤ 2 ^ 63 := Nat.pow_le_pow_right (by omega) (by omega)
    have hlt3 : (2 : Nat) ^ 63 = 9223372036854775808 := by decide
    have hsn : valB ((L.drop o).take (i + 1)) = 2 * valB ((L.drop o).take i) + (L.getD (o + i) false).toNat := by
      rw [take_snoc (L.drop o) i (by rw [List.length_drop]; omega), valB_append]
      have e1 : (L.drop o).getD i false = L.getD (o + i) false := by simp [List.getD_eq_getElem?_getD]
      rw [e1]
      have e2 : valB [L.getD (o + i) false] = (L.getD (o + i) false).toNat := by simp [valB]
      rw [e2]; simp; omega
    have hbl : (L.map Value.bool)[o + (i : Int).toNat * 1]? = some (.bool (L.getD (o + i) false)) := by
      rw [Int.toNat_natCast, Nat.mul_one]
      have : o + i < L.length := by omega
      simp [List.getD_eq_getElem?_getD, this]
    (repeat (first
    | refine Ex.seq ok hm ?_
    | refine Ex.block ok hm ?_
    | refine Ex.skip ok hm ?_
    | refine Ex.region ok hm ?_
    | refine Sq.pu ok hm Want.none (by first
    | exact Pu.move rfl
    | exact Pu.assign rfl
    | exact Pu.lssI rfl rfl
    | exact Pu.lenL hT rfl rfl
    | exact Pu.mul rfl rfl (by simp only [InR]; omega)
    | exact Pu.indexAddr hT rfl rfl rfl rfl (by omega) (by omega)) rfl ?_
    | refine Sq.finH (n := 5) ok hm (by repeat (first
    | exact Keep.nil
    | apply Keep.drop rfl
    | apply Keep.keep rfl)) ?_
    | refine Ex.condT ok hm rfl (by first
    | rfl
    | exact decide_eq_true (by omega)) ?_))
    refine Sq.pu ok hm Want.none (Pu.load hT rfl rfl rfl hb2 hbl) rfl ?_
    cases hbit : L.getD (o + i) false with
    | true =>
      rw [hbit] at hsn
      (repeat (first
    | refine Ex.region ok hm ?_
    | refine Sq.pu ok hm Want.none (by first
    | exact Pu.move rfl
    | exact Pu.assign rfl
    | exact Pu.add rfl rfl (by simp only [InR]; omega)) rfl ?_
    | refine Sq.finH (n := 5) ok hm (by repeat (first
    | exact Keep.nil
    | apply Keep.drop rfl
    | apply Keep.keep rfl)) ?_
    | refine Ex.condT ok hm rfl (by rfl) ?_))
      refine ⟨i + 1, [(3, .int .u64 (valB ((L.drop o).take (i + 1)) : Nat)), (4, .int .i64 ((i + 1 : Nat) : Int)), (0, .slice (some ⟨c, o, none⟩) n cap)], ?_, ⟨?_, rfl, rfl, trivial⟩, rfl, by omega, rfl⟩
      · show n - (i + 1) < n - i
        omega
      · rw [hsn]; simp [enGet]
    | false =>
      rw [hbit] at hsn
      (repeat (first
    | refine Ex.skip ok hm ?_
    | refine Ex.region ok hm ?_
    | refine Sq.pu ok hm Want.none (by first
    | exact Pu.move rfl
    | exact Pu.assign rfl
    | exact Pu.add rfl rfl (by simp only [InR]; omega)) rfl ?_
    | refine Sq.finH (n := 5) ok hm (by repeat (first
    | exact Keep.nil
    | apply Keep.drop rfl
    | apply Keep.keep rfl)) ?_
    | refine Ex.condF ok hm rfl (by rfl) ?_))
      refine ⟨i + 1, [(3, .int .u64 (valB ((L.drop o).take (i + 1)) : Nat)), (4, .int .i64 ((i + 1 : Nat) : Int)), (0, .slice (some ⟨c, o, none⟩) n cap)], ?_, ⟨?_, rfl, rfl, trivial⟩, rfl, by omega, rfl⟩
      · show n - (i + 1) < n - i
        omega
      · rw [hsn]; simp [enGet]

structure RqAt (M : AM) (q c : Nat) (s : List UInt8) (at' : Nat) : Prop where
  row : M.get q = some (.row [bufV c (8 * s.length), .int .i64 (at' : Int)] 0 (some (47, 0)))
  buf : 8 * s.length ≠ 0 → M.get c = some (.row ((bitsOf s).map Value.bool) 1 (some (4, 0)))
  ne : q ≠ c

theorem rSeek_ok {ro : Nat} {M : AM} {q c at' : Nat} {s : List UInt8} {n : Int} (hr : ro ≤ q) (h : RqAt M q c s at') (hn : InR .i64 n) (hs : s.length ≤ 1152921504606846000) :
    FnC Try.prog tables ro 21 [.pointer (some ⟨q, 0, none⟩), .int .i64 n] M (fun v M' => v = .int .i64 (if 0 ≤ n ∧ n ≤ 8 * (s.length : Int) then 0 else 1) ∧ RqAt M' q c s (if 0 ≤ n ∧ n ≤ 8 * (s.length : Int) then n.toNat else at') ∧ Fr M M' [q]) := by
  refine FnC.body (nt := 20) ok hm fn21 rfl rfl ?_
  have hrow := h.row
  by_cases h1 : n < 0
  · rw [if_neg (by omega), if_neg (by omega)]
    (repeat (first
    | refine Ex.seq ok hm ?_
    | refine Ex.region ok hm ?_
    | refine Sq.pu ok hm Want.none (by first
    | exact Pu.move rfl
    | exact Pu.assign rfl
    | exact Pu.lssI rfl rfl
    | exact Pu.pickT rfl (by first
    | rfl
    | exact decide_eq_true (by omega)) rfl) rfl ?_
    | refine Sq.skip ok hm (by exact Want.no rfl rfl rfl (by first
    | rfl
    | exact decide_eq_true (by omega))) rfl ?_
    | refine Sq.finH (n := 5) ok hm (by repeat (first
    | exact Keep.nil
    | apply Keep.drop rfl
    | apply Keep.keep rfl)) ?_
    | refine Ex.condT ok hm rfl (by rfl) ?_
    | refine Ex.ret ok hm ?_))
    exact ⟨_, .tmp rfl .nil, rfl, h, Fr.refl _ _⟩
  · by_cases h2 : 8 * (s.length : Int) < n
    · rw [if_neg (by omega), if_neg (by omega)]
      (repeat (first
    | refine Ex.seq ok hm ?_
    | refine Ex.region ok hm ?_
    | refine Sq.pu ok hm Want.none (by first
    | exact Pu.move rfl
    | exact Pu.assign rfl
    | exact Pu.nilCheck rfl
    | exact Pu.fieldAddr hT rfl rfl rfl rfl rfl
    | (apply Pu.load hT rfl rfl rfl; (focus ((repeat (assumption)))); (focus rfl))
    | exact Pu.lssI rfl rfl
    | exact Pu.gtrI rfl rfl
    | exact Pu.lenBuf hT rfl rfl
    | exact Pu.pickF rfl (by first
    | rfl
    | exact decide_eq_false (by omega)) rfl) rfl ?_
    | refine Sq.pu ok hm (by exact Want.yes rfl rfl rfl (by first
    | rfl
    | exact decide_eq_false (by omega))) (by first
    | exact Pu.move rfl
    | exact Pu.nilCheck rfl
    | exact Pu.fieldAddr hT rfl rfl rfl rfl rfl
    | (apply Pu.load hT rfl rfl rfl; (focus ((repeat (assumption)))); (focus rfl))
    | exact Pu.gtrI rfl rfl
    | exact Pu.lenBuf hT rfl rfl) rfl ?_
    | refine Sq.finH (n := 5) ok hm (by repeat (first
    | exact Keep.nil
    | apply Keep.drop rfl
    | apply Keep.keep rfl)) ?_
    | refine Ex.condT ok hm rfl (by first
    | rfl
    | exact decide_eq_true (by omega)) ?_
    | refine Ex.ret ok hm ?_))
      exact ⟨_, .tmp rfl .nil, rfl, h, Fr.refl _ _⟩
    · rw [if_pos (by omega), if_pos (by omega)]
      (repeat (first
    | refine Ex.seq ok hm ?_
    | refine Ex.skip ok hm ?_
    | refine Ex.region ok hm ?_
    | refine Sq.pu ok hm Want.none (by first
    | exact Pu.move rfl
    | exact Pu.assign rfl
    | exact Pu.nilCheck rfl
    | exact Pu.fieldAddr hT rfl rfl rfl rfl rfl
    | (apply Pu.load hT rfl rfl rfl; (focus ((repeat (assumption)))); (focus rfl))
    | exact Pu.lssI rfl rfl
    | exact Pu.gtrI rfl rfl
    | exact Pu.lenBuf hT rfl rfl
    | exact Pu.pickF rfl (by first
    | rfl
    | exact decide_eq_false (by omega)) rfl) rfl ?_
    | refine Sq.pu ok hm (by exact Want.yes rfl rfl rfl (by first
    | rfl
    | exact decide_eq_false (by omega))) (by first
    | exact Pu.move rfl
    | exact Pu.nilCheck rfl
    | exact Pu.fieldAddr hT rfl rfl rfl rfl rfl
    | (apply Pu.load hT rfl rfl rfl; (focus ((repeat (assumption)))); (focus rfl))
    | exact Pu.gtrI rfl rfl
    | exact Pu.lenBuf hT rfl rfl) rfl ?_
    | refine Sq.finH (n := 5) ok hm (by repeat (first
    | exact Keep.nil
    | apply Keep.drop rfl
    | apply Keep.keep rfl)) ?_
    | refine Ex.condF ok hm rfl (by first
    | rfl
    | exact decide_eq_false (by omega)) ?_))
      refine Sq.act ok hm Want.none (Op1.store hT rfl rfl rfl rfl hrow hr (Nat.le_of_ble_eq_true rfl) (Nat.le_of_ble_eq_true rfl) rfl) ?_
      (repeat (first
    | refine Ex.seq ok hm ?_
    | refine Ex.region ok hm ?_
    | refine Sq.pu ok hm Want.none (by exact Pu.assign rfl) rfl ?_
    | refine Sq.finH (n := 5) ok hm (by repeat (first
    | exact Keep.nil
    | apply Keep.drop rfl
    | apply Keep.keep rfl)) ?_
    | refine Ex.ret ok hm ?_))
      refine ⟨_, .tmp rfl .nil, rfl, ⟨?_, fun k => (AM.upd_ne (Ne.symm h.ne)).trans (h.buf k), h.ne⟩, (Fr.refl _ _).upd' _ (.inl (by simp))⟩
      rw [show ((n.toNat : Nat) : Int) = n by omega]
      exact AM.upd_same

set_option maxHeartbeats 4000000 in
theorem rTake_ok {ro : Nat} {M : AM} {q c at' : Nat} {n : Int} {s : List UInt8} (hr : ro ≤ q) (h : RqAt M q c s at') (hn : InR .i64 n) (hat : at' ≤ 8 * s.length) (hs : s.length ≤ 1152921504606846000) :
    FnC Try.prog tables ro 19 [.pointer (some ⟨q, 0, none⟩), .int .i64 n] M
      (fun v M' => v = .tuple ⟨[.int .u64 ((takeE s at' n).1 : Nat), .int .i64 (takeE s at' n).2.1]⟩ ∧ RqAt M' q c s (takeE s at' n).2.2 ∧ Fr M M' [q]) := by
  refine FnC.body (nt := 51) ok hm fn19 rfl rfl ?_
  have hrow := h.row
  simp only [InR] at hn
  by_cases h1 : n < 0
  · have e : takeE s at' n = (0, 1, at') := by unfold takeE; rw [if_pos (.inl h1)]
    rw [e]
    (repeat (first
    | refine Ex.seq ok hm ?_
    | refine Ex.region ok hm ?_
    | refine Sq.pu ok hm Want.none (by first
    | exact Pu.move rfl
    | exact Pu.assign rfl
    | exact Pu.lssI rfl rfl
    | exact Pu.pickT rfl (by first
    | rfl
    | exact decide_eq_true (by omega)) rfl) rfl ?_
    | refine Sq.skip ok hm (by exact Want.no rfl rfl rfl (by first
    | rfl
    | exact decide_eq_true (by omega))) rfl ?_
    | refine Sq.finH (n := 7) ok hm (by repeat (first
    | exact Keep.nil
    | apply Keep.drop rfl
    | apply Keep.keep rfl)) ?_
    | refine Ex.condT ok hm rfl (by rfl) ?_
    | refine Ex.ret ok hm ?_))
    exact ⟨_, .tmp rfl (.tmp rfl .nil), rfl, h, Fr.refl _ _⟩
  · by_cases h2 : 64 < n
    · have e : takeE s at' n = (0, 1, at') := by unfold takeE; rw [if_pos (.inr h2)]
      rw [e]
      (repeat (first
    | refine Ex.seq ok hm ?_
    | refine Ex.region ok hm ?_
    | refine Sq.pu ok hm Want.none (by first
    | exact Pu.move rfl
    | exact Pu.assign rfl
    | exact Pu.lssI rfl rfl
    | exact Pu.gtrI rfl rfl
    | exact Pu.pickF rfl (by first
    | rfl
    | exact decide_eq_false (by omega)) rfl) rfl ?_
    | refine Sq.pu ok hm (by exact Want.yes rfl rfl rfl (by first
    | rfl
    | exact decide_eq_false (by omega))) (by first
    | exact Pu.move rfl
    | exact Pu.gtrI rfl rfl) rfl ?_
    | refine Sq.finH (n := 7) ok hm (by repeat (first
    | exact Keep.nil
    | apply Keep.drop rfl
    | apply Keep.keep rfl)) ?_
    | refine Ex.condT ok hm rfl (by first
    | rfl
    | exact decide_eq_true (by omega)) ?_
    | refine Ex.ret ok hm ?_))
      exact ⟨_, .tmp rfl (.tmp rfl .nil), rfl, h, Fr.refl _ _⟩
    · (repeat (first
    | refine Ex.seq ok hm ?_
    | refine Ex.skip ok hm ?_
    | refine Ex.region ok hm ?_
    | refine Sq.pu ok hm Want.none (by first
    | exact Pu.move rfl
    | exact Pu.assign rfl
    | exact Pu.lssI rfl rfl
    | exact Pu.gtrI rfl rfl
    | exact Pu.pickF rfl (by first
    | rfl
    | exact decide_eq_false (by omega)) rfl) rfl ?_
    | refine Sq.pu ok hm (by exact Want.yes rfl rfl rfl (by first
    | rfl
    | exact decide_eq_false (by omega))) (by first
    | exact Pu.move rfl
    | exact Pu.gtrI rfl rfl) rfl ?_
    | refine Sq.finH (n := 7) ok hm (by repeat (first
    | exact Keep.nil
    | apply Keep.drop rfl
    | apply Keep.keep rfl)) ?_
    | refine Ex.condF ok hm rfl (by first
    | rfl
    | exact decide_eq_false (by omega)) ?_))
      refine Ex.draw ok hm 11 (by kernel_rfl) ?_
      by_cases h3 : 8 * (s.length : Int) - at' < n
      · have e : takeE s at' n = (0, 4, at') := by unfold takeE; rw [if_neg (by omega), if_pos h3]
        rw [e]
        (repeat (first
    | refine Ex.seq ok hm ?_
    | refine Ex.region ok hm ?_
    | refine Sq.pu ok hm Want.none (by exact Pu.assign rfl) rfl ?_
    | refine Sq.finH (n := 7) ok hm (by repeat (first
    | exact Keep.nil
    | apply Keep.drop rfl
    | apply Keep.keep rfl)) ?_
    | refine Hq.pu Want.none (by first
    | exact Pu.move rfl
    | exact Pu.nilCheck rfl
    | exact Pu.fieldAddr hT rfl rfl rfl rfl rfl
    | (apply Pu.load hT rfl rfl rfl; (focus ((repeat (assumption)))); (focus rfl))
    | exact Pu.sub rfl rfl (by simp only [InR]; omega)
    | exact Pu.lenBuf hT rfl rfl) rfl rfl rfl ?_
    | refine Hq.nil ?_
    | refine Tq.pu Want.none (by exact Pu.gtrI rfl rfl) rfl ?_
    | refine Tq.finH (n := 7)  (by repeat (first
    | exact Keep.nil
    | apply Keep.drop rfl
    | apply Keep.keep rfl)) ?_
    | refine Ex.condT ok hm rfl (by first
    | rfl
    | exact decide_eq_true (by omega)) ?_
    | refine Ex.ret ok hm ?_))
        exact ⟨_, .tmp rfl (.tmp rfl .nil), rfl, h, Fr.refl _ _⟩
      · have e : takeE s at' n = (valB (midT s at' n.toNat), 0, at' + n.toNat) := by unfold takeE; rw [if_neg (by omega), if_neg h3]
        rw [e]
        obtain ⟨m, rfl⟩ : ∃ m : Nat, n = m := ⟨n.toNat, by omega⟩
        rw [Int.toNat_natCast]
        have hbl := bitsOf_length s
        obtain ⟨b', cap', hsl, hb'⟩ := sliceMid (M := M) (t := 26) (m := 8 * s.length) (c := c) (a := at') (b := at' + m) rfl rfl h.buf rfl (by omega) (by omega)
        (repeat (first
    | refine Ex.seq ok hm ?_
    | refine Ex.skip ok hm ?_
    | refine Hq.pu Want.none (by first
    | exact Pu.move rfl
    | exact Pu.nilCheck rfl
    | exact Pu.fieldAddr hT rfl rfl rfl rfl rfl
    | (apply Pu.load hT rfl rfl rfl; (focus ((repeat (assumption)))); (focus rfl))
    | exact Pu.sub rfl rfl (by simp only [InR]; omega)
    | exact Pu.lenBuf hT rfl rfl) rfl rfl rfl ?_
    | refine Hq.nil ?_
    | refine Tq.pu Want.none (by exact Pu.gtrI rfl rfl) rfl ?_
    | refine Tq.finH (n := 7)  (by repeat (first
    | exact Keep.nil
    | apply Keep.drop rfl
    | apply Keep.keep rfl)) ?_
    | refine Ex.condF ok hm rfl (by first
    | rfl
    | exact decide_eq_false (by omega)) ?_))
        refine Ex.draw ok hm 14 (by kernel_rfl) ?_
        (repeat (first
    | refine Hq.pu Want.none (by first
    | exact Pu.move rfl
    | exact Pu.nilCheck rfl
    | exact Pu.fieldAddr hT rfl rfl rfl rfl rfl
    | (apply Pu.load hT rfl rfl rfl; (focus ((repeat (assumption)))); (focus rfl))
    | exact Pu.add rfl rfl (by simp only [InR]; omega)) rfl rfl rfl ?_
    | refine Hq.nil ?_))
        refine Tq.pu Want.none (hsl _ _ _ _ rfl rfl rfl) rfl ?_
        rw [show at' + m - at' = m by omega] at hb' ⊢
        refine Tq.call Want.none (Op1.call rfl rfl fn38) rfl (FnC.mono (num_ok (c := c) (o := at') (L := bitsOf s) (fun k => ⟨(hb' k).trans (by simp), h.buf (by omega), by omega⟩) (by omega)) ?_)
        rintro x M1 ⟨rfl, rfl⟩
        (repeat (first
    | refine Ex.seq ok hm ?_
    | refine Ex.region ok hm ?_
    | refine Sq.pu ok hm Want.none (by first
    | exact Pu.move rfl
    | exact Pu.nilCheck rfl
    | exact Pu.fieldAddr hT rfl rfl rfl rfl rfl
    | (apply Pu.load hT rfl rfl rfl; (focus ((repeat (assumption)))); (focus rfl))
    | exact Pu.add rfl rfl (by simp only [InR]; omega)) rfl ?_
    | refine Tq.pu Want.none (by exact Pu.assign rfl) rfl ?_
    | refine Tq.finH (n := 7)  (by repeat (first
    | exact Keep.nil
    | apply Keep.drop rfl
    | apply Keep.keep rfl)) ?_))
        refine Sq.act ok hm Want.none (Op1.store hT rfl rfl rfl rfl hrow hr (Nat.le_of_ble_eq_true rfl) (Nat.le_of_ble_eq_true rfl) rfl) ?_
        (repeat (first
    | refine Ex.seq ok hm ?_
    | refine Ex.region ok hm ?_
    | refine Sq.pu ok hm Want.none (by first
    | exact Pu.move rfl
    | exact Pu.assign rfl) rfl ?_
    | refine Sq.finH (n := 7) ok hm (by repeat (first
    | exact Keep.nil
    | apply Keep.drop rfl
    | apply Keep.keep rfl)) ?_
    | refine Ex.ret ok hm ?_))
        refine ⟨_, .tmp rfl (.tmp rfl .nil), rfl, ⟨?_, fun k => (AM.upd_ne (Ne.symm h.ne)).trans (h.buf k), h.ne⟩, (Fr.refl _ _).upd' _ (.inl (by simp))⟩
        exact AM.upd_same

theorem rdrBit_ok {ro : Nat} {M : AM} {q c at' : Nat} {s : List UInt8} (hr : ro ≤ q) (h : RqAt M q c s at') (hat : at' ≤ 8 * s.length) (hs : s.length ≤ 1152921504606846000) :
    FnC Try.prog tables ro 17 [.pointer (some ⟨q, 0, none⟩)] M
      (fun v M' => v = .tuple ⟨[.bool (decide ((takeE s at' 1).1 = 1)), .int .i64 (takeE s at' 1).2.1]⟩ ∧ RqAt M' q c s (takeE s at' 1).2.2 ∧ Fr M M' [q]) := by
  refine FnC.body (nt := 14) ok hm fn17 rfl rfl ?_
  (repeat (first
    | refine Ex.seq ok hm ?_
    | refine Ex.region ok hm ?_
    | refine Sq.pu ok hm Want.none (by first
    | exact Pu.move rfl
    | exact Pu.assign rfl) rfl ?_
    | refine Sq.finH (n := 7) ok hm (by repeat (first
    | exact Keep.nil
    | apply Keep.keep rfl)) ?_))
  refine Sq.call ok Want.none (Op1.call rfl rfl fn19) rfl (FnC.mono (rTake_ok (n := 1) hr h (by simp only [InR]; omega) hat hs) ?_)
  rintro x M1 ⟨rfl, h1, hF⟩
  (repeat (first
    | refine Ex.seq ok hm ?_
    | refine Ex.region ok hm ?_
    | refine Sq.pu ok hm Want.none (by first
    | exact Pu.move rfl
    | exact Pu.assign rfl
    | exact Pu.extract rfl rfl
    | exact Pu.eqlI rfl rfl) rfl ?_
    | refine Sq.finH (n := 7) ok hm (by repeat (first
    | exact Keep.nil
    | apply Keep.drop rfl
    | apply Keep.keep rfl)) ?_
    | refine Ex.ret ok hm ?_))
  refine ⟨_, .tmp rfl (.tmp rfl .nil), ?_, h1, hF⟩
  have e : decide (((takeE s at' 1).1 : Int) = 1) = decide ((takeE s at' 1).1 = 1) := by
    rw [Bool.eq_iff_iff, decide_eq_true_eq, decide_eq_true_eq]; omega
  rw [e]; rfl
end Go.Proofs.Ytncpdgjlhdbdpaa
