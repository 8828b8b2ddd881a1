/- Towards the laws of this seat: contracts of the program's functions in a logic over a small machine (texts XKg XKh XKk XKt XKu XKv XKy). No condition. -/
import Derived.Test.YtpglehckhnencaaXm2
/- N -/
namespace Go.Proofs.Ytpglehckhnencaa
open Go.Wvm Sk
set_option linter.unusedVariables false
set_option linter.unusedSimpArgs false

theorem fnX43 : tables.fn.get 43 = none := by kernel_rfl
theorem fnX44 : tables.fn.get 44 = none := by kernel_rfl
theorem ext43 : tables.ext.get 43 = some (1, 0) := by kernel_rfl
theorem ext44 : tables.ext.get 44 = some (2, 5) := by kernel_rfl

abbrev strB (s : List UInt8) : Value := .string ⟨⟨s⟩⟩
abbrev ptrV (b : Nat) : Value := .pointer (some ⟨b, 0, none⟩)
abbrev bldR (a : Value) (v : Value) : AO := .row [a, v] 0 (some (63, 0))
/-- A builder with so much room, and what it has. -/
structure Bld (M : AM) (b q n k : Nat) (c : Tr Value) (l : List UInt8) : Prop where
  row : M.get b = some (bldR (ptrV b) (.slice (some ⟨q, 0, none⟩) l.length n))
  buf : M.get q = some (partO 5 n k c)
  front : Front n c l
  le : k ≤ l.length
  ne : b ≠ q

theorem check_ok {ro b : Nat} {M : AM} {v : Value} (h : M.get b = some (bldR (ptrV b) v)) :
    FnC Try.prog tables ro 41 [ptrV b] M (fun _ M' => M' = M) := by
  refine FnC.body (nt := 20) ok hm fn41 rfl rfl ?_
  (repeat (first
    | refine Ex.seq ok hm ?_
    | refine Ex.region ok hm ?_
    | refine Sq.pu ok hm Want.none (by first
    | exact Pu.move rfl
    | exact Pu.nilCheck rfl
    | exact Pu.fieldAddr hT rfl rfl rfl rfl rfl
    | (apply Pu.load hT rfl rfl rfl; (focus ((repeat (assumption)))); (focus rfl))
    | exact Pu.eqlP hT rfl rfl rfl) rfl ?_
    | refine Sq.finH (n := 21) ok hm (by repeat (first
    | exact Keep.nil
    | apply Keep.keep rfl)) ?_
    | refine Ex.condF ok hm rfl (by rfl) ?_))
  refine Sq.pu ok hm Want.none (Pu.neqSame hT rfl rfl rfl rfl rfl) rfl ?_
  (repeat (first
    | refine Ex.skip ok hm ?_
    | refine Sq.finH (n := 21) ok hm (by repeat (first
    | exact Keep.nil
    | apply Keep.keep rfl)) ?_
    | refine Ex.condF ok hm rfl (by rfl) ?_))
  exact ⟨_, .nil, rfl⟩

theorem check0_ok {ro b : Nat} {M : AM} {v : Value} (hr : ro ≤ b) (h : M.get b = some (bldR (.pointer none) v)) :
    FnC Try.prog tables ro 41 [ptrV b] M (fun _ M' => M' = M.upd b (bldR (ptrV b) v)) := by
  refine FnC.body (nt := 20) ok hm fn41 rfl rfl ?_
  (repeat (first
    | refine Ex.seq ok hm ?_
    | refine Ex.region ok hm ?_
    | refine Sq.pu ok hm Want.none (by first
    | exact Pu.move rfl
    | exact Pu.nilCheck rfl
    | exact Pu.fieldAddr hT rfl rfl rfl rfl rfl
    | (apply Pu.load hT rfl rfl rfl; (focus ((repeat (assumption)))); (focus rfl))
    | exact Pu.eqlP hT rfl rfl rfl) rfl ?_
    | refine Sq.finH (n := 21) ok hm (by repeat (first
    | exact Keep.nil
    | apply Keep.keep rfl)) ?_
    | refine Ex.condT ok hm rfl (by rfl) ?_))
  refine Sq.pu ok hm Want.none (Pu.toUnsafe hT rfl rfl rfl rfl rfl h (Nat.le_of_ble_eq_true rfl)) rfl ?_
  refine Sq.pu ok hm Want.none (Pu.ext1 rfl rfl fnX43 ext43) rfl ?_
  refine Sq.pu ok hm Want.none (Pu.ofUnsafe hT rfl rfl rfl rfl rfl h (Nat.le_of_ble_eq_true rfl)) rfl ?_
  (repeat (refine Sq.pu ok hm Want.none (by first
    | exact Pu.nilCheck rfl
    | exact Pu.fieldAddr hT rfl rfl rfl rfl rfl) rfl ?_))
  refine Sq.act ok hm Want.none (Op1.store hT rfl rfl rfl rfl h hr (Nat.le_of_ble_eq_true rfl) (Nat.le_of_ble_eq_true rfl) rfl) ?_
  (repeat (refine Sq.finH (n := 21) ok hm (by repeat (first
    | exact Keep.nil
    | apply Keep.keep rfl)) ?_))
  exact ⟨_, .nil, rfl⟩

/-- A new one is made room. -/
theorem grow_ok {ro b n : Nat} {M : AM} (hr : ro ≤ b) (hb : b < M.next) (hn0 : 0 < n) (hn : n ≤ 1048576) (h : M.get b = some (bldR (ptrV b) (.slice none 0 0))) :
    FnC Try.prog tables ro 42 [ptrV b, .int .i64 (n : Int)] M (fun _ M' => Bld M' b M.next n 0 .nil [] ∧ Fr M M' [b] ∧ ro ≤ M.next) := by
  refine FnC.body (nt := 30) ok hm fn42 rfl rfl ?_
  refine Ex.facts fun hlt hron => ?_
  have hne : b ≠ M.next := Nat.ne_of_lt hb
  refine Ex.seq ok hm (Ex.grow ok hm 16 rfl (by kernel_rfl) fun V0 hV0 hA => ?_)
  refine Kq.pure (j := 0) (by kernel_rfl) rfl Want.none (fun N => Pu.move rfl) rfl rfl ?_
  refine Kq.pure (j := 1) (by kernel_rfl) rfl Want.none (fun N => Pu.nilCheck rfl) rfl rfl ?_
  refine Kq.pure (j := 2) (by kernel_rfl) rfl Want.none (fun N => Pu.fieldAddr hT rfl rfl rfl rfl rfl) rfl rfl ?_
  refine Kq.load (j := 3) hT hA (by kernel_rfl) rfl Want.none rfl rfl rfl h rfl rfl ?_
  refine Kq.pure (j := 4) (by kernel_rfl) rfl Want.none (fun N => Pu.capNil hT rfl rfl) rfl rfl ?_
  refine Kq.pure (j := 5) (by kernel_rfl) rfl Want.none (fun N => Pu.mul rfl rfl (by simp only [InR]; omega)) rfl rfl ?_
  refine Kq.pure (j := 6) (by kernel_rfl) rfl Want.none (fun N => Pu.move rfl) rfl rfl ?_
  refine Kq.pure (j := 7) (v := .int .i64 (n : Int)) (by kernel_rfl) rfl Want.none (fun N => by
    have := Pu.add (P := Try.prog) (vp := tables) (M := ⟨N, fun _ => none, .nil⟩) (E := [(11, .int .i64 (n : Int)), (10, .int .i64 (2 * 0))]) (t := 3) (t' := 3) (x := .tmp 10) (y := .tmp 11) (a := 2 * 0) (b := n) (k := .i64) rfl rfl (by simp only [InR]; omega)
    rw [show (2 * 0 + (n : Int)) = n by omega] at this
    exact fun ro ro' fr w o ho hE hM => this ro ro' fr w o ho (hE.sub ⟨rfl, rfl, trivial⟩) hM) rfl rfl ?_
  refine Kq.pure (j := 9) (by kernel_rfl) rfl Want.none (fun N => Pu.move rfl) rfl rfl ?_
  refine Kq.pure (j := 10) (by kernel_rfl) rfl Want.none (fun N => Pu.nilCheck rfl) rfl rfl ?_
  refine Kq.pure (j := 11) (by kernel_rfl) rfl Want.none (fun N => Pu.fieldAddr hT rfl rfl rfl rfl rfl) rfl rfl ?_
  refine Kq.load (j := 12) hT hA (by kernel_rfl) rfl Want.none rfl rfl rfl h rfl rfl ?_
  refine Kq.pure (j := 13) (by kernel_rfl) rfl Want.none (fun N => Pu.lenL hT rfl rfl) rfl rfl ?_
  refine Kq.op (j := 8) (by kernel_rfl) rfl Want.none (Op1.makeNoZero (n := n) hT rfl rfl fnX44 ext44 rfl rfl (by omega)) rfl ?_
  refine Kq.pu (j := 14) (by kernel_rfl) rfl Want.none (Pu.sliceRaw hT rfl rfl rfl rfl AM.add_same rfl (by decide) (by omega) hn0) rfl ?_
  refine Kq.pu (j := 15) (by kernel_rfl) rfl Want.none (Pu.assign rfl) rfl ?_
  refine Kq.fin (N := 5) (by kernel_rfl) (by repeat (first
    | exact Keep.nil
    | apply Keep.drop rfl
    | apply Keep.keep rfl)) ⟨rfl, ?_⟩
  have h2 : (M.add (partO 5 n 0 .nil)).get b = some (bldR (ptrV b) (.slice none 0 0)) := (AM.add_ne hne).trans h
  (repeat (first
    | refine Ex.seq ok hm ?_
    | refine Ex.region ok hm ?_
    | refine Sq.pu ok hm Want.none (by first
    | exact Pu.move rfl
    | exact Pu.nilCheck rfl
    | exact Pu.fieldAddr hT rfl rfl rfl rfl rfl
    | (apply Pu.load hT rfl rfl rfl; (focus ((repeat (assumption)))); (focus rfl))) rfl ?_))
  refine Sq.pu ok hm Want.none (Pu.copy0 hT rfl rfl rfl rfl rfl) rfl ?_
  (repeat (first
    | refine Ex.region ok hm ?_
    | refine Sq.pu ok hm Want.none (by first
    | exact Pu.move rfl
    | exact Pu.nilCheck rfl
    | exact Pu.fieldAddr hT rfl rfl rfl rfl rfl) rfl ?_
    | refine Sq.finH (n := 5) ok hm (by repeat (first
    | exact Keep.nil
    | apply Keep.drop rfl
    | apply Keep.keep rfl)) ?_))
  refine Sq.act ok hm Want.none (Op1.store hT rfl rfl rfl rfl h2 hr (Nat.le_of_ble_eq_true rfl) (Nat.le_of_ble_eq_true rfl) rfl) ?_
  (repeat (refine Sq.finH (n := 5) ok hm (by repeat (first
    | exact Keep.nil
    | apply Keep.drop rfl
    | apply Keep.keep rfl)) ?_))
  exact ⟨_, .nil, ⟨AM.upd_same, (AM.upd_ne (Ne.symm hne)).trans AM.add_same, Front.nil, Nat.le_refl _, hne⟩, (Fr.add M _ [b]).upd' _ (.inl (by simp)), hron⟩

theorem Grow_ok {ro b n : Nat} {M : AM} (hr : ro ≤ b) (hb : b < M.next) (hn0 : 0 < n) (hn : n ≤ 1048576) (h : M.get b = some (bldR (.pointer none) (.slice none 0 0))) :
    FnC Try.prog tables ro 35 [ptrV b, .int .i64 (n : Int)] M (fun _ M' => Bld M' b M.next n 0 .nil [] ∧ Fr M M' [b] ∧ ro ≤ M.next) := by
  refine FnC.body (nt := 25) ok hm fn35 rfl rfl ?_
  (repeat (first
    | refine Ex.seq ok hm ?_
    | refine Ex.region ok hm ?_
    | refine Sq.pu ok hm Want.none (by exact Pu.move rfl) rfl ?_))
  refine Sq.call ok Want.none (Op1.call rfl rfl fn41) rfl (FnC.mono (check0_ok hr h) ?_)
  rintro x M1 rfl
  have h1 : (M.upd b (bldR (ptrV b) (.slice none 0 0))).get b = some (bldR (ptrV b) (.slice none 0 0)) := AM.upd_same
  have hF1 : Fr M (M.upd b (bldR (ptrV b) (.slice none 0 0))) [b] := Fr.upd (by simp)
  have hnx : (M.upd b (bldR (ptrV b) (.slice none 0 0))).next = M.next := rfl
  generalize M.upd b (bldR (ptrV b) (.slice none 0 0)) = M1 at h1 hF1 hnx ⊢
  (repeat (first
    | refine Ex.seq ok hm ?_
    | refine Ex.skip ok hm ?_
    | refine Ex.region ok hm ?_
    | refine Sq.pu ok hm Want.none (by first
    | exact Pu.move rfl
    | exact Pu.lssI rfl rfl) rfl ?_
    | refine Sq.finH (n := 5) ok hm (by repeat (first
    | exact Keep.nil
    | apply Keep.drop rfl
    | apply Keep.keep rfl)) ?_
    | refine Ex.condF ok hm rfl (by rfl) ?_))
  refine Ex.draw ok hm 12 (by kernel_rfl) ?_
  (repeat (refine Hq.pu Want.none (by first
    | exact Pu.move rfl
    | exact Pu.nilCheck rfl
    | exact Pu.fieldAddr hT rfl rfl rfl rfl rfl
    | (apply Pu.load hT rfl rfl rfl; (focus ((repeat (assumption)))); (focus rfl))) rfl rfl rfl ?_))
  refine Hq.pu Want.none (Pu.capNil hT rfl rfl) rfl rfl rfl ?_
  (repeat (refine Hq.pu Want.none (by first
    | exact Pu.move rfl
    | exact Pu.nilCheck rfl
    | exact Pu.fieldAddr hT rfl rfl rfl rfl rfl
    | (apply Pu.load hT rfl rfl rfl; (focus ((repeat (assumption)))); (focus rfl))
    | exact Pu.lenL hT rfl rfl) rfl rfl rfl ?_))
  refine Hq.pu Want.none (Pu.sub (k := .i64) rfl rfl (by simp only [InR]; omega)) rfl rfl rfl ?_
  (repeat (first
    | refine Ex.region ok hm ?_
    | refine Sq.pu ok hm Want.none (by exact Pu.move rfl) rfl ?_
    | refine Hq.pu Want.none (by exact Pu.move rfl) rfl rfl rfl ?_
    | refine Hq.nil ?_
    | refine Tq.pu Want.none (by exact Pu.lssI rfl rfl) rfl ?_
    | refine Tq.finH (n := 5)  (by repeat (first
    | exact Keep.nil
    | apply Keep.drop rfl
    | apply Keep.keep rfl)) ?_
    | refine Ex.condT ok hm rfl (by first
    | rfl
    | exact decide_eq_true (by omega)) ?_))
  refine Sq.call ok Want.none (Op1.call rfl rfl fn42) rfl (FnC.mono (grow_ok hr (by omega) hn0 hn h1) ?_)
  rintro x M2 ⟨hB, hF, hron⟩
  rw [hnx] at hB hron
  (repeat (refine Sq.finH (n := 5) ok hm (by repeat (first
    | exact Keep.nil
    | apply Keep.drop rfl
    | apply Keep.keep rfl)) ?_))
  exact ⟨_, .nil, hB, hF1.trans hF (by simp), hron⟩

/-- A text more. -/
theorem WriteString_ok {ro b q n k : Nat} {c : Tr Value} {l t : List UInt8} {M : AM} (hr : ro ≤ b) (hrq : ro ≤ q) (h : Bld M b q n k c l) (h0 : t ≠ []) (hn : l.length + t.length ≤ n) (hn2 : n ≤ 1048576) :
    FnC Try.prog tables ro 36 [ptrV b, strB t] M (fun _ M' => (∃ c', Bld M' b q n k c' (l ++ t)) ∧ Fr M M' [b, q]) := by
  refine FnC.body (nt := 19) ok hm fn36 rfl rfl ?_
  obtain ⟨hrow, hbuf, hfr, hle, hne⟩ := h
  (repeat (first
    | refine Ex.seq ok hm ?_
    | refine Ex.region ok hm ?_
    | refine Sq.pu ok hm Want.none (by first
    | exact Pu.move rfl
    | exact Pu.assign rfl) rfl ?_
    | refine Sq.finH (n := 6) ok hm (by repeat (first
    | exact Keep.nil
    | apply Keep.keep rfl)) ?_))
  refine Sq.call ok Want.none (Op1.call rfl rfl fn41) rfl (FnC.mono (check_ok hrow) ?_)
  rintro x M1 rfl
  (repeat (first
    | refine Ex.seq ok hm ?_
    | refine Ex.region ok hm ?_
    | refine Sq.pu ok hm Want.none (by first
    | exact Pu.move rfl
    | exact Pu.nilCheck rfl
    | exact Pu.fieldAddr hT rfl rfl rfl rfl rfl
    | (apply Pu.load hT rfl rfl rfl; (focus ((repeat (assumption)))); (focus rfl))) rfl ?_
    | refine Sq.finH (n := 6) ok hm (by repeat (first
    | exact Keep.nil
    | apply Keep.drop rfl
    | apply Keep.keep rfl)) ?_))
  refine Sq.op ok hm Want.none (Op1.appendRaw hT rfl rfl hbuf hrq hle h0 hn rfl rfl rfl rfl rfl) rfl ?_
  have hrow2 : (M1.upd q (partO 5 n k (c.putL l.length (t.map fun b => .int .u8 (.ofNat b.toNat))))).get b = some (bldR (ptrV b) (.slice (some ⟨q, 0, none⟩) l.length n)) := (AM.upd_ne hne).trans hrow
  (repeat (refine Sq.pu ok hm Want.none (by first
    | exact Pu.nilCheck rfl
    | exact Pu.fieldAddr hT rfl rfl rfl rfl rfl) rfl ?_))
  refine Sq.act ok hm Want.none (Op1.store hT rfl rfl rfl rfl hrow2 hr (Nat.le_of_ble_eq_true rfl) (Nat.le_of_ble_eq_true rfl) rfl) ?_
  (repeat (first
    | refine Ex.seq ok hm ?_
    | refine Ex.region ok hm ?_
    | refine Sq.pu ok hm Want.none (by first
    | exact Pu.move rfl
    | exact Pu.assign rfl
    | exact Pu.lenS hT rfl rfl) rfl ?_
    | refine Sq.finH (n := 6) ok hm (by repeat (first
    | exact Keep.nil
    | apply Keep.drop rfl
    | apply Keep.keep rfl)) ?_
    | refine Ex.ret ok hm ?_))
  refine ⟨_, .tmp rfl (.tmp rfl .nil), ⟨_, ?_, (AM.upd_ne (Ne.symm hne)).trans AM.upd_same, hfr.put hn, by rw [List.length_append]; omega, hne⟩, ((Fr.refl M1 _).upd' _ (.inl (by simp))).upd' _ (.inl (by simp))⟩
  rw [List.length_append]; exact AM.upd_same

theorem Len_b_ok {ro b q n k : Nat} {c : Tr Value} {l : List UInt8} {M : AM} (h : Bld M b q n k c l) :
    FnC Try.prog tables ro 37 [ptrV b] M (fun v M' => v = .int .i64 (l.length : Int) ∧ M' = M) := by
  refine FnC.body (nt := 8) ok hm fn37 rfl rfl ?_
  have hrow := h.row
  (repeat (first
    | refine Ex.seq ok hm ?_
    | refine Ex.region ok hm ?_
    | refine Sq.pu ok hm Want.none (by first
    | exact Pu.move rfl
    | exact Pu.assign rfl
    | exact Pu.nilCheck rfl
    | exact Pu.fieldAddr hT rfl rfl rfl rfl rfl
    | (apply Pu.load hT rfl rfl rfl; (focus ((repeat (assumption)))); (focus rfl))
    | exact Pu.lenL hT rfl rfl) rfl ?_
    | refine Sq.finH (n := 3) ok hm (by repeat (first
    | exact Keep.nil
    | apply Keep.drop rfl
    | apply Keep.keep rfl)) ?_
    | refine Ex.ret ok hm ?_))
  exact ⟨_, .tmp rfl .nil, rfl, rfl⟩

/-- What it has, as a text. -/
theorem String_ok {ro b q n k : Nat} {c : Tr Value} {l : List UInt8} {M : AM} (hrq : ro ≤ q) (h : Bld M b q n k c l) (h0 : l ≠ []) (hn2 : n ≤ 1048576) :
    FnC Try.prog tables ro 38 [ptrV b] M (fun v M' => v = strB l ∧ Bld M' b q n l.length c l ∧ Fr M M' [q]) := by
  refine FnC.body (nt := 14) ok hm fn38 rfl rfl ?_
  obtain ⟨hrow, hbuf, hfr, hle, hne⟩ := h
  have hlp := List.length_pos_iff.2 h0
  have hln := hfr.1
  (repeat (first
    | refine Ex.seq ok hm ?_
    | refine Ex.region ok hm ?_
    | refine Sq.pu ok hm Want.none (by exact Pu.assign rfl) rfl ?_
    | refine Sq.finH (n := 3) ok hm (by repeat (first
    | exact Keep.nil
    | apply Keep.keep rfl)) ?_))
  refine Ex.draw ok hm 10 (by kernel_rfl) ?_
  (repeat (refine Hq.pu Want.none (by first
    | exact Pu.move rfl
    | exact Pu.nilCheck rfl
    | exact Pu.fieldAddr hT rfl rfl rfl rfl rfl
    | (apply Pu.load hT rfl rfl rfl; (focus ((repeat (assumption)))); (focus rfl))) rfl rfl rfl ?_))
  refine Hq.pu Want.none (Pu.sliceData (by omega) rfl) rfl rfl rfl ?_
  (repeat (first
    | refine Hq.pu Want.none (by first
    | exact Pu.move rfl
    | exact Pu.nilCheck rfl
    | exact Pu.fieldAddr hT rfl rfl rfl rfl rfl
    | (apply Pu.load hT rfl rfl rfl; (focus ((repeat (assumption)))); (focus rfl))
    | exact Pu.lenL hT rfl rfl) rfl rfl rfl ?_
    | refine Hq.nil ?_))
  refine Tq.op Want.none (Op1.unsafeStr hT rfl rfl h0 hbuf hfr hrq (by omega) hle rfl rfl rfl) rfl ?_
  (repeat (first
    | refine Tq.pu Want.none (by exact Pu.assign rfl) rfl ?_
    | refine Tq.finH (n := 3)  (by repeat (first
    | exact Keep.nil
    | apply Keep.drop rfl
    | apply Keep.keep rfl)) ?_
    | refine Ex.ret ok hm ?_))
  exact ⟨_, .tmp rfl .nil, rfl, ⟨(AM.upd_ne hne).trans hrow, AM.upd_same, hfr, Nat.le_refl _, hne⟩, (Fr.refl M _).upd' _ (.inl (by simp))⟩
end Go.Proofs.Ytpglehckhnencaa
/- N -/
namespace Go.Proofs.Ytpglehckhnencaa
open Go.Wvm Sk
set_option linter.unusedVariables false
set_option linter.unusedSimpArgs false

theorem rep_take (L m : Nat) (h : m ≤ L) : (List.replicate L (0 : UInt8)).take m = List.replicate m 0 := by
  rw [List.take_replicate, Nat.min_eq_left h]
theorem rep_ne {m : Nat} (h : 0 < m) : List.replicate m (0 : UInt8) ≠ [] := by
  intro e
  have := congrArg List.length e
  simp at this; omega

set_option maxRecDepth 20000 in
set_option maxHeartbeats 16000000 in
theorem Repeat_ok {ro n : Nat} {M : AM} (h2 : 2 ≤ n) (hn : n ≤ 1048576) :
    FnC Try.prog tables ro 30 [strB [0], .int .i64 (n : Int)] M (fun v M' => v = strB (List.replicate n 0) ∧ Fr M M' []) := by
  refine FnC.body (nt := 125) ok hm fn30 rfl rfl ?_
  refine Ex.facts fun hlt hron => ?_
  (repeat (first
    | refine Ex.seq ok hm ?_
    | refine Ex.block ok hm ?_
    | refine Ex.skip ok hm ?_
    | refine Ex.region ok hm ?_
    | refine Sq.pu ok hm Want.none (by first
    | exact Pu.move rfl
    | exact Pu.assign rfl
    | exact Pu.lssI rfl rfl
    | exact Pu.eqlI rfl rfl
    | exact Pu.lenS hT rfl rfl
    | exact Pu.convN hT rfl rfl rfl (by simp only [InR]; omega)
    | exact Pu.convU64 hT rfl rfl rfl) rfl ?_
    | refine Sq.finH (n := 126) ok hm (by repeat (first
    | exact Keep.nil
    | apply Keep.keep rfl)) ?_
    | refine Ex.condF ok hm rfl (by first
    | rfl
    | exact decide_eq_false (by omega)) ?_))
  refine Sq.call ok Want.none (Op1.call rfl rfl fn33) rfl (FnC.mono (Mul_ok (x := 1) (y := n) (by omega) (by omega)) ?_)
  rintro x M1 ⟨rfl, rfl⟩
  rw [show 1 * n / 18446744073709551616 = 0 by omega, show 1 * n % 18446744073709551616 = n by omega]
  (repeat (first
    | refine Ex.seq ok hm ?_
    | refine Ex.skip ok hm ?_
    | refine Ex.region ok hm ?_
    | refine Sq.pu ok hm Want.none (by first
    | exact Pu.move rfl
    | exact Pu.assign rfl
    | exact Pu.extract rfl rfl
    | exact Pu.gtrI rfl rfl
    | exact Pu.eqlI rfl rfl
    | exact Pu.lenS hT rfl rfl
    | exact Pu.pickF rfl (by rfl) rfl
    | exact Pu.convN hT rfl rfl rfl (by simp only [InR]; omega)) rfl ?_
    | refine Sq.pu ok hm (by first
    | exact Want.none
    | exact Want.yes rfl rfl rfl (by rfl)) (by first
    | exact Pu.move rfl
    | exact Pu.gtrI rfl rfl) rfl ?_
    | refine Sq.finH (n := 126) ok hm (by repeat (first
    | exact Keep.nil
    | apply Keep.keep rfl)) ?_
    | refine Ex.condF ok hm rfl (by first
    | rfl
    | exact decide_eq_false (by omega)) ?_))
  refine Sq.pu ok hm Want.none (Pu.indexS (l := [0]) (k := .i64) (i := 0) hT rfl rfl rfl (by decide) (by decide)) rfl ?_
  rw [show (([0] : List UInt8).getD (Int.toNat 0) 0).toNat = 0 from rfl]
  (repeat (first
    | refine Ex.seq ok hm ?_
    | refine Ex.block ok hm ?_
    | refine Ex.skip ok hm ?_
    | refine Ex.region ok hm ?_
    | refine Sq.pu ok hm Want.none (by first
    | exact Pu.move rfl
    | exact Pu.assign rfl
    | exact Pu.gtrI rfl rfl
    | exact Pu.eqlI rfl rfl) rfl ?_
    | refine Sq.finH (n := 126) ok hm (by repeat (first
    | exact Keep.nil
    | apply Keep.keep rfl)) ?_
    | refine Ex.condF ok hm rfl (by rfl) ?_))
  refine Ex.cut [(0, strB [0]), (7, .int .i64 (n : Int)), (8, .int .i64 ((if 8192 < n then 8192 else n : Nat) : Int))] (fun M' => M' = M1) ?_ ?_
  · by_cases h : 8192 < n
    · rw [if_pos h]
      (repeat (first
    | refine Ex.seq ok hm ?_
    | refine Ex.region ok hm ?_
    | refine Sq.pu ok hm Want.none (by first
    | exact Pu.move rfl
    | exact Pu.quoN rfl rfl (by decide) (by simp only [InR]; omega)
    | exact Pu.lenS hT rfl rfl) rfl ?_
    | refine Ex.condT ok hm rfl (by first
    | rfl
    | exact decide_eq_true (by omega)) ?_))
      refine Sq.pu ok hm Want.none (Pu.mul (k := .i64) rfl rfl (by simp only [InR]; decide)) rfl ?_
      (repeat (first
    | refine Ex.seq ok hm ?_
    | refine Ex.skip ok hm ?_
    | refine Ex.region ok hm ?_
    | refine Sq.pu ok hm Want.none (by first
    | exact Pu.move rfl
    | exact Pu.assign rfl
    | exact Pu.eqlI rfl rfl) rfl ?_
    | refine Sq.finH (n := 126) ok hm (by repeat (first
    | exact Keep.nil
    | apply Keep.keep rfl)) ?_
    | refine Ex.condF ok hm rfl (by rfl) ?_))
      exact ⟨rfl, ⟨rfl, rfl, rfl, trivial⟩, rfl⟩
    · rw [if_neg h]
      (repeat (first
    | refine Ex.skip ok hm ?_
    | refine Ex.condF ok hm rfl (by first
    | rfl
    | exact decide_eq_false (by omega)) ?_))
      exact ⟨rfl, ⟨rfl, rfl, rfl, trivial⟩, rfl⟩
  rintro M2 rfl
  obtain ⟨C, hC, hC1⟩ : ∃ C, C = (if 8192 < n then 8192 else n) ∧ 1 ≤ C := ⟨_, rfl, by split <;> omega⟩
  rw [← hC]
  (repeat (first
    | refine Ex.seq ok hm ?_
    | refine Ex.region ok hm ?_))
  refine Sq.op ok hm Want.none (Op1.alloc hT rfl rfl rfl) rfl ?_
  have hb0 : (M2.add (bldR (.pointer none) (.slice none 0 0))).get M2.next = some (bldR (.pointer none) (.slice none 0 0)) := AM.add_same
  have hF0 : Fr M2 (M2.add (bldR (.pointer none) (.slice none 0 0))) [] := Fr.add _ _ _
  have hnx0 : (M2.add (bldR (.pointer none) (.slice none 0 0))).next = M2.next + 1 := rfl
  show Sq Try.prog tables ro ⟨30, 125⟩ _ _ _ (M2.add (bldR (.pointer none) (.slice none 0 0))) _
  generalize M2.add (bldR (.pointer none) (.slice none 0 0)) = M3 at hb0 hF0 hnx0 ⊢
  obtain ⟨b, hb⟩ : ∃ b, b = M2.next := ⟨_, rfl⟩
  rw [← hb] at hb0 hnx0 ⊢
  (repeat (first
    | refine Ex.seq ok hm ?_
    | refine Ex.region ok hm ?_
    | refine Sq.pu ok hm Want.none (by exact Pu.move rfl) rfl ?_
    | refine Sq.finH (n := 10) ok hm (by repeat (first
    | exact Keep.nil
    | apply Keep.keep rfl)) ?_))
  refine Sq.call ok Want.none (Op1.call rfl rfl fn35) rfl (FnC.mono (Grow_ok (n := n) (by omega) (by omega) (by omega) hn hb0) ?_)
  rintro x M4 ⟨hB4, hF4, hro4⟩
  obtain ⟨q, hq⟩ : ∃ q, q = M3.next := ⟨_, rfl⟩
  rw [← hq] at hB4 hro4
  have hFb : ∀ M', Fr M3 M' [b] → Fr M2 M' [] := fun M' h => hF0.trans h (fun x hx => by simp at hx; right; omega)
  (repeat (first
    | refine Ex.seq ok hm ?_
    | refine Ex.region ok hm ?_
    | refine Sq.pu ok hm Want.none (by exact Pu.move rfl) rfl ?_
    | refine Sq.finH (n := 10) ok hm (by repeat (first
    | exact Keep.nil
    | apply Keep.drop rfl
    | apply Keep.keep rfl)) ?_))
  refine Sq.call ok Want.none (Op1.call rfl rfl fn36) rfl (FnC.mono (WriteString_ok (t := [0]) (by omega) hro4 hB4 (by simp) (by simp; omega) hn) ?_)
  rintro x M5 ⟨⟨c5, hB5⟩, hF5⟩
  have hF25 : Fr M2 M5 [] := (hFb _ hF4).trans hF5 (fun x hx => by simp at hx; right; omega)
  (repeat (first
    | refine Ex.seq ok hm ?_
    | refine Ex.block ok hm ?_
    | refine Sq.finH (n := 10) ok hm (by repeat (first
    | exact Keep.nil
    | apply Keep.drop rfl
    | apply Keep.keep rfl)) ?_))
  refine Ex.loop ?_
  refine Lp.inv ok hm (α := Nat)
    (fun L E M' => E = [(0, strB [0]), (7, .int .i64 (n : Int)), (8, .int .i64 (C : Int)), (9, ptrV b)] ∧ 1 ≤ L ∧ L ≤ n ∧ (∃ k c, Bld M' b q n k c (List.replicate L 0)) ∧ Fr M2 M' [])
    (fun L => n - L) ?_ 1 [(0, strB [0]), (7, .int .i64 (n : Int)), (8, .int .i64 (C : Int)), (9, ptrV b)] ⟨rfl, rfl, rfl, rfl, trivial⟩ ⟨rfl, Nat.le_refl _, by omega, ⟨_, _, hB5⟩, hF25⟩
  intro L E M6 ⟨hE, hL1, hLn, ⟨k, c, hB⟩, hF⟩
  subst hE
  have hlen : (List.replicate L (0 : UInt8)).length = L := List.length_replicate
  refine Ex.seq ok hm (Ex.seq ok hm (Ex.region ok hm ?_))
  refine Sq.call ok Want.none (Op1.call rfl rfl fn37) rfl (FnC.mono (Len_b_ok hB) ?_)
  rintro x M7 ⟨rfl, rfl⟩
  rw [hlen]
  by_cases hlt : L < n
  · (repeat (first
    | refine Ex.seq ok hm ?_
    | refine Ex.block ok hm ?_
    | refine Ex.skip ok hm ?_
    | refine Ex.region ok hm ?_
    | refine Sq.pu ok hm Want.none (by first
    | exact Pu.move rfl
    | exact Pu.lssI rfl rfl) rfl ?_
    | refine Sq.finH (n := 10) ok hm (by repeat (first
    | exact Keep.nil
    | apply Keep.drop rfl
    | apply Keep.keep rfl)) ?_
    | refine Ex.condT ok hm rfl (by first
    | rfl
    | exact decide_eq_true (by omega)) ?_))
    refine Sq.call ok Want.none (Op1.call rfl rfl fn37) rfl (FnC.mono (Len_b_ok hB) ?_)
    rintro x M8 ⟨rfl, rfl⟩
    rw [hlen]
    refine Sq.pu ok hm Want.none (Pu.subZ (k := .i64) (a := n) (b := L) (n - L) (by omega) (by simp only [InR]; omega) rfl rfl) rfl ?_
    refine Sq.call ok Want.none (Op1.call rfl rfl fn37) rfl (FnC.mono (Len_b_ok hB) ?_)
    rintro x M9 ⟨rfl, rfl⟩
    rw [hlen]
    (repeat (refine Sq.pu ok hm Want.none (by exact Pu.move rfl) rfl ?_))
    refine Sq.pu ok hm Want.none (Pu.min3 rfl rfl rfl) rfl ?_
    obtain ⟨m, hm1, hm2, hm3, hm4⟩ : ∃ m : Nat, min (min ((n - L : Nat) : Int) (L : Int)) (C : Int) = (m : Int) ∧ 1 ≤ m ∧ m ≤ L ∧ m ≤ n - L := ⟨min (min (n - L) L) C, by omega, by omega, by omega, by omega⟩
    rw [hm1]
    (repeat (first
    | refine Ex.region ok hm ?_
    | refine Sq.pu ok hm Want.none (by exact Pu.assign rfl) rfl ?_
    | refine Sq.finH (n := 11) ok hm (by repeat (first
    | exact Keep.nil
    | apply Keep.drop rfl
    | apply Keep.keep rfl)) ?_))
    refine Sq.call ok Want.none (Op1.call rfl rfl fn38) rfl (FnC.mono (String_ok hro4 hB (rep_ne hL1) hn) ?_)
    rintro x M10 ⟨rfl, hB10, hF10⟩
    refine Sq.pu ok hm Want.none (Pu.move rfl) rfl ?_
    refine Sq.pu ok hm Want.none (Pu.sliceHi (b := m) hT (by rw [hlen]; exact hm3) rfl rfl rfl) rfl ?_
    rw [rep_take L m hm3]
    refine Sq.call ok Want.none (Op1.call rfl rfl fn36) rfl (FnC.mono (WriteString_ok (t := List.replicate m 0) (by omega) hro4 hB10 (rep_ne hm2) (by rw [hlen, List.length_replicate]; omega) hn) ?_)
    rintro x M11 ⟨⟨c11, hB11⟩, hF11⟩
    rw [List.replicate_append_replicate] at hB11
    (repeat (refine Sq.finH (n := 10) ok hm (by repeat (first
    | exact Keep.nil
    | apply Keep.drop rfl
    | apply Keep.keep rfl)) ?_))
    refine ⟨L + m, [(0, strB [0]), (7, .int .i64 (n : Int)), (8, .int .i64 (C : Int)), (9, ptrV b)], ?_, ⟨rfl, rfl, rfl, rfl, trivial⟩, rfl, by omega, by omega, ⟨_, _, hB11⟩, (hF.trans hF10 (fun x hx => by simp at hx; right; omega)).trans hF11 (fun x hx => by simp at hx; right; omega)⟩
    show n - (L + m) < n - L
    omega
  · obtain rfl : L = n := by omega
    (repeat (first
    | refine Ex.seq ok hm ?_
    | refine Ex.region ok hm ?_
    | refine Sq.pu ok hm Want.none (by first
    | exact Pu.move rfl
    | exact Pu.lssI rfl rfl) rfl ?_
    | refine Sq.finH (n := 10) ok hm (by repeat (first
    | exact Keep.nil
    | apply Keep.drop rfl
    | apply Keep.keep rfl)) ?_
    | refine Ex.condF ok hm rfl (by first
    | rfl
    | exact decide_eq_false (by omega)) ?_
    | refine Ex.exit ok hm ?_))
    refine Sq.call ok Want.none (Op1.call rfl rfl fn38) rfl (FnC.mono (String_ok hro4 hB (rep_ne hL1) hn) ?_)
    rintro x M10 ⟨rfl, hB10, hF10⟩
    (repeat (first
    | refine Sq.pu ok hm Want.none (by exact Pu.assign rfl) rfl ?_
    | refine Sq.finH (n := 10) ok hm (by repeat (first
    | exact Keep.nil
    | apply Keep.drop rfl
    | apply Keep.keep rfl)) ?_
    | refine Ex.ret ok hm ?_))
    exact ⟨_, .tmp rfl .nil, rfl, hF.trans hF10 (fun x hx => by simp at hx; right; omega)⟩
end Go.Proofs.Ytpglehckhnencaa
/- N -/
namespace Go.Proofs.Ytpglehckhnencaa
open Go.Wvm Sk
set_option linter.unusedVariables false
set_option linter.unusedSimpArgs false

/-- What New answers. -/
def newV (p : Int) : Value := if 4 ≤ p ∧ p ≤ 16 then .tuple ⟨[strV (zeroS p.toNat), .int .i64 0]⟩ else .tuple ⟨[strV [], .int .i64 1]⟩
theorem newV_ok {p : Nat} (h0 : 4 ≤ p) (h1 : p ≤ 16) : newV p = .tuple ⟨[strV (zeroS p), .int .i64 0]⟩ := if_pos ⟨by omega, by omega⟩
theorem newV_no {p : Int} (h : p < 4 ∨ 16 < p) : newV p = .tuple ⟨[strV [], .int .i64 1]⟩ := if_neg (by omega)

theorem New_ok {ro : Nat} {M : AM} {p : Int} (hp : InR .i64 p) :
    FnC Try.prog tables ro 15 [.int .i64 p] M (fun v M' => v = newV p ∧ Fr M M' []) := by
  refine FnC.body (nt := 13) ok hm fn15 rfl rfl ?_
  simp only [InR] at hp
  rcases (show p < 4 ∨ 16 < p ∨ (4 ≤ p ∧ p ≤ 16) by omega) with h | h | h
  · rw [newV_no (.inl h)]
    (repeat (first
    | refine Ex.seq ok hm ?_
    | refine Ex.region ok hm ?_
    | refine Sq.pu ok hm Want.none (by first
    | exact Pu.move rfl
    | exact Pu.assign rfl
    | exact Pu.lssI rfl rfl
    | exact Pu.pickT rfl (by first
    | rfl
    | exact decide_eq_true (by omega)) rfl) rfl ?_
    | refine Sq.skip ok hm (by exact Want.no rfl rfl rfl (by first
    | rfl
    | exact decide_eq_true (by omega))) rfl ?_
    | refine Sq.finH (n := 4) ok hm (by repeat (first
    | exact Keep.nil
    | apply Keep.drop rfl
    | apply Keep.keep rfl)) ?_
    | refine Ex.condT ok hm rfl (by rfl) ?_
    | refine Ex.ret ok hm ?_))
    exact ⟨_, .tmp rfl (.tmp rfl .nil), rfl, Fr.refl _ _⟩
  · rw [newV_no (.inr h)]
    (repeat (first
    | refine Ex.seq ok hm ?_
    | refine Ex.region ok hm ?_
    | refine Sq.pu ok hm Want.none (by first
    | exact Pu.move rfl
    | exact Pu.assign rfl
    | exact Pu.lssI rfl rfl
    | exact Pu.gtrI rfl rfl
    | exact Pu.pickF rfl (by first
    | rfl
    | exact decide_eq_false (by omega)) rfl) rfl ?_
    | refine Sq.pu ok hm (by exact Want.yes rfl rfl rfl (by first
    | rfl
    | exact decide_eq_false (by omega))) (by first
    | exact Pu.move rfl
    | exact Pu.gtrI rfl rfl) rfl ?_
    | refine Sq.finH (n := 4) ok hm (by repeat (first
    | exact Keep.nil
    | apply Keep.drop rfl
    | apply Keep.keep rfl)) ?_
    | refine Ex.condT ok hm rfl (by first
    | rfl
    | exact decide_eq_true (by omega)) ?_
    | refine Ex.ret ok hm ?_))
    exact ⟨_, .tmp rfl (.tmp rfl .nil), rfl, Fr.refl _ _⟩
  · obtain ⟨k, rfl⟩ : ∃ k : Nat, p = k := ⟨p.toNat, by omega⟩
    have hpw := pow_p (p := k) (by omega) (by omega)
    rw [newV_ok (by omega) (by omega)]
    (repeat (first
    | refine Ex.seq ok hm ?_
    | refine Ex.skip ok hm ?_
    | refine Ex.region ok hm ?_
    | refine Sq.pu ok hm Want.none (by first
    | exact Pu.move rfl
    | exact Pu.assign rfl
    | exact Pu.lssI rfl rfl
    | exact Pu.gtrI rfl rfl
    | exact Pu.pickF rfl (by first
    | rfl
    | exact decide_eq_false (by omega)) rfl) rfl ?_
    | refine Sq.pu ok hm (by first
    | exact Want.none
    | exact Want.yes rfl rfl rfl (by first
    | rfl
    | exact decide_eq_false (by omega))) (by first
    | exact Pu.move rfl
    | exact Pu.gtrI rfl rfl) rfl ?_
    | refine Sq.finH (n := 4) ok hm (by repeat (first
    | exact Keep.nil
    | apply Keep.drop rfl
    | apply Keep.keep rfl)) ?_
    | refine Ex.condF ok hm rfl (by first
    | rfl
    | exact decide_eq_false (by omega)) ?_))
    refine Sq.pu ok hm Want.none (Pu.shlN (k := .i64) (a := 1) (b := k) rfl rfl (by show k ≤ 64; omega) (by simp only [InR]; omega)) rfl ?_
    rw [Nat.one_mul]
    refine Sq.call ok Want.none (Op1.call rfl rfl fn30) rfl (FnC.mono (Repeat_ok (n := 2 ^ k) (by omega) (by omega)) ?_)
    rintro x M1 ⟨rfl, hF⟩
    (repeat (first
    | refine Sq.pu ok hm Want.none (by exact Pu.assign rfl) rfl ?_
    | refine Sq.finH (n := 4) ok hm (by repeat (first
    | exact Keep.nil
    | apply Keep.drop rfl
    | apply Keep.keep rfl)) ?_
    | refine Ex.ret ok hm ?_))
    exact ⟨_, .tmp rfl (.tmp rfl .nil), rfl, hF⟩

theorem RNew_ok {ro : Nat} {M : AM} {p : Int} (hp : InR .i64 p) :
    FnC Try.prog tables ro 16 [.int .i64 p] M (fun v M' => v = newV p ∧ Fr M M' []) := by
  refine FnC.body (nt := 14) ok hm fn16 rfl rfl ?_
  simp only [InR] at hp
  rcases (show p < 4 ∨ 16 < p ∨ (4 ≤ p ∧ p ≤ 16) by omega) with h | h | h
  · rw [newV_no (.inl h)]
    (repeat (first
    | refine Ex.seq ok hm ?_
    | refine Ex.region ok hm ?_
    | refine Sq.pu ok hm Want.none (by first
    | exact Pu.move rfl
    | exact Pu.assign rfl
    | exact Pu.lssI rfl rfl
    | exact Pu.pickT rfl (by first
    | rfl
    | exact decide_eq_true (by omega)) rfl) rfl ?_
    | refine Sq.skip ok hm (by exact Want.no rfl rfl rfl (by first
    | rfl
    | exact decide_eq_true (by omega))) rfl ?_
    | refine Sq.finH (n := 4) ok hm (by repeat (first
    | exact Keep.nil
    | apply Keep.drop rfl
    | apply Keep.keep rfl)) ?_
    | refine Ex.condT ok hm rfl (by rfl) ?_
    | refine Ex.ret ok hm ?_))
    exact ⟨_, .tmp rfl (.tmp rfl .nil), rfl, Fr.refl _ _⟩
  · rw [newV_no (.inr h)]
    (repeat (first
    | refine Ex.seq ok hm ?_
    | refine Ex.region ok hm ?_
    | refine Sq.pu ok hm Want.none (by first
    | exact Pu.move rfl
    | exact Pu.assign rfl
    | exact Pu.lssI rfl rfl
    | exact Pu.gtrI rfl rfl
    | exact Pu.pickF rfl (by first
    | rfl
    | exact decide_eq_false (by omega)) rfl) rfl ?_
    | refine Sq.pu ok hm (by exact Want.yes rfl rfl rfl (by first
    | rfl
    | exact decide_eq_false (by omega))) (by first
    | exact Pu.move rfl
    | exact Pu.gtrI rfl rfl) rfl ?_
    | refine Sq.finH (n := 4) ok hm (by repeat (first
    | exact Keep.nil
    | apply Keep.drop rfl
    | apply Keep.keep rfl)) ?_
    | refine Ex.condT ok hm rfl (by first
    | rfl
    | exact decide_eq_true (by omega)) ?_
    | refine Ex.ret ok hm ?_))
    exact ⟨_, .tmp rfl (.tmp rfl .nil), rfl, Fr.refl _ _⟩
  · obtain ⟨k, rfl⟩ : ∃ k : Nat, p = k := ⟨p.toNat, by omega⟩
    have hpw := pow_p (p := k) (by omega) (by omega)
    rw [newV_ok (by omega) (by omega)]
    have hzl := zeroS_length k
    (repeat (first
    | refine Ex.seq ok hm ?_
    | refine Ex.skip ok hm ?_
    | refine Ex.region ok hm ?_
    | refine Sq.pu ok hm Want.none (by first
    | exact Pu.move rfl
    | exact Pu.assign rfl
    | exact Pu.lssI rfl rfl
    | exact Pu.gtrI rfl rfl
    | exact Pu.pickF rfl (by first
    | rfl
    | exact decide_eq_false (by omega)) rfl) rfl ?_
    | refine Sq.pu ok hm (by first
    | exact Want.none
    | exact Want.yes rfl rfl rfl (by first
    | rfl
    | exact decide_eq_false (by omega))) (by first
    | exact Pu.move rfl
    | exact Pu.gtrI rfl rfl) rfl ?_
    | refine Sq.finH (n := 4) ok hm (by repeat (first
    | exact Keep.nil
    | apply Keep.drop rfl
    | apply Keep.keep rfl)) ?_
    | refine Ex.condF ok hm rfl (by first
    | rfl
    | exact decide_eq_false (by omega)) ?_))
    refine Sq.pu ok hm Want.none (Pu.shlN (k := .i64) (a := 1) (b := k) rfl rfl (by show k ≤ 64; omega) (by simp only [InR]; omega)) rfl ?_
    rw [Nat.one_mul]
    refine Sq.op ok hm Want.none (Op1.makeSlice (k := .i64) (k' := .i64) (a := ((2 ^ k : Nat) : Int)) (b := ((2 ^ k : Nat) : Int)) hT rfl rfl rfl rfl rfl rfl rfl (by omega) (Int.le_refl _) (by omega) rfl) rfl ?_
    rw [Int.toNat_natCast]
    refine Sq.pu ok hm Want.none (Pu.convB (bs := zeroS k) hT rfl rfl rfl rfl AM.add_same (by rw [List.drop_zero, List.take_of_length_le (by rw [List.length_replicate]; exact Nat.le_refl _)]; unfold zeroS; rw [List.map_replicate]; rfl) (by rw [List.length_replicate]; omega)) rfl ?_
    (repeat (first
    | refine Sq.pu ok hm Want.none (by exact Pu.assign rfl) rfl ?_
    | refine Sq.finH (n := 4) ok hm (by repeat (first
    | exact Keep.nil
    | apply Keep.drop rfl
    | apply Keep.keep rfl)) ?_
    | refine Ex.ret ok hm ?_))
    exact ⟨_, .tmp rfl (.tmp rfl .nil), rfl, Fr.add _ _ _⟩

abbrev ruE (s t : List UInt8) (q i : Nat) : En := [(0, strV s), (1, strV t), (10, .slice (some ⟨q, 0, none⟩) s.length s.length), (11, .int .i64 (i : Int))]
set_option maxHeartbeats 8000000 in
theorem RUnion_ok {ro : Nat} {M : AM} {s t : List UInt8} (hs : s.length ≤ 140737488355328) (ht : t.length ≤ 140737488355328) :
    FnC Try.prog tables ro 10 [strV s, strV t] M (fun v M' => v = uniV s t ∧ Fr M M' []) := by
  refine FnC.body (nt := 54) ok hm fn10 rfl rfl ?_
  refine Ex.facts fun hlt hron => ?_
  (repeat (first
    | refine Ex.seq ok hm ?_
    | refine Ex.region ok hm ?_
    | refine Sq.pu ok hm Want.none (by first
    | exact Pu.move rfl
    | exact Pu.assign rfl) rfl ?_
    | refine Sq.finH (n := 10) ok hm (by repeat (first
    | exact Keep.nil
    | apply Keep.keep rfl)) ?_))
  refine Sq.call ok Want.none (Op1.call rfl rfl fn14) rfl (FnC.mono (RExponent_ok (s := s) hs) ?_)
  rintro x M1 ⟨rfl, rfl⟩
  rcases exE_cases s with ⟨p, hp, _⟩ | ⟨hno, _⟩
  · rw [exV_some hp]
    (repeat (first
    | refine Ex.seq ok hm ?_
    | refine Ex.region ok hm ?_
    | refine Sq.pu ok hm Want.none (by first
    | exact Pu.move rfl
    | exact Pu.assign rfl
    | exact Pu.extract rfl rfl) rfl ?_
    | refine Sq.finH (n := 10) ok hm (by repeat (first
    | exact Keep.nil
    | apply Keep.drop rfl
    | apply Keep.keep rfl)) ?_))
    refine Sq.call ok Want.none (Op1.call rfl rfl fn14) rfl (FnC.mono (RExponent_ok (s := t) ht) ?_)
    rintro x M2 ⟨rfl, rfl⟩
    rcases exE_cases t with ⟨q, hq, _⟩ | ⟨hno, _⟩
    · rw [exV_some hq]
      by_cases hpq : p = q
      · subst hpq
        rw [uniV_same hp hq]
        have hsz := hp.size
        have hst : s.length = t.length := hp.2.2.1.trans hq.2.2.1.symm
        have hul := uniS_length hst
        (repeat (first
    | refine Ex.seq ok hm ?_
    | refine Ex.skip ok hm ?_
    | refine Ex.region ok hm ?_
    | refine Sq.pu ok hm Want.none (by first
    | exact Pu.move rfl
    | exact Pu.assign rfl
    | exact Pu.extract rfl rfl
    | exact Pu.neqI rfl rfl
    | exact Pu.lenS hT rfl rfl
    | exact Pu.pickF rfl (by rfl) rfl) rfl ?_
    | refine Sq.pu ok hm (by first
    | exact Want.none
    | exact Want.yes rfl rfl rfl (by rfl)) (by first
    | exact Pu.move rfl
    | exact Pu.neqI rfl rfl) rfl ?_
    | refine Sq.finH (n := 12) ok hm (by repeat (first
    | exact Keep.nil
    | apply Keep.drop rfl
    | apply Keep.keep rfl)) ?_
    | refine Ex.condF ok hm rfl (by first
    | rfl
    | (simp; omega)) ?_))
        refine Sq.op ok hm Want.none (Op1.makeSlice (k := .i64) (k' := .i64) (a := (s.length : Int)) (b := (s.length : Int)) hT rfl rfl rfl rfl rfl rfl rfl (by omega) (by omega) (by omega) rfl) rfl ?_
        have hR : (M2.add (.row (List.replicate s.length (.int .u8 0)) 1 (some (5, 0)))).get M2.next = some (.row (List.replicate s.length (.int .u8 0)) 1 (some (5, 0))) := AM.add_same
        have hF : Fr M2 (M2.add (.row (List.replicate s.length (.int .u8 0)) 1 (some (5, 0)))) [] := Fr.add _ _ _
        show Sq Try.prog tables ro ⟨10, 54⟩ _ _ ((35, .slice (some ⟨M2.next, 0, none⟩) s.length s.length) :: _) (M2.add (.row (List.replicate s.length (.int .u8 0)) 1 (some (5, 0)))) _
        generalize M2.add (.row (List.replicate s.length (.int .u8 0)) 1 (some (5, 0))) = M3 at hR hF ⊢
        obtain ⟨b, hb⟩ : ∃ b, b = M2.next := ⟨_, rfl⟩
        rw [← hb] at hR ⊢
        (repeat (first
    | refine Ex.seq ok hm ?_
    | refine Ex.block ok hm ?_
    | refine Ex.region ok hm ?_
    | refine Sq.pu ok hm Want.none (by exact Pu.assign rfl) rfl ?_
    | refine Sq.finH (n := 12) ok hm (by repeat (first
    | exact Keep.nil
    | apply Keep.drop rfl
    | apply Keep.keep rfl)) ?_))
        refine Ex.loop ?_
        refine Lp.inv ok hm (α := Nat)
          (fun i E M' => E = ruE s t b i ∧ i ≤ s.length ∧ M'.get b = some (.row (((uniS s t).take i).map byW ++ List.replicate (s.length - i) (.int .u8 0)) 1 (some (5, 0))) ∧ Fr M2 M' [])
          (fun i => s.length - i) ?_ 0 (ruE s t b 0) ⟨rfl, rfl, rfl, rfl, trivial⟩ ⟨rfl, Nat.zero_le _, hR, hF⟩
        intro i E M4 ⟨hE, hi, hrow, hF4⟩
        subst hE
        by_cases hil : i < s.length
        · have hl : ((uniS s t).take i).length = i := by rw [List.length_take]; omega
          have happ := row_app ((uniS s t).take i) (mx (s.getD i 0) (t.getD i 0)) s.length (by rw [hl]; exact hil)
          rw [← uni_take hst i hil] at happ
          have hl2 : ((uniS s t).take (i + 1)).length = i + 1 := by rw [List.length_take]; omega
          rw [hl, hl2] at happ
          (repeat (first
    | refine Ex.seq ok hm ?_
    | refine Ex.block ok hm ?_
    | refine Ex.skip ok hm ?_
    | refine Ex.region ok hm ?_
    | refine Sq.pu ok hm Want.none (by first
    | exact Pu.move rfl
    | exact Pu.lssI rfl rfl
    | exact Pu.lenS hT rfl rfl) rfl ?_
    | refine Sq.finH (n := 12) ok hm (by repeat (first
    | exact Keep.nil
    | apply Keep.drop rfl
    | apply Keep.keep rfl)) ?_
    | refine Ex.condT ok hm rfl (by first
    | rfl
    | exact decide_eq_true (by omega)) ?_))
          refine Ex.draw ok hm 9 (by kernel_rfl) ?_
          (repeat (first
    | refine Hq.pu Want.none (by first
    | exact Pu.move rfl
    | exact Pu.max2 rfl rfl
    | exact Pu.indexSN hT rfl rfl rfl (by omega)) rfl rfl rfl ?_
    | refine Hq.nil ?_
    | refine Tq.pu Want.none (by exact Pu.indexAddr hT rfl rfl rfl rfl (by omega) (by omega)) rfl ?_))
          rw [mxW]
          refine Tq.act Want.none (Op1.store hT rfl rfl rfl rfl hrow (by omega) (Nat.zero_le _) (by
            show 0 + ((i : Nat) : Int).toNat * 1 + 1 ≤ _
            rw [List.length_append, List.length_map, List.length_replicate, hl]; omega) rfl) ?_
          show Tq Try.prog tables ro ⟨10, 54⟩ _ _ _ (M4.upd b (.row (setAt (((uniS s t).take i).map byW ++ List.replicate (s.length - i) (.int .u8 0)) (0 + ((i : Nat) : Int).toNat * 1) [byW (mx (s.getD i 0) (t.getD i 0))]) 1 (some (5, 0)))) _
          rw [show 0 + ((i : Nat) : Int).toNat * 1 = 0 + i * 1 by omega, happ]
          (repeat (first
    | refine Ex.region ok hm ?_
    | refine Sq.pu ok hm Want.none (by first
    | exact Pu.move rfl
    | exact Pu.assign rfl
    | exact Pu.addN rfl rfl (by simp only [InR]; omega)) rfl ?_
    | refine Sq.finH (n := 12) ok hm (by repeat (first
    | exact Keep.nil
    | apply Keep.drop rfl
    | apply Keep.keep rfl)) ?_
    | refine Tq.finH (n := 12)  (by repeat (first
    | exact Keep.nil
    | apply Keep.drop rfl
    | apply Keep.keep rfl)) ?_))
          refine ⟨i + 1, ruE s t b (i + 1), ?_, ⟨rfl, rfl, rfl, rfl, trivial⟩, rfl, hil, AM.upd_same, hF4.upd' _ (.inr (by omega))⟩
          show s.length - (i + 1) < s.length - i
          omega
        · obtain rfl : i = s.length := by omega
          rw [Nat.sub_self, List.replicate_zero, List.append_nil, ← hul, List.take_length] at hrow
          (repeat (first
    | refine Ex.seq ok hm ?_
    | refine Ex.region ok hm ?_
    | refine Sq.pu ok hm Want.none (by first
    | exact Pu.move rfl
    | exact Pu.lssI rfl rfl
    | exact Pu.lenS hT rfl rfl) rfl ?_
    | refine Sq.finH (n := 12) ok hm (by repeat (first
    | exact Keep.nil
    | apply Keep.drop rfl
    | apply Keep.keep rfl)) ?_
    | refine Ex.condF ok hm rfl (by first
    | rfl
    | exact decide_eq_false (by omega)) ?_
    | refine Ex.exit ok hm ?_))
          refine Sq.pu ok hm Want.none (Pu.convB (bs := uniS s t) hT rfl rfl rfl rfl hrow (by rw [List.drop_zero, List.take_of_length_le (by rw [List.length_map, hul]; omega)]) (by rw [List.length_map, hul]; omega)) rfl ?_
          (repeat (first
    | refine Sq.pu ok hm Want.none (by exact Pu.assign rfl) rfl ?_
    | refine Sq.finH (n := 12) ok hm (by repeat (first
    | exact Keep.nil
    | apply Keep.drop rfl
    | apply Keep.keep rfl)) ?_
    | refine Ex.ret ok hm ?_))
          exact ⟨_, .tmp rfl (.tmp rfl .nil), rfl, hF4⟩
      · rw [uniV_other hp hq hpq]
        have hlen : (s.length : Int) ≠ (t.length : Int) := fun e => hpq (pow_inj (by rw [← hp.2.2.1, ← hq.2.2.1]; omega))
        (repeat (first
    | refine Ex.seq ok hm ?_
    | refine Ex.skip ok hm ?_
    | refine Ex.region ok hm ?_
    | refine Sq.pu ok hm Want.none (by first
    | exact Pu.move rfl
    | exact Pu.assign rfl
    | exact Pu.extract rfl rfl
    | exact Pu.neqI rfl rfl
    | exact Pu.lenS hT rfl rfl
    | exact Pu.pickF rfl (by rfl) rfl) rfl ?_
    | refine Sq.pu ok hm (by exact Want.yes rfl rfl rfl (by rfl)) (by first
    | exact Pu.move rfl
    | exact Pu.neqI rfl rfl) rfl ?_
    | refine Sq.finH (n := 10) ok hm (by repeat (first
    | exact Keep.nil
    | apply Keep.drop rfl
    | apply Keep.keep rfl)) ?_
    | refine Ex.condT ok hm rfl (by first
    | rfl
    | (simp; omega)) ?_
    | refine Ex.condF ok hm rfl (by rfl) ?_
    | refine Ex.ret ok hm ?_))
        exact ⟨_, .tmp rfl (.tmp rfl .nil), rfl, Fr.refl _ _⟩
    · rw [exV_none hno, uniV_none (.inr hno)]
      (repeat (first
    | refine Ex.seq ok hm ?_
    | refine Ex.region ok hm ?_
    | refine Sq.pu ok hm Want.none (by first
    | exact Pu.move rfl
    | exact Pu.assign rfl
    | exact Pu.extract rfl rfl
    | exact Pu.neqI rfl rfl
    | exact Pu.pickF rfl (by rfl) rfl) rfl ?_
    | refine Sq.pu ok hm (by exact Want.yes rfl rfl rfl (by rfl)) (by first
    | exact Pu.move rfl
    | exact Pu.neqI rfl rfl) rfl ?_
    | refine Sq.finH (n := 10) ok hm (by repeat (first
    | exact Keep.nil
    | apply Keep.drop rfl
    | apply Keep.keep rfl)) ?_
    | refine Ex.condT ok hm rfl (by rfl) ?_
    | refine Ex.ret ok hm ?_))
      exact ⟨_, .tmp rfl (.tmp rfl .nil), rfl, Fr.refl _ _⟩
  · rw [exV_none hno, uniV_none (.inl hno)]
    (repeat (first
    | refine Ex.seq ok hm ?_
    | refine Ex.region ok hm ?_
    | refine Sq.pu ok hm Want.none (by first
    | exact Pu.move rfl
    | exact Pu.assign rfl
    | exact Pu.extract rfl rfl) rfl ?_
    | refine Sq.finH (n := 10) ok hm (by repeat (first
    | exact Keep.nil
    | apply Keep.drop rfl
    | apply Keep.keep rfl)) ?_))
    refine Sq.call ok Want.none (Op1.call rfl rfl fn14) rfl (FnC.mono (RExponent_ok (s := t) ht) ?_)
    rintro x M2 ⟨rfl, rfl⟩
    rcases exE_cases t with ⟨q, hq, _⟩ | ⟨hno2, _⟩
    · rw [exV_some hq]
      (repeat (first
    | refine Ex.seq ok hm ?_
    | refine Ex.region ok hm ?_
    | refine Sq.pu ok hm Want.none (by first
    | exact Pu.move rfl
    | exact Pu.assign rfl
    | exact Pu.extract rfl rfl
    | exact Pu.neqI rfl rfl
    | exact Pu.pickT rfl (by rfl) rfl) rfl ?_
    | refine Sq.skip ok hm (by exact Want.no rfl rfl rfl (by rfl)) rfl ?_
    | refine Sq.finH (n := 10) ok hm (by repeat (first
    | exact Keep.nil
    | apply Keep.drop rfl
    | apply Keep.keep rfl)) ?_
    | refine Ex.condT ok hm rfl (by rfl) ?_
    | refine Ex.ret ok hm ?_))
      exact ⟨_, .tmp rfl (.tmp rfl .nil), rfl, Fr.refl _ _⟩
    · rw [exV_none hno2]
      (repeat (first
    | refine Ex.seq ok hm ?_
    | refine Ex.region ok hm ?_
    | refine Sq.pu ok hm Want.none (by first
    | exact Pu.move rfl
    | exact Pu.assign rfl
    | exact Pu.extract rfl rfl
    | exact Pu.neqI rfl rfl
    | exact Pu.pickT rfl (by rfl) rfl) rfl ?_
    | refine Sq.skip ok hm (by exact Want.no rfl rfl rfl (by rfl)) rfl ?_
    | refine Sq.finH (n := 10) ok hm (by repeat (first
    | exact Keep.nil
    | apply Keep.drop rfl
    | apply Keep.keep rfl)) ?_
    | refine Ex.condT ok hm rfl (by rfl) ?_
    | refine Ex.ret ok hm ?_))
      exact ⟨_, .tmp rfl (.tmp rfl .nil), rfl, Fr.refl _ _⟩
end Go.Proofs.Ytpglehckhnencaa
/- N -/
namespace Go.Proofs.Ytpglehckhnencaa
open Go.Wvm Sk
set_option linter.unusedVariables false
set_option linter.unusedSimpArgs false

/-- The sketch that awake makes. -/
def wokeS : List UInt8 := [0, 0, 0, 0, 0, 0, 0, 0, 0, 0, 0, 0, 0, 0, 0, 60]
theorem woke_add : addS 4 (zeroS 4) 17293822569102704641 = wokeS := by decide +kernel
theorem woke_ok : Okp 4 wokeS := ⟨by decide, by decide, rfl, fun i hi => by
  have : i < 16 := hi
  have h : ∀ j, j < 16 → (wokeS.getD j 0).toNat ≤ 61 := by decide +kernel
  exact h i this⟩
theorem woke_est : estN wokeS = 1 := by decide +kernel
theorem woke_hash : hashN 0 0 = 16294208416658607535 := by decide +kernel

set_option maxHeartbeats 16000000 in
theorem awake_ok {ro : Nat} {M : AM} : FnC Try.prog tables ro 19 [] M (fun v M' => v = .bool true ∧ Fr M M' []) := by
  refine FnC.body (nt := 49) ok hm fn19 rfl rfl ?_
  (repeat (first
    | refine Ex.seq ok hm ?_
    | refine Ex.region ok hm ?_
    | refine Sq.pu ok hm Want.none (by exact Pu.assign rfl) rfl ?_
    | refine Sq.finH (n := 7) ok hm (by repeat (exact Keep.nil)) ?_))
  refine Sq.call ok Want.none (Op1.call rfl rfl fn15) rfl (FnC.mono (New_ok (p := 4) (by simp only [InR]; decide)) ?_)
  rintro x M1 ⟨rfl, hF1⟩
  rw [show newV 4 = .tuple ⟨[strV (zeroS 4), .int .i64 0]⟩ from newV_ok (p := 4) (by decide) (by decide)]
  (repeat (first
    | refine Ex.seq ok hm ?_
    | refine Ex.region ok hm ?_
    | refine Sq.pu ok hm Want.none (by first
    | exact Pu.move rfl
    | exact Pu.assign rfl
    | exact Pu.extract rfl rfl) rfl ?_
    | refine Sq.finH (n := 7) ok hm (by repeat (first
    | exact Keep.nil
    | apply Keep.drop rfl
    | apply Keep.keep rfl)) ?_))
  refine Sq.call ok Want.none (Op1.call rfl rfl fn7) rfl (FnC.mono (Add_ok (s := zeroS 4) (h := 17293822569102704641) (by rw [zeroS_length]; decide) (by decide)) ?_)
  rintro x M2 ⟨rfl, hF2⟩
  rw [addV_some (zeroS_okp (p := 4) (by decide) (by decide)), woke_add]
  (repeat (first
    | refine Ex.seq ok hm ?_
    | refine Ex.region ok hm ?_
    | refine Sq.pu ok hm Want.none (by first
    | exact Pu.move rfl
    | exact Pu.assign rfl
    | exact Pu.extract rfl rfl) rfl ?_
    | refine Sq.finH (n := 7) ok hm (by repeat (first
    | exact Keep.nil
    | apply Keep.drop rfl
    | apply Keep.keep rfl)) ?_))
  refine Sq.call ok Want.none (Op1.call rfl rfl fn11) rfl (FnC.mono (Estimate_ok (s := wokeS) (by decide)) ?_)
  rintro x M3 ⟨rfl, hF3⟩
  rw [estV_some woke_ok, woke_est]
  have h16 : wokeS.length = 16 := rfl
  (repeat (first
    | refine Ex.seq ok hm ?_
    | refine Ex.region ok hm ?_
    | refine Sq.pu ok hm Want.none (by first
    | exact Pu.move rfl
    | exact Pu.assign rfl
    | exact Pu.extract rfl rfl
    | exact Pu.eqlI rfl rfl
    | exact Pu.lenS hT rfl rfl
    | exact Pu.pickT rfl (by rfl) rfl
    | exact Pu.indexS hT rfl rfl rfl (by omega) (by omega)) rfl ?_
    | refine Sq.pu ok hm (by exact Want.yes rfl rfl rfl (by rfl)) (by first
    | exact Pu.move rfl
    | exact Pu.eqlI rfl rfl
    | exact Pu.lenS hT rfl rfl
    | exact Pu.indexS hT rfl rfl rfl (by omega) (by omega)) rfl ?_
    | refine Sq.finH (n := 7) ok hm (by repeat (first
    | exact Keep.nil
    | apply Keep.drop rfl
    | apply Keep.keep rfl)) ?_))
  refine Sq.call ok (Want.yes rfl rfl rfl (by first | rfl | (simp; done) | omega)) (Op1.call rfl rfl fn17) rfl (FnC.mono (Hash_ok (s := 0) (x := 0) (by decide) (by decide)) ?_)
  rintro x M4 ⟨rfl, rfl⟩
  rw [woke_hash]
  (repeat (first
    | refine Sq.pu ok hm Want.none (by first
    | exact Pu.assign rfl
    | exact Pu.eqlI rfl rfl
    | exact Pu.pickT rfl (by rfl) rfl) rfl ?_
    | refine Sq.pu ok hm (by exact Want.yes rfl rfl rfl (by rfl)) (by exact Pu.eqlI rfl rfl) rfl ?_
    | refine Sq.finH (n := 7) ok hm (by repeat (first
    | exact Keep.nil
    | apply Keep.drop rfl
    | apply Keep.keep rfl)) ?_
    | refine Ex.ret ok hm ?_))
  exact ⟨_, .tmp rfl .nil, rfl, (hF1.trans hF2 (by simp)).trans hF3 (by simp)⟩
end Go.Proofs.Ytpglehckhnencaa
/- N -/
namespace Go.Proofs.Ytpglehckhnencaa
open Go.Wvm Sk
set_option linter.unusedVariables false
set_option linter.unusedSimpArgs false

theorem addV_is (s : List UInt8) (h : Nat) : ∃ x e, addV s h = .tuple ⟨[strV x, i64 e]⟩ := by
  unfold addV; cases exE s <;> exact ⟨_, _, rfl⟩
theorem uniV_is (s t : List UInt8) : ∃ x e, uniV s t = .tuple ⟨[strV x, i64 e]⟩ := by
  unfold uniV
  cases exE s with
  | none => exact ⟨_, _, rfl⟩
  | some p => cases exE t with
    | none => exact ⟨_, _, rfl⟩
    | some q =>
      by_cases h : p = q
      · simp only [h, if_true]; exact ⟨_, _, rfl⟩
      · simp only [h, if_false]; exact ⟨_, _, rfl⟩
theorem estV_is (s : List UInt8) : ∃ n e, estV s = .tuple ⟨[u64 n, i64 e]⟩ := by
  unfold estV; cases exE s <;> exact ⟨_, _, rfl⟩
theorem exV_is (s : List UInt8) : ∃ n e, exV s = .tuple ⟨[i64 n, i64 e]⟩ := by
  unfold exV; cases exE s <;> exact ⟨_, _, rfl⟩
theorem newV_is (p : Int) : ∃ x e, newV p = .tuple ⟨[strV x, i64 e]⟩ := by
  unfold newV; split <;> exact ⟨_, _, rfl⟩
/-- It lies there, and stays where nothing old is written. -/
def Kp (M : AM) (b : Nat) (o : AO) : Prop := M.get b = some o ∧ b < M.next
theorem Kp.fr {M M' : AM} {b : Nat} {o : AO} (h : Kp M b o) (f : Fr M M' []) : Kp M' b o := ⟨(f.get b h.2 (by simp)).trans h.1, Nat.lt_of_lt_of_le h.2 f.next⟩

set_option maxHeartbeats 16000000 in
theorem Told_ok {ro : Nat} {M : AM} {a b : List UInt8} {S H : Nat} {P : Int} (ha : a.length ≤ 140737488355328) (hb : b.length ≤ 140737488355328) (hS : S < 18446744073709551616) (hH : H < 18446744073709551616) (hP : InR .i64 P) :
    FnC Try.prog tables ro 3 [strV a, strV b, .agg ⟨[u64 S, u64 H, i64 P]⟩] M (fun v _ => v = .bool true) := by
  refine FnC.body (nt := 149) ok hm fn3 rfl rfl ?_
  obtain ⟨x1, e1, h1⟩ := addV_is a H
  obtain ⟨x2, e2, h2⟩ := uniV_is a b
  obtain ⟨x3, e3, h3⟩ := estV_is a
  obtain ⟨x4, e4, h4⟩ := exV_is b
  obtain ⟨x5, e5, h5⟩ := newV_is P
  (repeat (first
    | refine Ex.seq ok hm ?_
    | refine Ex.region ok hm ?_))
  refine Sq.op ok hm Want.none (Op1.box rfl rfl) rfl ?_
  have hk : Kp (M.add (.row [u64 S, u64 H, i64 P] 0 (some (24, 0)))) M.next (.row [u64 S, u64 H, i64 P] 0 (some (24, 0))) := ⟨AM.add_same, Nat.lt_succ_self _⟩
  show Sq Try.prog tables ro ⟨3, 149⟩ _ _ _ (M.add (.row [u64 S, u64 H, i64 P] 0 (some (24, 0)))) _
  generalize M.add (.row [u64 S, u64 H, i64 P] 0 (some (24, 0))) = M1 at hk ⊢
  obtain ⟨q, hq⟩ : ∃ q, q = M.next := ⟨_, rfl⟩
  rw [← hq] at hk ⊢
  have hr1 := hk.1
  (repeat (first
    | refine Ex.seq ok hm ?_
    | refine Ex.region ok hm ?_
    | refine Sq.pu ok hm Want.none (by first
    | exact Pu.move rfl
    | exact Pu.assign rfl
    | exact Pu.fieldAddr hT rfl rfl rfl rfl rfl
    | (apply Pu.load hT rfl rfl rfl; (focus ((repeat (assumption)))); (focus rfl))) rfl ?_
    | refine Sq.finH (n := 27) ok hm (by repeat (first
    | exact Keep.nil
    | apply Keep.keep rfl)) ?_))
  refine Sq.call ok Want.none (Op1.call rfl rfl fn7) rfl (FnC.mono (Add_ok (s := a) (h := H) ha hH) ?_)
  rintro v M2 ⟨rfl, hF2⟩
  rw [h1]
  have hk2 := hk.fr hF2
  have hr2 := hk2.1
  (repeat (first
    | refine Ex.seq ok hm ?_
    | refine Ex.region ok hm ?_
    | refine Sq.pu ok hm Want.none (by first
    | exact Pu.move rfl
    | exact Pu.assign rfl
    | exact Pu.fieldAddr hT rfl rfl rfl rfl rfl
    | (apply Pu.load hT rfl rfl rfl; (focus ((repeat (assumption)))); (focus rfl))
    | exact Pu.extract rfl rfl) rfl ?_
    | refine Sq.finH (n := 27) ok hm (by repeat (first
    | exact Keep.nil
    | apply Keep.drop rfl
    | apply Keep.keep rfl)) ?_))
  refine Sq.call ok Want.none (Op1.call rfl rfl fn8) rfl (FnC.mono (RAdd_ok (s := a) (h := H) ha hH) ?_)
  rintro v M3 ⟨rfl, hF3⟩
  rw [h1]
  have hk3 := hk2.fr hF3
  have hr3 := hk3.1
  (repeat (first
    | refine Ex.seq ok hm ?_
    | refine Ex.region ok hm ?_
    | refine Sq.pu ok hm Want.none (by first
    | exact Pu.move rfl
    | exact Pu.assign rfl
    | exact Pu.extract rfl rfl) rfl ?_
    | refine Sq.finH (n := 27) ok hm (by repeat (first
    | exact Keep.nil
    | apply Keep.drop rfl
    | apply Keep.keep rfl)) ?_))
  refine Sq.call ok Want.none (Op1.call rfl rfl fn9) rfl (FnC.mono (Union_ok (s := a) (t := b) ha hb) ?_)
  rintro v M4 ⟨rfl, hF4⟩
  rw [h2]
  have hk4 := hk3.fr hF4
  have hr4 := hk4.1
  (repeat (first
    | refine Ex.seq ok hm ?_
    | refine Ex.region ok hm ?_
    | refine Sq.pu ok hm Want.none (by first
    | exact Pu.move rfl
    | exact Pu.assign rfl
    | exact Pu.extract rfl rfl) rfl ?_
    | refine Sq.finH (n := 27) ok hm (by repeat (first
    | exact Keep.nil
    | apply Keep.drop rfl
    | apply Keep.keep rfl)) ?_))
  refine Sq.call ok Want.none (Op1.call rfl rfl fn10) rfl (FnC.mono (RUnion_ok (s := a) (t := b) ha hb) ?_)
  rintro v M5 ⟨rfl, hF5⟩
  rw [h2]
  have hk5 := hk4.fr hF5
  have hr5 := hk5.1
  (repeat (first
    | refine Ex.seq ok hm ?_
    | refine Ex.region ok hm ?_
    | refine Sq.pu ok hm Want.none (by first
    | exact Pu.move rfl
    | exact Pu.assign rfl
    | exact Pu.extract rfl rfl) rfl ?_
    | refine Sq.finH (n := 27) ok hm (by repeat (first
    | exact Keep.nil
    | apply Keep.drop rfl
    | apply Keep.keep rfl)) ?_))
  refine Sq.call ok Want.none (Op1.call rfl rfl fn11) rfl (FnC.mono (Estimate_ok (s := a) ha) ?_)
  rintro v M6 ⟨rfl, hF6⟩
  rw [h3]
  have hk6 := hk5.fr hF6
  have hr6 := hk6.1
  (repeat (first
    | refine Ex.seq ok hm ?_
    | refine Ex.region ok hm ?_
    | refine Sq.pu ok hm Want.none (by first
    | exact Pu.move rfl
    | exact Pu.assign rfl
    | exact Pu.extract rfl rfl) rfl ?_
    | refine Sq.finH (n := 27) ok hm (by repeat (first
    | exact Keep.nil
    | apply Keep.drop rfl
    | apply Keep.keep rfl)) ?_))
  refine Sq.call ok Want.none (Op1.call rfl rfl fn12) rfl (FnC.mono (REstimate_ok (s := a) ha) ?_)
  rintro v M7 ⟨rfl, rfl⟩
  rw [h3]
  (repeat (first
    | refine Ex.seq ok hm ?_
    | refine Ex.region ok hm ?_
    | refine Sq.pu ok hm Want.none (by first
    | exact Pu.move rfl
    | exact Pu.assign rfl
    | exact Pu.extract rfl rfl) rfl ?_
    | refine Sq.finH (n := 27) ok hm (by repeat (first
    | exact Keep.nil
    | apply Keep.drop rfl
    | apply Keep.keep rfl)) ?_))
  refine Sq.call ok Want.none (Op1.call rfl rfl fn13) rfl (FnC.mono (Exponent_ok (s := b) hb) ?_)
  rintro v M8 ⟨rfl, rfl⟩
  rw [h4]
  (repeat (first
    | refine Ex.seq ok hm ?_
    | refine Ex.region ok hm ?_
    | refine Sq.pu ok hm Want.none (by first
    | exact Pu.move rfl
    | exact Pu.assign rfl
    | exact Pu.extract rfl rfl) rfl ?_
    | refine Sq.finH (n := 27) ok hm (by repeat (first
    | exact Keep.nil
    | apply Keep.drop rfl
    | apply Keep.keep rfl)) ?_))
  refine Sq.call ok Want.none (Op1.call rfl rfl fn14) rfl (FnC.mono (RExponent_ok (s := b) hb) ?_)
  rintro v M9 ⟨rfl, rfl⟩
  rw [h4]
  (repeat (first
    | refine Ex.seq ok hm ?_
    | refine Ex.region ok hm ?_
    | refine Sq.pu ok hm Want.none (by first
    | exact Pu.move rfl
    | exact Pu.assign rfl
    | exact Pu.fieldAddr hT rfl rfl rfl rfl rfl
    | (apply Pu.load hT rfl rfl rfl; (focus ((repeat (assumption)))); (focus rfl))
    | exact Pu.extract rfl rfl) rfl ?_
    | refine Sq.finH (n := 27) ok hm (by repeat (first
    | exact Keep.nil
    | apply Keep.drop rfl
    | apply Keep.keep rfl)) ?_))
  refine Sq.call ok Want.none (Op1.call rfl rfl fn15) rfl (FnC.mono (New_ok (p := P) hP) ?_)
  rintro v M10 ⟨rfl, hF10⟩
  rw [h5]
  have hk10 := hk6.fr hF10
  have hr10 := hk10.1
  (repeat (first
    | refine Ex.seq ok hm ?_
    | refine Ex.region ok hm ?_
    | refine Sq.pu ok hm Want.none (by first
    | exact Pu.move rfl
    | exact Pu.assign rfl
    | exact Pu.fieldAddr hT rfl rfl rfl rfl rfl
    | (apply Pu.load hT rfl rfl rfl; (focus ((repeat (assumption)))); (focus rfl))
    | exact Pu.extract rfl rfl) rfl ?_
    | refine Sq.finH (n := 27) ok hm (by repeat (first
    | exact Keep.nil
    | apply Keep.drop rfl
    | apply Keep.keep rfl)) ?_))
  refine Sq.call ok Want.none (Op1.call rfl rfl fn16) rfl (FnC.mono (RNew_ok (p := P) hP) ?_)
  rintro v M11 ⟨rfl, hF11⟩
  rw [h5]
  have hk11 := hk10.fr hF11
  have hr11 := hk11.1
  (repeat (first
    | refine Ex.seq ok hm ?_
    | refine Sq.pu ok hm Want.none (by first
    | exact Pu.move rfl
    | exact Pu.assign rfl
    | exact Pu.extract rfl rfl) rfl ?_
    | refine Sq.finH (n := 27) ok hm (by repeat (first
    | exact Keep.nil
    | apply Keep.drop rfl
    | apply Keep.keep rfl)) ?_))
  refine Ex.draw ok hm 58 (by kernel_rfl) ?_
  (repeat (first
    | refine Hq.pu Want.none (by first
    | exact Pu.move rfl
    | exact Pu.fieldAddr hT rfl rfl rfl rfl rfl
    | (apply Pu.load hT rfl rfl rfl; (focus ((repeat (assumption)))); (focus rfl))
    | exact Pu.eqlI rfl rfl
    | exact Pu.eqlS rfl rfl
    | exact Pu.pickT rfl (by first
    | rfl
    | exact decide_eq_true (by omega)
    | (simp; done) | omega) rfl) rfl rfl rfl ?_
    | refine Hq.pu (by exact Want.yes rfl rfl rfl (by first
    | exact decide_eq_true (by omega)
    | (simp; done) | omega)) (by first
    | exact Pu.move rfl
    | exact Pu.fieldAddr hT rfl rfl rfl rfl rfl
    | (apply Pu.load hT rfl rfl rfl; (focus ((repeat (assumption)))); (focus rfl))
    | exact Pu.eqlI rfl rfl
    | exact Pu.eqlS rfl rfl) rfl rfl rfl ?_))
  refine Hq.call ok (Want.yes rfl rfl rfl (by first | rfl | (simp; done) | omega)) (fun ro => Op1.call rfl rfl fn17) rfl rfl (FnC.mono (Hash_ok (s := S) (x := H) hS hH) ?_)
  rintro v M12 ⟨rfl, rfl⟩
  refine ⟨rfl, ?_⟩
  (repeat (first
    | refine Hq.pu (by exact Want.yes rfl rfl rfl (by first
    | rfl
    | exact decide_eq_true (by omega))) (by first
    | exact Pu.fieldAddr hT rfl rfl rfl rfl rfl
    | (apply Pu.load hT rfl rfl rfl; (focus ((repeat (assumption)))); (focus rfl))) rfl rfl rfl ?_
    | refine Hq.nil ?_))
  refine Tq.call (Want.yes rfl rfl rfl (by first | rfl | (simp; done) | omega)) (Op1.call rfl rfl fn18) rfl (FnC.mono (RHash_ok (s := S) (x := H) hS hH) ?_)
  rintro v M13 ⟨rfl, rfl⟩
  (repeat (first
    | refine Tq.pu Want.none (by first
    | exact Pu.move rfl
    | exact Pu.eqlI rfl rfl
    | exact Pu.pickT rfl (by first
    | rfl
    | exact decide_eq_true (by omega)) rfl) rfl ?_
    | refine Tq.pu (by exact Want.yes rfl rfl rfl (by exact decide_eq_true (by omega))) (by exact Pu.eqlI rfl rfl) rfl ?_))
  refine Tq.call (Want.yes rfl rfl rfl (by first | rfl | (simp; done) | omega)) (Op1.call rfl rfl fn19) rfl (FnC.mono awake_ok ?_)
  rintro v M14 ⟨rfl, hF14⟩
  (repeat (first
    | refine Tq.pu Want.none (by first
    | exact Pu.assign rfl
    | exact Pu.pickT rfl (by first
    | rfl
    | exact decide_eq_true (by omega)) rfl) rfl ?_
    | refine Tq.finH (n := 27)  (by repeat (first
    | exact Keep.nil
    | apply Keep.drop rfl
    | apply Keep.keep rfl)) ?_
    | refine Ex.ret ok hm ?_))
  exact ⟨_, .tmp rfl .nil, rfl⟩
end Go.Proofs.Ytpglehckhnencaa
/- What is told of nothing, and of one: the mathematics. -/
namespace Sk
set_option linter.unusedVariables false
set_option linter.unusedSimpArgs false
theorem sumS_rep (k : Nat) : sumS (List.replicate k 0) = k * 1099511627776 := by
  induction k with
  | zero => rfl
  | succ k ih =>
    rw [List.replicate_succ, sumS_cons, ih, Nat.succ_mul, Nat.add_comm]; rfl
theorem zeros_rep (k : Nat) : zeros (List.replicate k 0) = k := by
  induction k with
  | zero => rfl
  | succ k ih =>
    rw [List.replicate_succ]
    unfold zeros at ih ⊢
    rw [List.countP_cons, ih]; rfl
theorem zeros_append (s t : List UInt8) : zeros (s ++ t) = zeros s + zeros t := List.countP_append
theorem est_zero {p : Nat} (h0 : 4 ≤ p) (h1 : p ≤ 16) : estN (zeroS p) = 0 := by
  have hpw := pow_p h0 h1
  have hl := zeroS_length p
  have hz : zeros (zeroS p) = 2 ^ p := zeros_rep _
  have hs : sumS (zeroS p) = 2 ^ p * 1099511627776 := sumS_rep _
  have hq : quoN (zeroS p) ≤ 2 ^ p := by
    unfold quoN
    rw [hl, hs, Nat.mul_div_mul_right _ _ (by decide)]
    have := xN_sq (m := 2 ^ p) hpw.2
    have h2 : xN (2 ^ p) / 2 ^ p ≤ 2 ^ p * 2 ^ p / 2 ^ p := Nat.div_le_div_right this
    rwa [Nat.mul_div_cancel _ (Nat.two_pow_pos p)] at h2
  unfold estN
  rw [hl, hz, if_pos ⟨by omega, by omega⟩]
  unfold smallN
  rw [Nat.sub_self]; simp [smS]
theorem est_one {p h : Nat} (h0 : 4 ≤ p) (h1 : p ≤ 16) (hh : h < 18446744073709551616) : estN (addS p (zeroS p) h) = 1 := by
  have hpw := pow_p h0 h1
  have hl := zeroS_length p
  have hat := atN_lt (p := p) (h := h) (by omega) hh
  have hr := rankN_pos (p := p) (h := h) (by omega)
  have hg : ((zeroS p).getD (atN p h) 0).toNat < rankN p h := by rw [zeroS_getD]; exact hr
  have hcut := addS_cut hl (by omega) hh hg
  have hlen : (addS p (zeroS p) h).length = 2 ^ p := (addS_length _ _ _).trans hl
  have ht : (zeroS p).take (atN p h) = List.replicate (atN p h) 0 := by
    unfold zeroS; rw [List.take_replicate, Nat.min_eq_left (by omega)]
  have hd : (zeroS p).drop (atN p h + 1) = List.replicate (2 ^ p - (atN p h + 1)) 0 := by
    unfold zeroS; rw [List.drop_replicate]
  rw [ht, hd] at hcut
  have hne : ¬ ((rk p h).toNat = 0) := by rw [rk_nat]; omega
  have hz : zeros (addS p (zeroS p) h) = 2 ^ p - 1 := by
    rw [hcut, zeros_append, zeros_append, zeros_rep, zeros_rep]
    have : zeros [rk p h] = 0 := by unfold zeros; rw [List.countP_cons]; simp [hne]
    rw [this]; omega
  have hs : (2 ^ p - 1) * 1099511627776 ≤ sumS (addS p (zeroS p) h) := by
    rw [hcut, sumS_append, sumS_append, sumS_rep, sumS_rep]
    have := wt_pos (rk p h)
    have e : sumS [rk p h] = wt (rk p h) := by simp [sumS]
    rw [e]
    omega
  have hq : quoN (addS p (zeroS p) h) ≤ 2 * 2 ^ p := by
    unfold quoN
    rw [hlen]
    have a1 : xN (2 ^ p) * 2 ^ 40 / sumS (addS p (zeroS p) h) ≤ xN (2 ^ p) * 2 ^ 40 / ((2 ^ p - 1) * 1099511627776) := Nat.div_le_div_left hs (by omega)
    rw [show (2 : Nat) ^ 40 = 1099511627776 from rfl, Nat.mul_div_mul_right _ _ (by decide)] at a1
    have a2 := xN_sq (m := 2 ^ p) hpw.2
    have a3 : 2 ^ p * 2 ^ p ≤ 2 * 2 ^ p * (2 ^ p - 1) := by
      rw [Nat.mul_right_comm]
      exact Nat.mul_le_mul_right _ (by omega)
    have a4 : xN (2 ^ p) / (2 ^ p - 1) ≤ 2 * 2 ^ p * (2 ^ p - 1) / (2 ^ p - 1) := Nat.div_le_div_right (Nat.le_trans a2 a3)
    rw [Nat.mul_div_cancel _ (by omega)] at a4
    exact Nat.le_trans a1 a4
  unfold estN
  rw [hlen, hz, if_pos ⟨by omega, by omega⟩]
  unfold smallN
  rw [show 2 ^ p - 1 + 1 = 2 ^ p by omega, show 2 ^ p - (2 ^ p - 1) = 1 by omega]
  show (2 ^ p * 2 ^ 20 / 2 ^ p + 0) / 2 ^ 20 = 1
  rw [Nat.mul_comm, Nat.mul_div_cancel _ (Nat.two_pow_pos p)]
/-- How many registers have grown. -/
def lessF (s t : List UInt8) : Nat → Nat
  | 0 => 0
  | i + 1 => lessF s t i + if (s.getD i 0).toNat < (t.getD i 0).toNat then 1 else 0
theorem lessF_le {p h : Nat} {s : List UInt8} (hs : s.length = 2 ^ p) (hp : p ≤ 64) (hh : h < 18446744073709551616) : ∀ i, lessF s (addS p s h) i ≤ if atN p h < i then 1 else 0
  | 0 => Nat.zero_le _
  | i + 1 => by
    have ih := lessF_le hs hp hh i
    have hg := addS_getD hs hp hh i
    show lessF s (addS p s h) i + _ ≤ _
    by_cases e : i = atN p h
    · rw [if_neg (by omega)] at ih
      have hp1 : (if atN p h < i + 1 then 1 else 0) = 1 := if_pos (by omega)
      rw [hp1]
      split <;> omega
    · rw [if_neg e] at hg
      rw [hg, if_neg (Nat.lt_irrefl _)]
      by_cases k : atN p h < i
      · rw [if_pos k] at ih
        have hp1 : (if atN p h < i + 1 then 1 else 0) = 1 := if_pos (by omega)
        rw [hp1]; omega
      · rw [if_neg k] at ih
        have hp1 : (if atN p h < i + 1 then 1 else 0) = 0 := if_neg (by omega)
        rw [hp1]; omega
theorem addS_ge {p h : Nat} {s : List UInt8} (hs : s.length = 2 ^ p) (hp : p ≤ 64) (hh : h < 18446744073709551616) (i : Nat) : (s.getD i 0).toNat ≤ ((addS p s h).getD i 0).toNat := by
  rw [addS_getD hs hp hh]
  split
  · rw [mx_nat]; omega
  · exact Nat.le_refl _
end Sk
/- N -/
namespace Go.Proofs.Ytpglehckhnencaa
open Go.Wvm Sk
set_option linter.unusedVariables false
set_option linter.unusedSimpArgs false

theorem no_nil (p : Nat) : ¬ Okp p [] := fun h => by
  have a := h.2.2.1
  have b := Nat.two_pow_pos p
  rw [← a] at b
  exact absurd b (Nat.lt_irrefl 0)
theorem no_at {p : Nat} {s : List UInt8} (h16 : s.length = 2 ^ 4) (i : Nat) (hi : i < 16) (hb : 61 < (s.getD i 0).toNat) : ¬ Okp p s := fun h => by
  have hp := pow_inj (h.2.2.1.symm.trans h16)
  subst hp
  have := h.2.2.2 i (by rw [h16]; exact hi)
  omega
def digS : List UInt8 := [48, 49, 50, 51, 52, 53, 54, 55, 56, 57, 97, 98, 99, 100, 101, 102]
def fulS : List UInt8 := [61, 61, 61, 61, 61, 61, 61, 61, 61, 61, 61, 61, 61, 61, 61, 61]
def badS : List UInt8 := [61, 61, 61, 62, 61, 61, 61, 61, 61, 61, 61, 61, 61, 61, 61, 61]
def fstS : List UInt8 := [61, 0, 0, 0, 0, 0, 0, 0, 0, 0, 0, 0, 0, 0, 0, 0]
theorem fst_add : addS 4 (zeroS 4) 0 = fstS := by decide +kernel
theorem ful_ok : Okp 4 fulS := ⟨by decide, by decide, rfl, fun i hi => by
  have : i < 16 := hi
  have h : ∀ j, j < 16 → (fulS.getD j 0).toNat ≤ 61 := by decide +kernel
  exact h i this⟩
theorem ful_est : estN fulS = 11819749998592 := by decide +kernel
theorem ful_rep : List.replicate 16 (61 : UInt8) = fulS := by decide +kernel
abbrev noR (Z : List UInt8) : En := [(2, i64 1), (4, i64 1), (5, strV Z), (6, i64 0), (8, i64 4), (10, i64 4), (12, i64 4), (16, i64 1), (17, strV fstS), (18, i64 0), (19, u64 0), (20, i64 0)]
abbrev noE (Z : List UInt8) (q i : Nat) : En := (22, i64 (i : Nat)) :: (21, .slice (some ⟨q, 0, none⟩) 16 16) :: noR Z

set_option maxHeartbeats 16000000 in
theorem None_ok {ro : Nat} {M : AM} : FnC Try.prog tables ro 6 [] M (fun v M' => v = .bool true) := by
  refine FnC.body (nt := 167) ok hm fn6 rfl rfl ?_
  refine Ex.facts fun hlt hron => ?_
  obtain ⟨Z, hZ⟩ : ∃ Z, Z = zeroS 16 := ⟨_, rfl⟩
  have hZo : Okp 16 Z := by rw [hZ]; exact zeroS_okp (by decide) (by decide)
  have hZl : Z.length = 65536 := hZo.2.2.1
  have hZe : estN Z = 0 := by rw [hZ]; exact est_zero (by decide) (by decide)
  have h4o : Okp 4 (zeroS 4) := zeroS_okp (by decide) (by decide)
  (repeat (first
    | refine Ex.seq ok hm ?_
    | refine Ex.region ok hm ?_
    | refine Sq.pu ok hm Want.none (by exact Pu.assign rfl) rfl ?_
    | refine Sq.finH (n := 21) ok hm (by repeat (exact Keep.nil)) ?_))
  refine Sq.call ok Want.none (Op1.call rfl rfl fn15) rfl (FnC.mono (New_ok (p := 3) (by simp only [InR]; decide)) ?_)
  rintro x M1 ⟨rfl, hF1⟩
  rw [newV_no (p := 3) (.inl (by decide))]
  (repeat (first
    | refine Ex.seq ok hm ?_
    | refine Ex.region ok hm ?_
    | refine Sq.pu ok hm Want.none (by first
    | exact Pu.move rfl
    | exact Pu.assign rfl
    | exact Pu.extract rfl rfl) rfl ?_
    | refine Sq.finH (n := 21) ok hm (by repeat (first
    | exact Keep.nil
    | apply Keep.drop rfl
    | apply Keep.keep rfl)) ?_))
  refine Sq.call ok Want.none (Op1.call rfl rfl fn15) rfl (FnC.mono (New_ok (p := 17) (by simp only [InR]; decide)) ?_)
  rintro x M2 ⟨rfl, hF2⟩
  rw [newV_no (p := 17) (.inr (by decide))]
  (repeat (first
    | refine Ex.seq ok hm ?_
    | refine Ex.region ok hm ?_
    | refine Sq.pu ok hm Want.none (by first
    | exact Pu.move rfl
    | exact Pu.assign rfl
    | exact Pu.extract rfl rfl) rfl ?_
    | refine Sq.finH (n := 21) ok hm (by repeat (first
    | exact Keep.nil
    | apply Keep.drop rfl
    | apply Keep.keep rfl)) ?_))
  refine Sq.call ok Want.none (Op1.call rfl rfl fn15) rfl (FnC.mono (New_ok (p := 16) (by simp only [InR]; decide)) ?_)
  rintro x M3 ⟨rfl, hF3⟩
  rw [show newV 16 = .tuple ⟨[strV (zeroS 16), .int .i64 0]⟩ from newV_ok (p := 16) (by decide) (by decide), ← hZ]
  (repeat (first
    | refine Ex.seq ok hm ?_
    | refine Ex.region ok hm ?_
    | refine Sq.pu ok hm Want.none (by first
    | exact Pu.move rfl
    | exact Pu.assign rfl
    | exact Pu.extract rfl rfl) rfl ?_
    | refine Sq.finH (n := 21) ok hm (by repeat (first
    | exact Keep.nil
    | apply Keep.drop rfl
    | apply Keep.keep rfl)) ?_))
  refine Sq.call ok Want.none (Op1.call rfl rfl fn7) rfl (FnC.mono (Add_ok (s := []) (h := 0) (by decide) (by decide)) ?_)
  rintro x M4 ⟨rfl, hF4⟩
  rw [addV_none no_nil]
  (repeat (first
    | refine Ex.seq ok hm ?_
    | refine Ex.region ok hm ?_
    | refine Sq.pu ok hm Want.none (by first
    | exact Pu.move rfl
    | exact Pu.assign rfl
    | exact Pu.extract rfl rfl) rfl ?_
    | refine Sq.finH (n := 21) ok hm (by repeat (first
    | exact Keep.nil
    | apply Keep.drop rfl
    | apply Keep.keep rfl)) ?_))
  refine Sq.call ok Want.none (Op1.call rfl rfl fn9) rfl (FnC.mono (Union_ok (s := []) (t := []) (by decide) (by decide)) ?_)
  rintro x M5 ⟨rfl, hF5⟩
  rw [uniV_none (.inl no_nil)]
  (repeat (first
    | refine Ex.seq ok hm ?_
    | refine Ex.region ok hm ?_
    | refine Sq.pu ok hm Want.none (by first
    | exact Pu.move rfl
    | exact Pu.assign rfl
    | exact Pu.extract rfl rfl) rfl ?_
    | refine Sq.finH (n := 21) ok hm (by repeat (first
    | exact Keep.nil
    | apply Keep.drop rfl
    | apply Keep.keep rfl)) ?_))
  refine Sq.call ok Want.none (Op1.call rfl rfl fn11) rfl (FnC.mono (Estimate_ok (s := digS) (by decide)) ?_)
  rintro x M6 ⟨rfl, hF6⟩
  rw [estV_none (fun p => no_at (p := p) (s := digS) rfl 10 (by decide) (by decide))]
  (repeat (first
    | refine Ex.seq ok hm ?_
    | refine Ex.region ok hm ?_
    | refine Sq.pu ok hm Want.none (by first
    | exact Pu.move rfl
    | exact Pu.assign rfl
    | exact Pu.extract rfl rfl) rfl ?_
    | refine Sq.finH (n := 21) ok hm (by repeat (first
    | exact Keep.nil
    | apply Keep.drop rfl
    | apply Keep.keep rfl)) ?_))
  refine Sq.call ok Want.none (Op1.call rfl rfl fn15) rfl (FnC.mono (New_ok (p := 4) (by simp only [InR]; decide)) ?_)
  rintro x M7 ⟨rfl, hF7⟩
  rw [show newV 4 = .tuple ⟨[strV (zeroS 4), .int .i64 0]⟩ from newV_ok (p := 4) (by decide) (by decide)]
  (repeat (first
    | refine Ex.seq ok hm ?_
    | refine Ex.region ok hm ?_
    | refine Sq.pu ok hm Want.none (by first
    | exact Pu.move rfl
    | exact Pu.assign rfl
    | exact Pu.extract rfl rfl) rfl ?_
    | refine Sq.finH (n := 21) ok hm (by repeat (first
    | exact Keep.nil
    | apply Keep.drop rfl
    | apply Keep.keep rfl)) ?_))
  refine Sq.call ok Want.none (Op1.call rfl rfl fn9) rfl (FnC.mono (Union_ok (s := Z) (t := zeroS 4) (by omega) (by decide)) ?_)
  rintro x M8 ⟨rfl, hF8⟩
  rw [uniV_other hZo h4o (by decide)]
  (repeat (first
    | refine Ex.seq ok hm ?_
    | refine Ex.region ok hm ?_
    | refine Sq.pu ok hm Want.none (by first
    | exact Pu.move rfl
    | exact Pu.assign rfl
    | exact Pu.extract rfl rfl) rfl ?_
    | refine Sq.finH (n := 21) ok hm (by repeat (first
    | exact Keep.nil
    | apply Keep.drop rfl
    | apply Keep.keep rfl)) ?_))
  refine Sq.call ok Want.none (Op1.call rfl rfl fn7) rfl (FnC.mono (Add_ok (s := zeroS 4) (h := 0) (by decide) (by decide)) ?_)
  rintro x M9 ⟨rfl, hF9⟩
  rw [addV_some h4o, fst_add]
  (repeat (first
    | refine Ex.seq ok hm ?_
    | refine Ex.region ok hm ?_
    | refine Sq.pu ok hm Want.none (by first
    | exact Pu.move rfl
    | exact Pu.assign rfl
    | exact Pu.extract rfl rfl) rfl ?_
    | refine Sq.finH (n := 21) ok hm (by repeat (first
    | exact Keep.nil
    | apply Keep.drop rfl
    | apply Keep.keep rfl)) ?_))
  refine Sq.call ok Want.none (Op1.call rfl rfl fn11) rfl (FnC.mono (Estimate_ok (s := Z) (by omega)) ?_)
  rintro x M10 ⟨rfl, hF10⟩
  rw [estV_some hZo, hZe]
  have hnx : M.next ≤ M10.next := Nat.le_trans hF1.next (Nat.le_trans hF2.next (Nat.le_trans hF3.next (Nat.le_trans hF4.next (Nat.le_trans hF5.next (Nat.le_trans hF6.next (Nat.le_trans hF7.next (Nat.le_trans hF8.next (Nat.le_trans hF9.next hF10.next))))))))
  (repeat (first
    | refine Ex.seq ok hm ?_
    | refine Ex.region ok hm ?_
    | refine Sq.pu ok hm Want.none (by first
    | exact Pu.move rfl
    | exact Pu.assign rfl
    | exact Pu.extract rfl rfl) rfl ?_
    | refine Sq.finH (n := 21) ok hm (by repeat (first
    | exact Keep.nil
    | apply Keep.drop rfl
    | apply Keep.keep rfl)) ?_))
  refine Sq.op ok hm Want.none (Op1.makeSlice (k := .i64) (k' := .i64) (a := 16) (b := 16) hT rfl rfl rfl rfl rfl rfl rfl (by decide) (by decide) (by decide) rfl) rfl ?_
  have hrow : (M10.add (.row (List.replicate 16 (.int .u8 0)) 1 (some (5, 0)))).get M10.next = some (.row (List.replicate 16 (.int .u8 0)) 1 (some (5, 0))) := AM.add_same
  show Sq Try.prog tables ro ⟨6, 167⟩ _ _ ((72, .slice (some ⟨M10.next, 0, none⟩) 16 16) :: _) (M10.add (.row (List.replicate 16 (.int .u8 0)) 1 (some (5, 0)))) _
  generalize M10.add (.row (List.replicate 16 (.int .u8 0)) 1 (some (5, 0))) = M11 at hrow ⊢
  obtain ⟨q, hq⟩ : ∃ q, q = M10.next := ⟨_, rfl⟩
  rw [← hq] at hrow ⊢
  have hrq : ro ≤ q := by omega
  (repeat (first
    | refine Ex.seq ok hm ?_
    | refine Ex.block ok hm ?_
    | refine Ex.region ok hm ?_
    | refine Sq.pu ok hm Want.none (by exact Pu.assign rfl) rfl ?_
    | refine Sq.finH (n := 23) ok hm (by repeat (first
    | exact Keep.nil
    | apply Keep.drop rfl
    | apply Keep.keep rfl)) ?_))
  refine Ex.loop ?_
  refine Lp.inv ok hm (α := Nat)
    (fun i E M' => E = noE Z q i ∧ i ≤ 16 ∧ M'.get q = some (.row ((List.replicate i (61 : UInt8)).map byW ++ List.replicate (16 - i) (.int .u8 0)) 1 (some (5, 0))))
    (fun i => 16 - i) ?_ 0 (noE Z q 0) ⟨rfl, rfl, rfl, rfl, rfl, rfl, rfl, rfl, rfl, rfl, rfl, rfl, rfl, rfl, trivial⟩ ⟨rfl, Nat.zero_le _, hrow⟩
  intro i E M12 ⟨hE, hi, hr⟩
  subst hE
  by_cases hil : i < 16
  · have happ := row_app (List.replicate i (61 : UInt8)) 61 16 (by rw [List.length_replicate]; exact hil)
    rw [← List.replicate_succ', List.length_replicate, List.length_replicate] at happ
    (repeat (first
    | refine Ex.seq ok hm ?_
    | refine Ex.block ok hm ?_
    | refine Ex.skip ok hm ?_
    | refine Ex.region ok hm ?_
    | refine Sq.pu ok hm Want.none (by first
    | exact Pu.move rfl
    | exact Pu.lssI rfl rfl
    | exact Pu.indexAddr hT rfl rfl rfl rfl (by omega) (by omega)) rfl ?_
    | refine Sq.finH (n := 23) ok hm (by repeat (first
    | exact Keep.nil
    | apply Keep.drop rfl
    | apply Keep.keep rfl)) ?_
    | refine Ex.condT ok hm rfl (by first
    | rfl
    | exact decide_eq_true (by omega)) ?_))
    refine Sq.act ok hm Want.none (Op1.store (v := byW 61) hT rfl rfl rfl rfl hr hrq (Nat.zero_le _) (by
      show 0 + ((i : Nat) : Int).toNat * 1 + 1 ≤ _
      rw [List.length_append, List.length_map, List.length_replicate, List.length_replicate]; omega) rfl) ?_
    show Sq Try.prog tables ro ⟨6, 167⟩ _ _ _ (M12.upd q (.row (setAt ((List.replicate i (61 : UInt8)).map byW ++ List.replicate (16 - i) (.int .u8 0)) (0 + ((i : Nat) : Int).toNat * 1) [byW 61]) 1 (some (5, 0)))) _
    rw [show 0 + ((i : Nat) : Int).toNat * 1 = 0 + i * 1 by omega, happ]
    (repeat (first
    | refine Ex.region ok hm ?_
    | refine Sq.pu ok hm Want.none (by first
    | exact Pu.move rfl
    | exact Pu.assign rfl
    | exact Pu.addN rfl rfl (by simp only [InR]; omega)) rfl ?_
    | refine Sq.finH (n := 23) ok hm (by repeat (first
    | exact Keep.nil
    | apply Keep.drop rfl
    | apply Keep.keep rfl)) ?_))
    refine ⟨i + 1, noE Z q (i + 1), ?_, ⟨rfl, rfl, rfl, rfl, rfl, rfl, rfl, rfl, rfl, rfl, rfl, rfl, rfl, rfl, trivial⟩, rfl, hil, AM.upd_same⟩
    show 16 - (i + 1) < 16 - i
    omega
  · obtain rfl : i = 16 := by omega
    rw [Nat.sub_self, List.replicate_zero, List.append_nil, ful_rep] at hr
    refine Ex.facts fun hlt12 hron12 => ?_
    have hq12 := hlt12 _ _ hr
    (repeat (first
    | refine Ex.seq ok hm ?_
    | refine Ex.region ok hm ?_
    | refine Sq.pu ok hm Want.none (by first
    | exact Pu.move rfl
    | exact Pu.lssI rfl rfl) rfl ?_
    | refine Sq.finH (n := 23) ok hm (by repeat (first
    | exact Keep.nil
    | apply Keep.drop rfl
    | apply Keep.keep rfl)) ?_
    | refine Ex.condF ok hm rfl (by rfl) ?_
    | refine Ex.exit ok hm ?_))
    refine Sq.pu ok hm Want.none (Pu.convB (bs := fulS) hT rfl rfl rfl rfl hr rfl (by decide)) rfl ?_
    refine Sq.call ok Want.none (Op1.call rfl rfl fn11) rfl (FnC.mono (Estimate_ok (s := fulS) (by decide)) ?_)
    rintro x M13 ⟨rfl, hF13⟩
    rw [estV_some ful_ok, ful_est]
    have hr13 : M13.get q = some (.row (fulS.map byW) 1 (some (5, 0))) := (hF13.get q hq12 (by simp)).trans hr
    (repeat (first
    | refine Ex.seq ok hm ?_
    | refine Ex.region ok hm ?_
    | refine Sq.pu ok hm Want.none (by first
    | exact Pu.move rfl
    | exact Pu.assign rfl
    | exact Pu.extract rfl rfl
    | exact Pu.indexAddr hT rfl rfl rfl rfl (by omega) (by omega)) rfl ?_
    | refine Sq.finH (n := 25) ok hm (by repeat (first
    | exact Keep.nil
    | apply Keep.drop rfl
    | apply Keep.keep rfl)) ?_))
    refine Sq.act ok hm Want.none (Op1.store (v := byW 62) hT rfl rfl rfl rfl hr13 hrq (Nat.zero_le _) (by decide) rfl) ?_
    have hr14 : (M13.upd q (.row (badS.map byW) 1 (some (5, 0)))).get q = some (.row (badS.map byW) 1 (some (5, 0))) := AM.upd_same
    show Sq Try.prog tables ro ⟨6, 167⟩ _ _ _ (M13.upd q (.row (badS.map byW) 1 (some (5, 0)))) _
    generalize M13.upd q (.row (badS.map byW) 1 (some (5, 0))) = M14 at hr14 ⊢
    (repeat (first
    | refine Ex.seq ok hm ?_
    | refine Ex.region ok hm ?_
    | refine Sq.pu ok hm Want.none (by exact Pu.move rfl) rfl ?_
    | refine Sq.finH (n := 25) ok hm (by repeat (first
    | exact Keep.nil
    | apply Keep.drop rfl
    | apply Keep.keep rfl)) ?_))
    refine Sq.pu ok hm Want.none (Pu.convB (bs := badS) hT rfl rfl rfl rfl hr14 rfl (by decide)) rfl ?_
    refine Sq.call ok Want.none (Op1.call rfl rfl fn13) rfl (FnC.mono (Exponent_ok (s := badS) (by decide)) ?_)
    rintro x M15 ⟨rfl, rfl⟩
    rw [exV_none (fun p => no_at (p := p) (s := badS) rfl 3 (by decide) (by decide))]
    (repeat (first
    | refine Ex.seq ok hm ?_
    | refine Ex.region ok hm ?_
    | refine Sq.pu ok hm Want.none (by first
    | exact Pu.move rfl
    | exact Pu.assign rfl
    | exact Pu.extract rfl rfl) rfl ?_
    | refine Sq.finH (n := 27) ok hm (by repeat (first
    | exact Keep.nil
    | apply Keep.drop rfl
    | apply Keep.keep rfl)) ?_))
    refine Sq.call ok Want.none (Op1.call rfl rfl fn17) rfl (FnC.mono (Hash_ok (s := 18446744073709551615) (x := 18446744073709551615) (by decide) (by decide)) ?_)
    rintro x M16 ⟨rfl, rfl⟩
    obtain ⟨hh, hhe⟩ : ∃ hh, hh = hashN 18446744073709551615 18446744073709551615 := ⟨_, rfl⟩
    rw [← hhe]
    (repeat (first
    | refine Ex.seq ok hm ?_
    | refine Ex.region ok hm ?_
    | refine Sq.pu ok hm Want.none (by first
    | exact Pu.move rfl
    | exact Pu.assign rfl
    | exact Pu.eqlI rfl rfl
    | exact Pu.lenS hT rfl rfl
    | exact Pu.pickT rfl (by first
    | rfl
    | exact decide_eq_true (by omega)) rfl) rfl ?_
    | refine Sq.pu ok hm (by exact Want.yes rfl rfl rfl (by first
    | rfl
    | exact decide_eq_true (by omega))) (by first
    | exact Pu.move rfl
    | exact Pu.eqlI rfl rfl
    | exact Pu.lenS hT rfl rfl) rfl ?_
    | refine Sq.finH (n := 28) ok hm (by repeat (first
    | exact Keep.nil
    | apply Keep.drop rfl
    | apply Keep.keep rfl)) ?_))
    refine Sq.pu ok hm (Want.yes rfl rfl rfl (by first | rfl | (simp; done) | omega)) (Pu.indexS (l := fstS) (k := .i64) (i := 0) hT rfl rfl rfl (by decide) (by decide)) rfl ?_
    rw [show (fstS.getD (Int.toNat 0) 0).toNat = 61 from rfl]
    (repeat (first
    | refine Sq.pu ok hm Want.none (by first
    | exact Pu.move rfl
    | exact Pu.eqlI rfl rfl
    | exact Pu.pickT rfl (by rfl) rfl) rfl ?_
    | refine Sq.pu ok hm (by exact Want.yes rfl rfl rfl (by rfl)) (by first
    | exact Pu.move rfl
    | exact Pu.eqlI rfl rfl) rfl ?_))
    refine Sq.call ok (Want.yes rfl rfl rfl (by first | rfl | (simp; done) | omega)) (Op1.call rfl rfl fn18) rfl (FnC.mono (RHash_ok (s := 18446744073709551615) (x := 18446744073709551615) (by decide) (by decide)) ?_)
    rintro x M17 ⟨rfl, rfl⟩
    rw [← hhe]
    (repeat (first
    | refine Sq.pu ok hm Want.none (by first
    | exact Pu.move rfl
    | exact Pu.eqlI rfl rfl
    | exact Pu.pickT rfl (by first
    | rfl
    | exact decide_eq_true (by omega)) rfl) rfl ?_
    | refine Sq.pu ok hm (by exact Want.yes rfl rfl rfl (by rfl)) (by exact Pu.eqlI rfl rfl) rfl ?_))
    refine Sq.call ok (Want.yes rfl rfl rfl (by first | rfl | (simp; done) | omega)) (Op1.call rfl rfl fn19) rfl (FnC.mono awake_ok ?_)
    rintro x M18 ⟨rfl, hF18⟩
    (repeat (first
    | refine Sq.pu ok hm Want.none (by first
    | exact Pu.assign rfl
    | exact Pu.pickT rfl (by rfl) rfl) rfl ?_
    | refine Sq.finH (n := 28) ok hm (by repeat (first
    | exact Keep.nil
    | apply Keep.drop rfl
    | apply Keep.keep rfl)) ?_
    | refine Ex.ret ok hm ?_))
    exact ⟨_, .tmp rfl .nil, rfl⟩
end Go.Proofs.Ytpglehckhnencaa
