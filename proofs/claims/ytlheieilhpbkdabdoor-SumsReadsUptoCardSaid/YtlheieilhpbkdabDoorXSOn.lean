/- Towards the laws of this seat: contracts of the program's functions in a logic over a small machine (text XSOn). No condition. -/
import Derived.Test.YtlheieilhpbkdabDoorXSTab
import Derived.Test.YtlheieilhpbkdabDoorXCrc
import Derived.Test.YtlheieilhpbkdabDoorWvmLgj
namespace Go.Proofs.YtlheieilhpbkdabDoor
open Go.Wvm Crc
set_option linter.unusedVariables false
set_option linter.unusedSimpArgs false

abbrev u32v (n : Nat) : Value := .int .u32 n
def knownG : Tr (List Value) := Tr.set .nil 0 (nibs.map u32v)
def TabOk (M : AM) : Prop := M.gl = knownG
theorem TabOk.get {M : AM} (h : TabOk M) : M.gl.get 0 = some (nibs.map u32v) := by
  rw [h]; unfold knownG; rw [Tr.get_set, if_pos rfl]
theorem TabOk.fr {M M' : AM} {S : List Nat} (h : TabOk M) (f : Fr M M' S) : TabOk M' := f.gl.trans h
theorem and15 (x : Nat) : x &&& 15 = x % 16 := Nat.and_two_pow_sub_one_eq_mod x 4
theorem nibAt (x : Nat) : (nibs.map u32v)[0 + ((x &&& 15 : Nat) : Int).toNat * 1]? = some (u32v (b4 (x % 16))) := by
  rw [Int.toNat_natCast, and15, Nat.zero_add, Nat.mul_one, List.getElem?_map, nib_eq _ (Nat.mod_lt _ (by decide))]; rfl
theorem b4_lt {x : Nat} (h : x < 4294967296) : b4 x < 4294967296 := b4_lin.lt x h

set_option maxHeartbeats 1000000 in
theorem step_ok {ro : Nat} {M : AM} {a n b : Nat} (hg : TabOk M) (ha : ro ≤ a) (h : M.get a = some (.row [u32v n] 0 (some (22, 0)))) (hn : n < 4294967296) (hb : b < 256) :
    FnC Tryd.prog tables ro 21 [.int .u8 (b : Int), .pointer (some ⟨a, 0, none⟩)] M (fun _ M' => M' = M.upd a (.row [u32v (st (n ^^^ b))] 0 (some (22, 0)))) := by
  refine FnC.body (nt := 21) ok hm fn21 rfl rfl ?_
  have hx : n ^^^ b < 4294967296 := xor_lt hn (by omega)
  (repeat (first
    | refine Ex.seq ok hm ?_
    | refine Ex.region ok hm ?_
    | refine Sq.pu ok hm Want.none (by first
    | exact Pu.move rfl
    | (apply Pu.load hT rfl rfl rfl; (focus ((repeat (assumption)))); (focus rfl))
    | exact Pu.xorN rfl rfl (by simp only [InR]; omega) (by simp only [InR]; omega)
    | exact Pu.convN hT rfl rfl rfl (by simp only [InR]; omega)) rfl ?_))
  refine Sq.act ok hm Want.none (Op1.store hT rfl rfl rfl rfl (by (repeat (assumption))) ha (Nat.le_of_ble_eq_true rfl) (Nat.le_of_ble_eq_true rfl) rfl) ?_
  (repeat (first
    | refine Ex.seq ok hm ?_
    | refine Sq.finH (n := 2) ok hm (by repeat (first
    | exact Keep.nil
    | apply Keep.drop rfl
    | apply Keep.keep rfl)) ?_))
  generalize n ^^^ b = x at hx ⊢
  have hl : x &&& 15 < 16 := by rw [and15]; omega
  have hb4 := b4_lt (show x % 16 < 4294967296 by omega)
  refine Ex.draw ok hm 6 (by kernel_rfl) ?_
  (repeat (refine Hq.pu Want.none (by first
    | (apply Pu.load hT rfl rfl rfl; (focus ((repeat (exact AM.upd_same)))); (focus rfl))
    | exact Pu.andN rfl rfl (by simp only [InR]; omega) (by simp only [InR]; omega)
    | exact Pu.shrN rfl rfl (by simp only [InR]; omega)) rfl rfl rfl ?_))
  refine Hq.pu Want.none (Pu.indexG hT rfl rfl rfl rfl (by omega) (show ((x &&& 15 : Nat) : Int) < 16 by omega)) rfl rfl rfl ?_
  refine Hq.pu Want.none (Pu.loadG hT rfl rfl rfl hg.get (nibAt x)) rfl rfl rfl ?_
  (repeat (first
    | refine Hq.nil ?_
    | refine Tq.pu Want.none (by exact Pu.xorN rfl rfl (by simp only [InR]; omega) (by simp only [InR]; omega)) rfl ?_))
  refine Tq.act Want.none (Op1.store hT rfl rfl rfl rfl (by (repeat (exact AM.upd_same))) ha (Nat.le_of_ble_eq_true rfl) (Nat.le_of_ble_eq_true rfl) rfl) ?_
  rw [AM.upd_upd, show x / 2 ^ 4 ^^^ b4 (x % 16) = b4 x from (b4_nib x).symm]
  have hy := b4_lt hx
  have est : st x = b4 (b4 x) := rfl
  rw [est]
  generalize b4 x = y at hy ⊢
  have hl2 : y &&& 15 < 16 := by rw [and15]; omega
  have hb42 := b4_lt (show y % 16 < 4294967296 by omega)
  (repeat (refine Tq.finH (n := 2)  (by repeat (first
    | exact Keep.nil
    | apply Keep.drop rfl
    | apply Keep.keep rfl)) ?_))
  refine Ex.draw ok hm 6 (by kernel_rfl) ?_
  (repeat (refine Hq.pu Want.none (by first
    | (apply Pu.load hT rfl rfl rfl; (focus ((repeat (exact AM.upd_same)))); (focus rfl))
    | exact Pu.andN rfl rfl (by simp only [InR]; omega) (by simp only [InR]; omega)
    | exact Pu.shrN rfl rfl (by simp only [InR]; omega)) rfl rfl rfl ?_))
  refine Hq.pu Want.none (Pu.indexG hT rfl rfl rfl rfl (by omega) (show ((y &&& 15 : Nat) : Int) < 16 by omega)) rfl rfl rfl ?_
  refine Hq.pu Want.none (Pu.loadG hT rfl rfl rfl hg.get (nibAt y)) rfl rfl rfl ?_
  (repeat (first
    | refine Hq.nil ?_
    | refine Tq.pu Want.none (by exact Pu.xorN rfl rfl (by simp only [InR]; omega) (by simp only [InR]; omega)) rfl ?_))
  refine Tq.act Want.none (Op1.store hT rfl rfl rfl rfl (by (repeat (exact AM.upd_same))) ha (Nat.le_of_ble_eq_true rfl) (Nat.le_of_ble_eq_true rfl) rfl) ?_
  rw [AM.upd_upd, show y / 2 ^ 4 ^^^ b4 (y % 16) = b4 y from (b4_nib y).symm]
  (repeat (refine Tq.finH (n := 2)  (by repeat (first
    | exact Keep.nil
    | apply Keep.drop rfl
    | apply Keep.keep rfl)) ?_))
  exact ⟨_, .nil, rfl⟩

theorem cpl_eq {n : Nat} (h : n < 4294967296) : 4294967295 - (n : Int) = (cpl n : Nat) := by
  have : cpl n = 4294967295 - n := by
    unfold cpl
    apply Nat.eq_of_testBit_eq
    intro i
    have h1 := Nat.testBit_two_pow_sub_succ (n := 32) h i
    have h2 : (2 ^ 32 - (n + 1)) = 4294967295 - n := by omega
    rw [h2] at h1
    rw [h1, Nat.testBit_xor, show (4294967295 : Nat) = 2 ^ 32 - 1 from rfl, Nat.testBit_two_pow_sub_one]
    by_cases hi : i < 32
    · simp [hi]
    · have : n.testBit i = false := Nat.testBit_lt_two_pow (Nat.lt_of_lt_of_le h (show 2 ^ 32 ≤ 2 ^ i from Nat.pow_le_pow_right (by decide) (by omega)))
      simp [hi, this]
  omega
theorem goN_take (n : Nat) (s : List UInt8) (i : Nat) (h : i < s.length) : goN n (s.take (i + 1)) = st (goN n (s.take i) ^^^ (s.getD i 0).toNat) := by
  rw [List.take_succ_eq_append_getElem h, goN_append, List.getD_eq_getElem?_getD, List.getElem?_eq_getElem h]; rfl

abbrev onE (n a : Nat) (s : List UInt8) (i : Nat) : En := [(0, u32v n), (1, .string ⟨⟨s⟩⟩), (2, .pointer (some ⟨a, 0, none⟩)), (5, .func (.func 21) ⟨[]⟩ ⟨[.pointer (some ⟨a, 0, none⟩)]⟩), (11, .int .i64 (s.length : Int)), (12, .int .i64 (i : Int))]
set_option maxHeartbeats 2000000 in
theorem On_ok {ro : Nat} {M : AM} {n : Nat} {s : List UInt8} (hg : TabOk M) (hn : n < 4294967296) (hs : s.length ≤ 4611686018427387904) :
    FnC Tryd.prog tables ro 12 [u32v n, .string ⟨⟨s⟩⟩] M (fun v M' => v = u32v (on n s) ∧ Fr M M' []) := by
  refine FnC.body (nt := 23) ok hm fn12 rfl rfl ?_
  refine Ex.facts fun hlt hron => ?_
  (repeat (first
    | refine Ex.seq ok hm ?_
    | refine Ex.region ok hm ?_))
  refine Sq.op ok hm Want.none (Op1.box rfl rfl) rfl ?_
  (repeat (first
    | refine Ex.seq ok hm ?_
    | refine Ex.region ok hm ?_
    | refine Sq.pu ok hm Want.none (by first
    | exact Pu.assign rfl
    | (apply Pu.load hT rfl rfl rfl; (focus ((repeat (exact AM.add_same)))); (focus rfl))
    | exact Pu.cpl32 rfl (by omega) (by omega)) rfl ?_
    | refine Sq.finH (n := 3) ok hm (by repeat (first
    | exact Keep.nil
    | apply Keep.keep rfl)) ?_))
  rw [cpl_eq hn]
  refine Sq.act ok hm Want.none (Op1.store hT rfl rfl rfl rfl (by (repeat (exact AM.add_same))) hron (Nat.le_of_ble_eq_true rfl) (Nat.le_of_ble_eq_true rfl) rfl) ?_
  rw [AM.add_upd]
  have hc := cpl_lt hn
  (repeat (first
    | refine Ex.seq ok hm ?_
    | refine Ex.block ok hm ?_
    | refine Ex.region ok hm ?_
    | refine Sq.pu ok hm Want.none (by first
    | exact Pu.move rfl
    | exact Pu.assign rfl
    | exact Pu.lenS hT rfl rfl
    | exact Pu.makeFunc rfl rfl) rfl ?_
    | refine Sq.finH (n := 13) ok hm (by repeat (first
    | exact Keep.nil
    | apply Keep.keep rfl)) ?_))
  refine Ex.loop ?_
  refine Lp.inv ok hm (α := Nat)
    (fun i E M' => E = onE n M.next s i ∧ i ≤ s.length ∧ M' = M.add (.row [u32v (goN (cpl n) (s.take i))] 0 (some (22, 0))))
    (fun i => s.length - i) ?_ 0 (onE n M.next s 0) ⟨rfl, rfl, rfl, rfl, rfl, rfl, trivial⟩ ⟨rfl, Nat.zero_le _, rfl⟩
  intro i E M1 ⟨hE, hi, hM⟩
  subst hE
  have hgo := goN_lt (s.take i) _ hc
  by_cases hil : i < s.length
  · have hbyte := (s.getD i 0).toNat_lt
    (repeat (first
    | refine Ex.seq ok hm ?_
    | refine Ex.block ok hm ?_
    | refine Ex.skip ok hm ?_
    | refine Ex.region ok hm ?_
    | refine Sq.pu ok hm Want.none (by first
    | exact Pu.move rfl
    | exact Pu.assign rfl
    | exact Pu.lssI rfl rfl
    | exact Pu.indexS hT rfl rfl rfl (by omega) (by omega)) rfl ?_
    | refine Sq.finH (n := 13) ok hm (by repeat (first
    | exact Keep.nil
    | apply Keep.drop rfl
    | apply Keep.keep rfl)) ?_
    | refine Ex.condT ok hm rfl (by first
    | rfl
    | exact decide_eq_true (by omega)) ?_))
    subst hM
    refine Sq.call ok Want.none (Op1.call rfl rfl fn21) rfl (FnC.mono (step_ok (n := goN (cpl n) (s.take i)) (b := (s.getD i 0).toNat) hg hron AM.add_same hgo hbyte) ?_)
    rintro x M2 rfl
    rw [AM.add_upd, ← goN_take _ _ _ hil]
    (repeat (first
    | refine Ex.region ok hm ?_
    | refine Sq.pu ok hm Want.none (by first
    | exact Pu.move rfl
    | exact Pu.addN rfl rfl (by simp only [InR]; omega)) rfl ?_
    | refine Sq.finH (n := 13) ok hm (by repeat (first
    | exact Keep.nil
    | apply Keep.drop rfl
    | apply Keep.keep rfl)) ?_))
    refine ⟨i + 1, onE n M.next s (i + 1), (by show s.length - (i + 1) < s.length - i; omega), ⟨rfl, rfl, rfl, rfl, rfl, rfl, trivial⟩, rfl, hil, rfl⟩
  · obtain rfl : i = s.length := by omega
    rw [List.take_of_length_le (Nat.le_refl _)] at hM hgo
    subst hM
    (repeat (first
    | refine Ex.seq ok hm ?_
    | refine Ex.region ok hm ?_
    | refine Sq.pu ok hm Want.none (by first
    | exact Pu.assign rfl
    | (apply Pu.load hT rfl rfl rfl; (focus ((repeat (exact AM.add_same)))); (focus rfl))
    | exact Pu.cpl32 rfl (by omega) (by omega)
    | exact Pu.lssI rfl rfl) rfl ?_
    | refine Sq.finH (n := 13) ok hm (by repeat (first
    | exact Keep.nil
    | apply Keep.drop rfl
    | apply Keep.keep rfl)) ?_
    | refine Ex.condF ok hm rfl (by first
    | rfl
    | exact decide_eq_false (by omega)) ?_
    | refine Ex.ret ok hm ?_
    | refine Ex.exit ok hm ?_))
    rw [cpl_eq hgo]
    (repeat (fail))
    exact ⟨_, .tmp rfl .nil, rfl, Fr.add _ _ _⟩

theorem Crc_ok {ro : Nat} {M : AM} {s : List UInt8} (hg : TabOk M) (hs : s.length ≤ 4611686018427387904) :
    FnC Tryd.prog tables ro 10 [.string ⟨⟨s⟩⟩] M (fun v M' => v = u32v (crc s) ∧ Fr M M' []) := by
  refine FnC.body (nt := 5) ok hm fn10 rfl rfl ?_
  (repeat (first
    | refine Ex.seq ok hm ?_
    | refine Ex.region ok hm ?_
    | refine Sq.pu ok hm Want.none (by first
    | exact Pu.move rfl
    | exact Pu.assign rfl) rfl ?_
    | refine Sq.finH (n := 3) ok hm (by repeat (first
    | exact Keep.nil
    | apply Keep.keep rfl)) ?_))
  refine Sq.call ok Want.none (Op1.call rfl rfl fn12) rfl (FnC.mono (On_ok (n := 0) hg (by decide) hs) ?_)
  rintro x M2 ⟨rfl, hF⟩
  (repeat (first
    | refine Sq.pu ok hm Want.none (by exact Pu.assign rfl) rfl ?_
    | refine Sq.finH (n := 3) ok hm (by repeat (first
    | exact Keep.nil
    | apply Keep.drop rfl
    | apply Keep.keep rfl)) ?_
    | refine Ex.ret ok hm ?_))
  exact ⟨_, .tmp rfl .nil, rfl, hF⟩
end Go.Proofs.YtlheieilhpbkdabDoor
