/- Towards the laws of this seat: contracts of the program's functions in a logic over a small machine (text XRd). No condition. -/
import Derived.Test.YtncpdgjlhdbdpaaXTab
import Derived.Test.YtncpdgjlhdbdpaaXBitr
import Derived.Test.YtncpdgjlhdbdpaaWvmLgg
namespace Go.Proofs.Ytncpdgjlhdbdpaa
open Go.Wvm Bits
set_option linter.unusedVariables false
set_option linter.unusedSimpArgs false

def RdAt (M : AM) (r : Nat) (s : List UInt8) (at' : Nat) : Prop := M.get r = some (.row [.string ⟨⟨s⟩⟩, .int .i64 (at' : Int)] 0 (some (73, 0)))
def rdO (s : List UInt8) (at' : Nat) : AO := .row [.string ⟨⟨s⟩⟩, .int .i64 (at' : Int)] 0 (some (73, 0))

theorem open_ok {ro : Nat} {M : AM} {s : List UInt8} : FnC Try.prog tables ro 14 [.string ⟨⟨s⟩⟩] M (fun r M' => r = .pointer (some ⟨M.next, 0, none⟩) ∧ M' = M.add (rdO s 0)) := by
  refine FnC.body (nt := 6) ok hm fn14 rfl rfl ?_
  (repeat (first
    | refine Ex.seq ok hm ?_
    | refine Ex.region ok hm ?_
    | refine Sq.pu ok hm Want.none (by first
    | exact Pu.move rfl
    | exact Pu.assign rfl) rfl ?_
    | refine Sq.finH (n := 5) ok hm (by repeat (first
    | exact Keep.nil
    | apply Keep.keep rfl)) ?_))
  refine Sq.pu ok hm Want.none (Pu.build hT rfl rfl rfl rfl) rfl ?_
  refine Sq.op ok hm Want.none (Op1.box rfl rfl) rfl ?_
  (repeat (first
    | refine Sq.pu ok hm Want.none (by exact Pu.assign rfl) rfl ?_
    | refine Sq.finH (n := 5) ok hm (by repeat (first
    | exact Keep.nil
    | apply Keep.drop rfl
    | apply Keep.keep rfl)) ?_
    | refine Ex.ret ok hm ?_))
  exact ⟨_, .tmp rfl .nil, rfl, rfl⟩

theorem left_ok {ro : Nat} {M : AM} {r at' : Nat} {s : List UInt8} (h : RdAt M r s at') (ha : at' ≤ 8 * s.length) (hs : s.length ≤ 1152921504606846000) :
    FnC Try.prog tables ro 23 [.pointer (some ⟨r, 0, none⟩)] M (fun v M' => v = .int .i64 (8 * (s.length : Int) - at') ∧ M' = M) := by
  refine FnC.body (nt := 16) ok hm fn23 rfl rfl ?_
  have hrow : M.get r = some (.row [.string ⟨⟨s⟩⟩, .int .i64 (at' : Int)] 0 (some (73, 0))) := h
  (repeat (first
    | refine Ex.seq ok hm ?_
    | refine Ex.skip ok hm ?_
    | refine Ex.region ok hm ?_
    | refine Sq.pu ok hm Want.none (by first
    | exact Pu.move rfl
    | exact Pu.assign rfl
    | exact Pu.eqlP hT rfl rfl rfl) rfl ?_
    | refine Sq.finH (n := 3) ok hm (by repeat (first
    | exact Keep.nil
    | apply Keep.drop rfl
    | apply Keep.keep rfl)) ?_
    | refine Ex.condF ok hm rfl (by rfl) ?_))
  refine Ex.draw ok hm 10 (by kernel_rfl) ?_
  (repeat (first
    | refine Hq.pu Want.none (by first
    | exact Pu.move rfl
    | exact Pu.nilCheck rfl
    | exact Pu.fieldAddr hT rfl rfl rfl rfl rfl
    | (apply Pu.load hT rfl rfl rfl; (focus ((repeat (assumption)))); (focus rfl))
    | exact Pu.lenS hT rfl rfl
    | exact Pu.mul rfl rfl (by simp only [InR]; omega)) rfl rfl rfl ?_
    | refine Hq.nil ?_
    | refine Tq.pu Want.none (by first
    | exact Pu.assign rfl
    | exact Pu.sub rfl rfl (by simp only [InR]; omega)) rfl ?_
    | refine Tq.finH (n := 3)  (by repeat (first
    | exact Keep.nil
    | apply Keep.drop rfl
    | apply Keep.keep rfl)) ?_
    | refine Ex.ret ok hm ?_))
  exact ⟨_, .tmp rfl .nil, rfl, rfl⟩

theorem at_ok {ro : Nat} {M : AM} {r at' : Nat} {s : List UInt8} (h : RdAt M r s at') :
    FnC Try.prog tables ro 22 [.pointer (some ⟨r, 0, none⟩)] M (fun v M' => v = .int .i64 at' ∧ M' = M) := by
  refine FnC.body (nt := 9) ok hm fn22 rfl rfl ?_
  have hrow : M.get r = some (.row [.string ⟨⟨s⟩⟩, .int .i64 (at' : Int)] 0 (some (73, 0))) := h
  (repeat (first
    | refine Ex.seq ok hm ?_
    | refine Ex.skip ok hm ?_
    | refine Ex.region ok hm ?_
    | refine Sq.pu ok hm Want.none (by first
    | exact Pu.move rfl
    | exact Pu.assign rfl
    | exact Pu.nilCheck rfl
    | exact Pu.fieldAddr hT rfl rfl rfl rfl rfl
    | (apply Pu.load hT rfl rfl rfl; (focus ((repeat (assumption)))); (focus rfl))
    | exact Pu.eqlP hT rfl rfl rfl) rfl ?_
    | refine Sq.finH (n := 3) ok hm (by repeat (first
    | exact Keep.nil
    | apply Keep.drop rfl
    | apply Keep.keep rfl)) ?_
    | refine Ex.condF ok hm rfl (by rfl) ?_
    | refine Ex.ret ok hm ?_))
  exact ⟨_, .tmp rfl .nil, rfl, rfl⟩

set_option maxHeartbeats 4000000 in
theorem seek_ok {ro : Nat} {M : AM} {r at' : Nat} {s : List UInt8} {n : Int} (hr : ro ≤ r) (h : RdAt M r s at') (hn : InR .i64 n) (hs : s.length ≤ 1152921504606846000) :
    FnC Try.prog tables ro 20 [.pointer (some ⟨r, 0, none⟩), .int .i64 n] M (fun v M' => v = .int .i64 (if 0 ≤ n ∧ n ≤ 8 * (s.length : Int) then 0 else 1) ∧ RdAt M' r s (if 0 ≤ n ∧ n ≤ 8 * (s.length : Int) then n.toNat else at') ∧ Fr M M' [r]) := by
  refine FnC.body (nt := 23) ok hm fn20 rfl rfl ?_
  have hrow : M.get r = some (.row [.string ⟨⟨s⟩⟩, .int .i64 (at' : Int)] 0 (some (73, 0))) := h
  by_cases h1 : n < 0
  · rw [if_neg (by omega), if_neg (by omega)]
    (repeat (first
    | refine Ex.seq ok hm ?_
    | refine Ex.skip ok hm ?_
    | refine Ex.region ok hm ?_
    | refine Sq.pu ok hm Want.none (by first
    | exact Pu.move rfl
    | exact Pu.assign rfl
    | exact Pu.lssI rfl rfl
    | exact Pu.eqlP hT rfl rfl rfl
    | exact Pu.pickT rfl (by first
    | rfl
    | exact decide_eq_true (by omega)) rfl) rfl ?_
    | refine Sq.skip ok hm (by exact Want.no rfl rfl rfl (by first
    | rfl
    | exact decide_eq_true (by omega))) rfl ?_
    | refine Sq.finH (n := 5) ok hm (by repeat (first
    | exact Keep.nil
    | apply Keep.drop rfl
    | apply Keep.keep rfl)) ?_
    | refine Ex.condT ok hm rfl (by rfl) ?_
    | refine Ex.condF ok hm rfl (by rfl) ?_
    | refine Ex.ret ok hm ?_))
    exact ⟨_, .tmp rfl .nil, rfl, h, Fr.refl _ _⟩
  · by_cases h2 : 8 * (s.length : Int) < n
    · rw [if_neg (by omega), if_neg (by omega)]
      (repeat (first
    | refine Ex.seq ok hm ?_
    | refine Ex.skip ok hm ?_
    | refine Ex.region ok hm ?_
    | refine Sq.pu ok hm Want.none (by first
    | exact Pu.move rfl
    | exact Pu.assign rfl
    | exact Pu.nilCheck rfl
    | exact Pu.fieldAddr hT rfl rfl rfl rfl rfl
    | (apply Pu.load hT rfl rfl rfl; (focus ((repeat (assumption)))); (focus rfl))
    | exact Pu.lssI rfl rfl
    | exact Pu.gtrI rfl rfl
    | exact Pu.lenS hT rfl rfl
    | exact Pu.mul rfl rfl (by simp only [InR]; omega)
    | exact Pu.eqlP hT rfl rfl rfl
    | exact Pu.pickF rfl (by first
    | rfl
    | exact decide_eq_false (by omega)) rfl) rfl ?_
    | refine Sq.pu ok hm (by exact Want.yes rfl rfl rfl (by first
    | rfl
    | exact decide_eq_false (by omega))) (by first
    | exact Pu.move rfl
    | exact Pu.nilCheck rfl
    | exact Pu.fieldAddr hT rfl rfl rfl rfl rfl
    | (apply Pu.load hT rfl rfl rfl; (focus ((repeat (assumption)))); (focus rfl))
    | exact Pu.gtrI rfl rfl
    | exact Pu.lenS hT rfl rfl
    | exact Pu.mul rfl rfl (by simp only [InR]; omega)) rfl ?_
    | refine Sq.finH (n := 5) ok hm (by repeat (first
    | exact Keep.nil
    | apply Keep.drop rfl
    | apply Keep.keep rfl)) ?_
    | refine Ex.condT ok hm rfl (by first
    | rfl
    | exact decide_eq_true (by omega)) ?_
    | refine Ex.condF ok hm rfl (by rfl) ?_
    | refine Ex.ret ok hm ?_))
      exact ⟨_, .tmp rfl .nil, rfl, h, Fr.refl _ _⟩
    · rw [if_pos (by omega), if_pos (by omega)]
      (repeat (first
    | refine Ex.seq ok hm ?_
    | refine Ex.skip ok hm ?_
    | refine Ex.region ok hm ?_
    | refine Sq.pu ok hm Want.none (by first
    | exact Pu.move rfl
    | exact Pu.assign rfl
    | exact Pu.nilCheck rfl
    | exact Pu.fieldAddr hT rfl rfl rfl rfl rfl
    | (apply Pu.load hT rfl rfl rfl; (focus ((repeat (assumption)))); (focus rfl))
    | exact Pu.lssI rfl rfl
    | exact Pu.gtrI rfl rfl
    | exact Pu.lenS hT rfl rfl
    | exact Pu.mul rfl rfl (by simp only [InR]; omega)
    | exact Pu.eqlP hT rfl rfl rfl
    | exact Pu.pickF rfl (by first
    | rfl
    | exact decide_eq_false (by omega)) rfl) rfl ?_
    | refine Sq.pu ok hm (by exact Want.yes rfl rfl rfl (by first
    | rfl
    | exact decide_eq_false (by omega))) (by first
    | exact Pu.move rfl
    | exact Pu.nilCheck rfl
    | exact Pu.fieldAddr hT rfl rfl rfl rfl rfl
    | (apply Pu.load hT rfl rfl rfl; (focus ((repeat (assumption)))); (focus rfl))
    | exact Pu.gtrI rfl rfl
    | exact Pu.lenS hT rfl rfl
    | exact Pu.mul rfl rfl (by simp only [InR]; omega)) rfl ?_
    | refine Sq.finH (n := 5) ok hm (by repeat (first
    | exact Keep.nil
    | apply Keep.drop rfl
    | apply Keep.keep rfl)) ?_
    | refine Ex.condF ok hm rfl (by first
    | rfl
    | exact decide_eq_false (by omega)) ?_))
      refine Sq.act ok hm Want.none (Op1.store hT rfl rfl rfl rfl (by (repeat (assumption))) hr (Nat.le_of_ble_eq_true rfl) (Nat.le_of_ble_eq_true rfl) rfl) ?_
      (repeat (first
    | refine Ex.seq ok hm ?_
    | refine Ex.region ok hm ?_
    | refine Sq.pu ok hm Want.none (by exact Pu.assign rfl) rfl ?_
    | refine Sq.finH (n := 5) ok hm (by repeat (first
    | exact Keep.nil
    | apply Keep.drop rfl
    | apply Keep.keep rfl)) ?_
    | refine Ex.ret ok hm ?_))
      refine ⟨_, .tmp rfl .nil, rfl, ?_, (Fr.refl _ _).upd' _ (.inl (by simp))⟩
      unfold RdAt
      rw [show ((n.toNat : Nat) : Int) = n by omega]
      exact AM.upd_same

theorem share_ok {ro : Nat} {M : AM} {a v part k : Nat} (ha : ro ≤ a) (h : M.get a = some (.row [.int .u64 (v : Int)] 0 (some (30, 0)))) (hk : k ≤ 8) (hp : part < 256) (hv : v * 2 ^ k < 18446744073709551616) :
    FnC Try.prog tables ro 37 [.int .u8 (part : Int), .int .i64 (k : Int), .pointer (some ⟨a, 0, none⟩)] M (fun _ M' => M' = M.upd a (.row [.int .u64 ((v * 2 ^ k ||| part : Nat) : Int)] 0 (some (30, 0)))) := by
  refine FnC.body (nt := 11) ok hm fn37 rfl rfl ?_
  have e1 : (v : Int) * 2 ^ ((k : Int)).toNat % 18446744073709551616 = ((v * 2 ^ k : Nat) : Int) := by
    rw [Int.toNat_natCast]
    have : (v : Int) * 2 ^ k = ((v * 2 ^ k : Nat) : Int) := by simp
    rw [this]; omega
  have hor : v * 2 ^ k ||| part < 2 ^ 64 := Nat.or_lt_two_pow (by omega) (by omega)
  refine Ex.region ok hm ?_
  refine Sq.pu ok hm Want.none (by (apply Pu.load hT rfl rfl rfl; (focus ((repeat (assumption)))); (focus rfl))) rfl ?_
  refine Sq.pu ok hm Want.none (by exact Pu.move rfl) rfl ?_
  refine Sq.pu ok hm Want.none (by exact Pu.shlU64 rfl rfl (by omega) (by omega)) rfl ?_
  rw [e1]
  refine Sq.pu ok hm Want.none (by exact Pu.move rfl) rfl ?_
  refine Sq.pu ok hm Want.none (by exact Pu.convN hT rfl rfl rfl (by simp only [InR]; omega)) rfl ?_
  refine Sq.pu ok hm Want.none (Pu.or rfl rfl (by omega) (by omega) (by simp only [InR]; omega) (by simp only [InR]; omega)) rfl ?_
  rw [Int.toNat_natCast, Int.toNat_natCast]
  refine Sq.act ok hm Want.none (Op1.store hT rfl rfl rfl rfl h ha (Nat.le_of_ble_eq_true rfl) (Nat.le_of_ble_eq_true rfl) rfl) ?_
  refine Sq.nil ok hm ?_
  exact ⟨_, .nil, rfl⟩

set_option maxHeartbeats 4000000 in
theorem over_ok {ro : Nat} {M : AM} {r a at' n : Nat} {s : List UInt8} (hr : ro ≤ r) (ha : ro ≤ a) (hra : r ≠ a) (h : RdAt M r s at') (hb : M.get a = some (.row [.int .u64 (0 : Nat)] 0 (some (30, 0)))) (hn : n ≤ 64) (hat : at' + n ≤ 8 * s.length) (hs : s.length ≤ 1152921504606846000) :
    FnC Try.prog tables ro 36 [.pointer (some ⟨r, 0, none⟩), .int .i64 (n : Int), .func (.func 37) ⟨[]⟩ ⟨[.pointer (some ⟨a, 0, none⟩)]⟩] M
      (fun _ M' => RdAt M' r s (at' + n) ∧ M'.get a = some (.row [.int .u64 (valB (midT s at' n) : Nat)] 0 (some (30, 0))) ∧ Fr M M' [r, a]) := by
  refine FnC.body (nt := 48) ok hm fn36 rfl rfl ?_
  (repeat (refine Ex.block ok hm ?_))
  refine Ex.loop ?_
  refine Lp.inv ok hm (α := Nat)
    (fun m E M' => E = [(0, .pointer (some ⟨r, 0, none⟩)), (1, .int .i64 ((n : Int) - m)), (2, .func (.func 37) ⟨[]⟩ ⟨[.pointer (some ⟨a, 0, none⟩)]⟩)] ∧ m ≤ n ∧ RdAt M' r s (at' + m) ∧ M'.get a = some (.row [.int .u64 (valB (midT s at' m) : Nat)] 0 (some (30, 0))) ∧ Fr M M' [r, a])
    (fun m => n - m) ?_ 0 [(0, .pointer (some ⟨r, 0, none⟩)), (1, .int .i64 ((n : Int) - (0 : Nat))), (2, .func (.func 37) ⟨[]⟩ ⟨[.pointer (some ⟨a, 0, none⟩)]⟩)] ⟨rfl, by rw [show (n : Int) - (0 : Nat) = n by omega]; rfl, rfl, trivial⟩ ⟨rfl, Nat.zero_le _, h, by rw [midT_zero]; exact hb, Fr.refl _ _⟩
  intro m E M1 ⟨hE, hm1, h1, hb1, hF⟩
  subst hE
  by_cases hmn : m = n
  · (repeat (first
    | refine Ex.seq ok hm ?_
    | refine Ex.region ok hm ?_
    | refine Sq.pu ok hm Want.none (by first
    | exact Pu.move rfl
    | exact Pu.gtrI rfl rfl) rfl ?_
    | refine Sq.finH (n := 8) ok hm (by repeat (first
    | exact Keep.nil
    | apply Keep.drop rfl
    | apply Keep.keep rfl)) ?_
    | refine Ex.condF ok hm rfl (by first
    | rfl
    | exact decide_eq_false (by omega)) ?_
    | refine Ex.exit ok hm ?_))
    refine ⟨_, .nil, ?_, ?_, hF⟩
    · rw [← hmn]; exact h1
    · rw [← hmn]; exact hb1
  · have hrow : M1.get r = some (.row [.string ⟨⟨s⟩⟩, .int .i64 ((at' + m : Nat) : Int)] 0 (some (73, 0))) := h1
    have hlt := midT_lt s at' m
    (repeat (first
    | refine Ex.seq ok hm ?_
    | refine Ex.block ok hm ?_
    | refine Ex.skip ok hm ?_
    | refine Ex.region ok hm ?_
    | refine Sq.pu ok hm Want.none (by first
    | exact Pu.move rfl
    | exact Pu.assign rfl
    | exact Pu.nilCheck rfl
    | exact Pu.fieldAddr hT rfl rfl rfl rfl rfl
    | (apply Pu.load hT rfl rfl rfl; (focus ((repeat (assumption)))); (focus rfl))
    | exact Pu.sub rfl rfl (by simp only [InR]; omega)
    | exact Pu.rem rfl rfl (by omega) (by omega)
    | exact Pu.gtrI rfl rfl
    | exact Pu.min2 rfl rfl) rfl ?_
    | refine Sq.finH (n := 8) ok hm (by repeat (first
    | exact Keep.nil
    | apply Keep.drop rfl
    | apply Keep.keep rfl)) ?_
    | refine Ex.condT ok hm rfl (by first
    | rfl
    | exact decide_eq_true (by omega)) ?_))
    have hi8 : (at' + m) / 8 < s.length := by omega
    have hbyte := (s.getD ((at' + m) / 8) 0).toNat_lt
    obtain ⟨k, hk⟩ : ∃ k : Nat, min (8 - ((at' + m : Nat) : Int) % 8) ((n : Int) - m) = (k : Int) := ⟨_, (Int.toNat_of_nonneg (by omega)).symm⟩
    rw [hk]
    have hk1 : 1 ≤ k ∧ (at' + m) % 8 + k ≤ 8 ∧ m + k ≤ n := by omega
    refine Ex.draw ok hm 17 (by kernel_rfl) ?_
    (repeat (first
    | refine Hq.pu Want.none (by first
    | exact Pu.move rfl
    | exact Pu.nilCheck rfl
    | exact Pu.fieldAddr hT rfl rfl rfl rfl rfl
    | (apply Pu.load hT rfl rfl rfl; (focus ((repeat (assumption)))); (focus rfl))
    | exact Pu.sub rfl rfl (by simp only [InR]; omega)
    | exact Pu.quo rfl rfl (by omega) (by omega) (by simp only [InR]; omega)
    | exact Pu.indexS hT rfl rfl rfl (by omega) (by omega)
    | exact Pu.shr rfl rfl (by omega) (by omega) (by simp only [InR]; omega)
    | exact Pu.shlU8 rfl rfl (by omega) (by omega)) rfl rfl rfl ?_
    | refine Hq.nil ?_))
    have hpart : (((s.getD (((at' + m : Nat) : Int) / 8).toNat 0).toNat : Nat) : Int) * 2 ^ (((at' + m : Nat) : Int) % 8).toNat % 256 / 2 ^ (8 - (k : Int)).toNat = (((s.getD ((at' + m) / 8) 0).toNat * 2 ^ ((at' + m) % 8) % 256 / 2 ^ (8 - k) : Nat) : Int) := by
      rw [show (((at' + m : Nat) : Int) / 8).toNat = (at' + m) / 8 by omega, show (((at' + m : Nat) : Int) % 8).toNat = (at' + m) % 8 by omega, show (8 - (k : Int)).toNat = 8 - k by omega]
      simp
    rw [hpart]
    have hstep := midT_step s at' m k hi8 hk1.2.1
    have hlt2 : valB (midT s at' m) * 2 ^ k < 18446744073709551616 := by
      have h2 : valB (midT s at' m) * 2 ^ k < 2 ^ m * 2 ^ k := Nat.mul_lt_mul_of_pos_right hlt (Nat.two_pow_pos k)
      rw [← Nat.pow_add] at h2
      exact Nat.lt_of_lt_of_le h2 (Nat.pow_le_pow_right (by omega) (show m + k ≤ 64 by omega))
    refine Tq.call Want.none (Op1.call rfl rfl fn37) rfl (FnC.mono (share_ok ha hb1 (by omega) (Nat.lt_of_le_of_lt (Nat.div_le_self _ _) (Nat.mod_lt _ (by decide))) hlt2) ?_)
    rintro x M2 rfl
    rw [← hstep]
    refine Tq.finH (n := 8) (by repeat (first
    | exact Keep.nil
    | apply Keep.drop rfl
    | apply Keep.keep rfl)) ?_
    have hrow2 : (M1.upd a (.row [.int .u64 ((valB (midT s at' (m + k)) : Nat) : Int)] 0 (some (30, 0)))).get r = some (.row [.string ⟨⟨s⟩⟩, .int .i64 ((at' + m : Nat) : Int)] 0 (some (73, 0))) := (AM.upd_ne hra).trans hrow
    (repeat (first
    | refine Ex.seq ok hm ?_
    | refine Ex.region ok hm ?_
    | refine Sq.pu ok hm Want.none (by first
    | exact Pu.move rfl
    | exact Pu.nilCheck rfl
    | exact Pu.fieldAddr hT rfl rfl rfl rfl rfl
    | (apply Pu.load hT rfl rfl rfl; (focus ((repeat (assumption)))); (focus rfl))
    | exact Pu.add rfl rfl (by simp only [InR]; omega)) rfl ?_))
    refine Sq.act ok hm Want.none (Op1.store hT rfl rfl rfl rfl hrow2 hr (Nat.le_of_ble_eq_true rfl) (Nat.le_of_ble_eq_true rfl) rfl) ?_
    (repeat (first
    | refine Ex.region ok hm ?_
    | refine Sq.pu ok hm Want.none (by first
    | exact Pu.move rfl
    | exact Pu.assign rfl
    | exact Pu.sub rfl rfl (by simp only [InR]; omega)) rfl ?_
    | refine Sq.finH (n := 8) ok hm (by repeat (first
    | exact Keep.nil
    | apply Keep.drop rfl
    | apply Keep.keep rfl)) ?_))
    refine ⟨m + k, [(0, .pointer (some ⟨r, 0, none⟩)), (1, .int .i64 ((n : Int) - (m + k : Nat))), (2, .func (.func 37) ⟨[]⟩ ⟨[.pointer (some ⟨a, 0, none⟩)]⟩)], ?_, ⟨rfl, ?_, rfl, trivial⟩, rfl, by omega, ?_, ?_, ?_⟩
    · show n - (m + k) < n - m
      omega
    · rw [show (n : Int) - (m + k : Nat) = (n : Int) - m - k by omega]; rfl
    · unfold RdAt
      refine AM.upd_same.trans ?_
      rw [show ((at' + (m + k) : Nat) : Int) = ((at' + m : Nat) : Int) + k by omega]; rfl
    · exact (AM.upd_ne (Ne.symm hra)).trans AM.upd_same
    · exact (hF.upd' _ (.inl (by simp))).upd' _ (.inl (by simp))

/-- What a reader answers to Take. -/
def takeE (s : List UInt8) (at' : Nat) (n : Int) : Nat × Int × Nat :=
  if n < 0 ∨ 64 < n then (0, 1, at') else if 8 * (s.length : Int) - at' < n then (0, 4, at') else (valB (midT s at' n.toNat), 0, at' + n.toNat)

set_option maxHeartbeats 4000000 in
theorem take_ok {ro : Nat} {M : AM} {r at' : Nat} {n : Int} {s : List UInt8} (hr : ro ≤ r) (h : RdAt M r s at') (hn : InR .i64 n) (hat : at' ≤ 8 * s.length) (hs : s.length ≤ 1152921504606846000) :
    FnC Try.prog tables ro 18 [.pointer (some ⟨r, 0, none⟩), .int .i64 n] M
      (fun v M' => v = .tuple ⟨[.int .u64 ((takeE s at' n).1 : Nat), .int .i64 (takeE s at' n).2.1]⟩ ∧ RdAt M' r s (takeE s at' n).2.2 ∧ Fr M M' [r]) := by
  refine FnC.body (nt := 27) ok hm fn18 rfl rfl ?_
  refine Ex.facts fun hlt hron => ?_
  have hrl := hlt _ _ h
  simp only [InR] at hn
  by_cases h1 : n < 0
  · have e : takeE s at' n = (0, 1, at') := by unfold takeE; rw [if_pos (.inl h1)]
    rw [e]
    (repeat (first
    | refine Ex.seq ok hm ?_
    | refine Ex.block ok hm ?_
    | refine Ex.region ok hm ?_
    | refine Sq.pu ok hm Want.none (by first
    | exact Pu.move rfl
    | exact Pu.assign rfl
    | exact Pu.lssI rfl rfl
    | exact Pu.eqlP hT rfl rfl rfl
    | exact Pu.pickT rfl (by first
    | rfl
    | exact decide_eq_true (by omega)) rfl) rfl ?_
    | refine Sq.skip ok hm (by exact Want.no rfl rfl rfl (by first
    | rfl
    | exact decide_eq_true (by omega))) rfl ?_
    | refine Sq.finH (n := 7) ok hm (by repeat (first
    | exact Keep.nil
    | apply Keep.drop rfl
    | apply Keep.keep rfl)) ?_
    | refine Ex.condT ok hm rfl (by rfl) ?_
    | refine Ex.condF ok hm rfl (by rfl) ?_
    | refine Ex.ret ok hm ?_))
    exact ⟨_, .tmp rfl (.tmp rfl .nil), rfl, h, Fr.refl _ _⟩
  · by_cases h2 : 64 < n
    · have e : takeE s at' n = (0, 1, at') := by unfold takeE; rw [if_pos (.inr h2)]
      rw [e]
      (repeat (first
    | refine Ex.seq ok hm ?_
    | refine Ex.block ok hm ?_
    | refine Ex.region ok hm ?_
    | refine Sq.pu ok hm Want.none (by first
    | exact Pu.move rfl
    | exact Pu.assign rfl
    | exact Pu.lssI rfl rfl
    | exact Pu.gtrI rfl rfl
    | exact Pu.eqlP hT rfl rfl rfl
    | exact Pu.pickF rfl (by first
    | rfl
    | exact decide_eq_false (by omega)) rfl) rfl ?_
    | refine Sq.pu ok hm (by exact Want.yes rfl rfl rfl (by first
    | rfl
    | exact decide_eq_false (by omega))) (by first
    | exact Pu.move rfl
    | exact Pu.gtrI rfl rfl) rfl ?_
    | refine Sq.finH (n := 7) ok hm (by repeat (first
    | exact Keep.nil
    | apply Keep.drop rfl
    | apply Keep.keep rfl)) ?_
    | refine Ex.condT ok hm rfl (by first
    | rfl
    | exact decide_eq_true (by omega)) ?_
    | refine Ex.condF ok hm rfl (by rfl) ?_
    | refine Ex.ret ok hm ?_))
      exact ⟨_, .tmp rfl (.tmp rfl .nil), rfl, h, Fr.refl _ _⟩
    · (repeat (first
    | refine Ex.seq ok hm ?_
    | refine Ex.block ok hm ?_
    | refine Ex.region ok hm ?_
    | refine Sq.pu ok hm Want.none (by first
    | exact Pu.move rfl
    | exact Pu.assign rfl
    | exact Pu.lssI rfl rfl
    | exact Pu.gtrI rfl rfl
    | exact Pu.eqlP hT rfl rfl rfl
    | exact Pu.pickF rfl (by first
    | rfl
    | exact decide_eq_false (by omega)) rfl) rfl ?_
    | refine Sq.pu ok hm (by first
    | exact Want.none
    | exact Want.yes rfl rfl rfl (by first
    | rfl
    | exact decide_eq_false (by omega))) (by first
    | exact Pu.move rfl
    | exact Pu.gtrI rfl rfl) rfl ?_
    | refine Sq.finH (n := 7) ok hm (by repeat (first
    | exact Keep.nil
    | apply Keep.drop rfl
    | apply Keep.keep rfl)) ?_
    | refine Ex.condF ok hm rfl (by first
    | rfl
    | exact decide_eq_false (by omega)) ?_))
      refine Sq.call ok Want.none (Op1.call rfl rfl fn23) rfl (FnC.mono (left_ok h hat hs) ?_)
      rintro x M1 ⟨rfl, rfl⟩
      by_cases h3 : 8 * (s.length : Int) - at' < n
      · have e : takeE s at' n = (0, 4, at') := by unfold takeE; rw [if_neg (by omega), if_pos h3]
        rw [e]
        (repeat (first
    | refine Ex.seq ok hm ?_
    | refine Ex.region ok hm ?_
    | refine Sq.pu ok hm Want.none (by first
    | exact Pu.assign rfl
    | exact Pu.gtrI rfl rfl) rfl ?_
    | refine Sq.finH (n := 7) ok hm (by repeat (first
    | exact Keep.nil
    | apply Keep.drop rfl
    | apply Keep.keep rfl)) ?_
    | refine Ex.condT ok hm rfl (by first
    | rfl
    | exact decide_eq_true (by omega)) ?_
    | refine Ex.ret ok hm ?_))
        exact ⟨_, .tmp rfl (.tmp rfl .nil), rfl, h, Fr.refl _ _⟩
      · have e : takeE s at' n = (valB (midT s at' n.toNat), 0, at' + n.toNat) := by unfold takeE; rw [if_neg (by omega), if_neg h3]
        rw [e]
        (repeat (first
    | refine Ex.seq ok hm ?_
    | refine Ex.skip ok hm ?_
    | refine Ex.region ok hm ?_
    | refine Sq.pu ok hm Want.none (by first
    | exact Pu.assign rfl
    | exact Pu.gtrI rfl rfl) rfl ?_
    | refine Sq.finH (n := 7) ok hm (by repeat (first
    | exact Keep.nil
    | apply Keep.drop rfl
    | apply Keep.keep rfl)) ?_
    | refine Ex.condF ok hm rfl (by first
    | rfl
    | exact decide_eq_false (by omega)) ?_))
        refine Sq.op ok hm Want.none (Op1.alloc hT rfl rfl rfl) rfl ?_
        (repeat (first
    | refine Ex.seq ok hm ?_
    | refine Ex.region ok hm ?_
    | refine Sq.pu ok hm Want.none (by exact Pu.move rfl) rfl ?_
    | refine Sq.finH (n := 7) ok hm (by repeat (first
    | exact Keep.nil
    | apply Keep.drop rfl
    | apply Keep.keep rfl)) ?_))
        refine Sq.pu ok hm Want.none (Pu.makeFunc rfl rfl) rfl ?_
        have h5 : RdAt (M1.add (.row [.int .u64 0] 0 (some (30, 0)))) r s at' := (AM.add_ne (by omega)).trans h
        have h6 : (M1.add (.row [.int .u64 (0 : Nat)] 0 (some (30, 0)))).get M1.next = some (.row [.int .u64 (0 : Nat)] 0 (some (30, 0))) := AM.add_same
        have e2 : (.int .i64 n : Value) = .int .i64 (n.toNat : Int) := by rw [show ((n.toNat : Nat) : Int) = n by omega]
        refine Sq.call ok Want.none (Op1.call rfl rfl fn36) rfl ?_
        show FnC Try.prog tables ro 36 [.pointer (some ⟨r, 0, none⟩), .int .i64 n, .func (.func 37) ⟨[]⟩ ⟨[.pointer (some ⟨M1.next, 0, none⟩)]⟩] (M1.add (.row [.int .u64 (0 : Nat)] 0 (some (30, 0)))) _
        rw [e2]
        refine FnC.mono (over_ok hr hron (by omega) h5 h6 (by omega) (by omega) hs) ?_
        rintro x M2 ⟨h7, h8, hF⟩
        (repeat (first
    | refine Ex.seq ok hm ?_
    | refine Ex.region ok hm ?_
    | refine Sq.pu ok hm Want.none (by first
    | exact Pu.assign rfl
    | (apply Pu.load hT rfl rfl rfl; (focus ((repeat (assumption)))); (focus rfl))) rfl ?_
    | refine Sq.finH (n := 7) ok hm (by repeat (first
    | exact Keep.nil
    | apply Keep.drop rfl
    | apply Keep.keep rfl)) ?_
    | refine Ex.ret ok hm ?_))
        refine ⟨_, .tmp rfl (.tmp rfl .nil), rfl, h7, (Fr.add M1 _ [r]).trans hF (fun b hb => ?_)⟩
        simp only [List.mem_cons, List.not_mem_nil, or_false] at hb ⊢
        omega

set_option maxHeartbeats 4000000 in
theorem rdBit_ok {ro : Nat} {M : AM} {r at' : Nat} {s : List UInt8} (hr : ro ≤ r) (h : RdAt M r s at') (hat : at' ≤ 8 * s.length) (hs : s.length ≤ 1152921504606846000) :
    FnC Try.prog tables ro 16 [.pointer (some ⟨r, 0, none⟩)] M
      (fun v M' => v = .tuple ⟨[.bool (decide ((takeE s at' 1).1 = 1)), .int .i64 (takeE s at' 1).2.1]⟩ ∧ RdAt M' r s (takeE s at' 1).2.2 ∧ Fr M M' [r]) := by
  refine FnC.body (nt := 14) ok hm fn16 rfl rfl ?_
  (repeat (first
    | refine Ex.seq ok hm ?_
    | refine Ex.region ok hm ?_
    | refine Sq.pu ok hm Want.none (by first
    | exact Pu.move rfl
    | exact Pu.assign rfl) rfl ?_
    | refine Sq.finH (n := 7) ok hm (by repeat (first
    | exact Keep.nil
    | apply Keep.keep rfl)) ?_))
  refine Sq.call ok Want.none (Op1.call rfl rfl fn18) rfl (FnC.mono (take_ok (n := 1) hr h (by simp only [InR]; omega) hat hs) ?_)
  rintro x M1 ⟨rfl, h1, hF⟩
  (repeat (first
    | refine Ex.seq ok hm ?_
    | refine Ex.region ok hm ?_
    | refine Sq.pu ok hm Want.none (by first
    | exact Pu.move rfl
    | exact Pu.assign rfl
    | exact Pu.extract rfl rfl
    | exact Pu.eqlI rfl rfl) rfl ?_
    | refine Sq.finH (n := 7) ok hm (by repeat (first
    | exact Keep.nil
    | apply Keep.drop rfl
    | apply Keep.keep rfl)) ?_
    | refine Ex.ret ok hm ?_))
  refine ⟨_, .tmp rfl (.tmp rfl .nil), ?_, h1, hF⟩
  have e : decide (((takeE s at' 1).1 : Int) = 1) = decide ((takeE s at' 1).1 = 1) := by
    rw [Bool.eq_iff_iff, decide_eq_true_eq, decide_eq_true_eq]; omega
  rw [e]; rfl
end Go.Proofs.Ytncpdgjlhdbdpaa
