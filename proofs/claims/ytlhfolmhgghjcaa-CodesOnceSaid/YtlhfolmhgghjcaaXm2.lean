/- Towards the laws of this seat: contracts of the program's functions in a logic over a small machine (texts XCr XCs XCz XCv XCq XCw XCk XCkr). No condition. -/
import Derived.Test.YtlhfolmhgghjcaaXm1
/- N -/
namespace Go.Proofs.Ytlhfolmhgghjcaa
open Go.Wvm Bits
set_option linter.unusedVariables false
set_option linter.unusedSimpArgs false

abbrev unE (r most : Nat) (v : Nat) : En := [(0, .pointer (some ⟨r, 0, none⟩)), (1, .int .u64 (most : Int)), (6, .int .u64 (v : Int))]
set_option maxHeartbeats 4000000 in
theorem readUnary_ok {ro : Nat} {M : AM} {r a most : Nat} {s : List UInt8} (hr : ro ≤ r) (h : RdAt M r s a) (ha : a ≤ 8 * s.length) (hs : s.length ≤ 140737488355328) (hmo : most ≤ 65535) :
    FnC Try.prog tables ro 42 [.pointer (some ⟨r, 0, none⟩), .int .u64 (most : Int)] M (fun x M' => ROut s M M' r (unaT s (most + 1) 0 a) x) := by
  refine FnC.body (nt := 24) ok hm fn42 rfl rfl ?_
  (repeat (first
    | refine Ex.seq ok hm ?_
    | refine Ex.block ok hm ?_
    | refine Ex.region ok hm ?_
    | refine Sq.pu ok hm Want.none (by exact Pu.assign rfl) rfl ?_
    | refine Sq.finH (n := 7) ok hm (by repeat (first
    | exact Keep.nil
    | apply Keep.keep rfl)) ?_))
  refine Ex.loop ?_
  refine Lp.inv ok hm (α := Nat × Nat)
    (fun x E M' => E = unE r most x.1 ∧ x.1 ≤ most + 1 ∧ x.2 ≤ 8 * s.length ∧ RdAt M' r s x.2 ∧ Fr M M' [r] ∧ unaT s (most + 1 - x.1) x.1 x.2 = unaT s (most + 1) 0 a)
    (fun x => most + 1 - x.1) ?_ (0, a) (unE r most 0) ⟨rfl, rfl, rfl, trivial⟩ ⟨rfl, Nat.zero_le _, ha, h, Fr.refl _ _, rfl⟩
  intro ⟨v, a1⟩ E M1 ⟨hE, hv, ha1, h1, hF, hu⟩
  simp only at hE hv ha1 h1 hu
  subst hE
  by_cases hlast : v = most + 1
  · subst hlast
    (repeat (first
    | refine Ex.seq ok hm ?_
    | refine Ex.region ok hm ?_
    | refine Sq.pu ok hm Want.none (by first
    | exact Pu.move rfl
    | exact Pu.assign rfl
    | exact Pu.leqI rfl rfl) rfl ?_
    | refine Sq.finH (n := 7) ok hm (by repeat (first
    | exact Keep.nil
    | apply Keep.drop rfl
    | apply Keep.keep rfl)) ?_
    | refine Ex.condF ok hm rfl (by first
    | rfl
    | exact decide_eq_false (by omega)) ?_
    | refine Ex.ret ok hm ?_
    | refine Ex.exit ok hm ?_))
    refine ⟨_, .tmp rfl (.tmp rfl .nil), 0, 4, a1, rfl, h1, ha1, hF, by decide, ?_⟩
    rw [← hu, Nat.sub_self]; rfl
  · have hstep : unaT s (most + 1 - v) v a1 = unaT s ((most - v) + 1) v a1 := by rw [show most + 1 - v = (most - v) + 1 by omega]
    have hun : unaT s ((most - v) + 1) v a1 = (takeO s a1 1).bind fun x => if x.1 = 1 then some (v, x.2) else unaT s (most - v) (v + 1) x.2 := rfl
    rw [hstep, hun] at hu
    have hb2 : valB (midT s a1 1) < 2 := midT_lt s a1 1
    (repeat (first
    | refine Ex.seq ok hm ?_
    | refine Ex.block ok hm ?_
    | refine Ex.skip ok hm ?_
    | refine Ex.region ok hm ?_
    | refine Sq.pu ok hm Want.none (by first
    | exact Pu.move rfl
    | exact Pu.leqI rfl rfl) rfl ?_
    | refine Sq.finH (n := 7) ok hm (by repeat (first
    | exact Keep.nil
    | apply Keep.drop rfl
    | apply Keep.keep rfl)) ?_
    | refine Ex.condT ok hm rfl (by first
    | rfl
    | exact decide_eq_true (by omega)) ?_))
    refine Sq.call ok Want.none (Op1.call rfl rfl fn31) rfl (FnC.mono (bit2 hr h1 ha1 hs) ?_)
    rintro x M2 ⟨hF2, ⟨hb, rfl, h2⟩ | ⟨hb, rfl, h2⟩⟩
    · rw [takeO_yes hb] at hu
      simp only [Option.bind_some] at hu
      by_cases hone : valB (midT s a1 1) = 1
      · rw [if_pos hone] at hu
        (repeat (first
    | refine Ex.seq ok hm ?_
    | refine Ex.skip ok hm ?_
    | refine Ex.region ok hm ?_
    | refine Sq.pu ok hm Want.none (by first
    | exact Pu.move rfl
    | exact Pu.assign rfl
    | exact Pu.extract rfl rfl
    | exact Pu.neqI rfl rfl) rfl ?_
    | refine Sq.finH (n := 9) ok hm (by repeat (first
    | exact Keep.nil
    | apply Keep.drop rfl
    | apply Keep.keep rfl)) ?_
    | refine Ex.condT ok hm rfl (by first
    | rfl
    | exact decide_eq_true (by omega)) ?_
    | refine Ex.condF ok hm rfl (by rfl) ?_
    | refine Ex.ret ok hm ?_))
        refine ⟨_, .tmp rfl (.tmp rfl .nil), v, 0, a1 + 1, rfl, h2, hb, hF.trans hF2 (by simp), by omega, ?_⟩
        rw [← hu]; exact ⟨rfl, rfl, rfl⟩
      · rw [if_neg hone] at hu
        (repeat (first
    | refine Ex.seq ok hm ?_
    | refine Ex.skip ok hm ?_
    | refine Ex.region ok hm ?_
    | refine Sq.pu ok hm Want.none (by first
    | exact Pu.move rfl
    | exact Pu.assign rfl
    | exact Pu.extract rfl rfl
    | exact Pu.addN rfl rfl (by simp only [InR]; omega)
    | exact Pu.neqI rfl rfl) rfl ?_
    | refine Sq.finH (n := 9) ok hm (by repeat (first
    | exact Keep.nil
    | apply Keep.drop rfl
    | apply Keep.keep rfl)) ?_
    | refine Ex.condF ok hm rfl (by first
    | rfl
    | exact decide_eq_false (by omega)) ?_))
        refine ⟨(v + 1, a1 + 1), unE r most (v + 1), (by show most + 1 - (v + 1) < most + 1 - v; omega), ⟨rfl, rfl, rfl, trivial⟩, rfl, by simp only; omega, hb, h2, hF.trans hF2 (by simp), ?_⟩
        simp only
        rw [show most + 1 - (v + 1) = most - v by omega]; exact hu
    · rw [takeO_no hb] at hu
      simp only [Option.bind_none] at hu
      (repeat (first
    | refine Ex.seq ok hm ?_
    | refine Ex.region ok hm ?_
    | refine Sq.pu ok hm Want.none (by first
    | exact Pu.move rfl
    | exact Pu.assign rfl
    | exact Pu.extract rfl rfl
    | exact Pu.neqI rfl rfl) rfl ?_
    | refine Sq.finH (n := 9) ok hm (by repeat (first
    | exact Keep.nil
    | apply Keep.drop rfl
    | apply Keep.keep rfl)) ?_
    | refine Ex.condT ok hm rfl (by rfl) ?_
    | refine Ex.ret ok hm ?_))
      refine ⟨_, .tmp rfl (.tmp rfl .nil), 0, 4, a1, rfl, h2, ha1, hF.trans hF2 (by simp), by decide, ?_⟩
      rw [← hu]

set_option maxHeartbeats 4000000 in
theorem readRest_ok {ro : Nat} {M : AM} {r a b : Nat} {s : List UInt8} (hr : ro ≤ r) (h : RdAt M r s a) (ha : a ≤ 8 * s.length) (hs : s.length ≤ 140737488355328) (hb : b ≤ 47) :
    FnC Try.prog tables ro 44 [.pointer (some ⟨r, 0, none⟩), .int .u64 (b : Int)] M (fun x M' => ROut s M M' r (restT s b a) x) := by
  refine FnC.body (nt := 21) ok hm fn44 rfl rfl ?_
  have hp : 2 ^ b ≤ 2 ^ 47 := Nat.pow_le_pow_right (by decide) hb
  have hp0 := Nat.two_pow_pos b
  have hlt := midT_lt s a b
  (repeat (first
    | refine Ex.seq ok hm ?_
    | refine Ex.region ok hm ?_
    | refine Sq.pu ok hm Want.none (by first
    | exact Pu.move rfl
    | exact Pu.assign rfl
    | exact Pu.convN hT rfl rfl rfl (by simp only [InR]; omega)) rfl ?_
    | refine Sq.finH (n := 8) ok hm (by repeat (first
    | exact Keep.nil
    | apply Keep.keep rfl)) ?_))
  refine Sq.call ok Want.none (Op1.call rfl rfl fn21) rfl (FnC.mono (take2 (n := b) hr h (by omega) ha hs) ?_)
  have fin : ∀ (v : Nat) (e : Int) (a1 : Nat) (M2 : AM), v < 2 ^ b → Fr M M2 [r] → RdAt M2 r s a1 → a1 ≤ 8 * s.length → (match restT s b a with | some w => 2 ^ b + v - 1 = w.1 ∧ e = 0 ∧ a1 = w.2 | none => e = 4) →
      ROut s M M2 r (restT s b a) (.tuple ⟨[.int .u64 ((2 ^ b + v - 1 : Nat) : Int), .int .i64 e]⟩) :=
    fun v e a1 M2 hv hF h1 ha1 hm => ⟨2 ^ b + v - 1, e, a1, rfl, h1, ha1, hF, by omega, hm⟩
  rintro x M2 ⟨hF2, ⟨hb1, rfl, h2⟩ | ⟨hb1, rfl, h2⟩⟩
  · have hf := fin (valB (midT s a b)) 0 (a + b) M2 hlt hF2 h2 hb1 (by unfold restT; rw [takeO_yes hb1]; exact ⟨rfl, rfl, rfl⟩)
    generalize valB (midT s a b) = v at hlt hf ⊢
    (repeat (first
    | refine Ex.seq ok hm ?_
    | refine Ex.region ok hm ?_
    | refine Sq.pu ok hm Want.none (by first
    | exact Pu.move rfl
    | exact Pu.assign rfl
    | exact Pu.extract rfl rfl) rfl ?_
    | refine Sq.finH (n := 8) ok hm (by repeat (first
    | exact Keep.nil
    | apply Keep.drop rfl
    | apply Keep.keep rfl)) ?_))
    refine Sq.pu ok hm Want.none (Pu.shlN (a := 1) (b := b) rfl rfl (by show b ≤ 64; omega) (by simp only [InR]; omega)) rfl ?_
    rw [Nat.one_mul]
    refine Sq.pu ok hm Want.none (Pu.move rfl) rfl ?_
    refine Sq.pu ok hm Want.none (Pu.addN (a := 2 ^ b) (b := v) rfl rfl (by simp only [InR]; omega)) rfl ?_
    refine Sq.pu ok hm Want.none (Pu.subN (a := 2 ^ b + v) (b := 1) rfl rfl (by omega) (by simp only [InR]; omega)) rfl ?_
    (repeat (first
    | refine Sq.pu ok hm Want.none (by first
    | exact Pu.move rfl
    | exact Pu.assign rfl) rfl ?_
    | refine Sq.finH (n := 8) ok hm (by repeat (first
    | exact Keep.nil
    | apply Keep.drop rfl
    | apply Keep.keep rfl)) ?_
    | refine Ex.ret ok hm ?_))
    exact ⟨_, .tmp rfl (.tmp rfl .nil), hf⟩
  · have hf := fin 0 4 a M2 hp0 hF2 h2 ha (by unfold restT; rw [takeO_no hb1]; rfl)
    (repeat (first
    | refine Ex.seq ok hm ?_
    | refine Ex.region ok hm ?_
    | refine Sq.pu ok hm Want.none (by first
    | exact Pu.move rfl
    | exact Pu.assign rfl
    | exact Pu.extract rfl rfl) rfl ?_
    | refine Sq.finH (n := 8) ok hm (by repeat (first
    | exact Keep.nil
    | apply Keep.drop rfl
    | apply Keep.keep rfl)) ?_))
    refine Sq.pu ok hm Want.none (Pu.shlN (a := 1) (b := b) rfl rfl (by show b ≤ 64; omega) (by simp only [InR]; omega)) rfl ?_
    rw [Nat.one_mul]
    refine Sq.pu ok hm Want.none (Pu.move rfl) rfl ?_
    refine Sq.pu ok hm Want.none (Pu.addN (a := 2 ^ b) (b := 0) rfl rfl (by simp only [InR]; omega)) rfl ?_
    refine Sq.pu ok hm Want.none (Pu.subN (a := 2 ^ b + 0) (b := 1) rfl rfl (by omega) (by simp only [InR]; omega)) rfl ?_
    (repeat (first
    | refine Sq.pu ok hm Want.none (by first
    | exact Pu.move rfl
    | exact Pu.assign rfl) rfl ?_
    | refine Sq.finH (n := 8) ok hm (by repeat (first
    | exact Keep.nil
    | apply Keep.drop rfl
    | apply Keep.keep rfl)) ?_
    | refine Ex.ret ok hm ?_))
    exact ⟨_, .tmp rfl (.tmp rfl .nil), hf⟩

set_option maxHeartbeats 4000000 in
theorem readGamma_ok {ro : Nat} {M : AM} {r a : Nat} {s : List UInt8} (hr : ro ≤ r) (h : RdAt M r s a) (ha : a ≤ 8 * s.length) (hs : s.length ≤ 140737488355328) :
    FnC Try.prog tables ro 43 [.pointer (some ⟨r, 0, none⟩)] M (fun x M' => ROut s M M' r (gammaT s a) x) := by
  refine FnC.body (nt := 19) ok hm fn43 rfl rfl ?_
  (repeat (first
    | refine Ex.seq ok hm ?_
    | refine Ex.region ok hm ?_
    | refine Sq.pu ok hm Want.none (by first
    | exact Pu.move rfl
    | exact Pu.assign rfl) rfl ?_
    | refine Sq.finH (n := 6) ok hm (by repeat (first
    | exact Keep.nil
    | apply Keep.keep rfl)) ?_))
  refine Sq.call ok Want.none (Op1.call rfl rfl fn42) rfl (FnC.mono (readUnary_ok (most := 47) hr h ha hs (by decide)) ?_)
  rintro x M2 ⟨v, e, a1, rfl, h1, ha1, hF1, hv, hmm⟩
  have hg : gammaT s a = (unaT s 48 0 a).bind fun x => restT s x.1 x.2 := rfl
  cases ho : unaT s 48 0 a with
  | none =>
    rw [ho] at hg
    rw [show unaT s (47 + 1) 0 a = none from ho] at hmm
    obtain rfl : e = 4 := hmm
    (repeat (first
    | refine Ex.seq ok hm ?_
    | refine Ex.region ok hm ?_
    | refine Sq.pu ok hm Want.none (by first
    | exact Pu.move rfl
    | exact Pu.assign rfl
    | exact Pu.extract rfl rfl
    | exact Pu.neqI rfl rfl) rfl ?_
    | refine Sq.finH (n := 6) ok hm (by repeat (first
    | exact Keep.nil
    | apply Keep.drop rfl
    | apply Keep.keep rfl)) ?_
    | refine Ex.condT ok hm rfl (by rfl) ?_
    | refine Ex.ret ok hm ?_))
    refine ⟨_, .tmp rfl (.tmp rfl .nil), 0, 4, a1, rfl, h1, ha1, hF1, by decide, ?_⟩
    rw [hg]; rfl
  | some w =>
    rw [ho] at hg
    rw [show unaT s (47 + 1) 0 a = some w from ho] at hmm
    obtain ⟨rfl, rfl, rfl⟩ : v = w.1 ∧ e = 0 ∧ a1 = w.2 := hmm
    have hle := unaT_le 48 0 a ho
    (repeat (first
    | refine Ex.seq ok hm ?_
    | refine Ex.skip ok hm ?_
    | refine Ex.region ok hm ?_
    | refine Sq.pu ok hm Want.none (by first
    | exact Pu.move rfl
    | exact Pu.assign rfl
    | exact Pu.extract rfl rfl
    | exact Pu.neqI rfl rfl) rfl ?_
    | refine Sq.finH (n := 6) ok hm (by repeat (first
    | exact Keep.nil
    | apply Keep.drop rfl
    | apply Keep.keep rfl)) ?_
    | refine Ex.condF ok hm rfl (by rfl) ?_))
    refine Sq.call ok Want.none (Op1.call rfl rfl fn44) rfl (FnC.mono (readRest_ok (b := w.1) hr h1 ha1 hs (by omega)) ?_)
    rintro x M3 ⟨v2, e2, a2, rfl, h2, ha2, hF2, hv2, hm2⟩
    (repeat (first
    | refine Sq.pu ok hm Want.none (by first
    | exact Pu.assign rfl
    | exact Pu.extract rfl rfl) rfl ?_
    | refine Sq.finH (n := 6) ok hm (by repeat (first
    | exact Keep.nil
    | apply Keep.drop rfl
    | apply Keep.keep rfl)) ?_
    | refine Ex.ret ok hm ?_))
    refine ⟨_, .tmp rfl (.tmp rfl .nil), v2, e2, a2, rfl, h2, ha2, hF1.trans hF2 (by simp), hv2, ?_⟩
    rw [hg]; exact hm2
end Go.Proofs.Ytlhfolmhgghjcaa
/- N -/
namespace Go.Proofs.Ytlhfolmhgghjcaa
open Go.Wvm Bits
set_option linter.unusedVariables false
set_option linter.unusedSimpArgs false

set_option maxHeartbeats 8000000 in
theorem readMinimal_ok {ro : Nat} {M : AM} {r a c : Nat} {s : List UInt8} (hr : ro ≤ r) (h : RdAt M r s a) (ha : a ≤ 8 * s.length) (hs : s.length ≤ 140737488355328) (hc1 : 1 ≤ c) (hc2 : c ≤ 9223372036854775808) :
    FnC Try.prog tables ro 46 [.pointer (some ⟨r, 0, none⟩), .int .u64 (c : Int)] M (fun x M' => ROut s M M' r (minT s c a) x) := by
  refine FnC.body (nt := 46) ok hm fn46 rfl rfl ?_
  have hk : len64 (c - 1) ≤ 63 := len64_mono (k := 63) (by omega)
  have hp := pow_len64 hc1
  have hp2 : 2 ^ len64 (c - 1) ≤ 2 ^ 63 := Nat.pow_le_pow_right (by decide) hk
  have hu : minT s c a = if len64 (c - 1) = 0 then some (0, a) else (takeO s a (len64 (c - 1) - 1)).bind fun x => if x.1 < 2 ^ len64 (c - 1) - c then some x else (takeO s x.2 1).map fun y => (2 * x.1 + y.1 - (2 ^ len64 (c - 1) - c), y.2) := rfl
  (repeat (first
    | refine Ex.seq ok hm ?_
    | refine Ex.region ok hm ?_
    | refine Sq.pu ok hm Want.none (by first
    | exact Pu.move rfl
    | exact Pu.assign rfl) rfl ?_
    | refine Sq.finH (n := 8) ok hm (by repeat (first
    | exact Keep.nil
    | apply Keep.keep rfl)) ?_))
  refine Sq.call ok Want.none (Op1.call rfl rfl fn59) rfl (FnC.mono (split_ok (c := c) hc1 hc2) ?_)
  rintro x M0 ⟨rfl, rfl⟩
  generalize len64 (c - 1) = k at hk hp hp2 hu ⊢
  have hm1 : 2 ^ k - c < 9223372036854775808 := by omega
  have hkm : k ≠ 0 → 2 ^ k = 2 * 2 ^ (k - 1) := fun hz => by
    conv => lhs; rw [show k = (k - 1) + 1 by omega, Nat.pow_succ]
    omega
  generalize hmd : 2 ^ k - c = m at hm1 hu ⊢
  by_cases hz : k = 0
  · rw [if_pos hz] at hu
    subst hz
    (repeat (first
    | refine Ex.seq ok hm ?_
    | refine Ex.region ok hm ?_
    | refine Sq.pu ok hm Want.none (by first
    | exact Pu.move rfl
    | exact Pu.assign rfl
    | exact Pu.extract rfl rfl
    | exact Pu.eqlI rfl rfl) rfl ?_
    | refine Sq.finH (n := 8) ok hm (by repeat (first
    | exact Keep.nil
    | apply Keep.drop rfl
    | apply Keep.keep rfl)) ?_
    | refine Ex.condT ok hm rfl (by rfl) ?_
    | refine Ex.ret ok hm ?_))
    refine ⟨_, .tmp rfl (.tmp rfl .nil), 0, 0, a, rfl, h, ha, Fr.refl _ _, by decide, ?_⟩
    rw [hu]; exact ⟨rfl, rfl, rfl⟩
  · rw [if_neg hz] at hu
    have hkm := hkm hz
    have hlt := midT_lt s a (k - 1)
    (repeat (first
    | refine Ex.seq ok hm ?_
    | refine Ex.skip ok hm ?_
    | refine Ex.region ok hm ?_
    | refine Sq.pu ok hm Want.none (by first
    | exact Pu.move rfl
    | exact Pu.assign rfl
    | exact Pu.extract rfl rfl
    | exact Pu.eqlI rfl rfl) rfl ?_
    | refine Sq.finH (n := 10) ok hm (by repeat (first
    | exact Keep.nil
    | apply Keep.drop rfl
    | apply Keep.keep rfl)) ?_
    | refine Ex.condF ok hm rfl (by first
    | rfl
    | exact decide_eq_false (by omega)) ?_))
    refine Sq.pu ok hm Want.none (Pu.subN (a := k) (b := 1) rfl rfl (by omega) (by simp only [InR]; omega)) rfl ?_
    refine Sq.call ok Want.none (Op1.call rfl rfl fn21) rfl (FnC.mono (take2 (n := k - 1) hr h (by omega) ha hs) ?_)
    rintro x M2 ⟨hF2, ⟨hb1, rfl, h2⟩ | ⟨hb1, rfl, h2⟩⟩
    · rw [takeO_yes hb1] at hu
      simp only [Option.bind_some] at hu
      have hb1' := hb1
      generalize valB (midT s a (k - 1)) = v at hlt hu ⊢
      generalize a + (k - 1) = a1 at hu h2 hb1' ⊢
      by_cases hv : v < m
      · rw [if_pos hv] at hu
        (repeat (first
    | refine Ex.seq ok hm ?_
    | refine Ex.region ok hm ?_
    | refine Sq.pu ok hm Want.none (by first
    | exact Pu.move rfl
    | exact Pu.assign rfl
    | exact Pu.extract rfl rfl
    | exact Pu.lssI rfl rfl
    | exact Pu.neqI rfl rfl
    | exact Pu.pickF rfl (by rfl) rfl) rfl ?_
    | refine Sq.pu ok hm (by exact Want.yes rfl rfl rfl (by rfl)) (by first
    | exact Pu.move rfl
    | exact Pu.lssI rfl rfl) rfl ?_
    | refine Sq.finH (n := 10) ok hm (by repeat (first
    | exact Keep.nil
    | apply Keep.drop rfl
    | apply Keep.keep rfl)) ?_
    | refine Ex.condT ok hm rfl (by first
    | rfl
    | exact decide_eq_true (by omega)) ?_
    | refine Ex.ret ok hm ?_))
        refine ⟨_, .tmp rfl (.tmp rfl .nil), v, 0, a1, rfl, h2, hb1', hF2, by omega, ?_⟩
        rw [hu]; exact ⟨rfl, rfl, rfl⟩
      · rw [if_neg hv] at hu
        have hb2 : valB (midT s a1 1) < 2 := midT_lt s a1 1
        (repeat (first
    | refine Ex.seq ok hm ?_
    | refine Ex.skip ok hm ?_
    | refine Ex.region ok hm ?_
    | refine Sq.pu ok hm Want.none (by first
    | exact Pu.move rfl
    | exact Pu.assign rfl
    | exact Pu.extract rfl rfl
    | exact Pu.lssI rfl rfl
    | exact Pu.neqI rfl rfl
    | exact Pu.pickF rfl (by rfl) rfl) rfl ?_
    | refine Sq.pu ok hm (by first
    | exact Want.none
    | exact Want.yes rfl rfl rfl (by rfl)) (by first
    | exact Pu.move rfl
    | exact Pu.lssI rfl rfl) rfl ?_
    | refine Sq.finH (n := 11) ok hm (by repeat (first
    | exact Keep.nil
    | apply Keep.drop rfl
    | apply Keep.keep rfl)) ?_
    | refine Ex.condF ok hm rfl (by first
    | rfl
    | exact decide_eq_false (by omega)) ?_))
        refine Sq.call ok Want.none (Op1.call rfl rfl fn21) rfl (FnC.mono (take2 (n := 1) hr h2 (by decide) hb1' hs) ?_)
        rintro x M3 ⟨hF3, ⟨hb3, rfl, h3⟩ | ⟨hb3, rfl, h3⟩⟩
        · rw [takeO_yes hb3] at hu
          simp only [Option.map_some] at hu
          generalize valB (midT s a1 1) = y at hb2 hu ⊢
          (repeat (first
    | refine Ex.seq ok hm ?_
    | refine Ex.region ok hm ?_
    | refine Sq.pu ok hm Want.none (by first
    | exact Pu.move rfl
    | exact Pu.assign rfl
    | exact Pu.extract rfl rfl
    | exact Pu.shlN rfl rfl (by decide) (by simp only [InR]; omega)
    | exact Pu.addN rfl rfl (by simp only [InR]; omega)) rfl ?_
    | refine Sq.finH (n := 11) ok hm (by repeat (first
    | exact Keep.nil
    | apply Keep.drop rfl
    | apply Keep.keep rfl)) ?_))
          refine Sq.pu ok hm Want.none (Pu.subN (a := v * 2 ^ 1 + y) (b := m) rfl rfl (by omega) (by simp only [InR]; omega)) rfl ?_
          (repeat (first
    | refine Sq.pu ok hm Want.none (by first
    | exact Pu.move rfl
    | exact Pu.assign rfl) rfl ?_
    | refine Sq.finH (n := 11) ok hm (by repeat (first
    | exact Keep.nil
    | apply Keep.drop rfl
    | apply Keep.keep rfl)) ?_
    | refine Ex.ret ok hm ?_))
          refine ⟨_, .tmp rfl (.tmp rfl .nil), v * 2 ^ 1 + y - m, 0, a1 + 1, rfl, h3, hb3, hF2.trans hF3 (by simp), by omega, ?_⟩
          rw [hu]; exact ⟨by simp only; omega, rfl, rfl⟩
        · rw [takeO_no hb3] at hu
          simp only [Option.map_none] at hu
          (repeat (first
    | refine Ex.seq ok hm ?_
    | refine Ex.region ok hm ?_
    | refine Sq.pu ok hm Want.none (by first
    | exact Pu.move rfl
    | exact Pu.assign rfl
    | exact Pu.extract rfl rfl
    | exact Pu.shlN rfl rfl (by decide) (by simp only [InR]; omega)
    | exact Pu.addN rfl rfl (by simp only [InR]; omega)) rfl ?_
    | refine Sq.finH (n := 11) ok hm (by repeat (first
    | exact Keep.nil
    | apply Keep.drop rfl
    | apply Keep.keep rfl)) ?_))
          refine Sq.pu ok hm Want.none (Pu.subN (a := v * 2 ^ 1 + 0) (b := m) rfl rfl (by omega) (by simp only [InR]; omega)) rfl ?_
          (repeat (first
    | refine Sq.pu ok hm Want.none (by first
    | exact Pu.move rfl
    | exact Pu.assign rfl) rfl ?_
    | refine Sq.finH (n := 11) ok hm (by repeat (first
    | exact Keep.nil
    | apply Keep.drop rfl
    | apply Keep.keep rfl)) ?_
    | refine Ex.ret ok hm ?_))
          refine ⟨_, .tmp rfl (.tmp rfl .nil), v * 2 ^ 1 + 0 - m, 4, a1, rfl, h3, hb1', hF2.trans hF3 (by simp), by omega, ?_⟩
          rw [hu]
    · rw [takeO_no hb1] at hu
      simp only [Option.bind_none] at hu
      (repeat (first
    | refine Ex.seq ok hm ?_
    | refine Ex.region ok hm ?_
    | refine Sq.pu ok hm Want.none (by first
    | exact Pu.move rfl
    | exact Pu.assign rfl
    | exact Pu.extract rfl rfl
    | exact Pu.neqI rfl rfl
    | exact Pu.pickT rfl (by rfl) rfl) rfl ?_
    | refine Sq.skip ok hm (by exact Want.no rfl rfl rfl (by rfl)) rfl ?_
    | refine Sq.finH (n := 10) ok hm (by repeat (first
    | exact Keep.nil
    | apply Keep.drop rfl
    | apply Keep.keep rfl)) ?_
    | refine Ex.condT ok hm rfl (by rfl) ?_
    | refine Ex.ret ok hm ?_))
      refine ⟨_, .tmp rfl (.tmp rfl .nil), 0, 4, a, rfl, h2, ha, hF2, by decide, ?_⟩
      rw [hu]
end Go.Proofs.Ytlhfolmhgghjcaa
/- N -/
namespace Go.Proofs.Ytlhfolmhgghjcaa
open Go.Wvm Bits
set_option linter.unusedVariables false
set_option linter.unusedSimpArgs false

theorem minT_le {s : List UInt8} {c a : Nat} {x : Nat × Nat} (hc : 1 ≤ c) (ha : a ≤ 8 * s.length) (h : minT s c a = some x) : x.2 ≤ 8 * s.length ∧ x.1 < c := by
  have hp := pow_len64 hc
  have hl : c - 1 ≠ 0 → 2 ^ (len64 (c - 1) - 1) ≤ c - 1 := fun hz => len64_le hz
  unfold minT at h
  split at h
  · cases h; exact ⟨ha, by simp only; omega⟩
  · rename_i hz
    have hc0 : c - 1 ≠ 0 := by intro e; rw [e] at hz; exact hz rfl
    have hl := hl hc0
    have hkm : 2 ^ len64 (c - 1) = 2 * 2 ^ (len64 (c - 1) - 1) := by
      conv => lhs; rw [show len64 (c - 1) = (len64 (c - 1) - 1) + 1 by omega, Nat.pow_succ]
      omega
    cases ht : takeO s a (len64 (c - 1) - 1) with
    | none => rw [ht] at h; cases h
    | some y =>
      have h1 := takeO_le ht
      rw [ht] at h
      simp only [Option.bind_some] at h
      split at h
      · cases h
        exact ⟨h1.1, by omega⟩
      · cases ht2 : takeO s y.2 1 with
        | none => rw [ht2] at h; cases h
        | some z =>
          have h2 := takeO_le ht2
          rw [ht2] at h
          cases h
          refine ⟨h2.1, ?_⟩
          simp only
          have : z.1 < 2 := h2.2.1
          omega
theorem zeta_60 : ∀ K, K ≤ 16 → 1 ≤ K → (47 / K + 1) * K ≤ 60 := by decide
theorem zeta_room {K h : Nat} (hK : 1 ≤ K ∧ K ≤ 16) (hh : h ≤ 47 / K) : h * K ≤ 47 ∧ (h + 1) * K ≤ 60 ∧ h ≤ 47 :=
  ⟨Nat.le_trans (Nat.mul_le_mul_right K hh) (Nat.div_mul_le_self 47 K), Nat.le_trans (Nat.mul_le_mul_right K (Nat.succ_le_succ hh)) (zeta_60 K hK.2 hK.1), Nat.le_trans hh (Nat.div_le_self 47 K)⟩

set_option maxHeartbeats 8000000 in
theorem readZeta_ok {ro : Nat} {M : AM} {r a K : Nat} {s : List UInt8} (hr : ro ≤ r) (h : RdAt M r s a) (ha : a ≤ 8 * s.length) (hs : s.length ≤ 140737488355328) (hK : 1 ≤ K ∧ K ≤ 16) :
    FnC Try.prog tables ro 45 [.pointer (some ⟨r, 0, none⟩), .int .u64 (K : Int)] M (fun x M' => ROut s M M' r (zetaT s K a) x) := by
  refine FnC.body (nt := 46) ok hm fn45 rfl rfl ?_
  have hdm : 47 / K ≤ 47 := Nat.div_le_self 47 K
  have hg : zetaT s K a = (unaT s (47 / K + 1) 0 a).bind fun h => (minT s (2 ^ ((h.1 + 1) * K) - 2 ^ (h.1 * K)) h.2).bind fun x =>
    if 281474976710654 < 2 ^ (h.1 * K) + x.1 - 1 then none else some (2 ^ (h.1 * K) + x.1 - 1, x.2) := rfl
  (repeat (first
    | refine Ex.seq ok hm ?_
    | refine Ex.region ok hm ?_
    | refine Sq.pu ok hm Want.none (by first
    | exact Pu.move rfl
    | exact Pu.assign rfl) rfl ?_
    | refine Sq.finH (n := 8) ok hm (by repeat (first
    | exact Keep.nil
    | apply Keep.keep rfl)) ?_))
  refine Sq.pu ok hm Want.none (Pu.quoN (a := 47) (b := K) rfl rfl (by omega) (by simp only [InR]; omega)) rfl ?_
  refine Sq.call ok Want.none (Op1.call rfl rfl fn42) rfl (FnC.mono (readUnary_ok (most := 47 / K) hr h ha hs (by omega)) ?_)
  rintro x M2 ⟨v, e, a1, rfl, h1, ha1, hF1, hv, hmm⟩
  cases ho : unaT s (47 / K + 1) 0 a with
  | none =>
    rw [ho] at hg hmm
    obtain rfl : e = 4 := hmm
    (repeat (first
    | refine Ex.seq ok hm ?_
    | refine Ex.region ok hm ?_
    | refine Sq.pu ok hm Want.none (by first
    | exact Pu.move rfl
    | exact Pu.assign rfl
    | exact Pu.extract rfl rfl
    | exact Pu.neqI rfl rfl) rfl ?_
    | refine Sq.finH (n := 8) ok hm (by repeat (first
    | exact Keep.nil
    | apply Keep.drop rfl
    | apply Keep.keep rfl)) ?_
    | refine Ex.condT ok hm rfl (by rfl) ?_
    | refine Ex.ret ok hm ?_))
    refine ⟨_, .tmp rfl (.tmp rfl .nil), 0, 4, a1, rfl, h1, ha1, hF1, by decide, ?_⟩
    rw [hg]; rfl
  | some w =>
    have hle := unaT_le _ 0 a ho
    rw [ho] at hg hmm
    obtain ⟨rfl, rfl, rfl⟩ : v = w.1 ∧ e = 0 ∧ a1 = w.2 := hmm
    obtain ⟨wv, wa⟩ := w
    simp only at h1 ha1 hle hv
    simp only [Option.bind_some] at hg
    obtain ⟨z1, z2, z3⟩ := zeta_room (h := wv) hK (by omega)
    have hp1 : 2 ^ ((wv + 1) * K) ≤ 2 ^ 60 := Nat.pow_le_pow_right (by decide) z2
    have hp2 : 2 ^ (wv * K) < 2 ^ ((wv + 1) * K) := Nat.pow_lt_pow_right (by decide) (by rw [Nat.succ_mul]; omega)
    have hp3 : 2 ^ (wv * K) ≤ 2 ^ 47 := Nat.pow_le_pow_right (by decide) z1
    have hp4 := Nat.two_pow_pos (wv * K)
    (repeat (first
    | refine Ex.seq ok hm ?_
    | refine Ex.skip ok hm ?_
    | refine Ex.region ok hm ?_
    | refine Sq.pu ok hm Want.none (by first
    | exact Pu.move rfl
    | exact Pu.assign rfl
    | exact Pu.extract rfl rfl
    | exact Pu.neqI rfl rfl
    | exact Pu.convN hT rfl rfl rfl (by simp only [InR]; omega)) rfl ?_
    | refine Sq.finH (n := 10) ok hm (by repeat (first
    | exact Keep.nil
    | apply Keep.drop rfl
    | apply Keep.keep rfl)) ?_
    | refine Ex.condF ok hm rfl (by rfl) ?_))
    refine Sq.call ok Want.none (Op1.call rfl rfl fn53) rfl (FnC.mono (shell_ok (h := wv) (K := K) (by omega) ⟨by omega, by omega⟩) ?_)
    rintro x M3 ⟨rfl, rfl⟩
    generalize 2 ^ (wv * K) = lo at hp2 hp3 hp4 hg ⊢
    generalize hcd : 2 ^ ((wv + 1) * K) - lo = c at hg ⊢
    have hc1 : 1 ≤ c := by omega
    have hc2 : c ≤ 9223372036854775808 := by omega
    (repeat (first
    | refine Ex.seq ok hm ?_
    | refine Ex.region ok hm ?_
    | refine Sq.pu ok hm Want.none (by first
    | exact Pu.move rfl
    | exact Pu.assign rfl
    | exact Pu.extract rfl rfl) rfl ?_
    | refine Sq.finH (n := 11) ok hm (by repeat (first
    | exact Keep.nil
    | apply Keep.drop rfl
    | apply Keep.keep rfl)) ?_))
    refine Sq.call ok Want.none (Op1.call rfl rfl fn46) rfl (FnC.mono (readMinimal_ok (c := c) hr h1 ha1 hs hc1 hc2) ?_)
    rintro x M4 ⟨v2, e2, a2, rfl, h2, ha2, hF2, hv2, hm2⟩
    cases ho2 : minT s c wa with
    | none =>
      rw [ho2] at hg hm2
      obtain rfl : e2 = 4 := hm2
      (repeat (first
    | refine Ex.seq ok hm ?_
    | refine Ex.region ok hm ?_
    | refine Sq.pu ok hm Want.none (by first
    | exact Pu.move rfl
    | exact Pu.assign rfl
    | exact Pu.extract rfl rfl
    | exact Pu.neqI rfl rfl) rfl ?_
    | refine Sq.finH (n := 11) ok hm (by repeat (first
    | exact Keep.nil
    | apply Keep.drop rfl
    | apply Keep.keep rfl)) ?_
    | refine Ex.condT ok hm rfl (by rfl) ?_
    | refine Ex.ret ok hm ?_))
      refine ⟨_, .tmp rfl (.tmp rfl .nil), 0, 4, a2, rfl, h2, ha2, hF1.trans hF2 (by simp), by decide, ?_⟩
      rw [hg]; rfl
    | some w2 =>
      have hle2 := minT_le hc1 ha1 ho2
      rw [ho2] at hg hm2
      obtain ⟨rfl, rfl, rfl⟩ : v2 = w2.1 ∧ e2 = 0 ∧ a2 = w2.2 := hm2
      obtain ⟨xv, xa⟩ := w2
      simp only at h2 ha2 hle2 hv2
      simp only [Option.bind_some] at hg
      (repeat (first
    | refine Ex.seq ok hm ?_
    | refine Ex.skip ok hm ?_
    | refine Ex.region ok hm ?_
    | refine Sq.pu ok hm Want.none (by first
    | exact Pu.move rfl
    | exact Pu.assign rfl
    | exact Pu.extract rfl rfl
    | exact Pu.addN rfl rfl (by simp only [InR]; omega)
    | exact Pu.neqI rfl rfl) rfl ?_
    | refine Sq.finH (n := 11) ok hm (by repeat (first
    | exact Keep.nil
    | apply Keep.drop rfl
    | apply Keep.keep rfl)) ?_
    | refine Ex.condF ok hm rfl (by rfl) ?_))
      refine Sq.pu ok hm Want.none (Pu.subN (a := lo + xv) (b := 1) rfl rfl (by omega) (by simp only [InR]; omega)) rfl ?_
      by_cases hbig : 281474976710654 < lo + xv - 1
      · rw [if_pos hbig] at hg
        (repeat (first
    | refine Ex.seq ok hm ?_
    | refine Ex.region ok hm ?_
    | refine Sq.pu ok hm Want.none (by first
    | exact Pu.assign rfl
    | exact Pu.gtrI rfl rfl) rfl ?_
    | refine Sq.finH (n := 11) ok hm (by repeat (first
    | exact Keep.nil
    | apply Keep.drop rfl
    | apply Keep.keep rfl)) ?_
    | refine Ex.condT ok hm rfl (by first
    | rfl
    | exact decide_eq_true (by omega)) ?_
    | refine Ex.ret ok hm ?_))
        refine ⟨_, .tmp rfl (.tmp rfl .nil), 0, 4, xa, rfl, h2, ha2, hF1.trans hF2 (by simp), by decide, ?_⟩
        rw [hg]
      · rw [if_neg hbig] at hg
        (repeat (first
    | refine Ex.seq ok hm ?_
    | refine Ex.skip ok hm ?_
    | refine Ex.region ok hm ?_
    | refine Sq.pu ok hm Want.none (by first
    | exact Pu.move rfl
    | exact Pu.addN rfl rfl (by simp only [InR]; omega)
    | exact Pu.gtrI rfl rfl) rfl ?_
    | refine Sq.finH (n := 11) ok hm (by repeat (first
    | exact Keep.nil
    | apply Keep.drop rfl
    | apply Keep.keep rfl)) ?_
    | refine Ex.condF ok hm rfl (by first
    | rfl
    | exact decide_eq_false (by omega)) ?_))
        refine Sq.pu ok hm Want.none (Pu.subN (a := lo + xv) (b := 1) rfl rfl (by omega) (by simp only [InR]; omega)) rfl ?_
        (repeat (first
    | refine Sq.pu ok hm Want.none (by exact Pu.assign rfl) rfl ?_
    | refine Sq.finH (n := 11) ok hm (by repeat (first
    | exact Keep.nil
    | apply Keep.drop rfl
    | apply Keep.keep rfl)) ?_
    | refine Ex.ret ok hm ?_))
        refine ⟨_, .tmp rfl (.tmp rfl .nil), lo + xv - 1, 0, xa, rfl, h2, ha2, hF1.trans hF2 (by simp), by omega, ?_⟩
        rw [hg]; exact ⟨rfl, rfl, rfl⟩
end Go.Proofs.Ytlhfolmhgghjcaa
/- N -/
namespace Go.Proofs.Ytlhfolmhgghjcaa
open Go.Wvm Bits
set_option linter.unusedVariables false
set_option linter.unusedSimpArgs false

abbrev zeE (q most : Nat) (v : Nat) : En := [(0, .pointer (some ⟨q, 0, none⟩)), (1, .int .i64 (most : Int)), (6, .int .i64 (v : Int))]
set_option maxHeartbeats 4000000 in
theorem zeros_ok {ro : Nat} {M : AM} {q c a most : Nat} {s : List UInt8} (hr : ro ≤ q) (h : RqAt M q c s a) (ha : a ≤ 8 * s.length) (hs : s.length ≤ 1048576) (hmo : most ≤ 65535) :
    FnC Try.prog tables ro 60 [.pointer (some ⟨q, 0, none⟩), .int .i64 (most : Int)] M (fun x M' => QOut s M M' q c .i64 (unaT s (most + 1) 0 a) x) := by
  refine FnC.body (nt := 23) ok hm fn60 rfl rfl ?_
  (repeat (first
    | refine Ex.seq ok hm ?_
    | refine Ex.block ok hm ?_
    | refine Ex.region ok hm ?_
    | refine Sq.pu ok hm Want.none (by exact Pu.assign rfl) rfl ?_
    | refine Sq.finH (n := 7) ok hm (by repeat (first
    | exact Keep.nil
    | apply Keep.keep rfl)) ?_))
  refine Ex.loop ?_
  refine Lp.inv ok hm (α := Nat × Nat)
    (fun x E M' => E = zeE q most x.1 ∧ x.1 ≤ most + 1 ∧ x.2 ≤ 8 * s.length ∧ RqAt M' q c s x.2 ∧ Fr M M' [q] ∧ unaT s (most + 1 - x.1) x.1 x.2 = unaT s (most + 1) 0 a)
    (fun x => most + 1 - x.1) ?_ (0, a) (zeE q most 0) ⟨rfl, rfl, rfl, trivial⟩ ⟨rfl, Nat.zero_le _, ha, h, Fr.refl _ _, rfl⟩
  intro ⟨v, a1⟩ E M1 ⟨hE, hv, ha1, h1, hF, hu⟩
  simp only at hE hv ha1 h1 hu
  subst hE
  by_cases hlast : v = most + 1
  · subst hlast
    (repeat (first
    | refine Ex.seq ok hm ?_
    | refine Ex.region ok hm ?_
    | refine Sq.pu ok hm Want.none (by first
    | exact Pu.move rfl
    | exact Pu.assign rfl
    | exact Pu.leqI rfl rfl) rfl ?_
    | refine Sq.finH (n := 7) ok hm (by repeat (first
    | exact Keep.nil
    | apply Keep.drop rfl
    | apply Keep.keep rfl)) ?_
    | refine Ex.condF ok hm rfl (by first
    | rfl
    | exact decide_eq_false (by omega)) ?_
    | refine Ex.ret ok hm ?_
    | refine Ex.exit ok hm ?_))
    refine ⟨_, .tmp rfl (.tmp rfl .nil), 0, false, a1, rfl, h1, ha1, hF, by decide, ?_⟩
    rw [← hu, Nat.sub_self]; rfl
  · have hstep : unaT s (most + 1 - v) v a1 = unaT s ((most - v) + 1) v a1 := by rw [show most + 1 - v = (most - v) + 1 by omega]
    have hun : unaT s ((most - v) + 1) v a1 = (takeO s a1 1).bind fun x => if x.1 = 1 then some (v, x.2) else unaT s (most - v) (v + 1) x.2 := rfl
    rw [hstep, hun] at hu
    have hb2 : valB (midT s a1 1) < 2 := midT_lt s a1 1
    (repeat (first
    | refine Ex.seq ok hm ?_
    | refine Ex.block ok hm ?_
    | refine Ex.skip ok hm ?_
    | refine Ex.region ok hm ?_
    | refine Sq.pu ok hm Want.none (by first
    | exact Pu.move rfl
    | exact Pu.leqI rfl rfl) rfl ?_
    | refine Sq.finH (n := 7) ok hm (by repeat (first
    | exact Keep.nil
    | apply Keep.drop rfl
    | apply Keep.keep rfl)) ?_
    | refine Ex.condT ok hm rfl (by first
    | rfl
    | exact decide_eq_true (by omega)) ?_))
    refine Sq.call ok Want.none (Op1.call rfl rfl fn62) rfl (FnC.mono (rbit2 hr h1 ha1 hs) ?_)
    rintro x M2 ⟨hF2, ⟨hb, rfl, h2⟩ | ⟨hb, rfl, h2⟩⟩
    · rw [takeO_yes hb] at hu
      simp only [Option.bind_some] at hu
      by_cases hone : valB (midT s a1 1) = 1
      · rw [if_pos hone] at hu
        (repeat (first
    | refine Ex.seq ok hm ?_
    | refine Ex.skip ok hm ?_
    | refine Ex.region ok hm ?_
    | refine Sq.pu ok hm Want.none (by first
    | exact Pu.move rfl
    | exact Pu.assign rfl
    | exact Pu.extract rfl rfl
    | exact Pu.neqI rfl rfl) rfl ?_
    | refine Sq.finH (n := 9) ok hm (by repeat (first
    | exact Keep.nil
    | apply Keep.drop rfl
    | apply Keep.keep rfl)) ?_
    | refine Ex.condT ok hm rfl (by first
    | rfl
    | exact decide_eq_true (by omega)) ?_
    | refine Ex.condF ok hm rfl (by rfl) ?_
    | refine Ex.ret ok hm ?_))
        refine ⟨_, .tmp rfl (.tmp rfl .nil), v, true, a1 + 1, rfl, h2, hb, hF.trans hF2 (by simp), by omega, ?_⟩
        rw [← hu]; exact ⟨rfl, rfl, rfl⟩
      · rw [if_neg hone] at hu
        (repeat (first
    | refine Ex.seq ok hm ?_
    | refine Ex.skip ok hm ?_
    | refine Ex.region ok hm ?_
    | refine Sq.pu ok hm Want.none (by first
    | exact Pu.move rfl
    | exact Pu.assign rfl
    | exact Pu.extract rfl rfl
    | exact Pu.addN rfl rfl (by simp only [InR]; omega)
    | exact Pu.neqI rfl rfl) rfl ?_
    | refine Sq.finH (n := 9) ok hm (by repeat (first
    | exact Keep.nil
    | apply Keep.drop rfl
    | apply Keep.keep rfl)) ?_
    | refine Ex.condF ok hm rfl (by first
    | rfl
    | exact decide_eq_false (by omega)) ?_))
        refine ⟨(v + 1, a1 + 1), zeE q most (v + 1), (by show most + 1 - (v + 1) < most + 1 - v; omega), ⟨rfl, rfl, rfl, trivial⟩, rfl, by simp only; omega, hb, h2, hF.trans hF2 (by simp), ?_⟩
        simp only
        rw [show most + 1 - (v + 1) = most - v by omega]; exact hu
    · rw [takeO_no hb] at hu
      simp only [Option.bind_none] at hu
      (repeat (first
    | refine Ex.seq ok hm ?_
    | refine Ex.region ok hm ?_
    | refine Sq.pu ok hm Want.none (by first
    | exact Pu.move rfl
    | exact Pu.assign rfl
    | exact Pu.extract rfl rfl
    | exact Pu.neqI rfl rfl) rfl ?_
    | refine Sq.finH (n := 9) ok hm (by repeat (first
    | exact Keep.nil
    | apply Keep.drop rfl
    | apply Keep.keep rfl)) ?_
    | refine Ex.condT ok hm rfl (by rfl) ?_
    | refine Ex.ret ok hm ?_))
      refine ⟨_, .tmp rfl (.tmp rfl .nil), 0, false, a1, rfl, h2, ha1, hF.trans hF2 (by simp), by decide, ?_⟩
      rw [← hu]

end Go.Proofs.Ytlhfolmhgghjcaa
/- N -/
namespace Go.Proofs.Ytlhfolmhgghjcaa
open Go.Wvm Bits
set_option linter.unusedVariables false
set_option linter.unusedSimpArgs false

theorem lt_len64 {c k : Nat} (hc : 1 ≤ c) (h : k < len64 (c - 1)) : 2 ^ k < c := by
  have hz : c - 1 ≠ 0 := by intro e; rw [e] at h; exact absurd h (Nat.not_lt_zero _)
  have h1 := len64_le hz
  have h2 : 2 ^ k ≤ 2 ^ (len64 (c - 1) - 1) := Nat.pow_le_pow_right (by decide) (by omega)
  omega

set_option maxHeartbeats 8000000 in
theorem short_ok {ro : Nat} {M : AM} {q c0 a c : Nat} {s : List UInt8} (hr : ro ≤ q) (h : RqAt M q c0 s a) (ha : a ≤ 8 * s.length) (hs : s.length ≤ 1048576) (hc1 : 1 ≤ c) (hc2 : c ≤ 4611686018427387904) :
    FnC Try.prog tables ro 61 [.pointer (some ⟨q, 0, none⟩), .int .u64 (c : Int)] M (fun x M' => QOut s M M' q c0 .u64 (minT s c a) x) := by
  refine FnC.body (nt := 56) ok hm fn61 rfl rfl ?_
  have hk : len64 (c - 1) ≤ 62 := len64_mono (k := 62) (by omega)
  have hp := pow_len64 hc1
  have hp2 : 2 ^ len64 (c - 1) ≤ 2 ^ 62 := Nat.pow_le_pow_right (by decide) hk
  have hu : minT s c a = if len64 (c - 1) = 0 then some (0, a) else (takeO s a (len64 (c - 1) - 1)).bind fun x => if x.1 < 2 ^ len64 (c - 1) - c then some x else (takeO s x.2 1).map fun y => (2 * x.1 + y.1 - (2 ^ len64 (c - 1) - c), y.2) := rfl
  have hlk : ∀ k, k < len64 (c - 1) → 2 ^ k < c := fun k => lt_len64 hc1
  generalize len64 (c - 1) = L at hk hp hp2 hu hlk ⊢
  (repeat (first
    | refine Ex.seq ok hm ?_
    | refine Ex.block ok hm ?_
    | refine Ex.region ok hm ?_
    | refine Sq.pu ok hm Want.none (by exact Pu.assign rfl) rfl ?_
    | refine Sq.finH (n := 7) ok hm (by repeat (first
    | exact Keep.nil
    | apply Keep.keep rfl)) ?_))
  refine Ex.loop ?_
  refine Lp.inv ok hm (α := Nat)
    (fun k E M' => E = [(0, .pointer (some ⟨q, 0, none⟩)), (1, .int .u64 (c : Int)), (6, .int .i64 (k : Int))] ∧ k ≤ L ∧ M' = M)
    (fun k => L - k) ?_ 0 [(0, .pointer (some ⟨q, 0, none⟩)), (1, .int .u64 (c : Int)), (6, .int .i64 ((0 : Nat) : Int))] ⟨rfl, rfl, rfl, trivial⟩ ⟨rfl, Nat.zero_le _, rfl⟩
  intro k E M1 ⟨hE, hkL, hM1⟩
  subst hE
  subst hM1
  have hpk : 2 ^ k ≤ 2 ^ L := Nat.pow_le_pow_right (by decide) hkL
  by_cases hlt : k < L
  · have hlk := hlk k hlt
    (repeat (first
    | refine Ex.seq ok hm ?_
    | refine Ex.region ok hm ?_
    | refine Sq.pu ok hm Want.none (by first
    | exact Pu.move rfl
    | exact Pu.lssI rfl rfl) rfl ?_
    | refine Sq.pu ok hm (by exact Want.yes rfl rfl rfl (by exact decide_eq_true (by omega))) (by exact Pu.move rfl) rfl ?_))
    refine Sq.pu ok hm (by exact Want.yes rfl rfl rfl (by exact decide_eq_true (by omega))) (Pu.shlN (a := 1) (b := k) rfl rfl (by show k ≤ 64; omega) (by simp only [InR]; omega)) rfl ?_
    rw [Nat.one_mul]
    (repeat (first
    | refine Ex.block ok hm ?_
    | refine Ex.skip ok hm ?_
    | refine Ex.region ok hm ?_
    | refine Sq.pu ok hm Want.none (by first
    | exact Pu.move rfl
    | exact Pu.assign rfl
    | exact Pu.addN rfl rfl (by simp only [InR]; omega)
    | exact Pu.lssI rfl rfl
    | exact Pu.pickT rfl (by first
    | rfl
    | exact decide_eq_true (by omega)) rfl) rfl ?_
    | refine Sq.pu ok hm (by exact Want.yes rfl rfl rfl (by first
    | rfl
    | exact decide_eq_true (by omega))) (by first
    | exact Pu.move rfl
    | exact Pu.lssI rfl rfl) rfl ?_
    | refine Sq.finH (n := 7) ok hm (by repeat (first
    | exact Keep.nil
    | apply Keep.drop rfl
    | apply Keep.keep rfl)) ?_
    | refine Ex.condT ok hm rfl (by first
    | rfl
    | exact decide_eq_true (by omega)) ?_))
    exact ⟨k + 1, [(0, .pointer (some ⟨q, 0, none⟩)), (1, .int .u64 (c : Int)), (6, .int .i64 ((k + 1 : Nat) : Int))], (by show L - (k + 1) < L - k; omega), ⟨rfl, rfl, rfl, trivial⟩, rfl, hlt, rfl⟩
  · obtain rfl : k = L := by omega
    clear hlk hpk hkL
    have hm1 : 2 ^ k - c < 9223372036854775808 := by omega
    have hkm : k ≠ 0 → 2 ^ k = 2 * 2 ^ (k - 1) := fun hz => by
      conv => lhs; rw [show k = (k - 1) + 1 by omega, Nat.pow_succ]
      omega
    (repeat (first
    | refine Ex.seq ok hm ?_
    | refine Ex.region ok hm ?_
    | refine Sq.pu ok hm Want.none (by first
    | exact Pu.move rfl
    | exact Pu.lssI rfl rfl) rfl ?_
    | refine Sq.pu ok hm (by exact Want.yes rfl rfl rfl (by exact decide_eq_true (by omega))) (by exact Pu.move rfl) rfl ?_))
    refine Sq.pu ok hm (by exact Want.yes rfl rfl rfl (by exact decide_eq_true (by omega))) (Pu.shlN (a := 1) (b := k) rfl rfl (by show k ≤ 64; omega) (by simp only [InR]; omega)) rfl ?_
    rw [Nat.one_mul]
    (repeat (first
    | refine Ex.seq ok hm ?_
    | refine Ex.region ok hm ?_
    | refine Sq.pu ok hm Want.none (by first
    | exact Pu.move rfl
    | exact Pu.lssI rfl rfl
    | exact Pu.pickT rfl (by first
    | rfl
    | exact decide_eq_true (by omega)) rfl) rfl ?_
    | refine Sq.pu ok hm (by first
    | exact Want.none
    | exact Want.yes rfl rfl rfl (by first
    | rfl
    | exact decide_eq_true (by omega))) (by first
    | exact Pu.move rfl
    | exact Pu.lssI rfl rfl) rfl ?_
    | refine Sq.finH (n := 8) ok hm (by repeat (first
    | exact Keep.nil
    | apply Keep.drop rfl
    | apply Keep.keep rfl)) ?_
    | refine Ex.condF ok hm rfl (by first
    | rfl
    | exact decide_eq_false (by omega)) ?_
    | refine Ex.exit ok hm ?_))
    refine Sq.pu ok hm Want.none (Pu.shlN (a := 1) (b := k) rfl rfl (by show k ≤ 64; omega) (by simp only [InR]; omega)) rfl ?_
    rw [Nat.one_mul]
    refine Sq.pu ok hm Want.none (Pu.move rfl) rfl ?_
    refine Sq.pu ok hm Want.none (Pu.subN (a := 2 ^ k) (b := c) rfl rfl hp (by simp only [InR]; omega)) rfl ?_
    generalize hmd : 2 ^ k - c = m at hm1 hu ⊢
    by_cases hz : k = 0
    · rw [if_pos hz] at hu
      subst hz
      (repeat (first
    | refine Ex.seq ok hm ?_
    | refine Ex.region ok hm ?_
    | refine Sq.pu ok hm Want.none (by first
    | exact Pu.move rfl
    | exact Pu.assign rfl
    | exact Pu.eqlI rfl rfl) rfl ?_
    | refine Sq.finH (n := 8) ok hm (by repeat (first
    | exact Keep.nil
    | apply Keep.drop rfl
    | apply Keep.keep rfl)) ?_
    | refine Ex.condT ok hm rfl (by rfl) ?_
    | refine Ex.ret ok hm ?_))
      refine ⟨_, .tmp rfl (.tmp rfl .nil), 0, true, a, rfl, h, ha, Fr.refl _ _, by decide, ?_⟩
      rw [hu]; exact ⟨rfl, rfl, rfl⟩
    · rw [if_neg hz] at hu
      have hkm := hkm hz
      have hlt2 := midT_lt s a (k - 1)
      (repeat (first
    | refine Ex.seq ok hm ?_
    | refine Ex.skip ok hm ?_
    | refine Ex.region ok hm ?_
    | refine Sq.pu ok hm Want.none (by first
    | exact Pu.move rfl
    | exact Pu.assign rfl
    | exact Pu.eqlI rfl rfl) rfl ?_
    | refine Sq.finH (n := 8) ok hm (by repeat (first
    | exact Keep.nil
    | apply Keep.drop rfl
    | apply Keep.keep rfl)) ?_
    | refine Ex.condF ok hm rfl (by first
    | rfl
    | exact decide_eq_false (by omega)) ?_))
      refine Sq.pu ok hm Want.none (Pu.subN (a := k) (b := 1) rfl rfl (by omega) (by simp only [InR]; omega)) rfl ?_
      refine Sq.call ok Want.none (Op1.call rfl rfl fn34) rfl (FnC.mono (rtake2 (n := k - 1) hr h (by omega) ha hs) ?_)
      rintro x M2 ⟨hF2, ⟨hb1, rfl, h2⟩ | ⟨hb1, rfl, h2⟩⟩
      · rw [takeO_yes hb1] at hu
        simp only [Option.bind_some] at hu
        have hb1' := hb1
        generalize valB (midT s a (k - 1)) = v at hlt2 hu ⊢
        generalize a + (k - 1) = a1 at hu h2 hb1' ⊢
        by_cases hv : v < m
        · rw [if_pos hv] at hu
          (repeat (first
    | refine Ex.seq ok hm ?_
    | refine Ex.skip ok hm ?_
    | refine Ex.region ok hm ?_
    | refine Sq.pu ok hm Want.none (by first
    | exact Pu.move rfl
    | exact Pu.assign rfl
    | exact Pu.extract rfl rfl
    | exact Pu.lssI rfl rfl
    | exact Pu.neqI rfl rfl) rfl ?_
    | refine Sq.finH (n := 10) ok hm (by repeat (first
    | exact Keep.nil
    | apply Keep.drop rfl
    | apply Keep.keep rfl)) ?_
    | refine Ex.condT ok hm rfl (by first
    | rfl
    | exact decide_eq_true (by omega)) ?_
    | refine Ex.condF ok hm rfl (by rfl) ?_
    | refine Ex.ret ok hm ?_))
          refine ⟨_, .tmp rfl (.tmp rfl .nil), v, true, a1, rfl, h2, hb1', hF2, by omega, ?_⟩
          rw [hu]; exact ⟨rfl, rfl, rfl⟩
        · rw [if_neg hv] at hu
          have hb2 : valB (midT s a1 1) < 2 := midT_lt s a1 1
          (repeat (first
    | refine Ex.seq ok hm ?_
    | refine Ex.skip ok hm ?_
    | refine Ex.region ok hm ?_
    | refine Sq.pu ok hm Want.none (by first
    | exact Pu.move rfl
    | exact Pu.assign rfl
    | exact Pu.extract rfl rfl
    | exact Pu.lssI rfl rfl
    | exact Pu.neqI rfl rfl) rfl ?_
    | refine Sq.finH (n := 12) ok hm (by repeat (first
    | exact Keep.nil
    | apply Keep.drop rfl
    | apply Keep.keep rfl)) ?_
    | refine Ex.condF ok hm rfl (by first
    | rfl
    | exact decide_eq_false (by omega)) ?_))
          refine Sq.call ok Want.none (Op1.call rfl rfl fn62) rfl (FnC.mono (rbit2 hr h2 hb1' hs) ?_)
          rintro x M3 ⟨hF3, ⟨hb3, rfl, h3⟩ | ⟨hb3, rfl, h3⟩⟩
          · rw [takeO_yes hb3] at hu
            simp only [Option.map_some] at hu
            by_cases hone : valB (midT s a1 1) = 1
            · rw [hone] at hu
              (repeat (first
    | refine Ex.seq ok hm ?_
    | refine Ex.region ok hm ?_
    | refine Sq.pu ok hm Want.none (by first
    | exact Pu.move rfl
    | exact Pu.assign rfl
    | exact Pu.extract rfl rfl) rfl ?_
    | refine Sq.finH (n := 12) ok hm (by repeat (first
    | exact Keep.nil
    | apply Keep.drop rfl
    | apply Keep.keep rfl)) ?_))
              refine Sq.pu ok hm Want.none (Pu.mulN (a := 2) (b := v) rfl rfl (by simp only [InR]; omega)) rfl ?_
              (repeat (first
    | refine Ex.seq ok hm ?_
    | refine Ex.region ok hm ?_
    | refine Sq.pu ok hm Want.none (by first
    | exact Pu.move rfl
    | exact Pu.assign rfl
    | exact Pu.addN rfl rfl (by simp only [InR]; omega)) rfl ?_
    | refine Sq.finH (n := 12) ok hm (by repeat (first
    | exact Keep.nil
    | apply Keep.drop rfl
    | apply Keep.keep rfl)) ?_
    | refine Ex.condT ok hm rfl (by first
    | rfl
    | exact decide_eq_true (by omega)) ?_))
              refine Sq.pu ok hm Want.none (Pu.subN (a := 2 * v + 1) (b := m) rfl rfl (by omega) (by simp only [InR]; omega)) rfl ?_
              (repeat (first
    | refine Sq.pu ok hm Want.none (by first
    | exact Pu.move rfl
    | exact Pu.assign rfl
    | exact Pu.eqlI rfl rfl) rfl ?_
    | refine Sq.finH (n := 12) ok hm (by repeat (first
    | exact Keep.nil
    | apply Keep.drop rfl
    | apply Keep.keep rfl)) ?_
    | refine Ex.ret ok hm ?_))
              refine ⟨_, .tmp rfl (.tmp rfl .nil), 2 * v + 1 - m, true, a1 + 1, rfl, h3, hb3, hF2.trans hF3 (by simp), by omega, ?_⟩
              rw [hu]; exact ⟨rfl, rfl, rfl⟩
            · have hzero : valB (midT s a1 1) = 0 := by omega
              rw [hzero] at hu
              (repeat (first
    | refine Ex.seq ok hm ?_
    | refine Ex.region ok hm ?_
    | refine Sq.pu ok hm Want.none (by first
    | exact Pu.move rfl
    | exact Pu.assign rfl
    | exact Pu.extract rfl rfl) rfl ?_
    | refine Sq.finH (n := 12) ok hm (by repeat (first
    | exact Keep.nil
    | apply Keep.drop rfl
    | apply Keep.keep rfl)) ?_))
              refine Sq.pu ok hm Want.none (Pu.mulN (a := 2) (b := v) rfl rfl (by simp only [InR]; omega)) rfl ?_
              (repeat (first
    | refine Ex.seq ok hm ?_
    | refine Ex.skip ok hm ?_
    | refine Ex.region ok hm ?_
    | refine Sq.pu ok hm Want.none (by first
    | exact Pu.move rfl
    | exact Pu.assign rfl) rfl ?_
    | refine Sq.finH (n := 12) ok hm (by repeat (first
    | exact Keep.nil
    | apply Keep.drop rfl
    | apply Keep.keep rfl)) ?_
    | refine Ex.condF ok hm rfl (by first
    | rfl
    | exact decide_eq_false (by omega)) ?_))
              refine Sq.pu ok hm Want.none (Pu.subN (a := 2 * v) (b := m) rfl rfl (by omega) (by simp only [InR]; omega)) rfl ?_
              (repeat (first
    | refine Sq.pu ok hm Want.none (by first
    | exact Pu.move rfl
    | exact Pu.assign rfl
    | exact Pu.eqlI rfl rfl) rfl ?_
    | refine Sq.finH (n := 12) ok hm (by repeat (first
    | exact Keep.nil
    | apply Keep.drop rfl
    | apply Keep.keep rfl)) ?_
    | refine Ex.ret ok hm ?_))
              refine ⟨_, .tmp rfl (.tmp rfl .nil), 2 * v - m, true, a1 + 1, rfl, h3, hb3, hF2.trans hF3 (by simp), by omega, ?_⟩
              rw [hu]; exact ⟨rfl, rfl, rfl⟩
          · rw [takeO_no hb3] at hu
            simp only [Option.map_none] at hu
            (repeat (first
    | refine Ex.seq ok hm ?_
    | refine Ex.region ok hm ?_
    | refine Sq.pu ok hm Want.none (by first
    | exact Pu.move rfl
    | exact Pu.assign rfl
    | exact Pu.extract rfl rfl) rfl ?_
    | refine Sq.finH (n := 12) ok hm (by repeat (first
    | exact Keep.nil
    | apply Keep.drop rfl
    | apply Keep.keep rfl)) ?_))
            refine Sq.pu ok hm Want.none (Pu.mulN (a := 2) (b := v) rfl rfl (by simp only [InR]; omega)) rfl ?_
            (repeat (first
    | refine Ex.seq ok hm ?_
    | refine Ex.skip ok hm ?_
    | refine Ex.region ok hm ?_
    | refine Sq.pu ok hm Want.none (by first
    | exact Pu.move rfl
    | exact Pu.assign rfl) rfl ?_
    | refine Sq.finH (n := 12) ok hm (by repeat (first
    | exact Keep.nil
    | apply Keep.drop rfl
    | apply Keep.keep rfl)) ?_
    | refine Ex.condF ok hm rfl (by rfl) ?_))
            refine Sq.pu ok hm Want.none (Pu.subN (a := 2 * v) (b := m) rfl rfl (by omega) (by simp only [InR]; omega)) rfl ?_
            (repeat (first
    | refine Sq.pu ok hm Want.none (by first
    | exact Pu.move rfl
    | exact Pu.assign rfl
    | exact Pu.eqlI rfl rfl) rfl ?_
    | refine Sq.finH (n := 12) ok hm (by repeat (first
    | exact Keep.nil
    | apply Keep.drop rfl
    | apply Keep.keep rfl)) ?_
    | refine Ex.ret ok hm ?_))
            refine ⟨_, .tmp rfl (.tmp rfl .nil), 2 * v - m, false, a1, rfl, h3, hb1', hF2.trans hF3 (by simp), by omega, ?_⟩
            rw [hu]
      · rw [takeO_no hb1] at hu
        simp only [Option.bind_none] at hu
        (repeat (first
    | refine Ex.seq ok hm ?_
    | refine Ex.region ok hm ?_
    | refine Sq.pu ok hm Want.none (by first
    | exact Pu.move rfl
    | exact Pu.assign rfl
    | exact Pu.extract rfl rfl
    | exact Pu.neqI rfl rfl) rfl ?_
    | refine Sq.finH (n := 12) ok hm (by repeat (first
    | exact Keep.nil
    | apply Keep.drop rfl
    | apply Keep.keep rfl)) ?_
    | refine Ex.condT ok hm rfl (by rfl) ?_
    | refine Ex.ret ok hm ?_))
        refine ⟨_, .tmp rfl (.tmp rfl .nil), 0, false, a, rfl, h2, ha, hF2, by decide, ?_⟩
        rw [hu]
end Go.Proofs.Ytlhfolmhgghjcaa
/- N -/
namespace Go.Proofs.Ytlhfolmhgghjcaa
open Go.Wvm Bits
set_option linter.unusedVariables false
set_option linter.unusedSimpArgs false

def zetaR (s : List UInt8) (K a : Nat) : Option (Nat × Nat) :=
  (unaT s (47 / K + 1) 0 a).bind fun h => (minT s (2 ^ ((h.1 + 1) * K) - 2 ^ (h.1 * K)) h.2).map fun x => (2 ^ (h.1 * K) + x.1 - 1, x.2)
def refT (s : List UInt8) (kind K a : Nat) : Option (Nat × Nat) :=
  if kind = 0 then unaT s 65536 0 a else if kind = 1 then gammaT s a else if kind = 2 then deltaT s a else if kind = 3 then zetaR s K a else minT s K a
abbrev cdO (t kind K : Nat) : AO := .row [.int .u8 (kind : Int), .int .u64 (K : Int)] 0 (some (t, 0))

end Go.Proofs.Ytlhfolmhgghjcaa
/- N -/
namespace Go.Proofs.Ytlhfolmhgghjcaa
open Go.Wvm Bits
set_option linter.unusedVariables false
set_option linter.unusedSimpArgs false

set_option maxHeartbeats 8000000 in
theorem Check_ok {ro : Nat} {M : AM} {kind K : Nat} (hk : kind < 256) (hK : K < 18446744073709551616) :
    FnC Try.prog tables ro 40 [.agg ⟨[.int .u8 (kind : Int), .int .u64 (K : Int)]⟩] M (fun x M' => x = .int .i64 (checkE kind K) ∧ Fr M M' []) := by
  refine FnC.body (nt := 35) ok hm fn40 rfl rfl ?_
  have hF := Fr.add M (.row [.int .u8 (kind : Int), .int .u64 (K : Int)] 0 (some (58, 0))) []
  (repeat (first
    | refine Ex.seq ok hm ?_
    | refine Ex.region ok hm ?_))
  refine Sq.op ok hm Want.none (Op1.box rfl rfl) rfl ?_
  by_cases h2 : kind ≤ 2
  · by_cases hz : K = 0
    · have e : checkE kind K = 0 := by unfold checkE; rw [if_pos h2, if_pos hz]
      rw [e]
      by_cases k0 : kind = 0
      · (repeat (first
    | refine Ex.seq ok hm ?_
    | refine Ex.block ok hm ?_
    | refine Ex.skip ok hm ?_
    | refine Ex.region ok hm ?_
    | refine Sq.pu ok hm Want.none (by first
    | exact Pu.move rfl
    | exact Pu.assign rfl
    | exact Pu.fieldAddr hT rfl rfl rfl rfl rfl
    | (apply Pu.load hT rfl rfl rfl; (focus ((repeat (exact AM.add_same)))); (focus rfl))
    | exact Pu.eqlI rfl rfl
    | exact Pu.not rfl) rfl ?_
    | refine Sq.finH (n := 25) ok hm (by repeat (first
    | exact Keep.nil
    | apply Keep.drop rfl
    | apply Keep.keep rfl)) ?_
    | refine Ex.condT ok hm rfl (by first
    | rfl
    | exact decide_eq_true (by omega)) ?_
    | refine Ex.condF ok hm rfl (by first
    | rfl
    | (simp; omega)) ?_
    | refine Ex.ret ok hm ?_))
        exact ⟨_, .tmp rfl .nil, rfl, hF⟩
      · by_cases k1 : kind = 1
        · (repeat (first
    | refine Ex.seq ok hm ?_
    | refine Ex.block ok hm ?_
    | refine Ex.skip ok hm ?_
    | refine Ex.region ok hm ?_
    | refine Sq.pu ok hm Want.none (by first
    | exact Pu.move rfl
    | exact Pu.assign rfl
    | exact Pu.fieldAddr hT rfl rfl rfl rfl rfl
    | (apply Pu.load hT rfl rfl rfl; (focus ((repeat (exact AM.add_same)))); (focus rfl))
    | exact Pu.eqlI rfl rfl
    | exact Pu.not rfl) rfl ?_
    | refine Sq.finH (n := 25) ok hm (by repeat (first
    | exact Keep.nil
    | apply Keep.drop rfl
    | apply Keep.keep rfl)) ?_
    | refine Ex.condT ok hm rfl (by first
    | rfl
    | exact decide_eq_true (by omega)) ?_
    | refine Ex.condF ok hm rfl (by first
    | rfl
    | exact decide_eq_false (by omega)
    | (simp; omega)) ?_
    | refine Ex.ret ok hm ?_))
          exact ⟨_, .tmp rfl .nil, rfl, hF⟩
        · (repeat (first
    | refine Ex.seq ok hm ?_
    | refine Ex.block ok hm ?_
    | refine Ex.skip ok hm ?_
    | refine Ex.region ok hm ?_
    | refine Sq.pu ok hm Want.none (by first
    | exact Pu.move rfl
    | exact Pu.assign rfl
    | exact Pu.fieldAddr hT rfl rfl rfl rfl rfl
    | (apply Pu.load hT rfl rfl rfl; (focus ((repeat (exact AM.add_same)))); (focus rfl))
    | exact Pu.eqlI rfl rfl
    | exact Pu.not rfl) rfl ?_
    | refine Sq.finH (n := 25) ok hm (by repeat (first
    | exact Keep.nil
    | apply Keep.drop rfl
    | apply Keep.keep rfl)) ?_
    | refine Ex.condT ok hm rfl (by first
    | rfl
    | exact decide_eq_true (by omega)) ?_
    | refine Ex.condF ok hm rfl (by first
    | rfl
    | exact decide_eq_false (by omega)
    | (simp; omega)) ?_
    | refine Ex.ret ok hm ?_))
          exact ⟨_, .tmp rfl .nil, rfl, hF⟩
    · have e : checkE kind K = 1 := by unfold checkE; rw [if_pos h2, if_neg hz]
      rw [e]
      by_cases k0 : kind = 0
      · (repeat (first
    | refine Ex.seq ok hm ?_
    | refine Ex.block ok hm ?_
    | refine Ex.skip ok hm ?_
    | refine Ex.region ok hm ?_
    | refine Sq.pu ok hm Want.none (by first
    | exact Pu.move rfl
    | exact Pu.assign rfl
    | exact Pu.fieldAddr hT rfl rfl rfl rfl rfl
    | (apply Pu.load hT rfl rfl rfl; (focus ((repeat (exact AM.add_same)))); (focus rfl))
    | exact Pu.eqlI rfl rfl
    | exact Pu.not rfl) rfl ?_
    | refine Sq.finH (n := 25) ok hm (by repeat (first
    | exact Keep.nil
    | apply Keep.drop rfl
    | apply Keep.keep rfl)) ?_
    | refine Ex.condT ok hm rfl (by first
    | rfl
    | exact decide_eq_true (by omega)
    | (simp; omega)) ?_
    | refine Ex.ret ok hm ?_))
        exact ⟨_, .tmp rfl .nil, rfl, hF⟩
      · by_cases k1 : kind = 1
        · (repeat (first
    | refine Ex.seq ok hm ?_
    | refine Ex.block ok hm ?_
    | refine Ex.skip ok hm ?_
    | refine Ex.region ok hm ?_
    | refine Sq.pu ok hm Want.none (by first
    | exact Pu.move rfl
    | exact Pu.assign rfl
    | exact Pu.fieldAddr hT rfl rfl rfl rfl rfl
    | (apply Pu.load hT rfl rfl rfl; (focus ((repeat (exact AM.add_same)))); (focus rfl))
    | exact Pu.eqlI rfl rfl
    | exact Pu.not rfl) rfl ?_
    | refine Sq.finH (n := 25) ok hm (by repeat (first
    | exact Keep.nil
    | apply Keep.drop rfl
    | apply Keep.keep rfl)) ?_
    | refine Ex.condT ok hm rfl (by first
    | rfl
    | exact decide_eq_true (by omega)
    | (simp; omega)) ?_
    | refine Ex.condF ok hm rfl (by first
    | rfl
    | exact decide_eq_false (by omega)) ?_
    | refine Ex.ret ok hm ?_))
          exact ⟨_, .tmp rfl .nil, rfl, hF⟩
        · (repeat (first
    | refine Ex.seq ok hm ?_
    | refine Ex.block ok hm ?_
    | refine Ex.region ok hm ?_
    | refine Sq.pu ok hm Want.none (by first
    | exact Pu.move rfl
    | exact Pu.assign rfl
    | exact Pu.fieldAddr hT rfl rfl rfl rfl rfl
    | (apply Pu.load hT rfl rfl rfl; (focus ((repeat (exact AM.add_same)))); (focus rfl))
    | exact Pu.eqlI rfl rfl
    | exact Pu.not rfl) rfl ?_
    | refine Sq.finH (n := 25) ok hm (by repeat (first
    | exact Keep.nil
    | apply Keep.drop rfl
    | apply Keep.keep rfl)) ?_
    | refine Ex.condT ok hm rfl (by first
    | rfl
    | exact decide_eq_true (by omega)
    | (simp; omega)) ?_
    | refine Ex.condF ok hm rfl (by first
    | rfl
    | exact decide_eq_false (by omega)) ?_
    | refine Ex.ret ok hm ?_))
          exact ⟨_, .tmp rfl .nil, rfl, hF⟩
  · by_cases h3 : kind = 3
    · by_cases hz : 1 ≤ K
      · by_cases hz2 : K ≤ 16
        · have e : checkE kind K = 0 := by unfold checkE; rw [if_neg h2, if_pos h3, if_pos ⟨hz, hz2⟩]
          rw [e]
          (repeat (first
    | refine Ex.seq ok hm ?_
    | refine Ex.block ok hm ?_
    | refine Ex.skip ok hm ?_
    | refine Ex.region ok hm ?_
    | refine Sq.pu ok hm Want.none (by first
    | exact Pu.move rfl
    | exact Pu.assign rfl
    | exact Pu.fieldAddr hT rfl rfl rfl rfl rfl
    | (apply Pu.load hT rfl rfl rfl; (focus ((repeat (exact AM.add_same)))); (focus rfl))
    | exact Pu.leqI rfl rfl
    | exact Pu.eqlI rfl rfl
    | exact Pu.not rfl
    | exact Pu.pickT rfl (by first
    | rfl
    | exact decide_eq_true (by omega)) rfl) rfl ?_
    | refine Sq.pu ok hm (by exact Want.yes rfl rfl rfl (by first
    | rfl
    | exact decide_eq_true (by omega))) (by first
    | exact Pu.fieldAddr hT rfl rfl rfl rfl rfl
    | (apply Pu.load hT rfl rfl rfl; (focus ((repeat (exact AM.add_same)))); (focus rfl))
    | exact Pu.leqI rfl rfl) rfl ?_
    | refine Sq.finH (n := 25) ok hm (by repeat (first
    | exact Keep.nil
    | apply Keep.drop rfl
    | apply Keep.keep rfl)) ?_
    | refine Ex.condT ok hm rfl (by first
    | rfl
    | exact decide_eq_true (by omega)) ?_
    | refine Ex.condF ok hm rfl (by first
    | rfl
    | exact decide_eq_false (by omega)
    | (simp; omega)) ?_
    | refine Ex.ret ok hm ?_))
          exact ⟨_, .tmp rfl .nil, rfl, hF⟩
        · have e : checkE kind K = 1 := by unfold checkE; rw [if_neg h2, if_pos h3, if_neg (fun k => hz2 k.2)]
          rw [e]
          (repeat (first
    | refine Ex.seq ok hm ?_
    | refine Ex.block ok hm ?_
    | refine Ex.region ok hm ?_
    | refine Sq.pu ok hm Want.none (by first
    | exact Pu.move rfl
    | exact Pu.assign rfl
    | exact Pu.fieldAddr hT rfl rfl rfl rfl rfl
    | (apply Pu.load hT rfl rfl rfl; (focus ((repeat (exact AM.add_same)))); (focus rfl))
    | exact Pu.leqI rfl rfl
    | exact Pu.eqlI rfl rfl
    | exact Pu.not rfl
    | exact Pu.pickT rfl (by first
    | rfl
    | exact decide_eq_true (by omega)) rfl) rfl ?_
    | refine Sq.pu ok hm (by exact Want.yes rfl rfl rfl (by first
    | rfl
    | exact decide_eq_true (by omega))) (by first
    | exact Pu.fieldAddr hT rfl rfl rfl rfl rfl
    | (apply Pu.load hT rfl rfl rfl; (focus ((repeat (exact AM.add_same)))); (focus rfl))
    | exact Pu.leqI rfl rfl) rfl ?_
    | refine Sq.finH (n := 25) ok hm (by repeat (first
    | exact Keep.nil
    | apply Keep.drop rfl
    | apply Keep.keep rfl)) ?_
    | refine Ex.condT ok hm rfl (by first
    | rfl
    | exact decide_eq_true (by omega)
    | (simp; omega)) ?_
    | refine Ex.condF ok hm rfl (by first
    | rfl
    | exact decide_eq_false (by omega)) ?_
    | refine Ex.ret ok hm ?_))
          exact ⟨_, .tmp rfl .nil, rfl, hF⟩
      · have e : checkE kind K = 1 := by unfold checkE; rw [if_neg h2, if_pos h3, if_neg (fun k => hz k.1)]
        rw [e]
        (repeat (first
    | refine Ex.seq ok hm ?_
    | refine Ex.block ok hm ?_
    | refine Ex.region ok hm ?_
    | refine Sq.pu ok hm Want.none (by first
    | exact Pu.move rfl
    | exact Pu.assign rfl
    | exact Pu.fieldAddr hT rfl rfl rfl rfl rfl
    | (apply Pu.load hT rfl rfl rfl; (focus ((repeat (exact AM.add_same)))); (focus rfl))
    | exact Pu.leqI rfl rfl
    | exact Pu.eqlI rfl rfl
    | exact Pu.not rfl
    | exact Pu.pickF rfl (by first
    | rfl
    | exact decide_eq_false (by omega)) rfl) rfl ?_
    | refine Sq.skip ok hm (by exact Want.no rfl rfl rfl (by first
    | rfl
    | exact decide_eq_false (by omega))) rfl ?_
    | refine Sq.finH (n := 25) ok hm (by repeat (first
    | exact Keep.nil
    | apply Keep.drop rfl
    | apply Keep.keep rfl)) ?_
    | refine Ex.condT ok hm rfl (by first
    | rfl
    | exact decide_eq_true (by omega)) ?_
    | refine Ex.condF ok hm rfl (by first
    | rfl
    | exact decide_eq_false (by omega)) ?_
    | refine Ex.ret ok hm ?_))
        exact ⟨_, .tmp rfl .nil, rfl, hF⟩
    · by_cases h4 : kind = 4
      · by_cases hz : 1 ≤ K
        · by_cases hz2 : K ≤ 281474976710655
          · have e : checkE kind K = 0 := by unfold checkE; rw [if_neg h2, if_neg h3, if_pos h4, if_pos ⟨hz, hz2⟩]
            rw [e]
            (repeat (first
    | refine Ex.seq ok hm ?_
    | refine Ex.block ok hm ?_
    | refine Ex.skip ok hm ?_
    | refine Ex.region ok hm ?_
    | refine Sq.pu ok hm Want.none (by first
    | exact Pu.move rfl
    | exact Pu.assign rfl
    | exact Pu.fieldAddr hT rfl rfl rfl rfl rfl
    | (apply Pu.load hT rfl rfl rfl; (focus ((repeat (exact AM.add_same)))); (focus rfl))
    | exact Pu.leqI rfl rfl
    | exact Pu.eqlI rfl rfl
    | exact Pu.not rfl
    | exact Pu.pickT rfl (by first
    | rfl
    | exact decide_eq_true (by omega)) rfl) rfl ?_
    | refine Sq.pu ok hm (by exact Want.yes rfl rfl rfl (by first
    | rfl
    | exact decide_eq_true (by omega))) (by first
    | exact Pu.fieldAddr hT rfl rfl rfl rfl rfl
    | (apply Pu.load hT rfl rfl rfl; (focus ((repeat (exact AM.add_same)))); (focus rfl))
    | exact Pu.leqI rfl rfl) rfl ?_
    | refine Sq.finH (n := 25) ok hm (by repeat (first
    | exact Keep.nil
    | apply Keep.drop rfl
    | apply Keep.keep rfl)) ?_
    | refine Ex.condT ok hm rfl (by first
    | rfl
    | exact decide_eq_true (by omega)) ?_
    | refine Ex.condF ok hm rfl (by first
    | rfl
    | exact decide_eq_false (by omega)
    | (simp; omega)) ?_
    | refine Ex.ret ok hm ?_))
            exact ⟨_, .tmp rfl .nil, rfl, hF⟩
          · have e : checkE kind K = 1 := by unfold checkE; rw [if_neg h2, if_neg h3, if_pos h4, if_neg (fun k => hz2 k.2)]
            rw [e]
            (repeat (first
    | refine Ex.seq ok hm ?_
    | refine Ex.block ok hm ?_
    | refine Ex.region ok hm ?_
    | refine Sq.pu ok hm Want.none (by first
    | exact Pu.move rfl
    | exact Pu.assign rfl
    | exact Pu.fieldAddr hT rfl rfl rfl rfl rfl
    | (apply Pu.load hT rfl rfl rfl; (focus ((repeat (exact AM.add_same)))); (focus rfl))
    | exact Pu.leqI rfl rfl
    | exact Pu.eqlI rfl rfl
    | exact Pu.not rfl
    | exact Pu.pickT rfl (by first
    | rfl
    | exact decide_eq_true (by omega)) rfl) rfl ?_
    | refine Sq.pu ok hm (by exact Want.yes rfl rfl rfl (by first
    | rfl
    | exact decide_eq_true (by omega))) (by first
    | exact Pu.fieldAddr hT rfl rfl rfl rfl rfl
    | (apply Pu.load hT rfl rfl rfl; (focus ((repeat (exact AM.add_same)))); (focus rfl))
    | exact Pu.leqI rfl rfl) rfl ?_
    | refine Sq.finH (n := 25) ok hm (by repeat (first
    | exact Keep.nil
    | apply Keep.drop rfl
    | apply Keep.keep rfl)) ?_
    | refine Ex.condT ok hm rfl (by first
    | rfl
    | exact decide_eq_true (by omega)
    | (simp; omega)) ?_
    | refine Ex.condF ok hm rfl (by first
    | rfl
    | exact decide_eq_false (by omega)) ?_
    | refine Ex.ret ok hm ?_))
            exact ⟨_, .tmp rfl .nil, rfl, hF⟩
        · have e : checkE kind K = 1 := by unfold checkE; rw [if_neg h2, if_neg h3, if_pos h4, if_neg (fun k => hz k.1)]
          rw [e]
          (repeat (first
    | refine Ex.seq ok hm ?_
    | refine Ex.block ok hm ?_
    | refine Ex.region ok hm ?_
    | refine Sq.pu ok hm Want.none (by first
    | exact Pu.move rfl
    | exact Pu.assign rfl
    | exact Pu.fieldAddr hT rfl rfl rfl rfl rfl
    | (apply Pu.load hT rfl rfl rfl; (focus ((repeat (exact AM.add_same)))); (focus rfl))
    | exact Pu.leqI rfl rfl
    | exact Pu.eqlI rfl rfl
    | exact Pu.not rfl
    | exact Pu.pickF rfl (by first
    | rfl
    | exact decide_eq_false (by omega)) rfl) rfl ?_
    | refine Sq.skip ok hm (by exact Want.no rfl rfl rfl (by first
    | rfl
    | exact decide_eq_false (by omega))) rfl ?_
    | refine Sq.finH (n := 25) ok hm (by repeat (first
    | exact Keep.nil
    | apply Keep.drop rfl
    | apply Keep.keep rfl)) ?_
    | refine Ex.condT ok hm rfl (by first
    | rfl
    | exact decide_eq_true (by omega)) ?_
    | refine Ex.condF ok hm rfl (by first
    | rfl
    | exact decide_eq_false (by omega)) ?_
    | refine Ex.ret ok hm ?_))
          exact ⟨_, .tmp rfl .nil, rfl, hF⟩
      · have e : checkE kind K = 1 := by unfold checkE; rw [if_neg h2, if_neg h3, if_neg h4]
        rw [e]
        (repeat (first
    | refine Ex.seq ok hm ?_
    | refine Ex.block ok hm ?_
    | refine Ex.skip ok hm ?_
    | refine Ex.region ok hm ?_
    | refine Sq.pu ok hm Want.none (by first
    | exact Pu.move rfl
    | exact Pu.assign rfl
    | exact Pu.fieldAddr hT rfl rfl rfl rfl rfl
    | (apply Pu.load hT rfl rfl rfl; (focus ((repeat (exact AM.add_same)))); (focus rfl))
    | exact Pu.eqlI rfl rfl
    | exact Pu.not rfl) rfl ?_
    | refine Sq.finH (n := 25) ok hm (by repeat (first
    | exact Keep.nil
    | apply Keep.drop rfl
    | apply Keep.keep rfl)) ?_
    | refine Ex.condT ok hm rfl (by rfl) ?_
    | refine Ex.condF ok hm rfl (by first
    | rfl
    | exact decide_eq_false (by omega)) ?_
    | refine Ex.ret ok hm ?_))
        exact ⟨_, .tmp rfl .nil, rfl, hF⟩

end Go.Proofs.Ytlhfolmhgghjcaa
/- N -/
namespace Go.Proofs.Ytlhfolmhgghjcaa
open Go.Wvm Bits
set_option linter.unusedVariables false
set_option linter.unusedSimpArgs false

set_option maxHeartbeats 8000000 in
theorem rCheck_ok {ro : Nat} {M : AM} {kind K : Nat} (hk : kind < 256) (hK : K < 18446744073709551616) :
    FnC Try.prog tables ro 47 [.agg ⟨[.int .u8 (kind : Int), .int .u64 (K : Int)]⟩] M (fun x M' => x = .int .i64 (checkE kind K) ∧ Fr M M' []) := by
  refine FnC.body (nt := 32) ok hm fn47 rfl rfl ?_
  have hF := Fr.add M (.row [.int .u8 (kind : Int), .int .u64 (K : Int)] 0 (some (60, 0))) []
  (repeat (first
    | refine Ex.seq ok hm ?_
    | refine Ex.region ok hm ?_))
  refine Sq.op ok hm Want.none (Op1.box rfl rfl) rfl ?_
  by_cases h2 : kind ≤ 2
  · by_cases hz : K = 0
    · have e : checkE kind K = 0 := by unfold checkE; rw [if_pos h2, if_pos hz]
      rw [e]
      by_cases k0 : kind = 0
      · (repeat (first
    | refine Ex.seq ok hm ?_
    | refine Ex.block ok hm ?_
    | refine Ex.skip ok hm ?_
    | refine Ex.region ok hm ?_
    | refine Sq.pu ok hm Want.none (by first
    | exact Pu.assign rfl
    | exact Pu.fieldAddr hT rfl rfl rfl rfl rfl
    | (apply Pu.load hT rfl rfl rfl; (focus ((repeat (exact AM.add_same)))); (focus rfl))
    | exact Pu.eqlI rfl rfl
    | exact Pu.neqI rfl rfl) rfl ?_
    | refine Sq.finH (n := 23) ok hm (by repeat (first
    | exact Keep.nil
    | apply Keep.keep rfl)) ?_
    | refine Ex.condT ok hm rfl (by first
    | rfl
    | exact decide_eq_true (by omega)) ?_
    | refine Ex.condF ok hm rfl (by first
    | rfl
    | (simp; omega)) ?_
    | refine Ex.ret ok hm ?_))
        exact ⟨_, .tmp rfl .nil, rfl, hF⟩
      · by_cases k1 : kind = 1
        · (repeat (first
    | refine Ex.seq ok hm ?_
    | refine Ex.block ok hm ?_
    | refine Ex.skip ok hm ?_
    | refine Ex.region ok hm ?_
    | refine Sq.pu ok hm Want.none (by first
    | exact Pu.assign rfl
    | exact Pu.fieldAddr hT rfl rfl rfl rfl rfl
    | (apply Pu.load hT rfl rfl rfl; (focus ((repeat (exact AM.add_same)))); (focus rfl))
    | exact Pu.eqlI rfl rfl
    | exact Pu.neqI rfl rfl) rfl ?_
    | refine Sq.finH (n := 23) ok hm (by repeat (first
    | exact Keep.nil
    | apply Keep.keep rfl)) ?_
    | refine Ex.condT ok hm rfl (by first
    | rfl
    | exact decide_eq_true (by omega)) ?_
    | refine Ex.condF ok hm rfl (by first
    | rfl
    | exact decide_eq_false (by omega)
    | (simp; omega)) ?_
    | refine Ex.ret ok hm ?_))
          exact ⟨_, .tmp rfl .nil, rfl, hF⟩
        · (repeat (first
    | refine Ex.seq ok hm ?_
    | refine Ex.block ok hm ?_
    | refine Ex.skip ok hm ?_
    | refine Ex.region ok hm ?_
    | refine Sq.pu ok hm Want.none (by first
    | exact Pu.assign rfl
    | exact Pu.fieldAddr hT rfl rfl rfl rfl rfl
    | (apply Pu.load hT rfl rfl rfl; (focus ((repeat (exact AM.add_same)))); (focus rfl))
    | exact Pu.eqlI rfl rfl
    | exact Pu.neqI rfl rfl) rfl ?_
    | refine Sq.finH (n := 23) ok hm (by repeat (first
    | exact Keep.nil
    | apply Keep.keep rfl)) ?_
    | refine Ex.condT ok hm rfl (by first
    | rfl
    | exact decide_eq_true (by omega)) ?_
    | refine Ex.condF ok hm rfl (by first
    | rfl
    | exact decide_eq_false (by omega)
    | (simp; omega)) ?_
    | refine Ex.ret ok hm ?_))
          exact ⟨_, .tmp rfl .nil, rfl, hF⟩
    · have e : checkE kind K = 1 := by unfold checkE; rw [if_pos h2, if_neg hz]
      rw [e]
      by_cases k0 : kind = 0
      · (repeat (first
    | refine Ex.seq ok hm ?_
    | refine Ex.block ok hm ?_
    | refine Ex.skip ok hm ?_
    | refine Ex.region ok hm ?_
    | refine Sq.pu ok hm Want.none (by first
    | exact Pu.assign rfl
    | exact Pu.fieldAddr hT rfl rfl rfl rfl rfl
    | (apply Pu.load hT rfl rfl rfl; (focus ((repeat (exact AM.add_same)))); (focus rfl))
    | exact Pu.eqlI rfl rfl
    | exact Pu.neqI rfl rfl) rfl ?_
    | refine Sq.finH (n := 23) ok hm (by repeat (first
    | exact Keep.nil
    | apply Keep.keep rfl)) ?_
    | refine Ex.condT ok hm rfl (by first
    | rfl
    | exact decide_eq_true (by omega)
    | (simp; omega)) ?_
    | refine Ex.ret ok hm ?_))
        exact ⟨_, .tmp rfl .nil, rfl, hF⟩
      · by_cases k1 : kind = 1
        · (repeat (first
    | refine Ex.seq ok hm ?_
    | refine Ex.block ok hm ?_
    | refine Ex.skip ok hm ?_
    | refine Ex.region ok hm ?_
    | refine Sq.pu ok hm Want.none (by first
    | exact Pu.assign rfl
    | exact Pu.fieldAddr hT rfl rfl rfl rfl rfl
    | (apply Pu.load hT rfl rfl rfl; (focus ((repeat (exact AM.add_same)))); (focus rfl))
    | exact Pu.eqlI rfl rfl
    | exact Pu.neqI rfl rfl) rfl ?_
    | refine Sq.finH (n := 23) ok hm (by repeat (first
    | exact Keep.nil
    | apply Keep.keep rfl)) ?_
    | refine Ex.condT ok hm rfl (by first
    | rfl
    | exact decide_eq_true (by omega)
    | (simp; omega)) ?_
    | refine Ex.condF ok hm rfl (by first
    | rfl
    | exact decide_eq_false (by omega)) ?_
    | refine Ex.ret ok hm ?_))
          exact ⟨_, .tmp rfl .nil, rfl, hF⟩
        · (repeat (first
    | refine Ex.seq ok hm ?_
    | refine Ex.block ok hm ?_
    | refine Ex.region ok hm ?_
    | refine Sq.pu ok hm Want.none (by first
    | exact Pu.assign rfl
    | exact Pu.fieldAddr hT rfl rfl rfl rfl rfl
    | (apply Pu.load hT rfl rfl rfl; (focus ((repeat (exact AM.add_same)))); (focus rfl))
    | exact Pu.eqlI rfl rfl
    | exact Pu.neqI rfl rfl) rfl ?_
    | refine Sq.finH (n := 23) ok hm (by repeat (first
    | exact Keep.nil
    | apply Keep.keep rfl)) ?_
    | refine Ex.condT ok hm rfl (by first
    | rfl
    | exact decide_eq_true (by omega)
    | (simp; omega)) ?_
    | refine Ex.condF ok hm rfl (by first
    | rfl
    | exact decide_eq_false (by omega)) ?_
    | refine Ex.ret ok hm ?_))
          exact ⟨_, .tmp rfl .nil, rfl, hF⟩
  · by_cases h3 : kind = 3
    · by_cases hz : 1 ≤ K
      · by_cases hz2 : K ≤ 16
        · have e : checkE kind K = 0 := by unfold checkE; rw [if_neg h2, if_pos h3, if_pos ⟨hz, hz2⟩]
          rw [e]
          (repeat (first
    | refine Ex.seq ok hm ?_
    | refine Ex.block ok hm ?_
    | refine Ex.skip ok hm ?_
    | refine Ex.region ok hm ?_
    | refine Sq.pu ok hm Want.none (by first
    | exact Pu.move rfl
    | exact Pu.assign rfl
    | exact Pu.fieldAddr hT rfl rfl rfl rfl rfl
    | (apply Pu.load hT rfl rfl rfl; (focus ((repeat (exact AM.add_same)))); (focus rfl))
    | exact Pu.lssI rfl rfl
    | exact Pu.gtrI rfl rfl
    | exact Pu.eqlI rfl rfl
    | exact Pu.pickF rfl (by first
    | rfl
    | exact decide_eq_false (by omega)) rfl) rfl ?_
    | refine Sq.pu ok hm (by exact Want.yes rfl rfl rfl (by first
    | rfl
    | exact decide_eq_false (by omega))) (by first
    | exact Pu.fieldAddr hT rfl rfl rfl rfl rfl
    | (apply Pu.load hT rfl rfl rfl; (focus ((repeat (exact AM.add_same)))); (focus rfl))
    | exact Pu.gtrI rfl rfl) rfl ?_
    | refine Sq.finH (n := 23) ok hm (by repeat (first
    | exact Keep.nil
    | apply Keep.keep rfl)) ?_
    | refine Ex.condT ok hm rfl (by first
    | rfl
    | exact decide_eq_true (by omega)) ?_
    | refine Ex.condF ok hm rfl (by first
    | rfl
    | exact decide_eq_false (by omega)) ?_
    | refine Ex.ret ok hm ?_))
          exact ⟨_, .tmp rfl .nil, rfl, hF⟩
        · have e : checkE kind K = 1 := by unfold checkE; rw [if_neg h2, if_pos h3, if_neg (fun k => hz2 k.2)]
          rw [e]
          (repeat (first
    | refine Ex.seq ok hm ?_
    | refine Ex.block ok hm ?_
    | refine Ex.region ok hm ?_
    | refine Sq.pu ok hm Want.none (by first
    | exact Pu.move rfl
    | exact Pu.assign rfl
    | exact Pu.fieldAddr hT rfl rfl rfl rfl rfl
    | (apply Pu.load hT rfl rfl rfl; (focus ((repeat (exact AM.add_same)))); (focus rfl))
    | exact Pu.lssI rfl rfl
    | exact Pu.gtrI rfl rfl
    | exact Pu.eqlI rfl rfl
    | exact Pu.pickF rfl (by first
    | rfl
    | exact decide_eq_false (by omega)) rfl) rfl ?_
    | refine Sq.pu ok hm (by exact Want.yes rfl rfl rfl (by first
    | rfl
    | exact decide_eq_false (by omega))) (by first
    | exact Pu.fieldAddr hT rfl rfl rfl rfl rfl
    | (apply Pu.load hT rfl rfl rfl; (focus ((repeat (exact AM.add_same)))); (focus rfl))
    | exact Pu.gtrI rfl rfl) rfl ?_
    | refine Sq.finH (n := 23) ok hm (by repeat (first
    | exact Keep.nil
    | apply Keep.keep rfl)) ?_
    | refine Ex.condT ok hm rfl (by first
    | rfl
    | exact decide_eq_true (by omega)) ?_
    | refine Ex.condF ok hm rfl (by first
    | rfl
    | exact decide_eq_false (by omega)) ?_
    | refine Ex.ret ok hm ?_))
          exact ⟨_, .tmp rfl .nil, rfl, hF⟩
      · have e : checkE kind K = 1 := by unfold checkE; rw [if_neg h2, if_pos h3, if_neg (fun k => hz k.1)]
        rw [e]
        (repeat (first
    | refine Ex.seq ok hm ?_
    | refine Ex.block ok hm ?_
    | refine Ex.region ok hm ?_
    | refine Sq.pu ok hm Want.none (by first
    | exact Pu.move rfl
    | exact Pu.assign rfl
    | exact Pu.fieldAddr hT rfl rfl rfl rfl rfl
    | (apply Pu.load hT rfl rfl rfl; (focus ((repeat (exact AM.add_same)))); (focus rfl))
    | exact Pu.lssI rfl rfl
    | exact Pu.eqlI rfl rfl
    | exact Pu.pickT rfl (by first
    | rfl
    | exact decide_eq_true (by omega)) rfl) rfl ?_
    | refine Sq.skip ok hm (by exact Want.no rfl rfl rfl (by first
    | rfl
    | exact decide_eq_true (by omega))) rfl ?_
    | refine Sq.finH (n := 23) ok hm (by repeat (first
    | exact Keep.nil
    | apply Keep.keep rfl)) ?_
    | refine Ex.condT ok hm rfl (by first
    | rfl
    | exact decide_eq_true (by omega)) ?_
    | refine Ex.condF ok hm rfl (by first
    | rfl
    | exact decide_eq_false (by omega)) ?_
    | refine Ex.ret ok hm ?_))
        exact ⟨_, .tmp rfl .nil, rfl, hF⟩
    · by_cases h4 : kind = 4
      · by_cases hz : 1 ≤ K
        · by_cases hz2 : K ≤ 281474976710655
          · have e : checkE kind K = 0 := by unfold checkE; rw [if_neg h2, if_neg h3, if_pos h4, if_pos ⟨hz, hz2⟩]
            rw [e]
            (repeat (first
    | refine Ex.seq ok hm ?_
    | refine Ex.block ok hm ?_
    | refine Ex.skip ok hm ?_
    | refine Ex.region ok hm ?_
    | refine Sq.pu ok hm Want.none (by first
    | exact Pu.move rfl
    | exact Pu.assign rfl
    | exact Pu.fieldAddr hT rfl rfl rfl rfl rfl
    | (apply Pu.load hT rfl rfl rfl; (focus ((repeat (exact AM.add_same)))); (focus rfl))
    | exact Pu.lssI rfl rfl
    | exact Pu.gtrI rfl rfl
    | exact Pu.eqlI rfl rfl
    | exact Pu.pickF rfl (by first
    | rfl
    | exact decide_eq_false (by omega)) rfl) rfl ?_
    | refine Sq.pu ok hm (by exact Want.yes rfl rfl rfl (by first
    | rfl
    | exact decide_eq_false (by omega))) (by first
    | exact Pu.fieldAddr hT rfl rfl rfl rfl rfl
    | (apply Pu.load hT rfl rfl rfl; (focus ((repeat (exact AM.add_same)))); (focus rfl))
    | exact Pu.gtrI rfl rfl) rfl ?_
    | refine Sq.finH (n := 23) ok hm (by repeat (first
    | exact Keep.nil
    | apply Keep.drop rfl
    | apply Keep.keep rfl)) ?_
    | refine Ex.condT ok hm rfl (by first
    | rfl
    | exact decide_eq_true (by omega)) ?_
    | refine Ex.condF ok hm rfl (by first
    | rfl
    | exact decide_eq_false (by omega)) ?_
    | refine Ex.ret ok hm ?_))
            exact ⟨_, .tmp rfl .nil, rfl, hF⟩
          · have e : checkE kind K = 1 := by unfold checkE; rw [if_neg h2, if_neg h3, if_pos h4, if_neg (fun k => hz2 k.2)]
            rw [e]
            (repeat (first
    | refine Ex.seq ok hm ?_
    | refine Ex.block ok hm ?_
    | refine Ex.region ok hm ?_
    | refine Sq.pu ok hm Want.none (by first
    | exact Pu.move rfl
    | exact Pu.assign rfl
    | exact Pu.fieldAddr hT rfl rfl rfl rfl rfl
    | (apply Pu.load hT rfl rfl rfl; (focus ((repeat (exact AM.add_same)))); (focus rfl))
    | exact Pu.lssI rfl rfl
    | exact Pu.gtrI rfl rfl
    | exact Pu.eqlI rfl rfl
    | exact Pu.pickF rfl (by first
    | rfl
    | exact decide_eq_false (by omega)) rfl) rfl ?_
    | refine Sq.pu ok hm (by exact Want.yes rfl rfl rfl (by first
    | rfl
    | exact decide_eq_false (by omega))) (by first
    | exact Pu.fieldAddr hT rfl rfl rfl rfl rfl
    | (apply Pu.load hT rfl rfl rfl; (focus ((repeat (exact AM.add_same)))); (focus rfl))
    | exact Pu.gtrI rfl rfl) rfl ?_
    | refine Sq.finH (n := 23) ok hm (by repeat (first
    | exact Keep.nil
    | apply Keep.drop rfl
    | apply Keep.keep rfl)) ?_
    | refine Ex.condT ok hm rfl (by first
    | rfl
    | exact decide_eq_true (by omega)) ?_
    | refine Ex.condF ok hm rfl (by first
    | rfl
    | exact decide_eq_false (by omega)) ?_
    | refine Ex.ret ok hm ?_))
            exact ⟨_, .tmp rfl .nil, rfl, hF⟩
        · have e : checkE kind K = 1 := by unfold checkE; rw [if_neg h2, if_neg h3, if_pos h4, if_neg (fun k => hz k.1)]
          rw [e]
          (repeat (first
    | refine Ex.seq ok hm ?_
    | refine Ex.block ok hm ?_
    | refine Ex.region ok hm ?_
    | refine Sq.pu ok hm Want.none (by first
    | exact Pu.move rfl
    | exact Pu.assign rfl
    | exact Pu.fieldAddr hT rfl rfl rfl rfl rfl
    | (apply Pu.load hT rfl rfl rfl; (focus ((repeat (exact AM.add_same)))); (focus rfl))
    | exact Pu.lssI rfl rfl
    | exact Pu.eqlI rfl rfl
    | exact Pu.pickT rfl (by first
    | rfl
    | exact decide_eq_true (by omega)) rfl) rfl ?_
    | refine Sq.skip ok hm (by exact Want.no rfl rfl rfl (by first
    | rfl
    | exact decide_eq_true (by omega))) rfl ?_
    | refine Sq.finH (n := 23) ok hm (by repeat (first
    | exact Keep.nil
    | apply Keep.drop rfl
    | apply Keep.keep rfl)) ?_
    | refine Ex.condT ok hm rfl (by first
    | rfl
    | exact decide_eq_true (by omega)) ?_
    | refine Ex.condF ok hm rfl (by first
    | rfl
    | exact decide_eq_false (by omega)) ?_
    | refine Ex.ret ok hm ?_))
          exact ⟨_, .tmp rfl .nil, rfl, hF⟩
      · have e : checkE kind K = 1 := by unfold checkE; rw [if_neg h2, if_neg h3, if_neg h4]
        rw [e]
        (repeat (first
    | refine Ex.seq ok hm ?_
    | refine Ex.block ok hm ?_
    | refine Ex.skip ok hm ?_
    | refine Ex.region ok hm ?_
    | refine Sq.pu ok hm Want.none (by first
    | exact Pu.assign rfl
    | exact Pu.fieldAddr hT rfl rfl rfl rfl rfl
    | (apply Pu.load hT rfl rfl rfl; (focus ((repeat (exact AM.add_same)))); (focus rfl))
    | exact Pu.eqlI rfl rfl) rfl ?_
    | refine Sq.finH (n := 23) ok hm (by repeat (first
    | exact Keep.nil
    | apply Keep.drop rfl
    | apply Keep.keep rfl)) ?_
    | refine Ex.condF ok hm rfl (by first
    | rfl
    | exact decide_eq_false (by omega)) ?_
    | refine Ex.ret ok hm ?_))
        exact ⟨_, .tmp rfl .nil, rfl, hF⟩

end Go.Proofs.Ytlhfolmhgghjcaa
