/- Towards the laws of this seat: contracts of the program's functions in a logic over a small machine (texts XKb XKo XKl XKe XKf). No condition. -/
import Derived.Test.YtpglehckhnencaaXm0
/- N -/
namespace Go.Proofs.Ytpglehckhnencaa
open Go.Wvm Sk
set_option linter.unusedVariables false
set_option linter.unusedSimpArgs false

abbrev strV (s : List UInt8) : Value := .string ⟨⟨s⟩⟩
abbrev okV (p : Nat) : Value := .tuple ⟨[.int .i64 (p : Int), .int .i64 0]⟩
noncomputable def exV (s : List UInt8) : Value := match exE s with
  | some p => .tuple ⟨[.int .i64 (p : Int), .int .i64 0]⟩
  | none => .tuple ⟨[.int .i64 0, .int .i64 4]⟩
theorem exV_some {p : Nat} {s : List UInt8} (h : Okp p s) : exV s = .tuple ⟨[.int .i64 (p : Int), .int .i64 0]⟩ := by unfold exV; rw [exE_some h]
theorem exV_none {s : List UInt8} (h : ∀ p, ¬ Okp p s) : exV s = .tuple ⟨[.int .i64 0, .int .i64 4]⟩ := by unfold exV; rw [exE_none h]

/-- All bytes up to a place are as small as they must be. -/
def Low (p i : Nat) (s : List UInt8) : Prop := ∀ j, j < i → (s.getD j 0).toNat ≤ 65 - p

set_option maxHeartbeats 8000000 in
theorem Exponent_ok {ro : Nat} {M : AM} {s : List UInt8} (hs : s.length ≤ 140737488355328) :
    FnC Try.prog tables ro 13 [strV s] M (fun v M' => v = exV s ∧ M' = M) := by
  refine FnC.body (nt := 38) ok hm fn13 rfl rfl ?_
  (repeat (first
    | refine Ex.seq ok hm ?_
    | refine Ex.region ok hm ?_
    | refine Sq.pu ok hm Want.none (by first
    | exact Pu.move rfl
    | exact Pu.assign rfl
    | exact Pu.lenS hT rfl rfl
    | exact Pu.convN hT rfl rfl rfl (by simp only [InR]; omega)) rfl ?_
    | refine Sq.finH (n := 5) ok hm (by repeat (first
    | exact Keep.nil
    | apply Keep.keep rfl)) ?_))
  refine Sq.call ok Want.none (Op1.call rfl rfl fn29) rfl (FnC.mono (Len_ok (n := s.length) (by omega)) ?_)
  rintro x M1 ⟨rfl, rfl⟩
  have hl := len64_mono (n := s.length) (k := 64) (by omega)
  by_cases hp : 5 ≤ len64 s.length ∧ len64 s.length ≤ 17 ∧ s.length = 2 ^ (len64 s.length - 1)
  · obtain ⟨hp1, hp2, hp3⟩ := hp
    obtain ⟨p, hpe⟩ : ∃ p, len64 s.length = p + 1 := ⟨len64 s.length - 1, by omega⟩
    rw [hpe, Nat.add_sub_cancel] at hp3
    rw [hpe] at hp1 hp2 ⊢
    have hpw := pow_p (p := p) (by omega) (by omega)
    refine Sq.pu ok hm Want.none (Pu.subZ (a := p + 1) (b := 1) p (by omega) (by simp only [InR]; omega) rfl rfl) rfl ?_
    (repeat (first
    | refine Ex.seq ok hm ?_
    | refine Ex.region ok hm ?_
    | refine Sq.pu ok hm Want.none (by first
    | exact Pu.move rfl
    | exact Pu.assign rfl
    | exact Pu.lssI rfl rfl
    | exact Pu.gtrI rfl rfl
    | exact Pu.lenS hT rfl rfl
    | exact Pu.pickF rfl (by first
    | rfl
    | exact decide_eq_false (by omega)) rfl) rfl ?_
    | refine Sq.pu ok hm (by exact Want.yes rfl rfl rfl (by first
    | rfl
    | exact decide_eq_false (by omega))) (by first
    | exact Pu.move rfl
    | exact Pu.gtrI rfl rfl
    | exact Pu.lenS hT rfl rfl) rfl ?_
    | refine Sq.finH (n := 6) ok hm (by repeat (first
    | exact Keep.nil
    | apply Keep.drop rfl
    | apply Keep.keep rfl)) ?_))
    refine Sq.pu ok hm (Want.yes rfl rfl rfl (by first | rfl | (simp; omega))) (Pu.shlN (a := 1) (b := p) rfl rfl (by show p ≤ 64; omega) (by simp only [InR]; omega)) rfl ?_
    rw [Nat.one_mul, ← hp3]
    (repeat (first
    | refine Ex.seq ok hm ?_
    | refine Ex.block ok hm ?_
    | refine Ex.skip ok hm ?_
    | refine Ex.region ok hm ?_
    | refine Sq.pu ok hm Want.none (by first
    | exact Pu.move rfl
    | exact Pu.neqI rfl rfl
    | exact Pu.lenS hT rfl rfl
    | exact Pu.pickF rfl (by first
    | rfl
    | exact decide_eq_false (by omega)) rfl) rfl ?_
    | refine Sq.pu ok hm (by exact Want.yes rfl rfl rfl (by first
    | rfl
    | exact decide_eq_false (by omega))) (by exact Pu.neqI rfl rfl) rfl ?_
    | refine Sq.finH (n := 27) ok hm (by repeat (first
    | exact Keep.nil
    | apply Keep.keep rfl)) ?_
    | refine Ex.condF ok hm rfl (by first
    | rfl
    | (simp; done) | omega) ?_))
    refine Ex.loop ?_
    refine Lp.inv ok hm (α := Nat)
      (fun i E M' => E = [(26, .int .i64 (i : Int)), (25, .int .i64 (s.length : Int)), (0, strV s), (4, .int .i64 (p : Int))] ∧ i ≤ s.length ∧ Low p i s ∧ M' = M1)
      (fun i => s.length - i) ?_ 0 [(26, .int .i64 (0 : Nat)), (25, .int .i64 (s.length : Int)), (0, strV s), (4, .int .i64 (p : Int))] ⟨rfl, rfl, rfl, rfl, trivial⟩ ⟨rfl, Nat.zero_le _, fun j hj => by omega, rfl⟩
    intro i E M2 ⟨hE, hi, hlow, hM⟩
    subst hE hM
    by_cases hil : i < s.length
    · have hbyte := (s.getD i 0).toNat_lt
      (repeat (first
    | refine Ex.seq ok hm ?_
    | refine Ex.block ok hm ?_
    | refine Ex.skip ok hm ?_
    | refine Ex.region ok hm ?_
    | refine Sq.pu ok hm Want.none (by first
    | exact Pu.move rfl
    | exact Pu.assign rfl
    | exact Pu.lssI rfl rfl
    | exact Pu.convN hT rfl rfl rfl (by simp only [InR]; omega)
    | exact Pu.indexSN hT rfl rfl rfl (by omega)) rfl ?_
    | refine Sq.finH (n := 27) ok hm (by repeat (first
    | exact Keep.nil
    | apply Keep.drop rfl
    | apply Keep.keep rfl)) ?_
    | refine Ex.condT ok hm rfl (by first
    | rfl
    | exact decide_eq_true (by omega)) ?_))
      refine Sq.pu ok hm Want.none (Pu.subZ (k := .i64) (a := 65) (b := p) (65 - p) (by omega) (by simp only [InR]; omega) rfl rfl) rfl ?_
      by_cases hb : (s.getD i 0).toNat ≤ 65 - p
      · (repeat (first
    | refine Ex.skip ok hm ?_
    | refine Ex.region ok hm ?_
    | refine Sq.pu ok hm Want.none (by first
    | exact Pu.move rfl
    | exact Pu.addN rfl rfl (by simp only [InR]; omega)
    | exact Pu.gtrI rfl rfl) rfl ?_
    | refine Sq.finH (n := 27) ok hm (by repeat (first
    | exact Keep.nil
    | apply Keep.drop rfl
    | apply Keep.keep rfl)) ?_
    | refine Ex.condF ok hm rfl (by first
    | rfl
    | exact decide_eq_false (by omega)) ?_))
        refine ⟨i + 1, [(26, .int .i64 ((i + 1 : Nat) : Int)), (25, .int .i64 (s.length : Int)), (0, strV s), (4, .int .i64 (p : Int))], ?_, ⟨rfl, rfl, rfl, rfl, trivial⟩, rfl, hil, fun j hj => ?_, rfl⟩
        · show s.length - (i + 1) < s.length - i
          omega
        · rcases Nat.lt_succ_iff_lt_or_eq.1 hj with k | k
          · exact hlow j k
          · rw [k]; exact hb
      · have hno : ∀ q, ¬ Okp q s := fun q k => by
          have hq := pow_inj (k.2.2.1.symm.trans hp3)
          subst hq
          exact hb (k.2.2.2 i hil)
        rw [exV_none hno]
        (repeat (first
    | refine Ex.seq ok hm ?_
    | refine Ex.region ok hm ?_
    | refine Sq.pu ok hm Want.none (by first
    | exact Pu.assign rfl
    | exact Pu.gtrI rfl rfl) rfl ?_
    | refine Sq.finH (n := 27) ok hm (by repeat (first
    | exact Keep.nil
    | apply Keep.drop rfl
    | apply Keep.keep rfl)) ?_
    | refine Ex.condT ok hm rfl (by first
    | rfl
    | exact decide_eq_true (by omega)) ?_
    | refine Ex.ret ok hm ?_))
        exact ⟨_, .tmp rfl (.tmp rfl .nil), rfl, rfl⟩
    · have hok : Okp p s := ⟨by omega, by omega, hp3, fun j hj => hlow j (by omega)⟩
      rw [exV_some hok]
      (repeat (first
    | refine Ex.seq ok hm ?_
    | refine Ex.region ok hm ?_
    | refine Sq.pu ok hm Want.none (by first
    | exact Pu.move rfl
    | exact Pu.assign rfl
    | exact Pu.lssI rfl rfl) rfl ?_
    | refine Sq.finH (n := 27) ok hm (by repeat (first
    | exact Keep.nil
    | apply Keep.drop rfl
    | apply Keep.keep rfl)) ?_
    | refine Ex.condF ok hm rfl (by first
    | rfl
    | exact decide_eq_false (by omega)) ?_
    | refine Ex.ret ok hm ?_
    | refine Ex.exit ok hm ?_))
      exact ⟨_, .tmp rfl (.tmp rfl .nil), rfl, rfl⟩
  · have hno : ∀ q, ¬ Okp q s := fun q k => hp (by
      have e := k.len
      have e2 : len64 s.length = q + 1 := by rw [k.2.2.1, len64_pow]
      have := k.1
      have := k.2.1
      refine ⟨by omega, by omega, ?_⟩
      rw [e]; exact k.2.2.1)
    rw [exV_none hno]
    have key : ∀ x : Int, x = ((len64 s.length : Nat) : Int) - 1 → (x < 4 ∨ 16 < x) ∨ (4 ≤ x ∧ x ≤ 16 ∧ (s.length : Int) ≠ ((2 ^ (len64 s.length - 1) : Nat) : Int)) := fun x hx => by
      by_cases h1 : x < 4 ∨ 16 < x
      · exact .inl h1
      · exact .inr ⟨by omega, by omega, fun e => hp ⟨by omega, by omega, by omega⟩⟩
    refine Sq.pu ok hm Want.none (Pu.sub rfl rfl (by simp only [InR]; omega)) rfl ?_
    have hk := key _ rfl
    generalize hx : ((len64 s.length : Nat) : Int) - 1 = x at hk ⊢
    rcases hk with (h1 | h1) | ⟨h1, h2, h3⟩
    · (repeat (first
    | refine Ex.seq ok hm ?_
    | refine Ex.region ok hm ?_
    | refine Sq.pu ok hm Want.none (by first
    | exact Pu.move rfl
    | exact Pu.assign rfl
    | exact Pu.lssI rfl rfl
    | exact Pu.pickT rfl (by first
    | rfl
    | exact decide_eq_true (by omega)) rfl) rfl ?_
    | refine Sq.skip ok hm (by exact Want.no rfl rfl rfl (by first
    | rfl
    | exact decide_eq_true (by omega))) rfl ?_
    | refine Sq.finH (n := 6) ok hm (by repeat (first
    | exact Keep.nil
    | apply Keep.drop rfl
    | apply Keep.keep rfl)) ?_
    | refine Ex.condT ok hm rfl (by rfl) ?_
    | refine Ex.ret ok hm ?_))
      exact ⟨_, .tmp rfl (.tmp rfl .nil), rfl, rfl⟩
    · (repeat (first
    | refine Ex.seq ok hm ?_
    | refine Ex.region ok hm ?_
    | refine Sq.pu ok hm Want.none (by first
    | exact Pu.move rfl
    | exact Pu.assign rfl
    | exact Pu.lssI rfl rfl
    | exact Pu.gtrI rfl rfl
    | exact Pu.pickT rfl (by first
    | rfl
    | exact decide_eq_true (by omega)) rfl
    | exact Pu.pickF rfl (by first
    | rfl
    | exact decide_eq_false (by omega)) rfl) rfl ?_
    | refine Sq.pu ok hm (by exact Want.yes rfl rfl rfl (by first
    | rfl
    | exact decide_eq_false (by omega))) (by first
    | exact Pu.move rfl
    | exact Pu.gtrI rfl rfl) rfl ?_
    | refine Sq.skip ok hm (by exact Want.no rfl rfl rfl (by first
    | rfl
    | exact decide_eq_true (by omega))) rfl ?_
    | refine Sq.finH (n := 6) ok hm (by repeat (first
    | exact Keep.nil
    | apply Keep.drop rfl
    | apply Keep.keep rfl)) ?_
    | refine Ex.condT ok hm rfl (by rfl) ?_
    | refine Ex.ret ok hm ?_))
      exact ⟨_, .tmp rfl (.tmp rfl .nil), rfl, rfl⟩
    · obtain ⟨p, rfl⟩ : ∃ p : Nat, x = p := ⟨x.toNat, by omega⟩
      have hpw := pow_p (p := p) (by omega) (by omega)
      rw [show len64 s.length - 1 = p by omega] at h3
      (repeat (first
    | refine Ex.seq ok hm ?_
    | refine Ex.region ok hm ?_
    | refine Sq.pu ok hm Want.none (by first
    | exact Pu.move rfl
    | exact Pu.assign rfl
    | exact Pu.lssI rfl rfl
    | exact Pu.gtrI rfl rfl
    | exact Pu.lenS hT rfl rfl
    | exact Pu.pickF rfl (by first
    | rfl
    | exact decide_eq_false (by omega)) rfl) rfl ?_
    | refine Sq.pu ok hm (by exact Want.yes rfl rfl rfl (by first
    | rfl
    | exact decide_eq_false (by omega))) (by first
    | exact Pu.move rfl
    | exact Pu.gtrI rfl rfl
    | exact Pu.lenS hT rfl rfl) rfl ?_
    | refine Sq.finH (n := 6) ok hm (by repeat (first
    | exact Keep.nil
    | apply Keep.drop rfl
    | apply Keep.keep rfl)) ?_))
      refine Sq.pu ok hm (Want.yes rfl rfl rfl (by first | rfl | (simp; omega))) (Pu.shlN (a := 1) (b := p) rfl rfl (by show p ≤ 64; omega) (by simp only [InR]; omega)) rfl ?_
      rw [Nat.one_mul]
      have h4 : (!decide ((s.length : Int) = ((2 ^ p : Nat) : Int))) = true := by rw [decide_eq_false h3]; rfl
      (repeat (first
    | refine Ex.seq ok hm ?_
    | refine Ex.region ok hm ?_
    | refine Sq.pu ok hm Want.none (by first
    | exact Pu.assign rfl
    | exact Pu.neqI rfl rfl
    | exact Pu.pickF rfl (by first
    | rfl
    | exact decide_eq_false (by omega)) rfl) rfl ?_
    | refine Sq.pu ok hm (by exact Want.yes rfl rfl rfl (by first
    | rfl
    | exact decide_eq_false (by omega))) (by exact Pu.neqI rfl rfl) rfl ?_
    | refine Sq.finH (n := 6) ok hm (by repeat (first
    | exact Keep.nil
    | apply Keep.drop rfl
    | apply Keep.keep rfl)) ?_
    | refine Ex.condT ok hm rfl (by first
    | rfl
    | assumption) ?_
    | refine Ex.ret ok hm ?_))
      exact ⟨_, .tmp rfl (.tmp rfl .nil), rfl, rfl⟩

set_option maxHeartbeats 8000000 in
theorem RExponent_ok {ro : Nat} {M : AM} {s : List UInt8} (hs : s.length ≤ 140737488355328) :
    FnC Try.prog tables ro 14 [strV s] M (fun v M' => v = exV s ∧ M' = M) := by
  refine FnC.body (nt := 29) ok hm fn14 rfl rfl ?_
  (repeat (first
    | refine Ex.seq ok hm ?_
    | refine Ex.block ok hm ?_
    | refine Ex.region ok hm ?_
    | refine Sq.pu ok hm Want.none (by exact Pu.assign rfl) rfl ?_
    | refine Sq.finH (n := 5) ok hm (by repeat (first
    | exact Keep.nil
    | apply Keep.keep rfl)) ?_))
  refine Ex.loop ?_
  refine Lp.inv ok hm (α := Nat)
    (fun p E M' => E = [(4, .int .i64 (p : Int)), (0, strV s)] ∧ 4 ≤ p ∧ p ≤ 17 ∧ (∀ q, 4 ≤ q → q < p → s.length ≠ 2 ^ q) ∧ M' = M)
    (fun p => 17 - p) ?_ 4 [(4, .int .i64 (4 : Nat)), (0, strV s)] ⟨rfl, rfl, trivial⟩ ⟨rfl, Nat.le_refl _, by decide, fun q h1 h2 => by omega, rfl⟩
  intro p E M1 ⟨hE, h4, h17, hq, hM⟩
  subst hE hM
  by_cases hl : p ≤ 16
  · have hpw := pow_p h4 hl
    (repeat (first
    | refine Ex.seq ok hm ?_
    | refine Ex.block ok hm ?_
    | refine Ex.skip ok hm ?_
    | refine Ex.region ok hm ?_
    | refine Sq.pu ok hm Want.none (by first
    | exact Pu.move rfl
    | exact Pu.leqI rfl rfl
    | exact Pu.lenS hT rfl rfl) rfl ?_
    | refine Sq.finH (n := 5) ok hm (by repeat (first
    | exact Keep.nil
    | apply Keep.drop rfl
    | apply Keep.keep rfl)) ?_
    | refine Ex.condT ok hm rfl (by first
    | rfl
    | exact decide_eq_true (by omega)) ?_))
    refine Sq.pu ok hm Want.none (Pu.shlN (a := 1) (b := p) rfl rfl (by show p ≤ 64; omega) (by simp only [InR]; omega)) rfl ?_
    rw [Nat.one_mul]
    by_cases hlen : s.length = 2 ^ p
    · rw [← hlen]
      (repeat (first
    | refine Ex.seq ok hm ?_
    | refine Ex.block ok hm ?_
    | refine Ex.skip ok hm ?_
    | refine Ex.region ok hm ?_
    | refine Sq.pu ok hm Want.none (by first
    | exact Pu.assign rfl
    | exact Pu.neqI rfl rfl) rfl ?_
    | refine Sq.finH (n := 5) ok hm (by repeat (first
    | exact Keep.nil
    | apply Keep.drop rfl
    | apply Keep.keep rfl)) ?_
    | refine Ex.condF ok hm rfl (by first
    | rfl
    | (simp; done) | omega) ?_))
      refine Ex.loop ?_
      refine Lp.inv ok hm (α := Nat)
        (fun i E M' => E = [(5, .int .i64 (i : Int)), (4, .int .i64 (p : Int)), (0, strV s)] ∧ i ≤ s.length ∧ Low p i s ∧ M' = M1)
        (fun i => s.length - i) ?_ 0 [(5, .int .i64 (0 : Nat)), (4, .int .i64 (p : Int)), (0, strV s)] ⟨rfl, rfl, rfl, trivial⟩ ⟨rfl, Nat.zero_le _, fun j hj => by omega, rfl⟩
      intro i E M2 ⟨hE, hi, hlow, hM⟩
      subst hE hM
      by_cases hil : i < s.length
      · have hbyte := (s.getD i 0).toNat_lt
        (repeat (first
    | refine Ex.seq ok hm ?_
    | refine Ex.block ok hm ?_
    | refine Ex.skip ok hm ?_
    | refine Ex.region ok hm ?_
    | refine Sq.pu ok hm Want.none (by first
    | exact Pu.move rfl
    | exact Pu.lssI rfl rfl
    | exact Pu.lenS hT rfl rfl
    | exact Pu.convN hT rfl rfl rfl (by simp only [InR]; omega)
    | exact Pu.indexSN hT rfl rfl rfl (by omega)) rfl ?_
    | refine Sq.finH (n := 6) ok hm (by repeat (first
    | exact Keep.nil
    | apply Keep.drop rfl
    | apply Keep.keep rfl)) ?_
    | refine Ex.condT ok hm rfl (by first
    | rfl
    | exact decide_eq_true (by omega)) ?_))
        refine Sq.pu ok hm Want.none (Pu.subZ (k := .i64) (a := 65) (b := p) (65 - p) (by omega) (by simp only [InR]; omega) rfl rfl) rfl ?_
        by_cases hb : (s.getD i 0).toNat ≤ 65 - p
        · (repeat (first
    | refine Ex.skip ok hm ?_
    | refine Ex.region ok hm ?_
    | refine Sq.pu ok hm Want.none (by first
    | exact Pu.move rfl
    | exact Pu.assign rfl
    | exact Pu.addN rfl rfl (by simp only [InR]; omega)
    | exact Pu.gtrI rfl rfl) rfl ?_
    | refine Sq.finH (n := 6) ok hm (by repeat (first
    | exact Keep.nil
    | apply Keep.drop rfl
    | apply Keep.keep rfl)) ?_
    | refine Ex.condF ok hm rfl (by first
    | rfl
    | exact decide_eq_false (by omega)) ?_))
          refine ⟨i + 1, [(5, .int .i64 ((i + 1 : Nat) : Int)), (4, .int .i64 (p : Int)), (0, strV s)], ?_, ⟨rfl, rfl, rfl, trivial⟩, rfl, hil, fun j hj => ?_, rfl⟩
          · show s.length - (i + 1) < s.length - i
            omega
          · rcases Nat.lt_succ_iff_lt_or_eq.1 hj with k | k
            · exact hlow j k
            · rw [k]; exact hb
        · have hno : ∀ q, ¬ Okp q s := fun q k => by
            have hq := pow_inj (k.2.2.1.symm.trans hlen)
            subst hq
            exact hb (k.2.2.2 i hil)
          rw [exV_none hno]
          (repeat (first
    | refine Ex.seq ok hm ?_
    | refine Ex.region ok hm ?_
    | refine Sq.pu ok hm Want.none (by first
    | exact Pu.assign rfl
    | exact Pu.gtrI rfl rfl) rfl ?_
    | refine Sq.finH (n := 6) ok hm (by repeat (first
    | exact Keep.nil
    | apply Keep.drop rfl
    | apply Keep.keep rfl)) ?_
    | refine Ex.condT ok hm rfl (by first
    | rfl
    | exact decide_eq_true (by omega)) ?_
    | refine Ex.ret ok hm ?_))
          exact ⟨_, .tmp rfl (.tmp rfl .nil), rfl, rfl⟩
      · have hok : Okp p s := ⟨h4, hl, hlen, fun j hj => hlow j (by omega)⟩
        rw [exV_some hok]
        (repeat (first
    | refine Ex.seq ok hm ?_
    | refine Ex.region ok hm ?_
    | refine Sq.pu ok hm Want.none (by first
    | exact Pu.move rfl
    | exact Pu.assign rfl
    | exact Pu.lssI rfl rfl
    | exact Pu.lenS hT rfl rfl) rfl ?_
    | refine Sq.finH (n := 6) ok hm (by repeat (first
    | exact Keep.nil
    | apply Keep.drop rfl
    | apply Keep.keep rfl)) ?_
    | refine Ex.condF ok hm rfl (by first
    | rfl
    | exact decide_eq_false (by omega)) ?_
    | refine Ex.ret ok hm ?_
    | refine Ex.exit ok hm ?_))
        exact ⟨_, .tmp rfl (.tmp rfl .nil), rfl, rfl⟩
    · have hlen2 : (!decide ((s.length : Int) = ((2 ^ p : Nat) : Int))) = true := by
        have hne : (s.length : Int) ≠ ((2 ^ p : Nat) : Int) := fun e => hlen (Int.ofNat.inj e)
        rw [decide_eq_false hne]; rfl
      (repeat (first
    | refine Ex.region ok hm ?_
    | refine Sq.pu ok hm Want.none (by first
    | exact Pu.move rfl
    | exact Pu.assign rfl
    | exact Pu.addN rfl rfl (by simp only [InR]; omega)
    | exact Pu.neqI rfl rfl) rfl ?_
    | refine Sq.finH (n := 5) ok hm (by repeat (first
    | exact Keep.nil
    | apply Keep.drop rfl
    | apply Keep.keep rfl)) ?_
    | refine Ex.condT ok hm rfl (by first
    | rfl
    | assumption) ?_
    | refine Ex.exit ok hm ?_))
      refine ⟨p + 1, [(4, .int .i64 ((p + 1 : Nat) : Int)), (0, strV s)], ?_, ⟨rfl, rfl, trivial⟩, rfl, by omega, by omega, fun q a b => ?_, rfl⟩
      · show 17 - (p + 1) < 17 - p
        omega
      · rcases Nat.lt_succ_iff_lt_or_eq.1 b with k | k
        · exact hq q a k
        · rw [k]; exact hlen
  · have hno : ∀ q, ¬ Okp q s := fun q k => hq q k.1 (by have := k.2.1; omega) k.2.2.1
    rw [exV_none hno]
    (repeat (first
    | refine Ex.seq ok hm ?_
    | refine Ex.region ok hm ?_
    | refine Sq.pu ok hm Want.none (by first
    | exact Pu.move rfl
    | exact Pu.assign rfl
    | exact Pu.leqI rfl rfl) rfl ?_
    | refine Sq.finH (n := 5) ok hm (by repeat (first
    | exact Keep.nil
    | apply Keep.drop rfl
    | apply Keep.keep rfl)) ?_
    | refine Ex.condF ok hm rfl (by first
    | rfl
    | exact decide_eq_false (by omega)) ?_
    | refine Ex.ret ok hm ?_
    | refine Ex.exit ok hm ?_))
    exact ⟨_, .tmp rfl (.tmp rfl .nil), rfl, rfl⟩
end Go.Proofs.Ytpglehckhnencaa
/- The sums of a sketch's registers by how often each rank comes, and the bounds of its estimate. -/
namespace Sk
set_option linter.unusedVariables false
set_option linter.unusedSimpArgs false
def cnt (s : List UInt8) (r : Nat) : Nat := s.countP fun b => b.toNat == r
def wN (r : Nat) : Nat := 2 ^ (40 - min 40 r)
def psum (s : List UInt8) : Nat → Nat
  | 0 => 0
  | k + 1 => psum s k + cnt s k * wN k
theorem cnt_cons (b : UInt8) (s : List UInt8) (r : Nat) : cnt (b :: s) r = cnt s r + if b.toNat = r then 1 else 0 := by
  unfold cnt
  rw [List.countP_cons]
  by_cases h : b.toNat = r <;> simp [h]
theorem psum_nil (k : Nat) : psum [] k = 0 := by
  induction k with
  | zero => rfl
  | succ k ih => show psum [] k + cnt [] k * wN k = 0; rw [ih]; simp [cnt]
theorem psum_cons (b : UInt8) (s : List UInt8) : ∀ k, psum (b :: s) k = psum s k + if b.toNat < k then wN b.toNat else 0
  | 0 => by simp [psum]
  | k + 1 => by
    show psum (b :: s) k + cnt (b :: s) k * wN k = psum s k + cnt s k * wN k + _
    rw [psum_cons b s k, cnt_cons, Nat.add_mul]
    by_cases h : b.toNat = k
    · rw [if_pos h, if_neg (by omega), if_pos (by omega), h]; omega
    · rw [if_neg h]
      by_cases h2 : b.toNat < k
      · rw [if_pos h2, if_pos (by omega)]; omega
      · rw [if_neg h2, if_neg (by omega)]; omega
theorem psum_all : ∀ (s : List UInt8), (∀ b ∈ s, b.toNat < 62) → psum s 62 = sumS s
  | [], _ => psum_nil 62
  | b :: s, h => by
    rw [psum_cons, psum_all s (fun x hx => h x (List.mem_cons_of_mem _ hx)), sumS_cons, if_pos (h b (List.mem_cons_self ..))]
    exact Nat.add_comm _ _
theorem psum_mono (s : List UInt8) (k : Nat) : ∀ d, psum s k ≤ psum s (k + d)
  | 0 => Nat.le_refl _
  | d + 1 => Nat.le_trans (psum_mono s k d) (Nat.le_add_right _ _)
theorem psum_step {s : List UInt8} (h : ∀ b ∈ s, b.toNat < 62) {k : Nat} (hk : k < 62) : psum s k + cnt s k * wN k ≤ sumS s := by
  rw [← psum_all s h]
  have := psum_mono s (k + 1) (61 - k)
  rw [show k + 1 + (61 - k) = 62 by omega] at this
  exact this
theorem cnt_le (s : List UInt8) (r : Nat) : cnt s r ≤ s.length := List.countP_le_length
theorem cnt_zero (s : List UInt8) : cnt s 0 = zeros s := rfl
theorem take_snoc {s : List UInt8} {i : Nat} (h : i < s.length) : s.take (i + 1) = s.take i ++ [s.getD i 0] := by
  rw [List.take_succ_eq_append_getElem h, List.getD_eq_getElem?_getD, List.getElem?_eq_getElem h]; rfl
theorem cnt_take {s : List UInt8} {i : Nat} (h : i < s.length) (r : Nat) : cnt (s.take (i + 1)) r = cnt (s.take i) r + if (s.getD i 0).toNat = r then 1 else 0 := by
  rw [take_snoc h]
  unfold cnt
  rw [List.countP_append]
  by_cases k : (s.getD i 0).toNat = r <;> simp [k]
theorem sumS_take {s : List UInt8} {i : Nat} (h : i < s.length) : sumS (s.take (i + 1)) = sumS (s.take i) + wt (s.getD i 0) := by
  rw [take_snoc h, sumS_append, sumS_cons]; rfl
theorem sumS_take_le (s : List UInt8) (i : Nat) : sumS (s.take i) ≤ sumS s := by
  have := sumS_append (s.take i) (s.drop i)
  rw [List.take_append_drop] at this; omega
theorem Okp.bytes {p : Nat} {s : List UInt8} (h : Okp p s) : ∀ b ∈ s, b.toNat < 62 := fun b hb => by
  obtain ⟨i, hi, rfl⟩ := List.mem_iff_getElem.1 hb
  have := h.2.2.2 i hi
  rw [List.getD_eq_getElem?_getD, List.getElem?_eq_getElem hi] at this
  have h4 := h.1
  simp only [Option.getD_some] at this
  omega
theorem xN_sq {m : Nat} (h : m ≤ 65536) : xN m ≤ m * m := by
  have h1 := xN_le h
  have h2 : 7213 * m * m / 10000 ≤ 10000 * m * m / 10000 := Nat.div_le_div_right (Nat.mul_le_mul_right _ (Nat.mul_le_mul_right _ (by decide)))
  rw [Nat.mul_assoc 10000, Nat.mul_div_cancel_left _ (by decide)] at h2
  omega
theorem quo_le {s : List UInt8} (h0 : 0 < s.length) (h : s.length ≤ 65536) : quoN s ≤ 72057594037927936 := by
  unfold quoN
  have h1 := sumS_ge s
  have h2 : xN s.length * 2 ^ 40 / sumS s ≤ xN s.length * 2 ^ 40 / s.length := Nat.div_le_div_left h1 h0
  have h3 : xN s.length * 2 ^ 40 / s.length ≤ s.length * s.length * 2 ^ 40 / s.length := Nat.div_le_div_right (Nat.mul_le_mul_right _ (xN_sq h))
  rw [Nat.mul_assoc, Nat.mul_div_cancel_left _ h0] at h3
  have h4 : s.length * 2 ^ 40 ≤ 65536 * 2 ^ 40 := Nat.mul_le_mul_right _ h
  omega
theorem hi_lt {m S : Nat} (hm1 : 16 ≤ m) (hm : m ≤ 65536) (hS : m ≤ S) : xN m * 1099511627776 / 18446744073709551616 < S := by
  have h1 := xN_lt hm
  have h2 : xN m * 1099511627776 / 18446744073709551616 = xN m / 16777216 := by omega
  rw [h2]
  by_cases h : m ≤ 4096
  · have h3 := xN_le hm
    have h4 : 7213 * m * m ≤ 7213 * 4096 * 4096 := Nat.mul_le_mul (Nat.mul_le_mul_left _ h) h
    have h5 : 7213 * m * m / 10000 ≤ 7213 * 4096 * 4096 / 10000 := Nat.div_le_div_right h4
    omega
  · omega
end Sk
/- N -/
namespace Go.Proofs.Ytpglehckhnencaa
open Go.Wvm Sk
set_option linter.unusedVariables false
set_option linter.unusedSimpArgs false

/-- What Estimate answers. -/
noncomputable def estV (s : List UInt8) : Value := match exE s with
  | some p => .tuple ⟨[u64 (estN s), .int .i64 0]⟩
  | none => .tuple ⟨[u64 0, .int .i64 4]⟩
theorem estV_some {p : Nat} {s : List UInt8} (h : Okp p s) : estV s = .tuple ⟨[u64 (estN s), .int .i64 0]⟩ := by unfold estV; rw [exE_some h]
theorem estV_none {s : List UInt8} (h : ∀ p, ¬ Okp p s) : estV s = .tuple ⟨[u64 0, .int .i64 4]⟩ := by unfold estV; rw [exE_none h]
theorem wt_lit (b : UInt8) : 1 * 2 ^ (40 - min 40 b.toNat) = wt b := Nat.one_mul _

abbrev reE (s : List UInt8) (m i : Nat) : En := [(0, strV s), (6, u64 m), (7, u64 (sumS (s.take i))), (8, u64 (zeros (s.take i))), (9, .int .i64 (i : Int))]
set_option maxHeartbeats 16000000 in
theorem REstimate_ok {ro : Nat} {M : AM} {s : List UInt8} (hs : s.length ≤ 140737488355328) :
    FnC Try.prog tables ro 12 [strV s] M (fun v M' => v = estV s ∧ M' = M) := by
  refine FnC.body (nt := 82) ok hm fn12 rfl rfl ?_
  (repeat (first
    | refine Ex.seq ok hm ?_
    | refine Ex.region ok hm ?_
    | refine Sq.pu ok hm Want.none (by first
    | exact Pu.move rfl
    | exact Pu.assign rfl) rfl ?_
    | refine Sq.finH (n := 6) ok hm (by repeat (first
    | exact Keep.nil
    | apply Keep.keep rfl)) ?_))
  refine Sq.call ok Want.none (Op1.call rfl rfl fn14) rfl (FnC.mono (RExponent_ok (s := s) hs) ?_)
  rintro x M1 ⟨rfl, rfl⟩
  rcases exE_cases s with ⟨p, hp, _⟩ | ⟨hno, _⟩
  · rw [exV_some hp, estV_some hp]
    have hsz := hp.size
    (repeat (first
    | refine Ex.seq ok hm ?_
    | refine Ex.block ok hm ?_
    | refine Ex.skip ok hm ?_
    | refine Ex.region ok hm ?_
    | refine Sq.pu ok hm Want.none (by first
    | exact Pu.move rfl
    | exact Pu.assign rfl
    | exact Pu.extract rfl rfl
    | exact Pu.neqI rfl rfl
    | exact Pu.lenS hT rfl rfl
    | exact Pu.convN hT rfl rfl rfl (by simp only [InR]; omega)) rfl ?_
    | refine Sq.finH (n := 13) ok hm (by repeat (first
    | exact Keep.nil
    | apply Keep.drop rfl
    | apply Keep.keep rfl)) ?_
    | refine Ex.condF ok hm rfl (by rfl) ?_))
    refine Ex.loop ?_
    refine Lp.inv ok hm (α := Nat)
      (fun i E M' => E = reE s s.length i ∧ i ≤ s.length ∧ M' = M1)
      (fun i => s.length - i) ?_ 0 (reE s s.length 0) ⟨rfl, rfl, rfl, rfl, rfl, trivial⟩ ⟨rfl, Nat.zero_le _, rfl⟩
    intro i E M2 ⟨hE, hi, hM⟩
    subst hE hM
    have hsl := sumS_le (s.take i)
    have hzl := zeros_le (s.take i)
    have htl : (s.take i).length = i := by rw [List.length_take]; omega
    rw [htl] at hsl hzl
    by_cases hil : i < s.length
    · have hbyte := (s.getD i 0).toNat_lt
      have hst := sumS_take hil
      have hzt : zeros (s.take (i + 1)) = zeros (s.take i) + if (s.getD i 0).toNat = 0 then 1 else 0 := cnt_take hil 0
      have hwt := wt_le (s.getD i 0)
      have hlit := wt_lit (s.getD i 0)
      have hmin : min (40 : Int) (((s.getD i 0).toNat : Nat) : Int) = ((min 40 (s.getD i 0).toNat : Nat) : Int) := by omega
      (repeat (first
    | refine Ex.seq ok hm ?_
    | refine Ex.block ok hm ?_
    | refine Ex.skip ok hm ?_
    | refine Ex.region ok hm ?_
    | refine Sq.pu ok hm Want.none (by first
    | exact Pu.move rfl
    | exact Pu.lssI rfl rfl
    | exact Pu.min2 rfl rfl
    | exact Pu.lenS hT rfl rfl
    | exact Pu.convN hT rfl rfl rfl (by simp only [InR]; omega)
    | exact Pu.indexSN hT rfl rfl rfl (by omega)) rfl ?_
    | refine Sq.finH (n := 13) ok hm (by repeat (first
    | exact Keep.nil
    | apply Keep.drop rfl
    | apply Keep.keep rfl)) ?_
    | refine Ex.condT ok hm rfl (by first
    | rfl
    | exact decide_eq_true (by omega)) ?_))
      rw [hmin]
      refine Sq.pu ok hm Want.none (Pu.subZ (k := .i64) (a := 40) (b := min 40 (s.getD i 0).toNat) (40 - min 40 (s.getD i 0).toNat) (by omega) (by simp only [InR]; omega) rfl rfl) rfl ?_
      refine Sq.pu ok hm Want.none (Pu.shlN (k := .u64) (a := 1) (b := 40 - min 40 (s.getD i 0).toNat) rfl rfl (by show _ ≤ 64; omega) (by rw [hlit]; simp only [InR]; omega)) rfl ?_
      rw [hlit]
      refine Sq.pu ok hm Want.none (Pu.addN (k := .u64) (a := sumS (s.take i)) (b := wt (s.getD i 0)) rfl rfl (by simp only [InR]; omega)) rfl ?_
      rw [← hst]
      (repeat (first
    | refine Ex.seq ok hm ?_
    | refine Ex.region ok hm ?_
    | refine Sq.pu ok hm Want.none (by first
    | exact Pu.move rfl
    | exact Pu.assign rfl
    | exact Pu.eqlI rfl rfl
    | exact Pu.indexSN hT rfl rfl rfl (by omega)) rfl ?_
    | refine Sq.finH (n := 13) ok hm (by repeat (first
    | exact Keep.nil
    | apply Keep.drop rfl
    | apply Keep.keep rfl)) ?_))
      by_cases hz : (s.getD i 0).toNat = 0
      · rw [if_pos hz] at hzt
        (repeat (first
    | refine Ex.region ok hm ?_
    | refine Sq.pu ok hm Want.none (by first
    | exact Pu.move rfl
    | exact Pu.assign rfl
    | exact Pu.addN rfl rfl (by simp only [InR]; omega)) rfl ?_
    | refine Sq.finH (n := 13) ok hm (by repeat (first
    | exact Keep.nil
    | apply Keep.drop rfl
    | apply Keep.keep rfl)) ?_
    | refine Ex.condT ok hm rfl (by first
    | rfl
    | exact decide_eq_true (by omega)) ?_))
        rw [← hzt]
        refine ⟨i + 1, reE s s.length (i + 1), ?_, ⟨rfl, rfl, rfl, rfl, rfl, trivial⟩, rfl, hil, rfl⟩
        show s.length - (i + 1) < s.length - i
        omega
      · have hzt2 : zeros (s.take i) = zeros (s.take (i + 1)) := by rw [hzt, if_neg hz]; rfl
        rw [hzt2]
        (repeat (first
    | refine Ex.skip ok hm ?_
    | refine Ex.region ok hm ?_
    | refine Sq.pu ok hm Want.none (by first
    | exact Pu.move rfl
    | exact Pu.assign rfl
    | exact Pu.addN rfl rfl (by simp only [InR]; omega)) rfl ?_
    | refine Sq.finH (n := 13) ok hm (by repeat (first
    | exact Keep.nil
    | apply Keep.drop rfl
    | apply Keep.keep rfl)) ?_
    | refine Ex.condF ok hm rfl (by first
    | rfl
    | exact decide_eq_false (by omega)) ?_))
        refine ⟨i + 1, reE s s.length (i + 1), ?_, ⟨rfl, rfl, rfl, rfl, rfl, trivial⟩, rfl, hil, rfl⟩
        show s.length - (i + 1) < s.length - i
        omega
    · obtain rfl : i = s.length := by omega
      rw [List.take_length] at *
      have hge := sumS_ge s
      have hq := quo_le (s := s) (by omega) hsz.2
      have hx := xN_lt hsz.2
      have hqe : quoN s = xN s.length * 2 ^ 40 / sumS s := rfl
      have hes : estN s = if 0 < zeros s ∧ 2 * quoN s ≤ 5 * s.length then smallN s.length (zeros s) else quoN s := rfl
      have hxe : xN s.length = 7213 * s.length * s.length * s.length / (10000 * s.length + 10790) := rfl
      have b1 : 7213 * s.length * s.length ≤ 7213 * 65536 * 65536 := Nat.mul_le_mul (Nat.mul_le_mul_left _ hsz.2) hsz.2
      have b2 : 7213 * s.length * s.length * s.length ≤ 7213 * 65536 * 65536 * 65536 := Nat.mul_le_mul b1 hsz.2
      obtain ⟨m, hme⟩ : ∃ m, m = s.length := ⟨_, rfl⟩
      rw [← hme] at hge hx hqe hes hxe b1 b2 hsz ⊢
      have htk : s.take m = s := by rw [hme]; exact List.take_length
      (repeat (first
    | refine Ex.seq ok hm ?_
    | refine Ex.region ok hm ?_
    | refine Sq.pu ok hm Want.none (by first
    | exact Pu.move rfl
    | exact Pu.lssI rfl rfl
    | exact Pu.lenS hT rfl rfl) rfl ?_
    | refine Sq.finH (n := 13) ok hm (by repeat (first
    | exact Keep.nil
    | apply Keep.drop rfl
    | apply Keep.keep rfl)) ?_
    | refine Ex.condF ok hm rfl (by first
    | rfl
    | exact decide_eq_false (by omega)) ?_
    | refine Ex.exit ok hm ?_))
      rw [htk]
      refine Sq.pu ok hm Want.none (Pu.mulN (k := .u64) (a := 7213) (b := m) rfl rfl (by simp only [InR]; omega)) rfl ?_
      (repeat (refine Sq.pu ok hm Want.none (by exact Pu.move rfl) rfl ?_))
      refine Sq.pu ok hm Want.none (Pu.mulN (k := .u64) (a := 7213 * m) (b := m) rfl rfl (by simp only [InR]; omega)) rfl ?_
      (repeat (refine Sq.pu ok hm Want.none (by exact Pu.move rfl) rfl ?_))
      refine Sq.pu ok hm Want.none (Pu.mulN (k := .u64) (a := 7213 * m * m) (b := m) rfl rfl (by simp only [InR]; omega)) rfl ?_
      (repeat (refine Sq.pu ok hm Want.none (by exact Pu.move rfl) rfl ?_))
      refine Sq.pu ok hm Want.none (Pu.mulN (k := .u64) (a := 10000) (b := m) rfl rfl (by simp only [InR]; omega)) rfl ?_
      refine Sq.pu ok hm Want.none (Pu.addN (k := .u64) (a := 10000 * m) (b := 10790) rfl rfl (by simp only [InR]; omega)) rfl ?_
      refine Sq.pu ok hm Want.none (Pu.quoN (k := .u64) (a := 7213 * m * m * m) (b := 10000 * m + 10790) rfl rfl (by omega) (by simp only [InR]; omega)) rfl ?_
      rw [← hxe]
      refine Sq.pu ok hm Want.none (Pu.move rfl) rfl ?_
      refine Sq.call ok Want.none (Op1.call rfl rfl fn28) rfl (FnC.mono (divided_ok (x := xN m) (s := sumS s) (by omega) (by omega) (by omega) (by rw [← hqe]; omega)) ?_)
      rintro v M3 ⟨rfl, rfl⟩
      rw [← hqe]
      have hzl2 := zeros_le s
      rw [← hme] at hzl2
      generalize quoN s = Q at hq hes ⊢
      generalize zeros s = z at hes hzl2 ⊢
      rw [hes]
      refine Sq.pu ok hm Want.none (Pu.assign rfl) rfl ?_
      refine Sq.finH (n := 13) ok hm (by repeat (first
    | exact Keep.nil
    | apply Keep.drop rfl
    | apply Keep.keep rfl)) ?_
      by_cases hz0 : z = 0
      · rw [if_neg (by omega)]
        (repeat (first
    | refine Ex.seq ok hm ?_
    | refine Ex.region ok hm ?_
    | refine Sq.pu ok hm Want.none (by first
    | exact Pu.move rfl
    | exact Pu.assign rfl
    | exact Pu.eqlI rfl rfl
    | exact Pu.pickT rfl (by first
    | rfl
    | exact decide_eq_true (by omega)) rfl) rfl ?_
    | refine Sq.skip ok hm (by exact Want.no rfl rfl rfl (by first
    | rfl
    | exact decide_eq_true (by omega))) rfl ?_
    | refine Sq.finH (n := 13) ok hm (by repeat (first
    | exact Keep.nil
    | apply Keep.drop rfl
    | apply Keep.keep rfl)) ?_
    | refine Ex.condT ok hm rfl (by rfl) ?_
    | refine Ex.ret ok hm ?_))
        exact ⟨_, .tmp rfl (.tmp rfl .nil), rfl, rfl⟩
      · refine Ex.seq ok hm (Ex.seq ok hm (Ex.region ok hm ?_))
        (repeat (first
    | refine Sq.pu ok hm Want.none (by first
    | exact Pu.move rfl
    | exact Pu.eqlI rfl rfl) rfl ?_
    | refine Sq.pu ok hm (by exact Want.yes rfl rfl rfl (by exact decide_eq_false (by omega))) (by exact Pu.move rfl) rfl ?_))
        refine Sq.pu ok hm (Want.yes rfl rfl rfl (by first | rfl | (simp; omega))) (Pu.mulN (k := .u64) (a := 2) (b := Q) rfl rfl (by simp only [InR]; omega)) rfl ?_
        (repeat (refine Sq.pu ok hm (by exact Want.yes rfl rfl rfl (by exact decide_eq_false (by omega))) (by exact Pu.move rfl) rfl ?_))
        refine Sq.pu ok hm (Want.yes rfl rfl rfl (by first | rfl | (simp; omega))) (Pu.mulN (k := .u64) (a := 5) (b := m) rfl rfl (by simp only [InR]; omega)) rfl ?_
        by_cases hbig : 5 * m < 2 * Q
        · rw [if_neg (by omega)]
          (repeat (first
    | refine Ex.seq ok hm ?_
    | refine Ex.region ok hm ?_
    | refine Sq.pu ok hm Want.none (by first
    | exact Pu.move rfl
    | exact Pu.assign rfl
    | exact Pu.gtrI rfl rfl
    | exact Pu.pickF rfl (by first
    | rfl
    | exact decide_eq_false (by omega)) rfl) rfl ?_
    | refine Sq.pu ok hm (by exact Want.yes rfl rfl rfl (by first
    | rfl
    | exact decide_eq_false (by omega))) (by exact Pu.gtrI rfl rfl) rfl ?_
    | refine Sq.finH (n := 13) ok hm (by repeat (first
    | exact Keep.nil
    | apply Keep.drop rfl
    | apply Keep.keep rfl)) ?_
    | refine Ex.condT ok hm rfl (by first
    | rfl
    | exact decide_eq_true (by omega)) ?_
    | refine Ex.ret ok hm ?_))
          exact ⟨_, .tmp rfl (.tmp rfl .nil), rfl, rfl⟩
        · rw [if_pos (by omega)]
          (repeat (first
    | refine Ex.seq ok hm ?_
    | refine Ex.block ok hm ?_
    | refine Ex.skip ok hm ?_
    | refine Ex.region ok hm ?_
    | refine Sq.pu ok hm Want.none (by first
    | exact Pu.move rfl
    | exact Pu.assign rfl
    | exact Pu.addN rfl rfl (by simp only [InR]; omega)
    | exact Pu.gtrI rfl rfl
    | exact Pu.pickF rfl (by first
    | rfl
    | exact decide_eq_false (by omega)) rfl) rfl ?_
    | refine Sq.pu ok hm (by exact Want.yes rfl rfl rfl (by first
    | rfl
    | exact decide_eq_false (by omega))) (by exact Pu.gtrI rfl rfl) rfl ?_
    | refine Sq.finH (n := 13) ok hm (by repeat (first
    | exact Keep.nil
    | apply Keep.drop rfl
    | apply Keep.keep rfl)) ?_
    | refine Ex.condF ok hm rfl (by first
    | rfl
    | exact decide_eq_false (by omega)) ?_))
          refine Ex.loop ?_
          refine Lp.inv ok hm (α := Nat)
            (fun k E M' => E = [(6, u64 m), (8, u64 z), (11, u64 (smS m (z + 1) k)), (12, u64 (z + 1 + k))] ∧ k ≤ m - z ∧ M' = M3)
            (fun k => m - z - k) ?_ 0 [(6, u64 m), (8, u64 z), (11, u64 0), (12, u64 (z + 1))] ⟨rfl, rfl, rfl, rfl, trivial⟩ ⟨rfl, Nat.zero_le _, rfl⟩
          intro k E M4 ⟨hE, hk, hM⟩
          subst hE hM
          have hle := smS_le m k (z + 1) (by omega)
          have hle2 : k * (m * 2 ^ 20) ≤ 65536 * (65536 * 2 ^ 20) := Nat.mul_le_mul (by omega) (Nat.mul_le_mul_right _ (by omega))
          by_cases hlt : k < m - z
          · have hsn := smS_snoc m k (z + 1)
            have hdl : m * 2 ^ 20 / (z + 1 + k) ≤ m * 2 ^ 20 := Nat.div_le_self _ _
            generalize smS m (z + 1) k = acc at hle hsn ⊢
            (repeat (first
    | refine Ex.seq ok hm ?_
    | refine Ex.block ok hm ?_
    | refine Ex.skip ok hm ?_
    | refine Ex.region ok hm ?_
    | refine Sq.pu ok hm Want.none (by first
    | exact Pu.move rfl
    | exact Pu.shlN rfl rfl (by decide) (by simp only [InR]; omega)
    | exact Pu.leqI rfl rfl) rfl ?_
    | refine Sq.finH (n := 13) ok hm (by repeat (first
    | exact Keep.nil
    | apply Keep.drop rfl
    | apply Keep.keep rfl)) ?_
    | refine Ex.condT ok hm rfl (by first
    | rfl
    | exact decide_eq_true (by omega)) ?_))
            refine Sq.pu ok hm Want.none (Pu.quoN (k := .u64) (a := m * 2 ^ 20) (b := z + 1 + k) rfl rfl (by omega) (by simp only [InR]; omega)) rfl ?_
            refine Sq.pu ok hm Want.none (Pu.addN (k := .u64) (a := acc) (b := m * 2 ^ 20 / (z + 1 + k)) rfl rfl (by simp only [InR]; omega)) rfl ?_
            rw [← hsn]
            (repeat (first
    | refine Ex.region ok hm ?_
    | refine Sq.pu ok hm Want.none (by first
    | exact Pu.move rfl
    | exact Pu.assign rfl
    | exact Pu.addN rfl rfl (by simp only [InR]; omega)) rfl ?_
    | refine Sq.finH (n := 13) ok hm (by repeat (first
    | exact Keep.nil
    | apply Keep.drop rfl
    | apply Keep.keep rfl)) ?_))
            refine ⟨k + 1, [(6, u64 m), (8, u64 z), (11, u64 (smS m (z + 1) (k + 1))), (12, u64 (z + 1 + (k + 1)))], ?_, ⟨rfl, rfl, rfl, rfl, trivial⟩, rfl, hlt, rfl⟩
            show m - z - (k + 1) < m - z - k
            omega
          · obtain rfl : k = m - z := by omega
            have e : smallN m z = smS m (z + 1) (m - z) / 2 ^ 20 := rfl
            generalize smS m (z + 1) (m - z) = acc at hle e ⊢
            rw [e]
            (repeat (first
    | refine Ex.seq ok hm ?_
    | refine Ex.region ok hm ?_
    | refine Sq.pu ok hm Want.none (by first
    | exact Pu.move rfl
    | exact Pu.assign rfl
    | exact Pu.shrN rfl rfl (by simp only [InR]; omega)
    | exact Pu.leqI rfl rfl) rfl ?_
    | refine Sq.finH (n := 13) ok hm (by repeat (first
    | exact Keep.nil
    | apply Keep.drop rfl
    | apply Keep.keep rfl)) ?_
    | refine Ex.condF ok hm rfl (by first
    | rfl
    | exact decide_eq_false (by omega)) ?_
    | refine Ex.ret ok hm ?_
    | refine Ex.exit ok hm ?_))
            exact ⟨_, .tmp rfl (.tmp rfl .nil), rfl, rfl⟩
  · rw [exV_none hno, estV_none hno]
    (repeat (first
    | refine Ex.seq ok hm ?_
    | refine Ex.region ok hm ?_
    | refine Sq.pu ok hm Want.none (by first
    | exact Pu.move rfl
    | exact Pu.assign rfl
    | exact Pu.extract rfl rfl
    | exact Pu.neqI rfl rfl) rfl ?_
    | refine Sq.finH (n := 6) ok hm (by repeat (first
    | exact Keep.nil
    | apply Keep.drop rfl
    | apply Keep.keep rfl)) ?_
    | refine Ex.condT ok hm rfl (by rfl) ?_
    | refine Ex.ret ok hm ?_))
    exact ⟨_, .tmp rfl (.tmp rfl .nil), rfl, rfl⟩
end Go.Proofs.Ytpglehckhnencaa
/- N -/
namespace Go.Proofs.Ytpglehckhnencaa
open Go.Wvm Sk
set_option linter.unusedVariables false
set_option linter.unusedSimpArgs false

theorem and32 (x : Nat) : x &&& 4294967295 = x % 4294967296 := Nat.and_two_pow_sub_one_eq_mod x 32
/-- The product of two numbers of 64 bits, by halves. -/
theorem mul64_hi (x1 x0 y1 y0 : Nat) :
    x1 * y1 + (x1 * y0 + x0 * y0 / 2 ^ 32) / 2 ^ 32 + ((x1 * y0 + x0 * y0 / 2 ^ 32) % 4294967296 + x0 * y1) / 2 ^ 32 = (x1 * 4294967296 + x0) * (y1 * 4294967296 + y0) / 18446744073709551616 := by
  have e : (x1 * 4294967296 + x0) * (y1 * 4294967296 + y0) = 18446744073709551616 * (x1 * y1) + 4294967296 * (x1 * y0) + 4294967296 * (x0 * y1) + x0 * y0 := by
    rw [Nat.add_mul, Nat.mul_add, Nat.mul_add]
    have a : x1 * 4294967296 * (y1 * 4294967296) = 18446744073709551616 * (x1 * y1) := by
      rw [Nat.mul_mul_mul_comm, Nat.mul_comm]
    have b : x1 * 4294967296 * y0 = 4294967296 * (x1 * y0) := by rw [Nat.mul_comm x1, Nat.mul_assoc]
    have c : x0 * (y1 * 4294967296) = 4294967296 * (x0 * y1) := by rw [← Nat.mul_assoc, Nat.mul_comm]
    rw [a, b, c]; omega
  rw [e]
  generalize x1 * y1 = A
  generalize x1 * y0 = B
  generalize x0 * y1 = C
  generalize x0 * y0 = D
  omega

theorem hi_le {x y : Nat} (hx : x < 18446744073709551616) (hy : y < 18446744073709551616) : x * y / 18446744073709551616 ≤ 18446744073709551615 := by
  have h2 : x * y ≤ 18446744073709551616 * y := Nat.mul_le_mul_right _ (Nat.le_of_lt hx)
  have h3 : x * y / 18446744073709551616 ≤ 18446744073709551616 * y / 18446744073709551616 := Nat.div_le_div_right h2
  have h4 : 18446744073709551616 * y / 18446744073709551616 = y := by omega
  omega
set_option maxHeartbeats 8000000 in
theorem Mul64_ok {ro : Nat} {M : AM} {x y : Nat} (hx : x < 18446744073709551616) (hy : y < 18446744073709551616) :
    FnC Try.prog tables ro 25 [.int .u64 (x : Int), .int .u64 (y : Int)] M (fun v M' => v = .tuple ⟨[.int .u64 ((x * y / 18446744073709551616 : Nat) : Int), .int .u64 ((x * y % 18446744073709551616 : Nat) : Int)]⟩ ∧ M' = M) := by
  refine FnC.body (nt := 51) ok hm fn25 rfl rfl ?_
  obtain ⟨x0, hx0⟩ : ∃ n, n = x % 4294967296 := ⟨_, rfl⟩
  obtain ⟨x1, hx1⟩ : ∃ n, n = x / 2 ^ 32 := ⟨_, rfl⟩
  obtain ⟨y0, hy0⟩ : ∃ n, n = y % 4294967296 := ⟨_, rfl⟩
  obtain ⟨y1, hy1⟩ : ∃ n, n = y / 2 ^ 32 := ⟨_, rfl⟩
  have lx0 : x0 < 4294967296 := by omega
  have ly0 : y0 < 4294967296 := by omega
  have lx1 : x1 < 4294967296 := by omega
  have ly1 : y1 < 4294967296 := by omega
  have ex : x1 * 4294967296 + x0 = x := by rw [hx1, hx0, Nat.mul_comm]; exact Nat.div_add_mod x 4294967296
  have ey : y1 * 4294967296 + y0 = y := by rw [hy1, hy0, Nat.mul_comm]; exact Nat.div_add_mod y 4294967296
  have b1 : x0 * y0 ≤ 4294967295 * 4294967295 := Nat.mul_le_mul (by omega) (by omega)
  have b2 : x1 * y0 ≤ 4294967295 * 4294967295 := Nat.mul_le_mul (by omega) (by omega)
  have b3 : x0 * y1 ≤ 4294967295 * 4294967295 := Nat.mul_le_mul (by omega) (by omega)
  have b4 : x1 * y1 ≤ 4294967295 * 4294967295 := Nat.mul_le_mul (by omega) (by omega)
  have b5 := hi_le hx hy
  have key := mul64_hi x1 x0 y1 y0
  rw [ex, ey] at key
  rw [← key] at b5 ⊢
  (repeat (first
    | refine Ex.seq ok hm ?_
    | refine Ex.region ok hm ?_
    | refine Sq.pu ok hm Want.none (by first
    | exact Pu.move rfl
    | exact Pu.assign rfl
    | exact Pu.andN rfl rfl (by simp only [InR]; omega) (by simp only [InR]; omega)
    | exact Pu.shrN rfl rfl (by simp only [InR]; omega)) rfl ?_
    | refine Sq.finH (n := 52) ok hm (by repeat (first
    | exact Keep.nil
    | apply Keep.keep rfl)) ?_))
  rw [and32, and32, ← hx0, ← hx1, ← hy0, ← hy1]
  refine Sq.pu ok hm Want.none (Pu.mulN (k := .u64) (a := x0) (b := y0) rfl rfl (by simp only [InR]; omega)) rfl ?_
  (repeat (first
    | refine Ex.seq ok hm ?_
    | refine Ex.region ok hm ?_
    | refine Sq.pu ok hm Want.none (by first
    | exact Pu.move rfl
    | exact Pu.assign rfl) rfl ?_
    | refine Sq.finH (n := 52) ok hm (by repeat (first
    | exact Keep.nil
    | apply Keep.keep rfl)) ?_))
  refine Sq.pu ok hm Want.none (Pu.mulN (k := .u64) (a := x1) (b := y0) rfl rfl (by simp only [InR]; omega)) rfl ?_
  (repeat (first
    | refine Ex.seq ok hm ?_
    | refine Ex.region ok hm ?_
    | refine Sq.pu ok hm Want.none (by first
    | exact Pu.move rfl
    | exact Pu.assign rfl
    | exact Pu.andN rfl rfl (by simp only [InR]; omega) (by simp only [InR]; omega)
    | exact Pu.shrN rfl rfl (by simp only [InR]; omega)
    | exact Pu.addN rfl rfl (by simp only [InR]; omega)) rfl ?_
    | refine Sq.finH (n := 52) ok hm (by repeat (first
    | exact Keep.nil
    | apply Keep.keep rfl)) ?_))
  rw [and32]
  refine Sq.pu ok hm Want.none (Pu.mulN (k := .u64) (a := x0) (b := y1) rfl rfl (by simp only [InR]; omega)) rfl ?_
  (repeat (first
    | refine Ex.seq ok hm ?_
    | refine Ex.region ok hm ?_
    | refine Sq.pu ok hm Want.none (by first
    | exact Pu.move rfl
    | exact Pu.assign rfl
    | exact Pu.addN rfl rfl (by simp only [InR]; omega)) rfl ?_
    | refine Sq.finH (n := 52) ok hm (by repeat (first
    | exact Keep.nil
    | apply Keep.keep rfl)) ?_))
  refine Sq.pu ok hm Want.none (Pu.mulN (k := .u64) (a := x1) (b := y1) rfl rfl (by simp only [InR]; omega)) rfl ?_
  (repeat (first
    | refine Ex.seq ok hm ?_
    | refine Ex.region ok hm ?_
    | refine Sq.pu ok hm Want.none (by first
    | exact Pu.move rfl
    | exact Pu.assign rfl
    | exact Pu.shrN rfl rfl (by simp only [InR]; omega)
    | exact Pu.addN rfl rfl (by simp only [InR]; omega)) rfl ?_
    | refine Sq.finH (n := 52) ok hm (by repeat (first
    | exact Keep.nil
    | apply Keep.keep rfl)) ?_))
  refine Sq.pu ok hm Want.none (Pu.mulM (a := x) (b := y) rfl rfl) rfl ?_
  (repeat (first
    | refine Sq.pu ok hm Want.none (by exact Pu.assign rfl) rfl ?_
    | refine Sq.finH (n := 52) ok hm (by repeat (first
    | exact Keep.nil
    | apply Keep.keep rfl)) ?_
    | refine Ex.ret ok hm ?_))
  exact ⟨_, .tmp rfl (.tmp rfl .nil), rfl, rfl⟩

theorem Mul_ok {ro : Nat} {M : AM} {x y : Nat} (hx : x < 18446744073709551616) (hy : y < 18446744073709551616) :
    FnC Try.prog tables ro 33 [.int .u64 (x : Int), .int .u64 (y : Int)] M (fun v M' => v = .tuple ⟨[.int .u64 ((x * y / 18446744073709551616 : Nat) : Int), .int .u64 ((x * y % 18446744073709551616 : Nat) : Int)]⟩ ∧ M' = M) := by
  refine FnC.body (nt := 30) ok hm fn33 rfl rfl ?_
  (repeat (first
    | refine Ex.seq ok hm ?_
    | refine Ex.skip ok hm ?_
    | refine Ex.region ok hm ?_
    | refine Sq.pu ok hm Want.none (by first
    | exact Pu.move rfl
    | exact Pu.assign rfl) rfl ?_
    | refine Sq.finH (n := 31) ok hm (by repeat (first
    | exact Keep.nil
    | apply Keep.keep rfl)) ?_
    | refine Ex.condF ok hm rfl (by rfl) ?_))
  refine Sq.call ok Want.none (Op1.call rfl rfl fn25) rfl (FnC.mono (Mul64_ok hx hy) ?_)
  rintro v M1 ⟨rfl, rfl⟩
  (repeat (first
    | refine Ex.seq ok hm ?_
    | refine Ex.region ok hm ?_
    | refine Sq.pu ok hm Want.none (by first
    | exact Pu.move rfl
    | exact Pu.assign rfl
    | exact Pu.extract rfl rfl) rfl ?_
    | refine Sq.finH (n := 31) ok hm (by repeat (first
    | exact Keep.nil
    | apply Keep.keep rfl)) ?_
    | refine Ex.ret ok hm ?_))
  exact ⟨_, .tmp rfl (.tmp rfl .nil), rfl, rfl⟩
end Go.Proofs.Ytpglehckhnencaa
/- N -/
namespace Go.Proofs.Ytpglehckhnencaa
open Go.Wvm Sk
set_option linter.unusedVariables false
set_option linter.unusedSimpArgs false

/-- What the loop of a digit ends with: the digit, and what is left of it. -/
theorem digit_hi {yn1 yn0 u : Nat} (h1 : 2147483648 ≤ yn1) (hy0 : yn0 < 4294967296) (hu : u < yn1 * 4294967296 + yn0) : u / yn1 ≤ 4294967297 := by
  have : u / yn1 < 4294967298 := by
    rw [Nat.div_lt_iff_lt_mul (by omega)]; omega
  omega
theorem mul_le64 {q y : Nat} (hq : q ≤ 4294967296) (hy : y < 4294967296) : q * y ≤ 18446744069414584320 := Nat.le_trans (Nat.mul_le_mul hq (show y ≤ 4294967295 by omega)) (by decide)
theorem pred_mul {q y : Nat} (h : 1 ≤ q) : q * y = (q - 1) * y + y := by
  obtain ⟨k, rfl⟩ : ∃ k, q = k + 1 := ⟨q - 1, by omega⟩
  rw [Nat.add_sub_cancel, Nat.succ_mul]

theorem step_ok {u yn1 q rh D : Nat} (hq : u = q * yn1 + rh) (k : D < q) : 1 ≤ q ∧ u = (q - 1) * yn1 + (rh + yn1) ∧ D ≤ q - 1 :=
  ⟨by omega, by have := pred_mul (q := q) (y := yn1) (by omega); omega, by omega⟩
abbrev rest1 (s yn1 yn0 y un32 un10 un1 un0 : Nat) : En := [(9, u64 yn1), (10, u64 yn0), (2, u64 y), (11, u64 un32), (13, u64 un1), (14, u64 un0), (8, u64 s)]

set_option maxHeartbeats 16000000 in
theorem Div64_ok {ro : Nat} {M : AM} {hi lo y : Nat} (hy : hi < y) (hy64 : y < 18446744073709551616) (hlo : lo < 18446744073709551616) :
    FnC Try.prog tables ro 26 [u64 hi, u64 lo, u64 y] M (fun v M' => (∃ r : Nat, v = .tuple ⟨[u64 ((hi * 18446744073709551616 + lo) / y), u64 r]⟩) ∧ M' = M) := by
  refine FnC.body (nt := 135) ok hm fn26 rfl rfl ?_
  by_cases hz : hi = 0
  · subst hz
    rw [Nat.zero_mul, Nat.zero_add]
    (repeat (first
    | refine Ex.seq ok hm ?_
    | refine Ex.skip ok hm ?_
    | refine Ex.region ok hm ?_
    | refine Sq.pu ok hm Want.none (by first
    | exact Pu.move rfl
    | exact Pu.assign rfl
    | exact Pu.leqI rfl rfl
    | exact Pu.eqlI rfl rfl) rfl ?_
    | refine Sq.finH (n := 8) ok hm (by repeat (first
    | exact Keep.nil
    | apply Keep.drop rfl
    | apply Keep.keep rfl)) ?_
    | refine Ex.condT ok hm rfl (by rfl) ?_
    | refine Ex.condF ok hm rfl (by first
    | rfl
    | exact decide_eq_false (by omega)) ?_))
    refine Ex.quiet ok hm (by kernel_rfl) ?_
    (repeat (refine Hq.pu Want.none (by exact Pu.move rfl) rfl rfl rfl ?_))
    refine Hq.pu Want.none (Pu.quoN (k := .u64) (a := lo) (b := y) rfl rfl (by omega) (by simp only [InR]; omega)) rfl rfl rfl ?_
    (repeat (refine Hq.pu Want.none (by exact Pu.move rfl) rfl rfl rfl ?_))
    refine Hq.pu Want.none (Pu.remN (k := .u64) (a := lo) (b := y) rfl rfl (by omega)) rfl rfl rfl ?_
    (repeat (first
    | refine Hq.pu Want.none (by exact Pu.assign rfl) rfl rfl rfl ?_
    | refine Hq.nil ?_
    | refine Ex.ret ok hm ?_))
    exact ⟨_, .tmp rfl (.tmp rfl .nil), ⟨_, rfl⟩, rfl⟩
  have hl1 := len64_mono (n := y) (k := 64) hy64
  have hl2 : 1 ≤ len64 y := by
    rcases Nat.eq_zero_or_pos (len64 y) with e | e
    · have := len64_lt y; rw [e] at this; omega
    · exact e
  obtain ⟨s, hs⟩ : ∃ s, s = 64 - len64 y := ⟨_, rfl⟩
  have hsy := len64_lt y
  have hsy2 := len64_le (n := y) (by omega)
  have hp0 := Nat.two_pow_pos s
  have hys : y * 2 ^ s < 18446744073709551616 := by
    have : y * 2 ^ s < 2 ^ len64 y * 2 ^ s := (Nat.mul_lt_mul_right hp0).2 hsy
    rwa [← Nat.pow_add, show len64 y + s = 64 by omega] at this
  have hys2 : 9223372036854775808 ≤ y * 2 ^ s := by
    have : 2 ^ (len64 y - 1) * 2 ^ s ≤ y * 2 ^ s := Nat.mul_le_mul_right _ hsy2
    rwa [← Nat.pow_add, show len64 y - 1 + s = 63 by omega] at this
  have hhs : hi * 2 ^ s < y * 2 ^ s := (Nat.mul_lt_mul_right hp0).2 hy
  have hle64 : s ≤ 63 := by omega
  (repeat (first
    | refine Ex.seq ok hm ?_
    | refine Ex.skip ok hm ?_
    | refine Ex.region ok hm ?_
    | refine Sq.pu ok hm Want.none (by first
    | exact Pu.move rfl
    | exact Pu.assign rfl
    | exact Pu.leqI rfl rfl
    | exact Pu.eqlI rfl rfl) rfl ?_
    | refine Sq.finH (n := 8) ok hm (by repeat (first
    | exact Keep.nil
    | apply Keep.drop rfl
    | apply Keep.keep rfl)) ?_
    | refine Ex.condF ok hm rfl (by first
    | rfl
    | exact decide_eq_false (by omega)) ?_))
  refine Sq.call ok Want.none (Op1.call rfl rfl fn21) rfl (FnC.mono (LZ_ok (n := y) hy64) ?_)
  rintro v M1 ⟨rfl, rfl⟩
  rw [← hs]
  (repeat (first
    | refine Ex.seq ok hm ?_
    | refine Ex.region ok hm ?_
    | refine Sq.pu ok hm Want.none (by first
    | exact Pu.move rfl
    | exact Pu.assign rfl
    | exact Pu.convN hT rfl rfl rfl (by simp only [InR]; omega)) rfl ?_
    | refine Sq.finH (n := 15) ok hm (by repeat (first
    | exact Keep.nil
    | apply Keep.drop rfl
    | apply Keep.keep rfl)) ?_))
  refine Sq.pu ok hm Want.none (Pu.shlN (k := .u64) (a := y) (b := s) rfl rfl (by show s ≤ 64; omega) (by simp only [InR]; omega)) rfl ?_
  obtain ⟨hn1, hn2, hn3⟩ := div_norm (hi := hi) (lo := lo) (y := y) hle64 hlo hy
  rw [← hn2]
  obtain ⟨Y, hY⟩ : ∃ Y, Y = y * 2 ^ s := ⟨_, rfl⟩
  obtain ⟨B, hB⟩ : ∃ B, B = lo / 2 ^ (64 - s) := ⟨_, rfl⟩
  obtain ⟨un10, hun10⟩ : ∃ u, u = lo * 2 ^ s % 18446744073709551616 := ⟨_, rfl⟩
  have hl10 : un10 < 18446744073709551616 := by rw [hun10]; exact mod64 _
  rw [← hY] at hys hys2 hhs hn1 ⊢
  rw [← hB] at hn1 hn3 ⊢
  rw [← hun10]
  have hor := or_eq (a := hi) hn3
  obtain ⟨A, hA⟩ : ∃ A, A = hi * 2 ^ s := ⟨_, rfl⟩
  rw [← hA] at hhs hn1 hor ⊢
  obtain ⟨yn1, hyn1⟩ : ∃ n, n = Y / 2 ^ 32 := ⟨_, rfl⟩
  obtain ⟨yn0, hyn0⟩ : ∃ n, n = Y % 4294967296 := ⟨_, rfl⟩
  have l0 : yn0 < 4294967296 := by omega
  have h31 : 2147483648 ≤ yn1 := by omega
  have h32 : yn1 < 4294967296 := by omega
  have eY : yn1 * 4294967296 + yn0 = Y := by rw [hyn1, hyn0, Nat.mul_comm]; exact Nat.div_add_mod Y 4294967296
  obtain ⟨un1, hun1⟩ : ∃ n, n = un10 / 2 ^ 32 := ⟨_, rfl⟩
  obtain ⟨un0, hun0⟩ : ∃ n, n = un10 % 4294967296 := ⟨_, rfl⟩
  have l1 : un1 < 4294967296 := by omega
  have l2 : un0 < 4294967296 := by omega
  have eU : un1 * 4294967296 + un0 = un10 := by rw [hun1, hun0, Nat.mul_comm]; exact Nat.div_add_mod un10 4294967296
  (repeat (first
    | refine Ex.seq ok hm ?_
    | refine Ex.region ok hm ?_
    | refine Sq.pu ok hm Want.none (by first
    | exact Pu.move rfl
    | exact Pu.assign rfl
    | exact Pu.andN rfl rfl (by simp only [InR]; omega) (by simp only [InR]; omega)
    | exact Pu.shrN rfl rfl (by simp only [InR]; omega)) rfl ?_
    | refine Sq.finH (n := 15) ok hm (by repeat (first
    | exact Keep.nil
    | apply Keep.drop rfl
    | apply Keep.keep rfl)) ?_))
  rw [and32, ← hyn0, ← hyn1]
  refine Sq.pu ok hm Want.none (Pu.shlN (k := .u64) (a := hi) (b := s) rfl rfl (by show s ≤ 64; omega) (by rw [← hA]; simp only [InR]; omega)) rfl ?_
  rw [← hA]
  (repeat (refine Sq.pu ok hm Want.none (by exact Pu.move rfl) rfl ?_))
  refine Sq.pu ok hm Want.none (Pu.subZ (k := .u64) (a := 64) (b := s) (64 - s) (by omega) (by simp only [InR]; omega) rfl rfl) rfl ?_
  refine Sq.pu ok hm Want.none (Pu.shrN (k := .u64) (a := lo) (b := 64 - s) rfl rfl (by simp only [InR]; omega)) rfl ?_
  rw [← hB]
  have hB64 : B < 18446744073709551616 := by omega
  refine Sq.pu ok hm Want.none (Pu.orN (k := .u64) (a := A) (b := B) rfl rfl (by simp only [InR]; omega) (by simp only [InR]; omega)) rfl ?_
  rw [hor]
  obtain ⟨un32, hun32⟩ : ∃ u, u = A + B := ⟨_, rfl⟩
  rw [← hun32] at hn1 ⊢
  (repeat (first
    | refine Ex.seq ok hm ?_
    | refine Ex.region ok hm ?_
    | refine Sq.pu ok hm Want.none (by first
    | exact Pu.move rfl
    | exact Pu.assign rfl) rfl ?_
    | refine Sq.finH (n := 15) ok hm (by repeat (first
    | exact Keep.nil
    | apply Keep.drop rfl
    | apply Keep.keep rfl)) ?_))
  refine Sq.pu ok hm Want.none (Pu.shlR (a := lo) (b := s) un10 hun10.symm rfl rfl (by omega)) rfl ?_
  (repeat (first
    | refine Ex.seq ok hm ?_
    | refine Ex.region ok hm ?_
    | refine Sq.pu ok hm Want.none (by first
    | exact Pu.move rfl
    | exact Pu.assign rfl
    | exact Pu.andN rfl rfl (by simp only [InR]; omega) (by simp only [InR]; omega)
    | exact Pu.shrN rfl rfl (by simp only [InR]; omega)) rfl ?_
    | refine Sq.finH (n := 15) ok hm (by repeat (first
    | exact Keep.nil
    | apply Keep.drop rfl
    | apply Keep.keep rfl)) ?_))
  rw [and32, ← hun0, ← hun1]
  have hu32 : un32 < yn1 * 4294967296 + yn0 := by rw [eY]; exact hn1
  have hys : 0 < yn1 * 4294967296 + yn0 := by omega
  have hq0 : un32 / yn1 * yn1 ≤ un32 := Nat.div_mul_le_self _ _
  have hq1 : un32 / yn1 ≤ un32 := Nat.div_le_self _ _
  refine Sq.pu ok hm Want.none (Pu.quoN (k := .u64) (a := un32) (b := yn1) rfl rfl (by omega) (by simp only [InR]; omega)) rfl ?_
  (repeat (first
    | refine Ex.seq ok hm ?_
    | refine Ex.region ok hm ?_
    | refine Sq.pu ok hm Want.none (by first
    | exact Pu.move rfl
    | exact Pu.assign rfl) rfl ?_
    | refine Sq.finH (n := 16) ok hm (by repeat (first
    | exact Keep.nil
    | apply Keep.drop rfl
    | apply Keep.keep rfl)) ?_))
  refine Sq.pu ok hm Want.none (Pu.mulN (k := .u64) (a := un32 / yn1) (b := yn1) rfl rfl (by simp only [InR]; omega)) rfl ?_
  refine Sq.pu ok hm Want.none (Pu.subZ (k := .u64) (a := un32) (b := un32 / yn1 * yn1) (un32 % yn1) (by rw [Nat.mul_comm]; exact (Nat.div_add_mod _ _).symm) (by have := Nat.mod_le un32 yn1; simp only [InR]; omega) rfl rfl) rfl ?_
  refine Sq.pu ok hm Want.none (Pu.assign rfl) rfl ?_
  refine Sq.finH (n := 17) ok hm (by repeat (first
    | exact Keep.nil
    | apply Keep.drop rfl
    | apply Keep.keep rfl)) ?_
  refine Ex.seq ok hm ?_
  refine Ex.cut ((15, u64 ((un32 * 4294967296 + un1) / (yn1 * 4294967296 + yn0))) :: [(9, u64 yn1), (10, u64 yn0), (2, u64 Y), (11, u64 un32), (13, u64 un1), (14, u64 un0), (8, u64 s)]) (fun M' => M' = M1) ?_ ?_
  · refine Ex.block ok hm (Ex.loop ?_)
    refine Lp.inv ok hm (α := Nat × Nat)
      (fun z E M' => E = (15, u64 z.1) :: (16, u64 z.2) :: [(9, u64 yn1), (10, u64 yn0), (2, u64 Y), (11, u64 un32), (13, u64 un1), (14, u64 un0), (8, u64 s)] ∧ un32 = z.1 * yn1 + z.2 ∧ (un32 * 4294967296 + un1) / (yn1 * 4294967296 + yn0) ≤ z.1 ∧ z.1 ≤ 4294967297 ∧ z.2 < 4294967296 ∧ M' = M1)
      (fun z => z.1) ?_ (un32 / yn1, un32 % yn1) ((15, u64 (un32 / yn1)) :: (16, u64 (un32 % yn1)) :: [(9, u64 yn1), (10, u64 yn0), (2, u64 Y), (11, u64 un32), (13, u64 un1), (14, u64 un0), (8, u64 s)]) ⟨rfl, rfl, rfl, rfl, rfl, rfl, rfl, rfl, rfl,  trivial⟩ ⟨rfl, by simp only; rw [Nat.mul_comm]; exact (Nat.div_add_mod _ _).symm, digit_first (by omega) l1, digit_hi h31 l0 hu32, by have := Nat.mod_lt (un32) (show 0 < yn1 by omega); simp only; omega, rfl⟩
    intro ⟨q, rh⟩ E M9 ⟨hE, hq, hge, hq7, hrh, hM⟩
    simp only at hE hq hge hq7 hrh
    subst hE hM
    have hsm := digit_small (u := un32) (d := un1) (y := yn1 * 4294967296 + yn0) l1 hu32
    have step : (un32 * 4294967296 + un1) / (yn1 * 4294967296 + yn0) < q → 1 ≤ q ∧ un32 = (q - 1) * yn1 + (rh + yn1) ∧ (un32 * 4294967296 + un1) / (yn1 * 4294967296 + yn0) ≤ q - 1 := fun k => step_ok hq k
    by_cases hbig : 4294967296 ≤ q
    · obtain ⟨k1, k2, k3⟩ := step (Nat.lt_of_lt_of_le hsm hbig)
      (repeat (first
    | refine Ex.seq ok hm ?_
    | refine Ex.block ok hm ?_
    | refine Ex.skip ok hm ?_
    | refine Ex.region ok hm ?_
    | refine Sq.pu ok hm Want.none (by first
    | exact Pu.move rfl
    | exact Pu.geqI rfl rfl
    | exact Pu.pickT rfl (by first
    | rfl
    | exact decide_eq_true (by omega)) rfl) rfl ?_
    | refine Sq.skip ok hm (by exact Want.no rfl rfl rfl (by first
    | rfl
    | exact decide_eq_true (by omega))) rfl ?_
    | refine Sq.finH (n := 19) ok hm (by repeat (first
    | exact Keep.nil
    | apply Keep.drop rfl
    | apply Keep.keep rfl)) ?_
    | refine Ex.condT ok hm rfl (by rfl) ?_))
      refine Sq.pu ok hm Want.none (Pu.subZ (k := .u64) (a := q) (b := 1) (q - 1) (by omega) (by simp only [InR]; omega) rfl rfl) rfl ?_
      by_cases hrb : 4294967296 ≤ rh + yn1
      · have hqy1 := mul_le64 (q := q - 1) (y := yn0) (by omega) l0
        have e := digit k2 hys k3 (by omega)
        rw [← e]
        (repeat (first
    | refine Ex.seq ok hm ?_
    | refine Ex.region ok hm ?_
    | refine Sq.pu ok hm Want.none (by first
    | exact Pu.move rfl
    | exact Pu.assign rfl
    | exact Pu.addN rfl rfl (by simp only [InR]; omega)
    | exact Pu.geqI rfl rfl) rfl ?_
    | refine Sq.finH (n := 19) ok hm (by repeat (first
    | exact Keep.nil
    | apply Keep.drop rfl
    | apply Keep.keep rfl)) ?_
    | refine Ex.condT ok hm rfl (by first
    | rfl
    | exact decide_eq_true (by omega)) ?_
    | refine Ex.exit ok hm ?_))
        exact ⟨rfl, ⟨rfl, rfl, rfl, rfl, rfl, rfl, rfl, rfl,  trivial⟩, rfl⟩
      · (repeat (first
    | refine Ex.seq ok hm ?_
    | refine Ex.skip ok hm ?_
    | refine Ex.region ok hm ?_
    | refine Sq.pu ok hm Want.none (by first
    | exact Pu.move rfl
    | exact Pu.assign rfl
    | exact Pu.addN rfl rfl (by simp only [InR]; omega)
    | exact Pu.geqI rfl rfl) rfl ?_
    | refine Sq.finH (n := 19) ok hm (by repeat (first
    | exact Keep.nil
    | apply Keep.drop rfl
    | apply Keep.keep rfl)) ?_
    | refine Ex.condF ok hm rfl (by first
    | rfl
    | exact decide_eq_false (by omega)) ?_))
        exact ⟨(q - 1, rh + yn1), (15, u64 (q - 1)) :: (16, u64 (rh + yn1)) :: [(9, u64 yn1), (10, u64 yn0), (2, u64 Y), (11, u64 un32), (13, u64 un1), (14, u64 un0), (8, u64 s)], (by show q - 1 < q; omega), ⟨rfl, rfl, rfl, rfl, rfl, rfl, rfl, rfl, rfl,  trivial⟩, rfl, k2, k3, by simp only; omega, by simp only; omega, rfl⟩
    · have hqy := mul_le64 (q := q) (y := yn0) (by omega) l0
      refine Ex.seq ok hm (Ex.seq ok hm (Ex.region ok hm ?_))
      (repeat (first
    | refine Sq.pu ok hm Want.none (by first
    | exact Pu.move rfl
    | exact Pu.geqI rfl rfl) rfl ?_
    | refine Sq.pu ok hm (by exact Want.yes rfl rfl rfl (by exact decide_eq_false (by omega))) (by exact Pu.move rfl) rfl ?_))
      refine Sq.pu ok hm (Want.yes rfl rfl rfl (by first | rfl | (simp; omega))) (Pu.mulN (k := .u64) (a := q) (b := yn0) rfl rfl (by simp only [InR]; omega)) rfl ?_
      (repeat (refine Sq.pu ok hm (by exact Want.yes rfl rfl rfl (by exact decide_eq_false (by omega))) (by exact Pu.move rfl) rfl ?_))
      refine Sq.pu ok hm (Want.yes rfl rfl rfl (by first | rfl | (simp; omega))) (Pu.mulN (k := .u64) (a := 4294967296) (b := rh) rfl rfl (by simp only [InR]; omega)) rfl ?_
      by_cases hgt : 4294967296 * rh + un1 < q * yn0
      · obtain ⟨k1, k2, k3⟩ := step (digit_less hq hys hgt)
        have hgt2 : ((4294967296 * rh + un1 : Nat) : Int) < ((q * yn0 : Nat) : Int) := by omega
        (repeat (first
    | refine Ex.seq ok hm ?_
    | refine Ex.block ok hm ?_
    | refine Ex.skip ok hm ?_
    | refine Ex.region ok hm ?_
    | refine Sq.pu ok hm Want.none (by first
    | exact Pu.move rfl
    | exact Pu.addN rfl rfl (by simp only [InR]; omega)
    | exact Pu.gtrI rfl rfl
    | exact Pu.pickF rfl (by first
    | rfl
    | exact decide_eq_false (by omega)) rfl) rfl ?_
    | refine Sq.pu ok hm (by first
    | exact Want.none
    | exact Want.yes rfl rfl rfl (by first
    | rfl
    | exact decide_eq_false (by omega))) (by first
    | exact Pu.move rfl
    | exact Pu.addN rfl rfl (by simp only [InR]; omega)
    | exact Pu.gtrI rfl rfl) rfl ?_
    | refine Sq.finH (n := 19) ok hm (by repeat (first
    | exact Keep.nil
    | apply Keep.drop rfl
    | apply Keep.keep rfl)) ?_
    | refine Ex.condT ok hm rfl (by first
    | rfl
    | exact decide_eq_true (by omega)) ?_))
        refine Sq.pu ok hm Want.none (Pu.subZ (k := .u64) (a := q) (b := 1) (q - 1) (by omega) (by simp only [InR]; omega) rfl rfl) rfl ?_
        by_cases hrb : 4294967296 ≤ rh + yn1
        · have hqy1 := mul_le64 (q := q - 1) (y := yn0) (by omega) l0
          have e := digit k2 hys k3 (by omega)
          rw [← e]
          (repeat (first
    | refine Ex.seq ok hm ?_
    | refine Ex.region ok hm ?_
    | refine Sq.pu ok hm Want.none (by first
    | exact Pu.move rfl
    | exact Pu.assign rfl
    | exact Pu.addN rfl rfl (by simp only [InR]; omega)
    | exact Pu.geqI rfl rfl) rfl ?_
    | refine Sq.finH (n := 19) ok hm (by repeat (first
    | exact Keep.nil
    | apply Keep.drop rfl
    | apply Keep.keep rfl)) ?_
    | refine Ex.condT ok hm rfl (by first
    | rfl
    | exact decide_eq_true (by omega)) ?_
    | refine Ex.exit ok hm ?_))
          exact ⟨rfl, ⟨rfl, rfl, rfl, rfl, rfl, rfl, rfl, rfl,  trivial⟩, rfl⟩
        · (repeat (first
    | refine Ex.seq ok hm ?_
    | refine Ex.skip ok hm ?_
    | refine Ex.region ok hm ?_
    | refine Sq.pu ok hm Want.none (by first
    | exact Pu.move rfl
    | exact Pu.assign rfl
    | exact Pu.addN rfl rfl (by simp only [InR]; omega)
    | exact Pu.geqI rfl rfl) rfl ?_
    | refine Sq.finH (n := 19) ok hm (by repeat (first
    | exact Keep.nil
    | apply Keep.drop rfl
    | apply Keep.keep rfl)) ?_
    | refine Ex.condF ok hm rfl (by first
    | rfl
    | exact decide_eq_false (by omega)) ?_))
          exact ⟨(q - 1, rh + yn1), (15, u64 (q - 1)) :: (16, u64 (rh + yn1)) :: [(9, u64 yn1), (10, u64 yn0), (2, u64 Y), (11, u64 un32), (13, u64 un1), (14, u64 un0), (8, u64 s)], (by show q - 1 < q; omega), ⟨rfl, rfl, rfl, rfl, rfl, rfl, rfl, rfl, rfl,  trivial⟩, rfl, k2, k3, by simp only; omega, by simp only; omega, rfl⟩
      · have e := digit hq hys hge (by omega)
        rw [← e]
        have hgt2 : ¬ (((4294967296 * rh + un1 : Nat) : Int) < ((q * yn0 : Nat) : Int)) := by omega
        (repeat (first
    | refine Sq.pu ok hm Want.none (by first
    | exact Pu.move rfl
    | exact Pu.addN rfl rfl (by simp only [InR]; omega)
    | exact Pu.gtrI rfl rfl
    | exact Pu.pickF rfl (by first
    | rfl
    | exact decide_eq_false (by omega)) rfl) rfl ?_
    | refine Sq.pu ok hm (by exact Want.yes rfl rfl rfl (by first
    | rfl
    | exact decide_eq_false (by omega))) (by first
    | exact Pu.move rfl
    | exact Pu.addN rfl rfl (by simp only [InR]; omega)
    | exact Pu.gtrI rfl rfl) rfl ?_
    | refine Sq.finH (n := 19) ok hm (by repeat (first
    | exact Keep.nil
    | apply Keep.drop rfl
    | apply Keep.keep rfl)) ?_
    | refine Ex.condF ok hm rfl (by first
    | rfl
    | exact decide_eq_false (by omega)) ?_
    | refine Ex.exit ok hm ?_))
        exact ⟨rfl, ⟨rfl, rfl, rfl, rfl, rfl, rfl, rfl, rfl,  trivial⟩, rfl⟩
  rintro M2 rfl
  obtain ⟨q1, hq1e⟩ : ∃ q, q = (un32 * 4294967296 + un1) / (yn1 * 4294967296 + yn0) := ⟨_, rfl⟩
  obtain ⟨u21, hu21⟩ : ∃ q, q = (un32 * 4294967296 + un1) % (yn1 * 4294967296 + yn0) := ⟨_, rfl⟩
  have hsm1 := digit_small (u := un32) (d := un1) (y := yn1 * 4294967296 + yn0) l1 hu32
  have hu21l : u21 < yn1 * 4294967296 + yn0 := by rw [hu21]; exact Nat.mod_lt _ hys
  have hdm1 := Nat.div_add_mod (un32 * 4294967296 + un1) (yn1 * 4294967296 + yn0)
  have htwo := two_digits (u := un32) (d1 := un1) (d0 := un0) hys
  rw [← hq1e] at hsm1 hdm1 htwo ⊢
  rw [← hu21] at hdm1 htwo
  rw [eU] at htwo
  rw [eY] at hdm1 htwo
  rw [← htwo]
  (repeat (first
    | refine Ex.seq ok hm ?_
    | refine Ex.region ok hm ?_
    | refine Sq.pu ok hm Want.none (by exact Pu.move rfl) rfl ?_))
  refine Sq.pu ok hm Want.none (Pu.mulM (a := un32) (b := 4294967296) rfl rfl) rfl ?_
  (repeat (refine Sq.pu ok hm Want.none (by first
    | exact Pu.move rfl
    | exact Pu.addN rfl rfl (by simp only [InR]; omega)) rfl ?_))
  refine Sq.pu ok hm Want.none (Pu.mulM (a := q1) (b := Y) rfl rfl) rfl ?_
  refine Sq.pu ok hm Want.none (Pu.subQ (un32 * 4294967296 + un1) (q1 * Y) u21 (by omega) rfl (by rw [Nat.mul_comm q1]; exact hdm1.symm) (by omega) rfl rfl) rfl ?_
  have hq20 : u21 / yn1 * yn1 ≤ u21 := Nat.div_mul_le_self _ _
  have hq21 : u21 / yn1 ≤ u21 := Nat.div_le_self _ _
  (repeat (first
    | refine Ex.seq ok hm ?_
    | refine Ex.region ok hm ?_
    | refine Sq.pu ok hm Want.none (by first
    | exact Pu.move rfl
    | exact Pu.assign rfl) rfl ?_
    | refine Sq.finH (n := 18) ok hm (by repeat (first
    | exact Keep.nil
    | apply Keep.drop rfl
    | apply Keep.keep rfl)) ?_))
  refine Sq.pu ok hm Want.none (Pu.quoN (k := .u64) (a := u21) (b := yn1) rfl rfl (by omega) (by simp only [InR]; omega)) rfl ?_
  (repeat (first
    | refine Ex.seq ok hm ?_
    | refine Ex.region ok hm ?_
    | refine Sq.pu ok hm Want.none (by first
    | exact Pu.move rfl
    | exact Pu.assign rfl) rfl ?_
    | refine Sq.finH (n := 19) ok hm (by repeat (first
    | exact Keep.nil
    | apply Keep.drop rfl
    | apply Keep.keep rfl)) ?_))
  refine Sq.pu ok hm Want.none (Pu.mulN (k := .u64) (a := u21 / yn1) (b := yn1) rfl rfl (by simp only [InR]; omega)) rfl ?_
  refine Sq.pu ok hm Want.none (Pu.subZ (k := .u64) (a := u21) (b := u21 / yn1 * yn1) (u21 % yn1) (by rw [Nat.mul_comm]; exact (Nat.div_add_mod _ _).symm) (by have := Nat.mod_le u21 yn1; simp only [InR]; omega) rfl rfl) rfl ?_
  refine Sq.pu ok hm Want.none (Pu.assign rfl) rfl ?_
  refine Sq.finH (n := 19) ok hm (by repeat (first
    | exact Keep.nil
    | apply Keep.drop rfl
    | apply Keep.keep rfl)) ?_
  refine Ex.seq ok hm ?_
  refine Ex.cut ((18, u64 ((u21 * 4294967296 + un0) / (yn1 * 4294967296 + yn0))) :: [(9, u64 yn1), (10, u64 yn0), (2, u64 Y), (17, u64 u21), (15, u64 q1), (14, u64 un0), (8, u64 s), (13, u64 un1)]) (fun M' => M' = M2) ?_ ?_
  · refine Ex.block ok hm (Ex.loop ?_)
    refine Lp.inv ok hm (α := Nat × Nat)
      (fun z E M' => E = (18, u64 z.1) :: (16, u64 z.2) :: [(9, u64 yn1), (10, u64 yn0), (2, u64 Y), (17, u64 u21), (15, u64 q1), (14, u64 un0), (8, u64 s), (13, u64 un1)] ∧ u21 = z.1 * yn1 + z.2 ∧ (u21 * 4294967296 + un0) / (yn1 * 4294967296 + yn0) ≤ z.1 ∧ z.1 ≤ 4294967297 ∧ z.2 < 4294967296 ∧ M' = M2)
      (fun z => z.1) ?_ (u21 / yn1, u21 % yn1) ((18, u64 (u21 / yn1)) :: (16, u64 (u21 % yn1)) :: [(9, u64 yn1), (10, u64 yn0), (2, u64 Y), (17, u64 u21), (15, u64 q1), (14, u64 un0), (8, u64 s), (13, u64 un1)]) ⟨rfl, rfl, rfl, rfl, rfl, rfl, rfl, rfl, rfl, rfl,  trivial⟩ ⟨rfl, by simp only; rw [Nat.mul_comm]; exact (Nat.div_add_mod _ _).symm, digit_first (by omega) l2, digit_hi h31 l0 hu21l, by have := Nat.mod_lt (u21) (show 0 < yn1 by omega); simp only; omega, rfl⟩
    intro ⟨q, rh⟩ E M9 ⟨hE, hq, hge, hq7, hrh, hM⟩
    simp only at hE hq hge hq7 hrh
    subst hE hM
    have hsm := digit_small (u := u21) (d := un0) (y := yn1 * 4294967296 + yn0) l2 hu21l
    have step : (u21 * 4294967296 + un0) / (yn1 * 4294967296 + yn0) < q → 1 ≤ q ∧ u21 = (q - 1) * yn1 + (rh + yn1) ∧ (u21 * 4294967296 + un0) / (yn1 * 4294967296 + yn0) ≤ q - 1 := fun k => step_ok hq k
    by_cases hbig : 4294967296 ≤ q
    · obtain ⟨k1, k2, k3⟩ := step (Nat.lt_of_lt_of_le hsm hbig)
      (repeat (first
    | refine Ex.seq ok hm ?_
    | refine Ex.block ok hm ?_
    | refine Ex.skip ok hm ?_
    | refine Ex.region ok hm ?_
    | refine Sq.pu ok hm Want.none (by first
    | exact Pu.move rfl
    | exact Pu.geqI rfl rfl
    | exact Pu.pickT rfl (by first
    | rfl
    | exact decide_eq_true (by omega)) rfl) rfl ?_
    | refine Sq.skip ok hm (by exact Want.no rfl rfl rfl (by first
    | rfl
    | exact decide_eq_true (by omega))) rfl ?_
    | refine Sq.finH (n := 19) ok hm (by repeat (first
    | exact Keep.nil
    | apply Keep.drop rfl
    | apply Keep.keep rfl)) ?_
    | refine Ex.condT ok hm rfl (by rfl) ?_))
      refine Sq.pu ok hm Want.none (Pu.subZ (k := .u64) (a := q) (b := 1) (q - 1) (by omega) (by simp only [InR]; omega) rfl rfl) rfl ?_
      by_cases hrb : 4294967296 ≤ rh + yn1
      · have hqy1 := mul_le64 (q := q - 1) (y := yn0) (by omega) l0
        have e := digit k2 hys k3 (by omega)
        rw [← e]
        (repeat (first
    | refine Ex.seq ok hm ?_
    | refine Ex.region ok hm ?_
    | refine Sq.pu ok hm Want.none (by first
    | exact Pu.move rfl
    | exact Pu.assign rfl
    | exact Pu.addN rfl rfl (by simp only [InR]; omega)
    | exact Pu.geqI rfl rfl) rfl ?_
    | refine Sq.finH (n := 19) ok hm (by repeat (first
    | exact Keep.nil
    | apply Keep.drop rfl
    | apply Keep.keep rfl)) ?_
    | refine Ex.condT ok hm rfl (by first
    | rfl
    | exact decide_eq_true (by omega)) ?_
    | refine Ex.exit ok hm ?_))
        exact ⟨rfl, ⟨rfl, rfl, rfl, rfl, rfl, rfl, rfl, rfl, rfl,  trivial⟩, rfl⟩
      · (repeat (first
    | refine Ex.seq ok hm ?_
    | refine Ex.skip ok hm ?_
    | refine Ex.region ok hm ?_
    | refine Sq.pu ok hm Want.none (by first
    | exact Pu.move rfl
    | exact Pu.assign rfl
    | exact Pu.addN rfl rfl (by simp only [InR]; omega)
    | exact Pu.geqI rfl rfl) rfl ?_
    | refine Sq.finH (n := 19) ok hm (by repeat (first
    | exact Keep.nil
    | apply Keep.drop rfl
    | apply Keep.keep rfl)) ?_
    | refine Ex.condF ok hm rfl (by first
    | rfl
    | exact decide_eq_false (by omega)) ?_))
        exact ⟨(q - 1, rh + yn1), (18, u64 (q - 1)) :: (16, u64 (rh + yn1)) :: [(9, u64 yn1), (10, u64 yn0), (2, u64 Y), (17, u64 u21), (15, u64 q1), (14, u64 un0), (8, u64 s), (13, u64 un1)], (by show q - 1 < q; omega), ⟨rfl, rfl, rfl, rfl, rfl, rfl, rfl, rfl, rfl, rfl,  trivial⟩, rfl, k2, k3, by simp only; omega, by simp only; omega, rfl⟩
    · have hqy := mul_le64 (q := q) (y := yn0) (by omega) l0
      refine Ex.seq ok hm (Ex.seq ok hm (Ex.region ok hm ?_))
      (repeat (first
    | refine Sq.pu ok hm Want.none (by first
    | exact Pu.move rfl
    | exact Pu.geqI rfl rfl) rfl ?_
    | refine Sq.pu ok hm (by exact Want.yes rfl rfl rfl (by exact decide_eq_false (by omega))) (by exact Pu.move rfl) rfl ?_))
      refine Sq.pu ok hm (Want.yes rfl rfl rfl (by first | rfl | (simp; omega))) (Pu.mulN (k := .u64) (a := q) (b := yn0) rfl rfl (by simp only [InR]; omega)) rfl ?_
      (repeat (refine Sq.pu ok hm (by exact Want.yes rfl rfl rfl (by exact decide_eq_false (by omega))) (by exact Pu.move rfl) rfl ?_))
      refine Sq.pu ok hm (Want.yes rfl rfl rfl (by first | rfl | (simp; omega))) (Pu.mulN (k := .u64) (a := 4294967296) (b := rh) rfl rfl (by simp only [InR]; omega)) rfl ?_
      by_cases hgt : 4294967296 * rh + un0 < q * yn0
      · obtain ⟨k1, k2, k3⟩ := step (digit_less hq hys hgt)
        have hgt2 : ((4294967296 * rh + un0 : Nat) : Int) < ((q * yn0 : Nat) : Int) := by omega
        (repeat (first
    | refine Ex.seq ok hm ?_
    | refine Ex.block ok hm ?_
    | refine Ex.skip ok hm ?_
    | refine Ex.region ok hm ?_
    | refine Sq.pu ok hm Want.none (by first
    | exact Pu.move rfl
    | exact Pu.addN rfl rfl (by simp only [InR]; omega)
    | exact Pu.gtrI rfl rfl
    | exact Pu.pickF rfl (by first
    | rfl
    | exact decide_eq_false (by omega)) rfl) rfl ?_
    | refine Sq.pu ok hm (by first
    | exact Want.none
    | exact Want.yes rfl rfl rfl (by first
    | rfl
    | exact decide_eq_false (by omega))) (by first
    | exact Pu.move rfl
    | exact Pu.addN rfl rfl (by simp only [InR]; omega)
    | exact Pu.gtrI rfl rfl) rfl ?_
    | refine Sq.finH (n := 19) ok hm (by repeat (first
    | exact Keep.nil
    | apply Keep.drop rfl
    | apply Keep.keep rfl)) ?_
    | refine Ex.condT ok hm rfl (by first
    | rfl
    | exact decide_eq_true (by omega)) ?_))
        refine Sq.pu ok hm Want.none (Pu.subZ (k := .u64) (a := q) (b := 1) (q - 1) (by omega) (by simp only [InR]; omega) rfl rfl) rfl ?_
        by_cases hrb : 4294967296 ≤ rh + yn1
        · have hqy1 := mul_le64 (q := q - 1) (y := yn0) (by omega) l0
          have e := digit k2 hys k3 (by omega)
          rw [← e]
          (repeat (first
    | refine Ex.seq ok hm ?_
    | refine Ex.region ok hm ?_
    | refine Sq.pu ok hm Want.none (by first
    | exact Pu.move rfl
    | exact Pu.assign rfl
    | exact Pu.addN rfl rfl (by simp only [InR]; omega)
    | exact Pu.geqI rfl rfl) rfl ?_
    | refine Sq.finH (n := 19) ok hm (by repeat (first
    | exact Keep.nil
    | apply Keep.drop rfl
    | apply Keep.keep rfl)) ?_
    | refine Ex.condT ok hm rfl (by first
    | rfl
    | exact decide_eq_true (by omega)) ?_
    | refine Ex.exit ok hm ?_))
          exact ⟨rfl, ⟨rfl, rfl, rfl, rfl, rfl, rfl, rfl, rfl, rfl,  trivial⟩, rfl⟩
        · (repeat (first
    | refine Ex.seq ok hm ?_
    | refine Ex.skip ok hm ?_
    | refine Ex.region ok hm ?_
    | refine Sq.pu ok hm Want.none (by first
    | exact Pu.move rfl
    | exact Pu.assign rfl
    | exact Pu.addN rfl rfl (by simp only [InR]; omega)
    | exact Pu.geqI rfl rfl) rfl ?_
    | refine Sq.finH (n := 19) ok hm (by repeat (first
    | exact Keep.nil
    | apply Keep.drop rfl
    | apply Keep.keep rfl)) ?_
    | refine Ex.condF ok hm rfl (by first
    | rfl
    | exact decide_eq_false (by omega)) ?_))
          exact ⟨(q - 1, rh + yn1), (18, u64 (q - 1)) :: (16, u64 (rh + yn1)) :: [(9, u64 yn1), (10, u64 yn0), (2, u64 Y), (17, u64 u21), (15, u64 q1), (14, u64 un0), (8, u64 s), (13, u64 un1)], (by show q - 1 < q; omega), ⟨rfl, rfl, rfl, rfl, rfl, rfl, rfl, rfl, rfl, rfl,  trivial⟩, rfl, k2, k3, by simp only; omega, by simp only; omega, rfl⟩
      · have e := digit hq hys hge (by omega)
        rw [← e]
        have hgt2 : ¬ (((4294967296 * rh + un0 : Nat) : Int) < ((q * yn0 : Nat) : Int)) := by omega
        (repeat (first
    | refine Sq.pu ok hm Want.none (by first
    | exact Pu.move rfl
    | exact Pu.addN rfl rfl (by simp only [InR]; omega)
    | exact Pu.gtrI rfl rfl
    | exact Pu.pickF rfl (by first
    | rfl
    | exact decide_eq_false (by omega)) rfl) rfl ?_
    | refine Sq.pu ok hm (by exact Want.yes rfl rfl rfl (by first
    | rfl
    | exact decide_eq_false (by omega))) (by first
    | exact Pu.move rfl
    | exact Pu.addN rfl rfl (by simp only [InR]; omega)
    | exact Pu.gtrI rfl rfl) rfl ?_
    | refine Sq.finH (n := 19) ok hm (by repeat (first
    | exact Keep.nil
    | apply Keep.drop rfl
    | apply Keep.keep rfl)) ?_
    | refine Ex.condF ok hm rfl (by first
    | rfl
    | exact decide_eq_false (by omega)) ?_
    | refine Ex.exit ok hm ?_))
        exact ⟨rfl, ⟨rfl, rfl, rfl, rfl, rfl, rfl, rfl, rfl, rfl,  trivial⟩, rfl⟩
  rintro M3 rfl
  have hsm2 := digit_small (u := u21) (d := un0) (y := yn1 * 4294967296 + yn0) l2 hu21l
  have hdm2 := Nat.div_add_mod (u21 * 4294967296 + un0) (yn1 * 4294967296 + yn0)
  have hlast := Nat.mod_lt (u21 * 4294967296 + un0) hys
  obtain ⟨q0, hq0e⟩ : ∃ q, q = (u21 * 4294967296 + un0) / (yn1 * 4294967296 + yn0) := ⟨_, rfl⟩
  obtain ⟨u0, hu0⟩ : ∃ q, q = (u21 * 4294967296 + un0) % (yn1 * 4294967296 + yn0) := ⟨_, rfl⟩
  have hq0Y : (u21 * 4294967296 + un0) / Y = q0 := by rw [← eY]; exact hq0e.symm
  rw [← hq0e] at hsm2 hdm2 ⊢
  rw [hq0Y]
  rw [← hu0] at hdm2 hlast
  rw [eY] at hdm2 hlast
  (repeat (first
    | refine Ex.seq ok hm ?_
    | refine Ex.region ok hm ?_
    | refine Sq.pu ok hm Want.none (by exact Pu.move rfl) rfl ?_))
  refine Sq.pu ok hm Want.none (Pu.mulN (k := .u64) (a := q1) (b := 4294967296) rfl rfl (by simp only [InR]; omega)) rfl ?_
  (repeat (refine Sq.pu ok hm Want.none (by first
    | exact Pu.move rfl
    | exact Pu.addN rfl rfl (by simp only [InR]; omega)) rfl ?_))
  refine Sq.pu ok hm Want.none (Pu.mulM (a := u21) (b := 4294967296) rfl rfl) rfl ?_
  (repeat (refine Sq.pu ok hm Want.none (by first
    | exact Pu.move rfl
    | exact Pu.addN rfl rfl (by simp only [InR]; omega)) rfl ?_))
  refine Sq.pu ok hm Want.none (Pu.mulM (a := q0) (b := Y) rfl rfl) rfl ?_
  refine Sq.pu ok hm Want.none (Pu.subQ (u21 * 4294967296 + un0) (q0 * Y) u0 (by omega) rfl (by rw [Nat.mul_comm q0]; exact hdm2.symm) (by omega) rfl rfl) rfl ?_
  (repeat (refine Sq.pu ok hm Want.none (by first
    | exact Pu.move rfl
    | exact Pu.assign rfl
    | exact Pu.shrN rfl rfl (by simp only [InR]; omega)) rfl ?_))
  (repeat (first
    | refine Sq.finH (n := 19) ok hm (by repeat (first
    | exact Keep.nil
    | apply Keep.drop rfl
    | apply Keep.keep rfl)) ?_
    | refine Ex.ret ok hm ?_))
  exact ⟨_, .tmp rfl (.tmp rfl .nil), ⟨_, rfl⟩, rfl⟩
end Go.Proofs.Ytpglehckhnencaa
