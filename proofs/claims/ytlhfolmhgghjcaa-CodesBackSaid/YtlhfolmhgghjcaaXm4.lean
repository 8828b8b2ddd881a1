/- Towards the laws of this seat: contracts of the program's functions in a logic over a small machine (texts XPw XCu0 XCu XOi XBb). No condition. -/
import Derived.Test.YtlhfolmhgghjcaaXm3
import Derived.Test.YtlhfolmhgghjcaaWvmLgh
/- N -/
namespace Go.Proofs.Ytlhfolmhgghjcaa
open Go.Wvm Bits
set_option linter.unusedVariables false
set_option linter.unusedSimpArgs false

theorem WrAt.keep {M M' : AM} {p q : Nat} {l : List Bool} {S : List Nat} (h : WrAt M p q l) (f : Fr M M' S) (hp : p < M.next) (hpS : p ∉ S) (hq : packL l ≠ [] → q < M.next ∧ q ∉ S) : WrAt M' p q l :=
  ⟨(f.get p hp hpS).trans h.row, fun k => (f.get q (hq k).1 (hq k).2).trans (h.buf k), h.ne⟩
theorem WPost.pre {ro : Nat} {M M1 M2 : AM} {p q : Nat} {l2 : List Bool} (hF : Fr M M1 []) (h : WPost ro M1 M2 p q l2) : WPost ro M M2 p q l2 :=
  WPost.trans (hF.mono (by simp)) (.inl rfl) h

set_option maxHeartbeats 8000000 in
theorem cPut_ok {ro : Nat} {M : AM} {p q kind K v : Nat} {l : List Bool} (hp : ro ≤ p) (hq : ro ≤ q) (h : WrAt M p q l) (hk : kind < 256) (hK : K < 18446744073709551616) (hv : v < 18446744073709551616) (hl : l.length + 66000 ≤ 134217728) :
    FnC Try.prog tables ro 29 [.pointer (some ⟨p, 0, none⟩), .agg ⟨[.int .u8 (kind : Int), .int .u64 (K : Int)]⟩, .int .u64 (v : Int)] M
      (fun x M' => x = .int .i64 (lenE kind K v).2 ∧ WPost ro M M' p q (if (lenE kind K v).2 = 0 then l ++ bitsC kind K v else l)) := by
  refine FnC.body (nt := 94) ok hm fn29 rfl rfl ?_
  refine Ex.facts fun hlt hron => ?_
  have hpl := hlt _ _ h.row
  have hql : packL l ≠ [] → q < M.next := fun k => hlt _ _ (h.buf k)
  (repeat (first
    | refine Ex.seq ok hm ?_
    | refine Ex.region ok hm ?_))
  refine Sq.op ok hm Want.none (Op1.box rfl rfl) rfl ?_
  have hb : (M.add (cdO 58 kind K)).get M.next = some (cdO 58 kind K) := AM.add_same
  have hF0 : Fr M (M.add (cdO 58 kind K)) [] := Fr.add _ _ _
  have hn : M.next < (M.add (cdO 58 kind K)).next := Nat.lt_succ_self _
  (repeat (first
    | refine Ex.seq ok hm ?_
    | refine Ex.skip ok hm ?_
    | refine Ex.region ok hm ?_
    | refine Sq.pu ok hm Want.none (by first
    | exact Pu.move rfl
    | exact Pu.assign rfl
    | exact Pu.eqlP hT rfl rfl rfl) rfl ?_
    | refine Sq.finH (n := 7) ok hm (by repeat (first
    | exact Keep.nil
    | apply Keep.drop rfl
    | apply Keep.keep rfl)) ?_
    | refine Ex.condF ok hm rfl (by rfl) ?_))
  show Sq Try.prog tables ro ⟨29, 94⟩ _ _ _ (M.add (cdO 58 kind K)) _
  generalize M.add (cdO 58 kind K) = M1 at hb hF0 hn ⊢
  generalize hbp : M.next = bp at hb hn ⊢
  (repeat (fail))
  refine Sq.pu ok hm Want.none (Pu.loadA hT rfl rfl rfl hb (Nat.le_refl 2)) rfl ?_
  (repeat (refine Sq.pu ok hm Want.none (by exact Pu.move rfl) rfl ?_))
  refine Sq.call ok Want.none (Op1.call rfl rfl fn30) rfl (FnC.mono (Len_ok (kind := kind) (K := K) (v := v) hk hK hv) ?_)
  rintro x M2 ⟨rfl, hF2⟩
  have hb2 := (hF2.get bp hn (by simp)).trans hb
  have hn2 : bp < M2.next := Nat.lt_of_lt_of_le hn hF2.next
  have hF2 := hF0.trans hF2 (by simp)
  have hW2 : WrAt M2 p q l := h.keep hF2 hpl (by simp) (fun k => ⟨hql k, by simp⟩)
  by_cases hc2 : checkE kind K = 0 ∧ v ≤ mostE kind K
  · obtain ⟨hc, hvm⟩ := hc2
    rw [lenE_yes hc hvm, if_pos rfl]
    have hle := bitsC_le hc hvm
    obtain ⟨c1, c2, c3⟩ := check0 hc
    have hLn : ∀ L, bitsC kind K v = L → (bitsC kind K v).length = L.length := fun L e => by rw [e]
    generalize hbl : (bitsC kind K v).length = bl at hle ⊢
    (repeat (first
    | refine Ex.seq ok hm ?_
    | refine Ex.skip ok hm ?_
    | refine Ex.region ok hm ?_
    | refine Sq.pu ok hm Want.none (by first
    | exact Pu.move rfl
    | exact Pu.assign rfl
    | exact Pu.extract rfl rfl
    | exact Pu.neqI rfl rfl) rfl ?_
    | refine Sq.finH (n := 9) ok hm (by repeat (first
    | exact Keep.nil
    | apply Keep.drop rfl
    | apply Keep.keep rfl)) ?_
    | refine Ex.condF ok hm rfl (by rfl) ?_))
    refine Sq.call ok Want.none (Op1.call rfl rfl fn15) rfl (FnC.mono (len_ok hW2) ?_)
    rintro x M3 ⟨rfl, rfl⟩
    refine Sq.pu ok hm Want.none (Pu.subN (a := 134217728) (b := l.length) rfl rfl (by omega) (by simp only [InR]; omega)) rfl ?_
    have hroom : ¬ (134217728 - l.length < bl) := by omega
    generalize 134217728 - l.length = room at hroom ⊢
    by_cases k0 : kind = 0
    · have hmo : mostE kind K = 65535 := if_pos k0
      have e : bitsC kind K v = unaL v := by unfold bitsC; rw [if_pos k0]
      rw [e]
      (repeat (first
    | refine Ex.seq ok hm ?_
    | refine Ex.block ok hm ?_
    | refine Ex.skip ok hm ?_
    | refine Ex.region ok hm ?_
    | refine Sq.pu ok hm Want.none (by first
    | exact Pu.move rfl
    | exact Pu.assign rfl
    | exact Pu.fieldAddr hT rfl rfl rfl rfl rfl
    | (apply Pu.load hT rfl rfl rfl; (focus ((repeat (assumption)))); (focus rfl))
    | exact Pu.gtrI rfl rfl
    | exact Pu.eqlI rfl rfl) rfl ?_
    | refine Sq.finH (n := 31) ok hm (by repeat (first
    | exact Keep.nil
    | apply Keep.drop rfl
    | apply Keep.keep rfl)) ?_
    | refine Ex.condT ok hm rfl (by first
    | rfl
    | exact decide_eq_true (by omega)) ?_
    | refine Ex.condF ok hm rfl (by first
    | rfl
    | exact decide_eq_false (by omega)) ?_))
      refine Sq.call ok Want.none (Op1.call rfl rfl fn50) rfl (FnC.mono (putUnary_ok (v := v) hp hq hW2 (by omega) (by omega)) ?_)
      rintro r M4 hpost
      (repeat (first
    | refine Ex.seq ok hm ?_
    | refine Ex.region ok hm ?_
    | refine Sq.pu ok hm Want.none (by exact Pu.assign rfl) rfl ?_
    | refine Sq.finH (n := 7) ok hm (by repeat (first
    | exact Keep.nil
    | apply Keep.drop rfl
    | apply Keep.keep rfl)) ?_
    | refine Ex.ret ok hm ?_))
      exact ⟨_, .tmp rfl .nil, rfl, WPost.pre hF2 hpost⟩
    by_cases k4 : kind = 4
    · have hmo : mostE kind K = K - 1 := by unfold mostE; rw [if_neg k0, if_pos k4]
      have e : bitsC kind K v = minL v K := by unfold bitsC; rw [if_neg k0, if_neg (by omega), if_neg (by omega), if_neg (by omega)]
      rw [e]
      have := c3 k4
      (repeat (first
    | refine Ex.seq ok hm ?_
    | refine Ex.block ok hm ?_
    | refine Ex.skip ok hm ?_
    | refine Ex.region ok hm ?_
    | refine Sq.pu ok hm Want.none (by first
    | exact Pu.move rfl
    | exact Pu.assign rfl
    | exact Pu.fieldAddr hT rfl rfl rfl rfl rfl
    | (apply Pu.load hT rfl rfl rfl; (focus ((repeat (assumption)))); (focus rfl))
    | exact Pu.gtrI rfl rfl
    | exact Pu.eqlI rfl rfl) rfl ?_
    | refine Sq.finH (n := 31) ok hm (by repeat (first
    | exact Keep.nil
    | apply Keep.drop rfl
    | apply Keep.keep rfl)) ?_
    | refine Ex.condT ok hm rfl (by first
    | rfl
    | exact decide_eq_true (by omega)) ?_
    | refine Ex.condF ok hm rfl (by first
    | rfl
    | exact decide_eq_false (by omega)) ?_))
      refine Sq.call ok Want.none (Op1.call rfl rfl fn54) rfl (FnC.mono (putMinimal_ok (v := v) (c := K) hp hq hW2 (by omega) (by omega) (by omega) (by omega)) ?_)
      rintro r M4 hpost
      (repeat (first
    | refine Ex.seq ok hm ?_
    | refine Ex.region ok hm ?_
    | refine Sq.pu ok hm Want.none (by exact Pu.assign rfl) rfl ?_
    | refine Sq.finH (n := 7) ok hm (by repeat (first
    | exact Keep.nil
    | apply Keep.drop rfl
    | apply Keep.keep rfl)) ?_
    | refine Ex.ret ok hm ?_))
      exact ⟨_, .tmp rfl .nil, rfl, WPost.pre hF2 hpost⟩
    have hmo : mostE kind K = 281474976710654 := by unfold mostE; rw [if_neg k0, if_neg k4]
    have hb0 := len1 v
    have hlb := lowN_bd (v := v) (k := 47) (by omega)
    by_cases k1 : kind = 1
    · have e : bitsC kind K v = gamL v := by unfold bitsC; rw [if_neg k0, if_pos k1]
      rw [e]
      (repeat (first
    | refine Ex.seq ok hm ?_
    | refine Ex.block ok hm ?_
    | refine Ex.skip ok hm ?_
    | refine Ex.region ok hm ?_
    | refine Sq.pu ok hm Want.none (by first
    | exact Pu.move rfl
    | exact Pu.assign rfl
    | exact Pu.fieldAddr hT rfl rfl rfl rfl rfl
    | (apply Pu.load hT rfl rfl rfl; (focus ((repeat (assumption)))); (focus rfl))
    | exact Pu.gtrI rfl rfl
    | exact Pu.eqlI rfl rfl) rfl ?_
    | refine Sq.finH (n := 31) ok hm (by repeat (first
    | exact Keep.nil
    | apply Keep.drop rfl
    | apply Keep.keep rfl)) ?_
    | refine Ex.condT ok hm rfl (by first
    | rfl
    | exact decide_eq_true (by omega)) ?_
    | refine Ex.condF ok hm rfl (by first
    | rfl
    | exact decide_eq_false (by omega)) ?_))
      refine Sq.call ok Want.none (Op1.call rfl rfl fn51) rfl (FnC.mono (putGamma_ok (v := v) hp hq hW2 (by omega) (by omega)) ?_)
      rintro r M4 hpost
      (repeat (first
    | refine Ex.seq ok hm ?_
    | refine Ex.region ok hm ?_
    | refine Sq.pu ok hm Want.none (by exact Pu.assign rfl) rfl ?_
    | refine Sq.finH (n := 7) ok hm (by repeat (first
    | exact Keep.nil
    | apply Keep.drop rfl
    | apply Keep.keep rfl)) ?_
    | refine Ex.ret ok hm ?_))
      exact ⟨_, .tmp rfl .nil, rfl, WPost.pre hF2 hpost⟩
    by_cases k2 : kind = 2
    · have e : bitsC kind K v = gamL (lowN v) ++ ofN (v + 1 - 2 ^ lowN v) (lowN v) := by unfold bitsC; rw [if_neg k0, if_neg k1, if_pos k2]; rfl
      rw [e]
      have hlo := lowN_le v
      have hhi := lowN_lt v
      rw [Nat.pow_succ] at hhi
      (repeat (first
    | refine Ex.seq ok hm ?_
    | refine Ex.block ok hm ?_
    | refine Ex.skip ok hm ?_
    | refine Ex.region ok hm ?_
    | refine Sq.pu ok hm Want.none (by first
    | exact Pu.move rfl
    | exact Pu.assign rfl
    | exact Pu.fieldAddr hT rfl rfl rfl rfl rfl
    | (apply Pu.load hT rfl rfl rfl; (focus ((repeat (assumption)))); (focus rfl))
    | exact Pu.addN rfl rfl (by simp only [InR]; omega)
    | exact Pu.gtrI rfl rfl
    | exact Pu.eqlI rfl rfl) rfl ?_
    | refine Sq.finH (n := 31) ok hm (by repeat (first
    | exact Keep.nil
    | apply Keep.drop rfl
    | apply Keep.keep rfl)) ?_
    | refine Ex.condT ok hm rfl (by first
    | rfl
    | exact decide_eq_true (by omega)) ?_
    | refine Ex.condF ok hm rfl (by first
    | rfl
    | exact decide_eq_false (by omega)) ?_))
      refine Sq.call ok Want.none (Op1.call rfl rfl fn52) rfl (FnC.mono (Len64_ok (n := v + 1) (by omega)) ?_)
      rintro x M4 ⟨rfl, rfl⟩
      refine Sq.pu ok hm Want.none (Pu.subN (a := len64 (v + 1)) (b := 1) rfl rfl hb0 (by unfold lowN at hlb; simp only [InR]; omega)) rfl ?_
      rw [lowN_def]
      have hgl : (gamL (lowN v)).length ≤ 200 := by
        have := lowN_self (lowN v)
        rw [gamL_length]; omega
      generalize lowN v = b at hlb hlo hhi hgl ⊢
      (repeat (first
    | refine Ex.seq ok hm ?_
    | refine Ex.region ok hm ?_
    | refine Sq.pu ok hm Want.none (by first
    | exact Pu.move rfl
    | exact Pu.assign rfl
    | exact Pu.convN hT rfl rfl rfl (by simp only [InR]; omega)) rfl ?_
    | refine Sq.finH (n := 10) ok hm (by repeat (first
    | exact Keep.nil
    | apply Keep.drop rfl
    | apply Keep.keep rfl)) ?_))
      refine Sq.call ok Want.none (Op1.call rfl rfl fn51) rfl (FnC.mono (putGamma_ok (v := b) hp hq hW2 (by omega) (by omega)) ?_)
      rintro r M5 ⟨q1, hW1, hF1, hq1, hro1⟩
      (repeat (first
    | refine Ex.region ok hm ?_
    | refine Sq.pu ok hm Want.none (by first
    | exact Pu.move rfl
    | exact Pu.addN rfl rfl (by simp only [InR]; omega)) rfl ?_
    | refine Sq.finH (n := 10) ok hm (by repeat (first
    | exact Keep.nil
    | apply Keep.drop rfl
    | apply Keep.keep rfl)) ?_))
      refine Sq.pu ok hm Want.none (Pu.shlN (a := 1) (b := b) rfl rfl (by show b ≤ 64; omega) (by simp only [InR]; omega)) rfl ?_
      rw [Nat.one_mul]
      refine Sq.pu ok hm Want.none (Pu.subN (a := v + 1) (b := 2 ^ b) rfl rfl hlo (by simp only [InR]; omega)) rfl ?_
      (repeat (refine Sq.pu ok hm Want.none (by exact Pu.move rfl) rfl ?_))
      refine Sq.call ok Want.none (Op1.call rfl rfl fn16) rfl (FnC.mono (putN_ok (v := v + 1 - 2 ^ b) (n := b) hp hro1 hW1 (by omega) (by omega) (by rw [List.length_append]; omega)) ?_)
      rintro r M6 ⟨rfl, hpost⟩
      have hpost := WPost.trans hF1 hq1 hpost
      rw [List.append_assoc] at hpost
      (repeat (first
    | refine Ex.seq ok hm ?_
    | refine Ex.region ok hm ?_
    | refine Sq.pu ok hm Want.none (by exact Pu.assign rfl) rfl ?_
    | refine Sq.finH (n := 7) ok hm (by repeat (first
    | exact Keep.nil
    | apply Keep.drop rfl
    | apply Keep.keep rfl)) ?_
    | refine Ex.ret ok hm ?_))
      exact ⟨_, .tmp rfl .nil, rfl, WPost.pre hF2 hpost⟩
    have k3 : kind = 3 := by omega
    have hK3 := c2 k3
    have e : bitsC kind K v = unaL (lowN v / K) ++ minL (v + 1 - 2 ^ (lowN v / K * K)) (2 ^ ((lowN v / K + 1) * K) - 2 ^ (lowN v / K * K)) := by
      unfold bitsC; rw [if_neg k0, if_neg k1, if_neg k2, if_pos k3]; rfl
    rw [e]
    obtain ⟨z1, z2, z3⟩ := zeta_bd (v := v) hK3 (by omega)
    obtain ⟨z4, z5⟩ := zeta_in (v := v) hK3.1
    have hp1 : 2 ^ ((lowN v / K + 1) * K) ≤ 2 ^ 60 := Nat.pow_le_pow_right (by decide) z2
    (repeat (first
    | refine Ex.seq ok hm ?_
    | refine Ex.block ok hm ?_
    | refine Ex.skip ok hm ?_
    | refine Ex.region ok hm ?_
    | refine Sq.pu ok hm Want.none (by first
    | exact Pu.assign rfl
    | exact Pu.fieldAddr hT rfl rfl rfl rfl rfl
    | (apply Pu.load hT rfl rfl rfl; (focus ((repeat (assumption)))); (focus rfl))
    | exact Pu.gtrI rfl rfl
    | exact Pu.eqlI rfl rfl) rfl ?_
    | refine Sq.finH (n := 31) ok hm (by repeat (first
    | exact Keep.nil
    | apply Keep.drop rfl
    | apply Keep.keep rfl)) ?_
    | refine Ex.condT ok hm rfl (by first
    | rfl
    | exact decide_eq_true (by omega)) ?_
    | refine Ex.condF ok hm rfl (by first
    | rfl
    | exact decide_eq_false (by omega)) ?_))
    refine Ex.quiet ok hm (by kernel_rfl) ?_
    (repeat (refine Hq.pu Want.none (by first
    | exact Pu.move rfl
    | exact Pu.addN rfl rfl (by simp only [InR]; omega)) rfl rfl rfl ?_))
    refine Hq.call ok Want.none (fun ro => Op1.call rfl rfl fn52) rfl rfl (FnC.mono (Len64_ok (n := v + 1) (by omega)) ?_)
    rintro x M4 ⟨rfl, rfl⟩
    refine ⟨rfl, ?_⟩
    refine Hq.pu Want.none (Pu.subN (a := len64 (v + 1)) (b := 1) rfl rfl hb0 (by unfold lowN at hlb; simp only [InR]; omega)) rfl rfl rfl ?_
    rw [lowN_def]
    (repeat (refine Hq.pu Want.none (by first
    | exact Pu.fieldAddr hT rfl rfl rfl rfl rfl
    | (apply Pu.load hT rfl rfl rfl; (focus ((repeat (assumption)))); (focus rfl))
    | exact Pu.convN hT rfl rfl rfl (by simp only [InR]; omega)) rfl rfl rfl ?_))
    refine Hq.pu Want.none (Pu.quoN (a := lowN v) (b := K) rfl rfl (by omega) (by simp only [InR]; omega)) rfl rfl rfl ?_
    generalize lowN v / K = h at z1 z2 z3 z4 z5 hp1 ⊢
    (repeat (first
    | refine Ex.seq ok hm ?_
    | refine Ex.region ok hm ?_
    | refine Sq.pu ok hm Want.none (by first
    | exact Pu.move rfl
    | exact Pu.fieldAddr hT rfl rfl rfl rfl rfl
    | (apply Pu.load hT rfl rfl rfl; (focus ((repeat (assumption)))); (focus rfl))) rfl ?_
    | refine Hq.pu Want.none (by exact Pu.assign rfl) rfl rfl rfl ?_
    | refine Hq.nil ?_))
    refine Sq.call ok Want.none (Op1.call rfl rfl fn53) rfl (FnC.mono (shell_ok (h := h) (K := K) (by omega) ⟨by omega, by omega⟩) ?_)
    rintro x M5 ⟨rfl, rfl⟩
    generalize 2 ^ (h * K) = lo at z4 ⊢
    generalize 2 ^ ((h + 1) * K) = hi at z5 hp1 ⊢
    (repeat (first
    | refine Ex.seq ok hm ?_
    | refine Ex.region ok hm ?_
    | refine Sq.pu ok hm Want.none (by first
    | exact Pu.move rfl
    | exact Pu.assign rfl
    | exact Pu.extract rfl rfl
    | exact Pu.convN hT rfl rfl rfl (by simp only [InR]; omega)) rfl ?_
    | refine Sq.finH (n := 13) ok hm (by repeat (first
    | exact Keep.nil
    | apply Keep.drop rfl
    | apply Keep.keep rfl)) ?_))
    refine Sq.call ok Want.none (Op1.call rfl rfl fn50) rfl (FnC.mono (putUnary_ok (v := h) hp hq hW2 (by omega) (by omega)) ?_)
    rintro r M6 ⟨q1, hW1, hF1, hq1, hro1⟩
    (repeat (first
    | refine Ex.region ok hm ?_
    | refine Sq.pu ok hm Want.none (by first
    | exact Pu.move rfl
    | exact Pu.addN rfl rfl (by simp only [InR]; omega)) rfl ?_
    | refine Sq.finH (n := 13) ok hm (by repeat (first
    | exact Keep.nil
    | apply Keep.drop rfl
    | apply Keep.keep rfl)) ?_))
    refine Sq.pu ok hm Want.none (Pu.subN (a := v + 1) (b := lo) rfl rfl z4 (by simp only [InR]; omega)) rfl ?_
    (repeat (refine Sq.pu ok hm Want.none (by exact Pu.move rfl) rfl ?_))
    refine Sq.call ok Want.none (Op1.call rfl rfl fn54) rfl (FnC.mono (putMinimal_ok (v := v + 1 - lo) (c := hi - lo) hp hro1 hW1 (by omega) (by omega) (by omega) (by simp only [List.length_append, unaL_length]; omega)) ?_)
    rintro r M7 hpost
    have hpost := WPost.trans hF1 hq1 hpost
    rw [List.append_assoc] at hpost
    (repeat (first
    | refine Ex.seq ok hm ?_
    | refine Ex.region ok hm ?_
    | refine Sq.pu ok hm Want.none (by exact Pu.assign rfl) rfl ?_
    | refine Sq.finH (n := 7) ok hm (by repeat (first
    | exact Keep.nil
    | apply Keep.drop rfl
    | apply Keep.keep rfl)) ?_
    | refine Ex.ret ok hm ?_))
    exact ⟨_, .tmp rfl .nil, rfl, WPost.pre hF2 hpost⟩
  · have e : lenE kind K v = (0, 1) := if_neg hc2
    rw [e]
    (repeat (first
    | refine Ex.seq ok hm ?_
    | refine Ex.region ok hm ?_
    | refine Sq.pu ok hm Want.none (by first
    | exact Pu.move rfl
    | exact Pu.assign rfl
    | exact Pu.extract rfl rfl
    | exact Pu.neqI rfl rfl) rfl ?_
    | refine Sq.finH (n := 9) ok hm (by repeat (first
    | exact Keep.nil
    | apply Keep.drop rfl
    | apply Keep.keep rfl)) ?_
    | refine Ex.condT ok hm rfl (by rfl) ?_
    | refine Ex.ret ok hm ?_))
    refine ⟨_, .tmp rfl .nil, rfl, ?_⟩
    rw [if_neg (by decide)]
    exact WPost.pre hF2 (WPost.same hW2 hq)
end Go.Proofs.Ytlhfolmhgghjcaa
/- N -/
namespace Go.Proofs.Ytlhfolmhgghjcaa
open Go.Wvm Bits
set_option linter.unusedVariables false
set_option linter.unusedSimpArgs false

abbrev ptrV (p : Nat) : Value := .pointer (some ⟨p, 0, none⟩)
set_option maxHeartbeats 8000000 in
/-- What is put off: an answer that is not fine is made nothing, and the reader goes back. -/
theorem defer_ok {ro : Nat} {M : AM} {r a a' v p2 p4 p5 p6 : Nat} {e : Int} {s : List UInt8} (hp : ro ≤ p4) (hr : ro ≤ r) (h : RdAt M r s a')
    (b2 : M.get p2 = some (.row [ptrV r] 0 (some (44, 0)))) (b4 : M.get p4 = some (.row [.int .u64 (v : Int)] 0 (some (25, 0)))) (b5 : M.get p5 = some (.row [.int .i64 e] 0 (some (26, 0)))) (b6 : M.get p6 = some (.row [.int .i64 (a : Int)] 0 (some (3, 0))))
    (l4 : p4 < M.next) (l5 : p5 < M.next) (l6 : p6 < M.next) (l2 : p2 < M.next) (n4 : p4 ≠ r) (n42 : p4 ≠ p2) (n46 : p4 ≠ p6) (n45 : p4 ≠ p5) (n5 : p5 ≠ r) (ha : a ≤ 8 * s.length) (hs : s.length ≤ 140737488355328) :
    DefC Try.prog tables ro ⟨.fn (.func 41) ⟨[ptrV p5, ptrV p4, ptrV p2, ptrV p6]⟩, ⟨[]⟩⟩ M (fun M' => M'.get p5 = some (.row [.int .i64 e] 0 (some (26, 0))) ∧ M'.get p4 = some (.row [.int .u64 ((if e = 0 then v else 0 : Nat) : Int)] 0 (some (25, 0))) ∧ RdAt M' r s (if e = 0 then a' else a) ∧ Fr M M' [p4, r]) := by
  refine DefC.intro fn41 rfl rfl ?_
  by_cases he : e = 0
  · rw [if_pos he, if_pos he]
    (repeat (first
    | refine Ex.seq ok hm ?_
    | refine Ex.skip ok hm ?_
    | refine Ex.region ok hm ?_
    | refine Sq.pu ok hm Want.none (by first
    | (apply Pu.load hT rfl rfl rfl; (focus ((repeat (assumption)))); (focus rfl))
    | exact Pu.neqI rfl rfl) rfl ?_
    | refine Sq.finH (n := 4) ok hm (by repeat (first
    | exact Keep.nil
    | apply Keep.drop rfl
    | apply Keep.keep rfl)) ?_
    | refine Ex.condF ok hm rfl (by first
    | rfl
    | (simp; omega)) ?_))
    exact ⟨_, .nil, b5, b4, h, Fr.refl _ _⟩
  · rw [if_neg he, if_neg he]
    (repeat (first
    | refine Ex.seq ok hm ?_
    | refine Ex.region ok hm ?_
    | refine Sq.pu ok hm Want.none (by first
    | (apply Pu.load hT rfl rfl rfl; (focus ((repeat (assumption)))); (focus rfl))
    | exact Pu.neqI rfl rfl) rfl ?_
    | refine Sq.finH (n := 4) ok hm (by repeat (first
    | exact Keep.nil
    | apply Keep.drop rfl
    | apply Keep.keep rfl)) ?_
    | refine Ex.condT ok hm rfl (by first
    | rfl
    | (simp; omega)) ?_))
    refine Sq.act ok hm Want.none (Op1.store hT rfl rfl rfl rfl b4 hp (Nat.le_of_ble_eq_true rfl) (Nat.le_of_ble_eq_true rfl) rfl) ?_
    have h1 : RdAt (M.upd p4 (.row [.int .u64 0] 0 (some (25, 0)))) r s a' := (AM.upd_ne (Ne.symm n4)).trans h
    have c2 : (M.upd p4 (.row [.int .u64 0] 0 (some (25, 0)))).get p2 = some (.row [ptrV r] 0 (some (44, 0))) := (AM.upd_ne (Ne.symm n42)).trans b2
    have c6 : (M.upd p4 (.row [.int .u64 0] 0 (some (25, 0)))).get p6 = some (.row [.int .i64 (a : Int)] 0 (some (3, 0))) := (AM.upd_ne (Ne.symm n46)).trans b6
    have c5 : (M.upd p4 (.row [.int .u64 0] 0 (some (25, 0)))).get p5 = some (.row [.int .i64 e] 0 (some (26, 0))) := (AM.upd_ne (Ne.symm n45)).trans b5
    have c4 : (M.upd p4 (.row [.int .u64 0] 0 (some (25, 0)))).get p4 = some (.row [.int .u64 0] 0 (some (25, 0))) := AM.upd_same
    have hF1 : Fr M (M.upd p4 (.row [.int .u64 0] 0 (some (25, 0)))) [p4, r] := (Fr.refl _ _).upd' _ (.inl (by simp))
    have hn1 : (M.upd p4 (.row [.int .u64 0] 0 (some (25, 0)))).next = M.next := rfl
    show Sq Try.prog tables ro _ _ _ _ (M.upd p4 (.row [.int .u64 0] 0 (some (25, 0)))) _
    generalize M.upd p4 (.row [.int .u64 0] 0 (some (25, 0))) = M1 at *
    (repeat (first
    | refine Ex.region ok hm ?_
    | refine Sq.pu ok hm Want.none (by (apply Pu.load hT rfl rfl rfl; (focus ((repeat (assumption)))); (focus rfl))) rfl ?_
    | refine Sq.finH (n := 4) ok hm (by repeat (first
    | exact Keep.nil
    | apply Keep.keep rfl)) ?_))
    refine Sq.call ok Want.none (Op1.call rfl rfl fn20) rfl (FnC.mono (seek_ok (n := (a : Int)) hr h1 (by simp only [InR]; omega) (by omega)) ?_)
    rintro x M2 ⟨rfl, h2, hF2⟩
    rw [if_pos (by omega)] at h2
    (repeat (refine Sq.finH (n := 4) ok hm (by repeat (first
    | exact Keep.nil
    | apply Keep.drop rfl
    | apply Keep.keep rfl)) ?_))
    exact ⟨_, .nil, (hF2.get p5 (by omega) (by simp; exact n5)).trans c5, (hF2.get p4 (by omega) (by simp; exact n4)).trans c4, h2, hF1.trans hF2 (by simp)⟩
end Go.Proofs.Ytlhfolmhgghjcaa
/- N -/
namespace Go.Proofs.Ytlhfolmhgghjcaa
open Go.Wvm Bits
set_option linter.unusedVariables false
set_option linter.unusedSimpArgs false

theorem DefC.mono {P : Program} {vp : VP} {ro : Nat} {d : Deferred} {M : AM} {R R' : AM → Prop} (h : DefC P vp ro d M R) (k : ∀ M', R M' → R' M') : DefC P vp ro d M R' := by
  obtain ⟨g, cap, fn, c, nt, h1, h2, h3, h4, h5⟩ := h
  refine ⟨g, cap, fn, c, nt, h1, h2, h3, h4, h5.mono ?_⟩
  intro o E1 M1 q
  cases o with
  | exit id => exact q
  | norm => obtain ⟨vs, q1, q2⟩ := q; exact ⟨vs, q1, k _ q2⟩
  | ret => obtain ⟨vs, q1, q2⟩ := q; exact ⟨vs, q1, k _ q2⟩

set_option maxHeartbeats 8000000 in
/-- The end of Read, with what it has put off. -/
theorem fin_ok {ro : Nat} {M0 M : AM} {E : En} {r a a' v kind K p2 p4 p5 p6 : Nat} {e : Int} {s : List UInt8} (hp : ro ≤ p4) (hr : ro ≤ r) (h : RdAt M r s a') (hF : Fr M0 M [r])
    (b2 : M.get p2 = some (.row [ptrV r] 0 (some (44, 0)))) (b4 : M.get p4 = some (.row [.int .u64 (v : Int)] 0 (some (25, 0)))) (b5 : M.get p5 = some (.row [.int .i64 e] 0 (some (26, 0)))) (b6 : M.get p6 = some (.row [.int .i64 (a : Int)] 0 (some (3, 0))))
    (l4 : p4 < M.next) (l5 : p5 < M.next) (l6 : p6 < M.next) (l2 : p2 < M.next) (n4 : p4 ≠ r) (n42 : p4 ≠ p2) (n46 : p4 ≠ p6) (n45 : p4 ≠ p5) (n5 : p5 ≠ r) (n40 : M0.next ≤ p4) (ha : a ≤ 8 * s.length) (hs : s.length ≤ 140737488355328)
    (e4 : enGet E 4 = some (ptrV p4)) (e5 : enGet E 5 = some (ptrV p5)) (hres : readE s kind K a = if e = 0 then (v, 0, a') else (0, e, a)) :
    RetD Try.prog tables ro Try.f25.results.toList (fun x M' => x = .tuple ⟨[.int .u64 ((readE s kind K a).1 : Nat), .int .i64 (readE s kind K a).2.1]⟩ ∧ RdAt M' r s (readE s kind K a).2.2 ∧ Fr M0 M' [r]) .ret
      [⟨.fn (.func 41) ⟨[ptrV p5, ptrV p4, ptrV p2, ptrV p6]⟩, ⟨[]⟩⟩] E M := by
  refine DefC.mono (defer_ok hp hr h b2 b4 b5 b6 l4 l5 l6 l2 n4 n42 n46 n45 n5 ha hs) ?_
  rintro M2 ⟨c5, c4, h2, hF2⟩
  refine ⟨_, .cell e4 (hT 25 _ rfl) c4 rfl (Nat.le_of_ble_eq_true rfl) (.cell e5 (hT 26 _ rfl) c5 rfl (Nat.le_of_ble_eq_true rfl) .nil), ?_, ?_, ?_⟩
  · rw [hres]; by_cases k : e = 0
    · rw [if_pos k, if_pos k, k]; rfl
    · rw [if_neg k, if_neg k]; rfl
  · rw [hres]; by_cases k : e = 0
    · rw [if_pos k] at h2 ⊢; exact h2
    · rw [if_neg k] at h2 ⊢; exact h2
  · refine hF.trans hF2 ?_
    intro x hx
    rcases List.mem_cons.mp hx with rfl | hx
    · exact .inr n40
    · exact .inl hx

theorem hres_ok {s : List UInt8} {kind K a v a' : Nat} {e : Int} {o : Option (Nat × Nat)} (hc : checkE kind K = 0) (hmm : match o with | some w => v = w.1 ∧ e = 0 ∧ a' = w.2 | none => e = 4) (ho : readT s kind K a = o) : readE s kind K a = if e = 0 then (v, 0, a') else (0, e, a) := by
  unfold readE
  rw [if_neg (by intro k; exact k hc), ho]
  cases o with
  | none => obtain rfl : e = 4 := hmm; rfl
  | some w => obtain ⟨rfl, rfl, rfl⟩ : v = w.1 ∧ e = 0 ∧ a' = w.2 := hmm; rfl

set_option maxHeartbeats 8000000 in
theorem Read_ok {ro : Nat} {M : AM} {r a kind K : Nat} {s : List UInt8} (hr : ro ≤ r) (h : RdAt M r s a) (ha : a ≤ 8 * s.length) (hs : s.length ≤ 140737488355328) (hk : kind < 256) (hK : K < 18446744073709551616) :
    FnC Try.prog tables ro 25 [ptrV r, .agg ⟨[.int .u8 (kind : Int), .int .u64 (K : Int)]⟩] M
      (fun x M' => x = .tuple ⟨[.int .u64 ((readE s kind K a).1 : Nat), .int .i64 (readE s kind K a).2.1]⟩ ∧ RdAt M' r s (readE s kind K a).2.2 ∧ Fr M M' [r]) := by
  refine FnC.facts fun hlt hron => ?_
  have hrl := hlt _ _ h
  refine FnC.bodyD (nt := 63) ok hm fn25 rfl rfl ?_
  refine ExD.seq ok hm (ExD.of ?_)
  refine Ex.region ok hm ?_
  refine Sq.op ok hm Want.none (Op1.box rfl rfl) rfl ?_
  refine Sq.op ok hm Want.none (Op1.box rfl rfl) rfl ?_
  refine Sq.op ok hm Want.none (Op1.alloc hT rfl rfl rfl) rfl ?_
  refine Sq.op ok hm Want.none (Op1.alloc hT rfl rfl rfl) rfl ?_
  have n0 : M.next = M.next := rfl
  obtain ⟨M1, hM1⟩ : ∃ M1, M1 = (((M.add (.row [ptrV r] 0 (some (44, 0)))).add (.row [.int .u8 (kind : Int), .int .u64 (K : Int)] 0 (some (58, 0)))).add (.row [.int .u64 0] 0 (some (25, 0)))).add (.row [.int .i64 0] 0 (some (26, 0))) := ⟨_, rfl⟩
  have hF1 : Fr M M1 [r] := by rw [hM1]; exact ((((Fr.refl _ _).add' _).add' _).add' _).add' _
  have hn1 : M1.next = M.next + 4 := by rw [hM1]; rfl
  have b2 : M1.get M.next = some (.row [ptrV r] 0 (some (44, 0))) := by rw [hM1]; exact (AM.add_ne (by simp only [AM.next_add]; omega)).trans ((AM.add_ne (by simp only [AM.next_add]; omega)).trans ((AM.add_ne (by simp only [AM.next_add]; omega)).trans AM.add_same))
  have b3 : M1.get (M.next + 1) = some (.row [.int .u8 (kind : Int), .int .u64 (K : Int)] 0 (some (58, 0))) := by rw [hM1]; exact (AM.add_ne (by simp only [AM.next_add]; omega)).trans ((AM.add_ne (by simp only [AM.next_add]; omega)).trans AM.add_same)
  have b4 : M1.get (M.next + 2) = some (.row [.int .u64 0] 0 (some (25, 0))) := by rw [hM1]; exact (AM.add_ne (by simp only [AM.next_add]; omega)).trans AM.add_same
  have b5 : M1.get (M.next + 3) = some (.row [.int .i64 0] 0 (some (26, 0))) := by rw [hM1]; exact AM.add_same
  have h1 : RdAt M1 r s a := by
    rw [hM1]
    exact (AM.add_ne (by simp only [AM.next_add]; omega)).trans ((AM.add_ne (by simp only [AM.next_add]; omega)).trans ((AM.add_ne (by simp only [AM.next_add]; omega)).trans ((AM.add_ne (by omega)).trans h)))
  refine Sq.finH (n := 7) ok hm (by repeat (first
    | exact Keep.nil
    | apply Keep.keep rfl)) ?_
  show seqD Try.prog tables ro _ _ _ _ _ [(5, ptrV (M.next + 3)), (4, ptrV (M.next + 2)), (3, ptrV (M.next + 1)), (2, ptrV M.next), (0, ptrV r), (1, .agg ⟨[.int .u8 (kind : Int), .int .u64 (K : Int)]⟩)] ((((M.add (.row [ptrV r] 0 (some (44, 0)))).add (.row [.int .u8 (kind : Int), .int .u64 (K : Int)] 0 (some (58, 0)))).add (.row [.int .u64 0] 0 (some (25, 0)))).add (.row [.int .i64 0] 0 (some (26, 0))))
  rw [← hM1]
  refine ExD.seq ok hm (ExD.of ?_)
  (repeat (first
    | refine Ex.seq ok hm ?_
    | refine Ex.skip ok hm ?_
    | refine Ex.region ok hm ?_
    | refine Sq.pu ok hm Want.none (by first
    | (apply Pu.load hT rfl rfl rfl; (focus ((repeat (assumption)))); (focus rfl))
    | exact Pu.eqlP hT rfl rfl rfl) rfl ?_
    | refine Sq.finH (n := 7) ok hm (by repeat (first
    | exact Keep.nil
    | apply Keep.drop rfl
    | apply Keep.keep rfl)) ?_
    | refine Ex.condF ok hm rfl (by rfl) ?_))
  refine ExD.seq ok hm (ExD.of ?_)
  (repeat (first
    | refine Ex.seq ok hm ?_
    | refine Ex.region ok hm ?_))
  refine Sq.pu ok hm Want.none (Pu.loadA hT rfl rfl rfl b3 (Nat.le_refl 2)) rfl ?_
  refine Sq.call ok Want.none (Op1.call rfl rfl fn40) rfl (FnC.mono (Check_ok (kind := kind) (K := K) hk hK) ?_)
  rintro x M2 ⟨rfl, hF2⟩
  have hn2 := hF2.next
  have h2 : RdAt M2 r s a := (hF2.get r (by omega) (by simp)).trans h1
  have c2 := (hF2.get M.next (by omega) (by simp)).trans b2
  have c3 := (hF2.get (M.next + 1) (by omega) (by simp)).trans b3
  have c4 := (hF2.get (M.next + 2) (by omega) (by simp)).trans b4
  have c5 := (hF2.get (M.next + 3) (by omega) (by simp)).trans b5
  have hFF := hF1.trans hF2 (by simp)
  rcases check01 kind K with hc | hc
  · rw [hc]
    (repeat (first
    | refine Ex.skip ok hm ?_
    | refine Sq.pu ok hm Want.none (by exact Pu.neqI rfl rfl) rfl ?_
    | refine Sq.finH (n := 7) ok hm (by repeat (first
    | exact Keep.nil
    | apply Keep.drop rfl
    | apply Keep.keep rfl)) ?_
    | refine Ex.condF ok hm rfl (by rfl) ?_))
    refine ExD.seq ok hm (ExD.of ?_)
    (repeat (first
    | refine Ex.region ok hm ?_
    | refine Sq.pu ok hm Want.none (by (apply Pu.load hT rfl rfl rfl; (focus ((repeat (assumption)))); (focus rfl))) rfl ?_))
    refine Sq.call ok Want.none (Op1.call rfl rfl fn22) rfl (FnC.mono (at_ok h2) ?_)
    rintro x M3 ⟨rfl, rfl⟩
    refine Sq.op ok hm Want.none (Op1.alloc hT rfl rfl rfl) rfl ?_
    refine Sq.act ok hm Want.none (Op1.store hT rfl rfl rfl rfl AM.add_same (by omega) (Nat.le_of_ble_eq_true rfl) (Nat.le_of_ble_eq_true rfl) rfl) ?_
    show Sq Try.prog tables ro _ _ _ _ ((M3.add (.row [.int .i64 0] 0 (some (3, 0)))).upd M3.next (.row [.int .i64 (a : Int)] 0 (some (3, 0)))) _
    have d6 : ((M3.add (.row [.int .i64 0] 0 (some (3, 0)))).upd M3.next (.row [.int .i64 (a : Int)] 0 (some (3, 0)))).get M3.next = some (.row [.int .i64 (a : Int)] 0 (some (3, 0))) := AM.upd_same
    have hF4 : Fr M3 ((M3.add (.row [.int .i64 0] 0 (some (3, 0)))).upd M3.next (.row [.int .i64 (a : Int)] 0 (some (3, 0)))) [] := (Fr.add _ _ _).upd' _ (.inr (Nat.le_refl _))
    have hn4 : ((M3.add (.row [.int .i64 0] 0 (some (3, 0)))).upd M3.next (.row [.int .i64 (a : Int)] 0 (some (3, 0)))).next = M3.next + 1 := rfl
    generalize ((M3.add (.row [.int .i64 0] 0 (some (3, 0)))).upd M3.next (.row [.int .i64 (a : Int)] 0 (some (3, 0)))) = M4 at d6 hF4 hn4 ⊢
    have h4 : RdAt M4 r s a := (hF4.get r (by omega) (by simp)).trans h2
    have d2 := (hF4.get M.next (by omega) (by simp)).trans c2
    have d3 := (hF4.get (M.next + 1) (by omega) (by simp)).trans c3
    have d4 := (hF4.get (M.next + 2) (by omega) (by simp)).trans c4
    have d5 := (hF4.get (M.next + 3) (by omega) (by simp)).trans c5
    have hFG := hFF.trans hF4 (by simp)
    (repeat (refine Sq.finH (n := 7) ok hm (by repeat (first
    | exact Keep.nil
    | apply Keep.drop rfl
    | apply Keep.keep rfl)) ?_))
    refine ExD.seq ok hm (ExD.region ok hm ?_)
    refine SqD.pu ok hm Want.none (Pu.makeFunc rfl rfl) rfl ?_
    refine SqD.defer ok hm rfl rfl ?_
    (repeat (refine Sq.finH (n := 7) ok hm (by repeat (first
    | exact Keep.nil
    | apply Keep.keep rfl)) ?_))
    refine ExD.of (vp := tables) ?_
    obtain ⟨z1, z2, z3⟩ := check0 hc
    by_cases k0 : kind = 0
    · have hT0 : readT s kind K a = unaT s 65536 0 a := by unfold readT; rw [if_pos k0]
      (repeat (first
    | refine Ex.seq ok hm ?_
    | refine Ex.block ok hm ?_
    | refine Ex.region ok hm ?_
    | refine Sq.pu ok hm Want.none (by first
    | exact Pu.assign rfl
    | exact Pu.fieldAddr hT rfl rfl rfl rfl rfl
    | (apply Pu.load hT rfl rfl rfl; (focus ((repeat (assumption)))); (focus rfl))
    | exact Pu.eqlI rfl rfl) rfl ?_
    | refine Sq.finH (n := 7) ok hm (by repeat (first
    | exact Keep.nil
    | apply Keep.drop rfl
    | apply Keep.keep rfl)) ?_
    | refine Ex.condT ok hm rfl (by first
    | rfl
    | exact decide_eq_true (by omega)) ?_))
      refine Sq.call ok Want.none (Op1.call rfl rfl fn42) rfl (FnC.mono (readUnary_ok (most := 65535) hr h4 ha hs (by decide)) ?_)
      rintro x M5 ⟨v, e, a5, rfl, h5, ha5, hF5, hv, hmm⟩
      have hn5 := hF5.next
      have q2 := (hF5.get M.next (by omega) (by simp; omega)).trans d2
      have q3 := (hF5.get (M.next + 1) (by omega) (by simp; omega)).trans d3
      have q4 := (hF5.get (M.next + 2) (by omega) (by simp; omega)).trans d4
      have q5 := (hF5.get (M.next + 3) (by omega) (by simp; omega)).trans d5
      have q6 := (hF5.get M3.next (by omega) (by simp; omega)).trans d6
      (repeat (refine Sq.pu ok hm Want.none (by exact Pu.extract rfl rfl) rfl ?_))
      refine Sq.act ok hm Want.none (Op1.store hT rfl rfl rfl rfl q4 (by omega) (Nat.le_of_ble_eq_true rfl) (Nat.le_of_ble_eq_true rfl) rfl) ?_
      refine Sq.act ok hm Want.none (Op1.store hT rfl rfl rfl rfl ((AM.upd_ne (by omega)).trans q5) (by omega) (Nat.le_of_ble_eq_true rfl) (Nat.le_of_ble_eq_true rfl) rfl) ?_
      (repeat (first
    | refine Sq.finH (n := 7) ok hm (by repeat (first
    | exact Keep.nil
    | apply Keep.drop rfl
    | apply Keep.keep rfl)) ?_
    | refine Ex.ret ok hm ?_))
      refine fin_ok (p2 := M.next) (p4 := M.next + 2) (p5 := M.next + 3) (p6 := M3.next) (by omega) hr ((AM.upd_ne (by omega)).trans ((AM.upd_ne (by omega)).trans h5)) (((hFG.trans hF5 (by simp)).upd' _ (.inr (by omega))).upd' _ (.inr (by omega))) ((AM.upd_ne (by omega)).trans ((AM.upd_ne (by omega)).trans q2)) ((AM.upd_ne (by omega)).trans AM.upd_same) AM.upd_same ((AM.upd_ne (by omega)).trans ((AM.upd_ne (by omega)).trans q6)) (by simp only [AM.next_upd]; omega) (by simp only [AM.next_upd]; omega) (by simp only [AM.next_upd]; omega) (by simp only [AM.next_upd]; omega) (by omega) (by omega) (by omega) (by omega) (by omega) (by omega) ha hs rfl rfl (hres_ok hc hmm hT0)
    by_cases k1 : kind = 1
    · have hT0 : readT s kind K a = gammaT s a := by unfold readT; rw [if_neg k0]; rw [if_pos k1]
      (repeat (first
    | refine Ex.seq ok hm ?_
    | refine Ex.block ok hm ?_
    | refine Ex.region ok hm ?_
    | refine Sq.pu ok hm Want.none (by first
    | exact Pu.assign rfl
    | exact Pu.fieldAddr hT rfl rfl rfl rfl rfl
    | (apply Pu.load hT rfl rfl rfl; (focus ((repeat (assumption)))); (focus rfl))
    | exact Pu.eqlI rfl rfl) rfl ?_
    | refine Sq.finH (n := 40) ok hm (by repeat (first
    | exact Keep.nil
    | apply Keep.keep rfl)) ?_
    | refine Ex.condT ok hm rfl (by first
    | rfl
    | exact decide_eq_true (by omega)) ?_
    | refine Ex.condF ok hm rfl (by first
    | rfl
    | exact decide_eq_false (by omega)) ?_))
      refine Sq.call ok Want.none (Op1.call rfl rfl fn43) rfl (FnC.mono (readGamma_ok hr h4 ha hs) ?_)
      rintro x M5 ⟨v, e, a5, rfl, h5, ha5, hF5, hv, hmm⟩
      have hn5 := hF5.next
      have q2 := (hF5.get M.next (by omega) (by simp; omega)).trans d2
      have q3 := (hF5.get (M.next + 1) (by omega) (by simp; omega)).trans d3
      have q4 := (hF5.get (M.next + 2) (by omega) (by simp; omega)).trans d4
      have q5 := (hF5.get (M.next + 3) (by omega) (by simp; omega)).trans d5
      have q6 := (hF5.get M3.next (by omega) (by simp; omega)).trans d6
      (repeat (refine Sq.pu ok hm Want.none (by exact Pu.extract rfl rfl) rfl ?_))
      refine Sq.act ok hm Want.none (Op1.store hT rfl rfl rfl rfl q4 (by omega) (Nat.le_of_ble_eq_true rfl) (Nat.le_of_ble_eq_true rfl) rfl) ?_
      refine Sq.act ok hm Want.none (Op1.store hT rfl rfl rfl rfl ((AM.upd_ne (by omega)).trans q5) (by omega) (Nat.le_of_ble_eq_true rfl) (Nat.le_of_ble_eq_true rfl) rfl) ?_
      (repeat (first
    | refine Sq.finH (n := 40) ok hm (by repeat (first
    | exact Keep.nil
    | apply Keep.keep rfl)) ?_
    | refine Ex.ret ok hm ?_))
      refine fin_ok (p2 := M.next) (p4 := M.next + 2) (p5 := M.next + 3) (p6 := M3.next) (by omega) hr ((AM.upd_ne (by omega)).trans ((AM.upd_ne (by omega)).trans h5)) (((hFG.trans hF5 (by simp)).upd' _ (.inr (by omega))).upd' _ (.inr (by omega))) ((AM.upd_ne (by omega)).trans ((AM.upd_ne (by omega)).trans q2)) ((AM.upd_ne (by omega)).trans AM.upd_same) AM.upd_same ((AM.upd_ne (by omega)).trans ((AM.upd_ne (by omega)).trans q6)) (by simp only [AM.next_upd]; omega) (by simp only [AM.next_upd]; omega) (by simp only [AM.next_upd]; omega) (by simp only [AM.next_upd]; omega) (by omega) (by omega) (by omega) (by omega) (by omega) (by omega) ha hs rfl rfl (hres_ok hc hmm hT0)
    by_cases k2 : kind = 2
    · have hT0 : readT s kind K a = deltaT s a := by unfold readT; rw [if_neg k0]; rw [if_neg k1]; rw [if_pos k2]
      have hd : deltaT s a = (gammaT s a).bind fun x => if 47 < x.1 then none else restT s x.1 x.2 := rfl
      (repeat (first
    | refine Ex.seq ok hm ?_
    | refine Ex.block ok hm ?_
    | refine Ex.region ok hm ?_
    | refine Sq.pu ok hm Want.none (by first
    | exact Pu.assign rfl
    | exact Pu.fieldAddr hT rfl rfl rfl rfl rfl
    | (apply Pu.load hT rfl rfl rfl; (focus ((repeat (assumption)))); (focus rfl))
    | exact Pu.eqlI rfl rfl) rfl ?_
    | refine Sq.finH (n := 40) ok hm (by repeat (first
    | exact Keep.nil
    | apply Keep.keep rfl)) ?_
    | refine Ex.condT ok hm rfl (by first
    | rfl
    | exact decide_eq_true (by omega)) ?_
    | refine Ex.condF ok hm rfl (by first
    | rfl
    | exact decide_eq_false (by omega)) ?_))
      refine Sq.call ok Want.none (Op1.call rfl rfl fn43) rfl (FnC.mono (readGamma_ok hr h4 ha hs) ?_)
      rintro x M5 ⟨v, e, a5, rfl, h5, ha5, hF5, hv, hmm⟩
      have hn5 := hF5.next
      have q2 := (hF5.get M.next (by omega) (by simp; omega)).trans d2
      have q3 := (hF5.get (M.next + 1) (by omega) (by simp; omega)).trans d3
      have q4 := (hF5.get (M.next + 2) (by omega) (by simp; omega)).trans d4
      have q5 := (hF5.get (M.next + 3) (by omega) (by simp; omega)).trans d5
      have q6 := (hF5.get M3.next (by omega) (by simp; omega)).trans d6
      cases ho : gammaT s a with
      | none =>
        rw [ho] at hmm
        obtain rfl : e = 4 := hmm
        have hT1 : readT s kind K a = none := by rw [hT0, hd, ho]; rfl
        have hT0 := hT1
        (repeat (first
    | refine Ex.seq ok hm ?_
    | refine Ex.region ok hm ?_
    | refine Sq.pu ok hm Want.none (by first
    | exact Pu.move rfl
    | exact Pu.assign rfl
    | exact Pu.extract rfl rfl
    | exact Pu.neqI rfl rfl
    | exact Pu.pickT rfl (by rfl) rfl) rfl ?_
    | refine Sq.skip ok hm (by exact Want.no rfl rfl rfl (by rfl)) rfl ?_
    | refine Sq.finH (n := 40) ok hm (by repeat (first
    | exact Keep.nil
    | apply Keep.drop rfl
    | apply Keep.keep rfl)) ?_
    | refine Ex.condT ok hm rfl (by rfl) ?_))
        refine Sq.act ok hm Want.none (Op1.store hT rfl rfl rfl rfl q4 (by omega) (Nat.le_of_ble_eq_true rfl) (Nat.le_of_ble_eq_true rfl) rfl) ?_
        refine Sq.act ok hm Want.none (Op1.store hT rfl rfl rfl rfl ((AM.upd_ne (by omega)).trans q5) (by omega) (Nat.le_of_ble_eq_true rfl) (Nat.le_of_ble_eq_true rfl) rfl) ?_
        (repeat (first
    | refine Sq.finH (n := 40) ok hm (by repeat (first
    | exact Keep.nil
    | apply Keep.keep rfl)) ?_
    | refine Ex.ret ok hm ?_))
        refine fin_ok (p2 := M.next) (p4 := M.next + 2) (p5 := M.next + 3) (p6 := M3.next) (by omega) hr ((AM.upd_ne (by omega)).trans ((AM.upd_ne (by omega)).trans h5)) (((hFG.trans hF5 (by simp)).upd' _ (.inr (by omega))).upd' _ (.inr (by omega))) ((AM.upd_ne (by omega)).trans ((AM.upd_ne (by omega)).trans q2)) ((AM.upd_ne (by omega)).trans AM.upd_same) AM.upd_same ((AM.upd_ne (by omega)).trans ((AM.upd_ne (by omega)).trans q6)) (by simp only [AM.next_upd]; omega) (by simp only [AM.next_upd]; omega) (by simp only [AM.next_upd]; omega) (by simp only [AM.next_upd]; omega) (by omega) (by omega) (by omega) (by omega) (by omega) (by omega) ha hs rfl rfl (hres_ok (v := 0) (e := 4) (o := none) hc rfl hT0)
      | some w =>
        rw [ho] at hmm
        obtain ⟨rfl, rfl, rfl⟩ : v = w.1 ∧ e = 0 ∧ a5 = w.2 := hmm
        by_cases hbig : 47 < w.1
        · have hT1 : readT s kind K a = none := by rw [hT0, hd, ho]; show (if 47 < w.1 then none else restT s w.1 w.2) = none; rw [if_pos hbig]
          have hT0 := hT1
          (repeat (first
    | refine Ex.seq ok hm ?_
    | refine Ex.region ok hm ?_
    | refine Sq.pu ok hm Want.none (by first
    | exact Pu.move rfl
    | exact Pu.assign rfl
    | exact Pu.extract rfl rfl
    | exact Pu.gtrI rfl rfl
    | exact Pu.neqI rfl rfl
    | exact Pu.pickF rfl (by rfl) rfl) rfl ?_
    | refine Sq.pu ok hm (by exact Want.yes rfl rfl rfl (by rfl)) (by first
    | exact Pu.move rfl
    | exact Pu.gtrI rfl rfl) rfl ?_
    | refine Sq.finH (n := 40) ok hm (by repeat (first
    | exact Keep.nil
    | apply Keep.drop rfl
    | apply Keep.keep rfl)) ?_
    | refine Ex.condT ok hm rfl (by first
    | rfl
    | exact decide_eq_true (by omega)) ?_))
          refine Sq.act ok hm Want.none (Op1.store hT rfl rfl rfl rfl q4 (by omega) (Nat.le_of_ble_eq_true rfl) (Nat.le_of_ble_eq_true rfl) rfl) ?_
          refine Sq.act ok hm Want.none (Op1.store hT rfl rfl rfl rfl ((AM.upd_ne (by omega)).trans q5) (by omega) (Nat.le_of_ble_eq_true rfl) (Nat.le_of_ble_eq_true rfl) rfl) ?_
          (repeat (first
    | refine Sq.finH (n := 40) ok hm (by repeat (first
    | exact Keep.nil
    | apply Keep.keep rfl)) ?_
    | refine Ex.ret ok hm ?_))
          refine fin_ok (p2 := M.next) (p4 := M.next + 2) (p5 := M.next + 3) (p6 := M3.next) (by omega) hr ((AM.upd_ne (by omega)).trans ((AM.upd_ne (by omega)).trans h5)) (((hFG.trans hF5 (by simp)).upd' _ (.inr (by omega))).upd' _ (.inr (by omega))) ((AM.upd_ne (by omega)).trans ((AM.upd_ne (by omega)).trans q2)) ((AM.upd_ne (by omega)).trans AM.upd_same) AM.upd_same ((AM.upd_ne (by omega)).trans ((AM.upd_ne (by omega)).trans q6)) (by simp only [AM.next_upd]; omega) (by simp only [AM.next_upd]; omega) (by simp only [AM.next_upd]; omega) (by simp only [AM.next_upd]; omega) (by omega) (by omega) (by omega) (by omega) (by omega) (by omega) ha hs rfl rfl (hres_ok (v := 0) (e := 4) (o := none) hc rfl hT0)
        · have hT1 : readT s kind K a = restT s w.1 w.2 := by rw [hT0, hd, ho]; show (if 47 < w.1 then none else restT s w.1 w.2) = _; rw [if_neg hbig]
          have hT0 := hT1
          (repeat (first
    | refine Ex.seq ok hm ?_
    | refine Ex.skip ok hm ?_
    | refine Ex.region ok hm ?_
    | refine Sq.pu ok hm Want.none (by first
    | exact Pu.move rfl
    | exact Pu.assign rfl
    | (apply Pu.load hT rfl rfl rfl; (focus ((repeat (assumption)))); (focus rfl))
    | exact Pu.extract rfl rfl
    | exact Pu.gtrI rfl rfl
    | exact Pu.neqI rfl rfl
    | exact Pu.pickF rfl (by rfl) rfl) rfl ?_
    | refine Sq.pu ok hm (by first
    | exact Want.none
    | exact Want.yes rfl rfl rfl (by rfl)) (by first
    | exact Pu.move rfl
    | exact Pu.gtrI rfl rfl) rfl ?_
    | refine Sq.finH (n := 40) ok hm (by repeat (first
    | exact Keep.nil
    | apply Keep.drop rfl
    | apply Keep.keep rfl)) ?_
    | refine Ex.condF ok hm rfl (by first
    | rfl
    | exact decide_eq_false (by omega)) ?_))
          refine Sq.call ok Want.none (Op1.call rfl rfl fn44) rfl (FnC.mono (readRest_ok hr h5 ha5 hs (by omega)) ?_)
          rintro x M6 ⟨v6, e6, a6, rfl, h6, ha6, hF6, hv6, hmm6⟩
          have hn6 := hF6.next
          have y2 := (hF6.get M.next (by omega) (by simp; omega)).trans q2
          have y3 := (hF6.get (M.next + 1) (by omega) (by simp; omega)).trans q3
          have y4 := (hF6.get (M.next + 2) (by omega) (by simp; omega)).trans q4
          have y5 := (hF6.get (M.next + 3) (by omega) (by simp; omega)).trans q5
          have y6 := (hF6.get M3.next (by omega) (by simp; omega)).trans q6
          (repeat (refine Sq.pu ok hm Want.none (by exact Pu.extract rfl rfl) rfl ?_))
          refine Sq.act ok hm Want.none (Op1.store hT rfl rfl rfl rfl y4 (by omega) (Nat.le_of_ble_eq_true rfl) (Nat.le_of_ble_eq_true rfl) rfl) ?_
          refine Sq.act ok hm Want.none (Op1.store hT rfl rfl rfl rfl ((AM.upd_ne (by omega)).trans y5) (by omega) (Nat.le_of_ble_eq_true rfl) (Nat.le_of_ble_eq_true rfl) rfl) ?_
          (repeat (first
    | refine Sq.finH (n := 40) ok hm (by repeat (first
    | exact Keep.nil
    | apply Keep.drop rfl
    | apply Keep.keep rfl)) ?_
    | refine Ex.ret ok hm ?_))
          refine fin_ok (p2 := M.next) (p4 := M.next + 2) (p5 := M.next + 3) (p6 := M3.next) (by omega) hr ((AM.upd_ne (by omega)).trans ((AM.upd_ne (by omega)).trans h6)) (((((hFG.trans hF5 (by simp))).trans hF6 (by simp)).upd' _ (.inr (by omega))).upd' _ (.inr (by omega))) ((AM.upd_ne (by omega)).trans ((AM.upd_ne (by omega)).trans y2)) ((AM.upd_ne (by omega)).trans AM.upd_same) AM.upd_same ((AM.upd_ne (by omega)).trans ((AM.upd_ne (by omega)).trans y6)) (by simp only [AM.next_upd]; omega) (by simp only [AM.next_upd]; omega) (by simp only [AM.next_upd]; omega) (by simp only [AM.next_upd]; omega) (by omega) (by omega) (by omega) (by omega) (by omega) (by omega) ha hs rfl rfl (hres_ok hc hmm6 hT0)
    by_cases k3 : kind = 3
    · have hT0 : readT s kind K a = zetaT s K a := by unfold readT; rw [if_neg k0]; rw [if_neg k1]; rw [if_neg k2]; rw [if_pos k3]
      (repeat (first
    | refine Ex.seq ok hm ?_
    | refine Ex.block ok hm ?_
    | refine Ex.region ok hm ?_
    | refine Sq.pu ok hm Want.none (by first
    | exact Pu.assign rfl
    | exact Pu.fieldAddr hT rfl rfl rfl rfl rfl
    | (apply Pu.load hT rfl rfl rfl; (focus ((repeat (assumption)))); (focus rfl))
    | exact Pu.eqlI rfl rfl) rfl ?_
    | refine Sq.finH (n := 40) ok hm (by repeat (first
    | exact Keep.nil
    | apply Keep.drop rfl
    | apply Keep.keep rfl)) ?_
    | refine Ex.condT ok hm rfl (by first
    | rfl
    | exact decide_eq_true (by omega)) ?_
    | refine Ex.condF ok hm rfl (by first
    | rfl
    | exact decide_eq_false (by omega)) ?_))
      refine Sq.call ok Want.none (Op1.call rfl rfl fn45) rfl (FnC.mono (readZeta_ok hr h4 ha hs (z2 k3)) ?_)
      rintro x M5 ⟨v, e, a5, rfl, h5, ha5, hF5, hv, hmm⟩
      have hn5 := hF5.next
      have q2 := (hF5.get M.next (by omega) (by simp; omega)).trans d2
      have q3 := (hF5.get (M.next + 1) (by omega) (by simp; omega)).trans d3
      have q4 := (hF5.get (M.next + 2) (by omega) (by simp; omega)).trans d4
      have q5 := (hF5.get (M.next + 3) (by omega) (by simp; omega)).trans d5
      have q6 := (hF5.get M3.next (by omega) (by simp; omega)).trans d6
      (repeat (refine Sq.pu ok hm Want.none (by exact Pu.extract rfl rfl) rfl ?_))
      refine Sq.act ok hm Want.none (Op1.store hT rfl rfl rfl rfl q4 (by omega) (Nat.le_of_ble_eq_true rfl) (Nat.le_of_ble_eq_true rfl) rfl) ?_
      refine Sq.act ok hm Want.none (Op1.store hT rfl rfl rfl rfl ((AM.upd_ne (by omega)).trans q5) (by omega) (Nat.le_of_ble_eq_true rfl) (Nat.le_of_ble_eq_true rfl) rfl) ?_
      (repeat (first
    | refine Sq.finH (n := 40) ok hm (by repeat (first
    | exact Keep.nil
    | apply Keep.drop rfl
    | apply Keep.keep rfl)) ?_
    | refine Ex.ret ok hm ?_))
      refine fin_ok (p2 := M.next) (p4 := M.next + 2) (p5 := M.next + 3) (p6 := M3.next) (by omega) hr ((AM.upd_ne (by omega)).trans ((AM.upd_ne (by omega)).trans h5)) (((hFG.trans hF5 (by simp)).upd' _ (.inr (by omega))).upd' _ (.inr (by omega))) ((AM.upd_ne (by omega)).trans ((AM.upd_ne (by omega)).trans q2)) ((AM.upd_ne (by omega)).trans AM.upd_same) AM.upd_same ((AM.upd_ne (by omega)).trans ((AM.upd_ne (by omega)).trans q6)) (by simp only [AM.next_upd]; omega) (by simp only [AM.next_upd]; omega) (by simp only [AM.next_upd]; omega) (by simp only [AM.next_upd]; omega) (by omega) (by omega) (by omega) (by omega) (by omega) (by omega) ha hs rfl rfl (hres_ok hc hmm hT0)
    have k4 : kind = 4 := by omega
    have hT0 : readT s kind K a = minT s K a := by unfold readT; rw [if_neg k0]; rw [if_neg k1]; rw [if_neg k2]; rw [if_neg k3]
    (repeat (first
    | refine Ex.seq ok hm ?_
    | refine Ex.block ok hm ?_
    | refine Ex.skip ok hm ?_
    | refine Ex.region ok hm ?_
    | refine Sq.pu ok hm Want.none (by first
    | exact Pu.assign rfl
    | exact Pu.fieldAddr hT rfl rfl rfl rfl rfl
    | (apply Pu.load hT rfl rfl rfl; (focus ((repeat (assumption)))); (focus rfl))
    | exact Pu.eqlI rfl rfl) rfl ?_
    | refine Sq.finH (n := 40) ok hm (by repeat (first
    | exact Keep.nil
    | apply Keep.drop rfl
    | apply Keep.keep rfl)) ?_
    | refine Ex.condF ok hm rfl (by first
    | rfl
    | exact decide_eq_false (by omega)) ?_))
    refine Sq.call ok Want.none (Op1.call rfl rfl fn46) rfl (FnC.mono (readMinimal_ok hr h4 ha hs (z3 k4).1 (by have := (z3 k4).2; omega)) ?_)
    rintro x M5 ⟨v, e, a5, rfl, h5, ha5, hF5, hv, hmm⟩
    have hn5 := hF5.next
    have q2 := (hF5.get M.next (by omega) (by simp; omega)).trans d2
    have q3 := (hF5.get (M.next + 1) (by omega) (by simp; omega)).trans d3
    have q4 := (hF5.get (M.next + 2) (by omega) (by simp; omega)).trans d4
    have q5 := (hF5.get (M.next + 3) (by omega) (by simp; omega)).trans d5
    have q6 := (hF5.get M3.next (by omega) (by simp; omega)).trans d6
    (repeat (refine Sq.pu ok hm Want.none (by exact Pu.extract rfl rfl) rfl ?_))
    refine Sq.act ok hm Want.none (Op1.store hT rfl rfl rfl rfl q4 (by omega) (Nat.le_of_ble_eq_true rfl) (Nat.le_of_ble_eq_true rfl) rfl) ?_
    refine Sq.act ok hm Want.none (Op1.store hT rfl rfl rfl rfl ((AM.upd_ne (by omega)).trans q5) (by omega) (Nat.le_of_ble_eq_true rfl) (Nat.le_of_ble_eq_true rfl) rfl) ?_
    (repeat (first
    | refine Sq.finH (n := 40) ok hm (by repeat (first
    | exact Keep.nil
    | apply Keep.drop rfl
    | apply Keep.keep rfl)) ?_
    | refine Ex.ret ok hm ?_))
    refine fin_ok (p2 := M.next) (p4 := M.next + 2) (p5 := M.next + 3) (p6 := M3.next) (by omega) hr ((AM.upd_ne (by omega)).trans ((AM.upd_ne (by omega)).trans h5)) (((hFG.trans hF5 (by simp)).upd' _ (.inr (by omega))).upd' _ (.inr (by omega))) ((AM.upd_ne (by omega)).trans ((AM.upd_ne (by omega)).trans q2)) ((AM.upd_ne (by omega)).trans AM.upd_same) AM.upd_same ((AM.upd_ne (by omega)).trans ((AM.upd_ne (by omega)).trans q6)) (by simp only [AM.next_upd]; omega) (by simp only [AM.next_upd]; omega) (by simp only [AM.next_upd]; omega) (by simp only [AM.next_upd]; omega) (by omega) (by omega) (by omega) (by omega) (by omega) (by omega) ha hs rfl rfl (hres_ok hc hmm hT0)
  · rw [hc]
    have e : readE s kind K a = (0, 1, a) := by unfold readE; rw [if_pos (by rw [hc]; decide)]
    rw [e]
    (repeat (first
    | refine Ex.seq ok hm ?_
    | refine Ex.region ok hm ?_
    | refine Sq.pu ok hm Want.none (by exact Pu.neqI rfl rfl) rfl ?_
    | refine Sq.finH (n := 7) ok hm (by repeat (first
    | exact Keep.nil
    | apply Keep.drop rfl
    | apply Keep.keep rfl)) ?_
    | refine Ex.condT ok hm rfl (by rfl) ?_))
    refine Sq.act ok hm Want.none (Op1.store hT rfl rfl rfl rfl c4 (by omega) (Nat.le_of_ble_eq_true rfl) (Nat.le_of_ble_eq_true rfl) rfl) ?_
    refine Sq.act ok hm Want.none (Op1.store hT rfl rfl rfl rfl ((AM.upd_ne (by omega)).trans c5) (by omega) (Nat.le_of_ble_eq_true rfl) (Nat.le_of_ble_eq_true rfl) rfl) ?_
    (repeat (first
    | refine Sq.finH (n := 7) ok hm (by repeat (first
    | exact Keep.nil
    | apply Keep.keep rfl)) ?_
    | refine Ex.ret ok hm ?_))
    refine ⟨_, .cell rfl (hT 25 _ rfl) ((AM.upd_ne (by omega)).trans AM.upd_same) rfl (Nat.le_of_ble_eq_true rfl) (.cell rfl (hT 26 _ rfl) AM.upd_same rfl (Nat.le_of_ble_eq_true rfl) .nil), rfl, ?_, ?_⟩
    · exact (AM.upd_ne (by omega)).trans ((AM.upd_ne (by omega)).trans h2)
    · exact (hFF.upd' _ (.inr (by omega))).upd' _ (.inr (by omega))
end Go.Proofs.Ytlhfolmhgghjcaa
/- N -/
namespace Go.Proofs.Ytlhfolmhgghjcaa
open Go.Wvm Bits
set_option linter.unusedVariables false
set_option linter.unusedSimpArgs false

theorem sq_facts {ro : Nat} {F : FX} {all os : List Oper} {E : En} {M : AM} {Q : En → AM → Prop} (h : (∀ b a, M.get b = some a → b < M.next) → ro ≤ M.next → Sq Try.prog tables ro F all os E M Q) : Sq Try.prog tables ro F all os E M Q :=
  fun i hi tm w hE hM => h (fun b a k => hM.bound k) (by rw [← hM.next]; exact hM.ron) i hi tm w hE hM
structure CodeV where
  kind : Nat
  K : Nat
def CodeV.cells (x : CodeV) : List Value := [.int .u8 (x.kind : Int), .int .u64 (x.K : Int)]
def rowC (l : List CodeV) : List Value := l.flatMap CodeV.cells
theorem rowC_length (l : List CodeV) : (rowC l).length = 2 * l.length := by
  induction l with
  | nil => rfl
  | cons x l ih => simp only [rowC, List.flatMap_cons, List.length_append, List.length_cons] at ih ⊢; rw [ih]; simp [CodeV.cells]; omega
theorem rowC_get (l : List CodeV) : ∀ (i : Nat) (h : i < l.length), ((rowC l).drop (i * 2)).take 2 = (l[i]'h).cells := by
  induction l with
  | nil => intro i h; simp at h
  | cons x l ih =>
    intro i h
    have e : rowC (x :: l) = .int .u8 (x.kind : Int) :: .int .u64 (x.K : Int) :: rowC l := by simp [rowC, CodeV.cells]
    cases i with
    | zero => rw [e]; rfl
    | succ i =>
      have := ih i (by simpa using h)
      rw [e, show (i + 1) * 2 = i * 2 + 2 by omega]
      simpa using this
theorem awake2_ok {ro : Nat} {M : AM} : FnC Try.prog tables ro 28 [] M (fun v M' => v = .bool true ∧ M' = M) :=
  FnC.closed ok hm (fuel := 100000) (by kernel_rfl)
theorem RdAt.keep {M M' : AM} {r at' : Nat} {s : List UInt8} {S : List Nat} (h : RdAt M r s at') (f : Fr M M' S) (hr : r < M.next) (hn : r ∉ S) : RdAt M' r s at' := (f.get r hr hn).trans h
theorem same_bits {s : List UInt8} {a j : Nat} {L : List Bool} (h : Ats s a L) (hj : j < L.length) : midT (txt L) j 1 = midT s (a + j) 1 := by
  have h1 := midT_txt L j 1 (by omega)
  have h2 := midT_add s a j (L.length - j)
  rw [show j + (L.length - j) = L.length by omega, h.2] at h2
  have h3 : (midT s a j).length = j := midT_length _ _ _ (by have := h.1; omega)
  have h4 : L.drop j = midT s (a + j) (L.length - j) := by
    conv => lhs; rw [h2]
    rw [List.drop_append, h3, Nat.sub_self, List.drop_zero, List.drop_eq_nil_of_le (by omega), List.nil_append]
  rw [h1, h4]
  unfold midT
  rw [List.take_take, show min 1 (L.length - j) = 1 by omega]
theorem readE_cases {s : List UInt8} {kind K a : Nat} (ha : a ≤ 8 * s.length) :
    (∃ e : Int, (e = 1 ∨ e = 4) ∧ readE s kind K a = (0, e, a)) ∨ (∃ v : Nat, checkE kind K = 0 ∧ v ≤ mostE kind K ∧ Ats s a (bitsC kind K v) ∧ readE s kind K a = (v, 0, a + (bitsC kind K v).length)) := by
  unfold readE
  rcases check01 kind K with hc | hc
  · rw [if_neg (by rw [hc]; decide)]
    cases h : readT s kind K a with
    | none => exact .inl ⟨4, .inr rfl, rfl⟩
    | some w =>
      obtain ⟨h1, h2, h3⟩ := readT_fwd hc ha h
      refine .inr ⟨w.1, hc, h1, h3, ?_⟩
      simp only
      rw [← h2]
  · rw [if_pos (by rw [hc]; decide)]
    exact .inl ⟨1, .inl rfl, rfl⟩

/-- The block of code with this number. -/
def blkC (k : Nat) : Code → Option Code
  | .seq a b => match blkC k a with
    | some c => some c
    | none => blkC k b
  | .cond _ a b => match blkC k a with
    | some c => some c
    | none => blkC k b
  | .block i c => if i = k then some (.block i c) else blkC k c
  | .loop c => blkC k c
  | _ => none
def blkD (k : Nat) : Option Code → Code
  | none => .skip
  | some c => match blkC k c with
    | some c => c
    | none => .skip

set_option maxHeartbeats 8000000 in
theorem inner_ok {M15 : AM} {s : List UInt8} {L : List Bool} {at' n p q xb : Nat} {v6 v5 v1 : Value} (hx : 2 ≤ xb) (hA : Ats s at' L) (hm1 : L.length = n) (hs : s.length ≤ 140737488355328) (hle : n ≤ 65536) (hAl : at' + n ≤ 8 * s.length)
    (hs1 : (txt L).length = (n + 7) / 8) (w15 : WrAt M15 p q L) (hpx : p < xb) (hqx : packL L ≠ [] → q < xb) (hnx : xb + 2 ≤ M15.next) (x15 : RdAt M15 xb (txt L) 0) (y15 : RdAt M15 (xb + 1) s at') :
    Ex Try.prog tables 1 ⟨7, 111⟩ (blkD 2 Try.f7.body) [(14, .pointer (some ⟨xb + 1, 0, none⟩)), (13, .pointer (some ⟨xb, 0, none⟩)), (10, .pointer (some ⟨p, 0, none⟩)), (6, v6), (5, v5), (0, .string ⟨⟨s⟩⟩), (1, v1)] M15
      (fun o E' M' => o = .norm ∧ SubE [(6, v6), (5, v5), (0, .string ⟨⟨s⟩⟩), (1, v1)] E' ∧ Fr M15 M' [xb, xb + 1]) := by
  refine Ex.block ok hm ?_
  refine Ex.loop ?_
  refine Lp.inv ok hm (α := Nat)
    (fun j E M' => E = [(14, .pointer (some ⟨xb + 1, 0, none⟩)), (13, .pointer (some ⟨xb, 0, none⟩)), (10, .pointer (some ⟨p, 0, none⟩)), (6, v6), (5, v5), (0, .string ⟨⟨s⟩⟩), (1, v1)] ∧ j ≤ n ∧ RdAt M' xb (txt L) j ∧ RdAt M' (xb + 1) s (at' + j) ∧ Fr M15 M' [xb, xb + 1])
    (fun j => n - j) ?_ 0 [(14, .pointer (some ⟨xb + 1, 0, none⟩)), (13, .pointer (some ⟨xb, 0, none⟩)), (10, .pointer (some ⟨p, 0, none⟩)), (6, v6), (5, v5), (0, .string ⟨⟨s⟩⟩), (1, v1)] ⟨rfl, rfl, rfl, rfl, rfl, rfl, rfl, trivial⟩ ⟨rfl, Nat.zero_le _, x15, y15, Fr.refl _ _⟩
  intro j E M16 ⟨hE, hj, hX, hY, hF16⟩
  subst hE
  have en16 := hF16.next
  have w16 : WrAt M16 p q L := w15.keep hF16 (by omega) (by simp; omega) (fun k => ⟨by have := hqx k; omega, by have := hqx k; simp; omega⟩)
  (repeat (first
    | refine Ex.seq ok hm ?_
    | refine Ex.region ok hm ?_
    | refine Sq.pu ok hm Want.none (by exact Pu.move rfl) rfl ?_))
  refine Sq.call ok Want.none (Op1.call rfl rfl fn22) rfl (FnC.mono (at_ok hX) ?_)
  rintro x M17 ⟨rfl, rfl⟩
  (repeat (refine Sq.pu ok hm Want.none (by exact Pu.move rfl) rfl ?_))
  refine Sq.call ok Want.none (Op1.call rfl rfl fn15) rfl (FnC.mono (len_ok w16) ?_)
  rintro x M18 ⟨rfl, rfl⟩
  rw [hm1]
  by_cases hjn : j < n
  · have hsb := same_bits hA (j := j) (by omega)
    (repeat (first
    | refine Ex.seq ok hm ?_
    | refine Ex.block ok hm ?_
    | refine Ex.skip ok hm ?_
    | refine Ex.region ok hm ?_
    | refine Sq.pu ok hm Want.none (by first
    | exact Pu.move rfl
    | exact Pu.lssI rfl rfl) rfl ?_
    | refine Sq.finH (n := 15) ok hm (by repeat (first
    | exact Keep.nil
    | apply Keep.drop rfl
    | apply Keep.keep rfl)) ?_
    | refine Ex.condT ok hm rfl (by first
    | rfl
    | exact decide_eq_true (by omega)) ?_))
    refine Sq.call ok Want.none (Op1.call rfl rfl fn31) rfl (FnC.mono (bit2 (by omega) hX (by omega) (by omega)) ?_)
    rintro x M19 ⟨hF19, ⟨hb, rfl, hX19⟩ | ⟨hb, rfl, hX19⟩⟩
    · have en19 := hF19.next
      have hY19 := hY.keep hF19 (by omega) (by simp)
      (repeat (first
    | refine Ex.seq ok hm ?_
    | refine Ex.region ok hm ?_
    | refine Sq.pu ok hm Want.none (by first
    | exact Pu.move rfl
    | exact Pu.assign rfl
    | exact Pu.extract rfl rfl) rfl ?_
    | refine Sq.finH (n := 19) ok hm (by repeat (first
    | exact Keep.nil
    | apply Keep.drop rfl
    | apply Keep.keep rfl)) ?_))
      refine Sq.call ok Want.none (Op1.call rfl rfl fn31) rfl (FnC.mono (bit2 (by omega) hY19 (by omega) hs) ?_)
      rintro x M20 ⟨hF20, ⟨hb2, rfl, hY20⟩ | ⟨hb2, rfl, hY20⟩⟩
      · rw [← hsb]
        have hX20 := hX19.keep hF20 (by omega) (by simp)
        generalize decide (valB (midT (txt L) j 1) = 1) = b
        have hF21 : Fr M15 M20 [xb, xb + 1] := (hF16.trans hF19 (by simp)).trans hF20 (by simp)
        clear hF16 hF19 hF20 hX hY hX19 hY19 w15 w16 hsb hA x15 y15 en16 en19 hs1 hAl
        cases b
        all_goals
          (repeat (first
    | refine Ex.seq ok hm ?_
    | refine Ex.skip ok hm ?_
    | refine Ex.region ok hm ?_
    | refine Sq.pu ok hm Want.none (by first
    | exact Pu.move rfl
    | exact Pu.assign rfl
    | exact Pu.extract rfl rfl
    | exact Pu.neqI rfl rfl
    | exact Pu.pickF rfl (by rfl) rfl
    | exact Pu.neqB hT rfl rfl rfl) rfl ?_
    | refine Sq.pu ok hm (by exact Want.yes rfl rfl rfl (by rfl)) (by first
    | exact Pu.move rfl
    | exact Pu.neqI rfl rfl) rfl ?_
    | refine Sq.finH (n := 19) ok hm (by repeat (first
    | exact Keep.nil
    | apply Keep.drop rfl
    | apply Keep.keep rfl)) ?_
    | refine Ex.condF ok hm rfl (by rfl) ?_))
          refine ⟨j + 1, [(14, .pointer (some ⟨xb + 1, 0, none⟩)), (13, .pointer (some ⟨xb, 0, none⟩)), (10, .pointer (some ⟨p, 0, none⟩)), (6, v6), (5, v5), (0, .string ⟨⟨s⟩⟩), (1, v1)], ?_, ⟨rfl, rfl, rfl, rfl, rfl, rfl, rfl, trivial⟩, rfl, by omega, hX20, hY20, hF21⟩
          show n - (j + 1) < n - j
          omega
      · exact absurd hb2 (by omega)
    · exact absurd hb (by omega)
  · (repeat (first
    | refine Sq.pu ok hm Want.none (by exact Pu.lssI rfl rfl) rfl ?_
    | refine Sq.finH (n := 15) ok hm (by repeat (first
    | exact Keep.nil
    | apply Keep.drop rfl
    | apply Keep.keep rfl)) ?_
    | refine Ex.condF ok hm rfl (by first
    | rfl
    | exact decide_eq_false (by omega)) ?_
    | refine Ex.exit ok hm ?_))
    exact ⟨rfl, ⟨rfl, rfl, rfl, rfl, trivial⟩, hF16⟩
end Go.Proofs.Ytlhfolmhgghjcaa
/- N -/
namespace Go.Proofs.Ytlhfolmhgghjcaa
open Go.Wvm Bits
set_option linter.unusedVariables false
set_option linter.unusedSimpArgs false

/-- To a slice that the run itself has made by appending, nil included, of elements of any size. -/
theorem appendBufN {P : Program} {vp : VP} {T : List (Nat × TyI)} (hT : TyOk vp T) {ro : Nat} {E : En} {M : AM} {t1 t2 e : TypeId} {x y : Operand} {c m s by' n : Nat} {z : Option Value} {g : Bool} {ei ti2 : TyI} {u : Value} {l new : List Value} (hx : evE E x = some (bufV c m)) (hy : evE E y = some u)
    (hb : m ≠ 0 → M.get c = some (.row l ei.size (some (e, 0)))) (hm : l.length = m * ei.size) (hr : m ≠ 0 → ro ≤ c)
    (ht : tyGet T t1 = some ⟨.slice e, s, by', z, g⟩) (ht2 : tyGet T t2 = some ti2) (he : tyGet T e = some ei) (hl : lenable ti2.desc = true) (hs : Src M ei.size u n new) (hn0 : 0 < n) (hn : m + n ≤ 1073741824) (hlen : new.length = n * ei.size)
    (hok : (Nat.ble ei.bytes 65536 && !Nat.beq ei.bytes 0 && !Nat.beq ei.size 0 && ei.zero.isSome) = true) (ho : oneCells new = true) :
    Op1 P vp ro E M (.call { callee := .builtin .append, args := #[x, y], argTypes := #[t1, t2] }) (.value (bufV M.next (m + n))) ((M.rm c).add (.row (l ++ new) ei.size (some (e, 0)))) := by
  have e1 : bufV M.next (m + n) = .slice (some ⟨M.next, 0, none⟩) (m + n) (m + n) := by unfold bufV; rw [if_neg (by omega)]
  rw [e1]
  by_cases h0 : m = 0
  · subst h0
    obtain rfl : l = [] := List.length_eq_zero_iff.1 (by omega)
    have hx' : evE E x = some (.slice none 0 0) := hx
    have := Op1.appendNil (P := P) (ro := ro) hT (t1 := t1) (t2 := t2) hx' hy ht ht2 he hl hs hn0 (by omega) hlen hok ho
    intro fr w o h3 h4 h5
    obtain ⟨w', h6, h7⟩ := this fr w o h3 h4 h5
    rw [Nat.zero_add]
    refine ⟨w', h6, h7.le ⟨rfl, rfl, fun b a hba => ?_⟩⟩
    rw [AM.get_add, AM.get_rm] at hba
    rw [AM.get_add]
    by_cases k : b = M.next
    · rw [if_pos (show b = (M.rm c).next from k)] at hba
      rw [if_pos k]; simpa using hba
    · rw [if_neg (show ¬ b = (M.rm c).next from k)] at hba
      rw [if_neg k]
      by_cases k2 : b = c
      · rw [if_pos k2] at hba; cases hba
      · rw [if_neg k2] at hba; exact hba
  · have hx' : evE E x = some (.slice (some ⟨c, 0, none⟩) m m) := by rw [hx]; unfold bufV; rw [if_neg h0]
    exact Op1.appendFull (P := P) (ro := ro) hT (t1 := t1) (t2 := t2) hx' hy (hb h0) hm (by omega) (hr h0) (Nat.zero_le _) ht ht2 he hl hs hn0 hn hlen hok ho

abbrev inS (l : List NumV) : Value := .slice (some ⟨0, 0, none⟩) l.length l.length
def LoopK (l : List NumV) (i c : Nat) (M : AM) : Prop :=
  ∃ q, WrAt M 1 q (bitsK (keptL l i)) ∧ 2 ≤ M.next ∧ (l.length ≠ 0 → M.get 0 = some (.row (rowN l) 3 none)) ∧ ((keptL l i).length ≠ 0 → M.get c = some (.row (rowN (keptL l i)) 3 (some (65, 0)))) ∧ 2 ≤ q ∧ 2 ≤ c ∧
    (packL (bitsK (keptL l i)) ≠ [] → q < M.next) ∧ ((keptL l i).length ≠ 0 → c < M.next ∧ (packL (bitsK (keptL l i)) ≠ [] → c ≠ q))

set_option maxRecDepth 20000 in
set_option maxHeartbeats 16000000 in
theorem round1_ok {M : AM} (l : List NumV) (i c : Nat) (hil : i < l.length) (hi60 : i < 60) (hwf : ∀ x ∈ l, x.kind < 256 ∧ x.K < 18446744073709551616 ∧ x.v < 18446744073709551616) (hL : LoopK l i c M) :
    Ex Try.prog tables 1 ⟨6, 188⟩ (blkD 1 Try.f6.body) [(5, .int .i64 (i : Int)), (4, bufV c (keptL l i).length), (3, .pointer (some ⟨1, 0, none⟩)), (0, inS l)] M
      (fun o E' M' => o = .norm ∧ ∃ c', SubE [(5, .int .i64 (i : Int)), (4, bufV c' (keptL l (i + 1)).length), (3, .pointer (some ⟨1, 0, none⟩)), (0, inS l)] E' ∧ LoopK l (i + 1) c' M') := by
  obtain ⟨q, hW, hnx3, hg, hc, hq2, hc2, hqn, hcn⟩ := hL
  have hg' := hg (by omega)
  have hm60 := keptL_le l i
  have hB := bitsK_le (keptL l i) (keptL_good l i)
  have hky := keptL_yes hil
  have hkn := keptL_no hil
  obtain ⟨hw1, hw2, hw3⟩ := hwf (l[i]'hil) (List.getElem_mem hil)
  have hag : (Value.agg ⟨((rowN l).drop (0 + ((i : Nat) : Int).toNat * 3)).take 3⟩) = .agg ⟨(l[i]'hil).cells⟩ := by rw [Int.toNat_natCast, Nat.zero_add, rowN_get l i hil]
  have hlb : 0 + ((i : Nat) : Int).toNat * 3 + 3 ≤ (rowN l).length := by rw [rowN_length, Int.toNat_natCast]; omega
  unfold LoopK
  generalize keptL l (i + 1) = m' at hky hkn ⊢
  generalize keptL l i = m at *
  generalize (l[i]'hil) = y at *
  obtain ⟨kind, K, v⟩ := y
  simp only at hw1 hw2 hw3
  have hfx : fixV ⟨kind, K, v⟩ = ⟨kind, K, if kind = 0 then v % 2001 else v⟩ := rfl
  rw [hfx] at hky hkn
  have hag : (Value.agg ⟨((rowN l).drop (0 + ((i : Nat) : Int).toNat * 3)).take 3⟩) = .agg ⟨[.int .u8 (kind : Int), .int .u64 (K : Int), .int .u64 (v : Int)]⟩ := hag
  refine Ex.block ok hm ?_
  (repeat (first
    | refine Ex.seq ok hm ?_
    | refine Ex.region ok hm ?_
    | refine Sq.pu ok hm Want.none (by first
    | exact Pu.move rfl
    | exact Pu.indexAddr hT rfl rfl rfl rfl (by omega) (by omega)) rfl ?_))
  refine Sq.pu ok hm Want.none (Pu.loadA hT rfl rfl rfl hg' hlb) rfl ?_
  change Sq Try.prog tables 1 _ _ _ ((39, .agg ⟨((rowN l).drop (0 + ((i : Nat) : Int).toNat * 3)).take 3⟩) :: _) _ _
  rw [hag]
  refine Sq.op ok hm Want.none (Op1.alloc hT rfl rfl rfl) rfl ?_
  refine Sq.act ok hm Want.none (Op1.store hT rfl rfl rfl rfl AM.add_same (by omega) (Nat.le_of_ble_eq_true rfl) (Nat.le_of_ble_eq_true rfl) rfl) ?_
  show Sq Try.prog tables 1 _ _ _ _ ((M.add (.row [.int .u8 0, .int .u64 0, .int .u64 0] 0 (some (65, 0)))).upd M.next (.row [.int .u8 (kind : Int), .int .u64 (K : Int), .int .u64 (v : Int)] 0 (some (65, 0)))) _
  have hb4 : ((M.add (.row [.int .u8 0, .int .u64 0, .int .u64 0] 0 (some (65, 0)))).upd M.next (.row [.int .u8 (kind : Int), .int .u64 (K : Int), .int .u64 (v : Int)] 0 (some (65, 0)))).get M.next = some (.row [.int .u8 (kind : Int), .int .u64 (K : Int), .int .u64 (v : Int)] 0 (some (65, 0))) := AM.upd_same
  have hF4 : Fr M ((M.add (.row [.int .u8 0, .int .u64 0, .int .u64 0] 0 (some (65, 0)))).upd M.next (.row [.int .u8 (kind : Int), .int .u64 (K : Int), .int .u64 (v : Int)] 0 (some (65, 0)))) [] := (Fr.add _ _ _).upd' _ (.inr (Nat.le_refl _))
  have hn4 : ((M.add (.row [.int .u8 0, .int .u64 0, .int .u64 0] 0 (some (65, 0)))).upd M.next (.row [.int .u8 (kind : Int), .int .u64 (K : Int), .int .u64 (v : Int)] 0 (some (65, 0)))).next = M.next + 1 := rfl
  generalize ((M.add (.row [.int .u8 0, .int .u64 0, .int .u64 0] 0 (some (65, 0)))).upd M.next (.row [.int .u8 (kind : Int), .int .u64 (K : Int), .int .u64 (v : Int)] 0 (some (65, 0)))) = M4 at hb4 hF4 hn4 ⊢
  obtain ⟨xb, hxb⟩ : ∃ xb, M.next = xb := ⟨_, rfl⟩
  rw [hxb] at hb4 hn4 hnx3 hqn hcn ⊢
  (repeat (first
    | refine Ex.seq ok hm ?_
    | refine Ex.region ok hm ?_
    | refine Sq.pu ok hm Want.none (by first
    | exact Pu.fieldAddr hT rfl rfl rfl rfl rfl
    | (apply Pu.load hT rfl rfl rfl; (focus ((repeat (assumption)))); (focus rfl))
    | exact Pu.eqlI rfl rfl) rfl ?_
    | refine Sq.finH (n := 16) ok hm (by repeat (first
    | exact Keep.nil
    | apply Keep.drop rfl
    | apply Keep.keep rfl)) ?_))
  refine Ex.cut [(6, .pointer (some ⟨xb, 0, none⟩)), (5, .int .i64 (i : Int)), (4, bufV c m.length), (3, .pointer (some ⟨1, 0, none⟩)), (0, inS l)]
    (fun M' => M'.get xb = some (.row [.int .u8 (kind : Int), .int .u64 (K : Int), .int .u64 ((if kind = 0 then v % 2001 else v : Nat) : Int)] 0 (some (65, 0))) ∧ Fr M M' [] ∧ xb + 1 ≤ M'.next) ?_ ?_
  · by_cases k0 : kind = 0
    · rw [if_pos k0]
      (repeat (first
    | refine Ex.region ok hm ?_
    | refine Sq.pu ok hm Want.none (by first
    | exact Pu.fieldAddr hT rfl rfl rfl rfl rfl
    | (apply Pu.load hT rfl rfl rfl; (focus ((repeat (assumption)))); (focus rfl))
    | exact Pu.remN rfl rfl (by decide)) rfl ?_
    | refine Ex.condT ok hm rfl (by first
    | rfl
    | exact decide_eq_true (by omega)) ?_))
      refine Sq.act ok hm Want.none (Op1.store hT rfl rfl rfl rfl hb4 (by omega) (Nat.le_of_ble_eq_true rfl) (Nat.le_of_ble_eq_true rfl) rfl) ?_
      (repeat (refine Sq.finH (n := 16) ok hm (by repeat (first
    | exact Keep.nil
    | apply Keep.drop rfl
    | apply Keep.keep rfl)) ?_))
      exact ⟨rfl, ⟨rfl, rfl, rfl, rfl, rfl, trivial⟩, AM.upd_same, hF4.upd' _ (.inr (by omega)), by simp only [AM.next_upd]; omega⟩
    · rw [if_neg k0]
      (repeat (first
    | refine Ex.skip ok hm ?_
    | refine Ex.condF ok hm rfl (by first
    | rfl
    | exact decide_eq_false (by omega)) ?_))
      exact ⟨rfl, ⟨rfl, rfl, rfl, rfl, rfl, trivial⟩, hb4, hF4, by omega⟩
  rintro M5 ⟨hb5, hF5, hn5⟩
  have hw64 : (if kind = 0 then v % 2001 else v) < 18446744073709551616 := by split <;> omega
  clear hb4 hF4 hn4 hag hlb hw3 hg'
  generalize (if kind = 0 then v % 2001 else v) = w at hb5 hw64 hky hkn
  (repeat (first
    | refine Ex.seq ok hm ?_
    | refine Ex.region ok hm ?_
    | refine Sq.pu ok hm Want.none (by exact Pu.fieldAddr hT rfl rfl rfl rfl rfl) rfl ?_))
  refine Sq.pu ok hm Want.none (Pu.loadA hT rfl rfl rfl hb5 (Nat.le_of_ble_eq_true rfl)) rfl ?_
  refine Sq.call ok Want.none (Op1.call rfl rfl fn26) rfl (FnC.mono (own_ok (kind := kind) (K := K)) ?_)
  rintro x M6 ⟨rfl, hF6⟩
  have hn6 := hF6.next
  refine Sq.op ok hm Want.none (Op1.alloc hT rfl rfl rfl) rfl ?_
  refine Sq.act ok hm Want.none (Op1.store hT rfl rfl rfl rfl AM.add_same (by omega) (Nat.le_of_ble_eq_true rfl) (Nat.le_of_ble_eq_true rfl) rfl) ?_
  show Sq Try.prog tables 1 _ _ _ _ ((M6.add (.row [.int .u8 0, .int .u64 0] 0 (some (58, 0)))).upd M6.next (.row [.int .u8 (kind : Int), .int .u64 (K : Int)] 0 (some (58, 0)))) _
  have hb7 : ((M6.add (.row [.int .u8 0, .int .u64 0] 0 (some (58, 0)))).upd M6.next (.row [.int .u8 (kind : Int), .int .u64 (K : Int)] 0 (some (58, 0)))).get M6.next = some (.row [.int .u8 (kind : Int), .int .u64 (K : Int)] 0 (some (58, 0))) := AM.upd_same
  have hF7 : Fr M6 ((M6.add (.row [.int .u8 0, .int .u64 0] 0 (some (58, 0)))).upd M6.next (.row [.int .u8 (kind : Int), .int .u64 (K : Int)] 0 (some (58, 0)))) [] := (Fr.add _ _ _).upd' _ (.inr (Nat.le_refl _))
  have hn7 : ((M6.add (.row [.int .u8 0, .int .u64 0] 0 (some (58, 0)))).upd M6.next (.row [.int .u8 (kind : Int), .int .u64 (K : Int)] 0 (some (58, 0)))).next = M6.next + 1 := rfl
  generalize ((M6.add (.row [.int .u8 0, .int .u64 0] 0 (some (58, 0)))).upd M6.next (.row [.int .u8 (kind : Int), .int .u64 (K : Int)] 0 (some (58, 0)))) = M7 at hb7 hF7 hn7 ⊢
  have hx7 : M7.get xb = some (.row [.int .u8 (kind : Int), .int .u64 (K : Int), .int .u64 (w : Int)] 0 (some (65, 0))) := (hF7.get xb (by omega) (by simp)).trans ((hF6.get xb (by omega) (by simp)).trans hb5)
  have hF7 := (hF5.trans hF6 (by simp)).trans hF7 (by simp)
  clear hF6 hb5 hF5
  obtain ⟨cb, hcb⟩ : ∃ cb, M6.next = cb := ⟨_, rfl⟩
  rw [hcb] at hb7 hn7 hn6 ⊢
  have hW7 := hW.keep hF7 (by omega) (by simp) (fun k => ⟨by have := hqn k; omega, by simp⟩)
  obtain ⟨q0, hW7, hq02, hq0⟩ : ∃ q0, WrAt M7 1 q0 (bitsK m) ∧ 2 ≤ q0 ∧ ∀ b, b < M7.next → (packL (bitsK m) ≠ [] → b ≠ q) → b ≠ q0 := by
    by_cases hz : packL (bitsK m) = []
    · exact ⟨M7.next, ⟨by have := hW7.row; rw [hz] at this ⊢; exact this, fun k => absurd hz k, by omega⟩, by omega, fun b hb _ => by omega⟩
    · exact ⟨q, hW7, hq2, fun b hb k => k hz⟩
  have hg7 : l.length ≠ 0 → M7.get 0 = some (.row (rowN l) 3 none) := fun k => (hF7.get 0 (by omega) (by simp)).trans (hg k)
  have hc7 : m.length ≠ 0 → M7.get c = some (.row (rowN m) 3 (some (65, 0))) := fun k => (hF7.get c (by have := (hcn k).1; omega) (by simp)).trans (hc k)
  (repeat (first
    | refine Ex.seq ok hm ?_
    | refine Ex.region ok hm ?_
    | refine Sq.pu ok hm Want.none (by exact Pu.move rfl) rfl ?_
    | refine Sq.finH (n := 16) ok hm (by repeat (first
    | exact Keep.nil
    | apply Keep.drop rfl
    | apply Keep.keep rfl)) ?_))
  refine Sq.call ok Want.none (Op1.call rfl rfl fn15) rfl (FnC.mono (len_ok hW7) ?_)
  rintro x M7 ⟨rfl, rfl⟩
  (repeat (first
    | refine Ex.seq ok hm ?_
    | refine Ex.region ok hm ?_
    | refine Sq.pu ok hm Want.none (by first
    | exact Pu.move rfl
    | exact Pu.assign rfl) rfl ?_
    | refine Sq.finH (n := 16) ok hm (by repeat (first
    | exact Keep.nil
    | apply Keep.drop rfl
    | apply Keep.keep rfl)) ?_))
  refine Sq.pu ok hm Want.none (Pu.loadA hT rfl rfl rfl hb7 (Nat.le_refl 2)) rfl ?_
  (repeat (refine Sq.pu ok hm Want.none (by first
    | exact Pu.fieldAddr hT rfl rfl rfl rfl rfl
    | (apply Pu.load hT rfl rfl rfl; (focus ((repeat (assumption)))); (focus rfl))) rfl ?_))
  refine Sq.call ok Want.none (Op1.call rfl rfl fn29) rfl (FnC.mono (cPut_ok (p := 1) (q := q0) (l := bitsK m) (kind := kind) (K := K) (v := w) (by omega) (by omega) hW7 hw1 hw2 hw64 (by omega)) ?_)
  rintro x M8 ⟨rfl, q8, hW8, hF8, hq8, hro8⟩
  have hn8 := hF8.next
  have hnq : ∀ b, 2 ≤ b → b < M7.next → (packL (bitsK m) ≠ [] → b ≠ q) → b ∉ [1, q0] := fun b h1 h2 h3 => by
    have := hq0 b h2 h3
    simp; omega
  have hq0q : 0 ≠ q0 := by omega
  have hb8 := (hF8.get cb (by omega) (hnq cb (by omega) (by omega) (fun k => by have := hqn k; omega))).trans hb7
  have hx8 := (hF8.get xb (by omega) (hnq xb (by omega) (by omega) (fun k => by have := hqn k; omega))).trans hx7
  have hg8 : l.length ≠ 0 → M8.get 0 = some (.row (rowN l) 3 none) := fun k => (hF8.get 0 (by omega) (by simp; omega)).trans (hg7 k)
  have hc8 : m.length ≠ 0 → M8.get c = some (.row (rowN m) 3 (some (65, 0))) := fun k => (hF8.get c (by have := (hcn k).1; omega) (hnq c hc2 (by have := (hcn k).1; omega) (hcn k).2)).trans (hc7 k)
  have hq8' : 2 ≤ q8 ∧ (m.length ≠ 0 → c ≠ q8) := by
    refine ⟨by omega, fun k => ?_⟩
    have h1 := hq0 c (by have := (hcn k).1; omega) (hcn k).2
    have h2 := (hcn k).1
    omega
  refine sq_facts fun hlt8 hron8 => ?_
  clear hW hW7 hF8 hnq hq0 hb7 hx7 hg7 hc7 hg hc hF7 hqn hxb hcb hro8 hq0q
  by_cases hgood : checkE kind K = 0 ∧ w ≤ mostE kind K
  · obtain ⟨hck, hvm⟩ := hgood
    have hly := lenE_yes hck hvm
    have hky := hky (decide_eq_true ⟨hck, hvm⟩)
    clear hkn
    have hmo : mostE kind K ≤ 281474976710655 := by
      obtain ⟨c1, c2, c3⟩ := check0 hck
      unfold mostE
      split
      · omega
      · split
        · rename_i h4; have := c3 h4; omega
        · omega
    rw [hly, if_pos rfl] at hW8
    rw [hly]
    have hle := bitsC_le hck hvm
    (repeat (first
    | refine Ex.seq ok hm ?_
    | refine Ex.region ok hm ?_
    | refine Sq.pu ok hm Want.none (by exact Pu.assign rfl) rfl ?_
    | refine Sq.finH (n := 16) ok hm (by repeat (first
    | exact Keep.nil
    | apply Keep.drop rfl
    | apply Keep.keep rfl)) ?_))
    refine Sq.pu ok hm Want.none (Pu.loadA hT rfl rfl rfl hb8 (Nat.le_refl 2)) rfl ?_
    (repeat (refine Sq.pu ok hm Want.none (by first
    | exact Pu.fieldAddr hT rfl rfl rfl rfl rfl
    | (apply Pu.load hT rfl rfl rfl; (focus ((repeat (assumption)))); (focus rfl))) rfl ?_))
    refine Sq.call ok Want.none (Op1.call rfl rfl fn30) rfl (FnC.mono (Len_ok (kind := kind) (K := K) (v := w) hw1 hw2 hw64) ?_)
    rintro x M9 ⟨rfl, hF9⟩
    have hn9 := hF9.next
    have hb9 := (hF9.get cb (by omega) (by simp)).trans hb8
    have hx9 := (hF9.get xb (by omega) (by simp)).trans hx8
    rw [hly]
    have hlen : (bitsK m ++ bitsC kind K w).length = (bitsK m).length + (bitsC kind K w).length := List.length_append
    obtain ⟨n2, e2, hl2, he2⟩ : ∃ n2 e2, lenE kind K (w + 1) = (n2, e2) ∧ ((e2 = 0 ∧ (bitsC kind K w).length ≤ n2) ∨ e2 = 1) := by
      by_cases h1 : w + 1 ≤ mostE kind K
      · exact ⟨_, _, lenE_yes hck h1, .inl ⟨rfl, bitsC_mono hck (Nat.le_succ w)⟩⟩
      · exact ⟨_, _, lenE_no2 h1, .inr rfl⟩
    have hz1 : kind = 1 → lenE 3 1 w = ((bitsC kind K w).length, 0) := fun k => by subst k; exact lenE_zeta1 hck hvm
    generalize hBL : bitsK m ++ bitsC kind K w = BL at hW8 hlen
    generalize hnn : (bitsC kind K w).length = n at hle hlen he2 hz1 ⊢
    generalize hbl : (bitsK m).length = bl at hB hlen ⊢
    have hwb : w ≤ 281474976710655 := by omega
    clear hvm hmo hly
    (repeat (first
    | refine Ex.seq ok hm ?_
    | refine Ex.skip ok hm ?_
    | refine Ex.region ok hm ?_
    | refine Sq.pu ok hm Want.none (by first
    | exact Pu.move rfl
    | exact Pu.assign rfl
    | exact Pu.extract rfl rfl
    | exact Pu.neqI rfl rfl) rfl ?_
    | refine Sq.finH (n := 16) ok hm (by repeat (first
    | exact Keep.nil
    | apply Keep.drop rfl
    | apply Keep.keep rfl)) ?_
    | refine Ex.condF ok hm rfl (by rfl) ?_))
    refine Sq.pu ok hm Want.none (Pu.loadA hT rfl rfl rfl hb9 (Nat.le_refl 2)) rfl ?_
    (repeat (refine Sq.pu ok hm Want.none (by first
    | exact Pu.fieldAddr hT rfl rfl rfl rfl rfl
    | (apply Pu.load hT rfl rfl rfl; (focus ((repeat (assumption)))); (focus rfl))
    | exact Pu.addN rfl rfl (by simp only [InR]; omega)) rfl ?_))
    refine Sq.call ok Want.none (Op1.call rfl rfl fn30) rfl (FnC.mono (Len_ok (kind := kind) (K := K) (v := w + 1) hw1 hw2 (by omega)) ?_)
    rintro x M10 ⟨rfl, hF10⟩
    have hn10 := hF10.next
    have hF10' : Fr M8 M10 [] := hF9.trans hF10 (by simp)
    have hb10 := (hF10.get cb (by omega) (by simp)).trans hb9
    have hx10 := (hF10.get xb (by omega) (by simp)).trans hx9
    have hW10 : WrAt M10 1 q8 BL := hW8.keep hF10' (by omega) (by simp) (fun k => ⟨hlt8 _ _ (hW8.buf k), by simp⟩)
    rw [hl2]
    (repeat (refine Sq.pu ok hm Want.none (by first
    | exact Pu.move rfl
    | exact Pu.assign rfl
    | exact Pu.extract rfl rfl) rfl ?_))
    refine Sq.finH (n := 16) ok hm (by repeat (first
    | exact Keep.nil
    | apply Keep.drop rfl
    | apply Keep.keep rfl)) ?_
    refine Ex.seq ok hm ?_
    refine Ex.cut [(92, .bool false), (10, .int .i64 (n : Int)), (7, .pointer (some ⟨cb, 0, none⟩)), (6, .pointer (some ⟨xb, 0, none⟩)), (5, .int .i64 (i : Int)), (4, bufV c m.length), (3, .pointer (some ⟨1, 0, none⟩)), (0, inS l)] (fun M' => M' = M10) ?_ ?_
    · clear hb8 hx8 hg8 hc8 hq8' hF9 hb9 hx9 hF10 hF10' hb10 hx10 hky hz1 hl2 hW8
      rcases he2 with ⟨rfl, hn2⟩ | rfl
      · (repeat (first
    | refine Ex.seq ok hm ?_
    | refine Ex.region ok hm ?_
    | refine Sq.pu ok hm Want.none (by exact Pu.move rfl) rfl ?_))
        refine Sq.call ok Want.none (Op1.call rfl rfl fn15) rfl (FnC.mono (len_ok hW10) ?_)
        rintro x M11 ⟨rfl, rfl⟩
        rw [hlen]
        (repeat (first
    | refine Ex.skip ok hm ?_
    | refine Sq.pu ok hm Want.none (by first
    | exact Pu.move rfl
    | exact Pu.addN rfl rfl (by simp only [InR]; omega)
    | exact Pu.lssI rfl rfl
    | exact Pu.eqlI rfl rfl
    | exact Pu.neqI rfl rfl
    | exact Pu.pickT rfl (by rfl) rfl
    | exact Pu.pickF rfl (by first
    | rfl
    | (simp; done) | omega) rfl) rfl ?_
    | refine Sq.pu ok hm (by exact Want.yes rfl rfl rfl (by first
    | rfl
    | (simp; done) | omega)) (by first
    | exact Pu.move rfl
    | exact Pu.lssI rfl rfl
    | exact Pu.eqlI rfl rfl
    | exact Pu.pickT rfl (by rfl) rfl) rfl ?_
    | refine Sq.finH (n := 16) ok hm (by repeat (first
    | exact Keep.nil
    | apply Keep.drop rfl
    | apply Keep.keep rfl)) ?_
    | refine Ex.condF ok hm rfl (by first
    | rfl
    | exact decide_eq_false (by omega)) ?_))
        refine ⟨rfl, ⟨?_, rfl, rfl, rfl, rfl, rfl, rfl, rfl, trivial⟩, rfl⟩
        first
          | rfl
          | exact congrArg (fun b => some (Value.bool b)) (decide_eq_false (by omega))
      · (repeat (first
    | refine Ex.seq ok hm ?_
    | refine Ex.region ok hm ?_
    | refine Sq.pu ok hm Want.none (by exact Pu.move rfl) rfl ?_))
        refine Sq.call ok Want.none (Op1.call rfl rfl fn15) rfl (FnC.mono (len_ok hW10) ?_)
        rintro x M11 ⟨rfl, rfl⟩
        rw [hlen]
        (repeat (first
    | refine Ex.skip ok hm ?_
    | refine Sq.pu ok hm Want.none (by first
    | exact Pu.move rfl
    | exact Pu.addN rfl rfl (by simp only [InR]; omega)
    | exact Pu.eqlI rfl rfl
    | exact Pu.neqI rfl rfl
    | exact Pu.pickF rfl (by first
    | rfl
    | (simp; done) | omega) rfl) rfl ?_
    | refine Sq.pu ok hm (by exact Want.yes rfl rfl rfl (by first
    | rfl
    | (simp; done) | omega)) (by first
    | exact Pu.move rfl
    | exact Pu.eqlI rfl rfl
    | exact Pu.pickF rfl (by rfl) rfl) rfl ?_
    | refine Sq.skip ok hm (by exact Want.no rfl rfl rfl (by rfl)) rfl ?_
    | refine Sq.finH (n := 16) ok hm (by repeat (first
    | exact Keep.nil
    | apply Keep.drop rfl
    | apply Keep.keep rfl)) ?_
    | refine Ex.condF ok hm rfl (by rfl) ?_))
        refine ⟨rfl, ⟨?_, rfl, rfl, rfl, rfl, rfl, rfl, rfl, trivial⟩, rfl⟩
        first
          | rfl
          | exact congrArg (fun b => some (Value.bool b)) (decide_eq_false (by omega))
    rintro M11 rfl
    clear hb8 hx8 hF9 hb9 hx9 hF10
    (repeat (first
    | refine Ex.seq ok hm ?_
    | refine Ex.region ok hm ?_
    | refine Sq.pu ok hm Want.none (by first
    | exact Pu.fieldAddr hT rfl rfl rfl rfl rfl
    | (apply Pu.load hT rfl rfl rfl; (focus ((repeat (assumption)))); (focus rfl))
    | exact Pu.eqlI rfl rfl) rfl ?_
    | refine Sq.finH (n := 16) ok hm (by repeat (first
    | exact Keep.nil
    | apply Keep.drop rfl
    | apply Keep.keep rfl)) ?_))
    refine Ex.cut [(6, .pointer (some ⟨xb, 0, none⟩)), (5, .int .i64 (i : Int)), (4, bufV c m.length), (3, .pointer (some ⟨1, 0, none⟩)), (0, inS l)] (fun M' => Fr M11 M' []) ?_ ?_
    · by_cases k1 : kind = 1
      · have hz1 := hz1 k1
        (repeat (first
    | refine Ex.seq ok hm ?_
    | refine Ex.region ok hm ?_
    | refine Ex.condT ok hm rfl (by first
    | rfl
    | exact decide_eq_true (by omega)) ?_))
        refine Sq.pu ok hm Want.none (Pu.build hT rfl rfl rfl rfl) rfl ?_
        (repeat (refine Sq.pu ok hm Want.none (by first
    | exact Pu.fieldAddr hT rfl rfl rfl rfl rfl
    | (apply Pu.load hT rfl rfl rfl; (focus ((repeat (assumption)))); (focus rfl))) rfl ?_))
        refine Sq.call ok Want.none (Op1.call rfl rfl fn30) rfl (FnC.mono (Len_ok (kind := 3) (K := 1) (v := w) (by decide) (by decide) hw64) ?_)
        rintro x M12 ⟨rfl, hF12⟩
        rw [hz1]
        (repeat (first
    | refine Ex.seq ok hm ?_
    | refine Ex.skip ok hm ?_
    | refine Ex.region ok hm ?_
    | refine Sq.pu ok hm Want.none (by first
    | exact Pu.move rfl
    | exact Pu.assign rfl
    | exact Pu.extract rfl rfl
    | exact Pu.neqI rfl rfl
    | exact Pu.pickF rfl (by first
    | rfl
    | (simp; done) | omega) rfl) rfl ?_
    | refine Sq.pu ok hm (by exact Want.yes rfl rfl rfl (by first
    | rfl
    | (simp; done) | omega)) (by first
    | exact Pu.move rfl
    | exact Pu.neqI rfl rfl) rfl ?_
    | refine Sq.finH (n := 16) ok hm (by repeat (first
    | exact Keep.nil
    | apply Keep.drop rfl
    | apply Keep.keep rfl)) ?_
    | refine Ex.condF ok hm rfl (by rfl) ?_))
        exact ⟨rfl, ⟨rfl, rfl, rfl, rfl, rfl, trivial⟩, hF12⟩
      · (repeat (first
    | refine Ex.skip ok hm ?_
    | refine Ex.condF ok hm rfl (by first
    | rfl
    | exact decide_eq_false (by omega)) ?_))
        exact ⟨rfl, ⟨rfl, rfl, rfl, rfl, rfl, trivial⟩, Fr.refl _ _⟩
    rintro M12 hF12
    have hn12 := hF12.next
    have hFe := hF10'.trans hF12 (by simp)
    have hx12 := (hF12.get xb (by omega) (by simp)).trans hx10
    have hW12 : WrAt M12 1 q8 BL := hW8.keep hFe (by omega) (by simp) (fun k => ⟨hlt8 _ _ (hW8.buf k), by simp⟩)
    have hc12 : m.length ≠ 0 → M12.get c = some (.row (rowN m) 3 (some (65, 0))) := fun k => (hFe.get c (by have := (hcn k).1; omega) (by simp)).trans (hc8 k)
    have hg12 : l.length ≠ 0 → M12.get 0 = some (.row (rowN l) 3 none) := fun k => (hFe.get 0 (by omega) (by simp)).trans (hg8 k)
    have hq12 : packL BL ≠ [] → q8 < M12.next := fun k => by have := hlt8 _ _ (hW8.buf k); omega
    obtain ⟨c0, hbv, hc0, hc0q, hc02⟩ : ∃ c0, bufV c m.length = bufV c0 m.length ∧ (m.length ≠ 0 → M12.get c0 = some (.row (rowN m) 3 (some (65, 0))) ∧ c0 < M12.next) ∧ (packL BL ≠ [] → q8 ≠ c0) ∧ 2 ≤ c0 := by
      by_cases hz : m.length = 0
      · exact ⟨M12.next + 7, by rw [hz]; rfl, fun k => absurd hz k, fun k => by have := hq12 k; omega, by omega⟩
      · exact ⟨c, rfl, fun k => ⟨hc12 k, by have := (hcn k).1; omega⟩, fun k => by have := hq8'.2 hz; omega, hc2⟩
    rw [hbv]
    (repeat (first
    | refine Ex.region ok hm ?_
    | refine Sq.pu ok hm Want.none (by exact Pu.move rfl) rfl ?_))
    refine Sq.pu ok hm Want.none (Pu.loadA hT rfl rfl rfl hx12 (Nat.le_refl 3)) rfl ?_
    (repeat (refine Sq.op ok hm Want.none (Op1.buildSlice hT rfl rfl rfl rfl rfl rfl rfl) rfl ?_))
    refine Sq.op ok hm Want.none (appendBufN hT rfl rfl (fun h => (AM.add_ne (by have := (hc0 h).2; omega)).trans (hc0 h).1) (rowN_length m) (fun h => by omega) rfl rfl rfl rfl (Src.slice (n := 1) (by (repeat (exact AM.add_same))) (Nat.le_of_ble_eq_true rfl)) (by decide) (by omega) rfl rfl rfl) rfl ?_
    refine Sq.pu ok hm Want.none (Pu.assign rfl) rfl ?_
    refine Sq.finH (n := 16) ok hm (by repeat (first
    | exact Keep.nil
    | apply Keep.drop rfl
    | apply Keep.keep rfl)) ?_
    have hml : m'.length = m.length + 1 := by rw [hky]; simp
    have hbm : bitsK m' = BL := by rw [hky, bitsK_append, bitsK_one, ← hBL]; rfl
    have hrm : rowN m' = rowN m ++ [.int .u8 (kind : Int), .int .u64 (K : Int), .int .u64 (w : Int)] := by rw [hky, rowN_append]; rfl
    rw [hml, hbm, hrm]
    refine ⟨rfl, M12.next + 1, ⟨rfl, rfl, rfl, rfl, trivial⟩, q8, ?_, ?_, fun k => ?_, fun _ => AM.add_same, hq8'.1, by omega, fun k => ?_, fun _ => ⟨?_, fun k => ?_⟩⟩
    · exact hW12.keep (((Fr.refl M12 [c0]).add' _).rm' (.inl (by simp)) |>.add' _) (by omega) (by simp; omega) (fun k => ⟨hq12 k, by have := hc0q k; simp; omega⟩)
    · simp only [AM.next_add, AM.next_rm]; omega
    · exact (AM.add_ne (by simp only [AM.next_add, AM.next_rm]; omega)).trans ((AM.rm_ne (by omega)).trans ((AM.add_ne (by omega)).trans (hg12 k)))
    · have := hq12 k; simp only [AM.next_add, AM.next_rm]; omega
    · simp only [AM.next_add, AM.next_rm]; omega
    · have := hq12 k; omega
  · have hly : lenE kind K w = (0, 1) := if_neg hgood
    have hkn := hkn (decide_eq_false hgood)
    clear hky
    rw [hly, if_neg (by decide)] at hW8
    rw [hly]
    (repeat (first
    | refine Ex.seq ok hm ?_
    | refine Ex.region ok hm ?_
    | refine Sq.pu ok hm Want.none (by exact Pu.assign rfl) rfl ?_
    | refine Sq.finH (n := 16) ok hm (by repeat (first
    | exact Keep.nil
    | apply Keep.drop rfl
    | apply Keep.keep rfl)) ?_))
    refine Sq.pu ok hm Want.none (Pu.loadA hT rfl rfl rfl hb8 (Nat.le_refl 2)) rfl ?_
    (repeat (refine Sq.pu ok hm Want.none (by first
    | exact Pu.fieldAddr hT rfl rfl rfl rfl rfl
    | (apply Pu.load hT rfl rfl rfl; (focus ((repeat (assumption)))); (focus rfl))) rfl ?_))
    refine Sq.call ok Want.none (Op1.call rfl rfl fn30) rfl (FnC.mono (Len_ok (kind := kind) (K := K) (v := w) hw1 hw2 hw64) ?_)
    rintro x M9 ⟨rfl, hF9⟩
    have hn9 := hF9.next
    rw [hly]
    (repeat (first
    | refine Ex.seq ok hm ?_
    | refine Ex.skip ok hm ?_
    | refine Ex.region ok hm ?_
    | refine Sq.pu ok hm Want.none (by first
    | exact Pu.move rfl
    | exact Pu.assign rfl
    | exact Pu.extract rfl rfl
    | exact Pu.neqI rfl rfl) rfl ?_
    | refine Sq.finH (n := 16) ok hm (by repeat (first
    | exact Keep.nil
    | apply Keep.drop rfl
    | apply Keep.keep rfl)) ?_
    | refine Ex.condT ok hm rfl (by rfl) ?_
    | refine Ex.condF ok hm rfl (by rfl) ?_
    | refine Ex.exit ok hm ?_))
    rw [hkn]
    refine ⟨rfl, c, ⟨rfl, rfl, rfl, rfl, trivial⟩, q8, hW8.keep hF9 (by omega) (by simp) (fun k => ⟨hlt8 _ _ (hW8.buf k), by simp⟩), by omega, fun k => (hF9.get 0 (by omega) (by simp)).trans (hg8 k), fun k => (hF9.get c (by have := (hcn k).1; omega) (by simp)).trans (hc8 k), hq8'.1, hc2, fun k => ?_, fun k => ⟨by have := (hcn k).1; omega, fun _ => hq8'.2 k⟩⟩
    have := hlt8 _ _ (hW8.buf k); omega
end Go.Proofs.Ytlhfolmhgghjcaa
