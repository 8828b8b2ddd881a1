/- Towards the laws of this seat: contracts of the program's functions in a logic over a small machine (texts XCx XCw0 XCw1 XCw2 XCw3 XCw4 XCy XCu0). No condition. -/
import Derived.Test.YtlhfolmhgghjcaaXm2
import Derived.Test.YtlhfolmhgghjcaaWvmLgh
/- N -/
namespace Go.Proofs.Ytlhfolmhgghjcaa
open Go.Wvm Bits
set_option linter.unusedVariables false
set_option linter.unusedSimpArgs false

theorem own_ok {ro : Nat} {M : AM} {kind K : Nat} :
    FnC Try.prog tables ro 26 [.agg ⟨[.int .u8 (kind : Int), .int .u64 (K : Int)]⟩] M (fun x M' => x = .agg ⟨[.int .u8 (kind : Int), .int .u64 (K : Int)]⟩ ∧ Fr M M' []) := by
  refine FnC.body (nt := 8) ok hm fn26 rfl rfl ?_
  refine Ex.facts fun hlt hron => ?_
  (repeat (first
    | refine Ex.seq ok hm ?_
    | refine Ex.region ok hm ?_))
  refine Sq.op ok hm Want.none (Op1.box rfl rfl) rfl ?_
  refine Sq.op ok hm Want.none (Op1.alloc hT rfl rfl rfl) rfl ?_
  (repeat (first
    | refine Ex.seq ok hm ?_
    | refine Ex.region ok hm ?_
    | refine Sq.pu ok hm Want.none (by first
    | exact Pu.fieldAddr hT rfl rfl rfl rfl rfl
    | (apply Pu.load hT rfl rfl rfl; (focus ((repeat (first
    | exact AM.add_same
    | apply (AM.add_ne (by (try simp only [AM.next_add, AM.next_upd, AM.next_rm, AM.next_bump]); omega)).trans)))); (focus rfl))) rfl ?_
    | refine Sq.finH (n := 3) ok hm (by repeat (first
    | exact Keep.nil
    | apply Keep.keep rfl)) ?_))
  refine Sq.pu ok hm Want.none (Pu.build hT rfl rfl rfl rfl) rfl ?_
  refine Sq.act ok hm Want.none (Op1.store hT rfl rfl rfl rfl (by (repeat (exact AM.add_same))) (by simp only [AM.next_add]; omega) (Nat.le_of_ble_eq_true rfl) (Nat.le_of_ble_eq_true rfl) rfl) ?_
  (repeat (first
    | refine Sq.finH (n := 3) ok hm (by repeat (first
    | exact Keep.nil
    | apply Keep.drop rfl
    | apply Keep.keep rfl)) ?_
    | refine Ex.ret ok hm ?_))
  exact ⟨_, .cell rfl (hT 58 _ rfl) AM.upd_same rfl (Nat.le_refl _) .nil, rfl, (((Fr.refl _ _).add' _).add' _).upd' _ (.inr (by simp only [AM.next_add]; omega))⟩

theorem check0 {kind K : Nat} (h : checkE kind K = 0) : kind ≤ 4 ∧ (kind = 3 → 1 ≤ K ∧ K ≤ 16) ∧ (kind = 4 → 1 ≤ K ∧ K ≤ 281474976710655) := by
  unfold checkE at h
  split at h
  · exact ⟨by omega, fun k => by omega, fun k => by omega⟩
  · split at h
    · split at h
      · rename_i h3 h4
        exact ⟨by omega, fun _ => h4, fun k => by omega⟩
      · omega
    · split at h
      · split at h
        · rename_i h3 h4 h5
          exact ⟨by omega, fun k => by omega, fun _ => h5⟩
        · omega
      · omega
theorem check01 (kind K : Nat) : checkE kind K = 0 ∨ checkE kind K = 1 := by
  unfold checkE
  split
  · split
    · exact .inl rfl
    · exact .inr rfl
  · split
    · split
      · exact .inl rfl
      · exact .inr rfl
    · split
      · split
        · exact .inl rfl
        · exact .inr rfl
      · exact .inr rfl
def mostE (kind K : Nat) : Nat := if kind = 0 then 65535 else if kind = 4 then K - 1 else 281474976710654

set_option maxHeartbeats 4000000 in
theorem rMost_ok {ro : Nat} {M : AM} {kind K : Nat} (hk : kind < 256) (hK : K < 18446744073709551616) (hc : checkE kind K = 0) :
    FnC Try.prog tables ro 49 [.agg ⟨[.int .u8 (kind : Int), .int .u64 (K : Int)]⟩] M (fun x M' => x = .int .u64 (mostE kind K : Nat) ∧ Fr M M' []) := by
  refine FnC.body (nt := 15) ok hm fn49 rfl rfl ?_
  refine Ex.facts fun hlt hron => ?_
  obtain ⟨c1, c2, c3⟩ := check0 hc
  (repeat (first
    | refine Ex.seq ok hm ?_
    | refine Ex.region ok hm ?_))
  refine Sq.op ok hm Want.none (Op1.box rfl rfl) rfl ?_
  have hb : (M.add (cdO 60 kind K)).get M.next = some (cdO 60 kind K) := AM.add_same
  have hF0 : Fr M (M.add (cdO 60 kind K)) [] := Fr.add _ _ _
  have hn : M.next < (M.add (cdO 60 kind K)).next := Nat.lt_succ_self _
  show Sq Try.prog tables ro ⟨49, 15⟩ _ _ _ (M.add (cdO 60 kind K)) _
  generalize M.add (cdO 60 kind K) = M1 at hb hF0 hn ⊢
  generalize M.next = bp at hb hn ⊢
  (repeat (first
    | refine Ex.seq ok hm ?_
    | refine Ex.region ok hm ?_
    | refine Sq.pu ok hm Want.none (by exact Pu.assign rfl) rfl ?_
    | refine Sq.finH (n := 3) ok hm (by repeat (first
    | exact Keep.nil
    | apply Keep.keep rfl)) ?_))
  refine Sq.pu ok hm Want.none (Pu.loadA hT rfl rfl rfl hb (Nat.le_refl 2)) rfl ?_
  refine Sq.call ok Want.none (Op1.call rfl rfl fn47) rfl (FnC.mono (rCheck_ok (kind := kind) (K := K) hk hK) ?_)
  rintro x M2 ⟨rfl, hF2⟩
  rw [hc]
  have hb2 := (hF2.get bp hn (by simp)).trans hb
  by_cases k0 : kind = 0
  · have e : mostE kind K = 65535 := if_pos k0
    rw [e]
    (repeat (first
    | refine Ex.seq ok hm ?_
    | refine Ex.block ok hm ?_
    | refine Ex.skip ok hm ?_
    | refine Ex.region ok hm ?_
    | refine Sq.pu ok hm Want.none (by first
    | exact Pu.assign rfl
    | exact Pu.fieldAddr hT rfl rfl rfl rfl rfl
    | (apply Pu.load hT rfl rfl rfl; (focus ((repeat (assumption)))); (focus rfl))
    | exact Pu.eqlI rfl rfl
    | exact Pu.neqI rfl rfl) rfl ?_
    | refine Sq.finH (n := 8) ok hm (by repeat (first
    | exact Keep.nil
    | apply Keep.drop rfl
    | apply Keep.keep rfl)) ?_
    | refine Ex.condT ok hm rfl (by first
    | rfl
    | exact decide_eq_true (by omega)) ?_
    | refine Ex.condF ok hm rfl (by rfl) ?_
    | refine Ex.ret ok hm ?_))
    exact ⟨_, .tmp rfl .nil, rfl, hF0.trans hF2 (by simp)⟩
  · by_cases k4 : kind = 4
    · have e : mostE kind K = K - 1 := by unfold mostE; rw [if_neg k0, if_pos k4]
      rw [e]
      have := c3 k4
      (repeat (first
    | refine Ex.seq ok hm ?_
    | refine Ex.block ok hm ?_
    | refine Ex.skip ok hm ?_
    | refine Ex.region ok hm ?_
    | refine Sq.pu ok hm Want.none (by first
    | exact Pu.assign rfl
    | exact Pu.fieldAddr hT rfl rfl rfl rfl rfl
    | (apply Pu.load hT rfl rfl rfl; (focus ((repeat (assumption)))); (focus rfl))
    | exact Pu.eqlI rfl rfl
    | exact Pu.neqI rfl rfl) rfl ?_
    | refine Sq.finH (n := 8) ok hm (by repeat (first
    | exact Keep.nil
    | apply Keep.drop rfl
    | apply Keep.keep rfl)) ?_
    | refine Ex.condT ok hm rfl (by first
    | rfl
    | exact decide_eq_true (by omega)) ?_
    | refine Ex.condF ok hm rfl (by first
    | rfl
    | exact decide_eq_false (by omega)) ?_))
      refine Sq.pu ok hm Want.none (Pu.subN (a := K) (b := 1) rfl rfl (by omega) (by simp only [InR]; omega)) rfl ?_
      (repeat (first
    | refine Sq.pu ok hm Want.none (by exact Pu.assign rfl) rfl ?_
    | refine Sq.finH (n := 8) ok hm (by repeat (first
    | exact Keep.nil
    | apply Keep.drop rfl
    | apply Keep.keep rfl)) ?_
    | refine Ex.ret ok hm ?_))
      exact ⟨_, .tmp rfl .nil, rfl, hF0.trans hF2 (by simp)⟩
    · have e : mostE kind K = 281474976710654 := by unfold mostE; rw [if_neg k0, if_neg k4]
      rw [e]
      (repeat (first
    | refine Ex.seq ok hm ?_
    | refine Ex.block ok hm ?_
    | refine Ex.skip ok hm ?_
    | refine Ex.region ok hm ?_
    | refine Sq.pu ok hm Want.none (by first
    | exact Pu.assign rfl
    | exact Pu.fieldAddr hT rfl rfl rfl rfl rfl
    | (apply Pu.load hT rfl rfl rfl; (focus ((repeat (assumption)))); (focus rfl))
    | exact Pu.eqlI rfl rfl
    | exact Pu.neqI rfl rfl) rfl ?_
    | refine Sq.finH (n := 8) ok hm (by repeat (first
    | exact Keep.nil
    | apply Keep.drop rfl
    | apply Keep.keep rfl)) ?_
    | refine Ex.condF ok hm rfl (by first
    | rfl
    | exact decide_eq_false (by omega)) ?_
    | refine Ex.ret ok hm ?_))
      exact ⟨_, .tmp rfl .nil, rfl, hF0.trans hF2 (by simp)⟩

theorem rest48 {s : List UInt8} {b a : Nat} {x : Nat × Nat} (hb : b ≤ 47) (h : restT s b a = some x) : x.1 ≤ 281474976710654 := by
  have h1 := (restT_le h).2
  have h2 : 2 ^ (b + 1) ≤ 2 ^ 48 := Nat.pow_le_pow_right (by decide) (by omega)
  omega
/-- What the document reads, held to the greatest number, is what is read. -/
theorem ref_read {s : List UInt8} {kind K a : Nat} (hc : checkE kind K = 0) (ha : a ≤ 8 * s.length) :
    (∀ w, refT s kind K a = some w → mostE kind K < w.1 → readT s kind K a = none) ∧ (∀ w, refT s kind K a = some w → ¬ mostE kind K < w.1 → readT s kind K a = some w) ∧ (refT s kind K a = none → readT s kind K a = none) := by
  obtain ⟨c1, c2, c3⟩ := check0 hc
  have same : ∀ {o : Option (Nat × Nat)}, refT s kind K a = o → readT s kind K a = o → (∀ w, o = some w → w.1 ≤ mostE kind K) →
      (∀ w, refT s kind K a = some w → mostE kind K < w.1 → readT s kind K a = none) ∧ (∀ w, refT s kind K a = some w → ¬ mostE kind K < w.1 → readT s kind K a = some w) ∧ (refT s kind K a = none → readT s kind K a = none) := by
    intro o e1 e2 hm
    rw [e1, e2]
    exact ⟨fun w hw hlt => absurd (hm w hw) (by omega), fun w hw _ => hw, fun h => h⟩
  by_cases k0 : kind = 0
  · refine same (o := unaT s 65536 0 a) (by unfold refT; rw [if_pos k0]) (by unfold readT; rw [if_pos k0]) fun w hw => ?_
    have := unaT_le _ 0 a hw
    have e : mostE kind K = 65535 := if_pos k0
    omega
  by_cases k1 : kind = 1
  · refine same (o := gammaT s a) (by unfold refT; rw [if_neg k0, if_pos k1]) (by unfold readT; rw [if_neg k0, if_pos k1]) fun w hw => ?_
    have e : mostE kind K = 281474976710654 := by unfold mostE; rw [if_neg k0, if_neg (by omega)]
    unfold gammaT at hw
    cases ho : unaT s 48 0 a with
    | none => rw [ho] at hw; cases hw
    | some y =>
      rw [ho] at hw
      have := unaT_le _ 0 a ho
      have := rest48 (by omega) hw
      omega
  by_cases k2 : kind = 2
  · refine same (o := deltaT s a) (by unfold refT; rw [if_neg k0, if_neg k1, if_pos k2]) (by unfold readT; rw [if_neg k0, if_neg k1, if_pos k2]) fun w hw => ?_
    have e : mostE kind K = 281474976710654 := by unfold mostE; rw [if_neg k0, if_neg (by omega)]
    unfold deltaT at hw
    cases ho : gammaT s a with
    | none => rw [ho] at hw; cases hw
    | some y =>
      rw [ho] at hw
      simp only [Option.bind_some] at hw
      split at hw
      · cases hw
      · have := rest48 (by omega) hw
        omega
  by_cases k3 : kind = 3
  · have e : mostE kind K = 281474976710654 := by unfold mostE; rw [if_neg k0, if_neg (by omega)]
    have e1 : refT s kind K a = zetaR s K a := by unfold refT; rw [if_neg k0, if_neg k1, if_neg k2, if_pos k3]
    have e2 : readT s kind K a = zetaT s K a := by unfold readT; rw [if_neg k0, if_neg k1, if_neg k2, if_pos k3]
    rw [e, e1, e2]
    unfold zetaR zetaT
    cases ho : unaT s (47 / K + 1) 0 a with
    | none => exact ⟨fun w h => (by cases h), fun w h => (by cases h), fun _ => rfl⟩
    | some y =>
      simp only [Option.bind_some]
      cases ho2 : minT s (2 ^ ((y.1 + 1) * K) - 2 ^ (y.1 * K)) y.2 with
      | none => exact ⟨fun w h => (by cases h), fun w h => (by cases h), fun _ => rfl⟩
      | some z =>
        simp only [Option.map_some, Option.bind_some]
        refine ⟨fun w h hlt => ?_, fun w h hlt => ?_, fun h => (by cases h)⟩
        · cases h
          rw [if_pos hlt]
        · cases h
          rw [if_neg hlt]
  · have k4 : kind = 4 := by omega
    refine same (o := minT s K a) (by unfold refT; rw [if_neg k0, if_neg k1, if_neg k2, if_neg k3]) (by unfold readT; rw [if_neg k0, if_neg k1, if_neg k2, if_neg k3]) fun w hw => ?_
    have := minT_le (c3 k4).1 ha hw
    have e : mostE kind K = K - 1 := by unfold mostE; rw [if_neg k0, if_pos k4]
    omega
end Go.Proofs.Ytlhfolmhgghjcaa
/- N -/
namespace Go.Proofs.Ytlhfolmhgghjcaa
open Go.Wvm Bits
set_option linter.unusedVariables false
set_option linter.unusedSimpArgs false

set_option maxHeartbeats 16000000 in
theorem rread0_ok {ro : Nat} {M : AM} {q c a kind K : Nat} {s : List UInt8} (hr : ro ≤ q) (h : RqAt M q c s a) (ha : a ≤ 8 * s.length) (hs : s.length ≤ 1048576)
    (hcl : 8 * s.length ≠ 0 → c < M.next) (k0 : kind = 0) (hKb : K < 18446744073709551616) :
    FnC Try.prog tables ro 48 [.pointer (some ⟨q, 0, none⟩), .agg ⟨[.int .u8 (kind : Int), .int .u64 (K : Int)]⟩] M (fun x M' => QOut s M M' q c .u64 (refT s kind K a) x) := by
  refine FnC.facts fun hlt hron => ?_
  refine FnC.body (nt := 132) ok hm fn48 rfl rfl ?_
  have hql := hlt _ _ h.row
  have h1 : RqAt (M.add (cdO 60 kind K)) q c s a := ⟨(AM.add_ne (by omega)).trans h.row, fun k => (AM.add_ne (by have := hcl k; omega)).trans (h.buf k), h.ne⟩
  have hb1 : (M.add (cdO 60 kind K)).get M.next = some (cdO 60 kind K) := AM.add_same
  have hF0 : Fr M (M.add (cdO 60 kind K)) [q] := Fr.add _ _ _
  have hn1 : (M.add (cdO 60 kind K)).next = M.next + 1 := rfl
  (repeat (first
    | refine Ex.seq ok hm ?_
    | refine Ex.region ok hm ?_))
  refine Sq.op ok hm Want.none (Op1.box rfl rfl) rfl ?_
  show Sq Try.prog tables ro ⟨48, 132⟩ _ _ _ (M.add (cdO 60 kind K)) _
  generalize M.add (cdO 60 kind K) = M1 at h1 hb1 hF0 hn1 ⊢
  generalize hbp : M.next = bp at hql hb1 hn1 ⊢
  have wrap : ∀ {M2 : AM} {k : IntKind} {o : Option (Nat × Nat)} {v : Nat} {b : Bool} {a' : Nat}, RqAt M2 q c s a' → a' ≤ 8 * s.length → Fr M1 M2 [q] → v < 18446744073709551616 → (match o with | some w => v = w.1 ∧ b = true ∧ a' = w.2 | none => b = false) → QOut s M M2 q c k o (.tuple ⟨[.int k (v : Int), .bool b]⟩) :=
    fun g1 g2 g3 g4 g5 => ⟨_, _, _, rfl, g1, g2, hF0.trans g3 (by simp), g4, g5⟩
  have e : refT s kind K a = unaT s 65536 0 a := if_pos k0
  rw [e]
  (repeat (first
    | refine Ex.seq ok hm ?_
    | refine Ex.block ok hm ?_
    | refine Ex.region ok hm ?_
    | refine Sq.pu ok hm Want.none (by first
    | exact Pu.move rfl
    | exact Pu.assign rfl
    | exact Pu.fieldAddr hT rfl rfl rfl rfl rfl
    | (apply Pu.load hT rfl rfl rfl; (focus ((repeat (assumption)))); (focus rfl))
    | exact Pu.eqlI rfl rfl) rfl ?_
    | refine Sq.finH (n := 22) ok hm (by repeat (first
    | exact Keep.nil
    | apply Keep.drop rfl
    | apply Keep.keep rfl)) ?_
    | refine Ex.condT ok hm rfl (by first
    | rfl
    | exact decide_eq_true (by omega)) ?_))
  refine Sq.call ok Want.none (Op1.call rfl rfl fn60) rfl (FnC.mono (zeros_ok (most := 65535) hr h1 ha hs (by decide)) ?_)
  rintro x M2 ⟨v, b, a1, rfl, h2, ha1, hF1, hv, hmm⟩
  (repeat (first
    | refine Ex.seq ok hm ?_
    | refine Ex.region ok hm ?_
    | refine Sq.pu ok hm Want.none (by first
    | exact Pu.move rfl
    | exact Pu.assign rfl
    | exact Pu.extract rfl rfl
    | exact Pu.convN hT rfl rfl rfl (by simp only [InR]; omega)) rfl ?_
    | refine Sq.finH (n := 22) ok hm (by repeat (first
    | exact Keep.nil
    | apply Keep.drop rfl
    | apply Keep.keep rfl)) ?_
    | refine Ex.ret ok hm ?_))
  (repeat (fail))
  exact ⟨_, .tmp rfl (.tmp rfl .nil), wrap h2 ha1 hF1 hv hmm⟩
end Go.Proofs.Ytlhfolmhgghjcaa
/- N -/
namespace Go.Proofs.Ytlhfolmhgghjcaa
open Go.Wvm Bits
set_option linter.unusedVariables false
set_option linter.unusedSimpArgs false

set_option maxHeartbeats 16000000 in
theorem rread1_ok {ro : Nat} {M : AM} {q c a kind K : Nat} {s : List UInt8} (hr : ro ≤ q) (h : RqAt M q c s a) (ha : a ≤ 8 * s.length) (hs : s.length ≤ 1048576)
    (hcl : 8 * s.length ≠ 0 → c < M.next) (k1 : kind = 1) (hKb : K < 18446744073709551616) :
    FnC Try.prog tables ro 48 [.pointer (some ⟨q, 0, none⟩), .agg ⟨[.int .u8 (kind : Int), .int .u64 (K : Int)]⟩] M (fun x M' => QOut s M M' q c .u64 (refT s kind K a) x) := by
  refine FnC.facts fun hlt hron => ?_
  refine FnC.body (nt := 132) ok hm fn48 rfl rfl ?_
  have hql := hlt _ _ h.row
  have h1 : RqAt (M.add (cdO 60 kind K)) q c s a := ⟨(AM.add_ne (by omega)).trans h.row, fun k => (AM.add_ne (by have := hcl k; omega)).trans (h.buf k), h.ne⟩
  have hb1 : (M.add (cdO 60 kind K)).get M.next = some (cdO 60 kind K) := AM.add_same
  have hF0 : Fr M (M.add (cdO 60 kind K)) [q] := Fr.add _ _ _
  have hn1 : (M.add (cdO 60 kind K)).next = M.next + 1 := rfl
  (repeat (first
    | refine Ex.seq ok hm ?_
    | refine Ex.region ok hm ?_))
  refine Sq.op ok hm Want.none (Op1.box rfl rfl) rfl ?_
  show Sq Try.prog tables ro ⟨48, 132⟩ _ _ _ (M.add (cdO 60 kind K)) _
  generalize M.add (cdO 60 kind K) = M1 at h1 hb1 hF0 hn1 ⊢
  generalize hbp : M.next = bp at hql hb1 hn1 ⊢
  have wrap : ∀ {M2 : AM} {k : IntKind} {o : Option (Nat × Nat)} {v : Nat} {b : Bool} {a' : Nat}, RqAt M2 q c s a' → a' ≤ 8 * s.length → Fr M1 M2 [q] → v < 18446744073709551616 → (match o with | some w => v = w.1 ∧ b = true ∧ a' = w.2 | none => b = false) → QOut s M M2 q c k o (.tuple ⟨[.int k (v : Int), .bool b]⟩) :=
    fun g1 g2 g3 g4 g5 => ⟨_, _, _, rfl, g1, g2, hF0.trans g3 (by simp), g4, g5⟩
  have k0 : ¬ kind = 0 := by omega
  have e : refT s kind K a = gammaT s a := by unfold refT; rw [if_neg k0, if_pos k1]
  rw [e]
  have hg : gammaT s a = (unaT s 48 0 a).bind fun x => restT s x.1 x.2 := rfl
  (repeat (first
    | refine Ex.seq ok hm ?_
    | refine Ex.block ok hm ?_
    | refine Ex.skip ok hm ?_
    | refine Ex.region ok hm ?_
    | refine Sq.pu ok hm Want.none (by first
    | exact Pu.move rfl
    | exact Pu.assign rfl
    | exact Pu.fieldAddr hT rfl rfl rfl rfl rfl
    | (apply Pu.load hT rfl rfl rfl; (focus ((repeat (assumption)))); (focus rfl))
    | exact Pu.eqlI rfl rfl) rfl ?_
    | refine Sq.finH (n := 22) ok hm (by repeat (first
    | exact Keep.nil
    | apply Keep.drop rfl
    | apply Keep.keep rfl)) ?_
    | refine Ex.condT ok hm rfl (by first
    | rfl
    | exact decide_eq_true (by omega)) ?_
    | refine Ex.condF ok hm rfl (by first
    | rfl
    | exact decide_eq_false (by omega)) ?_))
  refine Sq.call ok Want.none (Op1.call rfl rfl fn60) rfl (FnC.mono (zeros_ok (most := 47) hr h1 ha hs (by decide)) ?_)
  rintro x M2 ⟨v, b, a1, rfl, h2, ha1, hF1, hv, hmm⟩
  have hb2 := (hF1.get bp (by omega) (by simp; omega)).trans hb1
  cases ho : unaT s 48 0 a with
  | none =>
    rw [ho] at hg
    rw [show unaT s (47 + 1) 0 a = none from ho] at hmm
    obtain rfl : b = false := hmm
    (repeat (first
    | refine Ex.seq ok hm ?_
    | refine Ex.skip ok hm ?_
    | refine Ex.region ok hm ?_
    | refine Sq.pu ok hm Want.none (by first
    | exact Pu.move rfl
    | exact Pu.assign rfl
    | exact Pu.fieldAddr hT rfl rfl rfl rfl rfl
    | (apply Pu.load hT rfl rfl rfl; (focus ((repeat (assumption)))); (focus rfl))
    | exact Pu.extract rfl rfl
    | exact Pu.eqlI rfl rfl
    | exact Pu.not rfl
    | exact Pu.pickF rfl (by first
    | rfl
    | exact decide_eq_false (by omega)) rfl) rfl ?_
    | refine Sq.skip ok hm (by exact Want.no rfl rfl rfl (by first
    | rfl
    | exact decide_eq_false (by omega))) rfl ?_
    | refine Sq.finH (n := 22) ok hm (by repeat (first
    | exact Keep.nil
    | apply Keep.drop rfl
    | apply Keep.keep rfl)) ?_
    | refine Ex.condT ok hm rfl (by rfl) ?_
    | refine Ex.condF ok hm rfl (by rfl) ?_
    | refine Ex.ret ok hm ?_))
    exact ⟨_, .tmp rfl (.tmp rfl .nil), wrap (v := 0) h2 ha1 hF1 (by decide) (by rw [hg]; rfl)⟩
  | some w =>
    rw [ho] at hg
    rw [show unaT s (47 + 1) 0 a = some w from ho] at hmm
    obtain ⟨rfl, rfl, rfl⟩ : v = w.1 ∧ b = true ∧ a1 = w.2 := hmm
    have hle := unaT_le 48 0 a ho
    obtain ⟨wv, wa⟩ := w
    simp only at h2 ha1 hle hv hg
    simp only [Option.bind_some] at hg
    have hp : 2 ^ wv ≤ 2 ^ 47 := Nat.pow_le_pow_right (by decide) (by omega)
    have hp0 := Nat.two_pow_pos wv
    have hlt2 := midT_lt s wa wv
    (repeat (first
    | refine Ex.seq ok hm ?_
    | refine Ex.skip ok hm ?_
    | refine Ex.region ok hm ?_
    | refine Sq.pu ok hm Want.none (by first
    | exact Pu.move rfl
    | exact Pu.assign rfl
    | exact Pu.fieldAddr hT rfl rfl rfl rfl rfl
    | (apply Pu.load hT rfl rfl rfl; (focus ((repeat (assumption)))); (focus rfl))
    | exact Pu.extract rfl rfl
    | exact Pu.eqlI rfl rfl
    | exact Pu.not rfl
    | exact Pu.pickF rfl (by first
    | rfl
    | exact decide_eq_false (by omega)) rfl) rfl ?_
    | refine Sq.skip ok hm (by exact Want.no rfl rfl rfl (by first
    | rfl
    | exact decide_eq_false (by omega))) rfl ?_
    | refine Sq.finH (n := 22) ok hm (by repeat (first
    | exact Keep.nil
    | apply Keep.drop rfl
    | apply Keep.keep rfl)) ?_
    | refine Ex.condF ok hm rfl (by rfl) ?_))
    refine Sq.call ok Want.none (Op1.call rfl rfl fn34) rfl (FnC.mono (rtake2 (n := wv) hr h2 (by omega) ha1 hs) ?_)
    rintro x M3 ⟨hF2, ⟨hbb, rfl, h3⟩ | ⟨hbb, rfl, h3⟩⟩
    · have ht : restT s wv wa = some (2 ^ wv + valB (midT s wa wv) - 1, wa + wv) := by unfold restT; rw [takeO_yes hbb]; rfl
      generalize valB (midT s wa wv) = y at hlt2 ht ⊢
      (repeat (first
    | refine Ex.seq ok hm ?_
    | refine Ex.region ok hm ?_
    | refine Sq.pu ok hm Want.none (by first
    | exact Pu.move rfl
    | exact Pu.assign rfl
    | exact Pu.extract rfl rfl) rfl ?_
    | refine Sq.finH (n := 22) ok hm (by repeat (first
    | exact Keep.nil
    | apply Keep.drop rfl
    | apply Keep.keep rfl)) ?_))
      refine Sq.pu ok hm Want.none (Pu.shlN (a := 1) (b := wv) rfl rfl (by show wv ≤ 64; omega) (by simp only [InR]; omega)) rfl ?_
      rw [Nat.one_mul]
      refine Sq.pu ok hm Want.none (Pu.addN (a := y) (b := 2 ^ wv) rfl rfl (by simp only [InR]; omega)) rfl ?_
      refine Sq.pu ok hm Want.none (Pu.subN (a := y + 2 ^ wv) (b := 1) rfl rfl (by omega) (by simp only [InR]; omega)) rfl ?_
      (repeat (first
    | refine Sq.pu ok hm Want.none (by first
    | exact Pu.move rfl
    | exact Pu.assign rfl
    | exact Pu.eqlI rfl rfl) rfl ?_
    | refine Sq.finH (n := 22) ok hm (by repeat (first
    | exact Keep.nil
    | apply Keep.drop rfl
    | apply Keep.keep rfl)) ?_
    | refine Ex.ret ok hm ?_))
      refine ⟨_, .tmp rfl (.tmp rfl .nil), wrap (v := y + 2 ^ wv - 1) (b := true) h3 hbb (hF1.trans hF2 (by simp)) (by omega) ?_⟩
      rw [hg, ht]; exact ⟨by simp only; omega, rfl, rfl⟩
    · have ht : restT s wv wa = none := by unfold restT; rw [takeO_no hbb]; rfl
      (repeat (first
    | refine Ex.seq ok hm ?_
    | refine Ex.region ok hm ?_
    | refine Sq.pu ok hm Want.none (by first
    | exact Pu.move rfl
    | exact Pu.assign rfl
    | exact Pu.extract rfl rfl) rfl ?_
    | refine Sq.finH (n := 22) ok hm (by repeat (first
    | exact Keep.nil
    | apply Keep.drop rfl
    | apply Keep.keep rfl)) ?_))
      refine Sq.pu ok hm Want.none (Pu.shlN (a := 1) (b := wv) rfl rfl (by show wv ≤ 64; omega) (by simp only [InR]; omega)) rfl ?_
      rw [Nat.one_mul]
      refine Sq.pu ok hm Want.none (Pu.addN (a := 0) (b := 2 ^ wv) rfl rfl (by simp only [InR]; omega)) rfl ?_
      refine Sq.pu ok hm Want.none (Pu.subN (a := 0 + 2 ^ wv) (b := 1) rfl rfl (by omega) (by simp only [InR]; omega)) rfl ?_
      (repeat (first
    | refine Sq.pu ok hm Want.none (by first
    | exact Pu.move rfl
    | exact Pu.assign rfl
    | exact Pu.eqlI rfl rfl) rfl ?_
    | refine Sq.finH (n := 22) ok hm (by repeat (first
    | exact Keep.nil
    | apply Keep.drop rfl
    | apply Keep.keep rfl)) ?_
    | refine Ex.ret ok hm ?_))
      refine ⟨_, .tmp rfl (.tmp rfl .nil), wrap (v := 0 + 2 ^ wv - 1) (b := false) h3 ha1 (hF1.trans hF2 (by simp)) (by omega) ?_⟩
      rw [hg, ht]
end Go.Proofs.Ytlhfolmhgghjcaa
/- N -/
namespace Go.Proofs.Ytlhfolmhgghjcaa
open Go.Wvm Bits
set_option linter.unusedVariables false
set_option linter.unusedSimpArgs false

set_option maxHeartbeats 16000000 in
theorem rread2_ok {ro : Nat} {M : AM} {q c a kind K : Nat} {s : List UInt8} (hr : ro ≤ q) (h : RqAt M q c s a) (ha : a ≤ 8 * s.length) (hs : s.length ≤ 1048576)
    (hcl : 8 * s.length ≠ 0 → c < M.next) (k2 : kind = 2) (hKb : K < 18446744073709551616) :
    FnC Try.prog tables ro 48 [.pointer (some ⟨q, 0, none⟩), .agg ⟨[.int .u8 (kind : Int), .int .u64 (K : Int)]⟩] M (fun x M' => QOut s M M' q c .u64 (refT s kind K a) x) := by
  refine FnC.facts fun hlt hron => ?_
  refine FnC.body (nt := 132) ok hm fn48 rfl rfl ?_
  have hql := hlt _ _ h.row
  have h1 : RqAt (M.add (cdO 60 kind K)) q c s a := ⟨(AM.add_ne (by omega)).trans h.row, fun k => (AM.add_ne (by have := hcl k; omega)).trans (h.buf k), h.ne⟩
  have hb1 : (M.add (cdO 60 kind K)).get M.next = some (cdO 60 kind K) := AM.add_same
  have hF0 : Fr M (M.add (cdO 60 kind K)) [q] := Fr.add _ _ _
  have hn1 : (M.add (cdO 60 kind K)).next = M.next + 1 := rfl
  (repeat (first
    | refine Ex.seq ok hm ?_
    | refine Ex.region ok hm ?_))
  refine Sq.op ok hm Want.none (Op1.box rfl rfl) rfl ?_
  show Sq Try.prog tables ro ⟨48, 132⟩ _ _ _ (M.add (cdO 60 kind K)) _
  generalize M.add (cdO 60 kind K) = M1 at h1 hb1 hF0 hn1 ⊢
  generalize hbp : M.next = bp at hql hb1 hn1 ⊢
  have wrap : ∀ {M2 : AM} {k : IntKind} {o : Option (Nat × Nat)} {v : Nat} {b : Bool} {a' : Nat}, RqAt M2 q c s a' → a' ≤ 8 * s.length → Fr M1 M2 [q] → v < 18446744073709551616 → (match o with | some w => v = w.1 ∧ b = true ∧ a' = w.2 | none => b = false) → QOut s M M2 q c k o (.tuple ⟨[.int k (v : Int), .bool b]⟩) :=
    fun g1 g2 g3 g4 g5 => ⟨_, _, _, rfl, g1, g2, hF0.trans g3 (by simp), g4, g5⟩
  have e : refT s kind K a = deltaT s a := by unfold refT; rw [if_neg (by omega), if_neg (by omega), if_pos k2]
  rw [e]
  have hg : deltaT s a = ((unaT s 48 0 a).bind fun x => restT s x.1 x.2).bind fun x => if 47 < x.1 then none else restT s x.1 x.2 := rfl
  (repeat (first
    | refine Ex.seq ok hm ?_
    | refine Ex.block ok hm ?_
    | refine Ex.region ok hm ?_
    | refine Sq.pu ok hm Want.none (by first
    | exact Pu.move rfl
    | exact Pu.assign rfl
    | exact Pu.fieldAddr hT rfl rfl rfl rfl rfl
    | (apply Pu.load hT rfl rfl rfl; (focus ((repeat (assumption)))); (focus rfl))
    | exact Pu.eqlI rfl rfl) rfl ?_
    | refine Sq.finH (n := 22) ok hm (by repeat (first
    | exact Keep.nil
    | apply Keep.drop rfl
    | apply Keep.keep rfl)) ?_
    | refine Ex.condT ok hm rfl (by first
    | rfl
    | exact decide_eq_true (by omega)) ?_
    | refine Ex.condF ok hm rfl (by first
    | rfl
    | exact decide_eq_false (by omega)) ?_))
  refine Sq.call ok Want.none (Op1.call rfl rfl fn60) rfl (FnC.mono (zeros_ok (most := 47) hr h1 ha hs (by decide)) ?_)
  rintro x M2 ⟨v, b, a1, rfl, h2, ha1, hF1, hv, hmm⟩
  have hb2 := (hF1.get bp (by omega) (by simp; omega)).trans hb1
  have hn2 := hF1.next
  cases ho : unaT s 48 0 a with
  | none =>
    rw [ho] at hg
    rw [show unaT s (47 + 1) 0 a = none from ho] at hmm
    obtain rfl : b = false := hmm
    (repeat (first
    | refine Ex.seq ok hm ?_
    | refine Ex.skip ok hm ?_
    | refine Ex.region ok hm ?_
    | refine Sq.pu ok hm Want.none (by first
    | exact Pu.move rfl
    | exact Pu.assign rfl
    | exact Pu.fieldAddr hT rfl rfl rfl rfl rfl
    | (apply Pu.load hT rfl rfl rfl; (focus ((repeat (assumption)))); (focus rfl))
    | exact Pu.extract rfl rfl
    | exact Pu.eqlI rfl rfl
    | exact Pu.not rfl
    | exact Pu.pickT rfl (by first
    | rfl
    | exact decide_eq_true (by omega)) rfl) rfl ?_
    | refine Sq.pu ok hm (by exact Want.yes rfl rfl rfl (by first
    | rfl
    | exact decide_eq_true (by omega))) (by exact Pu.move rfl) rfl ?_
    | refine Sq.finH (n := 22) ok hm (by repeat (first
    | exact Keep.nil
    | apply Keep.drop rfl
    | apply Keep.keep rfl)) ?_
    | refine Ex.condT ok hm rfl (by rfl) ?_
    | refine Ex.condF ok hm rfl (by rfl) ?_
    | refine Ex.ret ok hm ?_))
    exact ⟨_, .tmp rfl (.tmp rfl .nil), wrap (v := 0) h2 ha1 hF1 (by decide) (by rw [hg]; rfl)⟩
  | some w =>
    rw [ho] at hg
    rw [show unaT s (47 + 1) 0 a = some w from ho] at hmm
    obtain ⟨rfl, rfl, rfl⟩ : v = w.1 ∧ b = true ∧ a1 = w.2 := hmm
    have hle := unaT_le 48 0 a ho
    obtain ⟨wv, wa⟩ := w
    simp only at h2 ha1 hle hv hg
    simp only [Option.bind_some] at hg
    have hp : 2 ^ wv ≤ 2 ^ 47 := Nat.pow_le_pow_right (by decide) (by omega)
    have hp0 := Nat.two_pow_pos wv
    have hlt2 := midT_lt s wa wv
    (repeat (first
    | refine Ex.seq ok hm ?_
    | refine Ex.region ok hm ?_
    | refine Sq.pu ok hm Want.none (by first
    | exact Pu.move rfl
    | exact Pu.assign rfl
    | exact Pu.fieldAddr hT rfl rfl rfl rfl rfl
    | (apply Pu.load hT rfl rfl rfl; (focus ((repeat (assumption)))); (focus rfl))
    | exact Pu.extract rfl rfl
    | exact Pu.eqlI rfl rfl
    | exact Pu.pickT rfl (by first
    | rfl
    | exact decide_eq_true (by omega)) rfl) rfl ?_
    | refine Sq.pu ok hm (by first
    | exact Want.none
    | exact Want.yes rfl rfl rfl (by first
    | rfl
    | exact decide_eq_true (by omega))) (by exact Pu.move rfl) rfl ?_
    | refine Sq.finH (n := 22) ok hm (by repeat (first
    | exact Keep.nil
    | apply Keep.drop rfl
    | apply Keep.keep rfl)) ?_
    | refine Ex.condT ok hm rfl (by rfl) ?_))
    refine Sq.call ok Want.none (Op1.call rfl rfl fn34) rfl (FnC.mono (rtake2 (n := wv) hr h2 (by omega) ha1 hs) ?_)
    rintro x M3 ⟨hF2, ⟨hbb, rfl, h3⟩ | ⟨hbb, rfl, h3⟩⟩
    · have ht : restT s wv wa = some (2 ^ wv + valB (midT s wa wv) - 1, wa + wv) := by unfold restT; rw [takeO_yes hbb]; rfl
      rw [ht] at hg
      simp only [Option.bind_some] at hg
      generalize valB (midT s wa wv) = y at hlt2 hg ⊢
      (repeat (first
    | refine Ex.seq ok hm ?_
    | refine Ex.region ok hm ?_
    | refine Sq.pu ok hm Want.none (by first
    | exact Pu.move rfl
    | exact Pu.assign rfl
    | exact Pu.extract rfl rfl
    | exact Pu.neqI rfl rfl) rfl ?_
    | refine Sq.pu ok hm (by exact Want.yes rfl rfl rfl (by rfl)) (by exact Pu.move rfl) rfl ?_
    | refine Sq.finH (n := 22) ok hm (by repeat (first
    | exact Keep.nil
    | apply Keep.drop rfl
    | apply Keep.keep rfl)) ?_))
      refine Sq.pu ok hm (by exact Want.yes rfl rfl rfl (by rfl)) (Pu.shlN (a := 1) (b := wv) rfl rfl (by show wv ≤ 64; omega) (by simp only [InR]; omega)) rfl ?_
      rw [Nat.one_mul]
      refine Sq.pu ok hm (by exact Want.yes rfl rfl rfl (by rfl)) (Pu.addN (a := y) (b := 2 ^ wv) rfl rfl (by simp only [InR]; omega)) rfl ?_
      refine Sq.pu ok hm (by exact Want.yes rfl rfl rfl (by rfl)) (Pu.subN (a := y + 2 ^ wv) (b := 1) rfl rfl (by omega) (by simp only [InR]; omega)) rfl ?_
      by_cases hbig : 47 < y + 2 ^ wv - 1
      · rw [if_pos (by omega)] at hg
        (repeat (first
    | refine Ex.seq ok hm ?_
    | refine Ex.region ok hm ?_
    | refine Sq.pu ok hm Want.none (by first
    | exact Pu.move rfl
    | exact Pu.assign rfl
    | exact Pu.gtrI rfl rfl
    | exact Pu.pickT rfl (by first
    | rfl
    | exact decide_eq_true (by omega)) rfl
    | exact Pu.pickF rfl (by rfl) rfl) rfl ?_
    | refine Sq.pu ok hm (by exact Want.yes rfl rfl rfl (by rfl)) (by exact Pu.gtrI rfl rfl) rfl ?_
    | refine Sq.skip ok hm (by exact Want.no rfl rfl rfl (by first
    | rfl
    | exact decide_eq_true (by omega))) rfl ?_
    | refine Sq.finH (n := 22) ok hm (by repeat (first
    | exact Keep.nil
    | apply Keep.drop rfl
    | apply Keep.keep rfl)) ?_
    | refine Ex.condT ok hm rfl (by rfl) ?_
    | refine Ex.ret ok hm ?_))
        exact ⟨_, .tmp rfl (.tmp rfl .nil), wrap (v := 0) h3 hbb (hF1.trans hF2 (by simp)) (by decide) (by rw [hg])⟩
      · rw [if_neg (by omega)] at hg
        have hw5 : wv ≤ 5 := by
          refine Nat.le_of_not_lt fun k => ?_
          have : 2 ^ 6 ≤ 2 ^ wv := Nat.pow_le_pow_right (by decide) k
          omega
        (repeat (first
    | refine Ex.skip ok hm ?_
    | refine Ex.region ok hm ?_
    | refine Sq.pu ok hm Want.none (by first
    | exact Pu.move rfl
    | exact Pu.gtrI rfl rfl
    | exact Pu.pickF rfl (by first
    | rfl
    | exact decide_eq_false (by omega)) rfl) rfl ?_
    | refine Sq.pu ok hm (by first
    | exact Want.none
    | exact Want.yes rfl rfl rfl (by first
    | rfl
    | exact decide_eq_false (by omega))) (by first
    | exact Pu.move rfl
    | exact Pu.gtrI rfl rfl) rfl ?_
    | refine Sq.finH (n := 22) ok hm (by repeat (first
    | exact Keep.nil
    | apply Keep.drop rfl
    | apply Keep.keep rfl)) ?_
    | refine Ex.condF ok hm rfl (by first
    | rfl
    | exact decide_eq_false (by omega)) ?_))
        refine Sq.pu ok hm Want.none (Pu.shlN (a := 1) (b := wv) rfl rfl (by show wv ≤ 64; omega) (by simp only [InR]; omega)) rfl ?_
        rw [Nat.one_mul]
        refine Sq.pu ok hm Want.none (Pu.addN (a := y) (b := 2 ^ wv) rfl rfl (by simp only [InR]; omega)) rfl ?_
        refine Sq.pu ok hm Want.none (Pu.subN (a := y + 2 ^ wv) (b := 1) rfl rfl (by omega) (by simp only [InR]; omega)) rfl ?_
        have hge : 2 ^ wv + y - 1 = y + 2 ^ wv - 1 := by omega
        rw [hge] at hg
        generalize y + 2 ^ wv - 1 = g at hbig hg ⊢
        refine Sq.pu ok hm Want.none (Pu.convN (n := (g : Int)) hT rfl rfl rfl (by simp only [InR]; omega)) rfl ?_
        clear hp hp0 hlt2
        generalize wa + wv = wb at h3 hbb hg
        have hp : 2 ^ g ≤ 2 ^ 47 := Nat.pow_le_pow_right (by decide) (by omega)
        have hp0 := Nat.two_pow_pos g
        have hlt3 := midT_lt s wb g
        (repeat (first
    | refine Ex.seq ok hm ?_
    | refine Ex.skip ok hm ?_
    | refine Ex.region ok hm ?_
    | refine Sq.pu ok hm Want.none (by first
    | exact Pu.move rfl
    | exact Pu.assign rfl
    | exact Pu.not rfl) rfl ?_
    | refine Sq.finH (n := 22) ok hm (by repeat (first
    | exact Keep.nil
    | apply Keep.drop rfl
    | apply Keep.keep rfl)) ?_
    | refine Ex.condF ok hm rfl (by rfl) ?_))
        refine Sq.call ok Want.none (Op1.call rfl rfl fn34) rfl (FnC.mono (rtake2 (n := g) hr h3 (by omega) hbb hs) ?_)
        rintro x M4 ⟨hF3, ⟨hbc, rfl, h4⟩ | ⟨hbc, rfl, h4⟩⟩
        · have ht2 : restT s g wb = some (2 ^ g + valB (midT s wb g) - 1, wb + g) := by unfold restT; rw [takeO_yes hbc]; rfl
          generalize valB (midT s wb g) = z at hlt3 ht2 ⊢
          (repeat (first
    | refine Ex.seq ok hm ?_
    | refine Ex.region ok hm ?_
    | refine Sq.pu ok hm Want.none (by first
    | exact Pu.move rfl
    | exact Pu.assign rfl
    | exact Pu.extract rfl rfl) rfl ?_
    | refine Sq.finH (n := 22) ok hm (by repeat (first
    | exact Keep.nil
    | apply Keep.drop rfl
    | apply Keep.keep rfl)) ?_))
          refine Sq.pu ok hm Want.none (Pu.shlN (a := 1) (b := g) rfl rfl (by show g ≤ 64; omega) (by simp only [InR]; omega)) rfl ?_
          rw [Nat.one_mul]
          refine Sq.pu ok hm Want.none (Pu.addN (a := z) (b := 2 ^ g) rfl rfl (by simp only [InR]; omega)) rfl ?_
          refine Sq.pu ok hm Want.none (Pu.subN (a := z + 2 ^ g) (b := 1) rfl rfl (by omega) (by simp only [InR]; omega)) rfl ?_
          (repeat (first
    | refine Sq.pu ok hm Want.none (by first
    | exact Pu.move rfl
    | exact Pu.assign rfl
    | exact Pu.eqlI rfl rfl) rfl ?_
    | refine Sq.finH (n := 22) ok hm (by repeat (first
    | exact Keep.nil
    | apply Keep.drop rfl
    | apply Keep.keep rfl)) ?_
    | refine Ex.ret ok hm ?_))
          refine ⟨_, .tmp rfl (.tmp rfl .nil), wrap (v := z + 2 ^ g - 1) (b := true) h4 hbc ((hF1.trans hF2 (by simp)).trans hF3 (by simp)) (by omega) ?_⟩
          rw [hg, ht2]; exact ⟨by simp only; omega, rfl, rfl⟩
        · have ht2 : restT s g wb = none := by unfold restT; rw [takeO_no hbc]; rfl
          (repeat (first
    | refine Ex.seq ok hm ?_
    | refine Ex.region ok hm ?_
    | refine Sq.pu ok hm Want.none (by first
    | exact Pu.move rfl
    | exact Pu.assign rfl
    | exact Pu.extract rfl rfl) rfl ?_
    | refine Sq.finH (n := 22) ok hm (by repeat (first
    | exact Keep.nil
    | apply Keep.drop rfl
    | apply Keep.keep rfl)) ?_))
          refine Sq.pu ok hm Want.none (Pu.shlN (a := 1) (b := g) rfl rfl (by show g ≤ 64; omega) (by simp only [InR]; omega)) rfl ?_
          rw [Nat.one_mul]
          refine Sq.pu ok hm Want.none (Pu.addN (a := 0) (b := 2 ^ g) rfl rfl (by simp only [InR]; omega)) rfl ?_
          refine Sq.pu ok hm Want.none (Pu.subN (a := 0 + 2 ^ g) (b := 1) rfl rfl (by omega) (by simp only [InR]; omega)) rfl ?_
          (repeat (first
    | refine Sq.pu ok hm Want.none (by first
    | exact Pu.move rfl
    | exact Pu.assign rfl
    | exact Pu.eqlI rfl rfl) rfl ?_
    | refine Sq.finH (n := 22) ok hm (by repeat (first
    | exact Keep.nil
    | apply Keep.drop rfl
    | apply Keep.keep rfl)) ?_
    | refine Ex.ret ok hm ?_))
          refine ⟨_, .tmp rfl (.tmp rfl .nil), wrap (v := 0 + 2 ^ g - 1) (b := false) h4 hbb ((hF1.trans hF2 (by simp)).trans hF3 (by simp)) (by omega) ?_⟩
          rw [hg, ht2]
    · have ht : restT s wv wa = none := by unfold restT; rw [takeO_no hbb]; rfl
      rw [ht] at hg
      simp only [Option.bind_none] at hg
      (repeat (first
    | refine Ex.seq ok hm ?_
    | refine Ex.region ok hm ?_
    | refine Sq.pu ok hm Want.none (by first
    | exact Pu.move rfl
    | exact Pu.assign rfl
    | exact Pu.extract rfl rfl
    | exact Pu.neqI rfl rfl
    | exact Pu.pickT rfl (by rfl) rfl) rfl ?_
    | refine Sq.skip ok hm (by exact Want.no rfl rfl rfl (by rfl)) rfl ?_
    | refine Sq.finH (n := 22) ok hm (by repeat (first
    | exact Keep.nil
    | apply Keep.drop rfl
    | apply Keep.keep rfl)) ?_
    | refine Ex.condT ok hm rfl (by rfl) ?_
    | refine Ex.ret ok hm ?_))
      exact ⟨_, .tmp rfl (.tmp rfl .nil), wrap (v := 0) h3 ha1 (hF1.trans hF2 (by simp)) (by decide) (by rw [hg])⟩
end Go.Proofs.Ytlhfolmhgghjcaa
/- N -/
namespace Go.Proofs.Ytlhfolmhgghjcaa
open Go.Wvm Bits
set_option linter.unusedVariables false
set_option linter.unusedSimpArgs false

set_option maxHeartbeats 16000000 in
theorem rread3_ok {ro : Nat} {M : AM} {q c a kind K : Nat} {s : List UInt8} (hr : ro ≤ q) (h : RqAt M q c s a) (ha : a ≤ 8 * s.length) (hs : s.length ≤ 1048576)
    (hcl : 8 * s.length ≠ 0 → c < M.next) (k3 : kind = 3) (hK : 1 ≤ K ∧ K ≤ 16) (hKb : K < 18446744073709551616) :
    FnC Try.prog tables ro 48 [.pointer (some ⟨q, 0, none⟩), .agg ⟨[.int .u8 (kind : Int), .int .u64 (K : Int)]⟩] M (fun x M' => QOut s M M' q c .u64 (refT s kind K a) x) := by
  refine FnC.facts fun hlt hron => ?_
  refine FnC.body (nt := 132) ok hm fn48 rfl rfl ?_
  have hql := hlt _ _ h.row
  have h1 : RqAt (M.add (cdO 60 kind K)) q c s a := ⟨(AM.add_ne (by omega)).trans h.row, fun k => (AM.add_ne (by have := hcl k; omega)).trans (h.buf k), h.ne⟩
  have hb1 : (M.add (cdO 60 kind K)).get M.next = some (cdO 60 kind K) := AM.add_same
  have hF0 : Fr M (M.add (cdO 60 kind K)) [q] := Fr.add _ _ _
  have hn1 : (M.add (cdO 60 kind K)).next = M.next + 1 := rfl
  (repeat (first
    | refine Ex.seq ok hm ?_
    | refine Ex.region ok hm ?_))
  refine Sq.op ok hm Want.none (Op1.box rfl rfl) rfl ?_
  show Sq Try.prog tables ro ⟨48, 132⟩ _ _ _ (M.add (cdO 60 kind K)) _
  generalize M.add (cdO 60 kind K) = M1 at h1 hb1 hF0 hn1 ⊢
  generalize hbp : M.next = bp at hql hb1 hn1 ⊢
  have wrap : ∀ {M2 : AM} {k : IntKind} {o : Option (Nat × Nat)} {v : Nat} {b : Bool} {a' : Nat}, RqAt M2 q c s a' → a' ≤ 8 * s.length → Fr M1 M2 [q] → v < 18446744073709551616 → (match o with | some w => v = w.1 ∧ b = true ∧ a' = w.2 | none => b = false) → QOut s M M2 q c k o (.tuple ⟨[.int k (v : Int), .bool b]⟩) :=
    fun g1 g2 g3 g4 g5 => ⟨_, _, _, rfl, g1, g2, hF0.trans g3 (by simp), g4, g5⟩
  have e : refT s kind K a = zetaR s K a := by unfold refT; rw [if_neg (by omega), if_neg (by omega), if_neg (by omega), if_pos k3]
  rw [e]
  have hdm : 47 / K ≤ 47 := Nat.div_le_self 47 K
  have hg : zetaR s K a = (unaT s (47 / K + 1) 0 a).bind fun h => (minT s (2 ^ ((h.1 + 1) * K) - 2 ^ (h.1 * K)) h.2).map fun x => (2 ^ (h.1 * K) + x.1 - 1, x.2) := rfl
  (repeat (first
    | refine Ex.seq ok hm ?_
    | refine Ex.block ok hm ?_
    | refine Ex.region ok hm ?_
    | refine Sq.pu ok hm Want.none (by first
    | exact Pu.move rfl
    | exact Pu.assign rfl
    | exact Pu.fieldAddr hT rfl rfl rfl rfl rfl
    | (apply Pu.load hT rfl rfl rfl; (focus ((repeat (assumption)))); (focus rfl))
    | exact Pu.eqlI rfl rfl
    | exact Pu.convN hT rfl rfl rfl (by simp only [InR]; omega)) rfl ?_
    | refine Sq.finH (n := 22) ok hm (by repeat (first
    | exact Keep.nil
    | apply Keep.drop rfl
    | apply Keep.keep rfl)) ?_
    | refine Ex.condT ok hm rfl (by first
    | rfl
    | exact decide_eq_true (by omega)) ?_
    | refine Ex.condF ok hm rfl (by first
    | rfl
    | exact decide_eq_false (by omega)) ?_))
  refine Sq.pu ok hm Want.none (Pu.quoN (a := 47) (b := K) rfl rfl (by omega) (by simp only [InR]; omega)) rfl ?_
  refine Sq.call ok Want.none (Op1.call rfl rfl fn60) rfl (FnC.mono (zeros_ok (most := 47 / K) hr h1 ha hs (by omega)) ?_)
  rintro x M2 ⟨v, b, a1, rfl, h2, ha1, hF1, hv, hmm⟩
  have hb2 := (hF1.get bp (by omega) (by simp; omega)).trans hb1
  have hn2 := hF1.next
  cases ho : unaT s (47 / K + 1) 0 a with
  | none =>
    rw [ho] at hg hmm
    obtain rfl : b = false := hmm
    (repeat (first
    | refine Ex.seq ok hm ?_
    | refine Ex.region ok hm ?_
    | refine Sq.pu ok hm Want.none (by first
    | exact Pu.move rfl
    | exact Pu.assign rfl
    | exact Pu.extract rfl rfl
    | exact Pu.not rfl) rfl ?_
    | refine Sq.finH (n := 22) ok hm (by repeat (first
    | exact Keep.nil
    | apply Keep.drop rfl
    | apply Keep.keep rfl)) ?_
    | refine Ex.condT ok hm rfl (by rfl) ?_
    | refine Ex.ret ok hm ?_))
    exact ⟨_, .tmp rfl (.tmp rfl .nil), wrap (v := 0) h2 ha1 hF1 (by decide) (by rw [hg]; rfl)⟩
  | some w =>
    have hle := unaT_le _ 0 a ho
    rw [ho] at hg hmm
    obtain ⟨rfl, rfl, rfl⟩ : v = w.1 ∧ b = true ∧ a1 = w.2 := hmm
    obtain ⟨wv, wa⟩ := w
    simp only at h2 ha1 hle hv
    simp only [Option.bind_some] at hg
    obtain ⟨z1, z2, z3⟩ := zeta_room (h := wv) hK (by omega)
    have hp1 : 2 ^ ((wv + 1) * K) ≤ 2 ^ 60 := Nat.pow_le_pow_right (by decide) z2
    have hp2 : 2 ^ (wv * K) < 2 ^ ((wv + 1) * K) := Nat.pow_lt_pow_right (by decide) (by rw [Nat.succ_mul]; omega)
    have hp3 : 2 ^ (wv * K) ≤ 2 ^ 47 := Nat.pow_le_pow_right (by decide) z1
    have hp4 := Nat.two_pow_pos (wv * K)
    (repeat (first
    | refine Ex.seq ok hm ?_
    | refine Ex.skip ok hm ?_
    | refine Ex.region ok hm ?_
    | refine Sq.pu ok hm Want.none (by first
    | exact Pu.move rfl
    | exact Pu.assign rfl
    | exact Pu.fieldAddr hT rfl rfl rfl rfl rfl
    | (apply Pu.load hT rfl rfl rfl; (focus ((repeat (assumption)))); (focus rfl))
    | exact Pu.extract rfl rfl
    | exact Pu.not rfl
    | exact Pu.convN hT rfl rfl rfl (by simp only [InR]; omega)) rfl ?_
    | refine Sq.finH (n := 22) ok hm (by repeat (first
    | exact Keep.nil
    | apply Keep.drop rfl
    | apply Keep.keep rfl)) ?_
    | refine Ex.condF ok hm rfl (by rfl) ?_))
    refine Sq.pu ok hm Want.none (Pu.mulN (a := wv) (b := K) rfl rfl (by simp only [InR]; omega)) rfl ?_
    refine Sq.pu ok hm Want.none (Pu.shlN (a := 1) (b := wv * K) rfl rfl (by show wv * K ≤ 64; omega) (by simp only [InR]; omega)) rfl ?_
    rw [Nat.one_mul]
    (repeat (first
    | refine Ex.seq ok hm ?_
    | refine Ex.region ok hm ?_
    | refine Sq.pu ok hm Want.none (by first
    | exact Pu.move rfl
    | exact Pu.assign rfl
    | exact Pu.fieldAddr hT rfl rfl rfl rfl rfl
    | (apply Pu.load hT rfl rfl rfl; (focus ((repeat (assumption)))); (focus rfl))
    | exact Pu.addN rfl rfl (by simp only [InR]; omega)
    | exact Pu.convN hT rfl rfl rfl (by simp only [InR]; omega)) rfl ?_
    | refine Sq.finH (n := 22) ok hm (by repeat (first
    | exact Keep.nil
    | apply Keep.drop rfl
    | apply Keep.keep rfl)) ?_))
    refine Sq.pu ok hm Want.none (Pu.mulN (a := wv + 1) (b := K) rfl rfl (by simp only [InR]; omega)) rfl ?_
    refine Sq.pu ok hm Want.none (Pu.shlN (a := 1) (b := (wv + 1) * K) rfl rfl (by show (wv + 1) * K ≤ 64; omega) (by simp only [InR]; omega)) rfl ?_
    rw [Nat.one_mul]
    generalize 2 ^ (wv * K) = lo at hp2 hp3 hp4 hg ⊢
    generalize 2 ^ ((wv + 1) * K) = hi at hp1 hp2 hg ⊢
    (repeat (first
    | refine Ex.seq ok hm ?_
    | refine Ex.region ok hm ?_
    | refine Sq.pu ok hm Want.none (by first
    | exact Pu.move rfl
    | exact Pu.assign rfl) rfl ?_
    | refine Sq.finH (n := 22) ok hm (by repeat (first
    | exact Keep.nil
    | apply Keep.drop rfl
    | apply Keep.keep rfl)) ?_))
    refine Sq.pu ok hm Want.none (Pu.subN (a := hi) (b := lo) rfl rfl (by omega) (by simp only [InR]; omega)) rfl ?_
    generalize hcd : hi - lo = cc at hg ⊢
    refine Sq.call ok Want.none (Op1.call rfl rfl fn61) rfl (FnC.mono (short_ok (c := cc) hr h2 ha1 hs (by omega) (by omega)) ?_)
    rintro x M4 ⟨v2, b2, a2, rfl, h4, ha2, hF2, hv2, hm2⟩
    cases ho2 : minT s cc wa with
    | none =>
      rw [ho2] at hg hm2
      obtain rfl : b2 = false := hm2
      (repeat (first
    | refine Ex.seq ok hm ?_
    | refine Ex.region ok hm ?_
    | refine Sq.pu ok hm Want.none (by first
    | exact Pu.move rfl
    | exact Pu.assign rfl
    | exact Pu.extract rfl rfl) rfl ?_
    | refine Sq.finH (n := 22) ok hm (by repeat (first
    | exact Keep.nil
    | apply Keep.drop rfl
    | apply Keep.keep rfl)) ?_))
      refine Sq.pu ok hm Want.none (Pu.addU64 rfl rfl) rfl ?_
      refine Sq.pu ok hm Want.none (Pu.subU64 rfl rfl) rfl ?_
      obtain ⟨v', hv', hvl⟩ : ∃ v' : Nat, ((((v2 : Int) + (lo : Int)) % 18446744073709551616 - 1) % 18446744073709551616) = (v' : Int) ∧ v' < 18446744073709551616 :=
        ⟨((((v2 : Int) + (lo : Int)) % 18446744073709551616 - 1) % 18446744073709551616).toNat, by omega, by omega⟩
      rw [hv']
      (repeat (first
    | refine Sq.pu ok hm Want.none (by first
    | exact Pu.move rfl
    | exact Pu.assign rfl) rfl ?_
    | refine Sq.finH (n := 22) ok hm (by repeat (first
    | exact Keep.nil
    | apply Keep.drop rfl
    | apply Keep.keep rfl)) ?_
    | refine Ex.ret ok hm ?_))
      refine ⟨_, .tmp rfl (.tmp rfl .nil), wrap (v := v') (b := false) h4 ha2 (hF1.trans hF2 (by simp)) hvl ?_⟩
      rw [hg]; rfl
    | some w2 =>
      have hle2 := minT_le (show 1 ≤ cc by omega) ha1 ho2
      rw [ho2] at hg hm2
      obtain ⟨rfl, rfl, rfl⟩ : v2 = w2.1 ∧ b2 = true ∧ a2 = w2.2 := hm2
      obtain ⟨xv, xa⟩ := w2
      simp only at h4 ha2 hle2 hv2
      simp only [Option.map_some] at hg
      (repeat (first
    | refine Ex.seq ok hm ?_
    | refine Ex.region ok hm ?_
    | refine Sq.pu ok hm Want.none (by first
    | exact Pu.move rfl
    | exact Pu.assign rfl
    | exact Pu.extract rfl rfl
    | exact Pu.addN rfl rfl (by simp only [InR]; omega)) rfl ?_
    | refine Sq.finH (n := 22) ok hm (by repeat (first
    | exact Keep.nil
    | apply Keep.drop rfl
    | apply Keep.keep rfl)) ?_))
      refine Sq.pu ok hm Want.none (Pu.subN (a := xv + lo) (b := 1) rfl rfl (by omega) (by simp only [InR]; omega)) rfl ?_
      (repeat (first
    | refine Sq.pu ok hm Want.none (by first
    | exact Pu.move rfl
    | exact Pu.assign rfl) rfl ?_
    | refine Sq.finH (n := 22) ok hm (by repeat (first
    | exact Keep.nil
    | apply Keep.drop rfl
    | apply Keep.keep rfl)) ?_
    | refine Ex.ret ok hm ?_))
      refine ⟨_, .tmp rfl (.tmp rfl .nil), wrap (v := xv + lo - 1) (b := true) h4 ha2 (hF1.trans hF2 (by simp)) (by omega) ?_⟩
      rw [hg]; exact ⟨by simp only; omega, rfl, rfl⟩
end Go.Proofs.Ytlhfolmhgghjcaa
/- N -/
namespace Go.Proofs.Ytlhfolmhgghjcaa
open Go.Wvm Bits
set_option linter.unusedVariables false
set_option linter.unusedSimpArgs false

set_option maxHeartbeats 16000000 in
theorem rread4_ok {ro : Nat} {M : AM} {q c a kind K : Nat} {s : List UInt8} (hr : ro ≤ q) (h : RqAt M q c s a) (ha : a ≤ 8 * s.length) (hs : s.length ≤ 1048576)
    (hcl : 8 * s.length ≠ 0 → c < M.next) (k4 : kind = 4) (hK : 1 ≤ K ∧ K ≤ 281474976710655) (hKb : K < 18446744073709551616) :
    FnC Try.prog tables ro 48 [.pointer (some ⟨q, 0, none⟩), .agg ⟨[.int .u8 (kind : Int), .int .u64 (K : Int)]⟩] M (fun x M' => QOut s M M' q c .u64 (refT s kind K a) x) := by
  refine FnC.facts fun hlt hron => ?_
  refine FnC.body (nt := 132) ok hm fn48 rfl rfl ?_
  have hql := hlt _ _ h.row
  have h1 : RqAt (M.add (cdO 60 kind K)) q c s a := ⟨(AM.add_ne (by omega)).trans h.row, fun k => (AM.add_ne (by have := hcl k; omega)).trans (h.buf k), h.ne⟩
  have hb1 : (M.add (cdO 60 kind K)).get M.next = some (cdO 60 kind K) := AM.add_same
  have hF0 : Fr M (M.add (cdO 60 kind K)) [q] := Fr.add _ _ _
  have hn1 : (M.add (cdO 60 kind K)).next = M.next + 1 := rfl
  (repeat (first
    | refine Ex.seq ok hm ?_
    | refine Ex.region ok hm ?_))
  refine Sq.op ok hm Want.none (Op1.box rfl rfl) rfl ?_
  show Sq Try.prog tables ro ⟨48, 132⟩ _ _ _ (M.add (cdO 60 kind K)) _
  generalize M.add (cdO 60 kind K) = M1 at h1 hb1 hF0 hn1 ⊢
  generalize hbp : M.next = bp at hql hb1 hn1 ⊢
  have wrap : ∀ {M2 : AM} {k : IntKind} {o : Option (Nat × Nat)} {v : Nat} {b : Bool} {a' : Nat}, RqAt M2 q c s a' → a' ≤ 8 * s.length → Fr M1 M2 [q] → v < 18446744073709551616 → (match o with | some w => v = w.1 ∧ b = true ∧ a' = w.2 | none => b = false) → QOut s M M2 q c k o (.tuple ⟨[.int k (v : Int), .bool b]⟩) :=
    fun g1 g2 g3 g4 g5 => ⟨_, _, _, rfl, g1, g2, hF0.trans g3 (by simp), g4, g5⟩
  have e : refT s kind K a = minT s K a := by unfold refT; rw [if_neg (by omega), if_neg (by omega), if_neg (by omega), if_neg (by omega)]
  rw [e]
  (repeat (first
    | refine Ex.seq ok hm ?_
    | refine Ex.block ok hm ?_
    | refine Ex.skip ok hm ?_
    | refine Ex.region ok hm ?_
    | refine Sq.pu ok hm Want.none (by first
    | exact Pu.move rfl
    | exact Pu.assign rfl
    | exact Pu.fieldAddr hT rfl rfl rfl rfl rfl
    | (apply Pu.load hT rfl rfl rfl; (focus ((repeat (assumption)))); (focus rfl))
    | exact Pu.eqlI rfl rfl) rfl ?_
    | refine Sq.finH (n := 22) ok hm (by repeat (first
    | exact Keep.nil
    | apply Keep.drop rfl
    | apply Keep.keep rfl)) ?_
    | refine Ex.condF ok hm rfl (by first
    | rfl
    | exact decide_eq_false (by omega)) ?_))
  refine Sq.call ok Want.none (Op1.call rfl rfl fn61) rfl (FnC.mono (short_ok (c := K) hr h1 ha hs (by omega) (by omega)) ?_)
  rintro x M4 ⟨v2, b2, a2, rfl, h4, ha2, hF2, hv2, hm2⟩
  (repeat (first
    | refine Sq.pu ok hm Want.none (by first
    | exact Pu.assign rfl
    | exact Pu.extract rfl rfl) rfl ?_
    | refine Sq.finH (n := 22) ok hm (by repeat (first
    | exact Keep.nil
    | apply Keep.drop rfl
    | apply Keep.keep rfl)) ?_
    | refine Ex.ret ok hm ?_))
  exact ⟨_, .tmp rfl (.tmp rfl .nil), wrap h4 ha2 hF2 hv2 hm2⟩
end Go.Proofs.Ytlhfolmhgghjcaa
/- N -/
namespace Go.Proofs.Ytlhfolmhgghjcaa
open Go.Wvm Bits
set_option linter.unusedVariables false
set_option linter.unusedSimpArgs false

theorem rread_ok {ro : Nat} {M : AM} {q c a kind K : Nat} {s : List UInt8} (hr : ro ≤ q) (h : RqAt M q c s a) (ha : a ≤ 8 * s.length) (hs : s.length ≤ 1048576)
    (hcl : 8 * s.length ≠ 0 → c < M.next) (hc : checkE kind K = 0) (hK : K < 18446744073709551616) :
    FnC Try.prog tables ro 48 [.pointer (some ⟨q, 0, none⟩), .agg ⟨[.int .u8 (kind : Int), .int .u64 (K : Int)]⟩] M (fun x M' => QOut s M M' q c .u64 (refT s kind K a) x) := by
  obtain ⟨c1, c2, c3⟩ := check0 hc
  by_cases k0 : kind = 0
  · exact rread0_ok hr h ha hs hcl k0 hK
  by_cases k1 : kind = 1
  · exact rread1_ok hr h ha hs hcl k1 hK
  by_cases k2 : kind = 2
  · exact rread2_ok hr h ha hs hcl k2 hK
  by_cases k3 : kind = 3
  · exact rread3_ok hr h ha hs hcl k3 (c2 k3) hK
  have k4 : kind = 4 := by omega
  exact rread4_ok hr h ha hs hcl k4 (c3 k4) hK

set_option maxHeartbeats 8000000 in
theorem rRead_ok {ro : Nat} {M : AM} {q c a kind K : Nat} {s : List UInt8} (hr : ro ≤ q) (h : RqAt M q c s a) (ha : a ≤ 8 * s.length) (hs : s.length ≤ 1048576)
    (hcl : 8 * s.length ≠ 0 → c < M.next) (hk : kind < 256) (hK : K < 18446744073709551616) :
    FnC Try.prog tables ro 27 [.pointer (some ⟨q, 0, none⟩), .agg ⟨[.int .u8 (kind : Int), .int .u64 (K : Int)]⟩] M (fun x M' => x = .tuple ⟨[.int .u64 ((readE s kind K a).1 : Nat), .int .i64 (readE s kind K a).2.1]⟩ ∧ RqAt M' q c s (readE s kind K a).2.2 ∧ Fr M M' [q]) := by
  refine FnC.facts fun hlt hron => ?_
  refine FnC.body (nt := 35) ok hm fn27 rfl rfl ?_
  have hql := hlt _ _ h.row
  have h1 : RqAt (M.add (cdO 60 kind K)) q c s a := ⟨(AM.add_ne (by omega)).trans h.row, fun k => (AM.add_ne (by have := hcl k; omega)).trans (h.buf k), h.ne⟩
  have hb1 : (M.add (cdO 60 kind K)).get M.next = some (cdO 60 kind K) := AM.add_same
  have hF0 : Fr M (M.add (cdO 60 kind K)) [q] := Fr.add _ _ _
  have hn1 : (M.add (cdO 60 kind K)).next = M.next + 1 := rfl
  (repeat (first
    | refine Ex.seq ok hm ?_
    | refine Ex.region ok hm ?_))
  refine Sq.op ok hm Want.none (Op1.box rfl rfl) rfl ?_
  show Sq Try.prog tables ro ⟨27, 35⟩ _ _ _ (M.add (cdO 60 kind K)) _
  generalize M.add (cdO 60 kind K) = M1 at h1 hb1 hF0 hn1 ⊢
  generalize hbp : M.next = bp at hql hb1 hn1 hcl ⊢
  (repeat (first
    | refine Ex.seq ok hm ?_
    | refine Ex.region ok hm ?_
    | refine Sq.pu ok hm Want.none (by exact Pu.assign rfl) rfl ?_
    | refine Sq.finH (n := 9) ok hm (by repeat (first
    | exact Keep.nil
    | apply Keep.keep rfl)) ?_))
  refine Sq.pu ok hm Want.none (Pu.loadA hT rfl rfl rfl hb1 (Nat.le_refl 2)) rfl ?_
  refine Sq.call ok Want.none (Op1.call rfl rfl fn47) rfl (FnC.mono (rCheck_ok (kind := kind) (K := K) hk hK) ?_)
  rintro x M2 ⟨rfl, hF2⟩
  have hn2 := hF2.next
  have h2 : RqAt M2 q c s a := ⟨(hF2.get q (by omega) (by simp)).trans h1.row, fun k => (hF2.get c (by have := hcl k; omega) (by simp)).trans (h1.buf k), h1.ne⟩
  have hb2 := (hF2.get bp (by omega) (by simp)).trans hb1
  rcases check01 kind K with hc | hc
  · rw [hc]
    have hre : readE s kind K a = match readT s kind K a with | some x => (x.1, 0, x.2) | none => (0, 4, a) := by unfold readE; rw [if_neg (by intro k; exact k hc)]; cases readT s kind K a <;> rfl
    obtain ⟨r1, r2, r3⟩ := ref_read (s := s) (a := a) hc ha
    have hrow2 := h2.row
    (repeat (first
    | refine Ex.seq ok hm ?_
    | refine Ex.skip ok hm ?_
    | refine Ex.region ok hm ?_
    | refine Sq.pu ok hm Want.none (by first
    | exact Pu.move rfl
    | exact Pu.assign rfl
    | exact Pu.nilCheck rfl
    | exact Pu.fieldAddr hT rfl rfl rfl rfl rfl
    | (apply Pu.load hT rfl rfl rfl; (focus ((repeat (assumption)))); (focus rfl))
    | exact Pu.neqI rfl rfl) rfl ?_
    | refine Sq.finH (n := 9) ok hm (by repeat (first
    | exact Keep.nil
    | apply Keep.drop rfl
    | apply Keep.keep rfl)) ?_
    | refine Ex.condF ok hm rfl (by rfl) ?_))
    refine Sq.pu ok hm Want.none (Pu.loadA hT rfl rfl rfl hb2 (Nat.le_refl 2)) rfl ?_
    refine Sq.call ok Want.none (Op1.call rfl rfl fn48) rfl (FnC.mono (rread_ok hr h2 ha hs (fun k => by have := hcl k; omega) hc hK) ?_)
    rintro x M3 ⟨v, b, a3, rfl, h3, ha3, hF3, hv, hmm⟩
    have hn3 := hF3.next
    have hb3 := (hF3.get bp (by omega) (by simp; omega)).trans hb2
    have hrow3 := h3.row
    cases ho : refT s kind K a with
    | none =>
      rw [ho] at hmm
      obtain rfl : b = false := hmm
      have e : readE s kind K a = (0, 4, a) := by rw [hre, r3 ho]
      rw [e]
      (repeat (first
    | refine Ex.seq ok hm ?_
    | refine Ex.region ok hm ?_
    | refine Sq.pu ok hm Want.none (by first
    | exact Pu.move rfl
    | exact Pu.assign rfl
    | exact Pu.nilCheck rfl
    | exact Pu.fieldAddr hT rfl rfl rfl rfl rfl
    | exact Pu.extract rfl rfl
    | exact Pu.not rfl
    | exact Pu.pickT rfl (by rfl) rfl) rfl ?_
    | refine Sq.skip ok hm (by exact Want.no rfl rfl rfl (by rfl)) rfl ?_
    | refine Sq.finH (n := 9) ok hm (by repeat (first
    | exact Keep.nil
    | apply Keep.drop rfl
    | apply Keep.keep rfl)) ?_
    | refine Ex.condT ok hm rfl (by rfl) ?_))
      refine Sq.act ok hm Want.none (Op1.store hT rfl rfl rfl rfl hrow3 hr (Nat.le_of_ble_eq_true rfl) (Nat.le_of_ble_eq_true rfl) rfl) ?_
      (repeat (first
    | refine Ex.seq ok hm ?_
    | refine Ex.region ok hm ?_
    | refine Sq.pu ok hm Want.none (by exact Pu.assign rfl) rfl ?_
    | refine Sq.finH (n := 9) ok hm (by repeat (first
    | exact Keep.nil
    | apply Keep.drop rfl
    | apply Keep.keep rfl)) ?_
    | refine Ex.ret ok hm ?_))
      refine ⟨_, .tmp rfl (.tmp rfl .nil), rfl, ⟨AM.upd_same, fun k => (AM.upd_ne (by have := h3.ne; omega)).trans (h3.buf k), h3.ne⟩, ?_⟩
      exact ((hF0.trans hF2 (by simp)).trans hF3 (by simp)).upd' _ (.inl (by simp))
    | some w =>
      rw [ho] at hmm
      obtain ⟨rfl, rfl, rfl⟩ : v = w.1 ∧ b = true ∧ a3 = w.2 := hmm
      (repeat (first
    | refine Ex.seq ok hm ?_
    | refine Ex.region ok hm ?_
    | refine Sq.pu ok hm Want.none (by first
    | exact Pu.move rfl
    | exact Pu.assign rfl
    | exact Pu.extract rfl rfl
    | exact Pu.not rfl) rfl ?_
    | refine Sq.pu ok hm (by exact Want.yes rfl rfl rfl (by rfl)) (by exact Pu.move rfl) rfl ?_
    | refine Sq.finH (n := 9) ok hm (by repeat (first
    | exact Keep.nil
    | apply Keep.drop rfl
    | apply Keep.keep rfl)) ?_))
      refine Sq.pu ok hm (by exact Want.yes rfl rfl rfl (by rfl)) (Pu.loadA hT rfl rfl rfl hb3 (Nat.le_refl 2)) rfl ?_
      refine Sq.call ok (by exact Want.yes rfl rfl rfl (by rfl)) (Op1.call rfl rfl fn49) rfl (FnC.mono (rMost_ok (kind := kind) (K := K) hk hK hc) ?_)
      rintro x M4 ⟨rfl, hF4⟩
      have hn4 := hF4.next
      have h4 : RqAt M4 q c s w.2 := ⟨(hF4.get q (by omega) (by simp)).trans h3.row, fun k => (hF4.get c (by have := hcl k; omega) (by simp)).trans (h3.buf k), h3.ne⟩
      have hrow4 := h4.row
      by_cases hbig : mostE kind K < w.1
      · have e : readE s kind K a = (0, 4, a) := by rw [hre, r1 w ho hbig]
        rw [e]
        (repeat (first
    | refine Ex.seq ok hm ?_
    | refine Ex.region ok hm ?_
    | refine Sq.pu ok hm Want.none (by first
    | exact Pu.move rfl
    | exact Pu.nilCheck rfl
    | exact Pu.fieldAddr hT rfl rfl rfl rfl rfl
    | exact Pu.gtrI rfl rfl
    | exact Pu.pickF rfl (by rfl) rfl) rfl ?_
    | refine Sq.pu ok hm (by exact Want.yes rfl rfl rfl (by rfl)) (by exact Pu.gtrI rfl rfl) rfl ?_
    | refine Sq.finH (n := 9) ok hm (by repeat (first
    | exact Keep.nil
    | apply Keep.drop rfl
    | apply Keep.keep rfl)) ?_
    | refine Ex.condT ok hm rfl (by first
    | rfl
    | exact decide_eq_true (by omega)) ?_))
        refine Sq.act ok hm Want.none (Op1.store hT rfl rfl rfl rfl hrow4 hr (Nat.le_of_ble_eq_true rfl) (Nat.le_of_ble_eq_true rfl) rfl) ?_
        (repeat (first
    | refine Ex.seq ok hm ?_
    | refine Ex.region ok hm ?_
    | refine Sq.pu ok hm Want.none (by exact Pu.assign rfl) rfl ?_
    | refine Sq.finH (n := 9) ok hm (by repeat (first
    | exact Keep.nil
    | apply Keep.drop rfl
    | apply Keep.keep rfl)) ?_
    | refine Ex.ret ok hm ?_))
        refine ⟨_, .tmp rfl (.tmp rfl .nil), rfl, ⟨AM.upd_same, fun k => (AM.upd_ne (by have := h3.ne; omega)).trans (h4.buf k), h3.ne⟩, ?_⟩
        exact (((hF0.trans hF2 (by simp)).trans hF3 (by simp)).trans hF4 (by simp)).upd' _ (.inl (by simp))
      · have e : readE s kind K a = (w.1, 0, w.2) := by rw [hre, r2 w ho hbig]
        rw [e]
        (repeat (first
    | refine Ex.seq ok hm ?_
    | refine Ex.skip ok hm ?_
    | refine Ex.region ok hm ?_
    | refine Sq.pu ok hm Want.none (by first
    | exact Pu.move rfl
    | exact Pu.assign rfl
    | exact Pu.gtrI rfl rfl
    | exact Pu.pickF rfl (by rfl) rfl) rfl ?_
    | refine Sq.pu ok hm (by exact Want.yes rfl rfl rfl (by rfl)) (by exact Pu.gtrI rfl rfl) rfl ?_
    | refine Sq.finH (n := 9) ok hm (by repeat (first
    | exact Keep.nil
    | apply Keep.drop rfl
    | apply Keep.keep rfl)) ?_
    | refine Ex.condF ok hm rfl (by first
    | rfl
    | exact decide_eq_false (by omega)) ?_
    | refine Ex.ret ok hm ?_))
        exact ⟨_, .tmp rfl (.tmp rfl .nil), rfl, h4, ((hF0.trans hF2 (by simp)).trans hF3 (by simp)).trans hF4 (by simp)⟩
  · rw [hc]
    have e : readE s kind K a = (0, 1, a) := by unfold readE; rw [if_pos (by rw [hc]; decide)]
    rw [e]
    (repeat (first
    | refine Ex.seq ok hm ?_
    | refine Ex.region ok hm ?_
    | refine Sq.pu ok hm Want.none (by first
    | exact Pu.assign rfl
    | exact Pu.neqI rfl rfl) rfl ?_
    | refine Sq.finH (n := 9) ok hm (by repeat (first
    | exact Keep.nil
    | apply Keep.drop rfl
    | apply Keep.keep rfl)) ?_
    | refine Ex.condT ok hm rfl (by rfl) ?_
    | refine Ex.ret ok hm ?_))
    exact ⟨_, .tmp rfl (.tmp rfl .nil), rfl, h2, hF0.trans hF2 (by simp)⟩
end Go.Proofs.Ytlhfolmhgghjcaa
/- N -/
namespace Go.Proofs.Ytlhfolmhgghjcaa
open Go.Wvm Bits
set_option linter.unusedVariables false
set_option linter.unusedSimpArgs false

abbrev ptrV (p : Nat) : Value := .pointer (some ⟨p, 0, none⟩)
set_option maxHeartbeats 8000000 in
/-- What is put off: an answer that is not fine is made nothing, and the reader goes back. -/
theorem defer_ok {ro : Nat} {M : AM} {r a a' v p2 p4 p5 p6 : Nat} {e : Int} {s : List UInt8} (hp : ro ≤ p4) (hr : ro ≤ r) (h : RdAt M r s a')
    (b2 : M.get p2 = some (.row [ptrV r] 0 (some (44, 0)))) (b4 : M.get p4 = some (.row [.int .u64 (v : Int)] 0 (some (25, 0)))) (b5 : M.get p5 = some (.row [.int .i64 e] 0 (some (26, 0)))) (b6 : M.get p6 = some (.row [.int .i64 (a : Int)] 0 (some (3, 0))))
    (l4 : p4 < M.next) (l5 : p5 < M.next) (l6 : p6 < M.next) (l2 : p2 < M.next) (n4 : p4 ≠ r) (n42 : p4 ≠ p2) (n46 : p4 ≠ p6) (n45 : p4 ≠ p5) (n5 : p5 ≠ r) (ha : a ≤ 8 * s.length) (hs : s.length ≤ 1048576) :
    DefC Try.prog tables ro ⟨.fn (.func 41) ⟨[ptrV p5, ptrV p4, ptrV p2, ptrV p6]⟩, ⟨[]⟩⟩ M (fun M' => M'.get p5 = some (.row [.int .i64 e] 0 (some (26, 0))) ∧ M'.get p4 = some (.row [.int .u64 ((if e = 0 then v else 0 : Nat) : Int)] 0 (some (25, 0))) ∧ RdAt M' r s (if e = 0 then a' else a) ∧ Fr M M' [p4, r]) := by
  refine DefC.intro fn41 rfl rfl ?_
  by_cases he : e = 0
  · rw [if_pos he, if_pos he]
    (repeat (first
    | refine Ex.seq ok hm ?_
    | refine Ex.skip ok hm ?_
    | refine Ex.region ok hm ?_
    | refine Sq.pu ok hm Want.none (by first
    | (apply Pu.load hT rfl rfl rfl; (focus ((repeat (assumption)))); (focus rfl))
    | exact Pu.neqI rfl rfl) rfl ?_
    | refine Sq.finH (n := 4) ok hm (by repeat (first
    | exact Keep.nil
    | apply Keep.drop rfl
    | apply Keep.keep rfl)) ?_
    | refine Ex.condF ok hm rfl (by first
    | rfl
    | (simp; omega)) ?_))
    exact ⟨_, .nil, b5, b4, h, Fr.refl _ _⟩
  · rw [if_neg he, if_neg he]
    (repeat (first
    | refine Ex.seq ok hm ?_
    | refine Ex.region ok hm ?_
    | refine Sq.pu ok hm Want.none (by first
    | (apply Pu.load hT rfl rfl rfl; (focus ((repeat (assumption)))); (focus rfl))
    | exact Pu.neqI rfl rfl) rfl ?_
    | refine Sq.finH (n := 4) ok hm (by repeat (first
    | exact Keep.nil
    | apply Keep.drop rfl
    | apply Keep.keep rfl)) ?_
    | refine Ex.condT ok hm rfl (by first
    | rfl
    | (simp; omega)) ?_))
    refine Sq.act ok hm Want.none (Op1.store hT rfl rfl rfl rfl b4 hp (Nat.le_of_ble_eq_true rfl) (Nat.le_of_ble_eq_true rfl) rfl) ?_
    have h1 : RdAt (M.upd p4 (.row [.int .u64 0] 0 (some (25, 0)))) r s a' := (AM.upd_ne (Ne.symm n4)).trans h
    have c2 : (M.upd p4 (.row [.int .u64 0] 0 (some (25, 0)))).get p2 = some (.row [ptrV r] 0 (some (44, 0))) := (AM.upd_ne (Ne.symm n42)).trans b2
    have c6 : (M.upd p4 (.row [.int .u64 0] 0 (some (25, 0)))).get p6 = some (.row [.int .i64 (a : Int)] 0 (some (3, 0))) := (AM.upd_ne (Ne.symm n46)).trans b6
    have c5 : (M.upd p4 (.row [.int .u64 0] 0 (some (25, 0)))).get p5 = some (.row [.int .i64 e] 0 (some (26, 0))) := (AM.upd_ne (Ne.symm n45)).trans b5
    have c4 : (M.upd p4 (.row [.int .u64 0] 0 (some (25, 0)))).get p4 = some (.row [.int .u64 0] 0 (some (25, 0))) := AM.upd_same
    have hF1 : Fr M (M.upd p4 (.row [.int .u64 0] 0 (some (25, 0)))) [p4, r] := (Fr.refl _ _).upd' _ (.inl (by simp))
    have hn1 : (M.upd p4 (.row [.int .u64 0] 0 (some (25, 0)))).next = M.next := rfl
    show Sq Try.prog tables ro _ _ _ _ (M.upd p4 (.row [.int .u64 0] 0 (some (25, 0)))) _
    generalize M.upd p4 (.row [.int .u64 0] 0 (some (25, 0))) = M1 at *
    (repeat (first
    | refine Ex.region ok hm ?_
    | refine Sq.pu ok hm Want.none (by (apply Pu.load hT rfl rfl rfl; (focus ((repeat (assumption)))); (focus rfl))) rfl ?_
    | refine Sq.finH (n := 4) ok hm (by repeat (first
    | exact Keep.nil
    | apply Keep.keep rfl)) ?_))
    refine Sq.call ok Want.none (Op1.call rfl rfl fn20) rfl (FnC.mono (seek_ok (n := (a : Int)) hr h1 (by simp only [InR]; omega) (by omega)) ?_)
    rintro x M2 ⟨rfl, h2, hF2⟩
    rw [if_pos (by omega)] at h2
    (repeat (refine Sq.finH (n := 4) ok hm (by repeat (first
    | exact Keep.nil
    | apply Keep.drop rfl
    | apply Keep.keep rfl)) ?_))
    exact ⟨_, .nil, (hF2.get p5 (by omega) (by simp; exact n5)).trans c5, (hF2.get p4 (by omega) (by simp; exact n4)).trans c4, h2, hF1.trans hF2 (by simp)⟩
end Go.Proofs.Ytlhfolmhgghjcaa
