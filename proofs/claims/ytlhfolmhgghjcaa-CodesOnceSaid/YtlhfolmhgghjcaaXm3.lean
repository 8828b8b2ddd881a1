/- Towards the laws of this seat: contracts of the program's functions in a logic over a small machine (texts XCx XEm XPt XPv XPw). No condition. -/
import Derived.Test.YtlhfolmhgghjcaaXm2
import Derived.Test.YtlhfolmhgghjcaaWvmLgi
/- N -/
namespace Go.Proofs.Ytlhfolmhgghjcaa
open Go.Wvm Bits
set_option linter.unusedVariables false
set_option linter.unusedSimpArgs false

theorem own_ok {ro : Nat} {M : AM} {kind K : Nat} :
    FnC Try.prog tables ro 26 [.agg ⟨[.int .u8 (kind : Int), .int .u64 (K : Int)]⟩] M (fun x M' => x = .agg ⟨[.int .u8 (kind : Int), .int .u64 (K : Int)]⟩ ∧ Fr M M' []) := by
  refine FnC.body (nt := 8) ok hm fn26 rfl rfl ?_
  refine Ex.facts fun hlt hron => ?_
  (repeat (first
    | refine Ex.seq ok hm ?_
    | refine Ex.region ok hm ?_))
  refine Sq.op ok hm Want.none (Op1.box rfl rfl) rfl ?_
  refine Sq.op ok hm Want.none (Op1.alloc hT rfl rfl rfl) rfl ?_
  (repeat (first
    | refine Ex.seq ok hm ?_
    | refine Ex.region ok hm ?_
    | refine Sq.pu ok hm Want.none (by first
    | exact Pu.fieldAddr hT rfl rfl rfl rfl rfl
    | (apply Pu.load hT rfl rfl rfl; (focus ((repeat (first
    | exact AM.add_same
    | apply (AM.add_ne (by (try simp only [AM.next_add, AM.next_upd, AM.next_rm, AM.next_bump]); omega)).trans)))); (focus rfl))) rfl ?_
    | refine Sq.finH (n := 3) ok hm (by repeat (first
    | exact Keep.nil
    | apply Keep.keep rfl)) ?_))
  refine Sq.pu ok hm Want.none (Pu.build hT rfl rfl rfl rfl) rfl ?_
  refine Sq.act ok hm Want.none (Op1.store hT rfl rfl rfl rfl (by (repeat (exact AM.add_same))) (by simp only [AM.next_add]; omega) (Nat.le_of_ble_eq_true rfl) (Nat.le_of_ble_eq_true rfl) rfl) ?_
  (repeat (first
    | refine Sq.finH (n := 3) ok hm (by repeat (first
    | exact Keep.nil
    | apply Keep.drop rfl
    | apply Keep.keep rfl)) ?_
    | refine Ex.ret ok hm ?_))
  exact ⟨_, .cell rfl (hT 58 _ rfl) AM.upd_same rfl (Nat.le_refl _) .nil, rfl, (((Fr.refl _ _).add' _).add' _).upd' _ (.inr (by simp only [AM.next_add]; omega))⟩

theorem check0 {kind K : Nat} (h : checkE kind K = 0) : kind ≤ 4 ∧ (kind = 3 → 1 ≤ K ∧ K ≤ 16) ∧ (kind = 4 → 1 ≤ K ∧ K ≤ 281474976710655) := by
  unfold checkE at h
  split at h
  · exact ⟨by omega, fun k => by omega, fun k => by omega⟩
  · split at h
    · split at h
      · rename_i h3 h4
        exact ⟨by omega, fun _ => h4, fun k => by omega⟩
      · omega
    · split at h
      · split at h
        · rename_i h3 h4 h5
          exact ⟨by omega, fun k => by omega, fun _ => h5⟩
        · omega
      · omega
theorem check01 (kind K : Nat) : checkE kind K = 0 ∨ checkE kind K = 1 := by
  unfold checkE
  split
  · split
    · exact .inl rfl
    · exact .inr rfl
  · split
    · split
      · exact .inl rfl
      · exact .inr rfl
    · split
      · split
        · exact .inl rfl
        · exact .inr rfl
      · exact .inr rfl
def mostE (kind K : Nat) : Nat := if kind = 0 then 65535 else if kind = 4 then K - 1 else 281474976710654

set_option maxHeartbeats 4000000 in
theorem rMost_ok {ro : Nat} {M : AM} {kind K : Nat} (hk : kind < 256) (hK : K < 18446744073709551616) (hc : checkE kind K = 0) :
    FnC Try.prog tables ro 49 [.agg ⟨[.int .u8 (kind : Int), .int .u64 (K : Int)]⟩] M (fun x M' => x = .int .u64 (mostE kind K : Nat) ∧ Fr M M' []) := by
  refine FnC.body (nt := 15) ok hm fn49 rfl rfl ?_
  refine Ex.facts fun hlt hron => ?_
  obtain ⟨c1, c2, c3⟩ := check0 hc
  (repeat (first
    | refine Ex.seq ok hm ?_
    | refine Ex.region ok hm ?_))
  refine Sq.op ok hm Want.none (Op1.box rfl rfl) rfl ?_
  have hb : (M.add (cdO 60 kind K)).get M.next = some (cdO 60 kind K) := AM.add_same
  have hF0 : Fr M (M.add (cdO 60 kind K)) [] := Fr.add _ _ _
  have hn : M.next < (M.add (cdO 60 kind K)).next := Nat.lt_succ_self _
  show Sq Try.prog tables ro ⟨49, 15⟩ _ _ _ (M.add (cdO 60 kind K)) _
  generalize M.add (cdO 60 kind K) = M1 at hb hF0 hn ⊢
  generalize M.next = bp at hb hn ⊢
  (repeat (first
    | refine Ex.seq ok hm ?_
    | refine Ex.region ok hm ?_
    | refine Sq.pu ok hm Want.none (by exact Pu.assign rfl) rfl ?_
    | refine Sq.finH (n := 3) ok hm (by repeat (first
    | exact Keep.nil
    | apply Keep.keep rfl)) ?_))
  refine Sq.pu ok hm Want.none (Pu.loadA hT rfl rfl rfl hb (Nat.le_refl 2)) rfl ?_
  refine Sq.call ok Want.none (Op1.call rfl rfl fn47) rfl (FnC.mono (rCheck_ok (kind := kind) (K := K) hk hK) ?_)
  rintro x M2 ⟨rfl, hF2⟩
  rw [hc]
  have hb2 := (hF2.get bp hn (by simp)).trans hb
  by_cases k0 : kind = 0
  · have e : mostE kind K = 65535 := if_pos k0
    rw [e]
    (repeat (first
    | refine Ex.seq ok hm ?_
    | refine Ex.block ok hm ?_
    | refine Ex.skip ok hm ?_
    | refine Ex.region ok hm ?_
    | refine Sq.pu ok hm Want.none (by first
    | exact Pu.assign rfl
    | exact Pu.fieldAddr hT rfl rfl rfl rfl rfl
    | (apply Pu.load hT rfl rfl rfl; (focus ((repeat (assumption)))); (focus rfl))
    | exact Pu.eqlI rfl rfl
    | exact Pu.neqI rfl rfl) rfl ?_
    | refine Sq.finH (n := 8) ok hm (by repeat (first
    | exact Keep.nil
    | apply Keep.drop rfl
    | apply Keep.keep rfl)) ?_
    | refine Ex.condT ok hm rfl (by first
    | rfl
    | exact decide_eq_true (by omega)) ?_
    | refine Ex.condF ok hm rfl (by rfl) ?_
    | refine Ex.ret ok hm ?_))
    exact ⟨_, .tmp rfl .nil, rfl, hF0.trans hF2 (by simp)⟩
  · by_cases k4 : kind = 4
    · have e : mostE kind K = K - 1 := by unfold mostE; rw [if_neg k0, if_pos k4]
      rw [e]
      have := c3 k4
      (repeat (first
    | refine Ex.seq ok hm ?_
    | refine Ex.block ok hm ?_
    | refine Ex.skip ok hm ?_
    | refine Ex.region ok hm ?_
    | refine Sq.pu ok hm Want.none (by first
    | exact Pu.assign rfl
    | exact Pu.fieldAddr hT rfl rfl rfl rfl rfl
    | (apply Pu.load hT rfl rfl rfl; (focus ((repeat (assumption)))); (focus rfl))
    | exact Pu.eqlI rfl rfl
    | exact Pu.neqI rfl rfl) rfl ?_
    | refine Sq.finH (n := 8) ok hm (by repeat (first
    | exact Keep.nil
    | apply Keep.drop rfl
    | apply Keep.keep rfl)) ?_
    | refine Ex.condT ok hm rfl (by first
    | rfl
    | exact decide_eq_true (by omega)) ?_
    | refine Ex.condF ok hm rfl (by first
    | rfl
    | exact decide_eq_false (by omega)) ?_))
      refine Sq.pu ok hm Want.none (Pu.subN (a := K) (b := 1) rfl rfl (by omega) (by simp only [InR]; omega)) rfl ?_
      (repeat (first
    | refine Sq.pu ok hm Want.none (by exact Pu.assign rfl) rfl ?_
    | refine Sq.finH (n := 8) ok hm (by repeat (first
    | exact Keep.nil
    | apply Keep.drop rfl
    | apply Keep.keep rfl)) ?_
    | refine Ex.ret ok hm ?_))
      exact ⟨_, .tmp rfl .nil, rfl, hF0.trans hF2 (by simp)⟩
    · have e : mostE kind K = 281474976710654 := by unfold mostE; rw [if_neg k0, if_neg k4]
      rw [e]
      (repeat (first
    | refine Ex.seq ok hm ?_
    | refine Ex.block ok hm ?_
    | refine Ex.skip ok hm ?_
    | refine Ex.region ok hm ?_
    | refine Sq.pu ok hm Want.none (by first
    | exact Pu.assign rfl
    | exact Pu.fieldAddr hT rfl rfl rfl rfl rfl
    | (apply Pu.load hT rfl rfl rfl; (focus ((repeat (assumption)))); (focus rfl))
    | exact Pu.eqlI rfl rfl
    | exact Pu.neqI rfl rfl) rfl ?_
    | refine Sq.finH (n := 8) ok hm (by repeat (first
    | exact Keep.nil
    | apply Keep.drop rfl
    | apply Keep.keep rfl)) ?_
    | refine Ex.condF ok hm rfl (by first
    | rfl
    | exact decide_eq_false (by omega)) ?_
    | refine Ex.ret ok hm ?_))
      exact ⟨_, .tmp rfl .nil, rfl, hF0.trans hF2 (by simp)⟩

theorem rest48 {s : List UInt8} {b a : Nat} {x : Nat × Nat} (hb : b ≤ 47) (h : restT s b a = some x) : x.1 ≤ 281474976710654 := by
  have h1 := (restT_le h).2
  have h2 : 2 ^ (b + 1) ≤ 2 ^ 48 := Nat.pow_le_pow_right (by decide) (by omega)
  omega
/-- What the document reads, held to the greatest number, is what is read. -/
theorem ref_read {s : List UInt8} {kind K a : Nat} (hc : checkE kind K = 0) (ha : a ≤ 8 * s.length) :
    (∀ w, refT s kind K a = some w → mostE kind K < w.1 → readT s kind K a = none) ∧ (∀ w, refT s kind K a = some w → ¬ mostE kind K < w.1 → readT s kind K a = some w) ∧ (refT s kind K a = none → readT s kind K a = none) := by
  obtain ⟨c1, c2, c3⟩ := check0 hc
  have same : ∀ {o : Option (Nat × Nat)}, refT s kind K a = o → readT s kind K a = o → (∀ w, o = some w → w.1 ≤ mostE kind K) →
      (∀ w, refT s kind K a = some w → mostE kind K < w.1 → readT s kind K a = none) ∧ (∀ w, refT s kind K a = some w → ¬ mostE kind K < w.1 → readT s kind K a = some w) ∧ (refT s kind K a = none → readT s kind K a = none) := by
    intro o e1 e2 hm
    rw [e1, e2]
    exact ⟨fun w hw hlt => absurd (hm w hw) (by omega), fun w hw _ => hw, fun h => h⟩
  by_cases k0 : kind = 0
  · refine same (o := unaT s 65536 0 a) (by unfold refT; rw [if_pos k0]) (by unfold readT; rw [if_pos k0]) fun w hw => ?_
    have := unaT_le _ 0 a hw
    have e : mostE kind K = 65535 := if_pos k0
    omega
  by_cases k1 : kind = 1
  · refine same (o := gammaT s a) (by unfold refT; rw [if_neg k0, if_pos k1]) (by unfold readT; rw [if_neg k0, if_pos k1]) fun w hw => ?_
    have e : mostE kind K = 281474976710654 := by unfold mostE; rw [if_neg k0, if_neg (by omega)]
    unfold gammaT at hw
    cases ho : unaT s 48 0 a with
    | none => rw [ho] at hw; cases hw
    | some y =>
      rw [ho] at hw
      have := unaT_le _ 0 a ho
      have := rest48 (by omega) hw
      omega
  by_cases k2 : kind = 2
  · refine same (o := deltaT s a) (by unfold refT; rw [if_neg k0, if_neg k1, if_pos k2]) (by unfold readT; rw [if_neg k0, if_neg k1, if_pos k2]) fun w hw => ?_
    have e : mostE kind K = 281474976710654 := by unfold mostE; rw [if_neg k0, if_neg (by omega)]
    unfold deltaT at hw
    cases ho : gammaT s a with
    | none => rw [ho] at hw; cases hw
    | some y =>
      rw [ho] at hw
      simp only [Option.bind_some] at hw
      split at hw
      · cases hw
      · have := rest48 (by omega) hw
        omega
  by_cases k3 : kind = 3
  · have e : mostE kind K = 281474976710654 := by unfold mostE; rw [if_neg k0, if_neg (by omega)]
    have e1 : refT s kind K a = zetaR s K a := by unfold refT; rw [if_neg k0, if_neg k1, if_neg k2, if_pos k3]
    have e2 : readT s kind K a = zetaT s K a := by unfold readT; rw [if_neg k0, if_neg k1, if_neg k2, if_pos k3]
    rw [e, e1, e2]
    unfold zetaR zetaT
    cases ho : unaT s (47 / K + 1) 0 a with
    | none => exact ⟨fun w h => (by cases h), fun w h => (by cases h), fun _ => rfl⟩
    | some y =>
      simp only [Option.bind_some]
      cases ho2 : minT s (2 ^ ((y.1 + 1) * K) - 2 ^ (y.1 * K)) y.2 with
      | none => exact ⟨fun w h => (by cases h), fun w h => (by cases h), fun _ => rfl⟩
      | some z =>
        simp only [Option.map_some, Option.bind_some]
        refine ⟨fun w h hlt => ?_, fun w h hlt => ?_, fun h => (by cases h)⟩
        · cases h
          rw [if_pos hlt]
        · cases h
          rw [if_neg hlt]
  · have k4 : kind = 4 := by omega
    refine same (o := minT s K a) (by unfold refT; rw [if_neg k0, if_neg k1, if_neg k2, if_neg k3]) (by unfold readT; rw [if_neg k0, if_neg k1, if_neg k2, if_neg k3]) fun w hw => ?_
    have := minT_le (c3 k4).1 ha hw
    have e : mostE kind K = K - 1 := by unfold mostE; rw [if_neg k0, if_pos k4]
    omega
end Go.Proofs.Ytlhfolmhgghjcaa
/- Plain mathematics of the codes: the bits of a number in a code, and that reading them gives the number. -/
namespace Go.Proofs.Ytlhfolmhgghjcaa
open Go.Wvm Bits
set_option linter.unusedVariables false
set_option linter.unusedSimpArgs false

def unaL (v : Nat) : List Bool := List.replicate v false ++ [true]
def lowN (v : Nat) : Nat := len64 (v + 1) - 1
def restL (b v : Nat) : List Bool := ofN (v + 1 - 2 ^ b) b
def gamL (v : Nat) : List Bool := unaL (lowN v) ++ restL (lowN v) v
def delL (v : Nat) : List Bool := gamL (lowN v) ++ restL (lowN v) v
def minL (v c : Nat) : List Bool := if v < 2 ^ len64 (c - 1) - c then ofN v (len64 (c - 1) - 1) else ofN (v + (2 ^ len64 (c - 1) - c)) (len64 (c - 1))
def zetL (K v : Nat) : List Bool := unaL (lowN v / K) ++ minL (v + 1 - 2 ^ (lowN v / K * K)) (2 ^ ((lowN v / K + 1) * K) - 2 ^ (lowN v / K * K))
/-- The bits of a number in a code. -/
def bitsC (kind K v : Nat) : List Bool := if kind = 0 then unaL v else if kind = 1 then gamL v else if kind = 2 then delL v else if kind = 3 then zetL K v else minL v K

/-- These bits stand there. -/
def Ats (s : List UInt8) (a : Nat) (L : List Bool) : Prop := a + L.length ≤ 8 * s.length ∧ midT s a L.length = L
theorem Ats.nil {s : List UInt8} {a : Nat} (h : a ≤ 8 * s.length) : Ats s a [] := ⟨h, midT_zero s a⟩
theorem Ats.append {s : List UInt8} {a : Nat} {L K : List Bool} (h1 : Ats s a L) (h2 : Ats s (a + L.length) K) : Ats s a (L ++ K) := by
  refine ⟨by have := h2.1; rw [List.length_append]; omega, ?_⟩
  rw [List.length_append, midT_add, h1.2, h2.2]
theorem Ats.parts {s : List UInt8} {a : Nat} {L K : List Bool} (h : Ats s a (L ++ K)) : Ats s a L ∧ Ats s (a + L.length) K := by
  have h1 := h.1
  have h2 := h.2
  rw [List.length_append] at h1 h2
  rw [midT_add] at h2
  have := List.append_inj h2 (by rw [midT_length _ _ _ (by omega)])
  exact ⟨⟨by omega, this.1⟩, ⟨by omega, this.2⟩⟩
theorem Ats.take {s : List UInt8} {a : Nat} {L : List Bool} (h : Ats s a L) : takeO s a L.length = some (valB L, a + L.length) := by
  rw [takeO_yes h.1, h.2]
theorem Ats.takeN {s : List UInt8} {a x n : Nat} (h : Ats s a (ofN x n)) (hx : x < 2 ^ n) : takeO s a n = some (x, a + n) := by
  have := h.take
  rw [ofN_length, valB_ofN, Nat.mod_eq_of_lt hx] at this
  exact this
theorem Ats.of_take {s : List UInt8} {a n : Nat} {x : Nat × Nat} (h : takeO s a n = some x) : Ats s a (ofN x.1 n) ∧ x.2 = a + n ∧ x.1 < 2 ^ n := by
  have hl := takeO_le h
  unfold takeO at h
  split at h
  · rename_i hb
    cases h
    have hm := midT_length s a n hb
    have e : ofN (valB (midT s a n)) n = midT s a n := by
      have := ofN_valB (midT s a n)
      rw [hm] at this; exact this
    refine ⟨⟨by rw [ofN_length]; exact hb, ?_⟩, rfl, hl.2.1⟩
    show midT s a (ofN (valB (midT s a n)) n).length = ofN (valB (midT s a n)) n
    rw [ofN_length, e]
  · cases h

theorem ofN_zeros (n : Nat) : ofN 0 n = List.replicate n false := by
  induction n with
  | zero => rfl
  | succ n ih => rw [ofN_succ, ih]; simp [List.replicate_succ]
theorem unaL_length (v : Nat) : (unaL v).length = v + 1 := by simp [unaL]
theorem unaL_succ (v : Nat) : unaL (v + 1) = false :: unaL v := by simp [unaL, List.replicate_succ]
theorem unaT_fwd {s : List UInt8} : ∀ (f v a : Nat) {x : Nat × Nat}, unaT s f v a = some x → ∃ n, x.1 = v + n ∧ n < f ∧ x.2 = a + n + 1 ∧ Ats s a (unaL n)
  | 0, v, a, x, h => by cases h
  | f + 1, v, a, x, h => by
    simp only [unaT] at h
    cases ht : takeO s a 1 with
    | none => rw [ht] at h; cases h
    | some y =>
      rw [ht] at h
      simp only [Option.bind_some] at h
      have hy := Ats.of_take ht
      split at h
      · rename_i h1
        cases h
        refine ⟨0, rfl, by omega, by have := hy.2.1; simpa using this, ?_⟩
        have := hy.1
        rw [h1] at this; exact this
      · rename_i h1
        obtain ⟨n, e1, e2, e3, e4⟩ := unaT_fwd f (v + 1) y.2 h
        have h0 : y.1 = 0 := by have := hy.2.2; omega
        have hA := hy.1
        rw [h0] at hA
        refine ⟨n + 1, by omega, by omega, by have := hy.2.1; omega, ?_⟩
        rw [unaL_succ]
        refine Ats.append (L := [false]) hA ?_
        rw [hy.2.1] at e4; exact e4
theorem unaT_bwd {s : List UInt8} : ∀ (f v a n : Nat), n < f → Ats s a (unaL n) → unaT s f v a = some (v + n, a + n + 1)
  | 0, v, a, n, h, _ => by omega
  | f + 1, v, a, 0, h, hA => by
    have h1 : takeO s a 1 = some (1, a + 1) := hA.take
    simp only [unaT]
    rw [h1]; rfl
  | f + 1, v, a, n + 1, h, hA => by
    rw [unaL_succ] at hA
    obtain ⟨h1, h2⟩ := Ats.parts (L := [false]) (K := unaL n) hA
    have h1 : takeO s a 1 = some (0, a + 1) := h1.take
    simp only [unaT]
    rw [h1]
    have := unaT_bwd f (v + 1) (a + 1) n (by omega) h2
    simp only [Option.bind_some]
    rw [if_neg (by decide), this]
    simp only [Option.some.injEq, Prod.mk.injEq]
    omega

theorem lowN_le (v : Nat) : 2 ^ lowN v ≤ v + 1 := len64_le (by omega)
theorem lowN_lt (v : Nat) : v + 1 < 2 ^ (lowN v + 1) := by
  have h := len64_lt (v + 1)
  have h2 : len64 (v + 1) ≠ 0 := by intro e; rw [e] at h; omega
  rw [show lowN v + 1 = len64 (v + 1) by unfold lowN; omega]
  exact h
theorem lowN_of {v b : Nat} (h1 : 2 ^ b ≤ v + 1) (h2 : v + 1 < 2 ^ (b + 1)) : lowN v = b := by
  unfold lowN
  rw [len64_of h2 (fun _ => by simpa using h1) (fun e => by omega)]; rfl
theorem lowN_bd {v k : Nat} (h : v + 1 < 2 ^ (k + 1)) : lowN v ≤ k := by
  have := len64_mono h
  unfold lowN; omega
theorem pow_lt_of {a b : Nat} (h : 2 ^ a < 2 ^ b) : a < b := (Nat.pow_lt_pow_iff_right (by decide : 1 < 2)).1 h

theorem restL_length (b v : Nat) : (restL b v).length = b := ofN_length _ _
theorem restT_fwd {s : List UInt8} {b a : Nat} {w : Nat × Nat} (h : restT s b a = some w) : w.2 = a + b ∧ lowN w.1 = b ∧ Ats s a (restL b w.1) := by
  unfold restT at h
  cases ht : takeO s a b with
  | none => rw [ht] at h; cases h
  | some y =>
    rw [ht] at h
    cases h
    have hy := Ats.of_take ht
    have hp := Nat.two_pow_pos b
    have e : 2 ^ b + y.1 - 1 + 1 = 2 ^ b + y.1 := by omega
    refine ⟨hy.2.1, lowN_of (by simp only; omega) (by simp only; rw [Nat.pow_succ]; omega), ?_⟩
    unfold restL
    simp only
    rw [e, Nat.add_sub_cancel_left]; exact hy.1
theorem restT_bwd {s : List UInt8} {v a : Nat} (h : Ats s a (restL (lowN v) v)) : restT s (lowN v) a = some (v, a + lowN v) := by
  have h1 := lowN_le v
  have h2 := lowN_lt v
  rw [Nat.pow_succ] at h2
  have := Ats.takeN h (by omega)
  unfold restT
  rw [this]
  simp only [Option.map_some, Option.some.injEq, Prod.mk.injEq, and_true]
  omega
theorem gamL_length (v : Nat) : (gamL v).length = 2 * lowN v + 1 := by
  unfold gamL; rw [List.length_append, unaL_length, restL_length]; omega
theorem gammaT_fwd {s : List UInt8} {a : Nat} {w : Nat × Nat} (h : gammaT s a = some w) : lowN w.1 ≤ 47 ∧ w.2 = a + (gamL w.1).length ∧ Ats s a (gamL w.1) := by
  unfold gammaT at h
  cases ht : unaT s 48 0 a with
  | none => rw [ht] at h; cases h
  | some y =>
    rw [ht] at h
    change restT s y.1 y.2 = some w at h
    obtain ⟨n, e1, e2, e3, e4⟩ := unaT_fwd _ 0 a ht
    obtain ⟨f1, f2, f3⟩ := restT_fwd h
    have hn : y.1 = n := by omega
    rw [hn] at f1 f2 f3
    refine ⟨by omega, by rw [gamL_length]; omega, ?_⟩
    unfold gamL
    rw [f2]
    refine Ats.append e4 ?_
    rw [unaL_length, ← Nat.add_assoc, ← e3]; exact f3
theorem gammaT_bwd {s : List UInt8} {v a : Nat} (h : Ats s a (gamL v)) (hb : lowN v ≤ 47) : gammaT s a = some (v, a + (gamL v).length) := by
  obtain ⟨h1, h2⟩ := Ats.parts h
  rw [unaL_length] at h2
  unfold gammaT
  rw [unaT_bwd 48 0 a (lowN v) (by omega) h1]
  simp only [Option.bind_some]
  rw [Nat.zero_add, Nat.add_assoc, restT_bwd h2, gamL_length]
  simp only [Option.some.injEq, Prod.mk.injEq, true_and]
  omega
theorem delL_length (v : Nat) : (delL v).length = 2 * lowN (lowN v) + 1 + lowN v := by
  unfold delL; rw [List.length_append, gamL_length, restL_length]
theorem deltaT_fwd {s : List UInt8} {a : Nat} {w : Nat × Nat} (h : deltaT s a = some w) : lowN w.1 ≤ 47 ∧ w.2 = a + (delL w.1).length ∧ Ats s a (delL w.1) := by
  unfold deltaT at h
  cases ht : gammaT s a with
  | none => rw [ht] at h; cases h
  | some y =>
    rw [ht] at h
    change (if 47 < y.1 then none else restT s y.1 y.2) = some w at h
    split at h
    · cases h
    · obtain ⟨e1, e2, e3⟩ := gammaT_fwd ht
      obtain ⟨f1, f2, f3⟩ := restT_fwd h
      rw [gamL_length] at e2
      refine ⟨by omega, by rw [delL_length, f2]; omega, ?_⟩
      unfold delL
      rw [f2]
      refine Ats.append e3 ?_
      rw [gamL_length, ← e2]; exact f3
theorem lowN_self (v : Nat) : lowN v ≤ v := by
  have := Nat.lt_two_pow_self (n := lowN v)
  have := lowN_le v
  omega
theorem deltaT_bwd {s : List UInt8} {v a : Nat} (h : Ats s a (delL v)) (hb : lowN v ≤ 47) : deltaT s a = some (v, a + (delL v).length) := by
  obtain ⟨h1, h2⟩ := Ats.parts h
  unfold deltaT
  rw [gammaT_bwd h1 (Nat.le_trans (lowN_self _) hb)]
  simp only [Option.bind_some]
  rw [if_neg (by omega), restT_bwd h2, delL_length, gamL_length]
  simp only [Option.some.injEq, Prod.mk.injEq, true_and]
  omega
theorem minL_length (v c : Nat) : (minL v c).length = if v < 2 ^ len64 (c - 1) - c then len64 (c - 1) - 1 else len64 (c - 1) := by
  unfold minL; split <;> exact ofN_length _ _
theorem minT_fwd {s : List UInt8} {c a : Nat} {w : Nat × Nat} (hc : 1 ≤ c) (ha : a ≤ 8 * s.length) (h : minT s c a = some w) : w.1 < c ∧ w.2 = a + (minL w.1 c).length ∧ Ats s a (minL w.1 c) := by
  have hlt := (minT_le hc ha h).2
  have hp := pow_len64 hc
  unfold minT at h
  split at h
  · rename_i h0
    cases h
    rw [h0] at hp
    have e : minL 0 c = [] := by unfold minL; rw [h0, if_neg (by have : (2 : Nat) ^ 0 = 1 := rfl; omega)]; rfl
    simp only
    rw [e]
    exact ⟨hlt, rfl, Ats.nil ha⟩
  · rename_i h0
    cases ht : takeO s a (len64 (c - 1) - 1) with
    | none => rw [ht] at h; cases h
    | some y =>
      rw [ht] at h
      change (if y.1 < 2 ^ len64 (c - 1) - c then some y else (takeO s y.2 1).map fun z => (2 * y.1 + z.1 - (2 ^ len64 (c - 1) - c), z.2)) = some w at h
      have hy := Ats.of_take ht
      split at h
      · rename_i h1
        cases h
        refine ⟨hlt, by rw [minL_length, if_pos h1]; exact hy.2.1, ?_⟩
        unfold minL; rw [if_pos h1]; exact hy.1
      · rename_i h1
        cases ht2 : takeO s y.2 1 with
        | none => rw [ht2] at h; cases h
        | some z =>
          rw [ht2] at h
          cases h
          have hz := Ats.of_take ht2
          simp only at hlt ⊢
          have hn : ¬ 2 * y.1 + z.1 - (2 ^ len64 (c - 1) - c) < 2 ^ len64 (c - 1) - c := by omega
          refine ⟨hlt, by rw [minL_length, if_neg hn]; omega, ?_⟩
          unfold minL
          rw [if_neg hn, show 2 * y.1 + z.1 - (2 ^ len64 (c - 1) - c) + (2 ^ len64 (c - 1) - c) = 2 * y.1 + z.1 by omega]
          rw [ofN_split _ (len64 (c - 1)) (len64 (c - 1) - 1) (by omega), show len64 (c - 1) - (len64 (c - 1) - 1) = 1 by omega]
          have e1 : (2 * y.1 + z.1) / 2 ^ 1 = y.1 := by have := hz.2.2; omega
          have e2 : ofN (2 * y.1 + z.1) 1 = ofN z.1 1 := by
            rw [← ofN_mod (2 * y.1 + z.1) 1 1 (Nat.le_refl _), show (2 * y.1 + z.1) % 2 ^ 1 = z.1 by have := hz.2.2; omega]
          rw [e1, e2]
          refine Ats.append hy.1 ?_
          rw [ofN_length, ← hy.2.1]; exact hz.1
theorem minT_bwd {s : List UInt8} {v c a : Nat} (hc : 1 ≤ c) (hv : v < c) (h : Ats s a (minL v c)) : minT s c a = some (v, a + (minL v c).length) := by
  have hp := pow_len64 hc
  rw [minL_length]
  unfold minL at h
  unfold minT
  by_cases h0 : len64 (c - 1) = 0
  · rw [h0] at hp
    have : (2 : Nat) ^ 0 = 1 := rfl
    rw [if_pos h0, h0, if_neg (by omega)]
    simp only [Option.some.injEq, Prod.mk.injEq]
    omega
  · rw [if_neg h0]
    have hlo := lt_len64 hc (k := len64 (c - 1) - 1) (by omega)
    have hdb : 2 ^ len64 (c - 1) = 2 * 2 ^ (len64 (c - 1) - 1) := by
      rw [show len64 (c - 1) = (len64 (c - 1) - 1) + 1 by omega, Nat.pow_succ]; simp; omega
    by_cases h1 : v < 2 ^ len64 (c - 1) - c
    · rw [if_pos h1] at h ⊢
      rw [Ats.takeN h (by omega)]
      simp only [Option.bind_some]
      rw [if_pos h1]
    · rw [if_neg h1] at h ⊢
      rw [ofN_split _ (len64 (c - 1)) (len64 (c - 1) - 1) (by omega), show len64 (c - 1) - (len64 (c - 1) - 1) = 1 by omega] at h
      obtain ⟨g1, g2⟩ := Ats.parts h
      rw [ofN_length] at g2
      generalize hm : 2 ^ len64 (c - 1) - c = m at *
      have e2 : ofN (v + m) 1 = ofN ((v + m) % 2) 1 := by
        rw [← ofN_mod (v + m) 1 1 (Nat.le_refl _)]
      rw [e2] at g2
      rw [Ats.takeN g1 (by omega)]
      simp only [Option.bind_some]
      rw [if_neg (by omega), Ats.takeN g2 (by omega)]
      simp only [Option.map_some, Option.some.injEq, Prod.mk.injEq]
      omega

theorem zeta_h {K v h : Nat} (hK : 1 ≤ K) (h1 : 2 ^ (h * K) ≤ v + 1) (h2 : v + 1 < 2 ^ ((h + 1) * K)) : lowN v / K = h := by
  have a1 := lowN_le v
  have a2 := lowN_lt v
  have b1 : lowN v < (h + 1) * K := pow_lt_of (Nat.lt_of_le_of_lt a1 h2)
  have b2 : h * K < lowN v + 1 := pow_lt_of (Nat.lt_of_le_of_lt h1 a2)
  exact Nat.div_eq_of_lt_le (by omega) b1
theorem zeta_in {K v : Nat} (hK : 1 ≤ K) : 2 ^ (lowN v / K * K) ≤ v + 1 ∧ v + 1 < 2 ^ ((lowN v / K + 1) * K) := by
  have a1 := lowN_le v
  have a2 := lowN_lt v
  have b1 : lowN v / K * K ≤ lowN v := Nat.div_mul_le_self _ _
  have b2 : lowN v + 1 ≤ (lowN v / K + 1) * K := by
    have := Nat.lt_div_mul_add (a := lowN v) (b := K) (by omega)
    rw [Nat.succ_mul]; omega
  exact ⟨Nat.le_trans (Nat.pow_le_pow_right (by decide) b1) a1, Nat.lt_of_lt_of_le a2 (Nat.pow_le_pow_right (by decide) b2)⟩
theorem zetL_length (K v : Nat) : (zetL K v).length = lowN v / K + 1 + (minL (v + 1 - 2 ^ (lowN v / K * K)) (2 ^ ((lowN v / K + 1) * K) - 2 ^ (lowN v / K * K))).length := by
  unfold zetL; rw [List.length_append, unaL_length]
theorem zetaT_fwd {s : List UInt8} {K a : Nat} {w : Nat × Nat} (hK : 1 ≤ K) (h : zetaT s K a = some w) : w.1 ≤ 281474976710654 ∧ w.2 = a + (zetL K w.1).length ∧ Ats s a (zetL K w.1) := by
  unfold zetaT at h
  cases ht : unaT s (47 / K + 1) 0 a with
  | none => rw [ht] at h; cases h
  | some y =>
    rw [ht] at h
    change ((minT s (2 ^ ((y.1 + 1) * K) - 2 ^ (y.1 * K)) y.2).bind fun x => if 281474976710654 < 2 ^ (y.1 * K) + x.1 - 1 then none else some (2 ^ (y.1 * K) + x.1 - 1, x.2)) = some w at h
    obtain ⟨n, e1, e2, e3, e4⟩ := unaT_fwd _ 0 a ht
    have hn : y.1 = n := by omega
    rw [hn] at h
    have hle := (unaT_le _ 0 a ht).1
    have hp2 : 2 ^ (n * K) < 2 ^ ((n + 1) * K) := Nat.pow_lt_pow_right (by decide) (by rw [Nat.succ_mul]; omega)
    have hp0 := Nat.two_pow_pos (n * K)
    cases hm2 : minT s (2 ^ ((n + 1) * K) - 2 ^ (n * K)) y.2 with
    | none => rw [hm2] at h; cases h
    | some z =>
      rw [hm2] at h
      change (if 281474976710654 < 2 ^ (n * K) + z.1 - 1 then none else some (2 ^ (n * K) + z.1 - 1, z.2)) = some w at h
      split at h
      · cases h
      · cases h
        obtain ⟨f1, f2, f3⟩ := minT_fwd (by omega) hle hm2
        have hh := zeta_h (v := 2 ^ (n * K) + z.1 - 1) (h := n) hK (by omega) (by omega)
        have e : 2 ^ (n * K) + z.1 - 1 + 1 - 2 ^ (n * K) = z.1 := by omega
        refine ⟨by simp only; omega, ?_, ?_⟩
        · simp only
          rw [zetL_length, hh, e]; omega
        · simp only
          unfold zetL
          rw [hh, e]
          refine Ats.append e4 ?_
          rw [unaL_length, ← Nat.add_assoc, ← e3]; exact f3
theorem zetaT_bwd {s : List UInt8} {K v a : Nat} (hK : 1 ≤ K) (hv : v ≤ 281474976710654) (h : Ats s a (zetL K v)) : zetaT s K a = some (v, a + (zetL K v).length) := by
  obtain ⟨h1, h2⟩ := Ats.parts h
  obtain ⟨z1, z2⟩ := zeta_in (v := v) hK
  have hb : lowN v ≤ 47 := lowN_bd (by omega)
  have hd : lowN v / K ≤ 47 / K := Nat.div_le_div_right hb
  rw [unaL_length] at h2
  rw [zetL_length]
  unfold zetaT
  rw [unaT_bwd (47 / K + 1) 0 a (lowN v / K) (by omega) h1]
  simp only [Option.bind_some, Nat.zero_add]
  generalize 2 ^ (lowN v / K * K) = lo at *
  generalize 2 ^ ((lowN v / K + 1) * K) = hi at *
  rw [Nat.add_assoc, minT_bwd (by omega) (by omega) h2]
  simp only [Option.bind_some]
  rw [if_neg (by omega)]
  simp only [Option.some.injEq, Prod.mk.injEq]
  omega

/-- What is read stands there in just that form. -/
theorem readT_fwd {s : List UInt8} {kind K a : Nat} {w : Nat × Nat} (hc : checkE kind K = 0) (ha : a ≤ 8 * s.length) (h : readT s kind K a = some w) :
    w.1 ≤ mostE kind K ∧ w.2 = a + (bitsC kind K w.1).length ∧ Ats s a (bitsC kind K w.1) := by
  obtain ⟨c1, c2, c3⟩ := check0 hc
  unfold readT at h
  unfold bitsC mostE
  have h48 : ∀ v, lowN v ≤ 47 → v ≤ 281474976710654 := fun v hv => by
    have := lowN_lt v
    have h2 : 2 ^ (lowN v + 1) ≤ 2 ^ 48 := Nat.pow_le_pow_right (by decide) (by omega)
    omega
  by_cases k0 : kind = 0
  · rw [if_pos k0] at h ⊢
    rw [if_pos k0]
    obtain ⟨n, e1, e2, e3, e4⟩ := unaT_fwd _ 0 a h
    have hn : w.1 = n := by omega
    rw [hn, unaL_length]
    exact ⟨by omega, by omega, e4⟩
  rw [if_neg k0] at h ⊢
  rw [if_neg k0]
  by_cases k1 : kind = 1
  · rw [if_pos k1] at h ⊢
    rw [if_neg (by omega)]
    obtain ⟨e1, e2, e3⟩ := gammaT_fwd h
    exact ⟨h48 _ e1, e2, e3⟩
  rw [if_neg k1] at h ⊢
  by_cases k2 : kind = 2
  · rw [if_pos k2] at h ⊢
    rw [if_neg (by omega)]
    obtain ⟨e1, e2, e3⟩ := deltaT_fwd h
    exact ⟨h48 _ e1, e2, e3⟩
  rw [if_neg k2] at h ⊢
  by_cases k3 : kind = 3
  · rw [if_pos k3] at h ⊢
    rw [if_neg (by omega)]
    exact zetaT_fwd (c2 k3).1 h
  · rw [if_neg k3] at h ⊢
    rw [if_pos (by omega)]
    obtain ⟨e1, e2, e3⟩ := minT_fwd (c3 (by omega)).1 ha h
    exact ⟨by omega, e2, e3⟩
/-- What stands there is read. -/
theorem readT_bwd {s : List UInt8} {kind K a v : Nat} (hc : checkE kind K = 0) (hv : v ≤ mostE kind K) (h : Ats s a (bitsC kind K v)) :
    readT s kind K a = some (v, a + (bitsC kind K v).length) := by
  obtain ⟨c1, c2, c3⟩ := check0 hc
  unfold bitsC at h ⊢
  unfold mostE at hv
  unfold readT
  by_cases k0 : kind = 0
  · rw [if_pos k0] at h hv
    rw [if_pos k0, if_pos k0, unaT_bwd 65536 0 a v (by omega) h, unaL_length]
    simp only [Option.some.injEq, Prod.mk.injEq]
    omega
  rw [if_neg k0] at h hv
  rw [if_neg k0, if_neg k0]
  by_cases k1 : kind = 1
  · rw [if_pos k1] at h
    rw [if_pos k1, if_pos k1]
    rw [if_neg (by omega)] at hv
    exact gammaT_bwd h (lowN_bd (by omega))
  rw [if_neg k1] at h
  rw [if_neg k1, if_neg k1]
  by_cases k2 : kind = 2
  · rw [if_pos k2] at h
    rw [if_pos k2, if_pos k2]
    rw [if_neg (by omega)] at hv
    exact deltaT_bwd h (lowN_bd (by omega))
  rw [if_neg k2] at h
  rw [if_neg k2, if_neg k2]
  by_cases k3 : kind = 3
  · rw [if_pos k3] at h
    rw [if_pos k3, if_pos k3]
    rw [if_neg (by omega)] at hv
    exact zetaT_bwd (c2 k3).1 hv h
  · rw [if_neg k3] at h
    rw [if_neg k3, if_neg k3]
    rw [if_pos (by omega)] at hv
    have := c3 (by omega)
    exact minT_bwd this.1 (by omega) h
end Go.Proofs.Ytlhfolmhgghjcaa
/- N -/
namespace Go.Proofs.Ytlhfolmhgghjcaa
open Go.Wvm Bits
set_option linter.unusedVariables false
set_option linter.unusedSimpArgs false

theorem WPost.trans {ro : Nat} {M M1 M2 : AM} {p q q1 : Nat} {l2 : List Bool} (hF1 : Fr M M1 [p, q]) (hq1 : q1 = q ∨ M.next ≤ q1) (h : WPost ro M1 M2 p q1 l2) : WPost ro M M2 p q l2 := by
  obtain ⟨q2, hW, hF, hq, hr⟩ := h
  refine ⟨q2, hW, hF1.trans hF ?_, ?_, hr⟩
  · intro b hb
    simp only [List.mem_cons, List.not_mem_nil, or_false] at hb
    rcases hb with rfl | rfl
    · left; simp
    · rcases hq1 with h | h
      · left; rw [h]; simp
      · right; exact h
  · rcases hq with h | h
    · rw [h]; exact hq1
    · right; have := hF1.next; omega
theorem putN_ok {ro : Nat} {M : AM} {p q : Nat} {l : List Bool} {v n : Nat} (hp : ro ≤ p) (hq : ro ≤ q) (h : WrAt M p q l) (hn : n ≤ 64) (hv : v < 2 ^ n) (hl : l.length + n ≤ 134217728) :
    FnC Try.prog tables ro 16 [.pointer (some ⟨p, 0, none⟩), .int .u64 (v : Int), .int .i64 (n : Int)] M (fun r M' => r = .int .i64 0 ∧ WPost ro M M' p q (l ++ ofN v n)) := by
  have h64 : 2 ^ n ≤ 2 ^ 64 := Nat.pow_le_pow_right (by decide) hn
  refine FnC.mono (Put_ok (v := v) (n := (n : Int)) hp hq h (by omega) (by simp only [InR]; omega) (by omega)) ?_
  have e : putE l v (n : Int) = (0, l ++ ofN v n) := by
    unfold putE
    rw [if_neg, if_neg (by omega), Int.toNat_natCast]
    rintro (k | k | ⟨_, k⟩)
    · omega
    · omega
    · rw [Int.toNat_natCast] at k
      exact k (Nat.div_eq_of_lt hv)
  rw [e]
  exact fun r M' k => k
theorem bitT_ok {ro : Nat} {M : AM} {p q : Nat} {l : List Bool} (hp : ro ≤ p) (hq : ro ≤ q) (h : WrAt M p q l) (hl : l.length < 134217728) :
    FnC Try.prog tables ro 17 [.pointer (some ⟨p, 0, none⟩), .bool true] M (fun r M' => r = .int .i64 0 ∧ WPost ro M M' p q (l ++ [true])) := by
  refine FnC.mono (Bit_ok (b := true) hp hq h (by omega)) ?_
  rw [if_neg (by omega), if_neg (by omega)]
  exact fun r M' k => k
theorem unaL_64 (k : Nat) (h : 64 ≤ k) : unaL k = ofN 0 64 ++ unaL (k - 64) := by
  unfold unaL
  rw [ofN_zeros, ← List.append_assoc, List.replicate_append_replicate, show 64 + (k - 64) = k by omega]

set_option maxHeartbeats 4000000 in
theorem putUnary_ok {ro : Nat} {M : AM} {p q : Nat} {l : List Bool} {v : Nat} (hp : ro ≤ p) (hq : ro ≤ q) (h : WrAt M p q l) (hv : v ≤ 65535) (hl : l.length + v + 1 ≤ 134217728) :
    FnC Try.prog tables ro 50 [.pointer (some ⟨p, 0, none⟩), .int .u64 (v : Int)] M (fun r M' => WPost ro M M' p q (l ++ unaL v)) := by
  refine FnC.body (nt := 16) ok hm fn50 rfl rfl ?_
  (repeat (first
    | refine Ex.seq ok hm ?_
    | refine Ex.block ok hm ?_))
  refine Ex.loop ?_
  refine Lp.inv ok hm (α := Nat × List Bool × Nat)
    (fun x E M' => E = [(0, .pointer (some ⟨p, 0, none⟩)), (1, .int .u64 (x.1 : Int))] ∧ x.1 ≤ v ∧ x.2.1.length + x.1 = l.length + v ∧ x.2.1 ++ unaL x.1 = l ++ unaL v ∧ WrAt M' p x.2.2 x.2.1 ∧ Fr M M' [p, q] ∧ (x.2.2 = q ∨ M.next ≤ x.2.2) ∧ ro ≤ x.2.2)
    (fun x => x.1) ?_ (v, l, q) [(0, .pointer (some ⟨p, 0, none⟩)), (1, .int .u64 (v : Int))] ⟨rfl, rfl, trivial⟩ ⟨rfl, Nat.le_refl _, rfl, rfl, h, Fr.refl _ _, .inl rfl, hq⟩
  intro ⟨k, l1, q1⟩ E M1 ⟨hE, hk, hlen, hb, hW, hF, hq1, hro⟩
  simp only at hE hk hlen hb hW hq1 hro
  subst hE
  by_cases h0 : 64 ≤ k
  · (repeat (first
    | refine Ex.seq ok hm ?_
    | refine Ex.block ok hm ?_
    | refine Ex.skip ok hm ?_
    | refine Ex.region ok hm ?_
    | refine Sq.pu ok hm Want.none (by first
    | exact Pu.move rfl
    | exact Pu.geqI rfl rfl) rfl ?_
    | refine Sq.finH (n := 3) ok hm (by repeat (first
    | exact Keep.nil
    | apply Keep.drop rfl
    | apply Keep.keep rfl)) ?_
    | refine Ex.condT ok hm rfl (by first
    | rfl
    | exact decide_eq_true (by omega)) ?_))
    refine Sq.call ok Want.none (Op1.call rfl rfl fn16) rfl (FnC.mono (putN_ok (v := 0) (n := 64) hp hro hW (by decide) (by decide) (by omega)) ?_)
    rintro r M2 ⟨rfl, hpost⟩
    obtain ⟨q2, hW2, hF2, hq2, hro2⟩ := WPost.trans hF hq1 hpost
    (repeat (first
    | refine Ex.region ok hm ?_
    | refine Sq.pu ok hm Want.none (by exact Pu.move rfl) rfl ?_
    | refine Sq.finH (n := 3) ok hm (by repeat (first
    | exact Keep.nil
    | apply Keep.drop rfl
    | apply Keep.keep rfl)) ?_))
    refine Sq.pu ok hm Want.none (Pu.subN (a := k) (b := 64) rfl rfl h0 (by simp only [InR]; omega)) rfl ?_
    (repeat (first
    | refine Sq.pu ok hm Want.none (by exact Pu.assign rfl) rfl ?_
    | refine Sq.finH (n := 3) ok hm (by repeat (first
    | exact Keep.nil
    | apply Keep.drop rfl
    | apply Keep.keep rfl)) ?_))
    refine ⟨(k - 64, l1 ++ ofN 0 64, q2), [(0, .pointer (some ⟨p, 0, none⟩)), (1, .int .u64 ((k - 64 : Nat) : Int))], by simp only; omega, ⟨rfl, rfl, trivial⟩, rfl, by simp only; omega, ?_, ?_, hW2, hF2, hq2, hro2⟩
    · simp only [List.length_append, ofN_length]; omega
    · simp only
      rw [List.append_assoc, ← unaL_64 k h0]; exact hb
  · (repeat (first
    | refine Ex.seq ok hm ?_
    | refine Ex.region ok hm ?_
    | refine Sq.pu ok hm Want.none (by first
    | exact Pu.move rfl
    | exact Pu.geqI rfl rfl
    | exact Pu.convN hT rfl rfl rfl (by simp only [InR]; omega)) rfl ?_
    | refine Sq.finH (n := 3) ok hm (by repeat (first
    | exact Keep.nil
    | apply Keep.drop rfl
    | apply Keep.keep rfl)) ?_
    | refine Ex.condF ok hm rfl (by first
    | rfl
    | exact decide_eq_false (by omega)) ?_
    | refine Ex.exit ok hm ?_))
    refine Sq.call ok Want.none (Op1.call rfl rfl fn16) rfl (FnC.mono (putN_ok (v := 0) (n := k) hp hro hW (by omega) (Nat.two_pow_pos k) (by omega)) ?_)
    rintro r M2 ⟨rfl, hpost⟩
    obtain ⟨q2, hW2, hF2, hq2, hro2⟩ := WPost.trans hF hq1 hpost
    (repeat (first
    | refine Ex.region ok hm ?_
    | refine Sq.pu ok hm Want.none (by exact Pu.move rfl) rfl ?_
    | refine Sq.finH (n := 3) ok hm (by repeat (first
    | exact Keep.nil
    | apply Keep.drop rfl
    | apply Keep.keep rfl)) ?_))
    refine Sq.call ok Want.none (Op1.call rfl rfl fn17) rfl (FnC.mono (bitT_ok hp hro2 hW2 (by simp only [List.length_append, ofN_length]; omega)) ?_)
    rintro r M3 ⟨rfl, hpost⟩
    have hpost := WPost.trans hF2 hq2 hpost
    (repeat (refine Sq.finH (n := 3) ok hm (by repeat (first
    | exact Keep.nil
    | apply Keep.drop rfl
    | apply Keep.keep rfl)) ?_))
    refine ⟨_, .nil, ?_⟩
    rw [← hb]
    unfold unaL
    rw [← ofN_zeros, ← List.append_assoc]
    exact hpost

theorem lowN_def (v : Nat) : len64 (v + 1) - 1 = lowN v := rfl
theorem len1 (v : Nat) : 1 ≤ len64 (v + 1) := by
  have h := len64_lt (v + 1)
  rcases Nat.eq_zero_or_pos (len64 (v + 1)) with e | e
  · rw [e] at h; omega
  · exact e
theorem lowN_63 {v : Nat} (hv : v < 9223372036854775807) : lowN v ≤ 62 := lowN_bd (k := 62) (by omega)

set_option maxHeartbeats 4000000 in
theorem putGamma_ok {ro : Nat} {M : AM} {p q : Nat} {l : List Bool} {v : Nat} (hp : ro ≤ p) (hq : ro ≤ q) (h : WrAt M p q l) (hv : v ≤ 281474976710654) (hl : l.length + 256 ≤ 134217728) :
    FnC Try.prog tables ro 51 [.pointer (some ⟨p, 0, none⟩), .int .u64 (v : Int)] M (fun r M' => WPost ro M M' p q (l ++ gamL v)) := by
  refine FnC.body (nt := 21) ok hm fn51 rfl rfl ?_
  have hb0 := len1 v
  have hb := lowN_bd (v := v) (k := 47) (by omega)
  have hlo := lowN_le v
  have hhi := lowN_lt v
  rw [Nat.pow_succ] at hhi
  (repeat (first
    | refine Ex.seq ok hm ?_
    | refine Ex.region ok hm ?_
    | refine Sq.pu ok hm Want.none (by first
    | exact Pu.move rfl
    | exact Pu.addN rfl rfl (by simp only [InR]; omega)) rfl ?_))
  refine Sq.call ok Want.none (Op1.call rfl rfl fn52) rfl (FnC.mono (Len64_ok (n := v + 1) (by omega)) ?_)
  rintro x M0 ⟨rfl, rfl⟩
  refine Sq.pu ok hm Want.none (Pu.subN (a := len64 (v + 1)) (b := 1) rfl rfl hb0 (by unfold lowN at hb; simp only [InR]; omega)) rfl ?_
  rw [lowN_def]
  have hgl : gamL v = unaL (lowN v) ++ ofN (v + 1 - 2 ^ lowN v) (lowN v) := rfl
  rw [hgl]
  generalize lowN v = b at hb hlo hhi ⊢
  (repeat (first
    | refine Ex.seq ok hm ?_
    | refine Ex.region ok hm ?_
    | refine Sq.pu ok hm Want.none (by first
    | exact Pu.move rfl
    | exact Pu.assign rfl
    | exact Pu.convN hT rfl rfl rfl (by simp only [InR]; omega)) rfl ?_
    | refine Sq.finH (n := 5) ok hm (by repeat (first
    | exact Keep.nil
    | apply Keep.drop rfl
    | apply Keep.keep rfl)) ?_))
  refine Sq.call ok Want.none (Op1.call rfl rfl fn50) rfl (FnC.mono (putUnary_ok (v := b) hp hq h (by omega) (by omega)) ?_)
  rintro r M1 ⟨q1, hW1, hF1, hq1, hro1⟩
  (repeat (first
    | refine Ex.region ok hm ?_
    | refine Sq.pu ok hm Want.none (by first
    | exact Pu.move rfl
    | exact Pu.addN rfl rfl (by simp only [InR]; omega)) rfl ?_
    | refine Sq.finH (n := 5) ok hm (by repeat (first
    | exact Keep.nil
    | apply Keep.drop rfl
    | apply Keep.keep rfl)) ?_))
  refine Sq.pu ok hm Want.none (Pu.shlN (a := 1) (b := b) rfl rfl (by show b ≤ 64; omega) (by simp only [InR]; omega)) rfl ?_
  rw [Nat.one_mul]
  refine Sq.pu ok hm Want.none (Pu.subN (a := v + 1) (b := 2 ^ b) rfl rfl hlo (by simp only [InR]; omega)) rfl ?_
  (repeat (refine Sq.pu ok hm Want.none (by exact Pu.move rfl) rfl ?_))
  refine Sq.call ok Want.none (Op1.call rfl rfl fn16) rfl (FnC.mono (putN_ok (v := v + 1 - 2 ^ b) (n := b) hp hro1 hW1 (by omega) (by omega) (by simp only [List.length_append, unaL_length]; omega)) ?_)
  rintro r M2 ⟨rfl, hpost⟩
  have hpost := WPost.trans hF1 hq1 hpost
  (repeat (refine Sq.finH (n := 5) ok hm (by repeat (first
    | exact Keep.nil
    | apply Keep.drop rfl
    | apply Keep.keep rfl)) ?_))
  refine ⟨_, .nil, ?_⟩
  rw [← List.append_assoc]; exact hpost

set_option maxHeartbeats 4000000 in
theorem putMinimal_ok {ro : Nat} {M : AM} {p q : Nat} {l : List Bool} {v c : Nat} (hp : ro ≤ p) (hq : ro ≤ q) (h : WrAt M p q l) (hc1 : 1 ≤ c) (hc2 : c ≤ 4611686018427387904) (hv : v < c) (hl : l.length + 256 ≤ 134217728) :
    FnC Try.prog tables ro 54 [.pointer (some ⟨p, 0, none⟩), .int .u64 (v : Int), .int .u64 (c : Int)] M (fun r M' => WPost ro M M' p q (l ++ minL v c)) := by
  refine FnC.body (nt := 27) ok hm fn54 rfl rfl ?_
  have hk : len64 (c - 1) ≤ 62 := len64_mono (k := 62) (by omega)
  have hp1 := pow_len64 hc1
  have hp2 : 2 ^ len64 (c - 1) ≤ 2 ^ 62 := Nat.pow_le_pow_right (by decide) hk
  have hlo : len64 (c - 1) ≠ 0 → 2 ^ (len64 (c - 1) - 1) < c := fun k => lt_len64 hc1 (by omega)
  have hkm : len64 (c - 1) ≠ 0 → 2 ^ len64 (c - 1) = 2 * 2 ^ (len64 (c - 1) - 1) := fun hz => by
    conv => lhs; rw [show len64 (c - 1) = (len64 (c - 1) - 1) + 1 by omega, Nat.pow_succ]
    omega
  have hk0 : len64 (c - 1) = 0 → 2 ^ len64 (c - 1) = 1 := fun k => by rw [k]
  have hml : minL v c = if v < 2 ^ len64 (c - 1) - c then ofN v (len64 (c - 1) - 1) else ofN (v + (2 ^ len64 (c - 1) - c)) (len64 (c - 1)) := rfl
  rw [hml]
  (repeat (first
    | refine Ex.seq ok hm ?_
    | refine Ex.region ok hm ?_
    | refine Sq.pu ok hm Want.none (by exact Pu.move rfl) rfl ?_))
  refine Sq.call ok Want.none (Op1.call rfl rfl fn59) rfl (FnC.mono (split_ok (c := c) hc1 (by omega)) ?_)
  rintro x M0 ⟨rfl, rfl⟩
  generalize len64 (c - 1) = k at hk hp1 hp2 hlo hkm hk0 ⊢
  generalize hmd : 2 ^ k - c = m
  by_cases hz : v < m
  · rw [if_pos hz]
    have hkz : k ≠ 0 := by intro e; have := hk0 e; omega
    have := hlo hkz
    have := hkm hkz
    (repeat (first
    | refine Ex.seq ok hm ?_
    | refine Ex.region ok hm ?_
    | refine Sq.pu ok hm Want.none (by first
    | exact Pu.move rfl
    | exact Pu.assign rfl
    | exact Pu.extract rfl rfl
    | exact Pu.lssI rfl rfl) rfl ?_
    | refine Sq.finH (n := 8) ok hm (by repeat (first
    | exact Keep.nil
    | apply Keep.drop rfl
    | apply Keep.keep rfl)) ?_
    | refine Ex.condT ok hm rfl (by first
    | rfl
    | exact decide_eq_true (by omega)) ?_))
    refine Sq.pu ok hm Want.none (Pu.subN (a := k) (b := 1) rfl rfl (by omega) (by simp only [InR]; omega)) rfl ?_
    (repeat (fail))
    refine Sq.call ok Want.none (Op1.call rfl rfl fn16) rfl (FnC.mono (putN_ok (v := v) (n := k - 1) hp hq h (by omega) (by omega) (by omega)) ?_)
    rintro r M1 ⟨rfl, hpost⟩
    (repeat (refine Sq.finH (n := 8) ok hm (by repeat (first
    | exact Keep.nil
    | apply Keep.drop rfl
    | apply Keep.keep rfl)) ?_))
    exact ⟨_, .nil, hpost⟩
  · rw [if_neg hz]
    (repeat (first
    | refine Ex.seq ok hm ?_
    | refine Ex.region ok hm ?_
    | refine Sq.pu ok hm Want.none (by first
    | exact Pu.move rfl
    | exact Pu.assign rfl
    | exact Pu.extract rfl rfl
    | exact Pu.addN rfl rfl (by simp only [InR]; omega)
    | exact Pu.lssI rfl rfl) rfl ?_
    | refine Sq.finH (n := 8) ok hm (by repeat (first
    | exact Keep.nil
    | apply Keep.drop rfl
    | apply Keep.keep rfl)) ?_
    | refine Ex.condF ok hm rfl (by first
    | rfl
    | exact decide_eq_false (by omega)) ?_))
    refine Sq.call ok Want.none (Op1.call rfl rfl fn16) rfl (FnC.mono (putN_ok (v := v + m) (n := k) hp hq h (by omega) (by omega) (by omega)) ?_)
    rintro r M1 ⟨rfl, hpost⟩
    (repeat (refine Sq.finH (n := 8) ok hm (by repeat (first
    | exact Keep.nil
    | apply Keep.drop rfl
    | apply Keep.keep rfl)) ?_))
    exact ⟨_, .nil, hpost⟩

set_option maxHeartbeats 4000000 in
theorem minimalLen_ok {ro : Nat} {M : AM} {v c : Nat} (hc1 : 1 ≤ c) (hc2 : c ≤ 4611686018427387904) (hv : v < 18446744073709551616) :
    FnC Try.prog tables ro 56 [.int .u64 (v : Int), .int .u64 (c : Int)] M (fun r M' => r = .int .i64 ((minL v c).length : Nat) ∧ M' = M) := by
  refine FnC.body (nt := 18) ok hm fn56 rfl rfl ?_
  have hk : len64 (c - 1) ≤ 62 := len64_mono (k := 62) (by omega)
  have hp1 := pow_len64 hc1
  have hp2 : 2 ^ len64 (c - 1) ≤ 2 ^ 62 := Nat.pow_le_pow_right (by decide) hk
  have hk0 : len64 (c - 1) = 0 → 2 ^ len64 (c - 1) = 1 := fun k => by rw [k]
  rw [minL_length]
  (repeat (first
    | refine Ex.seq ok hm ?_
    | refine Ex.region ok hm ?_
    | refine Sq.pu ok hm Want.none (by first
    | exact Pu.move rfl
    | exact Pu.assign rfl) rfl ?_
    | refine Sq.finH (n := 8) ok hm (by repeat (first
    | exact Keep.nil
    | apply Keep.keep rfl)) ?_))
  refine Sq.call ok Want.none (Op1.call rfl rfl fn59) rfl (FnC.mono (split_ok (c := c) hc1 (by omega)) ?_)
  rintro x M0 ⟨rfl, rfl⟩
  generalize len64 (c - 1) = k at hk hp1 hp2 hk0 ⊢
  generalize hmd : 2 ^ k - c = m
  by_cases hz : v < m
  · rw [if_pos hz]
    have hkz : k ≠ 0 := by intro e; have := hk0 e; omega
    (repeat (first
    | refine Ex.seq ok hm ?_
    | refine Ex.region ok hm ?_
    | refine Sq.pu ok hm Want.none (by first
    | exact Pu.move rfl
    | exact Pu.assign rfl
    | exact Pu.extract rfl rfl
    | exact Pu.lssI rfl rfl) rfl ?_
    | refine Sq.finH (n := 8) ok hm (by repeat (first
    | exact Keep.nil
    | apply Keep.drop rfl
    | apply Keep.keep rfl)) ?_
    | refine Ex.condT ok hm rfl (by first
    | rfl
    | exact decide_eq_true (by omega)) ?_))
    refine Sq.pu ok hm Want.none (Pu.subN (a := k) (b := 1) rfl rfl (by omega) (by simp only [InR]; omega)) rfl ?_
    (repeat (first
    | refine Sq.pu ok hm Want.none (by exact Pu.assign rfl) rfl ?_
    | refine Sq.finH (n := 8) ok hm (by repeat (first
    | exact Keep.nil
    | apply Keep.drop rfl
    | apply Keep.keep rfl)) ?_
    | refine Ex.ret ok hm ?_))
    exact ⟨_, .tmp rfl .nil, rfl, rfl⟩
  · rw [if_neg hz]
    (repeat (first
    | refine Ex.seq ok hm ?_
    | refine Ex.skip ok hm ?_
    | refine Ex.region ok hm ?_
    | refine Sq.pu ok hm Want.none (by first
    | exact Pu.move rfl
    | exact Pu.assign rfl
    | exact Pu.extract rfl rfl
    | exact Pu.lssI rfl rfl) rfl ?_
    | refine Sq.finH (n := 8) ok hm (by repeat (first
    | exact Keep.nil
    | apply Keep.drop rfl
    | apply Keep.keep rfl)) ?_
    | refine Ex.condF ok hm rfl (by first
    | rfl
    | exact decide_eq_false (by omega)) ?_
    | refine Ex.ret ok hm ?_))
    exact ⟨_, .tmp rfl .nil, rfl, rfl⟩

set_option maxHeartbeats 4000000 in
theorem Most_ok {ro : Nat} {M : AM} {kind K : Nat} (hk : kind < 256) (hK : K < 18446744073709551616) (hc : checkE kind K = 0) :
    FnC Try.prog tables ro 55 [.agg ⟨[.int .u8 (kind : Int), .int .u64 (K : Int)]⟩] M (fun x M' => x = .int .u64 (mostE kind K : Nat) ∧ Fr M M' []) := by
  refine FnC.body (nt := 18) ok hm fn55 rfl rfl ?_
  refine Ex.facts fun hlt hron => ?_
  obtain ⟨c1, c2, c3⟩ := check0 hc
  (repeat (first
    | refine Ex.seq ok hm ?_
    | refine Ex.region ok hm ?_))
  refine Sq.op ok hm Want.none (Op1.box rfl rfl) rfl ?_
  have hb : (M.add (cdO 58 kind K)).get M.next = some (cdO 58 kind K) := AM.add_same
  have hF0 : Fr M (M.add (cdO 58 kind K)) [] := Fr.add _ _ _
  have hn : M.next < (M.add (cdO 58 kind K)).next := Nat.lt_succ_self _
  show Sq Try.prog tables ro ⟨55, 18⟩ _ _ _ (M.add (cdO 58 kind K)) _
  generalize M.add (cdO 58 kind K) = M1 at hb hF0 hn ⊢
  generalize M.next = bp at hb hn ⊢
  (repeat (first
    | refine Ex.seq ok hm ?_
    | refine Ex.block ok hm ?_
    | refine Ex.region ok hm ?_
    | refine Sq.pu ok hm Want.none (by exact Pu.assign rfl) rfl ?_
    | refine Sq.finH (n := 3) ok hm (by repeat (first
    | exact Keep.nil
    | apply Keep.keep rfl)) ?_))
  refine Sq.pu ok hm Want.none (Pu.loadA hT rfl rfl rfl hb (Nat.le_refl 2)) rfl ?_
  refine Sq.call ok Want.none (Op1.call rfl rfl fn40) rfl (FnC.mono (Check_ok (kind := kind) (K := K) hk hK) ?_)
  rintro x M2 ⟨rfl, hF2⟩
  rw [hc]
  have hb2 := (hF2.get bp hn (by simp)).trans hb
  by_cases k0 : kind = 0
  · have e : mostE kind K = 65535 := if_pos k0
    rw [e]
    (repeat (first
    | refine Ex.seq ok hm ?_
    | refine Ex.region ok hm ?_
    | refine Sq.pu ok hm Want.none (by first
    | exact Pu.assign rfl
    | exact Pu.fieldAddr hT rfl rfl rfl rfl rfl
    | (apply Pu.load hT rfl rfl rfl; (focus ((repeat (assumption)))); (focus rfl))
    | exact Pu.eqlI rfl rfl
    | exact Pu.neqI rfl rfl) rfl ?_
    | refine Sq.finH (n := 3) ok hm (by repeat (first
    | exact Keep.nil
    | apply Keep.drop rfl
    | apply Keep.keep rfl)) ?_
    | refine Ex.condT ok hm rfl (by first
    | rfl
    | exact decide_eq_true (by omega)) ?_
    | refine Ex.condF ok hm rfl (by rfl) ?_
    | refine Ex.ret ok hm ?_))
    exact ⟨_, .tmp rfl .nil, rfl, hF0.trans hF2 (by simp)⟩
  · by_cases k4 : kind = 4
    · have e : mostE kind K = K - 1 := by unfold mostE; rw [if_neg k0, if_pos k4]
      rw [e]
      have := c3 k4
      (repeat (first
    | refine Ex.seq ok hm ?_
    | refine Ex.region ok hm ?_
    | refine Sq.pu ok hm Want.none (by first
    | exact Pu.assign rfl
    | exact Pu.fieldAddr hT rfl rfl rfl rfl rfl
    | (apply Pu.load hT rfl rfl rfl; (focus ((repeat (assumption)))); (focus rfl))
    | exact Pu.eqlI rfl rfl
    | exact Pu.neqI rfl rfl) rfl ?_
    | refine Sq.finH (n := 3) ok hm (by repeat (first
    | exact Keep.nil
    | apply Keep.drop rfl
    | apply Keep.keep rfl)) ?_
    | refine Ex.condT ok hm rfl (by first
    | rfl
    | exact decide_eq_true (by omega)) ?_
    | refine Ex.condF ok hm rfl (by first
    | rfl
    | exact decide_eq_false (by omega)) ?_))
      refine Sq.pu ok hm Want.none (Pu.subN (a := K) (b := 1) rfl rfl (by omega) (by simp only [InR]; omega)) rfl ?_
      (repeat (first
    | refine Sq.pu ok hm Want.none (by exact Pu.assign rfl) rfl ?_
    | refine Sq.finH (n := 3) ok hm (by repeat (first
    | exact Keep.nil
    | apply Keep.drop rfl
    | apply Keep.keep rfl)) ?_
    | refine Ex.ret ok hm ?_))
      exact ⟨_, .tmp rfl .nil, rfl, hF0.trans hF2 (by simp)⟩
    · have e : mostE kind K = 281474976710654 := by unfold mostE; rw [if_neg k0, if_neg k4]
      rw [e]
      (repeat (first
    | refine Ex.seq ok hm ?_
    | refine Ex.skip ok hm ?_
    | refine Ex.region ok hm ?_
    | refine Sq.pu ok hm Want.none (by first
    | exact Pu.assign rfl
    | exact Pu.fieldAddr hT rfl rfl rfl rfl rfl
    | (apply Pu.load hT rfl rfl rfl; (focus ((repeat (assumption)))); (focus rfl))
    | exact Pu.eqlI rfl rfl
    | exact Pu.neqI rfl rfl) rfl ?_
    | refine Sq.finH (n := 3) ok hm (by repeat (first
    | exact Keep.nil
    | apply Keep.drop rfl
    | apply Keep.keep rfl)) ?_
    | refine Ex.condF ok hm rfl (by first
    | rfl
    | exact decide_eq_false (by omega)) ?_
    | refine Ex.ret ok hm ?_))
      exact ⟨_, .tmp rfl .nil, rfl, hF0.trans hF2 (by simp)⟩
end Go.Proofs.Ytlhfolmhgghjcaa
/- N -/
namespace Go.Proofs.Ytlhfolmhgghjcaa
open Go.Wvm Bits
set_option linter.unusedVariables false
set_option linter.unusedSimpArgs false

/-- How many bits a number has in a code, and whether it has. -/
def lenE (kind K v : Nat) : Nat × Int := if checkE kind K = 0 ∧ v ≤ mostE kind K then ((bitsC kind K v).length, 0) else (0, 1)
theorem lenE_yes {kind K v : Nat} (h1 : checkE kind K = 0) (h2 : v ≤ mostE kind K) : lenE kind K v = ((bitsC kind K v).length, 0) := if_pos ⟨h1, h2⟩
theorem lenE_no1 {kind K v : Nat} (h1 : checkE kind K = 1) : lenE kind K v = (0, 1) := if_neg fun k => by rw [h1] at k; exact absurd k.1 (by decide)
theorem lenE_no2 {kind K v : Nat} (h2 : ¬ v ≤ mostE kind K) : lenE kind K v = (0, 1) := if_neg fun k => h2 k.2
theorem minL_le {v c k : Nat} (h : c ≤ 2 ^ k) : (minL v c).length ≤ k := by
  have : len64 (c - 1) ≤ k := len64_mono (by have := Nat.two_pow_pos k; omega)
  rw [minL_length]; split <;> omega
theorem zeta_bd {K v : Nat} (hK : 1 ≤ K ∧ K ≤ 16) (hv : v ≤ 281474976710654) :
    lowN v / K * K ≤ 47 ∧ (lowN v / K + 1) * K ≤ 60 ∧ lowN v / K ≤ 47 :=
  zeta_room hK (Nat.div_le_div_right (lowN_bd (by omega)))
theorem bitsC_le {kind K v : Nat} (hc : checkE kind K = 0) (hv : v ≤ mostE kind K) : (bitsC kind K v).length ≤ 65536 := by
  obtain ⟨c1, c2, c3⟩ := check0 hc
  unfold bitsC
  unfold mostE at hv
  by_cases k0 : kind = 0
  · rw [if_pos k0] at hv ⊢
    rw [unaL_length]; omega
  rw [if_neg k0] at hv ⊢
  by_cases k1 : kind = 1
  · rw [if_neg (by omega)] at hv
    have := lowN_bd (v := v) (k := 47) (by omega)
    rw [if_pos k1, gamL_length]; omega
  rw [if_neg k1]
  by_cases k2 : kind = 2
  · rw [if_neg (by omega)] at hv
    have := lowN_bd (v := v) (k := 47) (by omega)
    have := lowN_self (lowN v)
    rw [if_pos k2, delL_length]; omega
  rw [if_neg k2]
  by_cases k3 : kind = 3
  · rw [if_neg (by omega)] at hv
    have h1 := zeta_bd (c2 k3) hv
    rw [if_pos k3, zetL_length]
    have h2 : (minL (v + 1 - 2 ^ (lowN v / K * K)) (2 ^ ((lowN v / K + 1) * K) - 2 ^ (lowN v / K * K))).length ≤ (lowN v / K + 1) * K := minL_le (Nat.sub_le _ _)
    omega
  · have := c3 (by omega)
    have h2 : (minL v K).length ≤ 48 := minL_le (by omega)
    rw [if_neg k3]; omega

set_option maxHeartbeats 8000000 in
theorem Len_ok {ro : Nat} {M : AM} {kind K v : Nat} (hk : kind < 256) (hK : K < 18446744073709551616) (hv : v < 18446744073709551616) :
    FnC Try.prog tables ro 30 [.agg ⟨[.int .u8 (kind : Int), .int .u64 (K : Int)]⟩, .int .u64 (v : Int)] M (fun x M' => x = .tuple ⟨[.int .i64 ((lenE kind K v).1 : Nat), .int .i64 (lenE kind K v).2]⟩ ∧ Fr M M' []) := by
  refine FnC.body (nt := 75) ok hm fn30 rfl rfl ?_
  refine Ex.facts fun hlt hron => ?_
  (repeat (first
    | refine Ex.seq ok hm ?_
    | refine Ex.region ok hm ?_))
  refine Sq.op ok hm Want.none (Op1.box rfl rfl) rfl ?_
  have hb : (M.add (cdO 58 kind K)).get M.next = some (cdO 58 kind K) := AM.add_same
  have hF0 : Fr M (M.add (cdO 58 kind K)) [] := Fr.add _ _ _
  have hn : M.next < (M.add (cdO 58 kind K)).next := Nat.lt_succ_self _
  (repeat (first
    | refine Ex.seq ok hm ?_
    | refine Ex.region ok hm ?_
    | refine Sq.pu ok hm Want.none (by exact Pu.assign rfl) rfl ?_
    | refine Sq.finH (n := 6) ok hm (by repeat (first
    | exact Keep.nil
    | apply Keep.keep rfl)) ?_))
  show Sq Try.prog tables ro ⟨30, 75⟩ _ _ _ (M.add (cdO 58 kind K)) _
  generalize M.add (cdO 58 kind K) = M1 at hb hF0 hn ⊢
  generalize M.next = bp at hb hn ⊢
  (repeat (fail))
  refine Sq.pu ok hm Want.none (Pu.loadA hT rfl rfl rfl hb (Nat.le_refl 2)) rfl ?_
  refine Sq.call ok Want.none (Op1.call rfl rfl fn40) rfl (FnC.mono (Check_ok (kind := kind) (K := K) hk hK) ?_)
  rintro x M2 ⟨rfl, hF2⟩
  have hb2 := (hF2.get bp hn (by simp)).trans hb
  have hn2 : bp < M2.next := Nat.lt_of_lt_of_le hn hF2.next
  have hF2 := hF0.trans hF2 (by simp)
  rcases check01 kind K with hc | hc
  · rw [hc]
    (repeat (first
    | refine Sq.pu ok hm Want.none (by first
    | exact Pu.move rfl
    | exact Pu.neqI rfl rfl) rfl ?_
    | refine Sq.pu ok hm (by exact Want.yes rfl rfl rfl (by rfl)) (by exact Pu.move rfl) rfl ?_))
    refine Sq.pu ok hm (by exact Want.yes rfl rfl rfl (by rfl)) (Pu.loadA hT rfl rfl rfl hb2 (Nat.le_refl 2)) rfl ?_
    refine Sq.call ok (by exact Want.yes rfl rfl rfl (by rfl)) (Op1.call rfl rfl fn55) rfl (FnC.mono (Most_ok (kind := kind) (K := K) hk hK hc) ?_)
    rintro x M3 ⟨rfl, hF3⟩
    have hb3 := (hF3.get bp hn2 (by simp)).trans hb2
    have hF3 := hF2.trans hF3 (by simp)
    by_cases hvm : v ≤ mostE kind K
    · rw [lenE_yes hc hvm]
      obtain ⟨c1, c2, c3⟩ := check0 hc
      by_cases k0 : kind = 0
      · have hmo : mostE kind K = 65535 := if_pos k0
        have e : (bitsC kind K v).length = v + 1 := by unfold bitsC; rw [if_pos k0, unaL_length]
        rw [e]
        generalize mostE kind K = mo at hvm hmo ⊢
        (repeat (first
    | refine Ex.seq ok hm ?_
    | refine Ex.block ok hm ?_
    | refine Ex.skip ok hm ?_
    | refine Ex.region ok hm ?_
    | refine Sq.pu ok hm Want.none (by first
    | exact Pu.move rfl
    | exact Pu.assign rfl
    | exact Pu.fieldAddr hT rfl rfl rfl rfl rfl
    | (apply Pu.load hT rfl rfl rfl; (focus ((repeat (assumption)))); (focus rfl))
    | exact Pu.addN rfl rfl (by simp only [InR]; omega)
    | exact Pu.gtrI rfl rfl
    | exact Pu.eqlI rfl rfl
    | exact Pu.pickF rfl (by rfl) rfl
    | exact Pu.convN hT rfl rfl rfl (by simp only [InR]; omega)) rfl ?_
    | refine Sq.pu ok hm (by exact Want.yes rfl rfl rfl (by rfl)) (by exact Pu.gtrI rfl rfl) rfl ?_
    | refine Sq.finH (n := 21) ok hm (by repeat (first
    | exact Keep.nil
    | apply Keep.drop rfl
    | apply Keep.keep rfl)) ?_
    | refine Ex.condT ok hm rfl (by first
    | rfl
    | exact decide_eq_true (by omega)) ?_
    | refine Ex.condF ok hm rfl (by first
    | rfl
    | exact decide_eq_false (by omega)) ?_
    | refine Ex.ret ok hm ?_))
        exact ⟨_, .tmp rfl (.tmp rfl .nil), rfl, hF3⟩
      by_cases k4 : kind = 4
      · have hmo : mostE kind K = K - 1 := by unfold mostE; rw [if_neg k0, if_pos k4]
        have e : (bitsC kind K v).length = (minL v K).length := by unfold bitsC; rw [if_neg k0, if_neg (by omega), if_neg (by omega), if_neg (by omega)]
        rw [e]
        have := c3 k4
        generalize mostE kind K = mo at hvm hmo ⊢
        (repeat (first
    | refine Ex.seq ok hm ?_
    | refine Ex.block ok hm ?_
    | refine Ex.skip ok hm ?_
    | refine Ex.region ok hm ?_
    | refine Sq.pu ok hm Want.none (by first
    | exact Pu.move rfl
    | exact Pu.assign rfl
    | exact Pu.fieldAddr hT rfl rfl rfl rfl rfl
    | (apply Pu.load hT rfl rfl rfl; (focus ((repeat (assumption)))); (focus rfl))
    | exact Pu.gtrI rfl rfl
    | exact Pu.eqlI rfl rfl
    | exact Pu.pickF rfl (by rfl) rfl) rfl ?_
    | refine Sq.pu ok hm (by first
    | exact Want.none
    | exact Want.yes rfl rfl rfl (by rfl)) (by exact Pu.gtrI rfl rfl) rfl ?_
    | refine Sq.finH (n := 21) ok hm (by repeat (first
    | exact Keep.nil
    | apply Keep.drop rfl
    | apply Keep.keep rfl)) ?_
    | refine Ex.condT ok hm rfl (by first
    | rfl
    | exact decide_eq_true (by omega)) ?_
    | refine Ex.condF ok hm rfl (by first
    | rfl
    | exact decide_eq_false (by omega)) ?_))
        refine Sq.call ok Want.none (Op1.call rfl rfl fn56) rfl (FnC.mono (minimalLen_ok (v := v) (c := K) (by omega) (by omega) hv) ?_)
        rintro x M4 ⟨rfl, rfl⟩
        (repeat (first
    | refine Sq.pu ok hm Want.none (by exact Pu.assign rfl) rfl ?_
    | refine Sq.finH (n := 21) ok hm (by repeat (first
    | exact Keep.nil
    | apply Keep.drop rfl
    | apply Keep.keep rfl)) ?_
    | refine Ex.ret ok hm ?_))
        exact ⟨_, .tmp rfl (.tmp rfl .nil), rfl, hF3⟩
      have hmo : mostE kind K = 281474976710654 := by unfold mostE; rw [if_neg k0, if_neg k4]
      have hb0 := len1 v
      have hlb := lowN_bd (v := v) (k := 47) (by omega)
      by_cases k1 : kind = 1
      · have e : (bitsC kind K v).length = 2 * lowN v + 1 := by unfold bitsC; rw [if_neg k0, if_pos k1, gamL_length]
        rw [e]
        generalize mostE kind K = mo at hvm hmo ⊢
        (repeat (first
    | refine Ex.seq ok hm ?_
    | refine Ex.block ok hm ?_
    | refine Ex.skip ok hm ?_
    | refine Ex.region ok hm ?_
    | refine Sq.pu ok hm Want.none (by first
    | exact Pu.move rfl
    | exact Pu.assign rfl
    | exact Pu.fieldAddr hT rfl rfl rfl rfl rfl
    | (apply Pu.load hT rfl rfl rfl; (focus ((repeat (assumption)))); (focus rfl))
    | exact Pu.addN rfl rfl (by simp only [InR]; omega)
    | exact Pu.gtrI rfl rfl
    | exact Pu.eqlI rfl rfl
    | exact Pu.pickF rfl (by rfl) rfl) rfl ?_
    | refine Sq.pu ok hm (by first
    | exact Want.none
    | exact Want.yes rfl rfl rfl (by rfl)) (by exact Pu.gtrI rfl rfl) rfl ?_
    | refine Sq.finH (n := 21) ok hm (by repeat (first
    | exact Keep.nil
    | apply Keep.drop rfl
    | apply Keep.keep rfl)) ?_
    | refine Ex.condF ok hm rfl (by first
    | rfl
    | exact decide_eq_false (by omega)) ?_))
        refine Sq.call ok Want.none (Op1.call rfl rfl fn52) rfl (FnC.mono (Len64_ok (n := v + 1) (by omega)) ?_)
        rintro x M4 ⟨rfl, rfl⟩
        refine Sq.pu ok hm Want.none (Pu.subN (a := len64 (v + 1)) (b := 1) rfl rfl hb0 (by unfold lowN at hlb; simp only [InR]; omega)) rfl ?_
        rw [lowN_def]
        generalize lowN v = b at hlb ⊢
        (repeat (first
    | refine Ex.seq ok hm ?_
    | refine Ex.block ok hm ?_
    | refine Ex.region ok hm ?_
    | refine Sq.pu ok hm Want.none (by first
    | exact Pu.move rfl
    | exact Pu.assign rfl
    | exact Pu.fieldAddr hT rfl rfl rfl rfl rfl
    | (apply Pu.load hT rfl rfl rfl; (focus ((repeat (assumption)))); (focus rfl))
    | exact Pu.eqlI rfl rfl) rfl ?_
    | refine Sq.finH (n := 38) ok hm (by repeat (first
    | exact Keep.nil
    | apply Keep.drop rfl
    | apply Keep.keep rfl)) ?_
    | refine Ex.condT ok hm rfl (by first
    | rfl
    | exact decide_eq_true (by omega)) ?_))
        refine Sq.pu ok hm Want.none (Pu.mulN (a := 2) (b := b) rfl rfl (by simp only [InR]; omega)) rfl ?_
        (repeat (first
    | refine Sq.pu ok hm Want.none (by first
    | exact Pu.assign rfl
    | exact Pu.addN rfl rfl (by simp only [InR]; omega)) rfl ?_
    | refine Sq.finH (n := 38) ok hm (by repeat (first
    | exact Keep.nil
    | apply Keep.drop rfl
    | apply Keep.keep rfl)) ?_
    | refine Ex.ret ok hm ?_))
        exact ⟨_, .tmp rfl (.tmp rfl .nil), rfl, hF3⟩
      by_cases k2 : kind = 2
      · have e : (bitsC kind K v).length = 2 * lowN (lowN v) + 1 + lowN v := by unfold bitsC; rw [if_neg k0, if_neg k1, if_pos k2, delL_length]
        rw [e]
        generalize mostE kind K = mo at hvm hmo ⊢
        (repeat (first
    | refine Ex.seq ok hm ?_
    | refine Ex.block ok hm ?_
    | refine Ex.skip ok hm ?_
    | refine Ex.region ok hm ?_
    | refine Sq.pu ok hm Want.none (by first
    | exact Pu.move rfl
    | exact Pu.assign rfl
    | exact Pu.fieldAddr hT rfl rfl rfl rfl rfl
    | (apply Pu.load hT rfl rfl rfl; (focus ((repeat (assumption)))); (focus rfl))
    | exact Pu.addN rfl rfl (by simp only [InR]; omega)
    | exact Pu.gtrI rfl rfl
    | exact Pu.eqlI rfl rfl
    | exact Pu.pickF rfl (by rfl) rfl) rfl ?_
    | refine Sq.pu ok hm (by first
    | exact Want.none
    | exact Want.yes rfl rfl rfl (by rfl)) (by exact Pu.gtrI rfl rfl) rfl ?_
    | refine Sq.finH (n := 21) ok hm (by repeat (first
    | exact Keep.nil
    | apply Keep.drop rfl
    | apply Keep.keep rfl)) ?_
    | refine Ex.condF ok hm rfl (by first
    | rfl
    | exact decide_eq_false (by omega)) ?_))
        refine Sq.call ok Want.none (Op1.call rfl rfl fn52) rfl (FnC.mono (Len64_ok (n := v + 1) (by omega)) ?_)
        rintro x M4 ⟨rfl, rfl⟩
        refine Sq.pu ok hm Want.none (Pu.subN (a := len64 (v + 1)) (b := 1) rfl rfl hb0 (by unfold lowN at hlb; simp only [InR]; omega)) rfl ?_
        rw [lowN_def]
        generalize lowN v = b at hlb ⊢
        have hb1 := len1 b
        have hs1 := lowN_self b
        (repeat (first
    | refine Ex.seq ok hm ?_
    | refine Ex.block ok hm ?_
    | refine Ex.region ok hm ?_
    | refine Sq.pu ok hm Want.none (by first
    | exact Pu.move rfl
    | exact Pu.assign rfl
    | exact Pu.fieldAddr hT rfl rfl rfl rfl rfl
    | (apply Pu.load hT rfl rfl rfl; (focus ((repeat (assumption)))); (focus rfl))
    | exact Pu.addN rfl rfl (by simp only [InR]; omega)
    | exact Pu.eqlI rfl rfl
    | exact Pu.convN hT rfl rfl rfl (by simp only [InR]; omega)) rfl ?_
    | refine Sq.finH (n := 38) ok hm (by repeat (first
    | exact Keep.nil
    | apply Keep.drop rfl
    | apply Keep.keep rfl)) ?_
    | refine Ex.condT ok hm rfl (by first
    | rfl
    | exact decide_eq_true (by omega)) ?_
    | refine Ex.condF ok hm rfl (by first
    | rfl
    | exact decide_eq_false (by omega)) ?_))
        refine Sq.call ok Want.none (Op1.call rfl rfl fn52) rfl (FnC.mono (Len64_ok (n := b + 1) (by omega)) ?_)
        rintro x M5 ⟨rfl, rfl⟩
        refine Sq.pu ok hm Want.none (Pu.subN (a := len64 (b + 1)) (b := 1) rfl rfl hb1 (by unfold lowN at hs1; simp only [InR]; omega)) rfl ?_
        rw [lowN_def]
        generalize lowN b = d at hs1 ⊢
        refine Sq.pu ok hm Want.none (Pu.mulN (a := 2) (b := d) rfl rfl (by simp only [InR]; omega)) rfl ?_
        (repeat (first
    | refine Sq.pu ok hm Want.none (by first
    | exact Pu.move rfl
    | exact Pu.assign rfl
    | exact Pu.addN rfl rfl (by simp only [InR]; omega)) rfl ?_
    | refine Sq.finH (n := 38) ok hm (by repeat (first
    | exact Keep.nil
    | apply Keep.drop rfl
    | apply Keep.keep rfl)) ?_
    | refine Ex.ret ok hm ?_))
        exact ⟨_, .tmp rfl (.tmp rfl .nil), rfl, hF3⟩
      have k3 : kind = 3 := by omega
      have hK3 := c2 k3
      have e : (bitsC kind K v).length = (lowN v / K + 1) + (minL (v + 1 - 2 ^ (lowN v / K * K)) (2 ^ ((lowN v / K + 1) * K) - 2 ^ (lowN v / K * K))).length := by
        unfold bitsC; rw [if_neg k0, if_neg k1, if_neg k2, if_pos k3, zetL_length]
      rw [e]
      obtain ⟨z1, z2, z3⟩ := zeta_bd (v := v) hK3 (by omega)
      obtain ⟨z4, z5⟩ := zeta_in (v := v) hK3.1
      have hp1 : 2 ^ ((lowN v / K + 1) * K) ≤ 2 ^ 60 := Nat.pow_le_pow_right (by decide) z2
      generalize mostE kind K = mo at hvm hmo ⊢
      (repeat (first
    | refine Ex.seq ok hm ?_
    | refine Ex.block ok hm ?_
    | refine Ex.skip ok hm ?_
    | refine Ex.region ok hm ?_
    | refine Sq.pu ok hm Want.none (by first
    | exact Pu.move rfl
    | exact Pu.assign rfl
    | exact Pu.fieldAddr hT rfl rfl rfl rfl rfl
    | (apply Pu.load hT rfl rfl rfl; (focus ((repeat (assumption)))); (focus rfl))
    | exact Pu.addN rfl rfl (by simp only [InR]; omega)
    | exact Pu.gtrI rfl rfl
    | exact Pu.eqlI rfl rfl
    | exact Pu.pickF rfl (by rfl) rfl) rfl ?_
    | refine Sq.pu ok hm (by first
    | exact Want.none
    | exact Want.yes rfl rfl rfl (by rfl)) (by exact Pu.gtrI rfl rfl) rfl ?_
    | refine Sq.finH (n := 21) ok hm (by repeat (first
    | exact Keep.nil
    | apply Keep.drop rfl
    | apply Keep.keep rfl)) ?_
    | refine Ex.condF ok hm rfl (by first
    | rfl
    | exact decide_eq_false (by omega)) ?_))
      refine Sq.call ok Want.none (Op1.call rfl rfl fn52) rfl (FnC.mono (Len64_ok (n := v + 1) (by omega)) ?_)
      rintro x M4 ⟨rfl, rfl⟩
      refine Sq.pu ok hm Want.none (Pu.subN (a := len64 (v + 1)) (b := 1) rfl rfl hb0 (by unfold lowN at hlb; simp only [InR]; omega)) rfl ?_
      rw [lowN_def]
      (repeat (first
    | refine Ex.seq ok hm ?_
    | refine Ex.block ok hm ?_
    | refine Ex.skip ok hm ?_
    | refine Ex.region ok hm ?_
    | refine Sq.pu ok hm Want.none (by first
    | exact Pu.move rfl
    | exact Pu.assign rfl
    | exact Pu.fieldAddr hT rfl rfl rfl rfl rfl
    | (apply Pu.load hT rfl rfl rfl; (focus ((repeat (assumption)))); (focus rfl))
    | exact Pu.eqlI rfl rfl
    | exact Pu.convN hT rfl rfl rfl (by simp only [InR]; omega)) rfl ?_
    | refine Sq.finH (n := 38) ok hm (by repeat (first
    | exact Keep.nil
    | apply Keep.drop rfl
    | apply Keep.keep rfl)) ?_
    | refine Ex.condF ok hm rfl (by first
    | rfl
    | exact decide_eq_false (by omega)) ?_))
      refine Sq.pu ok hm Want.none (Pu.quoN (a := lowN v) (b := K) rfl rfl (by omega) (by simp only [InR]; omega)) rfl ?_
      generalize lowN v / K = h at z1 z2 z3 z4 z5 hp1 ⊢
      (repeat (first
    | refine Ex.seq ok hm ?_
    | refine Ex.region ok hm ?_
    | refine Sq.pu ok hm Want.none (by first
    | exact Pu.move rfl
    | exact Pu.assign rfl
    | exact Pu.fieldAddr hT rfl rfl rfl rfl rfl
    | (apply Pu.load hT rfl rfl rfl; (focus ((repeat (assumption)))); (focus rfl))) rfl ?_
    | refine Sq.finH (n := 38) ok hm (by repeat (first
    | exact Keep.nil
    | apply Keep.drop rfl
    | apply Keep.keep rfl)) ?_))
      refine Sq.call ok Want.none (Op1.call rfl rfl fn53) rfl (FnC.mono (shell_ok (h := h) (K := K) (by omega) ⟨by omega, by omega⟩) ?_)
      rintro x M5 ⟨rfl, rfl⟩
      generalize 2 ^ (h * K) = lo at z4 ⊢
      generalize 2 ^ ((h + 1) * K) = hi at z5 hp1 ⊢
      have hml : (minL (v + 1 - lo) (hi - lo)).length ≤ 60 := minL_le (by omega)
      (repeat (first
    | refine Ex.seq ok hm ?_
    | refine Ex.region ok hm ?_
    | refine Sq.pu ok hm Want.none (by first
    | exact Pu.move rfl
    | exact Pu.assign rfl
    | exact Pu.extract rfl rfl
    | exact Pu.addN rfl rfl (by simp only [InR]; omega)) rfl ?_
    | refine Sq.finH (n := 38) ok hm (by repeat (first
    | exact Keep.nil
    | apply Keep.drop rfl
    | apply Keep.keep rfl)) ?_))
      refine Sq.pu ok hm Want.none (Pu.subN (a := v + 1) (b := lo) rfl rfl z4 (by simp only [InR]; omega)) rfl ?_
      (repeat (refine Sq.pu ok hm Want.none (by exact Pu.move rfl) rfl ?_))
      refine Sq.call ok Want.none (Op1.call rfl rfl fn56) rfl (FnC.mono (minimalLen_ok (v := v + 1 - lo) (c := hi - lo) (by omega) (by omega) (by omega)) ?_)
      rintro x M6 ⟨rfl, rfl⟩
      generalize (minL (v + 1 - lo) (hi - lo)).length = ml at hml ⊢
      (repeat (first
    | refine Sq.pu ok hm Want.none (by first
    | exact Pu.assign rfl
    | exact Pu.addN rfl rfl (by simp only [InR]; omega)) rfl ?_
    | refine Sq.finH (n := 38) ok hm (by repeat (first
    | exact Keep.nil
    | apply Keep.drop rfl
    | apply Keep.keep rfl)) ?_
    | refine Ex.ret ok hm ?_))
      exact ⟨_, .tmp rfl (.tmp rfl .nil), rfl, hF3⟩
    · rw [lenE_no2 hvm]
      generalize mostE kind K = mo at hvm ⊢
      (repeat (first
    | refine Ex.seq ok hm ?_
    | refine Ex.region ok hm ?_
    | refine Sq.pu ok hm Want.none (by first
    | exact Pu.assign rfl
    | exact Pu.gtrI rfl rfl
    | exact Pu.pickF rfl (by rfl) rfl) rfl ?_
    | refine Sq.pu ok hm (by exact Want.yes rfl rfl rfl (by rfl)) (by exact Pu.gtrI rfl rfl) rfl ?_
    | refine Sq.finH (n := 6) ok hm (by repeat (first
    | exact Keep.nil
    | apply Keep.drop rfl
    | apply Keep.keep rfl)) ?_
    | refine Ex.condT ok hm rfl (by first
    | rfl
    | exact decide_eq_true (by omega)) ?_
    | refine Ex.ret ok hm ?_))
      exact ⟨_, .tmp rfl (.tmp rfl .nil), rfl, hF3⟩
  · rw [hc, lenE_no1 hc]
    (repeat (first
    | refine Ex.seq ok hm ?_
    | refine Ex.region ok hm ?_
    | refine Sq.pu ok hm Want.none (by first
    | exact Pu.move rfl
    | exact Pu.assign rfl
    | exact Pu.neqI rfl rfl
    | exact Pu.pickT rfl (by rfl) rfl) rfl ?_
    | refine Sq.skip ok hm (by exact Want.no rfl rfl rfl (by rfl)) rfl ?_
    | refine Sq.finH (n := 6) ok hm (by repeat (first
    | exact Keep.nil
    | apply Keep.drop rfl
    | apply Keep.keep rfl)) ?_
    | refine Ex.condT ok hm rfl (by rfl) ?_
    | refine Ex.ret ok hm ?_))
    exact ⟨_, .tmp rfl (.tmp rfl .nil), rfl, hF2⟩
end Go.Proofs.Ytlhfolmhgghjcaa
/- N -/
namespace Go.Proofs.Ytlhfolmhgghjcaa
open Go.Wvm Bits
set_option linter.unusedVariables false
set_option linter.unusedSimpArgs false

theorem WrAt.keep {M M' : AM} {p q : Nat} {l : List Bool} {S : List Nat} (h : WrAt M p q l) (f : Fr M M' S) (hp : p < M.next) (hpS : p ∉ S) (hq : packL l ≠ [] → q < M.next ∧ q ∉ S) : WrAt M' p q l :=
  ⟨(f.get p hp hpS).trans h.row, fun k => (f.get q (hq k).1 (hq k).2).trans (h.buf k), h.ne⟩
theorem WPost.pre {ro : Nat} {M M1 M2 : AM} {p q : Nat} {l2 : List Bool} (hF : Fr M M1 []) (h : WPost ro M1 M2 p q l2) : WPost ro M M2 p q l2 :=
  WPost.trans (hF.mono (by simp)) (.inl rfl) h

set_option maxHeartbeats 8000000 in
theorem cPut_ok {ro : Nat} {M : AM} {p q kind K v : Nat} {l : List Bool} (hp : ro ≤ p) (hq : ro ≤ q) (h : WrAt M p q l) (hk : kind < 256) (hK : K < 18446744073709551616) (hv : v < 18446744073709551616) (hl : l.length + 66000 ≤ 134217728) :
    FnC Try.prog tables ro 29 [.pointer (some ⟨p, 0, none⟩), .agg ⟨[.int .u8 (kind : Int), .int .u64 (K : Int)]⟩, .int .u64 (v : Int)] M
      (fun x M' => x = .int .i64 (lenE kind K v).2 ∧ WPost ro M M' p q (if (lenE kind K v).2 = 0 then l ++ bitsC kind K v else l)) := by
  refine FnC.body (nt := 94) ok hm fn29 rfl rfl ?_
  refine Ex.facts fun hlt hron => ?_
  have hpl := hlt _ _ h.row
  have hql : packL l ≠ [] → q < M.next := fun k => hlt _ _ (h.buf k)
  (repeat (first
    | refine Ex.seq ok hm ?_
    | refine Ex.region ok hm ?_))
  refine Sq.op ok hm Want.none (Op1.box rfl rfl) rfl ?_
  have hb : (M.add (cdO 58 kind K)).get M.next = some (cdO 58 kind K) := AM.add_same
  have hF0 : Fr M (M.add (cdO 58 kind K)) [] := Fr.add _ _ _
  have hn : M.next < (M.add (cdO 58 kind K)).next := Nat.lt_succ_self _
  (repeat (first
    | refine Ex.seq ok hm ?_
    | refine Ex.skip ok hm ?_
    | refine Ex.region ok hm ?_
    | refine Sq.pu ok hm Want.none (by first
    | exact Pu.move rfl
    | exact Pu.assign rfl
    | exact Pu.eqlP hT rfl rfl rfl) rfl ?_
    | refine Sq.finH (n := 7) ok hm (by repeat (first
    | exact Keep.nil
    | apply Keep.drop rfl
    | apply Keep.keep rfl)) ?_
    | refine Ex.condF ok hm rfl (by rfl) ?_))
  show Sq Try.prog tables ro ⟨29, 94⟩ _ _ _ (M.add (cdO 58 kind K)) _
  generalize M.add (cdO 58 kind K) = M1 at hb hF0 hn ⊢
  generalize hbp : M.next = bp at hb hn ⊢
  (repeat (fail))
  refine Sq.pu ok hm Want.none (Pu.loadA hT rfl rfl rfl hb (Nat.le_refl 2)) rfl ?_
  (repeat (refine Sq.pu ok hm Want.none (by exact Pu.move rfl) rfl ?_))
  refine Sq.call ok Want.none (Op1.call rfl rfl fn30) rfl (FnC.mono (Len_ok (kind := kind) (K := K) (v := v) hk hK hv) ?_)
  rintro x M2 ⟨rfl, hF2⟩
  have hb2 := (hF2.get bp hn (by simp)).trans hb
  have hn2 : bp < M2.next := Nat.lt_of_lt_of_le hn hF2.next
  have hF2 := hF0.trans hF2 (by simp)
  have hW2 : WrAt M2 p q l := h.keep hF2 hpl (by simp) (fun k => ⟨hql k, by simp⟩)
  by_cases hc2 : checkE kind K = 0 ∧ v ≤ mostE kind K
  · obtain ⟨hc, hvm⟩ := hc2
    rw [lenE_yes hc hvm, if_pos rfl]
    have hle := bitsC_le hc hvm
    obtain ⟨c1, c2, c3⟩ := check0 hc
    have hLn : ∀ L, bitsC kind K v = L → (bitsC kind K v).length = L.length := fun L e => by rw [e]
    generalize hbl : (bitsC kind K v).length = bl at hle ⊢
    (repeat (first
    | refine Ex.seq ok hm ?_
    | refine Ex.skip ok hm ?_
    | refine Ex.region ok hm ?_
    | refine Sq.pu ok hm Want.none (by first
    | exact Pu.move rfl
    | exact Pu.assign rfl
    | exact Pu.extract rfl rfl
    | exact Pu.neqI rfl rfl) rfl ?_
    | refine Sq.finH (n := 9) ok hm (by repeat (first
    | exact Keep.nil
    | apply Keep.drop rfl
    | apply Keep.keep rfl)) ?_
    | refine Ex.condF ok hm rfl (by rfl) ?_))
    refine Sq.call ok Want.none (Op1.call rfl rfl fn15) rfl (FnC.mono (len_ok hW2) ?_)
    rintro x M3 ⟨rfl, rfl⟩
    refine Sq.pu ok hm Want.none (Pu.subN (a := 134217728) (b := l.length) rfl rfl (by omega) (by simp only [InR]; omega)) rfl ?_
    have hroom : ¬ (134217728 - l.length < bl) := by omega
    generalize 134217728 - l.length = room at hroom ⊢
    by_cases k0 : kind = 0
    · have hmo : mostE kind K = 65535 := if_pos k0
      have e : bitsC kind K v = unaL v := by unfold bitsC; rw [if_pos k0]
      rw [e]
      (repeat (first
    | refine Ex.seq ok hm ?_
    | refine Ex.block ok hm ?_
    | refine Ex.skip ok hm ?_
    | refine Ex.region ok hm ?_
    | refine Sq.pu ok hm Want.none (by first
    | exact Pu.move rfl
    | exact Pu.assign rfl
    | exact Pu.fieldAddr hT rfl rfl rfl rfl rfl
    | (apply Pu.load hT rfl rfl rfl; (focus ((repeat (assumption)))); (focus rfl))
    | exact Pu.gtrI rfl rfl
    | exact Pu.eqlI rfl rfl) rfl ?_
    | refine Sq.finH (n := 31) ok hm (by repeat (first
    | exact Keep.nil
    | apply Keep.drop rfl
    | apply Keep.keep rfl)) ?_
    | refine Ex.condT ok hm rfl (by first
    | rfl
    | exact decide_eq_true (by omega)) ?_
    | refine Ex.condF ok hm rfl (by first
    | rfl
    | exact decide_eq_false (by omega)) ?_))
      refine Sq.call ok Want.none (Op1.call rfl rfl fn50) rfl (FnC.mono (putUnary_ok (v := v) hp hq hW2 (by omega) (by omega)) ?_)
      rintro r M4 hpost
      (repeat (first
    | refine Ex.seq ok hm ?_
    | refine Ex.region ok hm ?_
    | refine Sq.pu ok hm Want.none (by exact Pu.assign rfl) rfl ?_
    | refine Sq.finH (n := 7) ok hm (by repeat (first
    | exact Keep.nil
    | apply Keep.drop rfl
    | apply Keep.keep rfl)) ?_
    | refine Ex.ret ok hm ?_))
      exact ⟨_, .tmp rfl .nil, rfl, WPost.pre hF2 hpost⟩
    by_cases k4 : kind = 4
    · have hmo : mostE kind K = K - 1 := by unfold mostE; rw [if_neg k0, if_pos k4]
      have e : bitsC kind K v = minL v K := by unfold bitsC; rw [if_neg k0, if_neg (by omega), if_neg (by omega), if_neg (by omega)]
      rw [e]
      have := c3 k4
      (repeat (first
    | refine Ex.seq ok hm ?_
    | refine Ex.block ok hm ?_
    | refine Ex.skip ok hm ?_
    | refine Ex.region ok hm ?_
    | refine Sq.pu ok hm Want.none (by first
    | exact Pu.move rfl
    | exact Pu.assign rfl
    | exact Pu.fieldAddr hT rfl rfl rfl rfl rfl
    | (apply Pu.load hT rfl rfl rfl; (focus ((repeat (assumption)))); (focus rfl))
    | exact Pu.gtrI rfl rfl
    | exact Pu.eqlI rfl rfl) rfl ?_
    | refine Sq.finH (n := 31) ok hm (by repeat (first
    | exact Keep.nil
    | apply Keep.drop rfl
    | apply Keep.keep rfl)) ?_
    | refine Ex.condT ok hm rfl (by first
    | rfl
    | exact decide_eq_true (by omega)) ?_
    | refine Ex.condF ok hm rfl (by first
    | rfl
    | exact decide_eq_false (by omega)) ?_))
      refine Sq.call ok Want.none (Op1.call rfl rfl fn54) rfl (FnC.mono (putMinimal_ok (v := v) (c := K) hp hq hW2 (by omega) (by omega) (by omega) (by omega)) ?_)
      rintro r M4 hpost
      (repeat (first
    | refine Ex.seq ok hm ?_
    | refine Ex.region ok hm ?_
    | refine Sq.pu ok hm Want.none (by exact Pu.assign rfl) rfl ?_
    | refine Sq.finH (n := 7) ok hm (by repeat (first
    | exact Keep.nil
    | apply Keep.drop rfl
    | apply Keep.keep rfl)) ?_
    | refine Ex.ret ok hm ?_))
      exact ⟨_, .tmp rfl .nil, rfl, WPost.pre hF2 hpost⟩
    have hmo : mostE kind K = 281474976710654 := by unfold mostE; rw [if_neg k0, if_neg k4]
    have hb0 := len1 v
    have hlb := lowN_bd (v := v) (k := 47) (by omega)
    by_cases k1 : kind = 1
    · have e : bitsC kind K v = gamL v := by unfold bitsC; rw [if_neg k0, if_pos k1]
      rw [e]
      (repeat (first
    | refine Ex.seq ok hm ?_
    | refine Ex.block ok hm ?_
    | refine Ex.skip ok hm ?_
    | refine Ex.region ok hm ?_
    | refine Sq.pu ok hm Want.none (by first
    | exact Pu.move rfl
    | exact Pu.assign rfl
    | exact Pu.fieldAddr hT rfl rfl rfl rfl rfl
    | (apply Pu.load hT rfl rfl rfl; (focus ((repeat (assumption)))); (focus rfl))
    | exact Pu.gtrI rfl rfl
    | exact Pu.eqlI rfl rfl) rfl ?_
    | refine Sq.finH (n := 31) ok hm (by repeat (first
    | exact Keep.nil
    | apply Keep.drop rfl
    | apply Keep.keep rfl)) ?_
    | refine Ex.condT ok hm rfl (by first
    | rfl
    | exact decide_eq_true (by omega)) ?_
    | refine Ex.condF ok hm rfl (by first
    | rfl
    | exact decide_eq_false (by omega)) ?_))
      refine Sq.call ok Want.none (Op1.call rfl rfl fn51) rfl (FnC.mono (putGamma_ok (v := v) hp hq hW2 (by omega) (by omega)) ?_)
      rintro r M4 hpost
      (repeat (first
    | refine Ex.seq ok hm ?_
    | refine Ex.region ok hm ?_
    | refine Sq.pu ok hm Want.none (by exact Pu.assign rfl) rfl ?_
    | refine Sq.finH (n := 7) ok hm (by repeat (first
    | exact Keep.nil
    | apply Keep.drop rfl
    | apply Keep.keep rfl)) ?_
    | refine Ex.ret ok hm ?_))
      exact ⟨_, .tmp rfl .nil, rfl, WPost.pre hF2 hpost⟩
    by_cases k2 : kind = 2
    · have e : bitsC kind K v = gamL (lowN v) ++ ofN (v + 1 - 2 ^ lowN v) (lowN v) := by unfold bitsC; rw [if_neg k0, if_neg k1, if_pos k2]; rfl
      rw [e]
      have hlo := lowN_le v
      have hhi := lowN_lt v
      rw [Nat.pow_succ] at hhi
      (repeat (first
    | refine Ex.seq ok hm ?_
    | refine Ex.block ok hm ?_
    | refine Ex.skip ok hm ?_
    | refine Ex.region ok hm ?_
    | refine Sq.pu ok hm Want.none (by first
    | exact Pu.move rfl
    | exact Pu.assign rfl
    | exact Pu.fieldAddr hT rfl rfl rfl rfl rfl
    | (apply Pu.load hT rfl rfl rfl; (focus ((repeat (assumption)))); (focus rfl))
    | exact Pu.addN rfl rfl (by simp only [InR]; omega)
    | exact Pu.gtrI rfl rfl
    | exact Pu.eqlI rfl rfl) rfl ?_
    | refine Sq.finH (n := 31) ok hm (by repeat (first
    | exact Keep.nil
    | apply Keep.drop rfl
    | apply Keep.keep rfl)) ?_
    | refine Ex.condT ok hm rfl (by first
    | rfl
    | exact decide_eq_true (by omega)) ?_
    | refine Ex.condF ok hm rfl (by first
    | rfl
    | exact decide_eq_false (by omega)) ?_))
      refine Sq.call ok Want.none (Op1.call rfl rfl fn52) rfl (FnC.mono (Len64_ok (n := v + 1) (by omega)) ?_)
      rintro x M4 ⟨rfl, rfl⟩
      refine Sq.pu ok hm Want.none (Pu.subN (a := len64 (v + 1)) (b := 1) rfl rfl hb0 (by unfold lowN at hlb; simp only [InR]; omega)) rfl ?_
      rw [lowN_def]
      have hgl : (gamL (lowN v)).length ≤ 200 := by
        have := lowN_self (lowN v)
        rw [gamL_length]; omega
      generalize lowN v = b at hlb hlo hhi hgl ⊢
      (repeat (first
    | refine Ex.seq ok hm ?_
    | refine Ex.region ok hm ?_
    | refine Sq.pu ok hm Want.none (by first
    | exact Pu.move rfl
    | exact Pu.assign rfl
    | exact Pu.convN hT rfl rfl rfl (by simp only [InR]; omega)) rfl ?_
    | refine Sq.finH (n := 10) ok hm (by repeat (first
    | exact Keep.nil
    | apply Keep.drop rfl
    | apply Keep.keep rfl)) ?_))
      refine Sq.call ok Want.none (Op1.call rfl rfl fn51) rfl (FnC.mono (putGamma_ok (v := b) hp hq hW2 (by omega) (by omega)) ?_)
      rintro r M5 ⟨q1, hW1, hF1, hq1, hro1⟩
      (repeat (first
    | refine Ex.region ok hm ?_
    | refine Sq.pu ok hm Want.none (by first
    | exact Pu.move rfl
    | exact Pu.addN rfl rfl (by simp only [InR]; omega)) rfl ?_
    | refine Sq.finH (n := 10) ok hm (by repeat (first
    | exact Keep.nil
    | apply Keep.drop rfl
    | apply Keep.keep rfl)) ?_))
      refine Sq.pu ok hm Want.none (Pu.shlN (a := 1) (b := b) rfl rfl (by show b ≤ 64; omega) (by simp only [InR]; omega)) rfl ?_
      rw [Nat.one_mul]
      refine Sq.pu ok hm Want.none (Pu.subN (a := v + 1) (b := 2 ^ b) rfl rfl hlo (by simp only [InR]; omega)) rfl ?_
      (repeat (refine Sq.pu ok hm Want.none (by exact Pu.move rfl) rfl ?_))
      refine Sq.call ok Want.none (Op1.call rfl rfl fn16) rfl (FnC.mono (putN_ok (v := v + 1 - 2 ^ b) (n := b) hp hro1 hW1 (by omega) (by omega) (by rw [List.length_append]; omega)) ?_)
      rintro r M6 ⟨rfl, hpost⟩
      have hpost := WPost.trans hF1 hq1 hpost
      rw [List.append_assoc] at hpost
      (repeat (first
    | refine Ex.seq ok hm ?_
    | refine Ex.region ok hm ?_
    | refine Sq.pu ok hm Want.none (by exact Pu.assign rfl) rfl ?_
    | refine Sq.finH (n := 7) ok hm (by repeat (first
    | exact Keep.nil
    | apply Keep.drop rfl
    | apply Keep.keep rfl)) ?_
    | refine Ex.ret ok hm ?_))
      exact ⟨_, .tmp rfl .nil, rfl, WPost.pre hF2 hpost⟩
    have k3 : kind = 3 := by omega
    have hK3 := c2 k3
    have e : bitsC kind K v = unaL (lowN v / K) ++ minL (v + 1 - 2 ^ (lowN v / K * K)) (2 ^ ((lowN v / K + 1) * K) - 2 ^ (lowN v / K * K)) := by
      unfold bitsC; rw [if_neg k0, if_neg k1, if_neg k2, if_pos k3]; rfl
    rw [e]
    obtain ⟨z1, z2, z3⟩ := zeta_bd (v := v) hK3 (by omega)
    obtain ⟨z4, z5⟩ := zeta_in (v := v) hK3.1
    have hp1 : 2 ^ ((lowN v / K + 1) * K) ≤ 2 ^ 60 := Nat.pow_le_pow_right (by decide) z2
    (repeat (first
    | refine Ex.seq ok hm ?_
    | refine Ex.block ok hm ?_
    | refine Ex.skip ok hm ?_
    | refine Ex.region ok hm ?_
    | refine Sq.pu ok hm Want.none (by first
    | exact Pu.assign rfl
    | exact Pu.fieldAddr hT rfl rfl rfl rfl rfl
    | (apply Pu.load hT rfl rfl rfl; (focus ((repeat (assumption)))); (focus rfl))
    | exact Pu.gtrI rfl rfl
    | exact Pu.eqlI rfl rfl) rfl ?_
    | refine Sq.finH (n := 31) ok hm (by repeat (first
    | exact Keep.nil
    | apply Keep.drop rfl
    | apply Keep.keep rfl)) ?_
    | refine Ex.condT ok hm rfl (by first
    | rfl
    | exact decide_eq_true (by omega)) ?_
    | refine Ex.condF ok hm rfl (by first
    | rfl
    | exact decide_eq_false (by omega)) ?_))
    refine Ex.quiet ok hm (by kernel_rfl) ?_
    (repeat (refine Hq.pu Want.none (by first
    | exact Pu.move rfl
    | exact Pu.addN rfl rfl (by simp only [InR]; omega)) rfl rfl rfl ?_))
    refine Hq.call ok Want.none (fun ro => Op1.call rfl rfl fn52) rfl rfl (FnC.mono (Len64_ok (n := v + 1) (by omega)) ?_)
    rintro x M4 ⟨rfl, rfl⟩
    refine ⟨rfl, ?_⟩
    refine Hq.pu Want.none (Pu.subN (a := len64 (v + 1)) (b := 1) rfl rfl hb0 (by unfold lowN at hlb; simp only [InR]; omega)) rfl rfl rfl ?_
    rw [lowN_def]
    (repeat (refine Hq.pu Want.none (by first
    | exact Pu.fieldAddr hT rfl rfl rfl rfl rfl
    | (apply Pu.load hT rfl rfl rfl; (focus ((repeat (assumption)))); (focus rfl))
    | exact Pu.convN hT rfl rfl rfl (by simp only [InR]; omega)) rfl rfl rfl ?_))
    refine Hq.pu Want.none (Pu.quoN (a := lowN v) (b := K) rfl rfl (by omega) (by simp only [InR]; omega)) rfl rfl rfl ?_
    generalize lowN v / K = h at z1 z2 z3 z4 z5 hp1 ⊢
    (repeat (first
    | refine Ex.seq ok hm ?_
    | refine Ex.region ok hm ?_
    | refine Sq.pu ok hm Want.none (by first
    | exact Pu.move rfl
    | exact Pu.fieldAddr hT rfl rfl rfl rfl rfl
    | (apply Pu.load hT rfl rfl rfl; (focus ((repeat (assumption)))); (focus rfl))) rfl ?_
    | refine Hq.pu Want.none (by exact Pu.assign rfl) rfl rfl rfl ?_
    | refine Hq.nil ?_))
    refine Sq.call ok Want.none (Op1.call rfl rfl fn53) rfl (FnC.mono (shell_ok (h := h) (K := K) (by omega) ⟨by omega, by omega⟩) ?_)
    rintro x M5 ⟨rfl, rfl⟩
    generalize 2 ^ (h * K) = lo at z4 ⊢
    generalize 2 ^ ((h + 1) * K) = hi at z5 hp1 ⊢
    (repeat (first
    | refine Ex.seq ok hm ?_
    | refine Ex.region ok hm ?_
    | refine Sq.pu ok hm Want.none (by first
    | exact Pu.move rfl
    | exact Pu.assign rfl
    | exact Pu.extract rfl rfl
    | exact Pu.convN hT rfl rfl rfl (by simp only [InR]; omega)) rfl ?_
    | refine Sq.finH (n := 13) ok hm (by repeat (first
    | exact Keep.nil
    | apply Keep.drop rfl
    | apply Keep.keep rfl)) ?_))
    refine Sq.call ok Want.none (Op1.call rfl rfl fn50) rfl (FnC.mono (putUnary_ok (v := h) hp hq hW2 (by omega) (by omega)) ?_)
    rintro r M6 ⟨q1, hW1, hF1, hq1, hro1⟩
    (repeat (first
    | refine Ex.region ok hm ?_
    | refine Sq.pu ok hm Want.none (by first
    | exact Pu.move rfl
    | exact Pu.addN rfl rfl (by simp only [InR]; omega)) rfl ?_
    | refine Sq.finH (n := 13) ok hm (by repeat (first
    | exact Keep.nil
    | apply Keep.drop rfl
    | apply Keep.keep rfl)) ?_))
    refine Sq.pu ok hm Want.none (Pu.subN (a := v + 1) (b := lo) rfl rfl z4 (by simp only [InR]; omega)) rfl ?_
    (repeat (refine Sq.pu ok hm Want.none (by exact Pu.move rfl) rfl ?_))
    refine Sq.call ok Want.none (Op1.call rfl rfl fn54) rfl (FnC.mono (putMinimal_ok (v := v + 1 - lo) (c := hi - lo) hp hro1 hW1 (by omega) (by omega) (by omega) (by simp only [List.length_append, unaL_length]; omega)) ?_)
    rintro r M7 hpost
    have hpost := WPost.trans hF1 hq1 hpost
    rw [List.append_assoc] at hpost
    (repeat (first
    | refine Ex.seq ok hm ?_
    | refine Ex.region ok hm ?_
    | refine Sq.pu ok hm Want.none (by exact Pu.assign rfl) rfl ?_
    | refine Sq.finH (n := 7) ok hm (by repeat (first
    | exact Keep.nil
    | apply Keep.drop rfl
    | apply Keep.keep rfl)) ?_
    | refine Ex.ret ok hm ?_))
    exact ⟨_, .tmp rfl .nil, rfl, WPost.pre hF2 hpost⟩
  · have e : lenE kind K v = (0, 1) := if_neg hc2
    rw [e]
    (repeat (first
    | refine Ex.seq ok hm ?_
    | refine Ex.region ok hm ?_
    | refine Sq.pu ok hm Want.none (by first
    | exact Pu.move rfl
    | exact Pu.assign rfl
    | exact Pu.extract rfl rfl
    | exact Pu.neqI rfl rfl) rfl ?_
    | refine Sq.finH (n := 9) ok hm (by repeat (first
    | exact Keep.nil
    | apply Keep.drop rfl
    | apply Keep.keep rfl)) ?_
    | refine Ex.condT ok hm rfl (by rfl) ?_
    | refine Ex.ret ok hm ?_))
    refine ⟨_, .tmp rfl .nil, rfl, ?_⟩
    rw [if_neg (by decide)]
    exact WPost.pre hF2 (WPost.same hW2 hq)
end Go.Proofs.Ytlhfolmhgghjcaa
