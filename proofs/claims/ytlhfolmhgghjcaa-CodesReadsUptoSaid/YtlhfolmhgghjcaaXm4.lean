/- Towards the laws of this seat: contracts of the program's functions in a logic over a small machine (texts XCu XCd). No condition. -/
import Derived.Test.YtlhfolmhgghjcaaXm3
import Derived.Test.YtlhfolmhgghjcaaWvmLgi
/- N -/
namespace Go.Proofs.Ytlhfolmhgghjcaa
open Go.Wvm Bits
set_option linter.unusedVariables false
set_option linter.unusedSimpArgs false

theorem DefC.mono {P : Program} {vp : VP} {ro : Nat} {d : Deferred} {M : AM} {R R' : AM → Prop} (h : DefC P vp ro d M R) (k : ∀ M', R M' → R' M') : DefC P vp ro d M R' := by
  obtain ⟨g, cap, fn, c, nt, h1, h2, h3, h4, h5⟩ := h
  refine ⟨g, cap, fn, c, nt, h1, h2, h3, h4, h5.mono ?_⟩
  intro o E1 M1 q
  cases o with
  | exit id => exact q
  | norm => obtain ⟨vs, q1, q2⟩ := q; exact ⟨vs, q1, k _ q2⟩
  | ret => obtain ⟨vs, q1, q2⟩ := q; exact ⟨vs, q1, k _ q2⟩

set_option maxHeartbeats 8000000 in
/-- The end of Read, with what it has put off. -/
theorem fin_ok {ro : Nat} {M0 M : AM} {E : En} {r a a' v kind K p2 p4 p5 p6 : Nat} {e : Int} {s : List UInt8} (hp : ro ≤ p4) (hr : ro ≤ r) (h : RdAt M r s a') (hF : Fr M0 M [r])
    (b2 : M.get p2 = some (.row [ptrV r] 0 (some (44, 0)))) (b4 : M.get p4 = some (.row [.int .u64 (v : Int)] 0 (some (25, 0)))) (b5 : M.get p5 = some (.row [.int .i64 e] 0 (some (26, 0)))) (b6 : M.get p6 = some (.row [.int .i64 (a : Int)] 0 (some (3, 0))))
    (l4 : p4 < M.next) (l5 : p5 < M.next) (l6 : p6 < M.next) (l2 : p2 < M.next) (n4 : p4 ≠ r) (n42 : p4 ≠ p2) (n46 : p4 ≠ p6) (n45 : p4 ≠ p5) (n5 : p5 ≠ r) (n40 : M0.next ≤ p4) (ha : a ≤ 8 * s.length) (hs : s.length ≤ 1048576)
    (e4 : enGet E 4 = some (ptrV p4)) (e5 : enGet E 5 = some (ptrV p5)) (hres : readE s kind K a = if e = 0 then (v, 0, a') else (0, e, a)) :
    RetD Try.prog tables ro Try.f25.results.toList (fun x M' => x = .tuple ⟨[.int .u64 ((readE s kind K a).1 : Nat), .int .i64 (readE s kind K a).2.1]⟩ ∧ RdAt M' r s (readE s kind K a).2.2 ∧ Fr M0 M' [r]) .ret
      [⟨.fn (.func 41) ⟨[ptrV p5, ptrV p4, ptrV p2, ptrV p6]⟩, ⟨[]⟩⟩] E M := by
  refine DefC.mono (defer_ok hp hr h b2 b4 b5 b6 l4 l5 l6 l2 n4 n42 n46 n45 n5 ha hs) ?_
  rintro M2 ⟨c5, c4, h2, hF2⟩
  refine ⟨_, .cell e4 (hT 25 _ rfl) c4 rfl (Nat.le_of_ble_eq_true rfl) (.cell e5 (hT 26 _ rfl) c5 rfl (Nat.le_of_ble_eq_true rfl) .nil), ?_, ?_, ?_⟩
  · rw [hres]; by_cases k : e = 0
    · rw [if_pos k, if_pos k, k]; rfl
    · rw [if_neg k, if_neg k]; rfl
  · rw [hres]; by_cases k : e = 0
    · rw [if_pos k] at h2 ⊢; exact h2
    · rw [if_neg k] at h2 ⊢; exact h2
  · refine hF.trans hF2 ?_
    intro x hx
    rcases List.mem_cons.mp hx with rfl | hx
    · exact .inr n40
    · exact .inl hx

theorem hres_ok {s : List UInt8} {kind K a v a' : Nat} {e : Int} {o : Option (Nat × Nat)} (hc : checkE kind K = 0) (hmm : match o with | some w => v = w.1 ∧ e = 0 ∧ a' = w.2 | none => e = 4) (ho : readT s kind K a = o) : readE s kind K a = if e = 0 then (v, 0, a') else (0, e, a) := by
  unfold readE
  rw [if_neg (by intro k; exact k hc), ho]
  cases o with
  | none => obtain rfl : e = 4 := hmm; rfl
  | some w => obtain ⟨rfl, rfl, rfl⟩ : v = w.1 ∧ e = 0 ∧ a' = w.2 := hmm; rfl

set_option maxHeartbeats 8000000 in
theorem Read_ok {ro : Nat} {M : AM} {r a kind K : Nat} {s : List UInt8} (hr : ro ≤ r) (h : RdAt M r s a) (ha : a ≤ 8 * s.length) (hs : s.length ≤ 1048576) (hk : kind < 256) (hK : K < 18446744073709551616) :
    FnC Try.prog tables ro 25 [ptrV r, .agg ⟨[.int .u8 (kind : Int), .int .u64 (K : Int)]⟩] M
      (fun x M' => x = .tuple ⟨[.int .u64 ((readE s kind K a).1 : Nat), .int .i64 (readE s kind K a).2.1]⟩ ∧ RdAt M' r s (readE s kind K a).2.2 ∧ Fr M M' [r]) := by
  refine FnC.facts fun hlt hron => ?_
  have hrl := hlt _ _ h
  refine FnC.bodyD (nt := 63) ok hm fn25 rfl rfl ?_
  refine ExD.seq ok hm (ExD.of ?_)
  refine Ex.region ok hm ?_
  refine Sq.op ok hm Want.none (Op1.box rfl rfl) rfl ?_
  refine Sq.op ok hm Want.none (Op1.box rfl rfl) rfl ?_
  refine Sq.op ok hm Want.none (Op1.alloc hT rfl rfl rfl) rfl ?_
  refine Sq.op ok hm Want.none (Op1.alloc hT rfl rfl rfl) rfl ?_
  have n0 : M.next = M.next := rfl
  obtain ⟨M1, hM1⟩ : ∃ M1, M1 = (((M.add (.row [ptrV r] 0 (some (44, 0)))).add (.row [.int .u8 (kind : Int), .int .u64 (K : Int)] 0 (some (58, 0)))).add (.row [.int .u64 0] 0 (some (25, 0)))).add (.row [.int .i64 0] 0 (some (26, 0))) := ⟨_, rfl⟩
  have hF1 : Fr M M1 [r] := by rw [hM1]; exact ((((Fr.refl _ _).add' _).add' _).add' _).add' _
  have hn1 : M1.next = M.next + 4 := by rw [hM1]; rfl
  have b2 : M1.get M.next = some (.row [ptrV r] 0 (some (44, 0))) := by rw [hM1]; exact (AM.add_ne (by simp only [AM.next_add]; omega)).trans ((AM.add_ne (by simp only [AM.next_add]; omega)).trans ((AM.add_ne (by simp only [AM.next_add]; omega)).trans AM.add_same))
  have b3 : M1.get (M.next + 1) = some (.row [.int .u8 (kind : Int), .int .u64 (K : Int)] 0 (some (58, 0))) := by rw [hM1]; exact (AM.add_ne (by simp only [AM.next_add]; omega)).trans ((AM.add_ne (by simp only [AM.next_add]; omega)).trans AM.add_same)
  have b4 : M1.get (M.next + 2) = some (.row [.int .u64 0] 0 (some (25, 0))) := by rw [hM1]; exact (AM.add_ne (by simp only [AM.next_add]; omega)).trans AM.add_same
  have b5 : M1.get (M.next + 3) = some (.row [.int .i64 0] 0 (some (26, 0))) := by rw [hM1]; exact AM.add_same
  have h1 : RdAt M1 r s a := by
    rw [hM1]
    exact (AM.add_ne (by simp only [AM.next_add]; omega)).trans ((AM.add_ne (by simp only [AM.next_add]; omega)).trans ((AM.add_ne (by simp only [AM.next_add]; omega)).trans ((AM.add_ne (by omega)).trans h)))
  refine Sq.finH (n := 7) ok hm (by repeat (first
    | exact Keep.nil
    | apply Keep.keep rfl)) ?_
  show seqD Try.prog tables ro _ _ _ _ _ [(5, ptrV (M.next + 3)), (4, ptrV (M.next + 2)), (3, ptrV (M.next + 1)), (2, ptrV M.next), (0, ptrV r), (1, .agg ⟨[.int .u8 (kind : Int), .int .u64 (K : Int)]⟩)] ((((M.add (.row [ptrV r] 0 (some (44, 0)))).add (.row [.int .u8 (kind : Int), .int .u64 (K : Int)] 0 (some (58, 0)))).add (.row [.int .u64 0] 0 (some (25, 0)))).add (.row [.int .i64 0] 0 (some (26, 0))))
  rw [← hM1]
  refine ExD.seq ok hm (ExD.of ?_)
  (repeat (first
    | refine Ex.seq ok hm ?_
    | refine Ex.skip ok hm ?_
    | refine Ex.region ok hm ?_
    | refine Sq.pu ok hm Want.none (by first
    | (apply Pu.load hT rfl rfl rfl; (focus ((repeat (assumption)))); (focus rfl))
    | exact Pu.eqlP hT rfl rfl rfl) rfl ?_
    | refine Sq.finH (n := 7) ok hm (by repeat (first
    | exact Keep.nil
    | apply Keep.drop rfl
    | apply Keep.keep rfl)) ?_
    | refine Ex.condF ok hm rfl (by rfl) ?_))
  refine ExD.seq ok hm (ExD.of ?_)
  (repeat (first
    | refine Ex.seq ok hm ?_
    | refine Ex.region ok hm ?_))
  refine Sq.pu ok hm Want.none (Pu.loadA hT rfl rfl rfl b3 (Nat.le_refl 2)) rfl ?_
  refine Sq.call ok Want.none (Op1.call rfl rfl fn40) rfl (FnC.mono (Check_ok (kind := kind) (K := K) hk hK) ?_)
  rintro x M2 ⟨rfl, hF2⟩
  have hn2 := hF2.next
  have h2 : RdAt M2 r s a := (hF2.get r (by omega) (by simp)).trans h1
  have c2 := (hF2.get M.next (by omega) (by simp)).trans b2
  have c3 := (hF2.get (M.next + 1) (by omega) (by simp)).trans b3
  have c4 := (hF2.get (M.next + 2) (by omega) (by simp)).trans b4
  have c5 := (hF2.get (M.next + 3) (by omega) (by simp)).trans b5
  have hFF := hF1.trans hF2 (by simp)
  rcases check01 kind K with hc | hc
  · rw [hc]
    (repeat (first
    | refine Ex.skip ok hm ?_
    | refine Sq.pu ok hm Want.none (by exact Pu.neqI rfl rfl) rfl ?_
    | refine Sq.finH (n := 7) ok hm (by repeat (first
    | exact Keep.nil
    | apply Keep.drop rfl
    | apply Keep.keep rfl)) ?_
    | refine Ex.condF ok hm rfl (by rfl) ?_))
    refine ExD.seq ok hm (ExD.of ?_)
    (repeat (first
    | refine Ex.region ok hm ?_
    | refine Sq.pu ok hm Want.none (by (apply Pu.load hT rfl rfl rfl; (focus ((repeat (assumption)))); (focus rfl))) rfl ?_))
    refine Sq.call ok Want.none (Op1.call rfl rfl fn22) rfl (FnC.mono (at_ok h2) ?_)
    rintro x M3 ⟨rfl, rfl⟩
    refine Sq.op ok hm Want.none (Op1.alloc hT rfl rfl rfl) rfl ?_
    refine Sq.act ok hm Want.none (Op1.store hT rfl rfl rfl rfl AM.add_same (by omega) (Nat.le_of_ble_eq_true rfl) (Nat.le_of_ble_eq_true rfl) rfl) ?_
    show Sq Try.prog tables ro _ _ _ _ ((M3.add (.row [.int .i64 0] 0 (some (3, 0)))).upd M3.next (.row [.int .i64 (a : Int)] 0 (some (3, 0)))) _
    have d6 : ((M3.add (.row [.int .i64 0] 0 (some (3, 0)))).upd M3.next (.row [.int .i64 (a : Int)] 0 (some (3, 0)))).get M3.next = some (.row [.int .i64 (a : Int)] 0 (some (3, 0))) := AM.upd_same
    have hF4 : Fr M3 ((M3.add (.row [.int .i64 0] 0 (some (3, 0)))).upd M3.next (.row [.int .i64 (a : Int)] 0 (some (3, 0)))) [] := (Fr.add _ _ _).upd' _ (.inr (Nat.le_refl _))
    have hn4 : ((M3.add (.row [.int .i64 0] 0 (some (3, 0)))).upd M3.next (.row [.int .i64 (a : Int)] 0 (some (3, 0)))).next = M3.next + 1 := rfl
    generalize ((M3.add (.row [.int .i64 0] 0 (some (3, 0)))).upd M3.next (.row [.int .i64 (a : Int)] 0 (some (3, 0)))) = M4 at d6 hF4 hn4 ⊢
    have h4 : RdAt M4 r s a := (hF4.get r (by omega) (by simp)).trans h2
    have d2 := (hF4.get M.next (by omega) (by simp)).trans c2
    have d3 := (hF4.get (M.next + 1) (by omega) (by simp)).trans c3
    have d4 := (hF4.get (M.next + 2) (by omega) (by simp)).trans c4
    have d5 := (hF4.get (M.next + 3) (by omega) (by simp)).trans c5
    have hFG := hFF.trans hF4 (by simp)
    (repeat (refine Sq.finH (n := 7) ok hm (by repeat (first
    | exact Keep.nil
    | apply Keep.drop rfl
    | apply Keep.keep rfl)) ?_))
    refine ExD.seq ok hm (ExD.region ok hm ?_)
    refine SqD.pu ok hm Want.none (Pu.makeFunc rfl rfl) rfl ?_
    refine SqD.defer ok hm rfl rfl ?_
    (repeat (refine Sq.finH (n := 7) ok hm (by repeat (first
    | exact Keep.nil
    | apply Keep.keep rfl)) ?_))
    refine ExD.of (vp := tables) ?_
    obtain ⟨z1, z2, z3⟩ := check0 hc
    by_cases k0 : kind = 0
    · have hT0 : readT s kind K a = unaT s 65536 0 a := by unfold readT; rw [if_pos k0]
      (repeat (first
    | refine Ex.seq ok hm ?_
    | refine Ex.block ok hm ?_
    | refine Ex.region ok hm ?_
    | refine Sq.pu ok hm Want.none (by first
    | exact Pu.assign rfl
    | exact Pu.fieldAddr hT rfl rfl rfl rfl rfl
    | (apply Pu.load hT rfl rfl rfl; (focus ((repeat (assumption)))); (focus rfl))
    | exact Pu.eqlI rfl rfl) rfl ?_
    | refine Sq.finH (n := 7) ok hm (by repeat (first
    | exact Keep.nil
    | apply Keep.drop rfl
    | apply Keep.keep rfl)) ?_
    | refine Ex.condT ok hm rfl (by first
    | rfl
    | exact decide_eq_true (by omega)) ?_))
      refine Sq.call ok Want.none (Op1.call rfl rfl fn42) rfl (FnC.mono (readUnary_ok (most := 65535) hr h4 ha hs (by decide)) ?_)
      rintro x M5 ⟨v, e, a5, rfl, h5, ha5, hF5, hv, hmm⟩
      have hn5 := hF5.next
      have q2 := (hF5.get M.next (by omega) (by simp; omega)).trans d2
      have q3 := (hF5.get (M.next + 1) (by omega) (by simp; omega)).trans d3
      have q4 := (hF5.get (M.next + 2) (by omega) (by simp; omega)).trans d4
      have q5 := (hF5.get (M.next + 3) (by omega) (by simp; omega)).trans d5
      have q6 := (hF5.get M3.next (by omega) (by simp; omega)).trans d6
      (repeat (refine Sq.pu ok hm Want.none (by exact Pu.extract rfl rfl) rfl ?_))
      refine Sq.act ok hm Want.none (Op1.store hT rfl rfl rfl rfl q4 (by omega) (Nat.le_of_ble_eq_true rfl) (Nat.le_of_ble_eq_true rfl) rfl) ?_
      refine Sq.act ok hm Want.none (Op1.store hT rfl rfl rfl rfl ((AM.upd_ne (by omega)).trans q5) (by omega) (Nat.le_of_ble_eq_true rfl) (Nat.le_of_ble_eq_true rfl) rfl) ?_
      (repeat (first
    | refine Sq.finH (n := 7) ok hm (by repeat (first
    | exact Keep.nil
    | apply Keep.drop rfl
    | apply Keep.keep rfl)) ?_
    | refine Ex.ret ok hm ?_))
      refine fin_ok (p2 := M.next) (p4 := M.next + 2) (p5 := M.next + 3) (p6 := M3.next) (by omega) hr ((AM.upd_ne (by omega)).trans ((AM.upd_ne (by omega)).trans h5)) (((hFG.trans hF5 (by simp)).upd' _ (.inr (by omega))).upd' _ (.inr (by omega))) ((AM.upd_ne (by omega)).trans ((AM.upd_ne (by omega)).trans q2)) ((AM.upd_ne (by omega)).trans AM.upd_same) AM.upd_same ((AM.upd_ne (by omega)).trans ((AM.upd_ne (by omega)).trans q6)) (by simp only [AM.next_upd]; omega) (by simp only [AM.next_upd]; omega) (by simp only [AM.next_upd]; omega) (by simp only [AM.next_upd]; omega) (by omega) (by omega) (by omega) (by omega) (by omega) (by omega) ha hs rfl rfl (hres_ok hc hmm hT0)
    by_cases k1 : kind = 1
    · have hT0 : readT s kind K a = gammaT s a := by unfold readT; rw [if_neg k0]; rw [if_pos k1]
      (repeat (first
    | refine Ex.seq ok hm ?_
    | refine Ex.block ok hm ?_
    | refine Ex.region ok hm ?_
    | refine Sq.pu ok hm Want.none (by first
    | exact Pu.assign rfl
    | exact Pu.fieldAddr hT rfl rfl rfl rfl rfl
    | (apply Pu.load hT rfl rfl rfl; (focus ((repeat (assumption)))); (focus rfl))
    | exact Pu.eqlI rfl rfl) rfl ?_
    | refine Sq.finH (n := 40) ok hm (by repeat (first
    | exact Keep.nil
    | apply Keep.keep rfl)) ?_
    | refine Ex.condT ok hm rfl (by first
    | rfl
    | exact decide_eq_true (by omega)) ?_
    | refine Ex.condF ok hm rfl (by first
    | rfl
    | exact decide_eq_false (by omega)) ?_))
      refine Sq.call ok Want.none (Op1.call rfl rfl fn43) rfl (FnC.mono (readGamma_ok hr h4 ha hs) ?_)
      rintro x M5 ⟨v, e, a5, rfl, h5, ha5, hF5, hv, hmm⟩
      have hn5 := hF5.next
      have q2 := (hF5.get M.next (by omega) (by simp; omega)).trans d2
      have q3 := (hF5.get (M.next + 1) (by omega) (by simp; omega)).trans d3
      have q4 := (hF5.get (M.next + 2) (by omega) (by simp; omega)).trans d4
      have q5 := (hF5.get (M.next + 3) (by omega) (by simp; omega)).trans d5
      have q6 := (hF5.get M3.next (by omega) (by simp; omega)).trans d6
      (repeat (refine Sq.pu ok hm Want.none (by exact Pu.extract rfl rfl) rfl ?_))
      refine Sq.act ok hm Want.none (Op1.store hT rfl rfl rfl rfl q4 (by omega) (Nat.le_of_ble_eq_true rfl) (Nat.le_of_ble_eq_true rfl) rfl) ?_
      refine Sq.act ok hm Want.none (Op1.store hT rfl rfl rfl rfl ((AM.upd_ne (by omega)).trans q5) (by omega) (Nat.le_of_ble_eq_true rfl) (Nat.le_of_ble_eq_true rfl) rfl) ?_
      (repeat (first
    | refine Sq.finH (n := 40) ok hm (by repeat (first
    | exact Keep.nil
    | apply Keep.keep rfl)) ?_
    | refine Ex.ret ok hm ?_))
      refine fin_ok (p2 := M.next) (p4 := M.next + 2) (p5 := M.next + 3) (p6 := M3.next) (by omega) hr ((AM.upd_ne (by omega)).trans ((AM.upd_ne (by omega)).trans h5)) (((hFG.trans hF5 (by simp)).upd' _ (.inr (by omega))).upd' _ (.inr (by omega))) ((AM.upd_ne (by omega)).trans ((AM.upd_ne (by omega)).trans q2)) ((AM.upd_ne (by omega)).trans AM.upd_same) AM.upd_same ((AM.upd_ne (by omega)).trans ((AM.upd_ne (by omega)).trans q6)) (by simp only [AM.next_upd]; omega) (by simp only [AM.next_upd]; omega) (by simp only [AM.next_upd]; omega) (by simp only [AM.next_upd]; omega) (by omega) (by omega) (by omega) (by omega) (by omega) (by omega) ha hs rfl rfl (hres_ok hc hmm hT0)
    by_cases k2 : kind = 2
    · have hT0 : readT s kind K a = deltaT s a := by unfold readT; rw [if_neg k0]; rw [if_neg k1]; rw [if_pos k2]
      have hd : deltaT s a = (gammaT s a).bind fun x => if 47 < x.1 then none else restT s x.1 x.2 := rfl
      (repeat (first
    | refine Ex.seq ok hm ?_
    | refine Ex.block ok hm ?_
    | refine Ex.region ok hm ?_
    | refine Sq.pu ok hm Want.none (by first
    | exact Pu.assign rfl
    | exact Pu.fieldAddr hT rfl rfl rfl rfl rfl
    | (apply Pu.load hT rfl rfl rfl; (focus ((repeat (assumption)))); (focus rfl))
    | exact Pu.eqlI rfl rfl) rfl ?_
    | refine Sq.finH (n := 40) ok hm (by repeat (first
    | exact Keep.nil
    | apply Keep.keep rfl)) ?_
    | refine Ex.condT ok hm rfl (by first
    | rfl
    | exact decide_eq_true (by omega)) ?_
    | refine Ex.condF ok hm rfl (by first
    | rfl
    | exact decide_eq_false (by omega)) ?_))
      refine Sq.call ok Want.none (Op1.call rfl rfl fn43) rfl (FnC.mono (readGamma_ok hr h4 ha hs) ?_)
      rintro x M5 ⟨v, e, a5, rfl, h5, ha5, hF5, hv, hmm⟩
      have hn5 := hF5.next
      have q2 := (hF5.get M.next (by omega) (by simp; omega)).trans d2
      have q3 := (hF5.get (M.next + 1) (by omega) (by simp; omega)).trans d3
      have q4 := (hF5.get (M.next + 2) (by omega) (by simp; omega)).trans d4
      have q5 := (hF5.get (M.next + 3) (by omega) (by simp; omega)).trans d5
      have q6 := (hF5.get M3.next (by omega) (by simp; omega)).trans d6
      cases ho : gammaT s a with
      | none =>
        rw [ho] at hmm
        obtain rfl : e = 4 := hmm
        have hT1 : readT s kind K a = none := by rw [hT0, hd, ho]; rfl
        have hT0 := hT1
        (repeat (first
    | refine Ex.seq ok hm ?_
    | refine Ex.region ok hm ?_
    | refine Sq.pu ok hm Want.none (by first
    | exact Pu.move rfl
    | exact Pu.assign rfl
    | exact Pu.extract rfl rfl
    | exact Pu.neqI rfl rfl
    | exact Pu.pickT rfl (by rfl) rfl) rfl ?_
    | refine Sq.skip ok hm (by exact Want.no rfl rfl rfl (by rfl)) rfl ?_
    | refine Sq.finH (n := 40) ok hm (by repeat (first
    | exact Keep.nil
    | apply Keep.drop rfl
    | apply Keep.keep rfl)) ?_
    | refine Ex.condT ok hm rfl (by rfl) ?_))
        refine Sq.act ok hm Want.none (Op1.store hT rfl rfl rfl rfl q4 (by omega) (Nat.le_of_ble_eq_true rfl) (Nat.le_of_ble_eq_true rfl) rfl) ?_
        refine Sq.act ok hm Want.none (Op1.store hT rfl rfl rfl rfl ((AM.upd_ne (by omega)).trans q5) (by omega) (Nat.le_of_ble_eq_true rfl) (Nat.le_of_ble_eq_true rfl) rfl) ?_
        (repeat (first
    | refine Sq.finH (n := 40) ok hm (by repeat (first
    | exact Keep.nil
    | apply Keep.keep rfl)) ?_
    | refine Ex.ret ok hm ?_))
        refine fin_ok (p2 := M.next) (p4 := M.next + 2) (p5 := M.next + 3) (p6 := M3.next) (by omega) hr ((AM.upd_ne (by omega)).trans ((AM.upd_ne (by omega)).trans h5)) (((hFG.trans hF5 (by simp)).upd' _ (.inr (by omega))).upd' _ (.inr (by omega))) ((AM.upd_ne (by omega)).trans ((AM.upd_ne (by omega)).trans q2)) ((AM.upd_ne (by omega)).trans AM.upd_same) AM.upd_same ((AM.upd_ne (by omega)).trans ((AM.upd_ne (by omega)).trans q6)) (by simp only [AM.next_upd]; omega) (by simp only [AM.next_upd]; omega) (by simp only [AM.next_upd]; omega) (by simp only [AM.next_upd]; omega) (by omega) (by omega) (by omega) (by omega) (by omega) (by omega) ha hs rfl rfl (hres_ok (v := 0) (e := 4) (o := none) hc rfl hT0)
      | some w =>
        rw [ho] at hmm
        obtain ⟨rfl, rfl, rfl⟩ : v = w.1 ∧ e = 0 ∧ a5 = w.2 := hmm
        by_cases hbig : 47 < w.1
        · have hT1 : readT s kind K a = none := by rw [hT0, hd, ho]; show (if 47 < w.1 then none else restT s w.1 w.2) = none; rw [if_pos hbig]
          have hT0 := hT1
          (repeat (first
    | refine Ex.seq ok hm ?_
    | refine Ex.region ok hm ?_
    | refine Sq.pu ok hm Want.none (by first
    | exact Pu.move rfl
    | exact Pu.assign rfl
    | exact Pu.extract rfl rfl
    | exact Pu.gtrI rfl rfl
    | exact Pu.neqI rfl rfl
    | exact Pu.pickF rfl (by rfl) rfl) rfl ?_
    | refine Sq.pu ok hm (by exact Want.yes rfl rfl rfl (by rfl)) (by first
    | exact Pu.move rfl
    | exact Pu.gtrI rfl rfl) rfl ?_
    | refine Sq.finH (n := 40) ok hm (by repeat (first
    | exact Keep.nil
    | apply Keep.drop rfl
    | apply Keep.keep rfl)) ?_
    | refine Ex.condT ok hm rfl (by first
    | rfl
    | exact decide_eq_true (by omega)) ?_))
          refine Sq.act ok hm Want.none (Op1.store hT rfl rfl rfl rfl q4 (by omega) (Nat.le_of_ble_eq_true rfl) (Nat.le_of_ble_eq_true rfl) rfl) ?_
          refine Sq.act ok hm Want.none (Op1.store hT rfl rfl rfl rfl ((AM.upd_ne (by omega)).trans q5) (by omega) (Nat.le_of_ble_eq_true rfl) (Nat.le_of_ble_eq_true rfl) rfl) ?_
          (repeat (first
    | refine Sq.finH (n := 40) ok hm (by repeat (first
    | exact Keep.nil
    | apply Keep.keep rfl)) ?_
    | refine Ex.ret ok hm ?_))
          refine fin_ok (p2 := M.next) (p4 := M.next + 2) (p5 := M.next + 3) (p6 := M3.next) (by omega) hr ((AM.upd_ne (by omega)).trans ((AM.upd_ne (by omega)).trans h5)) (((hFG.trans hF5 (by simp)).upd' _ (.inr (by omega))).upd' _ (.inr (by omega))) ((AM.upd_ne (by omega)).trans ((AM.upd_ne (by omega)).trans q2)) ((AM.upd_ne (by omega)).trans AM.upd_same) AM.upd_same ((AM.upd_ne (by omega)).trans ((AM.upd_ne (by omega)).trans q6)) (by simp only [AM.next_upd]; omega) (by simp only [AM.next_upd]; omega) (by simp only [AM.next_upd]; omega) (by simp only [AM.next_upd]; omega) (by omega) (by omega) (by omega) (by omega) (by omega) (by omega) ha hs rfl rfl (hres_ok (v := 0) (e := 4) (o := none) hc rfl hT0)
        · have hT1 : readT s kind K a = restT s w.1 w.2 := by rw [hT0, hd, ho]; show (if 47 < w.1 then none else restT s w.1 w.2) = _; rw [if_neg hbig]
          have hT0 := hT1
          (repeat (first
    | refine Ex.seq ok hm ?_
    | refine Ex.skip ok hm ?_
    | refine Ex.region ok hm ?_
    | refine Sq.pu ok hm Want.none (by first
    | exact Pu.move rfl
    | exact Pu.assign rfl
    | (apply Pu.load hT rfl rfl rfl; (focus ((repeat (assumption)))); (focus rfl))
    | exact Pu.extract rfl rfl
    | exact Pu.gtrI rfl rfl
    | exact Pu.neqI rfl rfl
    | exact Pu.pickF rfl (by rfl) rfl) rfl ?_
    | refine Sq.pu ok hm (by first
    | exact Want.none
    | exact Want.yes rfl rfl rfl (by rfl)) (by first
    | exact Pu.move rfl
    | exact Pu.gtrI rfl rfl) rfl ?_
    | refine Sq.finH (n := 40) ok hm (by repeat (first
    | exact Keep.nil
    | apply Keep.drop rfl
    | apply Keep.keep rfl)) ?_
    | refine Ex.condF ok hm rfl (by first
    | rfl
    | exact decide_eq_false (by omega)) ?_))
          refine Sq.call ok Want.none (Op1.call rfl rfl fn44) rfl (FnC.mono (readRest_ok hr h5 ha5 hs (by omega)) ?_)
          rintro x M6 ⟨v6, e6, a6, rfl, h6, ha6, hF6, hv6, hmm6⟩
          have hn6 := hF6.next
          have y2 := (hF6.get M.next (by omega) (by simp; omega)).trans q2
          have y3 := (hF6.get (M.next + 1) (by omega) (by simp; omega)).trans q3
          have y4 := (hF6.get (M.next + 2) (by omega) (by simp; omega)).trans q4
          have y5 := (hF6.get (M.next + 3) (by omega) (by simp; omega)).trans q5
          have y6 := (hF6.get M3.next (by omega) (by simp; omega)).trans q6
          (repeat (refine Sq.pu ok hm Want.none (by exact Pu.extract rfl rfl) rfl ?_))
          refine Sq.act ok hm Want.none (Op1.store hT rfl rfl rfl rfl y4 (by omega) (Nat.le_of_ble_eq_true rfl) (Nat.le_of_ble_eq_true rfl) rfl) ?_
          refine Sq.act ok hm Want.none (Op1.store hT rfl rfl rfl rfl ((AM.upd_ne (by omega)).trans y5) (by omega) (Nat.le_of_ble_eq_true rfl) (Nat.le_of_ble_eq_true rfl) rfl) ?_
          (repeat (first
    | refine Sq.finH (n := 40) ok hm (by repeat (first
    | exact Keep.nil
    | apply Keep.drop rfl
    | apply Keep.keep rfl)) ?_
    | refine Ex.ret ok hm ?_))
          refine fin_ok (p2 := M.next) (p4 := M.next + 2) (p5 := M.next + 3) (p6 := M3.next) (by omega) hr ((AM.upd_ne (by omega)).trans ((AM.upd_ne (by omega)).trans h6)) (((((hFG.trans hF5 (by simp))).trans hF6 (by simp)).upd' _ (.inr (by omega))).upd' _ (.inr (by omega))) ((AM.upd_ne (by omega)).trans ((AM.upd_ne (by omega)).trans y2)) ((AM.upd_ne (by omega)).trans AM.upd_same) AM.upd_same ((AM.upd_ne (by omega)).trans ((AM.upd_ne (by omega)).trans y6)) (by simp only [AM.next_upd]; omega) (by simp only [AM.next_upd]; omega) (by simp only [AM.next_upd]; omega) (by simp only [AM.next_upd]; omega) (by omega) (by omega) (by omega) (by omega) (by omega) (by omega) ha hs rfl rfl (hres_ok hc hmm6 hT0)
    by_cases k3 : kind = 3
    · have hT0 : readT s kind K a = zetaT s K a := by unfold readT; rw [if_neg k0]; rw [if_neg k1]; rw [if_neg k2]; rw [if_pos k3]
      (repeat (first
    | refine Ex.seq ok hm ?_
    | refine Ex.block ok hm ?_
    | refine Ex.region ok hm ?_
    | refine Sq.pu ok hm Want.none (by first
    | exact Pu.assign rfl
    | exact Pu.fieldAddr hT rfl rfl rfl rfl rfl
    | (apply Pu.load hT rfl rfl rfl; (focus ((repeat (assumption)))); (focus rfl))
    | exact Pu.eqlI rfl rfl) rfl ?_
    | refine Sq.finH (n := 40) ok hm (by repeat (first
    | exact Keep.nil
    | apply Keep.drop rfl
    | apply Keep.keep rfl)) ?_
    | refine Ex.condT ok hm rfl (by first
    | rfl
    | exact decide_eq_true (by omega)) ?_
    | refine Ex.condF ok hm rfl (by first
    | rfl
    | exact decide_eq_false (by omega)) ?_))
      refine Sq.call ok Want.none (Op1.call rfl rfl fn45) rfl (FnC.mono (readZeta_ok hr h4 ha hs (z2 k3)) ?_)
      rintro x M5 ⟨v, e, a5, rfl, h5, ha5, hF5, hv, hmm⟩
      have hn5 := hF5.next
      have q2 := (hF5.get M.next (by omega) (by simp; omega)).trans d2
      have q3 := (hF5.get (M.next + 1) (by omega) (by simp; omega)).trans d3
      have q4 := (hF5.get (M.next + 2) (by omega) (by simp; omega)).trans d4
      have q5 := (hF5.get (M.next + 3) (by omega) (by simp; omega)).trans d5
      have q6 := (hF5.get M3.next (by omega) (by simp; omega)).trans d6
      (repeat (refine Sq.pu ok hm Want.none (by exact Pu.extract rfl rfl) rfl ?_))
      refine Sq.act ok hm Want.none (Op1.store hT rfl rfl rfl rfl q4 (by omega) (Nat.le_of_ble_eq_true rfl) (Nat.le_of_ble_eq_true rfl) rfl) ?_
      refine Sq.act ok hm Want.none (Op1.store hT rfl rfl rfl rfl ((AM.upd_ne (by omega)).trans q5) (by omega) (Nat.le_of_ble_eq_true rfl) (Nat.le_of_ble_eq_true rfl) rfl) ?_
      (repeat (first
    | refine Sq.finH (n := 40) ok hm (by repeat (first
    | exact Keep.nil
    | apply Keep.drop rfl
    | apply Keep.keep rfl)) ?_
    | refine Ex.ret ok hm ?_))
      refine fin_ok (p2 := M.next) (p4 := M.next + 2) (p5 := M.next + 3) (p6 := M3.next) (by omega) hr ((AM.upd_ne (by omega)).trans ((AM.upd_ne (by omega)).trans h5)) (((hFG.trans hF5 (by simp)).upd' _ (.inr (by omega))).upd' _ (.inr (by omega))) ((AM.upd_ne (by omega)).trans ((AM.upd_ne (by omega)).trans q2)) ((AM.upd_ne (by omega)).trans AM.upd_same) AM.upd_same ((AM.upd_ne (by omega)).trans ((AM.upd_ne (by omega)).trans q6)) (by simp only [AM.next_upd]; omega) (by simp only [AM.next_upd]; omega) (by simp only [AM.next_upd]; omega) (by simp only [AM.next_upd]; omega) (by omega) (by omega) (by omega) (by omega) (by omega) (by omega) ha hs rfl rfl (hres_ok hc hmm hT0)
    have k4 : kind = 4 := by omega
    have hT0 : readT s kind K a = minT s K a := by unfold readT; rw [if_neg k0]; rw [if_neg k1]; rw [if_neg k2]; rw [if_neg k3]
    (repeat (first
    | refine Ex.seq ok hm ?_
    | refine Ex.block ok hm ?_
    | refine Ex.skip ok hm ?_
    | refine Ex.region ok hm ?_
    | refine Sq.pu ok hm Want.none (by first
    | exact Pu.assign rfl
    | exact Pu.fieldAddr hT rfl rfl rfl rfl rfl
    | (apply Pu.load hT rfl rfl rfl; (focus ((repeat (assumption)))); (focus rfl))
    | exact Pu.eqlI rfl rfl) rfl ?_
    | refine Sq.finH (n := 40) ok hm (by repeat (first
    | exact Keep.nil
    | apply Keep.drop rfl
    | apply Keep.keep rfl)) ?_
    | refine Ex.condF ok hm rfl (by first
    | rfl
    | exact decide_eq_false (by omega)) ?_))
    refine Sq.call ok Want.none (Op1.call rfl rfl fn46) rfl (FnC.mono (readMinimal_ok hr h4 ha hs (z3 k4).1 (by have := (z3 k4).2; omega)) ?_)
    rintro x M5 ⟨v, e, a5, rfl, h5, ha5, hF5, hv, hmm⟩
    have hn5 := hF5.next
    have q2 := (hF5.get M.next (by omega) (by simp; omega)).trans d2
    have q3 := (hF5.get (M.next + 1) (by omega) (by simp; omega)).trans d3
    have q4 := (hF5.get (M.next + 2) (by omega) (by simp; omega)).trans d4
    have q5 := (hF5.get (M.next + 3) (by omega) (by simp; omega)).trans d5
    have q6 := (hF5.get M3.next (by omega) (by simp; omega)).trans d6
    (repeat (refine Sq.pu ok hm Want.none (by exact Pu.extract rfl rfl) rfl ?_))
    refine Sq.act ok hm Want.none (Op1.store hT rfl rfl rfl rfl q4 (by omega) (Nat.le_of_ble_eq_true rfl) (Nat.le_of_ble_eq_true rfl) rfl) ?_
    refine Sq.act ok hm Want.none (Op1.store hT rfl rfl rfl rfl ((AM.upd_ne (by omega)).trans q5) (by omega) (Nat.le_of_ble_eq_true rfl) (Nat.le_of_ble_eq_true rfl) rfl) ?_
    (repeat (first
    | refine Sq.finH (n := 40) ok hm (by repeat (first
    | exact Keep.nil
    | apply Keep.drop rfl
    | apply Keep.keep rfl)) ?_
    | refine Ex.ret ok hm ?_))
    refine fin_ok (p2 := M.next) (p4 := M.next + 2) (p5 := M.next + 3) (p6 := M3.next) (by omega) hr ((AM.upd_ne (by omega)).trans ((AM.upd_ne (by omega)).trans h5)) (((hFG.trans hF5 (by simp)).upd' _ (.inr (by omega))).upd' _ (.inr (by omega))) ((AM.upd_ne (by omega)).trans ((AM.upd_ne (by omega)).trans q2)) ((AM.upd_ne (by omega)).trans AM.upd_same) AM.upd_same ((AM.upd_ne (by omega)).trans ((AM.upd_ne (by omega)).trans q6)) (by simp only [AM.next_upd]; omega) (by simp only [AM.next_upd]; omega) (by simp only [AM.next_upd]; omega) (by simp only [AM.next_upd]; omega) (by omega) (by omega) (by omega) (by omega) (by omega) (by omega) ha hs rfl rfl (hres_ok hc hmm hT0)
  · rw [hc]
    have e : readE s kind K a = (0, 1, a) := by unfold readE; rw [if_pos (by rw [hc]; decide)]
    rw [e]
    (repeat (first
    | refine Ex.seq ok hm ?_
    | refine Ex.region ok hm ?_
    | refine Sq.pu ok hm Want.none (by exact Pu.neqI rfl rfl) rfl ?_
    | refine Sq.finH (n := 7) ok hm (by repeat (first
    | exact Keep.nil
    | apply Keep.drop rfl
    | apply Keep.keep rfl)) ?_
    | refine Ex.condT ok hm rfl (by rfl) ?_))
    refine Sq.act ok hm Want.none (Op1.store hT rfl rfl rfl rfl c4 (by omega) (Nat.le_of_ble_eq_true rfl) (Nat.le_of_ble_eq_true rfl) rfl) ?_
    refine Sq.act ok hm Want.none (Op1.store hT rfl rfl rfl rfl ((AM.upd_ne (by omega)).trans c5) (by omega) (Nat.le_of_ble_eq_true rfl) (Nat.le_of_ble_eq_true rfl) rfl) ?_
    (repeat (first
    | refine Sq.finH (n := 7) ok hm (by repeat (first
    | exact Keep.nil
    | apply Keep.keep rfl)) ?_
    | refine Ex.ret ok hm ?_))
    refine ⟨_, .cell rfl (hT 25 _ rfl) ((AM.upd_ne (by omega)).trans AM.upd_same) rfl (Nat.le_of_ble_eq_true rfl) (.cell rfl (hT 26 _ rfl) AM.upd_same rfl (Nat.le_of_ble_eq_true rfl) .nil), rfl, ?_, ?_⟩
    · exact (AM.upd_ne (by omega)).trans ((AM.upd_ne (by omega)).trans h2)
    · exact (hFF.upd' _ (.inr (by omega))).upd' _ (.inr (by omega))
end Go.Proofs.Ytlhfolmhgghjcaa
/- N -/
namespace Go.Proofs.Ytlhfolmhgghjcaa
open Go.Wvm Bits
set_option linter.unusedVariables false
set_option linter.unusedSimpArgs false

theorem sq_facts {ro : Nat} {F : FX} {all os : List Oper} {E : En} {M : AM} {Q : En → AM → Prop} (h : (∀ b a, M.get b = some a → b < M.next) → ro ≤ M.next → Sq Try.prog tables ro F all os E M Q) : Sq Try.prog tables ro F all os E M Q :=
  fun i hi tm w hE hM => h (fun b a k => hM.bound k) (by rw [← hM.next]; exact hM.ron) i hi tm w hE hM
structure CodeV where
  kind : Nat
  K : Nat
def CodeV.cells (x : CodeV) : List Value := [.int .u8 (x.kind : Int), .int .u64 (x.K : Int)]
def rowC (l : List CodeV) : List Value := l.flatMap CodeV.cells
theorem rowC_length (l : List CodeV) : (rowC l).length = 2 * l.length := by
  induction l with
  | nil => rfl
  | cons x l ih => simp only [rowC, List.flatMap_cons, List.length_append, List.length_cons] at ih ⊢; rw [ih]; simp [CodeV.cells]; omega
theorem rowC_get (l : List CodeV) : ∀ (i : Nat) (h : i < l.length), ((rowC l).drop (i * 2)).take 2 = (l[i]'h).cells := by
  induction l with
  | nil => intro i h; simp at h
  | cons x l ih =>
    intro i h
    have e : rowC (x :: l) = .int .u8 (x.kind : Int) :: .int .u64 (x.K : Int) :: rowC l := by simp [rowC, CodeV.cells]
    cases i with
    | zero => rw [e]; rfl
    | succ i =>
      have := ih i (by simpa using h)
      rw [e, show (i + 1) * 2 = i * 2 + 2 by omega]
      simpa using this

theorem gammaT_le {s : List UInt8} {a : Nat} {x : Nat × Nat} (h : gammaT s a = some x) : x.2 ≤ 8 * s.length := by
  unfold gammaT at h
  cases ht : unaT s 48 0 a with
  | none => rw [ht] at h; cases h
  | some y => rw [ht] at h; exact (restT_le h).1
theorem deltaT_le {s : List UInt8} {a : Nat} {x : Nat × Nat} (h : deltaT s a = some x) : x.2 ≤ 8 * s.length := by
  unfold deltaT at h
  cases ht : gammaT s a with
  | none => rw [ht] at h; cases h
  | some y =>
    rw [ht] at h
    change (if 47 < y.1 then none else restT s y.1 y.2) = some x at h
    split at h
    · cases h
    · exact (restT_le h).1
theorem minT_le2 {s : List UInt8} {c a : Nat} {x : Nat × Nat} (ha : a ≤ 8 * s.length) (h : minT s c a = some x) : x.2 ≤ 8 * s.length := by
  unfold minT at h
  split at h
  · cases h; exact ha
  · cases ht : takeO s a (len64 (c - 1) - 1) with
    | none => rw [ht] at h; cases h
    | some y =>
      rw [ht] at h
      change (if y.1 < 2 ^ len64 (c - 1) - c then some y else (takeO s y.2 1).map fun z => (2 * y.1 + z.1 - (2 ^ len64 (c - 1) - c), z.2)) = some x at h
      split at h
      · cases h; exact (takeO_le ht).1
      · cases ht2 : takeO s y.2 1 with
        | none => rw [ht2] at h; cases h
        | some z => rw [ht2] at h; cases h; exact (takeO_le ht2).1
theorem zetaT_le {s : List UInt8} {K a : Nat} {x : Nat × Nat} (h : zetaT s K a = some x) : x.2 ≤ 8 * s.length := by
  unfold zetaT at h
  cases ht : unaT s (47 / K + 1) 0 a with
  | none => rw [ht] at h; cases h
  | some y =>
    rw [ht] at h
    have hy := (unaT_le _ 0 a ht).1
    change ((minT s (2 ^ ((y.1 + 1) * K) - 2 ^ (y.1 * K)) y.2).bind fun x => if 281474976710654 < 2 ^ (y.1 * K) + x.1 - 1 then none else some (2 ^ (y.1 * K) + x.1 - 1, x.2)) = some x at h
    cases hm2 : minT s (2 ^ ((y.1 + 1) * K) - 2 ^ (y.1 * K)) y.2 with
    | none => rw [hm2] at h; cases h
    | some z =>
      rw [hm2] at h
      change (if 281474976710654 < 2 ^ (y.1 * K) + z.1 - 1 then none else some (2 ^ (y.1 * K) + z.1 - 1, z.2)) = some x at h
      split at h
      · cases h
      · cases h; exact (minT_le2 hy hm2 :)
theorem readE_le {s : List UInt8} {kind K a : Nat} (ha : a ≤ 8 * s.length) : (readE s kind K a).2.2 ≤ 8 * s.length := by
  unfold readE
  split
  · exact ha
  · cases ht : readT s kind K a with
    | none => exact ha
    | some x =>
      show x.2 ≤ _
      unfold readT at ht
      split at ht
      · exact (unaT_le _ 0 a ht).1
      · split at ht
        · exact gammaT_le ht
        · split at ht
          · exact deltaT_le ht
          · split at ht
            · exact zetaT_le ht
            · exact minT_le2 ha ht
theorem awake2_ok {ro : Nat} {M : AM} : FnC Try.prog tables ro 28 [] M (fun v M' => v = .bool true ∧ M' = M) :=
  FnC.closed ok hm (fuel := 100000) (by kernel_rfl)
theorem RdAt.keep {M M' : AM} {r at' : Nat} {s : List UInt8} {S : List Nat} (h : RdAt M r s at') (f : Fr M M' S) (hr : r < M.next) (hn : r ∉ S) : RdAt M' r s at' := (f.get r hr hn).trans h
theorem RqAt.keep {M M' : AM} {q c at' : Nat} {s : List UInt8} {S : List Nat} (h : RqAt M q c s at') (f : Fr M M' S) (hr : q < M.next) (hn : q ∉ S) (hc : 8 * s.length ≠ 0 → c < M.next ∧ c ∉ S) : RqAt M' q c s at' :=
  ⟨(f.get q hr hn).trans h.row, fun k => (f.get c (hc k).1 (hc k).2).trans (h.buf k), h.ne⟩

def LoopC (s : List UInt8) (l : List CodeV) (q c : Nat) (M : AM) : Prop :=
  ∃ at', at' ≤ 8 * s.length ∧ RdAt M 1 s at' ∧ RqAt M q c s at' ∧ (l.length ≠ 0 → M.get 0 = some (.row (rowC l) 2 none)) ∧ q < M.next ∧ (8 * s.length ≠ 0 → c < M.next)
set_option maxHeartbeats 8000000 in
theorem reads_ok {M : AM} (s : List UInt8) (l : List CodeV) (nil : Bool) (hnil : nil = true → l.length = 0) (hnx : M.next = 1) (hrow : l.length ≠ 0 → M.get 0 = some (.row (rowC l) 2 none))
    (hwf : ∀ x ∈ l, x.kind < 256 ∧ x.K < 18446744073709551616) (hs : s.length ≤ 1048576) (hlen : l.length ≤ 1048576) :
    FnC Try.prog tables 1 5 [.string ⟨⟨s⟩⟩, inV nil 0 l.length] M (fun v _ => v = .bool true) := by
  refine FnC.body (nt := 65) ok hm fn5 rfl rfl ?_
  (repeat (first
    | refine Ex.seq ok hm ?_
    | refine Ex.region ok hm ?_
    | refine Sq.pu ok hm Want.none (by first
    | exact Pu.move rfl
    | exact Pu.assign rfl) rfl ?_
    | refine Sq.finH (n := 9) ok hm (by repeat (first
    | exact Keep.nil
    | apply Keep.keep rfl)) ?_))
  refine Sq.call ok Want.none (Op1.call rfl rfl fn19) rfl (FnC.mono open_ok ?_)
  rintro v M1 ⟨rfl, e1⟩
  have hn1 : M1.next = 2 := by rw [e1]; simp only [AM.next_add]; omega
  (repeat (first
    | refine Ex.seq ok hm ?_
    | refine Ex.region ok hm ?_
    | refine Sq.pu ok hm Want.none (by first
    | exact Pu.move rfl
    | exact Pu.assign rfl) rfl ?_
    | refine Sq.finH (n := 9) ok hm (by repeat (first
    | exact Keep.nil
    | apply Keep.drop rfl
    | apply Keep.keep rfl)) ?_))
  refine Sq.call ok Want.none (Op1.call rfl rfl fn24) rfl (FnC.mono (Bits_ok hs) ?_)
  rintro v M2 ⟨c0, rfl, hb, hF2, hc0⟩
  have hn2 := hF2.next
  refine sq_facts fun hlt2 hron2 => ?_
  obtain ⟨a, m, m', hbv⟩ : ∃ a m m', bufV c0 (8 * s.length) = .slice a m m' := by
    unfold bufV; split <;> exact ⟨_, _, _, rfl⟩
  rw [hbv]
  refine Sq.pu ok hm Want.none (Pu.build hT rfl rfl rfl rfl) rfl ?_
  refine Sq.op ok hm Want.none (Op1.box rfl rfl) rfl ?_
  obtain ⟨q, hq⟩ : ∃ q, M2.next = q := ⟨_, rfl⟩
  obtain ⟨c, hbc, hcq, hc2, hcl⟩ : ∃ c, bufV c0 (8 * s.length) = bufV c (8 * s.length) ∧ q ≠ c ∧ (8 * s.length ≠ 0 → 2 ≤ c ∧ c < q) ∧ (8 * s.length ≠ 0 → M2.get c = some (.row ((bitsOf s).map Value.bool) 1 (some (4, 0)))) := by
    by_cases hz : 8 * s.length = 0
    · refine ⟨q + 1, ?_, by omega, fun k => absurd hz k, fun k => absurd hz k⟩
      rw [hz]; rfl
    · have h3 := hlt2 _ _ (hb hz)
      exact ⟨c0, rfl, by omega, fun _ => by omega, hb⟩
  have hRd : RdAt (M2.add (.row [.slice a m m', .int .i64 0] 0 (some (55, 0)))) 1 s 0 := by
    have h4 : RdAt M1 1 s 0 := by rw [e1, ← hnx]; exact AM.add_same
    exact (AM.add_ne (by omega)).trans ((hF2.get 1 (by omega) (by simp)).trans h4)
  have hRq : RqAt (M2.add (.row [.slice a m m', .int .i64 0] 0 (some (55, 0)))) q c s 0 := by
    refine ⟨?_, fun k => (AM.add_ne (by have := hc2 k; omega)).trans (hcl k), hcq⟩
    rw [← hbc, hbv, ← hq]; exact AM.add_same
  have hg0 : l.length ≠ 0 → (M2.add (.row [.slice a m m', .int .i64 0] 0 (some (55, 0)))).get 0 = some (.row (rowC l) 2 none) := fun k => by
    refine (AM.add_ne (by omega)).trans ((hF2.get 0 (by omega) (by simp)).trans ?_)
    rw [e1, AM.add_ne (by omega)]; exact hrow k
  have hnn : (M2.add (.row [.slice a m m', .int .i64 0] 0 (some (55, 0)))).next = q + 1 := by simp only [AM.next_add]; omega
  (repeat (first
    | refine Ex.seq ok hm ?_
    | refine Ex.block ok hm ?_
    | refine Ex.region ok hm ?_
    | refine Sq.pu ok hm Want.none (by exact Pu.assign rfl) rfl ?_
    | refine Sq.finH (n := 9) ok hm (by repeat (first
    | exact Keep.nil
    | apply Keep.drop rfl
    | apply Keep.keep rfl)) ?_))
  rw [hnx, hq]
  show Ex Try.prog tables 1 ⟨5, 65⟩ _ _ (M2.add (.row [.slice a m m', .int .i64 0] 0 (some (55, 0)))) _
  generalize (M2.add (.row [.slice a m m', .int .i64 0] 0 (some (55, 0)))) = M3 at hRd hRq hg0 hnn ⊢
  have hq2 : 2 ≤ q := by omega
  refine Ex.loop ?_
  refine Lp.inv ok hm (α := Nat)
    (fun i E M' => E = [(7, .int .i64 i), (6, .pointer (some ⟨q, 0, none⟩)), (5, .pointer (some ⟨1, 0, none⟩)), (1, inV nil 0 l.length)] ∧ i ≤ l.length ∧ i ≤ 100 ∧ LoopC s l q c M')
    (fun i => 100 - i) ?_ 0 [(7, .int .i64 (0 : Nat)), (6, .pointer (some ⟨q, 0, none⟩)), (5, .pointer (some ⟨1, 0, none⟩)), (1, inV nil 0 l.length)] ⟨rfl, rfl, rfl, rfl, trivial⟩ ⟨rfl, Nat.zero_le _, Nat.zero_le _, 0, Nat.zero_le _, hRd, hRq, hg0, by omega, fun k => by have := hc2 k; omega⟩
  intro i E M4 ⟨hE, hi, hi2, hL⟩
  subst hE
  by_cases hex : i < l.length ∧ i < 100
  · obtain ⟨hil, hi100⟩ := hex
    obtain ⟨hw1, hw2⟩ := hwf (l[i]'hil) (List.getElem_mem hil)
    have hag : (Value.agg ⟨((rowC l).drop (0 + ((i : Nat) : Int).toNat * 2)).take 2⟩) = .agg ⟨[.int .u8 ((l[i]'hil).kind : Int), .int .u64 ((l[i]'hil).K : Int)]⟩ := by rw [Int.toNat_natCast, Nat.zero_add, rowC_get l i hil]; rfl
    have hlb : 0 + ((i : Nat) : Int).toNat * 2 + 2 ≤ (rowC l).length := by rw [rowC_length, Int.toNat_natCast]; omega
    obtain ⟨at', hat, h1, h2, hg, hnq, hnc⟩ := hL
    have hg' := hg (by omega)
    (repeat (first
    | refine Ex.seq ok hm ?_
    | refine Ex.block ok hm ?_
    | refine Ex.skip ok hm ?_
    | refine Ex.region ok hm ?_
    | refine Sq.pu ok hm Want.none (by first
    | exact Pu.move rfl
    | exact Pu.lssI rfl rfl
    | exact Pu.lenIn hT (by assumption) rfl rfl
    | exact Pu.pickT rfl (by first
    | rfl
    | exact decide_eq_true (by omega)) rfl) rfl ?_
    | refine Sq.pu ok hm (by first
    | exact Want.none
    | exact Want.yes rfl rfl rfl (by first
    | rfl
    | exact decide_eq_true (by omega))) (by first
    | exact Pu.move rfl
    | exact Pu.lssI rfl rfl) rfl ?_
    | refine Sq.finH (n := 9) ok hm (by repeat (first
    | exact Keep.nil
    | apply Keep.drop rfl
    | apply Keep.keep rfl)) ?_
    | refine Ex.condT ok hm rfl (by first
    | rfl
    | exact decide_eq_true (by omega)) ?_))
    rw [inV_pos 0 l.length hnil (by omega)]
    (repeat (refine Sq.pu ok hm Want.none (by exact Pu.indexAddr hT rfl rfl rfl rfl (by omega) (by omega)) rfl ?_))
    generalize (l[i]'hil).kind = kind at hw1 hag
    generalize (l[i]'hil).K = K at hw2 hag
    refine Sq.pu ok hm Want.none (Pu.loadA hT rfl rfl rfl hg' hlb) rfl ?_
    change Sq Try.prog tables 1 _ _ _ ((33, .agg ⟨((rowC l).drop (0 + ((i : Nat) : Int).toNat * 2)).take 2⟩) :: _) _ _
    rw [hag]
    refine Sq.call ok Want.none (Op1.call rfl rfl fn26) rfl (FnC.mono own_ok ?_)
    rintro x M5 ⟨rfl, f0⟩
    have en0 := f0.next
    have j1 : RdAt M5 1 s at' := h1.keep f0 (by omega) (by simp)
    have j2 : RqAt M5 q c s at' := h2.keep f0 hnq (by simp) (fun k => ⟨hnc k, by simp⟩)
    refine Sq.call ok Want.none (Op1.call rfl rfl fn25) rfl (FnC.mono (Read_ok (kind := kind) (K := K) (by omega) j1 hat hs hw1 hw2) ?_)
    rintro x M6 ⟨rfl, g1, f1⟩
    have en1 := f1.next
    have g2 : RqAt M6 q c s at' := j2.keep f1 (by omega) (by simp; omega) (fun k => ⟨by have := hnc k; omega, by have := hc2 k; simp; omega⟩)
    have g0 : M6.get 0 = some (.row (rowC l) 2 none) := (f1.get 0 (by omega) (by simp)).trans ((f0.get 0 (by omega) (by simp)).trans hg')
    (repeat (first
    | refine Ex.seq ok hm ?_
    | refine Ex.region ok hm ?_
    | refine Sq.pu ok hm Want.none (by first
    | exact Pu.move rfl
    | exact Pu.assign rfl
    | exact Pu.extract rfl rfl
    | exact Pu.indexAddr hT rfl rfl rfl rfl (by omega) (by omega)) rfl ?_
    | refine Sq.finH (n := 12) ok hm (by repeat (first
    | exact Keep.nil
    | apply Keep.drop rfl
    | apply Keep.keep rfl)) ?_))
    refine Sq.pu ok hm Want.none (Pu.loadA hT rfl rfl rfl g0 hlb) rfl ?_
    change Sq Try.prog tables 1 _ _ _ ((43, .agg ⟨((rowC l).drop (0 + ((i : Nat) : Int).toNat * 2)).take 2⟩) :: _) _ _
    rw [hag]
    refine Sq.call ok Want.none (Op1.call rfl rfl fn27) rfl (FnC.mono (rRead_ok (kind := kind) (K := K) (by omega) g2 hat hs (fun k => by have := hnc k; omega) hw1 hw2) ?_)
    rintro x M7 ⟨rfl, k2, f2⟩
    have en2 := f2.next
    have k1 : RdAt M7 1 s (readE s kind K at').2.2 := g1.keep f2 (by omega) (by simp; omega)
    have k0 : M7.get 0 = some (.row (rowC l) 2 none) := (f2.get 0 (by omega) (by simp; omega)).trans g0
    have hle := readE_le (kind := kind) (K := K) hat
    (repeat (first
    | refine Ex.seq ok hm ?_
    | refine Sq.pu ok hm Want.none (by first
    | exact Pu.move rfl
    | exact Pu.assign rfl
    | exact Pu.extract rfl rfl) rfl ?_
    | refine Sq.finH (n := 12) ok hm (by repeat (first
    | exact Keep.nil
    | apply Keep.drop rfl
    | apply Keep.keep rfl)) ?_))
    generalize readE s kind K at' = z at k1 k2 hle ⊢
    have hrow2 := k2.row
    refine Ex.draw ok hm 15 (by kernel_rfl) ?_
    (repeat (first
    | refine Hq.pu Want.none (by first
    | exact Pu.move rfl
    | exact Pu.neqI rfl rfl
    | exact Pu.pickF rfl (by first
    | rfl
    | (simp; done)) rfl) rfl rfl rfl ?_
    | refine Hq.pu (by exact Want.yes rfl rfl rfl (by (simp; done))) (by first
    | exact Pu.move rfl
    | exact Pu.neqI rfl rfl) rfl rfl rfl ?_))
    refine Hq.call ok (by exact Want.yes rfl rfl rfl (by (simp; done))) (fun ro => Op1.call rfl rfl fn22) rfl rfl (FnC.mono (at_ok k1) ?_)
    rintro x M8 ⟨rfl, _⟩
    refine ⟨rfl, ?_⟩
    (repeat (first
    | refine Ex.skip ok hm ?_
    | refine Ex.region ok hm ?_
    | refine Sq.pu ok hm Want.none (by first
    | exact Pu.move rfl
    | exact Pu.assign rfl
    | exact Pu.addN rfl rfl (by simp only [InR]; omega)) rfl ?_
    | refine Sq.finH (n := 9) ok hm (by repeat (first
    | exact Keep.nil
    | apply Keep.drop rfl
    | apply Keep.keep rfl)) ?_
    | refine Hq.pu (by exact Want.yes rfl rfl rfl (by first
    | rfl
    | (simp; done))) (by first
    | exact Pu.move rfl
    | exact Pu.nilCheck rfl
    | exact Pu.fieldAddr hT rfl rfl rfl rfl rfl
    | (apply Pu.load hT rfl rfl rfl; (focus ((repeat (assumption)))); (focus rfl))) rfl rfl rfl ?_
    | refine Hq.nil ?_
    | refine Tq.pu Want.none (by first
    | exact Pu.neqI rfl rfl
    | exact Pu.pickF rfl (by first
    | rfl
    | (simp; done)) rfl) rfl ?_
    | refine Tq.pu (by exact Want.yes rfl rfl rfl (by first
    | rfl
    | (simp; done))) (by exact Pu.neqI rfl rfl) rfl ?_
    | refine Tq.finH (n := 9)  (by repeat (first
    | exact Keep.nil
    | apply Keep.drop rfl
    | apply Keep.keep rfl)) ?_
    | refine Ex.condF ok hm rfl (by first
    | rfl
    | (simp; done)) ?_))
    refine ⟨i + 1, [(7, .int .i64 ((i + 1 : Nat) : Int)), (6, .pointer (some ⟨q, 0, none⟩)), (5, .pointer (some ⟨1, 0, none⟩)), (1, inV nil 0 l.length)], ?_, ⟨rfl, rfl, rfl, ?_, trivial⟩, ?_, by omega, by omega, z.2.2, hle, k1, k2, fun _ => k0, by omega, fun k => by have := hnc k; omega⟩
    · show 100 - (i + 1) < 100 - i
      omega
    · rw [inV_pos 0 l.length hnil (by omega)]; rfl
    · rw [inV_pos 0 l.length hnil (by omega)]
  · by_cases hil : i < l.length
    all_goals
      (repeat (first
    | refine Ex.seq ok hm ?_
    | refine Ex.region ok hm ?_
    | refine Sq.pu ok hm Want.none (by first
    | exact Pu.move rfl
    | exact Pu.lssI rfl rfl
    | exact Pu.lenIn hT (by assumption) rfl rfl
    | exact Pu.pickT rfl (by first
    | rfl
    | exact decide_eq_true (by omega)) rfl
    | exact Pu.pickF rfl (by first
    | rfl
    | exact decide_eq_false (by omega)) rfl) rfl ?_
    | refine Sq.pu ok hm (by first
    | exact Want.none
    | exact Want.yes rfl rfl rfl (by first
    | rfl
    | exact decide_eq_true (by omega))) (by first
    | exact Pu.move rfl
    | exact Pu.lssI rfl rfl) rfl ?_
    | refine Sq.skip ok hm (by exact Want.no rfl rfl rfl (by first
    | rfl
    | exact decide_eq_false (by omega))) rfl ?_
    | refine Sq.finH (n := 9) ok hm (by repeat (first
    | exact Keep.nil
    | apply Keep.drop rfl
    | apply Keep.keep rfl)) ?_
    | refine Ex.condF ok hm rfl (by first
    | rfl
    | exact decide_eq_false (by omega)) ?_
    | refine Ex.exit ok hm ?_))
      refine Sq.call ok Want.none (Op1.call rfl rfl fn28) rfl (FnC.mono awake2_ok ?_)
      rintro x M6 ⟨rfl, rfl⟩
      (repeat (first
    | refine Sq.pu ok hm Want.none (by exact Pu.assign rfl) rfl ?_
    | refine Sq.finH (n := 9) ok hm (by repeat (first
    | exact Keep.nil
    | apply Keep.drop rfl
    | apply Keep.keep rfl)) ?_
    | refine Ex.ret ok hm ?_))
      exact ⟨_, .tmp rfl .nil, rfl⟩
end Go.Proofs.Ytlhfolmhgghjcaa
