/- Towards the laws of this seat: contracts of the program's functions in a logic over a small machine (texts XCu0 XCu XBacm XOi XOj). No condition. -/
import Derived.Test.YtlhfolmhgghjcaaXm3
import Derived.Test.YtlhfolmhgghjcaaWvmLgh
/- N -/
namespace Go.Proofs.Ytlhfolmhgghjcaa
open Go.Wvm Bits
set_option linter.unusedVariables false
set_option linter.unusedSimpArgs false

abbrev ptrV (p : Nat) : Value := .pointer (some ⟨p, 0, none⟩)
set_option maxHeartbeats 8000000 in
/-- What is put off: an answer that is not fine is made nothing, and the reader goes back. -/
theorem defer_ok {ro : Nat} {M : AM} {r a a' v p2 p4 p5 p6 : Nat} {e : Int} {s : List UInt8} (hp : ro ≤ p4) (hr : ro ≤ r) (h : RdAt M r s a')
    (b2 : M.get p2 = some (.row [ptrV r] 0 (some (44, 0)))) (b4 : M.get p4 = some (.row [.int .u64 (v : Int)] 0 (some (25, 0)))) (b5 : M.get p5 = some (.row [.int .i64 e] 0 (some (26, 0)))) (b6 : M.get p6 = some (.row [.int .i64 (a : Int)] 0 (some (3, 0))))
    (l4 : p4 < M.next) (l5 : p5 < M.next) (l6 : p6 < M.next) (l2 : p2 < M.next) (n4 : p4 ≠ r) (n42 : p4 ≠ p2) (n46 : p4 ≠ p6) (n45 : p4 ≠ p5) (n5 : p5 ≠ r) (ha : a ≤ 8 * s.length) (hs : s.length ≤ 140737488355328) :
    DefC Try.prog tables ro ⟨.fn (.func 41) ⟨[ptrV p5, ptrV p4, ptrV p2, ptrV p6]⟩, ⟨[]⟩⟩ M (fun M' => M'.get p5 = some (.row [.int .i64 e] 0 (some (26, 0))) ∧ M'.get p4 = some (.row [.int .u64 ((if e = 0 then v else 0 : Nat) : Int)] 0 (some (25, 0))) ∧ RdAt M' r s (if e = 0 then a' else a) ∧ Fr M M' [p4, r]) := by
  refine DefC.intro fn41 rfl rfl ?_
  by_cases he : e = 0
  · rw [if_pos he, if_pos he]
    (repeat (first
    | refine Ex.seq ok hm ?_
    | refine Ex.skip ok hm ?_
    | refine Ex.region ok hm ?_
    | refine Sq.pu ok hm Want.none (by first
    | (apply Pu.load hT rfl rfl rfl; (focus ((repeat (assumption)))); (focus rfl))
    | exact Pu.neqI rfl rfl) rfl ?_
    | refine Sq.finH (n := 4) ok hm (by repeat (first
    | exact Keep.nil
    | apply Keep.drop rfl
    | apply Keep.keep rfl)) ?_
    | refine Ex.condF ok hm rfl (by first
    | rfl
    | (simp; omega)) ?_))
    exact ⟨_, .nil, b5, b4, h, Fr.refl _ _⟩
  · rw [if_neg he, if_neg he]
    (repeat (first
    | refine Ex.seq ok hm ?_
    | refine Ex.region ok hm ?_
    | refine Sq.pu ok hm Want.none (by first
    | (apply Pu.load hT rfl rfl rfl; (focus ((repeat (assumption)))); (focus rfl))
    | exact Pu.neqI rfl rfl) rfl ?_
    | refine Sq.finH (n := 4) ok hm (by repeat (first
    | exact Keep.nil
    | apply Keep.drop rfl
    | apply Keep.keep rfl)) ?_
    | refine Ex.condT ok hm rfl (by first
    | rfl
    | (simp; omega)) ?_))
    refine Sq.act ok hm Want.none (Op1.store hT rfl rfl rfl rfl b4 hp (Nat.le_of_ble_eq_true rfl) (Nat.le_of_ble_eq_true rfl) rfl) ?_
    have h1 : RdAt (M.upd p4 (.row [.int .u64 0] 0 (some (25, 0)))) r s a' := (AM.upd_ne (Ne.symm n4)).trans h
    have c2 : (M.upd p4 (.row [.int .u64 0] 0 (some (25, 0)))).get p2 = some (.row [ptrV r] 0 (some (44, 0))) := (AM.upd_ne (Ne.symm n42)).trans b2
    have c6 : (M.upd p4 (.row [.int .u64 0] 0 (some (25, 0)))).get p6 = some (.row [.int .i64 (a : Int)] 0 (some (3, 0))) := (AM.upd_ne (Ne.symm n46)).trans b6
    have c5 : (M.upd p4 (.row [.int .u64 0] 0 (some (25, 0)))).get p5 = some (.row [.int .i64 e] 0 (some (26, 0))) := (AM.upd_ne (Ne.symm n45)).trans b5
    have c4 : (M.upd p4 (.row [.int .u64 0] 0 (some (25, 0)))).get p4 = some (.row [.int .u64 0] 0 (some (25, 0))) := AM.upd_same
    have hF1 : Fr M (M.upd p4 (.row [.int .u64 0] 0 (some (25, 0)))) [p4, r] := (Fr.refl _ _).upd' _ (.inl (by simp))
    have hn1 : (M.upd p4 (.row [.int .u64 0] 0 (some (25, 0)))).next = M.next := rfl
    show Sq Try.prog tables ro _ _ _ _ (M.upd p4 (.row [.int .u64 0] 0 (some (25, 0)))) _
    generalize M.upd p4 (.row [.int .u64 0] 0 (some (25, 0))) = M1 at *
    (repeat (first
    | refine Ex.region ok hm ?_
    | refine Sq.pu ok hm Want.none (by (apply Pu.load hT rfl rfl rfl; (focus ((repeat (assumption)))); (focus rfl))) rfl ?_
    | refine Sq.finH (n := 4) ok hm (by repeat (first
    | exact Keep.nil
    | apply Keep.keep rfl)) ?_))
    refine Sq.call ok Want.none (Op1.call rfl rfl fn20) rfl (FnC.mono (seek_ok (n := (a : Int)) hr h1 (by simp only [InR]; omega) (by omega)) ?_)
    rintro x M2 ⟨rfl, h2, hF2⟩
    rw [if_pos (by omega)] at h2
    (repeat (refine Sq.finH (n := 4) ok hm (by repeat (first
    | exact Keep.nil
    | apply Keep.drop rfl
    | apply Keep.keep rfl)) ?_))
    exact ⟨_, .nil, (hF2.get p5 (by omega) (by simp; exact n5)).trans c5, (hF2.get p4 (by omega) (by simp; exact n4)).trans c4, h2, hF1.trans hF2 (by simp)⟩
end Go.Proofs.Ytlhfolmhgghjcaa
/- N -/
namespace Go.Proofs.Ytlhfolmhgghjcaa
open Go.Wvm Bits
set_option linter.unusedVariables false
set_option linter.unusedSimpArgs false

theorem DefC.mono {P : Program} {vp : VP} {ro : Nat} {d : Deferred} {M : AM} {R R' : AM → Prop} (h : DefC P vp ro d M R) (k : ∀ M', R M' → R' M') : DefC P vp ro d M R' := by
  obtain ⟨g, cap, fn, c, nt, h1, h2, h3, h4, h5⟩ := h
  refine ⟨g, cap, fn, c, nt, h1, h2, h3, h4, h5.mono ?_⟩
  intro o E1 M1 q
  cases o with
  | exit id => exact q
  | norm => obtain ⟨vs, q1, q2⟩ := q; exact ⟨vs, q1, k _ q2⟩
  | ret => obtain ⟨vs, q1, q2⟩ := q; exact ⟨vs, q1, k _ q2⟩

set_option maxHeartbeats 8000000 in
/-- The end of Read, with what it has put off. -/
theorem fin_ok {ro : Nat} {M0 M : AM} {E : En} {r a a' v kind K p2 p4 p5 p6 : Nat} {e : Int} {s : List UInt8} (hp : ro ≤ p4) (hr : ro ≤ r) (h : RdAt M r s a') (hF : Fr M0 M [r])
    (b2 : M.get p2 = some (.row [ptrV r] 0 (some (44, 0)))) (b4 : M.get p4 = some (.row [.int .u64 (v : Int)] 0 (some (25, 0)))) (b5 : M.get p5 = some (.row [.int .i64 e] 0 (some (26, 0)))) (b6 : M.get p6 = some (.row [.int .i64 (a : Int)] 0 (some (3, 0))))
    (l4 : p4 < M.next) (l5 : p5 < M.next) (l6 : p6 < M.next) (l2 : p2 < M.next) (n4 : p4 ≠ r) (n42 : p4 ≠ p2) (n46 : p4 ≠ p6) (n45 : p4 ≠ p5) (n5 : p5 ≠ r) (n40 : M0.next ≤ p4) (ha : a ≤ 8 * s.length) (hs : s.length ≤ 140737488355328)
    (e4 : enGet E 4 = some (ptrV p4)) (e5 : enGet E 5 = some (ptrV p5)) (hres : readE s kind K a = if e = 0 then (v, 0, a') else (0, e, a)) :
    RetD Try.prog tables ro Try.f25.results.toList (fun x M' => x = .tuple ⟨[.int .u64 ((readE s kind K a).1 : Nat), .int .i64 (readE s kind K a).2.1]⟩ ∧ RdAt M' r s (readE s kind K a).2.2 ∧ Fr M0 M' [r]) .ret
      [⟨.fn (.func 41) ⟨[ptrV p5, ptrV p4, ptrV p2, ptrV p6]⟩, ⟨[]⟩⟩] E M := by
  refine DefC.mono (defer_ok hp hr h b2 b4 b5 b6 l4 l5 l6 l2 n4 n42 n46 n45 n5 ha hs) ?_
  rintro M2 ⟨c5, c4, h2, hF2⟩
  refine ⟨_, .cell e4 (hT 25 _ rfl) c4 rfl (Nat.le_of_ble_eq_true rfl) (.cell e5 (hT 26 _ rfl) c5 rfl (Nat.le_of_ble_eq_true rfl) .nil), ?_, ?_, ?_⟩
  · rw [hres]; by_cases k : e = 0
    · rw [if_pos k, if_pos k, k]; rfl
    · rw [if_neg k, if_neg k]; rfl
  · rw [hres]; by_cases k : e = 0
    · rw [if_pos k] at h2 ⊢; exact h2
    · rw [if_neg k] at h2 ⊢; exact h2
  · refine hF.trans hF2 ?_
    intro x hx
    rcases List.mem_cons.mp hx with rfl | hx
    · exact .inr n40
    · exact .inl hx

theorem hres_ok {s : List UInt8} {kind K a v a' : Nat} {e : Int} {o : Option (Nat × Nat)} (hc : checkE kind K = 0) (hmm : match o with | some w => v = w.1 ∧ e = 0 ∧ a' = w.2 | none => e = 4) (ho : readT s kind K a = o) : readE s kind K a = if e = 0 then (v, 0, a') else (0, e, a) := by
  unfold readE
  rw [if_neg (by intro k; exact k hc), ho]
  cases o with
  | none => obtain rfl : e = 4 := hmm; rfl
  | some w => obtain ⟨rfl, rfl, rfl⟩ : v = w.1 ∧ e = 0 ∧ a' = w.2 := hmm; rfl

set_option maxHeartbeats 8000000 in
theorem Read_ok {ro : Nat} {M : AM} {r a kind K : Nat} {s : List UInt8} (hr : ro ≤ r) (h : RdAt M r s a) (ha : a ≤ 8 * s.length) (hs : s.length ≤ 140737488355328) (hk : kind < 256) (hK : K < 18446744073709551616) :
    FnC Try.prog tables ro 25 [ptrV r, .agg ⟨[.int .u8 (kind : Int), .int .u64 (K : Int)]⟩] M
      (fun x M' => x = .tuple ⟨[.int .u64 ((readE s kind K a).1 : Nat), .int .i64 (readE s kind K a).2.1]⟩ ∧ RdAt M' r s (readE s kind K a).2.2 ∧ Fr M M' [r]) := by
  refine FnC.facts fun hlt hron => ?_
  have hrl := hlt _ _ h
  refine FnC.bodyD (nt := 63) ok hm fn25 rfl rfl ?_
  refine ExD.seq ok hm (ExD.of ?_)
  refine Ex.region ok hm ?_
  refine Sq.op ok hm Want.none (Op1.box rfl rfl) rfl ?_
  refine Sq.op ok hm Want.none (Op1.box rfl rfl) rfl ?_
  refine Sq.op ok hm Want.none (Op1.alloc hT rfl rfl rfl) rfl ?_
  refine Sq.op ok hm Want.none (Op1.alloc hT rfl rfl rfl) rfl ?_
  have n0 : M.next = M.next := rfl
  obtain ⟨M1, hM1⟩ : ∃ M1, M1 = (((M.add (.row [ptrV r] 0 (some (44, 0)))).add (.row [.int .u8 (kind : Int), .int .u64 (K : Int)] 0 (some (58, 0)))).add (.row [.int .u64 0] 0 (some (25, 0)))).add (.row [.int .i64 0] 0 (some (26, 0))) := ⟨_, rfl⟩
  have hF1 : Fr M M1 [r] := by rw [hM1]; exact ((((Fr.refl _ _).add' _).add' _).add' _).add' _
  have hn1 : M1.next = M.next + 4 := by rw [hM1]; rfl
  have b2 : M1.get M.next = some (.row [ptrV r] 0 (some (44, 0))) := by rw [hM1]; exact (AM.add_ne (by simp only [AM.next_add]; omega)).trans ((AM.add_ne (by simp only [AM.next_add]; omega)).trans ((AM.add_ne (by simp only [AM.next_add]; omega)).trans AM.add_same))
  have b3 : M1.get (M.next + 1) = some (.row [.int .u8 (kind : Int), .int .u64 (K : Int)] 0 (some (58, 0))) := by rw [hM1]; exact (AM.add_ne (by simp only [AM.next_add]; omega)).trans ((AM.add_ne (by simp only [AM.next_add]; omega)).trans AM.add_same)
  have b4 : M1.get (M.next + 2) = some (.row [.int .u64 0] 0 (some (25, 0))) := by rw [hM1]; exact (AM.add_ne (by simp only [AM.next_add]; omega)).trans AM.add_same
  have b5 : M1.get (M.next + 3) = some (.row [.int .i64 0] 0 (some (26, 0))) := by rw [hM1]; exact AM.add_same
  have h1 : RdAt M1 r s a := by
    rw [hM1]
    exact (AM.add_ne (by simp only [AM.next_add]; omega)).trans ((AM.add_ne (by simp only [AM.next_add]; omega)).trans ((AM.add_ne (by simp only [AM.next_add]; omega)).trans ((AM.add_ne (by omega)).trans h)))
  refine Sq.finH (n := 7) ok hm (by repeat (first
    | exact Keep.nil
    | apply Keep.keep rfl)) ?_
  show seqD Try.prog tables ro _ _ _ _ _ [(5, ptrV (M.next + 3)), (4, ptrV (M.next + 2)), (3, ptrV (M.next + 1)), (2, ptrV M.next), (0, ptrV r), (1, .agg ⟨[.int .u8 (kind : Int), .int .u64 (K : Int)]⟩)] ((((M.add (.row [ptrV r] 0 (some (44, 0)))).add (.row [.int .u8 (kind : Int), .int .u64 (K : Int)] 0 (some (58, 0)))).add (.row [.int .u64 0] 0 (some (25, 0)))).add (.row [.int .i64 0] 0 (some (26, 0))))
  rw [← hM1]
  refine ExD.seq ok hm (ExD.of ?_)
  (repeat (first
    | refine Ex.seq ok hm ?_
    | refine Ex.skip ok hm ?_
    | refine Ex.region ok hm ?_
    | refine Sq.pu ok hm Want.none (by first
    | (apply Pu.load hT rfl rfl rfl; (focus ((repeat (assumption)))); (focus rfl))
    | exact Pu.eqlP hT rfl rfl rfl) rfl ?_
    | refine Sq.finH (n := 7) ok hm (by repeat (first
    | exact Keep.nil
    | apply Keep.drop rfl
    | apply Keep.keep rfl)) ?_
    | refine Ex.condF ok hm rfl (by rfl) ?_))
  refine ExD.seq ok hm (ExD.of ?_)
  (repeat (first
    | refine Ex.seq ok hm ?_
    | refine Ex.region ok hm ?_))
  refine Sq.pu ok hm Want.none (Pu.loadA hT rfl rfl rfl b3 (Nat.le_refl 2)) rfl ?_
  refine Sq.call ok Want.none (Op1.call rfl rfl fn40) rfl (FnC.mono (Check_ok (kind := kind) (K := K) hk hK) ?_)
  rintro x M2 ⟨rfl, hF2⟩
  have hn2 := hF2.next
  have h2 : RdAt M2 r s a := (hF2.get r (by omega) (by simp)).trans h1
  have c2 := (hF2.get M.next (by omega) (by simp)).trans b2
  have c3 := (hF2.get (M.next + 1) (by omega) (by simp)).trans b3
  have c4 := (hF2.get (M.next + 2) (by omega) (by simp)).trans b4
  have c5 := (hF2.get (M.next + 3) (by omega) (by simp)).trans b5
  have hFF := hF1.trans hF2 (by simp)
  rcases check01 kind K with hc | hc
  · rw [hc]
    (repeat (first
    | refine Ex.skip ok hm ?_
    | refine Sq.pu ok hm Want.none (by exact Pu.neqI rfl rfl) rfl ?_
    | refine Sq.finH (n := 7) ok hm (by repeat (first
    | exact Keep.nil
    | apply Keep.drop rfl
    | apply Keep.keep rfl)) ?_
    | refine Ex.condF ok hm rfl (by rfl) ?_))
    refine ExD.seq ok hm (ExD.of ?_)
    (repeat (first
    | refine Ex.region ok hm ?_
    | refine Sq.pu ok hm Want.none (by (apply Pu.load hT rfl rfl rfl; (focus ((repeat (assumption)))); (focus rfl))) rfl ?_))
    refine Sq.call ok Want.none (Op1.call rfl rfl fn22) rfl (FnC.mono (at_ok h2) ?_)
    rintro x M3 ⟨rfl, rfl⟩
    refine Sq.op ok hm Want.none (Op1.alloc hT rfl rfl rfl) rfl ?_
    refine Sq.act ok hm Want.none (Op1.store hT rfl rfl rfl rfl AM.add_same (by omega) (Nat.le_of_ble_eq_true rfl) (Nat.le_of_ble_eq_true rfl) rfl) ?_
    show Sq Try.prog tables ro _ _ _ _ ((M3.add (.row [.int .i64 0] 0 (some (3, 0)))).upd M3.next (.row [.int .i64 (a : Int)] 0 (some (3, 0)))) _
    have d6 : ((M3.add (.row [.int .i64 0] 0 (some (3, 0)))).upd M3.next (.row [.int .i64 (a : Int)] 0 (some (3, 0)))).get M3.next = some (.row [.int .i64 (a : Int)] 0 (some (3, 0))) := AM.upd_same
    have hF4 : Fr M3 ((M3.add (.row [.int .i64 0] 0 (some (3, 0)))).upd M3.next (.row [.int .i64 (a : Int)] 0 (some (3, 0)))) [] := (Fr.add _ _ _).upd' _ (.inr (Nat.le_refl _))
    have hn4 : ((M3.add (.row [.int .i64 0] 0 (some (3, 0)))).upd M3.next (.row [.int .i64 (a : Int)] 0 (some (3, 0)))).next = M3.next + 1 := rfl
    generalize ((M3.add (.row [.int .i64 0] 0 (some (3, 0)))).upd M3.next (.row [.int .i64 (a : Int)] 0 (some (3, 0)))) = M4 at d6 hF4 hn4 ⊢
    have h4 : RdAt M4 r s a := (hF4.get r (by omega) (by simp)).trans h2
    have d2 := (hF4.get M.next (by omega) (by simp)).trans c2
    have d3 := (hF4.get (M.next + 1) (by omega) (by simp)).trans c3
    have d4 := (hF4.get (M.next + 2) (by omega) (by simp)).trans c4
    have d5 := (hF4.get (M.next + 3) (by omega) (by simp)).trans c5
    have hFG := hFF.trans hF4 (by simp)
    (repeat (refine Sq.finH (n := 7) ok hm (by repeat (first
    | exact Keep.nil
    | apply Keep.drop rfl
    | apply Keep.keep rfl)) ?_))
    refine ExD.seq ok hm (ExD.region ok hm ?_)
    refine SqD.pu ok hm Want.none (Pu.makeFunc rfl rfl) rfl ?_
    refine SqD.defer ok hm rfl rfl ?_
    (repeat (refine Sq.finH (n := 7) ok hm (by repeat (first
    | exact Keep.nil
    | apply Keep.keep rfl)) ?_))
    refine ExD.of (vp := tables) ?_
    obtain ⟨z1, z2, z3⟩ := check0 hc
    by_cases k0 : kind = 0
    · have hT0 : readT s kind K a = unaT s 65536 0 a := by unfold readT; rw [if_pos k0]
      (repeat (first
    | refine Ex.seq ok hm ?_
    | refine Ex.block ok hm ?_
    | refine Ex.region ok hm ?_
    | refine Sq.pu ok hm Want.none (by first
    | exact Pu.assign rfl
    | exact Pu.fieldAddr hT rfl rfl rfl rfl rfl
    | (apply Pu.load hT rfl rfl rfl; (focus ((repeat (assumption)))); (focus rfl))
    | exact Pu.eqlI rfl rfl) rfl ?_
    | refine Sq.finH (n := 7) ok hm (by repeat (first
    | exact Keep.nil
    | apply Keep.drop rfl
    | apply Keep.keep rfl)) ?_
    | refine Ex.condT ok hm rfl (by first
    | rfl
    | exact decide_eq_true (by omega)) ?_))
      refine Sq.call ok Want.none (Op1.call rfl rfl fn42) rfl (FnC.mono (readUnary_ok (most := 65535) hr h4 ha hs (by decide)) ?_)
      rintro x M5 ⟨v, e, a5, rfl, h5, ha5, hF5, hv, hmm⟩
      have hn5 := hF5.next
      have q2 := (hF5.get M.next (by omega) (by simp; omega)).trans d2
      have q3 := (hF5.get (M.next + 1) (by omega) (by simp; omega)).trans d3
      have q4 := (hF5.get (M.next + 2) (by omega) (by simp; omega)).trans d4
      have q5 := (hF5.get (M.next + 3) (by omega) (by simp; omega)).trans d5
      have q6 := (hF5.get M3.next (by omega) (by simp; omega)).trans d6
      (repeat (refine Sq.pu ok hm Want.none (by exact Pu.extract rfl rfl) rfl ?_))
      refine Sq.act ok hm Want.none (Op1.store hT rfl rfl rfl rfl q4 (by omega) (Nat.le_of_ble_eq_true rfl) (Nat.le_of_ble_eq_true rfl) rfl) ?_
      refine Sq.act ok hm Want.none (Op1.store hT rfl rfl rfl rfl ((AM.upd_ne (by omega)).trans q5) (by omega) (Nat.le_of_ble_eq_true rfl) (Nat.le_of_ble_eq_true rfl) rfl) ?_
      (repeat (first
    | refine Sq.finH (n := 7) ok hm (by repeat (first
    | exact Keep.nil
    | apply Keep.drop rfl
    | apply Keep.keep rfl)) ?_
    | refine Ex.ret ok hm ?_))
      refine fin_ok (p2 := M.next) (p4 := M.next + 2) (p5 := M.next + 3) (p6 := M3.next) (by omega) hr ((AM.upd_ne (by omega)).trans ((AM.upd_ne (by omega)).trans h5)) (((hFG.trans hF5 (by simp)).upd' _ (.inr (by omega))).upd' _ (.inr (by omega))) ((AM.upd_ne (by omega)).trans ((AM.upd_ne (by omega)).trans q2)) ((AM.upd_ne (by omega)).trans AM.upd_same) AM.upd_same ((AM.upd_ne (by omega)).trans ((AM.upd_ne (by omega)).trans q6)) (by simp only [AM.next_upd]; omega) (by simp only [AM.next_upd]; omega) (by simp only [AM.next_upd]; omega) (by simp only [AM.next_upd]; omega) (by omega) (by omega) (by omega) (by omega) (by omega) (by omega) ha hs rfl rfl (hres_ok hc hmm hT0)
    by_cases k1 : kind = 1
    · have hT0 : readT s kind K a = gammaT s a := by unfold readT; rw [if_neg k0]; rw [if_pos k1]
      (repeat (first
    | refine Ex.seq ok hm ?_
    | refine Ex.block ok hm ?_
    | refine Ex.region ok hm ?_
    | refine Sq.pu ok hm Want.none (by first
    | exact Pu.assign rfl
    | exact Pu.fieldAddr hT rfl rfl rfl rfl rfl
    | (apply Pu.load hT rfl rfl rfl; (focus ((repeat (assumption)))); (focus rfl))
    | exact Pu.eqlI rfl rfl) rfl ?_
    | refine Sq.finH (n := 40) ok hm (by repeat (first
    | exact Keep.nil
    | apply Keep.keep rfl)) ?_
    | refine Ex.condT ok hm rfl (by first
    | rfl
    | exact decide_eq_true (by omega)) ?_
    | refine Ex.condF ok hm rfl (by first
    | rfl
    | exact decide_eq_false (by omega)) ?_))
      refine Sq.call ok Want.none (Op1.call rfl rfl fn43) rfl (FnC.mono (readGamma_ok hr h4 ha hs) ?_)
      rintro x M5 ⟨v, e, a5, rfl, h5, ha5, hF5, hv, hmm⟩
      have hn5 := hF5.next
      have q2 := (hF5.get M.next (by omega) (by simp; omega)).trans d2
      have q3 := (hF5.get (M.next + 1) (by omega) (by simp; omega)).trans d3
      have q4 := (hF5.get (M.next + 2) (by omega) (by simp; omega)).trans d4
      have q5 := (hF5.get (M.next + 3) (by omega) (by simp; omega)).trans d5
      have q6 := (hF5.get M3.next (by omega) (by simp; omega)).trans d6
      (repeat (refine Sq.pu ok hm Want.none (by exact Pu.extract rfl rfl) rfl ?_))
      refine Sq.act ok hm Want.none (Op1.store hT rfl rfl rfl rfl q4 (by omega) (Nat.le_of_ble_eq_true rfl) (Nat.le_of_ble_eq_true rfl) rfl) ?_
      refine Sq.act ok hm Want.none (Op1.store hT rfl rfl rfl rfl ((AM.upd_ne (by omega)).trans q5) (by omega) (Nat.le_of_ble_eq_true rfl) (Nat.le_of_ble_eq_true rfl) rfl) ?_
      (repeat (first
    | refine Sq.finH (n := 40) ok hm (by repeat (first
    | exact Keep.nil
    | apply Keep.keep rfl)) ?_
    | refine Ex.ret ok hm ?_))
      refine fin_ok (p2 := M.next) (p4 := M.next + 2) (p5 := M.next + 3) (p6 := M3.next) (by omega) hr ((AM.upd_ne (by omega)).trans ((AM.upd_ne (by omega)).trans h5)) (((hFG.trans hF5 (by simp)).upd' _ (.inr (by omega))).upd' _ (.inr (by omega))) ((AM.upd_ne (by omega)).trans ((AM.upd_ne (by omega)).trans q2)) ((AM.upd_ne (by omega)).trans AM.upd_same) AM.upd_same ((AM.upd_ne (by omega)).trans ((AM.upd_ne (by omega)).trans q6)) (by simp only [AM.next_upd]; omega) (by simp only [AM.next_upd]; omega) (by simp only [AM.next_upd]; omega) (by simp only [AM.next_upd]; omega) (by omega) (by omega) (by omega) (by omega) (by omega) (by omega) ha hs rfl rfl (hres_ok hc hmm hT0)
    by_cases k2 : kind = 2
    · have hT0 : readT s kind K a = deltaT s a := by unfold readT; rw [if_neg k0]; rw [if_neg k1]; rw [if_pos k2]
      have hd : deltaT s a = (gammaT s a).bind fun x => if 47 < x.1 then none else restT s x.1 x.2 := rfl
      (repeat (first
    | refine Ex.seq ok hm ?_
    | refine Ex.block ok hm ?_
    | refine Ex.region ok hm ?_
    | refine Sq.pu ok hm Want.none (by first
    | exact Pu.assign rfl
    | exact Pu.fieldAddr hT rfl rfl rfl rfl rfl
    | (apply Pu.load hT rfl rfl rfl; (focus ((repeat (assumption)))); (focus rfl))
    | exact Pu.eqlI rfl rfl) rfl ?_
    | refine Sq.finH (n := 40) ok hm (by repeat (first
    | exact Keep.nil
    | apply Keep.keep rfl)) ?_
    | refine Ex.condT ok hm rfl (by first
    | rfl
    | exact decide_eq_true (by omega)) ?_
    | refine Ex.condF ok hm rfl (by first
    | rfl
    | exact decide_eq_false (by omega)) ?_))
      refine Sq.call ok Want.none (Op1.call rfl rfl fn43) rfl (FnC.mono (readGamma_ok hr h4 ha hs) ?_)
      rintro x M5 ⟨v, e, a5, rfl, h5, ha5, hF5, hv, hmm⟩
      have hn5 := hF5.next
      have q2 := (hF5.get M.next (by omega) (by simp; omega)).trans d2
      have q3 := (hF5.get (M.next + 1) (by omega) (by simp; omega)).trans d3
      have q4 := (hF5.get (M.next + 2) (by omega) (by simp; omega)).trans d4
      have q5 := (hF5.get (M.next + 3) (by omega) (by simp; omega)).trans d5
      have q6 := (hF5.get M3.next (by omega) (by simp; omega)).trans d6
      cases ho : gammaT s a with
      | none =>
        rw [ho] at hmm
        obtain rfl : e = 4 := hmm
        have hT1 : readT s kind K a = none := by rw [hT0, hd, ho]; rfl
        have hT0 := hT1
        (repeat (first
    | refine Ex.seq ok hm ?_
    | refine Ex.region ok hm ?_
    | refine Sq.pu ok hm Want.none (by first
    | exact Pu.move rfl
    | exact Pu.assign rfl
    | exact Pu.extract rfl rfl
    | exact Pu.neqI rfl rfl
    | exact Pu.pickT rfl (by rfl) rfl) rfl ?_
    | refine Sq.skip ok hm (by exact Want.no rfl rfl rfl (by rfl)) rfl ?_
    | refine Sq.finH (n := 40) ok hm (by repeat (first
    | exact Keep.nil
    | apply Keep.drop rfl
    | apply Keep.keep rfl)) ?_
    | refine Ex.condT ok hm rfl (by rfl) ?_))
        refine Sq.act ok hm Want.none (Op1.store hT rfl rfl rfl rfl q4 (by omega) (Nat.le_of_ble_eq_true rfl) (Nat.le_of_ble_eq_true rfl) rfl) ?_
        refine Sq.act ok hm Want.none (Op1.store hT rfl rfl rfl rfl ((AM.upd_ne (by omega)).trans q5) (by omega) (Nat.le_of_ble_eq_true rfl) (Nat.le_of_ble_eq_true rfl) rfl) ?_
        (repeat (first
    | refine Sq.finH (n := 40) ok hm (by repeat (first
    | exact Keep.nil
    | apply Keep.keep rfl)) ?_
    | refine Ex.ret ok hm ?_))
        refine fin_ok (p2 := M.next) (p4 := M.next + 2) (p5 := M.next + 3) (p6 := M3.next) (by omega) hr ((AM.upd_ne (by omega)).trans ((AM.upd_ne (by omega)).trans h5)) (((hFG.trans hF5 (by simp)).upd' _ (.inr (by omega))).upd' _ (.inr (by omega))) ((AM.upd_ne (by omega)).trans ((AM.upd_ne (by omega)).trans q2)) ((AM.upd_ne (by omega)).trans AM.upd_same) AM.upd_same ((AM.upd_ne (by omega)).trans ((AM.upd_ne (by omega)).trans q6)) (by simp only [AM.next_upd]; omega) (by simp only [AM.next_upd]; omega) (by simp only [AM.next_upd]; omega) (by simp only [AM.next_upd]; omega) (by omega) (by omega) (by omega) (by omega) (by omega) (by omega) ha hs rfl rfl (hres_ok (v := 0) (e := 4) (o := none) hc rfl hT0)
      | some w =>
        rw [ho] at hmm
        obtain ⟨rfl, rfl, rfl⟩ : v = w.1 ∧ e = 0 ∧ a5 = w.2 := hmm
        by_cases hbig : 47 < w.1
        · have hT1 : readT s kind K a = none := by rw [hT0, hd, ho]; show (if 47 < w.1 then none else restT s w.1 w.2) = none; rw [if_pos hbig]
          have hT0 := hT1
          (repeat (first
    | refine Ex.seq ok hm ?_
    | refine Ex.region ok hm ?_
    | refine Sq.pu ok hm Want.none (by first
    | exact Pu.move rfl
    | exact Pu.assign rfl
    | exact Pu.extract rfl rfl
    | exact Pu.gtrI rfl rfl
    | exact Pu.neqI rfl rfl
    | exact Pu.pickF rfl (by rfl) rfl) rfl ?_
    | refine Sq.pu ok hm (by exact Want.yes rfl rfl rfl (by rfl)) (by first
    | exact Pu.move rfl
    | exact Pu.gtrI rfl rfl) rfl ?_
    | refine Sq.finH (n := 40) ok hm (by repeat (first
    | exact Keep.nil
    | apply Keep.drop rfl
    | apply Keep.keep rfl)) ?_
    | refine Ex.condT ok hm rfl (by first
    | rfl
    | exact decide_eq_true (by omega)) ?_))
          refine Sq.act ok hm Want.none (Op1.store hT rfl rfl rfl rfl q4 (by omega) (Nat.le_of_ble_eq_true rfl) (Nat.le_of_ble_eq_true rfl) rfl) ?_
          refine Sq.act ok hm Want.none (Op1.store hT rfl rfl rfl rfl ((AM.upd_ne (by omega)).trans q5) (by omega) (Nat.le_of_ble_eq_true rfl) (Nat.le_of_ble_eq_true rfl) rfl) ?_
          (repeat (first
    | refine Sq.finH (n := 40) ok hm (by repeat (first
    | exact Keep.nil
    | apply Keep.keep rfl)) ?_
    | refine Ex.ret ok hm ?_))
          refine fin_ok (p2 := M.next) (p4 := M.next + 2) (p5 := M.next + 3) (p6 := M3.next) (by omega) hr ((AM.upd_ne (by omega)).trans ((AM.upd_ne (by omega)).trans h5)) (((hFG.trans hF5 (by simp)).upd' _ (.inr (by omega))).upd' _ (.inr (by omega))) ((AM.upd_ne (by omega)).trans ((AM.upd_ne (by omega)).trans q2)) ((AM.upd_ne (by omega)).trans AM.upd_same) AM.upd_same ((AM.upd_ne (by omega)).trans ((AM.upd_ne (by omega)).trans q6)) (by simp only [AM.next_upd]; omega) (by simp only [AM.next_upd]; omega) (by simp only [AM.next_upd]; omega) (by simp only [AM.next_upd]; omega) (by omega) (by omega) (by omega) (by omega) (by omega) (by omega) ha hs rfl rfl (hres_ok (v := 0) (e := 4) (o := none) hc rfl hT0)
        · have hT1 : readT s kind K a = restT s w.1 w.2 := by rw [hT0, hd, ho]; show (if 47 < w.1 then none else restT s w.1 w.2) = _; rw [if_neg hbig]
          have hT0 := hT1
          (repeat (first
    | refine Ex.seq ok hm ?_
    | refine Ex.skip ok hm ?_
    | refine Ex.region ok hm ?_
    | refine Sq.pu ok hm Want.none (by first
    | exact Pu.move rfl
    | exact Pu.assign rfl
    | (apply Pu.load hT rfl rfl rfl; (focus ((repeat (assumption)))); (focus rfl))
    | exact Pu.extract rfl rfl
    | exact Pu.gtrI rfl rfl
    | exact Pu.neqI rfl rfl
    | exact Pu.pickF rfl (by rfl) rfl) rfl ?_
    | refine Sq.pu ok hm (by first
    | exact Want.none
    | exact Want.yes rfl rfl rfl (by rfl)) (by first
    | exact Pu.move rfl
    | exact Pu.gtrI rfl rfl) rfl ?_
    | refine Sq.finH (n := 40) ok hm (by repeat (first
    | exact Keep.nil
    | apply Keep.drop rfl
    | apply Keep.keep rfl)) ?_
    | refine Ex.condF ok hm rfl (by first
    | rfl
    | exact decide_eq_false (by omega)) ?_))
          refine Sq.call ok Want.none (Op1.call rfl rfl fn44) rfl (FnC.mono (readRest_ok hr h5 ha5 hs (by omega)) ?_)
          rintro x M6 ⟨v6, e6, a6, rfl, h6, ha6, hF6, hv6, hmm6⟩
          have hn6 := hF6.next
          have y2 := (hF6.get M.next (by omega) (by simp; omega)).trans q2
          have y3 := (hF6.get (M.next + 1) (by omega) (by simp; omega)).trans q3
          have y4 := (hF6.get (M.next + 2) (by omega) (by simp; omega)).trans q4
          have y5 := (hF6.get (M.next + 3) (by omega) (by simp; omega)).trans q5
          have y6 := (hF6.get M3.next (by omega) (by simp; omega)).trans q6
          (repeat (refine Sq.pu ok hm Want.none (by exact Pu.extract rfl rfl) rfl ?_))
          refine Sq.act ok hm Want.none (Op1.store hT rfl rfl rfl rfl y4 (by omega) (Nat.le_of_ble_eq_true rfl) (Nat.le_of_ble_eq_true rfl) rfl) ?_
          refine Sq.act ok hm Want.none (Op1.store hT rfl rfl rfl rfl ((AM.upd_ne (by omega)).trans y5) (by omega) (Nat.le_of_ble_eq_true rfl) (Nat.le_of_ble_eq_true rfl) rfl) ?_
          (repeat (first
    | refine Sq.finH (n := 40) ok hm (by repeat (first
    | exact Keep.nil
    | apply Keep.drop rfl
    | apply Keep.keep rfl)) ?_
    | refine Ex.ret ok hm ?_))
          refine fin_ok (p2 := M.next) (p4 := M.next + 2) (p5 := M.next + 3) (p6 := M3.next) (by omega) hr ((AM.upd_ne (by omega)).trans ((AM.upd_ne (by omega)).trans h6)) (((((hFG.trans hF5 (by simp))).trans hF6 (by simp)).upd' _ (.inr (by omega))).upd' _ (.inr (by omega))) ((AM.upd_ne (by omega)).trans ((AM.upd_ne (by omega)).trans y2)) ((AM.upd_ne (by omega)).trans AM.upd_same) AM.upd_same ((AM.upd_ne (by omega)).trans ((AM.upd_ne (by omega)).trans y6)) (by simp only [AM.next_upd]; omega) (by simp only [AM.next_upd]; omega) (by simp only [AM.next_upd]; omega) (by simp only [AM.next_upd]; omega) (by omega) (by omega) (by omega) (by omega) (by omega) (by omega) ha hs rfl rfl (hres_ok hc hmm6 hT0)
    by_cases k3 : kind = 3
    · have hT0 : readT s kind K a = zetaT s K a := by unfold readT; rw [if_neg k0]; rw [if_neg k1]; rw [if_neg k2]; rw [if_pos k3]
      (repeat (first
    | refine Ex.seq ok hm ?_
    | refine Ex.block ok hm ?_
    | refine Ex.region ok hm ?_
    | refine Sq.pu ok hm Want.none (by first
    | exact Pu.assign rfl
    | exact Pu.fieldAddr hT rfl rfl rfl rfl rfl
    | (apply Pu.load hT rfl rfl rfl; (focus ((repeat (assumption)))); (focus rfl))
    | exact Pu.eqlI rfl rfl) rfl ?_
    | refine Sq.finH (n := 40) ok hm (by repeat (first
    | exact Keep.nil
    | apply Keep.drop rfl
    | apply Keep.keep rfl)) ?_
    | refine Ex.condT ok hm rfl (by first
    | rfl
    | exact decide_eq_true (by omega)) ?_
    | refine Ex.condF ok hm rfl (by first
    | rfl
    | exact decide_eq_false (by omega)) ?_))
      refine Sq.call ok Want.none (Op1.call rfl rfl fn45) rfl (FnC.mono (readZeta_ok hr h4 ha hs (z2 k3)) ?_)
      rintro x M5 ⟨v, e, a5, rfl, h5, ha5, hF5, hv, hmm⟩
      have hn5 := hF5.next
      have q2 := (hF5.get M.next (by omega) (by simp; omega)).trans d2
      have q3 := (hF5.get (M.next + 1) (by omega) (by simp; omega)).trans d3
      have q4 := (hF5.get (M.next + 2) (by omega) (by simp; omega)).trans d4
      have q5 := (hF5.get (M.next + 3) (by omega) (by simp; omega)).trans d5
      have q6 := (hF5.get M3.next (by omega) (by simp; omega)).trans d6
      (repeat (refine Sq.pu ok hm Want.none (by exact Pu.extract rfl rfl) rfl ?_))
      refine Sq.act ok hm Want.none (Op1.store hT rfl rfl rfl rfl q4 (by omega) (Nat.le_of_ble_eq_true rfl) (Nat.le_of_ble_eq_true rfl) rfl) ?_
      refine Sq.act ok hm Want.none (Op1.store hT rfl rfl rfl rfl ((AM.upd_ne (by omega)).trans q5) (by omega) (Nat.le_of_ble_eq_true rfl) (Nat.le_of_ble_eq_true rfl) rfl) ?_
      (repeat (first
    | refine Sq.finH (n := 40) ok hm (by repeat (first
    | exact Keep.nil
    | apply Keep.drop rfl
    | apply Keep.keep rfl)) ?_
    | refine Ex.ret ok hm ?_))
      refine fin_ok (p2 := M.next) (p4 := M.next + 2) (p5 := M.next + 3) (p6 := M3.next) (by omega) hr ((AM.upd_ne (by omega)).trans ((AM.upd_ne (by omega)).trans h5)) (((hFG.trans hF5 (by simp)).upd' _ (.inr (by omega))).upd' _ (.inr (by omega))) ((AM.upd_ne (by omega)).trans ((AM.upd_ne (by omega)).trans q2)) ((AM.upd_ne (by omega)).trans AM.upd_same) AM.upd_same ((AM.upd_ne (by omega)).trans ((AM.upd_ne (by omega)).trans q6)) (by simp only [AM.next_upd]; omega) (by simp only [AM.next_upd]; omega) (by simp only [AM.next_upd]; omega) (by simp only [AM.next_upd]; omega) (by omega) (by omega) (by omega) (by omega) (by omega) (by omega) ha hs rfl rfl (hres_ok hc hmm hT0)
    have k4 : kind = 4 := by omega
    have hT0 : readT s kind K a = minT s K a := by unfold readT; rw [if_neg k0]; rw [if_neg k1]; rw [if_neg k2]; rw [if_neg k3]
    (repeat (first
    | refine Ex.seq ok hm ?_
    | refine Ex.block ok hm ?_
    | refine Ex.skip ok hm ?_
    | refine Ex.region ok hm ?_
    | refine Sq.pu ok hm Want.none (by first
    | exact Pu.assign rfl
    | exact Pu.fieldAddr hT rfl rfl rfl rfl rfl
    | (apply Pu.load hT rfl rfl rfl; (focus ((repeat (assumption)))); (focus rfl))
    | exact Pu.eqlI rfl rfl) rfl ?_
    | refine Sq.finH (n := 40) ok hm (by repeat (first
    | exact Keep.nil
    | apply Keep.drop rfl
    | apply Keep.keep rfl)) ?_
    | refine Ex.condF ok hm rfl (by first
    | rfl
    | exact decide_eq_false (by omega)) ?_))
    refine Sq.call ok Want.none (Op1.call rfl rfl fn46) rfl (FnC.mono (readMinimal_ok hr h4 ha hs (z3 k4).1 (by have := (z3 k4).2; omega)) ?_)
    rintro x M5 ⟨v, e, a5, rfl, h5, ha5, hF5, hv, hmm⟩
    have hn5 := hF5.next
    have q2 := (hF5.get M.next (by omega) (by simp; omega)).trans d2
    have q3 := (hF5.get (M.next + 1) (by omega) (by simp; omega)).trans d3
    have q4 := (hF5.get (M.next + 2) (by omega) (by simp; omega)).trans d4
    have q5 := (hF5.get (M.next + 3) (by omega) (by simp; omega)).trans d5
    have q6 := (hF5.get M3.next (by omega) (by simp; omega)).trans d6
    (repeat (refine Sq.pu ok hm Want.none (by exact Pu.extract rfl rfl) rfl ?_))
    refine Sq.act ok hm Want.none (Op1.store hT rfl rfl rfl rfl q4 (by omega) (Nat.le_of_ble_eq_true rfl) (Nat.le_of_ble_eq_true rfl) rfl) ?_
    refine Sq.act ok hm Want.none (Op1.store hT rfl rfl rfl rfl ((AM.upd_ne (by omega)).trans q5) (by omega) (Nat.le_of_ble_eq_true rfl) (Nat.le_of_ble_eq_true rfl) rfl) ?_
    (repeat (first
    | refine Sq.finH (n := 40) ok hm (by repeat (first
    | exact Keep.nil
    | apply Keep.drop rfl
    | apply Keep.keep rfl)) ?_
    | refine Ex.ret ok hm ?_))
    refine fin_ok (p2 := M.next) (p4 := M.next + 2) (p5 := M.next + 3) (p6 := M3.next) (by omega) hr ((AM.upd_ne (by omega)).trans ((AM.upd_ne (by omega)).trans h5)) (((hFG.trans hF5 (by simp)).upd' _ (.inr (by omega))).upd' _ (.inr (by omega))) ((AM.upd_ne (by omega)).trans ((AM.upd_ne (by omega)).trans q2)) ((AM.upd_ne (by omega)).trans AM.upd_same) AM.upd_same ((AM.upd_ne (by omega)).trans ((AM.upd_ne (by omega)).trans q6)) (by simp only [AM.next_upd]; omega) (by simp only [AM.next_upd]; omega) (by simp only [AM.next_upd]; omega) (by simp only [AM.next_upd]; omega) (by omega) (by omega) (by omega) (by omega) (by omega) (by omega) ha hs rfl rfl (hres_ok hc hmm hT0)
  · rw [hc]
    have e : readE s kind K a = (0, 1, a) := by unfold readE; rw [if_pos (by rw [hc]; decide)]
    rw [e]
    (repeat (first
    | refine Ex.seq ok hm ?_
    | refine Ex.region ok hm ?_
    | refine Sq.pu ok hm Want.none (by exact Pu.neqI rfl rfl) rfl ?_
    | refine Sq.finH (n := 7) ok hm (by repeat (first
    | exact Keep.nil
    | apply Keep.drop rfl
    | apply Keep.keep rfl)) ?_
    | refine Ex.condT ok hm rfl (by rfl) ?_))
    refine Sq.act ok hm Want.none (Op1.store hT rfl rfl rfl rfl c4 (by omega) (Nat.le_of_ble_eq_true rfl) (Nat.le_of_ble_eq_true rfl) rfl) ?_
    refine Sq.act ok hm Want.none (Op1.store hT rfl rfl rfl rfl ((AM.upd_ne (by omega)).trans c5) (by omega) (Nat.le_of_ble_eq_true rfl) (Nat.le_of_ble_eq_true rfl) rfl) ?_
    (repeat (first
    | refine Sq.finH (n := 7) ok hm (by repeat (first
    | exact Keep.nil
    | apply Keep.keep rfl)) ?_
    | refine Ex.ret ok hm ?_))
    refine ⟨_, .cell rfl (hT 25 _ rfl) ((AM.upd_ne (by omega)).trans AM.upd_same) rfl (Nat.le_of_ble_eq_true rfl) (.cell rfl (hT 26 _ rfl) AM.upd_same rfl (Nat.le_of_ble_eq_true rfl) .nil), rfl, ?_, ?_⟩
    · exact (AM.upd_ne (by omega)).trans ((AM.upd_ne (by omega)).trans h2)
    · exact (hFF.upd' _ (.inr (by omega))).upd' _ (.inr (by omega))
end Go.Proofs.Ytlhfolmhgghjcaa
/- Plain mathematics of rows of bits: a text of bits read again. -/
namespace Bits
set_option linter.unusedVariables false

theorem valB_rep (n : Nat) : valB (List.replicate n false) = 0 := by
  induction n with
  | zero => rfl
  | succ n ih => rw [List.replicate_succ, valB_cons, ih]; simp
theorem ofN_byte (c : List Bool) (h : c.length ≤ 8) : ofN (byteB c) 8 = c ++ List.replicate (8 - c.length) false := by
  have e : byteB c = valB (c ++ List.replicate (8 - c.length) false) := by
    rw [valB_append, valB_rep, List.length_replicate]; simp [byteB]
  have h2 := ofN_valB (c ++ List.replicate (8 - c.length) false)
  rw [List.length_append, List.length_replicate, show c.length + (8 - c.length) = 8 by omega] at h2
  rw [e, h2]
theorem txt_length (L : List Bool) : (txt L).length = (L.length + 7) / 8 := by
  have := congrArg List.length (txt_toNat L)
  rw [List.length_map, packL_length] at this
  exact this
theorem txt_getD (L : List Bool) (i : Nat) (h : i < (L.length + 7) / 8) : ((txt L).getD i 0).toNat = byteB ((L.drop (8 * i)).take 8) := by
  have h1 := packL_getElem? L i h
  rw [← txt_toNat, List.getElem?_map, List.getElem?_eq_getElem (by rw [txt_length]; exact h)] at h1
  rw [List.getD_eq_getElem?_getD, List.getElem?_eq_getElem (by rw [txt_length]; exact h)]
  simpa using h1
theorem bitsOf_txt (L : List Bool) : bitsOf (txt L) = L ++ List.replicate (8 * ((L.length + 7) / 8) - L.length) false := by
  apply List.ext_getElem?
  intro a
  by_cases ha : a < 8 * ((L.length + 7) / 8)
  · have hi : a / 8 < (txt L).length := by rw [txt_length]; omega
    have h1 := bitsOf_take_succ (txt L) (a / 8) hi
    have h2 : (bitsOf (txt L))[a]? = ((bitsOf (txt L)).take (8 * (a / 8 + 1)))[a]? := by rw [List.getElem?_take, if_pos (by omega)]
    have h3 : ((bitsOf (txt L)).take (8 * (a / 8))).length = 8 * (a / 8) := by rw [List.length_take, bitsOf_length]; omega
    have hc : ((L.drop (8 * (a / 8))).take 8).length ≤ 8 := by rw [List.length_take]; omega
    rw [h2, h1, List.getElem?_append_right (by rw [h3]; omega), h3, txt_getD L _ (by rw [txt_length] at hi; exact hi), ofN_byte _ hc]
    by_cases hl : a < L.length
    · rw [List.getElem?_append_left (by rw [List.length_take, List.length_drop]; omega), List.getElem?_append_left hl, List.getElem?_take, if_pos (by omega), List.getElem?_drop]
      congr 1; omega
    · have hlen : ((L.drop (8 * (a / 8))).take 8).length = L.length - 8 * (a / 8) := by rw [List.length_take, List.length_drop]; omega
      rw [List.getElem?_append_right (by rw [hlen]; omega), List.getElem?_append_right (by omega), List.getElem?_replicate, List.getElem?_replicate, if_pos (by rw [hlen]; omega), if_pos (by omega)]
  · rw [List.getElem?_eq_none (by rw [bitsOf_length, txt_length]; omega), List.getElem?_eq_none (by rw [List.length_append, List.length_replicate]; omega)]
theorem midT_txt (L : List Bool) (a n : Nat) (h : a + n ≤ L.length) : midT (txt L) a n = (L.drop a).take n := by
  unfold midT
  rw [bitsOf_txt, List.drop_append_of_le_length (by omega), List.take_append_of_le_length (by rw [List.length_drop]; omega)]
theorem midT_rest (L : List Bool) (n : Nat) (h : L.length + n ≤ 8 * ((L.length + 7) / 8)) : valB (midT (txt L) L.length n) = 0 := by
  unfold midT
  rw [bitsOf_txt, List.drop_append_of_le_length (Nat.le_refl _), List.drop_eq_nil_of_le (Nat.le_refl _), List.nil_append, List.take_replicate]
  exact valB_rep _
end Bits
/- N -/
namespace Go.Proofs.Ytlhfolmhgghjcaa
open Go.Wvm Bits
set_option linter.unusedVariables false
set_option linter.unusedSimpArgs false

theorem sq_facts {ro : Nat} {F : FX} {all os : List Oper} {E : En} {M : AM} {Q : En → AM → Prop} (h : (∀ b a, M.get b = some a → b < M.next) → ro ≤ M.next → Sq Try.prog tables ro F all os E M Q) : Sq Try.prog tables ro F all os E M Q :=
  fun i hi tm w hE hM => h (fun b a k => hM.bound k) (by rw [← hM.next]; exact hM.ron) i hi tm w hE hM
structure CodeV where
  kind : Nat
  K : Nat
def CodeV.cells (x : CodeV) : List Value := [.int .u8 (x.kind : Int), .int .u64 (x.K : Int)]
def rowC (l : List CodeV) : List Value := l.flatMap CodeV.cells
theorem rowC_length (l : List CodeV) : (rowC l).length = 2 * l.length := by
  induction l with
  | nil => rfl
  | cons x l ih => simp only [rowC, List.flatMap_cons, List.length_append, List.length_cons] at ih ⊢; rw [ih]; simp [CodeV.cells]; omega
theorem rowC_get (l : List CodeV) : ∀ (i : Nat) (h : i < l.length), ((rowC l).drop (i * 2)).take 2 = (l[i]'h).cells := by
  induction l with
  | nil => intro i h; simp at h
  | cons x l ih =>
    intro i h
    have e : rowC (x :: l) = .int .u8 (x.kind : Int) :: .int .u64 (x.K : Int) :: rowC l := by simp [rowC, CodeV.cells]
    cases i with
    | zero => rw [e]; rfl
    | succ i =>
      have := ih i (by simpa using h)
      rw [e, show (i + 1) * 2 = i * 2 + 2 by omega]
      simpa using this
theorem awake2_ok {ro : Nat} {M : AM} : FnC Try.prog tables ro 28 [] M (fun v M' => v = .bool true ∧ M' = M) :=
  FnC.closed ok hm (fuel := 100000) (by kernel_rfl)
theorem RdAt.keep {M M' : AM} {r at' : Nat} {s : List UInt8} {S : List Nat} (h : RdAt M r s at') (f : Fr M M' S) (hr : r < M.next) (hn : r ∉ S) : RdAt M' r s at' := (f.get r hr hn).trans h
theorem same_bits {s : List UInt8} {a j : Nat} {L : List Bool} (h : Ats s a L) (hj : j < L.length) : midT (txt L) j 1 = midT s (a + j) 1 := by
  have h1 := midT_txt L j 1 (by omega)
  have h2 := midT_add s a j (L.length - j)
  rw [show j + (L.length - j) = L.length by omega, h.2] at h2
  have h3 : (midT s a j).length = j := midT_length _ _ _ (by have := h.1; omega)
  have h4 : L.drop j = midT s (a + j) (L.length - j) := by
    conv => lhs; rw [h2]
    rw [List.drop_append, h3, Nat.sub_self, List.drop_zero, List.drop_eq_nil_of_le (by omega), List.nil_append]
  rw [h1, h4]
  unfold midT
  rw [List.take_take, show min 1 (L.length - j) = 1 by omega]
theorem readE_cases {s : List UInt8} {kind K a : Nat} (ha : a ≤ 8 * s.length) :
    (∃ e : Int, (e = 1 ∨ e = 4) ∧ readE s kind K a = (0, e, a)) ∨ (∃ v : Nat, checkE kind K = 0 ∧ v ≤ mostE kind K ∧ Ats s a (bitsC kind K v) ∧ readE s kind K a = (v, 0, a + (bitsC kind K v).length)) := by
  unfold readE
  rcases check01 kind K with hc | hc
  · rw [if_neg (by rw [hc]; decide)]
    cases h : readT s kind K a with
    | none => exact .inl ⟨4, .inr rfl, rfl⟩
    | some w =>
      obtain ⟨h1, h2, h3⟩ := readT_fwd hc ha h
      refine .inr ⟨w.1, hc, h1, h3, ?_⟩
      simp only
      rw [← h2]
  · rw [if_pos (by rw [hc]; decide)]
    exact .inl ⟨1, .inl rfl, rfl⟩

/-- The block of code with this number. -/
def blkC (k : Nat) : Code → Option Code
  | .seq a b => match blkC k a with
    | some c => some c
    | none => blkC k b
  | .cond _ a b => match blkC k a with
    | some c => some c
    | none => blkC k b
  | .block i c => if i = k then some (.block i c) else blkC k c
  | .loop c => blkC k c
  | _ => none
def blkD (k : Nat) : Option Code → Code
  | none => .skip
  | some c => match blkC k c with
    | some c => c
    | none => .skip

set_option maxHeartbeats 8000000 in
theorem inner_ok {M15 : AM} {s : List UInt8} {L : List Bool} {at' n p q xb : Nat} {v6 v5 v1 : Value} (hx : 2 ≤ xb) (hA : Ats s at' L) (hm1 : L.length = n) (hs : s.length ≤ 140737488355328) (hle : n ≤ 65536) (hAl : at' + n ≤ 8 * s.length)
    (hs1 : (txt L).length = (n + 7) / 8) (w15 : WrAt M15 p q L) (hpx : p < xb) (hqx : packL L ≠ [] → q < xb) (hnx : xb + 2 ≤ M15.next) (x15 : RdAt M15 xb (txt L) 0) (y15 : RdAt M15 (xb + 1) s at') :
    Ex Try.prog tables 1 ⟨7, 111⟩ (blkD 2 Try.f7.body) [(14, .pointer (some ⟨xb + 1, 0, none⟩)), (13, .pointer (some ⟨xb, 0, none⟩)), (10, .pointer (some ⟨p, 0, none⟩)), (6, v6), (5, v5), (0, .string ⟨⟨s⟩⟩), (1, v1)] M15
      (fun o E' M' => o = .norm ∧ SubE [(6, v6), (5, v5), (0, .string ⟨⟨s⟩⟩), (1, v1)] E' ∧ Fr M15 M' [xb, xb + 1]) := by
  refine Ex.block ok hm ?_
  refine Ex.loop ?_
  refine Lp.inv ok hm (α := Nat)
    (fun j E M' => E = [(14, .pointer (some ⟨xb + 1, 0, none⟩)), (13, .pointer (some ⟨xb, 0, none⟩)), (10, .pointer (some ⟨p, 0, none⟩)), (6, v6), (5, v5), (0, .string ⟨⟨s⟩⟩), (1, v1)] ∧ j ≤ n ∧ RdAt M' xb (txt L) j ∧ RdAt M' (xb + 1) s (at' + j) ∧ Fr M15 M' [xb, xb + 1])
    (fun j => n - j) ?_ 0 [(14, .pointer (some ⟨xb + 1, 0, none⟩)), (13, .pointer (some ⟨xb, 0, none⟩)), (10, .pointer (some ⟨p, 0, none⟩)), (6, v6), (5, v5), (0, .string ⟨⟨s⟩⟩), (1, v1)] ⟨rfl, rfl, rfl, rfl, rfl, rfl, rfl, trivial⟩ ⟨rfl, Nat.zero_le _, x15, y15, Fr.refl _ _⟩
  intro j E M16 ⟨hE, hj, hX, hY, hF16⟩
  subst hE
  have en16 := hF16.next
  have w16 : WrAt M16 p q L := w15.keep hF16 (by omega) (by simp; omega) (fun k => ⟨by have := hqx k; omega, by have := hqx k; simp; omega⟩)
  (repeat (first
    | refine Ex.seq ok hm ?_
    | refine Ex.region ok hm ?_
    | refine Sq.pu ok hm Want.none (by exact Pu.move rfl) rfl ?_))
  refine Sq.call ok Want.none (Op1.call rfl rfl fn22) rfl (FnC.mono (at_ok hX) ?_)
  rintro x M17 ⟨rfl, rfl⟩
  (repeat (refine Sq.pu ok hm Want.none (by exact Pu.move rfl) rfl ?_))
  refine Sq.call ok Want.none (Op1.call rfl rfl fn15) rfl (FnC.mono (len_ok w16) ?_)
  rintro x M18 ⟨rfl, rfl⟩
  rw [hm1]
  by_cases hjn : j < n
  · have hsb := same_bits hA (j := j) (by omega)
    (repeat (first
    | refine Ex.seq ok hm ?_
    | refine Ex.block ok hm ?_
    | refine Ex.skip ok hm ?_
    | refine Ex.region ok hm ?_
    | refine Sq.pu ok hm Want.none (by first
    | exact Pu.move rfl
    | exact Pu.lssI rfl rfl) rfl ?_
    | refine Sq.finH (n := 15) ok hm (by repeat (first
    | exact Keep.nil
    | apply Keep.drop rfl
    | apply Keep.keep rfl)) ?_
    | refine Ex.condT ok hm rfl (by first
    | rfl
    | exact decide_eq_true (by omega)) ?_))
    refine Sq.call ok Want.none (Op1.call rfl rfl fn31) rfl (FnC.mono (bit2 (by omega) hX (by omega) (by omega)) ?_)
    rintro x M19 ⟨hF19, ⟨hb, rfl, hX19⟩ | ⟨hb, rfl, hX19⟩⟩
    · have en19 := hF19.next
      have hY19 := hY.keep hF19 (by omega) (by simp)
      (repeat (first
    | refine Ex.seq ok hm ?_
    | refine Ex.region ok hm ?_
    | refine Sq.pu ok hm Want.none (by first
    | exact Pu.move rfl
    | exact Pu.assign rfl
    | exact Pu.extract rfl rfl) rfl ?_
    | refine Sq.finH (n := 19) ok hm (by repeat (first
    | exact Keep.nil
    | apply Keep.drop rfl
    | apply Keep.keep rfl)) ?_))
      refine Sq.call ok Want.none (Op1.call rfl rfl fn31) rfl (FnC.mono (bit2 (by omega) hY19 (by omega) hs) ?_)
      rintro x M20 ⟨hF20, ⟨hb2, rfl, hY20⟩ | ⟨hb2, rfl, hY20⟩⟩
      · rw [← hsb]
        have hX20 := hX19.keep hF20 (by omega) (by simp)
        generalize decide (valB (midT (txt L) j 1) = 1) = b
        have hF21 : Fr M15 M20 [xb, xb + 1] := (hF16.trans hF19 (by simp)).trans hF20 (by simp)
        clear hF16 hF19 hF20 hX hY hX19 hY19 w15 w16 hsb hA x15 y15 en16 en19 hs1 hAl
        cases b
        all_goals
          (repeat (first
    | refine Ex.seq ok hm ?_
    | refine Ex.skip ok hm ?_
    | refine Ex.region ok hm ?_
    | refine Sq.pu ok hm Want.none (by first
    | exact Pu.move rfl
    | exact Pu.assign rfl
    | exact Pu.extract rfl rfl
    | exact Pu.neqI rfl rfl
    | exact Pu.pickF rfl (by rfl) rfl
    | exact Pu.neqB hT rfl rfl rfl) rfl ?_
    | refine Sq.pu ok hm (by exact Want.yes rfl rfl rfl (by rfl)) (by first
    | exact Pu.move rfl
    | exact Pu.neqI rfl rfl) rfl ?_
    | refine Sq.finH (n := 19) ok hm (by repeat (first
    | exact Keep.nil
    | apply Keep.drop rfl
    | apply Keep.keep rfl)) ?_
    | refine Ex.condF ok hm rfl (by rfl) ?_))
          refine ⟨j + 1, [(14, .pointer (some ⟨xb + 1, 0, none⟩)), (13, .pointer (some ⟨xb, 0, none⟩)), (10, .pointer (some ⟨p, 0, none⟩)), (6, v6), (5, v5), (0, .string ⟨⟨s⟩⟩), (1, v1)], ?_, ⟨rfl, rfl, rfl, rfl, rfl, rfl, rfl, trivial⟩, rfl, by omega, hX20, hY20, hF21⟩
          show n - (j + 1) < n - j
          omega
      · exact absurd hb2 (by omega)
    · exact absurd hb (by omega)
  · (repeat (first
    | refine Sq.pu ok hm Want.none (by exact Pu.lssI rfl rfl) rfl ?_
    | refine Sq.finH (n := 15) ok hm (by repeat (first
    | exact Keep.nil
    | apply Keep.drop rfl
    | apply Keep.keep rfl)) ?_
    | refine Ex.condF ok hm rfl (by first
    | rfl
    | exact decide_eq_false (by omega)) ?_
    | refine Ex.exit ok hm ?_))
    exact ⟨rfl, ⟨rfl, rfl, rfl, rfl, trivial⟩, hF16⟩
end Go.Proofs.Ytlhfolmhgghjcaa
/- N -/
namespace Go.Proofs.Ytlhfolmhgghjcaa
open Go.Wvm Bits
set_option linter.unusedVariables false
set_option linter.unusedSimpArgs false

def LoopO (s : List UInt8) (l : List CodeV) (M : AM) : Prop :=
  ∃ at', at' ≤ 8 * s.length ∧ RdAt M 1 s at' ∧ (l.length ≠ 0 → M.get 0 = some (.row (rowC l) 2 none)) ∧ 2 ≤ M.next
set_option maxHeartbeats 16000000 in
theorem once_ok {M : AM} (s : List UInt8) (l : List CodeV) (nil : Bool) (hnil : nil = true → l.length = 0) (hnx : M.next = 1) (hrow : l.length ≠ 0 → M.get 0 = some (.row (rowC l) 2 none))
    (hwf : ∀ x ∈ l, x.kind < 256 ∧ x.K < 18446744073709551616) (hs : s.length ≤ 140737488355328) :
    FnC Try.prog tables 1 7 [.string ⟨⟨s⟩⟩, inV nil 0 l.length] M (fun v _ => v = .bool true) := by
  refine FnC.body (nt := 111) ok hm fn7 rfl rfl ?_
  (repeat (first
    | refine Ex.seq ok hm ?_
    | refine Ex.region ok hm ?_
    | refine Sq.pu ok hm Want.none (by first
    | exact Pu.move rfl
    | exact Pu.assign rfl) rfl ?_
    | refine Sq.finH (n := 7) ok hm (by repeat (first
    | exact Keep.nil
    | apply Keep.keep rfl)) ?_))
  refine Sq.call ok Want.none (Op1.call rfl rfl fn19) rfl (FnC.mono open_ok ?_)
  rintro v M1 ⟨rfl, e1⟩
  have hn1 : M1.next = 2 := by rw [e1]; simp only [AM.next_add]; omega
  have hRd : RdAt M1 1 s 0 := by rw [e1, ← hnx]; exact AM.add_same
  have hg0 : l.length ≠ 0 → M1.get 0 = some (.row (rowC l) 2 none) := fun k => by rw [e1, AM.add_ne (by omega)]; exact hrow k
  rw [hnx]
  clear e1
  (repeat (first
    | refine Ex.seq ok hm ?_
    | refine Ex.block ok hm ?_
    | refine Ex.region ok hm ?_
    | refine Sq.pu ok hm Want.none (by exact Pu.assign rfl) rfl ?_
    | refine Sq.finH (n := 7) ok hm (by repeat (first
    | exact Keep.nil
    | apply Keep.drop rfl
    | apply Keep.keep rfl)) ?_))
  refine Ex.loop ?_
  refine Lp.inv ok hm (α := Nat)
    (fun i E M' => E = [(6, .int .i64 (i : Int)), (5, .pointer (some ⟨1, 0, none⟩)), (0, .string ⟨⟨s⟩⟩), (1, inV nil 0 l.length)] ∧ i ≤ l.length ∧ i ≤ 60 ∧ LoopO s l M')
    (fun i => 60 - i) ?_ 0 [(6, .int .i64 (0 : Nat)), (5, .pointer (some ⟨1, 0, none⟩)), (0, .string ⟨⟨s⟩⟩), (1, inV nil 0 l.length)] ⟨rfl, rfl, rfl, rfl, trivial⟩ ⟨rfl, Nat.zero_le _, Nat.zero_le _, 0, Nat.zero_le _, hRd, hg0, by omega⟩
  intro i E M4 ⟨hE, hi, hi2, hL⟩
  subst hE
  by_cases hex : i < l.length ∧ i < 60
  · obtain ⟨hil, hi60⟩ := hex
    obtain ⟨hw1, hw2⟩ := hwf (l[i]'hil) (List.getElem_mem hil)
    have hag : (Value.agg ⟨((rowC l).drop (0 + ((i : Nat) : Int).toNat * 2)).take 2⟩) = .agg ⟨[.int .u8 ((l[i]'hil).kind : Int), .int .u64 ((l[i]'hil).K : Int)]⟩ := by rw [Int.toNat_natCast, Nat.zero_add, rowC_get l i hil]; rfl
    have hlb : 0 + ((i : Nat) : Int).toNat * 2 + 2 ≤ (rowC l).length := by rw [rowC_length, Int.toNat_natCast]; omega
    obtain ⟨at', hat, h1, hg, hnx4⟩ := hL
    have hg' := hg (by omega)
    (repeat (first
    | refine Ex.seq ok hm ?_
    | refine Ex.block ok hm ?_
    | refine Ex.skip ok hm ?_
    | refine Ex.region ok hm ?_
    | refine Sq.pu ok hm Want.none (by first
    | exact Pu.move rfl
    | exact Pu.lssI rfl rfl
    | exact Pu.lenIn hT (by assumption) rfl rfl
    | exact Pu.pickT rfl (by first
    | rfl
    | exact decide_eq_true (by omega)) rfl) rfl ?_
    | refine Sq.pu ok hm (by first
    | exact Want.none
    | exact Want.yes rfl rfl rfl (by first
    | rfl
    | exact decide_eq_true (by omega))) (by first
    | exact Pu.move rfl
    | exact Pu.lssI rfl rfl) rfl ?_
    | refine Sq.finH (n := 7) ok hm (by repeat (first
    | exact Keep.nil
    | apply Keep.drop rfl
    | apply Keep.keep rfl)) ?_
    | refine Ex.condT ok hm rfl (by first
    | rfl
    | exact decide_eq_true (by omega)) ?_))
    rw [inV_pos 0 l.length hnil (by omega)]
    (repeat (fail))
    generalize (l[i]'hil).kind = kind at hw1 hag
    generalize (l[i]'hil).K = K at hw2 hag
    refine Sq.call ok Want.none (Op1.call rfl rfl fn22) rfl (FnC.mono (at_ok h1) ?_)
    rintro x M5 ⟨rfl, rfl⟩
    (repeat (first
    | refine Ex.seq ok hm ?_
    | refine Ex.region ok hm ?_
    | refine Sq.pu ok hm Want.none (by first
    | exact Pu.move rfl
    | exact Pu.assign rfl
    | exact Pu.indexAddr hT rfl rfl rfl rfl (by omega) (by omega)) rfl ?_
    | refine Sq.finH (n := 8) ok hm (by repeat (first
    | exact Keep.nil
    | apply Keep.drop rfl
    | apply Keep.keep rfl)) ?_))
    refine Sq.pu ok hm Want.none (Pu.loadA hT rfl rfl rfl hg' hlb) rfl ?_
    change Sq Try.prog tables 1 _ _ _ ((38, .agg ⟨((rowC l).drop (0 + ((i : Nat) : Int).toNat * 2)).take 2⟩) :: _) _ _
    rw [hag]
    refine Sq.call ok Want.none (Op1.call rfl rfl fn26) rfl (FnC.mono own_ok ?_)
    rintro x M5 ⟨rfl, f0⟩
    have en0 := f0.next
    have j1 : RdAt M5 1 s at' := h1.keep f0 (by omega) (by simp)
    refine Sq.call ok Want.none (Op1.call rfl rfl fn25) rfl (FnC.mono (Read_ok (kind := kind) (K := K) (by omega) j1 hat hs hw1 hw2) ?_)
    rintro x M6 ⟨rfl, g1, f1⟩
    have en1 := f1.next
    have g0 : M6.get 0 = some (.row (rowC l) 2 none) := (f1.get 0 (by omega) (by simp)).trans ((f0.get 0 (by omega) (by simp)).trans hg')
    rcases readE_cases (kind := kind) (K := K) hat with ⟨e, he, hre⟩ | ⟨v, hc, hvm, hA, hre⟩
    · rw [hre] at g1 ⊢
      have he0 : e ≠ 0 := by omega
      have he1 : (Value.int .i64 e) = .int .i64 e := rfl
      rcases he with rfl | rfl
      all_goals
        (repeat (first
    | refine Ex.seq ok hm ?_
    | refine Ex.region ok hm ?_
    | refine Sq.pu ok hm Want.none (by first
    | exact Pu.move rfl
    | exact Pu.assign rfl
    | exact Pu.extract rfl rfl
    | exact Pu.neqI rfl rfl) rfl ?_
    | refine Sq.finH (n := 10) ok hm (by repeat (first
    | exact Keep.nil
    | apply Keep.drop rfl
    | apply Keep.keep rfl)) ?_
    | refine Ex.condT ok hm rfl (by rfl) ?_))
        refine Sq.call ok Want.none (Op1.call rfl rfl fn22) rfl (FnC.mono (at_ok g1) ?_)
        rintro x M7 ⟨rfl, rfl⟩
        (repeat (first
    | refine Ex.skip ok hm ?_
    | refine Ex.region ok hm ?_
    | refine Sq.pu ok hm Want.none (by first
    | exact Pu.move rfl
    | exact Pu.assign rfl
    | exact Pu.addN rfl rfl (by simp only [InR]; omega)
    | exact Pu.neqI rfl rfl
    | exact Pu.pickF rfl (by first
    | rfl
    | (simp; done)) rfl) rfl ?_
    | refine Sq.pu ok hm (by exact Want.yes rfl rfl rfl (by first
    | rfl
    | (simp; done))) (by first
    | exact Pu.move rfl
    | exact Pu.neqI rfl rfl) rfl ?_
    | refine Sq.finH (n := 10) ok hm (by repeat (first
    | exact Keep.nil
    | apply Keep.drop rfl
    | apply Keep.keep rfl)) ?_
    | refine Ex.condF ok hm rfl (by rfl) ?_
    | refine Ex.exit ok hm ?_))
        refine ⟨i + 1, [(6, .int .i64 ((i + 1 : Nat) : Int)), (5, .pointer (some ⟨1, 0, none⟩)), (0, .string ⟨⟨s⟩⟩), (1, inV nil 0 l.length)], ?_, ⟨rfl, rfl, rfl, ?_, trivial⟩, ?_, by omega, by omega, at', hat, g1, fun _ => g0, by omega⟩
        · show 60 - (i + 1) < 60 - i
          omega
        · rw [inV_pos 0 l.length hnil (by omega)]; rfl
        · rw [inV_pos 0 l.length hnil (by omega)]
    · rw [hre] at g1 ⊢
      have hle := bitsC_le hc hvm
      have hv : v < 18446744073709551616 := by
        have : mostE kind K ≤ 281474976710655 := by
          obtain ⟨c1, c2, c3⟩ := check0 hc
          unfold mostE
          split
          · omega
          · split
            · rename_i h4; have := c3 h4; omega
            · omega
        omega
      have hly := lenE_yes hc hvm
      generalize hLd : bitsC kind K v = L at hA g1 hle hly ⊢
      have hAl := hA.1
      have hs1 := txt_length L
      (repeat (first
    | refine Ex.seq ok hm ?_
    | refine Ex.skip ok hm ?_
    | refine Ex.region ok hm ?_
    | refine Sq.pu ok hm Want.none (by first
    | exact Pu.move rfl
    | exact Pu.assign rfl
    | exact Pu.extract rfl rfl
    | exact Pu.neqI rfl rfl) rfl ?_
    | refine Sq.finH (n := 10) ok hm (by repeat (first
    | exact Keep.nil
    | apply Keep.drop rfl
    | apply Keep.keep rfl)) ?_
    | refine Ex.condF ok hm rfl (by rfl) ?_))
      refine Sq.call ok Want.none (Op1.call rfl rfl fn14) rfl (FnC.mono new_ok ?_)
      rintro x M7 ⟨rfl, e7⟩
      obtain ⟨p, hp⟩ : ∃ p, M6.next = p := ⟨_, rfl⟩
      have hW7 : WrAt M7 p (p + 1) [] := by rw [e7, ← hp]; exact wr_new _ (by omega)
      have hF7 : Fr M6 M7 [] := by rw [e7]; exact Fr.add _ _ _
      have hn7 : M7.next = p + 1 := by rw [e7]; simp only [AM.next_add]; omega
      clear e7
      rw [hp]
      have i1 := g1.keep hF7 (by omega) (by simp)
      have i0 := (hF7.get 0 (by omega) (by simp)).trans g0
      (repeat (first
    | refine Ex.seq ok hm ?_
    | refine Ex.region ok hm ?_
    | refine Sq.pu ok hm Want.none (by first
    | exact Pu.move rfl
    | exact Pu.assign rfl
    | exact Pu.indexAddr hT rfl rfl rfl rfl (by omega) (by omega)) rfl ?_
    | refine Sq.finH (n := 11) ok hm (by repeat (first
    | exact Keep.nil
    | apply Keep.drop rfl
    | apply Keep.keep rfl)) ?_))
      refine Sq.pu ok hm Want.none (Pu.loadA hT rfl rfl rfl i0 hlb) rfl ?_
      change Sq Try.prog tables 1 _ _ _ ((58, .agg ⟨((rowC l).drop (0 + ((i : Nat) : Int).toNat * 2)).take 2⟩) :: _) _ _
      rw [hag]
      refine Sq.call ok Want.none (Op1.call rfl rfl fn26) rfl (FnC.mono own_ok ?_)
      rintro x M8 ⟨rfl, f8⟩
      have en8 := f8.next
      have hW8 : WrAt M8 p (p + 1) [] := hW7.keep f8 (by omega) (by simp) (fun k => absurd rfl k)
      (repeat (refine Sq.pu ok hm Want.none (by exact Pu.move rfl) rfl ?_))
      refine Sq.call ok Want.none (Op1.call rfl rfl fn29) rfl (FnC.mono (cPut_ok (p := p) (q := p + 1) (l := []) (kind := kind) (K := K) (v := v) (by omega) (by omega) hW8 hw1 hw2 hv (by simp)) ?_)
      rintro x M9 ⟨rfl, q, hW9, f9, hq9, hro9⟩
      rw [hly, if_pos rfl, List.nil_append, hLd] at hW9
      rw [hly]
      have en9 := f9.next
      have hqp : p < q := by omega
      have k1 : RdAt M9 1 s (at' + L.length) := (i1.keep f8 (by omega) (by simp)).keep f9 (by omega) (by simp; omega)
      have k0 := (f9.get 0 (by omega) (by simp; omega)).trans ((f8.get 0 (by omega) (by simp)).trans i0)
      refine sq_facts fun hlt9 hron9 => ?_
      have hq9' : packL L ≠ [] → q < M9.next := fun k => hlt9 _ _ (hW9.buf k)
      (repeat (first
    | refine Sq.pu ok hm Want.none (by first
    | exact Pu.move rfl
    | exact Pu.neqI rfl rfl) rfl ?_
    | refine Sq.pu ok hm (by exact Want.yes rfl rfl rfl (by rfl)) (by exact Pu.move rfl) rfl ?_))
      refine Sq.call ok (by exact Want.yes rfl rfl rfl (by rfl)) (Op1.call rfl rfl fn15) rfl (FnC.mono (len_ok hW9) ?_)
      rintro x M10 ⟨rfl, rfl⟩
      (repeat (refine Sq.pu ok hm (by exact Want.yes rfl rfl rfl (by rfl)) (by exact Pu.move rfl) rfl ?_))
      refine Sq.call ok (by exact Want.yes rfl rfl rfl (by rfl)) (Op1.call rfl rfl fn22) rfl (FnC.mono (at_ok k1) ?_)
      rintro x M11 ⟨rfl, rfl⟩
      (repeat (refine Sq.pu ok hm (by exact Want.yes rfl rfl rfl (by rfl)) (by exact Pu.move rfl) rfl ?_))
      refine Sq.pu ok hm (by exact Want.yes rfl rfl rfl (by rfl)) (Pu.subN (a := at' + L.length) (b := at') rfl rfl (by omega) (by simp only [InR]; omega)) rfl ?_
      rw [Nat.add_sub_cancel_left]
      generalize hm1 : L.length = n at hle hAl hs1 k1 ⊢
      (repeat (first
    | refine Ex.seq ok hm ?_
    | refine Ex.skip ok hm ?_
    | refine Ex.region ok hm ?_
    | refine Sq.pu ok hm Want.none (by first
    | exact Pu.move rfl
    | exact Pu.neqI rfl rfl
    | exact Pu.pickF rfl (by rfl) rfl) rfl ?_
    | refine Sq.pu ok hm (by first
    | exact Want.none
    | exact Want.yes rfl rfl rfl (by rfl)) (by exact Pu.neqI rfl rfl) rfl ?_
    | refine Sq.finH (n := 11) ok hm (by repeat (first
    | exact Keep.nil
    | apply Keep.drop rfl
    | apply Keep.keep rfl)) ?_
    | refine Ex.condF ok hm rfl (by first
    | rfl
    | (simp; done)) ?_))
      refine Sq.call ok Want.none (Op1.call rfl rfl fn18) rfl (FnC.mono (text_ok hW9) ?_)
      rintro x M12 ⟨rfl, rfl⟩
      (repeat (first
    | refine Ex.seq ok hm ?_
    | refine Ex.region ok hm ?_
    | refine Sq.pu ok hm Want.none (by first
    | exact Pu.move rfl
    | exact Pu.assign rfl
    | exact Pu.extract rfl rfl) rfl ?_
    | refine Sq.finH (n := 12) ok hm (by repeat (first
    | exact Keep.nil
    | apply Keep.drop rfl
    | apply Keep.keep rfl)) ?_))
      refine Sq.call ok Want.none (Op1.call rfl rfl fn19) rfl (FnC.mono open_ok ?_)
      rintro x M13 ⟨rfl, e13⟩
      obtain ⟨xb, hxb⟩ : ∃ xb, M12.next = xb := ⟨_, rfl⟩
      have hX13 : RdAt M13 xb (txt L) 0 := by rw [e13, ← hxb]; exact AM.add_same
      have hF13 : Fr M12 M13 [] := by rw [e13]; exact Fr.add _ _ _
      have hn13 : M13.next = xb + 1 := by rw [e13]; simp only [AM.next_add]; omega
      clear e13
      rw [hxb]
      (repeat (first
    | refine Ex.seq ok hm ?_
    | refine Ex.region ok hm ?_
    | refine Sq.pu ok hm Want.none (by first
    | exact Pu.move rfl
    | exact Pu.assign rfl) rfl ?_
    | refine Sq.finH (n := 14) ok hm (by repeat (first
    | exact Keep.nil
    | apply Keep.drop rfl
    | apply Keep.keep rfl)) ?_))
      refine Sq.call ok Want.none (Op1.call rfl rfl fn19) rfl (FnC.mono open_ok ?_)
      rintro x M14 ⟨rfl, e14⟩
      have hY14 : RdAt M14 (xb + 1) s 0 := by rw [e14, ← hn13]; exact AM.add_same
      have hF14 : Fr M13 M14 [] := by rw [e14]; exact Fr.add _ _ _
      have hn14 : M14.next = xb + 2 := by rw [e14]; simp only [AM.next_add]; omega
      clear e14
      rw [hn13]
      (repeat (first
    | refine Ex.seq ok hm ?_
    | refine Ex.region ok hm ?_
    | refine Sq.pu ok hm Want.none (by first
    | exact Pu.move rfl
    | exact Pu.assign rfl) rfl ?_
    | refine Sq.finH (n := 15) ok hm (by repeat (first
    | exact Keep.nil
    | apply Keep.drop rfl
    | apply Keep.keep rfl)) ?_))
      refine Sq.call ok Want.none (Op1.call rfl rfl fn20) rfl (FnC.mono (seek_ok (n := (at' : Int)) (by omega) hY14 (by simp only [InR]; omega) (by omega)) ?_)
      rintro x M15 ⟨rfl, hY15, hF15⟩
      rw [if_pos (by omega), Int.toNat_natCast] at hY15
      rw [if_pos (by omega)]
      have en15 := hF15.next
      have w15 : WrAt M15 p q L := ((hW9.keep hF13 (by omega) (by simp) (fun k => ⟨hq9' k, by simp⟩)).keep hF14 (by omega) (by simp) (fun k => ⟨by have := hq9' k; omega, by simp⟩)).keep hF15 (by omega) (by simp; omega) (fun k => ⟨by have := hq9' k; omega, by have := hq9' k; simp; omega⟩)
      have x15 : RdAt M15 xb (txt L) 0 := (hX13.keep hF14 (by omega) (by simp)).keep hF15 (by omega) (by simp)
      have r15 : RdAt M15 1 s (at' + n) := ((k1.keep hF13 (by omega) (by simp)).keep hF14 (by omega) (by simp)).keep hF15 (by omega) (by simp; omega)
      have g15 := (hF15.get 0 (by omega) (by simp)).trans ((hF14.get 0 (by omega) (by simp)).trans ((hF13.get 0 (by omega) (by simp)).trans k0))
      refine Sq.finH (n := 15) ok hm (by repeat (first
    | exact Keep.nil
    | apply Keep.drop rfl
    | apply Keep.keep rfl)) ?_
      show Ex Try.prog tables 1 ⟨7, 111⟩ _ _ _ _
      refine Ex.mono (Ex.weaken (inner_ok (p := p) (q := q) (xb := xb) (at' := at') (n := n) (L := L) (s := s) (by omega) hA hm1 hs hle hAl hs1 w15 (by omega) (fun k => by have := hq9' k; omega) (by omega) x15 hY15) ⟨rfl, rfl, rfl, rfl, rfl, rfl, rfl, trivial⟩ (AM.Le.refl _)) ?_
      rintro o E' M16 ⟨rfl, hE', hF16⟩
      have en16 := hF16.next
      show Ex Try.prog tables 1 ⟨7, 111⟩ _ _ _ _
      refine Ex.weaken ?_ hE' (AM.Le.refl _)
      (repeat (first
    | refine Ex.region ok hm ?_
    | refine Sq.pu ok hm Want.none (by first
    | exact Pu.move rfl
    | exact Pu.assign rfl
    | exact Pu.addN rfl rfl (by simp only [InR]; omega)) rfl ?_
    | refine Sq.finH (n := 7) ok hm (by repeat (first
    | exact Keep.nil
    | apply Keep.drop rfl
    | apply Keep.keep rfl)) ?_))
      refine ⟨i + 1, [(6, .int .i64 ((i + 1 : Nat) : Int)), (5, .pointer (some ⟨1, 0, none⟩)), (0, .string ⟨⟨s⟩⟩), (1, inV nil 0 l.length)], ?_, ⟨rfl, rfl, rfl, ?_, trivial⟩, ?_, by omega, by omega, at' + n, by omega, r15.keep hF16 (by omega) (by simp; omega), fun _ => (hF16.get 0 (by omega) (by simp; omega)).trans g15, by omega⟩
      · show 60 - (i + 1) < 60 - i
        omega
      · rw [inV_pos 0 l.length hnil (by omega)]; rfl
      · rw [inV_pos 0 l.length hnil (by omega)]
  · by_cases hil : i < l.length
    all_goals
      (repeat (first
    | refine Ex.seq ok hm ?_
    | refine Ex.region ok hm ?_
    | refine Sq.pu ok hm Want.none (by first
    | exact Pu.move rfl
    | exact Pu.lssI rfl rfl
    | exact Pu.lenIn hT (by assumption) rfl rfl
    | exact Pu.pickT rfl (by first
    | rfl
    | exact decide_eq_true (by omega)) rfl
    | exact Pu.pickF rfl (by first
    | rfl
    | exact decide_eq_false (by omega)) rfl) rfl ?_
    | refine Sq.pu ok hm (by first
    | exact Want.none
    | exact Want.yes rfl rfl rfl (by first
    | rfl
    | exact decide_eq_true (by omega))) (by first
    | exact Pu.move rfl
    | exact Pu.lssI rfl rfl) rfl ?_
    | refine Sq.skip ok hm (by exact Want.no rfl rfl rfl (by first
    | rfl
    | exact decide_eq_false (by omega))) rfl ?_
    | refine Sq.finH (n := 7) ok hm (by repeat (first
    | exact Keep.nil
    | apply Keep.drop rfl
    | apply Keep.keep rfl)) ?_
    | refine Ex.condF ok hm rfl (by first
    | rfl
    | exact decide_eq_false (by omega)) ?_
    | refine Ex.exit ok hm ?_))
      refine Sq.call ok Want.none (Op1.call rfl rfl fn28) rfl (FnC.mono awake2_ok ?_)
      rintro x M6 ⟨rfl, rfl⟩
      (repeat (first
    | refine Sq.pu ok hm Want.none (by exact Pu.assign rfl) rfl ?_
    | refine Sq.finH (n := 7) ok hm (by repeat (first
    | exact Keep.nil
    | apply Keep.drop rfl
    | apply Keep.keep rfl)) ?_
    | refine Ex.ret ok hm ?_))
      exact ⟨_, .tmp rfl .nil, rfl⟩
end Go.Proofs.Ytlhfolmhgghjcaa
