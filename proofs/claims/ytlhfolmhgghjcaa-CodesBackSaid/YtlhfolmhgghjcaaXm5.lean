/- Towards the laws of this seat: contracts of the program's functions in a logic over a small machine (texts XBc XBd). No condition. -/
import Derived.Test.YtlhfolmhgghjcaaXm4
/- N -/
namespace Go.Proofs.Ytlhfolmhgghjcaa
open Go.Wvm Bits
set_option linter.unusedVariables false
set_option linter.unusedSimpArgs false

theorem rowN_get2 (l : List NumV) (i : Nat) (h : i < l.length) : ((rowN l).drop (i * 3)).take 2 = [.int .u8 ((l[i]'h).kind : Int), .int .u64 ((l[i]'h).K : Int)] := by
  have h1 := congrArg (List.take 2) (rowN_get l i h)
  rw [List.take_take] at h1
  exact h1
theorem rowN_getV (l : List NumV) (i : Nat) (h : i < l.length) : (rowN l)[i * 3 + 2]? = some (.int .u64 ((l[i]'h).v : Int)) := by
  have := congrArg (fun y => y[2]?) (rowN_get l i h)
  rw [List.getElem?_take, if_pos (by omega), List.getElem?_drop] at this
  exact this
theorem readE_good {x : NumV} {s : List UInt8} {a : Nat} (hg : x.good = true) (h : Ats s a x.bits) : readE s x.kind x.K a = (x.v, 0, a + x.bits.length) := by
  have h2 := of_decide_eq_true hg
  unfold readE
  rw [if_neg (by rw [h2.1]; decide), readT_bwd h2.1 h2.2 h]
  rfl

def Inv2 (m : List NumV) (r g c j : Nat) (M : AM) : Prop :=
  ∃ q, RdAt M r (txt (bitsK m)) (bitsK (m.take j)).length ∧ WrAt M g q (bitsK (m.take j)) ∧ M.get c = some (.row (rowN m) 3 (some (65, 0))) ∧ r < M.next ∧ g < M.next ∧ c < M.next ∧ 2 ≤ q ∧
    (packL (bitsK (m.take j)) ≠ [] → q < M.next ∧ q ≠ r ∧ q ≠ c)

set_option maxRecDepth 20000 in
set_option maxHeartbeats 16000000 in
theorem round2_ok {M : AM} {v16 v17 : Value} (m : List NumV) (j r g c : Nat) (hj : j < m.length) (hgood : ∀ x ∈ m, x.good = true) (hwf : ∀ x ∈ m, x.kind < 256 ∧ x.K < 18446744073709551616 ∧ x.v < 18446744073709551616) (hm60 : m.length ≤ 60)
    (hr : 2 ≤ r) (hg : 2 ≤ g) (hc : 2 ≤ c) (hrg : r ≠ g) (hrc : r ≠ c) (hgc : g ≠ c) (hL : Inv2 m r g c j M) :
    Ex Try.prog tables 1 ⟨6, 188⟩ (blkD 3 Try.f6.body) [(20, .int .i64 (j : Int)), (19, .pointer (some ⟨g, 0, none⟩)), (18, .pointer (some ⟨r, 0, none⟩)), (17, v17), (16, v16), (4, .slice (some ⟨c, 0, none⟩) m.length m.length)] M
      (fun o E' M' => o = .norm ∧ SubE [(20, .int .i64 (j : Int)), (19, .pointer (some ⟨g, 0, none⟩)), (18, .pointer (some ⟨r, 0, none⟩)), (17, v17), (16, v16), (4, .slice (some ⟨c, 0, none⟩) m.length m.length)] E' ∧ Inv2 m r g c (j + 1) M') := by
  obtain ⟨q, hR, hW, hrow, hrn, hgn, hcn, hq2, hqn⟩ := hL
  have hB := bitsK_le m hgood
  have hs1 := txt_length (bitsK m)
  have hat := bitsK_at m j hj
  have hsu := bitsK_take_succ m j hj
  have hgd := hgood (m[j]'hj) (List.getElem_mem hj)
  obtain ⟨hw1, hw2, hw3⟩ := hwf (m[j]'hj) (List.getElem_mem hj)
  have hre := readE_good hgd hat
  have hag : (Value.agg ⟨((rowN m).drop (0 + ((j : Nat) : Int).toNat * 3 + 0)).take 2⟩) = .agg ⟨[.int .u8 ((m[j]'hj).kind : Int), .int .u64 ((m[j]'hj).K : Int)]⟩ := by rw [Int.toNat_natCast, Nat.zero_add, Nat.add_zero, rowN_get2 m j hj]
  have hlb : 0 + ((j : Nat) : Int).toNat * 3 + 0 + 2 ≤ (rowN m).length := by rw [rowN_length, Int.toNat_natCast]; omega
  have hkv : (rowN m)[0 + ((j : Nat) : Int).toNat * 3 + 2]? = some (.int .u64 ((m[j]'hj).v : Int)) := by
    have := rowN_getV m j hj
    rw [Int.toNat_natCast, Nat.zero_add]; exact this
  have hgd2 := of_decide_eq_true hgd
  have hle := bitsC_le hgd2.1 hgd2.2
  have hly := lenE_yes hgd2.1 hgd2.2
  have hab : (bitsK (m.take j)).length + (m[j]'hj).bits.length ≤ 8 * (txt (bitsK m)).length := hat.1
  have hbc : (m[j]'hj).bits = bitsC (m[j]'hj).kind (m[j]'hj).K (m[j]'hj).v := rfl
  unfold Inv2
  rw [hsu]
  rw [hbc] at hre hab ⊢
  clear hat hsu hgd hgd2 hbc
  generalize (m[j]'hj).kind = kind at hw1 hag hre hle hly hab ⊢
  generalize (m[j]'hj).K = K at hw2 hag hre hle hly hab ⊢
  generalize (m[j]'hj).v = v at hw3 hkv hre hle hly hab ⊢
  generalize bitsK (m.take j) = B at hR hW hqn hre hab ⊢
  generalize hS : txt (bitsK m) = S at hR hre hab hs1 ⊢
  have hSl : S.length ≤ 140737488355328 := by omega
  refine Ex.block ok hm ?_
  (repeat (first
    | refine Ex.seq ok hm ?_
    | refine Ex.region ok hm ?_
    | refine Sq.pu ok hm Want.none (by first
    | exact Pu.move rfl
    | exact Pu.fieldAddr hT rfl rfl rfl rfl rfl
    | exact Pu.indexAddr hT rfl rfl rfl rfl (by omega) (by omega)) rfl ?_))
  refine Sq.pu ok hm Want.none (Pu.loadA hT rfl rfl rfl hrow hlb) rfl ?_
  change Sq Try.prog tables 1 _ _ _ ((134, .agg ⟨((rowN m).drop (0 + ((j : Nat) : Int).toNat * 3 + 0)).take 2⟩) :: _) _ _
  rw [hag]
  refine Sq.call ok Want.none (Op1.call rfl rfl fn26) rfl (FnC.mono (own_ok (kind := kind) (K := K)) ?_)
  rintro x M1 ⟨rfl, hF1⟩
  have hn1 := hF1.next
  have hR1 := hR.keep hF1 hrn (by simp)
  refine Sq.call ok Want.none (Op1.call rfl rfl fn25) rfl (FnC.mono (Read_ok (kind := kind) (K := K) (by omega) hR1 (by omega) hSl hw1 hw2) ?_)
  rintro x M2 ⟨rfl, hR2, hF2⟩
  have hn2 := hF2.next
  rw [hre] at hR2 ⊢
  have hrow2 := (hF2.get c (by omega) (by simp; omega)).trans ((hF1.get c (by omega) (by simp)).trans hrow)
  have hW2 : WrAt M2 g q B := (hW.keep hF1 hgn (by simp) (fun k => ⟨(hqn k).1, by simp⟩)).keep hF2 (by omega) (by simp; omega) (fun k => ⟨by have := hqn k; omega, by have := hqn k; simp; omega⟩)
  clear hR hR1 hrow hW hre
  (repeat (first
    | refine Ex.seq ok hm ?_
    | refine Ex.region ok hm ?_
    | refine Sq.pu ok hm Want.none (by first
    | exact Pu.move rfl
    | exact Pu.assign rfl
    | exact Pu.fieldAddr hT rfl rfl rfl rfl rfl
    | exact Pu.extract rfl rfl
    | exact Pu.indexAddr hT rfl rfl rfl rfl (by omega) (by omega)) rfl ?_
    | refine Sq.finH (n := 23) ok hm (by repeat (first
    | exact Keep.nil
    | apply Keep.drop rfl
    | apply Keep.keep rfl)) ?_))
  refine Sq.pu ok hm Want.none (Pu.load hT rfl rfl rfl hrow2 hkv) rfl ?_
  (repeat (first
    | refine Sq.pu ok hm Want.none (by first
    | exact Pu.move rfl
    | exact Pu.fieldAddr hT rfl rfl rfl rfl rfl
    | exact Pu.neqI rfl rfl
    | exact Pu.pickF rfl (by first
    | rfl
    | (simp; done)) rfl
    | exact Pu.indexAddr hT rfl rfl rfl rfl (by omega) (by omega)) rfl ?_
    | refine Sq.pu ok hm (by exact Want.yes rfl rfl rfl (by first
    | rfl
    | (simp; done))) (by first
    | exact Pu.move rfl
    | exact Pu.fieldAddr hT rfl rfl rfl rfl rfl
    | exact Pu.neqI rfl rfl
    | exact Pu.indexAddr hT rfl rfl rfl rfl (by omega) (by omega)) rfl ?_))
  refine Sq.pu ok hm (by exact Want.yes rfl rfl rfl (by rfl)) (Pu.loadA hT rfl rfl rfl hrow2 hlb) rfl ?_
  change Sq Try.prog tables 1 _ _ _ ((156, .agg ⟨((rowN m).drop (0 + ((j : Nat) : Int).toNat * 3 + 0)).take 2⟩) :: _) _ _
  rw [hag]
  refine Sq.call ok (by exact Want.yes rfl rfl rfl (by rfl)) (Op1.call rfl rfl fn26) rfl (FnC.mono (own_ok (kind := kind) (K := K)) ?_)
  rintro x M3 ⟨rfl, hF3⟩
  have hn3 := hF3.next
  have hW3 : WrAt M3 g q B := hW2.keep hF3 (by omega) (by simp) (fun k => ⟨by have := hqn k; omega, by simp⟩)
  obtain ⟨q0, hW3, hq02, hq0⟩ : ∃ q0, WrAt M3 g q0 B ∧ 2 ≤ q0 ∧ ∀ b, b < M3.next → (packL B ≠ [] → b ≠ q) → b ≠ q0 := by
    by_cases hz : packL B = []
    · exact ⟨M3.next, ⟨by have := hW3.row; rw [hz] at this ⊢; exact this, fun k => absurd hz k, by omega⟩, by omega, fun b hb _ => by omega⟩
    · exact ⟨q, hW3, hq2, fun b hb k => k hz⟩
  (repeat (refine Sq.pu ok hm (by exact Want.yes rfl rfl rfl (by rfl)) (by exact Pu.move rfl) rfl ?_))
  refine Sq.call ok (by exact Want.yes rfl rfl rfl (by rfl)) (Op1.call rfl rfl fn29) rfl (FnC.mono (cPut_ok (p := g) (q := q0) (l := B) (kind := kind) (K := K) (v := v) (by omega) (by omega) hW3 hw1 hw2 hw3 (by omega)) ?_)
  rintro x M4 ⟨rfl, q4, hW4, hF4, hq4, hro4⟩
  have hn4 := hF4.next
  rw [hly, if_pos rfl] at hW4
  rw [hly]
  have hrq := hq0 r (by omega) (fun k => by have := hqn k; omega)
  have hcq := hq0 c (by omega) (fun k => by have := hqn k; omega)
  have hR4 := (hR2.keep hF3 (by omega) (by simp)).keep hF4 (by omega) (by simp; omega)
  have hrow4 := (hF4.get c (by omega) (by simp; omega)).trans ((hF3.get c (by omega) (by simp)).trans hrow2)
  refine sq_facts fun hlt4 hron4 => ?_
  have hlen : (B ++ bitsC kind K v).length = B.length + (bitsC kind K v).length := List.length_append
  rw [hlen] at ⊢
  clear hR2 hrow2 hW2 hF1 hF2 hF3 hF4 hW3 hag hkv hlb hq0
  (repeat (first
    | refine Sq.pu ok hm Want.none (by first
    | exact Pu.move rfl
    | exact Pu.neqI rfl rfl
    | exact Pu.pickF rfl (by rfl) rfl) rfl ?_
    | refine Sq.pu ok hm (by exact Want.yes rfl rfl rfl (by rfl)) (by first
    | exact Pu.move rfl
    | exact Pu.neqI rfl rfl) rfl ?_))
  refine Sq.call ok (by exact Want.yes rfl rfl rfl (by rfl)) (Op1.call rfl rfl fn15) rfl (FnC.mono (len_ok hW4) ?_)
  rintro x M5 ⟨rfl, rfl⟩
  rw [hlen]
  (repeat (refine Sq.pu ok hm (by exact Want.yes rfl rfl rfl (by rfl)) (by exact Pu.move rfl) rfl ?_))
  refine Sq.call ok (by exact Want.yes rfl rfl rfl (by rfl)) (Op1.call rfl rfl fn22) rfl (FnC.mono (at_ok hR4) ?_)
  rintro x M6 ⟨rfl, rfl⟩
  (repeat (first
    | refine Ex.skip ok hm ?_
    | refine Sq.pu ok hm Want.none (by first
    | exact Pu.neqI rfl rfl
    | exact Pu.pickF rfl (by rfl) rfl) rfl ?_
    | refine Sq.pu ok hm (by exact Want.yes rfl rfl rfl (by rfl)) (by exact Pu.neqI rfl rfl) rfl ?_
    | refine Sq.finH (n := 23) ok hm (by repeat (first
    | exact Keep.nil
    | apply Keep.drop rfl
    | apply Keep.keep rfl)) ?_
    | refine Ex.condF ok hm rfl (by first
    | rfl
    | (simp; done)) ?_))
  exact ⟨rfl, ⟨rfl, rfl, rfl, rfl, rfl, rfl, trivial⟩, q4, hR4, hW4, hrow4, by omega, by omega, by omega, by omega, fun k => ⟨hlt4 _ _ (hW4.buf k), by omega, by omega⟩⟩
end Go.Proofs.Ytlhfolmhgghjcaa
/- N -/
namespace Go.Proofs.Ytlhfolmhgghjcaa
open Go.Wvm Bits
set_option linter.unusedVariables false
set_option linter.unusedSimpArgs false

set_option maxRecDepth 20000 in
set_option maxHeartbeats 16000000 in
theorem back2_ok {M : AM} (l : List NumV) (nil : Bool) (hnil : nil = true → l.length = 0) (hnx : M.next = 1) (hrow : l.length ≠ 0 → M.get 0 = some (.row (rowN l) 3 none))
    (hwf : ∀ x ∈ l, x.kind < 256 ∧ x.K < 18446744073709551616 ∧ x.v < 18446744073709551616) :
    FnC Try.prog tables 1 6 [inV nil 0 l.length] M (fun v _ => v = .bool true) := by
  refine FnC.body (nt := 188) ok hm fn6 rfl rfl ?_
  (repeat (first
    | refine Ex.seq ok hm ?_
    | refine Ex.region ok hm ?_
    | refine Sq.pu ok hm Want.none (by exact Pu.assign rfl) rfl ?_
    | refine Sq.finH (n := 6) ok hm (by repeat (first
    | exact Keep.nil
    | apply Keep.keep rfl)) ?_))
  refine Sq.call ok Want.none (Op1.call rfl rfl fn14) rfl (FnC.mono new_ok ?_)
  rintro v M1 ⟨rfl, e1⟩
  have hn1 : M1.next = 2 := by rw [e1]; simp only [AM.next_add]; omega
  have hW1 : WrAt M1 1 2 [] := by
    have := wr_new (M := M) 2 (by omega)
    rw [← e1, hnx] at this; exact this
  have hg1 : l.length ≠ 0 → M1.get 0 = some (.row (rowN l) 3 none) := fun k => by rw [e1, AM.add_ne (by omega)]; exact hrow k
  clear e1
  have hL0 : LoopK l 0 2 M1 := by
    unfold LoopK
    rw [keptL_zero]
    exact ⟨2, hW1, by omega, hg1, fun k => absurd rfl k, by omega, by omega, fun k => absurd rfl k, fun k => absurd rfl k⟩
  rw [hnx]
  (repeat (first
    | refine Ex.seq ok hm ?_
    | refine Ex.block ok hm ?_
    | refine Ex.region ok hm ?_
    | refine Sq.pu ok hm Want.none (by exact Pu.assign rfl) rfl ?_
    | refine Sq.finH (n := 6) ok hm (by repeat (first
    | exact Keep.nil
    | apply Keep.drop rfl
    | apply Keep.keep rfl)) ?_))
  refine Ex.loop ?_
  refine Lp.inv ok hm (α := Nat × Nat)
    (fun x E M' => E = [(5, .int .i64 (x.1 : Int)), (4, bufV x.2 (keptL l x.1).length), (3, .pointer (some ⟨1, 0, none⟩)), (0, inV nil 0 l.length)] ∧ x.1 ≤ l.length ∧ x.1 ≤ 60 ∧ LoopK l x.1 x.2 M')
    (fun x => 60 - x.1) ?_ (0, 2) [(5, .int .i64 (0 : Nat)), (4, bufV 2 0), (3, .pointer (some ⟨1, 0, none⟩)), (0, inV nil 0 l.length)] ⟨rfl, rfl, rfl, rfl, trivial⟩ ⟨rfl, Nat.zero_le _, Nat.zero_le _, hL0⟩
  intro ⟨i, c⟩ E M4 ⟨hE, hi, hi2, hL⟩
  simp only at hE hi hi2 hL
  subst hE
  by_cases hex : i < l.length ∧ i < 60
  · obtain ⟨hil, hi60⟩ := hex
    rw [inV_pos 0 l.length hnil (by omega)]
    refine Ex.seq ok hm ?_
    refine Ex.cut [(5, .int .i64 (i : Int)), (4, bufV c (keptL l i).length), (3, .pointer (some ⟨1, 0, none⟩)), (0, inS l)] (fun M' => M' = M4) ?_ ?_
    · (repeat (first
    | refine Ex.seq ok hm ?_
    | refine Ex.skip ok hm ?_
    | refine Ex.region ok hm ?_
    | refine Sq.pu ok hm Want.none (by first
    | exact Pu.move rfl
    | exact Pu.lssI rfl rfl
    | exact Pu.lenL hT rfl rfl
    | exact Pu.pickT rfl (by first
    | rfl
    | exact decide_eq_true (by omega)) rfl) rfl ?_
    | refine Sq.pu ok hm (by exact Want.yes rfl rfl rfl (by first
    | rfl
    | exact decide_eq_true (by omega))) (by first
    | exact Pu.move rfl
    | exact Pu.lssI rfl rfl) rfl ?_
    | refine Sq.finH (n := 6) ok hm (by repeat (first
    | exact Keep.nil
    | apply Keep.drop rfl
    | apply Keep.keep rfl)) ?_
    | refine Ex.condT ok hm rfl (by first
    | rfl
    | exact decide_eq_true (by omega)) ?_))
      exact ⟨rfl, ⟨rfl, rfl, rfl, rfl, trivial⟩, rfl⟩
    rintro M5 rfl
    refine Ex.seq ok hm ?_
    refine Ex.mono (Ex.weaken (round1_ok l i c hil hi60 hwf hL) ⟨rfl, rfl, rfl, rfl, trivial⟩ (AM.Le.refl _)) ?_
    rintro o E' M6 ⟨rfl, c', hs, hL6⟩
    show Ex Try.prog tables 1 ⟨6, 188⟩ _ _ _ _
    refine Ex.weaken ?_ hs (AM.Le.refl _)
    (repeat (first
    | refine Ex.region ok hm ?_
    | refine Sq.pu ok hm Want.none (by first
    | exact Pu.move rfl
    | exact Pu.assign rfl
    | exact Pu.addN rfl rfl (by simp only [InR]; omega)) rfl ?_
    | refine Sq.finH (n := 6) ok hm (by repeat (first
    | exact Keep.nil
    | apply Keep.drop rfl
    | apply Keep.keep rfl)) ?_))
    refine ⟨(i + 1, c'), [(5, .int .i64 ((i + 1 : Nat) : Int)), (4, bufV c' (keptL l (i + 1)).length), (3, .pointer (some ⟨1, 0, none⟩)), (0, inS l)], ?_, ⟨rfl, rfl, rfl, rfl, trivial⟩, rfl, ?_, ?_, hL6⟩
    · show 60 - (i + 1) < 60 - i
      omega
    · show i + 1 ≤ l.length
      omega
    · show i + 1 ≤ 60
      omega
  · refine Ex.mono (Q := fun o E' M' => o = .exit 0 ∧ SubE [(5, .int .i64 (i : Int)), (4, bufV c (keptL l i).length), (3, .pointer (some ⟨1, 0, none⟩)), (0, inV nil 0 l.length)] E' ∧ M' = M4) ?_ ?_
    · by_cases hil : i < l.length
      all_goals
        (repeat (first
    | refine Ex.seq ok hm ?_
    | refine Ex.region ok hm ?_
    | refine Sq.pu ok hm Want.none (by first
    | exact Pu.move rfl
    | exact Pu.lssI rfl rfl
    | exact Pu.lenIn hT (by assumption) rfl rfl
    | exact Pu.pickT rfl (by first
    | rfl
    | exact decide_eq_true (by omega)) rfl
    | exact Pu.pickF rfl (by first
    | rfl
    | exact decide_eq_false (by omega)) rfl) rfl ?_
    | refine Sq.pu ok hm (by exact Want.yes rfl rfl rfl (by first
    | rfl
    | exact decide_eq_true (by omega))) (by first
    | exact Pu.move rfl
    | exact Pu.lssI rfl rfl) rfl ?_
    | refine Sq.skip ok hm (by exact Want.no rfl rfl rfl (by first
    | rfl
    | exact decide_eq_false (by omega))) rfl ?_
    | refine Sq.finH (n := 6) ok hm (by repeat (first
    | exact Keep.nil
    | apply Keep.drop rfl
    | apply Keep.keep rfl)) ?_
    | refine Ex.condF ok hm rfl (by first
    | rfl
    | exact decide_eq_false (by omega)) ?_
    | refine Ex.exit ok hm ?_))
        exact ⟨rfl, ⟨rfl, rfl, rfl, rfl, trivial⟩, rfl⟩
    rintro o E' M5 ⟨rfl, hs, rfl⟩
    show Ex Try.prog tables 1 ⟨6, 188⟩ _ _ _ _
    refine Ex.weaken ?_ hs (AM.Le.refl _)
    obtain ⟨q, hW, hnx3, hg, hc, hq2, hc2, hqn, hcn⟩ := hL
    have hgd := keptL_good l i
    have hm60 : (keptL l i).length ≤ 60 := Nat.le_trans (keptL_le l i) hi2
    have hwf' : ∀ x ∈ keptL l i, x.kind < 256 ∧ x.K < 18446744073709551616 ∧ x.v < 18446744073709551616 := by
      intro x hx
      obtain ⟨y, hy, rfl⟩ := keptL_mem hx
      have h3 := hwf y hy
      refine ⟨h3.1, h3.2.1, ?_⟩
      show (if y.kind = 0 then y.v % 2001 else y.v) < _
      split <;> omega
    have hB := bitsK_le _ hgd
    clear hwf hrow hW1 hg1 hg
    generalize keptL l i = m at *
    (repeat (first
    | refine Ex.seq ok hm ?_
    | refine Ex.region ok hm ?_
    | refine Sq.pu ok hm Want.none (by exact Pu.move rfl) rfl ?_))
    refine Sq.call ok Want.none (Op1.call rfl rfl fn18) rfl (FnC.mono (text_ok hW) ?_)
    rintro x M6 ⟨rfl, rfl⟩
    (repeat (first
    | refine Ex.seq ok hm ?_
    | refine Ex.region ok hm ?_
    | refine Sq.pu ok hm Want.none (by first
    | exact Pu.move rfl
    | exact Pu.assign rfl
    | exact Pu.extract rfl rfl) rfl ?_
    | refine Sq.finH (n := 19) ok hm (by repeat (first
    | exact Keep.nil
    | apply Keep.drop rfl
    | apply Keep.keep rfl)) ?_))
    refine Sq.call ok Want.none (Op1.call rfl rfl fn19) rfl (FnC.mono open_ok ?_)
    rintro x M7 ⟨rfl, e7⟩
    obtain ⟨r, hr⟩ : ∃ r, M6.next = r := ⟨_, rfl⟩
    have hR7 : RdAt M7 r (txt (bitsK m)) 0 := by rw [e7, ← hr]; exact AM.add_same
    have hF7 : Fr M6 M7 [] := by rw [e7]; exact Fr.add _ _ _
    have hn7 : M7.next = r + 1 := by rw [e7]; simp only [AM.next_add]; omega
    clear e7
    rw [hr]
    (repeat (first
    | refine Ex.seq ok hm ?_
    | refine Ex.region ok hm ?_
    | refine Sq.pu ok hm Want.none (by exact Pu.assign rfl) rfl ?_
    | refine Sq.finH (n := 20) ok hm (by repeat (first
    | exact Keep.nil
    | apply Keep.drop rfl
    | apply Keep.keep rfl)) ?_))
    refine Sq.call ok Want.none (Op1.call rfl rfl fn14) rfl (FnC.mono new_ok ?_)
    rintro x M8 ⟨rfl, e8⟩
    have hW8 : WrAt M8 (r + 1) (r + 2) [] := by
      have := wr_new (M := M7) (r + 2) (by omega)
      rw [← e8, hn7] at this; exact this
    have hF8 : Fr M7 M8 [] := by rw [e8]; exact Fr.add _ _ _
    have hn8 : M8.next = r + 2 := by rw [e8]; simp only [AM.next_add]; omega
    clear e8
    rw [hn7]
    have hR8 := hR7.keep hF8 (by omega) (by simp)
    have hc8 : m.length ≠ 0 → M8.get c = some (.row (rowN m) 3 (some (65, 0))) := fun k => (hF8.get c (by have := (hcn k).1; omega) (by simp)).trans ((hF7.get c (by have := (hcn k).1; omega) (by simp)).trans (hc k))
    have hcr : m.length ≠ 0 → c < r := fun k => by have := (hcn k).1; omega
    clear hR7 hF7 hF8 hc hcn hqn hW hq2
    have hpk0 : packL (bitsK (m.take 0)) = [] := by rw [List.take_zero]; rfl
    (repeat (first
    | refine Ex.seq ok hm ?_
    | refine Ex.block ok hm ?_
    | refine Ex.region ok hm ?_
    | refine Sq.pu ok hm Want.none (by exact Pu.assign rfl) rfl ?_
    | refine Sq.finH (n := 21) ok hm (by repeat (first
    | exact Keep.nil
    | apply Keep.drop rfl
    | apply Keep.keep rfl)) ?_))
    refine Ex.loop ?_
    refine Lp.inv ok hm (α := Nat)
      (fun j E M' => E = [(20, .int .i64 (j : Int)), (19, .pointer (some ⟨r + 1, 0, none⟩)), (18, .pointer (some ⟨r, 0, none⟩)), (17, .int .i64 0), (16, .string ⟨⟨txt (bitsK m)⟩⟩), (4, bufV c m.length)] ∧ j ≤ m.length ∧ (m.length ≠ 0 → Inv2 m r (r + 1) c j M') ∧ ∃ q, WrAt M' (r + 1) q (bitsK (m.take j)))
      (fun j => m.length - j) ?_ 0 [(20, .int .i64 (0 : Nat)), (19, .pointer (some ⟨r + 1, 0, none⟩)), (18, .pointer (some ⟨r, 0, none⟩)), (17, .int .i64 0), (16, .string ⟨⟨txt (bitsK m)⟩⟩), (4, bufV c m.length)] ⟨rfl, rfl, rfl, rfl, rfl, rfl, trivial⟩
      ⟨rfl, Nat.zero_le _, fun k => ⟨r + 2, hR8, hW8, hc8 k, by omega, by omega, by have := hcr k; omega, by omega, fun k => absurd hpk0 k⟩, r + 2, hW8⟩
    intro j E M9 ⟨hE, hj, hI, q9, hW9⟩
    subst hE
    by_cases hjm : j < m.length
    · have hI := hI (by omega)
      have hcr := hcr (by omega)
      rw [bufV_pos c m.length (by omega)]
      refine Ex.seq ok hm ?_
      refine Ex.cut [(20, .int .i64 (j : Int)), (19, .pointer (some ⟨r + 1, 0, none⟩)), (18, .pointer (some ⟨r, 0, none⟩)), (17, .int .i64 0), (16, .string ⟨⟨txt (bitsK m)⟩⟩), (4, .slice (some ⟨c, 0, none⟩) m.length m.length)] (fun M' => M' = M9) ?_ ?_
      · (repeat (first
    | refine Ex.seq ok hm ?_
    | refine Ex.skip ok hm ?_
    | refine Ex.region ok hm ?_
    | refine Sq.pu ok hm Want.none (by first
    | exact Pu.move rfl
    | exact Pu.lssI rfl rfl
    | exact Pu.lenL hT rfl rfl) rfl ?_
    | refine Sq.finH (n := 21) ok hm (by repeat (first
    | exact Keep.nil
    | apply Keep.drop rfl
    | apply Keep.keep rfl)) ?_
    | refine Ex.condT ok hm rfl (by first
    | rfl
    | exact decide_eq_true (by omega)) ?_))
        exact ⟨rfl, ⟨rfl, rfl, rfl, rfl, rfl, rfl, trivial⟩, rfl⟩
      rintro M10 rfl
      refine Ex.seq ok hm ?_
      refine Ex.mono (Ex.weaken (round2_ok m j r (r + 1) c hjm hgd hwf' hm60 (by omega) (by omega) hc2 (by omega) (by omega) (by omega) hI) ⟨rfl, rfl, rfl, rfl, rfl, rfl, trivial⟩ (AM.Le.refl _)) ?_
      rintro o E' M11 ⟨rfl, hs, hI11⟩
      show Ex Try.prog tables 1 ⟨6, 188⟩ _ _ _ _
      refine Ex.weaken ?_ hs (AM.Le.refl _)
      have hI12 := hI11
      obtain ⟨q12, _, hW12, _⟩ := hI12
      clear hI hW9 hW8 hR8 hc8
      (repeat (first
    | refine Ex.region ok hm ?_
    | refine Sq.pu ok hm Want.none (by first
    | exact Pu.move rfl
    | exact Pu.assign rfl
    | exact Pu.addN rfl rfl (by simp only [InR]; omega)) rfl ?_
    | refine Sq.finH (n := 21) ok hm (by repeat (first
    | exact Keep.nil
    | apply Keep.drop rfl
    | apply Keep.keep rfl)) ?_))
      refine ⟨j + 1, [(20, .int .i64 ((j + 1 : Nat) : Int)), (19, .pointer (some ⟨r + 1, 0, none⟩)), (18, .pointer (some ⟨r, 0, none⟩)), (17, .int .i64 0), (16, .string ⟨⟨txt (bitsK m)⟩⟩), (4, .slice (some ⟨c, 0, none⟩) m.length m.length)], ?_, ⟨rfl, rfl, rfl, rfl, rfl, rfl, trivial⟩, rfl, by omega, fun _ => hI11, q12, hW12⟩
      show m.length - (j + 1) < m.length - j
      omega
    · have hjl : j = m.length := by omega
      rw [hjl, List.take_length] at hW9
      clear hI hW8 hR8 hc8
      (repeat (first
    | refine Ex.seq ok hm ?_
    | refine Ex.region ok hm ?_
    | refine Sq.pu ok hm Want.none (by first
    | exact Pu.move rfl
    | exact Pu.lssI rfl rfl
    | exact Pu.lenBuf hT rfl rfl) rfl ?_
    | refine Sq.finH (n := 21) ok hm (by repeat (first
    | exact Keep.nil
    | apply Keep.drop rfl
    | apply Keep.keep rfl)) ?_
    | refine Ex.condF ok hm rfl (by first
    | rfl
    | exact decide_eq_false (by omega)) ?_
    | refine Ex.exit ok hm ?_))
      refine Sq.call ok Want.none (Op1.call rfl rfl fn18) rfl (FnC.mono (text_ok hW9) ?_)
      rintro x M10 ⟨rfl, rfl⟩
      (repeat (first
    | refine Ex.seq ok hm ?_
    | refine Ex.region ok hm ?_
    | refine Sq.pu ok hm Want.none (by first
    | exact Pu.move rfl
    | exact Pu.assign rfl
    | exact Pu.extract rfl rfl
    | exact Pu.eqlI rfl rfl
    | exact Pu.eqlS rfl rfl
    | exact Pu.pickT rfl (by rfl) rfl) rfl ?_
    | refine Sq.pu ok hm (by exact Want.yes rfl rfl rfl (by first
    | rfl
    | (simp; done))) (by first
    | exact Pu.move rfl
    | exact Pu.eqlI rfl rfl
    | exact Pu.eqlS rfl rfl) rfl ?_
    | refine Sq.finH (n := 25) ok hm (by repeat (first
    | exact Keep.nil
    | apply Keep.drop rfl
    | apply Keep.keep rfl)) ?_))
      refine Sq.call ok (by exact Want.yes rfl rfl rfl (by (simp; done))) (Op1.call rfl rfl fn28) rfl (FnC.mono awake2_ok ?_)
      rintro x M11 ⟨rfl, rfl⟩
      (repeat (first
    | refine Sq.pu ok hm Want.none (by first
    | exact Pu.assign rfl
    | exact Pu.pickT rfl (by first
    | rfl
    | (simp; done)) rfl) rfl ?_
    | refine Sq.finH (n := 25) ok hm (by repeat (first
    | exact Keep.nil
    | apply Keep.drop rfl
    | apply Keep.keep rfl)) ?_
    | refine Ex.ret ok hm ?_))
      exact ⟨_, .tmp rfl .nil, rfl⟩
end Go.Proofs.Ytlhfolmhgghjcaa
