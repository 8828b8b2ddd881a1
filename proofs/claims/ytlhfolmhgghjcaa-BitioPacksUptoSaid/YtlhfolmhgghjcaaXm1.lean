/- Towards the laws of this seat: contracts of the program's functions in a logic over a small machine (texts XRef2 XRef3 XBitr XRd XRq XBacm XSm). No condition. -/
import Derived.Test.YtlhfolmhgghjcaaXm0
import Derived.Test.YtlhfolmhgghjcaaWvmLgg
namespace Go.Proofs.Ytlhfolmhgghjcaa
open Go.Wvm Bits
set_option linter.unusedVariables false
set_option linter.unusedSimpArgs false

theorem veqB_buf (q n : Nat) : veqB (bufV q n) (bufV q n) = true := by
  by_cases h : n = 0
  · subst h; exact veqB_slice0 0 0
  · rw [bufV_pos q n h]; exact veqB_slice _ _ _ _ (by omega)

theorem cells_buf (q n : Nat) : Nat.beq (cellsL (bufV q n)).length 1 = true := by unfold bufV; split <;> rfl
theorem cells_bufl (q n : Nat) {x : Value} : 0 + (cellsL (bufV q n)).length ≤ [x].length := by unfold bufV; split <;> exact Nat.le_refl _
theorem one_buf (q n : Nat) : oneCells (cellsL (bufV q n)) = true := by unfold bufV; split <;> rfl
theorem set_buf (q n : Nat) (x : Value) : setAt [x] 0 (cellsL (bufV q n)) = [bufV q n] := by unfold bufV; split <;> rfl

set_option maxHeartbeats 4000000 in
theorem rPut_ok {ro : Nat} {M : AM} {p q : Nat} {l : List Bool} {v : Nat} {n : Int} (hp : ro ≤ p) (hq : ro ≤ q) (h : RwAt M p q l) (hv : v < 2 ^ 64) (hn : InR .i64 n) (hl : l.length + 64 ≤ 134217728) :
    FnC Try.prog tables ro 32 [.pointer (some ⟨p, 0, none⟩), .int .u64 v, .int .i64 n] M (fun r M' => r = .int .i64 (putE l v n).1 ∧ RPost ro M M' p q (putE l v n).2) := by
  refine FnC.facts fun hlt hron => ?_
  refine FnC.body (nt := 38) ok hm fn32 rfl rfl ?_
  have hrow := h.row
  have hpl := hlt _ _ hrow
  have hne := h.ne
  have hql : l ≠ [] → q < M.next := fun e => hlt _ _ (h.buf e)
  simp only [InR] at hn
  by_cases h1 : n < 0
  · have e : putE l v n = (1, l) := by unfold putE; rw [if_pos (.inl h1)]
    rw [e]
    (repeat (first
    | refine Ex.seq ok hm ?_
    | refine Ex.region ok hm ?_
    | refine Sq.pu ok hm Want.none (by first
    | exact Pu.move rfl
    | exact Pu.assign rfl
    | exact Pu.lssI rfl rfl
    | exact Pu.pickT rfl (by first
    | rfl
    | exact decide_eq_true (by omega)) rfl) rfl ?_
    | refine Sq.skip ok hm (by exact Want.no rfl rfl rfl (by first
    | rfl
    | exact decide_eq_true (by omega))) rfl ?_
    | refine Sq.finH (n := 7) ok hm (by repeat (first
    | exact Keep.nil
    | apply Keep.drop rfl
    | apply Keep.keep rfl)) ?_
    | refine Ex.condT ok hm rfl (by rfl) ?_
    | refine Ex.ret ok hm ?_))
    exact ⟨_, .tmp rfl .nil, rfl, RPost.same h hq⟩
  · by_cases h2 : 64 < n
    · have e : putE l v n = (1, l) := by unfold putE; rw [if_pos (.inr (.inl h2))]
      rw [e]
      (repeat (first
    | refine Ex.seq ok hm ?_
    | refine Ex.region ok hm ?_
    | refine Sq.pu ok hm Want.none (by first
    | exact Pu.move rfl
    | exact Pu.assign rfl
    | exact Pu.lssI rfl rfl
    | exact Pu.gtrI rfl rfl
    | exact Pu.pickT rfl (by first
    | rfl
    | exact decide_eq_true (by omega)) rfl
    | exact Pu.pickF rfl (by first
    | rfl
    | exact decide_eq_false (by omega)) rfl) rfl ?_
    | refine Sq.pu ok hm (by exact Want.yes rfl rfl rfl (by first
    | rfl
    | exact decide_eq_false (by omega))) (by first
    | exact Pu.move rfl
    | exact Pu.gtrI rfl rfl) rfl ?_
    | refine Sq.skip ok hm (by exact Want.no rfl rfl rfl (by first
    | rfl
    | exact decide_eq_true (by omega))) rfl ?_
    | refine Sq.finH (n := 7) ok hm (by repeat (first
    | exact Keep.nil
    | apply Keep.drop rfl
    | apply Keep.keep rfl)) ?_
    | refine Ex.condT ok hm rfl (by rfl) ?_
    | refine Ex.ret ok hm ?_))
      exact ⟨_, .tmp rfl .nil, rfl, RPost.same h hq⟩
    · (repeat (first
    | refine Ex.seq ok hm ?_
    | refine Ex.region ok hm ?_
    | refine Sq.pu ok hm Want.none (by first
    | exact Pu.move rfl
    | exact Pu.assign rfl
    | exact Pu.lssI rfl rfl
    | exact Pu.gtrI rfl rfl
    | exact Pu.pickF rfl (by first
    | rfl
    | exact decide_eq_false (by omega)) rfl) rfl ?_
    | refine Sq.pu ok hm (by exact Want.yes rfl rfl rfl (by first
    | rfl
    | exact decide_eq_false (by omega))) (by first
    | exact Pu.move rfl
    | exact Pu.gtrI rfl rfl) rfl ?_
    | refine Sq.finH (n := 7) ok hm (by repeat (first
    | exact Keep.nil
    | apply Keep.keep rfl)) ?_))
      refine Sq.call ok (by exact Want.yes rfl rfl rfl (by exact decide_eq_false (by omega))) (Op1.call rfl rfl fn57) rfl (FnC.mono (Fits_ok (by omega) (by omega)) ?_)
      rintro r M' ⟨rfl, rfl⟩
      by_cases h3 : 64 ≤ n ∨ (v : Int) / 2 ^ n.toNat = 0
      · have h3' : ¬ (n < 0 ∨ 64 < n ∨ (n < 64 ∧ v / 2 ^ n.toNat ≠ 0)) := by
          rintro (k | k | ⟨k1, k2⟩)
          · omega
          · omega
          · rcases h3 with k | k
            · omega
            · exact k2 ((cast_div v n.toNat).1 k)
        have h4 : ¬ 134217728 - (l.length : Int) < n := by omega
        have e : putE l v n = (0, l ++ ofN v n.toNat) := by unfold putE; rw [if_neg h3', if_neg h4]
        rw [e]
        rw [decide_eq_true h3]
        (repeat (first
    | refine Ex.seq ok hm ?_
    | refine Ex.skip ok hm ?_
    | refine Ex.region ok hm ?_
    | refine Sq.pu ok hm Want.none (by first
    | exact Pu.move rfl
    | exact Pu.nilCheck rfl
    | exact Pu.fieldAddr hT rfl rfl rfl rfl rfl
    | (apply Pu.load hT rfl rfl rfl; (focus ((repeat (assumption)))); (focus rfl))
    | exact Pu.sub rfl rfl (by simp only [InR]; omega)
    | exact Pu.gtrI rfl rfl
    | exact Pu.not rfl
    | exact Pu.lenBuf hT rfl rfl
    | exact Pu.pickF rfl (by first
    | rfl
    | exact decide_eq_false (by omega)) rfl) rfl ?_
    | refine Sq.pu ok hm (by exact Want.yes rfl rfl rfl (by first
    | rfl
    | exact decide_eq_false (by omega))) (by exact Pu.not rfl) rfl ?_
    | refine Sq.finH (n := 7) ok hm (by repeat (first
    | exact Keep.nil
    | apply Keep.drop rfl
    | apply Keep.keep rfl)) ?_
    | refine Ex.condF ok hm rfl (by first
    | rfl
    | exact decide_eq_false (by omega)) ?_))
        refine Ex.held ok hm hT [(52, ⟨p, 0, none⟩, bufV q l.length)] 12 rfl (by kernel_rfl) (.cons rfl rfl hrow rfl (veqB_buf _ _) .nil) ?_
        ((refine Gq.pure (j := 0) (by kernel_rfl) rfl Want.none (fun N => (by exact Pu.move rfl)) rfl rfl ?_); (refine Gq.pure (j := 1) (by kernel_rfl) rfl Want.none (fun N => (by exact Pu.move rfl)) rfl rfl ?_); (refine Gq.pure (j := 2) (by kernel_rfl) rfl Want.none (fun N => (by exact Pu.nilCheck rfl)) rfl rfl ?_); (refine Gq.pure (j := 3) (by kernel_rfl) rfl Want.none (fun N => (by exact Pu.fieldAddr hT rfl rfl rfl rfl rfl)) rfl rfl ?_); (refine Gq.held (j := 4) (by kernel_rfl) rfl Want.none rfl (by exact List.Mem.head _) rfl ?_); (refine Gq.pure (j := 5) (by kernel_rfl) rfl Want.none (fun N => (by exact Pu.move rfl)) rfl rfl ?_); (refine Gq.pure (j := 6) (by kernel_rfl) rfl Want.none (fun N => (by exact Pu.move rfl)) rfl rfl ?_))
        have hn2 : (.int .i64 n : Value) = .int .i64 (n.toNat : Int) := by rw [show ((n.toNat : Nat) : Int) = n by omega]
        refine Gq.call (j := 7) hT (by kernel_rfl) rfl Want.none (Op1.call rfl rfl fn58) rfl ?_
        show FnC Try.prog tables ro 58 [.int .u64 v, .int .i64 n] _ _
        rw [hn2]
        refine FnC.mono (Of_ok hv (by omega)) ?_
        rintro r M2 ⟨c, rfl, hc, hF, hcn⟩
        have hrow2 : M2.get p = some (.row [bufV q l.length] 0 (some (74, 0))) := (hF.get p hpl (by simp)).trans hrow
        have hbuf2 : l ≠ [] → M2.get q = some (.row (l.map Value.bool) 1 (some (4, 0))) := fun e => (hF.get q (hql e) (by simp)).trans (h.buf e)
        refine ⟨.cons rfl rfl hrow2 rfl (veqB_buf _ _) .nil, ?_⟩
        have hnx := hF.next
        by_cases hz : n.toNat = 0
        · rw [hz]
          refine Gq.op (j := 8) hT (by kernel_rfl) rfl Want.none (Op1.appendBuf0 hT rfl rfl rfl rfl rfl rfl rfl Src.none) rfl (.cons rfl rfl hrow2 rfl (veqB_buf _ _) .nil) ?_
          ((refine Gq.pure (j := 9) (by kernel_rfl) rfl Want.none (fun N => (by exact Pu.nilCheck rfl)) rfl rfl ?_); (refine Gq.pure (j := 10) (by kernel_rfl) rfl Want.none (fun N => (by exact Pu.fieldAddr hT rfl rfl rfl rfl rfl)) rfl rfl ?_))
          refine Gq.lateA (j := 11) (by kernel_rfl) (by kernel_rfl) rfl Want.none (Op1.store hT rfl rfl rfl (cells_buf _ _) hrow2 hp (Nat.zero_le _) (cells_bufl _ _) (one_buf _ _)) ?_
          refine Gq.done (by kernel_rfl) ?_
          (repeat (first
    | refine Ex.seq ok hm ?_
    | refine Ex.region ok hm ?_
    | refine Sq.pu ok hm Want.none (by exact Pu.assign rfl) rfl ?_
    | refine Sq.finH (n := 7) ok hm (by repeat (first
    | exact Keep.nil
    | apply Keep.drop rfl
    | apply Keep.keep rfl)) ?_
    | refine Ex.ret ok hm ?_))
          refine ⟨_, .tmp rfl .nil, rfl, q, ⟨?_, fun k => ?_, hne⟩, ?_, .inl rfl, hq⟩
          · rw [ofN_zero, List.append_nil]
            exact AM.upd_same.trans (congrArg (fun x => some (AO.row x 0 (some (74, 0)))) (set_buf q l.length _))
          · rw [ofN_zero, List.append_nil] at k ⊢
            exact (AM.upd_ne (Ne.symm hne)).trans (hbuf2 k)
          · exact (hF.mono (by simp)).upd' _ (.inl (by simp))
        · refine Gq.op (j := 8) hT (by kernel_rfl) rfl Want.none (Op1.appendBuf (c := q) (m := l.length) hT rfl rfl (fun e => hbuf2 (fun k => e (by rw [k]; rfl))) (by simp) (fun _ => hq) rfl rfl rfl rfl rfl (Src.buf (fun _ => hc hz) (by simp [ofN_length])) (by omega) (by omega) (by simp [ofN_length]) rfl (bools_one _)) rfl
            (.cons rfl rfl ((AM.add_ne (by simp only [AM.next_rm]; omega)).trans ((AM.rm_ne hne).trans hrow2)) rfl (veqB_buf _ _) .nil) ?_
          ((refine Gq.pure (j := 9) (by kernel_rfl) rfl Want.none (fun N => (by exact Pu.nilCheck rfl)) rfl rfl ?_); (refine Gq.pure (j := 10) (by kernel_rfl) rfl Want.none (fun N => (by exact Pu.fieldAddr hT rfl rfl rfl rfl rfl)) rfl rfl ?_))
          refine Gq.lateA (j := 11) (by kernel_rfl) (by kernel_rfl) rfl Want.none (Op1.store hT rfl rfl rfl (cells_buf _ _) ((AM.add_ne (by simp only [AM.next_rm]; omega)).trans ((AM.rm_ne hne).trans hrow2)) hp (Nat.zero_le _) (cells_bufl _ _) (one_buf _ _)) ?_
          refine Gq.done (by kernel_rfl) ?_
          (repeat (first
    | refine Ex.seq ok hm ?_
    | refine Ex.region ok hm ?_
    | refine Sq.pu ok hm Want.none (by exact Pu.assign rfl) rfl ?_
    | refine Sq.finH (n := 7) ok hm (by repeat (first
    | exact Keep.nil
    | apply Keep.drop rfl
    | apply Keep.keep rfl)) ?_
    | refine Ex.ret ok hm ?_))
          refine ⟨_, .tmp rfl .nil, rfl, M2.next, ⟨?_, fun k => ?_, by omega⟩, ?_, .inr (by omega), by omega⟩
          · refine AM.upd_same.trans ((congrArg (fun x => some (AO.row x 0 (some (74, 0)))) (set_buf M2.next (l.length + n.toNat) _)).trans ?_)
            rw [List.length_append, ofN_length]
          · refine (AM.upd_ne (by omega)).trans (AM.add_same.trans ?_)
            rw [List.map_append]
          · exact (((hF.mono (by simp)).rm' (.inl (by simp))).add' _).upd' _ (.inl (by simp))
      · have h3' : n < 0 ∨ 64 < n ∨ (n < 64 ∧ v / 2 ^ n.toNat ≠ 0) := by
          refine .inr (.inr ⟨by omega, fun k => h3 (.inr ((cast_div v n.toNat).2 k))⟩)
        have e : putE l v n = (1, l) := by unfold putE; rw [if_pos h3']
        rw [e]
        rw [decide_eq_false h3]
        (repeat (first
    | refine Ex.seq ok hm ?_
    | refine Ex.region ok hm ?_
    | refine Sq.pu ok hm Want.none (by first
    | exact Pu.assign rfl
    | exact Pu.not rfl
    | exact Pu.pickF rfl (by first
    | rfl
    | exact decide_eq_false (by omega)) rfl) rfl ?_
    | refine Sq.pu ok hm (by exact Want.yes rfl rfl rfl (by first
    | rfl
    | exact decide_eq_false (by omega))) (by exact Pu.not rfl) rfl ?_
    | refine Sq.finH (n := 7) ok hm (by repeat (first
    | exact Keep.nil
    | apply Keep.drop rfl
    | apply Keep.keep rfl)) ?_
    | refine Ex.condT ok hm rfl (by rfl) ?_
    | refine Ex.ret ok hm ?_))
        exact ⟨_, .tmp rfl .nil, rfl, RPost.same h hq⟩
set_option maxHeartbeats 4000000 in
theorem Bits_ok {ro : Nat} {M : AM} {s : List UInt8} (hs : s.length ≤ 1048576) :
    FnC Try.prog tables ro 24 [.string ⟨⟨s⟩⟩] M (fun r M' => ∃ c, r = bufV c (8 * s.length) ∧ (8 * s.length ≠ 0 → M'.get c = some (.row ((Bits.bitsOf s).map Value.bool) 1 (some (4, 0)))) ∧ Fr M M' [] ∧ M.next ≤ c) := by
  refine FnC.facts fun hlt0 hron0 => ?_
  refine FnC.body (nt := 27) ok hm fn24 rfl rfl ?_
  (repeat (first
    | refine Ex.seq ok hm ?_
    | refine Ex.block ok hm ?_
    | refine Ex.region ok hm ?_
    | refine Sq.pu ok hm Want.none (by exact Pu.assign rfl) rfl ?_
    | refine Sq.finH (n := 6) ok hm (by repeat (first
    | exact Keep.nil
    | apply Keep.keep rfl)) ?_))
  refine Ex.loop ?_
  refine Lp.inv ok hm (α := Nat × Nat)
    (fun x E M' => E = [(3, bufV x.2 (8 * x.1)), (4, .int .i64 x.1), (0, .string ⟨⟨s⟩⟩)] ∧ x.1 ≤ s.length ∧ (8 * x.1 ≠ 0 → M'.get x.2 = some (.row (((Bits.bitsOf s).take (8 * x.1)).map Value.bool) 1 (some (4, 0)))) ∧ Fr M M' [] ∧ M.next ≤ x.2)
    (fun x => s.length - x.1) ?_ (0, M.next) [(3, bufV M.next (8 * 0)), (4, .int .i64 (0 : Nat)), (0, .string ⟨⟨s⟩⟩)] ⟨rfl, rfl, rfl, trivial⟩ ⟨rfl, Nat.zero_le _, fun h => absurd rfl h, Fr.refl _ _, Nat.le_refl _⟩
  intro ⟨i, c⟩ E M1 ⟨hE, hi, hb, hF, hc⟩
  simp only at hE hi hb hc
  subst hE
  by_cases hin : i = s.length
  · subst hin
    (repeat (first
    | refine Ex.seq ok hm ?_
    | refine Ex.region ok hm ?_
    | refine Sq.pu ok hm Want.none (by first
    | exact Pu.move rfl
    | exact Pu.assign rfl
    | exact Pu.lssI rfl rfl
    | exact Pu.lenS hT rfl rfl) rfl ?_
    | refine Sq.finH (n := 6) ok hm (by repeat (first
    | exact Keep.nil
    | apply Keep.drop rfl
    | apply Keep.keep rfl)) ?_
    | refine Ex.condF ok hm rfl (by first
    | rfl
    | exact decide_eq_false (by omega)) ?_
    | refine Ex.ret ok hm ?_
    | refine Ex.exit ok hm ?_))
    refine ⟨_, .tmp rfl .nil, c, rfl, fun h => ?_, hF, hc⟩
    have := hb h
    rw [List.take_of_length_le (by rw [Bits.bitsOf_length]; omega)] at this
    exact this
  · have hlt : i < s.length := by omega
    (repeat (first
    | refine Ex.seq ok hm ?_
    | refine Ex.block ok hm ?_
    | refine Ex.skip ok hm ?_
    | refine Ex.region ok hm ?_
    | refine Sq.pu ok hm Want.none (by first
    | exact Pu.move rfl
    | exact Pu.assign rfl
    | exact Pu.lssI rfl rfl
    | exact Pu.lenS hT rfl rfl) rfl ?_
    | refine Sq.finH (n := 6) ok hm (by repeat (first
    | exact Keep.nil
    | apply Keep.drop rfl
    | apply Keep.keep rfl)) ?_
    | refine Ex.condT ok hm rfl (by first
    | rfl
    | exact decide_eq_true (by omega)) ?_))
    refine Ex.loop ?_
    refine Lp.inv ok hm (α := Nat × Nat)
      (fun x E M' => E = [(5, .int .i64 (7 - (x.1 : Int))), (3, bufV x.2 (8 * i + x.1)), (4, .int .i64 i), (0, .string ⟨⟨s⟩⟩)] ∧ x.1 ≤ 8 ∧ (8 * i + x.1 ≠ 0 → M'.get x.2 = some (.row (((Bits.bitsOf s).take (8 * i + x.1)).map Value.bool) 1 (some (4, 0)))) ∧ Fr M M' [] ∧ M.next ≤ x.2)
      (fun x => 8 - x.1) ?_ (0, c) [(5, .int .i64 (7 - ((0 : Nat) : Int))), (3, bufV c (8 * i + 0)), (4, .int .i64 i), (0, .string ⟨⟨s⟩⟩)] ⟨rfl, rfl, rfl, rfl, trivial⟩ ⟨rfl, Nat.zero_le _, hb, hF, hc⟩
    intro ⟨k, c1⟩ E M2 ⟨hE, hk, hb1, hF1, hc1⟩
    simp only at hE hk hb1 hc1
    subst hE
    refine Ex.facts fun hlt2 hron2 => ?_
    by_cases hk8 : k = 8
    · subst hk8
      (repeat (first
    | refine Ex.seq ok hm ?_
    | refine Ex.region ok hm ?_
    | refine Sq.pu ok hm Want.none (by first
    | exact Pu.move rfl
    | exact Pu.assign rfl
    | exact Pu.add rfl rfl (by simp only [InR]; omega)
    | exact Pu.geqI rfl rfl) rfl ?_
    | refine Sq.finH (n := 6) ok hm (by repeat (first
    | exact Keep.nil
    | apply Keep.drop rfl
    | apply Keep.keep rfl)) ?_
    | refine Ex.condF ok hm rfl (by rfl) ?_
    | refine Ex.exit ok hm ?_))
      refine ⟨(i + 1, c1), [(3, bufV c1 (8 * i + 8)), (4, .int .i64 ((i : Int) + 1)), (0, .string ⟨⟨s⟩⟩)], by simp only; omega, ⟨rfl, rfl, rfl, trivial⟩, ?_, by simp only; omega, ?_, hF1, hc1⟩
      · simp only
        rw [show 8 * (i + 1) = 8 * i + 8 by omega, show ((i + 1 : Nat) : Int) = (i : Int) + 1 by omega]
      · simp only
        rw [show 8 * (i + 1) = 8 * i + 8 by omega]; exact hb1
    · have hcl : 8 * i + k ≠ 0 → c1 < M2.next := fun h => hlt2 _ _ (hb1 h)
      have hlen : (((Bits.bitsOf s).take (8 * i + k)).map Value.bool).length = 8 * i + k := by rw [List.length_map, List.length_take, Bits.bitsOf_length]; omega
      have hnx := hF1.next
      have hby : (s.getD i 0).toNat < 256 := (s.getD i 0).toNat_lt
      have hd := div_bd (s.getD i 0).toNat (7 - (k : Int)).toNat
      (repeat (first
    | refine Ex.seq ok hm ?_
    | refine Ex.block ok hm ?_
    | refine Ex.skip ok hm ?_
    | refine Ex.region ok hm ?_
    | refine Sq.pu ok hm Want.none (by first
    | exact Pu.move rfl
    | exact Pu.geqI rfl rfl
    | exact Pu.indexS hT rfl rfl rfl (by omega) (by omega)) rfl ?_
    | refine Sq.finH (n := 6) ok hm (by repeat (first
    | exact Keep.nil
    | apply Keep.drop rfl
    | apply Keep.keep rfl)) ?_
    | refine Ex.condT ok hm rfl (by first
    | rfl
    | exact decide_eq_true (by omega)) ?_))
      rw [Int.toNat_natCast]
      (repeat (first
    | refine Sq.pu ok hm Want.none (by first
    | exact Pu.eqlI rfl rfl
    | exact Pu.shr rfl rfl (by omega) (by omega) (by simp only [InR]; omega)
    | exact Pu.and rfl rfl (by omega) (by omega) (by simp only [InR]; omega) (by simp only [InR]; omega)) rfl ?_
    | refine Sq.op ok hm Want.none (Op1.buildSlice hT rfl rfl rfl rfl rfl rfl rfl) rfl ?_))
      have hbit := bit_eq (s.getD i 0).toNat (7 - k)
      rw [show (7 - (k : Int)).toNat = 7 - k by omega, hbit]
      (repeat (fail))
      refine Sq.op ok hm Want.none (Op1.appendBuf (c := c1) (m := 8 * i + k) hT rfl rfl (fun h => (AM.add_ne (by have := hcl h; omega)).trans (hb1 h)) hlen (fun h => by omega) rfl rfl rfl rfl rfl (Src.slice (n := 1) (by (repeat (exact AM.add_same))) (Nat.le_of_ble_eq_true rfl)) (by decide) (by omega) rfl rfl rfl) rfl ?_
      (repeat (first
    | refine Ex.region ok hm ?_
    | refine Sq.pu ok hm Want.none (by first
    | exact Pu.move rfl
    | exact Pu.assign rfl
    | exact Pu.sub rfl rfl (by simp only [InR]; omega)) rfl ?_
    | refine Sq.finH (n := 6) ok hm (by repeat (first
    | exact Keep.nil
    | apply Keep.drop rfl
    | apply Keep.keep rfl)) ?_))
      refine ⟨(k + 1, M2.next + 1), [(5, .int .i64 (7 - (k : Int) - 1)), (3, bufV (M2.next + 1) (8 * i + k + 1)), (4, .int .i64 i), (0, .string ⟨⟨s⟩⟩)], by simp only; omega, ⟨rfl, rfl, rfl, rfl, trivial⟩, ?_, by simp only; omega, fun _ => ?_, ?_, ?_⟩
      · simp only
        rw [show (7 : Int) - ((k + 1 : Nat) : Int) = 7 - (k : Int) - 1 by omega]; rfl
      · simp only
        refine AM.add_same.trans ?_
        have e : (Bits.bitsOf s).take (8 * i + (k + 1)) = (Bits.bitsOf s).take (8 * i + k) ++ [(s.getD i 0).toNat.testBit (7 - k)] := by
          rw [Bits.bitsOf_take_rest s i (k + 1) hlt (by omega), Bits.bitsOf_take_rest s i k hlt (by omega), List.append_assoc]
          congr 1
          rw [ofN_split _ (k + 1) k (by omega), show k + 1 - k = 1 by omega, Nat.div_div_eq_div_mul, ← Nat.pow_add, show 8 - (k + 1) + 1 = 8 - k by omega]
          rw [show ofN ((s.getD i 0).toNat / 2 ^ (8 - (k + 1))) 1 = [((s.getD i 0).toNat / 2 ^ (8 - (k + 1))).testBit 0] from rfl, Nat.testBit_div_two_pow]
          congr 2
          congr 1; omega
        rw [e, List.map_append]; rfl
      · exact (((hF1.add' _).rm' (.inr hc1)).add' _)
      · simp only; omega
end Go.Proofs.Ytlhfolmhgghjcaa
namespace Go.Proofs.Ytlhfolmhgghjcaa
open Go.Wvm Bits
set_option linter.unusedVariables false
set_option linter.unusedSimpArgs false

theorem or_bit (x i : Nat) (hx : x < 256) (hi : i < 8) : (((x : Int).toNat ||| (1 * 2 ^ ((7 : Int) - (i : Int)).toNat % 256 : Int).toNat : Nat) : Int) = ((x ||| 2 ^ (7 - i) : Nat) : Int) := by
  have : i = 0 ∨ i = 1 ∨ i = 2 ∨ i = 3 ∨ i = 4 ∨ i = 5 ∨ i = 6 ∨ i = 7 := by omega
  rcases this with rfl | rfl | rfl | rfl | rfl | rfl | rfl | rfl <;> rfl

def addE (l : List Bool) (s : List UInt8) (n : Int) : Int × List Bool :=
  if n < 0 ∨ 8 * (s.length : Int) < n then (1, l) else if 134217728 - (l.length : Int) < n then (3, l) else (0, l ++ (Bits.bitsOf s).take n.toNat)

set_option maxHeartbeats 4000000 in
theorem rText_ok {ro : Nat} {M : AM} {c : Nat} {l : List Bool} (hb : l ≠ [] → M.get c = some (.row (l.map Value.bool) 1 (some (4, 0)))) (hl : l.length ≤ 134217728) :
    FnC Try.prog tables ro 33 [bufV c l.length] M (fun r M' => r = .string ⟨⟨txt l⟩⟩ ∧ Fr M M' []) := by
  refine FnC.facts fun hlt hron => ?_
  refine FnC.body (nt := 36) ok hm fn33 rfl rfl ?_
  generalize hW : (l.length + 7) / 8 = W
  have hWi : (((l.length : Int) + 7) / 8) = (W : Int) := by omega
  (repeat (first
    | refine Ex.seq ok hm ?_
    | refine Ex.region ok hm ?_
    | refine Sq.pu ok hm Want.none (by first
    | exact Pu.move rfl
    | exact Pu.assign rfl
    | exact Pu.add rfl rfl (by simp only [InR]; omega)
    | exact Pu.quo rfl rfl (by omega) (by omega) (by simp only [InR]; omega)
    | exact Pu.lenBuf hT rfl rfl) rfl ?_
    | refine Sq.finH (n := 5) ok hm (by repeat (first
    | exact Keep.nil
    | apply Keep.keep rfl)) ?_))
  rw [hWi]
  refine Sq.op ok hm Want.none (Op1.makeSlice hT rfl rfl rfl rfl rfl rfl rfl (by omega) (Int.le_refl _) (by omega) rfl) rfl ?_
  rw [Int.toNat_natCast]
  (repeat (first
    | refine Ex.seq ok hm ?_
    | refine Ex.block ok hm ?_
    | refine Ex.region ok hm ?_
    | refine Sq.pu ok hm Want.none (by exact Pu.assign rfl) rfl ?_
    | refine Sq.finH (n := 5) ok hm (by repeat (first
    | exact Keep.nil
    | apply Keep.drop rfl
    | apply Keep.keep rfl)) ?_))
  refine Ex.loop ?_
  refine Lp.inv ok hm (α := Nat × AM)
    (fun x E M' => E = [(3, .slice (some ⟨M.next, 0, none⟩) W W), (4, .int .i64 x.1), (0, bufV c l.length)] ∧ x.1 ≤ l.length ∧ M'.get M.next = some (.row ((padL (l.take x.1) W).map u8v) 1 (some (5, 0))) ∧ Fr M M' [])
    (fun x => l.length - x.1) ?_ (0, M) [(3, .slice (some ⟨M.next, 0, none⟩) W W), (4, .int .i64 (0 : Nat)), (0, bufV c l.length)] ⟨rfl, rfl, rfl, trivial⟩ ⟨rfl, Nat.zero_le _, ?_, (Fr.refl _ _).add' _⟩
  · intro ⟨i, _⟩ E M1 ⟨hE, hi, hr, hF⟩
    simp only at hE hi hr
    subst hE
    by_cases hil : i = l.length
    · subst hil
      (repeat (first
    | refine Ex.seq ok hm ?_
    | refine Ex.region ok hm ?_
    | refine Sq.pu ok hm Want.none (by first
    | exact Pu.move rfl
    | exact Pu.lssI rfl rfl
    | exact Pu.lenBuf hT rfl rfl) rfl ?_
    | refine Sq.finH (n := 5) ok hm (by repeat (first
    | exact Keep.nil
    | apply Keep.drop rfl
    | apply Keep.keep rfl)) ?_
    | refine Ex.condF ok hm rfl (by first
    | rfl
    | exact decide_eq_false (by omega)) ?_
    | refine Ex.exit ok hm ?_))
      rw [List.take_length, ← hW, padL_full] at hr
      refine Sq.pu ok hm Want.none (Pu.convB hT (bs := txt l) rfl rfl rfl rfl hr ?_ ?_) rfl ?_
      · rw [List.drop_zero, List.take_of_length_le (by rw [List.length_map, packL_length]; omega)]
        exact u8_row _ (packL_lt l)
      · rw [List.length_map, packL_length]; omega
      (repeat (first
    | refine Sq.pu ok hm Want.none (by exact Pu.assign rfl) rfl ?_
    | refine Sq.finH (n := 5) ok hm (by repeat (first
    | exact Keep.nil
    | apply Keep.drop rfl
    | apply Keep.keep rfl)) ?_
    | refine Ex.ret ok hm ?_))
      exact ⟨_, .tmp rfl .nil, rfl, hF⟩
    · have hil2 : i < l.length := by omega
      have hne : l ≠ [] := by intro k; rw [k] at hil2; simp at hil2
      have hcl := hlt _ _ (hb hne)
      have hbc : M1.get c = some (.row (l.map Value.bool) 1 (some (4, 0))) := (hF.get c hcl (by simp)).trans (hb hne)
      have htl : (l.take i).length = i := by rw [List.length_take]; omega
      have hst := padL_step (l.take i) (l.getD i false) W (by omega)
      have hgt := padL_get (l.take i) W (by omega)
      rw [htl] at hst hgt
      rw [← take_snoc l i hil2] at hst
      have hpl : (padL (l.take i) W).length = W := padL_length _ _ (by rw [packL_length]; omega)
      have hx : byteB ((l.take i).drop (8 * (i / 8))) < 256 := byteB_lt _ (by rw [List.length_drop, htl]; omega)
      generalize byteB ((l.take i).drop (8 * (i / 8))) = x at hst hgt hx
      rw [bufV_pos c l.length (by omega)]
      (repeat (first
    | refine Ex.seq ok hm ?_
    | refine Ex.block ok hm ?_
    | refine Ex.skip ok hm ?_
    | refine Ex.region ok hm ?_
    | refine Sq.pu ok hm Want.none (by first
    | exact Pu.move rfl
    | exact Pu.lssI rfl rfl
    | exact Pu.lenL hT rfl rfl
    | exact Pu.indexAddr hT rfl rfl rfl rfl (by omega) (by omega)) rfl ?_
    | refine Sq.finH (n := 5) ok hm (by repeat (first
    | exact Keep.nil
    | apply Keep.drop rfl
    | apply Keep.keep rfl)) ?_
    | refine Ex.condT ok hm rfl (by first
    | rfl
    | exact decide_eq_true (by omega)) ?_))
      have hbl : (l.map Value.bool)[0 + (i : Int).toNat * 1]? = some (.bool (l.getD i false)) := by
        rw [Int.toNat_natCast, Nat.zero_add, Nat.mul_one, List.getElem?_map, List.getElem?_eq_getElem hil2]
        simp [List.getD_eq_getElem?_getD, hil2]
      refine Sq.pu ok hm Want.none (Pu.load hT rfl rfl rfl hbc hbl) rfl ?_
      (repeat (refine Sq.finH (n := 5) ok hm (by repeat (first
    | exact Keep.nil
    | apply Keep.drop rfl
    | apply Keep.keep rfl)) ?_))
      cases hbit : l.getD i false with
      | true =>
        rw [hbit, if_pos rfl] at hst
        (repeat (refine Ex.condT ok hm rfl (by rfl) ?_))
        have hidx : 0 + ((i : Int) / 8).toNat * 1 = i / 8 := by omega
        have hload : ((padL (l.take i) W).map u8v)[i / 8]? = some (u8v x) := by rw [List.getElem?_map, hgt]; rfl
        refine Ex.draw ok hm 14 (by kernel_rfl) ?_
        (repeat (refine Hq.pu Want.none (by first
    | exact Pu.move rfl
    | exact Pu.quo rfl rfl (by omega) (by omega) (by simp only [InR]; omega)
    | exact Pu.indexAddr hT rfl rfl rfl rfl (by omega) (by omega)) rfl rfl rfl ?_))
        refine Hq.pu Want.none (Pu.load hT rfl rfl rfl hr ((congrArg (fun j => ((padL (l.take i) W).map u8v)[j]?) hidx).trans hload)) rfl rfl rfl ?_
        (repeat (first
    | refine Hq.pu Want.none (by first
    | exact Pu.move rfl
    | exact Pu.sub rfl rfl (by simp only [InR]; omega)
    | exact Pu.rem rfl rfl (by omega) (by omega)
    | exact Pu.indexAddr hT rfl rfl rfl rfl (by omega) (by omega)
    | exact Pu.shlU8 rfl rfl (by omega) (by omega)
    | exact Pu.or rfl rfl (by omega) (by omega) (by simp only [InR]; omega) (by simp only [InR]; omega)) rfl rfl rfl ?_
    | refine Hq.nil ?_))
        have hor := or_bit x (i % 8) hx (by omega)
        rw [show ((7 : Int) - ((i % 8 : Nat) : Int)) = 7 - (i : Int) % 8 by omega] at hor
        rw [hor]
        refine Tq.act Want.none (Op1.store hT rfl rfl rfl rfl hr (by omega) (Nat.zero_le _) (by rw [List.length_map, hpl]; show 0 + ((i : Int) / 8).toNat * 1 + 1 ≤ _; omega) rfl) ?_
        (repeat (first
    | refine Ex.region ok hm ?_
    | refine Sq.pu ok hm Want.none (by first
    | exact Pu.move rfl
    | exact Pu.assign rfl
    | exact Pu.add rfl rfl (by simp only [InR]; omega)) rfl ?_
    | refine Sq.finH (n := 5) ok hm (by repeat (first
    | exact Keep.nil
    | apply Keep.drop rfl
    | apply Keep.keep rfl)) ?_
    | refine Tq.finH (n := 5)  (by repeat (first
    | exact Keep.nil
    | apply Keep.drop rfl
    | apply Keep.keep rfl)) ?_))
        refine ⟨(i + 1, M), [(3, .slice (some ⟨M.next, 0, none⟩) W W), (4, .int .i64 ((i : Int) + 1)), (0, .slice (some ⟨c, 0, none⟩) l.length l.length)], by simp only; omega, ⟨rfl, rfl, rfl, trivial⟩, ?_, by simp only; omega, ?_, ?_⟩
        · simp only
          rw [show ((i + 1 : Nat) : Int) = (i : Int) + 1 by omega]
        · simp only
          refine AM.upd_same.trans ?_
          rw [hst]
          have : ∀ j, 0 + ((i : Int) / 8).toNat * 1 = j → setAt ((padL (l.take i) W).map u8v) j (cellsL (u8v (x ||| 2 ^ (7 - i % 8)))) = ((padL (l.take i) W).set (i / 8) (x ||| 2 ^ (7 - i % 8))).map u8v := by
            intro j hj
            rw [hidx] at hj
            subst hj
            simp only [cellsL, setAt, List.map_set]
          rw [← this _ rfl]
        · exact hF.upd' _ (.inr (Nat.le_refl _))
      | false =>
        rw [hbit, if_neg (by decide)] at hst
        (repeat (first
    | refine Ex.skip ok hm ?_
    | refine Ex.region ok hm ?_
    | refine Sq.pu ok hm Want.none (by first
    | exact Pu.move rfl
    | exact Pu.assign rfl
    | exact Pu.add rfl rfl (by simp only [InR]; omega)) rfl ?_
    | refine Sq.finH (n := 5) ok hm (by repeat (first
    | exact Keep.nil
    | apply Keep.drop rfl
    | apply Keep.keep rfl)) ?_
    | refine Ex.condF ok hm rfl (by rfl) ?_))
        refine ⟨(i + 1, M), [(3, .slice (some ⟨M.next, 0, none⟩) W W), (4, .int .i64 ((i : Int) + 1)), (0, .slice (some ⟨c, 0, none⟩) l.length l.length)], by simp only; omega, ⟨rfl, rfl, rfl, trivial⟩, ?_, by simp only; omega, ?_, hF⟩
        · simp only
          rw [show ((i + 1 : Nat) : Int) = (i : Int) + 1 by omega]
        · simp only
          rw [hst]; exact hr
  · simp only [List.take_zero]
    rw [padL_nil, List.map_replicate]
    exact AM.add_same
end Go.Proofs.Ytlhfolmhgghjcaa
/- Plain mathematics of rows of bits: reading out of a text. -/
namespace Bits

theorem drop_ofN (v u k : Nat) : (ofN v (u + k)).drop u = ofN v k := by
  rw [ofN_split v (u + k) u (by omega), List.drop_append_of_le_length (by rw [ofN_length]; omega), List.drop_eq_nil_of_le (by rw [ofN_length]; omega), show u + k - u = k by omega]; rfl
theorem mid_byte (b u k : Nat) (h : u + k ≤ 8) : (b * 2 ^ u % 256) / 2 ^ (8 - k) = b / 2 ^ (8 - (u + k)) % 2 ^ k := by
  have e1 : (256 : Nat) = 2 ^ u * 2 ^ (8 - u) := by rw [← Nat.pow_add, show u + (8 - u) = 8 by omega]
  have e2 : (2 : Nat) ^ (8 - k) = 2 ^ u * 2 ^ (8 - (u + k)) := by rw [← Nat.pow_add]; congr 1; omega
  have e3 : (2 : Nat) ^ (8 - u) = 2 ^ (8 - (u + k)) * 2 ^ k := by rw [← Nat.pow_add]; congr 1; omega
  rw [e1, e2, Nat.mul_comm b, Nat.mul_mod_mul_left, Nat.mul_div_mul_left _ _ (Nat.two_pow_pos u), e3, Nat.mod_mul_right_div_self]
/-- The bits of a text, some of them. -/
def midT (s : List UInt8) (a n : Nat) : List Bool := ((bitsOf s).drop a).take n
theorem midT_length (s : List UInt8) (a n : Nat) (h : a + n ≤ 8 * s.length) : (midT s a n).length = n := by
  unfold midT; rw [List.length_take, List.length_drop, bitsOf_length]; omega
theorem midT_zero (s : List UInt8) (a : Nat) : midT s a 0 = [] := by simp [midT]
theorem midT_add (s : List UInt8) (a m k : Nat) : midT s a (m + k) = midT s a m ++ midT s (a + m) k := by
  unfold midT; rw [List.take_add, List.drop_drop]
theorem midT_byte (s : List UInt8) (a k : Nat) (h : a / 8 < s.length) (hk : a % 8 + k ≤ 8) : valB (midT s a k) = ((s.getD (a / 8) 0).toNat * 2 ^ (a % 8) % 256) / 2 ^ (8 - k) := by
  have h1 := bitsOf_take_rest s (a / 8) (a % 8 + k) h hk
  have h2 : midT s a k = ((bitsOf s).take (a + k)).drop a := by
    unfold midT; rw [List.drop_take, show a + k - a = k by omega]
  rw [show 8 * (a / 8) + (a % 8 + k) = a + k by omega] at h1
  have h3 : ((bitsOf s).take (8 * (a / 8))).length = 8 * (a / 8) := by rw [List.length_take, bitsOf_length]; omega
  rw [h2, h1, List.drop_append, h3, List.drop_eq_nil_of_le (by rw [h3]; omega), show a - 8 * (a / 8) = a % 8 by omega, List.nil_append, drop_ofN, valB_ofN, mid_byte _ _ _ hk]
theorem midT_step (s : List UInt8) (a m k : Nat) (h : (a + m) / 8 < s.length) (hk : (a + m) % 8 + k ≤ 8) :
    valB (midT s a (m + k)) = valB (midT s a m) * 2 ^ k ||| ((s.getD ((a + m) / 8) 0).toNat * 2 ^ ((a + m) % 8) % 256) / 2 ^ (8 - k) := by
  have h1 := midT_byte s (a + m) k h hk
  have h2 : (midT s (a + m) k).length = k := midT_length _ _ _ (by omega)
  have h3 := valB_lt (midT s (a + m) k)
  rw [h2] at h3
  rw [midT_add, valB_append, h2, ← h1, or_disjoint _ _ _ h3]
theorem midT_lt (s : List UInt8) (a n : Nat) : valB (midT s a n) < 2 ^ n := by
  have h := valB_lt (midT s a n)
  have h2 : (midT s a n).length ≤ n := by unfold midT; rw [List.length_take]; omega
  exact Nat.lt_of_lt_of_le h (Nat.pow_le_pow_right (by omega) h2)
end Bits
namespace Go.Proofs.Ytlhfolmhgghjcaa
open Go.Wvm Bits
set_option linter.unusedVariables false
set_option linter.unusedSimpArgs false

def RdAt (M : AM) (r : Nat) (s : List UInt8) (at' : Nat) : Prop := M.get r = some (.row [.string ⟨⟨s⟩⟩, .int .i64 (at' : Int)] 0 (some (83, 0)))
def rdO (s : List UInt8) (at' : Nat) : AO := .row [.string ⟨⟨s⟩⟩, .int .i64 (at' : Int)] 0 (some (83, 0))

theorem open_ok {ro : Nat} {M : AM} {s : List UInt8} : FnC Try.prog tables ro 19 [.string ⟨⟨s⟩⟩] M (fun r M' => r = .pointer (some ⟨M.next, 0, none⟩) ∧ M' = M.add (rdO s 0)) := by
  refine FnC.body (nt := 6) ok hm fn19 rfl rfl ?_
  (repeat (first
    | refine Ex.seq ok hm ?_
    | refine Ex.region ok hm ?_
    | refine Sq.pu ok hm Want.none (by first
    | exact Pu.move rfl
    | exact Pu.assign rfl) rfl ?_
    | refine Sq.finH (n := 5) ok hm (by repeat (first
    | exact Keep.nil
    | apply Keep.keep rfl)) ?_))
  refine Sq.pu ok hm Want.none (Pu.build hT rfl rfl rfl rfl) rfl ?_
  refine Sq.op ok hm Want.none (Op1.box rfl rfl) rfl ?_
  (repeat (first
    | refine Sq.pu ok hm Want.none (by exact Pu.assign rfl) rfl ?_
    | refine Sq.finH (n := 5) ok hm (by repeat (first
    | exact Keep.nil
    | apply Keep.drop rfl
    | apply Keep.keep rfl)) ?_
    | refine Ex.ret ok hm ?_))
  exact ⟨_, .tmp rfl .nil, rfl, rfl⟩

theorem left_ok {ro : Nat} {M : AM} {r at' : Nat} {s : List UInt8} (h : RdAt M r s at') (ha : at' ≤ 8 * s.length) (hs : s.length ≤ 1152921504606846000) :
    FnC Try.prog tables ro 23 [.pointer (some ⟨r, 0, none⟩)] M (fun v M' => v = .int .i64 (8 * (s.length : Int) - at') ∧ M' = M) := by
  refine FnC.body (nt := 16) ok hm fn23 rfl rfl ?_
  have hrow : M.get r = some (.row [.string ⟨⟨s⟩⟩, .int .i64 (at' : Int)] 0 (some (83, 0))) := h
  (repeat (first
    | refine Ex.seq ok hm ?_
    | refine Ex.skip ok hm ?_
    | refine Ex.region ok hm ?_
    | refine Sq.pu ok hm Want.none (by first
    | exact Pu.move rfl
    | exact Pu.assign rfl
    | exact Pu.eqlP hT rfl rfl rfl) rfl ?_
    | refine Sq.finH (n := 3) ok hm (by repeat (first
    | exact Keep.nil
    | apply Keep.drop rfl
    | apply Keep.keep rfl)) ?_
    | refine Ex.condF ok hm rfl (by rfl) ?_))
  refine Ex.draw ok hm 10 (by kernel_rfl) ?_
  (repeat (first
    | refine Hq.pu Want.none (by first
    | exact Pu.move rfl
    | exact Pu.nilCheck rfl
    | exact Pu.fieldAddr hT rfl rfl rfl rfl rfl
    | (apply Pu.load hT rfl rfl rfl; (focus ((repeat (assumption)))); (focus rfl))
    | exact Pu.lenS hT rfl rfl
    | exact Pu.mul rfl rfl (by simp only [InR]; omega)) rfl rfl rfl ?_
    | refine Hq.nil ?_
    | refine Tq.pu Want.none (by first
    | exact Pu.assign rfl
    | exact Pu.sub rfl rfl (by simp only [InR]; omega)) rfl ?_
    | refine Tq.finH (n := 3)  (by repeat (first
    | exact Keep.nil
    | apply Keep.drop rfl
    | apply Keep.keep rfl)) ?_
    | refine Ex.ret ok hm ?_))
  exact ⟨_, .tmp rfl .nil, rfl, rfl⟩

theorem at_ok {ro : Nat} {M : AM} {r at' : Nat} {s : List UInt8} (h : RdAt M r s at') :
    FnC Try.prog tables ro 22 [.pointer (some ⟨r, 0, none⟩)] M (fun v M' => v = .int .i64 at' ∧ M' = M) := by
  refine FnC.body (nt := 9) ok hm fn22 rfl rfl ?_
  have hrow : M.get r = some (.row [.string ⟨⟨s⟩⟩, .int .i64 (at' : Int)] 0 (some (83, 0))) := h
  (repeat (first
    | refine Ex.seq ok hm ?_
    | refine Ex.skip ok hm ?_
    | refine Ex.region ok hm ?_
    | refine Sq.pu ok hm Want.none (by first
    | exact Pu.move rfl
    | exact Pu.assign rfl
    | exact Pu.nilCheck rfl
    | exact Pu.fieldAddr hT rfl rfl rfl rfl rfl
    | (apply Pu.load hT rfl rfl rfl; (focus ((repeat (assumption)))); (focus rfl))
    | exact Pu.eqlP hT rfl rfl rfl) rfl ?_
    | refine Sq.finH (n := 3) ok hm (by repeat (first
    | exact Keep.nil
    | apply Keep.drop rfl
    | apply Keep.keep rfl)) ?_
    | refine Ex.condF ok hm rfl (by rfl) ?_
    | refine Ex.ret ok hm ?_))
  exact ⟨_, .tmp rfl .nil, rfl, rfl⟩

set_option maxHeartbeats 4000000 in
theorem seek_ok {ro : Nat} {M : AM} {r at' : Nat} {s : List UInt8} {n : Int} (hr : ro ≤ r) (h : RdAt M r s at') (hn : InR .i64 n) (hs : s.length ≤ 1152921504606846000) :
    FnC Try.prog tables ro 20 [.pointer (some ⟨r, 0, none⟩), .int .i64 n] M (fun v M' => v = .int .i64 (if 0 ≤ n ∧ n ≤ 8 * (s.length : Int) then 0 else 1) ∧ RdAt M' r s (if 0 ≤ n ∧ n ≤ 8 * (s.length : Int) then n.toNat else at') ∧ Fr M M' [r]) := by
  refine FnC.body (nt := 23) ok hm fn20 rfl rfl ?_
  have hrow : M.get r = some (.row [.string ⟨⟨s⟩⟩, .int .i64 (at' : Int)] 0 (some (83, 0))) := h
  by_cases h1 : n < 0
  · rw [if_neg (by omega), if_neg (by omega)]
    (repeat (first
    | refine Ex.seq ok hm ?_
    | refine Ex.skip ok hm ?_
    | refine Ex.region ok hm ?_
    | refine Sq.pu ok hm Want.none (by first
    | exact Pu.move rfl
    | exact Pu.assign rfl
    | exact Pu.lssI rfl rfl
    | exact Pu.eqlP hT rfl rfl rfl
    | exact Pu.pickT rfl (by first
    | rfl
    | exact decide_eq_true (by omega)) rfl) rfl ?_
    | refine Sq.skip ok hm (by exact Want.no rfl rfl rfl (by first
    | rfl
    | exact decide_eq_true (by omega))) rfl ?_
    | refine Sq.finH (n := 5) ok hm (by repeat (first
    | exact Keep.nil
    | apply Keep.drop rfl
    | apply Keep.keep rfl)) ?_
    | refine Ex.condT ok hm rfl (by rfl) ?_
    | refine Ex.condF ok hm rfl (by rfl) ?_
    | refine Ex.ret ok hm ?_))
    exact ⟨_, .tmp rfl .nil, rfl, h, Fr.refl _ _⟩
  · by_cases h2 : 8 * (s.length : Int) < n
    · rw [if_neg (by omega), if_neg (by omega)]
      (repeat (first
    | refine Ex.seq ok hm ?_
    | refine Ex.skip ok hm ?_
    | refine Ex.region ok hm ?_
    | refine Sq.pu ok hm Want.none (by first
    | exact Pu.move rfl
    | exact Pu.assign rfl
    | exact Pu.nilCheck rfl
    | exact Pu.fieldAddr hT rfl rfl rfl rfl rfl
    | (apply Pu.load hT rfl rfl rfl; (focus ((repeat (assumption)))); (focus rfl))
    | exact Pu.lssI rfl rfl
    | exact Pu.gtrI rfl rfl
    | exact Pu.lenS hT rfl rfl
    | exact Pu.mul rfl rfl (by simp only [InR]; omega)
    | exact Pu.eqlP hT rfl rfl rfl
    | exact Pu.pickF rfl (by first
    | rfl
    | exact decide_eq_false (by omega)) rfl) rfl ?_
    | refine Sq.pu ok hm (by exact Want.yes rfl rfl rfl (by first
    | rfl
    | exact decide_eq_false (by omega))) (by first
    | exact Pu.move rfl
    | exact Pu.nilCheck rfl
    | exact Pu.fieldAddr hT rfl rfl rfl rfl rfl
    | (apply Pu.load hT rfl rfl rfl; (focus ((repeat (assumption)))); (focus rfl))
    | exact Pu.gtrI rfl rfl
    | exact Pu.lenS hT rfl rfl
    | exact Pu.mul rfl rfl (by simp only [InR]; omega)) rfl ?_
    | refine Sq.finH (n := 5) ok hm (by repeat (first
    | exact Keep.nil
    | apply Keep.drop rfl
    | apply Keep.keep rfl)) ?_
    | refine Ex.condT ok hm rfl (by first
    | rfl
    | exact decide_eq_true (by omega)) ?_
    | refine Ex.condF ok hm rfl (by rfl) ?_
    | refine Ex.ret ok hm ?_))
      exact ⟨_, .tmp rfl .nil, rfl, h, Fr.refl _ _⟩
    · rw [if_pos (by omega), if_pos (by omega)]
      (repeat (first
    | refine Ex.seq ok hm ?_
    | refine Ex.skip ok hm ?_
    | refine Ex.region ok hm ?_
    | refine Sq.pu ok hm Want.none (by first
    | exact Pu.move rfl
    | exact Pu.assign rfl
    | exact Pu.nilCheck rfl
    | exact Pu.fieldAddr hT rfl rfl rfl rfl rfl
    | (apply Pu.load hT rfl rfl rfl; (focus ((repeat (assumption)))); (focus rfl))
    | exact Pu.lssI rfl rfl
    | exact Pu.gtrI rfl rfl
    | exact Pu.lenS hT rfl rfl
    | exact Pu.mul rfl rfl (by simp only [InR]; omega)
    | exact Pu.eqlP hT rfl rfl rfl
    | exact Pu.pickF rfl (by first
    | rfl
    | exact decide_eq_false (by omega)) rfl) rfl ?_
    | refine Sq.pu ok hm (by exact Want.yes rfl rfl rfl (by first
    | rfl
    | exact decide_eq_false (by omega))) (by first
    | exact Pu.move rfl
    | exact Pu.nilCheck rfl
    | exact Pu.fieldAddr hT rfl rfl rfl rfl rfl
    | (apply Pu.load hT rfl rfl rfl; (focus ((repeat (assumption)))); (focus rfl))
    | exact Pu.gtrI rfl rfl
    | exact Pu.lenS hT rfl rfl
    | exact Pu.mul rfl rfl (by simp only [InR]; omega)) rfl ?_
    | refine Sq.finH (n := 5) ok hm (by repeat (first
    | exact Keep.nil
    | apply Keep.drop rfl
    | apply Keep.keep rfl)) ?_
    | refine Ex.condF ok hm rfl (by first
    | rfl
    | exact decide_eq_false (by omega)) ?_))
      refine Sq.act ok hm Want.none (Op1.store hT rfl rfl rfl rfl (by (repeat (assumption))) hr (Nat.le_of_ble_eq_true rfl) (Nat.le_of_ble_eq_true rfl) rfl) ?_
      (repeat (first
    | refine Ex.seq ok hm ?_
    | refine Ex.region ok hm ?_
    | refine Sq.pu ok hm Want.none (by exact Pu.assign rfl) rfl ?_
    | refine Sq.finH (n := 5) ok hm (by repeat (first
    | exact Keep.nil
    | apply Keep.drop rfl
    | apply Keep.keep rfl)) ?_
    | refine Ex.ret ok hm ?_))
      refine ⟨_, .tmp rfl .nil, rfl, ?_, (Fr.refl _ _).upd' _ (.inl (by simp))⟩
      unfold RdAt
      rw [show ((n.toNat : Nat) : Int) = n by omega]
      exact AM.upd_same

theorem share_ok {ro : Nat} {M : AM} {a v part k : Nat} (ha : ro ≤ a) (h : M.get a = some (.row [.int .u64 (v : Int)] 0 (some (25, 0)))) (hk : k ≤ 8) (hp : part < 256) (hv : v * 2 ^ k < 18446744073709551616) :
    FnC Try.prog tables ro 39 [.int .u8 (part : Int), .int .i64 (k : Int), .pointer (some ⟨a, 0, none⟩)] M (fun _ M' => M' = M.upd a (.row [.int .u64 ((v * 2 ^ k ||| part : Nat) : Int)] 0 (some (25, 0)))) := by
  refine FnC.body (nt := 11) ok hm fn39 rfl rfl ?_
  have e1 : (v : Int) * 2 ^ ((k : Int)).toNat % 18446744073709551616 = ((v * 2 ^ k : Nat) : Int) := by
    rw [Int.toNat_natCast]
    have : (v : Int) * 2 ^ k = ((v * 2 ^ k : Nat) : Int) := by simp
    rw [this]; omega
  have hor : v * 2 ^ k ||| part < 2 ^ 64 := Nat.or_lt_two_pow (by omega) (by omega)
  refine Ex.region ok hm ?_
  refine Sq.pu ok hm Want.none (by (apply Pu.load hT rfl rfl rfl; (focus ((repeat (assumption)))); (focus rfl))) rfl ?_
  refine Sq.pu ok hm Want.none (by exact Pu.move rfl) rfl ?_
  refine Sq.pu ok hm Want.none (by exact Pu.shlU64 rfl rfl (by omega) (by omega)) rfl ?_
  rw [e1]
  refine Sq.pu ok hm Want.none (by exact Pu.move rfl) rfl ?_
  refine Sq.pu ok hm Want.none (by exact Pu.convN hT rfl rfl rfl (by simp only [InR]; omega)) rfl ?_
  refine Sq.pu ok hm Want.none (Pu.or rfl rfl (by omega) (by omega) (by simp only [InR]; omega) (by simp only [InR]; omega)) rfl ?_
  rw [Int.toNat_natCast, Int.toNat_natCast]
  refine Sq.act ok hm Want.none (Op1.store hT rfl rfl rfl rfl h ha (Nat.le_of_ble_eq_true rfl) (Nat.le_of_ble_eq_true rfl) rfl) ?_
  refine Sq.nil ok hm ?_
  exact ⟨_, .nil, rfl⟩

set_option maxHeartbeats 4000000 in
theorem over_ok {ro : Nat} {M : AM} {r a at' n : Nat} {s : List UInt8} (hr : ro ≤ r) (ha : ro ≤ a) (hra : r ≠ a) (h : RdAt M r s at') (hb : M.get a = some (.row [.int .u64 (0 : Nat)] 0 (some (25, 0)))) (hn : n ≤ 64) (hat : at' + n ≤ 8 * s.length) (hs : s.length ≤ 1152921504606846000) :
    FnC Try.prog tables ro 38 [.pointer (some ⟨r, 0, none⟩), .int .i64 (n : Int), .func (.func 39) ⟨[]⟩ ⟨[.pointer (some ⟨a, 0, none⟩)]⟩] M
      (fun _ M' => RdAt M' r s (at' + n) ∧ M'.get a = some (.row [.int .u64 (valB (midT s at' n) : Nat)] 0 (some (25, 0))) ∧ Fr M M' [r, a]) := by
  refine FnC.body (nt := 48) ok hm fn38 rfl rfl ?_
  (repeat (refine Ex.block ok hm ?_))
  refine Ex.loop ?_
  refine Lp.inv ok hm (α := Nat)
    (fun m E M' => E = [(0, .pointer (some ⟨r, 0, none⟩)), (1, .int .i64 ((n : Int) - m)), (2, .func (.func 39) ⟨[]⟩ ⟨[.pointer (some ⟨a, 0, none⟩)]⟩)] ∧ m ≤ n ∧ RdAt M' r s (at' + m) ∧ M'.get a = some (.row [.int .u64 (valB (midT s at' m) : Nat)] 0 (some (25, 0))) ∧ Fr M M' [r, a])
    (fun m => n - m) ?_ 0 [(0, .pointer (some ⟨r, 0, none⟩)), (1, .int .i64 ((n : Int) - (0 : Nat))), (2, .func (.func 39) ⟨[]⟩ ⟨[.pointer (some ⟨a, 0, none⟩)]⟩)] ⟨rfl, by rw [show (n : Int) - (0 : Nat) = n by omega]; rfl, rfl, trivial⟩ ⟨rfl, Nat.zero_le _, h, by rw [midT_zero]; exact hb, Fr.refl _ _⟩
  intro m E M1 ⟨hE, hm1, h1, hb1, hF⟩
  subst hE
  by_cases hmn : m = n
  · (repeat (first
    | refine Ex.seq ok hm ?_
    | refine Ex.region ok hm ?_
    | refine Sq.pu ok hm Want.none (by first
    | exact Pu.move rfl
    | exact Pu.gtrI rfl rfl) rfl ?_
    | refine Sq.finH (n := 8) ok hm (by repeat (first
    | exact Keep.nil
    | apply Keep.drop rfl
    | apply Keep.keep rfl)) ?_
    | refine Ex.condF ok hm rfl (by first
    | rfl
    | exact decide_eq_false (by omega)) ?_
    | refine Ex.exit ok hm ?_))
    refine ⟨_, .nil, ?_, ?_, hF⟩
    · rw [← hmn]; exact h1
    · rw [← hmn]; exact hb1
  · have hrow : M1.get r = some (.row [.string ⟨⟨s⟩⟩, .int .i64 ((at' + m : Nat) : Int)] 0 (some (83, 0))) := h1
    have hlt := midT_lt s at' m
    (repeat (first
    | refine Ex.seq ok hm ?_
    | refine Ex.block ok hm ?_
    | refine Ex.skip ok hm ?_
    | refine Ex.region ok hm ?_
    | refine Sq.pu ok hm Want.none (by first
    | exact Pu.move rfl
    | exact Pu.assign rfl
    | exact Pu.nilCheck rfl
    | exact Pu.fieldAddr hT rfl rfl rfl rfl rfl
    | (apply Pu.load hT rfl rfl rfl; (focus ((repeat (assumption)))); (focus rfl))
    | exact Pu.sub rfl rfl (by simp only [InR]; omega)
    | exact Pu.rem rfl rfl (by omega) (by omega)
    | exact Pu.gtrI rfl rfl
    | exact Pu.min2 rfl rfl) rfl ?_
    | refine Sq.finH (n := 8) ok hm (by repeat (first
    | exact Keep.nil
    | apply Keep.drop rfl
    | apply Keep.keep rfl)) ?_
    | refine Ex.condT ok hm rfl (by first
    | rfl
    | exact decide_eq_true (by omega)) ?_))
    have hi8 : (at' + m) / 8 < s.length := by omega
    have hbyte := (s.getD ((at' + m) / 8) 0).toNat_lt
    obtain ⟨k, hk⟩ : ∃ k : Nat, min (8 - ((at' + m : Nat) : Int) % 8) ((n : Int) - m) = (k : Int) := ⟨_, (Int.toNat_of_nonneg (by omega)).symm⟩
    rw [hk]
    have hk1 : 1 ≤ k ∧ (at' + m) % 8 + k ≤ 8 ∧ m + k ≤ n := by omega
    refine Ex.draw ok hm 17 (by kernel_rfl) ?_
    (repeat (first
    | refine Hq.pu Want.none (by first
    | exact Pu.move rfl
    | exact Pu.nilCheck rfl
    | exact Pu.fieldAddr hT rfl rfl rfl rfl rfl
    | (apply Pu.load hT rfl rfl rfl; (focus ((repeat (assumption)))); (focus rfl))
    | exact Pu.sub rfl rfl (by simp only [InR]; omega)
    | exact Pu.quo rfl rfl (by omega) (by omega) (by simp only [InR]; omega)
    | exact Pu.indexS hT rfl rfl rfl (by omega) (by omega)
    | exact Pu.shr rfl rfl (by omega) (by omega) (by simp only [InR]; omega)
    | exact Pu.shlU8 rfl rfl (by omega) (by omega)) rfl rfl rfl ?_
    | refine Hq.nil ?_))
    have hpart : (((s.getD (((at' + m : Nat) : Int) / 8).toNat 0).toNat : Nat) : Int) * 2 ^ (((at' + m : Nat) : Int) % 8).toNat % 256 / 2 ^ (8 - (k : Int)).toNat = (((s.getD ((at' + m) / 8) 0).toNat * 2 ^ ((at' + m) % 8) % 256 / 2 ^ (8 - k) : Nat) : Int) := by
      rw [show (((at' + m : Nat) : Int) / 8).toNat = (at' + m) / 8 by omega, show (((at' + m : Nat) : Int) % 8).toNat = (at' + m) % 8 by omega, show (8 - (k : Int)).toNat = 8 - k by omega]
      simp
    rw [hpart]
    have hstep := midT_step s at' m k hi8 hk1.2.1
    have hlt2 : valB (midT s at' m) * 2 ^ k < 18446744073709551616 := by
      have h2 : valB (midT s at' m) * 2 ^ k < 2 ^ m * 2 ^ k := Nat.mul_lt_mul_of_pos_right hlt (Nat.two_pow_pos k)
      rw [← Nat.pow_add] at h2
      exact Nat.lt_of_lt_of_le h2 (Nat.pow_le_pow_right (by omega) (show m + k ≤ 64 by omega))
    refine Tq.call Want.none (Op1.call rfl rfl fn39) rfl (FnC.mono (share_ok ha hb1 (by omega) (Nat.lt_of_le_of_lt (Nat.div_le_self _ _) (Nat.mod_lt _ (by decide))) hlt2) ?_)
    rintro x M2 rfl
    rw [← hstep]
    refine Tq.finH (n := 8) (by repeat (first
    | exact Keep.nil
    | apply Keep.drop rfl
    | apply Keep.keep rfl)) ?_
    have hrow2 : (M1.upd a (.row [.int .u64 ((valB (midT s at' (m + k)) : Nat) : Int)] 0 (some (25, 0)))).get r = some (.row [.string ⟨⟨s⟩⟩, .int .i64 ((at' + m : Nat) : Int)] 0 (some (83, 0))) := (AM.upd_ne hra).trans hrow
    (repeat (first
    | refine Ex.seq ok hm ?_
    | refine Ex.region ok hm ?_
    | refine Sq.pu ok hm Want.none (by first
    | exact Pu.move rfl
    | exact Pu.nilCheck rfl
    | exact Pu.fieldAddr hT rfl rfl rfl rfl rfl
    | (apply Pu.load hT rfl rfl rfl; (focus ((repeat (assumption)))); (focus rfl))
    | exact Pu.add rfl rfl (by simp only [InR]; omega)) rfl ?_))
    refine Sq.act ok hm Want.none (Op1.store hT rfl rfl rfl rfl hrow2 hr (Nat.le_of_ble_eq_true rfl) (Nat.le_of_ble_eq_true rfl) rfl) ?_
    (repeat (first
    | refine Ex.region ok hm ?_
    | refine Sq.pu ok hm Want.none (by first
    | exact Pu.move rfl
    | exact Pu.assign rfl
    | exact Pu.sub rfl rfl (by simp only [InR]; omega)) rfl ?_
    | refine Sq.finH (n := 8) ok hm (by repeat (first
    | exact Keep.nil
    | apply Keep.drop rfl
    | apply Keep.keep rfl)) ?_))
    refine ⟨m + k, [(0, .pointer (some ⟨r, 0, none⟩)), (1, .int .i64 ((n : Int) - (m + k : Nat))), (2, .func (.func 39) ⟨[]⟩ ⟨[.pointer (some ⟨a, 0, none⟩)]⟩)], ?_, ⟨rfl, ?_, rfl, trivial⟩, rfl, by omega, ?_, ?_, ?_⟩
    · show n - (m + k) < n - m
      omega
    · rw [show (n : Int) - (m + k : Nat) = (n : Int) - m - k by omega]; rfl
    · unfold RdAt
      refine AM.upd_same.trans ?_
      rw [show ((at' + (m + k) : Nat) : Int) = ((at' + m : Nat) : Int) + k by omega]; rfl
    · exact (AM.upd_ne (Ne.symm hra)).trans AM.upd_same
    · exact (hF.upd' _ (.inl (by simp))).upd' _ (.inl (by simp))

/-- What a reader answers to Take. -/
def takeE (s : List UInt8) (at' : Nat) (n : Int) : Nat × Int × Nat :=
  if n < 0 ∨ 64 < n then (0, 1, at') else if 8 * (s.length : Int) - at' < n then (0, 4, at') else (valB (midT s at' n.toNat), 0, at' + n.toNat)

set_option maxHeartbeats 4000000 in
theorem take_ok {ro : Nat} {M : AM} {r at' : Nat} {n : Int} {s : List UInt8} (hr : ro ≤ r) (h : RdAt M r s at') (hn : InR .i64 n) (hat : at' ≤ 8 * s.length) (hs : s.length ≤ 1152921504606846000) :
    FnC Try.prog tables ro 21 [.pointer (some ⟨r, 0, none⟩), .int .i64 n] M
      (fun v M' => v = .tuple ⟨[.int .u64 ((takeE s at' n).1 : Nat), .int .i64 (takeE s at' n).2.1]⟩ ∧ RdAt M' r s (takeE s at' n).2.2 ∧ Fr M M' [r]) := by
  refine FnC.body (nt := 27) ok hm fn21 rfl rfl ?_
  refine Ex.facts fun hlt hron => ?_
  have hrl := hlt _ _ h
  simp only [InR] at hn
  by_cases h1 : n < 0
  · have e : takeE s at' n = (0, 1, at') := by unfold takeE; rw [if_pos (.inl h1)]
    rw [e]
    (repeat (first
    | refine Ex.seq ok hm ?_
    | refine Ex.block ok hm ?_
    | refine Ex.region ok hm ?_
    | refine Sq.pu ok hm Want.none (by first
    | exact Pu.move rfl
    | exact Pu.assign rfl
    | exact Pu.lssI rfl rfl
    | exact Pu.eqlP hT rfl rfl rfl
    | exact Pu.pickT rfl (by first
    | rfl
    | exact decide_eq_true (by omega)) rfl) rfl ?_
    | refine Sq.skip ok hm (by exact Want.no rfl rfl rfl (by first
    | rfl
    | exact decide_eq_true (by omega))) rfl ?_
    | refine Sq.finH (n := 7) ok hm (by repeat (first
    | exact Keep.nil
    | apply Keep.drop rfl
    | apply Keep.keep rfl)) ?_
    | refine Ex.condT ok hm rfl (by rfl) ?_
    | refine Ex.condF ok hm rfl (by rfl) ?_
    | refine Ex.ret ok hm ?_))
    exact ⟨_, .tmp rfl (.tmp rfl .nil), rfl, h, Fr.refl _ _⟩
  · by_cases h2 : 64 < n
    · have e : takeE s at' n = (0, 1, at') := by unfold takeE; rw [if_pos (.inr h2)]
      rw [e]
      (repeat (first
    | refine Ex.seq ok hm ?_
    | refine Ex.block ok hm ?_
    | refine Ex.region ok hm ?_
    | refine Sq.pu ok hm Want.none (by first
    | exact Pu.move rfl
    | exact Pu.assign rfl
    | exact Pu.lssI rfl rfl
    | exact Pu.gtrI rfl rfl
    | exact Pu.eqlP hT rfl rfl rfl
    | exact Pu.pickF rfl (by first
    | rfl
    | exact decide_eq_false (by omega)) rfl) rfl ?_
    | refine Sq.pu ok hm (by exact Want.yes rfl rfl rfl (by first
    | rfl
    | exact decide_eq_false (by omega))) (by first
    | exact Pu.move rfl
    | exact Pu.gtrI rfl rfl) rfl ?_
    | refine Sq.finH (n := 7) ok hm (by repeat (first
    | exact Keep.nil
    | apply Keep.drop rfl
    | apply Keep.keep rfl)) ?_
    | refine Ex.condT ok hm rfl (by first
    | rfl
    | exact decide_eq_true (by omega)) ?_
    | refine Ex.condF ok hm rfl (by rfl) ?_
    | refine Ex.ret ok hm ?_))
      exact ⟨_, .tmp rfl (.tmp rfl .nil), rfl, h, Fr.refl _ _⟩
    · (repeat (first
    | refine Ex.seq ok hm ?_
    | refine Ex.block ok hm ?_
    | refine Ex.region ok hm ?_
    | refine Sq.pu ok hm Want.none (by first
    | exact Pu.move rfl
    | exact Pu.assign rfl
    | exact Pu.lssI rfl rfl
    | exact Pu.gtrI rfl rfl
    | exact Pu.eqlP hT rfl rfl rfl
    | exact Pu.pickF rfl (by first
    | rfl
    | exact decide_eq_false (by omega)) rfl) rfl ?_
    | refine Sq.pu ok hm (by first
    | exact Want.none
    | exact Want.yes rfl rfl rfl (by first
    | rfl
    | exact decide_eq_false (by omega))) (by first
    | exact Pu.move rfl
    | exact Pu.gtrI rfl rfl) rfl ?_
    | refine Sq.finH (n := 7) ok hm (by repeat (first
    | exact Keep.nil
    | apply Keep.drop rfl
    | apply Keep.keep rfl)) ?_
    | refine Ex.condF ok hm rfl (by first
    | rfl
    | exact decide_eq_false (by omega)) ?_))
      refine Sq.call ok Want.none (Op1.call rfl rfl fn23) rfl (FnC.mono (left_ok h hat hs) ?_)
      rintro x M1 ⟨rfl, rfl⟩
      by_cases h3 : 8 * (s.length : Int) - at' < n
      · have e : takeE s at' n = (0, 4, at') := by unfold takeE; rw [if_neg (by omega), if_pos h3]
        rw [e]
        (repeat (first
    | refine Ex.seq ok hm ?_
    | refine Ex.region ok hm ?_
    | refine Sq.pu ok hm Want.none (by first
    | exact Pu.assign rfl
    | exact Pu.gtrI rfl rfl) rfl ?_
    | refine Sq.finH (n := 7) ok hm (by repeat (first
    | exact Keep.nil
    | apply Keep.drop rfl
    | apply Keep.keep rfl)) ?_
    | refine Ex.condT ok hm rfl (by first
    | rfl
    | exact decide_eq_true (by omega)) ?_
    | refine Ex.ret ok hm ?_))
        exact ⟨_, .tmp rfl (.tmp rfl .nil), rfl, h, Fr.refl _ _⟩
      · have e : takeE s at' n = (valB (midT s at' n.toNat), 0, at' + n.toNat) := by unfold takeE; rw [if_neg (by omega), if_neg h3]
        rw [e]
        (repeat (first
    | refine Ex.seq ok hm ?_
    | refine Ex.skip ok hm ?_
    | refine Ex.region ok hm ?_
    | refine Sq.pu ok hm Want.none (by first
    | exact Pu.assign rfl
    | exact Pu.gtrI rfl rfl) rfl ?_
    | refine Sq.finH (n := 7) ok hm (by repeat (first
    | exact Keep.nil
    | apply Keep.drop rfl
    | apply Keep.keep rfl)) ?_
    | refine Ex.condF ok hm rfl (by first
    | rfl
    | exact decide_eq_false (by omega)) ?_))
        refine Sq.op ok hm Want.none (Op1.alloc hT rfl rfl rfl) rfl ?_
        (repeat (first
    | refine Ex.seq ok hm ?_
    | refine Ex.region ok hm ?_
    | refine Sq.pu ok hm Want.none (by exact Pu.move rfl) rfl ?_
    | refine Sq.finH (n := 7) ok hm (by repeat (first
    | exact Keep.nil
    | apply Keep.drop rfl
    | apply Keep.keep rfl)) ?_))
        refine Sq.pu ok hm Want.none (Pu.makeFunc rfl rfl) rfl ?_
        have h5 : RdAt (M1.add (.row [.int .u64 0] 0 (some (25, 0)))) r s at' := (AM.add_ne (by omega)).trans h
        have h6 : (M1.add (.row [.int .u64 (0 : Nat)] 0 (some (25, 0)))).get M1.next = some (.row [.int .u64 (0 : Nat)] 0 (some (25, 0))) := AM.add_same
        have e2 : (.int .i64 n : Value) = .int .i64 (n.toNat : Int) := by rw [show ((n.toNat : Nat) : Int) = n by omega]
        refine Sq.call ok Want.none (Op1.call rfl rfl fn38) rfl ?_
        show FnC Try.prog tables ro 38 [.pointer (some ⟨r, 0, none⟩), .int .i64 n, .func (.func 39) ⟨[]⟩ ⟨[.pointer (some ⟨M1.next, 0, none⟩)]⟩] (M1.add (.row [.int .u64 (0 : Nat)] 0 (some (25, 0)))) _
        rw [e2]
        refine FnC.mono (over_ok hr hron (by omega) h5 h6 (by omega) (by omega) hs) ?_
        rintro x M2 ⟨h7, h8, hF⟩
        (repeat (first
    | refine Ex.seq ok hm ?_
    | refine Ex.region ok hm ?_
    | refine Sq.pu ok hm Want.none (by first
    | exact Pu.assign rfl
    | (apply Pu.load hT rfl rfl rfl; (focus ((repeat (assumption)))); (focus rfl))) rfl ?_
    | refine Sq.finH (n := 7) ok hm (by repeat (first
    | exact Keep.nil
    | apply Keep.drop rfl
    | apply Keep.keep rfl)) ?_
    | refine Ex.ret ok hm ?_))
        refine ⟨_, .tmp rfl (.tmp rfl .nil), rfl, h7, (Fr.add M1 _ [r]).trans hF (fun b hb => ?_)⟩
        simp only [List.mem_cons, List.not_mem_nil, or_false] at hb ⊢
        omega

set_option maxHeartbeats 4000000 in
theorem rdBit_ok {ro : Nat} {M : AM} {r at' : Nat} {s : List UInt8} (hr : ro ≤ r) (h : RdAt M r s at') (hat : at' ≤ 8 * s.length) (hs : s.length ≤ 1152921504606846000) :
    FnC Try.prog tables ro 31 [.pointer (some ⟨r, 0, none⟩)] M
      (fun v M' => v = .tuple ⟨[.bool (decide ((takeE s at' 1).1 = 1)), .int .i64 (takeE s at' 1).2.1]⟩ ∧ RdAt M' r s (takeE s at' 1).2.2 ∧ Fr M M' [r]) := by
  refine FnC.body (nt := 14) ok hm fn31 rfl rfl ?_
  (repeat (first
    | refine Ex.seq ok hm ?_
    | refine Ex.region ok hm ?_
    | refine Sq.pu ok hm Want.none (by first
    | exact Pu.move rfl
    | exact Pu.assign rfl) rfl ?_
    | refine Sq.finH (n := 7) ok hm (by repeat (first
    | exact Keep.nil
    | apply Keep.keep rfl)) ?_))
  refine Sq.call ok Want.none (Op1.call rfl rfl fn21) rfl (FnC.mono (take_ok (n := 1) hr h (by simp only [InR]; omega) hat hs) ?_)
  rintro x M1 ⟨rfl, h1, hF⟩
  (repeat (first
    | refine Ex.seq ok hm ?_
    | refine Ex.region ok hm ?_
    | refine Sq.pu ok hm Want.none (by first
    | exact Pu.move rfl
    | exact Pu.assign rfl
    | exact Pu.extract rfl rfl
    | exact Pu.eqlI rfl rfl) rfl ?_
    | refine Sq.finH (n := 7) ok hm (by repeat (first
    | exact Keep.nil
    | apply Keep.drop rfl
    | apply Keep.keep rfl)) ?_
    | refine Ex.ret ok hm ?_))
  refine ⟨_, .tmp rfl (.tmp rfl .nil), ?_, h1, hF⟩
  have e : decide (((takeE s at' 1).1 : Int) = 1) = decide ((takeE s at' 1).1 = 1) := by
    rw [Bool.eq_iff_iff, decide_eq_true_eq, decide_eq_true_eq]; omega
  rw [e]; rfl
end Go.Proofs.Ytlhfolmhgghjcaa
namespace Go.Proofs.Ytlhfolmhgghjcaa
open Go.Wvm Bits
set_option linter.unusedVariables false
set_option linter.unusedSimpArgs false

theorem sliceMid {M : AM} {t e : TypeId} {c m a b u : Nat} {l : List Value} {tt : Option (TypeId × Nat)} {s by' : Nat} {z : Option Value} {g : Bool} {ei : TyI}
    (ht : tyGet T t = some ⟨.slice e, s, by', z, g⟩) (he : tyGet T e = some ei) (hm : m ≠ 0 → M.get c = some (.row l u tt)) (hu : (Nat.beq u 0 || Nat.beq ei.size u) = true) (h0 : a ≤ b) (h1 : b ≤ m) :
    ∃ (b' : Option Addr) (cap' : Nat), (∀ (E : En) (x lo hi : Operand), evE E x = some (bufV c m) → evE E lo = some (.int .i64 (a : Int)) → evE E hi = some (.int .i64 (b : Int)) → Pu Try.prog tables E M (.slice t x (some lo) (some hi) none) (.slice b' (b - a) cap')) ∧ (b - a ≠ 0 → b' = some ⟨c, a * ei.size, none⟩) := by
  have hl' : ∀ (E : En) (lo : Operand), evE E lo = some (.int .i64 (a : Int)) → evOE E (some lo) = some (some (.int .i64 (a : Int))) := fun E lo hl => by simp only [evOE, hl]
  have hh' : ∀ (E : En) (lo : Operand), evE E lo = some (.int .i64 (b : Int)) → evOE E (some lo) = some (some (.int .i64 (b : Int))) := fun E lo hl => by simp only [evOE, hl]
  by_cases h2 : m = 0
  · subst h2
    refine ⟨none, 0 - a, fun E x lo hi hx hl hh => ?_, fun h => by omega⟩
    have hx' : evE E x = some (.slice none 0 0) := hx
    have := Pu.sliceN (P := Try.prog) (M := M) hT hx' (hl' _ _ hl) (hh' _ _ hh) ht he (bounds_lh (by omega) (by omega) (by omega))
    simp only [Int.toNat_natCast] at this
    exact this
  · by_cases h3 : a = m
    · have hb : bounds m m (some (.int .i64 (a : Int))) (some (.int .i64 (b : Int))) none = some (m, b, m) := by
        rw [bounds_lh (by omega) (by omega) (by omega), Int.toNat_natCast, Int.toNat_natCast, h3]
      refine ⟨some ⟨c, 0, none⟩, 0, fun E x lo hi hx hl hh => ?_, fun h => by omega⟩
      rw [bufV_pos c m h2] at hx
      have := Pu.sliceLE (P := Try.prog) (M := M) hT hx (hl' _ _ hl) (hh' _ _ hh) ht he hb (hm h2) hu
      have e : b - a = 0 := by omega
      rw [e]
      exact this
    · have hb : bounds m m (some (.int .i64 (a : Int))) (some (.int .i64 (b : Int))) none = some (a, b, m) := by
        rw [bounds_lh (by omega) (by omega) (by omega), Int.toNat_natCast, Int.toNat_natCast]
      refine ⟨some ⟨c, a * ei.size, none⟩, m - a, fun E x lo hi hx hl hh => ?_, fun _ => rfl⟩
      rw [bufV_pos c m h2] at hx
      have := Pu.sliceL (P := Try.prog) (M := M) hT hx (hl' _ _ hl) (hh' _ _ hh) ht he hb (hm h2) hu (by omega)
      rw [Nat.zero_add] at this
      exact this

set_option maxHeartbeats 4000000 in
theorem num_ok {ro : Nat} {M : AM} {c o n cap : Nat} {b : Option Addr} {L : List Bool} (hb : n ≠ 0 → b = some ⟨c, o, none⟩ ∧ M.get c = some (.row (L.map Value.bool) 1 (some (4, 0))) ∧ o + n ≤ L.length) (hn : n ≤ 64) :
    FnC Try.prog tables ro 35 [.slice b n cap] M (fun v M' => v = .int .u64 (valB ((L.drop o).take n) : Nat) ∧ M' = M) := by
  refine FnC.body (nt := 20) ok hm fn35 rfl rfl ?_
  (repeat (first
    | refine Ex.seq ok hm ?_
    | refine Ex.block ok hm ?_
    | refine Ex.region ok hm ?_
    | refine Sq.pu ok hm Want.none (by exact Pu.assign rfl) rfl ?_
    | refine Sq.finH (n := 5) ok hm (by repeat (first
    | exact Keep.nil
    | apply Keep.keep rfl)) ?_))
  refine Ex.loop ?_
  refine Lp.inv ok hm (α := Nat)
    (fun i E M' => E = [(3, .int .u64 (valB ((L.drop o).take i) : Nat)), (4, .int .i64 i), (0, .slice b n cap)] ∧ i ≤ n ∧ M' = M)
    (fun i => n - i) ?_ 0 [(3, .int .u64 (valB ((L.drop o).take 0) : Nat)), (4, .int .i64 (0 : Nat)), (0, .slice b n cap)] ⟨rfl, rfl, rfl, trivial⟩ ⟨rfl, Nat.zero_le _, rfl⟩
  intro i E M1 ⟨hE, hi, hM1⟩
  subst hE hM1
  by_cases hin : i = n
  · subst hin
    (repeat (first
    | refine Ex.seq ok hm ?_
    | refine Ex.region ok hm ?_
    | refine Sq.pu ok hm Want.none (by first
    | exact Pu.move rfl
    | exact Pu.assign rfl
    | exact Pu.lssI rfl rfl
    | exact Pu.lenL hT rfl rfl) rfl ?_
    | refine Sq.finH (n := 5) ok hm (by repeat (first
    | exact Keep.nil
    | apply Keep.drop rfl
    | apply Keep.keep rfl)) ?_
    | refine Ex.condF ok hm rfl (by first
    | rfl
    | exact decide_eq_false (by omega)) ?_
    | refine Ex.ret ok hm ?_
    | refine Ex.exit ok hm ?_))
    exact ⟨_, .tmp rfl .nil, rfl, rfl⟩
  · obtain ⟨hb1, hb2, hb3⟩ := hb (by omega)
    subst hb1
    have hlt : valB ((L.drop o).take i) < 2 ^ i := by
      have h := valB_lt ((L.drop o).take i)
      have h2 : ((L.drop o).take i).length ≤ i := by rw [List.length_take]; omega
      exact Nat.lt_of_lt_of_le h (Nat.pow_le_pow_right (by omega) h2)
    have hlt2 : (2 : Nat) ^ i ≤ 2 ^ 63 := Nat.pow_le_pow_right (by omega) (by omega)
    have hlt3 : (2 : Nat) ^ 63 = 9223372036854775808 := by decide
    have hsn : valB ((L.drop o).take (i + 1)) = 2 * valB ((L.drop o).take i) + (L.getD (o + i) false).toNat := by
      rw [take_snoc (L.drop o) i (by rw [List.length_drop]; omega), valB_append]
      have e1 : (L.drop o).getD i false = L.getD (o + i) false := by simp [List.getD_eq_getElem?_getD]
      rw [e1]
      have e2 : valB [L.getD (o + i) false] = (L.getD (o + i) false).toNat := by simp [valB]
      rw [e2]; simp; omega
    have hbl : (L.map Value.bool)[o + (i : Int).toNat * 1]? = some (.bool (L.getD (o + i) false)) := by
      rw [Int.toNat_natCast, Nat.mul_one]
      have : o + i < L.length := by omega
      simp [List.getD_eq_getElem?_getD, this]
    (repeat (first
    | refine Ex.seq ok hm ?_
    | refine Ex.block ok hm ?_
    | refine Ex.skip ok hm ?_
    | refine Ex.region ok hm ?_
    | refine Sq.pu ok hm Want.none (by first
    | exact Pu.move rfl
    | exact Pu.assign rfl
    | exact Pu.lssI rfl rfl
    | exact Pu.lenL hT rfl rfl
    | exact Pu.mul rfl rfl (by simp only [InR]; omega)
    | exact Pu.indexAddr hT rfl rfl rfl rfl (by omega) (by omega)) rfl ?_
    | refine Sq.finH (n := 5) ok hm (by repeat (first
    | exact Keep.nil
    | apply Keep.drop rfl
    | apply Keep.keep rfl)) ?_
    | refine Ex.condT ok hm rfl (by first
    | rfl
    | exact decide_eq_true (by omega)) ?_))
    refine Sq.pu ok hm Want.none (Pu.load hT rfl rfl rfl hb2 hbl) rfl ?_
    cases hbit : L.getD (o + i) false with
    | true =>
      rw [hbit] at hsn
      (repeat (first
    | refine Ex.region ok hm ?_
    | refine Sq.pu ok hm Want.none (by first
    | exact Pu.move rfl
    | exact Pu.assign rfl
    | exact Pu.add rfl rfl (by simp only [InR]; omega)) rfl ?_
    | refine Sq.finH (n := 5) ok hm (by repeat (first
    | exact Keep.nil
    | apply Keep.drop rfl
    | apply Keep.keep rfl)) ?_
    | refine Ex.condT ok hm rfl (by rfl) ?_))
      refine ⟨i + 1, [(3, .int .u64 (valB ((L.drop o).take (i + 1)) : Nat)), (4, .int .i64 ((i + 1 : Nat) : Int)), (0, .slice (some ⟨c, o, none⟩) n cap)], ?_, ⟨?_, rfl, rfl, trivial⟩, rfl, by omega, rfl⟩
      · show n - (i + 1) < n - i
        omega
      · rw [hsn]; simp [enGet]
    | false =>
      rw [hbit] at hsn
      (repeat (first
    | refine Ex.skip ok hm ?_
    | refine Ex.region ok hm ?_
    | refine Sq.pu ok hm Want.none (by first
    | exact Pu.move rfl
    | exact Pu.assign rfl
    | exact Pu.add rfl rfl (by simp only [InR]; omega)) rfl ?_
    | refine Sq.finH (n := 5) ok hm (by repeat (first
    | exact Keep.nil
    | apply Keep.drop rfl
    | apply Keep.keep rfl)) ?_
    | refine Ex.condF ok hm rfl (by rfl) ?_))
      refine ⟨i + 1, [(3, .int .u64 (valB ((L.drop o).take (i + 1)) : Nat)), (4, .int .i64 ((i + 1 : Nat) : Int)), (0, .slice (some ⟨c, o, none⟩) n cap)], ?_, ⟨?_, rfl, rfl, trivial⟩, rfl, by omega, rfl⟩
      · show n - (i + 1) < n - i
        omega
      · rw [hsn]; simp [enGet]

structure RqAt (M : AM) (q c : Nat) (s : List UInt8) (at' : Nat) : Prop where
  row : M.get q = some (.row [bufV c (8 * s.length), .int .i64 (at' : Int)] 0 (some (55, 0)))
  buf : 8 * s.length ≠ 0 → M.get c = some (.row ((bitsOf s).map Value.bool) 1 (some (4, 0)))
  ne : q ≠ c

set_option maxHeartbeats 4000000 in
theorem rTake_ok {ro : Nat} {M : AM} {q c at' : Nat} {n : Int} {s : List UInt8} (hr : ro ≤ q) (h : RqAt M q c s at') (hn : InR .i64 n) (hat : at' ≤ 8 * s.length) (hs : s.length ≤ 1152921504606846000) :
    FnC Try.prog tables ro 34 [.pointer (some ⟨q, 0, none⟩), .int .i64 n] M
      (fun v M' => v = .tuple ⟨[.int .u64 ((takeE s at' n).1 : Nat), .int .i64 (takeE s at' n).2.1]⟩ ∧ RqAt M' q c s (takeE s at' n).2.2 ∧ Fr M M' [q]) := by
  refine FnC.body (nt := 51) ok hm fn34 rfl rfl ?_
  have hrow := h.row
  simp only [InR] at hn
  by_cases h1 : n < 0
  · have e : takeE s at' n = (0, 1, at') := by unfold takeE; rw [if_pos (.inl h1)]
    rw [e]
    (repeat (first
    | refine Ex.seq ok hm ?_
    | refine Ex.region ok hm ?_
    | refine Sq.pu ok hm Want.none (by first
    | exact Pu.move rfl
    | exact Pu.assign rfl
    | exact Pu.lssI rfl rfl
    | exact Pu.pickT rfl (by first
    | rfl
    | exact decide_eq_true (by omega)) rfl) rfl ?_
    | refine Sq.skip ok hm (by exact Want.no rfl rfl rfl (by first
    | rfl
    | exact decide_eq_true (by omega))) rfl ?_
    | refine Sq.finH (n := 7) ok hm (by repeat (first
    | exact Keep.nil
    | apply Keep.drop rfl
    | apply Keep.keep rfl)) ?_
    | refine Ex.condT ok hm rfl (by rfl) ?_
    | refine Ex.ret ok hm ?_))
    exact ⟨_, .tmp rfl (.tmp rfl .nil), rfl, h, Fr.refl _ _⟩
  · by_cases h2 : 64 < n
    · have e : takeE s at' n = (0, 1, at') := by unfold takeE; rw [if_pos (.inr h2)]
      rw [e]
      (repeat (first
    | refine Ex.seq ok hm ?_
    | refine Ex.region ok hm ?_
    | refine Sq.pu ok hm Want.none (by first
    | exact Pu.move rfl
    | exact Pu.assign rfl
    | exact Pu.lssI rfl rfl
    | exact Pu.gtrI rfl rfl
    | exact Pu.pickF rfl (by first
    | rfl
    | exact decide_eq_false (by omega)) rfl) rfl ?_
    | refine Sq.pu ok hm (by exact Want.yes rfl rfl rfl (by first
    | rfl
    | exact decide_eq_false (by omega))) (by first
    | exact Pu.move rfl
    | exact Pu.gtrI rfl rfl) rfl ?_
    | refine Sq.finH (n := 7) ok hm (by repeat (first
    | exact Keep.nil
    | apply Keep.drop rfl
    | apply Keep.keep rfl)) ?_
    | refine Ex.condT ok hm rfl (by first
    | rfl
    | exact decide_eq_true (by omega)) ?_
    | refine Ex.ret ok hm ?_))
      exact ⟨_, .tmp rfl (.tmp rfl .nil), rfl, h, Fr.refl _ _⟩
    · (repeat (first
    | refine Ex.seq ok hm ?_
    | refine Ex.skip ok hm ?_
    | refine Ex.region ok hm ?_
    | refine Sq.pu ok hm Want.none (by first
    | exact Pu.move rfl
    | exact Pu.assign rfl
    | exact Pu.lssI rfl rfl
    | exact Pu.gtrI rfl rfl
    | exact Pu.pickF rfl (by first
    | rfl
    | exact decide_eq_false (by omega)) rfl) rfl ?_
    | refine Sq.pu ok hm (by exact Want.yes rfl rfl rfl (by first
    | rfl
    | exact decide_eq_false (by omega))) (by first
    | exact Pu.move rfl
    | exact Pu.gtrI rfl rfl) rfl ?_
    | refine Sq.finH (n := 7) ok hm (by repeat (first
    | exact Keep.nil
    | apply Keep.drop rfl
    | apply Keep.keep rfl)) ?_
    | refine Ex.condF ok hm rfl (by first
    | rfl
    | exact decide_eq_false (by omega)) ?_))
      refine Ex.draw ok hm 11 (by kernel_rfl) ?_
      by_cases h3 : 8 * (s.length : Int) - at' < n
      · have e : takeE s at' n = (0, 4, at') := by unfold takeE; rw [if_neg (by omega), if_pos h3]
        rw [e]
        (repeat (first
    | refine Ex.seq ok hm ?_
    | refine Ex.region ok hm ?_
    | refine Sq.pu ok hm Want.none (by exact Pu.assign rfl) rfl ?_
    | refine Sq.finH (n := 7) ok hm (by repeat (first
    | exact Keep.nil
    | apply Keep.drop rfl
    | apply Keep.keep rfl)) ?_
    | refine Hq.pu Want.none (by first
    | exact Pu.move rfl
    | exact Pu.nilCheck rfl
    | exact Pu.fieldAddr hT rfl rfl rfl rfl rfl
    | (apply Pu.load hT rfl rfl rfl; (focus ((repeat (assumption)))); (focus rfl))
    | exact Pu.sub rfl rfl (by simp only [InR]; omega)
    | exact Pu.lenBuf hT rfl rfl) rfl rfl rfl ?_
    | refine Hq.nil ?_
    | refine Tq.pu Want.none (by exact Pu.gtrI rfl rfl) rfl ?_
    | refine Tq.finH (n := 7)  (by repeat (first
    | exact Keep.nil
    | apply Keep.drop rfl
    | apply Keep.keep rfl)) ?_
    | refine Ex.condT ok hm rfl (by first
    | rfl
    | exact decide_eq_true (by omega)) ?_
    | refine Ex.ret ok hm ?_))
        exact ⟨_, .tmp rfl (.tmp rfl .nil), rfl, h, Fr.refl _ _⟩
      · have e : takeE s at' n = (valB (midT s at' n.toNat), 0, at' + n.toNat) := by unfold takeE; rw [if_neg (by omega), if_neg h3]
        rw [e]
        obtain ⟨m, rfl⟩ : ∃ m : Nat, n = m := ⟨n.toNat, by omega⟩
        rw [Int.toNat_natCast]
        have hbl := bitsOf_length s
        obtain ⟨b', cap', hsl, hb'⟩ := sliceMid (M := M) (t := 52) (m := 8 * s.length) (c := c) (a := at') (b := at' + m) rfl rfl h.buf rfl (by omega) (by omega)
        (repeat (first
    | refine Ex.seq ok hm ?_
    | refine Ex.skip ok hm ?_
    | refine Hq.pu Want.none (by first
    | exact Pu.move rfl
    | exact Pu.nilCheck rfl
    | exact Pu.fieldAddr hT rfl rfl rfl rfl rfl
    | (apply Pu.load hT rfl rfl rfl; (focus ((repeat (assumption)))); (focus rfl))
    | exact Pu.sub rfl rfl (by simp only [InR]; omega)
    | exact Pu.lenBuf hT rfl rfl) rfl rfl rfl ?_
    | refine Hq.nil ?_
    | refine Tq.pu Want.none (by exact Pu.gtrI rfl rfl) rfl ?_
    | refine Tq.finH (n := 7)  (by repeat (first
    | exact Keep.nil
    | apply Keep.drop rfl
    | apply Keep.keep rfl)) ?_
    | refine Ex.condF ok hm rfl (by first
    | rfl
    | exact decide_eq_false (by omega)) ?_))
        refine Ex.draw ok hm 14 (by kernel_rfl) ?_
        (repeat (first
    | refine Hq.pu Want.none (by first
    | exact Pu.move rfl
    | exact Pu.nilCheck rfl
    | exact Pu.fieldAddr hT rfl rfl rfl rfl rfl
    | (apply Pu.load hT rfl rfl rfl; (focus ((repeat (assumption)))); (focus rfl))
    | exact Pu.add rfl rfl (by simp only [InR]; omega)) rfl rfl rfl ?_
    | refine Hq.nil ?_))
        refine Tq.pu Want.none (hsl _ _ _ _ rfl rfl rfl) rfl ?_
        rw [show at' + m - at' = m by omega] at hb' ⊢
        refine Tq.call Want.none (Op1.call rfl rfl fn35) rfl (FnC.mono (num_ok (c := c) (o := at') (L := bitsOf s) (fun k => ⟨(hb' k).trans (by simp), h.buf (by omega), by omega⟩) (by omega)) ?_)
        rintro x M1 ⟨rfl, rfl⟩
        (repeat (first
    | refine Ex.seq ok hm ?_
    | refine Ex.region ok hm ?_
    | refine Sq.pu ok hm Want.none (by first
    | exact Pu.move rfl
    | exact Pu.nilCheck rfl
    | exact Pu.fieldAddr hT rfl rfl rfl rfl rfl
    | (apply Pu.load hT rfl rfl rfl; (focus ((repeat (assumption)))); (focus rfl))
    | exact Pu.add rfl rfl (by simp only [InR]; omega)) rfl ?_
    | refine Tq.pu Want.none (by exact Pu.assign rfl) rfl ?_
    | refine Tq.finH (n := 7)  (by repeat (first
    | exact Keep.nil
    | apply Keep.drop rfl
    | apply Keep.keep rfl)) ?_))
        refine Sq.act ok hm Want.none (Op1.store hT rfl rfl rfl rfl hrow hr (Nat.le_of_ble_eq_true rfl) (Nat.le_of_ble_eq_true rfl) rfl) ?_
        (repeat (first
    | refine Ex.seq ok hm ?_
    | refine Ex.region ok hm ?_
    | refine Sq.pu ok hm Want.none (by first
    | exact Pu.move rfl
    | exact Pu.assign rfl) rfl ?_
    | refine Sq.finH (n := 7) ok hm (by repeat (first
    | exact Keep.nil
    | apply Keep.drop rfl
    | apply Keep.keep rfl)) ?_
    | refine Ex.ret ok hm ?_))
        refine ⟨_, .tmp rfl (.tmp rfl .nil), rfl, ⟨?_, fun k => (AM.upd_ne (Ne.symm h.ne)).trans (h.buf k), h.ne⟩, (Fr.refl _ _).upd' _ (.inl (by simp))⟩
        exact AM.upd_same

theorem rdrBit_ok {ro : Nat} {M : AM} {q c at' : Nat} {s : List UInt8} (hr : ro ≤ q) (h : RqAt M q c s at') (hat : at' ≤ 8 * s.length) (hs : s.length ≤ 1152921504606846000) :
    FnC Try.prog tables ro 62 [.pointer (some ⟨q, 0, none⟩)] M
      (fun v M' => v = .tuple ⟨[.bool (decide ((takeE s at' 1).1 = 1)), .int .i64 (takeE s at' 1).2.1]⟩ ∧ RqAt M' q c s (takeE s at' 1).2.2 ∧ Fr M M' [q]) := by
  refine FnC.body (nt := 14) ok hm fn62 rfl rfl ?_
  (repeat (first
    | refine Ex.seq ok hm ?_
    | refine Ex.region ok hm ?_
    | refine Sq.pu ok hm Want.none (by first
    | exact Pu.move rfl
    | exact Pu.assign rfl) rfl ?_
    | refine Sq.finH (n := 7) ok hm (by repeat (first
    | exact Keep.nil
    | apply Keep.keep rfl)) ?_))
  refine Sq.call ok Want.none (Op1.call rfl rfl fn34) rfl (FnC.mono (rTake_ok (n := 1) hr h (by simp only [InR]; omega) hat hs) ?_)
  rintro x M1 ⟨rfl, h1, hF⟩
  (repeat (first
    | refine Ex.seq ok hm ?_
    | refine Ex.region ok hm ?_
    | refine Sq.pu ok hm Want.none (by first
    | exact Pu.move rfl
    | exact Pu.assign rfl
    | exact Pu.extract rfl rfl
    | exact Pu.eqlI rfl rfl) rfl ?_
    | refine Sq.finH (n := 7) ok hm (by repeat (first
    | exact Keep.nil
    | apply Keep.drop rfl
    | apply Keep.keep rfl)) ?_
    | refine Ex.ret ok hm ?_))
  refine ⟨_, .tmp rfl (.tmp rfl .nil), ?_, h1, hF⟩
  have e : decide (((takeE s at' 1).1 : Int) = 1) = decide ((takeE s at' 1).1 = 1) := by
    rw [Bool.eq_iff_iff, decide_eq_true_eq, decide_eq_true_eq]; omega
  rw [e]; rfl
end Go.Proofs.Ytlhfolmhgghjcaa
/- Plain mathematics of rows of bits: a text of bits read again. -/
namespace Bits
set_option linter.unusedVariables false

theorem valB_rep (n : Nat) : valB (List.replicate n false) = 0 := by
  induction n with
  | zero => rfl
  | succ n ih => rw [List.replicate_succ, valB_cons, ih]; simp
theorem ofN_byte (c : List Bool) (h : c.length ≤ 8) : ofN (byteB c) 8 = c ++ List.replicate (8 - c.length) false := by
  have e : byteB c = valB (c ++ List.replicate (8 - c.length) false) := by
    rw [valB_append, valB_rep, List.length_replicate]; simp [byteB]
  have h2 := ofN_valB (c ++ List.replicate (8 - c.length) false)
  rw [List.length_append, List.length_replicate, show c.length + (8 - c.length) = 8 by omega] at h2
  rw [e, h2]
theorem txt_length (L : List Bool) : (txt L).length = (L.length + 7) / 8 := by
  have := congrArg List.length (txt_toNat L)
  rw [List.length_map, packL_length] at this
  exact this
theorem txt_getD (L : List Bool) (i : Nat) (h : i < (L.length + 7) / 8) : ((txt L).getD i 0).toNat = byteB ((L.drop (8 * i)).take 8) := by
  have h1 := packL_getElem? L i h
  rw [← txt_toNat, List.getElem?_map, List.getElem?_eq_getElem (by rw [txt_length]; exact h)] at h1
  rw [List.getD_eq_getElem?_getD, List.getElem?_eq_getElem (by rw [txt_length]; exact h)]
  simpa using h1
theorem bitsOf_txt (L : List Bool) : bitsOf (txt L) = L ++ List.replicate (8 * ((L.length + 7) / 8) - L.length) false := by
  apply List.ext_getElem?
  intro a
  by_cases ha : a < 8 * ((L.length + 7) / 8)
  · have hi : a / 8 < (txt L).length := by rw [txt_length]; omega
    have h1 := bitsOf_take_succ (txt L) (a / 8) hi
    have h2 : (bitsOf (txt L))[a]? = ((bitsOf (txt L)).take (8 * (a / 8 + 1)))[a]? := by rw [List.getElem?_take, if_pos (by omega)]
    have h3 : ((bitsOf (txt L)).take (8 * (a / 8))).length = 8 * (a / 8) := by rw [List.length_take, bitsOf_length]; omega
    have hc : ((L.drop (8 * (a / 8))).take 8).length ≤ 8 := by rw [List.length_take]; omega
    rw [h2, h1, List.getElem?_append_right (by rw [h3]; omega), h3, txt_getD L _ (by rw [txt_length] at hi; exact hi), ofN_byte _ hc]
    by_cases hl : a < L.length
    · rw [List.getElem?_append_left (by rw [List.length_take, List.length_drop]; omega), List.getElem?_append_left hl, List.getElem?_take, if_pos (by omega), List.getElem?_drop]
      congr 1; omega
    · have hlen : ((L.drop (8 * (a / 8))).take 8).length = L.length - 8 * (a / 8) := by rw [List.length_take, List.length_drop]; omega
      rw [List.getElem?_append_right (by rw [hlen]; omega), List.getElem?_append_right (by omega), List.getElem?_replicate, List.getElem?_replicate, if_pos (by rw [hlen]; omega), if_pos (by omega)]
  · rw [List.getElem?_eq_none (by rw [bitsOf_length, txt_length]; omega), List.getElem?_eq_none (by rw [List.length_append, List.length_replicate]; omega)]
theorem midT_txt (L : List Bool) (a n : Nat) (h : a + n ≤ L.length) : midT (txt L) a n = (L.drop a).take n := by
  unfold midT
  rw [bitsOf_txt, List.drop_append_of_le_length (by omega), List.take_append_of_le_length (by rw [List.length_drop]; omega)]
theorem midT_rest (L : List Bool) (n : Nat) (h : L.length + n ≤ 8 * ((L.length + 7) / 8)) : valB (midT (txt L) L.length n) = 0 := by
  unfold midT
  rw [bitsOf_txt, List.drop_append_of_le_length (Nat.le_refl _), List.drop_eq_nil_of_le (Nat.le_refl _), List.nil_append, List.take_replicate]
  exact valB_rep _
end Bits
/- N -/
namespace Go.Proofs.Ytlhfolmhgghjcaa
open Go.Wvm Bits
set_option linter.unusedVariables false
set_option linter.unusedSimpArgs false

/-- These numbers stand behind the address, if there are any. -/
def SlU (M : AM) (c : Nat) (b : Option Addr) (l : List Nat) : Prop :=
  l ≠ [] → ∃ o row u tt, b = some ⟨c, o, none⟩ ∧ M.get c = some (.row row u tt) ∧ ∀ i (h : i < l.length), row[o + i]? = some (.int .u64 ((l[i]'h : Nat) : Int))
theorem SlU.nil {M : AM} {c : Nat} {b : Option Addr} : SlU M c b [] := fun h => absurd rfl h
theorem SlU.keep {M M' : AM} {c : Nat} {b : Option Addr} {l : List Nat} {S : List Nat} (h : SlU M c b l) (f : Fr M M' S) (hc : l ≠ [] → c < M.next ∧ c ∉ S) : SlU M' c b l := fun k => by
  obtain ⟨o, row, u, tt, h1, h2, h3⟩ := h k
  exact ⟨o, row, u, tt, h1, (f.get c (hc k).1 (hc k).2).trans h2, h3⟩
theorem SlU.lt {M : AM} {c : Nat} {b : Option Addr} {l : List Nat} (h : SlU M c b l) (hlt : ∀ b a, M.get b = some a → b < M.next) : l ≠ [] → c < M.next := fun k => by
  obtain ⟨o, row, u, tt, h1, h2, h3⟩ := h k
  exact hlt _ _ h2

theorem take_eq_succ {l k : List Nat} {i : Nat} (hl : i < l.length) (hk : i < k.length) (h : l.take i = k.take i) (e : l[i] = k[i]) : l.take (i + 1) = k.take (i + 1) := by
  rw [List.take_add_one, List.take_add_one, h, List.getElem?_eq_getElem hl, List.getElem?_eq_getElem hk, e]

set_option maxHeartbeats 4000000 in
theorem same_ok {ro : Nat} {M : AM} {c1 c2 : Nat} {b1 b2 : Option Addr} {k1 k2 : Nat} (l1 l2 : List Nat) (h1 : SlU M c1 b1 l1) (h2 : SlU M c2 b2 l2) (hl1 : l1.length ≤ 1073741824) (hl2 : l2.length ≤ 1073741824) :
    FnC Try.prog tables ro 12 [.slice b1 l1.length k1, .slice b2 l2.length k2] M (fun v M' => v = .bool (decide (l1 = l2)) ∧ M' = M) := by
  refine FnC.body (nt := 26) ok hm fn12 rfl rfl ?_
  by_cases hlen : l1.length = l2.length
  · (repeat (first
    | refine Ex.seq ok hm ?_
    | refine Ex.block ok hm ?_
    | refine Ex.skip ok hm ?_
    | refine Ex.region ok hm ?_
    | refine Sq.pu ok hm Want.none (by first
    | exact Pu.move rfl
    | exact Pu.assign rfl
    | exact Pu.neqI rfl rfl
    | exact Pu.lenL hT rfl rfl) rfl ?_
    | refine Sq.finH (n := 6) ok hm (by repeat (first
    | exact Keep.nil
    | apply Keep.drop rfl
    | apply Keep.keep rfl)) ?_
    | refine Ex.condF ok hm rfl (by first
    | rfl
    | (simp; omega)) ?_))
    refine Ex.loop ?_
    refine Lp.inv ok hm (α := Nat)
      (fun i E M' => E = [(5, .int .i64 (i : Int)), (0, .slice b1 l1.length k1), (1, .slice b2 l2.length k2)] ∧ i ≤ l1.length ∧ l1.take i = l2.take i ∧ M' = M)
      (fun i => l1.length - i) ?_ 0 [(5, .int .i64 (0 : Nat)), (0, .slice b1 l1.length k1), (1, .slice b2 l2.length k2)] ⟨rfl, rfl, rfl, trivial⟩ ⟨rfl, Nat.zero_le _, by rw [List.take_zero, List.take_zero], rfl⟩
    intro i E M1 ⟨hE, hi, ht, hM⟩
    subst hE hM
    by_cases hil : i < l1.length
    · have hil2 : i < l2.length := by omega
      obtain ⟨o1, r1, u1, t1, rfl, g1, q1⟩ := h1 (by intro e; rw [e] at hil; simp at hil)
      obtain ⟨o2, r2, u2, t2, rfl, g2, q2⟩ := h2 (by intro e; rw [e] at hil2; simp at hil2)
      have q1 := q1 i hil
      have q2 := q2 i hil2
      have e1 : o1 + ((i : Nat) : Int).toNat * 1 = o1 + i := by omega
      have e2 : o2 + ((i : Nat) : Int).toNat * 1 = o2 + i := by omega
      have hE := take_eq_succ hil hil2 ht
      have hne : l1[i] ≠ l2[i] → l1 ≠ l2 := fun k e => k (by subst e; rfl)
      generalize l1[i] = x at q1 hE hne
      generalize l2[i] = y at q2 hE hne
      rw [← e1] at q1
      rw [← e2] at q2
      (repeat (first
    | refine Ex.seq ok hm ?_
    | refine Ex.block ok hm ?_
    | refine Ex.skip ok hm ?_
    | refine Ex.region ok hm ?_
    | refine Sq.pu ok hm Want.none (by first
    | exact Pu.move rfl
    | exact Pu.lssI rfl rfl
    | exact Pu.lenL hT rfl rfl) rfl ?_
    | refine Sq.finH (n := 6) ok hm (by repeat (first
    | exact Keep.nil
    | apply Keep.drop rfl
    | apply Keep.keep rfl)) ?_
    | refine Ex.condT ok hm rfl (by first
    | rfl
    | exact decide_eq_true (by omega)) ?_))
      refine Ex.quiet ok hm (by kernel_rfl) ?_
      (repeat (refine Hq.pu Want.none (by first
    | exact Pu.move rfl
    | exact Pu.indexAddr hT rfl rfl rfl rfl (by omega) (by omega)) rfl rfl rfl ?_))
      refine Hq.pu Want.none (Pu.load hT rfl rfl rfl g1 q1) rfl rfl rfl ?_
      (repeat (refine Hq.pu Want.none (by first
    | exact Pu.move rfl
    | exact Pu.indexAddr hT rfl rfl rfl rfl (by omega) (by omega)) rfl rfl rfl ?_))
      refine Hq.pu Want.none (Pu.load hT rfl rfl rfl g2 q2) rfl rfl rfl ?_
      by_cases hxy : x = y
      · (repeat (first
    | refine Ex.skip ok hm ?_
    | refine Ex.region ok hm ?_
    | refine Sq.pu ok hm Want.none (by first
    | exact Pu.move rfl
    | exact Pu.assign rfl
    | exact Pu.add rfl rfl (by simp only [InR]; omega)) rfl ?_
    | refine Sq.finH (n := 6) ok hm (by repeat (first
    | exact Keep.nil
    | apply Keep.drop rfl
    | apply Keep.keep rfl)) ?_
    | refine Hq.pu Want.none (by exact Pu.neqI rfl rfl) rfl rfl rfl ?_
    | refine Hq.nil ?_
    | refine Ex.condF ok hm rfl (by first
    | rfl
    | (simp; omega)) ?_))
        refine ⟨i + 1, [(5, .int .i64 ((i + 1 : Nat) : Int)), (0, .slice (some ⟨c1, o1, none⟩) l1.length k1), (1, .slice (some ⟨c2, o2, none⟩) l2.length k2)], ?_, ⟨rfl, rfl, rfl, trivial⟩, rfl, by omega, hE hxy, rfl⟩
        show l1.length - (i + 1) < l1.length - i
        omega
      · rw [decide_eq_false (hne hxy)]
        (repeat (first
    | refine Ex.seq ok hm ?_
    | refine Ex.region ok hm ?_
    | refine Sq.pu ok hm Want.none (by exact Pu.assign rfl) rfl ?_
    | refine Sq.finH (n := 6) ok hm (by repeat (first
    | exact Keep.nil
    | apply Keep.drop rfl
    | apply Keep.keep rfl)) ?_
    | refine Hq.pu Want.none (by exact Pu.neqI rfl rfl) rfl rfl rfl ?_
    | refine Hq.nil ?_
    | refine Ex.condT ok hm rfl (by first
    | rfl
    | (simp; omega)) ?_
    | refine Ex.ret ok hm ?_))
        exact ⟨_, .tmp rfl .nil, rfl, rfl⟩
    · have he : l1 = l2 := by
        rw [List.take_of_length_le (by omega), List.take_of_length_le (by omega)] at ht
        exact ht
      rw [decide_eq_true he]
      (repeat (first
    | refine Ex.seq ok hm ?_
    | refine Ex.region ok hm ?_
    | refine Sq.pu ok hm Want.none (by first
    | exact Pu.move rfl
    | exact Pu.assign rfl
    | exact Pu.lssI rfl rfl
    | exact Pu.lenL hT rfl rfl) rfl ?_
    | refine Sq.finH (n := 6) ok hm (by repeat (first
    | exact Keep.nil
    | apply Keep.drop rfl
    | apply Keep.keep rfl)) ?_
    | refine Ex.condF ok hm rfl (by first
    | rfl
    | exact decide_eq_false (by omega)) ?_
    | refine Ex.ret ok hm ?_
    | refine Ex.exit ok hm ?_))
      exact ⟨_, .tmp rfl .nil, rfl, rfl⟩
  · rw [decide_eq_false (fun e => hlen (by rw [e]))]
    (repeat (first
    | refine Ex.seq ok hm ?_
    | refine Ex.region ok hm ?_
    | refine Sq.pu ok hm Want.none (by first
    | exact Pu.move rfl
    | exact Pu.assign rfl
    | exact Pu.neqI rfl rfl
    | exact Pu.lenL hT rfl rfl) rfl ?_
    | refine Sq.finH (n := 6) ok hm (by repeat (first
    | exact Keep.nil
    | apply Keep.drop rfl
    | apply Keep.keep rfl)) ?_
    | refine Ex.condT ok hm rfl (by first
    | rfl
    | (simp; omega)) ?_
    | refine Ex.ret ok hm ?_))
    exact ⟨_, .tmp rfl .nil, rfl, rfl⟩
end Go.Proofs.Ytlhfolmhgghjcaa
