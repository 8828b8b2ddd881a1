/- Towards the laws of this seat: contracts of the program's functions in a logic over a small machine (text XRef2). No condition. -/
import Derived.Test.YtncpdgjlhdbdpaaXWr
import Derived.Test.YtncpdgjlhdbdpaaXRef
namespace Go.Proofs.Ytncpdgjlhdbdpaa
open Go.Wvm Bits
set_option linter.unusedVariables false
set_option linter.unusedSimpArgs false

theorem veqB_buf (q n : Nat) : veqB (bufV q n) (bufV q n) = true := by
  by_cases h : n = 0
  · subst h; exact veqB_slice0 0 0
  · rw [bufV_pos q n h]; exact veqB_slice _ _ _ _ (by omega)

theorem cells_buf (q n : Nat) : Nat.beq (cellsL (bufV q n)).length 1 = true := by unfold bufV; split <;> rfl
theorem cells_bufl (q n : Nat) {x : Value} : 0 + (cellsL (bufV q n)).length ≤ [x].length := by unfold bufV; split <;> exact Nat.le_refl _
theorem one_buf (q n : Nat) : oneCells (cellsL (bufV q n)) = true := by unfold bufV; split <;> rfl
theorem set_buf (q n : Nat) (x : Value) : setAt [x] 0 (cellsL (bufV q n)) = [bufV q n] := by unfold bufV; split <;> rfl

set_option maxHeartbeats 4000000 in
theorem rPut_ok {ro : Nat} {M : AM} {p q : Nat} {l : List Bool} {v : Nat} {n : Int} (hp : ro ≤ p) (hq : ro ≤ q) (h : RwAt M p q l) (hv : v < 2 ^ 64) (hn : InR .i64 n) (hl : l.length + 64 ≤ 16777216) :
    FnC Try.prog tables ro 31 [.pointer (some ⟨p, 0, none⟩), .int .u64 v, .int .i64 n] M (fun r M' => r = .int .i64 (putE l v n).1 ∧ RPost ro M M' p q (putE l v n).2) := by
  refine FnC.facts fun hlt hron => ?_
  refine FnC.body (nt := 38) ok hm fn31 rfl rfl ?_
  have hrow := h.row
  have hpl := hlt _ _ hrow
  have hne := h.ne
  have hql : l ≠ [] → q < M.next := fun e => hlt _ _ (h.buf e)
  simp only [InR] at hn
  by_cases h1 : n < 0
  · have e : putE l v n = (1, l) := by unfold putE; rw [if_pos (.inl h1)]
    rw [e]
    (repeat (first
    | refine Ex.seq ok hm ?_
    | refine Ex.region ok hm ?_
    | refine Sq.pu ok hm Want.none (by first
    | exact Pu.move rfl
    | exact Pu.assign rfl
    | exact Pu.lssI rfl rfl
    | exact Pu.pickT rfl (by first
    | rfl
    | exact decide_eq_true (by omega)) rfl) rfl ?_
    | refine Sq.skip ok hm (by exact Want.no rfl rfl rfl (by first
    | rfl
    | exact decide_eq_true (by omega))) rfl ?_
    | refine Sq.finH (n := 7) ok hm (by repeat (first
    | exact Keep.nil
    | apply Keep.drop rfl
    | apply Keep.keep rfl)) ?_
    | refine Ex.condT ok hm rfl (by rfl) ?_
    | refine Ex.ret ok hm ?_))
    exact ⟨_, .tmp rfl .nil, rfl, RPost.same h hq⟩
  · by_cases h2 : 64 < n
    · have e : putE l v n = (1, l) := by unfold putE; rw [if_pos (.inr (.inl h2))]
      rw [e]
      (repeat (first
    | refine Ex.seq ok hm ?_
    | refine Ex.region ok hm ?_
    | refine Sq.pu ok hm Want.none (by first
    | exact Pu.move rfl
    | exact Pu.assign rfl
    | exact Pu.lssI rfl rfl
    | exact Pu.gtrI rfl rfl
    | exact Pu.pickT rfl (by first
    | rfl
    | exact decide_eq_true (by omega)) rfl
    | exact Pu.pickF rfl (by first
    | rfl
    | exact decide_eq_false (by omega)) rfl) rfl ?_
    | refine Sq.pu ok hm (by exact Want.yes rfl rfl rfl (by first
    | rfl
    | exact decide_eq_false (by omega))) (by first
    | exact Pu.move rfl
    | exact Pu.gtrI rfl rfl) rfl ?_
    | refine Sq.skip ok hm (by exact Want.no rfl rfl rfl (by first
    | rfl
    | exact decide_eq_true (by omega))) rfl ?_
    | refine Sq.finH (n := 7) ok hm (by repeat (first
    | exact Keep.nil
    | apply Keep.drop rfl
    | apply Keep.keep rfl)) ?_
    | refine Ex.condT ok hm rfl (by rfl) ?_
    | refine Ex.ret ok hm ?_))
      exact ⟨_, .tmp rfl .nil, rfl, RPost.same h hq⟩
    · (repeat (first
    | refine Ex.seq ok hm ?_
    | refine Ex.region ok hm ?_
    | refine Sq.pu ok hm Want.none (by first
    | exact Pu.move rfl
    | exact Pu.assign rfl
    | exact Pu.lssI rfl rfl
    | exact Pu.gtrI rfl rfl
    | exact Pu.pickF rfl (by first
    | rfl
    | exact decide_eq_false (by omega)) rfl) rfl ?_
    | refine Sq.pu ok hm (by exact Want.yes rfl rfl rfl (by first
    | rfl
    | exact decide_eq_false (by omega))) (by first
    | exact Pu.move rfl
    | exact Pu.gtrI rfl rfl) rfl ?_
    | refine Sq.finH (n := 7) ok hm (by repeat (first
    | exact Keep.nil
    | apply Keep.keep rfl)) ?_))
      refine Sq.call ok (by exact Want.yes rfl rfl rfl (by exact decide_eq_false (by omega))) (Op1.call rfl rfl fn39) rfl (FnC.mono (Fits_ok (by omega) (by omega)) ?_)
      rintro r M' ⟨rfl, rfl⟩
      by_cases h3 : 64 ≤ n ∨ (v : Int) / 2 ^ n.toNat = 0
      · have h3' : ¬ (n < 0 ∨ 64 < n ∨ (n < 64 ∧ v / 2 ^ n.toNat ≠ 0)) := by
          rintro (k | k | ⟨k1, k2⟩)
          · omega
          · omega
          · rcases h3 with k | k
            · omega
            · exact k2 ((cast_div v n.toNat).1 k)
        have h4 : ¬ 134217728 - (l.length : Int) < n := by omega
        have e : putE l v n = (0, l ++ ofN v n.toNat) := by unfold putE; rw [if_neg h3', if_neg h4]
        rw [e]
        rw [decide_eq_true h3]
        (repeat (first
    | refine Ex.seq ok hm ?_
    | refine Ex.skip ok hm ?_
    | refine Ex.region ok hm ?_
    | refine Sq.pu ok hm Want.none (by first
    | exact Pu.move rfl
    | exact Pu.nilCheck rfl
    | exact Pu.fieldAddr hT rfl rfl rfl rfl rfl
    | (apply Pu.load hT rfl rfl rfl; (focus ((repeat (assumption)))); (focus rfl))
    | exact Pu.sub rfl rfl (by simp only [InR]; omega)
    | exact Pu.gtrI rfl rfl
    | exact Pu.not rfl
    | exact Pu.lenBuf hT rfl rfl
    | exact Pu.pickF rfl (by first
    | rfl
    | exact decide_eq_false (by omega)) rfl) rfl ?_
    | refine Sq.pu ok hm (by exact Want.yes rfl rfl rfl (by first
    | rfl
    | exact decide_eq_false (by omega))) (by exact Pu.not rfl) rfl ?_
    | refine Sq.finH (n := 7) ok hm (by repeat (first
    | exact Keep.nil
    | apply Keep.drop rfl
    | apply Keep.keep rfl)) ?_
    | refine Ex.condF ok hm rfl (by first
    | rfl
    | exact decide_eq_false (by omega)) ?_))
        refine Ex.held ok hm hT [(26, ⟨p, 0, none⟩, bufV q l.length)] 12 rfl (by kernel_rfl) (.cons rfl rfl hrow rfl (veqB_buf _ _) .nil) ?_
        ((refine Gq.pure (j := 0) (by kernel_rfl) rfl Want.none (fun N => (by exact Pu.move rfl)) rfl rfl ?_); (refine Gq.pure (j := 1) (by kernel_rfl) rfl Want.none (fun N => (by exact Pu.move rfl)) rfl rfl ?_); (refine Gq.pure (j := 2) (by kernel_rfl) rfl Want.none (fun N => (by exact Pu.nilCheck rfl)) rfl rfl ?_); (refine Gq.pure (j := 3) (by kernel_rfl) rfl Want.none (fun N => (by exact Pu.fieldAddr hT rfl rfl rfl rfl rfl)) rfl rfl ?_); (refine Gq.held (j := 4) (by kernel_rfl) rfl Want.none rfl (by exact List.Mem.head _) rfl ?_); (refine Gq.pure (j := 5) (by kernel_rfl) rfl Want.none (fun N => (by exact Pu.move rfl)) rfl rfl ?_); (refine Gq.pure (j := 6) (by kernel_rfl) rfl Want.none (fun N => (by exact Pu.move rfl)) rfl rfl ?_))
        have hn2 : (.int .i64 n : Value) = .int .i64 (n.toNat : Int) := by rw [show ((n.toNat : Nat) : Int) = n by omega]
        refine Gq.call (j := 7) hT (by kernel_rfl) rfl Want.none (Op1.call rfl rfl fn40) rfl ?_
        show FnC Try.prog tables ro 40 [.int .u64 v, .int .i64 n] _ _
        rw [hn2]
        refine FnC.mono (Of_ok hv (by omega)) ?_
        rintro r M2 ⟨c, rfl, hc, hF, hcn⟩
        have hrow2 : M2.get p = some (.row [bufV q l.length] 0 (some (28, 0))) := (hF.get p hpl (by simp)).trans hrow
        have hbuf2 : l ≠ [] → M2.get q = some (.row (l.map Value.bool) 1 (some (4, 0))) := fun e => (hF.get q (hql e) (by simp)).trans (h.buf e)
        refine ⟨.cons rfl rfl hrow2 rfl (veqB_buf _ _) .nil, ?_⟩
        have hnx := hF.next
        by_cases hz : n.toNat = 0
        · rw [hz]
          refine Gq.op (j := 8) hT (by kernel_rfl) rfl Want.none (Op1.appendBuf0 hT rfl rfl rfl rfl rfl rfl rfl Src.none) rfl (.cons rfl rfl hrow2 rfl (veqB_buf _ _) .nil) ?_
          ((refine Gq.pure (j := 9) (by kernel_rfl) rfl Want.none (fun N => (by exact Pu.nilCheck rfl)) rfl rfl ?_); (refine Gq.pure (j := 10) (by kernel_rfl) rfl Want.none (fun N => (by exact Pu.fieldAddr hT rfl rfl rfl rfl rfl)) rfl rfl ?_))
          refine Gq.lateA (j := 11) (by kernel_rfl) (by kernel_rfl) rfl Want.none (Op1.store hT rfl rfl rfl (cells_buf _ _) hrow2 hp (Nat.zero_le _) (cells_bufl _ _) (one_buf _ _)) ?_
          refine Gq.done (by kernel_rfl) ?_
          (repeat (first
    | refine Ex.seq ok hm ?_
    | refine Ex.region ok hm ?_
    | refine Sq.pu ok hm Want.none (by exact Pu.assign rfl) rfl ?_
    | refine Sq.finH (n := 7) ok hm (by repeat (first
    | exact Keep.nil
    | apply Keep.drop rfl
    | apply Keep.keep rfl)) ?_
    | refine Ex.ret ok hm ?_))
          refine ⟨_, .tmp rfl .nil, rfl, q, ⟨?_, fun k => ?_, hne⟩, ?_, .inl rfl, hq⟩
          · rw [ofN_zero, List.append_nil]
            exact AM.upd_same.trans (congrArg (fun x => some (AO.row x 0 (some (28, 0)))) (set_buf q l.length _))
          · rw [ofN_zero, List.append_nil] at k ⊢
            exact (AM.upd_ne (Ne.symm hne)).trans (hbuf2 k)
          · exact (hF.mono (by simp)).upd' _ (.inl (by simp))
        · refine Gq.op (j := 8) hT (by kernel_rfl) rfl Want.none (Op1.appendBuf (c := q) (m := l.length) hT rfl rfl (fun e => hbuf2 (fun k => e (by rw [k]; rfl))) (by simp) (fun _ => hq) rfl rfl rfl rfl rfl (Src.buf (fun _ => hc hz) (by simp [ofN_length])) (by omega) (by omega) (by simp [ofN_length]) rfl (bools_one _)) rfl
            (.cons rfl rfl ((AM.add_ne (by simp only [AM.next_rm]; omega)).trans ((AM.rm_ne hne).trans hrow2)) rfl (veqB_buf _ _) .nil) ?_
          ((refine Gq.pure (j := 9) (by kernel_rfl) rfl Want.none (fun N => (by exact Pu.nilCheck rfl)) rfl rfl ?_); (refine Gq.pure (j := 10) (by kernel_rfl) rfl Want.none (fun N => (by exact Pu.fieldAddr hT rfl rfl rfl rfl rfl)) rfl rfl ?_))
          refine Gq.lateA (j := 11) (by kernel_rfl) (by kernel_rfl) rfl Want.none (Op1.store hT rfl rfl rfl (cells_buf _ _) ((AM.add_ne (by simp only [AM.next_rm]; omega)).trans ((AM.rm_ne hne).trans hrow2)) hp (Nat.zero_le _) (cells_bufl _ _) (one_buf _ _)) ?_
          refine Gq.done (by kernel_rfl) ?_
          (repeat (first
    | refine Ex.seq ok hm ?_
    | refine Ex.region ok hm ?_
    | refine Sq.pu ok hm Want.none (by exact Pu.assign rfl) rfl ?_
    | refine Sq.finH (n := 7) ok hm (by repeat (first
    | exact Keep.nil
    | apply Keep.drop rfl
    | apply Keep.keep rfl)) ?_
    | refine Ex.ret ok hm ?_))
          refine ⟨_, .tmp rfl .nil, rfl, M2.next, ⟨?_, fun k => ?_, by omega⟩, ?_, .inr (by omega), by omega⟩
          · refine AM.upd_same.trans ((congrArg (fun x => some (AO.row x 0 (some (28, 0)))) (set_buf M2.next (l.length + n.toNat) _)).trans ?_)
            rw [List.length_append, ofN_length]
          · refine (AM.upd_ne (by omega)).trans (AM.add_same.trans ?_)
            rw [List.map_append]
          · exact (((hF.mono (by simp)).rm' (.inl (by simp))).add' _).upd' _ (.inl (by simp))
      · have h3' : n < 0 ∨ 64 < n ∨ (n < 64 ∧ v / 2 ^ n.toNat ≠ 0) := by
          refine .inr (.inr ⟨by omega, fun k => h3 (.inr ((cast_div v n.toNat).2 k))⟩)
        have e : putE l v n = (1, l) := by unfold putE; rw [if_pos h3']
        rw [e]
        rw [decide_eq_false h3]
        (repeat (first
    | refine Ex.seq ok hm ?_
    | refine Ex.region ok hm ?_
    | refine Sq.pu ok hm Want.none (by first
    | exact Pu.assign rfl
    | exact Pu.not rfl
    | exact Pu.pickF rfl (by first
    | rfl
    | exact decide_eq_false (by omega)) rfl) rfl ?_
    | refine Sq.pu ok hm (by exact Want.yes rfl rfl rfl (by first
    | rfl
    | exact decide_eq_false (by omega))) (by exact Pu.not rfl) rfl ?_
    | refine Sq.finH (n := 7) ok hm (by repeat (first
    | exact Keep.nil
    | apply Keep.drop rfl
    | apply Keep.keep rfl)) ?_
    | refine Ex.condT ok hm rfl (by rfl) ?_
    | refine Ex.ret ok hm ?_))
        exact ⟨_, .tmp rfl .nil, rfl, RPost.same h hq⟩
set_option maxHeartbeats 4000000 in
theorem Bits_ok {ro : Nat} {M : AM} {s : List UInt8} (hs : s.length ≤ 1048576) :
    FnC Try.prog tables ro 15 [.string ⟨⟨s⟩⟩] M (fun r M' => ∃ c, r = bufV c (8 * s.length) ∧ (8 * s.length ≠ 0 → M'.get c = some (.row ((Bits.bitsOf s).map Value.bool) 1 (some (4, 0)))) ∧ Fr M M' [] ∧ M.next ≤ c) := by
  refine FnC.facts fun hlt0 hron0 => ?_
  refine FnC.body (nt := 27) ok hm fn15 rfl rfl ?_
  (repeat (first
    | refine Ex.seq ok hm ?_
    | refine Ex.block ok hm ?_
    | refine Ex.region ok hm ?_
    | refine Sq.pu ok hm Want.none (by exact Pu.assign rfl) rfl ?_
    | refine Sq.finH (n := 6) ok hm (by repeat (first
    | exact Keep.nil
    | apply Keep.keep rfl)) ?_))
  refine Ex.loop ?_
  refine Lp.inv ok hm (α := Nat × Nat)
    (fun x E M' => E = [(3, bufV x.2 (8 * x.1)), (4, .int .i64 x.1), (0, .string ⟨⟨s⟩⟩)] ∧ x.1 ≤ s.length ∧ (8 * x.1 ≠ 0 → M'.get x.2 = some (.row (((Bits.bitsOf s).take (8 * x.1)).map Value.bool) 1 (some (4, 0)))) ∧ Fr M M' [] ∧ M.next ≤ x.2)
    (fun x => s.length - x.1) ?_ (0, M.next) [(3, bufV M.next (8 * 0)), (4, .int .i64 (0 : Nat)), (0, .string ⟨⟨s⟩⟩)] ⟨rfl, rfl, rfl, trivial⟩ ⟨rfl, Nat.zero_le _, fun h => absurd rfl h, Fr.refl _ _, Nat.le_refl _⟩
  intro ⟨i, c⟩ E M1 ⟨hE, hi, hb, hF, hc⟩
  simp only at hE hi hb hc
  subst hE
  by_cases hin : i = s.length
  · subst hin
    (repeat (first
    | refine Ex.seq ok hm ?_
    | refine Ex.region ok hm ?_
    | refine Sq.pu ok hm Want.none (by first
    | exact Pu.move rfl
    | exact Pu.assign rfl
    | exact Pu.lssI rfl rfl
    | exact Pu.lenS hT rfl rfl) rfl ?_
    | refine Sq.finH (n := 6) ok hm (by repeat (first
    | exact Keep.nil
    | apply Keep.drop rfl
    | apply Keep.keep rfl)) ?_
    | refine Ex.condF ok hm rfl (by first
    | rfl
    | exact decide_eq_false (by omega)) ?_
    | refine Ex.ret ok hm ?_
    | refine Ex.exit ok hm ?_))
    refine ⟨_, .tmp rfl .nil, c, rfl, fun h => ?_, hF, hc⟩
    have := hb h
    rw [List.take_of_length_le (by rw [Bits.bitsOf_length]; omega)] at this
    exact this
  · have hlt : i < s.length := by omega
    (repeat (first
    | refine Ex.seq ok hm ?_
    | refine Ex.block ok hm ?_
    | refine Ex.skip ok hm ?_
    | refine Ex.region ok hm ?_
    | refine Sq.pu ok hm Want.none (by first
    | exact Pu.move rfl
    | exact Pu.assign rfl
    | exact Pu.lssI rfl rfl
    | exact Pu.lenS hT rfl rfl) rfl ?_
    | refine Sq.finH (n := 6) ok hm (by repeat (first
    | exact Keep.nil
    | apply Keep.drop rfl
    | apply Keep.keep rfl)) ?_
    | refine Ex.condT ok hm rfl (by first
    | rfl
    | exact decide_eq_true (by omega)) ?_))
    refine Ex.loop ?_
    refine Lp.inv ok hm (α := Nat × Nat)
      (fun x E M' => E = [(5, .int .i64 (7 - (x.1 : Int))), (3, bufV x.2 (8 * i + x.1)), (4, .int .i64 i), (0, .string ⟨⟨s⟩⟩)] ∧ x.1 ≤ 8 ∧ (8 * i + x.1 ≠ 0 → M'.get x.2 = some (.row (((Bits.bitsOf s).take (8 * i + x.1)).map Value.bool) 1 (some (4, 0)))) ∧ Fr M M' [] ∧ M.next ≤ x.2)
      (fun x => 8 - x.1) ?_ (0, c) [(5, .int .i64 (7 - ((0 : Nat) : Int))), (3, bufV c (8 * i + 0)), (4, .int .i64 i), (0, .string ⟨⟨s⟩⟩)] ⟨rfl, rfl, rfl, rfl, trivial⟩ ⟨rfl, Nat.zero_le _, hb, hF, hc⟩
    intro ⟨k, c1⟩ E M2 ⟨hE, hk, hb1, hF1, hc1⟩
    simp only at hE hk hb1 hc1
    subst hE
    refine Ex.facts fun hlt2 hron2 => ?_
    by_cases hk8 : k = 8
    · subst hk8
      (repeat (first
    | refine Ex.seq ok hm ?_
    | refine Ex.region ok hm ?_
    | refine Sq.pu ok hm Want.none (by first
    | exact Pu.move rfl
    | exact Pu.assign rfl
    | exact Pu.add rfl rfl (by simp only [InR]; omega)
    | exact Pu.geqI rfl rfl) rfl ?_
    | refine Sq.finH (n := 6) ok hm (by repeat (first
    | exact Keep.nil
    | apply Keep.drop rfl
    | apply Keep.keep rfl)) ?_
    | refine Ex.condF ok hm rfl (by rfl) ?_
    | refine Ex.exit ok hm ?_))
      refine ⟨(i + 1, c1), [(3, bufV c1 (8 * i + 8)), (4, .int .i64 ((i : Int) + 1)), (0, .string ⟨⟨s⟩⟩)], by simp only; omega, ⟨rfl, rfl, rfl, trivial⟩, ?_, by simp only; omega, ?_, hF1, hc1⟩
      · simp only
        rw [show 8 * (i + 1) = 8 * i + 8 by omega, show ((i + 1 : Nat) : Int) = (i : Int) + 1 by omega]
      · simp only
        rw [show 8 * (i + 1) = 8 * i + 8 by omega]; exact hb1
    · have hcl : 8 * i + k ≠ 0 → c1 < M2.next := fun h => hlt2 _ _ (hb1 h)
      have hlen : (((Bits.bitsOf s).take (8 * i + k)).map Value.bool).length = 8 * i + k := by rw [List.length_map, List.length_take, Bits.bitsOf_length]; omega
      have hnx := hF1.next
      have hby : (s.getD i 0).toNat < 256 := (s.getD i 0).toNat_lt
      have hd := div_bd (s.getD i 0).toNat (7 - (k : Int)).toNat
      (repeat (first
    | refine Ex.seq ok hm ?_
    | refine Ex.block ok hm ?_
    | refine Ex.skip ok hm ?_
    | refine Ex.region ok hm ?_
    | refine Sq.pu ok hm Want.none (by first
    | exact Pu.move rfl
    | exact Pu.geqI rfl rfl
    | exact Pu.indexS hT rfl rfl rfl (by omega) (by omega)) rfl ?_
    | refine Sq.finH (n := 6) ok hm (by repeat (first
    | exact Keep.nil
    | apply Keep.drop rfl
    | apply Keep.keep rfl)) ?_
    | refine Ex.condT ok hm rfl (by first
    | rfl
    | exact decide_eq_true (by omega)) ?_))
      rw [Int.toNat_natCast]
      (repeat (first
    | refine Sq.pu ok hm Want.none (by first
    | exact Pu.eqlI rfl rfl
    | exact Pu.shr rfl rfl (by omega) (by omega) (by simp only [InR]; omega)
    | exact Pu.and rfl rfl (by omega) (by omega) (by simp only [InR]; omega) (by simp only [InR]; omega)) rfl ?_
    | refine Sq.op ok hm Want.none (Op1.buildSlice hT rfl rfl rfl rfl rfl rfl rfl) rfl ?_))
      have hbit := bit_eq (s.getD i 0).toNat (7 - k)
      rw [show (7 - (k : Int)).toNat = 7 - k by omega, hbit]
      (repeat (fail))
      refine Sq.op ok hm Want.none (Op1.appendBuf (c := c1) (m := 8 * i + k) hT rfl rfl (fun h => (AM.add_ne (by have := hcl h; omega)).trans (hb1 h)) hlen (fun h => by omega) rfl rfl rfl rfl rfl (Src.slice (n := 1) (by (repeat (exact AM.add_same))) (Nat.le_of_ble_eq_true rfl)) (by decide) (by omega) rfl rfl rfl) rfl ?_
      (repeat (first
    | refine Ex.region ok hm ?_
    | refine Sq.pu ok hm Want.none (by first
    | exact Pu.move rfl
    | exact Pu.assign rfl
    | exact Pu.sub rfl rfl (by simp only [InR]; omega)) rfl ?_
    | refine Sq.finH (n := 6) ok hm (by repeat (first
    | exact Keep.nil
    | apply Keep.drop rfl
    | apply Keep.keep rfl)) ?_))
      refine ⟨(k + 1, M2.next + 1), [(5, .int .i64 (7 - (k : Int) - 1)), (3, bufV (M2.next + 1) (8 * i + k + 1)), (4, .int .i64 i), (0, .string ⟨⟨s⟩⟩)], by simp only; omega, ⟨rfl, rfl, rfl, rfl, trivial⟩, ?_, by simp only; omega, fun _ => ?_, ?_, ?_⟩
      · simp only
        rw [show (7 : Int) - ((k + 1 : Nat) : Int) = 7 - (k : Int) - 1 by omega]; rfl
      · simp only
        refine AM.add_same.trans ?_
        have e : (Bits.bitsOf s).take (8 * i + (k + 1)) = (Bits.bitsOf s).take (8 * i + k) ++ [(s.getD i 0).toNat.testBit (7 - k)] := by
          rw [Bits.bitsOf_take_rest s i (k + 1) hlt (by omega), Bits.bitsOf_take_rest s i k hlt (by omega), List.append_assoc]
          congr 1
          rw [ofN_split _ (k + 1) k (by omega), show k + 1 - k = 1 by omega, Nat.div_div_eq_div_mul, ← Nat.pow_add, show 8 - (k + 1) + 1 = 8 - k by omega]
          rw [show ofN ((s.getD i 0).toNat / 2 ^ (8 - (k + 1))) 1 = [((s.getD i 0).toNat / 2 ^ (8 - (k + 1))).testBit 0] from rfl, Nat.testBit_div_two_pow]
          congr 2
          congr 1; omega
        rw [e, List.map_append]; rfl
      · exact (((hF1.add' _).rm' (.inr hc1)).add' _)
      · simp only; omega
end Go.Proofs.Ytncpdgjlhdbdpaa
