/- Towards the laws of this seat: contracts of the program's functions in a logic over a small machine (text XRef3). No condition. -/
import Derived.Test.YtncpdgjlhdbdpaaXRef2
namespace Go.Proofs.Ytncpdgjlhdbdpaa
open Go.Wvm Bits
set_option linter.unusedVariables false
set_option linter.unusedSimpArgs false

def addE (l : List Bool) (s : List UInt8) (n : Int) : Int × List Bool :=
  if n < 0 ∨ 8 * (s.length : Int) < n then (1, l) else if 134217728 - (l.length : Int) < n then (3, l) else (0, l ++ (Bits.bitsOf s).take n.toNat)

set_option maxHeartbeats 4000000 in
theorem rAdd_ok {ro : Nat} {M : AM} {p q : Nat} {l : List Bool} {s : List UInt8} {n : Int} (hp : ro ≤ p) (hq : ro ≤ q) (h : RwAt M p q l) (hs : s.length ≤ 1048576) (hn : InR .i64 n) (hl : l.length + 8 * s.length ≤ 16777216) :
    FnC Try.prog tables ro 33 [.pointer (some ⟨p, 0, none⟩), .string ⟨⟨s⟩⟩, .int .i64 n] M (fun r M' => r = .int .i64 (addE l s n).1 ∧ RPost ro M M' p q (addE l s n).2) := by
  refine FnC.facts fun hlt hron => ?_
  refine FnC.body (nt := 36) ok hm fn33 rfl rfl ?_
  have hrow := h.row
  have hpl := hlt _ _ hrow
  have hne := h.ne
  have hql : l ≠ [] → q < M.next := fun e => hlt _ _ (h.buf e)
  simp only [InR] at hn
  by_cases h1 : n < 0
  · have e : addE l s n = (1, l) := by unfold addE; rw [if_pos (.inl h1)]
    rw [e]
    (repeat (first
    | refine Ex.seq ok hm ?_
    | refine Ex.region ok hm ?_
    | refine Sq.pu ok hm Want.none (by first
    | exact Pu.move rfl
    | exact Pu.assign rfl
    | exact Pu.lssI rfl rfl
    | exact Pu.pickT rfl (by first
    | rfl
    | exact decide_eq_true (by omega)) rfl) rfl ?_
    | refine Sq.skip ok hm (by exact Want.no rfl rfl rfl (by first
    | rfl
    | exact decide_eq_true (by omega))) rfl ?_
    | refine Sq.finH (n := 7) ok hm (by repeat (first
    | exact Keep.nil
    | apply Keep.drop rfl
    | apply Keep.keep rfl)) ?_
    | refine Ex.condT ok hm rfl (by rfl) ?_
    | refine Ex.ret ok hm ?_))
    exact ⟨_, .tmp rfl .nil, rfl, RPost.same h hq⟩
  · by_cases h2 : 8 * (s.length : Int) < n
    · have e : addE l s n = (1, l) := by unfold addE; rw [if_pos (.inr h2)]
      rw [e]
      (repeat (first
    | refine Ex.seq ok hm ?_
    | refine Ex.region ok hm ?_
    | refine Sq.pu ok hm Want.none (by first
    | exact Pu.move rfl
    | exact Pu.assign rfl
    | exact Pu.lssI rfl rfl
    | exact Pu.gtrI rfl rfl
    | exact Pu.lenS hT rfl rfl
    | exact Pu.mul rfl rfl (by simp only [InR]; omega)
    | exact Pu.pickF rfl (by first
    | rfl
    | exact decide_eq_false (by omega)) rfl) rfl ?_
    | refine Sq.pu ok hm (by exact Want.yes rfl rfl rfl (by first
    | rfl
    | exact decide_eq_false (by omega))) (by first
    | exact Pu.move rfl
    | exact Pu.gtrI rfl rfl
    | exact Pu.lenS hT rfl rfl
    | exact Pu.mul rfl rfl (by simp only [InR]; omega)) rfl ?_
    | refine Sq.finH (n := 7) ok hm (by repeat (first
    | exact Keep.nil
    | apply Keep.drop rfl
    | apply Keep.keep rfl)) ?_
    | refine Ex.condT ok hm rfl (by first
    | rfl
    | exact decide_eq_true (by omega)) ?_
    | refine Ex.ret ok hm ?_))
      exact ⟨_, .tmp rfl .nil, rfl, RPost.same h hq⟩
    · have h4 : ¬ 134217728 - (l.length : Int) < n := by omega
      have e : addE l s n = (0, l ++ (Bits.bitsOf s).take n.toNat) := by unfold addE; rw [if_neg (by omega), if_neg h4]
      rw [e]
      (repeat (first
    | refine Ex.seq ok hm ?_
    | refine Ex.skip ok hm ?_
    | refine Ex.region ok hm ?_
    | refine Sq.pu ok hm Want.none (by first
    | exact Pu.move rfl
    | exact Pu.assign rfl
    | exact Pu.nilCheck rfl
    | exact Pu.fieldAddr hT rfl rfl rfl rfl rfl
    | (apply Pu.load hT rfl rfl rfl; (focus ((repeat (assumption)))); (focus rfl))
    | exact Pu.sub rfl rfl (by simp only [InR]; omega)
    | exact Pu.lssI rfl rfl
    | exact Pu.gtrI rfl rfl
    | exact Pu.lenBuf hT rfl rfl
    | exact Pu.lenS hT rfl rfl
    | exact Pu.mul rfl rfl (by simp only [InR]; omega)
    | exact Pu.pickF rfl (by first
    | rfl
    | exact decide_eq_false (by omega)) rfl) rfl ?_
    | refine Sq.pu ok hm (by exact Want.yes rfl rfl rfl (by first
    | rfl
    | exact decide_eq_false (by omega))) (by first
    | exact Pu.move rfl
    | exact Pu.gtrI rfl rfl
    | exact Pu.lenS hT rfl rfl
    | exact Pu.mul rfl rfl (by simp only [InR]; omega)) rfl ?_
    | refine Sq.finH (n := 7) ok hm (by repeat (first
    | exact Keep.nil
    | apply Keep.drop rfl
    | apply Keep.keep rfl)) ?_
    | refine Ex.condF ok hm rfl (by first
    | rfl
    | exact decide_eq_false (by omega)) ?_))
      refine Ex.held ok hm hT [(26, ⟨p, 0, none⟩, bufV q l.length)] 13 rfl (by kernel_rfl) (.cons rfl rfl hrow rfl (veqB_buf _ _) .nil) ?_
      ((refine Gq.pure (j := 0) (by kernel_rfl) rfl Want.none (fun N => (by exact Pu.move rfl)) rfl rfl ?_); (refine Gq.pure (j := 1) (by kernel_rfl) rfl Want.none (fun N => (by exact Pu.move rfl)) rfl rfl ?_); (refine Gq.pure (j := 2) (by kernel_rfl) rfl Want.none (fun N => (by exact Pu.nilCheck rfl)) rfl rfl ?_); (refine Gq.pure (j := 3) (by kernel_rfl) rfl Want.none (fun N => (by exact Pu.fieldAddr hT rfl rfl rfl rfl rfl)) rfl rfl ?_); (refine Gq.held (j := 4) (by kernel_rfl) rfl Want.none rfl (by exact List.Mem.head _) rfl ?_); (refine Gq.pure (j := 5) (by kernel_rfl) rfl Want.none (fun N => (by exact Pu.move rfl)) rfl rfl ?_); (refine Gq.pure (j := 7) (by kernel_rfl) rfl Want.none (fun N => (by exact Pu.move rfl)) rfl rfl ?_))
      refine Gq.call (j := 6) hT (by kernel_rfl) rfl Want.none (Op1.call rfl rfl fn15) rfl (FnC.mono (Bits_ok hs) ?_)
      rintro r M2 ⟨c, rfl, hc, hF, hcn⟩
      have hrow2 : M2.get p = some (.row [bufV q l.length] 0 (some (28, 0))) := (hF.get p hpl (by simp)).trans hrow
      have hbuf2 : l ≠ [] → M2.get q = some (.row (l.map Value.bool) 1 (some (4, 0))) := fun e => (hF.get q (hql e) (by simp)).trans (h.buf e)
      refine ⟨.cons rfl rfl hrow2 rfl (veqB_buf _ _) .nil, ?_⟩
      have hnx := hF.next
      have hbl := Bits.bitsOf_length s
      refine Gq.op (j := 8) hT (by kernel_rfl) rfl Want.none (Op1.of_pu (Pu.sliceBuf hT rfl rfl rfl rfl hc rfl (by omega) (by omega))) rfl (.cons rfl rfl hrow2 rfl (veqB_buf _ _) .nil) ?_
      have hsrc : Src M2 1 (slN c (8 * s.length) n.toNat) n.toNat (((Bits.bitsOf s).map Value.bool).take n.toNat) := Src.slN hc (by rw [List.length_map, hbl]) (by omega)
      have hnl : ((Bits.bitsOf s).take n.toNat).length = n.toNat := by rw [List.length_take, hbl]; omega
      by_cases hz : n.toNat = 0
      · rw [hz] at hsrc ⊢
        rw [List.take_zero] at hsrc
        refine Gq.op (j := 9) hT (by kernel_rfl) rfl Want.none (Op1.appendBuf0 hT rfl rfl rfl rfl rfl rfl rfl hsrc) rfl (.cons rfl rfl hrow2 rfl (veqB_buf _ _) .nil) ?_
        ((refine Gq.pure (j := 10) (by kernel_rfl) rfl Want.none (fun N => (by exact Pu.nilCheck rfl)) rfl rfl ?_); (refine Gq.pure (j := 11) (by kernel_rfl) rfl Want.none (fun N => (by exact Pu.fieldAddr hT rfl rfl rfl rfl rfl)) rfl rfl ?_))
        refine Gq.lateA (j := 12) (by kernel_rfl) (by kernel_rfl) rfl Want.none (Op1.store hT rfl rfl rfl (cells_buf _ _) hrow2 hp (Nat.zero_le _) (cells_bufl _ _) (one_buf _ _)) ?_
        refine Gq.done (by kernel_rfl) ?_
        (repeat (first
    | refine Ex.seq ok hm ?_
    | refine Ex.region ok hm ?_
    | refine Sq.pu ok hm Want.none (by exact Pu.assign rfl) rfl ?_
    | refine Sq.finH (n := 7) ok hm (by repeat (first
    | exact Keep.nil
    | apply Keep.drop rfl
    | apply Keep.keep rfl)) ?_
    | refine Ex.ret ok hm ?_))
        refine ⟨_, .tmp rfl .nil, rfl, q, ⟨?_, fun k => ?_, hne⟩, ?_, .inl rfl, hq⟩
        · rw [List.take_zero, List.append_nil]
          exact AM.upd_same.trans (congrArg (fun x => some (AO.row x 0 (some (28, 0)))) (set_buf q l.length _))
        · rw [List.take_zero, List.append_nil] at k ⊢
          exact (AM.upd_ne (Ne.symm hne)).trans (hbuf2 k)
        · exact (hF.mono (by simp)).upd' _ (.inl (by simp))
      · rw [← List.map_take] at hsrc
        refine Gq.op (j := 9) hT (by kernel_rfl) rfl Want.none (Op1.appendBuf (c := q) (m := l.length) hT rfl rfl (fun e => hbuf2 (fun k => e (by rw [k]; rfl))) (by simp) (fun _ => hq) rfl rfl rfl rfl rfl hsrc (by omega) (by omega) (by rw [List.length_map, hnl]) rfl (bools_one _)) rfl
          (.cons rfl rfl ((AM.add_ne (by simp only [AM.next_rm]; omega)).trans ((AM.rm_ne hne).trans hrow2)) rfl (veqB_buf _ _) .nil) ?_
        ((refine Gq.pure (j := 10) (by kernel_rfl) rfl Want.none (fun N => (by exact Pu.nilCheck rfl)) rfl rfl ?_); (refine Gq.pure (j := 11) (by kernel_rfl) rfl Want.none (fun N => (by exact Pu.fieldAddr hT rfl rfl rfl rfl rfl)) rfl rfl ?_))
        refine Gq.lateA (j := 12) (by kernel_rfl) (by kernel_rfl) rfl Want.none (Op1.store hT rfl rfl rfl (cells_buf _ _) ((AM.add_ne (by simp only [AM.next_rm]; omega)).trans ((AM.rm_ne hne).trans hrow2)) hp (Nat.zero_le _) (cells_bufl _ _) (one_buf _ _)) ?_
        refine Gq.done (by kernel_rfl) ?_
        (repeat (first
    | refine Ex.seq ok hm ?_
    | refine Ex.region ok hm ?_
    | refine Sq.pu ok hm Want.none (by exact Pu.assign rfl) rfl ?_
    | refine Sq.finH (n := 7) ok hm (by repeat (first
    | exact Keep.nil
    | apply Keep.drop rfl
    | apply Keep.keep rfl)) ?_
    | refine Ex.ret ok hm ?_))
        refine ⟨_, .tmp rfl .nil, rfl, M2.next, ⟨?_, fun k => ?_, by omega⟩, ?_, .inr (by omega), by omega⟩
        · refine AM.upd_same.trans ((congrArg (fun x => some (AO.row x 0 (some (28, 0)))) (set_buf M2.next (l.length + n.toNat) _)).trans ?_)
          rw [List.length_append, hnl]
        · refine (AM.upd_ne (by omega)).trans (AM.add_same.trans ?_)
          rw [List.map_append]
        · exact (((hF.mono (by simp)).rm' (.inl (by simp))).add' _).upd' _ (.inl (by simp))

theorem or_bit (x i : Nat) (hx : x < 256) (hi : i < 8) : (((x : Int).toNat ||| (1 * 2 ^ ((7 : Int) - (i : Int)).toNat % 256 : Int).toNat : Nat) : Int) = ((x ||| 2 ^ (7 - i) : Nat) : Int) := by
  have : i = 0 ∨ i = 1 ∨ i = 2 ∨ i = 3 ∨ i = 4 ∨ i = 5 ∨ i = 6 ∨ i = 7 := by omega
  rcases this with rfl | rfl | rfl | rfl | rfl | rfl | rfl | rfl <;> rfl

set_option maxHeartbeats 4000000 in
theorem rText_ok {ro : Nat} {M : AM} {c : Nat} {l : List Bool} (hb : l ≠ [] → M.get c = some (.row (l.map Value.bool) 1 (some (4, 0)))) (hl : l.length ≤ 16777216) :
    FnC Try.prog tables ro 11 [bufV c l.length] M (fun r M' => r = .string ⟨⟨txt l⟩⟩ ∧ Fr M M' []) := by
  refine FnC.facts fun hlt hron => ?_
  refine FnC.body (nt := 36) ok hm fn11 rfl rfl ?_
  generalize hW : (l.length + 7) / 8 = W
  have hWi : (((l.length : Int) + 7) / 8) = (W : Int) := by omega
  (repeat (first
    | refine Ex.seq ok hm ?_
    | refine Ex.region ok hm ?_
    | refine Sq.pu ok hm Want.none (by first
    | exact Pu.move rfl
    | exact Pu.assign rfl
    | exact Pu.add rfl rfl (by simp only [InR]; omega)
    | exact Pu.quo rfl rfl (by omega) (by omega) (by simp only [InR]; omega)
    | exact Pu.lenBuf hT rfl rfl) rfl ?_
    | refine Sq.finH (n := 5) ok hm (by repeat (first
    | exact Keep.nil
    | apply Keep.keep rfl)) ?_))
  rw [hWi]
  refine Sq.op ok hm Want.none (Op1.makeSlice hT rfl rfl rfl rfl rfl rfl rfl (by omega) (Int.le_refl _) (by omega) rfl) rfl ?_
  rw [Int.toNat_natCast]
  (repeat (first
    | refine Ex.seq ok hm ?_
    | refine Ex.block ok hm ?_
    | refine Ex.region ok hm ?_
    | refine Sq.pu ok hm Want.none (by exact Pu.assign rfl) rfl ?_
    | refine Sq.finH (n := 5) ok hm (by repeat (first
    | exact Keep.nil
    | apply Keep.drop rfl
    | apply Keep.keep rfl)) ?_))
  refine Ex.loop ?_
  refine Lp.inv ok hm (α := Nat × AM)
    (fun x E M' => E = [(3, .slice (some ⟨M.next, 0, none⟩) W W), (4, .int .i64 x.1), (0, bufV c l.length)] ∧ x.1 ≤ l.length ∧ M'.get M.next = some (.row ((padL (l.take x.1) W).map u8v) 1 (some (5, 0))) ∧ Fr M M' [])
    (fun x => l.length - x.1) ?_ (0, M) [(3, .slice (some ⟨M.next, 0, none⟩) W W), (4, .int .i64 (0 : Nat)), (0, bufV c l.length)] ⟨rfl, rfl, rfl, trivial⟩ ⟨rfl, Nat.zero_le _, ?_, (Fr.refl _ _).add' _⟩
  · intro ⟨i, _⟩ E M1 ⟨hE, hi, hr, hF⟩
    simp only at hE hi hr
    subst hE
    by_cases hil : i = l.length
    · subst hil
      (repeat (first
    | refine Ex.seq ok hm ?_
    | refine Ex.region ok hm ?_
    | refine Sq.pu ok hm Want.none (by first
    | exact Pu.move rfl
    | exact Pu.lssI rfl rfl
    | exact Pu.lenBuf hT rfl rfl) rfl ?_
    | refine Sq.finH (n := 5) ok hm (by repeat (first
    | exact Keep.nil
    | apply Keep.drop rfl
    | apply Keep.keep rfl)) ?_
    | refine Ex.condF ok hm rfl (by first
    | rfl
    | exact decide_eq_false (by omega)) ?_
    | refine Ex.exit ok hm ?_))
      rw [List.take_length, ← hW, padL_full] at hr
      refine Sq.pu ok hm Want.none (Pu.convB hT (bs := txt l) rfl rfl rfl rfl hr ?_ ?_) rfl ?_
      · rw [List.drop_zero, List.take_of_length_le (by rw [List.length_map, packL_length]; omega)]
        exact u8_row _ (packL_lt l)
      · rw [List.length_map, packL_length]; omega
      (repeat (first
    | refine Sq.pu ok hm Want.none (by exact Pu.assign rfl) rfl ?_
    | refine Sq.finH (n := 5) ok hm (by repeat (first
    | exact Keep.nil
    | apply Keep.drop rfl
    | apply Keep.keep rfl)) ?_
    | refine Ex.ret ok hm ?_))
      exact ⟨_, .tmp rfl .nil, rfl, hF⟩
    · have hil2 : i < l.length := by omega
      have hne : l ≠ [] := by intro k; rw [k] at hil2; simp at hil2
      have hcl := hlt _ _ (hb hne)
      have hbc : M1.get c = some (.row (l.map Value.bool) 1 (some (4, 0))) := (hF.get c hcl (by simp)).trans (hb hne)
      have htl : (l.take i).length = i := by rw [List.length_take]; omega
      have hst := padL_step (l.take i) (l.getD i false) W (by omega)
      have hgt := padL_get (l.take i) W (by omega)
      rw [htl] at hst hgt
      rw [← take_snoc l i hil2] at hst
      have hpl : (padL (l.take i) W).length = W := padL_length _ _ (by rw [packL_length]; omega)
      have hx : byteB ((l.take i).drop (8 * (i / 8))) < 256 := byteB_lt _ (by rw [List.length_drop, htl]; omega)
      generalize byteB ((l.take i).drop (8 * (i / 8))) = x at hst hgt hx
      rw [bufV_pos c l.length (by omega)]
      (repeat (first
    | refine Ex.seq ok hm ?_
    | refine Ex.block ok hm ?_
    | refine Ex.skip ok hm ?_
    | refine Ex.region ok hm ?_
    | refine Sq.pu ok hm Want.none (by first
    | exact Pu.move rfl
    | exact Pu.lssI rfl rfl
    | exact Pu.lenL hT rfl rfl
    | exact Pu.indexAddr hT rfl rfl rfl rfl (by omega) (by omega)) rfl ?_
    | refine Sq.finH (n := 5) ok hm (by repeat (first
    | exact Keep.nil
    | apply Keep.drop rfl
    | apply Keep.keep rfl)) ?_
    | refine Ex.condT ok hm rfl (by first
    | rfl
    | exact decide_eq_true (by omega)) ?_))
      have hbl : (l.map Value.bool)[0 + (i : Int).toNat * 1]? = some (.bool (l.getD i false)) := by
        rw [Int.toNat_natCast, Nat.zero_add, Nat.mul_one, List.getElem?_map, List.getElem?_eq_getElem hil2]
        simp [List.getD_eq_getElem?_getD, hil2]
      refine Sq.pu ok hm Want.none (Pu.load hT rfl rfl rfl hbc hbl) rfl ?_
      (repeat (refine Sq.finH (n := 5) ok hm (by repeat (first
    | exact Keep.nil
    | apply Keep.drop rfl
    | apply Keep.keep rfl)) ?_))
      cases hbit : l.getD i false with
      | true =>
        rw [hbit, if_pos rfl] at hst
        (repeat (refine Ex.condT ok hm rfl (by rfl) ?_))
        have hidx : 0 + ((i : Int) / 8).toNat * 1 = i / 8 := by omega
        have hload : ((padL (l.take i) W).map u8v)[i / 8]? = some (u8v x) := by rw [List.getElem?_map, hgt]; rfl
        refine Ex.draw ok hm 14 (by kernel_rfl) ?_
        (repeat (refine Hq.pu Want.none (by first
    | exact Pu.move rfl
    | exact Pu.quo rfl rfl (by omega) (by omega) (by simp only [InR]; omega)
    | exact Pu.indexAddr hT rfl rfl rfl rfl (by omega) (by omega)) rfl rfl rfl ?_))
        refine Hq.pu Want.none (Pu.load hT rfl rfl rfl hr ((congrArg (fun j => ((padL (l.take i) W).map u8v)[j]?) hidx).trans hload)) rfl rfl rfl ?_
        (repeat (first
    | refine Hq.pu Want.none (by first
    | exact Pu.move rfl
    | exact Pu.sub rfl rfl (by simp only [InR]; omega)
    | exact Pu.rem rfl rfl (by omega) (by omega)
    | exact Pu.indexAddr hT rfl rfl rfl rfl (by omega) (by omega)
    | exact Pu.shlU8 rfl rfl (by omega) (by omega)
    | exact Pu.or rfl rfl (by omega) (by omega) (by simp only [InR]; omega) (by simp only [InR]; omega)) rfl rfl rfl ?_
    | refine Hq.nil ?_))
        have hor := or_bit x (i % 8) hx (by omega)
        rw [show ((7 : Int) - ((i % 8 : Nat) : Int)) = 7 - (i : Int) % 8 by omega] at hor
        rw [hor]
        refine Tq.act Want.none (Op1.store hT rfl rfl rfl rfl hr (by omega) (Nat.zero_le _) (by rw [List.length_map, hpl]; show 0 + ((i : Int) / 8).toNat * 1 + 1 ≤ _; omega) rfl) ?_
        (repeat (first
    | refine Ex.region ok hm ?_
    | refine Sq.pu ok hm Want.none (by first
    | exact Pu.move rfl
    | exact Pu.assign rfl
    | exact Pu.add rfl rfl (by simp only [InR]; omega)) rfl ?_
    | refine Sq.finH (n := 5) ok hm (by repeat (first
    | exact Keep.nil
    | apply Keep.drop rfl
    | apply Keep.keep rfl)) ?_
    | refine Tq.finH (n := 5)  (by repeat (first
    | exact Keep.nil
    | apply Keep.drop rfl
    | apply Keep.keep rfl)) ?_))
        refine ⟨(i + 1, M), [(3, .slice (some ⟨M.next, 0, none⟩) W W), (4, .int .i64 ((i : Int) + 1)), (0, .slice (some ⟨c, 0, none⟩) l.length l.length)], by simp only; omega, ⟨rfl, rfl, rfl, trivial⟩, ?_, by simp only; omega, ?_, ?_⟩
        · simp only
          rw [show ((i + 1 : Nat) : Int) = (i : Int) + 1 by omega]
        · simp only
          refine AM.upd_same.trans ?_
          rw [hst]
          have : ∀ j, 0 + ((i : Int) / 8).toNat * 1 = j → setAt ((padL (l.take i) W).map u8v) j (cellsL (u8v (x ||| 2 ^ (7 - i % 8)))) = ((padL (l.take i) W).set (i / 8) (x ||| 2 ^ (7 - i % 8))).map u8v := by
            intro j hj
            rw [hidx] at hj
            subst hj
            simp only [cellsL, setAt, List.map_set]
          rw [← this _ rfl]
        · exact hF.upd' _ (.inr (Nat.le_refl _))
      | false =>
        rw [hbit, if_neg (by decide)] at hst
        (repeat (first
    | refine Ex.skip ok hm ?_
    | refine Ex.region ok hm ?_
    | refine Sq.pu ok hm Want.none (by first
    | exact Pu.move rfl
    | exact Pu.assign rfl
    | exact Pu.add rfl rfl (by simp only [InR]; omega)) rfl ?_
    | refine Sq.finH (n := 5) ok hm (by repeat (first
    | exact Keep.nil
    | apply Keep.drop rfl
    | apply Keep.keep rfl)) ?_
    | refine Ex.condF ok hm rfl (by rfl) ?_))
        refine ⟨(i + 1, M), [(3, .slice (some ⟨M.next, 0, none⟩) W W), (4, .int .i64 ((i : Int) + 1)), (0, .slice (some ⟨c, 0, none⟩) l.length l.length)], by simp only; omega, ⟨rfl, rfl, rfl, trivial⟩, ?_, by simp only; omega, ?_, hF⟩
        · simp only
          rw [show ((i + 1 : Nat) : Int) = (i : Int) + 1 by omega]
        · simp only
          rw [hst]; exact hr
  · simp only [List.take_zero]
    rw [padL_nil, List.map_replicate]
    exact AM.add_same
end Go.Proofs.Ytncpdgjlhdbdpaa
