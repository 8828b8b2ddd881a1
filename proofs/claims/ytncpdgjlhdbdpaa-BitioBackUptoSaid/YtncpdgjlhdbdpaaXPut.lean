/- Towards the laws of this seat: contracts of the program's functions in a logic over a small machine (text XPut). No condition. -/
import Derived.Test.YtncpdgjlhdbdpaaXTab
import Derived.Test.YtncpdgjlhdbdpaaXBits
import Derived.Test.YtncpdgjlhdbdpaaWvmLgf
namespace Go.Proofs.Ytncpdgjlhdbdpaa
open Go.Wvm Bits
set_option linter.unusedVariables false
set_option linter.unusedSimpArgs false

abbrev u8v (n : Nat) : Value := .int .u8 n

structure WrAt (M : AM) (p q : Nat) (l : List Bool) : Prop where
  row : M.get p = some (.row [bufV q (packL l).length, .int .i64 (l.length : Int)] 0 (some (68, 0)))
  buf : packL l ≠ [] → M.get q = some (.row ((packL l).map u8v) 1 (some (5, 0)))
  ne : p ≠ q

set_option maxHeartbeats 4000000 in
theorem put_ok {ro : Nat} {M : AM} {p q : Nat} {l : List Bool} {v n : Nat} (hp : ro ≤ p) (hq : ro ≤ q) (h : WrAt M p q l) (hv : v < 2 ^ 64) (hn : n ≤ 64) (hl : l.length + n ≤ 134217728) :
    FnC Try.prog tables ro 35 [.pointer (some ⟨p, 0, none⟩), .int .u64 v, .int .i64 n] M (fun r M' => ∃ q', WrAt M' p q' (l ++ ofN v n) ∧ Fr M M' [p, q] ∧ (q' = q ∨ M.next ≤ q') ∧ ro ≤ q') := by
  refine FnC.body (nt := 72) ok hm fn35 rfl rfl ?_
  (repeat (refine Ex.block ok hm ?_))
  refine Ex.loop ?_
  refine Lp.inv ok hm (α := Nat × List Bool × Nat)
    (fun x E M' => E = [(0, .pointer (some ⟨p, 0, none⟩)), (1, .int .u64 v), (2, .int .i64 x.1)] ∧ x.1 ≤ n ∧ x.2.1 ++ ofN v x.1 = l ++ ofN v n ∧ WrAt M' p x.2.2 x.2.1 ∧ Fr M M' [p, q] ∧ (x.2.2 = q ∨ M.next ≤ x.2.2) ∧ ro ≤ x.2.2)
    (fun x => x.1) ?_ (n, l, q) [(0, .pointer (some ⟨p, 0, none⟩)), (1, .int .u64 v), (2, .int .i64 n)] ⟨rfl, rfl, rfl, trivial⟩ ⟨rfl, Nat.le_refl _, rfl, h, Fr.refl _ _, .inl rfl, hq⟩
  intro ⟨k, l1, q1⟩ E M1 ⟨hE, hk, hb, hW, hF, hq1, hro⟩
  simp only at hE hk hb hW hq1 hro
  subst hE
  have hlen : l1.length + k = l.length + n := by
    have := congrArg List.length hb
    simpa [ofN_length] using this
  by_cases h0 : k = 0
  · subst h0
    (repeat (first
    | refine Ex.seq ok hm ?_
    | refine Ex.region ok hm ?_
    | refine Sq.pu ok hm Want.none (by first
    | exact Pu.move rfl
    | exact Pu.gtrI rfl rfl) rfl ?_
    | refine Sq.finH (n := 9) ok hm (by repeat (first
    | exact Keep.nil
    | apply Keep.drop rfl
    | apply Keep.keep rfl)) ?_
    | refine Ex.condF ok hm rfl (by rfl) ?_
    | refine Ex.exit ok hm ?_))
    refine ⟨_, .nil, q1, ?_, hF, hq1, hro⟩
    rw [ofN_zero, List.append_nil] at hb
    rw [← hb]; exact hW
  · refine Ex.facts fun hlt hron => ?_
    have hrow := hW.row
    have hpl := hlt _ _ hrow
    have hne := hW.ne
    have hpk := packL_length l1
    have hbl := begunL_length l1
    (repeat (first
    | refine Ex.seq ok hm ?_
    | refine Ex.block ok hm ?_
    | refine Ex.skip ok hm ?_
    | refine Ex.region ok hm ?_
    | refine Sq.pu ok hm Want.none (by first
    | exact Pu.move rfl
    | exact Pu.assign rfl
    | exact Pu.nilCheck rfl
    | exact Pu.fieldAddr hT rfl rfl rfl rfl rfl
    | (apply Pu.load hT rfl rfl rfl; (focus ((repeat (assumption)))); (focus rfl))
    | exact Pu.rem rfl rfl (by omega) (by omega)
    | exact Pu.gtrI rfl rfl
    | exact Pu.eqlI rfl rfl) rfl ?_
    | refine Sq.finH (n := 9) ok hm (by repeat (first
    | exact Keep.nil
    | apply Keep.drop rfl
    | apply Keep.keep rfl)) ?_
    | refine Ex.condT ok hm rfl (by exact decide_eq_true (by omega)) ?_))
    refine Ex.cut [(6, .int .i64 ((l1.length : Int) % 8)), (0, .pointer (some ⟨p, 0, none⟩)), (1, .int .u64 v), (2, .int .i64 k)]
      (fun M2 => ∃ q2, M2.get p = some (.row [.slice (some ⟨q2, 0, none⟩) (begunL l1).length (begunL l1).length, .int .i64 (l1.length : Int)] 0 (some (68, 0))) ∧ M2.get q2 = some (.row ((begunL l1).map u8v) 1 (some (5, 0))) ∧ p ≠ q2 ∧ Fr M1 M2 [p, q1] ∧ (q2 = q1 ∨ M1.next ≤ q2) ∧ ro ≤ q2) ?_ ?_
    · by_cases hu : l1.length % 8 = 0
      · by_cases hz : (packL l1).length = 0
        · have hrow0 : M1.get p = some (.row [.slice none 0 0, .int .i64 (l1.length : Int)] 0 (some (68, 0))) := by rw [hrow, bufV, if_pos hz]
          clear hrow
          (repeat (first
    | refine Ex.region ok hm ?_
    | refine Sq.pu ok hm Want.none (by first
    | exact Pu.move rfl
    | exact Pu.nilCheck rfl
    | exact Pu.fieldAddr hT rfl rfl rfl rfl rfl
    | (apply Pu.load hT rfl rfl rfl; (focus ((repeat (assumption)))); (focus rfl))) rfl ?_
    | refine Sq.op ok hm Want.none (Op1.buildSlice hT rfl rfl rfl rfl rfl rfl rfl) rfl ?_
    | refine Ex.condT ok hm rfl (by first
    | rfl
    | exact decide_eq_true (by omega)) ?_))
          refine Sq.op ok hm Want.none (Op1.appendNil hT rfl rfl rfl rfl rfl rfl (Src.slice (n := 1) (by (repeat (exact AM.add_same))) (by decide)) (by decide) (by decide) rfl rfl rfl) rfl ?_
          (repeat (refine Sq.pu ok hm Want.none (by first
    | exact Pu.nilCheck rfl
    | exact Pu.fieldAddr hT rfl rfl rfl rfl rfl) rfl ?_))
          refine Sq.act ok hm Want.none (Op1.store hT rfl rfl rfl rfl (by (repeat (first
    | assumption
    | apply (AM.add_ne (by (try simp only [AM.next_add, AM.next_upd, AM.next_rm, AM.next_bump]); omega)).trans))) hp (Nat.le_of_ble_eq_true rfl) (Nat.le_of_ble_eq_true rfl) rfl) ?_
          (repeat (refine Sq.finH (n := 9) ok hm (by repeat (first
    | exact Keep.nil
    | apply Keep.drop rfl
    | apply Keep.keep rfl)) ?_))
          refine ⟨rfl, ⟨rfl, rfl, rfl, rfl, trivial⟩, M1.next + 1, ?_, ?_, ?_⟩
          · have : (begunL l1).length = 1 := by omega
            rw [this]; exact AM.upd_same
          · have hl0 : l1 = [] := List.length_eq_zero_iff.1 (by omega)
            have : begunL l1 = [0] := by subst hl0; rfl
            rw [this]
            exact (AM.upd_ne (by omega)).trans AM.add_same
          · refine ⟨by omega, ?_, .inr (by omega), by omega⟩
            exact (((Fr.refl _ _).add' _).add' _).upd' _ (.inl (by simp))
        · have hbuf := hW.buf (fun e => hz (by rw [e]; rfl))
          have hrow0 : M1.get p = some (.row [.slice (some ⟨q1, 0, none⟩) (packL l1).length (packL l1).length, .int .i64 (l1.length : Int)] 0 (some (68, 0))) := by rw [hrow, bufV, if_neg hz]
          have hql := hlt _ _ hbuf
          clear hrow
          (repeat (first
    | refine Ex.region ok hm ?_
    | refine Sq.pu ok hm Want.none (by first
    | exact Pu.move rfl
    | exact Pu.nilCheck rfl
    | exact Pu.fieldAddr hT rfl rfl rfl rfl rfl
    | (apply Pu.load hT rfl rfl rfl; (focus ((repeat (assumption)))); (focus rfl))) rfl ?_
    | refine Sq.op ok hm Want.none (Op1.buildSlice hT rfl rfl rfl rfl rfl rfl rfl) rfl ?_
    | refine Ex.condT ok hm rfl (by first
    | rfl
    | exact decide_eq_true (by omega)) ?_))
          refine Sq.op ok hm Want.none (Op1.appendFull hT rfl rfl (by (repeat (first
    | assumption
    | apply (AM.add_ne (by (try simp only [AM.next_add, AM.next_upd, AM.next_rm, AM.next_bump]); omega)).trans))) (by simp) (by omega) hro (by omega) rfl rfl rfl rfl (Src.slice (n := 1) (by (repeat (exact AM.add_same))) (by decide)) (by decide) (by omega) rfl rfl rfl) rfl ?_
          (repeat (refine Sq.pu ok hm Want.none (by first
    | exact Pu.nilCheck rfl
    | exact Pu.fieldAddr hT rfl rfl rfl rfl rfl) rfl ?_))
          refine Sq.act ok hm Want.none (Op1.store hT rfl rfl rfl rfl (by (repeat (first
    | assumption
    | apply (AM.add_ne (by (try simp only [AM.next_add, AM.next_upd, AM.next_rm, AM.next_bump]); omega)).trans
    | apply (AM.rm_ne (by (try simp only [AM.next_add, AM.next_upd, AM.next_rm, AM.next_bump]); omega)).trans))) hp (Nat.le_of_ble_eq_true rfl) (Nat.le_of_ble_eq_true rfl) rfl) ?_
          (repeat (refine Sq.finH (n := 9) ok hm (by repeat (first
    | exact Keep.nil
    | apply Keep.drop rfl
    | apply Keep.keep rfl)) ?_))
          refine ⟨rfl, ⟨rfl, rfl, rfl, rfl, trivial⟩, M1.next + 1, ?_, ?_, ?_⟩
          · have : (begunL l1).length = (packL l1).length + 1 := by omega
            rw [this]; exact AM.upd_same
          · have : begunL l1 = packL l1 ++ [0] := by unfold begunL; rw [if_pos hu]
            rw [this, List.map_append]
            exact (AM.upd_ne (by omega)).trans AM.add_same
          · refine ⟨by omega, ?_, .inr (by omega), by omega⟩
            exact ((((Fr.refl _ _).add' _).rm' (.inl (by simp))).add' _).upd' _ (.inl (by simp))
      · have hz : (packL l1).length ≠ 0 := by omega
        have hbuf := hW.buf (fun e => hz (by rw [e]; rfl))
        (repeat (first
    | refine Ex.skip ok hm ?_
    | refine Ex.condF ok hm rfl (by first
    | rfl
    | exact decide_eq_false (by omega)) ?_))
        refine ⟨rfl, ⟨rfl, rfl, rfl, rfl, trivial⟩, q1, ?_, ?_, hne, Fr.refl _ _, .inl rfl, hro⟩
        · rw [hrow, bufV, if_neg hz, begunL, if_neg hu]
        · rw [hbuf, begunL, if_neg hu]
    · intro M2 ⟨q2, hr2, hb2, hne2, hF2, hq2, hro2⟩
      have hkk : min (8 - (l1.length:Int) % 8) (k:Int) = ((min (8 - l1.length % 8) k : Nat) : Int) := by omega
      generalize hkd : min (8 - l1.length % 8) k = kk at hkk
      have hk1 : 1 ≤ kk := by omega
      have hk2 : kk ≤ k := by omega
      have hk3 : kk ≤ 8 - l1.length % 8 := by omega
      clear hrow hW
      (repeat (first
    | refine Ex.seq ok hm ?_
    | refine Ex.region ok hm ?_
    | refine Sq.pu ok hm Want.none (by first
    | exact Pu.move rfl
    | exact Pu.assign rfl
    | exact Pu.sub rfl rfl (by simp only [InR]; omega)
    | exact Pu.min2 rfl rfl) rfl ?_
    | refine Sq.finH (n := 9) ok hm (by repeat (first
    | exact Keep.nil
    | apply Keep.drop rfl
    | apply Keep.keep rfl)) ?_))
      rw [hkk]
      refine Ex.quiet ok hm (by kernel_rfl) ?_
      (repeat (first
    | refine Ex.seq ok hm ?_
    | refine Hq.pu Want.none (by first
    | exact Pu.move rfl
    | exact Pu.assign rfl
    | exact Pu.sub rfl rfl (by simp only [InR]; omega)
    | exact Pu.shr rfl rfl (by omega) (by omega) (by simp only [InR]; omega)
    | exact Pu.shlU8 rfl rfl (by omega) (by omega)
    | exact Pu.convU8 hT rfl rfl rfl
    | exact Pu.subU8 rfl rfl
    | exact Pu.and rfl rfl (by omega) (by omega) (by simp only [InR]; omega) (by simp only [InR]; omega)) rfl rfl rfl ?_
    | refine Hq.nil ?_))
      rw [part_eq v k kk hk1 (by omega) hk2]
      have hpart : v / 2 ^ (k - kk) % 2 ^ kk < 2 ^ kk := Nat.mod_lt _ (Nat.two_pow_pos _)
      generalize hpd : v / 2 ^ (k - kk) % 2 ^ kk = part at hpart
      refine Ex.draw ok hm 20 (by kernel_rfl) ?_
      (repeat (refine Hq.pu Want.none (by first
    | exact Pu.move rfl
    | exact Pu.nilCheck rfl
    | exact Pu.fieldAddr hT rfl rfl rfl rfl rfl
    | (apply Pu.load hT rfl rfl rfl; (focus ((repeat (assumption)))); (focus rfl))
    | exact Pu.sub rfl rfl (by simp only [InR]; omega)
    | exact Pu.lenL hT rfl rfl
    | exact Pu.indexAddr hT rfl rfl rfl rfl (by omega) (by omega)) rfl rfl rfl ?_))
      have hx := begunL_last l1
      have hxl : byteB (l1.drop (8 * (l1.length / 8))) < 256 := byteB_lt _ (by rw [List.length_drop]; omega)
      generalize hxd : byteB (l1.drop (8 * (l1.length / 8))) = x at hx hxl
      have hload : ((begunL l1).map u8v)[l1.length / 8]? = some (u8v x) := by rw [List.getElem?_map, hx]; rfl
      have hidx : 0 + (((begunL l1).length : Int) - 1).toNat * 1 = l1.length / 8 := by omega
      refine Hq.pu Want.none (Pu.load hT rfl rfl rfl hb2 ((congrArg (fun i => ((begunL l1).map u8v)[i]?) hidx).trans hload)) rfl rfl rfl ?_
      (repeat (first
    | refine Hq.pu Want.none (by first
    | exact Pu.move rfl
    | exact Pu.sub rfl rfl (by simp only [InR]; omega)
    | exact Pu.indexAddr hT rfl rfl rfl rfl (by omega) (by omega)
    | exact Pu.shlU8 rfl rfl (by omega) (by omega)
    | exact Pu.or rfl rfl (by omega) (by omega) (by simp only [InR]; omega) (by simp only [InR]; omega)) rfl rfl rfl ?_
    | refine Hq.nil ?_))
      have hor : ((x : Int).toNat ||| ((part : Int) * 2 ^ (8 - (l1.length : Int) % 8 - (kk : Int)).toNat % 256).toNat) = x ||| part * 2 ^ (8 - l1.length % 8 - kk) := by
        have e1 : (8 - (l1.length : Int) % 8 - (kk : Int)).toNat = 8 - l1.length % 8 - kk := by omega
        rw [e1]
        have h1 : part * 2 ^ (8 - l1.length % 8 - kk) < 2 ^ kk * 2 ^ (8 - l1.length % 8 - kk) := Nat.mul_lt_mul_of_pos_right hpart (Nat.two_pow_pos _)
        rw [← Nat.pow_add] at h1
        have h2 : (2 : Nat) ^ (kk + (8 - l1.length % 8 - kk)) ≤ 2 ^ 8 := Nat.pow_le_pow_right (by omega) (by omega)
        have h3 : ((part : Int) * 2 ^ (8 - l1.length % 8 - kk) % 256).toNat = part * 2 ^ (8 - l1.length % 8 - kk) % 256 := by
          have : ((part : Int) * 2 ^ (8 - l1.length % 8 - kk) % 256) = ((part * 2 ^ (8 - l1.length % 8 - kk) % 256 : Nat) : Int) := by simp
          rw [this]; rfl
        rw [h3, Nat.mod_eq_of_lt (by omega), Int.toNat_natCast]
      rw [hor]
      refine Tq.act Want.none (Op1.store hT rfl rfl rfl rfl hb2 hro2 (Nat.zero_le _) (by rw [List.length_map]; show 0 + (((begunL l1).length : Int) - 1).toNat * 1 + 1 ≤ _; omega) rfl) ?_
      (repeat (first
    | refine Ex.seq ok hm ?_
    | refine Ex.region ok hm ?_
    | refine Sq.pu ok hm Want.none (by first
    | exact Pu.move rfl
    | exact Pu.nilCheck rfl
    | exact Pu.fieldAddr hT rfl rfl rfl rfl rfl
    | (apply Pu.load hT rfl rfl rfl; (focus ((repeat (first
    | assumption
    | apply (AM.upd_ne (by (try simp only [AM.next_add, AM.next_upd, AM.next_rm, AM.next_bump]); omega)).trans)))); (focus rfl))
    | exact Pu.add rfl rfl (by simp only [InR]; omega)) rfl ?_
    | refine Tq.finH (n := 9)  (by repeat (first
    | exact Keep.nil
    | apply Keep.drop rfl
    | apply Keep.keep rfl)) ?_))
      refine Sq.act ok hm Want.none (Op1.store hT rfl rfl rfl rfl (by (repeat (first
    | assumption
    | apply (AM.upd_ne (by (try simp only [AM.next_add, AM.next_upd, AM.next_rm, AM.next_bump]); omega)).trans))) hp (Nat.le_of_ble_eq_true rfl) (Nat.le_of_ble_eq_true rfl) rfl) ?_
      (repeat (first
    | refine Ex.region ok hm ?_
    | refine Sq.pu ok hm Want.none (by first
    | exact Pu.move rfl
    | exact Pu.assign rfl
    | exact Pu.sub rfl rfl (by simp only [InR]; omega)) rfl ?_
    | refine Sq.finH (n := 9) ok hm (by repeat (first
    | exact Keep.nil
    | apply Keep.drop rfl
    | apply Keep.keep rfl)) ?_))
      have hof : (ofN (v / 2 ^ (k - kk)) kk).length = kk := ofN_length _ _
      have hval : valB (ofN (v / 2 ^ (k - kk)) kk) = part := by rw [valB_ofN, hpd]
      have hstep := pack_step l1 (ofN (v / 2 ^ (k - kk)) kk) (by omega) (by omega)
      rw [hxd, hval, hof] at hstep
      have hsp := ofN_split v k kk hk2
      have hpl2 : (packL (l1 ++ ofN (v / 2 ^ (k - kk)) kk)).length = (begunL l1).length := by rw [hstep, List.length_set]
      have hne0 : (begunL l1).length ≠ 0 := by omega
      refine ⟨(k - kk, l1 ++ ofN (v / 2 ^ (k - kk)) kk, q2), [(0, .pointer (some ⟨p, 0, none⟩)), (1, .int .u64 v), (2, .int .i64 ((k : Int) - kk))], by simp only; omega, ⟨rfl, rfl, rfl, trivial⟩, ?_, ?_, ?_, ?_, ?_, ?_, ?_⟩
      · simp only
        rw [show ((k - kk : Nat) : Int) = (k : Int) - kk by omega]
      · simp only; omega
      · simp only
        rw [List.append_assoc, ← hsp]; exact hb
      · refine ⟨?_, fun _ => ?_, hne2⟩
        · rw [hpl2, bufV, if_neg hne0, List.length_append, hof]
          exact AM.upd_same
        · refine (AM.upd_ne (Ne.symm hne2)).trans (AM.upd_same.trans ?_)
          rw [hstep]
          have : ∀ i, 0 + (((begunL l1).length : Int) - 1).toNat * 1 = i → setAt ((begunL l1).map u8v) i (cellsL (u8v (x ||| part * 2 ^ (8 - l1.length % 8 - kk)))) = ((begunL l1).set (l1.length / 8) (x ||| part * 2 ^ (8 - l1.length % 8 - kk))).map u8v := by
            intro i hi
            rw [hidx] at hi
            subst hi
            simp only [cellsL, setAt, List.map_set]
          rw [← this _ rfl]
      · refine hF.trans ((hF2.upd' _ ?_).upd' _ (.inl (by simp))) ?_
        · rcases hq2 with h | h
          · left; rw [h]; simp
          · right; exact h
        · intro b hb
          simp only [List.mem_cons, List.not_mem_nil, or_false] at hb
          rcases hb with rfl | rfl
          · left; simp
          · rcases hq1 with h | h
            · left; rw [h]; simp
            · right; exact h
      · simp only
        rcases hq2 with h | h
        · rw [h]; exact hq1
        · right; have := hF.next; omega
      · exact hro2
end Go.Proofs.Ytncpdgjlhdbdpaa
