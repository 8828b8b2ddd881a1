/- Towards the laws of this seat: contracts of the program's functions in a logic over a small machine (text XSTo). No condition. -/
import Derived.Test.YtlheieilhpbkdabDoorXSTm
import Derived.Test.YtlheieilhpbkdabDoorXSUo
import Derived.Test.YtlheieilhpbkdabDoorXSGo
namespace Go.Proofs.YtlheieilhpbkdabDoor
open Go.Wvm Crc
set_option linter.unusedVariables false
set_option linter.unusedSimpArgs false

theorem set_cells (s : List UInt8) (i : Nat) (v : Nat) (hv : v < 256) : setAt (s.map fun b => (.int .u8 ((b.toNat : Nat) : Int) : Value)) i (cellsL (.int .u8 (v : Int))) = (s.set i (UInt8.ofNat v)).map fun b => .int .u8 ((b.toNat : Nat) : Int) := by
  simp only [cellsL, setAt, List.map_set]
  rw [← u8_lt v hv]

set_option maxHeartbeats 8000000 in
theorem told_ok {ro : Nat} {M : AM} {p0 tail : List UInt8} {At By K : Nat} (hg : TabOk M) (hA : At < 65536) (hB : By < 256) (hK : K < 256) (hl : p0.length + tail.length ≤ 1048576) :
    FnC Tryd.prog tables ro 5 [.string ⟨⟨p0⟩⟩, .string ⟨⟨tail⟩⟩, .agg ⟨[.int .u16 (At : Int), .int .u8 (By : Int), .int .u8 (K : Int)]⟩] M (fun v _ => v = .bool true) := by
  refine FnC.body (nt := 132) ok hm fn5 rfl rfl ?_
  refine Ex.facts fun hlt hron => ?_
  (repeat (first
    | refine Ex.seq ok hm ?_
    | refine Ex.region ok hm ?_))
  refine Sq.op ok hm Want.none (Op1.box rfl rfl) rfl ?_
  have hg0 : TabOk (M.add (.row [.int .u16 (At : Int), .int .u8 (By : Int), .int .u8 (K : Int)] 0 (some (39, 0)))) := hg
  have hb0 : (M.add (.row [.int .u16 (At : Int), .int .u8 (By : Int), .int .u8 (K : Int)] 0 (some (39, 0)))).get M.next = some (.row [.int .u16 (At : Int), .int .u8 (By : Int), .int .u8 (K : Int)] 0 (some (39, 0))) := AM.add_same
  have hn0 : M.next < (M.add (.row [.int .u16 (At : Int), .int .u8 (By : Int), .int .u8 (K : Int)] 0 (some (39, 0)))).next := Nat.lt_succ_self _
  show Sq Tryd.prog tables ro ⟨5, 132⟩ _ _ _ (M.add (.row [.int .u16 (At : Int), .int .u8 (By : Int), .int .u8 (K : Int)] 0 (some (39, 0)))) _
  generalize M.add (.row [.int .u16 (At : Int), .int .u8 (By : Int), .int .u8 (K : Int)] 0 (some (39, 0))) = M0 at hg0 hb0 hn0 ⊢
  generalize M.next = bp at hb0 hn0 hron ⊢
  (repeat (first
    | refine Ex.seq ok hm ?_
    | refine Ex.region ok hm ?_
    | refine Sq.pu ok hm Want.none (by first
    | exact Pu.move rfl
    | exact Pu.assign rfl
    | exact Pu.min2 rfl rfl
    | exact Pu.lenS hT rfl rfl) rfl ?_
    | refine Sq.finH (n := 23) ok hm (by repeat (first
    | exact Keep.nil
    | apply Keep.keep rfl)) ?_))
  rw [show min (p0.length : Int) 2000 = ((min p0.length 2000 : Nat) : Int) by omega]
  refine Sq.pu ok hm Want.none (Pu.sliceHi (b := min p0.length 2000) hT (by omega) rfl rfl rfl) rfl ?_
  have hpl : (p0.take (min p0.length 2000)).length ≤ 2000 := by rw [List.length_take]; omega
  generalize p0.take (min p0.length 2000) = p at hpl ⊢
  have hfr : Value.tuple ⟨[.string ⟨⟨(frameE K p).1⟩⟩, .int .i64 (frameE K p).2]⟩ = .tuple ⟨[.string ⟨⟨laid K p⟩⟩, .int .i64 0]⟩ := by rw [show frameE K p = (laid K p, 0) from if_neg (by omega)]
  have hll := laid_length K p
  (repeat (first
    | refine Ex.seq ok hm ?_
    | refine Ex.region ok hm ?_
    | refine Sq.pu ok hm Want.none (by first
    | exact Pu.move rfl
    | exact Pu.assign rfl
    | exact Pu.fieldAddr hT rfl rfl rfl rfl rfl
    | (apply Pu.load hT rfl rfl rfl; (focus ((repeat (assumption)))); (focus rfl))) rfl ?_
    | refine Sq.finH (n := 23) ok hm (by repeat (first
    | exact Keep.nil
    | apply Keep.drop rfl
    | apply Keep.keep rfl)) ?_))
  refine Sq.call ok Want.none (Op1.call rfl rfl fn6) rfl (FnC.mono (Frame_ok (kind := K) (p := p) hg0 hK (by omega)) ?_)
  rintro x M1 ⟨rfl, hF1⟩
  rw [hfr]
  have hg1 := hg0.fr hF1
  have hb1 := (hF1.get bp hn0 (by simp)).trans hb0
  have hn1 := hF1.next
  clear hb0
  (repeat (first
    | refine Ex.seq ok hm ?_
    | refine Ex.region ok hm ?_
    | refine Sq.pu ok hm Want.none (by first
    | exact Pu.move rfl
    | exact Pu.assign rfl
    | exact Pu.extract rfl rfl
    | exact Pu.catS rfl rfl (by omega)) rfl ?_
    | refine Sq.finH (n := 23) ok hm (by repeat (first
    | exact Keep.nil
    | apply Keep.drop rfl
    | apply Keep.keep rfl)) ?_))
  have hal : (laid K p ++ tail).length = 9 + p.length + tail.length := by rw [List.length_append]; omega
  refine Sq.call ok Want.none (Op1.call rfl rfl fn8) rfl (FnC.mono (Unframe_ok (s := laid K p ++ tail) hg1 (by omega)) ?_)
  rintro x M2 ⟨rfl, hF2⟩
  rw [show unV (unE (laid K p ++ tail)) = .tuple ⟨[.int .u8 (K : Int), .string ⟨⟨p⟩⟩, .string ⟨⟨tail⟩⟩, .int .i64 0]⟩ by rw [un_laid K p tail hK (by omega)]; rfl]
  have hg2 := hg1.fr hF2
  have hb2 := (hF2.get bp (by omega) (by simp)).trans hb1
  have hn2 := hF2.next
  clear hb1
  (repeat (first
    | refine Ex.seq ok hm ?_
    | refine Ex.skip ok hm ?_
    | refine Ex.region ok hm ?_
    | refine Sq.pu ok hm Want.none (by first
    | exact Pu.move rfl
    | exact Pu.assign rfl
    | exact Pu.fieldAddr hT rfl rfl rfl rfl rfl
    | (apply Pu.load hT rfl rfl rfl; (focus ((repeat (assumption)))); (focus rfl))
    | exact Pu.extract rfl rfl
    | exact Pu.addN rfl rfl (by simp only [InR]; omega)
    | exact Pu.sub rfl rfl (by simp only [InR]; omega)
    | exact Pu.neqI rfl rfl
    | exact Pu.neqS rfl rfl
    | exact Pu.lenS hT rfl rfl
    | exact Pu.pickF rfl (by first
    | rfl
    | (simp; done)) rfl
    | exact Pu.convN hT rfl rfl rfl (by simp only [InR]; omega)) rfl ?_
    | refine Sq.pu ok hm (by first
    | exact Want.none
    | exact Want.yes rfl rfl rfl (by first
    | rfl
    | (simp; done))) (by first
    | exact Pu.move rfl
    | exact Pu.fieldAddr hT rfl rfl rfl rfl rfl
    | (apply Pu.load hT rfl rfl rfl; (focus ((repeat (assumption)))); (focus rfl))
    | exact Pu.addN rfl rfl (by simp only [InR]; omega)
    | exact Pu.neqI rfl rfl
    | exact Pu.neqS rfl rfl
    | exact Pu.lenS hT rfl rfl) rfl ?_
    | refine Sq.finH (n := 23) ok hm (by repeat (first
    | exact Keep.nil
    | apply Keep.drop rfl
    | apply Keep.keep rfl)) ?_
    | refine Ex.condF ok hm rfl (by first
    | rfl
    | (simp; omega)) ?_))
  rw [show ((laid K p).length : Int) - 4 = ((5 + p.length : Nat) : Int) by omega]
  refine Sq.pu ok hm Want.none (Pu.remN (a := At) (b := 5 + p.length) rfl rfl (by omega)) rfl ?_
  have hr0 := Nat.mod_lt At (show 0 < 5 + p.length by omega)
  generalize At % (5 + p.length) = r0 at hr0 ⊢
  obtain ⟨at', hat⟩ : ∃ at', at' = if r0 = 0 then 0 else r0 + 4 := ⟨_, rfl⟩
  have hat1 : (at' = 0 ∨ 5 ≤ at') ∧ at' < 9 + p.length := by rw [hat]; split <;> omega
  (repeat (first
    | refine Ex.seq ok hm ?_
    | refine Ex.region ok hm ?_
    | refine Sq.pu ok hm Want.none (by first
    | exact Pu.move rfl
    | exact Pu.assign rfl
    | exact Pu.gtrI rfl rfl) rfl ?_
    | refine Sq.finH (n := 23) ok hm (by repeat (first
    | exact Keep.nil
    | apply Keep.drop rfl
    | apply Keep.keep rfl)) ?_))
  refine Ex.cut [(13, .int .i64 (at' : Int)), (7, .string ⟨⟨laid K p⟩⟩), (1, .string ⟨⟨tail⟩⟩), (5, .pointer (some ⟨bp, 0, none⟩)), (6, .bool false)] (fun M' => M' = M2) ?_ ?_
  · by_cases hz : r0 = 0
    · rw [if_pos hz] at hat
      subst hz
      subst hat
      (repeat (first
    | refine Ex.skip ok hm ?_
    | refine Ex.condF ok hm rfl (by rfl) ?_))
      exact ⟨rfl, ⟨rfl, rfl, rfl, rfl, rfl, trivial⟩, rfl⟩
    · rw [if_neg hz] at hat
      subst hat
      (repeat (first
    | refine Ex.region ok hm ?_
    | refine Sq.pu ok hm Want.none (by first
    | exact Pu.move rfl
    | exact Pu.assign rfl
    | exact Pu.addN rfl rfl (by simp only [InR]; omega)) rfl ?_
    | refine Sq.finH (n := 23) ok hm (by repeat (first
    | exact Keep.nil
    | apply Keep.drop rfl
    | apply Keep.keep rfl)) ?_
    | refine Ex.condT ok hm rfl (by first
    | rfl
    | exact decide_eq_true (by omega)) ?_))
      exact ⟨rfl, ⟨rfl, rfl, rfl, rfl, rfl, trivial⟩, rfl⟩
  rintro M3 rfl
  clear hr0 hat
  have hn3 : bp < M3.next := by omega
  (repeat (first
    | refine Ex.seq ok hm ?_
    | refine Ex.region ok hm ?_
    | refine Sq.pu ok hm Want.none (by first
    | exact Pu.move rfl
    | exact Pu.catS rfl rfl (by omega)) rfl ?_))
  refine Sq.op ok hm Want.none (Op1.bytes hT rfl rfl rfl rfl) rfl ?_
  (repeat (first
    | refine Ex.seq ok hm ?_
    | refine Sq.pu ok hm Want.none (by exact Pu.assign rfl) rfl ?_
    | refine Sq.finH (n := 23) ok hm (by repeat (first
    | exact Keep.nil
    | apply Keep.drop rfl
    | apply Keep.keep rfl)) ?_))
  have hfx : at' < (laid K p ++ tail).length := by omega
  have hbyte := ((laid K p ++ tail)[at']'hfx).toNat_lt
  have hget : (laid K p ++ tail)[at']? = some ((laid K p ++ tail)[at']'hfx) := List.getElem?_eq_getElem hfx
  generalize (laid K p ++ tail)[at']'hfx = xb at hbyte hget
  have hload : ((laid K p ++ tail).map fun b => (.int .u8 (.ofNat b.toNat) : Value))[0 + ((at' : Nat) : Int).toNat * 1]? = some (.int .u8 ((xb.toNat : Nat) : Int)) := by
    rw [Int.toNat_natCast, Nat.zero_add, Nat.mul_one, List.getElem?_map, hget]; rfl
  have hx1 : xb.toNat ^^^ (By % 255 + 1) < 256 := Nat.xor_lt_two_pow (n := 8) (by omega) (by omega)
  have hne : (laid K p ++ tail)[at']? ≠ some (UInt8.ofNat (xb.toNat ^^^ (By % 255 + 1))) := by
    rw [hget]
    intro h
    have h2 := congrArg (Option.map UInt8.toNat) h
    simp only [Option.map_some, Option.some.injEq] at h2
    rw [UInt8.toNat_ofNat', Nat.mod_eq_of_lt hx1] at h2
    have h3 := congrArg (xb.toNat ^^^ ·) h2
    simp only [← Nat.xor_assoc, Nat.xor_self, Nat.zero_xor] at h3
    omega
  have htu := un_turned K p tail (by omega) at' _ hat1.1 hat1.2 hne
  refine Ex.draw ok hm 11 (by kernel_rfl) ?_
  (repeat (refine Hq.pu Want.none (by first
    | exact Pu.move rfl
    | exact Pu.indexAddr hT rfl rfl rfl rfl (by omega) (by omega)) rfl rfl rfl ?_))
  refine Hq.pu Want.none (Pu.load hT rfl rfl rfl AM.add_same hload) rfl rfl rfl ?_
  (repeat (first
    | refine Hq.pu Want.none (by first
    | exact Pu.fieldAddr hT rfl rfl rfl rfl rfl
    | (apply Pu.load hT rfl rfl rfl; (focus ((repeat (first
    | assumption
    | apply (AM.add_ne (by (try simp only [AM.next_add, AM.next_upd, AM.next_rm, AM.next_bump]); omega)).trans)))); (focus rfl))
    | exact Pu.xorN rfl rfl (by simp only [InR]; omega) (by simp only [InR]; omega)
    | exact Pu.remN rfl rfl (by decide)
    | exact Pu.addN rfl rfl (by simp only [InR]; omega)) rfl rfl rfl ?_
    | refine Hq.nil ?_
    | refine Tq.pu Want.none (by exact Pu.indexAddr hT rfl rfl rfl rfl (by omega) (by omega)) rfl ?_))
  refine Tq.act Want.none (Op1.store hT rfl rfl rfl rfl AM.add_same (by omega) (Nat.le_of_ble_eq_true rfl) (by rw [List.length_map]; show 0 + ((at' : Nat) : Int).toNat * 1 + 1 ≤ _; omega) rfl) ?_
  rw [AM.add_upd, show 0 + ((at' : Nat) : Int).toNat * TyI.size ⟨.int .u8, 1, 1, (some (.int .u8 0)), false⟩ = at' by show 0 + ((at' : Nat) : Int).toNat * 1 = at'; omega]
  have hset := set_cells (laid K p ++ tail) at' (xb.toNat ^^^ (By % 255 + 1)) hx1
  rw [show setAt ((laid K p ++ tail).map fun b => (.int .u8 (.ofNat b.toNat) : Value)) at' (cellsL (.int .u8 ((xb.toNat ^^^ (By % 255 + 1) : Nat) : Int))) = ((laid K p ++ tail).set at' (UInt8.ofNat (xb.toNat ^^^ (By % 255 + 1)))).map fun b => .int .u8 ((b.toNat : Nat) : Int) from hset]
  clear hset hne hload hget
  have hsl : ((laid K p ++ tail).set at' (UInt8.ofNat (xb.toNat ^^^ (By % 255 + 1)))).length = (laid K p ++ tail).length := List.length_set
  generalize (laid K p ++ tail).set at' (UInt8.ofNat (xb.toNat ^^^ (By % 255 + 1))) = f2 at htu hsl ⊢
  rw [← hsl]
  have hg3 : TabOk (M3.add (.row (f2.map fun b => (.int .u8 ((b.toNat : Nat) : Int) : Value)) 1 none)) := hg2
  have hb3 : (M3.add (.row (f2.map fun b => (.int .u8 ((b.toNat : Nat) : Int) : Value)) 1 none)).get bp = some (.row [.int .u16 (At : Int), .int .u8 (By : Int), .int .u8 (K : Int)] 0 (some (39, 0))) := (AM.add_ne (by omega)).trans hb2
  have hq3 : (M3.add (.row (f2.map fun b => (.int .u8 ((b.toNat : Nat) : Int) : Value)) 1 none)).get M3.next = some (.row (f2.map fun b => (.int .u8 ((b.toNat : Nat) : Int) : Value)) 1 none) := AM.add_same
  have hn4 : bp < (M3.add (.row (f2.map fun b => (.int .u8 ((b.toNat : Nat) : Int) : Value)) 1 none)).next := Nat.lt_succ_of_lt hn3
  generalize M3.add (.row (f2.map fun b => (.int .u8 ((b.toNat : Nat) : Int) : Value)) 1 none) = M4 at hg3 hb3 hq3 hn4 ⊢
  generalize M3.next = bq at hq3 ⊢
  (repeat (first
    | refine Ex.seq ok hm ?_
    | refine Ex.region ok hm ?_
    | refine Sq.pu ok hm Want.none (by exact Pu.move rfl) rfl ?_
    | refine Tq.finH (n := 23)  (by repeat (first
    | exact Keep.nil
    | apply Keep.drop rfl
    | apply Keep.keep rfl)) ?_))
  refine Sq.pu ok hm Want.none (Pu.convB (bs := f2) hT rfl rfl rfl rfl hq3 (by rw [List.drop_zero, List.take_of_length_le (by rw [List.length_map]; exact Nat.le_refl _)]) (by rw [List.length_map]; omega)) rfl ?_
  refine Sq.call ok Want.none (Op1.call rfl rfl fn8) rfl (FnC.mono (Unframe_ok (s := f2) hg3 (by omega)) ?_)
  rintro x M5 ⟨rfl, hF5⟩
  rw [htu]
  have hg5 := hg3.fr hF5
  have hb5 := (hF5.get bp hn4 (by simp)).trans hb3
  clear hb3 hb2
  (repeat (first
    | refine Ex.seq ok hm ?_
    | refine Ex.region ok hm ?_
    | refine Sq.pu ok hm Want.none (by first
    | exact Pu.move rfl
    | exact Pu.assign rfl
    | exact Pu.fieldAddr hT rfl rfl rfl rfl rfl
    | (apply Pu.load hT rfl rfl rfl; (focus ((repeat (assumption)))); (focus rfl))
    | exact Pu.extract rfl rfl
    | exact Pu.lenS hT rfl rfl
    | exact Pu.convN hT rfl rfl rfl (by simp only [InR]; omega)) rfl ?_
    | refine Sq.finH (n := 23) ok hm (by repeat (first
    | exact Keep.nil
    | apply Keep.drop rfl
    | apply Keep.keep rfl)) ?_))
  have hcl := Nat.mod_lt At (show 0 < (laid K p).length by omega)
  refine Sq.pu ok hm Want.none (Pu.remN (a := At) (b := (laid K p).length) rfl rfl (by omega)) rfl ?_
  generalize At % (laid K p).length = c0 at hcl ⊢
  have hcut := un_cut K p (by omega) c0 (by omega)
  refine Sq.pu ok hm Want.none (Pu.sliceHi (b := c0) hT (by omega) rfl rfl rfl) rfl ?_
  refine Sq.call ok Want.none (Op1.call rfl rfl fn8) rfl (FnC.mono (Unframe_ok (s := (laid K p).take c0) hg5 (by rw [List.length_take]; omega)) ?_)
  rintro x M6 ⟨rfl, hF6⟩
  rw [hcut]
  have hg6 := hg5.fr hF6
  (repeat (first
    | refine Ex.seq ok hm ?_
    | refine Ex.region ok hm ?_
    | refine Sq.pu ok hm Want.none (by first
    | exact Pu.move rfl
    | exact Pu.assign rfl
    | exact Pu.extract rfl rfl
    | exact Pu.eqlI rfl rfl
    | exact Pu.pickT rfl (by rfl) rfl) rfl ?_
    | refine Sq.pu ok hm (by exact Want.yes rfl rfl rfl (by rfl)) (by first
    | exact Pu.move rfl
    | exact Pu.eqlI rfl rfl) rfl ?_
    | refine Sq.finH (n := 23) ok hm (by repeat (first
    | exact Keep.nil
    | apply Keep.drop rfl
    | apply Keep.keep rfl)) ?_))
  refine Sq.call ok (by exact Want.yes rfl rfl rfl (by rfl)) (Op1.call rfl rfl fn15) rfl (FnC.mono (awake_ok hg6) ?_)
  rintro x M7 ⟨rfl, rfl⟩
  (repeat (first
    | refine Sq.pu ok hm Want.none (by first
    | exact Pu.assign rfl
    | exact Pu.pickT rfl (by rfl) rfl) rfl ?_
    | refine Sq.finH (n := 23) ok hm (by repeat (first
    | exact Keep.nil
    | apply Keep.drop rfl
    | apply Keep.keep rfl)) ?_
    | refine Ex.ret ok hm ?_))
  exact ⟨_, .tmp rfl .nil, rfl⟩
end Go.Proofs.YtlheieilhpbkdabDoor
