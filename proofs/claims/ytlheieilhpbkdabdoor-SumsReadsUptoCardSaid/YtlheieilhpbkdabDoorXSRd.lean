/- Towards the laws of this seat: contracts of the program's functions in a logic over a small machine (text XSRd). No condition. -/
import Derived.Test.YtlheieilhpbkdabDoorXSLa
import Derived.Test.YtlheieilhpbkdabDoorXSUo
import Derived.Test.YtlheieilhpbkdabDoorXSUr
import Derived.Test.YtlheieilhpbkdabDoorXSRef
import Derived.Test.YtlheieilhpbkdabDoorXSGo
namespace Go.Proofs.YtlheieilhpbkdabDoor
open Go.Wvm Crc
set_option linter.unusedVariables false
set_option linter.unusedSimpArgs false

abbrev T2 : List (Nat × TyI) := (24, ⟨.struct #[⟨ "A", 22, 0, false, "", "", 0⟩, ⟨ "B", 22, 1, false, "", "", 4⟩, ⟨ "N", 3, 2, false, "", "", 8⟩], 3, 16, (some (.agg ⟨[(.int .u32 0), (.int .u32 0), (.int .i64 0)]⟩)), true⟩) :: T
theorem hT2 : TyOk tables T2 := TyOk.cons (by kernel_rfl) hT
abbrev bx (A B : Nat) (N : Int) : AO := .row [u32v A, u32v B, .int .i64 N] 0 (some (24, 0))

set_option maxHeartbeats 8000000 in
theorem reads_ok {ro : Nat} {M : AM} {s t : List UInt8} {A B : Nat} {N : Int} (hg : TabOk M) (hA : A < 4294967296) (hB : B < 4294967296) (hN : InR .i64 N) (hl : s.length + t.length ≤ 1048576) :
    FnC Tryd.prog tables ro 3 [.string ⟨⟨s⟩⟩, .string ⟨⟨t⟩⟩, .agg ⟨[u32v A, u32v B, .int .i64 N]⟩] M (fun v _ => v = .bool true) := by
  have hT : TyOk tables T2 := hT2
  refine FnC.body (nt := 182) ok hm fn3 rfl rfl ?_
  refine Ex.facts fun hlt hron => ?_
  have hA8 : ((A : Int) % 256) = ((A % 256 : Nat) : Int) := by omega
  (repeat (first
    | refine Ex.seq ok hm ?_
    | refine Ex.region ok hm ?_))
  refine Sq.op ok hm Want.none (Op1.box rfl rfl) rfl ?_
  have hg0 : TabOk (M.add (bx A B N)) := hg
  have hb0 : (M.add (bx A B N)).get M.next = some (bx A B N) := AM.add_same
  have hn0 : M.next < (M.add (bx A B N)).next := Nat.lt_succ_self _
  show Sq Tryd.prog tables ro ⟨3, 182⟩ _ _ _ (M.add (bx A B N)) _
  generalize M.add (bx A B N) = M0 at hg0 hb0 hn0 ⊢
  generalize M.next = bp at hb0 hn0 hron ⊢
  (repeat (first
    | refine Ex.seq ok hm ?_
    | refine Ex.region ok hm ?_
    | refine Sq.pu ok hm Want.none (by first
    | exact Pu.move rfl
    | exact Pu.assign rfl
    | exact Pu.fieldAddr hT rfl rfl rfl rfl rfl
    | (apply Pu.load hT rfl rfl rfl; (focus ((repeat (assumption)))); (focus rfl))
    | exact Pu.convU8 hT rfl rfl rfl) rfl ?_
    | refine Sq.finH (n := 27) ok hm (by repeat (first
    | exact Keep.nil
    | apply Keep.keep rfl)) ?_))
  rw [hA8]
  (repeat (fail))
  refine Sq.call ok Want.none (Op1.call rfl rfl fn6) rfl (FnC.mono (Frame_ok (kind := A % 256) (p := s) hg0 (by omega) (by omega)) ?_)
  rintro x M1 ⟨rfl, hF1⟩
  have hg1 := hg0.fr hF1
  have hb1 := (hF1.get bp hn0 (by simp)).trans hb0
  have hn1 := hF1.next
  clear hb0
  (repeat (first
    | refine Ex.seq ok hm ?_
    | refine Ex.region ok hm ?_
    | refine Sq.pu ok hm Want.none (by first
    | exact Pu.move rfl
    | exact Pu.assign rfl
    | exact Pu.fieldAddr hT rfl rfl rfl rfl rfl
    | (apply Pu.load hT rfl rfl rfl; (focus ((repeat (assumption)))); (focus rfl))
    | exact Pu.extract rfl rfl
    | exact Pu.convU8 hT rfl rfl rfl) rfl ?_
    | refine Sq.finH (n := 27) ok hm (by repeat (first
    | exact Keep.nil
    | apply Keep.drop rfl
    | apply Keep.keep rfl)) ?_))
  rw [hA8]
  (repeat (fail))
  refine Sq.call ok Want.none (Op1.call rfl rfl fn7) rfl (FnC.mono (refFrame_ok (kind := A % 256) (p := s) (by omega) (by omega)) ?_)
  rintro x M2 ⟨rfl, hF2⟩
  have hg2 := hg1.fr hF2
  have hb2 := (hF2.get bp (by omega) (by simp)).trans hb1
  have hn2 := hF2.next
  clear hb1
  (repeat (first
    | refine Ex.seq ok hm ?_
    | refine Ex.region ok hm ?_
    | refine Sq.pu ok hm Want.none (by first
    | exact Pu.move rfl
    | exact Pu.assign rfl
    | exact Pu.extract rfl rfl) rfl ?_
    | refine Sq.finH (n := 27) ok hm (by repeat (first
    | exact Keep.nil
    | apply Keep.drop rfl
    | apply Keep.keep rfl)) ?_))
  refine Sq.call ok Want.none (Op1.call rfl rfl fn8) rfl (FnC.mono (Unframe_ok (s := t) hg2 (by omega)) ?_)
  rintro x M3 ⟨rfl, hF3⟩
  have hg3 := hg2.fr hF3
  have hb3 := (hF3.get bp (by omega) (by simp)).trans hb2
  have hn3 := hF3.next
  clear hb2
  (repeat (first
    | refine Ex.seq ok hm ?_
    | refine Ex.region ok hm ?_
    | refine Sq.pu ok hm Want.none (by first
    | exact Pu.move rfl
    | exact Pu.assign rfl
    | exact Pu.extract rfl rfl) rfl ?_
    | refine Sq.finH (n := 27) ok hm (by repeat (first
    | exact Keep.nil
    | apply Keep.drop rfl
    | apply Keep.keep rfl)) ?_))
  refine Sq.call ok Want.none (Op1.call rfl rfl fn9) rfl (FnC.mono (refUnframe_ok (s := t) (by omega)) ?_)
  rintro x M4 ⟨rfl, rfl⟩
  (repeat (first
    | refine Ex.seq ok hm ?_
    | refine Sq.pu ok hm Want.none (by first
    | exact Pu.move rfl
    | exact Pu.assign rfl
    | exact Pu.extract rfl rfl) rfl ?_
    | refine Sq.finH (n := 27) ok hm (by repeat (first
    | exact Keep.nil
    | apply Keep.drop rfl
    | apply Keep.keep rfl)) ?_))
  have hcs := crc_lt s
  have hos := on_lt s hA
  refine Ex.draw ok hm 43 (by kernel_rfl) ?_
  (repeat (first
    | refine Hq.pu Want.none (by first
    | exact Pu.move rfl
    | exact Pu.neqI rfl rfl
    | exact Pu.neqS rfl rfl
    | exact Pu.pickF rfl (by first
    | rfl
    | (simp; done)) rfl) rfl rfl rfl ?_
    | refine Hq.pu (by exact Want.yes rfl rfl rfl (by (simp; done))) (by first
    | exact Pu.move rfl
    | exact Pu.neqI rfl rfl
    | exact Pu.neqS rfl rfl) rfl rfl rfl ?_))
  refine Hq.call ok (by exact Want.yes rfl rfl rfl (by (simp; done))) (fun ro => Op1.call rfl rfl fn10) rfl rfl (FnC.mono (Crc_ok (s := s) hg3 (by omega)) ?_)
  rintro x M5 ⟨rfl, hF5⟩
  refine ⟨rfl, ?_⟩
  (repeat (refine Hq.pu (by exact Want.yes rfl rfl rfl (by (simp; done))) (by exact Pu.move rfl) rfl rfl rfl ?_))
  refine Hq.call ok (by exact Want.yes rfl rfl rfl (by (simp; done))) (fun ro => Op1.call rfl rfl fn11) rfl rfl (FnC.mono (refCrc_ok (s := s) (by omega)) ?_)
  rintro x M6 ⟨rfl, hF6⟩
  refine ⟨rfl, ?_⟩
  (repeat (first
    | refine Hq.pu Want.none (by first
    | exact Pu.move rfl
    | exact Pu.fieldAddr hT rfl rfl rfl rfl rfl
    | (apply Pu.load hT rfl rfl rfl; (focus ((repeat (assumption)))); (focus rfl))
    | exact Pu.neqI rfl rfl
    | exact Pu.pickF rfl (by first
    | rfl
    | (simp; done)) rfl) rfl rfl rfl ?_
    | refine Hq.pu (by exact Want.yes rfl rfl rfl (by (simp; done))) (by first
    | exact Pu.move rfl
    | exact Pu.fieldAddr hT rfl rfl rfl rfl rfl
    | (apply Pu.load hT rfl rfl rfl; (focus ((repeat (assumption)))); (focus rfl))
    | exact Pu.neqI rfl rfl) rfl rfl rfl ?_))
  refine Hq.call ok (by exact Want.yes rfl rfl rfl (by (simp; done))) (fun ro => Op1.call rfl rfl fn12) rfl rfl (FnC.mono (On_ok (n := A) (s := s) hg3 hA (by omega)) ?_)
  rintro x M7 ⟨rfl, hF7⟩
  refine ⟨rfl, ?_⟩
  (repeat (first
    | refine Hq.pu (by exact Want.yes rfl rfl rfl (by first
    | rfl
    | (simp; done))) (by first
    | exact Pu.move rfl
    | exact Pu.fieldAddr hT rfl rfl rfl rfl rfl
    | (apply Pu.load hT rfl rfl rfl; (focus ((repeat (assumption)))); (focus rfl))) rfl rfl rfl ?_
    | refine Hq.nil ?_))
  refine Tq.call (by exact Want.yes rfl rfl rfl (by (simp; done))) (Op1.call rfl rfl fn13) rfl (FnC.mono (refOn_ok (n := A) (s := s) hA (by omega)) ?_)
  rintro x M8 ⟨rfl, rfl⟩
  (repeat (first
    | refine Ex.seq ok hm ?_
    | refine Ex.skip ok hm ?_
    | refine Ex.region ok hm ?_
    | refine Sq.pu ok hm Want.none (by first
    | exact Pu.fieldAddr hT rfl rfl rfl rfl rfl
    | (apply Pu.load hT rfl rfl rfl; (focus ((repeat (assumption)))); (focus rfl))) rfl ?_
    | refine Tq.pu Want.none (by first
    | exact Pu.neqI rfl rfl
    | exact Pu.pickF rfl (by first
    | rfl
    | (simp; done)) rfl) rfl ?_
    | refine Tq.pu (by exact Want.yes rfl rfl rfl (by first
    | rfl
    | (simp; done))) (by exact Pu.neqI rfl rfl) rfl ?_
    | refine Tq.finH (n := 27)  (by repeat (first
    | exact Keep.nil
    | apply Keep.drop rfl
    | apply Keep.keep rfl)) ?_
    | refine Ex.condF ok hm rfl (by first
    | rfl
    | (simp; done)) ?_))
  refine Sq.call ok Want.none (Op1.call rfl rfl fn14) rfl (FnC.mono (Join_ok (a := A) (b := B) (n := N) hA hB hN) ?_)
  rintro x M9 ⟨rfl, hF9⟩
  have hg9 := hg3.fr hF9
  have hb9 := (hF9.get bp (by omega) (by simp)).trans hb3
  have hn9 := hF9.next
  clear hb3
  simp only [InR] at hN
  by_cases hbig : 70000 < N ∧ N ≤ 16777216
  · obtain ⟨m, rfl⟩ : ∃ m : Nat, N = m := ⟨N.toNat, by omega⟩
    have e1 : Value.tuple ⟨[u32v (joinE A B (m : Int)).1, .int .i64 (joinE A B (m : Int)).2]⟩ = .tuple ⟨[u32v (pw st m A ^^^ B), .int .i64 0]⟩ := by
      rw [show joinE A B (m : Int) = (pw st m A ^^^ B, 0) by unfold joinE; rw [if_neg (by omega), Int.toNat_natCast]]
    have e2 : Value.tuple ⟨[u32v (joinE A 0 ((m / 2 : Nat) : Int)).1, .int .i64 (joinE A 0 ((m / 2 : Nat) : Int)).2]⟩ = .tuple ⟨[u32v (pw st (m / 2) A), .int .i64 0]⟩ := by
      rw [show joinE A 0 ((m / 2 : Nat) : Int) = (pw st (m / 2) A, 0) by unfold joinE; rw [if_neg (by omega), Int.toNat_natCast, Nat.xor_zero]]
    have e3 : Value.tuple ⟨[u32v (joinE (pw st (m / 2) A) B ((m - m / 2 : Nat) : Int)).1, .int .i64 (joinE (pw st (m / 2) A) B ((m - m / 2 : Nat) : Int)).2]⟩ = .tuple ⟨[u32v (pw st m A ^^^ B), .int .i64 0]⟩ := by
      rw [show joinE (pw st (m / 2) A) B ((m - m / 2 : Nat) : Int) = (pw st m A ^^^ B, 0) by
        unfold joinE
        rw [if_neg (by omega), Int.toNat_natCast, ← pw_add, show m - m / 2 + m / 2 = m by omega]]
    have hq := (pw_lin st_lin (m / 2)).lt _ hA
    rw [e1]
    (repeat (first
    | refine Ex.seq ok hm ?_
    | refine Ex.region ok hm ?_
    | refine Sq.pu ok hm Want.none (by first
    | exact Pu.move rfl
    | exact Pu.assign rfl
    | exact Pu.fieldAddr hT rfl rfl rfl rfl rfl
    | (apply Pu.load hT rfl rfl rfl; (focus ((repeat (assumption)))); (focus rfl))
    | exact Pu.extract rfl rfl
    | exact Pu.quoN rfl rfl (by decide) (by simp only [InR]; omega)
    | exact Pu.gtrI rfl rfl
    | exact Pu.leqI rfl rfl
    | exact Pu.pickT rfl (by first
    | rfl
    | exact decide_eq_true (by omega)) rfl) rfl ?_
    | refine Sq.pu ok hm (by first
    | exact Want.none
    | exact Want.yes rfl rfl rfl (by first
    | rfl
    | exact decide_eq_true (by omega))) (by first
    | exact Pu.fieldAddr hT rfl rfl rfl rfl rfl
    | (apply Pu.load hT rfl rfl rfl; (focus ((repeat (assumption)))); (focus rfl))
    | exact Pu.leqI rfl rfl) rfl ?_
    | refine Sq.finH (n := 27) ok hm (by repeat (first
    | exact Keep.nil
    | apply Keep.drop rfl
    | apply Keep.keep rfl)) ?_
    | refine Ex.condT ok hm rfl (by first
    | rfl
    | exact decide_eq_true (by omega)) ?_))
    refine Sq.call ok Want.none (Op1.call rfl rfl fn14) rfl (FnC.mono (Join_ok (a := A) (b := 0) (n := ((m / 2 : Nat) : Int)) hA (by decide) (by simp only [InR]; omega)) ?_)
    rintro x M10 ⟨rfl, hF10⟩
    have hg10 := hg9.fr hF10
    have hb10 := (hF10.get bp (by omega) (by simp)).trans hb9
    have hn10 := hF10.next
    clear hb9
    rw [e2]
    (repeat (first
    | refine Ex.seq ok hm ?_
    | refine Ex.region ok hm ?_
    | refine Sq.pu ok hm Want.none (by first
    | exact Pu.move rfl
    | exact Pu.assign rfl
    | exact Pu.fieldAddr hT rfl rfl rfl rfl rfl
    | (apply Pu.load hT rfl rfl rfl; (focus ((repeat (assumption)))); (focus rfl))
    | exact Pu.extract rfl rfl
    | exact Pu.quoN rfl rfl (by decide) (by simp only [InR]; omega)
    | exact Pu.sub rfl rfl (by simp only [InR]; omega)) rfl ?_
    | refine Sq.finH (n := 27) ok hm (by repeat (first
    | exact Keep.nil
    | apply Keep.drop rfl
    | apply Keep.keep rfl)) ?_))
    rw [show (m : Int) - ((m / 2 : Nat) : Int) = ((m - m / 2 : Nat) : Int) by omega]
    refine Sq.call ok Want.none (Op1.call rfl rfl fn14) rfl (FnC.mono (Join_ok (a := pw st (m / 2) A) (b := B) (n := ((m - m / 2 : Nat) : Int)) hq hB (by simp only [InR]; omega)) ?_)
    rintro x M11 ⟨rfl, hF11⟩
    rw [e3]
    (repeat (first
    | refine Ex.seq ok hm ?_
    | refine Ex.region ok hm ?_
    | refine Sq.pu ok hm Want.none (by first
    | exact Pu.move rfl
    | exact Pu.assign rfl
    | exact Pu.extract rfl rfl
    | exact Pu.eqlI rfl rfl
    | exact Pu.pickT rfl (by rfl) rfl) rfl ?_
    | refine Sq.pu ok hm (by exact Want.yes rfl rfl rfl (by first
    | rfl
    | exact decide_eq_true (by omega))) (by first
    | exact Pu.move rfl
    | exact Pu.eqlI rfl rfl) rfl ?_
    | refine Sq.finH (n := 27) ok hm (by repeat (first
    | exact Keep.nil
    | apply Keep.drop rfl
    | apply Keep.keep rfl)) ?_))
    refine Sq.call ok (by exact Want.yes rfl rfl rfl (by exact decide_eq_true (by omega))) (Op1.call rfl rfl fn15) rfl (FnC.mono (awake_ok (hg10.fr hF11)) ?_)
    rintro x M12 ⟨rfl, rfl⟩
    (repeat (first
    | refine Sq.pu ok hm Want.none (by first
    | exact Pu.assign rfl
    | exact Pu.pickT rfl (by first
    | rfl
    | exact decide_eq_true (by omega)) rfl) rfl ?_
    | refine Sq.finH (n := 27) ok hm (by repeat (first
    | exact Keep.nil
    | apply Keep.drop rfl
    | apply Keep.keep rfl)) ?_
    | refine Ex.ret ok hm ?_))
    exact ⟨_, .tmp rfl .nil, rfl⟩
  · by_cases h7 : 70000 < N
    · (repeat (first
    | refine Ex.seq ok hm ?_
    | refine Ex.skip ok hm ?_
    | refine Ex.region ok hm ?_
    | refine Sq.pu ok hm Want.none (by first
    | exact Pu.move rfl
    | exact Pu.assign rfl
    | exact Pu.fieldAddr hT rfl rfl rfl rfl rfl
    | (apply Pu.load hT rfl rfl rfl; (focus ((repeat (assumption)))); (focus rfl))
    | exact Pu.extract rfl rfl
    | exact Pu.gtrI rfl rfl
    | exact Pu.leqI rfl rfl
    | exact Pu.pickT rfl (by first
    | rfl
    | exact decide_eq_true (by omega)) rfl) rfl ?_
    | refine Sq.pu ok hm (by first
    | exact Want.none
    | exact Want.yes rfl rfl rfl (by first
    | rfl
    | exact decide_eq_true (by omega))) (by first
    | exact Pu.fieldAddr hT rfl rfl rfl rfl rfl
    | (apply Pu.load hT rfl rfl rfl; (focus ((repeat (assumption)))); (focus rfl))
    | exact Pu.leqI rfl rfl) rfl ?_
    | refine Sq.finH (n := 27) ok hm (by repeat (first
    | exact Keep.nil
    | apply Keep.drop rfl
    | apply Keep.keep rfl)) ?_
    | refine Ex.condF ok hm rfl (by first
    | rfl
    | exact decide_eq_false (by omega)) ?_))
      refine Sq.call ok Want.none (Op1.call rfl rfl fn16) rfl (FnC.mono (refJoin_ok (a := A) (b := B) (n := N) hA hB (by simp only [InR]; omega)) ?_)
      rintro x M10 ⟨rfl, rfl⟩
      (repeat (first
    | refine Ex.seq ok hm ?_
    | refine Ex.region ok hm ?_
    | refine Sq.pu ok hm Want.none (by first
    | exact Pu.move rfl
    | exact Pu.assign rfl
    | exact Pu.extract rfl rfl
    | exact Pu.eqlI rfl rfl
    | exact Pu.pickT rfl (by first
    | rfl
    | exact decide_eq_true (by omega)) rfl) rfl ?_
    | refine Sq.pu ok hm (by exact Want.yes rfl rfl rfl (by first
    | rfl
    | exact decide_eq_true (by omega))) (by first
    | exact Pu.move rfl
    | exact Pu.eqlI rfl rfl) rfl ?_
    | refine Sq.finH (n := 27) ok hm (by repeat (first
    | exact Keep.nil
    | apply Keep.drop rfl
    | apply Keep.keep rfl)) ?_))
      refine Sq.call ok (by exact Want.yes rfl rfl rfl (by exact decide_eq_true (by omega))) (Op1.call rfl rfl fn15) rfl (FnC.mono (awake_ok hg9) ?_)
      rintro x M12 ⟨rfl, rfl⟩
      (repeat (first
    | refine Sq.pu ok hm Want.none (by first
    | exact Pu.assign rfl
    | exact Pu.pickT rfl (by first
    | rfl
    | exact decide_eq_true (by omega)) rfl) rfl ?_
    | refine Sq.finH (n := 27) ok hm (by repeat (first
    | exact Keep.nil
    | apply Keep.drop rfl
    | apply Keep.keep rfl)) ?_
    | refine Ex.ret ok hm ?_))
      exact ⟨_, .tmp rfl .nil, rfl⟩
    · (repeat (first
    | refine Ex.seq ok hm ?_
    | refine Ex.skip ok hm ?_
    | refine Ex.region ok hm ?_
    | refine Sq.pu ok hm Want.none (by first
    | exact Pu.move rfl
    | exact Pu.assign rfl
    | exact Pu.fieldAddr hT rfl rfl rfl rfl rfl
    | (apply Pu.load hT rfl rfl rfl; (focus ((repeat (assumption)))); (focus rfl))
    | exact Pu.extract rfl rfl
    | exact Pu.gtrI rfl rfl
    | exact Pu.pickF rfl (by first
    | rfl
    | exact decide_eq_false (by omega)) rfl) rfl ?_
    | refine Sq.skip ok hm (by exact Want.no rfl rfl rfl (by first
    | rfl
    | exact decide_eq_false (by omega))) rfl ?_
    | refine Sq.finH (n := 27) ok hm (by repeat (first
    | exact Keep.nil
    | apply Keep.drop rfl
    | apply Keep.keep rfl)) ?_
    | refine Ex.condF ok hm rfl (by rfl) ?_))
      refine Sq.call ok Want.none (Op1.call rfl rfl fn16) rfl (FnC.mono (refJoin_ok (a := A) (b := B) (n := N) hA hB (by simp only [InR]; omega)) ?_)
      rintro x M10 ⟨rfl, rfl⟩
      (repeat (first
    | refine Ex.seq ok hm ?_
    | refine Ex.region ok hm ?_
    | refine Sq.pu ok hm Want.none (by first
    | exact Pu.move rfl
    | exact Pu.assign rfl
    | exact Pu.extract rfl rfl
    | exact Pu.eqlI rfl rfl
    | exact Pu.pickT rfl (by first
    | rfl
    | exact decide_eq_true (by omega)) rfl) rfl ?_
    | refine Sq.pu ok hm (by exact Want.yes rfl rfl rfl (by first
    | rfl
    | exact decide_eq_true (by omega))) (by first
    | exact Pu.move rfl
    | exact Pu.eqlI rfl rfl) rfl ?_
    | refine Sq.finH (n := 27) ok hm (by repeat (first
    | exact Keep.nil
    | apply Keep.drop rfl
    | apply Keep.keep rfl)) ?_))
      refine Sq.call ok (by exact Want.yes rfl rfl rfl (by exact decide_eq_true (by omega))) (Op1.call rfl rfl fn15) rfl (FnC.mono (awake_ok hg9) ?_)
      rintro x M12 ⟨rfl, rfl⟩
      (repeat (first
    | refine Sq.pu ok hm Want.none (by first
    | exact Pu.assign rfl
    | exact Pu.pickT rfl (by first
    | rfl
    | exact decide_eq_true (by omega)) rfl) rfl ?_
    | refine Sq.finH (n := 27) ok hm (by repeat (first
    | exact Keep.nil
    | apply Keep.drop rfl
    | apply Keep.keep rfl)) ?_
    | refine Ex.ret ok hm ?_))
      exact ⟨_, .tmp rfl .nil, rfl⟩
end Go.Proofs.YtlheieilhpbkdabDoor
