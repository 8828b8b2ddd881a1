/- Towards the laws of this seat: contracts of the program's functions in a logic over a small machine (text XSGo). No condition. -/
import Derived.Test.YtlheieilhpbkdabDoorXSJn
namespace Go.Proofs.YtlheieilhpbkdabDoor
open Go.Wvm Crc
set_option linter.unusedVariables false
set_option linter.unusedSimpArgs false

theorem awake_runs : yesG Tryd.prog tables knownG 0 100000 15 = true := by kernel_rfl
theorem awake_ok {ro : Nat} {M : AM} (hg : TabOk M) : FnC Tryd.prog tables ro 15 [] M (fun v M' => v = .bool true ∧ M' = M) :=
  FnC.closedG ok hm awake_runs hg

set_option maxHeartbeats 4000000 in
theorem goes_ok {ro : Nat} {M : AM} {a b : List UInt8} (hg : TabOk M) (hl : a.length + b.length ≤ 16777216) :
    FnC Tryd.prog tables ro 4 [.string ⟨⟨a⟩⟩, .string ⟨⟨b⟩⟩] M (fun v _ => v = .bool true) := by
  refine FnC.body (nt := 60) ok hm fn4 rfl rfl ?_
  have hab : (a ++ b).length = a.length + b.length := List.length_append
  have hj := join_eq a b
  have hj2 : joinE (crc a) (crc b) (b.length : Int) = (crc (a ++ b), 0) := by
    unfold joinE
    rw [if_neg (by omega), Int.toNat_natCast, hj]
  have hon : on (crc a) b = crc (a ++ b) := on_on 0 _ _
  (repeat (first
    | refine Ex.seq ok hm ?_
    | refine Ex.region ok hm ?_
    | refine Sq.pu ok hm Want.none (by first
    | exact Pu.move rfl
    | exact Pu.assign rfl
    | exact Pu.catS rfl rfl (by omega)) rfl ?_
    | refine Sq.finH (n := 8) ok hm (by repeat (first
    | exact Keep.nil
    | apply Keep.keep rfl)) ?_))
  refine Sq.call ok Want.none (Op1.call rfl rfl fn10) rfl (FnC.mono (Crc_ok (s := a ++ b) hg (by omega)) ?_)
  rintro x M1 ⟨rfl, hF1⟩
  (repeat (first
    | refine Ex.seq ok hm ?_
    | refine Ex.region ok hm ?_
    | refine Sq.pu ok hm Want.none (by first
    | exact Pu.move rfl
    | exact Pu.assign rfl) rfl ?_
    | refine Sq.finH (n := 8) ok hm (by repeat (first
    | exact Keep.nil
    | apply Keep.drop rfl
    | apply Keep.keep rfl)) ?_))
  refine Sq.call ok Want.none (Op1.call rfl rfl fn10) rfl (FnC.mono (Crc_ok (s := a) (hg.fr hF1) (by omega)) ?_)
  rintro x M2 ⟨rfl, hF2⟩
  (repeat (refine Sq.pu ok hm Want.none (by exact Pu.move rfl) rfl ?_))
  refine Sq.call ok Want.none (Op1.call rfl rfl fn10) rfl (FnC.mono (Crc_ok (s := b) ((hg.fr hF1).fr hF2) (by omega)) ?_)
  rintro x M3 ⟨rfl, hF3⟩
  (repeat (refine Sq.pu ok hm Want.none (by first
    | exact Pu.move rfl
    | exact Pu.lenS hT rfl rfl) rfl ?_))
  refine Sq.call ok Want.none (Op1.call rfl rfl fn14) rfl (FnC.mono (Join_ok (a := crc a) (b := crc b) (n := (b.length : Int)) (crc_lt _) (crc_lt _) (by simp only [InR]; omega)) ?_)
  rintro x M4 ⟨rfl, hF4⟩
  rw [hj2]
  have hg4 := ((((hg.fr hF1).fr hF2).fr hF3).fr hF4)
  have hc := crc_lt (a ++ b)
  (repeat (first
    | refine Ex.seq ok hm ?_
    | refine Ex.skip ok hm ?_
    | refine Ex.region ok hm ?_
    | refine Sq.pu ok hm Want.none (by first
    | exact Pu.move rfl
    | exact Pu.assign rfl
    | exact Pu.extract rfl rfl
    | exact Pu.gtrI rfl rfl
    | exact Pu.lenS hT rfl rfl) rfl ?_
    | refine Sq.finH (n := 8) ok hm (by repeat (first
    | exact Keep.nil
    | apply Keep.drop rfl
    | apply Keep.keep rfl)) ?_
    | refine Ex.condF ok hm rfl (by first
    | rfl
    | exact decide_eq_false (by omega)) ?_))
  refine Sq.call ok Want.none (Op1.call rfl rfl fn10) rfl (FnC.mono (Crc_ok (s := a) hg4 (by omega)) ?_)
  rintro x M5 ⟨rfl, hF5⟩
  (repeat (refine Sq.pu ok hm Want.none (by exact Pu.move rfl) rfl ?_))
  refine Sq.call ok Want.none (Op1.call rfl rfl fn12) rfl (FnC.mono (On_ok (n := crc a) (s := b) (hg4.fr hF5) (crc_lt _) (by omega)) ?_)
  rintro x M6 ⟨rfl, hF6⟩
  rw [hon]
  (repeat (first
    | refine Sq.pu ok hm Want.none (by first
    | exact Pu.move rfl
    | exact Pu.eqlI rfl rfl
    | exact Pu.pickT rfl (by first
    | rfl
    | exact decide_eq_true (by omega)) rfl) rfl ?_
    | refine Sq.pu ok hm (by exact Want.yes rfl rfl rfl (by first
    | rfl
    | exact decide_eq_true (by omega))) (by first
    | exact Pu.move rfl
    | exact Pu.eqlI rfl rfl) rfl ?_))
  refine Sq.call ok (by exact Want.yes rfl rfl rfl (by rfl)) (Op1.call rfl rfl fn15) rfl (FnC.mono (awake_ok ((hg4.fr hF5).fr hF6)) ?_)
  rintro x M7 ⟨rfl, rfl⟩
  (repeat (first
    | refine Sq.pu ok hm Want.none (by first
    | exact Pu.assign rfl
    | exact Pu.pickT rfl (by rfl) rfl) rfl ?_
    | refine Sq.finH (n := 8) ok hm (by repeat (first
    | exact Keep.nil
    | apply Keep.drop rfl
    | apply Keep.keep rfl)) ?_
    | refine Ex.ret ok hm ?_))
  exact ⟨_, .tmp rfl .nil, rfl⟩
end Go.Proofs.YtlheieilhpbkdabDoor
