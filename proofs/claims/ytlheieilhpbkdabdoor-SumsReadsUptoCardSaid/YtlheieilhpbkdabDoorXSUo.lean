/- Towards the laws of this seat: contracts of the program's functions in a logic over a small machine (text XSUo). No condition. -/
import Derived.Test.YtlheieilhpbkdabDoorXSUn
namespace Go.Proofs.YtlheieilhpbkdabDoor
open Go.Wvm Crc
set_option linter.unusedVariables false
set_option linter.unusedSimpArgs false

set_option maxHeartbeats 4000000 in
theorem Unframe_ok {ro : Nat} {M : AM} {s : List UInt8} (hg : TabOk M) (hs : s.length ≤ 4611686018427387904) :
    FnC Tryd.prog tables ro 8 [.string ⟨⟨s⟩⟩] M (fun x M' => x = unV (unE s) ∧ Fr M M' []) := by
  refine FnC.body (nt := 45) ok hm fn8 rfl rfl ?_
  by_cases h1 : s.length < 9
  · have e : unE s = (0, [], [], 4) := by unfold unE; rw [if_pos h1]
    rw [e]
    (repeat (first
    | refine Ex.seq ok hm ?_
    | refine Ex.region ok hm ?_
    | refine Sq.pu ok hm Want.none (by first
    | exact Pu.move rfl
    | exact Pu.assign rfl
    | exact Pu.lssI rfl rfl
    | exact Pu.lenS hT rfl rfl) rfl ?_
    | refine Sq.finH (n := 7) ok hm (by repeat (first
    | exact Keep.nil
    | apply Keep.drop rfl
    | apply Keep.keep rfl)) ?_
    | refine Ex.condT ok hm rfl (by first
    | rfl
    | exact decide_eq_true (by omega)) ?_
    | refine Ex.ret ok hm ?_))
    exact ⟨_, .tmp rfl (.tmp rfl (.tmp rfl (.tmp rfl .nil))), rfl, Fr.refl _ _⟩
  have hrl := rd4_lt (s.drop 1)
  have hrr := rd4_lt (s.drop 5)
  (repeat (first
    | refine Ex.seq ok hm ?_
    | refine Ex.skip ok hm ?_
    | refine Ex.region ok hm ?_
    | refine Sq.pu ok hm Want.none (by first
    | exact Pu.move rfl
    | exact Pu.assign rfl
    | exact Pu.lssI rfl rfl
    | exact Pu.lenS hT rfl rfl) rfl ?_
    | refine Sq.finH (n := 7) ok hm (by repeat (first
    | exact Keep.nil
    | apply Keep.drop rfl
    | apply Keep.keep rfl)) ?_
    | refine Ex.condF ok hm rfl (by first
    | rfl
    | exact decide_eq_false (by omega)) ?_))
  refine Sq.pu ok hm Want.none (Pu.sliceLH (a := 1) (b := 5) hT (by decide) (by omega) rfl rfl rfl rfl) rfl ?_
  refine Sq.call ok Want.none (Op1.call rfl rfl fn19) rfl (FnC.mono (read_ok (s := (s.drop 1).take (5 - 1)) (by rw [List.length_take, List.length_drop]; omega)) ?_)
  rintro x M2 ⟨rfl, rfl⟩
  rw [show rd4 ((s.drop 1).take (5 - 1)) = rd4 (s.drop 1) from rd4_take _]
  generalize hn : rd4 (s.drop 1) = n at hrl ⊢
  refine Sq.pu ok hm Want.none (Pu.convN (n := (n : Int)) hT rfl rfl rfl (by simp only [InR]; omega)) rfl ?_
  have hsub : ((s.length : Int) - 9) = ((s.length - 9 : Nat) : Int) := by omega
  by_cases h2 : 16777216 < n ∨ s.length < 9 + n
  · have e : unE s = (0, [], [], 4) := by unfold unE; rw [if_neg h1, hn, if_pos h2]
    rw [e]
    by_cases h3 : 16777216 < n
    · (repeat (first
    | refine Ex.seq ok hm ?_
    | refine Ex.region ok hm ?_
    | refine Sq.pu ok hm Want.none (by first
    | exact Pu.move rfl
    | exact Pu.assign rfl
    | exact Pu.gtrI rfl rfl
    | exact Pu.pickT rfl (by first
    | rfl
    | exact decide_eq_true (by omega)) rfl) rfl ?_
    | refine Sq.skip ok hm (by exact Want.no rfl rfl rfl (by first
    | rfl
    | exact decide_eq_true (by omega))) rfl ?_
    | refine Sq.finH (n := 7) ok hm (by repeat (first
    | exact Keep.nil
    | apply Keep.drop rfl
    | apply Keep.keep rfl)) ?_
    | refine Ex.condT ok hm rfl (by rfl) ?_
    | refine Ex.ret ok hm ?_))
      exact ⟨_, .tmp rfl (.tmp rfl (.tmp rfl (.tmp rfl .nil))), rfl, Fr.refl _ _⟩
    · (repeat (first
    | refine Ex.seq ok hm ?_
    | refine Ex.region ok hm ?_
    | refine Sq.pu ok hm Want.none (by first
    | exact Pu.move rfl
    | exact Pu.assign rfl
    | exact Pu.sub rfl rfl (by simp only [InR]; omega)
    | exact Pu.gtrI rfl rfl
    | exact Pu.lenS hT rfl rfl
    | exact Pu.pickF rfl (by first
    | rfl
    | exact decide_eq_false (by omega)) rfl
    | exact Pu.convN hT rfl rfl rfl (by simp only [InR]; omega)) rfl ?_
    | refine Sq.pu ok hm (by exact Want.yes rfl rfl rfl (by first
    | rfl
    | exact decide_eq_false (by omega))) (by first
    | exact Pu.move rfl
    | exact Pu.sub rfl rfl (by simp only [InR]; omega)
    | exact Pu.gtrI rfl rfl
    | exact Pu.lenS hT rfl rfl
    | exact Pu.convN hT rfl rfl rfl (by simp only [InR]; omega)) rfl ?_
    | refine Sq.finH (n := 7) ok hm (by repeat (first
    | exact Keep.nil
    | apply Keep.drop rfl
    | apply Keep.keep rfl)) ?_
    | refine Ex.condT ok hm rfl (by first
    | rfl
    | exact decide_eq_true (by omega)) ?_
    | refine Ex.ret ok hm ?_))
      exact ⟨_, .tmp rfl (.tmp rfl (.tmp rfl (.tmp rfl .nil))), rfl, Fr.refl _ _⟩
  (repeat (first
    | refine Ex.seq ok hm ?_
    | refine Ex.skip ok hm ?_
    | refine Ex.region ok hm ?_
    | refine Sq.pu ok hm Want.none (by first
    | exact Pu.move rfl
    | exact Pu.assign rfl
    | exact Pu.sub rfl rfl (by simp only [InR]; omega)
    | exact Pu.gtrI rfl rfl
    | exact Pu.lenS hT rfl rfl
    | exact Pu.pickF rfl (by first
    | rfl
    | exact decide_eq_false (by omega)) rfl
    | exact Pu.convN hT rfl rfl rfl (by simp only [InR]; omega)) rfl ?_
    | refine Sq.pu ok hm (by exact Want.yes rfl rfl rfl (by first
    | rfl
    | exact decide_eq_false (by omega))) (by first
    | exact Pu.move rfl
    | exact Pu.sub rfl rfl (by simp only [InR]; omega)
    | exact Pu.gtrI rfl rfl
    | exact Pu.lenS hT rfl rfl
    | exact Pu.convN hT rfl rfl rfl (by simp only [InR]; omega)) rfl ?_
    | refine Sq.finH (n := 7) ok hm (by repeat (first
    | exact Keep.nil
    | apply Keep.drop rfl
    | apply Keep.keep rfl)) ?_
    | refine Ex.condF ok hm rfl (by first
    | rfl
    | exact decide_eq_false (by omega)) ?_))
  refine Ex.draw ok hm 9 (by kernel_rfl) ?_
  (repeat (refine Hq.pu Want.none (by first
    | exact Pu.move rfl
    | exact Pu.addN rfl rfl (by simp only [InR]; omega)) rfl rfl rfl ?_))
  refine Hq.pu Want.none (Pu.sliceLH (a := 9) (b := 9 + n) hT (by omega) (by omega) rfl rfl rfl rfl) rfl rfl rfl ?_
  rw [show 9 + n - 9 = n by omega]
  (repeat (refine Hq.pu Want.none (by first
    | exact Pu.move rfl
    | exact Pu.addN rfl rfl (by simp only [InR]; omega)) rfl rfl rfl ?_))
  refine Hq.pu Want.none (Pu.sliceLo (a := 9 + n) hT (by omega) rfl rfl rfl) rfl rfl rfl ?_
  (repeat (first
    | refine Ex.seq ok hm ?_
    | refine Hq.pu Want.none (by exact Pu.assign rfl) rfl rfl rfl ?_
    | refine Hq.nil ?_
    | refine Tq.pu Want.none (by exact Pu.assign rfl) rfl ?_
    | refine Tq.finH (n := 7)  (by repeat (first
    | exact Keep.nil
    | apply Keep.drop rfl
    | apply Keep.keep rfl)) ?_))
  have hpl : ((s.drop 9).take n).length ≤ 16777216 := by rw [List.length_take]; omega
  refine Ex.draw ok hm 7 (by kernel_rfl) ?_
  (repeat (refine Hq.pu Want.none (by exact Pu.move rfl) rfl rfl rfl ?_))
  refine Hq.pu Want.none (Pu.sliceHi (b := 5) hT (by omega) rfl rfl rfl) rfl rfl rfl ?_
  refine Hq.call ok Want.none (fun ro => Op1.call rfl rfl fn10) rfl rfl (FnC.mono (Crc_ok (s := s.take 5) hg (by rw [List.length_take]; omega)) ?_)
  rintro x M3 ⟨rfl, hF3⟩
  refine ⟨rfl, ?_⟩
  (repeat (refine Hq.pu Want.none (by exact Pu.move rfl) rfl rfl rfl ?_))
  refine Hq.call ok Want.none (fun ro => Op1.call rfl rfl fn12) rfl rfl (FnC.mono (On_ok (n := crc (s.take 5)) (s := (s.drop 9).take n) hg (crc_lt _) (by omega)) ?_)
  rintro x M4 ⟨rfl, hF4⟩
  refine ⟨rfl, ?_⟩
  rw [show on (crc (s.take 5)) ((s.drop 9).take n) = crc (s.take 5 ++ (s.drop 9).take n) from on_on 0 _ _]
  (repeat (refine Hq.pu Want.none (by exact Pu.move rfl) rfl rfl rfl ?_))
  refine Hq.pu Want.none (Pu.sliceLH (a := 5) (b := 9) hT (by decide) (by omega) rfl rfl rfl rfl) rfl rfl rfl ?_
  refine Hq.nil ?_
  refine Tq.call Want.none (Op1.call rfl rfl fn19) rfl (FnC.mono (read_ok (s := (s.drop 5).take (9 - 5)) (by rw [List.length_take, List.length_drop]; omega)) ?_)
  rintro x M5 ⟨rfl, rfl⟩
  rw [show rd4 ((s.drop 5).take (9 - 5)) = rd4 (s.drop 5) from rd4_take _]
  by_cases h3 : crc (s.take 5 ++ (s.drop 9).take n) = rd4 (s.drop 5)
  · have e : unE s = ((s.getD 0 0).toNat, (s.drop 9).take n, s.drop (9 + n), 0) := by unfold unE; rw [if_neg h1, hn, if_neg h2, if_neg (fun k => k h3)]
    rw [e, h3]
    generalize rd4 (s.drop 5) = r at hrr ⊢
    (repeat (first
    | refine Ex.seq ok hm ?_
    | refine Ex.skip ok hm ?_
    | refine Ex.region ok hm ?_
    | refine Sq.pu ok hm Want.none (by first
    | exact Pu.move rfl
    | exact Pu.assign rfl
    | exact Pu.indexS hT rfl rfl rfl (by omega) (by omega)) rfl ?_
    | refine Sq.finH (n := 7) ok hm (by repeat (first
    | exact Keep.nil
    | apply Keep.drop rfl
    | apply Keep.keep rfl)) ?_
    | refine Tq.pu Want.none (by exact Pu.neqI rfl rfl) rfl ?_
    | refine Tq.finH (n := 7)  (by repeat (first
    | exact Keep.nil
    | apply Keep.drop rfl
    | apply Keep.keep rfl)) ?_
    | refine Ex.condF ok hm rfl (by first
    | rfl
    | (simp; done)) ?_
    | refine Ex.ret ok hm ?_))
    exact ⟨_, .tmp rfl (.tmp rfl (.tmp rfl (.tmp rfl .nil))), rfl, Fr.refl _ _⟩
  · have e : unE s = (0, [], [], 4) := by unfold unE; rw [if_neg h1, hn, if_neg h2, if_pos h3]
    rw [e]
    have hcc := crc_lt (s.take 5 ++ (s.drop 9).take n)
    generalize crc (s.take 5 ++ (s.drop 9).take n) = c at hcc h3 ⊢
    generalize rd4 (s.drop 5) = r at hrr h3 ⊢
    (repeat (first
    | refine Ex.seq ok hm ?_
    | refine Ex.region ok hm ?_
    | refine Sq.pu ok hm Want.none (by exact Pu.assign rfl) rfl ?_
    | refine Sq.finH (n := 7) ok hm (by repeat (first
    | exact Keep.nil
    | apply Keep.drop rfl
    | apply Keep.keep rfl)) ?_
    | refine Tq.pu Want.none (by exact Pu.neqI rfl rfl) rfl ?_
    | refine Tq.finH (n := 7)  (by repeat (first
    | exact Keep.nil
    | apply Keep.drop rfl
    | apply Keep.keep rfl)) ?_
    | refine Ex.condT ok hm rfl (by first
    | rfl
    | (simp; omega)) ?_
    | refine Ex.ret ok hm ?_))
    exact ⟨_, .tmp rfl (.tmp rfl (.tmp rfl (.tmp rfl .nil))), rfl, Fr.refl _ _⟩
end Go.Proofs.YtlheieilhpbkdabDoor
