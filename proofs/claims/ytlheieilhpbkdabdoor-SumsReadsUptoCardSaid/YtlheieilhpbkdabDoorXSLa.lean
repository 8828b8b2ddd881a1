/- Towards the laws of this seat: contracts of the program's functions in a logic over a small machine (text XSLa). No condition. -/
import Derived.Test.YtlheieilhpbkdabDoorXSFr
namespace Go.Proofs.YtlheieilhpbkdabDoor
open Go.Wvm Crc
set_option linter.unusedVariables false
set_option linter.unusedSimpArgs false

set_option maxHeartbeats 4000000 in
theorem Laid_ok {ro : Nat} {M : AM} {kind : Nat} {p : List UInt8} (hk : kind < 256) (hp : p.length ≤ 16777216) :
    FnC Tryd.prog tables ro 18 [.int .u8 (kind : Int), .string ⟨⟨p⟩⟩] M (fun x M' => x = .string ⟨⟨laid kind p⟩⟩ ∧ Fr M M' []) := by
  refine FnC.body (nt := 23) ok hm fn18 rfl rfl ?_
  have hlen : p.length < 4294967296 := by omega
  (repeat (first
    | refine Ex.seq ok hm ?_
    | refine Ex.region ok hm ?_
    | refine Sq.pu ok hm Want.none (by exact Pu.assign rfl) rfl ?_
    | refine Sq.finH (n := 6) ok hm (by repeat (first
    | exact Keep.nil
    | apply Keep.keep rfl)) ?_))
  refine Ex.grow ok hm 9 rfl (by kernel_rfl) fun V0 hV0 hA => ?_
  refine Kq.pure (j := 0) (by kernel_rfl) rfl Want.none (fun N => Pu.move rfl) rfl rfl ?_
  refine Kq.pure (j := 3) (by kernel_rfl) rfl Want.none (fun N => Pu.move rfl) rfl rfl ?_
  refine Kq.pure (j := 4) (by kernel_rfl) rfl Want.none (fun N => Pu.lenS hT rfl rfl) rfl rfl ?_
  refine Kq.pure (j := 5) (by kernel_rfl) rfl Want.none (fun N => Pu.convN (n := (p.length : Int)) hT rfl rfl rfl (by simp only [InR]; omega)) rfl rfl ?_
  refine Kq.early (j := 6) (v := .string ⟨⟨be4 p.length⟩⟩) hA (by kernel_rfl) rfl Want.none rfl (fun ro M => Op1.call rfl rfl fn26) rfl (FnC.mono (four_ok (v := p.length) hlen) fun v M' h => h.1) rfl rfl ?_
  refine Kq.op (j := 1) (by kernel_rfl) rfl Want.none (Op1.buildSlice hT rfl rfl rfl rfl rfl rfl rfl) rfl ?_
  refine Kq.pu (j := 2) (by kernel_rfl) rfl Want.none (Pu.convB (bs := [UInt8.ofNat kind]) hT rfl rfl rfl rfl AM.add_same (one_cell kind hk) (Nat.le_refl 1)) rfl ?_
  refine Kq.pu (j := 7) (by kernel_rfl) rfl Want.none (Pu.catS rfl rfl (by rw [be4_length]; show 1 + 4 ≤ _; omega)) rfl ?_
  refine Kq.pu (j := 8) (by kernel_rfl) rfl Want.none (Pu.assign rfl) rfl ?_
  refine Kq.fin (N := 6) (by kernel_rfl) (by repeat (first
    | exact Keep.nil
    | apply Keep.drop rfl
    | apply Keep.keep rfl)) ⟨rfl, ?_⟩
  have hF0 : Fr M (M.add (.row [.int .u8 (kind : Int)] 1 (some (5, 0)))) [] := Fr.add _ _ _
  show Ex Tryd.prog tables ro ⟨18, 23⟩ _ ((5, .string ⟨⟨headB kind p⟩⟩) :: _) (M.add (.row [.int .u8 (kind : Int)] 1 (some (5, 0)))) _
  generalize M.add (.row [.int .u8 (kind : Int)] 1 (some (5, 0))) = M1 at hF0 ⊢
  have hhl : (headB kind p).length = 5 := rfl
  have hll : (headB kind p ++ p).length = 5 + p.length := by rw [List.length_append, hhl]
  (repeat (first
    | refine Ex.seq ok hm ?_
    | refine Ex.region ok hm ?_
    | refine Sq.pu ok hm Want.none (by first
    | exact Pu.move rfl
    | exact Pu.catS rfl rfl (by omega)) rfl ?_))
  refine Sq.call ok Want.none (Op1.call rfl rfl fn11) rfl (FnC.mono (refCrc_ok (s := headB kind p ++ p) (by omega)) ?_)
  rintro x M2 ⟨rfl, rfl⟩
  refine Sq.call ok Want.none (Op1.call rfl rfl fn26) rfl (FnC.mono (four_ok (v := crc (headB kind p ++ p)) (crc_lt _)) ?_)
  rintro x M4 ⟨rfl, hF4⟩
  refine Sq.pu ok hm Want.none (Pu.catS rfl rfl (by rw [be4_length, hhl]; omega)) rfl ?_
  (repeat (refine Sq.pu ok hm Want.none (by exact Pu.move rfl) rfl ?_))
  refine Sq.pu ok hm Want.none (Pu.catS rfl rfl (by rw [List.length_append, be4_length, hhl]; omega)) rfl ?_
  (repeat (first
    | refine Sq.pu ok hm Want.none (by exact Pu.assign rfl) rfl ?_
    | refine Sq.finH (n := 6) ok hm (by repeat (first
    | exact Keep.nil
    | apply Keep.drop rfl
    | apply Keep.keep rfl)) ?_
    | refine Ex.ret ok hm ?_))
  exact ⟨_, .tmp rfl .nil, rfl, hF0.trans hF4 (by simp)⟩

set_option maxHeartbeats 4000000 in
theorem refFrame_ok {ro : Nat} {M : AM} {kind : Nat} {p : List UInt8} (hk : kind < 256) (hp : p.length ≤ 4294967200) :
    FnC Tryd.prog tables ro 7 [.int .u8 (kind : Int), .string ⟨⟨p⟩⟩] M (fun x M' => x = .tuple ⟨[.string ⟨⟨(frameE kind p).1⟩⟩, .int .i64 (frameE kind p).2]⟩ ∧ Fr M M' []) := by
  refine FnC.body (nt := 12) ok hm fn7 rfl rfl ?_
  by_cases h1 : 16777216 < p.length
  · have e : frameE kind p = ([], 1) := if_pos h1
    rw [e]
    (repeat (first
    | refine Ex.seq ok hm ?_
    | refine Ex.region ok hm ?_
    | refine Sq.pu ok hm Want.none (by first
    | exact Pu.move rfl
    | exact Pu.assign rfl
    | exact Pu.gtrI rfl rfl
    | exact Pu.lenS hT rfl rfl) rfl ?_
    | refine Sq.finH (n := 7) ok hm (by repeat (first
    | exact Keep.nil
    | apply Keep.drop rfl
    | apply Keep.keep rfl)) ?_
    | refine Ex.condT ok hm rfl (by first
    | rfl
    | exact decide_eq_true (by omega)) ?_
    | refine Ex.ret ok hm ?_))
    exact ⟨_, .tmp rfl (.tmp rfl .nil), rfl, Fr.refl _ _⟩
  have e : frameE kind p = (laid kind p, 0) := if_neg h1
  rw [e]
  (repeat (first
    | refine Ex.seq ok hm ?_
    | refine Ex.skip ok hm ?_
    | refine Ex.region ok hm ?_
    | refine Sq.pu ok hm Want.none (by first
    | exact Pu.move rfl
    | exact Pu.assign rfl
    | exact Pu.gtrI rfl rfl
    | exact Pu.lenS hT rfl rfl) rfl ?_
    | refine Sq.finH (n := 7) ok hm (by repeat (first
    | exact Keep.nil
    | apply Keep.drop rfl
    | apply Keep.keep rfl)) ?_
    | refine Ex.condF ok hm rfl (by first
    | rfl
    | exact decide_eq_false (by omega)) ?_))
  refine Sq.call ok Want.none (Op1.call rfl rfl fn18) rfl (FnC.mono (Laid_ok (kind := kind) (p := p) hk (by omega)) ?_)
  rintro x M4 ⟨rfl, hF4⟩
  (repeat (first
    | refine Sq.pu ok hm Want.none (by exact Pu.assign rfl) rfl ?_
    | refine Sq.finH (n := 7) ok hm (by repeat (first
    | exact Keep.nil
    | apply Keep.drop rfl
    | apply Keep.keep rfl)) ?_
    | refine Ex.ret ok hm ?_))
  exact ⟨_, .tmp rfl (.tmp rfl .nil), rfl, hF4⟩
end Go.Proofs.YtlheieilhpbkdabDoor
