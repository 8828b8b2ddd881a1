/- Towards the laws of this seat: contracts of the program's functions in a logic over a small machine (text XSFr). No condition. -/
import Derived.Test.YtlheieilhpbkdabDoorXSRef
import Derived.Test.YtlheieilhpbkdabDoorXSStr
namespace Go.Proofs.YtlheieilhpbkdabDoor
open Go.Wvm Crc
set_option linter.unusedVariables false
set_option linter.unusedSimpArgs false


def str (s : List UInt8) : Value := .string ⟨⟨s⟩⟩
def headB (kind : Nat) (p : List UInt8) : List UInt8 := UInt8.ofNat kind :: be4 p.length
def laid (kind : Nat) (p : List UInt8) : List UInt8 := headB kind p ++ be4 (crc (headB kind p ++ p)) ++ p
def frameE (kind : Nat) (p : List UInt8) : List UInt8 × Int := if 16777216 < p.length then ([], 1) else (laid kind p, 0)
theorem headB_length (kind : Nat) (p : List UInt8) : (headB kind p).length = 5 := rfl
theorem laid_length (kind : Nat) (p : List UInt8) : (laid kind p).length = 9 + p.length := by
  simp only [laid, List.length_append, headB_length, be4_length]
theorem one_cell (kind : Nat) (h : kind < 256) : [Value.int .u8 (kind : Int)] = [UInt8.ofNat kind].map fun b => .int .u8 ((b.toNat : Nat) : Int) := by
  rw [u8_lt kind h]; rfl

set_option maxHeartbeats 4000000 in
theorem Frame_ok {ro : Nat} {M : AM} {kind : Nat} {p : List UInt8} (hg : TabOk M) (hk : kind < 256) (hp : p.length ≤ 4294967200) :
    FnC Tryd.prog tables ro 6 [.int .u8 (kind : Int), .string ⟨⟨p⟩⟩] M (fun x M' => x = .tuple ⟨[.string ⟨⟨(frameE kind p).1⟩⟩, .int .i64 (frameE kind p).2]⟩ ∧ Fr M M' []) := by
  refine FnC.body (nt := 27) ok hm fn6 rfl rfl ?_
  by_cases h1 : 16777216 < p.length
  · have e : frameE kind p = ([], 1) := if_pos h1
    rw [e]
    (repeat (first
    | refine Ex.seq ok hm ?_
    | refine Ex.region ok hm ?_
    | refine Sq.pu ok hm Want.none (by first
    | exact Pu.move rfl
    | exact Pu.assign rfl
    | exact Pu.gtrI rfl rfl
    | exact Pu.lenS hT rfl rfl) rfl ?_
    | refine Sq.finH (n := 7) ok hm (by repeat (first
    | exact Keep.nil
    | apply Keep.drop rfl
    | apply Keep.keep rfl)) ?_
    | refine Ex.condT ok hm rfl (by first
    | rfl
    | exact decide_eq_true (by omega)) ?_
    | refine Ex.ret ok hm ?_))
    exact ⟨_, .tmp rfl (.tmp rfl .nil), rfl, Fr.refl _ _⟩
  have e : frameE kind p = (laid kind p, 0) := if_neg h1
  rw [e]
  (repeat (first
    | refine Ex.seq ok hm ?_
    | refine Ex.skip ok hm ?_
    | refine Ex.region ok hm ?_
    | refine Sq.pu ok hm Want.none (by first
    | exact Pu.move rfl
    | exact Pu.assign rfl
    | exact Pu.gtrI rfl rfl
    | exact Pu.lenS hT rfl rfl) rfl ?_
    | refine Sq.finH (n := 7) ok hm (by repeat (first
    | exact Keep.nil
    | apply Keep.drop rfl
    | apply Keep.keep rfl)) ?_
    | refine Ex.condF ok hm rfl (by first
    | rfl
    | exact decide_eq_false (by omega)) ?_))
  refine Ex.grow ok hm 9 rfl (by kernel_rfl) fun V0 hV0 hA => ?_
  have hlen : p.length < 4294967296 := by omega
  refine Kq.pure (j := 0) (by kernel_rfl) rfl Want.none (fun N => Pu.move rfl) rfl rfl ?_
  refine Kq.pure (j := 3) (by kernel_rfl) rfl Want.none (fun N => Pu.move rfl) rfl rfl ?_
  refine Kq.pure (j := 4) (by kernel_rfl) rfl Want.none (fun N => Pu.lenS hT rfl rfl) rfl rfl ?_
  refine Kq.pure (j := 5) (by kernel_rfl) rfl Want.none (fun N => Pu.convN (n := (p.length : Int)) hT rfl rfl rfl (by simp only [InR]; omega)) rfl rfl ?_
  refine Kq.early (j := 6) (v := .string ⟨⟨be4 p.length⟩⟩) hA (by kernel_rfl) rfl Want.none rfl (fun ro M => Op1.call rfl rfl fn17) rfl (FnC.mono (number_ok (v := p.length) hlen) fun v M' h => h.1) rfl rfl ?_
  refine Kq.op (j := 1) (by kernel_rfl) rfl Want.none (Op1.buildSlice hT rfl rfl rfl rfl rfl rfl rfl) rfl ?_
  refine Kq.pu (j := 2) (by kernel_rfl) rfl Want.none (Pu.convB (bs := [UInt8.ofNat kind]) hT rfl rfl rfl rfl AM.add_same (one_cell kind hk) (Nat.le_refl 1)) rfl ?_
  refine Kq.pu (j := 7) (by kernel_rfl) rfl Want.none (Pu.catS rfl rfl (by rw [be4_length]; show 1 + 4 ≤ _; omega)) rfl ?_
  refine Kq.pu (j := 8) (by kernel_rfl) rfl Want.none (Pu.assign rfl) rfl ?_
  refine Kq.fin (N := 7) (by kernel_rfl) (by repeat (first
    | exact Keep.nil
    | apply Keep.drop rfl
    | apply Keep.keep rfl)) ⟨rfl, ?_⟩
  have hF0 : Fr M (M.add (.row [.int .u8 (kind : Int)] 1 (some (5, 0)))) [] := Fr.add _ _ _
  show Ex Tryd.prog tables ro ⟨6, 27⟩ _ ((6, .string ⟨⟨headB kind p⟩⟩) :: _) (M.add (.row [.int .u8 (kind : Int)] 1 (some (5, 0)))) _
  generalize M.add (.row [.int .u8 (kind : Int)] 1 (some (5, 0))) = M1 at hF0 ⊢
  have hg1 := hg.fr hF0
  have hhl : (headB kind p).length = 5 := rfl
  (repeat (first
    | refine Ex.seq ok hm ?_
    | refine Ex.region ok hm ?_
    | refine Sq.pu ok hm Want.none (by exact Pu.move rfl) rfl ?_))
  refine Sq.call ok Want.none (Op1.call rfl rfl fn10) rfl (FnC.mono (Crc_ok (s := headB kind p) hg1 (by omega)) ?_)
  rintro x M2 ⟨rfl, hF2⟩
  (repeat (refine Sq.pu ok hm Want.none (by exact Pu.move rfl) rfl ?_))
  refine Sq.call ok Want.none (Op1.call rfl rfl fn12) rfl (FnC.mono (On_ok (n := crc (headB kind p)) (s := p) (hg1.fr hF2) (crc_lt _) (by omega)) ?_)
  rintro x M3 ⟨rfl, hF3⟩
  have e2 : on (crc (headB kind p)) p = crc (headB kind p ++ p) := on_on 0 _ _
  rw [e2]
  (repeat (fail))
  refine Sq.call ok Want.none (Op1.call rfl rfl fn17) rfl (FnC.mono (number_ok (v := crc (headB kind p ++ p)) (crc_lt _)) ?_)
  rintro x M4 ⟨rfl, hF4⟩
  refine Sq.pu ok hm Want.none (Pu.catS rfl rfl (by rw [be4_length, hhl]; omega)) rfl ?_
  (repeat (refine Sq.pu ok hm Want.none (by exact Pu.move rfl) rfl ?_))
  refine Sq.pu ok hm Want.none (Pu.catS rfl rfl (by rw [List.length_append, be4_length, hhl]; omega)) rfl ?_
  (repeat (first
    | refine Sq.pu ok hm Want.none (by exact Pu.assign rfl) rfl ?_
    | refine Sq.finH (n := 7) ok hm (by repeat (first
    | exact Keep.nil
    | apply Keep.drop rfl
    | apply Keep.keep rfl)) ?_
    | refine Ex.ret ok hm ?_))
  exact ⟨_, .tmp rfl (.tmp rfl .nil), rfl, ((hF0.trans hF2 (by simp)).trans hF3 (by simp)).trans hF4 (by simp)⟩
end Go.Proofs.YtlheieilhpbkdabDoor
