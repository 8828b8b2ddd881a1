/- Towards the laws of this seat: contracts of the program's functions in a logic over a small machine (text XSStr). No condition. -/
import Derived.Test.YtlheieilhpbkdabDoorXSOn
namespace Go.Proofs.YtlheieilhpbkdabDoor
open Go.Wvm Crc
set_option linter.unusedVariables false
set_option linter.unusedSimpArgs false

def be4 (v : Nat) : List UInt8 := [UInt8.ofNat (v / 2 ^ 24), UInt8.ofNat (v / 2 ^ 16), UInt8.ofNat (v / 2 ^ 8), UInt8.ofNat v]
theorem be4_length (v : Nat) : (be4 v).length = 4 := rfl
theorem u8_mod (v : Nat) : ((v : Int) % 256) = (((UInt8.ofNat v).toNat : Nat) : Int) := by
  rw [UInt8.toNat_ofNat']; simp
theorem u8_lt (v : Nat) (h : v < 256) : (v : Int) = (((UInt8.ofNat v).toNat : Nat) : Int) := by
  rw [UInt8.toNat_ofNat', Nat.mod_eq_of_lt h]
theorem be4_cells (v : Nat) (hv : v < 4294967296) : [Value.int .u8 ((v / 2 ^ 24 : Nat) : Int), .int .u8 (((v / 2 ^ 16 : Nat) : Int) % 256), .int .u8 (((v / 2 ^ 8 : Nat) : Int) % 256), .int .u8 ((v : Int) % 256)] = (be4 v).map fun b => .int .u8 ((b.toNat : Nat) : Int) := by
  rw [u8_lt (v / 2 ^ 24) (by omega)]
  simp only [u8_mod, be4, List.map_cons, List.map_nil]
/-- The number of four bytes. -/
def rd4 (s : List UInt8) : Nat := (s.getD 0 0).toNat * 16777216 + (s.getD 1 0).toNat * 65536 + (s.getD 2 0).toNat * 256 + (s.getD 3 0).toNat
theorem or_add (a b i p : Nat) (hp : 2 ^ i = p) (h : b < p) : a * p ||| b = a * p + b := by
  subst hp
  rw [Nat.mul_comm, Nat.two_pow_add_eq_or_of_lt h]
theorem rd4_lt (s : List UInt8) : rd4 s < 4294967296 := by
  have h0 := (s.getD 0 0).toNat_lt
  have h1 := (s.getD 1 0).toNat_lt
  have h2 := (s.getD 2 0).toNat_lt
  have h3 := (s.getD 3 0).toNat_lt
  unfold rd4
  omega
theorem rd4_be4 (v : Nat) (h : v < 4294967296) (r : List UInt8) : rd4 (be4 v ++ r) = v := by
  simp only [rd4, be4, List.cons_append, List.nil_append, List.getD_cons_zero, List.getD_cons_succ, UInt8.toNat_ofNat']
  omega
theorem rd4_inj4 (a0 a1 a2 a3 b0 b1 b2 b3 : UInt8) (h : rd4 [a0, a1, a2, a3] = rd4 [b0, b1, b2, b3]) : [a0, a1, a2, a3] = [b0, b1, b2, b3] := by
  simp only [rd4, List.getD_cons_zero, List.getD_cons_succ] at h
  have h0 := a0.toNat_lt
  have h1 := a1.toNat_lt
  have h2 := a2.toNat_lt
  have h3 := a3.toNat_lt
  have k0 := b0.toNat_lt
  have k1 := b1.toNat_lt
  have k2 := b2.toNat_lt
  have k3 := b3.toNat_lt
  have e0 : a0 = b0 := UInt8.toNat_inj.1 (by omega)
  have e1 : a1 = b1 := UInt8.toNat_inj.1 (by omega)
  have e2 : a2 = b2 := UInt8.toNat_inj.1 (by omega)
  have e3 : a3 = b3 := UInt8.toNat_inj.1 (by omega)
  rw [e0, e1, e2, e3]
theorem four_of (a : List UInt8) (h : a.length = 4) : ∃ a0 a1 a2 a3, a = [a0, a1, a2, a3] := by
  rcases a with _ | ⟨a0, _ | ⟨a1, _ | ⟨a2, _ | ⟨a3, _ | ⟨a4, a⟩⟩⟩⟩⟩ <;> simp at h
  exact ⟨_, _, _, _, rfl⟩
theorem rd4_inj (a b : List UInt8) (ha : a.length = 4) (hb : b.length = 4) (h : rd4 a = rd4 b) : a = b := by
  obtain ⟨a0, a1, a2, a3, rfl⟩ := four_of a ha
  obtain ⟨b0, b1, b2, b3, rfl⟩ := four_of b hb
  exact rd4_inj4 _ _ _ _ _ _ _ _ h

set_option maxHeartbeats 2000000 in
theorem number_ok {ro : Nat} {M : AM} {v : Nat} (hv : v < 4294967296) :
    FnC Tryd.prog tables ro 17 [u32v v] M (fun x M' => x = .string ⟨⟨be4 v⟩⟩ ∧ Fr M M' []) := by
  refine FnC.body (nt := 18) ok hm fn17 rfl rfl ?_
  refine Ex.facts fun hlt hron => ?_
  have h24 : v / 2 ^ 24 < 4294967296 := by omega
  have h16 : v / 2 ^ 16 < 4294967296 := by omega
  have h8 : v / 2 ^ 8 < 4294967296 := by omega
  (repeat (first
    | refine Ex.seq ok hm ?_
    | refine Ex.region ok hm ?_
    | refine Sq.pu ok hm Want.none (by first
    | exact Pu.move rfl
    | exact Pu.assign rfl
    | exact Pu.shrN rfl rfl (by simp only [InR]; omega)
    | exact Pu.convN hT rfl rfl rfl (by simp only [InR]; omega)
    | exact Pu.convU8 hT rfl rfl rfl) rfl ?_
    | refine Sq.finH (n := 4) ok hm (by repeat (first
    | exact Keep.nil
    | apply Keep.keep rfl)) ?_))
  refine Sq.pu ok hm Want.none (Pu.buildA hT rfl rfl rfl rfl) rfl ?_
  refine Sq.op ok hm Want.none (Op1.alloc hT rfl rfl rfl) rfl ?_
  refine Sq.act ok hm Want.none (Op1.store hT rfl rfl rfl rfl (by (repeat (exact AM.add_same))) (by omega) (Nat.le_of_ble_eq_true rfl) (Nat.le_of_ble_eq_true rfl) rfl) ?_
  (repeat (first
    | refine Ex.seq ok hm ?_
    | refine Ex.region ok hm ?_
    | refine Sq.finH (n := 4) ok hm (by repeat (first
    | exact Keep.nil
    | apply Keep.drop rfl
    | apply Keep.keep rfl)) ?_))
  refine Sq.pu ok hm Want.none (Pu.slicePA (a := 0) (b := 4) (n := 4) hT rfl rfl rfl rfl rfl rfl AM.upd_same (by decide)) rfl ?_
  refine Sq.pu ok hm Want.none (Pu.convB (bs := be4 v) hT rfl rfl rfl rfl AM.upd_same (be4_cells v hv) (Nat.le_refl 4)) rfl ?_
  (repeat (first
    | refine Sq.pu ok hm Want.none (by exact Pu.assign rfl) rfl ?_
    | refine Sq.finH (n := 4) ok hm (by repeat (first
    | exact Keep.nil
    | apply Keep.drop rfl
    | apply Keep.keep rfl)) ?_
    | refine Ex.ret ok hm ?_))
  exact ⟨_, .tmp rfl .nil, rfl, ((Fr.refl _ _).add' _).upd' _ (.inr (Nat.le_refl _))⟩

set_option maxHeartbeats 2000000 in
theorem four_ok {ro : Nat} {M : AM} {v : Nat} (hv : v < 4294967296) :
    FnC Tryd.prog tables ro 26 [u32v v] M (fun x M' => x = .string ⟨⟨be4 v⟩⟩ ∧ Fr M M' []) := by
  refine FnC.body (nt := 16) ok hm fn26 rfl rfl ?_
  refine Ex.facts fun hlt hron => ?_
  have h24 : v / 2 ^ 24 < 4294967296 := by omega
  have h16 : v / 2 ^ 16 < 4294967296 := by omega
  have h8 : v / 2 ^ 8 < 4294967296 := by omega
  (repeat (first
    | refine Ex.seq ok hm ?_
    | refine Ex.region ok hm ?_
    | refine Sq.pu ok hm Want.none (by first
    | exact Pu.move rfl
    | exact Pu.assign rfl
    | exact Pu.shrN rfl rfl (by simp only [InR]; omega)
    | exact Pu.convN hT rfl rfl rfl (by simp only [InR]; omega)
    | exact Pu.convU8 hT rfl rfl rfl) rfl ?_
    | refine Sq.op ok hm Want.none (Op1.buildSlice hT rfl rfl rfl rfl rfl rfl rfl) rfl ?_
    | refine Sq.finH (n := 4) ok hm (by repeat (first
    | exact Keep.nil
    | apply Keep.keep rfl)) ?_))
  refine Sq.pu ok hm Want.none (Pu.convB (bs := be4 v) hT rfl rfl rfl rfl AM.add_same (be4_cells v hv) (Nat.le_refl 4)) rfl ?_
  (repeat (first
    | refine Sq.pu ok hm Want.none (by exact Pu.assign rfl) rfl ?_
    | refine Sq.finH (n := 4) ok hm (by repeat (first
    | exact Keep.nil
    | apply Keep.drop rfl
    | apply Keep.keep rfl)) ?_
    | refine Ex.ret ok hm ?_))
  exact ⟨_, .tmp rfl .nil, rfl, Fr.add _ _ _⟩

set_option maxHeartbeats 2000000 in
theorem read_ok {ro : Nat} {M : AM} {s : List UInt8} (hs : 4 ≤ s.length) :
    FnC Tryd.prog tables ro 19 [.string ⟨⟨s⟩⟩] M (fun x M' => x = u32v (rd4 s) ∧ M' = M) := by
  refine FnC.body (nt := 21) ok hm fn19 rfl rfl ?_
  have h0 := (s.getD 0 0).toNat_lt
  have h1 := (s.getD 1 0).toNat_lt
  have h2 := (s.getD 2 0).toNat_lt
  have h3 := (s.getD 3 0).toNat_lt
  have hr : rd4 s = (s.getD 0 0).toNat * 16777216 + (s.getD 1 0).toNat * 65536 + (s.getD 2 0).toNat * 256 + (s.getD 3 0).toNat := rfl
  generalize hr4 : rd4 s = r at hr ⊢
  (repeat (first
    | refine Ex.seq ok hm ?_
    | refine Ex.region ok hm ?_
    | refine Sq.pu ok hm Want.none (by exact Pu.assign rfl) rfl ?_
    | refine Sq.finH (n := 4) ok hm (by repeat (first
    | exact Keep.nil
    | apply Keep.keep rfl)) ?_))
  refine Ex.draw ok hm 17 (by kernel_rfl) ?_
  refine Hq.pu Want.none (Pu.move rfl) rfl rfl rfl ?_
  refine Hq.pu Want.none (Pu.indexSN (i := 0) hT rfl rfl rfl (by omega)) rfl rfl rfl ?_
  generalize hg0 : (s.getD 0 0).toNat = x0 at h0 hr ⊢
  refine Hq.pu Want.none (Pu.convN (n := (x0 : Int)) hT rfl rfl rfl (by simp only [InR]; omega)) rfl rfl rfl ?_
  refine Hq.pu Want.none (Pu.shlP (a := x0) (b := 24) (p := 16777216) rfl rfl rfl (by decide) (by simp only [InR]; omega)) rfl rfl rfl ?_
  refine Hq.pu Want.none (Pu.move rfl) rfl rfl rfl ?_
  refine Hq.pu Want.none (Pu.indexSN (i := 1) hT rfl rfl rfl (by omega)) rfl rfl rfl ?_
  generalize hg1 : (s.getD 1 0).toNat = x1 at h1 hr ⊢
  refine Hq.pu Want.none (Pu.convN (n := (x1 : Int)) hT rfl rfl rfl (by simp only [InR]; omega)) rfl rfl rfl ?_
  refine Hq.pu Want.none (Pu.shlP (a := x1) (b := 16) (p := 65536) rfl rfl rfl (by decide) (by simp only [InR]; omega)) rfl rfl rfl ?_
  have o1 : x0 * 16777216 ||| x1 * 65536 = x0 * 16777216 + x1 * 65536 := or_add x0 (x1 * 65536) 24 16777216 rfl (by omega)
  refine Hq.pu Want.none (Pu.orN (a := x0 * 16777216) (b := x1 * 65536) rfl rfl (by simp only [InR]; omega) (by simp only [InR]; omega)) rfl rfl rfl ?_
  rw [o1]
  refine Hq.pu Want.none (Pu.move rfl) rfl rfl rfl ?_
  refine Hq.pu Want.none (Pu.indexSN (i := 2) hT rfl rfl rfl (by omega)) rfl rfl rfl ?_
  generalize hg2 : (s.getD 2 0).toNat = x2 at h2 hr ⊢
  refine Hq.pu Want.none (Pu.convN (n := (x2 : Int)) hT rfl rfl rfl (by simp only [InR]; omega)) rfl rfl rfl ?_
  refine Hq.pu Want.none (Pu.shlP (a := x2) (b := 8) (p := 256) rfl rfl rfl (by decide) (by simp only [InR]; omega)) rfl rfl rfl ?_
  have o2 : (x0 * 16777216 + x1 * 65536) ||| x2 * 256 = x0 * 16777216 + x1 * 65536 + x2 * 256 := by rw [show x0 * 16777216 + x1 * 65536 = (x0 * 256 + x1) * 65536 by omega]; exact or_add _ (x2 * 256) 16 65536 rfl (by omega)
  refine Hq.pu Want.none (Pu.orN (a := x0 * 16777216 + x1 * 65536) (b := x2 * 256) rfl rfl (by simp only [InR]; omega) (by simp only [InR]; omega)) rfl rfl rfl ?_
  rw [o2]
  refine Hq.pu Want.none (Pu.move rfl) rfl rfl rfl ?_
  refine Hq.pu Want.none (Pu.indexSN (i := 3) hT rfl rfl rfl (by omega)) rfl rfl rfl ?_
  generalize hg3 : (s.getD 3 0).toNat = x3 at h3 hr ⊢
  refine Hq.pu Want.none (Pu.convN (n := (x3 : Int)) hT rfl rfl rfl (by simp only [InR]; omega)) rfl rfl rfl ?_
  have o3 : (x0 * 16777216 + x1 * 65536 + x2 * 256) ||| x3 = r := by rw [show x0 * 16777216 + x1 * 65536 + x2 * 256 = (x0 * 65536 + x1 * 256 + x2) * 256 by omega, hr]; rw [or_add _ x3 8 256 rfl (by omega)]; omega
  refine Hq.nil ?_
  refine Tq.pu Want.none (Pu.orN (a := x0 * 16777216 + x1 * 65536 + x2 * 256) (b := x3) rfl rfl (by simp only [InR]; omega) (by simp only [InR]; omega)) rfl ?_
  rw [o3]
  (repeat (first
    | refine Tq.pu Want.none (by exact Pu.assign rfl) rfl ?_
    | refine Tq.finH (n := 4)  (by repeat (first
    | exact Keep.nil
    | apply Keep.drop rfl
    | apply Keep.keep rfl)) ?_
    | refine Ex.ret ok hm ?_))
  exact ⟨_, .tmp rfl .nil, rfl, rfl⟩

set_option maxHeartbeats 2000000 in
theorem refnumber_ok {ro : Nat} {M : AM} {s : List UInt8} (hs : 4 ≤ s.length) :
    FnC Tryd.prog tables ro 20 [.string ⟨⟨s⟩⟩] M (fun x M' => x = u32v (rd4 s) ∧ M' = M) := by
  refine FnC.body (nt := 21) ok hm fn20 rfl rfl ?_
  have h0 := (s.getD 0 0).toNat_lt
  have h1 := (s.getD 1 0).toNat_lt
  have h2 := (s.getD 2 0).toNat_lt
  have h3 := (s.getD 3 0).toNat_lt
  have hr : rd4 s = (s.getD 0 0).toNat * 16777216 + (s.getD 1 0).toNat * 65536 + (s.getD 2 0).toNat * 256 + (s.getD 3 0).toNat := rfl
  generalize hr4 : rd4 s = r at hr ⊢
  (repeat (first
    | refine Ex.seq ok hm ?_
    | refine Ex.region ok hm ?_
    | refine Sq.pu ok hm Want.none (by exact Pu.assign rfl) rfl ?_
    | refine Sq.finH (n := 4) ok hm (by repeat (first
    | exact Keep.nil
    | apply Keep.keep rfl)) ?_))
  refine Ex.draw ok hm 17 (by kernel_rfl) ?_
  refine Hq.pu Want.none (Pu.move rfl) rfl rfl rfl ?_
  refine Hq.pu Want.none (Pu.indexSN (i := 0) hT rfl rfl rfl (by omega)) rfl rfl rfl ?_
  generalize hg0 : (s.getD 0 0).toNat = x0 at h0 hr ⊢
  refine Hq.pu Want.none (Pu.convN (n := (x0 : Int)) hT rfl rfl rfl (by simp only [InR]; omega)) rfl rfl rfl ?_
  refine Hq.pu Want.none (Pu.shlP (a := x0) (b := 24) (p := 16777216) rfl rfl rfl (by decide) (by simp only [InR]; omega)) rfl rfl rfl ?_
  refine Hq.pu Want.none (Pu.move rfl) rfl rfl rfl ?_
  refine Hq.pu Want.none (Pu.indexSN (i := 1) hT rfl rfl rfl (by omega)) rfl rfl rfl ?_
  generalize hg1 : (s.getD 1 0).toNat = x1 at h1 hr ⊢
  refine Hq.pu Want.none (Pu.convN (n := (x1 : Int)) hT rfl rfl rfl (by simp only [InR]; omega)) rfl rfl rfl ?_
  refine Hq.pu Want.none (Pu.shlP (a := x1) (b := 16) (p := 65536) rfl rfl rfl (by decide) (by simp only [InR]; omega)) rfl rfl rfl ?_
  have o1 : x0 * 16777216 ||| x1 * 65536 = x0 * 16777216 + x1 * 65536 := or_add x0 (x1 * 65536) 24 16777216 rfl (by omega)
  refine Hq.pu Want.none (Pu.orN (a := x0 * 16777216) (b := x1 * 65536) rfl rfl (by simp only [InR]; omega) (by simp only [InR]; omega)) rfl rfl rfl ?_
  rw [o1]
  refine Hq.pu Want.none (Pu.move rfl) rfl rfl rfl ?_
  refine Hq.pu Want.none (Pu.indexSN (i := 2) hT rfl rfl rfl (by omega)) rfl rfl rfl ?_
  generalize hg2 : (s.getD 2 0).toNat = x2 at h2 hr ⊢
  refine Hq.pu Want.none (Pu.convN (n := (x2 : Int)) hT rfl rfl rfl (by simp only [InR]; omega)) rfl rfl rfl ?_
  refine Hq.pu Want.none (Pu.shlP (a := x2) (b := 8) (p := 256) rfl rfl rfl (by decide) (by simp only [InR]; omega)) rfl rfl rfl ?_
  have o2 : (x0 * 16777216 + x1 * 65536) ||| x2 * 256 = x0 * 16777216 + x1 * 65536 + x2 * 256 := by rw [show x0 * 16777216 + x1 * 65536 = (x0 * 256 + x1) * 65536 by omega]; exact or_add _ (x2 * 256) 16 65536 rfl (by omega)
  refine Hq.pu Want.none (Pu.orN (a := x0 * 16777216 + x1 * 65536) (b := x2 * 256) rfl rfl (by simp only [InR]; omega) (by simp only [InR]; omega)) rfl rfl rfl ?_
  rw [o2]
  refine Hq.pu Want.none (Pu.move rfl) rfl rfl rfl ?_
  refine Hq.pu Want.none (Pu.indexSN (i := 3) hT rfl rfl rfl (by omega)) rfl rfl rfl ?_
  generalize hg3 : (s.getD 3 0).toNat = x3 at h3 hr ⊢
  refine Hq.pu Want.none (Pu.convN (n := (x3 : Int)) hT rfl rfl rfl (by simp only [InR]; omega)) rfl rfl rfl ?_
  have o3 : (x0 * 16777216 + x1 * 65536 + x2 * 256) ||| x3 = r := by rw [show x0 * 16777216 + x1 * 65536 + x2 * 256 = (x0 * 65536 + x1 * 256 + x2) * 256 by omega, hr]; rw [or_add _ x3 8 256 rfl (by omega)]; omega
  refine Hq.nil ?_
  refine Tq.pu Want.none (Pu.orN (a := x0 * 16777216 + x1 * 65536 + x2 * 256) (b := x3) rfl rfl (by simp only [InR]; omega) (by simp only [InR]; omega)) rfl ?_
  rw [o3]
  (repeat (first
    | refine Tq.pu Want.none (by exact Pu.assign rfl) rfl ?_
    | refine Tq.finH (n := 4)  (by repeat (first
    | exact Keep.nil
    | apply Keep.drop rfl
    | apply Keep.keep rfl)) ?_
    | refine Ex.ret ok hm ?_))
  exact ⟨_, .tmp rfl .nil, rfl, rfl⟩

end Go.Proofs.YtlheieilhpbkdabDoor
