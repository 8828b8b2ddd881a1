/- Towards the laws of this seat: contracts of the program's functions in a logic over a small machine (texts XWr XRef XRef2 XRq XCm XCl). No condition. -/
import Derived.Test.YtlhfolmhgghjcaaXm0
import Derived.Test.YtlhfolmhgghjcaaWvmLgf
import Derived.Test.YtlhfolmhgghjcaaWvmLgj
namespace Go.Proofs.Ytlhfolmhgghjcaa
open Go.Wvm Bits
set_option linter.unusedVariables false
set_option linter.unusedSimpArgs false

def WPost (ro : Nat) (M M' : AM) (p q : Nat) (l' : List Bool) : Prop := ∃ q', WrAt M' p q' l' ∧ Fr M M' [p, q] ∧ (q' = q ∨ M.next ≤ q') ∧ ro ≤ q'
theorem WPost.same {ro : Nat} {M : AM} {p q : Nat} {l : List Bool} (h : WrAt M p q l) (hq : ro ≤ q) : WPost ro M M p q l := ⟨q, h, Fr.refl _ _, .inl rfl, hq⟩

theorem fits_ok {ro : Nat} {M : AM} {v n : Int} (hv : 0 ≤ v ∧ v < 18446744073709551616) (hn : 0 ≤ n ∧ n ≤ 64) :
    FnC Try.prog tables ro 36 [.int .u64 v, .int .i64 n] M (fun r M' => r = .bool (decide (64 ≤ n ∨ v / 2 ^ n.toNat = 0)) ∧ M' = M) := by
  refine FnC.body (nt := 13) ok hm fn36 rfl rfl ?_
  by_cases h : 64 ≤ n
  · (repeat (first
    | refine Ex.seq ok hm ?_
    | refine Ex.region ok hm ?_
    | refine Sq.pu ok hm Want.none (by first
    | exact Pu.move rfl
    | exact Pu.assign rfl
    | exact Pu.geqI rfl rfl
    | exact Pu.pickT rfl (by first
    | rfl
    | exact decide_eq_true (by omega)) rfl) rfl ?_
    | refine Sq.skip ok hm (by exact Want.no rfl rfl rfl (by first
    | rfl
    | exact decide_eq_true (by omega))) rfl ?_
    | refine Sq.finH (n := 5) ok hm (by repeat (first
    | exact Keep.nil
    | apply Keep.drop rfl
    | apply Keep.keep rfl)) ?_
    | refine Ex.ret ok hm ?_))
    exact ⟨_, .tmp rfl .nil, by simp [valOf, h], rfl⟩
  · (repeat (first
    | refine Ex.seq ok hm ?_
    | refine Ex.region ok hm ?_
    | refine Sq.pu ok hm Want.none (by first
    | exact Pu.move rfl
    | exact Pu.assign rfl
    | exact Pu.geqI rfl rfl
    | exact Pu.eqlI rfl rfl
    | exact Pu.pickF rfl (by first
    | rfl
    | exact decide_eq_false (by omega)) rfl
    | exact Pu.shr rfl rfl (by omega) (by omega) (by simp only [InR]; omega)) rfl ?_
    | refine Sq.pu ok hm (by exact Want.yes rfl rfl rfl (by first
    | rfl
    | exact decide_eq_false (by omega))) (by first
    | exact Pu.move rfl
    | exact Pu.eqlI rfl rfl
    | exact Pu.shr rfl rfl (by omega) (by omega) (by simp only [InR]; omega)) rfl ?_
    | refine Sq.finH (n := 5) ok hm (by repeat (first
    | exact Keep.nil
    | apply Keep.drop rfl
    | apply Keep.keep rfl)) ?_
    | refine Ex.ret ok hm ?_))
    refine ⟨_, .tmp rfl .nil, ?_, rfl⟩
    simp only [valOf, Value.bool.injEq]
    rw [Bool.eq_iff_iff, decide_eq_true_eq, decide_eq_true_eq]
    exact ⟨.inr, fun k => k.resolve_left h⟩

theorem new_ok {ro : Nat} {M : AM} : FnC Try.prog tables ro 14 [] M (fun r M' => r = .pointer (some ⟨M.next, 0, none⟩) ∧ M' = M.add (.row [.slice none 0 0, .int .i64 0] 0 (some (79, 0)))) := by
  refine FnC.body (nt := 3) ok hm fn14 rfl rfl ?_
  (repeat (first
    | refine Ex.seq ok hm ?_
    | refine Ex.region ok hm ?_
    | refine Sq.pu ok hm Want.none (by exact Pu.assign rfl) rfl ?_
    | refine Sq.nil ok hm ?_))
  refine Sq.pu ok hm Want.none (Pu.build hT rfl rfl rfl rfl) rfl ?_
  refine Sq.op ok hm Want.none (Op1.box rfl rfl) rfl ?_
  (repeat (first
    | refine Sq.pu ok hm Want.none (by exact Pu.assign rfl) rfl ?_
    | refine Sq.nil ok hm ?_
    | refine Ex.ret ok hm ?_))
  exact ⟨_, .tmp rfl .nil, rfl, rfl⟩
theorem wr_new {M : AM} (q : Nat) (h : M.next ≠ q) : WrAt (M.add (.row [.slice none 0 0, .int .i64 0] 0 (some (79, 0)))) M.next q [] :=
  ⟨AM.add_same, fun h => absurd rfl h, h⟩

theorem len_ok {ro : Nat} {M : AM} {p q : Nat} {l : List Bool} (h : WrAt M p q l) : FnC Try.prog tables ro 15 [.pointer (some ⟨p, 0, none⟩)] M (fun r M' => r = .int .i64 l.length ∧ M' = M) := by
  refine FnC.body (nt := 9) ok hm fn15 rfl rfl ?_
  have hrow := h.row
  (repeat (first
    | refine Ex.seq ok hm ?_
    | refine Ex.skip ok hm ?_
    | refine Ex.region ok hm ?_
    | refine Sq.pu ok hm Want.none (by first
    | exact Pu.move rfl
    | exact Pu.assign rfl
    | exact Pu.nilCheck rfl
    | exact Pu.fieldAddr hT rfl rfl rfl rfl rfl
    | (apply Pu.load hT rfl rfl rfl; (focus ((repeat (assumption)))); (focus rfl))
    | exact Pu.eqlP hT rfl rfl rfl) rfl ?_
    | refine Sq.finH (n := 3) ok hm (by repeat (first
    | exact Keep.nil
    | apply Keep.drop rfl
    | apply Keep.keep rfl)) ?_
    | refine Ex.condF ok hm rfl (by rfl) ?_
    | refine Ex.ret ok hm ?_))
  exact ⟨_, .tmp rfl .nil, rfl, rfl⟩

theorem u8_row (ns : List Nat) (h : ∀ b ∈ ns, b < 256) : ns.map u8v = (ns.map UInt8.ofNat).map fun b => .int .u8 ((b.toNat : Nat) : Int) := by
  rw [List.map_map]
  apply List.map_congr_left
  intro b hb
  have := h b hb
  simp [u8v]; omega

theorem text_ok {ro : Nat} {M : AM} {p q : Nat} {l : List Bool} (h : WrAt M p q l) : FnC Try.prog tables ro 18 [.pointer (some ⟨p, 0, none⟩)] M (fun r M' => r = .tuple ⟨[.string ⟨⟨txt l⟩⟩, .int .i64 0]⟩ ∧ M' = M) := by
  refine FnC.body (nt := 11) ok hm fn18 rfl rfl ?_
  by_cases h0 : packL l = []
  · have hrow := h.row
    rw [h0] at hrow
    have hrow : M.get p = some (.row [.slice none 0 0, .int .i64 (l.length : Int)] 0 (some (79, 0))) := hrow
    (repeat (first
    | refine Ex.seq ok hm ?_
    | refine Ex.skip ok hm ?_
    | refine Ex.region ok hm ?_
    | refine Sq.pu ok hm Want.none (by first
    | exact Pu.move rfl
    | exact Pu.assign rfl
    | exact Pu.nilCheck rfl
    | exact Pu.fieldAddr hT rfl rfl rfl rfl rfl
    | (apply Pu.load hT rfl rfl rfl; (focus ((repeat (assumption)))); (focus rfl))
    | exact Pu.eqlP hT rfl rfl rfl) rfl ?_
    | refine Sq.finH (n := 4) ok hm (by repeat (first
    | exact Keep.nil
    | apply Keep.drop rfl
    | apply Keep.keep rfl)) ?_
    | refine Ex.condF ok hm rfl (by rfl) ?_))
    refine Sq.pu ok hm Want.none (Pu.convB0 hT rfl rfl rfl rfl) rfl ?_
    (repeat (first
    | refine Sq.pu ok hm Want.none (by exact Pu.assign rfl) rfl ?_
    | refine Sq.finH (n := 4) ok hm (by repeat (first
    | exact Keep.nil
    | apply Keep.drop rfl
    | apply Keep.keep rfl)) ?_
    | refine Ex.ret ok hm ?_))
    refine ⟨_, .tmp rfl (.tmp rfl .nil), ?_, rfl⟩
    simp only [valOf, txt, h0]; rfl
  · have hrow := h.row
    rw [bufV_pos _ _ (by intro e; exact h0 (List.length_eq_zero_iff.1 e))] at hrow
    have hbuf := h.buf h0
    (repeat (first
    | refine Ex.seq ok hm ?_
    | refine Ex.skip ok hm ?_
    | refine Ex.region ok hm ?_
    | refine Sq.pu ok hm Want.none (by first
    | exact Pu.move rfl
    | exact Pu.assign rfl
    | exact Pu.nilCheck rfl
    | exact Pu.fieldAddr hT rfl rfl rfl rfl rfl
    | (apply Pu.load hT rfl rfl rfl; (focus ((repeat (assumption)))); (focus rfl))
    | exact Pu.eqlP hT rfl rfl rfl) rfl ?_
    | refine Sq.finH (n := 4) ok hm (by repeat (first
    | exact Keep.nil
    | apply Keep.drop rfl
    | apply Keep.keep rfl)) ?_
    | refine Ex.condF ok hm rfl (by rfl) ?_))
    refine Sq.pu ok hm Want.none (Pu.convB hT (bs := txt l) rfl rfl rfl rfl hbuf ?_ (by simp)) rfl ?_
    · rw [List.drop_zero, List.take_of_length_le (by simp)]
      exact u8_row _ (packL_lt l)
    (repeat (first
    | refine Sq.pu ok hm Want.none (by exact Pu.assign rfl) rfl ?_
    | refine Sq.finH (n := 4) ok hm (by repeat (first
    | exact Keep.nil
    | apply Keep.drop rfl
    | apply Keep.keep rfl)) ?_
    | refine Ex.ret ok hm ?_))
    exact ⟨_, .tmp rfl (.tmp rfl .nil), rfl, rfl⟩

/-- What a writer makes of a number. -/
def putE (l : List Bool) (v : Nat) (n : Int) : Int × List Bool :=
  if n < 0 ∨ 64 < n ∨ (n < 64 ∧ v / 2 ^ n.toNat ≠ 0) then (1, l) else if 134217728 - (l.length : Int) < n then (3, l) else (0, l ++ ofN v n.toNat)

theorem cast_div (v k : Nat) : ((v : Int) / 2 ^ k = 0) ↔ v / 2 ^ k = 0 := by
  have : (v : Int) / 2 ^ k = ((v / 2 ^ k : Nat) : Int) := by simp
  rw [this]; omega

set_option maxHeartbeats 4000000 in
theorem Put_ok {ro : Nat} {M : AM} {p q : Nat} {l : List Bool} {v : Nat} {n : Int} (hp : ro ≤ p) (hq : ro ≤ q) (h : WrAt M p q l) (hv : v < 2 ^ 64) (hn : InR .i64 n) (hl : l.length ≤ 134217728) :
    FnC Try.prog tables ro 16 [.pointer (some ⟨p, 0, none⟩), .int .u64 v, .int .i64 n] M (fun r M' => r = .int .i64 (putE l v n).1 ∧ WPost ro M M' p q (putE l v n).2) := by
  refine FnC.body (nt := 35) ok hm fn16 rfl rfl ?_
  have hrow := h.row
  simp only [InR] at hn
  by_cases h1 : n < 0
  · have e : putE l v n = (1, l) := by unfold putE; rw [if_pos (.inl h1)]
    rw [e]
    (repeat (first
    | refine Ex.seq ok hm ?_
    | refine Ex.block ok hm ?_
    | refine Ex.region ok hm ?_
    | refine Sq.pu ok hm Want.none (by first
    | exact Pu.move rfl
    | exact Pu.assign rfl
    | exact Pu.lssI rfl rfl
    | exact Pu.eqlP hT rfl rfl rfl
    | exact Pu.pickT rfl (by first
    | rfl
    | exact decide_eq_true (by omega)) rfl) rfl ?_
    | refine Sq.skip ok hm (by exact Want.no rfl rfl rfl (by first
    | rfl
    | exact decide_eq_true (by omega))) rfl ?_
    | refine Sq.finH (n := 8) ok hm (by repeat (first
    | exact Keep.nil
    | apply Keep.drop rfl
    | apply Keep.keep rfl)) ?_
    | refine Ex.condT ok hm rfl (by rfl) ?_
    | refine Ex.condF ok hm rfl (by rfl) ?_
    | refine Ex.ret ok hm ?_))
    exact ⟨_, .tmp rfl .nil, rfl, WPost.same h hq⟩
  · by_cases h2 : 64 < n
    · have e : putE l v n = (1, l) := by unfold putE; rw [if_pos (.inr (.inl h2))]
      rw [e]
      (repeat (first
    | refine Ex.seq ok hm ?_
    | refine Ex.block ok hm ?_
    | refine Ex.region ok hm ?_
    | refine Sq.pu ok hm Want.none (by first
    | exact Pu.move rfl
    | exact Pu.assign rfl
    | exact Pu.lssI rfl rfl
    | exact Pu.gtrI rfl rfl
    | exact Pu.eqlP hT rfl rfl rfl
    | exact Pu.pickT rfl (by first
    | rfl
    | exact decide_eq_true (by omega)) rfl
    | exact Pu.pickF rfl (by first
    | rfl
    | exact decide_eq_false (by omega)) rfl) rfl ?_
    | refine Sq.pu ok hm (by exact Want.yes rfl rfl rfl (by first
    | rfl
    | exact decide_eq_false (by omega))) (by first
    | exact Pu.move rfl
    | exact Pu.gtrI rfl rfl) rfl ?_
    | refine Sq.skip ok hm (by exact Want.no rfl rfl rfl (by first
    | rfl
    | exact decide_eq_true (by omega))) rfl ?_
    | refine Sq.finH (n := 8) ok hm (by repeat (first
    | exact Keep.nil
    | apply Keep.drop rfl
    | apply Keep.keep rfl)) ?_
    | refine Ex.condT ok hm rfl (by rfl) ?_
    | refine Ex.condF ok hm rfl (by rfl) ?_
    | refine Ex.ret ok hm ?_))
      exact ⟨_, .tmp rfl .nil, rfl, WPost.same h hq⟩
    · (repeat (first
    | refine Ex.seq ok hm ?_
    | refine Ex.block ok hm ?_
    | refine Ex.region ok hm ?_
    | refine Sq.pu ok hm Want.none (by first
    | exact Pu.move rfl
    | exact Pu.assign rfl
    | exact Pu.lssI rfl rfl
    | exact Pu.gtrI rfl rfl
    | exact Pu.eqlP hT rfl rfl rfl
    | exact Pu.pickF rfl (by first
    | rfl
    | exact decide_eq_false (by omega)) rfl) rfl ?_
    | refine Sq.pu ok hm (by exact Want.yes rfl rfl rfl (by first
    | rfl
    | exact decide_eq_false (by omega))) (by first
    | exact Pu.move rfl
    | exact Pu.gtrI rfl rfl) rfl ?_
    | refine Sq.finH (n := 8) ok hm (by repeat (first
    | exact Keep.nil
    | apply Keep.drop rfl
    | apply Keep.keep rfl)) ?_
    | refine Ex.condF ok hm rfl (by rfl) ?_))
      refine Sq.call ok (by exact Want.yes rfl rfl rfl (by exact decide_eq_false (by omega))) (Op1.call rfl rfl fn36) rfl (FnC.mono (fits_ok (by omega) (by omega)) ?_)
      rintro r M' ⟨rfl, rfl⟩
      by_cases h3 : 64 ≤ n ∨ (v : Int) / 2 ^ n.toNat = 0
      · have h3' : ¬ (n < 0 ∨ 64 < n ∨ (n < 64 ∧ v / 2 ^ n.toNat ≠ 0)) := by
          rintro (k | k | ⟨k1, k2⟩)
          · omega
          · omega
          · rcases h3 with k | k
            · omega
            · exact k2 ((cast_div v n.toNat).1 k)
        by_cases h4 : 134217728 - (l.length : Int) < n
        · have e : putE l v n = (3, l) := by unfold putE; rw [if_neg h3', if_pos h4]
          rw [e]
          rw [decide_eq_true h3]
          (repeat (first
    | refine Ex.seq ok hm ?_
    | refine Ex.region ok hm ?_
    | refine Sq.pu ok hm Want.none (by first
    | exact Pu.move rfl
    | exact Pu.assign rfl
    | exact Pu.nilCheck rfl
    | exact Pu.fieldAddr hT rfl rfl rfl rfl rfl
    | (apply Pu.load hT rfl rfl rfl; (focus ((repeat (assumption)))); (focus rfl))
    | exact Pu.sub rfl rfl (by simp only [InR]; omega)
    | exact Pu.gtrI rfl rfl
    | exact Pu.not rfl
    | exact Pu.pickF rfl (by first
    | rfl
    | exact decide_eq_false (by omega)) rfl) rfl ?_
    | refine Sq.pu ok hm (by exact Want.yes rfl rfl rfl (by first
    | rfl
    | exact decide_eq_false (by omega))) (by exact Pu.not rfl) rfl ?_
    | refine Sq.finH (n := 8) ok hm (by repeat (first
    | exact Keep.nil
    | apply Keep.drop rfl
    | apply Keep.keep rfl)) ?_
    | refine Ex.condT ok hm rfl (by first
    | rfl
    | exact decide_eq_true (by omega)) ?_
    | refine Ex.condF ok hm rfl (by rfl) ?_
    | refine Ex.ret ok hm ?_))
          exact ⟨_, .tmp rfl .nil, rfl, WPost.same h hq⟩
        · have e : putE l v n = (0, l ++ ofN v n.toNat) := by unfold putE; rw [if_neg h3', if_neg h4]
          rw [e]
          rw [decide_eq_true h3]
          (repeat (first
    | refine Ex.seq ok hm ?_
    | refine Ex.skip ok hm ?_
    | refine Ex.region ok hm ?_
    | refine Sq.pu ok hm Want.none (by first
    | exact Pu.move rfl
    | exact Pu.assign rfl
    | exact Pu.nilCheck rfl
    | exact Pu.fieldAddr hT rfl rfl rfl rfl rfl
    | (apply Pu.load hT rfl rfl rfl; (focus ((repeat (assumption)))); (focus rfl))
    | exact Pu.sub rfl rfl (by simp only [InR]; omega)
    | exact Pu.gtrI rfl rfl
    | exact Pu.not rfl
    | exact Pu.pickF rfl (by first
    | rfl
    | exact decide_eq_false (by omega)) rfl) rfl ?_
    | refine Sq.pu ok hm (by first
    | exact Want.none
    | exact Want.yes rfl rfl rfl (by first
    | rfl
    | exact decide_eq_false (by omega))) (by exact Pu.not rfl) rfl ?_
    | refine Sq.finH (n := 8) ok hm (by repeat (first
    | exact Keep.nil
    | apply Keep.drop rfl
    | apply Keep.keep rfl)) ?_
    | refine Ex.condF ok hm rfl (by first
    | rfl
    | exact decide_eq_false (by omega)) ?_))
          have hn2 : (.int .i64 n : Value) = .int .i64 (n.toNat : Int) := by rw [show ((n.toNat : Nat) : Int) = n by omega]
          refine Sq.call ok Want.none (Op1.call rfl rfl fn37) rfl ?_
          show FnC Try.prog tables ro 37 [.pointer (some ⟨p, 0, none⟩), .int .u64 v, .int .i64 n] _ _
          rw [hn2]
          refine FnC.mono (put_ok hp hq h hv (by omega) (by omega)) ?_
          rintro r M' hpost
          (repeat (first
    | refine Ex.seq ok hm ?_
    | refine Ex.region ok hm ?_
    | refine Sq.pu ok hm Want.none (by exact Pu.assign rfl) rfl ?_
    | refine Sq.finH (n := 8) ok hm (by repeat (first
    | exact Keep.nil
    | apply Keep.drop rfl
    | apply Keep.keep rfl)) ?_
    | refine Ex.ret ok hm ?_))
          exact ⟨_, .tmp rfl .nil, rfl, hpost⟩
      · have h3' : n < 0 ∨ 64 < n ∨ (n < 64 ∧ v / 2 ^ n.toNat ≠ 0) := by
          refine .inr (.inr ⟨by omega, fun k => h3 (.inr ((cast_div v n.toNat).2 k))⟩)
        have e : putE l v n = (1, l) := by unfold putE; rw [if_pos h3']
        rw [e]
        rw [decide_eq_false h3]
        (repeat (first
    | refine Ex.seq ok hm ?_
    | refine Ex.region ok hm ?_
    | refine Sq.pu ok hm Want.none (by first
    | exact Pu.assign rfl
    | exact Pu.not rfl
    | exact Pu.pickF rfl (by first
    | rfl
    | exact decide_eq_false (by omega)) rfl) rfl ?_
    | refine Sq.pu ok hm (by exact Want.yes rfl rfl rfl (by first
    | rfl
    | exact decide_eq_false (by omega))) (by exact Pu.not rfl) rfl ?_
    | refine Sq.finH (n := 8) ok hm (by repeat (first
    | exact Keep.nil
    | apply Keep.drop rfl
    | apply Keep.keep rfl)) ?_
    | refine Ex.condT ok hm rfl (by rfl) ?_
    | refine Ex.ret ok hm ?_))
        exact ⟨_, .tmp rfl .nil, rfl, WPost.same h hq⟩

theorem ofN_bool (b : Bool) : ofN b.toNat 1 = [b] := by cases b <;> rfl

set_option maxHeartbeats 4000000 in
theorem Bit_ok {ro : Nat} {M : AM} {p q : Nat} {l : List Bool} {b : Bool} (hp : ro ≤ p) (hq : ro ≤ q) (h : WrAt M p q l) (hl : l.length ≤ 134217728) :
    FnC Try.prog tables ro 17 [.pointer (some ⟨p, 0, none⟩), .bool b] M (fun r M' => r = .int .i64 (if 134217728 ≤ l.length then 3 else 0) ∧ WPost ro M M' p q (if 134217728 ≤ l.length then l else l ++ [b])) := by
  refine FnC.body (nt := 17) ok hm fn17 rfl rfl ?_
  have hrow := h.row
  by_cases h1 : 134217728 ≤ l.length
  · rw [if_pos h1, if_pos h1]
    (repeat (first
    | refine Ex.seq ok hm ?_
    | refine Ex.skip ok hm ?_
    | refine Ex.region ok hm ?_
    | refine Sq.pu ok hm Want.none (by first
    | exact Pu.move rfl
    | exact Pu.assign rfl
    | exact Pu.nilCheck rfl
    | exact Pu.fieldAddr hT rfl rfl rfl rfl rfl
    | (apply Pu.load hT rfl rfl rfl; (focus ((repeat (assumption)))); (focus rfl))
    | exact Pu.geqI rfl rfl
    | exact Pu.eqlP hT rfl rfl rfl) rfl ?_
    | refine Sq.finH (n := 5) ok hm (by repeat (first
    | exact Keep.nil
    | apply Keep.drop rfl
    | apply Keep.keep rfl)) ?_
    | refine Ex.condT ok hm rfl (by first
    | rfl
    | exact decide_eq_true (by omega)) ?_
    | refine Ex.condF ok hm rfl (by rfl) ?_
    | refine Ex.ret ok hm ?_))
    exact ⟨_, .tmp rfl .nil, rfl, WPost.same h hq⟩
  · rw [if_neg h1, if_neg h1]
    have hb := ofN_bool b
    cases b with
    | true =>
      (repeat (first
    | refine Ex.seq ok hm ?_
    | refine Ex.skip ok hm ?_
    | refine Ex.region ok hm ?_
    | refine Sq.pu ok hm Want.none (by first
    | exact Pu.move rfl
    | exact Pu.assign rfl
    | exact Pu.nilCheck rfl
    | exact Pu.fieldAddr hT rfl rfl rfl rfl rfl
    | (apply Pu.load hT rfl rfl rfl; (focus ((repeat (assumption)))); (focus rfl))
    | exact Pu.geqI rfl rfl
    | exact Pu.eqlP hT rfl rfl rfl) rfl ?_
    | refine Sq.finH (n := 5) ok hm (by repeat (first
    | exact Keep.nil
    | apply Keep.drop rfl
    | apply Keep.keep rfl)) ?_
    | refine Ex.condT ok hm rfl (by rfl) ?_
    | refine Ex.condF ok hm rfl (by first
    | rfl
    | exact decide_eq_false (by omega)) ?_))
      refine Sq.call ok Want.none (Op1.call rfl rfl fn37) rfl (FnC.mono (put_ok (v := 1) (n := 1) hp hq h (by decide) (by decide) (by omega)) ?_)
      rintro r M' hpost
      (repeat (first
    | refine Ex.seq ok hm ?_
    | refine Ex.region ok hm ?_
    | refine Sq.pu ok hm Want.none (by exact Pu.assign rfl) rfl ?_
    | refine Sq.finH (n := 5) ok hm (by repeat (first
    | exact Keep.nil
    | apply Keep.drop rfl
    | apply Keep.keep rfl)) ?_
    | refine Ex.ret ok hm ?_))
      exact ⟨_, .tmp rfl .nil, rfl, hpost⟩
    | false =>
      (repeat (first
    | refine Ex.seq ok hm ?_
    | refine Ex.skip ok hm ?_
    | refine Ex.region ok hm ?_
    | refine Sq.pu ok hm Want.none (by first
    | exact Pu.move rfl
    | exact Pu.assign rfl
    | exact Pu.nilCheck rfl
    | exact Pu.fieldAddr hT rfl rfl rfl rfl rfl
    | (apply Pu.load hT rfl rfl rfl; (focus ((repeat (assumption)))); (focus rfl))
    | exact Pu.geqI rfl rfl
    | exact Pu.eqlP hT rfl rfl rfl) rfl ?_
    | refine Sq.finH (n := 5) ok hm (by repeat (first
    | exact Keep.nil
    | apply Keep.drop rfl
    | apply Keep.keep rfl)) ?_
    | refine Ex.condF ok hm rfl (by first
    | rfl
    | exact decide_eq_false (by omega)) ?_))
      refine Sq.call ok Want.none (Op1.call rfl rfl fn37) rfl (FnC.mono (put_ok (v := 0) (n := 1) hp hq h (by decide) (by decide) (by omega)) ?_)
      rintro r M' hpost
      (repeat (first
    | refine Ex.seq ok hm ?_
    | refine Ex.region ok hm ?_
    | refine Sq.pu ok hm Want.none (by exact Pu.assign rfl) rfl ?_
    | refine Sq.finH (n := 5) ok hm (by repeat (first
    | exact Keep.nil
    | apply Keep.drop rfl
    | apply Keep.keep rfl)) ?_
    | refine Ex.ret ok hm ?_))
      exact ⟨_, .tmp rfl .nil, rfl, hpost⟩
end Go.Proofs.Ytlhfolmhgghjcaa
namespace Go.Proofs.Ytlhfolmhgghjcaa
open Go.Wvm Bits
set_option linter.unusedVariables false
set_option linter.unusedSimpArgs false

structure RwAt (M : AM) (r c : Nat) (l : List Bool) : Prop where
  row : M.get r = some (.row [bufV c l.length] 0 (some (74, 0)))
  buf : l ≠ [] → M.get c = some (.row (l.map Value.bool) 1 (some (4, 0)))
  ne : r ≠ c
def RPost (ro : Nat) (M M' : AM) (r c : Nat) (l' : List Bool) : Prop := ∃ c', RwAt M' r c' l' ∧ Fr M M' [r, c] ∧ (c' = c ∨ M.next ≤ c') ∧ ro ≤ c'
theorem RPost.same {ro : Nat} {M : AM} {p q : Nat} {l : List Bool} (h : RwAt M p q l) (hq : ro ≤ q) : RPost ro M M p q l := ⟨q, h, Fr.refl _ _, .inl rfl, hq⟩

theorem bit_eq (v i : Nat) : decide (((((v : Int) / 2 ^ i).toNat &&& (1 : Int).toNat : Nat) : Int) = 1) = v.testBit i := by
  have : (v : Int) / 2 ^ i = ((v / 2 ^ i : Nat) : Int) := by simp
  rw [this, Int.toNat_natCast, Nat.testBit_eq_decide_div_mod_eq]
  show decide (((v / 2 ^ i &&& 1 : Nat) : Int) = 1) = _
  rw [Nat.and_one_is_mod, Bool.eq_iff_iff, decide_eq_true_eq, decide_eq_true_eq]
  omega
theorem div_bd (v e : Nat) : 0 ≤ (v : Int) / 2 ^ e ∧ (v : Int) / 2 ^ e ≤ v := by
  have h : (v : Int) / 2 ^ e = ((v / 2 ^ e : Nat) : Int) := by simp
  rw [h]
  exact ⟨Int.natCast_nonneg _, by exact_mod_cast Nat.div_le_self v (2 ^ e)⟩
theorem bools_one (l : List Bool) : oneCells (l.map Value.bool) = true := by
  induction l with
  | nil => rfl
  | cons b l ih => simpa [oneCells] using ih

set_option maxHeartbeats 4000000 in
theorem Of_ok {ro : Nat} {M : AM} {v n : Nat} (hv : v < 2 ^ 64) (hn : n ≤ 64) :
    FnC Try.prog tables ro 58 [.int .u64 v, .int .i64 n] M (fun r M' => ∃ c, r = bufV c n ∧ (n ≠ 0 → M'.get c = some (.row ((ofN v n).map Value.bool) 1 (some (4, 0)))) ∧ Fr M M' [] ∧ M.next ≤ c) := by
  refine FnC.facts fun hlt0 hron0 => ?_
  refine FnC.body (nt := 22) ok hm fn58 rfl rfl ?_
  (repeat (first
    | refine Ex.seq ok hm ?_
    | refine Ex.block ok hm ?_
    | refine Ex.region ok hm ?_
    | refine Sq.pu ok hm Want.none (by first
    | exact Pu.move rfl
    | exact Pu.assign rfl
    | exact Pu.sub rfl rfl (by simp only [InR]; omega)) rfl ?_
    | refine Sq.finH (n := 7) ok hm (by repeat (first
    | exact Keep.nil
    | apply Keep.drop rfl
    | apply Keep.keep rfl)) ?_))
  refine Ex.loop ?_
  refine Lp.inv ok hm (α := Nat × Nat)
    (fun x E M' => E = [(5, bufV x.2 x.1), (6, .int .i64 ((n : Int) - 1 - x.1)), (0, .int .u64 v), (1, .int .i64 n)] ∧ x.1 ≤ n ∧ (x.1 ≠ 0 → M'.get x.2 = some (.row ((ofN (v / 2 ^ (n - x.1)) x.1).map Value.bool) 1 (some (4, 0)))) ∧ Fr M M' [] ∧ M.next ≤ x.2)
    (fun x => n - x.1) ?_ (0, M.next) [(5, bufV M.next 0), (6, .int .i64 ((n : Int) - 1 - (0 : Nat))), (0, .int .u64 v), (1, .int .i64 n)] ⟨rfl, by rw [show (n : Int) - 1 - (0 : Nat) = n - 1 by omega]; rfl, rfl, rfl, trivial⟩ ⟨rfl, Nat.zero_le _, fun h => absurd rfl h, Fr.refl _ _, Nat.le_refl _⟩
  intro ⟨k, c⟩ E M1 ⟨hE, hk, hb, hF, hc⟩
  simp only at hE hk hb hc
  subst hE
  refine Ex.facts fun hlt hron => ?_
  by_cases hkn : k = n
  · subst hkn
    (repeat (first
    | refine Ex.seq ok hm ?_
    | refine Ex.region ok hm ?_
    | refine Sq.pu ok hm Want.none (by first
    | exact Pu.move rfl
    | exact Pu.assign rfl
    | exact Pu.geqI rfl rfl) rfl ?_
    | refine Sq.finH (n := 7) ok hm (by repeat (first
    | exact Keep.nil
    | apply Keep.drop rfl
    | apply Keep.keep rfl)) ?_
    | refine Ex.condF ok hm rfl (by first
    | rfl
    | exact decide_eq_false (by omega)) ?_
    | refine Ex.ret ok hm ?_
    | refine Ex.exit ok hm ?_))
    refine ⟨_, .tmp rfl .nil, c, rfl, fun h => ?_, hF, hc⟩
    have := hb h
    rw [Nat.sub_self, Nat.pow_zero, Nat.div_one] at this
    exact this
  · have hcl : k ≠ 0 → c < M1.next := fun h => hlt _ _ (hb h)
    have hlen : ((ofN (v / 2 ^ (n - k)) k).map Value.bool).length = k := by rw [List.length_map, ofN_length]
    have hnx := hF.next
    have hd := div_bd v ((n : Int) - 1 - k).toNat
    (repeat (first
    | refine Ex.seq ok hm ?_
    | refine Ex.block ok hm ?_
    | refine Ex.skip ok hm ?_
    | refine Ex.region ok hm ?_
    | refine Sq.pu ok hm Want.none (by first
    | exact Pu.move rfl
    | exact Pu.geqI rfl rfl
    | exact Pu.eqlI rfl rfl
    | exact Pu.shr rfl rfl (by omega) (by omega) (by simp only [InR]; omega)
    | exact Pu.and rfl rfl (by omega) (by omega) (by simp only [InR]; omega) (by simp only [InR]; omega)) rfl ?_
    | refine Sq.op ok hm Want.none (Op1.buildSlice hT rfl rfl rfl rfl rfl rfl rfl) rfl ?_
    | refine Sq.finH (n := 7) ok hm (by repeat (first
    | exact Keep.nil
    | apply Keep.drop rfl
    | apply Keep.keep rfl)) ?_
    | refine Ex.condT ok hm rfl (by first
    | rfl
    | exact decide_eq_true (by omega)) ?_))
    have hbit := bit_eq v (n - 1 - k)
    rw [show ((n : Int) - 1 - k).toNat = n - 1 - k by omega, hbit]
    (repeat (fail))
    refine Sq.op ok hm Want.none (Op1.appendBuf hT rfl rfl (fun h => (AM.add_ne (by have := hcl h; omega)).trans (hb h)) hlen (fun h => by omega) rfl rfl rfl rfl rfl (Src.slice (n := 1) (by (repeat (exact AM.add_same))) (Nat.le_of_ble_eq_true rfl)) (by decide) (by omega) rfl rfl rfl) rfl ?_
    (repeat (first
    | refine Ex.region ok hm ?_
    | refine Sq.pu ok hm Want.none (by first
    | exact Pu.move rfl
    | exact Pu.assign rfl
    | exact Pu.sub rfl rfl (by simp only [InR]; omega)) rfl ?_
    | refine Sq.finH (n := 7) ok hm (by repeat (first
    | exact Keep.nil
    | apply Keep.drop rfl
    | apply Keep.keep rfl)) ?_))
    refine ⟨(k + 1, M1.next + 1), [(5, bufV (M1.next + 1) (k + 1)), (6, .int .i64 ((n : Int) - 1 - k - 1)), (0, .int .u64 v), (1, .int .i64 n)], by simp only; omega, ⟨rfl, rfl, rfl, rfl, trivial⟩, ?_, by simp only; omega, fun _ => ?_, ?_, ?_⟩
    · simp only
      rw [show (n : Int) - 1 - ((k + 1 : Nat) : Int) = (n : Int) - 1 - k - 1 by omega]
    · simp only
      refine AM.add_same.trans ?_
      have e : ofN (v / 2 ^ (n - (k + 1))) (k + 1) = ofN (v / 2 ^ (n - k)) k ++ [v.testBit (n - 1 - k)] := by
        rw [ofN_split _ (k + 1) k (by omega), show k + 1 - k = 1 by omega, Nat.div_div_eq_div_mul, ← Nat.pow_add, show n - (k + 1) + 1 = n - k by omega]
        rw [show ofN (v / 2 ^ (n - (k + 1))) 1 = [(v / 2 ^ (n - (k + 1))).testBit 0] from rfl, Nat.testBit_div_two_pow]
        congr 2
        congr 1; omega
      rw [e, List.map_append]; rfl
    · exact (((hF.add' _).rm' (.inr hc)).add' _)
    · simp only; omega

theorem Fits_ok {ro : Nat} {M : AM} {v n : Int} (hv : 0 ≤ v ∧ v < 18446744073709551616) (hn : 0 ≤ n ∧ n ≤ 64) :
    FnC Try.prog tables ro 57 [.int .u64 v, .int .i64 n] M (fun r M' => r = .bool (decide (64 ≤ n ∨ v / 2 ^ n.toNat = 0)) ∧ M' = M) := by
  refine FnC.body (nt := 13) ok hm fn57 rfl rfl ?_
  by_cases h : n = 64
  · (repeat (first
    | refine Ex.seq ok hm ?_
    | refine Ex.region ok hm ?_
    | refine Sq.pu ok hm Want.none (by first
    | exact Pu.move rfl
    | exact Pu.assign rfl
    | exact Pu.eqlI rfl rfl
    | exact Pu.pickT rfl (by first
    | rfl
    | exact decide_eq_true (by omega)) rfl) rfl ?_
    | refine Sq.skip ok hm (by exact Want.no rfl rfl rfl (by first
    | rfl
    | exact decide_eq_true (by omega))) rfl ?_
    | refine Sq.finH (n := 5) ok hm (by repeat (first
    | exact Keep.nil
    | apply Keep.drop rfl
    | apply Keep.keep rfl)) ?_
    | refine Ex.ret ok hm ?_))
    exact ⟨_, .tmp rfl .nil, by simp [valOf, h], rfl⟩
  · (repeat (first
    | refine Ex.seq ok hm ?_
    | refine Ex.region ok hm ?_
    | refine Sq.pu ok hm Want.none (by first
    | exact Pu.move rfl
    | exact Pu.assign rfl
    | exact Pu.eqlI rfl rfl
    | exact Pu.pickF rfl (by first
    | rfl
    | exact decide_eq_false (by omega)) rfl
    | exact Pu.shr rfl rfl (by omega) (by omega) (by simp only [InR]; omega)) rfl ?_
    | refine Sq.pu ok hm (by exact Want.yes rfl rfl rfl (by first
    | rfl
    | exact decide_eq_false (by omega))) (by first
    | exact Pu.move rfl
    | exact Pu.eqlI rfl rfl
    | exact Pu.shr rfl rfl (by omega) (by omega) (by simp only [InR]; omega)) rfl ?_
    | refine Sq.finH (n := 5) ok hm (by repeat (first
    | exact Keep.nil
    | apply Keep.drop rfl
    | apply Keep.keep rfl)) ?_
    | refine Ex.ret ok hm ?_))
    refine ⟨_, .tmp rfl .nil, ?_, rfl⟩
    simp only [valOf, Value.bool.injEq]
    rw [Bool.eq_iff_iff, decide_eq_true_eq, decide_eq_true_eq]
    exact ⟨.inr, fun k => k.resolve_left (by omega)⟩

end Go.Proofs.Ytlhfolmhgghjcaa
namespace Go.Proofs.Ytlhfolmhgghjcaa
open Go.Wvm Bits
set_option linter.unusedVariables false
set_option linter.unusedSimpArgs false

theorem veqB_buf (q n : Nat) : veqB (bufV q n) (bufV q n) = true := by
  by_cases h : n = 0
  · subst h; exact veqB_slice0 0 0
  · rw [bufV_pos q n h]; exact veqB_slice _ _ _ _ (by omega)

theorem cells_buf (q n : Nat) : Nat.beq (cellsL (bufV q n)).length 1 = true := by unfold bufV; split <;> rfl
theorem cells_bufl (q n : Nat) {x : Value} : 0 + (cellsL (bufV q n)).length ≤ [x].length := by unfold bufV; split <;> exact Nat.le_refl _
theorem one_buf (q n : Nat) : oneCells (cellsL (bufV q n)) = true := by unfold bufV; split <;> rfl
theorem set_buf (q n : Nat) (x : Value) : setAt [x] 0 (cellsL (bufV q n)) = [bufV q n] := by unfold bufV; split <;> rfl

set_option maxHeartbeats 4000000 in
theorem rPut_ok {ro : Nat} {M : AM} {p q : Nat} {l : List Bool} {v : Nat} {n : Int} (hp : ro ≤ p) (hq : ro ≤ q) (h : RwAt M p q l) (hv : v < 2 ^ 64) (hn : InR .i64 n) (hl : l.length + 64 ≤ 134217728) :
    FnC Try.prog tables ro 32 [.pointer (some ⟨p, 0, none⟩), .int .u64 v, .int .i64 n] M (fun r M' => r = .int .i64 (putE l v n).1 ∧ RPost ro M M' p q (putE l v n).2) := by
  refine FnC.facts fun hlt hron => ?_
  refine FnC.body (nt := 38) ok hm fn32 rfl rfl ?_
  have hrow := h.row
  have hpl := hlt _ _ hrow
  have hne := h.ne
  have hql : l ≠ [] → q < M.next := fun e => hlt _ _ (h.buf e)
  simp only [InR] at hn
  by_cases h1 : n < 0
  · have e : putE l v n = (1, l) := by unfold putE; rw [if_pos (.inl h1)]
    rw [e]
    (repeat (first
    | refine Ex.seq ok hm ?_
    | refine Ex.region ok hm ?_
    | refine Sq.pu ok hm Want.none (by first
    | exact Pu.move rfl
    | exact Pu.assign rfl
    | exact Pu.lssI rfl rfl
    | exact Pu.pickT rfl (by first
    | rfl
    | exact decide_eq_true (by omega)) rfl) rfl ?_
    | refine Sq.skip ok hm (by exact Want.no rfl rfl rfl (by first
    | rfl
    | exact decide_eq_true (by omega))) rfl ?_
    | refine Sq.finH (n := 7) ok hm (by repeat (first
    | exact Keep.nil
    | apply Keep.drop rfl
    | apply Keep.keep rfl)) ?_
    | refine Ex.condT ok hm rfl (by rfl) ?_
    | refine Ex.ret ok hm ?_))
    exact ⟨_, .tmp rfl .nil, rfl, RPost.same h hq⟩
  · by_cases h2 : 64 < n
    · have e : putE l v n = (1, l) := by unfold putE; rw [if_pos (.inr (.inl h2))]
      rw [e]
      (repeat (first
    | refine Ex.seq ok hm ?_
    | refine Ex.region ok hm ?_
    | refine Sq.pu ok hm Want.none (by first
    | exact Pu.move rfl
    | exact Pu.assign rfl
    | exact Pu.lssI rfl rfl
    | exact Pu.gtrI rfl rfl
    | exact Pu.pickT rfl (by first
    | rfl
    | exact decide_eq_true (by omega)) rfl
    | exact Pu.pickF rfl (by first
    | rfl
    | exact decide_eq_false (by omega)) rfl) rfl ?_
    | refine Sq.pu ok hm (by exact Want.yes rfl rfl rfl (by first
    | rfl
    | exact decide_eq_false (by omega))) (by first
    | exact Pu.move rfl
    | exact Pu.gtrI rfl rfl) rfl ?_
    | refine Sq.skip ok hm (by exact Want.no rfl rfl rfl (by first
    | rfl
    | exact decide_eq_true (by omega))) rfl ?_
    | refine Sq.finH (n := 7) ok hm (by repeat (first
    | exact Keep.nil
    | apply Keep.drop rfl
    | apply Keep.keep rfl)) ?_
    | refine Ex.condT ok hm rfl (by rfl) ?_
    | refine Ex.ret ok hm ?_))
      exact ⟨_, .tmp rfl .nil, rfl, RPost.same h hq⟩
    · (repeat (first
    | refine Ex.seq ok hm ?_
    | refine Ex.region ok hm ?_
    | refine Sq.pu ok hm Want.none (by first
    | exact Pu.move rfl
    | exact Pu.assign rfl
    | exact Pu.lssI rfl rfl
    | exact Pu.gtrI rfl rfl
    | exact Pu.pickF rfl (by first
    | rfl
    | exact decide_eq_false (by omega)) rfl) rfl ?_
    | refine Sq.pu ok hm (by exact Want.yes rfl rfl rfl (by first
    | rfl
    | exact decide_eq_false (by omega))) (by first
    | exact Pu.move rfl
    | exact Pu.gtrI rfl rfl) rfl ?_
    | refine Sq.finH (n := 7) ok hm (by repeat (first
    | exact Keep.nil
    | apply Keep.keep rfl)) ?_))
      refine Sq.call ok (by exact Want.yes rfl rfl rfl (by exact decide_eq_false (by omega))) (Op1.call rfl rfl fn57) rfl (FnC.mono (Fits_ok (by omega) (by omega)) ?_)
      rintro r M' ⟨rfl, rfl⟩
      by_cases h3 : 64 ≤ n ∨ (v : Int) / 2 ^ n.toNat = 0
      · have h3' : ¬ (n < 0 ∨ 64 < n ∨ (n < 64 ∧ v / 2 ^ n.toNat ≠ 0)) := by
          rintro (k | k | ⟨k1, k2⟩)
          · omega
          · omega
          · rcases h3 with k | k
            · omega
            · exact k2 ((cast_div v n.toNat).1 k)
        have h4 : ¬ 134217728 - (l.length : Int) < n := by omega
        have e : putE l v n = (0, l ++ ofN v n.toNat) := by unfold putE; rw [if_neg h3', if_neg h4]
        rw [e]
        rw [decide_eq_true h3]
        (repeat (first
    | refine Ex.seq ok hm ?_
    | refine Ex.skip ok hm ?_
    | refine Ex.region ok hm ?_
    | refine Sq.pu ok hm Want.none (by first
    | exact Pu.move rfl
    | exact Pu.nilCheck rfl
    | exact Pu.fieldAddr hT rfl rfl rfl rfl rfl
    | (apply Pu.load hT rfl rfl rfl; (focus ((repeat (assumption)))); (focus rfl))
    | exact Pu.sub rfl rfl (by simp only [InR]; omega)
    | exact Pu.gtrI rfl rfl
    | exact Pu.not rfl
    | exact Pu.lenBuf hT rfl rfl
    | exact Pu.pickF rfl (by first
    | rfl
    | exact decide_eq_false (by omega)) rfl) rfl ?_
    | refine Sq.pu ok hm (by exact Want.yes rfl rfl rfl (by first
    | rfl
    | exact decide_eq_false (by omega))) (by exact Pu.not rfl) rfl ?_
    | refine Sq.finH (n := 7) ok hm (by repeat (first
    | exact Keep.nil
    | apply Keep.drop rfl
    | apply Keep.keep rfl)) ?_
    | refine Ex.condF ok hm rfl (by first
    | rfl
    | exact decide_eq_false (by omega)) ?_))
        refine Ex.held ok hm hT [(52, ⟨p, 0, none⟩, bufV q l.length)] 12 rfl (by kernel_rfl) (.cons rfl rfl hrow rfl (veqB_buf _ _) .nil) ?_
        ((refine Gq.pure (j := 0) (by kernel_rfl) rfl Want.none (fun N => (by exact Pu.move rfl)) rfl rfl ?_); (refine Gq.pure (j := 1) (by kernel_rfl) rfl Want.none (fun N => (by exact Pu.move rfl)) rfl rfl ?_); (refine Gq.pure (j := 2) (by kernel_rfl) rfl Want.none (fun N => (by exact Pu.nilCheck rfl)) rfl rfl ?_); (refine Gq.pure (j := 3) (by kernel_rfl) rfl Want.none (fun N => (by exact Pu.fieldAddr hT rfl rfl rfl rfl rfl)) rfl rfl ?_); (refine Gq.held (j := 4) (by kernel_rfl) rfl Want.none rfl (by exact List.Mem.head _) rfl ?_); (refine Gq.pure (j := 5) (by kernel_rfl) rfl Want.none (fun N => (by exact Pu.move rfl)) rfl rfl ?_); (refine Gq.pure (j := 6) (by kernel_rfl) rfl Want.none (fun N => (by exact Pu.move rfl)) rfl rfl ?_))
        have hn2 : (.int .i64 n : Value) = .int .i64 (n.toNat : Int) := by rw [show ((n.toNat : Nat) : Int) = n by omega]
        refine Gq.call (j := 7) hT (by kernel_rfl) rfl Want.none (Op1.call rfl rfl fn58) rfl ?_
        show FnC Try.prog tables ro 58 [.int .u64 v, .int .i64 n] _ _
        rw [hn2]
        refine FnC.mono (Of_ok hv (by omega)) ?_
        rintro r M2 ⟨c, rfl, hc, hF, hcn⟩
        have hrow2 : M2.get p = some (.row [bufV q l.length] 0 (some (74, 0))) := (hF.get p hpl (by simp)).trans hrow
        have hbuf2 : l ≠ [] → M2.get q = some (.row (l.map Value.bool) 1 (some (4, 0))) := fun e => (hF.get q (hql e) (by simp)).trans (h.buf e)
        refine ⟨.cons rfl rfl hrow2 rfl (veqB_buf _ _) .nil, ?_⟩
        have hnx := hF.next
        by_cases hz : n.toNat = 0
        · rw [hz]
          refine Gq.op (j := 8) hT (by kernel_rfl) rfl Want.none (Op1.appendBuf0 hT rfl rfl rfl rfl rfl rfl rfl Src.none) rfl (.cons rfl rfl hrow2 rfl (veqB_buf _ _) .nil) ?_
          ((refine Gq.pure (j := 9) (by kernel_rfl) rfl Want.none (fun N => (by exact Pu.nilCheck rfl)) rfl rfl ?_); (refine Gq.pure (j := 10) (by kernel_rfl) rfl Want.none (fun N => (by exact Pu.fieldAddr hT rfl rfl rfl rfl rfl)) rfl rfl ?_))
          refine Gq.lateA (j := 11) (by kernel_rfl) (by kernel_rfl) rfl Want.none (Op1.store hT rfl rfl rfl (cells_buf _ _) hrow2 hp (Nat.zero_le _) (cells_bufl _ _) (one_buf _ _)) ?_
          refine Gq.done (by kernel_rfl) ?_
          (repeat (first
    | refine Ex.seq ok hm ?_
    | refine Ex.region ok hm ?_
    | refine Sq.pu ok hm Want.none (by exact Pu.assign rfl) rfl ?_
    | refine Sq.finH (n := 7) ok hm (by repeat (first
    | exact Keep.nil
    | apply Keep.drop rfl
    | apply Keep.keep rfl)) ?_
    | refine Ex.ret ok hm ?_))
          refine ⟨_, .tmp rfl .nil, rfl, q, ⟨?_, fun k => ?_, hne⟩, ?_, .inl rfl, hq⟩
          · rw [ofN_zero, List.append_nil]
            exact AM.upd_same.trans (congrArg (fun x => some (AO.row x 0 (some (74, 0)))) (set_buf q l.length _))
          · rw [ofN_zero, List.append_nil] at k ⊢
            exact (AM.upd_ne (Ne.symm hne)).trans (hbuf2 k)
          · exact (hF.mono (by simp)).upd' _ (.inl (by simp))
        · refine Gq.op (j := 8) hT (by kernel_rfl) rfl Want.none (Op1.appendBuf (c := q) (m := l.length) hT rfl rfl (fun e => hbuf2 (fun k => e (by rw [k]; rfl))) (by simp) (fun _ => hq) rfl rfl rfl rfl rfl (Src.buf (fun _ => hc hz) (by simp [ofN_length])) (by omega) (by omega) (by simp [ofN_length]) rfl (bools_one _)) rfl
            (.cons rfl rfl ((AM.add_ne (by simp only [AM.next_rm]; omega)).trans ((AM.rm_ne hne).trans hrow2)) rfl (veqB_buf _ _) .nil) ?_
          ((refine Gq.pure (j := 9) (by kernel_rfl) rfl Want.none (fun N => (by exact Pu.nilCheck rfl)) rfl rfl ?_); (refine Gq.pure (j := 10) (by kernel_rfl) rfl Want.none (fun N => (by exact Pu.fieldAddr hT rfl rfl rfl rfl rfl)) rfl rfl ?_))
          refine Gq.lateA (j := 11) (by kernel_rfl) (by kernel_rfl) rfl Want.none (Op1.store hT rfl rfl rfl (cells_buf _ _) ((AM.add_ne (by simp only [AM.next_rm]; omega)).trans ((AM.rm_ne hne).trans hrow2)) hp (Nat.zero_le _) (cells_bufl _ _) (one_buf _ _)) ?_
          refine Gq.done (by kernel_rfl) ?_
          (repeat (first
    | refine Ex.seq ok hm ?_
    | refine Ex.region ok hm ?_
    | refine Sq.pu ok hm Want.none (by exact Pu.assign rfl) rfl ?_
    | refine Sq.finH (n := 7) ok hm (by repeat (first
    | exact Keep.nil
    | apply Keep.drop rfl
    | apply Keep.keep rfl)) ?_
    | refine Ex.ret ok hm ?_))
          refine ⟨_, .tmp rfl .nil, rfl, M2.next, ⟨?_, fun k => ?_, by omega⟩, ?_, .inr (by omega), by omega⟩
          · refine AM.upd_same.trans ((congrArg (fun x => some (AO.row x 0 (some (74, 0)))) (set_buf M2.next (l.length + n.toNat) _)).trans ?_)
            rw [List.length_append, ofN_length]
          · refine (AM.upd_ne (by omega)).trans (AM.add_same.trans ?_)
            rw [List.map_append]
          · exact (((hF.mono (by simp)).rm' (.inl (by simp))).add' _).upd' _ (.inl (by simp))
      · have h3' : n < 0 ∨ 64 < n ∨ (n < 64 ∧ v / 2 ^ n.toNat ≠ 0) := by
          refine .inr (.inr ⟨by omega, fun k => h3 (.inr ((cast_div v n.toNat).2 k))⟩)
        have e : putE l v n = (1, l) := by unfold putE; rw [if_pos h3']
        rw [e]
        rw [decide_eq_false h3]
        (repeat (first
    | refine Ex.seq ok hm ?_
    | refine Ex.region ok hm ?_
    | refine Sq.pu ok hm Want.none (by first
    | exact Pu.assign rfl
    | exact Pu.not rfl
    | exact Pu.pickF rfl (by first
    | rfl
    | exact decide_eq_false (by omega)) rfl) rfl ?_
    | refine Sq.pu ok hm (by exact Want.yes rfl rfl rfl (by first
    | rfl
    | exact decide_eq_false (by omega))) (by exact Pu.not rfl) rfl ?_
    | refine Sq.finH (n := 7) ok hm (by repeat (first
    | exact Keep.nil
    | apply Keep.drop rfl
    | apply Keep.keep rfl)) ?_
    | refine Ex.condT ok hm rfl (by rfl) ?_
    | refine Ex.ret ok hm ?_))
        exact ⟨_, .tmp rfl .nil, rfl, RPost.same h hq⟩
set_option maxHeartbeats 4000000 in
theorem Bits_ok {ro : Nat} {M : AM} {s : List UInt8} (hs : s.length ≤ 1048576) :
    FnC Try.prog tables ro 24 [.string ⟨⟨s⟩⟩] M (fun r M' => ∃ c, r = bufV c (8 * s.length) ∧ (8 * s.length ≠ 0 → M'.get c = some (.row ((Bits.bitsOf s).map Value.bool) 1 (some (4, 0)))) ∧ Fr M M' [] ∧ M.next ≤ c) := by
  refine FnC.facts fun hlt0 hron0 => ?_
  refine FnC.body (nt := 27) ok hm fn24 rfl rfl ?_
  (repeat (first
    | refine Ex.seq ok hm ?_
    | refine Ex.block ok hm ?_
    | refine Ex.region ok hm ?_
    | refine Sq.pu ok hm Want.none (by exact Pu.assign rfl) rfl ?_
    | refine Sq.finH (n := 6) ok hm (by repeat (first
    | exact Keep.nil
    | apply Keep.keep rfl)) ?_))
  refine Ex.loop ?_
  refine Lp.inv ok hm (α := Nat × Nat)
    (fun x E M' => E = [(3, bufV x.2 (8 * x.1)), (4, .int .i64 x.1), (0, .string ⟨⟨s⟩⟩)] ∧ x.1 ≤ s.length ∧ (8 * x.1 ≠ 0 → M'.get x.2 = some (.row (((Bits.bitsOf s).take (8 * x.1)).map Value.bool) 1 (some (4, 0)))) ∧ Fr M M' [] ∧ M.next ≤ x.2)
    (fun x => s.length - x.1) ?_ (0, M.next) [(3, bufV M.next (8 * 0)), (4, .int .i64 (0 : Nat)), (0, .string ⟨⟨s⟩⟩)] ⟨rfl, rfl, rfl, trivial⟩ ⟨rfl, Nat.zero_le _, fun h => absurd rfl h, Fr.refl _ _, Nat.le_refl _⟩
  intro ⟨i, c⟩ E M1 ⟨hE, hi, hb, hF, hc⟩
  simp only at hE hi hb hc
  subst hE
  by_cases hin : i = s.length
  · subst hin
    (repeat (first
    | refine Ex.seq ok hm ?_
    | refine Ex.region ok hm ?_
    | refine Sq.pu ok hm Want.none (by first
    | exact Pu.move rfl
    | exact Pu.assign rfl
    | exact Pu.lssI rfl rfl
    | exact Pu.lenS hT rfl rfl) rfl ?_
    | refine Sq.finH (n := 6) ok hm (by repeat (first
    | exact Keep.nil
    | apply Keep.drop rfl
    | apply Keep.keep rfl)) ?_
    | refine Ex.condF ok hm rfl (by first
    | rfl
    | exact decide_eq_false (by omega)) ?_
    | refine Ex.ret ok hm ?_
    | refine Ex.exit ok hm ?_))
    refine ⟨_, .tmp rfl .nil, c, rfl, fun h => ?_, hF, hc⟩
    have := hb h
    rw [List.take_of_length_le (by rw [Bits.bitsOf_length]; omega)] at this
    exact this
  · have hlt : i < s.length := by omega
    (repeat (first
    | refine Ex.seq ok hm ?_
    | refine Ex.block ok hm ?_
    | refine Ex.skip ok hm ?_
    | refine Ex.region ok hm ?_
    | refine Sq.pu ok hm Want.none (by first
    | exact Pu.move rfl
    | exact Pu.assign rfl
    | exact Pu.lssI rfl rfl
    | exact Pu.lenS hT rfl rfl) rfl ?_
    | refine Sq.finH (n := 6) ok hm (by repeat (first
    | exact Keep.nil
    | apply Keep.drop rfl
    | apply Keep.keep rfl)) ?_
    | refine Ex.condT ok hm rfl (by first
    | rfl
    | exact decide_eq_true (by omega)) ?_))
    refine Ex.loop ?_
    refine Lp.inv ok hm (α := Nat × Nat)
      (fun x E M' => E = [(5, .int .i64 (7 - (x.1 : Int))), (3, bufV x.2 (8 * i + x.1)), (4, .int .i64 i), (0, .string ⟨⟨s⟩⟩)] ∧ x.1 ≤ 8 ∧ (8 * i + x.1 ≠ 0 → M'.get x.2 = some (.row (((Bits.bitsOf s).take (8 * i + x.1)).map Value.bool) 1 (some (4, 0)))) ∧ Fr M M' [] ∧ M.next ≤ x.2)
      (fun x => 8 - x.1) ?_ (0, c) [(5, .int .i64 (7 - ((0 : Nat) : Int))), (3, bufV c (8 * i + 0)), (4, .int .i64 i), (0, .string ⟨⟨s⟩⟩)] ⟨rfl, rfl, rfl, rfl, trivial⟩ ⟨rfl, Nat.zero_le _, hb, hF, hc⟩
    intro ⟨k, c1⟩ E M2 ⟨hE, hk, hb1, hF1, hc1⟩
    simp only at hE hk hb1 hc1
    subst hE
    refine Ex.facts fun hlt2 hron2 => ?_
    by_cases hk8 : k = 8
    · subst hk8
      (repeat (first
    | refine Ex.seq ok hm ?_
    | refine Ex.region ok hm ?_
    | refine Sq.pu ok hm Want.none (by first
    | exact Pu.move rfl
    | exact Pu.assign rfl
    | exact Pu.add rfl rfl (by simp only [InR]; omega)
    | exact Pu.geqI rfl rfl) rfl ?_
    | refine Sq.finH (n := 6) ok hm (by repeat (first
    | exact Keep.nil
    | apply Keep.drop rfl
    | apply Keep.keep rfl)) ?_
    | refine Ex.condF ok hm rfl (by rfl) ?_
    | refine Ex.exit ok hm ?_))
      refine ⟨(i + 1, c1), [(3, bufV c1 (8 * i + 8)), (4, .int .i64 ((i : Int) + 1)), (0, .string ⟨⟨s⟩⟩)], by simp only; omega, ⟨rfl, rfl, rfl, trivial⟩, ?_, by simp only; omega, ?_, hF1, hc1⟩
      · simp only
        rw [show 8 * (i + 1) = 8 * i + 8 by omega, show ((i + 1 : Nat) : Int) = (i : Int) + 1 by omega]
      · simp only
        rw [show 8 * (i + 1) = 8 * i + 8 by omega]; exact hb1
    · have hcl : 8 * i + k ≠ 0 → c1 < M2.next := fun h => hlt2 _ _ (hb1 h)
      have hlen : (((Bits.bitsOf s).take (8 * i + k)).map Value.bool).length = 8 * i + k := by rw [List.length_map, List.length_take, Bits.bitsOf_length]; omega
      have hnx := hF1.next
      have hby : (s.getD i 0).toNat < 256 := (s.getD i 0).toNat_lt
      have hd := div_bd (s.getD i 0).toNat (7 - (k : Int)).toNat
      (repeat (first
    | refine Ex.seq ok hm ?_
    | refine Ex.block ok hm ?_
    | refine Ex.skip ok hm ?_
    | refine Ex.region ok hm ?_
    | refine Sq.pu ok hm Want.none (by first
    | exact Pu.move rfl
    | exact Pu.geqI rfl rfl
    | exact Pu.indexS hT rfl rfl rfl (by omega) (by omega)) rfl ?_
    | refine Sq.finH (n := 6) ok hm (by repeat (first
    | exact Keep.nil
    | apply Keep.drop rfl
    | apply Keep.keep rfl)) ?_
    | refine Ex.condT ok hm rfl (by first
    | rfl
    | exact decide_eq_true (by omega)) ?_))
      rw [Int.toNat_natCast]
      (repeat (first
    | refine Sq.pu ok hm Want.none (by first
    | exact Pu.eqlI rfl rfl
    | exact Pu.shr rfl rfl (by omega) (by omega) (by simp only [InR]; omega)
    | exact Pu.and rfl rfl (by omega) (by omega) (by simp only [InR]; omega) (by simp only [InR]; omega)) rfl ?_
    | refine Sq.op ok hm Want.none (Op1.buildSlice hT rfl rfl rfl rfl rfl rfl rfl) rfl ?_))
      have hbit := bit_eq (s.getD i 0).toNat (7 - k)
      rw [show (7 - (k : Int)).toNat = 7 - k by omega, hbit]
      (repeat (fail))
      refine Sq.op ok hm Want.none (Op1.appendBuf (c := c1) (m := 8 * i + k) hT rfl rfl (fun h => (AM.add_ne (by have := hcl h; omega)).trans (hb1 h)) hlen (fun h => by omega) rfl rfl rfl rfl rfl (Src.slice (n := 1) (by (repeat (exact AM.add_same))) (Nat.le_of_ble_eq_true rfl)) (by decide) (by omega) rfl rfl rfl) rfl ?_
      (repeat (first
    | refine Ex.region ok hm ?_
    | refine Sq.pu ok hm Want.none (by first
    | exact Pu.move rfl
    | exact Pu.assign rfl
    | exact Pu.sub rfl rfl (by simp only [InR]; omega)) rfl ?_
    | refine Sq.finH (n := 6) ok hm (by repeat (first
    | exact Keep.nil
    | apply Keep.drop rfl
    | apply Keep.keep rfl)) ?_))
      refine ⟨(k + 1, M2.next + 1), [(5, .int .i64 (7 - (k : Int) - 1)), (3, bufV (M2.next + 1) (8 * i + k + 1)), (4, .int .i64 i), (0, .string ⟨⟨s⟩⟩)], by simp only; omega, ⟨rfl, rfl, rfl, rfl, trivial⟩, ?_, by simp only; omega, fun _ => ?_, ?_, ?_⟩
      · simp only
        rw [show (7 : Int) - ((k + 1 : Nat) : Int) = 7 - (k : Int) - 1 by omega]; rfl
      · simp only
        refine AM.add_same.trans ?_
        have e : (Bits.bitsOf s).take (8 * i + (k + 1)) = (Bits.bitsOf s).take (8 * i + k) ++ [(s.getD i 0).toNat.testBit (7 - k)] := by
          rw [Bits.bitsOf_take_rest s i (k + 1) hlt (by omega), Bits.bitsOf_take_rest s i k hlt (by omega), List.append_assoc]
          congr 1
          rw [ofN_split _ (k + 1) k (by omega), show k + 1 - k = 1 by omega, Nat.div_div_eq_div_mul, ← Nat.pow_add, show 8 - (k + 1) + 1 = 8 - k by omega]
          rw [show ofN ((s.getD i 0).toNat / 2 ^ (8 - (k + 1))) 1 = [((s.getD i 0).toNat / 2 ^ (8 - (k + 1))).testBit 0] from rfl, Nat.testBit_div_two_pow]
          congr 2
          congr 1; omega
        rw [e, List.map_append]; rfl
      · exact (((hF1.add' _).rm' (.inr hc1)).add' _)
      · simp only; omega
end Go.Proofs.Ytlhfolmhgghjcaa
namespace Go.Proofs.Ytlhfolmhgghjcaa
open Go.Wvm Bits
set_option linter.unusedVariables false
set_option linter.unusedSimpArgs false

theorem sliceMid {M : AM} {t e : TypeId} {c m a b u : Nat} {l : List Value} {tt : Option (TypeId × Nat)} {s by' : Nat} {z : Option Value} {g : Bool} {ei : TyI}
    (ht : tyGet T t = some ⟨.slice e, s, by', z, g⟩) (he : tyGet T e = some ei) (hm : m ≠ 0 → M.get c = some (.row l u tt)) (hu : (Nat.beq u 0 || Nat.beq ei.size u) = true) (h0 : a ≤ b) (h1 : b ≤ m) :
    ∃ (b' : Option Addr) (cap' : Nat), (∀ (E : En) (x lo hi : Operand), evE E x = some (bufV c m) → evE E lo = some (.int .i64 (a : Int)) → evE E hi = some (.int .i64 (b : Int)) → Pu Try.prog tables E M (.slice t x (some lo) (some hi) none) (.slice b' (b - a) cap')) ∧ (b - a ≠ 0 → b' = some ⟨c, a * ei.size, none⟩) := by
  have hl' : ∀ (E : En) (lo : Operand), evE E lo = some (.int .i64 (a : Int)) → evOE E (some lo) = some (some (.int .i64 (a : Int))) := fun E lo hl => by simp only [evOE, hl]
  have hh' : ∀ (E : En) (lo : Operand), evE E lo = some (.int .i64 (b : Int)) → evOE E (some lo) = some (some (.int .i64 (b : Int))) := fun E lo hl => by simp only [evOE, hl]
  by_cases h2 : m = 0
  · subst h2
    refine ⟨none, 0 - a, fun E x lo hi hx hl hh => ?_, fun h => by omega⟩
    have hx' : evE E x = some (.slice none 0 0) := hx
    have := Pu.sliceN (P := Try.prog) (M := M) hT hx' (hl' _ _ hl) (hh' _ _ hh) ht he (bounds_lh (by omega) (by omega) (by omega))
    simp only [Int.toNat_natCast] at this
    exact this
  · by_cases h3 : a = m
    · have hb : bounds m m (some (.int .i64 (a : Int))) (some (.int .i64 (b : Int))) none = some (m, b, m) := by
        rw [bounds_lh (by omega) (by omega) (by omega), Int.toNat_natCast, Int.toNat_natCast, h3]
      refine ⟨some ⟨c, 0, none⟩, 0, fun E x lo hi hx hl hh => ?_, fun h => by omega⟩
      rw [bufV_pos c m h2] at hx
      have := Pu.sliceLE (P := Try.prog) (M := M) hT hx (hl' _ _ hl) (hh' _ _ hh) ht he hb (hm h2) hu
      have e : b - a = 0 := by omega
      rw [e]
      exact this
    · have hb : bounds m m (some (.int .i64 (a : Int))) (some (.int .i64 (b : Int))) none = some (a, b, m) := by
        rw [bounds_lh (by omega) (by omega) (by omega), Int.toNat_natCast, Int.toNat_natCast]
      refine ⟨some ⟨c, a * ei.size, none⟩, m - a, fun E x lo hi hx hl hh => ?_, fun _ => rfl⟩
      rw [bufV_pos c m h2] at hx
      have := Pu.sliceL (P := Try.prog) (M := M) hT hx (hl' _ _ hl) (hh' _ _ hh) ht he hb (hm h2) hu (by omega)
      rw [Nat.zero_add] at this
      exact this

set_option maxHeartbeats 4000000 in
theorem num_ok {ro : Nat} {M : AM} {c o n cap : Nat} {b : Option Addr} {L : List Bool} (hb : n ≠ 0 → b = some ⟨c, o, none⟩ ∧ M.get c = some (.row (L.map Value.bool) 1 (some (4, 0))) ∧ o + n ≤ L.length) (hn : n ≤ 64) :
    FnC Try.prog tables ro 35 [.slice b n cap] M (fun v M' => v = .int .u64 (valB ((L.drop o).take n) : Nat) ∧ M' = M) := by
  refine FnC.body (nt := 20) ok hm fn35 rfl rfl ?_
  (repeat (first
    | refine Ex.seq ok hm ?_
    | refine Ex.block ok hm ?_
    | refine Ex.region ok hm ?_
    | refine Sq.pu ok hm Want.none (by exact Pu.assign rfl) rfl ?_
    | refine Sq.finH (n := 5) ok hm (by repeat (first
    | exact Keep.nil
    | apply Keep.keep rfl)) ?_))
  refine Ex.loop ?_
  refine Lp.inv ok hm (α := Nat)
    (fun i E M' => E = [(3, .int .u64 (valB ((L.drop o).take i) : Nat)), (4, .int .i64 i), (0, .slice b n cap)] ∧ i ≤ n ∧ M' = M)
    (fun i => n - i) ?_ 0 [(3, .int .u64 (valB ((L.drop o).take 0) : Nat)), (4, .int .i64 (0 : Nat)), (0, .slice b n cap)] ⟨rfl, rfl, rfl, trivial⟩ ⟨rfl, Nat.zero_le _, rfl⟩
  intro i E M1 ⟨hE, hi, hM1⟩
  subst hE hM1
  by_cases hin : i = n
  · subst hin
    (repeat (first
    | refine Ex.seq ok hm ?_
    | refine Ex.region ok hm ?_
    | refine Sq.pu ok hm Want.none (by first
    | exact Pu.move rfl
    | exact Pu.assign rfl
    | exact Pu.lssI rfl rfl
    | exact Pu.lenL hT rfl rfl) rfl ?_
    | refine Sq.finH (n := 5) ok hm (by repeat (first
    | exact Keep.nil
    | apply Keep.drop rfl
    | apply Keep.keep rfl)) ?_
    | refine Ex.condF ok hm rfl (by first
    | rfl
    | exact decide_eq_false (by omega)) ?_
    | refine Ex.ret ok hm ?_
    | refine Ex.exit ok hm ?_))
    exact ⟨_, .tmp rfl .nil, rfl, rfl⟩
  · obtain ⟨hb1, hb2, hb3⟩ := hb (by omega)
    subst hb1
    have hlt : valB ((L.drop o).take i) < 2 ^ i := by
      have h := valB_lt ((L.drop o).take i)
      have h2 : ((L.drop o).take i).length ≤ i := by rw [List.length_take]; omega
      exact Nat.lt_of_lt_of_le h (Nat.pow_le_pow_right (by omega) h2)
    have hlt2 : (2 : Nat) ^ i ≤ 2 ^ 63 := Nat.pow_le_pow_right (by omega) (by omega)
    have hlt3 : (2 : Nat) ^ 63 = 9223372036854775808 := by decide
    have hsn : valB ((L.drop o).take (i + 1)) = 2 * valB ((L.drop o).take i) + (L.getD (o + i) false).toNat := by
      rw [take_snoc (L.drop o) i (by rw [List.length_drop]; omega), valB_append]
      have e1 : (L.drop o).getD i false = L.getD (o + i) false := by simp [List.getD_eq_getElem?_getD]
      rw [e1]
      have e2 : valB [L.getD (o + i) false] = (L.getD (o + i) false).toNat := by simp [valB]
      rw [e2]; simp; omega
    have hbl : (L.map Value.bool)[o + (i : Int).toNat * 1]? = some (.bool (L.getD (o + i) false)) := by
      rw [Int.toNat_natCast, Nat.mul_one]
      have : o + i < L.length := by omega
      simp [List.getD_eq_getElem?_getD, this]
    (repeat (first
    | refine Ex.seq ok hm ?_
    | refine Ex.block ok hm ?_
    | refine Ex.skip ok hm ?_
    | refine Ex.region ok hm ?_
    | refine Sq.pu ok hm Want.none (by first
    | exact Pu.move rfl
    | exact Pu.assign rfl
    | exact Pu.lssI rfl rfl
    | exact Pu.lenL hT rfl rfl
    | exact Pu.mul rfl rfl (by simp only [InR]; omega)
    | exact Pu.indexAddr hT rfl rfl rfl rfl (by omega) (by omega)) rfl ?_
    | refine Sq.finH (n := 5) ok hm (by repeat (first
    | exact Keep.nil
    | apply Keep.drop rfl
    | apply Keep.keep rfl)) ?_
    | refine Ex.condT ok hm rfl (by first
    | rfl
    | exact decide_eq_true (by omega)) ?_))
    refine Sq.pu ok hm Want.none (Pu.load hT rfl rfl rfl hb2 hbl) rfl ?_
    cases hbit : L.getD (o + i) false with
    | true =>
      rw [hbit] at hsn
      (repeat (first
    | refine Ex.region ok hm ?_
    | refine Sq.pu ok hm Want.none (by first
    | exact Pu.move rfl
    | exact Pu.assign rfl
    | exact Pu.add rfl rfl (by simp only [InR]; omega)) rfl ?_
    | refine Sq.finH (n := 5) ok hm (by repeat (first
    | exact Keep.nil
    | apply Keep.drop rfl
    | apply Keep.keep rfl)) ?_
    | refine Ex.condT ok hm rfl (by rfl) ?_))
      refine ⟨i + 1, [(3, .int .u64 (valB ((L.drop o).take (i + 1)) : Nat)), (4, .int .i64 ((i + 1 : Nat) : Int)), (0, .slice (some ⟨c, o, none⟩) n cap)], ?_, ⟨?_, rfl, rfl, trivial⟩, rfl, by omega, rfl⟩
      · show n - (i + 1) < n - i
        omega
      · rw [hsn]; simp [enGet]
    | false =>
      rw [hbit] at hsn
      (repeat (first
    | refine Ex.skip ok hm ?_
    | refine Ex.region ok hm ?_
    | refine Sq.pu ok hm Want.none (by first
    | exact Pu.move rfl
    | exact Pu.assign rfl
    | exact Pu.add rfl rfl (by simp only [InR]; omega)) rfl ?_
    | refine Sq.finH (n := 5) ok hm (by repeat (first
    | exact Keep.nil
    | apply Keep.drop rfl
    | apply Keep.keep rfl)) ?_
    | refine Ex.condF ok hm rfl (by rfl) ?_))
      refine ⟨i + 1, [(3, .int .u64 (valB ((L.drop o).take (i + 1)) : Nat)), (4, .int .i64 ((i + 1 : Nat) : Int)), (0, .slice (some ⟨c, o, none⟩) n cap)], ?_, ⟨?_, rfl, rfl, trivial⟩, rfl, by omega, rfl⟩
      · show n - (i + 1) < n - i
        omega
      · rw [hsn]; simp [enGet]

structure RqAt (M : AM) (q c : Nat) (s : List UInt8) (at' : Nat) : Prop where
  row : M.get q = some (.row [bufV c (8 * s.length), .int .i64 (at' : Int)] 0 (some (55, 0)))
  buf : 8 * s.length ≠ 0 → M.get c = some (.row ((bitsOf s).map Value.bool) 1 (some (4, 0)))
  ne : q ≠ c

set_option maxHeartbeats 4000000 in
theorem rTake_ok {ro : Nat} {M : AM} {q c at' : Nat} {n : Int} {s : List UInt8} (hr : ro ≤ q) (h : RqAt M q c s at') (hn : InR .i64 n) (hat : at' ≤ 8 * s.length) (hs : s.length ≤ 1152921504606846000) :
    FnC Try.prog tables ro 34 [.pointer (some ⟨q, 0, none⟩), .int .i64 n] M
      (fun v M' => v = .tuple ⟨[.int .u64 ((takeE s at' n).1 : Nat), .int .i64 (takeE s at' n).2.1]⟩ ∧ RqAt M' q c s (takeE s at' n).2.2 ∧ Fr M M' [q]) := by
  refine FnC.body (nt := 51) ok hm fn34 rfl rfl ?_
  have hrow := h.row
  simp only [InR] at hn
  by_cases h1 : n < 0
  · have e : takeE s at' n = (0, 1, at') := by unfold takeE; rw [if_pos (.inl h1)]
    rw [e]
    (repeat (first
    | refine Ex.seq ok hm ?_
    | refine Ex.region ok hm ?_
    | refine Sq.pu ok hm Want.none (by first
    | exact Pu.move rfl
    | exact Pu.assign rfl
    | exact Pu.lssI rfl rfl
    | exact Pu.pickT rfl (by first
    | rfl
    | exact decide_eq_true (by omega)) rfl) rfl ?_
    | refine Sq.skip ok hm (by exact Want.no rfl rfl rfl (by first
    | rfl
    | exact decide_eq_true (by omega))) rfl ?_
    | refine Sq.finH (n := 7) ok hm (by repeat (first
    | exact Keep.nil
    | apply Keep.drop rfl
    | apply Keep.keep rfl)) ?_
    | refine Ex.condT ok hm rfl (by rfl) ?_
    | refine Ex.ret ok hm ?_))
    exact ⟨_, .tmp rfl (.tmp rfl .nil), rfl, h, Fr.refl _ _⟩
  · by_cases h2 : 64 < n
    · have e : takeE s at' n = (0, 1, at') := by unfold takeE; rw [if_pos (.inr h2)]
      rw [e]
      (repeat (first
    | refine Ex.seq ok hm ?_
    | refine Ex.region ok hm ?_
    | refine Sq.pu ok hm Want.none (by first
    | exact Pu.move rfl
    | exact Pu.assign rfl
    | exact Pu.lssI rfl rfl
    | exact Pu.gtrI rfl rfl
    | exact Pu.pickF rfl (by first
    | rfl
    | exact decide_eq_false (by omega)) rfl) rfl ?_
    | refine Sq.pu ok hm (by exact Want.yes rfl rfl rfl (by first
    | rfl
    | exact decide_eq_false (by omega))) (by first
    | exact Pu.move rfl
    | exact Pu.gtrI rfl rfl) rfl ?_
    | refine Sq.finH (n := 7) ok hm (by repeat (first
    | exact Keep.nil
    | apply Keep.drop rfl
    | apply Keep.keep rfl)) ?_
    | refine Ex.condT ok hm rfl (by first
    | rfl
    | exact decide_eq_true (by omega)) ?_
    | refine Ex.ret ok hm ?_))
      exact ⟨_, .tmp rfl (.tmp rfl .nil), rfl, h, Fr.refl _ _⟩
    · (repeat (first
    | refine Ex.seq ok hm ?_
    | refine Ex.skip ok hm ?_
    | refine Ex.region ok hm ?_
    | refine Sq.pu ok hm Want.none (by first
    | exact Pu.move rfl
    | exact Pu.assign rfl
    | exact Pu.lssI rfl rfl
    | exact Pu.gtrI rfl rfl
    | exact Pu.pickF rfl (by first
    | rfl
    | exact decide_eq_false (by omega)) rfl) rfl ?_
    | refine Sq.pu ok hm (by exact Want.yes rfl rfl rfl (by first
    | rfl
    | exact decide_eq_false (by omega))) (by first
    | exact Pu.move rfl
    | exact Pu.gtrI rfl rfl) rfl ?_
    | refine Sq.finH (n := 7) ok hm (by repeat (first
    | exact Keep.nil
    | apply Keep.drop rfl
    | apply Keep.keep rfl)) ?_
    | refine Ex.condF ok hm rfl (by first
    | rfl
    | exact decide_eq_false (by omega)) ?_))
      refine Ex.draw ok hm 11 (by kernel_rfl) ?_
      by_cases h3 : 8 * (s.length : Int) - at' < n
      · have e : takeE s at' n = (0, 4, at') := by unfold takeE; rw [if_neg (by omega), if_pos h3]
        rw [e]
        (repeat (first
    | refine Ex.seq ok hm ?_
    | refine Ex.region ok hm ?_
    | refine Sq.pu ok hm Want.none (by exact Pu.assign rfl) rfl ?_
    | refine Sq.finH (n := 7) ok hm (by repeat (first
    | exact Keep.nil
    | apply Keep.drop rfl
    | apply Keep.keep rfl)) ?_
    | refine Hq.pu Want.none (by first
    | exact Pu.move rfl
    | exact Pu.nilCheck rfl
    | exact Pu.fieldAddr hT rfl rfl rfl rfl rfl
    | (apply Pu.load hT rfl rfl rfl; (focus ((repeat (assumption)))); (focus rfl))
    | exact Pu.sub rfl rfl (by simp only [InR]; omega)
    | exact Pu.lenBuf hT rfl rfl) rfl rfl rfl ?_
    | refine Hq.nil ?_
    | refine Tq.pu Want.none (by exact Pu.gtrI rfl rfl) rfl ?_
    | refine Tq.finH (n := 7)  (by repeat (first
    | exact Keep.nil
    | apply Keep.drop rfl
    | apply Keep.keep rfl)) ?_
    | refine Ex.condT ok hm rfl (by first
    | rfl
    | exact decide_eq_true (by omega)) ?_
    | refine Ex.ret ok hm ?_))
        exact ⟨_, .tmp rfl (.tmp rfl .nil), rfl, h, Fr.refl _ _⟩
      · have e : takeE s at' n = (valB (midT s at' n.toNat), 0, at' + n.toNat) := by unfold takeE; rw [if_neg (by omega), if_neg h3]
        rw [e]
        obtain ⟨m, rfl⟩ : ∃ m : Nat, n = m := ⟨n.toNat, by omega⟩
        rw [Int.toNat_natCast]
        have hbl := bitsOf_length s
        obtain ⟨b', cap', hsl, hb'⟩ := sliceMid (M := M) (t := 52) (m := 8 * s.length) (c := c) (a := at') (b := at' + m) rfl rfl h.buf rfl (by omega) (by omega)
        (repeat (first
    | refine Ex.seq ok hm ?_
    | refine Ex.skip ok hm ?_
    | refine Hq.pu Want.none (by first
    | exact Pu.move rfl
    | exact Pu.nilCheck rfl
    | exact Pu.fieldAddr hT rfl rfl rfl rfl rfl
    | (apply Pu.load hT rfl rfl rfl; (focus ((repeat (assumption)))); (focus rfl))
    | exact Pu.sub rfl rfl (by simp only [InR]; omega)
    | exact Pu.lenBuf hT rfl rfl) rfl rfl rfl ?_
    | refine Hq.nil ?_
    | refine Tq.pu Want.none (by exact Pu.gtrI rfl rfl) rfl ?_
    | refine Tq.finH (n := 7)  (by repeat (first
    | exact Keep.nil
    | apply Keep.drop rfl
    | apply Keep.keep rfl)) ?_
    | refine Ex.condF ok hm rfl (by first
    | rfl
    | exact decide_eq_false (by omega)) ?_))
        refine Ex.draw ok hm 14 (by kernel_rfl) ?_
        (repeat (first
    | refine Hq.pu Want.none (by first
    | exact Pu.move rfl
    | exact Pu.nilCheck rfl
    | exact Pu.fieldAddr hT rfl rfl rfl rfl rfl
    | (apply Pu.load hT rfl rfl rfl; (focus ((repeat (assumption)))); (focus rfl))
    | exact Pu.add rfl rfl (by simp only [InR]; omega)) rfl rfl rfl ?_
    | refine Hq.nil ?_))
        refine Tq.pu Want.none (hsl _ _ _ _ rfl rfl rfl) rfl ?_
        rw [show at' + m - at' = m by omega] at hb' ⊢
        refine Tq.call Want.none (Op1.call rfl rfl fn35) rfl (FnC.mono (num_ok (c := c) (o := at') (L := bitsOf s) (fun k => ⟨(hb' k).trans (by simp), h.buf (by omega), by omega⟩) (by omega)) ?_)
        rintro x M1 ⟨rfl, rfl⟩
        (repeat (first
    | refine Ex.seq ok hm ?_
    | refine Ex.region ok hm ?_
    | refine Sq.pu ok hm Want.none (by first
    | exact Pu.move rfl
    | exact Pu.nilCheck rfl
    | exact Pu.fieldAddr hT rfl rfl rfl rfl rfl
    | (apply Pu.load hT rfl rfl rfl; (focus ((repeat (assumption)))); (focus rfl))
    | exact Pu.add rfl rfl (by simp only [InR]; omega)) rfl ?_
    | refine Tq.pu Want.none (by exact Pu.assign rfl) rfl ?_
    | refine Tq.finH (n := 7)  (by repeat (first
    | exact Keep.nil
    | apply Keep.drop rfl
    | apply Keep.keep rfl)) ?_))
        refine Sq.act ok hm Want.none (Op1.store hT rfl rfl rfl rfl hrow hr (Nat.le_of_ble_eq_true rfl) (Nat.le_of_ble_eq_true rfl) rfl) ?_
        (repeat (first
    | refine Ex.seq ok hm ?_
    | refine Ex.region ok hm ?_
    | refine Sq.pu ok hm Want.none (by first
    | exact Pu.move rfl
    | exact Pu.assign rfl) rfl ?_
    | refine Sq.finH (n := 7) ok hm (by repeat (first
    | exact Keep.nil
    | apply Keep.drop rfl
    | apply Keep.keep rfl)) ?_
    | refine Ex.ret ok hm ?_))
        refine ⟨_, .tmp rfl (.tmp rfl .nil), rfl, ⟨?_, fun k => (AM.upd_ne (Ne.symm h.ne)).trans (h.buf k), h.ne⟩, (Fr.refl _ _).upd' _ (.inl (by simp))⟩
        exact AM.upd_same

theorem rdrBit_ok {ro : Nat} {M : AM} {q c at' : Nat} {s : List UInt8} (hr : ro ≤ q) (h : RqAt M q c s at') (hat : at' ≤ 8 * s.length) (hs : s.length ≤ 1152921504606846000) :
    FnC Try.prog tables ro 62 [.pointer (some ⟨q, 0, none⟩)] M
      (fun v M' => v = .tuple ⟨[.bool (decide ((takeE s at' 1).1 = 1)), .int .i64 (takeE s at' 1).2.1]⟩ ∧ RqAt M' q c s (takeE s at' 1).2.2 ∧ Fr M M' [q]) := by
  refine FnC.body (nt := 14) ok hm fn62 rfl rfl ?_
  (repeat (first
    | refine Ex.seq ok hm ?_
    | refine Ex.region ok hm ?_
    | refine Sq.pu ok hm Want.none (by first
    | exact Pu.move rfl
    | exact Pu.assign rfl) rfl ?_
    | refine Sq.finH (n := 7) ok hm (by repeat (first
    | exact Keep.nil
    | apply Keep.keep rfl)) ?_))
  refine Sq.call ok Want.none (Op1.call rfl rfl fn34) rfl (FnC.mono (rTake_ok (n := 1) hr h (by simp only [InR]; omega) hat hs) ?_)
  rintro x M1 ⟨rfl, h1, hF⟩
  (repeat (first
    | refine Ex.seq ok hm ?_
    | refine Ex.region ok hm ?_
    | refine Sq.pu ok hm Want.none (by first
    | exact Pu.move rfl
    | exact Pu.assign rfl
    | exact Pu.extract rfl rfl
    | exact Pu.eqlI rfl rfl) rfl ?_
    | refine Sq.finH (n := 7) ok hm (by repeat (first
    | exact Keep.nil
    | apply Keep.drop rfl
    | apply Keep.keep rfl)) ?_
    | refine Ex.ret ok hm ?_))
  refine ⟨_, .tmp rfl (.tmp rfl .nil), ?_, h1, hF⟩
  have e : decide (((takeE s at' 1).1 : Int) = 1) = decide ((takeE s at' 1).1 = 1) := by
    rw [Bool.eq_iff_iff, decide_eq_true_eq, decide_eq_true_eq]; omega
  rw [e]; rfl
end Go.Proofs.Ytlhfolmhgghjcaa
/- N -/
namespace Go.Proofs.Ytlhfolmhgghjcaa
open Go.Wvm Bits
set_option linter.unusedVariables false
set_option linter.unusedSimpArgs false

theorem takeE_yes (s : List UInt8) (a n : Nat) (hn : n ≤ 64) (h : a + n ≤ 8 * s.length) : takeE s a (n : Int) = (valB (midT s a n), 0, a + n) := by
  unfold takeE
  rw [if_neg (by omega), if_neg (by omega), Int.toNat_natCast]
theorem takeE_no (s : List UInt8) (a n : Nat) (hn : n ≤ 64) (h : 8 * s.length < a + n) : takeE s a (n : Int) = (0, 4, a) := by
  unfold takeE
  rw [if_neg (by omega), if_pos (by omega)]
/-- So many bits as a number, and the place behind them. -/
def takeO (s : List UInt8) (a n : Nat) : Option (Nat × Nat) := if a + n ≤ 8 * s.length then some (valB (midT s a n), a + n) else none
theorem takeO_yes {s : List UInt8} {a n : Nat} (h : a + n ≤ 8 * s.length) : takeO s a n = some (valB (midT s a n), a + n) := if_pos h
theorem takeO_no {s : List UInt8} {a n : Nat} (h : 8 * s.length < a + n) : takeO s a n = none := if_neg (by omega)
/-- Bits 0 up to a 1. -/
def unaT (s : List UInt8) : Nat → Nat → Nat → Option (Nat × Nat)
  | 0, _, _ => none
  | f + 1, v, a => (takeO s a 1).bind fun x => if x.1 = 1 then some (v, x.2) else unaT s f (v + 1) x.2
def restT (s : List UInt8) (b a : Nat) : Option (Nat × Nat) := (takeO s a b).map fun x => (2 ^ b + x.1 - 1, x.2)
def gammaT (s : List UInt8) (a : Nat) : Option (Nat × Nat) := (unaT s 48 0 a).bind fun x => restT s x.1 x.2
def deltaT (s : List UInt8) (a : Nat) : Option (Nat × Nat) := (gammaT s a).bind fun x => if 47 < x.1 then none else restT s x.1 x.2
def len64 (n : Nat) : Nat := if n = 0 then 0 else Nat.log2 n + 1
def minT (s : List UInt8) (count a : Nat) : Option (Nat × Nat) :=
  if len64 (count - 1) = 0 then some (0, a) else
  (takeO s a (len64 (count - 1) - 1)).bind fun x => if x.1 < 2 ^ len64 (count - 1) - count then some x else
  (takeO s x.2 1).map fun y => (2 * x.1 + y.1 - (2 ^ len64 (count - 1) - count), y.2)
def zetaT (s : List UInt8) (K a : Nat) : Option (Nat × Nat) :=
  (unaT s (47 / K + 1) 0 a).bind fun h => (minT s (2 ^ ((h.1 + 1) * K) - 2 ^ (h.1 * K)) h.2).bind fun x =>
    if 281474976710654 < 2 ^ (h.1 * K) + x.1 - 1 then none else some (2 ^ (h.1 * K) + x.1 - 1, x.2)
def readT (s : List UInt8) (kind K a : Nat) : Option (Nat × Nat) :=
  if kind = 0 then unaT s 65536 0 a else if kind = 1 then gammaT s a else if kind = 2 then deltaT s a else if kind = 3 then zetaT s K a else minT s K a
def checkE (kind K : Nat) : Int :=
  if kind ≤ 2 then (if K = 0 then 0 else 1) else if kind = 3 then (if 1 ≤ K ∧ K ≤ 16 then 0 else 1) else if kind = 4 then (if 1 ≤ K ∧ K ≤ 281474976710655 then 0 else 1) else 1
def readE (s : List UInt8) (kind K a : Nat) : Nat × Int × Nat :=
  if checkE kind K ≠ 0 then (0, 1, a) else match readT s kind K a with
    | some x => (x.1, 0, x.2)
    | none => (0, 4, a)

theorem len64_lt (n : Nat) : n < 2 ^ len64 n := by
  unfold len64
  split
  · rename_i h; subst h; decide
  · exact Nat.lt_log2_self
theorem len64_le {n : Nat} (h : n ≠ 0) : 2 ^ (len64 n - 1) ≤ n := by
  unfold len64
  rw [if_neg h, Nat.add_sub_cancel]
  exact Nat.log2_self_le h
theorem len64_of {n k : Nat} (h1 : n < 2 ^ k) (h2 : n ≠ 0 → 2 ^ (k - 1) ≤ n) (h0 : n = 0 → k = 0) : len64 n = k := by
  by_cases hz : n = 0
  · subst hz; rw [h0 rfl]; rfl
  · have a1 := len64_lt n
    have a2 := len64_le hz
    have a3 := h2 hz
    have hk : k ≠ 0 := by intro e; subst e; omega
    have hl : len64 n ≠ 0 := by intro e; rw [e] at a1; omega
    have b1 : len64 n - 1 < k := (Nat.pow_lt_pow_iff_right (by decide : 1 < 2)).1 (Nat.lt_of_le_of_lt a2 h1)
    have b2 : k - 1 < len64 n := (Nat.pow_lt_pow_iff_right (by decide : 1 < 2)).1 (Nat.lt_of_le_of_lt a3 a1)
    omega
theorem len64_mono {n k : Nat} (h : n < 2 ^ k) : len64 n ≤ k := by
  by_cases hz : n = 0
  · subst hz; exact Nat.zero_le _
  · have := len64_le hz
    have b1 : len64 n - 1 < k := (Nat.pow_lt_pow_iff_right (by decide : 1 < 2)).1 (Nat.lt_of_le_of_lt this h)
    omega
/-- The least power that is not below. -/
theorem pow_len64 {c : Nat} (h : 1 ≤ c) : c ≤ 2 ^ len64 (c - 1) := by
  have := len64_lt (c - 1); omega

theorem takeO_le {s : List UInt8} {a n : Nat} {x : Nat × Nat} (h : takeO s a n = some x) : x.2 ≤ 8 * s.length ∧ x.1 < 2 ^ n ∧ x.2 = a + n := by
  unfold takeO at h
  split at h
  · cases h; exact ⟨by assumption, midT_lt s a n, rfl⟩
  · cases h
theorem unaT_le {s : List UInt8} : ∀ (f v a : Nat) {x : Nat × Nat}, unaT s f v a = some x → x.2 ≤ 8 * s.length ∧ v ≤ x.1 ∧ x.1 < v + f
  | 0, v, a, x, h => by cases h
  | f + 1, v, a, x, h => by
    simp only [unaT] at h
    cases ht : takeO s a 1 with
    | none => rw [ht] at h; cases h
    | some y =>
      rw [ht] at h
      simp only [Option.bind_some] at h
      split at h
      · cases h
        exact ⟨(takeO_le ht).1, Nat.le_refl _, by omega⟩
      · have := unaT_le f (v + 1) y.2 h
        omega
theorem restT_le {s : List UInt8} {b a : Nat} {x : Nat × Nat} (h : restT s b a = some x) : x.2 ≤ 8 * s.length ∧ x.1 + 2 ≤ 2 ^ (b + 1) := by
  unfold restT at h
  cases ht : takeO s a b with
  | none => rw [ht] at h; cases h
  | some y =>
    rw [ht] at h
    cases h
    have h1 := takeO_le ht
    have h2 := Nat.two_pow_pos b
    refine ⟨h1.1, ?_⟩
    simp only
    rw [Nat.pow_succ]; omega

theorem take2 {ro : Nat} {M : AM} {r a n : Nat} {s : List UInt8} (hr : ro ≤ r) (h : RdAt M r s a) (hn : n ≤ 64) (ha : a ≤ 8 * s.length) (hs : s.length ≤ 140737488355328) :
    FnC Try.prog tables ro 21 [.pointer (some ⟨r, 0, none⟩), .int .i64 (n : Int)] M (fun x M' => Fr M M' [r] ∧ ((a + n ≤ 8 * s.length ∧ x = .tuple ⟨[.int .u64 (valB (midT s a n) : Nat), .int .i64 0]⟩ ∧ RdAt M' r s (a + n)) ∨ (8 * s.length < a + n ∧ x = .tuple ⟨[.int .u64 ((0 : Nat) : Int), .int .i64 4]⟩ ∧ RdAt M' r s a))) := by
  refine FnC.mono (take_ok (n := (n : Int)) hr h (by simp only [InR]; omega) ha (by omega)) ?_
  rintro x M' ⟨rfl, h1, hF⟩
  refine ⟨hF, ?_⟩
  by_cases hb : a + n ≤ 8 * s.length
  · rw [takeE_yes s a n hn hb] at h1 ⊢
    exact .inl ⟨hb, rfl, h1⟩
  · rw [takeE_no s a n hn (by omega)] at h1 ⊢
    exact .inr ⟨by omega, rfl, h1⟩
theorem bit2 {ro : Nat} {M : AM} {r a : Nat} {s : List UInt8} (hr : ro ≤ r) (h : RdAt M r s a) (ha : a ≤ 8 * s.length) (hs : s.length ≤ 140737488355328) :
    FnC Try.prog tables ro 31 [.pointer (some ⟨r, 0, none⟩)] M (fun x M' => Fr M M' [r] ∧ ((a + 1 ≤ 8 * s.length ∧ x = .tuple ⟨[.bool (decide (valB (midT s a 1) = 1)), .int .i64 0]⟩ ∧ RdAt M' r s (a + 1)) ∨ (8 * s.length < a + 1 ∧ x = .tuple ⟨[.bool false, .int .i64 4]⟩ ∧ RdAt M' r s a))) := by
  refine FnC.mono (rdBit_ok hr h ha (by omega)) ?_
  rintro x M' ⟨rfl, h1, hF⟩
  refine ⟨hF, ?_⟩
  by_cases hb : a + 1 ≤ 8 * s.length
  · have e := takeE_yes s a 1 (by decide) hb
    rw [show takeE s a 1 = _ from e] at h1 ⊢
    exact .inl ⟨hb, rfl, h1⟩
  · have e := takeE_no s a 1 (by decide) (by omega)
    rw [show takeE s a 1 = _ from e] at h1 ⊢
    exact .inr ⟨by omega, rfl, h1⟩
theorem rtake2 {ro : Nat} {M : AM} {q c a n : Nat} {s : List UInt8} (hr : ro ≤ q) (h : RqAt M q c s a) (hn : n ≤ 64) (ha : a ≤ 8 * s.length) (hs : s.length ≤ 1048576) :
    FnC Try.prog tables ro 34 [.pointer (some ⟨q, 0, none⟩), .int .i64 (n : Int)] M (fun x M' => Fr M M' [q] ∧ ((a + n ≤ 8 * s.length ∧ x = .tuple ⟨[.int .u64 (valB (midT s a n) : Nat), .int .i64 0]⟩ ∧ RqAt M' q c s (a + n)) ∨ (8 * s.length < a + n ∧ x = .tuple ⟨[.int .u64 ((0 : Nat) : Int), .int .i64 4]⟩ ∧ RqAt M' q c s a))) := by
  refine FnC.mono (rTake_ok (n := (n : Int)) hr h (by simp only [InR]; omega) ha (by omega)) ?_
  rintro x M' ⟨rfl, h1, hF⟩
  refine ⟨hF, ?_⟩
  by_cases hb : a + n ≤ 8 * s.length
  · rw [takeE_yes s a n hn hb] at h1 ⊢
    exact .inl ⟨hb, rfl, h1⟩
  · rw [takeE_no s a n hn (by omega)] at h1 ⊢
    exact .inr ⟨by omega, rfl, h1⟩
theorem rbit2 {ro : Nat} {M : AM} {q c a : Nat} {s : List UInt8} (hr : ro ≤ q) (h : RqAt M q c s a) (ha : a ≤ 8 * s.length) (hs : s.length ≤ 1048576) :
    FnC Try.prog tables ro 62 [.pointer (some ⟨q, 0, none⟩)] M (fun x M' => Fr M M' [q] ∧ ((a + 1 ≤ 8 * s.length ∧ x = .tuple ⟨[.bool (decide (valB (midT s a 1) = 1)), .int .i64 0]⟩ ∧ RqAt M' q c s (a + 1)) ∨ (8 * s.length < a + 1 ∧ x = .tuple ⟨[.bool false, .int .i64 4]⟩ ∧ RqAt M' q c s a))) := by
  refine FnC.mono (rdrBit_ok hr h ha (by omega)) ?_
  rintro x M' ⟨rfl, h1, hF⟩
  refine ⟨hF, ?_⟩
  by_cases hb : a + 1 ≤ 8 * s.length
  · have e := takeE_yes s a 1 (by decide) hb
    rw [show takeE s a 1 = _ from e] at h1 ⊢
    exact .inl ⟨hb, rfl, h1⟩
  · have e := takeE_no s a 1 (by decide) (by omega)
    rw [show takeE s a 1 = _ from e] at h1 ⊢
    exact .inr ⟨by omega, rfl, h1⟩
/-- What a reading function hands back. -/
def ROut (s : List UInt8) (M M' : AM) (r : Nat) (o : Option (Nat × Nat)) (x : Value) : Prop :=
  ∃ (v : Nat) (e : Int) (a' : Nat), x = .tuple ⟨[.int .u64 (v : Int), .int .i64 e]⟩ ∧ RdAt M' r s a' ∧ a' ≤ 8 * s.length ∧ Fr M M' [r] ∧ v < 18446744073709551616 ∧ (match o with | some w => v = w.1 ∧ e = 0 ∧ a' = w.2 | none => e = 4)
/-- .. of the document's. -/
def QOut (s : List UInt8) (M M' : AM) (q c : Nat) (k : IntKind) (o : Option (Nat × Nat)) (x : Value) : Prop :=
  ∃ (v : Nat) (b : Bool) (a' : Nat), x = .tuple ⟨[.int k (v : Int), .bool b]⟩ ∧ RqAt M' q c s a' ∧ a' ≤ 8 * s.length ∧ Fr M M' [q] ∧ v < 18446744073709551616 ∧ (match o with | some w => v = w.1 ∧ b = true ∧ a' = w.2 | none => b = false)
end Go.Proofs.Ytlhfolmhgghjcaa
/- N -/
namespace Go.Proofs.Ytlhfolmhgghjcaa
open Go.Wvm Bits
set_option linter.unusedVariables false
set_option linter.unusedSimpArgs false

def tab : List UInt8 := [0, 1, 2, 2, 3, 3, 3, 3, 4, 4, 4, 4, 4, 4, 4, 4, 5, 5, 5, 5, 5, 5, 5, 5, 5, 5, 5, 5, 5, 5, 5, 5, 6, 6, 6, 6, 6, 6, 6, 6, 6, 6, 6, 6, 6, 6, 6, 6, 6, 6, 6, 6, 6, 6, 6, 6, 6, 6, 6, 6, 6, 6, 6, 6, 7, 7, 7, 7, 7, 7, 7, 7, 7, 7, 7, 7, 7, 7, 7, 7, 7, 7, 7, 7, 7, 7, 7, 7, 7, 7, 7, 7, 7, 7, 7, 7, 7, 7, 7, 7, 7, 7, 7, 7, 7, 7, 7, 7, 7, 7, 7, 7, 7, 7, 7, 7, 7, 7, 7, 7, 7, 7, 7, 7, 7, 7, 7, 7, 8, 8, 8, 8, 8, 8, 8, 8, 8, 8, 8, 8, 8, 8, 8, 8, 8, 8, 8, 8, 8, 8, 8, 8, 8, 8, 8, 8, 8, 8, 8, 8, 8, 8, 8, 8, 8, 8, 8, 8, 8, 8, 8, 8, 8, 8, 8, 8, 8, 8, 8, 8, 8, 8, 8, 8, 8, 8, 8, 8, 8, 8, 8, 8, 8, 8, 8, 8, 8, 8, 8, 8, 8, 8, 8, 8, 8, 8, 8, 8, 8, 8, 8, 8, 8, 8, 8, 8, 8, 8, 8, 8, 8, 8, 8, 8, 8, 8, 8, 8, 8, 8, 8, 8, 8, 8, 8, 8, 8, 8, 8, 8, 8, 8, 8, 8, 8, 8, 8, 8, 8, 8, 8, 8, 8, 8, 8, 8]
theorem tab_all : ((List.range 256).all fun x => (tab.getD x 0).toNat == len64 x) = true := by decide +kernel
theorem tab_eq (x : Nat) (h : x < 256) : (tab.getD x 0).toNat = len64 x := by
  have := List.all_eq_true.1 tab_all x (List.mem_range.2 h)
  simpa using this
theorem len64_div (n k : Nat) (h : 2 ^ k ≤ n) : len64 n = k + len64 (n / 2 ^ k) := by
  have hp := Nat.two_pow_pos k
  have hq : n / 2 ^ k ≠ 0 := by
    have := Nat.div_le_div_right (c := 2 ^ k) h
    rw [Nat.div_self hp] at this; omega
  have a1 := len64_lt (n / 2 ^ k)
  have a2 := len64_le hq
  have hl : len64 (n / 2 ^ k) ≠ 0 := by intro e; rw [e] at a1; exact hq (Nat.lt_one_iff.1 a1)
  refine len64_of ?_ (fun _ => ?_) (fun e => by omega)
  · rw [Nat.pow_add, Nat.mul_comm]
    exact (Nat.div_lt_iff_lt_mul hp).1 a1
  · rw [show k + len64 (n / 2 ^ k) - 1 = k + (len64 (n / 2 ^ k) - 1) by omega, Nat.pow_add, Nat.mul_comm]
    exact (Nat.le_div_iff_mul_le hp).1 a2

set_option maxHeartbeats 4000000 in
theorem len_stage {n k : Nat} (h : 2 ^ k ≤ n) : len64 n = k + len64 (n / 2 ^ k) := len64_div n k h
set_option maxRecDepth 20000 in
set_option maxHeartbeats 8000000 in
theorem Len64_ok {ro : Nat} {M : AM} {n : Nat} (hn : n < 18446744073709551616) :
    FnC Try.prog tables ro 52 [.int .u64 (n : Int)] M (fun x M' => x = .int .i64 (len64 n : Nat) ∧ M' = M) := by
  refine FnC.body (nt := 25) ok hm fn52 rfl rfl ?_
  (repeat (first
    | refine Ex.seq ok hm ?_
    | refine Ex.region ok hm ?_
    | refine Sq.pu ok hm Want.none (by first
    | exact Pu.move rfl
    | exact Pu.assign rfl
    | exact Pu.geqI rfl rfl) rfl ?_
    | refine Sq.finH (n := 3) ok hm (by repeat (first
    | exact Keep.nil
    | apply Keep.drop rfl
    | apply Keep.keep rfl)) ?_))
  refine Ex.cut [(0, .int .u64 ((if 4294967296 ≤ n then n / 2 ^ 32 else n : Nat) : Int)), (2, .int .i64 ((if 4294967296 ≤ n then 32 else 0 : Nat) : Int))] (fun M' => M' = M) ?_ ?_
  · by_cases h : 4294967296 ≤ n
    · rw [if_pos h, if_pos h]
      (repeat (first
    | refine Ex.seq ok hm ?_
    | refine Ex.region ok hm ?_
    | refine Sq.pu ok hm Want.none (by first
    | exact Pu.move rfl
    | exact Pu.assign rfl
    | exact Pu.shrN rfl rfl (by simp only [InR]; omega)) rfl ?_
    | refine Sq.finH (n := 3) ok hm (by repeat (first
    | exact Keep.nil
    | apply Keep.drop rfl
    | apply Keep.keep rfl)) ?_
    | refine Ex.condT ok hm rfl (by first
    | rfl
    | exact decide_eq_true (by omega)) ?_))
      exact ⟨rfl, ⟨rfl, rfl, trivial⟩, rfl⟩
    · rw [if_neg h, if_neg h]
      (repeat (first
    | refine Ex.skip ok hm ?_
    | refine Ex.condF ok hm rfl (by first
    | rfl
    | exact decide_eq_false (by omega)) ?_))
      exact ⟨rfl, ⟨rfl, rfl, trivial⟩, rfl⟩
  rintro M0 rfl
  obtain ⟨n1, k1, e1, hn1, hk1, q1, q2⟩ : ∃ n1 k1, len64 n = k1 + len64 n1 ∧ n1 < 4294967296 ∧ k1 ≤ 32 ∧ (if 4294967296 ≤ n then n / 2 ^ 32 else n) = n1 ∧ (if 4294967296 ≤ n then 32 else 0) = k1 := by
    by_cases h : 4294967296 ≤ n
    · exact ⟨n / 2 ^ 32, 32, len64_div n 32 h, by omega, by omega, if_pos h, if_pos h⟩
    · exact ⟨n, 0, by omega, by omega, by omega, if_neg h, if_neg h⟩
  rw [q1, q2, e1]
  clear q1 q2 e1
  (repeat (first
    | refine Ex.seq ok hm ?_
    | refine Ex.region ok hm ?_
    | refine Sq.pu ok hm Want.none (by first
    | exact Pu.move rfl
    | exact Pu.geqI rfl rfl) rfl ?_
    | refine Sq.finH (n := 3) ok hm (by repeat (first
    | exact Keep.nil
    | apply Keep.drop rfl
    | apply Keep.keep rfl)) ?_))
  refine Ex.cut [(0, .int .u64 ((if 65536 ≤ n1 then n1 / 2 ^ 16 else n1 : Nat) : Int)), (2, .int .i64 ((if 65536 ≤ n1 then k1 + 16 else k1 : Nat) : Int))] (fun M' => M' = M0) ?_ ?_
  · by_cases h : 65536 ≤ n1
    · rw [if_pos h, if_pos h]
      (repeat (first
    | refine Ex.seq ok hm ?_
    | refine Ex.region ok hm ?_
    | refine Sq.pu ok hm Want.none (by first
    | exact Pu.move rfl
    | exact Pu.assign rfl
    | exact Pu.shrN rfl rfl (by simp only [InR]; omega)
    | exact Pu.addN rfl rfl (by simp only [InR]; omega)) rfl ?_
    | refine Sq.finH (n := 3) ok hm (by repeat (first
    | exact Keep.nil
    | apply Keep.drop rfl
    | apply Keep.keep rfl)) ?_
    | refine Ex.condT ok hm rfl (by first
    | rfl
    | exact decide_eq_true (by omega)) ?_))
      exact ⟨rfl, ⟨rfl, rfl, trivial⟩, rfl⟩
    · rw [if_neg h, if_neg h]
      (repeat (first
    | refine Ex.skip ok hm ?_
    | refine Ex.condF ok hm rfl (by first
    | rfl
    | exact decide_eq_false (by omega)) ?_))
      exact ⟨rfl, ⟨rfl, rfl, trivial⟩, rfl⟩
  rintro M1 rfl
  obtain ⟨n2, k2, e2, hn2, hk2, q1, q2⟩ : ∃ n2 k2, k1 + len64 n1 = k2 + len64 n2 ∧ n2 < 65536 ∧ k2 ≤ 48 ∧ (if 65536 ≤ n1 then n1 / 2 ^ 16 else n1) = n2 ∧ (if 65536 ≤ n1 then k1 + 16 else k1) = k2 := by
    by_cases h : 65536 ≤ n1
    · exact ⟨n1 / 2 ^ 16, k1 + 16, by have := len64_div n1 16 h; omega, by omega, by omega, if_pos h, if_pos h⟩
    · exact ⟨n1, k1, rfl, by omega, by omega, if_neg h, if_neg h⟩
  rw [q1, q2, e2]
  clear q1 q2 e2
  (repeat (first
    | refine Ex.seq ok hm ?_
    | refine Ex.region ok hm ?_
    | refine Sq.pu ok hm Want.none (by first
    | exact Pu.move rfl
    | exact Pu.geqI rfl rfl) rfl ?_
    | refine Sq.finH (n := 3) ok hm (by repeat (first
    | exact Keep.nil
    | apply Keep.drop rfl
    | apply Keep.keep rfl)) ?_))
  refine Ex.cut [(0, .int .u64 ((if 256 ≤ n2 then n2 / 2 ^ 8 else n2 : Nat) : Int)), (2, .int .i64 ((if 256 ≤ n2 then k2 + 8 else k2 : Nat) : Int))] (fun M' => M' = M1) ?_ ?_
  · by_cases h : 256 ≤ n2
    · rw [if_pos h, if_pos h]
      (repeat (first
    | refine Ex.seq ok hm ?_
    | refine Ex.region ok hm ?_
    | refine Sq.pu ok hm Want.none (by first
    | exact Pu.move rfl
    | exact Pu.assign rfl
    | exact Pu.shrN rfl rfl (by simp only [InR]; omega)
    | exact Pu.addN rfl rfl (by simp only [InR]; omega)) rfl ?_
    | refine Sq.finH (n := 3) ok hm (by repeat (first
    | exact Keep.nil
    | apply Keep.drop rfl
    | apply Keep.keep rfl)) ?_
    | refine Ex.condT ok hm rfl (by first
    | rfl
    | exact decide_eq_true (by omega)) ?_))
      exact ⟨rfl, ⟨rfl, rfl, trivial⟩, rfl⟩
    · rw [if_neg h, if_neg h]
      (repeat (first
    | refine Ex.skip ok hm ?_
    | refine Ex.condF ok hm rfl (by first
    | rfl
    | exact decide_eq_false (by omega)) ?_))
      exact ⟨rfl, ⟨rfl, rfl, trivial⟩, rfl⟩
  rintro M2 rfl
  obtain ⟨n3, k3, e3, hn3, hk3, q1, q2⟩ : ∃ n3 k3, k2 + len64 n2 = k3 + len64 n3 ∧ n3 < 256 ∧ k3 ≤ 56 ∧ (if 256 ≤ n2 then n2 / 2 ^ 8 else n2) = n3 ∧ (if 256 ≤ n2 then k2 + 8 else k2) = k3 := by
    by_cases h : 256 ≤ n2
    · exact ⟨n2 / 2 ^ 8, k2 + 8, by have := len64_div n2 8 h; omega, by omega, by omega, if_pos h, if_pos h⟩
    · exact ⟨n2, k2, rfl, by omega, by omega, if_neg h, if_neg h⟩
  rw [q1, q2, e3]
  clear q1 q2 e3
  have htab := tab_eq n3 hn3
  have hl8 : len64 n3 ≤ 8 := len64_mono (k := 8) hn3
  refine Ex.seq ok hm (Ex.region ok hm ?_)
  refine Sq.pu ok hm Want.none (Pu.move rfl) rfl ?_
  refine Sq.pu ok hm Want.none (Pu.move rfl) rfl ?_
  refine Sq.pu ok hm Want.none (Pu.convN (n := (n3 : Int)) hT rfl rfl rfl (by simp only [InR]; omega)) rfl ?_
  refine Sq.pu ok hm Want.none (Pu.indexSN (l := tab) (i := n3) hT rfl rfl rfl (by show n3 < 256; omega)) rfl ?_
  rw [htab]
  (repeat (first
    | refine Sq.pu ok hm Want.none (by first
    | exact Pu.assign rfl
    | exact Pu.addN rfl rfl (by simp only [InR]; omega)
    | exact Pu.convN hT rfl rfl rfl (by simp only [InR]; omega)) rfl ?_
    | refine Sq.finH (n := 3) ok hm (by repeat (first
    | exact Keep.nil
    | apply Keep.drop rfl
    | apply Keep.keep rfl)) ?_
    | refine Ex.ret ok hm ?_))
  exact ⟨_, .tmp rfl .nil, rfl, rfl⟩

theorem split_ok {ro : Nat} {M : AM} {c : Nat} (h1 : 1 ≤ c) (h2 : c ≤ 9223372036854775808) :
    FnC Try.prog tables ro 59 [.int .u64 (c : Int)] M (fun x M' => x = .tuple ⟨[.int .i64 (len64 (c - 1) : Nat), .int .u64 ((2 ^ len64 (c - 1) - c : Nat) : Int)]⟩ ∧ M' = M) := by
  refine FnC.body (nt := 12) ok hm fn59 rfl rfl ?_
  (repeat (first
    | refine Ex.seq ok hm ?_
    | refine Ex.region ok hm ?_
    | refine Sq.pu ok hm Want.none (by first
    | exact Pu.move rfl
    | exact Pu.assign rfl) rfl ?_
    | refine Sq.finH (n := 3) ok hm (by repeat (first
    | exact Keep.nil
    | apply Keep.keep rfl)) ?_))
  refine Sq.pu ok hm Want.none (Pu.subN (a := c) (b := 1) rfl rfl h1 (by simp only [InR]; omega)) rfl ?_
  refine Sq.call ok Want.none (Op1.call rfl rfl fn52) rfl (FnC.mono (Len64_ok (n := c - 1) (by omega)) ?_)
  rintro x M0 ⟨rfl, rfl⟩
  have hk : len64 (c - 1) ≤ 63 := len64_mono (k := 63) (by omega)
  have hp := pow_len64 h1
  have hp2 : 2 ^ len64 (c - 1) ≤ 2 ^ 63 := Nat.pow_le_pow_right (by decide) hk
  generalize len64 (c - 1) = k at hk hp hp2 ⊢
  (repeat (first
    | refine Ex.seq ok hm ?_
    | refine Sq.pu ok hm Want.none (by exact Pu.assign rfl) rfl ?_
    | refine Sq.finH (n := 3) ok hm (by repeat (first
    | exact Keep.nil
    | apply Keep.drop rfl
    | apply Keep.keep rfl)) ?_))
  refine Ex.draw ok hm 6 (by kernel_rfl) ?_
  (repeat (refine Hq.pu Want.none (by exact Pu.move rfl) rfl rfl rfl ?_))
  refine Hq.pu Want.none (Pu.shlN (a := 1) (b := k) rfl rfl (by show k ≤ 64; omega) (by simp only [InR]; omega)) rfl rfl rfl ?_
  rw [Nat.one_mul]
  (repeat (refine Hq.pu Want.none (by exact Pu.move rfl) rfl rfl rfl ?_))
  refine Hq.pu Want.none (Pu.subN (a := 2 ^ k) (b := c) rfl rfl hp (by simp only [InR]; omega)) rfl rfl rfl ?_
  (repeat (first
    | refine Hq.pu Want.none (by exact Pu.assign rfl) rfl rfl rfl ?_
    | refine Hq.nil ?_
    | refine Tq.pu Want.none (by exact Pu.assign rfl) rfl ?_
    | refine Tq.finH (n := 4)  (by repeat (first
    | exact Keep.nil
    | apply Keep.drop rfl
    | apply Keep.keep rfl)) ?_
    | refine Ex.ret ok hm ?_))
  exact ⟨_, .tmp rfl (.tmp rfl .nil), rfl, rfl⟩

theorem shell_ok {ro : Nat} {M : AM} {h K : Nat} (hh : (h + 1) * K ≤ 63) (hk : h ≤ 63 ∧ K ≤ 63) :
    FnC Try.prog tables ro 53 [.int .i64 (h : Int), .int .u64 (K : Int)] M (fun x M' => x = .tuple ⟨[.int .u64 ((2 ^ (h * K) : Nat) : Int), .int .u64 ((2 ^ ((h + 1) * K) - 2 ^ (h * K) : Nat) : Int)]⟩ ∧ M' = M) := by
  refine FnC.body (nt := 20) ok hm fn53 rfl rfl ?_
  have hm1 : h * K ≤ (h + 1) * K := Nat.mul_le_mul_right K (Nat.le_succ h)
  have hp1 : 2 ^ ((h + 1) * K) ≤ 2 ^ 63 := Nat.pow_le_pow_right (by decide) hh
  have hp2 : 2 ^ (h * K) ≤ 2 ^ ((h + 1) * K) := Nat.pow_le_pow_right (by decide) hm1
  have hp0 := Nat.two_pow_pos (h * K)
  (repeat (first
    | refine Ex.seq ok hm ?_
    | refine Ex.region ok hm ?_
    | refine Sq.pu ok hm Want.none (by first
    | exact Pu.move rfl
    | exact Pu.assign rfl
    | exact Pu.convN hT rfl rfl rfl (by simp only [InR]; omega)) rfl ?_
    | refine Sq.finH (n := 6) ok hm (by repeat (first
    | exact Keep.nil
    | apply Keep.keep rfl)) ?_))
  refine Sq.pu ok hm Want.none (Pu.mulN (a := h) (b := K) rfl rfl (by simp only [InR]; omega)) rfl ?_
  refine Sq.pu ok hm Want.none (Pu.shlN (a := 1) (b := h * K) rfl rfl (by show h * K ≤ 64; omega) (by simp only [InR]; omega)) rfl ?_
  rw [Nat.one_mul]
  (repeat (first
    | refine Ex.seq ok hm ?_
    | refine Ex.region ok hm ?_
    | refine Sq.pu ok hm Want.none (by first
    | exact Pu.move rfl
    | exact Pu.assign rfl
    | exact Pu.addN rfl rfl (by simp only [InR]; omega)
    | exact Pu.convN hT rfl rfl rfl (by simp only [InR]; omega)) rfl ?_
    | refine Sq.finH (n := 6) ok hm (by repeat (first
    | exact Keep.nil
    | apply Keep.drop rfl
    | apply Keep.keep rfl)) ?_))
  refine Sq.pu ok hm Want.none (Pu.mulN (a := h + 1) (b := K) rfl rfl (by simp only [InR]; omega)) rfl ?_
  refine Sq.pu ok hm Want.none (Pu.shlN (a := 1) (b := (h + 1) * K) rfl rfl (by show (h + 1) * K ≤ 64; omega) (by simp only [InR]; omega)) rfl ?_
  rw [Nat.one_mul]
  refine Sq.pu ok hm Want.none (Pu.move rfl) rfl ?_
  refine Sq.pu ok hm Want.none (Pu.subN (a := 2 ^ ((h + 1) * K)) (b := 2 ^ (h * K)) rfl rfl hp2 (by simp only [InR]; omega)) rfl ?_
  (repeat (first
    | refine Sq.pu ok hm Want.none (by exact Pu.assign rfl) rfl ?_
    | refine Sq.finH (n := 6) ok hm (by repeat (first
    | exact Keep.nil
    | apply Keep.drop rfl
    | apply Keep.keep rfl)) ?_
    | refine Ex.ret ok hm ?_))
  exact ⟨_, .tmp rfl (.tmp rfl .nil), rfl, rfl⟩
end Go.Proofs.Ytlhfolmhgghjcaa
