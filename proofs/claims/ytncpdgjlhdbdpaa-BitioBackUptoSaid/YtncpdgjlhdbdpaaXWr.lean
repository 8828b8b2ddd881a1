/- Towards the laws of this seat: contracts of the program's functions in a logic over a small machine (text XWr). No condition. -/
import Derived.Test.YtncpdgjlhdbdpaaXPut
namespace Go.Proofs.Ytncpdgjlhdbdpaa
open Go.Wvm Bits
set_option linter.unusedVariables false
set_option linter.unusedSimpArgs false

def WPost (ro : Nat) (M M' : AM) (p q : Nat) (l' : List Bool) : Prop := ∃ q', WrAt M' p q' l' ∧ Fr M M' [p, q] ∧ (q' = q ∨ M.next ≤ q') ∧ ro ≤ q'
theorem WPost.same {ro : Nat} {M : AM} {p q : Nat} {l : List Bool} (h : WrAt M p q l) (hq : ro ≤ q) : WPost ro M M p q l := ⟨q, h, Fr.refl _ _, .inl rfl, hq⟩

theorem fits_ok {ro : Nat} {M : AM} {v n : Int} (hv : 0 ≤ v ∧ v < 18446744073709551616) (hn : 0 ≤ n ∧ n ≤ 64) :
    FnC Try.prog tables ro 34 [.int .u64 v, .int .i64 n] M (fun r M' => r = .bool (decide (64 ≤ n ∨ v / 2 ^ n.toNat = 0)) ∧ M' = M) := by
  refine FnC.body (nt := 13) ok hm fn34 rfl rfl ?_
  by_cases h : 64 ≤ n
  · (repeat (first
    | refine Ex.seq ok hm ?_
    | refine Ex.region ok hm ?_
    | refine Sq.pu ok hm Want.none (by first
    | exact Pu.move rfl
    | exact Pu.assign rfl
    | exact Pu.geqI rfl rfl
    | exact Pu.pickT rfl (by first
    | rfl
    | exact decide_eq_true (by omega)) rfl) rfl ?_
    | refine Sq.skip ok hm (by exact Want.no rfl rfl rfl (by first
    | rfl
    | exact decide_eq_true (by omega))) rfl ?_
    | refine Sq.finH (n := 5) ok hm (by repeat (first
    | exact Keep.nil
    | apply Keep.drop rfl
    | apply Keep.keep rfl)) ?_
    | refine Ex.ret ok hm ?_))
    exact ⟨_, .tmp rfl .nil, by simp [valOf, h], rfl⟩
  · (repeat (first
    | refine Ex.seq ok hm ?_
    | refine Ex.region ok hm ?_
    | refine Sq.pu ok hm Want.none (by first
    | exact Pu.move rfl
    | exact Pu.assign rfl
    | exact Pu.geqI rfl rfl
    | exact Pu.eqlI rfl rfl
    | exact Pu.pickF rfl (by first
    | rfl
    | exact decide_eq_false (by omega)) rfl
    | exact Pu.shr rfl rfl (by omega) (by omega) (by simp only [InR]; omega)) rfl ?_
    | refine Sq.pu ok hm (by exact Want.yes rfl rfl rfl (by first
    | rfl
    | exact decide_eq_false (by omega))) (by first
    | exact Pu.move rfl
    | exact Pu.eqlI rfl rfl
    | exact Pu.shr rfl rfl (by omega) (by omega) (by simp only [InR]; omega)) rfl ?_
    | refine Sq.finH (n := 5) ok hm (by repeat (first
    | exact Keep.nil
    | apply Keep.drop rfl
    | apply Keep.keep rfl)) ?_
    | refine Ex.ret ok hm ?_))
    refine ⟨_, .tmp rfl .nil, ?_, rfl⟩
    simp only [valOf, Value.bool.injEq]
    rw [Bool.eq_iff_iff, decide_eq_true_eq, decide_eq_true_eq]
    exact ⟨.inr, fun k => k.resolve_left h⟩

theorem new_ok {ro : Nat} {M : AM} : FnC Try.prog tables ro 7 [] M (fun r M' => r = .pointer (some ⟨M.next, 0, none⟩) ∧ M' = M.add (.row [.slice none 0 0, .int .i64 0] 0 (some (68, 0)))) := by
  refine FnC.body (nt := 3) ok hm fn7 rfl rfl ?_
  (repeat (first
    | refine Ex.seq ok hm ?_
    | refine Ex.region ok hm ?_
    | refine Sq.pu ok hm Want.none (by exact Pu.assign rfl) rfl ?_
    | refine Sq.nil ok hm ?_))
  refine Sq.pu ok hm Want.none (Pu.build hT rfl rfl rfl rfl) rfl ?_
  refine Sq.op ok hm Want.none (Op1.box rfl rfl) rfl ?_
  (repeat (first
    | refine Sq.pu ok hm Want.none (by exact Pu.assign rfl) rfl ?_
    | refine Sq.nil ok hm ?_
    | refine Ex.ret ok hm ?_))
  exact ⟨_, .tmp rfl .nil, rfl, rfl⟩
theorem wr_new {M : AM} (q : Nat) (h : M.next ≠ q) : WrAt (M.add (.row [.slice none 0 0, .int .i64 0] 0 (some (68, 0)))) M.next q [] :=
  ⟨AM.add_same, fun h => absurd rfl h, h⟩

theorem len_ok {ro : Nat} {M : AM} {p q : Nat} {l : List Bool} (h : WrAt M p q l) : FnC Try.prog tables ro 12 [.pointer (some ⟨p, 0, none⟩)] M (fun r M' => r = .int .i64 l.length ∧ M' = M) := by
  refine FnC.body (nt := 9) ok hm fn12 rfl rfl ?_
  have hrow := h.row
  (repeat (first
    | refine Ex.seq ok hm ?_
    | refine Ex.skip ok hm ?_
    | refine Ex.region ok hm ?_
    | refine Sq.pu ok hm Want.none (by first
    | exact Pu.move rfl
    | exact Pu.assign rfl
    | exact Pu.nilCheck rfl
    | exact Pu.fieldAddr hT rfl rfl rfl rfl rfl
    | (apply Pu.load hT rfl rfl rfl; (focus ((repeat (assumption)))); (focus rfl))
    | exact Pu.eqlP hT rfl rfl rfl) rfl ?_
    | refine Sq.finH (n := 3) ok hm (by repeat (first
    | exact Keep.nil
    | apply Keep.drop rfl
    | apply Keep.keep rfl)) ?_
    | refine Ex.condF ok hm rfl (by rfl) ?_
    | refine Ex.ret ok hm ?_))
  exact ⟨_, .tmp rfl .nil, rfl, rfl⟩

theorem u8_row (ns : List Nat) (h : ∀ b ∈ ns, b < 256) : ns.map u8v = (ns.map UInt8.ofNat).map fun b => .int .u8 ((b.toNat : Nat) : Int) := by
  rw [List.map_map]
  apply List.map_congr_left
  intro b hb
  have := h b hb
  simp [u8v]; omega

theorem text_ok {ro : Nat} {M : AM} {p q : Nat} {l : List Bool} (h : WrAt M p q l) : FnC Try.prog tables ro 10 [.pointer (some ⟨p, 0, none⟩)] M (fun r M' => r = .tuple ⟨[.string ⟨⟨txt l⟩⟩, .int .i64 0]⟩ ∧ M' = M) := by
  refine FnC.body (nt := 11) ok hm fn10 rfl rfl ?_
  by_cases h0 : packL l = []
  · have hrow := h.row
    rw [h0] at hrow
    have hrow : M.get p = some (.row [.slice none 0 0, .int .i64 (l.length : Int)] 0 (some (68, 0))) := hrow
    (repeat (first
    | refine Ex.seq ok hm ?_
    | refine Ex.skip ok hm ?_
    | refine Ex.region ok hm ?_
    | refine Sq.pu ok hm Want.none (by first
    | exact Pu.move rfl
    | exact Pu.assign rfl
    | exact Pu.nilCheck rfl
    | exact Pu.fieldAddr hT rfl rfl rfl rfl rfl
    | (apply Pu.load hT rfl rfl rfl; (focus ((repeat (assumption)))); (focus rfl))
    | exact Pu.eqlP hT rfl rfl rfl) rfl ?_
    | refine Sq.finH (n := 4) ok hm (by repeat (first
    | exact Keep.nil
    | apply Keep.drop rfl
    | apply Keep.keep rfl)) ?_
    | refine Ex.condF ok hm rfl (by rfl) ?_))
    refine Sq.pu ok hm Want.none (Pu.convB0 hT rfl rfl rfl rfl) rfl ?_
    (repeat (first
    | refine Sq.pu ok hm Want.none (by exact Pu.assign rfl) rfl ?_
    | refine Sq.finH (n := 4) ok hm (by repeat (first
    | exact Keep.nil
    | apply Keep.drop rfl
    | apply Keep.keep rfl)) ?_
    | refine Ex.ret ok hm ?_))
    refine ⟨_, .tmp rfl (.tmp rfl .nil), ?_, rfl⟩
    simp only [valOf, txt, h0]; rfl
  · have hrow := h.row
    rw [bufV_pos _ _ (by intro e; exact h0 (List.length_eq_zero_iff.1 e))] at hrow
    have hbuf := h.buf h0
    (repeat (first
    | refine Ex.seq ok hm ?_
    | refine Ex.skip ok hm ?_
    | refine Ex.region ok hm ?_
    | refine Sq.pu ok hm Want.none (by first
    | exact Pu.move rfl
    | exact Pu.assign rfl
    | exact Pu.nilCheck rfl
    | exact Pu.fieldAddr hT rfl rfl rfl rfl rfl
    | (apply Pu.load hT rfl rfl rfl; (focus ((repeat (assumption)))); (focus rfl))
    | exact Pu.eqlP hT rfl rfl rfl) rfl ?_
    | refine Sq.finH (n := 4) ok hm (by repeat (first
    | exact Keep.nil
    | apply Keep.drop rfl
    | apply Keep.keep rfl)) ?_
    | refine Ex.condF ok hm rfl (by rfl) ?_))
    refine Sq.pu ok hm Want.none (Pu.convB hT (bs := txt l) rfl rfl rfl rfl hbuf ?_ (by simp)) rfl ?_
    · rw [List.drop_zero, List.take_of_length_le (by simp)]
      exact u8_row _ (packL_lt l)
    (repeat (first
    | refine Sq.pu ok hm Want.none (by exact Pu.assign rfl) rfl ?_
    | refine Sq.finH (n := 4) ok hm (by repeat (first
    | exact Keep.nil
    | apply Keep.drop rfl
    | apply Keep.keep rfl)) ?_
    | refine Ex.ret ok hm ?_))
    exact ⟨_, .tmp rfl (.tmp rfl .nil), rfl, rfl⟩

/-- What a writer makes of a number. -/
def putE (l : List Bool) (v : Nat) (n : Int) : Int × List Bool :=
  if n < 0 ∨ 64 < n ∨ (n < 64 ∧ v / 2 ^ n.toNat ≠ 0) then (1, l) else if 134217728 - (l.length : Int) < n then (3, l) else (0, l ++ ofN v n.toNat)

theorem cast_div (v k : Nat) : ((v : Int) / 2 ^ k = 0) ↔ v / 2 ^ k = 0 := by
  have : (v : Int) / 2 ^ k = ((v / 2 ^ k : Nat) : Int) := by simp
  rw [this]; omega

set_option maxHeartbeats 4000000 in
theorem Put_ok {ro : Nat} {M : AM} {p q : Nat} {l : List Bool} {v : Nat} {n : Int} (hp : ro ≤ p) (hq : ro ≤ q) (h : WrAt M p q l) (hv : v < 2 ^ 64) (hn : InR .i64 n) (hl : l.length ≤ 134217728) :
    FnC Try.prog tables ro 9 [.pointer (some ⟨p, 0, none⟩), .int .u64 v, .int .i64 n] M (fun r M' => r = .int .i64 (putE l v n).1 ∧ WPost ro M M' p q (putE l v n).2) := by
  refine FnC.body (nt := 35) ok hm fn9 rfl rfl ?_
  have hrow := h.row
  simp only [InR] at hn
  by_cases h1 : n < 0
  · have e : putE l v n = (1, l) := by unfold putE; rw [if_pos (.inl h1)]
    rw [e]
    (repeat (first
    | refine Ex.seq ok hm ?_
    | refine Ex.block ok hm ?_
    | refine Ex.region ok hm ?_
    | refine Sq.pu ok hm Want.none (by first
    | exact Pu.move rfl
    | exact Pu.assign rfl
    | exact Pu.lssI rfl rfl
    | exact Pu.eqlP hT rfl rfl rfl
    | exact Pu.pickT rfl (by first
    | rfl
    | exact decide_eq_true (by omega)) rfl) rfl ?_
    | refine Sq.skip ok hm (by exact Want.no rfl rfl rfl (by first
    | rfl
    | exact decide_eq_true (by omega))) rfl ?_
    | refine Sq.finH (n := 8) ok hm (by repeat (first
    | exact Keep.nil
    | apply Keep.drop rfl
    | apply Keep.keep rfl)) ?_
    | refine Ex.condT ok hm rfl (by rfl) ?_
    | refine Ex.condF ok hm rfl (by rfl) ?_
    | refine Ex.ret ok hm ?_))
    exact ⟨_, .tmp rfl .nil, rfl, WPost.same h hq⟩
  · by_cases h2 : 64 < n
    · have e : putE l v n = (1, l) := by unfold putE; rw [if_pos (.inr (.inl h2))]
      rw [e]
      (repeat (first
    | refine Ex.seq ok hm ?_
    | refine Ex.block ok hm ?_
    | refine Ex.region ok hm ?_
    | refine Sq.pu ok hm Want.none (by first
    | exact Pu.move rfl
    | exact Pu.assign rfl
    | exact Pu.lssI rfl rfl
    | exact Pu.gtrI rfl rfl
    | exact Pu.eqlP hT rfl rfl rfl
    | exact Pu.pickT rfl (by first
    | rfl
    | exact decide_eq_true (by omega)) rfl
    | exact Pu.pickF rfl (by first
    | rfl
    | exact decide_eq_false (by omega)) rfl) rfl ?_
    | refine Sq.pu ok hm (by exact Want.yes rfl rfl rfl (by first
    | rfl
    | exact decide_eq_false (by omega))) (by first
    | exact Pu.move rfl
    | exact Pu.gtrI rfl rfl) rfl ?_
    | refine Sq.skip ok hm (by exact Want.no rfl rfl rfl (by first
    | rfl
    | exact decide_eq_true (by omega))) rfl ?_
    | refine Sq.finH (n := 8) ok hm (by repeat (first
    | exact Keep.nil
    | apply Keep.drop rfl
    | apply Keep.keep rfl)) ?_
    | refine Ex.condT ok hm rfl (by rfl) ?_
    | refine Ex.condF ok hm rfl (by rfl) ?_
    | refine Ex.ret ok hm ?_))
      exact ⟨_, .tmp rfl .nil, rfl, WPost.same h hq⟩
    · (repeat (first
    | refine Ex.seq ok hm ?_
    | refine Ex.block ok hm ?_
    | refine Ex.region ok hm ?_
    | refine Sq.pu ok hm Want.none (by first
    | exact Pu.move rfl
    | exact Pu.assign rfl
    | exact Pu.lssI rfl rfl
    | exact Pu.gtrI rfl rfl
    | exact Pu.eqlP hT rfl rfl rfl
    | exact Pu.pickF rfl (by first
    | rfl
    | exact decide_eq_false (by omega)) rfl) rfl ?_
    | refine Sq.pu ok hm (by exact Want.yes rfl rfl rfl (by first
    | rfl
    | exact decide_eq_false (by omega))) (by first
    | exact Pu.move rfl
    | exact Pu.gtrI rfl rfl) rfl ?_
    | refine Sq.finH (n := 8) ok hm (by repeat (first
    | exact Keep.nil
    | apply Keep.drop rfl
    | apply Keep.keep rfl)) ?_
    | refine Ex.condF ok hm rfl (by rfl) ?_))
      refine Sq.call ok (by exact Want.yes rfl rfl rfl (by exact decide_eq_false (by omega))) (Op1.call rfl rfl fn34) rfl (FnC.mono (fits_ok (by omega) (by omega)) ?_)
      rintro r M' ⟨rfl, rfl⟩
      by_cases h3 : 64 ≤ n ∨ (v : Int) / 2 ^ n.toNat = 0
      · have h3' : ¬ (n < 0 ∨ 64 < n ∨ (n < 64 ∧ v / 2 ^ n.toNat ≠ 0)) := by
          rintro (k | k | ⟨k1, k2⟩)
          · omega
          · omega
          · rcases h3 with k | k
            · omega
            · exact k2 ((cast_div v n.toNat).1 k)
        by_cases h4 : 134217728 - (l.length : Int) < n
        · have e : putE l v n = (3, l) := by unfold putE; rw [if_neg h3', if_pos h4]
          rw [e]
          rw [decide_eq_true h3]
          (repeat (first
    | refine Ex.seq ok hm ?_
    | refine Ex.region ok hm ?_
    | refine Sq.pu ok hm Want.none (by first
    | exact Pu.move rfl
    | exact Pu.assign rfl
    | exact Pu.nilCheck rfl
    | exact Pu.fieldAddr hT rfl rfl rfl rfl rfl
    | (apply Pu.load hT rfl rfl rfl; (focus ((repeat (assumption)))); (focus rfl))
    | exact Pu.sub rfl rfl (by simp only [InR]; omega)
    | exact Pu.gtrI rfl rfl
    | exact Pu.not rfl
    | exact Pu.pickF rfl (by first
    | rfl
    | exact decide_eq_false (by omega)) rfl) rfl ?_
    | refine Sq.pu ok hm (by exact Want.yes rfl rfl rfl (by first
    | rfl
    | exact decide_eq_false (by omega))) (by exact Pu.not rfl) rfl ?_
    | refine Sq.finH (n := 8) ok hm (by repeat (first
    | exact Keep.nil
    | apply Keep.drop rfl
    | apply Keep.keep rfl)) ?_
    | refine Ex.condT ok hm rfl (by first
    | rfl
    | exact decide_eq_true (by omega)) ?_
    | refine Ex.condF ok hm rfl (by rfl) ?_
    | refine Ex.ret ok hm ?_))
          exact ⟨_, .tmp rfl .nil, rfl, WPost.same h hq⟩
        · have e : putE l v n = (0, l ++ ofN v n.toNat) := by unfold putE; rw [if_neg h3', if_neg h4]
          rw [e]
          rw [decide_eq_true h3]
          (repeat (first
    | refine Ex.seq ok hm ?_
    | refine Ex.skip ok hm ?_
    | refine Ex.region ok hm ?_
    | refine Sq.pu ok hm Want.none (by first
    | exact Pu.move rfl
    | exact Pu.assign rfl
    | exact Pu.nilCheck rfl
    | exact Pu.fieldAddr hT rfl rfl rfl rfl rfl
    | (apply Pu.load hT rfl rfl rfl; (focus ((repeat (assumption)))); (focus rfl))
    | exact Pu.sub rfl rfl (by simp only [InR]; omega)
    | exact Pu.gtrI rfl rfl
    | exact Pu.not rfl
    | exact Pu.pickF rfl (by first
    | rfl
    | exact decide_eq_false (by omega)) rfl) rfl ?_
    | refine Sq.pu ok hm (by first
    | exact Want.none
    | exact Want.yes rfl rfl rfl (by first
    | rfl
    | exact decide_eq_false (by omega))) (by exact Pu.not rfl) rfl ?_
    | refine Sq.finH (n := 8) ok hm (by repeat (first
    | exact Keep.nil
    | apply Keep.drop rfl
    | apply Keep.keep rfl)) ?_
    | refine Ex.condF ok hm rfl (by first
    | rfl
    | exact decide_eq_false (by omega)) ?_))
          have hn2 : (.int .i64 n : Value) = .int .i64 (n.toNat : Int) := by rw [show ((n.toNat : Nat) : Int) = n by omega]
          refine Sq.call ok Want.none (Op1.call rfl rfl fn35) rfl ?_
          show FnC Try.prog tables ro 35 [.pointer (some ⟨p, 0, none⟩), .int .u64 v, .int .i64 n] _ _
          rw [hn2]
          refine FnC.mono (put_ok hp hq h hv (by omega) (by omega)) ?_
          rintro r M' hpost
          (repeat (first
    | refine Ex.seq ok hm ?_
    | refine Ex.region ok hm ?_
    | refine Sq.pu ok hm Want.none (by exact Pu.assign rfl) rfl ?_
    | refine Sq.finH (n := 8) ok hm (by repeat (first
    | exact Keep.nil
    | apply Keep.drop rfl
    | apply Keep.keep rfl)) ?_
    | refine Ex.ret ok hm ?_))
          exact ⟨_, .tmp rfl .nil, rfl, hpost⟩
      · have h3' : n < 0 ∨ 64 < n ∨ (n < 64 ∧ v / 2 ^ n.toNat ≠ 0) := by
          refine .inr (.inr ⟨by omega, fun k => h3 (.inr ((cast_div v n.toNat).2 k))⟩)
        have e : putE l v n = (1, l) := by unfold putE; rw [if_pos h3']
        rw [e]
        rw [decide_eq_false h3]
        (repeat (first
    | refine Ex.seq ok hm ?_
    | refine Ex.region ok hm ?_
    | refine Sq.pu ok hm Want.none (by first
    | exact Pu.assign rfl
    | exact Pu.not rfl
    | exact Pu.pickF rfl (by first
    | rfl
    | exact decide_eq_false (by omega)) rfl) rfl ?_
    | refine Sq.pu ok hm (by exact Want.yes rfl rfl rfl (by first
    | rfl
    | exact decide_eq_false (by omega))) (by exact Pu.not rfl) rfl ?_
    | refine Sq.finH (n := 8) ok hm (by repeat (first
    | exact Keep.nil
    | apply Keep.drop rfl
    | apply Keep.keep rfl)) ?_
    | refine Ex.condT ok hm rfl (by rfl) ?_
    | refine Ex.ret ok hm ?_))
        exact ⟨_, .tmp rfl .nil, rfl, WPost.same h hq⟩

theorem ofN_bool (b : Bool) : ofN b.toNat 1 = [b] := by cases b <;> rfl

set_option maxHeartbeats 4000000 in
theorem Bit_ok {ro : Nat} {M : AM} {p q : Nat} {l : List Bool} {b : Bool} (hp : ro ≤ p) (hq : ro ≤ q) (h : WrAt M p q l) (hl : l.length ≤ 134217728) :
    FnC Try.prog tables ro 29 [.pointer (some ⟨p, 0, none⟩), .bool b] M (fun r M' => r = .int .i64 (if 134217728 ≤ l.length then 3 else 0) ∧ WPost ro M M' p q (if 134217728 ≤ l.length then l else l ++ [b])) := by
  refine FnC.body (nt := 17) ok hm fn29 rfl rfl ?_
  have hrow := h.row
  by_cases h1 : 134217728 ≤ l.length
  · rw [if_pos h1, if_pos h1]
    (repeat (first
    | refine Ex.seq ok hm ?_
    | refine Ex.skip ok hm ?_
    | refine Ex.region ok hm ?_
    | refine Sq.pu ok hm Want.none (by first
    | exact Pu.move rfl
    | exact Pu.assign rfl
    | exact Pu.nilCheck rfl
    | exact Pu.fieldAddr hT rfl rfl rfl rfl rfl
    | (apply Pu.load hT rfl rfl rfl; (focus ((repeat (assumption)))); (focus rfl))
    | exact Pu.geqI rfl rfl
    | exact Pu.eqlP hT rfl rfl rfl) rfl ?_
    | refine Sq.finH (n := 5) ok hm (by repeat (first
    | exact Keep.nil
    | apply Keep.drop rfl
    | apply Keep.keep rfl)) ?_
    | refine Ex.condT ok hm rfl (by first
    | rfl
    | exact decide_eq_true (by omega)) ?_
    | refine Ex.condF ok hm rfl (by rfl) ?_
    | refine Ex.ret ok hm ?_))
    exact ⟨_, .tmp rfl .nil, rfl, WPost.same h hq⟩
  · rw [if_neg h1, if_neg h1]
    have hb := ofN_bool b
    cases b with
    | true =>
      (repeat (first
    | refine Ex.seq ok hm ?_
    | refine Ex.skip ok hm ?_
    | refine Ex.region ok hm ?_
    | refine Sq.pu ok hm Want.none (by first
    | exact Pu.move rfl
    | exact Pu.assign rfl
    | exact Pu.nilCheck rfl
    | exact Pu.fieldAddr hT rfl rfl rfl rfl rfl
    | (apply Pu.load hT rfl rfl rfl; (focus ((repeat (assumption)))); (focus rfl))
    | exact Pu.geqI rfl rfl
    | exact Pu.eqlP hT rfl rfl rfl) rfl ?_
    | refine Sq.finH (n := 5) ok hm (by repeat (first
    | exact Keep.nil
    | apply Keep.drop rfl
    | apply Keep.keep rfl)) ?_
    | refine Ex.condT ok hm rfl (by rfl) ?_
    | refine Ex.condF ok hm rfl (by first
    | rfl
    | exact decide_eq_false (by omega)) ?_))
      refine Sq.call ok Want.none (Op1.call rfl rfl fn35) rfl (FnC.mono (put_ok (v := 1) (n := 1) hp hq h (by decide) (by decide) (by omega)) ?_)
      rintro r M' hpost
      (repeat (first
    | refine Ex.seq ok hm ?_
    | refine Ex.region ok hm ?_
    | refine Sq.pu ok hm Want.none (by exact Pu.assign rfl) rfl ?_
    | refine Sq.finH (n := 5) ok hm (by repeat (first
    | exact Keep.nil
    | apply Keep.drop rfl
    | apply Keep.keep rfl)) ?_
    | refine Ex.ret ok hm ?_))
      exact ⟨_, .tmp rfl .nil, rfl, hpost⟩
    | false =>
      (repeat (first
    | refine Ex.seq ok hm ?_
    | refine Ex.skip ok hm ?_
    | refine Ex.region ok hm ?_
    | refine Sq.pu ok hm Want.none (by first
    | exact Pu.move rfl
    | exact Pu.assign rfl
    | exact Pu.nilCheck rfl
    | exact Pu.fieldAddr hT rfl rfl rfl rfl rfl
    | (apply Pu.load hT rfl rfl rfl; (focus ((repeat (assumption)))); (focus rfl))
    | exact Pu.geqI rfl rfl
    | exact Pu.eqlP hT rfl rfl rfl) rfl ?_
    | refine Sq.finH (n := 5) ok hm (by repeat (first
    | exact Keep.nil
    | apply Keep.drop rfl
    | apply Keep.keep rfl)) ?_
    | refine Ex.condF ok hm rfl (by first
    | rfl
    | exact decide_eq_false (by omega)) ?_))
      refine Sq.call ok Want.none (Op1.call rfl rfl fn35) rfl (FnC.mono (put_ok (v := 0) (n := 1) hp hq h (by decide) (by decide) (by omega)) ?_)
      rintro r M' hpost
      (repeat (first
    | refine Ex.seq ok hm ?_
    | refine Ex.region ok hm ?_
    | refine Sq.pu ok hm Want.none (by exact Pu.assign rfl) rfl ?_
    | refine Sq.finH (n := 5) ok hm (by repeat (first
    | exact Keep.nil
    | apply Keep.drop rfl
    | apply Keep.keep rfl)) ?_
    | refine Ex.ret ok hm ?_))
      exact ⟨_, .tmp rfl .nil, rfl, hpost⟩
end Go.Proofs.Ytncpdgjlhdbdpaa
