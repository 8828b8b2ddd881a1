/- Towards the laws of this seat: contracts of the program's functions in a logic over a small machine (text XAdd). No condition. -/
import Derived.Test.YtncpdgjlhdbdpaaXRef3
namespace Go.Proofs.Ytncpdgjlhdbdpaa
open Go.Wvm Bits
set_option linter.unusedVariables false
set_option linter.unusedSimpArgs false

theorem FnC.cast {P : Program} {vp : VP} {ro : Nat} {g : FuncId} {a b : List Value} {M : AM} {Q : Value → AM → Prop} (h : FnC P vp ro g a M Q) (e : a = b) : FnC P vp ro g b M Q := e ▸ h

set_option maxHeartbeats 4000000 in
theorem Add_ok {ro : Nat} {M : AM} {p q : Nat} {l : List Bool} {s : List UInt8} {n : Int} (hp : ro ≤ p) (hq : ro ≤ q) (h : WrAt M p q l) (hs : s.length ≤ 1048576) (hn : InR .i64 n) (hl : l.length ≤ 134217728) :
    FnC Try.prog tables ro 32 [.pointer (some ⟨p, 0, none⟩), .string ⟨⟨s⟩⟩, .int .i64 n] M (fun r M' => r = .int .i64 (addE l s n).1 ∧ WPost ro M M' p q (addE l s n).2) := by
  refine FnC.facts fun hlt hron => ?_
  refine FnC.body (nt := 57) ok hm fn32 rfl rfl ?_
  have hrow := h.row
  simp only [InR] at hn
  by_cases h1 : n < 0
  · have e : addE l s n = (1, l) := by unfold addE; rw [if_pos (.inl h1)]
    rw [e]
    (repeat (first
    | refine Ex.seq ok hm ?_
    | refine Ex.block ok hm ?_
    | refine Ex.region ok hm ?_
    | refine Sq.pu ok hm Want.none (by first
    | exact Pu.move rfl
    | exact Pu.assign rfl
    | exact Pu.lssI rfl rfl
    | exact Pu.eqlP hT rfl rfl rfl
    | exact Pu.pickT rfl (by first
    | rfl
    | exact decide_eq_true (by omega)) rfl) rfl ?_
    | refine Sq.skip ok hm (by exact Want.no rfl rfl rfl (by first
    | rfl
    | exact decide_eq_true (by omega))) rfl ?_
    | refine Sq.finH (n := 9) ok hm (by repeat (first
    | exact Keep.nil
    | apply Keep.drop rfl
    | apply Keep.keep rfl)) ?_
    | refine Ex.condT ok hm rfl (by rfl) ?_
    | refine Ex.condF ok hm rfl (by rfl) ?_
    | refine Ex.ret ok hm ?_))
    exact ⟨_, .tmp rfl .nil, rfl, WPost.same h hq⟩
  · by_cases h2 : 8 * (s.length : Int) < n
    · have e : addE l s n = (1, l) := by unfold addE; rw [if_pos (.inr h2)]
      rw [e]
      (repeat (first
    | refine Ex.seq ok hm ?_
    | refine Ex.block ok hm ?_
    | refine Ex.region ok hm ?_
    | refine Sq.pu ok hm Want.none (by first
    | exact Pu.move rfl
    | exact Pu.assign rfl
    | exact Pu.lssI rfl rfl
    | exact Pu.gtrI rfl rfl
    | exact Pu.lenS hT rfl rfl
    | exact Pu.mul rfl rfl (by simp only [InR]; omega)
    | exact Pu.eqlP hT rfl rfl rfl
    | exact Pu.pickF rfl (by first
    | rfl
    | exact decide_eq_false (by omega)) rfl) rfl ?_
    | refine Sq.pu ok hm (by exact Want.yes rfl rfl rfl (by first
    | rfl
    | exact decide_eq_false (by omega))) (by first
    | exact Pu.move rfl
    | exact Pu.gtrI rfl rfl
    | exact Pu.lenS hT rfl rfl
    | exact Pu.mul rfl rfl (by simp only [InR]; omega)) rfl ?_
    | refine Sq.finH (n := 9) ok hm (by repeat (first
    | exact Keep.nil
    | apply Keep.drop rfl
    | apply Keep.keep rfl)) ?_
    | refine Ex.condT ok hm rfl (by first
    | rfl
    | exact decide_eq_true (by omega)) ?_
    | refine Ex.condF ok hm rfl (by rfl) ?_
    | refine Ex.ret ok hm ?_))
      exact ⟨_, .tmp rfl .nil, rfl, WPost.same h hq⟩
    · by_cases h3 : 134217728 - (l.length : Int) < n
      · have e : addE l s n = (3, l) := by unfold addE; rw [if_neg (by omega), if_pos h3]
        rw [e]
        (repeat (first
    | refine Ex.seq ok hm ?_
    | refine Ex.block ok hm ?_
    | refine Ex.region ok hm ?_
    | refine Sq.pu ok hm Want.none (by first
    | exact Pu.move rfl
    | exact Pu.assign rfl
    | exact Pu.nilCheck rfl
    | exact Pu.fieldAddr hT rfl rfl rfl rfl rfl
    | (apply Pu.load hT rfl rfl rfl; (focus ((repeat (assumption)))); (focus rfl))
    | exact Pu.sub rfl rfl (by simp only [InR]; omega)
    | exact Pu.lssI rfl rfl
    | exact Pu.gtrI rfl rfl
    | exact Pu.lenS hT rfl rfl
    | exact Pu.mul rfl rfl (by simp only [InR]; omega)
    | exact Pu.eqlP hT rfl rfl rfl
    | exact Pu.pickF rfl (by first
    | rfl
    | exact decide_eq_false (by omega)) rfl) rfl ?_
    | refine Sq.pu ok hm (by exact Want.yes rfl rfl rfl (by first
    | rfl
    | exact decide_eq_false (by omega))) (by first
    | exact Pu.move rfl
    | exact Pu.gtrI rfl rfl
    | exact Pu.lenS hT rfl rfl
    | exact Pu.mul rfl rfl (by simp only [InR]; omega)) rfl ?_
    | refine Sq.finH (n := 9) ok hm (by repeat (first
    | exact Keep.nil
    | apply Keep.drop rfl
    | apply Keep.keep rfl)) ?_
    | refine Ex.condT ok hm rfl (by first
    | rfl
    | exact decide_eq_true (by omega)) ?_
    | refine Ex.condF ok hm rfl (by first
    | rfl
    | exact decide_eq_false (by omega)) ?_
    | refine Ex.ret ok hm ?_))
        exact ⟨_, .tmp rfl .nil, rfl, WPost.same h hq⟩
      · have e : addE l s n = (0, l ++ (Bits.bitsOf s).take n.toNat) := by unfold addE; rw [if_neg (by omega), if_neg h3]
        rw [e]
        obtain ⟨m, rfl⟩ : ∃ m : Nat, n = (m : Int) := ⟨n.toNat, by omega⟩
        rw [Int.toNat_natCast]
        have hbl := Bits.bitsOf_length s
        (repeat (first
    | refine Ex.seq ok hm ?_
    | refine Ex.block ok hm ?_
    | refine Ex.skip ok hm ?_
    | refine Ex.region ok hm ?_
    | refine Sq.pu ok hm Want.none (by first
    | exact Pu.move rfl
    | exact Pu.assign rfl
    | exact Pu.nilCheck rfl
    | exact Pu.fieldAddr hT rfl rfl rfl rfl rfl
    | (apply Pu.load hT rfl rfl rfl; (focus ((repeat (assumption)))); (focus rfl))
    | exact Pu.sub rfl rfl (by simp only [InR]; omega)
    | exact Pu.quo rfl rfl (by omega) (by omega) (by simp only [InR]; omega)
    | exact Pu.lssI rfl rfl
    | exact Pu.gtrI rfl rfl
    | exact Pu.lenS hT rfl rfl
    | exact Pu.mul rfl rfl (by simp only [InR]; omega)
    | exact Pu.eqlP hT rfl rfl rfl
    | exact Pu.pickF rfl (by rfl) rfl) rfl ?_
    | refine Sq.pu ok hm (by exact Want.yes rfl rfl rfl (by rfl)) (by first
    | exact Pu.move rfl
    | exact Pu.gtrI rfl rfl
    | exact Pu.lenS hT rfl rfl
    | exact Pu.mul rfl rfl (by simp only [InR]; omega)) rfl ?_
    | refine Sq.finH (n := 33) ok hm (by repeat (first
    | exact Keep.nil
    | apply Keep.keep rfl)) ?_
    | refine Ex.condF ok hm rfl (by first
    | rfl
    | exact decide_eq_false (by omega)) ?_))
        refine Ex.loop ?_
        refine Lp.inv ok hm (α := Nat × Nat)
          (fun x E M' => E = [(32, .int .i64 x.1), (31, .int .i64 ((m : Int) / 8)), (0, .pointer (some ⟨p, 0, none⟩)), (1, .string ⟨⟨s⟩⟩), (2, .int .i64 m)] ∧ x.1 ≤ m / 8 ∧ WrAt M' p x.2 (l ++ (Bits.bitsOf s).take (8 * x.1)) ∧ Fr M M' [p, q] ∧ (x.2 = q ∨ M.next ≤ x.2) ∧ ro ≤ x.2)
          (fun x => m / 8 - x.1) ?_ (0, q) [(32, .int .i64 (0 : Nat)), (31, .int .i64 ((m : Int) / 8)), (0, .pointer (some ⟨p, 0, none⟩)), (1, .string ⟨⟨s⟩⟩), (2, .int .i64 m)] ⟨rfl, rfl, rfl, rfl, rfl, trivial⟩ ⟨rfl, Nat.zero_le _, by simpa using h, Fr.refl _ _, .inl rfl, hq⟩
        intro ⟨i, q1⟩ E M1 ⟨hE, hi, hW, hF, hq1, hro⟩
        simp only at hE hi hW hq1 hro
        subst hE
        have hlen1 : (l ++ (Bits.bitsOf s).take (8 * i)).length = l.length + 8 * i := by rw [List.length_append, List.length_take, hbl]; omega
        by_cases him : i = m / 8
        · subst him
          by_cases hr : m % 8 = 0
          · (repeat (first
    | refine Ex.seq ok hm ?_
    | refine Ex.skip ok hm ?_
    | refine Ex.region ok hm ?_
    | refine Sq.pu ok hm Want.none (by first
    | exact Pu.move rfl
    | exact Pu.assign rfl
    | exact Pu.rem rfl rfl (by omega) (by omega)
    | exact Pu.lssI rfl rfl
    | exact Pu.gtrI rfl rfl) rfl ?_
    | refine Sq.finH (n := 9) ok hm (by repeat (first
    | exact Keep.nil
    | apply Keep.drop rfl
    | apply Keep.keep rfl)) ?_
    | refine Ex.condF ok hm rfl (by first
    | rfl
    | exact decide_eq_false (by omega)) ?_
    | refine Ex.ret ok hm ?_
    | refine Ex.exit ok hm ?_))
            refine ⟨_, .tmp rfl .nil, rfl, q1, ?_, hF, hq1, hro⟩
            have e8 : 8 * (m / 8) = m := by omega
            rw [e8] at hW; exact hW
          · have hby : (s.getD (m / 8) 0).toNat < 256 := (s.getD (m / 8) 0).toNat_lt
            have hd := div_bd (s.getD (m / 8) 0).toNat (8 - (m : Int) % 8).toNat
            (repeat (first
    | refine Ex.seq ok hm ?_
    | refine Ex.region ok hm ?_
    | refine Sq.pu ok hm Want.none (by first
    | exact Pu.move rfl
    | exact Pu.assign rfl
    | exact Pu.sub rfl rfl (by simp only [InR]; omega)
    | exact Pu.rem rfl rfl (by omega) (by omega)
    | exact Pu.quo rfl rfl (by omega) (by omega) (by simp only [InR]; omega)
    | exact Pu.lssI rfl rfl
    | exact Pu.gtrI rfl rfl
    | exact Pu.indexS hT rfl rfl rfl (by omega) (by omega)) rfl ?_
    | refine Sq.finH (n := 9) ok hm (by repeat (first
    | exact Keep.nil
    | apply Keep.drop rfl
    | apply Keep.keep rfl)) ?_
    | refine Ex.condT ok hm rfl (by first
    | rfl
    | exact decide_eq_true (by omega)) ?_
    | refine Ex.condF ok hm rfl (by first
    | rfl
    | exact decide_eq_false (by omega)) ?_
    | refine Ex.exit ok hm ?_))
            rw [show ((m : Int) / 8).toNat = m / 8 by omega]
            (repeat (refine Sq.pu ok hm Want.none (by first
    | exact Pu.move rfl
    | exact Pu.convN hT rfl rfl rfl (by simp only [InR]; omega)
    | exact Pu.shr rfl rfl (by omega) (by omega) (by simp only [InR]; omega)) rfl ?_))
            have e1 : (((s.getD (m / 8) 0).toNat : Nat) : Int) / 2 ^ (8 - (m : Int) % 8).toNat = (((s.getD (m / 8) 0).toNat / 2 ^ (8 - m % 8) : Nat) : Int) := by
              rw [show (8 - (m : Int) % 8).toNat = 8 - m % 8 by omega]; simp
            have hdl : (s.getD (m / 8) 0).toNat / 2 ^ (8 - m % 8) ≤ (s.getD (m / 8) 0).toNat := Nat.div_le_self _ _
            refine Sq.call ok Want.none (Op1.call rfl rfl fn35) rfl (FnC.mono (FnC.cast (put_ok (v := (s.getD (m / 8) 0).toNat / 2 ^ (8 - m % 8)) (n := m % 8) hp hro hW (by omega) (by omega) (by rw [hlen1]; omega)) (by rw [e1, show ((m % 8 : Nat) : Int) = (m : Int) % 8 by omega]; rfl)) ?_)
            rintro r M2 ⟨q2, hW2, hF2, hq2, hro2⟩
            (repeat (first
    | refine Ex.seq ok hm ?_
    | refine Ex.region ok hm ?_
    | refine Sq.pu ok hm Want.none (by exact Pu.assign rfl) rfl ?_
    | refine Sq.finH (n := 9) ok hm (by repeat (first
    | exact Keep.nil
    | apply Keep.drop rfl
    | apply Keep.keep rfl)) ?_
    | refine Ex.ret ok hm ?_))
            refine ⟨_, .tmp rfl .nil, rfl, q2, ?_, hF.trans hF2 ?_, ?_, hro2⟩
            · have := Bits.bitsOf_take_rest s (m / 8) (m % 8) (by omega) (by omega)
              rw [show 8 * (m / 8) + m % 8 = m by omega] at this
              rw [this, ← List.append_assoc]; exact hW2
            · intro b hb
              simp only [List.mem_cons, List.not_mem_nil, or_false] at hb
              rcases hb with rfl | rfl
              · left; simp
              · rcases hq1 with h | h
                · left; rw [h]; simp
                · right; exact h
            · have := hF.next
              rcases hq2 with h | h
              · rw [h]; exact hq1
              · right; omega
        · have hby : (s.getD i 0).toNat < 256 := (s.getD i 0).toNat_lt
          have hby2 : (s.getD (i : Int).toNat 0).toNat < 256 := (s.getD (i : Int).toNat 0).toNat_lt
          (repeat (first
    | refine Ex.seq ok hm ?_
    | refine Ex.block ok hm ?_
    | refine Ex.skip ok hm ?_
    | refine Ex.region ok hm ?_
    | refine Sq.pu ok hm Want.none (by first
    | exact Pu.move rfl
    | exact Pu.assign rfl
    | exact Pu.lssI rfl rfl
    | exact Pu.convN hT rfl rfl rfl (by simp only [InR]; omega)
    | exact Pu.indexS hT rfl rfl rfl (by omega) (by omega)) rfl ?_
    | refine Sq.finH (n := 33) ok hm (by repeat (first
    | exact Keep.nil
    | apply Keep.drop rfl
    | apply Keep.keep rfl)) ?_
    | refine Ex.condT ok hm rfl (by first
    | rfl
    | exact decide_eq_true (by omega)) ?_))
          rw [Int.toNat_natCast]
          (repeat (fail))
          refine Sq.call ok Want.none (Op1.call rfl rfl fn35) rfl (FnC.mono (put_ok (v := (s.getD i 0).toNat) (n := 8) hp hro hW (by omega) (by omega) (by rw [hlen1]; omega)) ?_)
          rintro r M2 ⟨q2, hW2, hF2, hq2, hro2⟩
          (repeat (first
    | refine Ex.region ok hm ?_
    | refine Sq.pu ok hm Want.none (by first
    | exact Pu.move rfl
    | exact Pu.add rfl rfl (by simp only [InR]; omega)) rfl ?_
    | refine Sq.finH (n := 33) ok hm (by repeat (first
    | exact Keep.nil
    | apply Keep.drop rfl
    | apply Keep.keep rfl)) ?_))
          refine ⟨(i + 1, q2), [(32, .int .i64 ((i : Int) + 1)), (31, .int .i64 ((m : Int) / 8)), (0, .pointer (some ⟨p, 0, none⟩)), (1, .string ⟨⟨s⟩⟩), (2, .int .i64 m)], by simp only; omega, ⟨rfl, rfl, rfl, rfl, rfl, trivial⟩, ?_, by simp only; omega, ?_, hF.trans hF2 ?_, ?_, hro2⟩
          · simp only
            rw [show ((i + 1 : Nat) : Int) = (i : Int) + 1 by omega]
          · simp only
            rw [Bits.bitsOf_take_succ s i (by omega), ← List.append_assoc]; exact hW2
          · intro b hb
            simp only [List.mem_cons, List.not_mem_nil, or_false] at hb
            rcases hb with rfl | rfl
            · left; simp
            · rcases hq1 with h | h
              · left; rw [h]; simp
              · right; exact h
          · have := hF.next
            simp only
            rcases hq2 with h | h
            · rw [h]; exact hq1
            · right; omega
end Go.Proofs.Ytncpdgjlhdbdpaa
