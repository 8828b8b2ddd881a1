/- Towards the laws of this seat: contracts of the program's functions in a logic over a small machine (text XLaw). No condition. -/
import Derived.Test.YtncpdgjlhdbdpaaXAdd
namespace Go.Proofs.Ytncpdgjlhdbdpaa
open Go.Wvm Bits
set_option linter.unusedVariables false
set_option linter.unusedSimpArgs false

theorem packL_ne {l : List Bool} : packL l ≠ [] ↔ l ≠ [] := by
  constructor
  · intro h e; rw [e] at h; exact h rfl
  · intro h e
    have := packL_length l
    rw [e] at this
    have h2 : l.length ≠ 0 := fun k => h (List.length_eq_zero_iff.1 k)
    simp at this; omega

/-- A block's number that nobody has, for a list that is empty. -/
def pick (M : AM) (q : Nat) (l : List Bool) : Nat := if l = [] then M.next else q
structure St (ro : Nat) (M : AM) (p q r c : Nat) (l : List Bool) : Prop where
  w : WrAt M p q l
  d : RwAt M r c l
  pr : p ≠ r
  lt : p < M.next ∧ r < M.next
  hro : ro ≤ p ∧ ro ≤ r
  ne : l ≠ [] → q < M.next ∧ c < M.next ∧ q ≠ c ∧ q ≠ r ∧ p ≠ c ∧ ro ≤ q ∧ ro ≤ c
def foot (p q r c : Nat) (l : List Bool) : List Nat := if l = [] then [p, r] else [p, r, q, c]

theorem WrAt.re {M : AM} {p q : Nat} {l : List Bool} (h : WrAt M p q l) (hp : p < M.next) : WrAt M p (pick M q l) l := by
  unfold pick
  by_cases hl : l = []
  · subst hl
    rw [if_pos rfl]
    exact ⟨h.row, fun k => absurd rfl k, by omega⟩
  · rw [if_neg hl]; exact h
theorem RwAt.re {M : AM} {p q : Nat} {l : List Bool} (h : RwAt M p q l) (hp : p < M.next) : RwAt M p (pick M q l) l := by
  unfold pick
  by_cases hl : l = []
  · subst hl
    rw [if_pos rfl]
    exact ⟨h.row, fun k => absurd rfl k, by omega⟩
  · rw [if_neg hl]; exact h
theorem WrAt.frame {M M' : AM} {p q : Nat} {l : List Bool} {S : List Nat} (h : WrAt M p q l) (f : Fr M M' S) (hp : p < M.next) (hq : l ≠ [] → q < M.next) (h1 : p ∉ S) (h2 : l ≠ [] → q ∉ S) : WrAt M' p q l :=
  ⟨(f.get p hp h1).trans h.row, fun k => (f.get q (hq (packL_ne.1 k)) (h2 (packL_ne.1 k))).trans (h.buf k), h.ne⟩
theorem RwAt.frame {M M' : AM} {p q : Nat} {l : List Bool} {S : List Nat} (h : RwAt M p q l) (f : Fr M M' S) (hp : p < M.next) (hq : l ≠ [] → q < M.next) (h1 : p ∉ S) (h2 : l ≠ [] → q ∉ S) : RwAt M' p q l :=
  ⟨(f.get p hp h1).trans h.row, fun k => (f.get q (hq k) (h2 k)).trans (h.buf k), h.ne⟩

/-- Behind the program's call. -/
theorem St.mid {ro : Nat} {M M2 : AM} {p q r c : Nat} {l l' : List Bool} (h : St ro M p q r c l) (hron : ro ≤ M.next) (h2 : WPost ro M M2 p (pick M q l) l') : RwAt M2 r (pick M2 c l) l ∧ ro ≤ pick M2 c l := by
  obtain ⟨q', hw, hf, hq, hr⟩ := h2
  have hnx := hf.next
  have h3 := h.lt
  have h4 := h.pr
  have : RwAt M2 r c l := by
    refine h.d.frame hf h.lt.2 (fun k => (h.ne k).2.1) ?_ fun k => ?_
    · unfold pick
      by_cases hl : l = []
      · rw [if_pos hl]; simp; omega
      · rw [if_neg hl]; have := h.ne hl; simp; omega
    · unfold pick
      rw [if_neg k]; have := h.ne k; simp; omega
  refine ⟨this.re (by omega), ?_⟩
  unfold pick
  by_cases hl : l = []
  · rw [if_pos hl]; omega
  · rw [if_neg hl]; exact (h.ne hl).2.2.2.2.2.2
/-- .. and behind the document's. -/
theorem St.fin {ro : Nat} {M M2 M3 : AM} {p q r c : Nat} {l l' : List Bool} (h : St ro M p q r c l) (hron : ro ≤ M.next) (h2 : WPost ro M M2 p (pick M q l) l') (h3 : RPost ro M2 M3 r (pick M2 c l) l')
    (b2 : ∀ b a, M2.get b = some a → b < M2.next) (b3 : ∀ b a, M3.get b = some a → b < M3.next) :
    ∃ q' c', St ro M3 p q' r c' l' ∧ Fr M M3 (foot p q r c l) ∧ (l' ≠ [] → (q' = q ∧ l ≠ [] ∨ M.next ≤ q') ∧ (c' = c ∧ l ≠ [] ∨ M.next ≤ c')) := by
  obtain ⟨q', hw, hf, hq, hr⟩ := h2
  obtain ⟨c', hd, hg, hc, hs⟩ := h3
  have hnx := hf.next
  have hnx2 := hg.next
  have h5 := h.lt
  have h6 := h.pr
  have hq2 : l' ≠ [] → q' < M2.next := fun k => b2 _ _ (hw.buf (packL_ne.2 k))
  have hc2 : l' ≠ [] → c' < M3.next := fun k => b3 _ _ (hd.buf k)
  by_cases hl : l = []
  · have e1 : pick M q l = M.next := by unfold pick; rw [if_pos hl]
    have e2 : pick M2 c l = M2.next := by unfold pick; rw [if_pos hl]
    rw [e1] at hf hq
    rw [e2] at hg hc
    have hw3 : WrAt M3 p q' l' := hw.frame hg (by omega) hq2 (by simp; omega) (fun k => by have := hq2 k; simp; omega)
    refine ⟨q', c', ⟨hw3, hd, h6, by omega, h.hro, fun k => ?_⟩, ?_, fun k => ?_⟩
    · have := hq2 k; have := hc2 k
      have := hw.ne; have := hd.ne
      refine ⟨by omega, by omega, by omega, by omega, by omega, hr, hs⟩
    · unfold foot
      rw [if_pos hl]
      refine ⟨by omega, hg.gl.trans hf.gl, fun b hb hn => ?_⟩
      rw [hg.get b (by omega) (by simp at hn ⊢; omega), hf.get b hb (by simp at hn ⊢; omega)]
    · have := hq2 k
      exact ⟨.inr (by omega), .inr (by omega)⟩
  · have e1 : pick M q l = q := by unfold pick; rw [if_neg hl]
    have e2 : pick M2 c l = c := by unfold pick; rw [if_neg hl]
    rw [e1] at hf hq
    rw [e2] at hg hc
    have hn := h.ne hl
    have hw3 : WrAt M3 p q' l' := hw.frame hg (by omega) hq2 (by simp; omega) (fun k => by have := hq2 k; simp; omega)
    refine ⟨q', c', ⟨hw3, hd, h6, by omega, h.hro, fun k => ?_⟩, ?_, fun k => ?_⟩
    · have := hq2 k; have := hc2 k
      have := hw.ne; have := hd.ne
      refine ⟨by omega, by omega, by omega, by omega, by omega, hr, hs⟩
    · unfold foot
      rw [if_neg hl]
      refine ⟨by omega, hg.gl.trans hf.gl, fun b hb hn => ?_⟩
      rw [hg.get b (by omega) (by simp at hn ⊢; omega), hf.get b hb (by simp at hn ⊢; omega)]
    · refine ⟨?_, ?_⟩
      · rcases hq with k | k
        · exact .inl ⟨k, hl⟩
        · exact .inr k
      · rcases hc with k | k
        · exact .inl ⟨k, hl⟩
        · exact .inr (by omega)
theorem St.add {ro : Nat} {M : AM} {p q r c : Nat} {l : List Bool} (h : St ro M p q r c l) (o : AO) : St ro (M.add o) p q r c l := by
  have hf := Fr.add M o []
  have h5 := h.lt
  refine ⟨h.w.frame hf h5.1 (fun k => (h.ne k).1) (by simp) (by simp), h.d.frame hf h5.2 (fun k => (h.ne k).2.1) (by simp) (by simp), h.pr, by simp only [AM.next_add]; omega, h.hro, fun k => ?_⟩
  have := h.ne k
  simp only [AM.next_add]
  exact ⟨by omega, by omega, this.2.2⟩

/-- What a call makes of the bits. -/
def eff (l : List Bool) (kind : Int) (v : Nat) (n : Int) (t : List UInt8) : List Bool :=
  if kind = 0 then l ++ [v.testBit 0] else if kind = 1 then (putE l v n).2 else if kind = 2 then (addE l t n).2 else l
theorem eff_length (l : List Bool) (kind : Int) (v : Nat) (n : Int) (t : List UInt8) : l.length ≤ (eff l kind v n t).length ∧ (eff l kind v n t).length ≤ l.length + 64 + 8 * t.length := by
  unfold eff
  split
  · simp only [List.length_append, List.length_cons, List.length_nil]; omega
  · split
    · unfold putE
      split
      · simp only; omega
      · split
        · simp only; omega
        · simp only [List.length_append, ofN_length]; omega
    · split
      · unfold addE
        split
        · simp only; omega
        · split
          · simp only; omega
          · simp only [List.length_append, List.length_take, Bits.bitsOf_length]; omega
      · omega

theorem bit0 (v : Nat) : decide (((((v : Int).toNat &&& (1 : Int).toNat : Nat) : Int) = 1)) = v.testBit 0 := by
  have := bit_eq v 0
  simpa using this

set_option maxHeartbeats 8000000 in
theorem lawput_ok {ro : Nat} {M : AM} {p q r c : Nat} {l : List Bool} {kind : Int} {v : Nat} {n : Int} {t : List UInt8} (h : St ro M p q r c l) (hk : InR .i64 kind) (hv : v < 2 ^ 64) (hn : InR .i64 n) (ht : t.length ≤ 1048576) (hl : l.length + 64 + 8 * t.length ≤ 16777000) :
    FnC Try.prog tables ro 8 [.pointer (some ⟨p, 0, none⟩), .pointer (some ⟨r, 0, none⟩), .agg ⟨[.int .i64 kind, .int .u64 v, .int .i64 n, .string ⟨⟨t⟩⟩]⟩] M
      (fun x M' => x = .bool true ∧ ∃ q' c', St ro M' p q' r c' (eff l kind v n t) ∧ Fr M M' (foot p q r c l) ∧ (eff l kind v n t ≠ [] → (q' = q ∧ l ≠ [] ∨ M.next ≤ q') ∧ (c' = c ∧ l ≠ [] ∨ M.next ≤ c'))) := by
  refine FnC.facts fun hlt hron => ?_
  refine FnC.body (nt := 54) ok hm fn8 rfl rfl ?_
  (repeat (first
    | refine Ex.seq ok hm ?_
    | refine Ex.region ok hm ?_))
  refine Sq.op ok hm Want.none (Op1.box rfl rfl) rfl ?_
  have hX := h.add (.row [.int .i64 kind, .int .u64 v, .int .i64 n, .string ⟨⟨t⟩⟩] 0 (some (32, 0)))
  have hfX := Fr.add M (.row [.int .i64 kind, .int .u64 v, .int .i64 n, .string ⟨⟨t⟩⟩] 0 (some (32, 0))) (foot p q r c l)
  have hgX : (M.add (.row [.int .i64 kind, .int .u64 v, .int .i64 n, .string ⟨⟨t⟩⟩] 0 (some (32, 0)))).get M.next = some (.row [.int .i64 kind, .int .u64 v, .int .i64 n, .string ⟨⟨t⟩⟩] 0 (some (32, 0))) := AM.add_same
  have hnX : (M.add (.row [.int .i64 kind, .int .u64 v, .int .i64 n, .string ⟨⟨t⟩⟩] 0 (some (32, 0)))).next = M.next + 1 := rfl
  show Sq Try.prog tables ro ⟨8, 54⟩ _ _ _ (M.add (.row [.int .i64 kind, .int .u64 v, .int .i64 n, .string ⟨⟨t⟩⟩] 0 (some (32, 0)))) _
  generalize (M.add (.row [.int .i64 kind, .int .u64 v, .int .i64 n, .string ⟨⟨t⟩⟩] 0 (some (32, 0)))) = M1 at hX hfX hgX hnX ⊢
  have hron1 : ro ≤ M1.next := by omega
  have hpl := h.lt
  have hq1 : ro ≤ pick M1 q l := by
    unfold pick
    by_cases hl0 : l = []
    · rw [if_pos hl0]; omega
    · rw [if_neg hl0]; exact (h.ne hl0).2.2.2.2.2.1
  have keepW : ∀ {M2 : AM} {l' : List Bool} {o : AO}, M1.get M.next = some o → WPost ro M1 M2 p (pick M1 q l) l' → M2.get M.next = some o := by
    intro M2 l' o hg ⟨_, _, hf, _⟩
    refine (hf.get _ (by omega) ?_).trans hg
    unfold pick
    by_cases hl0 : l = []
    · rw [if_pos hl0]; simp; omega
    · rw [if_neg hl0]; have := h.ne hl0; simp; omega
  have keepR : ∀ {M2 M3 : AM} {l' l'' : List Bool} {o : AO}, M2.get M.next = some o → WPost ro M1 M2 p (pick M1 q l) l' → RPost ro M2 M3 r (pick M2 c l) l'' → M3.get M.next = some o := by
    intro M2 M3 l' l'' o hg ⟨_, _, hf0, _⟩ ⟨_, _, hf, _⟩
    have := hf0.next
    refine (hf.get _ (by omega) ?_).trans hg
    unfold pick
    by_cases hl0 : l = []
    · rw [if_pos hl0]; simp; omega
    · rw [if_neg hl0]; have := h.ne hl0; simp; omega
  by_cases h0 : kind = 0
  · subst h0
    (repeat (first
    | refine Ex.seq ok hm ?_
    | refine Ex.block ok hm ?_
    | refine Ex.region ok hm ?_
    | refine Sq.pu ok hm Want.none (by first
    | exact Pu.assign rfl
    | exact Pu.fieldAddr hT rfl rfl rfl rfl rfl
    | (apply Pu.load hT rfl rfl rfl; (focus ((repeat (assumption)))); (focus rfl))
    | exact Pu.eqlI rfl rfl) rfl ?_
    | refine Sq.finH (n := 9) ok hm (by repeat (first
    | exact Keep.nil
    | apply Keep.drop rfl
    | apply Keep.keep rfl)) ?_
    | refine Ex.condT ok hm rfl (by rfl) ?_))
    refine Ex.held ok hm hT [(30, ⟨M.next, 1, none⟩, .int .u64 v)] 14 rfl (by kernel_rfl) (.cons rfl rfl hgX rfl (veqB_int _ _) .nil) ?_
    ((refine Gq.pure (j := 0) (by kernel_rfl) rfl Want.none (fun N => (by exact Pu.move rfl)) rfl rfl ?_); (refine Gq.pure (j := 1) (by kernel_rfl) rfl Want.none (fun N => (by exact Pu.fieldAddr hT rfl rfl rfl rfl rfl)) rfl rfl ?_); (refine Gq.held (j := 2) (by kernel_rfl) rfl Want.none rfl (by exact List.Mem.head _) rfl ?_); (refine Gq.pure (j := 3) (by kernel_rfl) rfl Want.none (fun N => (by exact Pu.and rfl rfl (by omega) (by omega) (by simp only [InR]; omega) (by simp only [InR]; omega))) rfl rfl ?_); (refine Gq.pure (j := 4) (by kernel_rfl) rfl Want.none (fun N => (by exact Pu.eqlI rfl rfl)) rfl rfl ?_); (refine Gq.pure (j := 6) (by kernel_rfl) rfl Want.none (fun N => (by exact Pu.move rfl)) rfl rfl ?_); (refine Gq.pure (j := 7) (by kernel_rfl) rfl Want.none (fun N => (by exact Pu.fieldAddr hT rfl rfl rfl rfl rfl)) rfl rfl ?_); (refine Gq.held (j := 8) (by kernel_rfl) rfl Want.none rfl (by exact List.Mem.head _) rfl ?_); (refine Gq.pure (j := 9) (by kernel_rfl) rfl Want.none (fun N => (by exact Pu.and rfl rfl (by omega) (by omega) (by simp only [InR]; omega) (by simp only [InR]; omega))) rfl rfl ?_); (refine Gq.pure (j := 10) (by kernel_rfl) rfl Want.none (fun N => (by exact Pu.eqlI rfl rfl)) rfl rfl ?_))
    rw [bit0 v]
    have hlim : ¬ 134217728 ≤ l.length := by omega
    refine Gq.call (j := 5) hT (by kernel_rfl) rfl Want.none (Op1.call rfl rfl fn29) rfl (FnC.mono (Bit_ok (b := v.testBit 0) hX.hro.1 hq1 (hX.w.re hX.lt.1) (by omega)) ?_)
    rintro x M2 ⟨rfl, hW⟩
    rw [if_neg hlim] at hW ⊢
    have hgX2 := keepW hgX hW
    refine ⟨KeepsM.cons rfl rfl hgX2 rfl (veqB_int _ _) .nil, ?_⟩
    refine Gq.facts fun b2 hron2 => ?_
    obtain ⟨hm1, hm2⟩ := hX.mid hron1 hW
    refine Gq.call (j := 11) hT (by kernel_rfl) rfl Want.none (Op1.call rfl rfl fn30) rfl (FnC.mono (rBit_ok (b := v.testBit 0) hX.hro.2 hm2 hm1 (by omega)) ?_)
    rintro x M3 ⟨rfl, hR⟩
    rw [if_neg hlim] at hR ⊢
    have hgX3 := keepR hgX2 hW hR
    refine ⟨KeepsM.cons rfl rfl hgX3 rfl (veqB_int _ _) .nil, ?_⟩
    refine Gq.facts fun b3 hron3 => ?_
    ((refine Gq.pure (j := 12) (by kernel_rfl) rfl Want.none (fun N => (by exact Pu.eqlI rfl rfl)) rfl rfl ?_); (refine Gq.pure (j := 13) (by kernel_rfl) rfl Want.none (fun N => (by exact Pu.assign rfl)) rfl rfl ?_))
    refine Gq.done (by kernel_rfl) ?_
    (repeat (refine Ex.ret ok hm ?_))
    refine ⟨_, .tmp rfl .nil, by simp [valOf], ?_⟩
    obtain ⟨q', c', g1, g2, g3⟩ := hX.fin hron1 hW hR b2 b3
    rw [show eff l 0 v n t = l ++ [v.testBit 0] from rfl]
    exact ⟨q', c', g1, hfX.trans g2 (fun b hb => .inl hb), fun k => (g3 k).imp (fun h => h.imp id (fun h => by omega)) (fun h => h.imp id (fun h => by omega))⟩
  · by_cases h1 : kind = 1
    · subst h1
      (repeat (first
    | refine Ex.seq ok hm ?_
    | refine Ex.block ok hm ?_
    | refine Ex.region ok hm ?_
    | refine Sq.pu ok hm Want.none (by first
    | exact Pu.assign rfl
    | exact Pu.fieldAddr hT rfl rfl rfl rfl rfl
    | (apply Pu.load hT rfl rfl rfl; (focus ((repeat (assumption)))); (focus rfl))
    | exact Pu.eqlI rfl rfl) rfl ?_
    | refine Sq.finH (n := 9) ok hm (by repeat (first
    | exact Keep.nil
    | apply Keep.drop rfl
    | apply Keep.keep rfl)) ?_
    | refine Ex.condT ok hm rfl (by rfl) ?_
    | refine Ex.condF ok hm rfl (by rfl) ?_))
      refine Ex.held ok hm hT [(30, ⟨M.next, 1, none⟩, .int .u64 v), (3, ⟨M.next, 2, none⟩, .int .i64 n)] 14 rfl (by kernel_rfl) (KeepsM.cons rfl rfl hgX rfl (veqB_int _ _) (.cons rfl rfl hgX rfl (veqB_int _ _) .nil)) ?_
      ((refine Gq.pure (j := 0) (by kernel_rfl) rfl Want.none (fun N => (by exact Pu.move rfl)) rfl rfl ?_); (refine Gq.pure (j := 1) (by kernel_rfl) rfl Want.none (fun N => (by exact Pu.fieldAddr hT rfl rfl rfl rfl rfl)) rfl rfl ?_); (refine Gq.held (j := 2) (by kernel_rfl) rfl Want.none rfl (by exact List.Mem.head _) rfl ?_); (refine Gq.pure (j := 3) (by kernel_rfl) rfl Want.none (fun N => (by exact Pu.fieldAddr hT rfl rfl rfl rfl rfl)) rfl rfl ?_); (refine Gq.held (j := 4) (by kernel_rfl) rfl Want.none rfl (by exact List.Mem.tail _ (List.Mem.head _)) rfl ?_); (refine Gq.pure (j := 6) (by kernel_rfl) rfl Want.none (fun N => (by exact Pu.move rfl)) rfl rfl ?_); (refine Gq.pure (j := 7) (by kernel_rfl) rfl Want.none (fun N => (by exact Pu.fieldAddr hT rfl rfl rfl rfl rfl)) rfl rfl ?_); (refine Gq.held (j := 8) (by kernel_rfl) rfl Want.none rfl (by exact List.Mem.head _) rfl ?_); (refine Gq.pure (j := 9) (by kernel_rfl) rfl Want.none (fun N => (by exact Pu.fieldAddr hT rfl rfl rfl rfl rfl)) rfl rfl ?_); (refine Gq.held (j := 10) (by kernel_rfl) rfl Want.none rfl (by exact List.Mem.tail _ (List.Mem.head _)) rfl ?_))
      refine Gq.call (j := 5) hT (by kernel_rfl) rfl Want.none (Op1.call rfl rfl fn9) rfl (FnC.mono (Put_ok (v := v) hX.hro.1 hq1 (hX.w.re hX.lt.1) hv hn (by omega)) ?_)
      rintro x M2 ⟨rfl, hW⟩
      have hgX2 := keepW hgX hW
      refine ⟨KeepsM.cons rfl rfl hgX2 rfl (veqB_int _ _) (.cons rfl rfl hgX2 rfl (veqB_int _ _) .nil), ?_⟩
      refine Gq.facts fun b2 hron2 => ?_
      obtain ⟨hm1, hm2⟩ := hX.mid hron1 hW
      refine Gq.call (j := 11) hT (by kernel_rfl) rfl Want.none (Op1.call rfl rfl fn31) rfl (FnC.mono (rPut_ok (v := v) hX.hro.2 hm2 hm1 hv hn (by omega)) ?_)
      rintro x M3 ⟨rfl, hR⟩
      have hgX3 := keepR hgX2 hW hR
      refine ⟨KeepsM.cons rfl rfl hgX3 rfl (veqB_int _ _) (.cons rfl rfl hgX3 rfl (veqB_int _ _) .nil), ?_⟩
      refine Gq.facts fun b3 hron3 => ?_
      ((refine Gq.pure (j := 12) (by kernel_rfl) rfl Want.none (fun N => (by exact Pu.eqlI rfl rfl)) rfl rfl ?_); (refine Gq.pure (j := 13) (by kernel_rfl) rfl Want.none (fun N => (by exact Pu.assign rfl)) rfl rfl ?_))
      refine Gq.done (by kernel_rfl) ?_
      (repeat (refine Ex.ret ok hm ?_))
      refine ⟨_, .tmp rfl .nil, by simp [valOf], ?_⟩
      obtain ⟨q', c', g1, g2, g3⟩ := hX.fin hron1 hW hR b2 b3
      rw [show eff l 1 v n t = (putE l v n).2 from rfl]
      exact ⟨q', c', g1, hfX.trans g2 (fun b hb => .inl hb), fun k => (g3 k).imp (fun h => h.imp id (fun h => by omega)) (fun h => h.imp id (fun h => by omega))⟩
    · by_cases h2 : kind = 2
      · subst h2
        (repeat (first
    | refine Ex.seq ok hm ?_
    | refine Ex.block ok hm ?_
    | refine Ex.region ok hm ?_
    | refine Sq.pu ok hm Want.none (by first
    | exact Pu.assign rfl
    | exact Pu.fieldAddr hT rfl rfl rfl rfl rfl
    | (apply Pu.load hT rfl rfl rfl; (focus ((repeat (assumption)))); (focus rfl))
    | exact Pu.eqlI rfl rfl) rfl ?_
    | refine Sq.finH (n := 9) ok hm (by repeat (first
    | exact Keep.nil
    | apply Keep.drop rfl
    | apply Keep.keep rfl)) ?_
    | refine Ex.condT ok hm rfl (by rfl) ?_
    | refine Ex.condF ok hm rfl (by rfl) ?_))
        refine Ex.held ok hm hT [(9, ⟨M.next, 3, none⟩, .string ⟨⟨t⟩⟩), (3, ⟨M.next, 2, none⟩, .int .i64 n)] 14 rfl (by kernel_rfl) (KeepsM.cons rfl rfl hgX rfl (veqB_str _) (.cons rfl rfl hgX rfl (veqB_int _ _) .nil)) ?_
        ((refine Gq.pure (j := 0) (by kernel_rfl) rfl Want.none (fun N => (by exact Pu.move rfl)) rfl rfl ?_); (refine Gq.pure (j := 1) (by kernel_rfl) rfl Want.none (fun N => (by exact Pu.fieldAddr hT rfl rfl rfl rfl rfl)) rfl rfl ?_); (refine Gq.held (j := 2) (by kernel_rfl) rfl Want.none rfl (by exact List.Mem.head _) rfl ?_); (refine Gq.pure (j := 3) (by kernel_rfl) rfl Want.none (fun N => (by exact Pu.fieldAddr hT rfl rfl rfl rfl rfl)) rfl rfl ?_); (refine Gq.held (j := 4) (by kernel_rfl) rfl Want.none rfl (by exact List.Mem.tail _ (List.Mem.head _)) rfl ?_); (refine Gq.pure (j := 6) (by kernel_rfl) rfl Want.none (fun N => (by exact Pu.move rfl)) rfl rfl ?_); (refine Gq.pure (j := 7) (by kernel_rfl) rfl Want.none (fun N => (by exact Pu.fieldAddr hT rfl rfl rfl rfl rfl)) rfl rfl ?_); (refine Gq.held (j := 8) (by kernel_rfl) rfl Want.none rfl (by exact List.Mem.head _) rfl ?_); (refine Gq.pure (j := 9) (by kernel_rfl) rfl Want.none (fun N => (by exact Pu.fieldAddr hT rfl rfl rfl rfl rfl)) rfl rfl ?_); (refine Gq.held (j := 10) (by kernel_rfl) rfl Want.none rfl (by exact List.Mem.tail _ (List.Mem.head _)) rfl ?_))
        refine Gq.call (j := 5) hT (by kernel_rfl) rfl Want.none (Op1.call rfl rfl fn32) rfl (FnC.mono (Add_ok (s := t) hX.hro.1 hq1 (hX.w.re hX.lt.1) ht hn (by omega)) ?_)
        rintro x M2 ⟨rfl, hW⟩
        have hgX2 := keepW hgX hW
        refine ⟨KeepsM.cons rfl rfl hgX2 rfl (veqB_str _) (.cons rfl rfl hgX2 rfl (veqB_int _ _) .nil), ?_⟩
        refine Gq.facts fun b2 hron2 => ?_
        obtain ⟨hm1, hm2⟩ := hX.mid hron1 hW
        refine Gq.call (j := 11) hT (by kernel_rfl) rfl Want.none (Op1.call rfl rfl fn33) rfl (FnC.mono (rAdd_ok (s := t) hX.hro.2 hm2 hm1 ht hn (by omega)) ?_)
        rintro x M3 ⟨rfl, hR⟩
        have hgX3 := keepR hgX2 hW hR
        refine ⟨KeepsM.cons rfl rfl hgX3 rfl (veqB_str _) (.cons rfl rfl hgX3 rfl (veqB_int _ _) .nil), ?_⟩
        refine Gq.facts fun b3 hron3 => ?_
        ((refine Gq.pure (j := 12) (by kernel_rfl) rfl Want.none (fun N => (by exact Pu.eqlI rfl rfl)) rfl rfl ?_); (refine Gq.pure (j := 13) (by kernel_rfl) rfl Want.none (fun N => (by exact Pu.assign rfl)) rfl rfl ?_))
        refine Gq.done (by kernel_rfl) ?_
        (repeat (refine Ex.ret ok hm ?_))
        refine ⟨_, .tmp rfl .nil, by simp [valOf], ?_⟩
        obtain ⟨q', c', g1, g2, g3⟩ := hX.fin hron1 hW hR b2 b3
        rw [show eff l 2 v n t = (addE l t n).2 from rfl]
        exact ⟨q', c', g1, hfX.trans g2 (fun b hb => .inl hb), fun k => (g3 k).imp (fun h => h.imp id (fun h => by omega)) (fun h => h.imp id (fun h => by omega))⟩
      · (repeat (first
    | refine Ex.seq ok hm ?_
    | refine Ex.block ok hm ?_
    | refine Ex.skip ok hm ?_
    | refine Ex.region ok hm ?_
    | refine Sq.pu ok hm Want.none (by first
    | exact Pu.assign rfl
    | exact Pu.fieldAddr hT rfl rfl rfl rfl rfl
    | (apply Pu.load hT rfl rfl rfl; (focus ((repeat (assumption)))); (focus rfl))
    | exact Pu.eqlI rfl rfl) rfl ?_
    | refine Sq.finH (n := 9) ok hm (by repeat (first
    | exact Keep.nil
    | apply Keep.drop rfl
    | apply Keep.keep rfl)) ?_
    | refine Ex.condF ok hm rfl (by first
    | rfl
    | exact decide_eq_false (by omega)) ?_
    | refine Ex.ret ok hm ?_))
        refine ⟨_, .tmp rfl .nil, rfl, ?_⟩
        have e : eff l kind v n t = l := by unfold eff; rw [if_neg h0, if_neg h1, if_neg h2]
        rw [e]
        exact ⟨q, c, hX, hfX, fun k => ⟨.inl ⟨rfl, k⟩, .inl ⟨rfl, k⟩⟩⟩
end Go.Proofs.Ytncpdgjlhdbdpaa
