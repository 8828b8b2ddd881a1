/- Towards the laws of this seat: contracts of the program's functions in a logic over a small machine (text XReads). No condition. -/
import Derived.Test.YtncpdgjlhdbdpaaXRq
import Derived.Test.YtncpdgjlhdbdpaaWvmLgg
namespace Go.Proofs.Ytncpdgjlhdbdpaa
open Go.Wvm Bits
set_option linter.unusedVariables false
set_option linter.unusedSimpArgs false

theorem sq_facts {ro : Nat} {F : FX} {all os : List Oper} {E : En} {M : AM} {Q : En → AM → Prop} (h : (∀ b a, M.get b = some a → b < M.next) → ro ≤ M.next → Sq Try.prog tables ro F all os E M Q) : Sq Try.prog tables ro F all os E M Q :=
  fun i hi tm w hE hM => h (fun b a k => hM.bound k) (by rw [← hM.next]; exact hM.ron) i hi tm w hE hM
structure TakeV where
  kind : Int
  n : Int
def TakeV.cells (x : TakeV) : List Value := [.int .i64 x.kind, .int .i64 x.n]
def rowT (l : List TakeV) : List Value := l.flatMap TakeV.cells
theorem rowT_length (l : List TakeV) : (rowT l).length = 2 * l.length := by
  induction l with
  | nil => rfl
  | cons x l ih => simp only [rowT, List.flatMap_cons, List.length_append, List.length_cons] at ih ⊢; rw [ih]; simp [TakeV.cells]; omega
theorem rowT_get (l : List TakeV) : ∀ (i : Nat) (h : i < l.length), (rowT l)[i * 2]? = some (.int .i64 (l[i]'h).kind) ∧ (rowT l)[i * 2 + 1]? = some (.int .i64 (l[i]'h).n) := by
  induction l with
  | nil => intro i h; simp at h
  | cons x l ih =>
    intro i h
    have e : rowT (x :: l) = .int .i64 x.kind :: .int .i64 x.n :: rowT l := by simp [rowT, TakeV.cells]
    cases i with
    | zero => rw [e]; exact ⟨rfl, rfl⟩
    | succ i =>
      have := ih i (by simpa using h)
      rw [e, show (i + 1) * 2 = i * 2 + 2 by omega]
      simpa using this

theorem takeE_le {s : List UInt8} {at' : Nat} {n : Int} (h : at' ≤ 8 * s.length) : (takeE s at' n).2.2 ≤ 8 * s.length := by
  unfold takeE
  split
  · exact h
  · split
    · exact h
    · simp only; omega
theorem awake2_ok {ro : Nat} {M : AM} : FnC Try.prog tables ro 13 [] M (fun v M' => v = .bool true ∧ M' = M) :=
  FnC.closed ok hm (fuel := 100000) (by kernel_rfl)
theorem RdAt.keep {M M' : AM} {r at' : Nat} {s : List UInt8} {S : List Nat} (h : RdAt M r s at') (f : Fr M M' S) (hr : r < M.next) (hn : r ∉ S) : RdAt M' r s at' := (f.get r hr hn).trans h
theorem RqAt.keep {M M' : AM} {q c at' : Nat} {s : List UInt8} {S : List Nat} (h : RqAt M q c s at') (f : Fr M M' S) (hr : q < M.next) (hn : q ∉ S) (hc : 8 * s.length ≠ 0 → c < M.next ∧ c ∉ S) : RqAt M' q c s at' :=
  ⟨(f.get q hr hn).trans h.row, fun k => (f.get c (hc k).1 (hc k).2).trans (h.buf k), h.ne⟩

def LoopR (s : List UInt8) (l : List TakeV) (q c : Nat) (M : AM) : Prop :=
  ∃ at', at' ≤ 8 * s.length ∧ RdAt M 1 s at' ∧ RqAt M q c s at' ∧ (l.length ≠ 0 → M.get 0 = some (.row (rowT l) 2 none)) ∧ q < M.next ∧ (8 * s.length ≠ 0 → c < M.next)
theorem LoopR.step {s : List UInt8} {l : List TakeV} {q c : Nat} {M M1 M2 : AM} {at' : Nat} (hq : 2 ≤ q) (hc : 8 * s.length ≠ 0 → 2 ≤ c) (hrow : l.length ≠ 0 → M.get 0 = some (.row (rowT l) 2 none)) (hn : q < M.next) (hn2 : 8 * s.length ≠ 0 → c < M.next)
    (h1 : RdAt M1 1 s at') (f1 : Fr M M1 [1]) (h2 : RqAt M2 q c s at') (f2 : Fr M1 M2 [q]) (hle : at' ≤ 8 * s.length) : LoopR s l q c M2 := by
  have e1 := f1.next
  have e2 := f2.next
  refine ⟨at', hle, h1.keep f2 (by omega) (by simp; omega), h2, fun k => ?_, by omega, fun k => by have := hn2 k; omega⟩
  exact (f2.get 0 (by omega) (by simp; omega)).trans ((f1.get 0 (by omega) (by simp)).trans (hrow k))

set_option maxHeartbeats 8000000 in
theorem reads_ok {M : AM} (s : List UInt8) (l : List TakeV) (nil : Bool) (hnil : nil = true → l.length = 0) (hnx : M.next = 1) (hrow : l.length ≠ 0 → M.get 0 = some (.row (rowT l) 2 none))
    (hwf : ∀ x ∈ l, InR .i64 x.kind ∧ InR .i64 x.n) (hs : s.length ≤ 1048576) (hlen : l.length ≤ 1048576) :
    FnC Try.prog tables 1 4 [.string ⟨⟨s⟩⟩, inV nil 0 l.length] M (fun v _ => v = .bool true) := by
  refine FnC.body (nt := 127) ok hm fn4 rfl rfl ?_
  (repeat (first
    | refine Ex.seq ok hm ?_
    | refine Ex.region ok hm ?_
    | refine Sq.pu ok hm Want.none (by first
    | exact Pu.move rfl
    | exact Pu.assign rfl) rfl ?_
    | refine Sq.finH (n := 9) ok hm (by repeat (first
    | exact Keep.nil
    | apply Keep.keep rfl)) ?_))
  refine Sq.call ok Want.none (Op1.call rfl rfl fn14) rfl (FnC.mono open_ok ?_)
  rintro v M1 ⟨rfl, e1⟩
  have hn1 : M1.next = 2 := by rw [e1]; simp only [AM.next_add]; omega
  (repeat (first
    | refine Ex.seq ok hm ?_
    | refine Ex.region ok hm ?_
    | refine Sq.pu ok hm Want.none (by first
    | exact Pu.move rfl
    | exact Pu.assign rfl) rfl ?_
    | refine Sq.finH (n := 9) ok hm (by repeat (first
    | exact Keep.nil
    | apply Keep.drop rfl
    | apply Keep.keep rfl)) ?_))
  refine Sq.call ok Want.none (Op1.call rfl rfl fn15) rfl (FnC.mono (Bits_ok hs) ?_)
  rintro v M2 ⟨c0, rfl, hb, hF2, hc0⟩
  have hn2 := hF2.next
  refine sq_facts fun hlt2 hron2 => ?_
  obtain ⟨a, m, m', hbv⟩ : ∃ a m m', bufV c0 (8 * s.length) = .slice a m m' := by
    unfold bufV; split <;> exact ⟨_, _, _, rfl⟩
  rw [hbv]
  refine Sq.pu ok hm Want.none (Pu.build hT rfl rfl rfl rfl) rfl ?_
  refine Sq.op ok hm Want.none (Op1.box rfl rfl) rfl ?_
  obtain ⟨q, hq⟩ : ∃ q, M2.next = q := ⟨_, rfl⟩
  obtain ⟨c, hbc, hcq, hc2, hcl⟩ : ∃ c, bufV c0 (8 * s.length) = bufV c (8 * s.length) ∧ q ≠ c ∧ (8 * s.length ≠ 0 → 2 ≤ c ∧ c < q) ∧ (8 * s.length ≠ 0 → M2.get c = some (.row ((bitsOf s).map Value.bool) 1 (some (4, 0)))) := by
    by_cases hz : 8 * s.length = 0
    · refine ⟨q + 1, ?_, by omega, fun k => absurd hz k, fun k => absurd hz k⟩
      rw [hz]; rfl
    · have h3 := hlt2 _ _ (hb hz)
      exact ⟨c0, rfl, by omega, fun _ => by omega, hb⟩
  have hRd : RdAt (M2.add (.row [.slice a m m', .int .i64 0] 0 (some (47, 0)))) 1 s 0 := by
    have h4 : RdAt M1 1 s 0 := by rw [e1, ← hnx]; exact AM.add_same
    exact (AM.add_ne (by omega)).trans ((hF2.get 1 (by omega) (by simp)).trans h4)
  have hRq : RqAt (M2.add (.row [.slice a m m', .int .i64 0] 0 (some (47, 0)))) q c s 0 := by
    refine ⟨?_, fun k => (AM.add_ne (by have := hc2 k; omega)).trans (hcl k), hcq⟩
    rw [← hbc, hbv, ← hq]; exact AM.add_same
  have hg0 : l.length ≠ 0 → (M2.add (.row [.slice a m m', .int .i64 0] 0 (some (47, 0)))).get 0 = some (.row (rowT l) 2 none) := fun k => by
    refine (AM.add_ne (by omega)).trans ((hF2.get 0 (by omega) (by simp)).trans ?_)
    rw [e1, AM.add_ne (by omega)]; exact hrow k
  have hnn : (M2.add (.row [.slice a m m', .int .i64 0] 0 (some (47, 0)))).next = q + 1 := by simp only [AM.next_add]; omega
  (repeat (first
    | refine Ex.seq ok hm ?_
    | refine Ex.block ok hm ?_
    | refine Ex.region ok hm ?_
    | refine Sq.pu ok hm Want.none (by exact Pu.assign rfl) rfl ?_
    | refine Sq.finH (n := 9) ok hm (by repeat (first
    | exact Keep.nil
    | apply Keep.drop rfl
    | apply Keep.keep rfl)) ?_))
  rw [hnx, hq]
  show Ex Try.prog tables 1 ⟨4, 127⟩ _ _ (M2.add (.row [.slice a m m', .int .i64 0] 0 (some (47, 0)))) _
  generalize (M2.add (.row [.slice a m m', .int .i64 0] 0 (some (47, 0)))) = M3 at hRd hRq hg0 hnn ⊢
  have hq2 : 2 ≤ q := by omega
  refine Ex.loop ?_
  refine Lp.inv ok hm (α := Nat)
    (fun i E M' => E = [(7, .int .i64 i), (6, .pointer (some ⟨q, 0, none⟩)), (5, .pointer (some ⟨1, 0, none⟩)), (1, inV nil 0 l.length)] ∧ i ≤ l.length ∧ i ≤ 100 ∧ LoopR s l q c M')
    (fun i => 100 - i) ?_ 0 [(7, .int .i64 (0 : Nat)), (6, .pointer (some ⟨q, 0, none⟩)), (5, .pointer (some ⟨1, 0, none⟩)), (1, inV nil 0 l.length)] ⟨rfl, rfl, rfl, rfl, trivial⟩ ⟨rfl, Nat.zero_le _, Nat.zero_le _, 0, Nat.zero_le _, hRd, hRq, hg0, by omega, fun k => by have := hc2 k; omega⟩
  intro i E M4 ⟨hE, hi, hi2, hL⟩
  subst hE
  by_cases hex : i < l.length ∧ i < 100
  · obtain ⟨hil, hi100⟩ := hex
    obtain ⟨hw1, hw2⟩ := hwf (l[i]'hil) (List.getElem_mem hil)
    obtain ⟨hk0, hk1⟩ := rowT_get l i hil
    have hk0 : (rowT l)[0 + ((i : Nat) : Int).toNat * 2 + 0]? = some (.int .i64 (l[i]'hil).kind) := by rw [Int.toNat_natCast, Nat.zero_add, Nat.add_zero]; exact hk0
    have hk1 : (rowT l)[0 + ((i : Nat) : Int).toNat * 2 + 1]? = some (.int .i64 (l[i]'hil).n) := by rw [Int.toNat_natCast, Nat.zero_add]; exact hk1
    obtain ⟨at', hat, h1, h2, hg, hnq, hnc⟩ := hL
    have hg' := hg (by omega)
    have hend : ∀ {M5 : AM}, LoopR s l q c M5 → True := fun _ => trivial
    (repeat (first
    | refine Ex.seq ok hm ?_
    | refine Ex.block ok hm ?_
    | refine Ex.skip ok hm ?_
    | refine Ex.region ok hm ?_
    | refine Sq.pu ok hm Want.none (by first
    | exact Pu.move rfl
    | exact Pu.lssI rfl rfl
    | exact Pu.lenIn hT (by assumption) rfl rfl
    | exact Pu.pickT rfl (by first
    | rfl
    | exact decide_eq_true (by omega)) rfl) rfl ?_
    | refine Sq.pu ok hm (by first
    | exact Want.none
    | exact Want.yes rfl rfl rfl (by first
    | rfl
    | exact decide_eq_true (by omega))) (by first
    | exact Pu.move rfl
    | exact Pu.lssI rfl rfl) rfl ?_
    | refine Sq.finH (n := 9) ok hm (by repeat (first
    | exact Keep.nil
    | apply Keep.drop rfl
    | apply Keep.keep rfl)) ?_
    | refine Ex.condT ok hm rfl (by first
    | rfl
    | exact decide_eq_true (by omega)) ?_))
    rw [inV_pos 0 l.length hnil (by omega)]
    (repeat (refine Sq.pu ok hm Want.none (by first
    | exact Pu.fieldAddr hT rfl rfl rfl rfl rfl
    | exact Pu.indexAddr hT rfl rfl rfl rfl (by omega) (by omega)) rfl ?_))
    refine Sq.pu ok hm Want.none (Pu.load hT rfl rfl rfl hg' hk0) rfl ?_
    generalize (l[i]'hil).kind = kind at hw1
    generalize (l[i]'hil).n = n at hw2 hk1
    refine Sq.finH (n := 9) ok hm (by repeat (first
    | exact Keep.nil
    | apply Keep.drop rfl
    | apply Keep.keep rfl)) ?_
    refine Ex.cut [(7, .int .i64 (i : Int)), (6, .pointer (some ⟨q, 0, none⟩)), (5, .pointer (some ⟨1, 0, none⟩)), (1, .slice (some ⟨0, 0, none⟩) l.length l.length)] (LoopR s l q c) ?_ ?_
    · have keepq : ∀ {M5 : AM}, Fr M4 M5 [1] → RqAt M5 q c s at' := fun f => h2.keep f hnq (by simp; omega) (fun k => ⟨hnc k, by have := hc2 k; simp; omega⟩)
      have keep0 : ∀ {M5 : AM}, Fr M4 M5 [1] → M5.get 0 = some (.row (rowT l) 2 none) := fun f => (f.get 0 (by omega) (by simp)).trans hg'
      have keep00 : ∀ {M5 M6 : AM}, Fr M4 M5 [1] → Fr M5 M6 [q] → M6.get 0 = some (.row (rowT l) 2 none) := fun f f2 => (f2.get 0 (by have := f.next; omega) (by simp; omega)).trans (keep0 f)
      by_cases k0 : kind = 0
      · subst k0
        (repeat (first
    | refine Ex.seq ok hm ?_
    | refine Ex.block ok hm ?_
    | refine Ex.region ok hm ?_
    | refine Sq.pu ok hm Want.none (by first
    | exact Pu.move rfl
    | exact Pu.assign rfl
    | exact Pu.eqlI rfl rfl) rfl ?_
    | refine Sq.finH (n := 40) ok hm (by repeat (first
    | exact Keep.nil
    | apply Keep.keep rfl)) ?_
    | refine Ex.condT ok hm rfl (by rfl) ?_))
        refine Sq.call ok Want.none (Op1.call rfl rfl fn16) rfl (FnC.mono (rdBit_ok (by omega) h1 hat (by omega)) ?_)
        rintro x M5 ⟨rfl, g1, f1⟩
        (repeat (first
    | refine Ex.seq ok hm ?_
    | refine Ex.region ok hm ?_
    | refine Sq.pu ok hm Want.none (by first
    | exact Pu.move rfl
    | exact Pu.assign rfl
    | exact Pu.extract rfl rfl) rfl ?_
    | refine Sq.finH (n := 40) ok hm (by repeat (first
    | exact Keep.nil
    | apply Keep.drop rfl
    | apply Keep.keep rfl)) ?_))
        refine Sq.call ok Want.none (Op1.call rfl rfl fn17) rfl (FnC.mono (rdrBit_ok (by omega) (keepq f1) hat (by omega)) ?_)
        rintro x M6 ⟨rfl, g2, f2⟩
        (repeat (first
    | refine Ex.seq ok hm ?_
    | refine Ex.skip ok hm ?_
    | refine Ex.region ok hm ?_
    | refine Sq.pu ok hm Want.none (by first
    | exact Pu.move rfl
    | exact Pu.assign rfl
    | exact Pu.extract rfl rfl
    | exact Pu.neqI rfl rfl
    | exact Pu.pickF rfl (by first
    | rfl
    | (simp; done)) rfl
    | exact Pu.neqB hT rfl rfl rfl) rfl ?_
    | refine Sq.pu ok hm (by exact Want.yes rfl rfl rfl (by first
    | rfl
    | (simp; done))) (by first
    | exact Pu.move rfl
    | exact Pu.neqI rfl rfl) rfl ?_
    | refine Sq.finH (n := 40) ok hm (by repeat (first
    | exact Keep.nil
    | apply Keep.drop rfl
    | apply Keep.keep rfl)) ?_
    | refine Ex.condF ok hm rfl (by first
    | rfl
    | (simp; done)) ?_))
        exact ⟨rfl, ⟨rfl, rfl, rfl, rfl, trivial⟩, LoopR.step hq2 (fun k => (hc2 k).1) hg hnq hnc g1 f1 g2 f2 (takeE_le hat)⟩
      · by_cases k1 : kind = 1
        · subst k1
          (repeat (first
    | refine Ex.seq ok hm ?_
    | refine Ex.block ok hm ?_
    | refine Ex.region ok hm ?_
    | refine Sq.pu ok hm Want.none (by first
    | exact Pu.move rfl
    | exact Pu.assign rfl
    | exact Pu.fieldAddr hT rfl rfl rfl rfl rfl
    | exact Pu.eqlI rfl rfl
    | exact Pu.indexAddr hT rfl rfl rfl rfl (by omega) (by omega)) rfl ?_
    | refine Sq.finH (n := 40) ok hm (by repeat (first
    | exact Keep.nil
    | apply Keep.drop rfl
    | apply Keep.keep rfl)) ?_
    | refine Ex.condT ok hm rfl (by rfl) ?_
    | refine Ex.condF ok hm rfl (by rfl) ?_))
          refine Sq.pu ok hm Want.none (Pu.load hT rfl rfl rfl hg' hk1) rfl ?_
          (repeat (fail))
          refine Sq.call ok Want.none (Op1.call rfl rfl fn18) rfl (FnC.mono (take_ok (n := n) (by omega) h1 hw2 hat (by omega)) ?_)
          rintro x M5 ⟨rfl, g1, f1⟩
          (repeat (first
    | refine Ex.seq ok hm ?_
    | refine Ex.region ok hm ?_
    | refine Sq.pu ok hm Want.none (by first
    | exact Pu.move rfl
    | exact Pu.assign rfl
    | exact Pu.fieldAddr hT rfl rfl rfl rfl rfl
    | exact Pu.extract rfl rfl
    | exact Pu.indexAddr hT rfl rfl rfl rfl (by omega) (by omega)) rfl ?_
    | refine Sq.finH (n := 40) ok hm (by repeat (first
    | exact Keep.nil
    | apply Keep.drop rfl
    | apply Keep.keep rfl)) ?_))
          refine Sq.pu ok hm Want.none (Pu.load hT rfl rfl rfl (keep0 f1) hk1) rfl ?_
          (repeat (fail))
          refine Sq.call ok Want.none (Op1.call rfl rfl fn19) rfl (FnC.mono (rTake_ok (n := n) (by omega) (keepq f1) hw2 hat (by omega)) ?_)
          rintro x M6 ⟨rfl, g2, f2⟩
          (repeat (first
    | refine Ex.seq ok hm ?_
    | refine Ex.skip ok hm ?_
    | refine Ex.region ok hm ?_
    | refine Sq.pu ok hm Want.none (by first
    | exact Pu.move rfl
    | exact Pu.assign rfl
    | exact Pu.extract rfl rfl
    | exact Pu.neqI rfl rfl
    | exact Pu.pickF rfl (by first
    | rfl
    | (simp; done)) rfl) rfl ?_
    | refine Sq.pu ok hm (by exact Want.yes rfl rfl rfl (by first
    | rfl
    | (simp; done))) (by first
    | exact Pu.move rfl
    | exact Pu.neqI rfl rfl) rfl ?_
    | refine Sq.finH (n := 40) ok hm (by repeat (first
    | exact Keep.nil
    | apply Keep.drop rfl
    | apply Keep.keep rfl)) ?_
    | refine Ex.condF ok hm rfl (by first
    | rfl
    | (simp; done)) ?_))
          exact ⟨rfl, ⟨rfl, rfl, rfl, rfl, trivial⟩, LoopR.step hq2 (fun k => (hc2 k).1) hg hnq hnc g1 f1 g2 f2 (takeE_le hat)⟩
        · by_cases k2 : kind = 2
          · subst k2
            (repeat (first
    | refine Ex.seq ok hm ?_
    | refine Ex.block ok hm ?_
    | refine Ex.region ok hm ?_
    | refine Sq.pu ok hm Want.none (by first
    | exact Pu.assign rfl
    | exact Pu.eqlI rfl rfl) rfl ?_
    | refine Sq.finH (n := 40) ok hm (by repeat (first
    | exact Keep.nil
    | apply Keep.drop rfl
    | apply Keep.keep rfl)) ?_
    | refine Ex.condT ok hm rfl (by rfl) ?_
    | refine Ex.condF ok hm rfl (by rfl) ?_))
            refine Ex.held ok hm hT [(3, ⟨0, 0 + ((i : Nat) : Int).toNat * 2 + 1, none⟩, .int .i64 n)] 15 rfl (by kernel_rfl) (.cons rfl rfl hg' hk1 (veqB_int _ _) .nil) ?_
            ((refine Gq.pure (j := 0) (by kernel_rfl) rfl Want.none (fun N => (by exact Pu.move rfl)) rfl rfl ?_); (refine Gq.pure (j := 1) (by kernel_rfl) rfl Want.none (fun N => (by exact Pu.move rfl)) rfl rfl ?_); (refine Gq.pure (j := 2) (by kernel_rfl) rfl Want.none (fun N => (by exact Pu.move rfl)) rfl rfl ?_); (refine Gq.pure (j := 3) (by kernel_rfl) rfl Want.none (fun N => (by exact Pu.indexAddr hT rfl rfl rfl rfl (by omega) (by omega))) rfl rfl ?_); (refine Gq.pure (j := 4) (by kernel_rfl) rfl Want.none (fun N => (by exact Pu.fieldAddr hT rfl rfl rfl rfl rfl)) rfl rfl ?_); (refine Gq.held (j := 5) (by kernel_rfl) rfl Want.none rfl (by exact List.Mem.head _) rfl ?_); (refine Gq.pure (j := 7) (by kernel_rfl) rfl Want.none (fun N => (by exact Pu.move rfl)) rfl rfl ?_); (refine Gq.pure (j := 8) (by kernel_rfl) rfl Want.none (fun N => (by exact Pu.move rfl)) rfl rfl ?_); (refine Gq.pure (j := 9) (by kernel_rfl) rfl Want.none (fun N => (by exact Pu.move rfl)) rfl rfl ?_); (refine Gq.pure (j := 10) (by kernel_rfl) rfl Want.none (fun N => (by exact Pu.indexAddr hT rfl rfl rfl rfl (by omega) (by omega))) rfl rfl ?_); (refine Gq.pure (j := 11) (by kernel_rfl) rfl Want.none (fun N => (by exact Pu.fieldAddr hT rfl rfl rfl rfl rfl)) rfl rfl ?_); (refine Gq.held (j := 12) (by kernel_rfl) rfl Want.none rfl (by exact List.Mem.head _) rfl ?_))
            refine Gq.call (j := 6) hT (by kernel_rfl) rfl Want.none (Op1.call rfl rfl fn20) rfl (FnC.mono (seek_ok (n := n) (by omega) h1 hw2 (by omega)) ?_)
            rintro x M5 ⟨rfl, g1, f1⟩
            refine ⟨KeepsM.cons rfl rfl (keep0 f1) hk1 (veqB_int _ _) .nil, ?_⟩
            refine Gq.call (j := 13) hT (by kernel_rfl) rfl Want.none (Op1.call rfl rfl fn21) rfl (FnC.mono (rSeek_ok (n := n) (by omega) (keepq f1) hw2 (by omega)) ?_)
            rintro x M6 ⟨rfl, g2, f2⟩
            refine ⟨KeepsM.cons rfl rfl (keep00 f1 f2) hk1 (veqB_int _ _) .nil, ?_⟩
            ((refine Gq.pure (j := 14) (by kernel_rfl) rfl Want.none (fun N => (by exact Pu.neqI rfl rfl)) rfl rfl ?_))
            refine Gq.done (by kernel_rfl) ?_
            (repeat (first
    | refine Ex.skip ok hm ?_
    | refine Ex.condF ok hm rfl (by first
    | rfl
    | (simp; done)) ?_))
            refine ⟨rfl, ⟨rfl, rfl, rfl, rfl, trivial⟩, LoopR.step hq2 (fun k => (hc2 k).1) hg hnq hnc g1 f1 g2 f2 ?_⟩
            split <;> omega
          · (repeat (first
    | refine Ex.seq ok hm ?_
    | refine Ex.block ok hm ?_
    | refine Ex.skip ok hm ?_
    | refine Ex.region ok hm ?_
    | refine Sq.pu ok hm Want.none (by first
    | exact Pu.assign rfl
    | exact Pu.eqlI rfl rfl) rfl ?_
    | refine Sq.finH (n := 40) ok hm (by repeat (first
    | exact Keep.nil
    | apply Keep.drop rfl
    | apply Keep.keep rfl)) ?_
    | refine Ex.condF ok hm rfl (by first
    | rfl
    | exact decide_eq_false (by omega)) ?_))
            exact ⟨rfl, ⟨rfl, rfl, rfl, rfl, trivial⟩, at', hat, h1, h2, hg, hnq, hnc⟩
    · rintro M7 ⟨at2, hat2, j1, j2, jg, jn, jc⟩
      have hrow2 := j2.row
      (repeat (refine Ex.seq ok hm ?_))
      refine Ex.draw ok hm 20 (by kernel_rfl) ?_
      (repeat (refine Hq.pu Want.none (by exact Pu.move rfl) rfl rfl rfl ?_))
      refine Hq.call ok Want.none (fun ro => Op1.call rfl rfl fn22) rfl rfl (FnC.mono (at_ok j1) ?_)
      rintro x M8 ⟨rfl, _⟩
      refine ⟨rfl, ?_⟩
      (repeat (first
    | refine Hq.pu Want.none (by first
    | exact Pu.move rfl
    | exact Pu.nilCheck rfl
    | exact Pu.fieldAddr hT rfl rfl rfl rfl rfl
    | (apply Pu.load hT rfl rfl rfl; (focus ((repeat (assumption)))); (focus rfl))
    | exact Pu.neqI rfl rfl) rfl rfl rfl ?_
    | refine Hq.pu (by exact Want.yes rfl rfl rfl (by (simp; done))) (by exact Pu.move rfl) rfl rfl rfl ?_))
      refine Hq.call ok (by exact Want.yes rfl rfl rfl (by (simp; done))) (fun ro => Op1.call rfl rfl fn23) rfl rfl (FnC.mono (left_ok j1 hat2 (by omega)) ?_)
      rintro x M9 ⟨rfl, _⟩
      refine ⟨rfl, ?_⟩
      (repeat (first
    | refine Ex.skip ok hm ?_
    | refine Ex.region ok hm ?_
    | refine Sq.pu ok hm Want.none (by first
    | exact Pu.move rfl
    | exact Pu.assign rfl
    | exact Pu.add rfl rfl (by simp only [InR]; omega)) rfl ?_
    | refine Sq.finH (n := 9) ok hm (by repeat (first
    | exact Keep.nil
    | apply Keep.drop rfl
    | apply Keep.keep rfl)) ?_
    | refine Hq.pu (by exact Want.yes rfl rfl rfl (by first
    | rfl
    | (simp; done))) (by first
    | exact Pu.move rfl
    | exact Pu.nilCheck rfl
    | exact Pu.fieldAddr hT rfl rfl rfl rfl rfl
    | (apply Pu.load hT rfl rfl rfl; (focus ((repeat (assumption)))); (focus rfl))
    | exact Pu.sub rfl rfl (by simp only [InR]; omega)
    | exact Pu.lenBuf hT rfl rfl) rfl rfl rfl ?_
    | refine Hq.nil ?_
    | refine Tq.pu Want.none (by first
    | exact Pu.neqI rfl rfl
    | exact Pu.pickF rfl (by first
    | rfl
    | (simp; done)) rfl) rfl ?_
    | refine Tq.pu (by exact Want.yes rfl rfl rfl (by first
    | rfl
    | (simp; done))) (by exact Pu.neqI rfl rfl) rfl ?_
    | refine Tq.finH (n := 9)  (by repeat (first
    | exact Keep.nil
    | apply Keep.drop rfl
    | apply Keep.keep rfl)) ?_
    | refine Ex.condF ok hm rfl (by first
    | rfl
    | (simp; done)) ?_))
      refine ⟨i + 1, [(7, .int .i64 ((i + 1 : Nat) : Int)), (6, .pointer (some ⟨q, 0, none⟩)), (5, .pointer (some ⟨1, 0, none⟩)), (1, inV nil 0 l.length)], ?_, ⟨rfl, rfl, rfl, ?_, trivial⟩, ?_, by omega, by omega, at2, hat2, j1, j2, jg, jn, jc⟩
      · show 100 - (i + 1) < 100 - i
        omega
      · rw [inV_pos 0 l.length hnil (by omega)]; rfl
      · rw [inV_pos 0 l.length hnil (by omega)]
  · by_cases hil : i < l.length
    all_goals
      (repeat (first
    | refine Ex.seq ok hm ?_
    | refine Ex.region ok hm ?_
    | refine Sq.pu ok hm Want.none (by first
    | exact Pu.move rfl
    | exact Pu.lssI rfl rfl
    | exact Pu.lenIn hT (by assumption) rfl rfl
    | exact Pu.pickT rfl (by first
    | rfl
    | exact decide_eq_true (by omega)) rfl
    | exact Pu.pickF rfl (by first
    | rfl
    | exact decide_eq_false (by omega)) rfl) rfl ?_
    | refine Sq.pu ok hm (by first
    | exact Want.none
    | exact Want.yes rfl rfl rfl (by first
    | rfl
    | exact decide_eq_true (by omega))) (by first
    | exact Pu.move rfl
    | exact Pu.lssI rfl rfl) rfl ?_
    | refine Sq.skip ok hm (by exact Want.no rfl rfl rfl (by first
    | rfl
    | exact decide_eq_false (by omega))) rfl ?_
    | refine Sq.finH (n := 9) ok hm (by repeat (first
    | exact Keep.nil
    | apply Keep.drop rfl
    | apply Keep.keep rfl)) ?_
    | refine Ex.condF ok hm rfl (by first
    | rfl
    | exact decide_eq_false (by omega)) ?_
    | refine Ex.exit ok hm ?_))
      refine Sq.call ok Want.none (Op1.call rfl rfl fn13) rfl (FnC.mono awake2_ok ?_)
      rintro x M6 ⟨rfl, rfl⟩
      (repeat (first
    | refine Sq.pu ok hm Want.none (by exact Pu.assign rfl) rfl ?_
    | refine Sq.finH (n := 9) ok hm (by repeat (first
    | exact Keep.nil
    | apply Keep.drop rfl
    | apply Keep.keep rfl)) ?_
    | refine Ex.ret ok hm ?_))
      exact ⟨_, .tmp rfl .nil, rfl⟩
end Go.Proofs.Ytncpdgjlhdbdpaa
