/- Regions that draw their order: the walk with what is put off. -/
import Derived.Test.YtnefhpkkbehjeaaGreatDoorWvmFulb
set_option linter.unusedSimpArgs false
set_option linter.unusedVariables false
namespace Go.Wvm
open Go.RowKit

section
variable {P : Program} {vp : VP} {μ : Mu} {ro : Nat} {w0 B : Base} {V V' : VW} {w : World} {ops : Array Oper} {Q : Exit → Act → World → Prop}

def ApartI (ops : Array Oper) (i : Nat) (o : Oper) (s : Array Bool) : Prop :=
  ∀ k ok, ops[k]? = some ok → k ≠ i → s.getD k true = false → (∀ e ∈ ok.after, Region.binds .any e = true → e.on ≠ i) → o.apart ops ok = true

/-- What is put off is not done yet; or it is done, and the block stays as it is. -/
def Pend (P : Program) (ops : Array Oper) (ro : Nat) (w0 : Base) (n m u : Nat) (I : Option (Nat × Oper × Pay)) (s sr : Array Bool) (f : VF) (a : Act) (μ : Mu) (B : Base) : Prop :=
  match I with
  | none => sr = s ∧ B = w0 ∧ n ≤ m ∧ u = 0
  | some (i, o, p) => ops[i]? = some o ∧ ApartI ops i o s ∧ s.getD i true = true ∧ ∃ d, o.dst = some d ∧ f.tm.get d = none ∧
    ((u = 1 ∧ B = w0 ∧ n + 1 ≤ m ∧ s = sr.setIfInBounds i true ∧ i ∈ Region.ready .any ops sr ∧ Region.wanted o (yielded ops a.tmps) = true ∧
        ∃ l', PayR P μ p l' ∧ ∀ w1 : World, (execOp a.eval o).run P w1 = .ok (.value (p.val w1.heap.size)) { w1 with heap := w1.heap.push (.cells ⟨l'⟩ p.e) }) ∨
      (u = 0 ∧ sr = s ∧ n ≤ m ∧ ∃ rb l' Vc μc, B = w0.hold rb (.cells ⟨l'⟩ p.e) Vc ∧ w0.guard rb = none ∧ w0.heap.size ≤ rb ∧ Ext μc μ ∧ (∀ b oc, b < ro → Vc.heap.get b = some oc → ∃ L, μc b = some L ∧ L.blk ≠ rb) ∧ PayR P μ p l' ∧ (d < a.tmps.size → a.tmps.getD d undef = p.val rb)))

theorem waitsB_not {k i : Nat} {ok : Oper} (hk : ops[k]? = some ok) (h : waitsB ops k i = false) : ∀ e ∈ ok.after, Region.binds .any e = true → e.on ≠ i := by
  intro e he hb hon
  unfold waitsB at h
  rw [hk] at h
  simp only [List.any_eq_false, Bool.and_eq_true, not_and] at h
  exact h e (by simpa using he) hb (by rw [hon]; exact Nat.beq_refl _)

theorem getD_flip {s : Array Bool} {j : Nat} (h : s.getD j false = true) : s.getD j true = true := by
  rw [Array.getD_eq_getD_getElem?] at *
  cases hx : s[j]? with
  | none => rfl
  | some b => rw [hx] at h; simpa using h

theorem besides_mem {I : Option (Nat × Oper × Pay)} {l : List Nat} {k : Nat} (h : k ∈ besides ops I l) : k ∈ l ∧ ∀ i o p, I = some (i, o, p) → waitsB ops k i = false := by
  unfold besides at h
  split at h
  · exact ⟨h, fun _ _ _ h => by cases h⟩
  · rename_i i o p
    obtain ⟨h1, h2⟩ := List.mem_filter.1 h
    refine ⟨h1, fun i' o' p' e => ?_⟩
    cases e
    simpa using h2

/-- Who may come up, and does not wait for what is put off, may come up. -/
theorem Pend.ready {n m u : Nat} {I : Option (Nat × Oper × Pay)} {s sr : Array Bool} {f : VF} {a : Act} (h : Pend P ops ro w0 n m u I s sr f a μ B) {k : Nat} (hk : k ∈ Region.ready .any ops s) (hw : ∀ i o p, I = some (i, o, p) → waitsB ops k i = false) : k ∈ Region.ready .any ops sr := by
  unfold Pend at h
  split at h
  · rw [h.1]; exact hk
  · rename_i i o p
    obtain ⟨hi, hap, hsi, d, hd, hfd, h⟩ := h
    rcases h with ⟨_, _, _, hs, hir, _⟩ | ⟨_, hs, _⟩
    · rw [hs] at hk
      obtain ⟨h0, ok, hok, hall⟩ := mem_ready.1 hk
      have hki : k ≠ i := fun e => by subst e; rw [hs] at hsi; rw [h0] at hsi; cases hsi
      refine mem_ready.2 ⟨by rw [getD_set_ne true (Ne.symm hki)] at h0; exact h0, ok, hok, fun e he hb => ?_⟩
      have := hall e he hb
      rw [getD_set_ne false (Ne.symm (waitsB_not hok (hw i o p rfl) e he hb))] at this
      exact this
    · rw [hs]; exact hk

theorem Pend.free {n m u : Nat} {I : Option (Nat × Oper × Pay)} {s sr : Array Bool} {f : VF} {a : Act} (h : Pend P ops ro w0 n m u I s sr f a μ B) {j : Nat} {oj : Oper} (hj : ops[j]? = some oj) (hf : Region.free .any ops s j = true) (hjs : s.getD j true = false) (hw : ∀ i o p, I = some (i, o, p) → waitsB ops j i = false) :
    ∀ k ok, ops[k]? = some ok → k ≠ j → sr.getD k true = false → (∀ e ∈ ok.after, Region.binds .any e = true → e.on ≠ j) → oj.apart ops ok = true := by
  intro k ok hk hkj hun hno
  unfold Pend at h
  split at h
  · rw [h.1] at hun; exact Region.free_spec hj hf k ok hk hkj hun hno
  · rename_i i o p
    obtain ⟨hi, hap, hsi, d, hd, hfd, h⟩ := h
    rcases h with ⟨_, _, _, hs, hir, _⟩ | ⟨_, hs, _⟩
    · by_cases hki : k = i
      · subst hki
        rw [hi] at hk
        cases hk
        exact apart_symm (hap j oj hj (Ne.symm hkj) hjs (waitsB_not hj (hw k _ p rfl)))
      · refine Region.free_spec hj hf k ok hk hkj ?_ hno
        rw [hs, getD_set_ne true (Ne.symm hki)]; exact hun
    · rw [hs] at hun; exact Region.free_spec hj hf k ok hk hkj hun hno

/-- One operation further. -/
theorem Pend.step {μ' : Mu} (hsel : Region.noSelect ops = true) {n m u : Nat} {I : Option (Nat × Oper × Pay)} {s sr : Array Bool} {f f1 : VF} {a : Act} (h : Pend P ops ro w0 (n + 1) (m + 1) u I s sr f a μ B) (e : Ext μ μ') {k : Nat} {ok : Oper} (hk : ops[k]? = some ok) (hks : s.getD k true = false) (hw : ∀ i o p, I = some (i, o, p) → waitsB ops k i = false) {v v' : Value} (hf1 : f1.tm = f.put ok.dst v) :
    Pend P ops ro w0 n m u I (s.setIfInBounds k true) (sr.setIfInBounds k true) f1 (a.put ok.dst v') μ' B := by
  unfold Pend at h ⊢
  split at h
  · obtain ⟨h1, h2, h3, h4⟩ := h
    exact ⟨by rw [h1], h2, by omega, h4⟩
  · rename_i i o p
    obtain ⟨hi, hap, hsi, d, hd, hfd, h⟩ := h
    have hki : k ≠ i := fun e => by subst e; rw [hks] at hsi; cases hsi
    have hapk := hap k ok hk hki hks (waitsB_not hk (hw i o p rfl))
    obtain ⟨a1, a2, a3⟩ := Oper.apart_spec hapk
    have hdst : ok.dst ≠ some d := fun e => a2 d hd e
    have hne : ∀ x, s.getD x true = true → (s.setIfInBounds k true).getD x true = true := fun x hx => by
      by_cases hkx : k = x
      · subst hkx; rw [hks] at hx; cases hx
      · rw [getD_set_ne true hkx]; exact hx
    refine ⟨hi, fun x ox hx hxi hun hno => ?_, hne i hsi, d, hd, by rw [hf1, putV_ne hdst]; exact hfd, ?_⟩
    · refine hap x ox hx hxi ?_ hno
      by_cases hkx : k = x
      · subst hkx; exact hks
      · rw [getD_set_ne true hkx] at hun; exact hun
    rcases h with ⟨h1, h2, h3, hs, hir, hwd, l', hp, hrun⟩ | ⟨h1, hs, h3, rb, l', Vc, μc, q1, q2, q3, q4, q5, q6, q7⟩
    · left
      refine ⟨h1, h2, by omega, by rw [hs, Array.setIfInBounds_comm _ _ (Ne.symm hki)], ready_mono hir (Ne.symm hki), ?_, l', hp.mono e, ?_⟩
      · rw [wanted_put o a ok.dst v' a3]; exact hwd
      · rw [execOp_put o (fun cs b => Region.noSelect_spec hsel i o cs b hi) a ok.dst v' a3]; exact hrun
    · right
      exact ⟨h1, by rw [hs], by omega, rb, l', Vc, μc, q1, q2, q3, q4.trans e, q5, q6.mono e, fun hlt => by rw [putA_ne hdst]; rw [putA_size] at hlt; exact q7 hlt⟩

theorem ready_not {s : Array Bool} {k : Nat} (h : k ∈ Region.ready .any ops s) : s.getD k true = false := (mem_ready.1 h).1

theorem greedyX0_sound (ok : VPok P vp) {sub : VM → VS} (hsub : SubOk P vp ro sub) (hsel : Region.noSelect ops = true) (hQp : ∀ c a w, ¬ Q (.panic c) a w) {D' : List DE} {μ0 : Mu} (hD : HasX μ0 D') {f' : VF} {V' : VW} :
    ∀ (k n u : Nat), 2 * n + u ≤ k → ∀ (I : Option (Nat × Oper × Pay)) (s : Array Bool) (f : VF) (V : VW) (D : List DE) (H : List VW), greedyX0 P vp sub ro ops n I s f V D H = some (f', V', D') → (∀ x ∈ V :: H, ∀ e ∈ D, keepsE vp e x = true) →
      ∀ (m : Nat) (sr : Array Bool) (a : Act) (w : World) (μ : Mu) (B : Base), Ext μ0 μ → Closed ops sr → Pend P ops ro w0 n m u I s sr f a μ B → AR μ f a → Rel μ ro B V w →
      (∀ a' w' μ', Ext μ μ' → AR μ' f' a' → Rel μ' ro w0 V' w' → Q .normal a' w') → wpAnyU P ops Q (SX P μ0 D') m sr a w := by
  intro k
  induction k with
  | zero =>
    intro n u hle I s f V D H h
    obtain rfl : n = 0 := by omega
    cases h
  | succ k IH =>
    intro n u hle I s f V D H h hk m sr a w μ B e0 hcl hp A R hQ
    cases n with
    | zero => cases h
    | succ n =>
    have hkeep := greedyX0_keeps h hk
    have hkV : ∀ x, x ∈ V :: H → keepsX vp D' x = true := fun x hx => keepsX_of fun e he => hkeep x hx e he
    have hSX : SX P μ0 D' w := keepsX_sound ok e0 R (hkV V (.head _))
    have hm : ∃ m', m = m' + 1 := by
      unfold Pend at hp
      split at hp
      · exact ⟨m - 1, by omega⟩
      · obtain ⟨_, _, _, d, _, _, h | h⟩ := hp
        · exact ⟨m - 1, by omega⟩
        · exact ⟨m - 1, by omega⟩
    -- the block is put there now
    have undo : ∀ (i : Nat) (o : Oper) (p : Pay), I = some (i, o, p) → u = 1 → ∀ m', m = m' + 1 → wpOp P ops Q i (fun a' w' => (SX P μ0 D' w → lateB ops i = false → SX P μ0 D' w') ∧ wpAnyU P ops Q (SX P μ0 D') m' (sr.setIfInBounds i true) a' w') a w := by
      intro i o p hI hu m' hmm
      subst hI
      obtain ⟨hi, hap, hsi, d, hd, hfd, hst⟩ := hp
      rcases hst with ⟨_, hB, hnm, hs, hir, hwd, l', hpr, hrun⟩ | ⟨h0, _⟩
      case inr => omega
      subst hB
      unfold wpOp
      simp only [hi, hwd, if_true]
      left
      unfold Oper.wp
      rw [hrun w]
      have R' : Rel μ ro (B.hold w.heap.size (.cells ⟨l'⟩ p.e) V) V { w with heap := w.heap.push (.cells ⟨l'⟩ p.e) } := R.hold _
      have hdne : ∀ t, t = d → f.tm.get t = none := fun t e => by rw [e]; exact hfd
      have A' : AR μ f (a.put o.dst (p.val w.heap.size)) := by
        have hs2 : ∀ t, (a.put o.dst (p.val w.heap.size)).tmps.getD t undef = if t = d ∧ d < a.tmps.size then p.val w.heap.size else a.tmps.getD t undef := fun t => by
          rw [hd]
          show (a.tmps.setIfInBounds d _).getD t undef = _
          rw [getD_set]
        refine ⟨by rw [putA_size]; exact A.size, fun t v ht => ?_, fun t ht => ?_, by rw [hd]; exact A.defers⟩
        · rw [hs2, if_neg (fun q => by rw [hdne t q.1] at ht; cases ht)]
          exact A.tmp t v ht
        · rw [hs2]
          split
          · exact fun b => Pay.val_not b
          · exact A.non t ht
      refine ⟨fun _ _ => keepsX_sound ok e0 R' (hkV V (.head _)), ?_⟩
      refine IH (n + 1) 0 (by omega) _ s f V D H h hk m' _ _ _ μ _ e0 (hcl.set hir) ?_ A' R' hQ
      refine ⟨hi, hap, hsi, d, hd, hfd, .inr ⟨rfl, by rw [hs], by omega, w.heap.size, l', V, μ, rfl, ?_, R.below.size, Ext.refl _, fun b oc hb hoc => ?_, hpr, fun hlt => ?_⟩⟩
      · exact R.unguard
      · obtain ⟨L, O, h1, h2, _⟩ := R.obj b oc hoc
        exact ⟨L, h1, by have := heap_lt h2; omega⟩
      · rw [hd]
        show (a.tmps.setIfInBounds d _).getD d undef = _
        rw [putA_size] at hlt
        rw [getD_set, if_pos ⟨rfl, hlt⟩]
    obtain ⟨m', rfl⟩ := hm
    have hnw : ∀ {j : Nat}, j ∈ besides ops I (Region.ready .any ops s) → j ∈ Region.ready .any ops s ∧ ∀ i o p, I = some (i, o, p) → waitsB ops j i = false := fun hj => besides_mem hj
    simp only [greedyX0] at h
    split at h
    · -- all is done
      rename_i hr
      cases h
      obtain ⟨rfl, rfl, _⟩ := hp
      exact wpAnyU_done hr (hQ a w μ (Ext.refl _) A R) _
    rename_i I l0 I1 hno
    split at h
    · -- what looks at no world
      rename_i j o v hpick
      obtain ⟨hj, ho, hf, hv⟩ := pickP0_some hpick
      obtain ⟨hjr, hjw⟩ := hnw hj
      have hw := wanted_sound A o ops
      have hrr := hp.ready hjr hjw
      have hfr := hp.free ho hf (ready_not hjr) hjw
      rcases hv with ⟨hw2, rfl⟩ | ⟨hw2, hv⟩
      · rw [hw2] at hw
        exact wpAnyU_first (T := fun _ => True) ho (Region.noSelect_spec hsel) (fun c a w hq => (hQp c _ w hq).elim) (.inr fun _ => trivial) m' sr a w hfr hcl hrr (.inr ⟨hw, rfl⟩) trivial
          (IH n u (by omega) _ _ _ V D H h hk m' _ _ w μ B e0 (hcl.set hrr) (hp.step hsel (Ext.refl _) ho (ready_not hjr) hjw rfl) (A.put (VR.undef μ) o.dst) R hQ)
      · rw [hw2] at hw
        obtain ⟨v', r1, r2⟩ := pureV_sound ok A.ev (fun b hb => (R.fresh b hb).1) R.tot hv
        exact wpAnyU_first (T := fun _ => True) ho (Region.noSelect_spec hsel) (fun c a w hq => (hQp c _ w hq).elim) (.inr fun _ => trivial) m' sr a w hfr hcl hrr (.inl ⟨hw, fun w1 _ => r2 w1⟩) trivial
          (IH n u (by omega) _ _ _ V D H h hk m' _ _ w μ B e0 (hcl.set hrr) (hp.step hsel (Ext.refl _) ho (ready_not hjr) hjw rfl) (A.put r1 o.dst) R hQ)
    rename_i hpn
    split at h
    · -- what looks at what stays
      rename_i j o e v hpick
      have hpx : ∃ l' : List Nat, pickX0 vp (V :: H) ops s f V (besides ops I (Region.ready .any ops s)) = some (j, o, e, v) := by
        unfold pickY0 at hpick
        split at hpick
        · cases hpick
        · exact ⟨[], hpick⟩
      obtain ⟨_, hpx⟩ := hpx
      obtain ⟨hj, ho, hf, hw2, hst, hkh⟩ := pickX0_some hpx
      obtain ⟨hjr, hjw⟩ := hnw hj
      have hw := wanted_sound A o ops
      rw [hw2] at hw
      have hrr := hp.ready hjr hjw
      have hfr := hp.free ho hf (ready_not hjr) hjw
      have hk' : ∀ x ∈ V :: H, ∀ e' ∈ e :: D, keepsE vp e' x = true := fun x hx e' he' => by
        cases he' with
        | head => exact keepsH_mem hkh x hx
        | tail _ he' => exact hk x hx e' he'
      have hmem : e ∈ D' := greedyX0_mem h e (.head _)
      obtain ⟨hlb, v', hv, hy⟩ := stayV_sound (P := P) e0 A.ev hst (hD e hmem)
      exact wpAnyU_first (T := SX P μ0 D') ho (Region.noSelect_spec hsel) (fun c a w hq => (hQp c _ w hq).elim) (.inl ⟨rfl, hlb⟩) m' sr a w hfr hcl hrr (.inl ⟨hw, fun w1 hw1 => hy w1 (hw1 e hmem)⟩) hSX
        (IH n u (by omega) _ _ _ V (e :: D) H h hk' m' _ _ w μ B e0 (hcl.set hrr) (hp.step hsel (Ext.refl _) ho (ready_not hjr) hjw rfl) (A.put hv o.dst) R hQ)
    rename_i hyn
    split at h
    · -- what was put off gets its number
      rename_i i o p hbes
      split at h
      case h_2 => cases h
      rename_i hkx
      have hp0 := hp
      obtain ⟨hi, hap, hsi, d, hd, hfd, hst⟩ := hp
      rcases hst with ⟨hu, hB, hnm, hs, hir, hwd, l', hpr, hrun⟩ | ⟨hu, hs, hnm, rb, l', Vc, μc, q1, q2, q3, q4, q5, q6, q7⟩
      · refine ⟨fun hr => (by rw [hr] at hir; cases hir), fun idx hidx => ?_⟩
        by_cases hii : idx = i
        · subst hii; exact undo idx o p rfl hu m' rfl
        · exfalso
          have h1 : idx ∈ Region.ready .any ops s := by rw [hs]; exact ready_mono hidx hii
          have h2 : waitsB ops idx i = true := by
            cases hwb : waitsB ops idx i with
            | true => rfl
            | false =>
              have : idx ∈ besides ops (some (i, o, p)) (Region.ready .any ops s) := by
                unfold besides
                exact List.mem_filter.2 ⟨h1, by simp [hwb]⟩
              rw [hbes] at this
              cases this
          obtain ⟨oi, hoi, e, he, hb, hon⟩ := waitsB_spec h2
          obtain ⟨_, oi2, hoi2, hall⟩ := mem_ready.1 hidx
          rw [hoi] at hoi2
          cases hoi2
          have h3 := getD_flip (hall e he hb)
          rw [hon, ready_not hir] at h3
          cases h3
      · subst hs
        subst q1
        have R2 := R.settle q2 q3 q4 q5 q6
        have hfr0 := (R.fresh V.next (Nat.le_refl _)).1
        have hval := Pay.val_rel (μ := μ) (b := V.next) (rb := rb) q6
        have hext : Ext μ (μ.put V.next ⟨rb, 0, p.l.length, p.u⟩) := Mu.ext_put hfr0
        have A2 : AR (μ.put V.next ⟨rb, 0, p.l.length, p.u⟩) { f with tm := f.put o.dst (p.val V.next) } a := by
          rw [hd]
          have htm : ∀ t, (f.put (some d) (p.val V.next)).get t = if t = d ∧ d < a.tmps.size then some (p.val V.next) else f.tm.get t := by
            intro t
            simp only [VF.put]
            rw [A.size]
            split
            · rename_i hb
              have hb := lt_of_blt hb
              rw [Tr.get_set]
              by_cases e : t = d
              · rw [if_pos e, if_pos ⟨e, hb⟩]
              · rw [if_neg e, if_neg (fun k => e k.1)]
            · rename_i hb
              have hb : ¬ d < f.nt := fun k => by rw [blt_true k] at hb; cases hb
              rw [if_neg (fun k => hb k.2)]
          refine ⟨A.size, fun t v ht => ?_, fun t ht => ?_, A.defers.mono hext⟩
          · rw [htm] at ht
            by_cases e : t = d ∧ d < a.tmps.size
            · rw [if_pos e] at ht; cases ht
              rw [e.1, q7 e.2]; exact hval
            · rw [if_neg e] at ht; exact (A.tmp t v ht).mono hext
          · rw [htm] at ht
            by_cases e : t = d ∧ d < a.tmps.size
            · rw [if_pos e] at ht; cases ht
            · rw [if_neg e] at ht; exact A.non t ht
        refine IH n 0 (by omega) none _ _ _ D (V :: H) h (fun x hx e he => ?_) (m' + 1) sr a w _ w0 (e0.trans hext) hcl ⟨rfl, rfl, by omega, rfl⟩ A2 R2 (fun a' w' μ' e' => hQ a' w' μ' (hext.trans e'))
        cases hx with
        | head => exact keepsX_mem hkx e he
        | tail _ hx => exact hk x hx e he
    rename_i I l1 I2 hx
    split at h
    · -- the only one
      rename_i l l' i y hready hbes
      split at h
      case h_2 => cases h
      rename_i o ho
      split at h
      case h_2 => cases h
      rename_i f1 V1 hdo
      have hir : i ∈ Region.ready .any ops s := by rw [hready]; exact .head _
      have hiw : ∀ i' o' p', I = some (i', o', p') → waitsB ops i i' = false := by
        have : i ∈ besides ops I (Region.ready .any ops s) := by
          have h1 : y ∈ besides ops I (Region.ready .any ops s) := by rw [hbes]; exact .head _
          have h2 := (besides_mem h1).1
          rw [hready] at h2
          have : y = i := by simpa using h2
          rw [this] at h1; exact h1
        exact (besides_mem this).2
      have hrr := hp.ready hir hiw
      -- who comes up: it, or what was put off
      have who : ∀ idx ∈ Region.ready .any ops sr, idx = i ∨ ∃ o p, I = some (idx, o, p) ∧ u = 1 := by
        intro idx hidx
        unfold Pend at hp
        split at hp
        · rw [hp.1, hready] at hidx; left; simpa using hidx
        · rename_i ii oo pp
          obtain ⟨_, _, _, d, _, _, hst⟩ := hp
          rcases hst with ⟨hu, _, _, hs, hiir, _⟩ | ⟨_, hs, _⟩
          · by_cases hii : idx = ii
            · right; exact ⟨oo, pp, by rw [hii], hu⟩
            · left
              have : idx ∈ Region.ready .any ops s := by rw [hs]; exact ready_mono hidx hii
              rw [hready] at this; simpa using this
          · rw [hs, hready] at hidx; left; simpa using hidx
      split at h
      · -- it goes on
        rename_i hkx
        refine ⟨fun hr => (by rw [hr] at hrr; cases hrr), fun idx hidx => ?_⟩
        rcases who idx hidx with rfl | ⟨oo, pp, hI, hu⟩
        · refine doX_sound ok hsub A R ho hdo fun v v' w' μ' hf1 ex A1 R1 => ⟨fun _ _ => ?_, ?_⟩
          · refine keepsX_sound ok (e0.trans ex) R1 ?_
            have := greedyX0_keeps h (fun x hx e he => by
              cases hx with
              | head => exact keepsX_mem hkx e he
              | tail _ hx => exact hk x hx e he)
            exact keepsX_of fun e he => this _ (.head _) e he
          · refine IH n u (by omega) _ _ _ _ _ _ h (fun x hx e he => ?_) m' _ _ w' μ' B (e0.trans ex) (hcl.set hrr) (hp.step hsel ex ho (ready_not hir) hiw (by rw [hf1])) A1 R1 (fun a' w2 μ2 e2 => hQ a' w2 μ2 (ex.trans e2))
            cases hx with
            | head => exact keepsX_mem hkx e he
            | tail _ hx => exact hk x hx e he
        · exact undo idx oo pp hI hu m' rfl
      · -- the end: nothing looks at what may change
        split at h
        case h_2 => cases h
        rename_i hlate
        split at h
        case h_2 => cases h
        rename_i f2 V2 hge
        cases h
        obtain ⟨rfl, rfl, hnm, rfl⟩ := hp
        refine ⟨fun hr => (by rw [hr] at hrr; cases hrr), fun idx hidx => ?_⟩
        rcases who idx hidx with rfl | ⟨oo, pp, hI, _⟩
        · refine doX_sound ok hsub A R ho hdo fun v v' w' μ' hf1 ex A1 R1 => ⟨fun _ hl => (by rw [hlate] at hl; cases hl), ?_⟩
          exact wpAnyU_le (greedyE0_sound ok hsel hQp n _ _ _ _ V1 _ w' μ' (hcl.set hrr) A1 R1 hge (fun a' w2 μ2 e2 => hQ a' w2 μ2 (ex.trans e2))) (by omega)
        · cases hI
    · -- a block is put off
      split at h
      case h_2 => cases h
      rename_i j o p hpb
      have hI : I = none ∧ pickA0 vp ops s f (Region.ready .any ops s) = some (j, o, p) := by
        unfold pickB0 at hpb
        split at hpb
        · exact ⟨rfl, hpb⟩
        · cases hpb
      obtain ⟨rfl, hpa⟩ := hI
      obtain ⟨hj, ho, hf, hw2, hfresh, hpay⟩ := pickA0_some hpa
      obtain ⟨rfl, rfl, hnm, rfl⟩ := hp
      have hw := wanted_sound A o ops
      rw [hw2] at hw
      obtain ⟨A2, _, d, hd, hfd⟩ := A.drop hfresh
      obtain ⟨l', hpr, hrun⟩ := payV_sound (P := P) ok A.ev hpay
      have hset : (sr.setIfInBounds j true).getD j true = true := by
        rw [Array.getD_eq_getD_getElem?]
        by_cases hlt : j < sr.size
        · rw [Array.getElem?_setIfInBounds_self_of_lt hlt]; rfl
        · rw [Array.getElem?_eq_none (by simp; omega)]; rfl
      refine IH n 1 (by omega) _ _ _ V D H h hk (m' + 1) sr a w μ B e0 hcl ⟨ho, fun x ox hx hxj hun hno => ?_, hset, d, hd, hfd, .inl ⟨rfl, rfl, by omega, rfl, hj, hw, l', hpr, hrun⟩⟩ A2 R hQ
      refine Region.free_spec ho hf x ox hx hxj ?_ hno
      rw [getD_set_ne true (Ne.symm hxj)] at hun; exact hun
end
end Go.Wvm
