/- Stretches of a run, put together; what nothing leads to any more is forgotten between them. -/
import Derived.Test.YtnefhpkkbehjeaaGreatDoorWvmStop
set_option linter.unusedSimpArgs false
set_option linter.unusedVariables false
namespace Go.Wvm
open Go.RowKit

/-- So many numbers from one on. -/
def delN : Nat → Nat → Tr VObj → Tr VObj
  | 0, _, t => t
  | n + 1, b, t => delN n (b + 1) (t.del b)
def shedL : List (Nat × Nat) → Tr VObj → Tr VObj
  | [], t => t
  | (b, n) :: r, t => shedL r (delN n b t)
/-- Without empty branches. -/
def mkT {α : Type} (l : Tr α) (v : Option α) (r : Tr α) : Tr α := match l, v, r with
  | .nil, none, .nil => .nil
  | l, v, r => .node l v r
def pruneT {α : Type} : Tr α → Tr α
  | .nil => .nil
  | .node l v r => mkT (pruneT l) v (pruneT r)
def shedP (l : List (Nat × Nat)) (t : Tr VObj) : Tr VObj := pruneT (shedL l t)
theorem get_mkT {α : Type} (l : Tr α) (v : Option α) (r : Tr α) (k : Nat) : (mkT l v r).get k = (Tr.node l v r).get k := by
  unfold mkT
  split
  · rw [Tr.get_nil]
    cases k with
    | zero => rfl
    | succ k =>
      simp only [Tr.get]
      cases Nat.beq (k % 2) 0 <;> simp [Tr.get_nil]
  · rfl
theorem get_pruneT {α : Type} : ∀ (t : Tr α) (k : Nat), (pruneT t).get k = t.get k
  | .nil, _ => rfl
  | .node l v r, k => by
    unfold pruneT
    rw [get_mkT]
    cases k with
    | zero => rfl
    | succ k =>
      simp only [Tr.get, get_pruneT l, get_pruneT r]
/-- Temporaries that nobody looks at any more; but no Boolean. -/
def dropT : List Nat → Tr Value → Tr Value
  | [], t => t
  | k :: r, t => match t.get k with
    | some (.bool _) => dropT r t
    | _ => dropT r (t.del k)
def VF.less (l : List Nat) (f : VF) : VF := { f with tm := pruneT (dropT l f.tm) }
def dropCs : List (List Nat) → List VF → List VF
  | l :: ls, f :: fs => (match l with | [] => f | l => f.less l) :: dropCs ls fs
  | _, fs => fs
def VS.shed (l : List (Nat × Nat)) (d : List (List Nat)) : VS → VS
  | .next ⟨fr, cs, ⟨n, h, g⟩⟩ => match d with
    | [] => .next ⟨fr, cs, ⟨n, shedP l h, g⟩⟩
    | k :: ds => .next ⟨fr.less k, dropCs ds cs, ⟨n, shedP l h, g⟩⟩
  | s => s

theorem dropT_get : ∀ (l : List Nat) (t : Tr Value) (k : Nat), (dropT l t).get k = t.get k ∨ ((dropT l t).get k = none ∧ ∀ b, t.get k ≠ some (.bool b))
  | [], _, _ => .inl rfl
  | x :: r, t, k => by
    unfold dropT
    split
    · exact dropT_get r t k
    · rename_i hx
      rcases dropT_get r (t.del x) k with h | ⟨h1, h2⟩
      · rw [Tr.get_del] at h
        by_cases e : k = x
        · rw [if_pos e] at h
          exact .inr ⟨h, fun b hb => hx b (by rw [← e]; exact hb)⟩
        · rw [if_neg e] at h; exact .inl h
      · refine .inr ⟨h1, fun b hb => ?_⟩
        rw [Tr.get_del] at h2
        by_cases e : k = x
        · exact hx b (by rw [← e]; exact hb)
        · rw [if_neg e] at h2; exact h2 b hb
theorem AR.less {μ : Mu} {f : VF} {a : Act} (A : AR μ f a) (l : List Nat) : AR μ (f.less l) a := by
  have hg : ∀ k, (f.less l).tm.get k = (dropT l f.tm).get k := fun k => get_pruneT _ k
  refine ⟨A.size, fun t v ht => ?_, fun t ht => ?_, A.defers⟩
  · rw [hg] at ht
    rcases dropT_get l f.tm t with h | ⟨h, _⟩
    · exact A.tmp t v (h.symm.trans ht)
    · rw [h] at ht; cases ht
  · rw [hg] at ht
    rcases dropT_get l f.tm t with h | ⟨_, h⟩
    · exact A.non t (h.symm.trans ht)
    · intro b hb
      cases hv : f.tm.get t with
      | none => exact A.non t hv b hb
      | some u =>
        have hr := A.tmp t u hv
        rw [hb] at hr
        cases hr
        exact h b hv
theorem dropCs_rel {μ : Mu} : ∀ (d : List (List Nat)) {cs : List VF} {Fs : List Frame}, CsR μ cs Fs → CsR μ (dropCs d cs) Fs
  | [], _, _, h => h
  | l :: ls, [], _, h => h
  | l :: ls, f :: fs, _, .cons (a := a) (r := r) A hr C => by
    unfold dropCs
    split
    · exact .cons A hr (dropCs_rel ls C)
    · exact CsR.cons (a := a) (r := r) (A.less _) hr (dropCs_rel ls C)
theorem bot_dropCs : ∀ (d : List (List Nat)) (g : FuncId) (cs : List VF), bot g (dropCs d cs) = bot g cs
  | [], _, _ => rfl
  | l :: ls, _, [] => rfl
  | l :: ls, g, f :: fs => by
    unfold dropCs
    simp only [bot]
    split
    · exact bot_dropCs ls f.fn fs
    · exact bot_dropCs ls f.fn fs

section
variable {P : Program} {vp : VP}

/-- From here a run ends so. -/
def EndsFrom (P : Program) (ro : Nat) (m : VM) (v : Value) (W : VW) : Prop :=
  ∀ (w0 : Base) (f : VF) (cs : List VF) (V : VW) (μ : Mu) (a : Act) (r : Option Nat) (Fs : List Frame) (w : World), m = { fr := f, cs, w := V } → AR μ f a → RdR μ f.rd r → CsR μ cs Fs → Rel μ ro w0 V w → ∀ bottom, Ends P μ ro w0 f a r cs Fs w v W bottom

/-- From here a run gets there. -/
def Leads (P : Program) (ro : Nat) (m m' : VM) : Prop :=
  ∀ (w0 : Base) (f : VF) (cs : List VF) (V : VW) (μ : Mu) (a : Act) (r : Option Nat) (Fs : List Frame) (w : World), m = { fr := f, cs, w := V } → AR μ f a → RdR μ f.rd r → CsR μ cs Fs → Rel μ ro w0 V w → ∀ bottom, Moves P μ ro w0 (mkF f a r) Fs w bottom m' ∧ bot m'.fr.fn m'.cs = bot f.fn cs

theorem Leads.refl (ro : Nat) (m : VM) : Leads P ro m m := by
  intro w0 f cs V μ a r Fs w hm A hr C R bottom
  subst hm
  exact ⟨⟨a, Fs, w, μ, r, Steps.refl _ _, Ext.refl _, A, hr, C, R⟩, rfl⟩

theorem Leads.trans {ro : Nat} {m m1 m2 : VM} (h : Leads P ro m m1) (k : Leads P ro m1 m2) : Leads P ro m m2 := by
  intro w0 f cs V μ a r Fs w hm A hr C R bottom
  obtain ⟨⟨a', Fs', w1, μ1, r', h1, h2, h3, hr', h4, h5⟩, hbot⟩ := h w0 f cs V μ a r Fs w hm A hr C R bottom
  obtain ⟨f1, cs1, V1⟩ := m1
  obtain ⟨⟨a2, Fs2, w2, μ2, r2, k1, k2, k3, kr, k4, k5⟩, kbot⟩ := k w0 f1 cs1 V1 μ1 a' r' Fs' w1 rfl h3 hr' h4 h5 bottom
  exact ⟨⟨a2, Fs2, w2, μ2, r2, h1.trans k1, h2.trans k2, k3, kr, k4, k5⟩, kbot.trans hbot⟩

theorem Leads.ends {ro : Nat} {m m1 : VM} {v : Value} {W : VW} (h : Leads P ro m m1) (k : EndsFrom P ro m1 v W) : EndsFrom P ro m v W := by
  intro w0 f cs V μ a r Fs w hm A hr C R bottom
  obtain ⟨⟨a', Fs', w1, μ1, r', h1, h2, h3, hr', h4, h5⟩, hbot⟩ := h w0 f cs V μ a r Fs w hm A hr C R bottom
  obtain ⟨f1, cs1, V1⟩ := m1
  obtain ⟨v', μ', w', F, k1, k2, k3, k4, k5, k6⟩ := k w0 f1 cs1 V1 μ1 a' r' Fs' w1 rfl h3 hr' h4 h5 bottom
  exact ⟨v', μ', w', F, h1.trans k1, k2.trans hbot, k3, h2.trans k4, k5, k6⟩

theorem leads_big (ok : VPok P vp) (hm : P.follows .mixedOrders = true) {sub : Nat → VM → VS} (subOk : ∀ ro, SubOk P vp ro (sub ro)) {ro : Nat} {m m' : VM} (h : bigF P vp sub ro m = .next m') : Leads P ro m m' := by
  intro w0 f cs V μ a r Fs w hm' A hr C R bottom
  subst hm'
  rw [bigF_eq] at h
  exact (bigV_sound ok hm subOk A hr C R bottom).1 m' h

theorem runF_subOk (ok : VPok P vp) (hm : P.follows .mixedOrders = true) (n ro : Nat) : SubOk P vp ro (runF P vp n ro) := by
  rw [runF_eq]
  exact runV_subOk ok hm n ro

theorem leads_run (ok : VPok P vp) (hm : P.follows .mixedOrders = true) {N ro : Nat} : ∀ {k : Nat} {m m' : VM}, runK P vp N k ro m = .next m' → Leads P ro m m'
  | 0, m, m', h => by cases h; exact Leads.refl _ _
  | k + 1, m, m', h => by
    simp only [runK] at h
    split at h
    · rename_i m1 hb
      exact (leads_big ok hm (runF_subOk ok hm N) hb).trans (leads_run ok hm h)
    · rename_i hs
      exact absurd h (hs _)

theorem delN_rel {μ : Mu} {ro : Nat} {w0 : Base} {w : World} : ∀ (n b : Nat) {V : VW}, Rel μ ro w0 V w → Rel μ ro w0 ⟨V.next, delN n b V.heap, V.gl⟩ w
  | 0, _, _, R => R
  | n + 1, b, V, R => delN_rel n (b + 1) (R.forget b)
theorem shedL_rel {μ : Mu} {ro : Nat} {w0 : Base} {w : World} : ∀ (l : List (Nat × Nat)) {V : VW}, Rel μ ro w0 V w → Rel μ ro w0 ⟨V.next, shedL l V.heap, V.gl⟩ w
  | [], _, R => R
  | (b, n) :: r, _, R => shedL_rel r (delN_rel n b R)

theorem Rel.same {μ : Mu} {ro : Nat} {w0 : Base} {V : VW} {w : World} (R : Rel μ ro w0 V w) {h : Tr VObj} (e : ∀ k, h.get k = V.heap.get k) : Rel μ ro w0 ⟨V.next, h, V.gl⟩ w where
  below := R.below
  fresh b hb := ⟨(R.fresh b hb).1, (e b).trans (R.fresh b hb).2⟩
  obj b o hb := R.obj b o ((e b).symm.trans hb)
  inj b b' L L' o o' hne hb hb' := R.inj b b' L L' o o' hne ((e b).symm.trans hb) ((e b').symm.trans hb')
  new := R.new
  tot := R.tot
  ron := R.ron
  glob := R.glob
  keep := R.keep
  lt := R.lt
  apart := R.apart
  stale b hb hd := (e b).trans (R.stale b hb hd)
theorem shedP_rel {μ : Mu} {ro : Nat} {w0 : Base} {w : World} (l : List (Nat × Nat)) {V : VW} (R : Rel μ ro w0 V w) : Rel μ ro w0 ⟨V.next, shedP l V.heap, V.gl⟩ w :=
  (shedL_rel l R).same (h := shedP l V.heap) fun k => get_pruneT _ k

/-- A stretch of a run. -/
theorem leads_drop {l : List (Nat × Nat)} {d : List (List Nat)} {ro : Nat} {m m' : VM} (h : VS.shed l d (.next m) = .next m') : Leads P ro m m' := by
  obtain ⟨fr, cs, n, hp, g⟩ := m
  simp only [VS.shed] at h
  split at h
  · cases h
    intro w0 f cs V μ a r Fs w hm' A hr' C R bottom
    cases hm'
    exact ⟨⟨a, Fs, w, μ, r, Steps.refl _ _, Ext.refl _, A, hr', C, shedP_rel l R⟩, rfl⟩
  · rename_i k ds
    cases h
    intro w0 f cs V μ a r Fs w hm' A hr' C R bottom
    cases hm'
    exact ⟨⟨a, Fs, w, μ, r, Steps.refl _ _, Ext.refl _, A.less k, hr', dropCs_rel ds C, shedP_rel l R⟩, bot_dropCs ds _ _⟩
theorem leads_shed (ok : VPok P vp) (hm : P.follows .mixedOrders = true) {N k ro : Nat} {l : List (Nat × Nat)} {d : List (List Nat)} {m m' : VM} (h : VS.shed l d (runK P vp N k ro m) = .next m') : Leads P ro m m' := by
  generalize hr : runK P vp N k ro m = s at h
  cases s with
  | next m1 => exact (leads_run ok hm hr).trans (leads_drop h)
  | over v W => cases h
  | stop q => cases h

/-- It ends with yes. -/
def EndsYes (P : Program) (m : VM) : Prop := ∃ W, EndsFrom P 0 m (.bool true) W
theorem ends_last (ok : VPok P vp) (hm : P.follows .mixedOrders = true) {N k : Nat} {m : VM} (h : trueV (runK P vp N k 0 m) = true) : EndsYes P m := by
  unfold trueV at h
  split at h
  case h_2 => cases h
  rename_i W hrun
  refine ⟨W, ?_⟩
  intro w0 f cs V μ a r Fs w hm' A hr C R bottom
  subst hm'
  exact runK_sound ok hm N k 0 w0 f cs V W _ μ a r Fs w A hr C R hrun bottom
theorem ends_step (ok : VPok P vp) (hm : P.follows .mixedOrders = true) {N k : Nat} {l : List (Nat × Nat)} {d : List (List Nat)} {m m' : VM} (h : VS.shed l d (runK P vp N k 0 m) = .next m') (e : EndsYes P m') : EndsYes P m :=
  e.elim fun W hW => ⟨W, (leads_shed ok hm h).ends hW⟩

/-- .. the run in stretches. -/
theorem yesL_sound (ok : VPok P vp) (hm : P.follows .mixedOrders = true) {gl : Tr (List Value)} {f : Nat} {m : VM} (hs : startV vp gl f 0 = some m) (h : EndsYes P m) (w : World) (hG : GlobOk gl w) :
    Calls P f #[] w fun e w' => e = .returned (.bool true) ∧ Below w.heap.size w w' := by
  obtain ⟨W, h⟩ := h
  refine startV_sound ok hs w hG fun f' V μ a hm' A hrd R => ?_
  exact ⟨W, h w f' [] V μ a none [] w hm' A (by rw [hrd]; exact trivial) .nil R⟩
end
end Go.Wvm
