/- A region that draws its order within a round of a loop over a function. -/
import Derived.Test.YtpglehckhnencaaWvmDraw
import Derived.AtR
set_option linter.unusedSimpArgs false
set_option linter.unusedVariables false
namespace Go.Wvm
open Go.RowKit

section
variable {P : Program} {ops : Array Oper} {Q : Exit → Act → World → Prop}

/-- The order drawn, in whatever frame: where no operation defers and 'Q' is of the ordinary end alone. -/
theorem opsR (hdef : ∀ (i : Nat) (o : Oper), ops[i]? = some o → ∀ c, o.op ≠ .defer c) (hp : ∀ c a w, ¬ Q (.panic c) a w) (ho : ∀ a w, ¬ Q .outgrown a w) : ∀ (l : List Nat) (a : Act) (w : World), wpOps P ops Q l a w →
    ∀ (b : Frame) (k : List Item) (cs : List Frame), ∃ a' w', Q .normal a' w' ∧ Steps P (lone (b.atR a (.inRegion ops l :: k)) cs w) (lone (b.atR a' k) cs w')
  | [], a, w, h, b, k, cs => ⟨a, w, h, .one stepR_region_end⟩
  | i :: rest, a, w, h, b, k, cs => by
    simp only [wpOps] at h
    split at h
    · rename_i hn
      obtain ⟨a', w', hq, hs⟩ := opsR hdef hp ho rest _ _ h b k cs
      have h1 := stepR_op_skip (P := P) (b := b) (a := a) (k := k) (cs := cs) (w := w) (ops := ops) (i := i) (rest := rest) (by simp [hn])
      have h2 : a.put ((ops[i]?).bind (·.dst)) undef = a := by rw [hn]; rfl
      rw [h2] at h1
      exact ⟨a', w', hq, .head h1 hs⟩
    · rename_i o hoi
      by_cases hw : Region.wanted o (yielded ops a.tmps) = true
      · simp only [hw, if_true] at h
        have h : o.wp P a w (wpOps P ops Q rest) Q := by
          rcases h with h | ⟨_, a0, w0, hq⟩
          · exact h
          · exact absurd hq (ho _ _)
        have hg := stepGR_op (P := P) (b := b) (k := k) (cs := cs) (w := w) (rest := rest) hoi hw
        rw [Oper.semAt_eq b.roundOf a.eval o (hdef i o hoi)] at hg
        have hfin : ∀ v, (b.atR a (.inRegion ops (i :: rest) :: k)).finish v = b.atR (a.put o.dst v) (.inRegion ops rest :: k) := fun v => by rw [Frame.finish_atR, hoi]; rfl
        unfold Oper.wp at h
        generalize hr : (execOp a.eval o).run P w = r at h
        cases r with
        | ok n w1 =>
          cases n <;> simp only [Oper.upon] at h
          case value v =>
            obtain ⟨a', w', hq, hs⟩ := opsR hdef hp ho rest _ _ h b k cs
            refine ⟨a', w', hq, .head (step_lone_go ?_) hs⟩
            rw [hg, ← hfin]; simp [stepG.apply, hr]
          case skip =>
            obtain ⟨a', w', hq, hs⟩ := opsR hdef hp ho rest _ _ h b k cs
            refine ⟨a', w', hq, .head (step_lone_go ?_) hs⟩
            rw [hg, ← hfin]; simp [stepG.apply, hr]
          case defer d =>
            obtain ⟨a', w', hq, hs⟩ := opsR hdef hp ho rest _ _ h b k cs
            refine ⟨a', w', hq, .head (step_lone_go ?_) hs⟩
            have : ({ b.atR a (.inRegion ops (i :: rest) :: k) with defers := d :: a.defers } : Frame).finish undef = b.atR ({ a with defers := d :: a.defers }.put o.dst undef) (.inRegion ops rest :: k) := by
              have := Frame.finish_atR b { a with defers := d :: a.defers } ops i rest k undef
              rw [hoi] at this; exact this
            rw [hg]; simp only [stepG.apply, Sem.runT_eq, hr, GStep.bare_after]
            exact congrArg (fun fr => GStep.go { frame := fr, callers := cs, status := .running, dying := none } w1) this
          case enter f args =>
            obtain ⟨e, w2, fr, hR, hsteps, _, hleave⟩ := h (b.atR a (.inRegion ops (i :: rest) :: k) :: cs)
            have henter : step P (lone (b.atR a (.inRegion ops (i :: rest) :: k)) cs w) = .next (lone (Frame.enter P f args .normal) (b.atR a (.inRegion ops (i :: rest) :: k) :: cs) w1) :=
              step_lone_go (by rw [hg]; simp [stepG.apply, hr, Frame.atR])
            cases e with
            | returned v =>
              obtain ⟨a', w', hq, hs⟩ := opsR hdef hp ho rest _ _ hR b k cs
              refine ⟨a', w', hq, .head henter (Steps.trans hsteps (.head ?_ hs))⟩
              rw [← hfin]; exact step_leave_returned hleave
            | panicked chain => exact absurd hR (hp _ _ _)
            | outgrown => obtain ⟨a0, w0, hq⟩ := hR; exact absurd hq (ho _ _)
          case row row args =>
            obtain ⟨v, w2, hR, hsteps⟩ := h (b.atR a (.inRegion ops (i :: rest) :: k)) cs
            have henter : step P (lone (b.atR a (.inRegion ops (i :: rest) :: k)) cs w) = .next (lone (Frame.ofRow P row args .normal) (b.atR a (.inRegion ops (i :: rest) :: k) :: cs) w1) :=
              step_lone_go (by rw [hg]; simp [stepG.apply, hr, Frame.atR])
            obtain ⟨a', w', hq, hs⟩ := opsR hdef hp ho rest _ _ hR b k cs
            refine ⟨a', w', hq, .head henter (Steps.trans ?_ hs)⟩
            rw [← hfin]; exact hsteps
        | halt x w1 =>
          cases x <;> simp only [Oper.upon] at h
          case panic v => exact absurd h (hp _ _ _)
      · simp only [hw, if_false, Bool.false_eq_true] at h
        obtain ⟨a', w', hq, hs⟩ := opsR hdef hp ho rest _ _ h b k cs
        have h1 := stepR_op_skip (P := P) (b := b) (a := a) (k := k) (cs := cs) (w := w) (ops := ops) (i := i) (rest := rest) (by simp [hoi]; simpa using hw)
        simp only [hoi, Option.bind_some] at h1
        exact ⟨a', w', hq, .head h1 hs⟩

theorem regionR (hm : P.follows .mixedOrders = true) (hdef : ∀ (i : Nat) (o : Oper), ops[i]? = some o → ∀ c, o.op ≠ .defer c) (hp : ∀ c a w, ¬ Q (.panic c) a w) (ho : ∀ a w, ¬ Q .outgrown a w) {id : Nat} {a : Act} {w : World}
    (h : wpAny P .any ops Q ops.size (Array.replicate ops.size false) a { w with drawn := w.drawn + 1 }) (b : Frame) (k : List Item) (cs : List Frame) :
    ∃ a' w', Q .normal a' w' ∧ Steps P (lone (b.atR a (.code (.region id ops true) :: k)) cs w) (lone (b.atR a' k) cs w') := by
  have hall : ∀ t, wpOps P ops Q (Region.schedule (P.follows .mixedOrders) ops t) a { w with drawn := w.drawn + 1 } := fun t => by
    simp only [Region.schedule, hm, Bool.true_or, if_true]
    exact wpAny_sound ops.size t _ a _ h
  obtain ⟨a', w', hq, hs⟩ := opsR hdef hp ho _ _ _ (hall _) b k cs
  exact ⟨a', w', hq, .head stepR_region_draw hs⟩

variable {vp : VP} {μ : Mu} {ro : Nat} {w0 : World} {V V' : VW} {w : World}

theorem drawR_sound (ok : VPok P vp) (hm : P.follows .mixedOrders = true) (R : Rel μ ro w0 V w) {subQ sub : VM → VS} (hq : SubOk P vp V.next subQ) (hs : SubOk P vp ro sub) {id : Nat} {f f' : VF} {a : Act} (A : AR μ f a)
    (h : drawR P vp subQ sub ro ops f V = some (f', V')) : SameF f f' ∧ ∀ (b : Frame) (k : List Item) (cs : List Frame), ∃ a' w' μ', Ext μ μ' ∧ AR μ' f' a' ∧ Rel μ' ro w0 V' w' ∧
      Steps P (lone (b.atR a (.code (.region id ops true) :: k)) cs w) (lone (b.atR a' k) cs w') := by
  unfold drawR at h
  split at h
  · cases h
  rename_i hb
  rw [Bool.and_eq_true] at hb
  obtain ⟨hsel, hd⟩ := hb
  have hdef : ∀ (i : Nat) (o : Oper), ops[i]? = some o → ∀ c, o.op ≠ .defer c := fun i o hi c hc => by
    have hm := List.all_eq_true.1 hd o (by rw [← Array.getElem?_toList] at hi; exact List.mem_of_getElem? hi)
    rw [hc] at hm
    cases hm
  let Q : Exit → Act → World → Prop := fun e a' w' => e = .normal ∧ ∃ μ', Ext μ μ' ∧ AR μ' f' a' ∧ Rel μ' ro w0 V' w'
  have hp : ∀ c a w, ¬ Q (.panic c) a w := fun c a w hh => by cases hh.1
  have ho : ∀ a w, ¬ Q .outgrown a w := fun a w hh => by cases hh.1
  have fin : wpAny P .any ops Q ops.size (Array.replicate ops.size false) a { w with drawn := w.drawn + 1 } → ∀ (b : Frame) (k : List Item) (cs : List Frame), ∃ a' w' μ', Ext μ μ' ∧ AR μ' f' a' ∧ Rel μ' ro w0 V' w' ∧
      Steps P (lone (b.atR a (.code (.region id ops true) :: k)) cs w) (lone (b.atR a' k) cs w') := fun hany b k cs => by
    obtain ⟨a', w', ⟨_, μ', e, A', R'⟩, hst⟩ := regionR hm hdef hp ho (id := id) hany b k cs
    exact ⟨a', w', μ', e, A', R', hst⟩
  split at h
  · rename_i r hg
    cases h
    exact ⟨greedyL_same hg, fin (greedyL_sound ok hs hsel hp _ _ f f' a V V' _ μ A (R.drawn _) hg (fun a' w' μ' e A' R' => ⟨rfl, μ', e, A', R'⟩))⟩
  · split at h
    · rename_i r hg
      cases h
      unfold heldG at hg
      split at hg
      · cases hg
      rename_i x rr _
      split at hg
      case h_2 => cases hg
      rename_i hk
      exact ⟨greedyH_same hg, fin (wpAny_of_U _ _ _ _ (greedyH_sound ok hs hsel hp (keepsD_has ok R hk) _ _ f f' a V V' _ μ (Ext.refl _) (closed_none _) (keepsD_sound ok (Ext.refl _) (R.drawn _) hk) A (R.drawn _) hg (fun a' w' μ' e A' R' => ⟨rfl, μ', e, A', R'⟩)))⟩
    · split at h
      case h_2 => cases h
      rename_i fq Vq hg
      cases h
      have Rs := R.drawn (w.drawn + 1)
      exact ⟨greedyQ_same hg, fin (wpAny_of_G _ _ _ _ (Grow.refl _) (greedyQ_sound ok Rs hq hsel hp _ _ f f' a V Vq _ μ (Ext.refl _) A Rs.sub hg (fun a' w' μ' e A' R' => ⟨rfl, μ', e, A', Rs.unsub e R'⟩)))⟩

end
end Go.Wvm
