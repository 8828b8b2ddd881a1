/- A run whose long calls are answered by what is known of them: moves as a relation, and a table of runs within a move. -/
import Derived.Test.YtpglehckhnencaaWvmStop
set_option linter.unusedSimpArgs false
set_option linter.unusedVariables false
namespace Go.Wvm
open Go.RowKit

section
variable {P : Program} {vp : VP}

/-! ### What is shown of stretches, put together -/
/-- From here a run ends so. -/
def EndsFrom (P : Program) (ro : Nat) (m : VM) (v : Value) (W : VW) : Prop :=
  ∀ (w0 : World) (f : VF) (cs : List VF) (V : VW) (μ : Mu) (a : Act) (r : Option Nat) (Fs : List Frame) (w : World), m = { fr := f, cs, w := V } → AR μ f a → RdR μ f.rd r → CsR μ cs Fs → Rel μ ro w0 V w → ∀ bottom, Ends P μ ro w0 f a r cs Fs w v W bottom

/-- From here a run gets there. -/
def Leads (P : Program) (ro : Nat) (m m' : VM) : Prop :=
  ∀ (w0 : World) (f : VF) (cs : List VF) (V : VW) (μ : Mu) (a : Act) (r : Option Nat) (Fs : List Frame) (w : World), m = { fr := f, cs, w := V } → AR μ f a → RdR μ f.rd r → CsR μ cs Fs → Rel μ ro w0 V w → ∀ bottom, Moves P μ ro w0 (mkF f a r) Fs w bottom m' ∧ bot m'.fr.fn m'.cs = bot f.fn cs

theorem Leads.refl (ro : Nat) (m : VM) : Leads P ro m m := by
  intro w0 f cs V μ a r Fs w hm A hr C R bottom
  subst hm
  exact ⟨⟨a, Fs, w, μ, r, Steps.refl _ _, Ext.refl _, A, hr, C, R⟩, rfl⟩

theorem Leads.trans {ro : Nat} {m m1 m2 : VM} (h : Leads P ro m m1) (k : Leads P ro m1 m2) : Leads P ro m m2 := by
  intro w0 f cs V μ a r Fs w hm A hr C R bottom
  obtain ⟨⟨a', Fs', w1, μ1, r', h1, h2, h3, hr', h4, h5⟩, hbot⟩ := h w0 f cs V μ a r Fs w hm A hr C R bottom
  obtain ⟨f1, cs1, V1⟩ := m1
  obtain ⟨⟨a2, Fs2, w2, μ2, r2, k1, k2, k3, kr, k4, k5⟩, kbot⟩ := k w0 f1 cs1 V1 μ1 a' r' Fs' w1 rfl h3 hr' h4 h5 bottom
  exact ⟨⟨a2, Fs2, w2, μ2, r2, h1.trans k1, h2.trans k2, k3, kr, k4, k5⟩, kbot.trans hbot⟩

theorem Leads.ends {ro : Nat} {m m1 : VM} {v : Value} {W : VW} (h : Leads P ro m m1) (k : EndsFrom P ro m1 v W) : EndsFrom P ro m v W := by
  intro w0 f cs V μ a r Fs w hm A hr C R bottom
  obtain ⟨⟨a', Fs', w1, μ1, r', h1, h2, h3, hr', h4, h5⟩, hbot⟩ := h w0 f cs V μ a r Fs w hm A hr C R bottom
  obtain ⟨f1, cs1, V1⟩ := m1
  obtain ⟨v', μ', w', F, k1, k2, k3, k4, k5, k6⟩ := k w0 f1 cs1 V1 μ1 a' r' Fs' w1 rfl h3 hr' h4 h5 bottom
  exact ⟨v', μ', w', F, h1.trans k1, k2.trans hbot, k3, h2.trans k4, k5, k6⟩

theorem leads_big (ok : VPok P vp) (hm : P.follows .mixedOrders = true) {sub : Nat → VM → VS} (subOk : ∀ ro, SubOk P vp ro (sub ro)) {ro : Nat} {m m' : VM} (h : bigF P vp sub ro m = .next m') : Leads P ro m m' := by
  intro w0 f cs V μ a r Fs w hm' A hr C R bottom
  subst hm'
  rw [bigF_eq] at h
  exact (bigV_sound ok hm subOk A hr C R bottom).1 m' h

theorem ends_big (ok : VPok P vp) (hm : P.follows .mixedOrders = true) {sub : Nat → VM → VS} (subOk : ∀ ro, SubOk P vp ro (sub ro)) {ro : Nat} {m : VM} {v : Value} {W : VW} (h : bigF P vp sub ro m = .over v W) : EndsFrom P ro m v W := by
  intro w0 f cs V μ a r Fs w hm' A hr C R bottom
  subst hm'
  rw [bigF_eq] at h
  exact (bigV_sound ok hm subOk A hr C R bottom).2 v W h

/-- So many moves; what is entered within one is run by 'sub'. -/
def runS (P : Program) (vp : VP) (sub : Nat → VM → VS) : Nat → Nat → VM → VS
  | 0, _, m => .next m
  | k + 1, ro, m => match bigF P vp sub ro m with
    | .next m' => runS P vp sub k ro m'
    | s => s

theorem leads_run (ok : VPok P vp) (hm : P.follows .mixedOrders = true) {sub : Nat → VM → VS} (subOk : ∀ ro, SubOk P vp ro (sub ro)) {ro : Nat} : ∀ {k : Nat} {m m' : VM}, runS P vp sub k ro m = .next m' → Leads P ro m m'
  | 0, m, m', h => by cases h; exact Leads.refl _ _
  | k + 1, m, m', h => by
    simp only [runS] at h
    split at h
    · rename_i m1 hb
      exact (leads_big ok hm subOk hb).trans (leads_run ok hm subOk h)
    · rename_i hs
      exact absurd h (hs _)

theorem ends_run (ok : VPok P vp) (hm : P.follows .mixedOrders = true) {sub : Nat → VM → VS} (subOk : ∀ ro, SubOk P vp ro (sub ro)) {ro : Nat} : ∀ {k : Nat} {m : VM} {v : Value} {W : VW}, runS P vp sub k ro m = .over v W → EndsFrom P ro m v W
  | 0, m, v, W, h => by cases h
  | k + 1, m, v, W, h => by
    simp only [runS] at h
    split at h
    · rename_i m1 hb
      exact (leads_big ok hm subOk hb).ends (ends_run ok hm subOk h)
    · exact ends_big ok hm subOk h

theorem runF_subOk (ok : VPok P vp) (hm : P.follows .mixedOrders = true) (n ro : Nat) : SubOk P vp ro (runF P vp n ro) := by
  rw [runF_eq]
  exact runV_subOk ok hm n ro

/-! ### The same state -/
def eqA (a b : Addr) : Bool :=
  match Nat.beq a.block b.block && Nat.beq a.off b.off, a.spot, b.spot with
  | true, none, none => true
  | true, some x, some y => Nat.beq x y
  | _, _, _ => false

theorem eqA_eq {a b : Addr} (h : eqA a b = true) : a = b := by
  obtain ⟨x, y, s⟩ := a
  obtain ⟨x', y', s'⟩ := b
  unfold eqA at h
  simp only at h
  split at h
  · rename_i h1
    rw [Bool.and_eq_true] at h1
    rw [Nat.eq_of_beq_eq_true h1.1, Nat.eq_of_beq_eq_true h1.2]
  · rename_i h1
    rw [Bool.and_eq_true] at h1
    rw [Nat.eq_of_beq_eq_true h1.1, Nat.eq_of_beq_eq_true h1.2, Nat.eq_of_beq_eq_true h]
  · cases h

def eqL {α : Type} (e : α → α → Bool) : List α → List α → Bool
  | [], [] => true
  | a :: x, b :: y => match e a b with
    | true => eqL e x y
    | false => false
  | _, _ => false

theorem eqL_eq {α : Type} {e : α → α → Bool} (he : ∀ a b, e a b = true → a = b) : ∀ {x y : List α}, eqL e x y = true → x = y
  | [], [], _ => rfl
  | a :: x, b :: y, h => by
    unfold eqL at h
    split at h
    · rename_i h1
      rw [he _ _ h1, eqL_eq he h]
    · cases h
  | [], _ :: _, h => by cases h
  | _ :: _, [], h => by cases h

def eqO {α : Type} (e : α → α → Bool) : Option α → Option α → Bool
  | none, none => true
  | some a, some b => e a b
  | _, _ => false

theorem eqO_eq {α : Type} {e : α → α → Bool} (he : ∀ a b, e a b = true → a = b) : ∀ {x y : Option α}, eqO e x y = true → x = y
  | none, none, _ => rfl
  | some a, some b, h => by rw [he _ _ h]
  | none, some _, h => by cases h
  | some _, none, h => by cases h

def eqT {α : Type} (e : α → α → Bool) : Tr α → Tr α → Bool
  | .nil, .nil => true
  | .node l v r, .node l' v' r' => match eqO e v v' with
    | true => match eqT e l l' with
      | true => eqT e r r'
      | false => false
    | false => false
  | _, _ => false

theorem eqT_eq {α : Type} {e : α → α → Bool} (he : ∀ a b, e a b = true → a = b) : ∀ {x y : Tr α}, eqT e x y = true → x = y
  | .nil, .nil, _ => rfl
  | .node l v r, .node l' v' r', h => by
    unfold eqT at h
    split at h
    · rename_i h1
      split at h
      · rename_i h2
        rw [eqO_eq he h1, eqT_eq he h2, eqT_eq he h]
      · cases h
    · cases h
  | .nil, .node .., h => by cases h
  | .node .., .nil, h => by cases h

def eqV : Nat → Value → Value → Bool
  | _, .bool a, .bool b => match a, b with
    | true, true | false, false => true
    | _, _ => false
  | _, .int k n, .int k' m => match keq k k' with
    | true => ieq n m
    | false => false
  | _, .string ⟨⟨a⟩⟩, .string ⟨⟨b⟩⟩ => leq a b
  | _, .pointer a, .pointer b => eqO eqA a b
  | _, .slice a l c, .slice b l' c' => match Nat.beq l l' && Nat.beq c c' with
    | true => eqO eqA a b
    | false => false
  | _, .map a, .map b => eqO Nat.beq a b
  | _, .nilFunc, .nilFunc => true
  | _, .nilIface, .nilIface => true
  | n + 1, .func (.func f) ⟨a⟩ ⟨b⟩, .func (.func g) ⟨c⟩ ⟨d⟩ => match Nat.beq f g, eqL (eqV n) a c with
    | true, true => eqL (eqV n) b d
    | _, _ => false
  | n + 1, .iface t v, .iface u w => match Nat.beq t u with
    | true => eqV n v w
    | false => false
  | n + 1, .agg ⟨a⟩, .agg ⟨b⟩ => eqL (eqV n) a b
  | n + 1, .tuple ⟨a⟩, .tuple ⟨b⟩ => eqL (eqV n) a b
  | 0, .tuple ⟨[]⟩, .tuple ⟨[]⟩ => true
  | _, _, _ => false

theorem eqV_eq : ∀ (n : Nat) (a b : Value), eqV n a b = true → a = b := by
  intro n
  induction n with
  | zero =>
    intro a b h
    unfold eqV at h
    split at h
    all_goals first
      | (rename_i x y; cases x <;> cases y <;> first | rfl | cases h)
      | (split at h
         · rename_i hk
           rw [ieq_eq, decide_eq_true_eq] at h
           rw [keq_eq hk, h]
         · cases h)
      | (rw [leq_eq, decide_eq_true_eq] at h; rw [h])
      | (rw [eqO_eq (fun _ _ => eqA_eq) h])
      | (split at h
         · rename_i hk
           rw [Bool.and_eq_true] at hk
           rw [Nat.eq_of_beq_eq_true hk.1, Nat.eq_of_beq_eq_true hk.2, eqO_eq (fun _ _ => eqA_eq) h]
         · cases h)
      | (rw [eqO_eq (fun _ _ => Nat.eq_of_beq_eq_true) h])
      | rfl
      | cases h
  | succ n ih =>
    intro a b h
    unfold eqV at h
    split at h
    all_goals first
      | (rename_i x y; cases x <;> cases y <;> first | rfl | cases h)
      | (split at h
         · rename_i hk
           rw [ieq_eq, decide_eq_true_eq] at h
           rw [keq_eq hk, h]
         · cases h)
      | (rw [leq_eq, decide_eq_true_eq] at h; rw [h])
      | (rw [eqO_eq (fun _ _ => eqA_eq) h])
      | (split at h
         · rename_i hk
           rw [Bool.and_eq_true] at hk
           rw [Nat.eq_of_beq_eq_true hk.1, Nat.eq_of_beq_eq_true hk.2, eqO_eq (fun _ _ => eqA_eq) h]
         · cases h)
      | (rw [eqO_eq (fun _ _ => Nat.eq_of_beq_eq_true) h])
      | rfl
      | (rename_i hq; obtain rfl := Nat.succ.inj hq
         split at h
         · rename_i h1 h2
           rw [Nat.eq_of_beq_eq_true h1, eqL_eq ih h2, eqL_eq ih h]
         · cases h)
      | (rename_i hq; obtain rfl := Nat.succ.inj hq
         split at h
         · rename_i h1
           rw [Nat.eq_of_beq_eq_true h1, ih _ _ h]
         · cases h)
      | (rename_i hq; obtain rfl := Nat.succ.inj hq; rw [eqL_eq ih h])
      | cases h

def eqP (a b : Value × Value) : Bool :=
  match eqV 10 a.1 b.1 with
  | true => eqV 10 a.2 b.2
  | false => false
theorem eqP_eq {a b : Value × Value} (h : eqP a b = true) : a = b := by
  unfold eqP at h
  split at h
  · rename_i h1
    exact Prod.ext (eqV_eq _ _ _ h1) (eqV_eq _ _ _ h)
  · cases h
def eqN (a b : TypeId × Nat) : Bool := Nat.beq a.1 b.1 && Nat.beq a.2 b.2
theorem eqN_eq {a b : TypeId × Nat} (h : eqN a b = true) : a = b := by
  unfold eqN at h
  rw [Bool.and_eq_true] at h
  exact Prod.ext (Nat.eq_of_beq_eq_true h.1) (Nat.eq_of_beq_eq_true h.2)
def eqD : Deferred → Deferred → Bool
  | { target := .collected a, args := ⟨[]⟩ }, { target := .collected b, args := ⟨[]⟩ } => Nat.beq a b
  | _, _ => false
theorem eqD_eq {a b : Deferred} (h : eqD a b = true) : a = b := by
  unfold eqD at h
  split at h
  · rw [Nat.eq_of_beq_eq_true h]
  · cases h

def eqObj : VObj → VObj → Bool
  | .cells n c d u t, .cells n' c' d' u' t' => match Nat.beq n n' && Nat.beq u u' && eqO eqN t t' && eqO (eqV 10) d d' with
    | true => eqT (eqV 10) c c'
    | false => false
  | .map a, .map b => eqL eqP a b
  | .iter s p, .iter s' p' => match Nat.beq p p' with
    | true => leq s s'
    | false => false
  | .deferred a, .deferred b => eqO (eqL eqD) a b
  | _, _ => false

theorem eqObj_eq {a b : VObj} (h : eqObj a b = true) : a = b := by
  unfold eqObj at h
  split at h
  · split at h
    · rename_i h1
      simp only [Bool.and_eq_true] at h1
      obtain ⟨⟨⟨h1, h2⟩, h3⟩, h4⟩ := h1
      rw [Nat.eq_of_beq_eq_true h1, Nat.eq_of_beq_eq_true h2, eqO_eq (fun _ _ => eqN_eq) h3, eqO_eq (eqV_eq 10) h4, eqT_eq (eqV_eq 10) h]
    · cases h
  · rw [eqL_eq (fun _ _ => eqP_eq) h]
  · split at h
    · rename_i h1
      rw [leq_eq, decide_eq_true_eq] at h
      rw [Nat.eq_of_beq_eq_true h1, h]
    · cases h
  · rw [eqO_eq (fun _ _ hh => eqL_eq (fun _ _ => eqD_eq) hh) h]
  · cases h

def eqW (a b : VW) : Bool :=
  match Nat.beq a.next b.next, eqT (eqL (eqV 10)) a.gl b.gl with
  | true, true => eqT eqObj a.heap b.heap
  | _, _ => false

theorem eqW_eq {a b : VW} (h : eqW a b = true) : a = b := by
  obtain ⟨n, hp, g⟩ := a
  obtain ⟨n', hp', g'⟩ := b
  unfold eqW at h
  split at h
  · rename_i h1 h2
    simp only at h1 h2 h
    rw [Nat.eq_of_beq_eq_true h1, eqT_eq (fun _ _ hh => eqL_eq (eqV_eq 10) hh) h2, eqT_eq (fun _ _ => eqObj_eq) h]
  · cases h

/-! ### A table of runs -/
structure Entry where
  ro : Nat
  m : VM
  res : VS

/-- The same beginning of a call. -/
def Entry.is (e : Entry) (ro : Nat) (m : VM) : Bool :=
  match Nat.beq e.ro ro, Nat.beq e.m.fr.fn m.fr.fn, Nat.beq e.m.w.next m.w.next with
  | true, true, true => match Nat.beq e.m.fr.nt m.fr.nt, eqT (eqV 10) e.m.fr.tm m.fr.tm with
    | true, true => eqW e.m.w m.w
    | _, _ => false
  | _, _, _ => false

def look : List Entry → Nat → VM → Option VS
  | [], _, _ => none
  | e :: l, ro, m => match e.is ro m with
    | true => some e.res
    | false => look l ro m

def memoV (l : List Entry) (sub : Nat → VM → VS) (ro : Nat) (m : VM) : VS :=
  match look l ro m with
  | some s => s
  | none => sub ro m

/-- What is asked of the table: each row that says how a run ends is shown, and its frame is its function's first. -/
def Told (P : Program) (vp : VP) (e : Entry) : Prop :=
  ∃ (fn : Func) (args : List Value), vp.fn.get e.m.fr.fn = some fn ∧ VF.enter fn e.m.fr.fn args .normal = some e.m.fr ∧ e.m.cs = [] ∧ ∀ v W, e.res = .over v W → EndsFrom P e.ro e.m v W

theorem Entry.is_eq {e : Entry} (he : Told P vp e) {ro : Nat} {g : FuncId} {fn : Func} {f' : VF} {args : List Value} {V : VW} (hfn : vp.fn.get g = some fn) (hfe : VF.enter fn g args .normal = some f') (h : e.is ro { fr := f', cs := [], w := V } = true) : e.ro = ro ∧ e.m = { fr := f', cs := [], w := V } := by
  obtain ⟨fn1, args1, k1, k2, k3, _⟩ := he
  unfold Entry.is at h
  split at h
  case h_2 => cases h
  rename_i h1 h2 _
  split at h
  case h_2 => cases h
  rename_i h3 h4
  have hro := Nat.eq_of_beq_eq_true h1
  have hg : e.m.fr.fn = f'.fn := Nat.eq_of_beq_eq_true h2
  have hnt : e.m.fr.nt = f'.nt := Nat.eq_of_beq_eq_true h3
  have htm : e.m.fr.tm = f'.tm := eqT_eq (eqV_eq 10) h4
  have hw : e.m.w = V := eqW_eq h
  obtain ⟨ero, ⟨efr, ecs, ew⟩, eres⟩ := e
  simp only at hro hg hnt htm hw k1 k2 k3 ⊢
  subst hro hw k3
  refine ⟨rfl, ?_⟩
  unfold VF.enter at hfe k2
  split at hfe
  case h_2 => cases hfe
  rename_i c hb
  split at k2
  case h_2 => cases k2
  rename_i c1 hb1
  simp only [Option.some.injEq] at hfe k2
  subst hfe
  rw [← k2] at hg hnt htm
  simp only at hg hnt htm
  have hgg : efr.fn = g := hg
  rw [hgg, hfn] at k1
  cases k1
  rw [hb] at hb1
  cases hb1
  rw [← k2, hnt, htm, hgg]

theorem memo_subOk (ok : VPok P vp) {l : List Entry} (hl : ∀ e ∈ l, Told P vp e) {sub : Nat → VM → VS} (hs : ∀ ro, SubOk P vp ro (sub ro)) : ∀ ro, SubOk P vp ro (memoV l sub ro) := by
  intro ro g fn f' args args' V w μ w0 v W hfn hfe hrun R hla bottom
  unfold memoV at hrun
  split at hrun
  · rename_i s hk
    subst hrun
    have key : ∀ (l : List Entry), (∀ e ∈ l, Told P vp e) → look l ro { fr := f', cs := [], w := V } = some (.over v W) → EndsFrom P ro { fr := f', cs := [], w := V } v W := by
      intro l
      induction l with
      | nil => intro _ h; cases h
      | cons e l ih =>
        intro hl h
        unfold look at h
        split at h
        · rename_i his
          have he := hl e (List.mem_cons_self ..)
          obtain ⟨h1, h2⟩ := Entry.is_eq he hfn hfe his
          obtain ⟨_, _, _, _, _, hend⟩ := he
          have := hend v W (Option.some.inj h)
          rw [h1, h2] at this
          exact this
        · exact ih (fun e he => hl e (List.mem_cons_of_mem _ he)) h
    obtain ⟨hf, _, _⟩ := fn_facts ok hfn
    obtain ⟨a', g1, g2, g3, g4⟩ := enter_sound hf hla hfe
    obtain ⟨v', μ', w', F, h1, h2, h3, h4, h5, h6⟩ := key l hl hk w0 f' [] V μ a' none [] w rfl g2 (by rw [g4]; exact trivial) .nil R bottom
    refine ⟨.returned v', w', F, ⟨v', μ', rfl, h4, h5, h6⟩, ?_, h2.trans g3, h3⟩
    show Steps P _ _
    rw [g1]; exact h1
  · exact hs ro g fn f' args args' V w μ w0 v W hfn hfe hrun R hla bottom

/-- .. a whole run. -/
theorem yesL_sound (ok : VPok P vp) {gl : Tr (List Value)} {f : Nat} {m : VM} {W : VW} (hs : startV vp gl f 0 = some m) (h : EndsFrom P 0 m (.bool true) W) (w : World) (hG : GlobOk gl w) :
    Calls P f #[] w fun e w' => e = .returned (.bool true) ∧ Below w.heap.size w w' := by
  refine startV_sound ok hs w hG fun f' V μ a hm' A hrd R => ⟨W, fun bottom => ?_⟩
  exact h w f' [] V μ a none [] w hm' A (by rw [hrd]; exact trivial) .nil R bottom

end
end Go.Wvm
