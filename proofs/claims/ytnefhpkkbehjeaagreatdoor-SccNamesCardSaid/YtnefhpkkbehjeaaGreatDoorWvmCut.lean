/- A region that draws its order whose long calls are told apart: the walk up to such a call, and from there on. -/
import Derived.Test.YtnefhpkkbehjeaaGreatDoorWvmLead
set_option linter.unusedSimpArgs false
set_option linter.unusedVariables false
namespace Go.Wvm
open Go.RowKit

def opAt (ops : Array Oper) (i : Nat) : Oper := match ops[i]? with
  | some o => o
  | none => { dst := none, op := .move (.const .nilFunc), type := 0, pos := "", after := #[], guard := none }
/-- Where a walk stands at a call. -/
structure CutX where
  n : Nat
  I : Option (Nat × Oper × Pay)
  s : Nat
  fr : VF
  w : VW
  D : List DE
  H : List VW
  i : Nat
  o : Oper
  m : VM

def calleeX (P : Program) (vp : VP) (ro : Nat) (ops : Array Oper) (o : Oper) (fr : VF) (w : VW) : Option VM :=
  match wantedV o ops.toList fr.tm with
  | false => none
  | true => match execV P vp ro fr o w with
    | some (.enter g args, w') => match vp.fn.get g with
      | some fn => match VF.enter fn g args .normal with
        | some f' => some { fr := f', cs := [], w := w' }
        | none => none
      | none => none
    | _ => none

/-- Is it one of those? They are told by their function and by how many blocks there are. -/
def isKeyX (ks : List (Nat × Nat)) (m : VM) : Bool := ks.any fun k => Nat.beq k.1 m.fr.fn && Nat.beq k.2 m.w.next

/-- The walk up to a call that is one of those. -/
def cutX (P : Program) (vp : VP) (sub : VM → VS) (ro : Nat) (ops : Array Oper) (ks : VM → Bool) : Nat → Option (Nat × Oper × Pay) → Nat → VF → VW → List DE → List VW → Option CutX
  | 0, _, _, _, _, _, _ => none
  | n + 1, I, s, fr, w, D, H => match readyM ops s, I with
    | [], none => none
    | l, I => match pickP P vp w.next ops s fr (besides ops I l) with
      | some (j, o, v) => cutX P vp sub ro ops ks n I (setM s j) { fr with tm := fr.put o.dst v } w D H
      | none => match pickY vp (w :: H) ops s fr w l (besides ops I l) with
        | some (j, o, e, v) => cutX P vp sub ro ops ks n I (setM s j) { fr with tm := fr.put o.dst v } w (e :: D) H
        | none => match besides ops I l, I with
          | [], some (_, o, p) => match keepsX vp D (w.add p.obj) with
            | true => cutX P vp sub ro ops ks n none s { fr with tm := fr.put o.dst (p.val w.next) } (w.add p.obj) D (w :: H)
            | false => none
          | l', I => match l, l' with
            | [i], [_] => match ops[i]? with
              | some o => match calleeX P vp ro ops o fr w with
                | some m => match ks m with
                  | true => some ⟨n, I, s, fr, w, D, H, i, o, m⟩
                  | false => match doX P vp sub ro ops o fr w with
                    | some (fr', w') => match keepsX vp D w' with
                      | true => cutX P vp sub ro ops ks n I (setM s i) fr' w' D (w :: H)
                      | false => none
                    | none => none
                | none => match doX P vp sub ro ops o fr w with
                  | some (fr', w') => match keepsX vp D w' with
                    | true => cutX P vp sub ro ops ks n I (setM s i) fr' w' D (w :: H)
                    | false => none
                  | none => none
              | none => none
            | l, _ => match pickB vp ops s fr I l with
              | some (j, o, p) => cutX P vp sub ro ops ks n (some (j, o, p)) (setM s j) (fr.drop o) w D H
              | none => none

/-- .. and from such a call on, up to the next. -/
def cutA (P : Program) (vp : VP) (sub : VM → VS) (ro : Nat) (ops : Array Oper) (ks : VM → Bool) (C : CutX) (v : Value) (W : VW) : Option CutX :=
  match keepsX vp C.D W with
  | true => cutX P vp sub ro ops ks C.n C.I (setM C.s C.i) { C.fr with tm := C.fr.put C.o.dst v } W C.D (C.w :: C.H)
  | false => none
/-- .. up to the end. -/
def endA (P : Program) (vp : VP) (sub : VM → VS) (ro : Nat) (ops : Array Oper) (C : CutX) (v : Value) (W : VW) : Option (VF × VW × List DE) :=
  match keepsX vp C.D W with
  | true => greedyX P vp sub ro ops C.n C.I (setM C.s C.i) { C.fr with tm := C.fr.put C.o.dst v } W C.D (C.w :: C.H)
  | false => none

section
variable {P : Program} {vp : VP} {ro : Nat} {ops : Array Oper} {ks : VM → Bool} {sub : VM → VS}

theorem calleeX_do {o : Oper} {fr : VF} {w : VW} {m : VM} {v : Value} {W : VW} (h : calleeX P vp ro ops o fr w = some m) (hs : sub m = .over v W) : doX P vp sub ro ops o fr w = some ({ fr with tm := fr.put o.dst v }, W) := by
  unfold calleeX at h
  unfold doX
  split at h
  · cases h
  rename_i hw
  rw [hw]
  simp only
  split at h
  case h_2 => cases h
  rename_i g args w' hex
  rw [hex]
  simp only
  split at h
  case h_2 => cases h
  rename_i fn hfn
  split at h
  case h_2 => cases h
  rename_i f' hfe
  cases h
  simp only [hfn, hfe, hs]

/-- What the walk up to a call says of the whole walk. -/
theorem cutX_spec {C : CutX} {v : Value} {W : VW} (hs : sub C.m = .over v W) {r : VF × VW × List DE} (hend : endA P vp sub ro ops C v W = some r) : ∀ {n : Nat} {I : Option (Nat × Oper × Pay)} {s : Nat} {fr : VF} {w : VW} {D : List DE} {H : List VW},
    cutX P vp sub ro ops ks n I s fr w D H = some C → greedyX P vp sub ro ops n I s fr w D H = some r
  | 0, _, _, _, _, _, _, h => by cases h
  | n + 1, I, s, fr, w, D, H, h => by
    simp only [cutX] at h
    simp only [greedyX]
    split at h
    · cases h
    rename_i I l0 I1 hno
    split
    · rename_i h1
      exact (hno h1 rfl).elim
    split at h
    · rename_i hpn
      simp only [hpn]
      exact cutX_spec hs hend h
    rename_i hpn
    simp only [hpn]
    split at h
    · rename_i hyn
      simp only [hyn]
      exact cutX_spec hs hend h
    rename_i hyn
    simp only [hyn]
    split at h
    · rename_i hbes
      split at h
      case h_2 => cases h
      rename_i hk
      simp only [hbes, hk]
      exact cutX_spec hs hend h
    rename_i I l1 I2 hx
    split
    · rename_i hbes
      exact (hx _ _ _ hbes rfl).elim
    split at h
    · rename_i hrd hbs
      split
      case h_2 =>
        rename_i hne
        exact (hne _ _ hrd hbs).elim
      rename_i hrd2 hbs2
      rw [hrd] at hrd2
      cases hrd2
      split at h
      case h_2 => cases h
      rename_i ho
      simp only [ho]
      split at h
      · split at h
        · rename_i hc _ _
          cases h
          rw [calleeX_do (sub := sub) hc hs]
          simp only
          unfold endA at hend
          split at hend
          case h_2 => cases hend
          rename_i hk
          simp only at hk hend
          rw [hk]
          exact hend
        · split at h
          case h_2 => cases h
          rename_i hdo
          split at h
          case h_2 => cases h
          rename_i hk
          rw [hdo]
          simp only [hk]
          exact cutX_spec hs hend h
      · split at h
        case h_2 => cases h
        rename_i hdo
        split at h
        case h_2 => cases h
        rename_i hk
        rw [hdo]
        simp only [hk]
        exact cutX_spec hs hend h
    · rename_i hne
      split at h
      case h_2 => cases h
      rename_i hpb
      split
      · rename_i h1 h2
        exact (hne _ _ h1 h2).elim
      rw [hpb]
      exact cutX_spec hs hend h

theorem cutA_spec {C C' : CutX} {v v' : Value} {W W' : VW} (hs : sub C'.m = .over v' W') {r : VF × VW × List DE} (hend : endA P vp sub ro ops C' v' W' = some r) (h : cutA P vp sub ro ops ks C v W = some C') : endA P vp sub ro ops C v W = some r := by
  unfold cutA at h
  unfold endA
  split at h
  case h_2 => cases h
  rename_i hk
  exact cutX_spec hs hend h

/-- What is known of a long call. -/
structure EntX where
  m : VM
  v : Value
  W : VW
def findX (m : VM) : List EntX → Option EntX
  | [] => none
  | e :: r => match Nat.beq e.m.fr.fn m.fr.fn && Nat.beq e.m.w.next m.w.next with
    | true => some e
    | false => findX m r
theorem findX_mem {m : VM} {e : EntX} : ∀ {l : List EntX}, findX m l = some e → e ∈ l
  | [], h => by cases h
  | x :: r, h => by
    unfold findX at h
    split at h
    · cases h; exact .head _
    · exact .tail _ (findX_mem h)
open Classical in
noncomputable def sureX (m : VM) (e : EntX) : VS := if m = e.m then .over e.v e.W else .stop 98
/-- Runs, the long calls answered by what is known of them. -/
noncomputable def subM (P : Program) (vp : VP) (N : Nat) (tbl : List EntX) : Nat → VM → VS
  | 0, m => match findX m tbl with
    | some e => sureX m e
    | none => runF P vp N 0 m
  | ro + 1, m => runF P vp N (ro + 1) m
theorem subM_hit {N : Nat} {tbl : List EntX} {e : EntX} (h : findX e.m tbl = some e) : subM P vp N tbl 0 e.m = .over e.v e.W := by
  simp only [subM, h, sureX, if_true]
theorem subM_ok (ok : VPok P vp) (hm : P.follows .mixedOrders = true) {N : Nat} {tbl : List EntX} (h : ∀ e ∈ tbl, EndsFrom P 0 e.m e.v e.W) : ∀ ro, SubOk P vp ro (subM P vp N tbl ro)
  | ro + 1 => runF_subOk ok hm N (ro + 1)
  | 0 => by
    intro g fn f' args args' V w μ w0 v W hfn hfe hrun R hl bottom
    simp only [subM] at hrun
    split at hrun
    · rename_i e hf
      unfold sureX at hrun
      split at hrun
      case isFalse => cases hrun
      rename_i hme
      cases hrun
      obtain ⟨hff, _, _⟩ := fn_facts ok hfn
      obtain ⟨a', g1, g2, g3, g4⟩ := enter_sound hff hl hfe
      obtain ⟨v', μ', w', F, h1, h2, h3, h4, h5, h6⟩ := h e (findX_mem hf) w0 f' [] V μ a' none [] w hme.symm g2 (by rw [g4]; exact trivial) .nil R bottom
      refine ⟨.returned v', w', F, ⟨v', μ', rfl, h4, h5, h6⟩, ?_, h2.trans g3, h3⟩
      show Steps P _ _
      rw [g1]; exact h1
    · exact runF_subOk ok hm N 0 g fn f' args args' V w μ w0 v W hfn hfe hrun R hl bottom

/-- The tries ahead of the walk. -/
def triesX (P : Program) (vp : VP) (sub : VM → VS) (ro : Nat) (ops : Array Oper) (fr : VF) (w : VW) : Bool :=
  (tryQ P vp ops fr w).isNone && Region.noSelect ops

/-- A move of which the long calls are known. -/
theorem bigF_cut {sub : Nat → VM → VS} {fn : Nat} {tm : Tr Value} {nt id : Nat} {k : List Item} {defers : List Deferred} {kind : CallKind} {cs : List VF} {w : VW}
    (h1 : triesX P vp (sub ro) ro ops ⟨fn, tm, nt, .code (.region id ops true) :: k, defers, false, kind, none⟩ w = true) {f' : VF} {V' : VW} {D' : List DE}
    (h2 : greedyX P vp (sub ro) ro ops (3 * ops.toList.length + 1) none 0 ⟨fn, tm, nt, .code (.region id ops true) :: k, defers, false, kind, none⟩ w [] [] = some (f', V', D')) :
    bigF P vp sub ro ⟨⟨fn, tm, nt, .code (.region id ops true) :: k, defers, false, kind, none⟩, cs, w⟩ = .next ⟨⟨fn, f'.tm, nt, k, defers, false, kind, none⟩, cs, V'⟩ := by
  unfold triesX at h1
  rw [Bool.and_eq_true, Option.isNone_iff_eq_none] at h1
  obtain ⟨h3, h5⟩ := h1
  simp only [bigF, drawV, h3, fullX, h5, h2]

/-- A loop over a function: what is entered, and where it goes on. -/
def rangeM (vp : VP) (m : VM) : Option VM := match m.fr.ret, m.fr.rd, m.fr.todo with
  | false, none, .code (.rangeFunc g ps assign body) :: _ => match rangeV vp m.fr g ps assign body m.w with
    | some (f', w1) => some ⟨f', [], w1⟩
    | none => none
  | _, _, _ => none
def afterM (ro : Nat) (m : VM) (w2 : VW) : Option VM := match m.fr.ret, m.fr.rd, m.fr.todo with
  | false, none, .code (.rangeFunc ..) :: k => match endV ro (m.w.next + 1) w2 with
    | some (jump, w3) => some ⟨{ m.fr with todo := afterV jump k, defers := markV m.w.next :: m.fr.defers }, m.cs, w3⟩
    | none => none
  | _, _, _ => none
theorem bigF_range {sub : Nat → VM → VS} {m m1 m' : VM} {v : Value} {w2 : VW} (h1 : rangeM vp m = some m1) (h2 : sub ro m1 = .over v w2) (h3 : afterM ro m w2 = some m') : bigF P vp sub ro m = .next m' := by
  obtain ⟨⟨fn, tm, nt, todo, defers, ret, kind, rd⟩, cs, w⟩ := m
  unfold rangeM at h1
  simp only at h1
  split at h1
  case h_2 => cases h1
  split at h1
  case h_2 => cases h1
  rename_i hr
  cases h1
  unfold afterM at h3
  simp only at h3
  split at h3
  case h_2 => cases h3
  rename_i he
  cases h3
  simp only [bigF, hr, h2, he]

theorem tb_nil : ∀ e ∈ ([] : List EntX), EndsFrom P 0 e.m e.v e.W := fun _ h => by cases h
theorem tb_cons {x : EntX} {l : List EntX} (h : EndsFrom P 0 x.m x.v x.W) (t : ∀ e ∈ l, EndsFrom P 0 e.m e.v e.W) : ∀ e ∈ x :: l, EndsFrom P 0 e.m e.v e.W := fun e he => by
  cases he with
  | head => exact h
  | tail _ he => exact t e he
/-- An end, less what is forgotten. -/
def VS.shedO (l : List (Nat × Nat)) : VS → VS
  | .over v ⟨n, h, g⟩ => .over v ⟨n, shedP l h, g⟩
  | s => s
theorem ends_over (ok : VPok P vp) (hm : P.follows .mixedOrders = true) {N k : Nat} {m : VM} {v : Value} {W : VW} {l : List (Nat × Nat)} (h : VS.shedO l (runK P vp N k 0 m) = .over v W) : EndsFrom P 0 m v W := by
  intro w0 f cs V μ a r Fs w hm' A hr C R bottom
  subst hm'
  generalize hk : runK P vp N k 0 ⟨f, cs, V⟩ = s at h
  cases s with
  | over v1 W1 =>
    obtain ⟨n, hp, g⟩ := W1
    cases h
    obtain ⟨v', μ', w', F, k1, k2, k3, k4, k5, k6⟩ := runK_sound ok hm N k 0 w0 f cs V _ v μ a r Fs w A hr C R hk bottom
    exact ⟨v', μ', w', F, k1, k2, k3, k4, shedP_rel l k5, k6⟩
  | next m1 => cases h
  | stop q => cases h
theorem ends_go (ok : VPok P vp) (hm : P.follows .mixedOrders = true) {N k : Nat} {l : List (Nat × Nat)} {d : List (List Nat)} {m m' : VM} {v : Value} {W : VW} (h : VS.shed l d (runK P vp N k 0 m) = .next m') (e : EndsFrom P 0 m' v W) : EndsFrom P 0 m v W :=
  (leads_shed ok hm h).ends e
theorem ends_on {m m' : VM} {v : Value} {W : VW} (h : Leads P 0 m m') (e : EndsFrom P 0 m' v W) : EndsFrom P 0 m v W := h.ends e
theorem ends_lead {m m' : VM} (h : Leads P 0 m m') (e : EndsYes P m') : EndsYes P m :=
  e.elim fun W hW => ⟨W, h.ends hW⟩
end
end Go.Wvm
