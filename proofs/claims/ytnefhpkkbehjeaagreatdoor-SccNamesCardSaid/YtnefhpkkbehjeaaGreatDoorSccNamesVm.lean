/- The law SccNames answers true, whatever the world in which wattle/sums.nibbles holds what the program's text lays into it: its call is run by a small machine over blocks with numbers of their own, whose runs tell the model's calls (the files YtnefhpkkbehjeaaGreatDoorWvm..); the card ties the table to the text. No other condition. -/
import Derived.Test.YtnefhpkkbehjeaaGreatDoorRows
import Derived.Test.YtnefhpkkbehjeaaGreatDoorSccNamesFaA
import Derived.Test.YtnefhpkkbehjeaaGreatDoorSccNamesFaB
import Derived.Test.YtnefhpkkbehjeaaGreatDoorCards
import Derived.Test.YtnefhpkkbehjeaaGreatDoorTie
import Derived.Test.YtnefhpkkbehjeaaGreatDoorSccNamesChain
import Derived.Test.YtnefhpkkbehjeaaGreatDoorWvmCut
import Derived.WalkKit
import Derived.ProofKit
import Derived.LaidMore
import Derived.OpenShut
import Derived.ChangeOld
import Derived.Stop.Joined
import Derived.SevenTiedAt
namespace Go.Proofs.YtnefhpkkbehjeaaGreatDoor.sccNames
open Go.ChangeShapes Go.WideShapes Go.ChangeAt Go.RowKit
set_option linter.unusedVariables false
set_option maxRecDepth 100000

theorem own : ownKnob Tryz.prog.godebug = none := by kernel_rfl

theorem gNib : Tryz.prog.globalNamed "wattle/sums.nibbles" = some 0 := by kernel_rfl
theorem tNib : (Tryz.prog.globals[0]?).map (·.type) = some 247 := by kernel_rfl

/-- What the card lays is what the machine is told. -/
theorem of_laid {W : World} (h : laidMetH Tryz.prog [("wattle/sums.nibbles", Rows.laid_wattle_sums_nibbles)] W) : Wvm.GlobOk known W := by
  rw [MakeChecks.laidMetH_plain _ _ _ (by kernel_rfl)] at h
  obtain ⟨ps, ⟨g0, t0, cs0, f0, p0, q0, hg0, ht0, hv0, hd0, _, _⟩, _, _⟩ := h
  obtain rfl := Option.some.inj (gNib.symm.trans hg0)
  obtain rfl := Option.some.inj (tNib.symm.trans ht0)
  have hc := Wvm.cells_of_data (ns := nib) Tryz.underlying29 (by kernel_rfl) Tryz.underlying247 (by kernel_rfl) hd0
  refine Wvm.globOk_one (by kernel_rfl) ?_
  obtain ⟨e, fz, hh⟩ := Wvm.heap_of_var gNib hv0
  refine ⟨e, fz, ?_⟩
  rw [hh, show cs0 = ⟨cs0.toList⟩ from rfl, hc]

theorem walk (w : World) (h : laidMetH Tryz.prog [("wattle/sums.nibbles", Rows.laid_wattle_sums_nibbles)] w) : Calls Tryz.prog 4 #[] w fun e w' => e = .returned (.bool true) ∧ Below w.heap.size w w' :=
  Wvm.yesL_sound ok hm started e0 w (of_laid h)

/-- The door's own heap meets the condition. -/
theorem door_met (os : Os) (args : Array Value) : laidMetH Tryz.prog [("wattle/sums.nibbles", Rows.laid_wattle_sums_nibbles)] ((World.doorLaid Tryz.prog 400 os).forCall (fun _ _ => 0) ⟨#[], args, []⟩).memory :=
  laidMetH_of_parts3 (fuel := 8) (laidMet_of_run' 8 (by kernel_rfl) (by kernel_rfl)) (by kernel_rfl) (by kernel_rfl)

set_option maxRecDepth 100000 in
theorem lifted (os : Os) (started : os.Started) (H : Type) (enc : TypeId × Value → H) :
    ReturnsInHanded {} Tryz.checked os 4 .any (fun w args => (Rows.sccNamesSpec.pre enc Tryz.prog Tryz.f4 [] false w args ∧ laidMetH Tryz.prog [("wattle/sums.nibbles", Rows.laid_wattle_sums_nibbles)] w) ∧ sizedMet enc Tryz.prog Tryz.f4 (OpenSpec.ofChange Rows.sccNamesSpec) false w args)
      (Rows.sccNamesSpec.post enc Tryz.prog Tryz.f4 false true false false) := by
  refine returnsInHanded_of_change_and (C := Tryz.checked) (X := fun w _ => laidMetH Tryz.prog [("wattle/sums.nibbles", Rows.laid_wattle_sums_nibbles)] w) (fun _ _ _ hh h => h.of_heap hh) own started (by kernel_rfl) Tryz.func4
    (ChangeSpec.witness_shaped (enc := enc) (C := Tryz.checked) (os := os) (X := fun w _ => laidMetH Tryz.prog [("wattle/sums.nibbles", Rows.laid_wattle_sums_nibbles)] w) false (World.doorLaid Tryz.prog 400 os) #[] 8 rfl (World.shaped_of_RefB (by kernel_rfl) (by kernel_rfl)) (by kernel_rfl) (by kernel_rfl) (by kernel_rfl) (door_met os _)) ?_
  intro W base args ds gs before hval0 hW _ _ hL _
  have hval : ∀ (j : Nat) t v, Tryz.f4.params[j]? = some t → args[j]? = some v → Value.okWide Tryz.prog W .any base t v := hval0
  have hW' := hW
  obtain ⟨p, q, hA0, hV, rfl, hfz, hnd⟩ := hW
  have hA : DataW.TrodAll enc Tryz.prog W 0 (fun _ => true) true Tryz.f4.params.toList args.toList ds p := hA0
  rw [Tryz.params4] at hA hval
  obtain ⟨rfl, rfl, rfl⟩ := trodAll_none hA
  obtain ⟨rfl, rfl⟩ := trodVars_none hV
  clear hA0 hval0
  simp only [List.append_nil] at hW'
  refine (walk W hL).mono fun e W' ⟨he, bel⟩ => ?_
  subst he
  exact ⟨_, rfl, _, _, _, [], _, [], hW', trodAll_mk1 (shut_bool Tryz.underlying4 _), trodAll_mk0, rfl, bel.frame _, fun h => by cases h⟩

theorem closed : joinedFacts Tryz.pinned.checked.prog 4 Tryz.f4 Rows.sccNamesSpec Rows.sccNamesRow = true := by
  show joinedFacts Tryz.prog 4 Tryz.f4 Rows.sccNamesSpec Rows.sccNamesRow = true
  unfold joinedFacts
  rw [inPlaceIs, unfollowedIs, recursesIs, varsIs]
  kernel_rfl

theorem over : Rows.sccNamesRow.holds Tryz.pinned (OpenSpec.ofChange Rows.sccNamesSpec) :=
  OpenClaim.holds_of_wide 4 Tryz.f4 rfl rfl rfl rfl rfl rfl rfl ⟨rfl, rfl, rfl, rfl, rfl⟩ rfl rfl rfl rfl rfl (by kernel_rfl) Tryz.func4 closed
    (of_decide_eq_true (by kernel_rfl)) (by unfold Func.isWrapper; first | (rw [if_pos (by decide +kernel)]; kernel_rfl) | (rw [if_neg (by decide +kernel)]; exact ⟨rfl, rfl⟩))
    (fun os started H enc _ => lifted os started H enc)

/-- No body starts a goroutine. -/
theorem noGoes : Tryz.prog.funcs.any Func.goes = false := by kernel_rfl
theorem goes_none {P : Program} (h : P.funcs.any Func.goes = false) (f : FuncId) : P.goes f = false := by
  unfold Program.goes
  rw [h, Bool.and_false, Bool.or_false, List.any_eq_false]
  intro g _
  cases hg : P.funcs[g]? with
  | none => simp
  | some fn =>
    obtain ⟨hl, rfl⟩ := Array.getElem?_eq_some_iff.mp hg
    exact Array.any_eq_false.mp h g hl
theorem goesBy_false {c : OpenClaim} {P : Program} (h : P.funcs.any Func.goes = false) (hst : c.start = .entering) : false = c.goesBy P := by
  unfold OpenClaim.goesBy Program.goesAt Program.goesFrom
  rw [hst]
  cases P.funcNamed c.func with
  | none => rfl
  | some f => simp [goes_none h f]

/-- The tied card. -/
theorem proved : Rows.SccNamesCardSaid :=
  Claim7.holds_tied_plain_at .later [] [.data] true (true, "18d19e259bc8219f3a49eb8b12d7f21c5b3bd1cc9e18e2795047db42623519ec") false
    over (fun _ h => by cases h) (by kernel_rfl) (fun _ h => by cases h) sccNames_row_tie rfl ⟨rfl, rfl⟩ (by kernel_rfl) rfl
    (fun f fn hf hfn => by
      obtain rfl : f = 4 := Option.some.inj ((show Tryz.prog.funcNamed "wattle/wattlelaw23.SccNames" = some 4 by kernel_rfl).symm.trans hf) |>.symm
      obtain rfl : fn = Tryz.f4 := (Option.some.inj (Tryz.func4.symm.trans hfn)).symm
      exact ⟨by kernel_rfl, fun j t ht => by
        rw [Tryz.params4] at ht
        simp at ht⟩)
    (goesBy_false noGoes rfl)
#print axioms proved
end Go.Proofs.YtnefhpkkbehjeaaGreatDoor.sccNames
