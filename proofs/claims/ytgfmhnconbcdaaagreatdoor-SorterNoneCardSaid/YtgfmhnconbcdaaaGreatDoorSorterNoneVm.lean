/- The law SorterNone answers true, whatever the world in which wattle/sums.nibbles holds what the program's text lays into it: its call is run by a small machine over blocks with numbers of their own, whose runs tell the model's calls (the files YtgfmhnconbcdaaaGreatDoorWvm..); the card ties the table to the text. No other condition. -/
import Derived.Test.YtgfmhnconbcdaaaGreatDoorRows
import Derived.Test.YtgfmhnconbcdaaaGreatDoorCards
import Derived.Test.YtgfmhnconbcdaaaGreatDoorTie
import Derived.Test.YtgfmhnconbcdaaaGreatDoorWvmStop
import Derived.Test.YtgfmhnconbcdaaaGreatDoorSorterNoneRunA
import Derived.WalkKit
import Derived.ProofKit
import Derived.LaidMore
import Derived.OpenShut
import Derived.ChangeOld
import Derived.Stop.Joined
import Derived.SevenTiedAt
namespace Go.Proofs.YtgfmhnconbcdaaaGreatDoor.sorterNone
open Go.ChangeShapes Go.WideShapes Go.ChangeAt Go.RowKit
set_option linter.unusedVariables false
set_option maxRecDepth 100000
open Go.Wvm

theorem own : ownKnob Tryz.prog.godebug = none := by kernel_rfl




theorem started : startV tables known 3 0 = some s0 := by kernel_rfl
theorem runs : trueV (runK Tryz.prog tables 1000000 (1500 + (1500 + (1500 + (1500 + (1500 + (1500 + (1500 + (352)))))))) 0 s0) = true := by
  rw [runK_add w0, runK_add w1, runK_add w2, runK_add w3, runK_add w4, runK_add w5, runK_add w6]
  exact w7


theorem gNib : Tryz.prog.globalNamed "wattle/sums.nibbles" = some 0 := by kernel_rfl
theorem tNib : (Tryz.prog.globals[0]?).map (·.type) = some 189 := by kernel_rfl

/-- What the card lays is what the machine is told. -/
theorem of_laid {W : World} (h : laidMetH Tryz.prog [("wattle/sums.nibbles", Rows.laid_wattle_sums_nibbles)] W) : Wvm.GlobOk known W := by
  rw [MakeChecks.laidMetH_plain _ _ _ (by kernel_rfl)] at h
  obtain ⟨ps, ⟨g0, t0, cs0, f0, p0, q0, hg0, ht0, hv0, hd0, _, _⟩, _, _⟩ := h
  obtain rfl := Option.some.inj (gNib.symm.trans hg0)
  obtain rfl := Option.some.inj (tNib.symm.trans ht0)
  have hc := Wvm.cells_of_data (ns := nib) Tryz.underlying141 (by kernel_rfl) Tryz.underlying189 (by kernel_rfl) hd0
  refine Wvm.globOk_one (by kernel_rfl) ?_
  obtain ⟨e, fz, hh⟩ := Wvm.heap_of_var gNib hv0
  refine ⟨e, fz, ?_⟩
  rw [hh, show cs0 = ⟨cs0.toList⟩ from rfl, hc]

theorem walk (w : World) (h : laidMetH Tryz.prog [("wattle/sums.nibbles", Rows.laid_wattle_sums_nibbles)] w) : Calls Tryz.prog 3 #[] w fun e w' => e = .returned (.bool true) ∧ Below w.heap.size w w' :=
  Wvm.yesK_sound (Wvm.VP.of_ok _) (by kernel_rfl) started runs w (of_laid h)

/-- The door's own heap meets the condition. -/
theorem door_met (os : Os) (args : Array Value) : laidMetH Tryz.prog [("wattle/sums.nibbles", Rows.laid_wattle_sums_nibbles)] ((World.doorLaid Tryz.prog 400 os).forCall (fun _ _ => 0) ⟨#[], args, []⟩).memory :=
  laidMetH_of_parts3 (fuel := 8) (laidMet_of_run' 8 (by kernel_rfl) (by kernel_rfl)) (by kernel_rfl) (by kernel_rfl)

set_option maxRecDepth 100000 in
theorem lifted (os : Os) (started : os.Started) (H : Type) (enc : TypeId × Value → H) :
    ReturnsInHanded {} Tryz.checked os 3 .any (fun w args => (Rows.sorterNoneSpec.pre enc Tryz.prog Tryz.f3 [] false w args ∧ laidMetH Tryz.prog [("wattle/sums.nibbles", Rows.laid_wattle_sums_nibbles)] w) ∧ sizedMet enc Tryz.prog Tryz.f3 (OpenSpec.ofChange Rows.sorterNoneSpec) false w args)
      (Rows.sorterNoneSpec.post enc Tryz.prog Tryz.f3 false true false false) := by
  refine returnsInHanded_of_change_and (C := Tryz.checked) (X := fun w _ => laidMetH Tryz.prog [("wattle/sums.nibbles", Rows.laid_wattle_sums_nibbles)] w) (fun _ _ _ hh h => h.of_heap hh) own started (by kernel_rfl) Tryz.func3
    (ChangeSpec.witness_shaped (enc := enc) (C := Tryz.checked) (os := os) (X := fun w _ => laidMetH Tryz.prog [("wattle/sums.nibbles", Rows.laid_wattle_sums_nibbles)] w) false (World.doorLaid Tryz.prog 400 os) #[] 8 rfl (World.shaped_of_RefB (by kernel_rfl) (by kernel_rfl)) (by kernel_rfl) (by kernel_rfl) (by kernel_rfl) (door_met os _)) ?_
  intro W base args ds gs before hval0 hW _ _ hL _
  have hval : ∀ (j : Nat) t v, Tryz.f3.params[j]? = some t → args[j]? = some v → Value.okWide Tryz.prog W .any base t v := hval0
  have hW' := hW
  obtain ⟨p, q, hA0, hV, rfl, hfz, hnd⟩ := hW
  have hA : DataW.TrodAll enc Tryz.prog W 0 (fun _ => true) true Tryz.f3.params.toList args.toList ds p := hA0
  rw [Tryz.params3] at hA hval
  obtain ⟨rfl, rfl, rfl⟩ := trodAll_none hA
  obtain ⟨rfl, rfl⟩ := trodVars_none hV
  clear hA0 hval0
  simp only [List.append_nil] at hW'
  refine (walk W hL).mono fun e W' ⟨he, bel⟩ => ?_
  subst he
  exact ⟨_, rfl, _, _, _, [], _, [], hW', trodAll_mk1 (shut_bool Tryz.underlying4 _), trodAll_mk0, rfl, bel.frame _, fun h => by cases h⟩

theorem over : Rows.sorterNoneRow.holds Tryz.pinned (OpenSpec.ofChange Rows.sorterNoneSpec) :=
  OpenClaim.holds_of_wide 3 Tryz.f3 rfl rfl rfl rfl rfl rfl rfl ⟨rfl, rfl, rfl, rfl, rfl⟩ rfl rfl rfl rfl rfl (by kernel_rfl) Tryz.func3 (by kernel_rfl)
    (of_decide_eq_true (by kernel_rfl)) (by unfold Func.isWrapper; first | (rw [if_pos (by decide +kernel)]; kernel_rfl) | (rw [if_neg (by decide +kernel)]; exact ⟨rfl, rfl⟩))
    (fun os started H enc _ => lifted os started H enc)

/-- The tied card. -/
theorem proved : Rows.SorterNoneCardSaid :=
  Claim7.holds_tied_plain_at .later [] [.data] true (true, "ccfa89508df130ed6bd992d71c33dc8d42718bce30720c2faef0194d09049210") false
    over (fun _ h => by cases h) (by kernel_rfl) (fun _ h => by cases h) sorterNone_row_tie rfl ⟨rfl, rfl⟩ (by kernel_rfl) rfl
    (fun f fn hf hfn => by
      obtain rfl : f = 3 := Option.some.inj ((show Tryz.prog.funcNamed "wattle/wattlelaw17.SorterNone" = some 3 by kernel_rfl).symm.trans hf) |>.symm
      obtain rfl : fn = Tryz.f3 := (Option.some.inj (Tryz.func3.symm.trans hfn)).symm
      exact ⟨by kernel_rfl, fun j t ht => by
        rw [Tryz.params3] at ht
        simp at ht⟩)
    (by kernel_rfl)
#print axioms proved
end Go.Proofs.YtgfmhnconbcdaaaGreatDoor.sorterNone
