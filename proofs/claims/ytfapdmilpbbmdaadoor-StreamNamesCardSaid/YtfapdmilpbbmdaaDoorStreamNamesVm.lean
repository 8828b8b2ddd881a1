/- The law StreamNames answers true, whatever the world in which wattle/sums.nibbles holds what the program's text lays into it: its call is run by a small machine over blocks with numbers of their own, whose runs tell the model's calls (the files YtfapdmilpbbmdaaDoorWvm..); the card ties the table to the text. No other condition. -/
import Derived.Test.YtfapdmilpbbmdaaDoorRows
import Derived.Test.YtfapdmilpbbmdaaDoorCards
import Derived.Test.YtfapdmilpbbmdaaDoorTie
import Derived.Test.YtfapdmilpbbmdaaDoorWvmStop
import Derived.Test.YtfapdmilpbbmdaaDoorStreamNamesRunA
import Derived.Test.YtfapdmilpbbmdaaDoorStreamNamesRunB
import Derived.Test.YtfapdmilpbbmdaaDoorStreamNamesRunC
import Derived.Test.YtfapdmilpbbmdaaDoorStreamNamesRunD
import Derived.Test.YtfapdmilpbbmdaaDoorStreamNamesRunE
import Derived.Test.YtfapdmilpbbmdaaDoorStreamNamesRunF
import Derived.WalkKit
import Derived.ProofKit
import Derived.LaidMore
import Derived.OpenShut
import Derived.ChangeOld
import Derived.Stop.Joined
import Derived.SevenTiedAt
namespace Go.Proofs.YtfapdmilpbbmdaaDoor.streamNames
open Go.ChangeShapes Go.WideShapes Go.ChangeAt Go.RowKit
set_option linter.unusedVariables false
set_option maxRecDepth 100000
open Go.Wvm

theorem own : ownKnob Tryd.prog.godebug = none := by kernel_rfl




theorem started : startV tables known 4 0 = some s0 := by kernel_rfl
theorem runs : trueV (runK Tryd.prog tables 1000000 (2000 + (2000 + (2000 + (2000 + (2000 + (2000 + (2000 + (2000 + (2000 + (2000 + (2000 + (2000 + (2000 + (2000 + (1742 + (2000 + (2000 + (2000 + (2000 + (2000 + (2000 + (2000 + (2000 + (1601 + (2000 + (2000 + (2000 + (2000 + (2000 + (2000 + (2000 + (2000 + (2000 + (2000 + (2000 + (2000 + (2000 + (2000 + (2000 + (2000 + (2000 + (2000 + (2000 + (2000 + (1732))))))))))))))))))))))))))))))))))))))))))))) 0 s0) = true := by
  rw [runK_add w0, runK_add w1, runK_add w2, runK_add w3, runK_add w4, runK_add w5, runK_add w6, runK_add w7, runK_add w8, runK_add w9, runK_add w10, runK_add w11, runK_add w12, runK_add w13, runK_add w14, runK_add w15, runK_add w16, runK_add w17, runK_add w18, runK_add w19, runK_add w20, runK_add w21, runK_add w22, runK_add w23, runK_add w24, runK_add w25, runK_add w26, runK_add w27, runK_add w28, runK_add w29, runK_add w30, runK_add w31, runK_add w32, runK_add w33, runK_add w34, runK_add w35, runK_add w36, runK_add w37, runK_add w38, runK_add w39, runK_add w40, runK_add w41, runK_add w42, runK_add w43]
  exact w44


theorem gNib : Tryd.prog.globalNamed "wattle/sums.nibbles" = some 0 := by kernel_rfl
theorem tNib : (Tryd.prog.globals[0]?).map (·.type) = some 183 := by kernel_rfl

/-- What the card lays is what the machine is told. -/
theorem of_laid {W : World} (h : laidMetH Tryd.prog [("wattle/sums.nibbles", Rows.laid_wattle_sums_nibbles)] W) : Wvm.GlobOk known W := by
  rw [MakeChecks.laidMetH_plain _ _ _ (by kernel_rfl)] at h
  obtain ⟨ps, ⟨g0, t0, cs0, f0, p0, q0, hg0, ht0, hv0, hd0, _, _⟩, _, _⟩ := h
  obtain rfl := Option.some.inj (gNib.symm.trans hg0)
  obtain rfl := Option.some.inj (tNib.symm.trans ht0)
  have hc := Wvm.cells_of_data (ns := nib) Tryd.underlying92 (by kernel_rfl) Tryd.underlying183 (by kernel_rfl) hd0
  refine Wvm.globOk_one (by kernel_rfl) ?_
  obtain ⟨e, fz, hh⟩ := Wvm.heap_of_var gNib hv0
  refine ⟨e, fz, ?_⟩
  rw [hh, show cs0 = ⟨cs0.toList⟩ from rfl, hc]

theorem walk (w : World) (h : laidMetH Tryd.prog [("wattle/sums.nibbles", Rows.laid_wattle_sums_nibbles)] w) : Calls Tryd.prog 4 #[] w fun e w' => e = .returned (.bool true) ∧ Below w.heap.size w w' :=
  Wvm.yesK_sound (Wvm.VP.of_ok _) (by kernel_rfl) started runs w (of_laid h)

/-- The door's own heap meets the condition. -/
theorem door_met (os : Os) (args : Array Value) : laidMetH Tryd.prog [("wattle/sums.nibbles", Rows.laid_wattle_sums_nibbles)] ((World.doorLaid Tryd.prog 400 os).forCall (fun _ _ => 0) ⟨#[], args, []⟩).memory :=
  laidMetH_of_parts3 (fuel := 8) (laidMet_of_run' 8 (by kernel_rfl) (by kernel_rfl)) (by kernel_rfl) (by kernel_rfl)

set_option maxRecDepth 100000 in
theorem lifted (os : Os) (started : os.Started) (H : Type) (enc : TypeId × Value → H) :
    ReturnsInHanded {} Tryd.checked os 4 .any (fun w args => (Rows.streamNamesSpec.pre enc Tryd.prog Tryd.f4 [] false w args ∧ laidMetH Tryd.prog [("wattle/sums.nibbles", Rows.laid_wattle_sums_nibbles)] w) ∧ sizedMet enc Tryd.prog Tryd.f4 (OpenSpec.ofChange Rows.streamNamesSpec) false w args)
      (Rows.streamNamesSpec.post enc Tryd.prog Tryd.f4 false true false false) := by
  refine returnsInHanded_of_change_and (C := Tryd.checked) (X := fun w _ => laidMetH Tryd.prog [("wattle/sums.nibbles", Rows.laid_wattle_sums_nibbles)] w) (fun _ _ _ hh h => h.of_heap hh) own started (by kernel_rfl) Tryd.func4
    (ChangeSpec.witness_shaped (enc := enc) (C := Tryd.checked) (os := os) (X := fun w _ => laidMetH Tryd.prog [("wattle/sums.nibbles", Rows.laid_wattle_sums_nibbles)] w) false (World.doorLaid Tryd.prog 400 os) #[] 8 rfl (World.shaped_of_RefB (by kernel_rfl) (by kernel_rfl)) (by kernel_rfl) (by kernel_rfl) (by kernel_rfl) (door_met os _)) ?_
  intro W base args ds gs before hval0 hW _ _ hL _
  have hval : ∀ (j : Nat) t v, Tryd.f4.params[j]? = some t → args[j]? = some v → Value.okWide Tryd.prog W .any base t v := hval0
  have hW' := hW
  obtain ⟨p, q, hA0, hV, rfl, hfz, hnd⟩ := hW
  have hA : DataW.TrodAll enc Tryd.prog W 0 (fun _ => true) true Tryd.f4.params.toList args.toList ds p := hA0
  rw [Tryd.params4] at hA hval
  obtain ⟨rfl, rfl, rfl⟩ := trodAll_none hA
  obtain ⟨rfl, rfl⟩ := trodVars_none hV
  clear hA0 hval0
  simp only [List.append_nil] at hW'
  refine (walk W hL).mono fun e W' ⟨he, bel⟩ => ?_
  subst he
  exact ⟨_, rfl, _, _, _, [], _, [], hW', trodAll_mk1 (shut_bool Tryd.underlying4 _), trodAll_mk0, rfl, bel.frame _, fun h => by cases h⟩

theorem over : Rows.streamNamesRow.holds Tryd.pinned (OpenSpec.ofChange Rows.streamNamesSpec) :=
  OpenClaim.holds_of_wide 4 Tryd.f4 rfl rfl rfl rfl rfl rfl rfl ⟨rfl, rfl, rfl, rfl, rfl⟩ rfl rfl rfl rfl rfl (by kernel_rfl) Tryd.func4 (by kernel_rfl)
    (of_decide_eq_true (by kernel_rfl)) (by unfold Func.isWrapper; first | (rw [if_pos (by decide +kernel)]; kernel_rfl) | (rw [if_neg (by decide +kernel)]; exact ⟨rfl, rfl⟩))
    (fun os started H enc _ => lifted os started H enc)

/-- The tied card. -/
theorem proved : Rows.StreamNamesCardSaid :=
  Claim7.holds_tied_plain_at .later [] [.data] true (true, "8c3ff95b9e63c467ad65eeb97d0be80b6a5e4bbba305418237407224a0f71eba") false
    over (fun _ h => by cases h) (by kernel_rfl) (fun _ h => by cases h) streamNames_row_tie rfl ⟨rfl, rfl⟩ (by kernel_rfl) rfl
    (fun f fn hf hfn => by
      obtain rfl : f = 4 := Option.some.inj ((show Tryd.prog.funcNamed "wattle/wattlelaw11.StreamNames" = some 4 by kernel_rfl).symm.trans hf) |>.symm
      obtain rfl : fn = Tryd.f4 := (Option.some.inj (Tryd.func4.symm.trans hfn)).symm
      exact ⟨by kernel_rfl, fun j t ht => by
        rw [Tryd.params4] at ht
        simp at ht⟩)
    (by kernel_rfl)
#print axioms proved
end Go.Proofs.YtfapdmilpbbmdaaDoor.streamNames
