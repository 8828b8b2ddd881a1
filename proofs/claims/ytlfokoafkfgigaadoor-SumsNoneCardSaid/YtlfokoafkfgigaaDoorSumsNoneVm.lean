/- The law SumsNone answers true, whatever the world in which wattle/sums.nibbles holds what the program's text lays into it: its call is run by a small machine over blocks with numbers of their own, whose runs tell the model's calls (the files YtlfokoafkfgigaaDoorWvm..); the card ties the table to the text. No other condition. -/
import Derived.Test.YtlfokoafkfgigaaDoorRows
import Derived.Test.YtlfokoafkfgigaaDoorCards
import Derived.Test.YtlfokoafkfgigaaDoorTie
import Derived.Test.YtlfokoafkfgigaaDoorWvmCard
import Derived.WalkKit
import Derived.ProofKit
import Derived.LaidMore
import Derived.OpenShut
import Derived.ChangeOld
import Derived.Stop.Joined
import Derived.SevenTiedAt
namespace Go.Proofs.YtlfokoafkfgigaaDoor.sumsNone
open Go.ChangeShapes Go.WideShapes Go.ChangeAt Go.RowKit
set_option linter.unusedVariables false

theorem own : ownKnob Tryd.prog.godebug = none := by kernel_rfl

noncomputable def tables : Wvm.VP := Wvm.VP.of Tryd.prog

def nib : List Int := [0, 274646895, 549293790, 820201905, 1098587580, 1361435347, 1640403810, 1905808397, 2197175160, 2460548119, 2722870694, 2987750089, 3280807620, 3553878443, 3811616794, 4084100981]
def known : Wvm.Tr (List Value) := Wvm.Tr.set .nil 0 (nib.map fun n => .int .u32 n)

theorem runs : Wvm.yesG Tryd.prog tables known 0 1000000 3 = true := by kernel_rfl

theorem gNib : Tryd.prog.globalNamed "wattle/sums.nibbles" = some 0 := by kernel_rfl
theorem tNib : (Tryd.prog.globals[0]?).map (·.type) = some 51 := by kernel_rfl

/-- What the card lays is what the machine is told. -/
theorem of_laid {W : World} (h : laidMetH Tryd.prog [("wattle/sums.nibbles", Rows.laid_wattle_sums_nibbles)] W) : Wvm.GlobOk known W := by
  rw [MakeChecks.laidMetH_plain _ _ _ (by kernel_rfl)] at h
  obtain ⟨ps, ⟨g0, t0, cs0, f0, p0, q0, hg0, ht0, hv0, hd0, _, _⟩, _, _⟩ := h
  obtain rfl := Option.some.inj (gNib.symm.trans hg0)
  obtain rfl := Option.some.inj (tNib.symm.trans ht0)
  have hc := Wvm.cells_of_data (ns := nib) Tryd.underlying27 (by kernel_rfl) Tryd.underlying51 (by kernel_rfl) hd0
  refine Wvm.globOk_one (by kernel_rfl) ?_
  obtain ⟨e, fz, hh⟩ := Wvm.heap_of_var gNib hv0
  refine ⟨e, fz, ?_⟩
  rw [hh, show cs0 = ⟨cs0.toList⟩ from rfl, hc]

theorem walk (w : World) (h : laidMetH Tryd.prog [("wattle/sums.nibbles", Rows.laid_wattle_sums_nibbles)] w) : Calls Tryd.prog 3 #[] w fun e w' => e = .returned (.bool true) ∧ Below w.heap.size w w' :=
  Wvm.yesG_sound (Wvm.VP.of_ok _) (by kernel_rfl) runs w (of_laid h)

/-- The door's own heap meets the condition. -/
theorem door_met (os : Os) (args : Array Value) : laidMetH Tryd.prog [("wattle/sums.nibbles", Rows.laid_wattle_sums_nibbles)] ((World.doorLaid Tryd.prog 400 os).forCall (fun _ _ => 0) ⟨#[], args, []⟩).memory :=
  laidMetH_of_parts3 (fuel := 8) (laidMet_of_run' 8 (by kernel_rfl) (by kernel_rfl)) (by kernel_rfl) (by kernel_rfl)

set_option maxRecDepth 100000 in
theorem lifted (os : Os) (started : os.Started) (H : Type) (enc : TypeId × Value → H) :
    ReturnsInHanded {} Tryd.checked os 3 .any (fun w args => (Rows.sumsNoneSpec.pre enc Tryd.prog Tryd.f3 [] false w args ∧ laidMetH Tryd.prog [("wattle/sums.nibbles", Rows.laid_wattle_sums_nibbles)] w) ∧ sizedMet enc Tryd.prog Tryd.f3 (OpenSpec.ofChange Rows.sumsNoneSpec) false w args)
      (Rows.sumsNoneSpec.post enc Tryd.prog Tryd.f3 false true false false) := by
  refine returnsInHanded_of_change_and (C := Tryd.checked) (X := fun w _ => laidMetH Tryd.prog [("wattle/sums.nibbles", Rows.laid_wattle_sums_nibbles)] w) (fun _ _ _ hh h => h.of_heap hh) own started (by kernel_rfl) Tryd.func3
    (ChangeSpec.witness_shaped (enc := enc) (C := Tryd.checked) (os := os) (X := fun w _ => laidMetH Tryd.prog [("wattle/sums.nibbles", Rows.laid_wattle_sums_nibbles)] w) false (World.doorLaid Tryd.prog 400 os) #[] 8 rfl (World.shaped_of_RefB (by kernel_rfl) (by kernel_rfl)) (by kernel_rfl) (by kernel_rfl) (by kernel_rfl) (door_met os _)) ?_
  intro W base args ds gs before hval0 hW _ _ hL _
  have hval : ∀ (j : Nat) t v, Tryd.f3.params[j]? = some t → args[j]? = some v → Value.okWide Tryd.prog W .any base t v := hval0
  have hW' := hW
  obtain ⟨p, q, hA0, hV, rfl, hfz, hnd⟩ := hW
  have hA : DataW.TrodAll enc Tryd.prog W 0 (fun _ => true) true Tryd.f3.params.toList args.toList ds p := hA0
  rw [Tryd.params3] at hA hval
  obtain ⟨rfl, rfl, rfl⟩ := trodAll_none hA
  obtain ⟨rfl, rfl⟩ := trodVars_none hV
  clear hA0 hval0
  simp only [List.append_nil] at hW'
  refine (walk W hL).mono fun e W' ⟨he, bel⟩ => ?_
  subst he
  exact ⟨_, rfl, _, _, _, [], _, [], hW', trodAll_mk1 (shut_bool Tryd.underlying4 _), trodAll_mk0, rfl, bel.frame _, fun h => by cases h⟩

theorem over : Rows.sumsNoneRow.holds Tryd.pinned (OpenSpec.ofChange Rows.sumsNoneSpec) :=
  OpenClaim.holds_of_wide 3 Tryd.f3 rfl rfl rfl rfl rfl rfl rfl ⟨rfl, rfl, rfl, rfl, rfl⟩ rfl rfl rfl rfl rfl (by kernel_rfl) Tryd.func3 (by kernel_rfl)
    (of_decide_eq_true (by kernel_rfl)) (by unfold Func.isWrapper; first | (rw [if_pos (by decide +kernel)]; kernel_rfl) | (rw [if_neg (by decide +kernel)]; exact ⟨rfl, rfl⟩))
    (fun os started H enc _ => lifted os started H enc)

/-- The tied card. -/
theorem proved : Rows.SumsNoneCardSaid :=
  Claim7.holds_tied_plain_at .later [] [.data] true (true, "51f9d1804d2b8cf4129f71026ea8b26d00bfca4870d857e8a6355f841c73fbf6") false
    over (fun _ h => by cases h) (by kernel_rfl) (fun _ h => by cases h) sumsNone_row_tie rfl ⟨rfl, rfl⟩ (by kernel_rfl) rfl
    (fun f fn hf hfn => by
      obtain rfl : f = 3 := Option.some.inj ((show Tryd.prog.funcNamed "wattle/wattlelaw03.SumsNone" = some 3 by kernel_rfl).symm.trans hf) |>.symm
      obtain rfl : fn = Tryd.f3 := (Option.some.inj (Tryd.func3.symm.trans hfn)).symm
      exact ⟨by kernel_rfl, fun j t ht => by
        rw [Tryd.params3] at ht
        simp at ht⟩)
    (by kernel_rfl)
#print axioms proved
end Go.Proofs.YtlfokoafkfgigaaDoor.sumsNone
