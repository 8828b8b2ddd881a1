/- The law PackNone answers true, whatever the world: its call is run by a small machine over blocks with numbers of their own, whose runs tell the model's calls (the files YtfapdmilpbbmdabGreatWvm..). No condition. -/
import Derived.Test.YtfapdmilpbbmdabGreatRows
import Derived.Test.YtfapdmilpbbmdabGreatWvmStop
import Derived.Test.YtfapdmilpbbmdabGreatPackNoneRunA
import Derived.Test.YtfapdmilpbbmdabGreatPackNoneRunB
import Derived.Test.YtfapdmilpbbmdabGreatPackNoneRunC
import Derived.WalkKit
import Derived.ProofKit
import Derived.OpenShut
import Derived.ChangeOld
namespace Go.Proofs.YtfapdmilpbbmdabGreat.packNone
open Go.ChangeShapes Go.WideShapes Go.ChangeAt Go.RowKit
set_option linter.unusedVariables false
set_option maxRecDepth 100000
open Go.Wvm

theorem own : ownKnob Tryz.prog.godebug = none := by kernel_rfl



theorem started : startV tables known 4 0 = some s0 := by kernel_rfl
theorem runs : trueV (runK Tryz.prog tables 1000000 (1500 + (1500 + (1500 + (1500 + (1500 + (1500 + (925 + (1500 + (1500 + (1500 + (1251 + (389 + (774 + (1500 + (1381))))))))))))))) 0 s0) = true := by
  rw [runK_add w0, runK_add w1, runK_add w2, runK_add w3, runK_add w4, runK_add w5, runK_add w6, runK_add w7, runK_add w8, runK_add w9, runK_add w10, runK_add w11, runK_add w12, runK_add w13]
  exact w14


theorem walk (w : World) : Calls Tryz.prog 4 #[] w fun e w' => e = .returned (.bool true) ∧ Below w.heap.size w w' :=
  Wvm.yesK_sound (Wvm.VP.of_ok _) (by kernel_rfl) started runs w fun g l hl => by simp [known, Wvm.Tr.get_nil] at hl

set_option maxRecDepth 100000 in
theorem lifted (os : Os) (started : os.Started) (H : Type) (enc : TypeId × Value → H) :
    ReturnsInHanded {} Tryz.checked os 4 .any (Rows.packNoneSpec.pre6 enc Tryz.prog Tryz.f4 Rows.packNoneRow.domain false) (Rows.packNoneSpec.post enc Tryz.prog Tryz.f4 false true false false) := by
  refine returnsInHanded_of_change (C := Tryz.checked) own started (by kernel_rfl) Tryz.func4
    (ChangeSpec.witness6 (enc := enc) (C := Tryz.checked) false ⟨#[], #[], []⟩ 8 (by kernel_rfl) (by kernel_rfl) (by kernel_rfl) (by kernel_rfl)) ?_
  intro W base args ds gs before hval0 hW hcnd _
  have hval : ∀ (j : Nat) t v, Tryz.f4.params[j]? = some t → args[j]? = some v → Value.okWide Tryz.prog W .any base t v := hval0
  have hW' := hW
  obtain ⟨p, q, hA0, hV, rfl, hfz, hnd⟩ := hW
  have hA : DataW.TrodAll enc Tryz.prog W 0 (fun _ => true) true Tryz.f4.params.toList args.toList ds p := hA0
  rw [Tryz.params4] at hA hval
  obtain ⟨rfl, rfl, rfl⟩ := trodAll_none hA
  obtain ⟨rfl, rfl⟩ := trodVars_none hV
  clear hA0 hval0
  simp only [List.append_nil] at hW'
  refine (walk W).mono fun e W' ⟨he, bel⟩ => ?_
  subst he
  exact ⟨_, rfl, _, _, _, [], _, [], hW', trodAll_mk1 (shut_bool Tryz.underlying4 _), trodAll_mk0, rfl, bel.frame _, fun h => by cases h⟩

theorem over : Rows.packNoneRow.holds Tryz.pinned (OpenSpec.ofChange Rows.packNoneSpec) :=
  OpenClaim.holds_of_wide 4 Tryz.f4 rfl rfl rfl rfl rfl rfl rfl ⟨rfl, rfl, rfl, rfl, rfl⟩ rfl rfl rfl rfl rfl (by kernel_rfl) Tryz.func4 (by kernel_rfl)
    (of_decide_eq_true (by kernel_rfl)) (by unfold Func.isWrapper; first | (rw [if_pos (by decide +kernel)]; kernel_rfl) | (rw [if_neg (by decide +kernel)]; exact ⟨rfl, rfl⟩))
    (fun os started H enc _ => lifted os started H enc)

theorem proved : Rows.PackNoneSaid := over
#print axioms proved
end Go.Proofs.YtfapdmilpbbmdabGreat.packNone
