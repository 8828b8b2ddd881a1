/- The law CodesZigs answers true at every two signed numbers and every unsigned one of 64 bits. No condition. -/
import Derived.Test.YtepalndienfkfabRows
import Derived.WalkKit
import Derived.ProofKit
import Derived.OpenShut
import Derived.ShutString
import Derived.ChangeOld
import Derived.Test.YtepalndienfkfabZigs
import Derived.Test.YtepalndienfkfabWvmFin
namespace Go.Proofs.Ytepalndienfkfab.codesZigs
open Go.ChangeShapes Go.WideShapes Go.ChangeAt Go.RowKit
open Go.ChangeMaps (open_string shut_string)
set_option linter.unusedVariables false      -- a walk need not use every 'w<i>' (that an integer argument fits its kind)

theorem own : ownKnob Try.prog.godebug = none := by kernel_rfl

noncomputable def tables : Wvm.VP := Wvm.VP.of Try.prog
theorem runs : Wvm.yes Try.prog tables 0 1000000 8 = true := by kernel_rfl
theorem awake8 (w : World) : Calls Try.prog 8 #[] w fun e w' => e = .returned (.bool true) ∧ Below w.heap.size w w' :=
  Wvm.yes_sound (Wvm.VP.of_ok _) (by kernel_rfl) runs w

open zigs (zg zu)
theorem zig_back (u : Int) (h : (Lit.int .u64 u).wf = true) (w : World) : Calls Try.prog 4 #[.int .i64 (zu u)] w fun e w' => e = .returned (.int .u64 u) ∧ w' = w := by
  have k := zigs.u64_wf h
  have := zigs.zig4 (zu u) (zigs.wf_i64 (zigs.zu_range k)) w
  rwa [zigs.zg_zu k.1] at this
theorem zag_back (x : Int) (h : (Lit.int .i64 x).wf = true) (w : World) : Calls Try.prog 6 #[.int .u64 (zg x)] w fun e w' => e = .returned (.int .i64 x) ∧ w' = w := by
  have k := zigs.i64_wf h
  have := zigs.zag6 (zg x) (zigs.wf_u64 (zigs.zg_range k)) w
  rwa [zigs.zu_zg] at this

theorem nearer_lt {x y : Int} (h : (0 ≤ x ∧ 0 ≤ y ∧ x < y) ∨ (x < 0 ∧ y < 0 ∧ y < x)) : zg x < zg y := by
  unfold zigs.zg
  rcases h with ⟨h1, h2, h3⟩ | ⟨h1, h2, h3⟩
  · rw [if_pos h1, if_pos h2]; omega
  · rw [if_neg (by omega), if_neg (by omega)]; omega

set_option maxHeartbeats 8000000 in
theorem walk (a0 : Int) (a1 : Int) (a2 : Int) (w0 : (Lit.int .i64 a0).wf = true) (w1 : (Lit.int .i64 a1).wf = true) (w2 : (Lit.int .u64 a2).wf = true) (w : World) :
    Calls Try.prog 3 #[.int .i64 a0, .int .i64 a1, .int .u64 a2] w fun e w' => e = .returned (.bool true) ∧ Below w.heap.size w w' := by
  rcases Int.lt_trichotomy a0 a1 with c3 | c3 | c3
  case inr.inl =>
    subst c3
    by_cases c1 : 0 ≤ a0
    all_goals
      go_enter Try.func3, Try.ntmps3
      go_wp2_with (first
        | (go_at_call 4; (with_reducible refine (zig_back a2 w2 _).mono ?_); rintro e w' ⟨rfl, rfl⟩)
        | (go_at_call 4; (with_reducible refine (zigs.zig4 a0 w0 _).mono ?_); rintro e w' ⟨rfl, rfl⟩)
        | (go_at_call 5; (with_reducible refine (zigs.zig5 a0 w0 _).mono ?_); rintro e w' ⟨rfl, rfl⟩)
        | (go_at_call 6; (with_reducible refine (zag_back a0 w0 _).mono ?_); rintro e w' ⟨rfl, rfl⟩)
        | (go_at_call 6; (with_reducible refine (zigs.zag6 a2 w2 _).mono ?_); rintro e w' ⟨rfl, rfl⟩)
        | (go_at_call 7; (with_reducible refine (zigs.zag7 a2 w2 _).mono ?_); rintro e w' ⟨rfl, rfl⟩)
        | (go_at_call 8; (with_reducible refine (awake8 _).mono ?_); rintro e w' ⟨rfl, hb⟩))
      go_ret
      exact ⟨rfl, hb⟩
  all_goals
    have f1 : (zg a0 == zg a1) = false := by simpa using zigs.zg_ne (show a0 ≠ a1 by omega)
    have f2 : (a0 == a1) = false := by simpa using (show a0 ≠ a1 by omega)
    by_cases c1 : 0 ≤ a0 <;> by_cases c2 : 0 ≤ a1 <;> (try have f3 : decide (zg a0 < zg a1) = true := decide_eq_true (nearer_lt (by omega))) <;> (try (exfalso; omega))
  all_goals
    go_enter Try.func3, Try.ntmps3
    go_wp2_with (first
      | (go_at_call 4; (with_reducible refine (zig_back a2 w2 _).mono ?_); rintro e w' ⟨rfl, rfl⟩)
      | (go_at_call 4; (with_reducible refine (zigs.zig4 a0 w0 _).mono ?_); rintro e w' ⟨rfl, rfl⟩)
      | (go_at_call 4; (with_reducible refine (zigs.zig4 a1 w1 _).mono ?_); rintro e w' ⟨rfl, rfl⟩)
      | (go_at_call 5; (with_reducible refine (zigs.zig5 a0 w0 _).mono ?_); rintro e w' ⟨rfl, rfl⟩)
      | (go_at_call 6; (with_reducible refine (zag_back a0 w0 _).mono ?_); rintro e w' ⟨rfl, rfl⟩)
      | (go_at_call 6; (with_reducible refine (zigs.zag6 a2 w2 _).mono ?_); rintro e w' ⟨rfl, rfl⟩)
      | (go_at_call 7; (with_reducible refine (zigs.zag7 a2 w2 _).mono ?_); rintro e w' ⟨rfl, rfl⟩)
      | (go_at_call 8; (with_reducible refine (awake8 _).mono ?_); rintro e w' ⟨rfl, hb⟩))
    go_ret
    exact ⟨rfl, hb⟩

/-! ### THE ROW's STEP: WRITTEN OUT: LEAVE IT -/
set_option maxRecDepth 100000 in
theorem lifted (os : Os) (started : os.Started) (H : Type) (enc : TypeId × Value → H) :
    ReturnsInHanded {} Try.checked os 3 .any (Rows.codesZigsSpec.pre6 enc Try.prog Try.f3 Rows.codesZigsRow.domain false) (Rows.codesZigsSpec.post enc Try.prog Try.f3 false true false false) := by
  refine returnsInHanded_of_change (C := Try.checked) own started (by kernel_rfl) Try.func3
    (ChangeSpec.witness6 (enc := enc) (C := Try.checked) false ⟨#[], #[.int .i64 0, .int .i64 0, .int .u64 0], []⟩ 8 (by kernel_rfl) (by kernel_rfl) (by kernel_rfl) (by kernel_rfl)) ?_
  intro W base args ds gs before hval0 hW hcnd _
  have hval : ∀ (j : Nat) t v, Try.f3.params[j]? = some t → args[j]? = some v → Value.okWide Try.prog W .any base t v := hval0
  have hW' := hW
  obtain ⟨p, q, hA0, hV, rfl, hfz, hnd⟩ := hW
  have hA : DataW.TrodAll enc Try.prog W 0 (fun _ => true) true Try.f3.params.toList args.toList ds p := hA0
  rw [Try.params3] at hA hval
  obtain ⟨v0, vs0, d0, ds0, p0, q0, hargs, rfl, rfl, h0, r0⟩ := trodAll_cons hA
  obtain ⟨v1, vs1, d1, ds1, p1, q1, rfl, rfl, rfl, h1, r1⟩ := trodAll_cons r0
  obtain ⟨v2, vs2, d2, ds2, p2, q2, rfl, rfl, rfl, h2, r2⟩ := trodAll_cons r1
  obtain ⟨rfl, rfl, rfl⟩ := trodAll_nil r2
  obtain rfl : args = #[v0, v1, v2] := by cases args; simp_all
  obtain ⟨rfl, rfl⟩ := trodVars_none hV
  obtain ⟨a0, rfl, rfl, rfl, w0⟩ := open_int Try.underlying2 (hval 0 2 v0 rfl rfl) h0
  obtain ⟨a1, rfl, rfl, rfl, w1⟩ := open_int Try.underlying2 (hval 1 2 v1 rfl rfl) h1
  obtain ⟨a2, rfl, rfl, rfl, w2⟩ := open_int Try.underlying22 (hval 2 22 v2 rfl rfl) h2
  clear hA0 hval0
  simp only [List.append_nil] at hW'
  refine (walk a0 a1 a2 w0 w1 w2 W).mono fun e W' ⟨he, hg⟩ => ?_
  subst he
  exact ⟨_, rfl, _, _, _, [], _, [], hW', trodAll_mk1 (shut_bool Try.underlying4 _), (trodAll_cons_mk (shut_int Try.underlying2 w0) (trodAll_cons_mk (shut_int Try.underlying2 w1) (trodAll_cons_mk (shut_int Try.underlying22 w2) trodAll_mk0))), rfl, hg.frame _, fun h => by cases h⟩

theorem over : Rows.codesZigsRow.holds Try.pinned (OpenSpec.ofChange Rows.codesZigsSpec) :=
  OpenClaim.holds_of_wide 3 Try.f3 rfl rfl rfl rfl rfl rfl rfl ⟨rfl, rfl, rfl, rfl, rfl⟩ rfl rfl rfl rfl rfl (by kernel_rfl) Try.func3 (by kernel_rfl)
    (of_decide_eq_true (by kernel_rfl)) (by unfold Func.isWrapper; first | (rw [if_pos (by decide +kernel)]; kernel_rfl) | (rw [if_neg (by decide +kernel)]; exact ⟨rfl, rfl⟩))
    (fun os started H enc _ => lifted os started H enc)

/-- ████ THE STATEMENT ████ -/
theorem proved : Rows.CodesZigsSaid :=
  over
#print axioms proved
end Go.Proofs.Ytepalndienfkfab.codesZigs
