/- The law EfTexts answers true at every text, every place and every count. No condition. -/
import Derived.Test.YtdnbcjoknjogiaaRows
import Derived.WalkKit
import Derived.ProofKit
import Derived.OpenShut
import Derived.ShutString
import Derived.ChangeOld
import Derived.Test.YtdnbcjoknjogiaaWvmFin
namespace Go.Proofs.Ytdnbcjoknjogiaa.efTexts
open Go.ChangeShapes Go.WideShapes Go.ChangeAt Go.RowKit
open Go.ChangeMaps (open_string shut_string)
set_option linter.unusedVariables false      -- a walk need not use every 'w<i>' (that an integer argument fits its kind)

theorem own : ownKnob Try.prog.godebug = none := by kernel_rfl


noncomputable def tables : Wvm.VP := Wvm.VP.of Try.prog
theorem runs : Wvm.yes Try.prog tables 0 1000000 5 = true := by kernel_rfl
theorem awake5 (w : World) : Calls Try.prog 5 #[] w fun e w' => e = .returned (.bool true) ∧ Below w.heap.size w w' :=
  Wvm.yes_sound (Wvm.VP.of_ok _) (by kernel_rfl) runs w

/-- A place is asked that the text has not. -/
theorem refused (a0 : ByteArray) (a1 a2 : Int) (w0 : a0.size ≤ maxLen) (w1 : (Lit.int .i64 a1).wf = true) (w2 : (Lit.int .i64 a2).wf = true)
    (h : a1 < 0 ∨ a2 < 0 ∨ (a0.size : Int) < a1 ∨ (a0.size : Int) - a1 < a2) (w : World) :
    Calls Try.prog 4 #[.string a0, .int .i64 a1, .int .i64 a2] w fun e w' => e = .returned (.tuple #[.string .empty, .int .i64 1]) ∧ w' = w := by
  have k0 : (a0.size : Int) ≤ 9223372036854775807 := by unfold maxLen at w0; omega
  by_cases c1 : a1 < 0
  · go_enter Try.func4, Try.ntmps4
    go_wp2
    go_ret2
    exact ⟨rfl, rfl⟩
  · by_cases c2 : a2 < 0
    · go_enter Try.func4, Try.ntmps4
      go_wp2
      go_ret2
      exact ⟨rfl, rfl⟩
    · by_cases c3 : (a0.size : Int) < a1
      · go_enter Try.func4, Try.ntmps4
        go_wp2
        go_ret2
        exact ⟨rfl, rfl⟩
      · have c4 : (a0.size : Int) - a1 < a2 := by omega
        have k1 : -9223372036854775808 ≤ (a0.size : Int) - a1 ∧ (a0.size : Int) - a1 ≤ 9223372036854775807 := by omega
        go_enter Try.func4, Try.ntmps4
        go_wp2
        go_ret2
        exact ⟨rfl, rfl⟩

/-- .. and one that it has. -/
theorem handed (a0 : ByteArray) (a1 a2 : Int) (w0 : a0.size ≤ maxLen)
    (h1 : 0 ≤ a1) (h2 : 0 ≤ a2) (h3 : a1 ≤ (a0.size : Int)) (h4 : a2 ≤ (a0.size : Int) - a1) (w : World) :
    Calls Try.prog 4 #[.string a0, .int .i64 a1, .int .i64 a2] w fun e w' => e = .returned (.tuple #[.string (a0.extract a1.toNat (a1 + a2).toNat), .int .i64 0]) ∧ w' = w := by
  have k0 : (a0.size : Int) ≤ 9223372036854775807 := by unfold maxLen at w0; omega
  have k1 : -9223372036854775808 ≤ (a0.size : Int) - a1 ∧ (a0.size : Int) - a1 ≤ 9223372036854775807 := by omega
  have k2 : -9223372036854775808 ≤ a1 + a2 ∧ a1 + a2 ≤ 9223372036854775807 := by omega
  have c1 : ¬ a1 < 0 := by omega
  have c2 : ¬ a2 < 0 := by omega
  have c3 : ¬ (a0.size : Int) < a1 := by omega
  have c4 : ¬ (a0.size : Int) - a1 < a2 := by omega
  have c5 : 0 ≤ a1 + a2 := by omega
  have c6 : a1 + a2 ≤ (a0.size : Int) := by omega
  have c7 : a1 ≤ a1 + a2 := by omega
  go_enter Try.func4, Try.ntmps4
  go_wp2
  go_ret2
  exact ⟨rfl, rfl⟩

theorem long (a0 : ByteArray) (w : World) : Calls Try.prog 6 #[.string a0] w fun e w' => e = .returned (.int .i64 a0.size) ∧ w' = w := by
  go_enter Try.func6, Try.ntmps6
  go_wp2
  go_ret
  exact ⟨rfl, rfl⟩

set_option maxHeartbeats 4000000 in
theorem walk (a0 : ByteArray) (a1 : Int) (a2 : Int) (w0 : a0.size ≤ maxLen) (w1 : (Lit.int .i64 a1).wf = true) (w2 : (Lit.int .i64 a2).wf = true) (w : World) :
    Calls Try.prog 3 #[.string a0, .int .i64 a1, .int .i64 a2] w fun e w' => e = .returned (.bool true) ∧ Below w.heap.size w w' := by
  have k0 : (a0.size : Int) ≤ 9223372036854775807 := by unfold maxLen at w0; omega
  by_cases c1 : a1 < 0
  · go_enter Try.func3, Try.ntmps3
    go_wp2_with (first
      | (go_at_call 4; (with_reducible refine (refused a0 a1 a2 w0 w1 w2 (by omega) _).mono ?_); rintro e w' ⟨rfl, rfl⟩)
      | (go_at_call 5; (with_reducible refine (awake5 _).mono ?_); rintro e w' ⟨rfl, hb⟩))
    go_ret
    exact ⟨rfl, hb⟩
  · by_cases c2 : a2 < 0
    · go_enter Try.func3, Try.ntmps3
      go_wp2_with (first
        | (go_at_call 4; (with_reducible refine (refused a0 a1 a2 w0 w1 w2 (by omega) _).mono ?_); rintro e w' ⟨rfl, rfl⟩)
        | (go_at_call 5; (with_reducible refine (awake5 _).mono ?_); rintro e w' ⟨rfl, hb⟩))
      go_ret
      exact ⟨rfl, hb⟩
    · by_cases c3 : (a0.size : Int) < a1
      · go_enter Try.func3, Try.ntmps3
        go_wp2_with (first
          | (go_at_call 4; (with_reducible refine (refused a0 a1 a2 w0 w1 w2 (by omega) _).mono ?_); rintro e w' ⟨rfl, rfl⟩)
          | (go_at_call 5; (with_reducible refine (awake5 _).mono ?_); rintro e w' ⟨rfl, hb⟩))
        go_ret
        exact ⟨rfl, hb⟩
      · have k1 : -9223372036854775808 ≤ (a0.size : Int) - a1 ∧ (a0.size : Int) - a1 ≤ 9223372036854775807 := by omega
        by_cases c4 : (a0.size : Int) - a1 < a2
        · go_enter Try.func3, Try.ntmps3
          go_wp2_with (first
            | (go_at_call 4; (with_reducible refine (refused a0 a1 a2 w0 w1 w2 (by omega) _).mono ?_); rintro e w' ⟨rfl, rfl⟩)
            | (go_at_call 5; (with_reducible refine (awake5 _).mono ?_); rintro e w' ⟨rfl, hb⟩))
          go_ret
          exact ⟨rfl, hb⟩
        · have k2 : -9223372036854775808 ≤ a1 + a2 ∧ a1 + a2 ≤ 9223372036854775807 := by omega
          have c5 : 0 ≤ a1 + a2 := by omega
          have c6 : a1 + a2 ≤ (a0.size : Int) := by omega
          have c7 : a1 ≤ a1 + a2 := by omega
          go_enter Try.func3, Try.ntmps3
          go_wp2_with (first
            | (go_at_call 4; (with_reducible refine (handed a0 a1 a2 w0 (by omega) (by omega) (by omega) (by omega) _).mono ?_); rintro e w' ⟨rfl, rfl⟩)
            | (go_at_call 6; (with_reducible refine (long a0 _).mono ?_); rintro e w' ⟨rfl, rfl⟩)
            | (go_at_call 5; (with_reducible refine (awake5 _).mono ?_); rintro e w' ⟨rfl, hb⟩))
          go_ret
          exact ⟨rfl, hb⟩

/-! ### THE ROW's STEP: WRITTEN OUT: LEAVE IT -/
set_option maxRecDepth 100000 in
theorem lifted (os : Os) (started : os.Started) (H : Type) (enc : TypeId × Value → H) :
    ReturnsInHanded {} Try.checked os 3 .any (Rows.efTextsSpec.pre6 enc Try.prog Try.f3 Rows.efTextsRow.domain false) (Rows.efTextsSpec.post enc Try.prog Try.f3 false true false false) := by
  refine returnsInHanded_of_change (C := Try.checked) own started (by kernel_rfl) Try.func3
    (ChangeSpec.witness6 (enc := enc) (C := Try.checked) false ⟨#[], #[.string ByteArray.empty, .int .i64 0, .int .i64 0], []⟩ 8 (by kernel_rfl) (by kernel_rfl) (by kernel_rfl) (by kernel_rfl)) ?_
  intro W base args ds gs before hval0 hW hcnd _
  have hval : ∀ (j : Nat) t v, Try.f3.params[j]? = some t → args[j]? = some v → Value.okWide Try.prog W .any base t v := hval0
  have hW' := hW
  obtain ⟨p, q, hA0, hV, rfl, hfz, hnd⟩ := hW
  have hA : DataW.TrodAll enc Try.prog W 0 (fun _ => true) true Try.f3.params.toList args.toList ds p := hA0
  rw [Try.params3] at hA hval
  obtain ⟨v0, vs0, d0, ds0, p0, q0, hargs, rfl, rfl, h0, r0⟩ := trodAll_cons hA
  obtain ⟨v1, vs1, d1, ds1, p1, q1, rfl, rfl, rfl, h1, r1⟩ := trodAll_cons r0
  obtain ⟨v2, vs2, d2, ds2, p2, q2, rfl, rfl, rfl, h2, r2⟩ := trodAll_cons r1
  obtain ⟨rfl, rfl, rfl⟩ := trodAll_nil r2
  obtain rfl : args = #[v0, v1, v2] := by cases args; simp_all
  obtain ⟨rfl, rfl⟩ := trodVars_none hV
  obtain ⟨a0, rfl, rfl, rfl, w0⟩ := open_string Try.underlying9 (hval 0 9 v0 rfl rfl) h0
  obtain ⟨a1, rfl, rfl, rfl, w1⟩ := open_int Try.underlying3 (hval 1 3 v1 rfl rfl) h1
  obtain ⟨a2, rfl, rfl, rfl, w2⟩ := open_int Try.underlying3 (hval 2 3 v2 rfl rfl) h2
  clear hA0 hval0
  simp only [List.append_nil] at hW'
  refine (walk a0 a1 a2 w0 w1 w2 W).mono fun e W' ⟨he, hg⟩ => ?_
  subst he
  exact ⟨_, rfl, _, _, _, [], _, [], hW', trodAll_mk1 (shut_bool Try.underlying4 _), (trodAll_cons_mk (shut_string Try.underlying9 w0) (trodAll_cons_mk (shut_int Try.underlying3 w1) (trodAll_cons_mk (shut_int Try.underlying3 w2) trodAll_mk0))), rfl, hg.frame _, fun h => by cases h⟩

theorem over : Rows.efTextsRow.holds Try.pinned (OpenSpec.ofChange Rows.efTextsSpec) :=
  OpenClaim.holds_of_wide 3 Try.f3 rfl rfl rfl rfl rfl rfl rfl ⟨rfl, rfl, rfl, rfl, rfl⟩ rfl rfl rfl rfl rfl (by kernel_rfl) Try.func3 (by kernel_rfl)
    (of_decide_eq_true (by kernel_rfl)) (by unfold Func.isWrapper; first | (rw [if_pos (by decide +kernel)]; kernel_rfl) | (rw [if_neg (by decide +kernel)]; exact ⟨rfl, rfl⟩))
    (fun os started H enc _ => lifted os started H enc)

/-- ████ THE STATEMENT ████ -/
theorem proved : Rows.EfTextsSaid :=
  over
#print axioms proved
end Go.Proofs.Ytdnbcjoknjogiaa.efTexts
