/- The law SketchGrows answers true for every text, every seed, hash and exponent, and every number, and they read behind the call as they read before: from the contract of the logic to the statement. No condition. -/
import Derived.Test.YtpglehckhnencaaXm3
import Derived.WalkKit
import Derived.ProofKit
import Derived.OpenShut
import Derived.JoinedCond
import Derived.ChangeOld
import Derived.Carry
import Derived.Lib.SmallJoins
import Derived.SizedLaws
namespace Go.Proofs.Ytpglehckhnencaa.sketchGrows
open Go.ChangeShapes Go.WideShapes Go.ChangeAt Go.RowKit Go.Wvm Go.Deep Go.Joins
set_option linter.unusedVariables false
set_option maxRecDepth 100000

theorem own : ownKnob Try.prog.godebug = none := by kernel_rfl

theorem lifted (os : Os) (started : os.Started) (H : Type) (enc : TypeId × Value → H) :
    ReturnsInHanded {} Try.checked os 5 .any (Rows.sketchGrowsSpec.pre6 enc Try.prog Try.f5 Rows.sketchGrowsRow.domain false) (Rows.sketchGrowsSpec.post enc Try.prog Try.f5 false true false false) := by
  refine returnsInHanded_of_change_sized (C := Try.checked) own started (by kernel_rfl) Try.func5
    (ChangeSpec.witness6 (enc := enc) (C := Try.checked) false ⟨#[], #[.string ⟨#[]⟩, .agg #[.int .u64 0, .int .u64 0, .int .i64 0], .int .u64 0], []⟩ 8 (by kernel_rfl) (by kernel_rfl) (by kernel_rfl) (by kernel_rfl)) ?_
  intro W base args ds gs before hval hW hcnd hsz _
  have hW' := hW
  have hlt := hW.lt
  obtain ⟨p, q, hA0, hV, rfl, hfz, hnd⟩ := hW
  have hA : DataW.TrodAll enc Try.prog W 0 (fun _ => true) true Try.f5.params.toList args.toList ds p := hA0
  have hval : ∀ (j : Nat) t v, Try.f5.params[j]? = some t → args[j]? = some v → Value.okWide Try.prog W .any base t v := hval
  rw [Try.params5] at hA hval hsz
  obtain ⟨v0, v1, v2, d0, d1, d2, p0, p1, p2, rfl, rfl, rfl, h0, h1, h2⟩ := trodAll_three hA
  obtain ⟨rfl, rfl⟩ := trodVars_none hV
  clear hA0
  obtain ⟨⟨⟨s⟩⟩, rfl⟩ := okWide_string Try.underlying9 (hval 0 9 v0 rfl rfl)
  have h0' := h0
  obtain ⟨fuel, hf⟩ := h0'
  obtain ⟨s', hs', hx, _⟩ := DataW.trod_string Try.underlying9 hf
  simp only [Value.cells, List.cons.injEq, and_true, Value.string.injEq] at hs'
  subst hs'
  injection hx with hd hp
  subst hd hp
  obtain ⟨n3, rfl, ed3, ep3, wn3⟩ := open_int Try.underlying22 (hval 2 22 v2 rfl rfl) h2
  subst ed3 ep3
  have kn3 : 0 ≤ n3 ∧ n3 ≤ 18446744073709551615 := by simpa [Lit.wf, IntKind.min, IntKind.max, IntKind.signed, IntKind.bits] using wn3
  obtain ⟨m3, rfl⟩ : ∃ m : Nat, n3 = m := ⟨n3.toNat, by omega⟩
  obtain ⟨c0, c1, c2, y0, y1, y2, n, rfl, rfl, rfl, t0, t1, t2⟩ := open_agg3 Try.underlying24 (by kernel_rfl) (by kernel_rfl) (hval 1 24 _ rfl rfl) h1
  obtain ⟨n0, en0, ey0, wn0⟩ := DataW.trod_int Try.underlying22 t0
  obtain ⟨n1, en1, ey1, wn1⟩ := DataW.trod_int Try.underlying22 t1
  obtain ⟨n2, en2, ey2, wn2⟩ := DataW.trod_int Try.underlying3 t2
  have kn0 : 0 ≤ n0 ∧ n0 ≤ 18446744073709551615 := by simpa [Lit.wf, IntKind.min, IntKind.max, IntKind.signed, IntKind.bits] using wn0
  have kn1 : 0 ≤ n1 ∧ n1 ≤ 18446744073709551615 := by simpa [Lit.wf, IntKind.min, IntKind.max, IntKind.signed, IntKind.bits] using wn1
  have kn2 : -9223372036854775808 ≤ n2 ∧ n2 ≤ 9223372036854775807 := by simpa [Lit.wf, IntKind.min, IntKind.max, IntKind.signed, IntKind.bits] using wn2
  simp only [List.cons.injEq, and_true] at en0 en1 en2
  subst en0 en1 en2
  subst ey0 ey1 ey2
  obtain ⟨m0, rfl⟩ : ∃ m : Nat, n0 = m := ⟨n0.toNat, by omega⟩
  obtain ⟨m1, rfl⟩ : ∃ m : Nat, n1 = m := ⟨n1.toNat, by omega⟩
  simp only [List.append_nil] at hW' hfz hlt h1
  have hb0 : s.length ≤ reachBytes := sized_string hsz (j := 0) rfl rfl
  have hr := reachBytes_lt
  refine (calls_of_fn ok (Grows_ok (M := start0M .nil) (s := s) (S := m0) (H := m1) (y := m3) (P := n2) (by omega) (by omega) (by omega) (by omega) (by simp only [InR]; omega)) (start0_abs .nil) (start0_rel (fun g l h => by rw [Tr.get_nil] at h; cases h)) (.cons (.str _) (.cons (VR.aggL (.cons (.int _ _) (.cons (.int _ _) (.cons (.int _ _) .nil)))) (.cons (.int _ _) .nil)))).mono fun e W' ⟨he, bel⟩ => ?_
  subst he
  exact ⟨_, rfl, _, _, _, [], _, [], hW', trodAll_mk1 (shut_bool Try.underlying4 _),
    trodAll_mk3 (bel.trod (by kernel_rfl) (by kernel_rfl) (of_decide_eq_true (by kernel_rfl)) h0 (fun x hx => by cases hx)) (bel.trod (by kernel_rfl) (by kernel_rfl) (of_decide_eq_true (by kernel_rfl)) h1 (fun x hx => by cases hx)) (bel.trod (by kernel_rfl) (by kernel_rfl) (of_decide_eq_true (by kernel_rfl)) h2 (fun x hx => by cases hx)), rfl, bel.frame _, fun h => by cases h⟩

theorem over : Rows.sketchGrowsRow.holds Try.pinned (OpenSpec.ofChange Rows.sketchGrowsSpec) :=
  OpenClaim.holds_of_wide 5 Try.f5 rfl rfl rfl rfl rfl rfl rfl ⟨rfl, rfl, rfl, rfl, rfl⟩ rfl rfl rfl rfl rfl (by kernel_rfl) Try.func5 (by kernel_rfl)
    (of_decide_eq_true (by kernel_rfl)) (by unfold Func.isWrapper; first | (rw [if_pos (by decide +kernel)]; kernel_rfl) | (rw [if_neg (by decide +kernel)]; exact ⟨rfl, rfl⟩))
    (fun os started H enc _ => lifted os started H enc)

theorem proved : Rows.SketchGrowsSaid := over
#print axioms proved
end Go.Proofs.Ytpglehckhnencaa.sketchGrows
