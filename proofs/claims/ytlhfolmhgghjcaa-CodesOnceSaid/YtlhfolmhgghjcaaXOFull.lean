/- The law CodesOnce answers true for every text and list of codes, and they read behind the call as they read before: from the contract of the logic to the statement. No condition. -/
import Derived.Test.YtlhfolmhgghjcaaXm4
import Derived.WalkKit
import Derived.ProofKit
import Derived.OpenShut
import Derived.JoinedCond
import Derived.ChangeOld
import Derived.Carry
import Derived.Lib.SmallJoins
import Derived.SizedLaws
namespace Go.Proofs.Ytlhfolmhgghjcaa.codesOnce
open Go.ChangeShapes Go.WideShapes Go.ChangeAt Go.RowKit Go.Wvm Go.Deep Go.Joins
set_option linter.unusedVariables false
set_option maxRecDepth 100000

theorem own : ownKnob Try.prog.godebug = none := by kernel_rfl

theorem cells_of {w : World} {a : Addr} {k : Nat} {cs : List Value} (h : w.cells? 0 a k = some cs) : cs.length = k ∧ ∀ j, j < k → w.cell? (a.add j) = cs[j]? := by
  unfold World.cells? at h
  rw [if_pos (Nat.zero_le _)] at h
  refine ⟨by simpa using mapM_some_length h, fun j hj => ?_⟩
  exact mapM_some_get h j j (by simp [hj])

theorem rowC_gets (l : List CodeV) : ∀ (i : Nat) (h : i < l.length), (rowC l)[i * 2]? = some (.int .u8 ((l[i]'h).kind : Int)) ∧ (rowC l)[i * 2 + 1]? = some (.int .u64 ((l[i]'h).K : Int)) := by
  induction l with
  | nil => intro i h; simp at h
  | cons x l ih =>
    intro i h
    have e : rowC (x :: l) = .int .u8 (x.kind : Int) :: .int .u64 (x.K : Int) :: rowC l := by simp [rowC, CodeV.cells]
    cases i with
    | zero => rw [e]; exact ⟨rfl, rfl⟩
    | succ i =>
      have := ih i (by simpa using h)
      rw [e, show (i + 1) * 2 = i * 2 + 2 by omega]
      simpa using this

section
variable {H : Type} {enc : TypeId × Value → H} {W : World}

theorem take_of {n : Nat} {cs : List Value} {x : DataW H × List MemPlace} (h : DataW.trod enc Try.prog W 0 (fun _ => true) true n 60 cs = some x) :
    ∃ y : CodeV, cs = y.cells ∧ (y.kind < 256 ∧ y.K < 18446744073709551616) := by
  obtain ⟨y0, y1, m, hx, hl, h0, h1⟩ := trod_struct2 Try.underlying60 h
  subst hx
  have hl : cs.length = 2 := hl.trans (by kernel_rfl)
  have hc5 : Try.prog.cellsOf 5 = 1 := by kernel_rfl
  have hc25 : Try.prog.cellsOf 25 = 1 := by kernel_rfl
  match cs, hl with
  | [c0, c1], _ =>
    rw [hc5] at h0
    rw [hc25] at h1
    obtain ⟨n0, e0, _, w0⟩ := DataW.trod_int Try.underlying5 h0
    obtain ⟨n1, e1, _, w1⟩ := DataW.trod_int Try.underlying25 h1
    simp only [List.drop_zero, List.drop_succ_cons, List.take_succ_cons, List.take_zero, List.cons.injEq, and_true] at e0 e1
    subst e0 e1
    have k0 : 0 ≤ n0 ∧ n0 ≤ 255 := by simpa [Lit.wf, IntKind.min, IntKind.max, IntKind.signed, IntKind.bits] using w0
    have k1 : 0 ≤ n1 ∧ n1 ≤ 18446744073709551615 := by simpa [Lit.wf, IntKind.min, IntKind.max, IntKind.signed, IntKind.bits] using w1
    obtain ⟨m0, rfl⟩ : ∃ m : Nat, n0 = m := ⟨n0.toNat, by omega⟩
    obtain ⟨m1, rfl⟩ : ∃ m : Nat, n1 = m := ⟨n1.toNat, by omega⟩
    exact ⟨⟨m0, m1⟩, rfl, show m0 < 256 by omega, show m1 < 18446744073709551616 by omega⟩

theorem one_le (d : DataW H) : 1 ≤ Rows.uptoBulk d := by
  cases d with
  | lit l => cases l <;> simp [Rows.uptoBulk]
  | nil => simp [Rows.uptoBulk]
  | ptr d => simp [Rows.uptoBulk]
  | slice elems spare => simp [Rows.uptoBulk]
  | agg parts => simp [Rows.uptoBulk]
  | iface t d => simp [Rows.uptoBulk]
  | map entries => simp [Rows.uptoBulk]
  | held h => simp [Rows.uptoBulk]
theorem length_le (l : List (DataW H)) : l.length ≤ Rows.uptoBulkAll l := by
  induction l with
  | nil => simp [Rows.uptoBulkAll]
  | cons x r ih => have := one_le x; simp only [Rows.uptoBulkAll, List.length_cons]; omega

/-- What is read of a slice of codes. -/
theorem reads {v0 : Value} {d0 : DataW H} {p0 : List MemPlace} {base : Nat} (hok : Value.okWide Try.prog W .any base 50 v0) (h0 : DataW.Trod enc Try.prog W 0 (fun _ => true) true 50 v0 d0 p0) (hfz : W.noneFrozen p0) :
    ∃ (l : List CodeV) (nil : Bool) (L : Wvm.Loc), VR (startMu L) (inV nil 0 l.length) v0 ∧ (nil = true → l.length = 0) ∧ (l.length ≠ 0 → LiesAt W (rowC l) L ∧ L.unit = 2) ∧ (∀ x ∈ l, x.kind < 256 ∧ x.K < 18446744073709551616) := by
  obtain ⟨fuel, h0⟩ := h0
  have hc : Try.prog.cellsOf 60 = 2 := by kernel_rfl
  obtain ⟨a0, len0, cap0, rfl⟩ := okWide_slice Try.underlying50 hok
  rcases DataW.trod_slice Try.underlying50 h0 with ⟨hcs, hx⟩ | ⟨a, len, cap, elems, rest, n, hfu, hcs, hx, hb, hl, hm, hel, hread, hrest, _⟩
  · simp only [Value.cells, List.cons.injEq, and_true] at hcs
    rw [hcs]
    exact ⟨[], true, ⟨0, 0, 0, 1⟩, .nils, fun _ => rfl, fun h => absurd rfl h, fun x h => (by cases h)⟩
  · simp only [Value.cells, List.cons.injEq, and_true] at hcs
    injection hcs with e1 e2 e3
    subst e1 e2 e3
    injection hx with hd hp
    obtain ⟨hr1, hr2⟩ := hrest rfl
    rw [hc] at hread hr2 hp
    -- the place
    have hsp : a.spot = none := by
      have hok' : Cell.okWide Try.prog W .any base 50 (.slice (some a) len0 cap0) := by
        have := hok
        unfold Value.okWide at this
        rw [Try.underlying50] at this
        exact this
      unfold Cell.okWide at hok'
      rw [Try.underlying50] at hok'
      have h2 : Cell.ok Try.prog W .any base 50 (.slice (some a) len0 cap0) := hok'
      unfold Cell.ok at h2
      rw [Try.underlying50] at h2
      exact h2.2.2.2.1
    obtain ⟨blk, off, spot⟩ := a
    subst hsp
    have step : ∀ i, i < cap0 → ∃ cs x, W.cells? 0 ((⟨blk, off, none⟩ : Addr).add (i * 2)) 2 = some cs ∧ DataW.trod enc Try.prog W 0 (fun _ => true) true n 60 cs = some x := by
      intro i hi
      by_cases hil : i < len0
      · have h1 := hread i hil
        rw [List.getElem?_eq_getElem (by omega)] at h1
        simp only [Option.bind_eq_some_iff] at h1
        obtain ⟨cs, g1, g2⟩ := h1
        exact ⟨cs, _, g1, g2⟩
      · have h1 := hr2 (i - len0) (by omega)
        rw [List.getElem?_eq_getElem (by omega), show len0 + (i - len0) = i by omega] at h1
        simp only [Option.bind_eq_some_iff] at h1
        obtain ⟨cs, g1, g2⟩ := h1
        exact ⟨cs, _, g1, g2⟩
    have step2 : ∀ i, ∃ y : CodeV, i < cap0 → (∀ j, j < 2 → W.cell? ⟨blk, off + i * 2 + j, none⟩ = y.cells[j]?) ∧ (y.kind < 256 ∧ y.K < 18446744073709551616) := by
      intro i
      by_cases hi : i < cap0
      · obtain ⟨cs, x, g1, g2⟩ := step i hi
        obtain ⟨y, rfl, q1⟩ := take_of g2
        refine ⟨y, fun _ => ⟨fun j hj => ?_, q1⟩⟩
        rw [← (cells_of g1).2 j hj]
        congr 1
        unfold Addr.add
        by_cases hz : i * 2 = 0
        · rw [if_pos hz]
          by_cases hj0 : j = 0
          · rw [if_pos hj0]; simp
          · rw [if_neg hj0]; simp; omega
        · rw [if_neg hz]
          by_cases hj0 : j = 0
          · rw [if_pos hj0]; simp; omega
          · rw [if_neg hj0]
      · exact ⟨⟨0, 0⟩, fun h => absurd h hi⟩
    obtain ⟨g, hg⟩ := Classical.axiomOfChoice step2
    have hlen : ((List.range len0).map g).length = len0 := by simp
    refine ⟨(List.range len0).map g, false, ⟨blk, off, cap0 * 2, 2⟩, ?_, fun h => (by cases h), fun hz => ⟨?_, rfl⟩, fun x hx => ?_⟩
    · rw [hlen]
      have := VR.slice (μ := startMu ⟨blk, off, cap0 * 2, 2⟩) (b := 0) (o := 0) (o' := 0) (l := len0) (c := len0) (c' := cap0) (L := ⟨blk, off, cap0 * 2, 2⟩) (by unfold startMu; rw [if_pos rfl]) (fun _ => rfl) hl (Nat.le_refl _) ⟨fun h => (by cases h), fun _ => ⟨by simp, fun _ => by simp⟩⟩
      simpa [inV] using this
    · rw [hlen] at hz
      have hcell : ∀ i, i < cap0 * 2 → ∃ v, (g (i / 2)).cells[i % 2]? = some v ∧ W.cell? ⟨blk, off + i, none⟩ = some v := by
        intro i hi
        have h1 := (hg (i / 2) (by omega)).1 (i % 2) (by omega)
        rw [show off + i / 2 * 2 + i % 2 = off + i by omega] at h1
        have h2 : i % 2 < (g (i / 2)).cells.length := by simp only [CodeV.cells, List.length_cons, List.length_nil]; omega
        rw [List.getElem?_eq_getElem h2] at h1
        exact ⟨_, List.getElem?_eq_getElem h2, h1⟩
      obtain ⟨v, _, hv⟩ := hcell 0 (by omega)
      unfold World.cell? at hv
      split at hv
      case h_2 => cases hv
      rename_i C e fr hC
      have hcellC : ∀ i, i < cap0 * 2 → ∃ v, (g (i / 2)).cells[i % 2]? = some v ∧ C[off + i]? = some v := by
        intro i hi
        obtain ⟨v, h1, h2⟩ := hcell i hi
        unfold World.cell? at h2
        simp only at hC
        simp only [hC, Option.isSome_none, Bool.false_eq_true, if_false] at h2
        exact ⟨v, h1, h2⟩
      obtain ⟨lo, hi⟩ := fr
      refine ⟨C, e, lo, hi, hC, fun i v hv => ?_, ?_, fun i hi2 => ⟨?_, fun hfr => ?_⟩⟩
      · have hi3 : i < (rowC ((List.range len0).map g)).length := (List.getElem?_eq_some_iff.1 hv).1
        rw [rowC_length, hlen] at hi3
        obtain ⟨v', h1, h2⟩ := hcellC i (by omega)
        have h3 := rowC_gets ((List.range len0).map g) (i / 2) (by rw [hlen]; omega)
        have h4 : (g (i / 2)).cells[i % 2]? = some v := by
          obtain ⟨h31, h32⟩ := h3
          rw [List.getElem_map, List.getElem_range] at h31 h32
          rcases (show i % 2 = 0 ∨ i % 2 = 1 by omega) with e | e
          · rw [show i / 2 * 2 = i by omega, hv] at h31
            rw [e]; cases h31; rfl
          · rw [show i / 2 * 2 + 1 = i by omega, hv] at h32
            rw [e]; cases h32; rfl
        rw [h1] at h4
        cases h4
        refine ⟨by rw [Nat.add_comm]; exact h2, ?_⟩
        have h5 : v ∈ (g (i / 2)).cells := List.mem_of_getElem? h1
        simp only [CodeV.cells, List.mem_cons, List.not_mem_nil, or_false] at h5
        rcases h5 with h | h <;> (subst h; rfl)
      · rw [rowC_length, hlen]
        show 2 * len0 ≤ cap0 * 2
        omega
      · obtain ⟨v', h1, h2⟩ := hcellC i hi2
        have := (Array.getElem?_eq_some_iff.1 h2).1
        show i + off < C.size
        omega
      · have hi2 : i < cap0 * 2 := hi2
        have hfr : lo ≤ i + off ∧ i + off < hi := hfr
        have h6 := hfz blk (off + i) (by
          rw [hp]
          refine List.mem_append_left _ (List.mem_map.2 ⟨i, List.mem_range.2 ?_, rfl⟩)
          rw [hel, hr1]; omega)
        unfold World.frozen? at h6
        simp only at hC
        simp only [hC, Bool.and_eq_false_iff, decide_eq_false_iff_not] at h6
        omega
    · obtain ⟨i, hi, rfl⟩ := List.mem_map.1 hx
      have hi := List.mem_range.1 hi
      exact (hg i (by omega)).2

theorem walk {s : ByteArray} {v0 : Value} {d0 : DataW H} {p0 : List MemPlace} {base : Nat} (hs : s.size ≤ 140737488355328) (hok : Value.okWide Try.prog W .any base 50 v0) (h0 : DataW.Trod enc Try.prog W 0 (fun _ => true) true 50 v0 d0 p0) (hfz : W.noneFrozen p0) :
    Calls Try.prog 7 #[.string s, v0] W fun e W' => e = .returned (.bool true) ∧ Below W.heap.size W W' := by
  obtain ⟨l, nil, L, hv, hnil, hL, hwf⟩ := reads hok h0 hfz
  obtain ⟨⟨bs⟩⟩ := s
  have hs : bs.length ≤ 140737488355328 := hs
  by_cases hz : l.length = 0
  · exact calls_of_fn ok (once_ok bs l nil hnil rfl (fun h => absurd hz h) hwf hs) (start_abs none L) (start_rel none L (fun _ h => by cases h)) (.cons (.str _) (.cons hv .nil))
  · obtain ⟨h1, h2⟩ := hL hz
    refine calls_of_fn ok (once_ok bs l nil hnil rfl (fun _ => ?_) hwf hs) (start_abs (some (rowC l)) L) (start_rel (some (rowC l)) L (fun _ h => by cases h; exact h1)) (.cons (.str _) (.cons hv .nil))
    show (if (0 : Nat) = 0 then (some (rowC l)).map (fun cells => AO.row cells L.unit none) else none) = _
    rw [if_pos rfl, Option.map_some, h2]
end

theorem lifted (os : Os) (started : os.Started) (H : Type) (enc : TypeId × Value → H) :
    ReturnsInHanded {} Try.checked os 7 .any (Rows.codesOnceSpec.pre6 enc Try.prog Try.f7 Rows.codesOnceRow.domain false) (Rows.codesOnceSpec.post enc Try.prog Try.f7 false true false false) := by
  refine returnsInHanded_of_change_sized (C := Try.checked) own started (by kernel_rfl) Try.func7
    (ChangeSpec.witness6 (enc := enc) (C := Try.checked) false ⟨#[], #[.string ⟨#[]⟩, .slice none 0 0], []⟩ 8 (by kernel_rfl) (by kernel_rfl) (by kernel_rfl) (by kernel_rfl)) ?_
  intro W base args ds gs before hval hW hcnd hsz _
  have hW' := hW
  have hlt := hW.lt
  obtain ⟨p, q, hA0, hV, rfl, hfz, hnd⟩ := hW
  have hA : DataW.TrodAll enc Try.prog W 0 (fun _ => true) true Try.f7.params.toList args.toList ds p := hA0
  have hval : ∀ (j : Nat) t v, Try.f7.params[j]? = some t → args[j]? = some v → Value.okWide Try.prog W .any base t v := hval
  rw [Try.params7] at hA hval hsz
  obtain ⟨v0, v1, d0, d1, p0, p1, rfl, rfl, rfl, h0, h1⟩ := trodAll_two hA
  obtain ⟨rfl, rfl⟩ := trodVars_none hV
  clear hA0
  obtain ⟨s, rfl⟩ := okWide_string Try.underlying9 (hval 0 9 v0 rfl rfl)
  have h0' := h0
  obtain ⟨fuel, hf⟩ := h0'
  obtain ⟨s', hs', hx, _⟩ := DataW.trod_string Try.underlying9 hf
  simp only [Value.cells, List.cons.injEq, and_true, Value.string.injEq] at hs'
  subst hs'
  injection hx with hd hp
  subst hd hp
  simp only [List.append_nil, List.nil_append] at hW' hfz hlt
  have hss : s.size = s.data.toList.length := by simp
  have hb : s.data.toList.length ≤ reachBytes := sized_string hsz (j := 0) rfl rfl
  have hr := reachBytes_lt
  refine (walk (by omega) (hval 1 50 v1 rfl rfl) h1 hfz).mono fun e W' ⟨he, bel⟩ => ?_
  subst he
  exact ⟨_, rfl, _, _, _, [], _, [], hW', trodAll_mk1 (shut_bool Try.underlying4 _),
    trodAll_mk2 (bel.trod (by kernel_rfl) (by kernel_rfl) (of_decide_eq_true (by kernel_rfl)) h0 (fun x hx => by cases hx)) (bel.trod (by kernel_rfl) (by kernel_rfl) (of_decide_eq_true (by kernel_rfl)) h1 hlt), rfl, bel.frame _, fun h => by cases h⟩

theorem over : Rows.codesOnceRow.holds Try.pinned (OpenSpec.ofChange Rows.codesOnceSpec) :=
  OpenClaim.holds_of_wide 7 Try.f7 rfl rfl rfl rfl rfl rfl rfl ⟨rfl, rfl, rfl, rfl, rfl⟩ rfl rfl rfl rfl rfl (by kernel_rfl) Try.func7 (by kernel_rfl)
    (of_decide_eq_true (by kernel_rfl)) (by unfold Func.isWrapper; first | (rw [if_pos (by decide +kernel)]; kernel_rfl) | (rw [if_neg (by decide +kernel)]; exact ⟨rfl, rfl⟩))
    (fun os started H enc _ => lifted os started H enc)

theorem proved : Rows.CodesOnceSaid := over
#print axioms proved
end Go.Proofs.Ytlhfolmhgghjcaa.codesOnce
