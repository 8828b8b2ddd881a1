/- The law BitioWrites answers true for every list of writes that is of bulk at most 1048576, and the list reads behind the call as it read before: from the contract of the logic to the statement. Condition: the bound of the second form. -/
import Derived.Test.YtncpdgjlhdbdpaaXMain
import Derived.WalkKit
import Derived.ProofKit
import Derived.OpenShut
import Derived.JoinedCond
import Derived.ChangeOld
import Derived.Carry
import Derived.Lib.SmallJoins
namespace Go.Proofs.Ytncpdgjlhdbdpaa.bitioWrites
open Go.ChangeShapes Go.WideShapes Go.ChangeAt Go.RowKit Go.Wvm Go.Deep Go.Joins
set_option linter.unusedVariables false

theorem own : ownKnob Try.prog.godebug = none := by kernel_rfl

theorem cells_of {w : World} {a : Addr} {k : Nat} {cs : List Value} (h : w.cells? 0 a k = some cs) : cs.length = k ∧ ∀ j, j < k → w.cell? (a.add j) = cs[j]? := by
  unfold World.cells? at h
  rw [if_pos (Nat.zero_le _)] at h
  refine ⟨by simpa using mapM_some_length h, fun j hj => ?_⟩
  exact mapM_some_get h j j (by simp [hj])

section
variable {H : Type} {enc : TypeId × Value → H} {W : World}

theorem put_of {n : Nat} {cs : List Value} {x : DataW H × List MemPlace} (h : DataW.trod enc Try.prog W 0 (fun _ => true) true n 32 cs = some x) :
    ∃ y : PutV, cs = y.cells ∧ (InR .i64 y.kind ∧ y.v < 2 ^ 64 ∧ InR .i64 y.n) ∧ y.text.length + 1 ≤ Rows.uptoBulk x.1 := by
  obtain ⟨y0, y1, y2, y3, m, hx, hl, h0, h1, h2, h3⟩ := trod_struct4 Try.underlying32 h
  subst hx
  have hl : cs.length = 4 := hl.trans (by kernel_rfl)
  have hc3 : Try.prog.cellsOf 3 = 1 := by kernel_rfl
  have hc30 : Try.prog.cellsOf 30 = 1 := by kernel_rfl
  have hc9 : Try.prog.cellsOf 9 = 1 := by kernel_rfl
  match cs, hl with
  | [c0, c1, c2, c3], _ =>
    rw [hc3] at h0 h2
    rw [hc30] at h1
    rw [hc9] at h3
    obtain ⟨n0, e0, _, w0⟩ := DataW.trod_int Try.underlying3 h0
    obtain ⟨n1, e1, _, w1⟩ := DataW.trod_int Try.underlying30 h1
    obtain ⟨n2, e2, _, w2⟩ := DataW.trod_int Try.underlying3 h2
    obtain ⟨s3, e3, rfl, w3⟩ := DataW.trod_string Try.underlying9 h3
    simp only [List.drop_zero, List.drop_succ_cons, List.take_succ_cons, List.take_zero, List.cons.injEq, and_true] at e0 e1 e2 e3
    subst e0 e1 e2 e3
    have k0 : -9223372036854775808 ≤ n0 ∧ n0 ≤ 9223372036854775807 := by simpa [Lit.wf, IntKind.min, IntKind.max, IntKind.signed, IntKind.bits] using w0
    have k1 : 0 ≤ n1 ∧ n1 ≤ 18446744073709551615 := by simpa [Lit.wf, IntKind.min, IntKind.max, IntKind.signed, IntKind.bits] using w1
    have k2 : -9223372036854775808 ≤ n2 ∧ n2 ≤ 9223372036854775807 := by simpa [Lit.wf, IntKind.min, IntKind.max, IntKind.signed, IntKind.bits] using w2
    refine ⟨⟨n0, n1.toNat, n2, s3.data.toList⟩, ?_, ⟨k0, ?_, k2⟩, ?_⟩
    · simp only [PutV.cells]
      rw [Int.toNat_of_nonneg k1.1]
    · show n1.toNat < 2 ^ 64
      omega
    · simp only [Rows.uptoBulk, Rows.uptoBulkAll]
      omega

theorem bulk_le {d : DataW H} {l : List (DataW H)} (h : d ∈ l) : Rows.uptoBulk d ≤ Rows.uptoBulkAll l := by
  induction l with
  | nil => cases h
  | cons x r ih =>
    simp only [Rows.uptoBulkAll]
    cases List.mem_cons.1 h with
    | inl e => subst e; omega
    | inr e => have := ih e; omega

theorem sum_le (l : List PutV) (ds : List (DataW H)) (hl : l.length = ds.length) (h : ∀ i (h1 : i < l.length) (h2 : i < ds.length), (l[i]'h1).text.length + 1 ≤ Rows.uptoBulk (ds[i]'h2)) : textSum l + l.length ≤ Rows.uptoBulkAll ds := by
  induction l generalizing ds with
  | nil => simp [textSum]
  | cons x l ih =>
    cases ds with
    | nil => simp at hl
    | cons d ds =>
      have h0 := h 0 (by simp) (by simp)
      have h1 := ih ds (by simpa using hl) (fun i h1 h2 => h (i + 1) (Nat.succ_lt_succ h1) (Nat.succ_lt_succ h2))
      simp only [List.getElem_cons_zero] at h0
      simp only [Rows.uptoBulkAll, textSum, List.map_cons, List.sum_cons, List.length_cons] at h1 ⊢
      omega

/-- What is read of a slice of writes. -/
theorem reads {v0 : Value} {d0 : DataW H} {p0 : List MemPlace} {base : Nat} (hok : Value.okWide Try.prog W .any base 22 v0) (h0 : DataW.Trod enc Try.prog W 0 (fun _ => true) true 22 v0 d0 p0) (hfz : W.noneFrozen p0) (hk : Rows.uptoBulk d0 ≤ 1048576) :
    ∃ (l : List PutV) (nil : Bool) (L : Wvm.Loc), VR (startMu L) (inV nil 0 l.length) v0 ∧ (nil = true → l.length = 0) ∧ (l.length ≠ 0 → LiesAt W (rowP l) L ∧ L.unit = 4) ∧ (∀ x ∈ l, InR .i64 x.kind ∧ x.v < 2 ^ 64 ∧ InR .i64 x.n) ∧ textSum l ≤ 1048576 ∧ l.length ≤ 1048576 := by
  obtain ⟨fuel, h0⟩ := h0
  have hc : Try.prog.cellsOf 32 = 4 := by kernel_rfl
  obtain ⟨a0, len0, cap0, rfl⟩ := okWide_slice Try.underlying22 hok
  rcases DataW.trod_slice Try.underlying22 h0 with ⟨hcs, hx⟩ | ⟨a, len, cap, elems, rest, n, hfu, hcs, hx, hb, hl, hm, hel, hread, hrest, _⟩
  · simp only [Value.cells, List.cons.injEq, and_true] at hcs
    rw [hcs]
    exact ⟨[], true, ⟨0, 0, 0, 1⟩, .nils, fun _ => rfl, fun h => absurd rfl h, fun x h => (by cases h), by simp [textSum], by simp⟩
  · simp only [Value.cells, List.cons.injEq, and_true] at hcs
    injection hcs with e1 e2 e3
    subst e1 e2 e3
    injection hx with hd hp
    obtain ⟨hr1, hr2⟩ := hrest rfl
    rw [hc] at hread hr2 hp
    -- the place
    have hsp : a.spot = none := by
      have hok' : Cell.okWide Try.prog W .any base 22 (.slice (some a) len0 cap0) := by
        have := hok
        unfold Value.okWide at this
        rw [Try.underlying22] at this
        exact this
      unfold Cell.okWide at hok'
      rw [Try.underlying22] at hok'
      have h2 : Cell.ok Try.prog W .any base 22 (.slice (some a) len0 cap0) := hok'
      unfold Cell.ok at h2
      rw [Try.underlying22] at h2
      exact h2.2.2.2.1
    obtain ⟨blk, off, spot⟩ := a
    subst hsp
    have step : ∀ i, i < cap0 → ∃ cs x, W.cells? 0 ((⟨blk, off, none⟩ : Addr).add (i * 4)) 4 = some cs ∧ DataW.trod enc Try.prog W 0 (fun _ => true) true n 32 cs = some x ∧ ∀ h : i < elems.length, x = elems[i] := by
      intro i hi
      by_cases hil : i < len0
      · have h1 := hread i hil
        rw [List.getElem?_eq_getElem (by omega)] at h1
        simp only [Option.bind_eq_some_iff] at h1
        obtain ⟨cs, g1, g2⟩ := h1
        exact ⟨cs, _, g1, g2, fun _ => rfl⟩
      · have h1 := hr2 (i - len0) (by omega)
        rw [List.getElem?_eq_getElem (by omega), show len0 + (i - len0) = i by omega] at h1
        simp only [Option.bind_eq_some_iff] at h1
        obtain ⟨cs, g1, g2⟩ := h1
        exact ⟨cs, _, g1, g2, fun h => by omega⟩
    have step2 : ∀ i, ∃ y : PutV, i < cap0 → (∀ j, j < 4 → W.cell? ⟨blk, off + i * 4 + j, none⟩ = y.cells[j]?) ∧ (InR .i64 y.kind ∧ y.v < 2 ^ 64 ∧ InR .i64 y.n) ∧ ∀ h : i < elems.length, y.text.length + 1 ≤ Rows.uptoBulk elems[i].1 := by
      intro i
      by_cases hi : i < cap0
      · obtain ⟨cs, x, g1, g2, g3⟩ := step i hi
        obtain ⟨y, rfl, q1, q2⟩ := put_of g2
        refine ⟨y, fun _ => ⟨fun j hj => ?_, q1, fun h => by rw [← g3 h]; exact q2⟩⟩
        rw [← (cells_of g1).2 j hj]
        congr 1
        unfold Addr.add
        by_cases hz : i * 4 = 0
        · rw [if_pos hz]
          by_cases hj0 : j = 0
          · rw [if_pos hj0]; simp
          · rw [if_neg hj0]; simp; omega
        · rw [if_neg hz]
          by_cases hj0 : j = 0
          · rw [if_pos hj0]; simp; omega
          · rw [if_neg hj0]
      · exact ⟨⟨0, 0, 0, []⟩, fun h => absurd h hi⟩
    obtain ⟨g, hg⟩ := Classical.axiomOfChoice step2
    have hlen : ((List.range len0).map g).length = len0 := by simp
    refine ⟨(List.range len0).map g, false, ⟨blk, off, cap0 * 4, 4⟩, ?_, fun h => (by cases h), fun hz => ⟨?_, rfl⟩, fun x hx => ?_, ?_⟩
    · rw [hlen]
      have := VR.slice (μ := startMu ⟨blk, off, cap0 * 4, 4⟩) (b := 0) (o := 0) (o' := 0) (l := len0) (c := len0) (c' := cap0) (L := ⟨blk, off, cap0 * 4, 4⟩) (by unfold startMu; rw [if_pos rfl]) (fun _ => rfl) hl (Nat.le_refl _) ⟨fun h => (by cases h), fun _ => ⟨by simp, fun _ => by simp⟩⟩
      simpa [inV] using this
    · rw [hlen] at hz
      have hcell : ∀ i, i < cap0 * 4 → ∃ v, (g (i / 4)).cells[i % 4]? = some v ∧ W.cell? ⟨blk, off + i, none⟩ = some v := by
        intro i hi
        have h1 := (hg (i / 4) (by omega)).1 (i % 4) (by omega)
        rw [show off + i / 4 * 4 + i % 4 = off + i by omega] at h1
        have h2 : i % 4 < (g (i / 4)).cells.length := by simp only [PutV.cells, List.length_cons, List.length_nil]; omega
        rw [List.getElem?_eq_getElem h2] at h1
        exact ⟨_, List.getElem?_eq_getElem h2, h1⟩
      obtain ⟨v, _, hv⟩ := hcell 0 (by omega)
      unfold World.cell? at hv
      split at hv
      case h_2 => cases hv
      rename_i C e fr hC
      have hcellC : ∀ i, i < cap0 * 4 → ∃ v, (g (i / 4)).cells[i % 4]? = some v ∧ C[off + i]? = some v := by
        intro i hi
        obtain ⟨v, h1, h2⟩ := hcell i hi
        unfold World.cell? at h2
        simp only at hC
        simp only [hC, Option.isSome_none, Bool.false_eq_true, if_false] at h2
        exact ⟨v, h1, h2⟩
      obtain ⟨lo, hi⟩ := fr
      refine ⟨C, e, lo, hi, hC, fun i v hv => ?_, ?_, fun i hi2 => ⟨?_, fun hfr => ?_⟩⟩
      · have hi3 : i < (rowP ((List.range len0).map g)).length := (List.getElem?_eq_some_iff.1 hv).1
        rw [rowP_length, hlen] at hi3
        obtain ⟨v', h1, h2⟩ := hcellC i (by omega)
        have h3 := rowP_get ((List.range len0).map g) (i / 4) (by rw [hlen]; omega)
        have h4 : (((rowP ((List.range len0).map g)).drop (i / 4 * 4)).take 4)[i % 4]? = some v := by
          rw [List.getElem?_take, if_pos (by omega), List.getElem?_drop, show i / 4 * 4 + i % 4 = i by omega]; exact hv
        rw [h3, List.getElem_map, List.getElem_range, h1] at h4
        cases h4
        refine ⟨by rw [Nat.add_comm]; exact h2, ?_⟩
        have h5 : v ∈ (g (i / 4)).cells := List.mem_of_getElem? h1
        simp only [PutV.cells, List.mem_cons, List.not_mem_nil, or_false] at h5
        rcases h5 with h | h | h | h <;> (subst h; rfl)
      · rw [rowP_length, hlen]
        show 4 * len0 ≤ cap0 * 4
        omega
      · obtain ⟨v', h1, h2⟩ := hcellC i hi2
        have := (Array.getElem?_eq_some_iff.1 h2).1
        show i + off < C.size
        omega
      · have hi2 : i < cap0 * 4 := hi2
        have hfr : lo ≤ i + off ∧ i + off < hi := hfr
        have h6 := hfz blk (off + i) (by
          rw [hp]
          refine List.mem_append_left _ (List.mem_map.2 ⟨i, List.mem_range.2 ?_, rfl⟩)
          rw [hel, hr1]; omega)
        unfold World.frozen? at h6
        simp only at hC
        simp only [hC, Bool.and_eq_false_iff, decide_eq_false_iff_not] at h6
        omega
    · obtain ⟨i, hi, rfl⟩ := List.mem_map.1 hx
      have hi := List.mem_range.1 hi
      exact (hg i (by omega)).2.1
    · have hs := sum_le ((List.range len0).map g) (elems.map (·.1)) (by simp [hel]) (fun i h1 h2 => by
        simp only [List.getElem_map, List.getElem_range]
        have hi : i < len0 := by simpa using h1
        exact (hg i (by omega)).2.2 (by omega))
      rw [hd] at hk
      simp only [Rows.uptoBulk] at hk
      omega

theorem walk {v0 : Value} {d0 : DataW H} {p0 : List MemPlace} {base : Nat} (hok : Value.okWide Try.prog W .any base 22 v0) (h0 : DataW.Trod enc Try.prog W 0 (fun _ => true) true 22 v0 d0 p0) (hfz : W.noneFrozen p0) (hk : Rows.uptoBulk d0 ≤ 1048576) :
    Calls Try.prog 3 #[v0] W fun e W' => e = .returned (.bool true) ∧ Below W.heap.size W W' := by
  obtain ⟨l, nil, L, hv, hnil, hL, hwf, hsum, hlen⟩ := reads hok h0 hfz hk
  by_cases hz : l.length = 0
  · exact calls_of_fn ok (main_ok l nil hnil rfl (fun h => absurd hz h) hwf hsum hlen) (start_abs none L) (start_rel none L (fun _ h => by cases h)) (.cons hv .nil)
  · obtain ⟨h1, h2⟩ := hL hz
    refine calls_of_fn ok (main_ok l nil hnil rfl (fun _ => ?_) hwf hsum hlen) (start_abs (some (rowP l)) L) (start_rel (some (rowP l)) L (fun _ h => by cases h; exact h1)) (.cons hv .nil)
    show (if (0 : Nat) = 0 then (some (rowP l)).map (fun cells => AO.row cells L.unit none) else none) = _
    rw [if_pos rfl, Option.map_some, h2]
end

theorem contract (H : Type) (enc : TypeId × Value → H) (W : World) (base : Nat) (args : Array Value) (ds gs : List (DataW H)) (before : List MemPlace)
    (hval : ∀ (j : Nat) t v, Try.f3.params[j]? = some t → args[j]? = some v → Value.okWide Try.prog W .any base t v)
    (hW : DataW.Whole enc Try.prog Try.f3.params.toList Rows.bitioWritesSpec.vars false W args.toList ds gs before) (hk : Rows.uptoSmall H (ds ++ gs) = true) :
    Calls Try.prog 3 args W fun e W' => ∃ v, e = .returned v ∧ Rows.bitioWritesSpec.post enc Try.prog Try.f3 false true false false W args v W' := by
  have hW' := hW
  have hlt := hW.lt
  obtain ⟨p, q, hA0, hV, rfl, hfz, hnd⟩ := hW
  have hA : DataW.TrodAll enc Try.prog W 0 (fun _ => true) true Try.f3.params.toList args.toList ds p := hA0
  rw [Try.params3] at hA hval
  obtain ⟨v0, vs0, d0, ds0, p0, q0, hargs, rfl, rfl, h0, r0⟩ := trodAll_cons hA
  obtain ⟨rfl, rfl, rfl⟩ := trodAll_nil r0
  obtain rfl : args = #[v0] := by cases args; simp_all
  obtain ⟨rfl, rfl⟩ := trodVars_none hV
  clear hA0
  simp only [List.append_nil] at hW' hfz hlt
  have hb : Rows.uptoBulk d0 ≤ 1048576 := by
    have h := of_decide_eq_true hk
    simp only [List.append_nil, Rows.uptoBulkAll] at h
    omega
  refine (walk (hval 0 22 v0 rfl rfl) h0 hfz hb).mono fun e W' ⟨he, bel⟩ => ?_
  subst he
  exact ⟨_, rfl, _, _, _, [], _, [], hW', trodAll_mk1 (shut_bool Try.underlying4 _), trodAll_mk1 (bel.trod (by kernel_rfl) (by kernel_rfl) (of_decide_eq_true (by kernel_rfl)) h0 hlt), rfl, bel.frame _, fun h => by cases h⟩

set_option maxRecDepth 100000 in
theorem lifted (os : Os) (started : os.Started) (H : Type) (enc : TypeId × Value → H) (F : Stop.Interp) :
    ReturnsInHanded {} Try.checked os 3 .any ((Rows.OpenSpec.upto Rows.bitioWritesSpec).pre6 enc Try.prog Try.f3 Rows.bitioWritesUptoRow.domain false) (((Rows.OpenSpec.upto Rows.bitioWritesSpec).at F).post enc Try.prog Try.f3 false true false false) := by
  refine returnsInHanded_of_cond (C := Try.checked) (s := Rows.OpenSpec.upto Rows.bitioWritesSpec) (k := Rows.uptoSmall) rfl own started (by kernel_rfl) Try.func3
    (OpenSpec.witness (enc := enc) (C := Try.checked) (s := Rows.OpenSpec.upto Rows.bitioWritesSpec) (k := Rows.uptoSmall) rfl false ⟨#[], #[.slice none 0 0], []⟩ 8 (by kernel_rfl) (by kernel_rfl) (by kernel_rfl)
      (x := ([.nil], [], [])) (by kernel_rfl) rfl (by kernel_rfl)) ?_
  intro W base args ds gs before hval hW _ hk _
  exact contract H enc W base args ds gs before hval hW hk

theorem over : Rows.bitioWritesUptoRow.holds Try.pinned (Rows.OpenSpec.upto Rows.bitioWritesSpec) :=
  OpenClaim.holds_of_cond 3 Try.f3 rfl rfl rfl rfl rfl rfl rfl ⟨rfl, rfl, rfl, rfl, rfl⟩ rfl rfl rfl rfl rfl (by kernel_rfl) Try.func3 (by kernel_rfl)
    (of_decide_eq_true (by kernel_rfl)) (by unfold Func.isWrapper; first | (rw [if_pos (by decide +kernel)]; kernel_rfl) | (rw [if_neg (by decide +kernel)]; exact ⟨rfl, rfl⟩))
    (fun os started H enc _ F => lifted os started H enc F)

theorem proved : Rows.BitioWritesUptoSaid := over
#print axioms proved
end Go.Proofs.Ytncpdgjlhdbdpaa.bitioWrites
