/- The law BitioPacks answers true for every list of numbers, text, width and count that are together of bulk at most 1048576, and they read behind the call as they read before: from the contract of the logic to the statement. Condition: the bound of the second form. -/
import Derived.Test.YtlhfolmhgghjcaaXm3
import Derived.WalkKit
import Derived.ProofKit
import Derived.OpenShut
import Derived.JoinedCond
import Derived.ChangeOld
import Derived.Carry
import Derived.Lib.SmallJoins
namespace Go.Proofs.Ytlhfolmhgghjcaa.bitioPacks
open Go.ChangeShapes Go.WideShapes Go.ChangeAt Go.RowKit Go.Wvm Go.Deep Go.Joins
set_option linter.unusedVariables false
set_option maxRecDepth 100000

theorem own : ownKnob Try.prog.godebug = none := by kernel_rfl

theorem cells_of {w : World} {a : Addr} {k : Nat} {cs : List Value} (h : w.cells? 0 a k = some cs) : cs.length = k ∧ ∀ j, j < k → w.cell? (a.add j) = cs[j]? := by
  unfold World.cells? at h
  rw [if_pos (Nat.zero_le _)] at h
  refine ⟨by simpa using mapM_some_length h, fun j hj => ?_⟩
  exact mapM_some_get h j j (by simp [hj])

theorem rowU_gets (l : List Nat) (i : Nat) (h : i < l.length) : (l.map u64v)[i * 1]? = some (u64v (l[i]'h)) := by
  rw [Nat.mul_one, List.getElem?_map, List.getElem?_eq_getElem h]; rfl

section
variable {H : Type} {enc : TypeId × Value → H} {W : World}

theorem take_of {n : Nat} {cs : List Value} {x : DataW H × List MemPlace} (h : DataW.trod enc Try.prog W 0 (fun _ => true) true n 25 cs = some x) :
    ∃ y : Nat, cs = [u64v y] ∧ y < 2 ^ 64 := by
  obtain ⟨n1, e1, _, w1⟩ := DataW.trod_int Try.underlying25 h
  subst e1
  have k1 : 0 ≤ n1 ∧ n1 ≤ 18446744073709551615 := by simpa [Lit.wf, IntKind.min, IntKind.max, IntKind.signed, IntKind.bits] using w1
  obtain ⟨m1, rfl⟩ : ∃ m : Nat, n1 = m := ⟨n1.toNat, by omega⟩
  exact ⟨m1, rfl, by omega⟩
theorem wid_of {v : Value} {base : Nat} {d : DataW H} {p : List MemPlace} (hok : Value.okWide Try.prog W .any base 24 v) (h : DataW.Trod enc Try.prog W 0 (fun _ => true) true 24 v d p) :
    ∃ a b : Int, v = .agg ⟨[.int .i64 a, .int .i64 b]⟩ ∧ InR .i64 a ∧ InR .i64 b := by
  obtain ⟨cs, rfl, hsz⟩ := okWide_struct Try.underlying24 hok
  obtain ⟨fuel, h⟩ := h
  obtain ⟨y0, y1, m, hx, hl, h0, h1⟩ := trod_struct2 Try.underlying24 h
  obtain ⟨cs⟩ := cs
  have hc3 : Try.prog.cellsOf 3 = 1 := by kernel_rfl
  have hl : cs.length = 2 := hl.trans (by kernel_rfl)
  match cs, hl with
  | [c0, c1], _ =>
    rw [hc3] at h0 h1
    obtain ⟨n0, e0, _, w0⟩ := DataW.trod_int Try.underlying3 h0
    obtain ⟨n1, e1, _, w1⟩ := DataW.trod_int Try.underlying3 h1
    have f0 : c0 = .int .i64 n0 := (List.cons.inj (show [c0] = [.int .i64 n0] from e0)).1
    have f1 : c1 = .int .i64 n1 := (List.cons.inj (show [c1] = [.int .i64 n1] from e1)).1
    subst f0 f1
    have k0 : -9223372036854775808 ≤ n0 ∧ n0 ≤ 9223372036854775807 := by simpa [Lit.wf, IntKind.min, IntKind.max, IntKind.signed, IntKind.bits] using w0
    have k1 : -9223372036854775808 ≤ n1 ∧ n1 ≤ 9223372036854775807 := by simpa [Lit.wf, IntKind.min, IntKind.max, IntKind.signed, IntKind.bits] using w1
    exact ⟨n0, n1, rfl, by simp only [InR]; omega, by simp only [InR]; omega⟩

theorem one_le (d : DataW H) : 1 ≤ Rows.uptoBulk d := by
  cases d with
  | lit l => cases l <;> simp [Rows.uptoBulk]
  | nil => simp [Rows.uptoBulk]
  | ptr d => simp [Rows.uptoBulk]
  | slice elems spare => simp [Rows.uptoBulk]
  | agg parts => simp [Rows.uptoBulk]
  | iface t d => simp [Rows.uptoBulk]
  | map entries => simp [Rows.uptoBulk]
  | held h => simp [Rows.uptoBulk]
theorem length_le (l : List (DataW H)) : l.length ≤ Rows.uptoBulkAll l := by
  induction l with
  | nil => simp [Rows.uptoBulkAll]
  | cons x r ih => have := one_le x; simp only [Rows.uptoBulkAll, List.length_cons]; omega

/-- What is read of a slice of numbers. -/
theorem reads {v0 : Value} {d0 : DataW H} {p0 : List MemPlace} {base : Nat} (hok : Value.okWide Try.prog W .any base 22 v0) (h0 : DataW.Trod enc Try.prog W 0 (fun _ => true) true 22 v0 d0 p0) (hfz : W.noneFrozen p0) (hk : Rows.uptoBulk d0 ≤ 1048576) :
    ∃ (l : List Nat) (nil : Bool) (L : Wvm.Loc), VR (startMu L) (inV nil 0 l.length) v0 ∧ (nil = true → l.length = 0) ∧ (l.length ≠ 0 → LiesAt W (l.map u64v) L ∧ L.unit = 1) ∧ (∀ x ∈ l, x < 2 ^ 64) ∧ l.length ≤ 1048576 := by
  obtain ⟨fuel, h0⟩ := h0
  have hc : Try.prog.cellsOf 25 = 1 := by kernel_rfl
  obtain ⟨a0, len0, cap0, rfl⟩ := okWide_slice Try.underlying22 hok
  rcases DataW.trod_slice Try.underlying22 h0 with ⟨hcs, hx⟩ | ⟨a, len, cap, elems, rest, n, hfu, hcs, hx, hb, hl, hm, hel, hread, hrest, _⟩
  · simp only [Value.cells, List.cons.injEq, and_true] at hcs
    rw [hcs]
    exact ⟨[], true, ⟨0, 0, 0, 1⟩, .nils, fun _ => rfl, fun h => absurd rfl h, fun x h => (by cases h), by simp⟩
  · simp only [Value.cells, List.cons.injEq, and_true] at hcs
    injection hcs with e1 e2 e3
    subst e1 e2 e3
    injection hx with hd hp
    obtain ⟨hr1, hr2⟩ := hrest rfl
    rw [hc] at hread hr2 hp
    -- the place
    have hsp : a.spot = none := by
      have hok' : Cell.okWide Try.prog W .any base 22 (.slice (some a) len0 cap0) := by
        have := hok
        unfold Value.okWide at this
        rw [Try.underlying22] at this
        exact this
      unfold Cell.okWide at hok'
      rw [Try.underlying22] at hok'
      have h2 : Cell.ok Try.prog W .any base 22 (.slice (some a) len0 cap0) := hok'
      unfold Cell.ok at h2
      rw [Try.underlying22] at h2
      exact h2.2.2.2.1
    obtain ⟨blk, off, spot⟩ := a
    subst hsp
    have step : ∀ i, i < cap0 → ∃ cs x, W.cells? 0 ((⟨blk, off, none⟩ : Addr).add (i * 1)) 1 = some cs ∧ DataW.trod enc Try.prog W 0 (fun _ => true) true n 25 cs = some x := by
      intro i hi
      by_cases hil : i < len0
      · have h1 := hread i hil
        rw [List.getElem?_eq_getElem (by omega)] at h1
        simp only [Option.bind_eq_some_iff] at h1
        obtain ⟨cs, g1, g2⟩ := h1
        exact ⟨cs, _, g1, g2⟩
      · have h1 := hr2 (i - len0) (by omega)
        rw [List.getElem?_eq_getElem (by omega), show len0 + (i - len0) = i by omega] at h1
        simp only [Option.bind_eq_some_iff] at h1
        obtain ⟨cs, g1, g2⟩ := h1
        exact ⟨cs, _, g1, g2⟩
    have step2 : ∀ i, ∃ y : Nat, i < cap0 → (∀ j, j < 1 → W.cell? ⟨blk, off + i * 1 + j, none⟩ = [u64v y][j]?) ∧ y < 2 ^ 64 := by
      intro i
      by_cases hi : i < cap0
      · obtain ⟨cs, x, g1, g2⟩ := step i hi
        obtain ⟨y, rfl, q1⟩ := take_of g2
        refine ⟨y, fun _ => ⟨fun j hj => ?_, q1⟩⟩
        rw [← (cells_of g1).2 j hj]
        congr 1
        unfold Addr.add
        by_cases hz : i * 1 = 0
        · rw [if_pos hz]
          by_cases hj0 : j = 0
          · rw [if_pos hj0]; simp
          · rw [if_neg hj0]; simp; omega
        · rw [if_neg hz]
          by_cases hj0 : j = 0
          · rw [if_pos hj0]; simp; omega
          · rw [if_neg hj0]
      · exact ⟨0, fun h => absurd h hi⟩
    obtain ⟨g, hg⟩ := Classical.axiomOfChoice step2
    have hlen : ((List.range len0).map g).length = len0 := by simp
    refine ⟨(List.range len0).map g, false, ⟨blk, off, cap0 * 1, 1⟩, ?_, fun h => (by cases h), fun hz => ⟨?_, rfl⟩, fun x hx => ?_, ?_⟩
    · rw [hlen]
      have := VR.slice (μ := startMu ⟨blk, off, cap0 * 1, 1⟩) (b := 0) (o := 0) (o' := 0) (l := len0) (c := len0) (c' := cap0) (L := ⟨blk, off, cap0 * 1, 1⟩) (by unfold startMu; rw [if_pos rfl]) (fun _ => rfl) hl (Nat.le_refl _) ⟨fun h => (by cases h), fun _ => ⟨by simp, fun _ => by simp⟩⟩
      simpa [inV] using this
    · rw [hlen] at hz
      have hcell : ∀ i, i < cap0 * 1 → ∃ v, u64v (g i) = v ∧ W.cell? ⟨blk, off + i, none⟩ = some v := by
        intro i hi
        have h1 := (hg i (by omega)).1 0 (by omega)
        rw [show off + i * 1 + 0 = off + i by omega] at h1
        exact ⟨_, rfl, h1⟩
      obtain ⟨v, _, hv⟩ := hcell 0 (by omega)
      unfold World.cell? at hv
      split at hv
      case h_2 => cases hv
      rename_i C e fr hC
      have hcellC : ∀ i, i < cap0 * 1 → ∃ v, u64v (g i) = v ∧ C[off + i]? = some v := by
        intro i hi
        obtain ⟨v, h1, h2⟩ := hcell i hi
        unfold World.cell? at h2
        simp only at hC
        simp only [hC, Option.isSome_none, Bool.false_eq_true, if_false] at h2
        exact ⟨v, h1, h2⟩
      obtain ⟨lo, hi⟩ := fr
      refine ⟨C, e, lo, hi, hC, fun i v hv => ?_, ?_, fun i hi2 => ⟨?_, fun hfr => ?_⟩⟩
      · have hi3 : i < (((List.range len0).map g).map u64v).length := (List.getElem?_eq_some_iff.1 hv).1
        rw [List.length_map, hlen] at hi3
        obtain ⟨v', h1, h2⟩ := hcellC i (by omega)
        have h4 : v = u64v (g i) := by
          rw [List.getElem?_map, List.getElem?_eq_getElem (by rw [hlen]; exact hi3), List.getElem_map, List.getElem_range] at hv
          exact (Option.some.inj hv).symm
        rw [← h1] at h2
        subst h4
        exact ⟨by rw [Nat.add_comm]; exact h2, rfl⟩
      · rw [List.length_map, hlen]
        show len0 ≤ cap0 * 1
        omega
      · obtain ⟨v', h1, h2⟩ := hcellC i hi2
        have := (Array.getElem?_eq_some_iff.1 h2).1
        show i + off < C.size
        omega
      · have hi2 : i < cap0 * 1 := hi2
        have hfr : lo ≤ i + off ∧ i + off < hi := hfr
        have h6 := hfz blk (off + i) (by
          rw [hp]
          refine List.mem_append_left _ (List.mem_map.2 ⟨i, List.mem_range.2 ?_, rfl⟩)
          rw [hel, hr1]; omega)
        unfold World.frozen? at h6
        simp only at hC
        simp only [hC, Bool.and_eq_false_iff, decide_eq_false_iff_not] at h6
        omega
    · obtain ⟨i, hi, rfl⟩ := List.mem_map.1 hx
      have hi := List.mem_range.1 hi
      exact (hg i (by omega)).2
    · have hs := length_le (elems.map (·.1))
      rw [List.length_map, hel] at hs
      rw [hd] at hk
      simp only [Rows.uptoBulk] at hk
      rw [hlen]
      omega

theorem walk {s : ByteArray} {v0 : Value} {n k : Int} {d0 : DataW H} {p0 : List MemPlace} {base : Nat} (hs : s.size ≤ 1048576) (hn : InR .i64 n) (hk2 : InR .i64 k) (hok : Value.okWide Try.prog W .any base 22 v0) (h0 : DataW.Trod enc Try.prog W 0 (fun _ => true) true 22 v0 d0 p0) (hfz : W.noneFrozen p0) (hk : Rows.uptoBulk d0 ≤ 1048576) :
    Calls Try.prog 3 #[v0, .string s, .agg ⟨[.int .i64 n, .int .i64 k]⟩] W fun e W' => e = .returned (.bool true) ∧ Below W.heap.size W W' := by
  obtain ⟨l, nil, L, hv, hnil, hL, hwf, hlen⟩ := reads hok h0 hfz hk
  obtain ⟨⟨bs⟩⟩ := s
  have hs : bs.length ≤ 1048576 := hs
  have hwf' : ∀ i (h : i < l.length), l[i]'h < 2 ^ 64 := fun i h => hwf _ (List.getElem_mem h)
  have hw : ∀ L, LR (startMu L) [.int .i64 n, .int .i64 k] [.int .i64 n, .int .i64 k] := fun L => .cons (.int _ _) (.cons (.int _ _) .nil)
  by_cases hz : l.length = 0
  · exact calls_of_fn ok (packs_ok l bs nil hnil rfl (fun h => absurd hz h) hwf' hn hk2 hs hlen) (start_abs none L) (start_rel none L (fun _ h => by cases h)) (.cons hv (.cons (.str _) (.cons (VR.aggL (hw L)) .nil)))
  · obtain ⟨h1, h2⟩ := hL hz
    refine calls_of_fn ok (packs_ok l bs nil hnil rfl (fun _ => ?_) hwf' hn hk2 hs hlen) (start_abs (some (l.map u64v)) L) (start_rel (some (l.map u64v)) L (fun _ h => by cases h; exact h1)) (.cons hv (.cons (.str _) (.cons (VR.aggL (hw L)) .nil)))
    show (if (0 : Nat) = 0 then (some (l.map u64v)).map (fun cells => AO.row cells L.unit none) else none) = _
    rw [if_pos rfl, Option.map_some, h2]
end

theorem contract (H : Type) (enc : TypeId × Value → H) (W : World) (base : Nat) (args : Array Value) (ds gs : List (DataW H)) (before : List MemPlace)
    (hval : ∀ (j : Nat) t v, Try.f3.params[j]? = some t → args[j]? = some v → Value.okWide Try.prog W .any base t v)
    (hW : DataW.Whole enc Try.prog Try.f3.params.toList Rows.bitioPacksSpec.vars false W args.toList ds gs before) (hk : Rows.uptoSmall H (ds ++ gs) = true) :
    Calls Try.prog 3 args W fun e W' => ∃ v, e = .returned v ∧ Rows.bitioPacksSpec.post enc Try.prog Try.f3 false true false false W args v W' := by
  have hW' := hW
  have hlt := hW.lt
  obtain ⟨p, q, hA0, hV, rfl, hfz, hnd⟩ := hW
  have hA : DataW.TrodAll enc Try.prog W 0 (fun _ => true) true Try.f3.params.toList args.toList ds p := hA0
  rw [Try.params3] at hA hval
  obtain ⟨v0, v1, v2, d0, d1, d2, p0, p1, p2, rfl, rfl, rfl, h0, h1, h2⟩ := trodAll_three hA
  obtain ⟨rfl, rfl⟩ := trodVars_none hV
  clear hA0
  obtain ⟨s, rfl⟩ := okWide_string Try.underlying9 (hval 1 9 v1 rfl rfl)
  obtain ⟨n, k, rfl, hn, hk2⟩ := wid_of (hval 2 24 v2 rfl rfl) h2
  have h1' := h1
  obtain ⟨fuel, hf⟩ := h1'
  obtain ⟨s', hs', hx, _⟩ := DataW.trod_string Try.underlying9 hf
  simp only [Value.cells, List.cons.injEq, and_true, Value.string.injEq] at hs'
  subst hs'
  injection hx with hd hp
  subst hd hp
  have hb := of_decide_eq_true hk
  simp only [List.append_nil, Rows.uptoBulkAll, Rows.uptoBulk] at hb
  have hss : s.size = s.data.toList.length := by simp
  refine (walk (by omega) hn hk2 (hval 0 22 v0 rfl rfl) h0 (fun b o hm => hfz b o (by simp [hm])) (by omega)).mono fun e W' ⟨he, bel⟩ => ?_
  subst he
  exact ⟨_, rfl, _, _, _, [], _, [], hW', trodAll_mk1 (shut_bool Try.underlying4 _),
    trodAll_mk3 (bel.trod (by kernel_rfl) (by kernel_rfl) (of_decide_eq_true (by kernel_rfl)) h0 (fun x hx => hlt x (by simp [hx]))) (bel.trod (by kernel_rfl) (by kernel_rfl) (of_decide_eq_true (by kernel_rfl)) h1 (fun x hx => by cases hx)) (bel.trod (by kernel_rfl) (by kernel_rfl) (of_decide_eq_true (by kernel_rfl)) h2 (fun x hx => hlt x (by simp [hx]))), rfl, bel.frame _, fun h => by cases h⟩

set_option maxRecDepth 100000 in
theorem lifted (os : Os) (started : os.Started) (H : Type) (enc : TypeId × Value → H) (F : Stop.Interp) :
    ReturnsInHanded {} Try.checked os 3 .any ((Rows.OpenSpec.upto Rows.bitioPacksSpec).pre6 enc Try.prog Try.f3 Rows.bitioPacksUptoRow.domain false) (((Rows.OpenSpec.upto Rows.bitioPacksSpec).at F).post enc Try.prog Try.f3 false true false false) := by
  refine returnsInHanded_of_cond (C := Try.checked) (s := Rows.OpenSpec.upto Rows.bitioPacksSpec) (k := Rows.uptoSmall) rfl own started (by kernel_rfl) Try.func3
    (OpenSpec.witness (enc := enc) (C := Try.checked) (s := Rows.OpenSpec.upto Rows.bitioPacksSpec) (k := Rows.uptoSmall) rfl false ⟨#[], #[.slice none 0 0, .string ⟨#[]⟩, .agg ⟨[.int .i64 0, .int .i64 0]⟩], []⟩ 8 (by kernel_rfl) (by kernel_rfl) (by kernel_rfl)
      (x := ([.nil, .lit (.string []), .agg [.lit (.int .i64 0), .lit (.int .i64 0)]], [], [])) (by kernel_rfl) rfl (by kernel_rfl)) ?_
  intro W base args ds gs before hval hW _ hk _
  exact contract H enc W base args ds gs before hval hW hk

theorem over : Rows.bitioPacksUptoRow.holds Try.pinned (Rows.OpenSpec.upto Rows.bitioPacksSpec) :=
  OpenClaim.holds_of_cond 3 Try.f3 rfl rfl rfl rfl rfl rfl rfl ⟨rfl, rfl, rfl, rfl, rfl⟩ rfl rfl rfl rfl rfl (by kernel_rfl) Try.func3 (by kernel_rfl)
    (of_decide_eq_true (by kernel_rfl)) (by unfold Func.isWrapper; first | (rw [if_pos (by decide +kernel)]; kernel_rfl) | (rw [if_neg (by decide +kernel)]; exact ⟨rfl, rfl⟩))
    (fun os started H enc _ F => lifted os started H enc F)

theorem proved : Rows.BitioPacksUptoSaid := over
#print axioms proved
end Go.Proofs.Ytlhfolmhgghjcaa.bitioPacks
