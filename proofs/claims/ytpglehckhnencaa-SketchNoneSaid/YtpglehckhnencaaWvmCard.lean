/- A package-level table of integers, as a card lays it, is what the small machine is told of it. -/
import Derived.Test.YtpglehckhnencaaWvmFin
import Derived.ProofKit
import Derived.OpenShut
import Derived.LaidMore
set_option linter.unusedSimpArgs false
set_option linter.unusedVariables false
namespace Go.Wvm
open Go.ChangeShapes Go.WideShapes Go.ChangeAt Go.RowKit

section
variable {P : Program} {W : World} {H : Type} {enc : TypeId × Value → H} {base : Nat} {spare : Nat → Bool} {held : Bool}

theorem cells_of_data {t e : TypeId} {k : IntKind} {ns : List Int} (he : P.underlying e = some (.int k)) (hs : P.cellsOf e = 1) (ht : P.underlying t = some (.array ns.length e)) (hc : P.cellsOf t = ns.length)
    {fuel : Nat} {cs : List Value} {ps : List MemPlace} (h : DataW.trod enc P W base spare held fuel t cs = some (.agg (ns.map fun n => .lit (.int k n)), ps)) : cs = ns.map fun n => .int k n := by
  obtain ⟨xs, m, _, hx, hl, hn, hel⟩ := DataW.trod_array ht h
  simp only [Prod.mk.injEq, DataW.agg.injEq] at hx
  have hx1 := hx.1
  apply List.ext_getElem?
  intro i
  by_cases hi : i < ns.length
  · have h1 := hel i hi
    rw [hs, Nat.mul_one] at h1
    have hxi : xs[i]? = some xs[i] := List.getElem?_eq_getElem (by omega)
    rw [hxi] at h1
    obtain ⟨n, e1, e2, _⟩ := DataW.trod_int he h1
    have h2 : (xs.map (·.1))[i]? = some (.lit (.int k n)) := by rw [List.getElem?_map, hxi]; simp [e2]
    rw [← hx1, List.getElem?_map, List.getElem?_eq_getElem hi] at h2
    simp only [Option.map_some, Option.some.injEq, DataW.lit.injEq, Lit.int.injEq, true_and] at h2
    have h3 : cs[i]? = some (.int k n) := by
      have := congrArg (fun l : List Value => l[0]?) e1
      simpa [List.getElem?_take, List.getElem?_drop] using this
    rw [h3, List.getElem?_map, List.getElem?_eq_getElem hi, ← h2]; rfl
  · rw [List.getElem?_eq_none (by omega), List.getElem?_eq_none (by simpa using hi)]

theorem heap_of_var {name : String} {g : Nat} {cs : Array Value} (hg : P.globalNamed name = some g) (h : W.var? P name = some cs) : ∃ e fz, W.heap[g]? = some (.cells cs e fz) := by
  simp only [World.var?, hg, Option.bind_some] at h
  split at h
  · rename_i cs' e fz hh
    cases h
    exact ⟨e, fz, hh⟩
  · cases h

/-- One table is known. -/
theorem globOk_one {g : Nat} {l : List Value} (hf : l.all (flat 10) = true) (h : ∃ e fz, W.heap[g]? = some (.cells ⟨l⟩ e fz)) : GlobOk (Tr.set .nil g l) W := by
  intro g' l' hg
  rw [Tr.get_set, Tr.get_nil] at hg
  by_cases e : g' = g
  · rw [if_pos e] at hg
    cases hg
    rw [e]
    exact ⟨fun v hv => List.all_eq_true.1 hf v hv, h⟩
  · rw [if_neg e] at hg; cases hg

end
end Go.Wvm
