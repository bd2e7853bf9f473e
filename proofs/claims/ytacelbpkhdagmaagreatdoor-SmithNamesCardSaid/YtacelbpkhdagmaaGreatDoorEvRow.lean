/- The reckoner, met with a law's row: what a listed table gives. No conditions. -/
import Derived.Test.YtacelbpkhdagmaaGreatDoorEvP33
import Derived.Lib.LaidTab
import Derived.Stop.LaidErr
import Derived.KernelRfl
namespace Go.Proofs.YtacelbpkhdagmaaGreatDoor.Ev
open Go Go.RowKit

/-- A table of integers that a row lists first lies whole in its variable's block. -/
theorem row_of_head {P : Program} {W : World} {name : String} {k : IntKind} (zs : List Int) {rest : List (String × DataW Unit)} {g : Nat} {t e : TypeId} {n : Nat}
    (hg : P.globalNamed name = some g) (hty : (P.globals[g]?).map (·.type) = some t) (ht : P.underlying t = some (.array n e)) (he : P.underlying e = some (.int k)) (hce : P.cellsOf e = 1) (hct : P.cellsOf t = n) (hz : 0 < zs.length)
    (h : laidMet P ((name, Lib.tabData k zs) :: rest) W) : ∃ e', W.heap[g]? = some (.cells ⟨zs.map fun z => Value.int k z⟩ e' (0, 0)) := by
  have hT := Lib.tabIs_of_head hg hty ht he hce hct h
  obtain ⟨ps, ⟨g', t', cs, fuel, p, q, hg', ht', hvar, hd, hq, rfl⟩, hnd, hps⟩ := h
  obtain rfl := Option.some.inj (hg.symm.trans hg')
  unfold Lib.TabIs at hT
  rw [hT] at hvar
  have hcs := Option.some.inj hvar
  have hsz : 0 < cs.size := by rw [← hcs]; simpa using hz
  obtain ⟨⟨c, t2, h1⟩, _⟩ := hps g 0 (List.mem_append_left _ (List.mem_append_left _ (List.mem_map.2 ⟨0, List.mem_range.2 hsz, rfl⟩)))
  refine ⟨t2, ?_⟩
  unfold World.var? at hT
  rw [hg] at hT
  simp only [Option.bind_some, h1] at hT
  rw [h1, Option.some.inj hT]
theorem size_of {w : World} {g : Nat} {o : Obj} (h : w.heap[g]? = some o) : g + 1 ≤ w.heap.size := by
  rcases Nat.lt_or_ge g w.heap.size with h1 | h1
  · exact h1
  · rw [Array.getElem?_eq_none h1] at h; cases h
theorem names_of {P : Program} (h : (P.funcs.toList.all fun fn => !(fn.name == "runtime.NumGoroutine")) = true) (f : FuncId) (fn : Func) (hf : P.funcs[f]? = some fn) : (fn.name == "runtime.NumGoroutine") = false := by
  have := List.all_eq_true.1 h fn (List.mem_of_getElem? (by rw [Array.getElem?_toList]; exact hf))
  simpa using this
end Go.Proofs.YtacelbpkhdagmaaGreatDoor.Ev
