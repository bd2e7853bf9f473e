/- The reckoner, met with a law's row: what a listed table gives. No conditions. -/
import Derived.Test.YtadpelhmjmamnaaGreatDoorEvP33
import Derived.Lib.LaidTab
import Derived.Stop.LaidErr
import Derived.KernelRfl
namespace Go.Proofs.YtadpelhmjmamnaaGreatDoor.Ev
open Go Go.RowKit

/-- A table of integers that a row lists first lies whole in its variable's block. -/
theorem row_of_head {P : Program} {W : World} {name : String} {k : IntKind} (zs : List Int) {rest : List (String × DataW Unit)} {g : Nat} {t e : TypeId} {n : Nat}
    (hg : P.globalNamed name = some g) (hty : (P.globals[g]?).map (·.type) = some t) (ht : P.underlying t = some (.array n e)) (he : P.underlying e = some (.int k)) (hce : P.cellsOf e = 1) (hct : P.cellsOf t = n) (hz : 0 < zs.length)
    (h : laidMet P ((name, Lib.tabData k zs) :: rest) W) : ∃ e', W.heap[g]? = some (.cells ⟨zs.map fun z => Value.int k z⟩ e' (0, 0)) := by
  have hT := Lib.tabIs_of_head hg hty ht he hce hct h
  obtain ⟨ps, ⟨g', t', cs, fuel, p, q, hg', ht', hvar, hd, hq, rfl⟩, hnd, hps⟩ := h
  obtain rfl := Option.some.inj (hg.symm.trans hg')
  unfold Lib.TabIs at hT
  rw [hT] at hvar
  have hcs := Option.some.inj hvar
  have hsz : 0 < cs.size := by rw [← hcs]; simpa using hz
  obtain ⟨⟨c, t2, h1⟩, _⟩ := hps g 0 (List.mem_append_left _ (List.mem_append_left _ (List.mem_map.2 ⟨0, List.mem_range.2 hsz, rfl⟩)))
  refine ⟨t2, ?_⟩
  unfold World.var? at hT
  rw [hg] at hT
  simp only [Option.bind_some, h1] at hT
  rw [h1, Option.some.inj hT]
theorem size_of {w : World} {g : Nat} {o : Obj} (h : w.heap[g]? = some o) : g + 1 ≤ w.heap.size := by
  rcases Nat.lt_or_ge g w.heap.size with h1 | h1
  · exact h1
  · rw [Array.getElem?_eq_none h1] at h; cases h
theorem names_of {P : Program} (h : (P.funcs.toList.all fun fn => !(fn.name == "runtime.NumGoroutine")) = true) (f : FuncId) (fn : Func) (hf : P.funcs[f]? = some fn) : (fn.name == "runtime.NumGoroutine") = false := by
  have := List.all_eq_true.1 h fn (List.mem_of_getElem? (by rw [Array.getElem?_toList]; exact hf))
  simpa using this

section
variable {P : Program} {G : Nat}
/-- **A call that is reckoned to answer true whatever its arguments (numbers, truth values, texts), answers true.** -/
theorem reckoned_args (hmix : P.follows .mixedOrders = true) (hname : ∀ (f : FuncId) (fn : Func), P.funcs[f]? = some fn → (fn.name == "runtime.NumGoroutine") = false) {l : List (Nat × AB)} {w : World} (hG : G ≤ w.heap.size) (hl : ∀ p ∈ l, p.1 < G ∧ Laid w p)
    {f : FuncId} {us : List Value} (hus : us.all (flat 5) = true) (hent : (bodyO P f).isSome = true) (n : Nat) (h : yesB ((mach P G okT n).call f us (tabH l) G) = true) (m : Nat) : CallsIn Fence.wide m P f ⟨us⟩ w fun e w' => e = .returned (.bool true) ∧ Below w.heap.size w w' := by
  have hglob : Glob G (globE G) := fun g hg => ⟨0, if_pos hg⟩
  have hdom : Dom (globE G) G := fun n hn => if_neg (by omega)
  obtain ⟨c, hc⟩ := Option.isSome_iff_exists.1 hent
  cases hr : (mach P G okT n).call f us (tabH l) G with
  | bad e => rw [hr] at h; cases h
  | ok out =>
    rw [hr] at h
    have hok := (mach_ok (G := G) hmix hname n).1 f us us (tabH l) G out (globE G) w hr (sat_tab hG hl) hglob (fun n b hb => (hl _ (tabH_spec l n b hb)).1) (VL.same hus _)
    refine hok.calls (run_enter hname hc) none m ?_
    cases out with
    | w u H N lo => cases h
    | v u d N' =>
      refine ⟨hdom, fun v w' ρ' hg hv => ⟨?_, hg.bel⟩⟩
      have hu : u = .bool true := by
        have h' : VB.rec (motive := fun _ => Bool) (fun b => b) false (vB u) = true := h
        cases u with
        | bool b =>
          have h2 : b = true := h'
          rw [h2]
        | _ => cases h'
      subst hu
      cases hv
      rfl
end
end Go.Proofs.YtadpelhmjmamnaaGreatDoor.Ev
