/- BoundNames returns true: reckoned. -/
import Derived.Test.YtklpghhochfepaaDoorEvRow
import Derived.Test.YtklpghhochfepaaDoorLift
import Derived.Test.YtklpghhochfepaaDoorCards
import Derived.Test.YtklpghhochfepaaDoorTie
import Derived.OpenShut
import Derived.Deep.DeepHandedRow
import Derived.Lib.LaidTab
namespace Go.Proofs.YtklpghhochfepaaDoor
open Go.ChangeShapes Go.WideShapes Go.ChangeAt Go.RowKit

set_option maxRecDepth 100000 in
theorem boundNames_true (e : TypeId) : Ev.yesB ((Ev.mach Tryd.prog 1 Ev.okT 300).call 4 [] (Ev.tabH [(0, .cells false e [.int .u32 2, .int .u32 7, .int .u32 61])]) 1) = true := by kernel_rfl
theorem ev_mix : Tryd.prog.follows .mixedOrders = true := by kernel_rfl
theorem ev_names : (Tryd.prog.funcs.toList.all fun fn => !(fn.name == "runtime.NumGoroutine")) = true := by kernel_rfl
set_option maxRecDepth 100000 in
theorem boundNames_any (w : World) (hw : ∃ e, w.heap[0]? = some (.cells ⟨[.int .u32 2, .int .u32 7, .int .u32 61]⟩ e (0, 0))) : Calls Tryd.prog 4 #[] w fun r w' => r = .returned (.bool true) ∧ Below w.heap.size w w' := by
  obtain ⟨e, he⟩ := hw
  refine (callsIn_wide (n := 0)).1 (Ev.reckoned (G := 1) ev_mix (Ev.names_of ev_names) (l := [(0, .cells false e [.int .u32 2, .int .u32 7, .int .u32 61])]) (show 1 ≤ _ from Ev.size_of he) (fun p hp => ?_) (by kernel_rfl) 300 (boundNames_true e) 0)
  obtain rfl := List.mem_singleton.1 hp
  exact ⟨(by decide : (0 : Nat) < 1), he, rfl⟩

theorem gBases : Tryd.prog.globalNamed "simile/prime.bases" = some 0 := by kernel_rfl
theorem gBasesType : (Tryd.prog.globals[0]?).map (·.type) = some 109 := by kernel_rfl
theorem cellsBases : Tryd.prog.cellsOf 109 = 3 := by kernel_rfl
theorem cellsU32 : Tryd.prog.cellsOf 29 = 1 := by kernel_rfl

/-- What the row's list gives. -/
theorem bases_of {W : World} (h : laidMetH Tryd.prog Rows.boundNamesRow.laid W) : ∃ e, W.heap[0]? = some (.cells ⟨[.int .u32 2, .int .u32 7, .int .u32 61]⟩ e (0, 0)) :=
  Ev.row_of_head (rest := []) (k := .u32) [2, 7, 61] gBases gBasesType Tryd.underlying109 Tryd.underlying29 cellsU32 cellsBases (by decide) h

/-- A world for the witness: the list of bases as it is laid. -/
noncomputable def basesWorld (os : Os) (args : Array Value) : World :=
  { World.holding Tryd.prog os ⟨#[], #[], []⟩ with heap := (World.holding Tryd.prog os ⟨#[], #[], []⟩).heap.modify 0 fun
      | .cells _ t frozen => .cells #[.int .u32 2, .int .u32 7, .int .u32 61] t frozen
      | o => o }

theorem boundNames_met (os : Os) : laidMet Tryd.prog Rows.boundNamesRow.laid ((basesWorld os #[]).forCall (fun _ _ => 0) ⟨#[], #[], []⟩).memory :=
  laidMet_of_run' 8 (by kernel_rfl) (by kernel_rfl)
theorem boundNames_reads (os : Os) {H : Type} (enc : TypeId × Value → H) : ∃ places, DataW.whole enc Tryd.prog ((basesWorld os #[]).forCall (fun _ _ => 0) ⟨#[], #[], []⟩).memory Tryd.f4.params.toList Rows.boundNamesSpec.vars false (#[] : Array Value).toList 8 = some ([], [], places) :=
  ⟨[], by kernel_rfl⟩

set_option maxRecDepth 100000 in
theorem boundNames_lifted (os : Os) (started : os.Started) (H : Type) (enc : TypeId × Value → H) (F : Stop.Interp) :
    ReturnsInHanded {} Tryd.checked os 4 .any ((OpenSpec.ofChange Rows.boundNamesSpec).preRow enc Tryd.prog Tryd.f4 Rows.boundNamesRow.domain false Rows.boundNamesRow.laid) (((OpenSpec.ofChange Rows.boundNamesSpec).at F).post enc Tryd.prog Tryd.f4 false true false false) := by
  obtain ⟨places, hx⟩ := boundNames_reads os enc
  refine returnsInHanded_of_row (C := Tryd.checked) (s := OpenSpec.ofChange Rows.boundNamesSpec) Tryd.own started (by kernel_rfl) Tryd.func4
    (witness_row_at (enc := enc) (C := Tryd.checked) false (basesWorld os #[]) #[] rfl (by kernel_rfl) (by kernel_rfl) (by kernel_rfl)
      (OpenSpec.preRow_of_cond 8 hx (by kernel_rfl) (fun k hk => by cases hk) (by kernel_rfl) (boundNames_met os))) ?_
  intro W base args ds gs before hval hW _ _ _ hL _ _
  have hW' := hW
  obtain ⟨p, q, hA0, hV, rfl, _, _⟩ := hW
  have hA : DataW.TrodAll enc Tryd.prog W 0 (fun _ => true) true Tryd.f4.params.toList args.toList ds p := hA0
  rw [Tryd.params4] at hA
  obtain ⟨ha, rfl, rfl⟩ := trodAll_nil hA
  obtain ⟨rfl, rfl⟩ := trodVars_none hV
  obtain rfl : args = #[] := Array.ext' ha
  refine (boundNames_any W (bases_of hL)).mono ?_
  rintro _ W' ⟨rfl, hb⟩
  exact ⟨_, rfl, law_post (f := Tryd.f4) 4 Tryd.laidOut (by rw [Tryd.params4]; intro t ht; cases ht) rfl Tryd.underlying4 rfl hW' ⟨rfl, rfl, rfl⟩ hb⟩

theorem boundNames_said : Rows.BoundNamesSaid :=
  OpenClaim.holds_of_cond 4 Tryd.f4 rfl rfl rfl rfl rfl rfl rfl ⟨rfl, rfl, rfl, rfl, rfl⟩ rfl rfl rfl rfl rfl (by kernel_rfl) Tryd.func4 (by kernel_rfl)
    (of_decide_eq_true (by kernel_rfl)) (by unfold Func.isWrapper; first | (rw [if_pos (by decide +kernel)]; kernel_rfl) | (rw [if_neg (by decide +kernel)]; exact ⟨rfl, rfl⟩))
    (fun os started H enc _ F => by rw [OpenClaim.pre_eq_preRow]; exact boundNames_lifted os started H enc F)

/-- No parameter wants a stand-in; the program's own looks are off. -/
theorem boundNames_plain (f : FuncId) (fn : Func) (hf : Tryd.pinned.checked.prog.funcNamed "simile/similelaw22.BoundNames" = some f) (hfn : Tryd.pinned.checked.prog.funcs[f]? = some fn) :
    false = Tryd.pinned.checked.prog.looks [] ∧ ∀ (j : Nat) t, fn.params[j]? = some t → Tryd.pinned.checked.prog.wantsStandIn t = false := by
  obtain rfl : f = 4 := Option.some.inj ((show Tryd.prog.funcNamed "simile/similelaw22.BoundNames" = some 4 by kernel_rfl).symm.trans hf) |>.symm
  obtain rfl : fn = Tryd.f4 := (Option.some.inj (Tryd.func4.symm.trans hfn)).symm
  refine ⟨by kernel_rfl, fun j t ht => ?_⟩
  rw [Tryd.params4] at ht
  simp at ht

theorem boundNames_card : Rows.BoundNamesCardSaid :=
  Claim7.holds_tied_plain_at .later [] _ _ _ _ boundNames_said (fun _ h => by cases h) (by kernel_rfl) (fun _ h => by cases h) boundNames_row_tie rfl ⟨rfl, rfl⟩ (by kernel_rfl) rfl boundNames_plain (by kernel_rfl)
#print axioms boundNames_card
end Go.Proofs.YtklpghhochfepaaDoor
