/- ModpolyNames returns true: reckoned. -/
import Derived.Test.YtklpghhochfepaaDoorEvRow
import Derived.Test.YtklpghhochfepaaDoorLift
import Derived.Test.YtklpghhochfepaaDoorCards
import Derived.Test.YtklpghhochfepaaDoorTie
import Derived.OpenShut
import Derived.Deep.DeepHandedRow
import Derived.Lib.LaidTab
namespace Go.Proofs.YtklpghhochfepaaDoor
open Go.ChangeShapes Go.WideShapes Go.ChangeAt Go.RowKit

set_option maxRecDepth 100000 in
theorem modpolyNames_true (e : TypeId) : Ev.yesB ((Ev.mach Tryd.prog 1 Ev.okT 300).call 3 [] (Ev.tabH [(0, .cells false e [.int .u32 2, .int .u32 7, .int .u32 61])]) 1) = true := by kernel_rfl
theorem ev_mix : Tryd.prog.follows .mixedOrders = true := by kernel_rfl
theorem ev_names : (Tryd.prog.funcs.toList.all fun fn => !(fn.name == "runtime.NumGoroutine")) = true := by kernel_rfl
set_option maxRecDepth 100000 in
theorem modpolyNames_any (w : World) (hw : ∃ e, w.heap[0]? = some (.cells ⟨[.int .u32 2, .int .u32 7, .int .u32 61]⟩ e (0, 0))) : Calls Tryd.prog 3 #[] w fun r w' => r = .returned (.bool true) ∧ Below w.heap.size w w' := by
  obtain ⟨e, he⟩ := hw
  refine (callsIn_wide (n := 0)).1 (Ev.reckoned (G := 1) ev_mix (Ev.names_of ev_names) (l := [(0, .cells false e [.int .u32 2, .int .u32 7, .int .u32 61])]) (show 1 ≤ _ from Ev.size_of he) (fun p hp => ?_) (by kernel_rfl) 300 (modpolyNames_true e) 0)
  obtain rfl := List.mem_singleton.1 hp
  exact ⟨(by decide : (0 : Nat) < 1), he, rfl⟩

theorem gBases : Tryd.prog.globalNamed "simile/prime.bases" = some 0 := by kernel_rfl
theorem gBasesType : (Tryd.prog.globals[0]?).map (·.type) = some 109 := by kernel_rfl
theorem cellsBases : Tryd.prog.cellsOf 109 = 3 := by kernel_rfl
theorem cellsU32 : Tryd.prog.cellsOf 29 = 1 := by kernel_rfl

/-- What the row's list gives. -/
theorem bases_of {W : World} (h : laidMetH Tryd.prog Rows.modpolyNamesRow.laid W) : ∃ e, W.heap[0]? = some (.cells ⟨[.int .u32 2, .int .u32 7, .int .u32 61]⟩ e (0, 0)) :=
  Ev.row_of_head (rest := []) (k := .u32) [2, 7, 61] gBases gBasesType Tryd.underlying109 Tryd.underlying29 cellsU32 cellsBases (by decide) h

/-- A world for the witness: the list of bases as it is laid. -/
noncomputable def basesWorld (os : Os) (args : Array Value) : World :=
  { World.holding Tryd.prog os ⟨#[], #[], []⟩ with heap := (World.holding Tryd.prog os ⟨#[], #[], []⟩).heap.modify 0 fun
      | .cells _ t frozen => .cells #[.int .u32 2, .int .u32 7, .int .u32 61] t frozen
      | o => o }

theorem modpolyNames_met (os : Os) : laidMet Tryd.prog Rows.modpolyNamesRow.laid ((basesWorld os #[]).forCall (fun _ _ => 0) ⟨#[], #[], []⟩).memory :=
  laidMet_of_run' 8 (by kernel_rfl) (by kernel_rfl)
theorem modpolyNames_reads (os : Os) {H : Type} (enc : TypeId × Value → H) : ∃ places, DataW.whole enc Tryd.prog ((basesWorld os #[]).forCall (fun _ _ => 0) ⟨#[], #[], []⟩).memory Tryd.f3.params.toList Rows.modpolyNamesSpec.vars false (#[] : Array Value).toList 8 = some ([], [], places) :=
  ⟨[], by kernel_rfl⟩

set_option maxRecDepth 100000 in
theorem modpolyNames_lifted (os : Os) (started : os.Started) (H : Type) (enc : TypeId × Value → H) (F : Stop.Interp) :
    ReturnsInHanded {} Tryd.checked os 3 .any ((OpenSpec.ofChange Rows.modpolyNamesSpec).preRow enc Tryd.prog Tryd.f3 Rows.modpolyNamesRow.domain false Rows.modpolyNamesRow.laid) (((OpenSpec.ofChange Rows.modpolyNamesSpec).at F).post enc Tryd.prog Tryd.f3 false true false false) := by
  obtain ⟨places, hx⟩ := modpolyNames_reads os enc
  refine returnsInHanded_of_row (C := Tryd.checked) (s := OpenSpec.ofChange Rows.modpolyNamesSpec) Tryd.own started (by kernel_rfl) Tryd.func3
    (witness_row_at (enc := enc) (C := Tryd.checked) false (basesWorld os #[]) #[] rfl (by kernel_rfl) (by kernel_rfl) (by kernel_rfl)
      (OpenSpec.preRow_of_cond 8 hx (by kernel_rfl) (fun k hk => by cases hk) (by kernel_rfl) (modpolyNames_met os))) ?_
  intro W base args ds gs before hval hW _ _ _ hL _ _
  have hW' := hW
  obtain ⟨p, q, hA0, hV, rfl, _, _⟩ := hW
  have hA : DataW.TrodAll enc Tryd.prog W 0 (fun _ => true) true Tryd.f3.params.toList args.toList ds p := hA0
  rw [Tryd.params3] at hA
  obtain ⟨ha, rfl, rfl⟩ := trodAll_nil hA
  obtain ⟨rfl, rfl⟩ := trodVars_none hV
  obtain rfl : args = #[] := Array.ext' ha
  refine (modpolyNames_any W (bases_of hL)).mono ?_
  rintro _ W' ⟨rfl, hb⟩
  exact ⟨_, rfl, law_post (f := Tryd.f3) 4 Tryd.laidOut (by rw [Tryd.params3]; intro t ht; cases ht) rfl Tryd.underlying4 rfl hW' ⟨rfl, rfl, rfl⟩ hb⟩

theorem modpolyNames_said : Rows.ModpolyNamesSaid :=
  OpenClaim.holds_of_cond 3 Tryd.f3 rfl rfl rfl rfl rfl rfl rfl ⟨rfl, rfl, rfl, rfl, rfl⟩ rfl rfl rfl rfl rfl (by kernel_rfl) Tryd.func3 (by kernel_rfl)
    (of_decide_eq_true (by kernel_rfl)) (by unfold Func.isWrapper; first | (rw [if_pos (by decide +kernel)]; kernel_rfl) | (rw [if_neg (by decide +kernel)]; exact ⟨rfl, rfl⟩))
    (fun os started H enc _ F => by rw [OpenClaim.pre_eq_preRow]; exact modpolyNames_lifted os started H enc F)

/-- No parameter wants a stand-in; the program's own looks are off. -/
theorem modpolyNames_plain (f : FuncId) (fn : Func) (hf : Tryd.pinned.checked.prog.funcNamed "simile/similelaw08.ModpolyNames" = some f) (hfn : Tryd.pinned.checked.prog.funcs[f]? = some fn) :
    false = Tryd.pinned.checked.prog.looks [] ∧ ∀ (j : Nat) t, fn.params[j]? = some t → Tryd.pinned.checked.prog.wantsStandIn t = false := by
  obtain rfl : f = 3 := Option.some.inj ((show Tryd.prog.funcNamed "simile/similelaw08.ModpolyNames" = some 3 by kernel_rfl).symm.trans hf) |>.symm
  obtain rfl : fn = Tryd.f3 := (Option.some.inj (Tryd.func3.symm.trans hfn)).symm
  refine ⟨by kernel_rfl, fun j t ht => ?_⟩
  rw [Tryd.params3] at ht
  simp at ht

theorem modpolyNames_card : Rows.ModpolyNamesCardSaid :=
  Claim7.holds_tied_plain_at .later [] _ _ _ _ modpolyNames_said (fun _ h => by cases h) (by kernel_rfl) (fun _ h => by cases h) modpolyNames_row_tie rfl ⟨rfl, rfl⟩ (by kernel_rfl) rfl modpolyNames_plain (by kernel_rfl)
#print axioms modpolyNames_card
end Go.Proofs.YtklpghhochfepaaDoor
