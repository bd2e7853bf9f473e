/- PrimeNames returns true, in every memory in which the bases are as the program lays them. -/
import Derived.Test.YtbemlhomdefojaaDoorPrimeD
import Derived.Test.YtbemlhomdefojaaDoorLift
import Derived.Test.YtbemlhomdefojaaDoorCards
import Derived.Test.YtbemlhomdefojaaDoorTie
import Derived.OpenShut
import Derived.Deep.DeepHandedRow
import Derived.Lib.LaidTab
namespace Go.Proofs.YtbemlhomdefojaaDoor
open Go.ChangeShapes Go.WideShapes Go.ChangeAt Go.RowKit

set_option maxHeartbeats 800000 in
theorem primeNames_any (w : World) (hw : Bases w) : Calls Tryd.prog 3 #[] w fun r w' => r = .returned (.bool true) ∧ w' = w := by
  have Hw := Lib.hid hw
  clear hw
  go_enter Tryd.func3, Tryd.ntmps3
  go_wp2_with fail
  refine (num_any _ _).mono ?_
  rintro _ _ ⟨rfl, rfl⟩
  go_wp2_with fail
  refine (num_any _ _).mono ?_
  rintro _ _ ⟨rfl, rfl⟩
  go_wp2_with fail
  refine (num_any _ _).mono ?_
  rintro _ _ ⟨rfl, rfl⟩
  go_wp2_with fail
  refine (num_any _ _).mono ?_
  rintro _ _ ⟨rfl, rfl⟩
  go_wp2_with fail
  refine (awake_any _ Hw.out).mono ?_
  rintro _ _ ⟨rfl, rfl⟩
  go_wp2
  go_ret
  exact ⟨rfl, rfl⟩

theorem gBases : Tryd.prog.globalNamed "simile/prime.bases" = some 0 := by kernel_rfl
theorem gBasesType : (Tryd.prog.globals[0]?).map (·.type) = some 45 := by kernel_rfl
theorem cellsBases : Tryd.prog.cellsOf 45 = 3 := by kernel_rfl
theorem cellsU32 : Tryd.prog.cellsOf 25 = 1 := by kernel_rfl

/-- What the row's list gives. -/
theorem bases_of {W : World} (h : laidMetH Tryd.prog Rows.primeNamesRow.laid W) : Bases W :=
  have h : Lib.TabIs Tryd.prog W "simile/prime.bases" .u32 [2, 7, 61] := Lib.tabIs_of_head (rest := []) gBases gBasesType Tryd.underlying45 Tryd.underlying25 cellsU32 cellsBases h
  ⟨h.cell gBases 0 (by decide), h.cell gBases 1 (by decide), h.cell gBases 2 (by decide)⟩

/-- A world for the witness: the list of bases as it is laid. -/
noncomputable def basesWorld (os : Os) (args : Array Value) : World :=
  { World.holding Tryd.prog os ⟨#[], #[], []⟩ with heap := (World.holding Tryd.prog os ⟨#[], #[], []⟩).heap.modify 0 fun
      | .cells _ t frozen => .cells #[.int .u32 2, .int .u32 7, .int .u32 61] t frozen
      | o => o }

theorem primeNames_met (os : Os) : laidMet Tryd.prog Rows.primeNamesRow.laid ((basesWorld os #[]).forCall (fun _ _ => 0) ⟨#[], #[], []⟩).memory :=
  laidMet_of_run' 8 (by kernel_rfl) (by kernel_rfl)
theorem primeNames_reads (os : Os) {H : Type} (enc : TypeId × Value → H) : ∃ places, DataW.whole enc Tryd.prog ((basesWorld os #[]).forCall (fun _ _ => 0) ⟨#[], #[], []⟩).memory Tryd.f3.params.toList Rows.primeNamesSpec.vars false (#[] : Array Value).toList 8 = some ([], [], places) :=
  ⟨[], by kernel_rfl⟩

set_option maxRecDepth 100000 in
theorem primeNames_lifted (os : Os) (started : os.Started) (H : Type) (enc : TypeId × Value → H) (F : Stop.Interp) :
    ReturnsInHanded {} Tryd.checked os 3 .any ((OpenSpec.ofChange Rows.primeNamesSpec).preRow enc Tryd.prog Tryd.f3 Rows.primeNamesRow.domain false Rows.primeNamesRow.laid) (((OpenSpec.ofChange Rows.primeNamesSpec).at F).post enc Tryd.prog Tryd.f3 false true false false) := by
  obtain ⟨places, hx⟩ := primeNames_reads os enc
  refine returnsInHanded_of_row (C := Tryd.checked) (s := OpenSpec.ofChange Rows.primeNamesSpec) Tryd.own started (by kernel_rfl) Tryd.func3
    (witness_row_at (enc := enc) (C := Tryd.checked) false (basesWorld os #[]) #[] rfl (by kernel_rfl) (by kernel_rfl) (by kernel_rfl)
      (OpenSpec.preRow_of_cond 8 hx (by kernel_rfl) (fun k hk => by cases hk) (by kernel_rfl) (primeNames_met os))) ?_
  intro W base args ds gs before hval hW _ _ _ hL _ _
  have hW' := hW
  obtain ⟨p, q, hA0, hV, rfl, _, _⟩ := hW
  have hA : DataW.TrodAll enc Tryd.prog W 0 (fun _ => true) true Tryd.f3.params.toList args.toList ds p := hA0
  rw [Tryd.params3] at hA
  obtain ⟨ha, rfl, rfl⟩ := trodAll_nil hA
  obtain ⟨rfl, rfl⟩ := trodVars_none hV
  obtain rfl : args = #[] := Array.ext' ha
  refine (primeNames_any W (bases_of hL)).mono ?_
  rintro _ W' ⟨rfl, rfl⟩
  exact ⟨_, rfl, law_post (f := Tryd.f3) 4 Tryd.laidOut (by rw [Tryd.params3]; intro t ht; cases ht) rfl Tryd.underlying4 rfl hW' ⟨rfl, rfl, rfl⟩ (Below.refl _ _)⟩

theorem primeNames_said : Rows.PrimeNamesSaid :=
  OpenClaim.holds_of_cond 3 Tryd.f3 rfl rfl rfl rfl rfl rfl rfl ⟨rfl, rfl, rfl, rfl, rfl⟩ rfl rfl rfl rfl rfl (by kernel_rfl) Tryd.func3 (by kernel_rfl)
    (of_decide_eq_true (by kernel_rfl)) (by unfold Func.isWrapper; first | (rw [if_pos (by decide +kernel)]; kernel_rfl) | (rw [if_neg (by decide +kernel)]; exact ⟨rfl, rfl⟩))
    (fun os started H enc _ F => by rw [OpenClaim.pre_eq_preRow]; exact primeNames_lifted os started H enc F)

/-- No parameter wants a stand-in; the program's own looks are off. -/
theorem primeNames_plain (f : FuncId) (fn : Func) (hf : Tryd.pinned.checked.prog.funcNamed "simile/similelaw04.PrimeNames" = some f) (hfn : Tryd.pinned.checked.prog.funcs[f]? = some fn) :
    false = Tryd.pinned.checked.prog.looks [] ∧ ∀ (j : Nat) t, fn.params[j]? = some t → Tryd.pinned.checked.prog.wantsStandIn t = false := by
  obtain rfl : f = 3 := Option.some.inj ((show Tryd.prog.funcNamed "simile/similelaw04.PrimeNames" = some 3 by kernel_rfl).symm.trans hf) |>.symm
  obtain rfl : fn = Tryd.f3 := (Option.some.inj (Tryd.func3.symm.trans hfn)).symm
  refine ⟨by kernel_rfl, fun j t ht => ?_⟩
  rw [Tryd.params3] at ht
  simp at ht

theorem primeNames_card : Rows.PrimeNamesCardSaid :=
  Claim7.holds_tied_plain_at .later [] _ _ _ _ primeNames_said (fun _ h => by cases h) (by kernel_rfl) (fun _ h => by cases h) primeNames_row_tie rfl ⟨rfl, rfl⟩ (by kernel_rfl) rfl primeNames_plain (by kernel_rfl)
#print axioms primeNames_card
end Go.Proofs.YtbemlhomdefojaaDoor
