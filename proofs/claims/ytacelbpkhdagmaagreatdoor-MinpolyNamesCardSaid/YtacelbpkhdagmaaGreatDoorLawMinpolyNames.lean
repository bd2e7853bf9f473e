/- MinpolyNames returns true: reckoned. -/
import Derived.Test.YtacelbpkhdagmaaGreatDoorEvRow
import Derived.Test.YtacelbpkhdagmaaGreatDoorEvV3
import Derived.Test.YtacelbpkhdagmaaGreatDoorLift
import Derived.Test.YtacelbpkhdagmaaGreatDoorCards
import Derived.Test.YtacelbpkhdagmaaGreatDoorTie
import Derived.OpenShut
import Derived.Deep.DeepHandedRow
import Derived.Lib.LaidTab
namespace Go.Proofs.YtacelbpkhdagmaaGreatDoor
open Go.ChangeShapes Go.WideShapes Go.ChangeAt Go.RowKit

set_option maxRecDepth 100000 in
theorem minpolyNames_true (e0 : TypeId) : Ev.yesB ((Ev.machM Tryz.prog 8 Ev.okT Ev.tabs Ev.tbl25 300).call 4 [] (Ev.tabH [(7, .cells false e0 [.int .u8 0, .int .u8 1, .int .u8 56, .int .u8 2, .int .u8 57, .int .u8 49, .int .u8 28, .int .u8 3, .int .u8 61, .int .u8 58, .int .u8 42, .int .u8 50, .int .u8 38, .int .u8 29, .int .u8 17, .int .u8 4, .int .u8 62, .int .u8 47, .int .u8 59, .int .u8 36, .int .u8 45, .int .u8 43, .int .u8 51, .int .u8 22, .int .u8 53, .int .u8 39, .int .u8 33, .int .u8 30, .int .u8 24, .int .u8 18, .int .u8 12, .int .u8 5, .int .u8 63, .int .u8 55, .int .u8 48, .int .u8 27, .int .u8 60, .int .u8 41, .int .u8 37, .int .u8 16, .int .u8 46, .int .u8 35, .int .u8 44, .int .u8 21, .int .u8 52, .int .u8 32, .int .u8 23, .int .u8 11, .int .u8 54, .int .u8 26, .int .u8 40, .int .u8 15, .int .u8 34, .int .u8 20, .int .u8 31, .int .u8 10, .int .u8 25, .int .u8 14, .int .u8 19, .int .u8 9, .int .u8 13, .int .u8 8, .int .u8 7, .int .u8 6])]) 8) = true := by kernel_rfl
set_option maxRecDepth 100000 in
theorem minpolyNames_any (w : World) (hw0 : ∃ e, w.heap[7]? = some (.cells ⟨[.int .u8 0, .int .u8 1, .int .u8 56, .int .u8 2, .int .u8 57, .int .u8 49, .int .u8 28, .int .u8 3, .int .u8 61, .int .u8 58, .int .u8 42, .int .u8 50, .int .u8 38, .int .u8 29, .int .u8 17, .int .u8 4, .int .u8 62, .int .u8 47, .int .u8 59, .int .u8 36, .int .u8 45, .int .u8 43, .int .u8 51, .int .u8 22, .int .u8 53, .int .u8 39, .int .u8 33, .int .u8 30, .int .u8 24, .int .u8 18, .int .u8 12, .int .u8 5, .int .u8 63, .int .u8 55, .int .u8 48, .int .u8 27, .int .u8 60, .int .u8 41, .int .u8 37, .int .u8 16, .int .u8 46, .int .u8 35, .int .u8 44, .int .u8 21, .int .u8 52, .int .u8 32, .int .u8 23, .int .u8 11, .int .u8 54, .int .u8 26, .int .u8 40, .int .u8 15, .int .u8 34, .int .u8 20, .int .u8 31, .int .u8 10, .int .u8 25, .int .u8 14, .int .u8 19, .int .u8 9, .int .u8 13, .int .u8 8, .int .u8 7, .int .u8 6]⟩ e (0, 0))) : Calls Tryz.prog 4 #[] w fun r w' => r = .returned (.bool true) ∧ Below w.heap.size w w' := by
  obtain ⟨e0, he0⟩ := hw0
  refine (callsIn_wide (n := 0)).1 (Ev.reckonedM (G := 8) Ev.tabs_ok Ev.tbl25_ok ev_mix (Ev.names_of ev_names) (l := [(7, .cells false e0 [.int .u8 0, .int .u8 1, .int .u8 56, .int .u8 2, .int .u8 57, .int .u8 49, .int .u8 28, .int .u8 3, .int .u8 61, .int .u8 58, .int .u8 42, .int .u8 50, .int .u8 38, .int .u8 29, .int .u8 17, .int .u8 4, .int .u8 62, .int .u8 47, .int .u8 59, .int .u8 36, .int .u8 45, .int .u8 43, .int .u8 51, .int .u8 22, .int .u8 53, .int .u8 39, .int .u8 33, .int .u8 30, .int .u8 24, .int .u8 18, .int .u8 12, .int .u8 5, .int .u8 63, .int .u8 55, .int .u8 48, .int .u8 27, .int .u8 60, .int .u8 41, .int .u8 37, .int .u8 16, .int .u8 46, .int .u8 35, .int .u8 44, .int .u8 21, .int .u8 52, .int .u8 32, .int .u8 23, .int .u8 11, .int .u8 54, .int .u8 26, .int .u8 40, .int .u8 15, .int .u8 34, .int .u8 20, .int .u8 31, .int .u8 10, .int .u8 25, .int .u8 14, .int .u8 19, .int .u8 9, .int .u8 13, .int .u8 8, .int .u8 7, .int .u8 6])]) (show 8 ≤ _ from Ev.size_of he0) (fun p hp => ?_) (by kernel_rfl) 300 (minpolyNames_true e0) 0)
  obtain rfl := List.mem_singleton.1 hp
  exact ⟨(by decide : (7 : Nat) < 8), he0, rfl⟩

theorem gDeb : Tryz.prog.globalNamed "math/bits.deBruijn64tab" = some 7 := by kernel_rfl
theorem gDebType : (Tryz.prog.globals[7]?).map (·.type) = some 443 := by kernel_rfl
theorem cellsDeb : Tryz.prog.cellsOf 443 = 64 := by kernel_rfl
theorem cellsEDeb : Tryz.prog.cellsOf 5 = 1 := by kernel_rfl

/-- What the row's list gives. -/
theorem tab0_of {W : World} (h : laidMetH Tryz.prog Rows.minpolyNamesRow.laid W) : ∃ e, W.heap[7]? = some (.cells ⟨[.int .u8 0, .int .u8 1, .int .u8 56, .int .u8 2, .int .u8 57, .int .u8 49, .int .u8 28, .int .u8 3, .int .u8 61, .int .u8 58, .int .u8 42, .int .u8 50, .int .u8 38, .int .u8 29, .int .u8 17, .int .u8 4, .int .u8 62, .int .u8 47, .int .u8 59, .int .u8 36, .int .u8 45, .int .u8 43, .int .u8 51, .int .u8 22, .int .u8 53, .int .u8 39, .int .u8 33, .int .u8 30, .int .u8 24, .int .u8 18, .int .u8 12, .int .u8 5, .int .u8 63, .int .u8 55, .int .u8 48, .int .u8 27, .int .u8 60, .int .u8 41, .int .u8 37, .int .u8 16, .int .u8 46, .int .u8 35, .int .u8 44, .int .u8 21, .int .u8 52, .int .u8 32, .int .u8 23, .int .u8 11, .int .u8 54, .int .u8 26, .int .u8 40, .int .u8 15, .int .u8 34, .int .u8 20, .int .u8 31, .int .u8 10, .int .u8 25, .int .u8 14, .int .u8 19, .int .u8 9, .int .u8 13, .int .u8 8, .int .u8 7, .int .u8 6]⟩ e (0, 0)) :=
  Ev.row_of_head (k := .u8) [0, 1, 56, 2, 57, 49, 28, 3, 61, 58, 42, 50, 38, 29, 17, 4, 62, 47, 59, 36, 45, 43, 51, 22, 53, 39, 33, 30, 24, 18, 12, 5, 63, 55, 48, 27, 60, 41, 37, 16, 46, 35, 44, 21, 52, 32, 23, 11, 54, 26, 40, 15, 34, 20, 31, 10, 25, 14, 19, 9, 13, 8, 7, 6] gDeb gDebType Tryz.underlying443 Tryz.underlying5 cellsEDeb cellsDeb (by decide) h

/-- A world for the witness: the lists as they are laid. -/
noncomputable def layWorld (os : Os) (_ : Array Value) : World :=
  { World.holding Tryz.prog os ⟨#[], #[], []⟩ with heap := ((World.holding Tryz.prog os ⟨#[], #[], []⟩).heap.modify 7 fun
      | .cells _ t frozen => .cells #[.int .u8 0, .int .u8 1, .int .u8 56, .int .u8 2, .int .u8 57, .int .u8 49, .int .u8 28, .int .u8 3, .int .u8 61, .int .u8 58, .int .u8 42, .int .u8 50, .int .u8 38, .int .u8 29, .int .u8 17, .int .u8 4, .int .u8 62, .int .u8 47, .int .u8 59, .int .u8 36, .int .u8 45, .int .u8 43, .int .u8 51, .int .u8 22, .int .u8 53, .int .u8 39, .int .u8 33, .int .u8 30, .int .u8 24, .int .u8 18, .int .u8 12, .int .u8 5, .int .u8 63, .int .u8 55, .int .u8 48, .int .u8 27, .int .u8 60, .int .u8 41, .int .u8 37, .int .u8 16, .int .u8 46, .int .u8 35, .int .u8 44, .int .u8 21, .int .u8 52, .int .u8 32, .int .u8 23, .int .u8 11, .int .u8 54, .int .u8 26, .int .u8 40, .int .u8 15, .int .u8 34, .int .u8 20, .int .u8 31, .int .u8 10, .int .u8 25, .int .u8 14, .int .u8 19, .int .u8 9, .int .u8 13, .int .u8 8, .int .u8 7, .int .u8 6] t frozen
      | o => o) }

theorem minpolyNames_met (os : Os) : laidMet Tryz.prog Rows.minpolyNamesRow.laid ((layWorld os #[]).forCall (fun _ _ => 0) ⟨#[], #[], []⟩).memory :=
  laidMet_of_run' 8 (by kernel_rfl) (by kernel_rfl)
theorem minpolyNames_reads (os : Os) {H : Type} (enc : TypeId × Value → H) : ∃ places, DataW.whole enc Tryz.prog ((layWorld os #[]).forCall (fun _ _ => 0) ⟨#[], #[], []⟩).memory Tryz.f4.params.toList Rows.minpolyNamesSpec.vars false (#[] : Array Value).toList 8 = some ([], [], places) :=
  ⟨[], by kernel_rfl⟩

set_option maxRecDepth 100000 in
theorem minpolyNames_lifted (os : Os) (started : os.Started) (H : Type) (enc : TypeId × Value → H) (F : Stop.Interp) :
    ReturnsInHanded {} Tryz.checked os 4 .any ((OpenSpec.ofChange Rows.minpolyNamesSpec).preRow enc Tryz.prog Tryz.f4 Rows.minpolyNamesRow.domain false Rows.minpolyNamesRow.laid) (((OpenSpec.ofChange Rows.minpolyNamesSpec).at F).post enc Tryz.prog Tryz.f4 false true false false) := by
  obtain ⟨places, hx⟩ := minpolyNames_reads os enc
  refine returnsInHanded_of_row (C := Tryz.checked) (s := OpenSpec.ofChange Rows.minpolyNamesSpec) Tryz.own started (by kernel_rfl) Tryz.func4
    (witness_row_at (enc := enc) (C := Tryz.checked) false (layWorld os #[]) #[] rfl (by kernel_rfl) (by kernel_rfl) (by kernel_rfl)
      (OpenSpec.preRow_of_cond 8 hx (by kernel_rfl) (fun k hk => by cases hk) (by kernel_rfl) (minpolyNames_met os))) ?_
  intro W base args ds gs before hval hW _ _ _ hL _ _
  have hW' := hW
  obtain ⟨p, q, hA0, hV, rfl, _, _⟩ := hW
  have hA : DataW.TrodAll enc Tryz.prog W 0 (fun _ => true) true Tryz.f4.params.toList args.toList ds p := hA0
  rw [Tryz.params4] at hA
  obtain ⟨ha, rfl, rfl⟩ := trodAll_nil hA
  obtain ⟨rfl, rfl⟩ := trodVars_none hV
  obtain rfl : args = #[] := Array.ext' ha
  refine (minpolyNames_any W (tab0_of hL)).mono ?_
  rintro _ W' ⟨rfl, hb⟩
  exact ⟨_, rfl, law_post (f := Tryz.f4) 4 Tryz.laidOut (by rw [Tryz.params4]; intro t ht; cases ht) rfl Tryz.underlying4 rfl hW' ⟨rfl, rfl, rfl⟩ hb⟩

/-! The facts on the program, one by one: together they are too much for the kernel. -/
theorem minpolyNames_c1 : laidOutB Tryz.pinned.checked.prog = true := by kernel_rfl
theorem minpolyNames_c2 : mapsRowed Tryz.pinned.checked.prog = true := by kernel_rfl
theorem minpolyNames_c3 : (Rows.minpolyNamesRow.inPlace == Tryz.pinned.checked.prog.inPlace 4) = true := by kernel_rfl
theorem minpolyNames_c4 : (Rows.minpolyNamesRow.unfollowed == Tryz.pinned.checked.prog.unfollowed 4) = true := by kernel_rfl
theorem minpolyNames_c5 : (Rows.minpolyNamesRow.recurses == Tryz.pinned.checked.prog.recurses 4) = true := by kernel_rfl
theorem minpolyNames_c6 : (Rows.minpolyNamesRow.named == Tryz.pinned.checked.prog.varsNamed 4) = true := by kernel_rfl
theorem minpolyNames_c7 : (Rows.minpolyNamesRow.plainKeys == Tryz.pinned.checked.prog.plainKeys) = true := by kernel_rfl
theorem minpolyNames_c8 : (Rows.minpolyNamesRow.lifted == Tryz.pinned.checked.prog.liftsFinal) = true := by kernel_rfl
theorem minpolyNames_c9 : (Tryz.pinned.checked.prog.make == some Rows.minpolyNamesRow.make) = true := by kernel_rfl
theorem minpolyNames_ca : (Rows.minpolyNamesRow.pinned == Rows.minpolyNamesRow.pinnedBy) = true := by kernel_rfl
theorem minpolyNames_cb : Tryz.pinned.checked.prog.stopsHeard = true := by kernel_rfl
theorem minpolyNames_cc : Tryz.pinned.checked.prog.mayEnter = true := by kernel_rfl
theorem minpolyNames_cd : (Tryz.pinned.checked.prog.stops == []) = true := by kernel_rfl
theorem minpolyNames_ce : (Tryz.pinned.checked.prog.stopKnobs == []) = true := by kernel_rfl
theorem minpolyNames_cw : Rows.minpolyNamesRow.wfByText (OpenSpec.ofChange Rows.minpolyNamesSpec) = true := by kernel_rfl
theorem minpolyNames_cg : false = Rows.minpolyNamesRow.goesBy Tryz.pinned.checked.prog := by kernel_rfl
theorem minpolyNames_closed : joinedFacts Tryz.pinned.checked.prog 4 Tryz.f4 Rows.minpolyNamesSpec Rows.minpolyNamesRow = true := by
  unfold joinedFacts
  simp only [minpolyNames_c1, minpolyNames_c2, minpolyNames_c3, minpolyNames_c4, minpolyNames_c5, minpolyNames_c6, minpolyNames_c7, minpolyNames_c8, minpolyNames_c9, minpolyNames_ca, minpolyNames_cb, minpolyNames_cc, minpolyNames_cd, minpolyNames_ce]
  kernel_rfl
theorem minpolyNames_said : Rows.MinpolyNamesSaid :=
  OpenClaim.holds_of_cond 4 Tryz.f4 rfl rfl rfl rfl rfl rfl rfl ⟨rfl, rfl, rfl, rfl, rfl⟩ rfl rfl rfl rfl rfl (by kernel_rfl) Tryz.func4 minpolyNames_closed
    (of_decide_eq_true (by kernel_rfl)) (by unfold Func.isWrapper; first | (rw [if_pos (by decide +kernel)]; kernel_rfl) | (rw [if_neg (by decide +kernel)]; exact ⟨rfl, rfl⟩))
    (fun os started H enc _ F => by rw [OpenClaim.pre_eq_preRow]; exact minpolyNames_lifted os started H enc F)

/-- No parameter wants a stand-in; the program's own looks are off. -/
theorem minpolyNames_plain (f : FuncId) (fn : Func) (hf : Tryz.pinned.checked.prog.funcNamed "simile/similelaw16.MinpolyNames" = some f) (hfn : Tryz.pinned.checked.prog.funcs[f]? = some fn) :
    true = Tryz.pinned.checked.prog.looks [] ∧ ∀ (j : Nat) t, fn.params[j]? = some t → Tryz.pinned.checked.prog.wantsStandIn t = false := by
  obtain rfl : f = 4 := Option.some.inj ((show Tryz.prog.funcNamed "simile/similelaw16.MinpolyNames" = some 4 by kernel_rfl).symm.trans hf) |>.symm
  obtain rfl : fn = Tryz.f4 := (Option.some.inj (Tryz.func4.symm.trans hfn)).symm
  refine ⟨by kernel_rfl, fun j t ht => ?_⟩
  rw [Tryz.params4] at ht
  simp at ht

theorem minpolyNames_card : Rows.MinpolyNamesCardSaid :=
  Claim7.holds_tied_plain_at .later [] _ _ _ _ minpolyNames_said (fun _ h => by cases h) minpolyNames_cw (fun _ h => by cases h) minpolyNames_row_tie rfl ⟨rfl, rfl⟩ (by kernel_rfl) rfl minpolyNames_plain minpolyNames_cg
#print axioms minpolyNames_card
end Go.Proofs.YtacelbpkhdagmaaGreatDoor
