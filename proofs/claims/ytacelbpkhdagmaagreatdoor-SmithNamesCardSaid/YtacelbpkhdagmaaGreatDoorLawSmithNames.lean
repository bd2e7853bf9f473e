/- SmithNames returns true: reckoned. -/
import Derived.Test.YtacelbpkhdagmaaGreatDoorEvRow
import Derived.Test.YtacelbpkhdagmaaGreatDoorEvW3
import Derived.Test.YtacelbpkhdagmaaGreatDoorLift
import Derived.Test.YtacelbpkhdagmaaGreatDoorCards
import Derived.Test.YtacelbpkhdagmaaGreatDoorTie
import Derived.OpenShut
import Derived.Deep.DeepHandedRow
import Derived.Lib.LaidTab
namespace Go.Proofs.YtacelbpkhdagmaaGreatDoor
open Go.ChangeShapes Go.WideShapes Go.ChangeAt Go.RowKit

set_option maxRecDepth 100000 in
theorem smithNames_true (e0 : TypeId) : Ev.yesB ((Ev.machM Tryz.prog 8 Ev.okT Ev.tabs Ev.tbl20 300).call 3 [] (Ev.tabH [(7, .cells false e0 [.int .u8 0, .int .u8 1, .int .u8 56, .int .u8 2, .int .u8 57, .int .u8 49, .int .u8 28, .int .u8 3, .int .u8 61, .int .u8 58, .int .u8 42, .int .u8 50, .int .u8 38, .int .u8 29, .int .u8 17, .int .u8 4, .int .u8 62, .int .u8 47, .int .u8 59, .int .u8 36, .int .u8 45, .int .u8 43, .int .u8 51, .int .u8 22, .int .u8 53, .int .u8 39, .int .u8 33, .int .u8 30, .int .u8 24, .int .u8 18, .int .u8 12, .int .u8 5, .int .u8 63, .int .u8 55, .int .u8 48, .int .u8 27, .int .u8 60, .int .u8 41, .int .u8 37, .int .u8 16, .int .u8 46, .int .u8 35, .int .u8 44, .int .u8 21, .int .u8 52, .int .u8 32, .int .u8 23, .int .u8 11, .int .u8 54, .int .u8 26, .int .u8 40, .int .u8 15, .int .u8 34, .int .u8 20, .int .u8 31, .int .u8 10, .int .u8 25, .int .u8 14, .int .u8 19, .int .u8 9, .int .u8 13, .int .u8 8, .int .u8 7, .int .u8 6])]) 8) = true := by kernel_rfl
set_option maxRecDepth 100000 in
theorem smithNames_any (w : World) (hw0 : ∃ e, w.heap[7]? = some (.cells ⟨[.int .u8 0, .int .u8 1, .int .u8 56, .int .u8 2, .int .u8 57, .int .u8 49, .int .u8 28, .int .u8 3, .int .u8 61, .int .u8 58, .int .u8 42, .int .u8 50, .int .u8 38, .int .u8 29, .int .u8 17, .int .u8 4, .int .u8 62, .int .u8 47, .int .u8 59, .int .u8 36, .int .u8 45, .int .u8 43, .int .u8 51, .int .u8 22, .int .u8 53, .int .u8 39, .int .u8 33, .int .u8 30, .int .u8 24, .int .u8 18, .int .u8 12, .int .u8 5, .int .u8 63, .int .u8 55, .int .u8 48, .int .u8 27, .int .u8 60, .int .u8 41, .int .u8 37, .int .u8 16, .int .u8 46, .int .u8 35, .int .u8 44, .int .u8 21, .int .u8 52, .int .u8 32, .int .u8 23, .int .u8 11, .int .u8 54, .int .u8 26, .int .u8 40, .int .u8 15, .int .u8 34, .int .u8 20, .int .u8 31, .int .u8 10, .int .u8 25, .int .u8 14, .int .u8 19, .int .u8 9, .int .u8 13, .int .u8 8, .int .u8 7, .int .u8 6]⟩ e (0, 0))) : Calls Tryz.prog 3 #[] w fun r w' => r = .returned (.bool true) ∧ Below w.heap.size w w' := by
  obtain ⟨e0, he0⟩ := hw0
  refine (callsIn_wide (n := 0)).1 (Ev.reckonedM (G := 8) Ev.tabs_ok Ev.tbl20_ok ev_mix (Ev.names_of ev_names) (l := [(7, .cells false e0 [.int .u8 0, .int .u8 1, .int .u8 56, .int .u8 2, .int .u8 57, .int .u8 49, .int .u8 28, .int .u8 3, .int .u8 61, .int .u8 58, .int .u8 42, .int .u8 50, .int .u8 38, .int .u8 29, .int .u8 17, .int .u8 4, .int .u8 62, .int .u8 47, .int .u8 59, .int .u8 36, .int .u8 45, .int .u8 43, .int .u8 51, .int .u8 22, .int .u8 53, .int .u8 39, .int .u8 33, .int .u8 30, .int .u8 24, .int .u8 18, .int .u8 12, .int .u8 5, .int .u8 63, .int .u8 55, .int .u8 48, .int .u8 27, .int .u8 60, .int .u8 41, .int .u8 37, .int .u8 16, .int .u8 46, .int .u8 35, .int .u8 44, .int .u8 21, .int .u8 52, .int .u8 32, .int .u8 23, .int .u8 11, .int .u8 54, .int .u8 26, .int .u8 40, .int .u8 15, .int .u8 34, .int .u8 20, .int .u8 31, .int .u8 10, .int .u8 25, .int .u8 14, .int .u8 19, .int .u8 9, .int .u8 13, .int .u8 8, .int .u8 7, .int .u8 6])]) (show 8 ≤ _ from Ev.size_of he0) (fun p hp => ?_) (by kernel_rfl) 300 (smithNames_true e0) 0)
  obtain rfl := List.mem_singleton.1 hp
  exact ⟨(by decide : (7 : Nat) < 8), he0, rfl⟩

theorem gDeb : Tryz.prog.globalNamed "math/bits.deBruijn64tab" = some 7 := by kernel_rfl
theorem gDebType : (Tryz.prog.globals[7]?).map (·.type) = some 443 := by kernel_rfl
theorem cellsDeb : Tryz.prog.cellsOf 443 = 64 := by kernel_rfl
theorem cellsEDeb : Tryz.prog.cellsOf 5 = 1 := by kernel_rfl

/-- What the row's list gives. -/
theorem tab0_of {W : World} (h : laidMetH Tryz.prog Rows.smithNamesRow.laid W) : ∃ e, W.heap[7]? = some (.cells ⟨[.int .u8 0, .int .u8 1, .int .u8 56, .int .u8 2, .int .u8 57, .int .u8 49, .int .u8 28, .int .u8 3, .int .u8 61, .int .u8 58, .int .u8 42, .int .u8 50, .int .u8 38, .int .u8 29, .int .u8 17, .int .u8 4, .int .u8 62, .int .u8 47, .int .u8 59, .int .u8 36, .int .u8 45, .int .u8 43, .int .u8 51, .int .u8 22, .int .u8 53, .int .u8 39, .int .u8 33, .int .u8 30, .int .u8 24, .int .u8 18, .int .u8 12, .int .u8 5, .int .u8 63, .int .u8 55, .int .u8 48, .int .u8 27, .int .u8 60, .int .u8 41, .int .u8 37, .int .u8 16, .int .u8 46, .int .u8 35, .int .u8 44, .int .u8 21, .int .u8 52, .int .u8 32, .int .u8 23, .int .u8 11, .int .u8 54, .int .u8 26, .int .u8 40, .int .u8 15, .int .u8 34, .int .u8 20, .int .u8 31, .int .u8 10, .int .u8 25, .int .u8 14, .int .u8 19, .int .u8 9, .int .u8 13, .int .u8 8, .int .u8 7, .int .u8 6]⟩ e (0, 0)) :=
  Ev.row_of_head (k := .u8) [0, 1, 56, 2, 57, 49, 28, 3, 61, 58, 42, 50, 38, 29, 17, 4, 62, 47, 59, 36, 45, 43, 51, 22, 53, 39, 33, 30, 24, 18, 12, 5, 63, 55, 48, 27, 60, 41, 37, 16, 46, 35, 44, 21, 52, 32, 23, 11, 54, 26, 40, 15, 34, 20, 31, 10, 25, 14, 19, 9, 13, 8, 7, 6] gDeb gDebType Tryz.underlying443 Tryz.underlying5 cellsEDeb cellsDeb (by decide) h

/-- A world for the witness: the lists as they are laid. -/
noncomputable def layWorld (os : Os) (_ : Array Value) : World :=
  { World.holding Tryz.prog os ⟨#[], #[], []⟩ with heap := ((World.holding Tryz.prog os ⟨#[], #[], []⟩).heap.modify 7 fun
      | .cells _ t frozen => .cells #[.int .u8 0, .int .u8 1, .int .u8 56, .int .u8 2, .int .u8 57, .int .u8 49, .int .u8 28, .int .u8 3, .int .u8 61, .int .u8 58, .int .u8 42, .int .u8 50, .int .u8 38, .int .u8 29, .int .u8 17, .int .u8 4, .int .u8 62, .int .u8 47, .int .u8 59, .int .u8 36, .int .u8 45, .int .u8 43, .int .u8 51, .int .u8 22, .int .u8 53, .int .u8 39, .int .u8 33, .int .u8 30, .int .u8 24, .int .u8 18, .int .u8 12, .int .u8 5, .int .u8 63, .int .u8 55, .int .u8 48, .int .u8 27, .int .u8 60, .int .u8 41, .int .u8 37, .int .u8 16, .int .u8 46, .int .u8 35, .int .u8 44, .int .u8 21, .int .u8 52, .int .u8 32, .int .u8 23, .int .u8 11, .int .u8 54, .int .u8 26, .int .u8 40, .int .u8 15, .int .u8 34, .int .u8 20, .int .u8 31, .int .u8 10, .int .u8 25, .int .u8 14, .int .u8 19, .int .u8 9, .int .u8 13, .int .u8 8, .int .u8 7, .int .u8 6] t frozen
      | o => o) }

theorem smithNames_met (os : Os) : laidMet Tryz.prog Rows.smithNamesRow.laid ((layWorld os #[]).forCall (fun _ _ => 0) ⟨#[], #[], []⟩).memory :=
  laidMet_of_run' 8 (by kernel_rfl) (by kernel_rfl)
theorem smithNames_reads (os : Os) {H : Type} (enc : TypeId × Value → H) : ∃ places, DataW.whole enc Tryz.prog ((layWorld os #[]).forCall (fun _ _ => 0) ⟨#[], #[], []⟩).memory Tryz.f3.params.toList Rows.smithNamesSpec.vars false (#[] : Array Value).toList 8 = some ([], [], places) :=
  ⟨[], by kernel_rfl⟩

set_option maxRecDepth 100000 in
theorem smithNames_lifted (os : Os) (started : os.Started) (H : Type) (enc : TypeId × Value → H) (F : Stop.Interp) :
    ReturnsInHanded {} Tryz.checked os 3 .any ((OpenSpec.ofChange Rows.smithNamesSpec).preRow enc Tryz.prog Tryz.f3 Rows.smithNamesRow.domain false Rows.smithNamesRow.laid) (((OpenSpec.ofChange Rows.smithNamesSpec).at F).post enc Tryz.prog Tryz.f3 false true false false) := by
  obtain ⟨places, hx⟩ := smithNames_reads os enc
  refine returnsInHanded_of_row (C := Tryz.checked) (s := OpenSpec.ofChange Rows.smithNamesSpec) Tryz.own started (by kernel_rfl) Tryz.func3
    (witness_row_at (enc := enc) (C := Tryz.checked) false (layWorld os #[]) #[] rfl (by kernel_rfl) (by kernel_rfl) (by kernel_rfl)
      (OpenSpec.preRow_of_cond 8 hx (by kernel_rfl) (fun k hk => by cases hk) (by kernel_rfl) (smithNames_met os))) ?_
  intro W base args ds gs before hval hW _ _ _ hL _ _
  have hW' := hW
  obtain ⟨p, q, hA0, hV, rfl, _, _⟩ := hW
  have hA : DataW.TrodAll enc Tryz.prog W 0 (fun _ => true) true Tryz.f3.params.toList args.toList ds p := hA0
  rw [Tryz.params3] at hA
  obtain ⟨ha, rfl, rfl⟩ := trodAll_nil hA
  obtain ⟨rfl, rfl⟩ := trodVars_none hV
  obtain rfl : args = #[] := Array.ext' ha
  refine (smithNames_any W (tab0_of hL)).mono ?_
  rintro _ W' ⟨rfl, hb⟩
  exact ⟨_, rfl, law_post (f := Tryz.f3) 4 Tryz.laidOut (by rw [Tryz.params3]; intro t ht; cases ht) rfl Tryz.underlying4 rfl hW' ⟨rfl, rfl, rfl⟩ hb⟩

/-! The facts on the program, one by one: together they are too much for the kernel. -/
theorem smithNames_c1 : laidOutB Tryz.pinned.checked.prog = true := by kernel_rfl
theorem smithNames_c2 : mapsRowed Tryz.pinned.checked.prog = true := by kernel_rfl
theorem smithNames_c3 : (Rows.smithNamesRow.inPlace == Tryz.pinned.checked.prog.inPlace 3) = true := by kernel_rfl
theorem smithNames_c4 : (Rows.smithNamesRow.unfollowed == Tryz.pinned.checked.prog.unfollowed 3) = true := by kernel_rfl
theorem smithNames_c5 : (Rows.smithNamesRow.recurses == Tryz.pinned.checked.prog.recurses 3) = true := by kernel_rfl
theorem smithNames_c6 : (Rows.smithNamesRow.named == Tryz.pinned.checked.prog.varsNamed 3) = true := by kernel_rfl
theorem smithNames_c7 : (Rows.smithNamesRow.plainKeys == Tryz.pinned.checked.prog.plainKeys) = true := by kernel_rfl
theorem smithNames_c8 : (Rows.smithNamesRow.lifted == Tryz.pinned.checked.prog.liftsFinal) = true := by kernel_rfl
theorem smithNames_c9 : (Tryz.pinned.checked.prog.make == some Rows.smithNamesRow.make) = true := by kernel_rfl
theorem smithNames_ca : (Rows.smithNamesRow.pinned == Rows.smithNamesRow.pinnedBy) = true := by kernel_rfl
theorem smithNames_cb : Tryz.pinned.checked.prog.stopsHeard = true := by kernel_rfl
theorem smithNames_cc : Tryz.pinned.checked.prog.mayEnter = true := by kernel_rfl
theorem smithNames_cd : (Tryz.pinned.checked.prog.stops == []) = true := by kernel_rfl
theorem smithNames_ce : (Tryz.pinned.checked.prog.stopKnobs == []) = true := by kernel_rfl
theorem smithNames_cw : Rows.smithNamesRow.wfByText (OpenSpec.ofChange Rows.smithNamesSpec) = true := by kernel_rfl
theorem smithNames_cg : false = Rows.smithNamesRow.goesBy Tryz.pinned.checked.prog := by kernel_rfl
theorem smithNames_closed : joinedFacts Tryz.pinned.checked.prog 3 Tryz.f3 Rows.smithNamesSpec Rows.smithNamesRow = true := by
  unfold joinedFacts
  simp only [smithNames_c1, smithNames_c2, smithNames_c3, smithNames_c4, smithNames_c5, smithNames_c6, smithNames_c7, smithNames_c8, smithNames_c9, smithNames_ca, smithNames_cb, smithNames_cc, smithNames_cd, smithNames_ce]
  kernel_rfl
theorem smithNames_said : Rows.SmithNamesSaid :=
  OpenClaim.holds_of_cond 3 Tryz.f3 rfl rfl rfl rfl rfl rfl rfl ⟨rfl, rfl, rfl, rfl, rfl⟩ rfl rfl rfl rfl rfl (by kernel_rfl) Tryz.func3 smithNames_closed
    (of_decide_eq_true (by kernel_rfl)) (by unfold Func.isWrapper; first | (rw [if_pos (by decide +kernel)]; kernel_rfl) | (rw [if_neg (by decide +kernel)]; exact ⟨rfl, rfl⟩))
    (fun os started H enc _ F => by rw [OpenClaim.pre_eq_preRow]; exact smithNames_lifted os started H enc F)

/-- No parameter wants a stand-in; the program's own looks are off. -/
theorem smithNames_plain (f : FuncId) (fn : Func) (hf : Tryz.pinned.checked.prog.funcNamed "simile/similelaw18.SmithNames" = some f) (hfn : Tryz.pinned.checked.prog.funcs[f]? = some fn) :
    true = Tryz.pinned.checked.prog.looks [] ∧ ∀ (j : Nat) t, fn.params[j]? = some t → Tryz.pinned.checked.prog.wantsStandIn t = false := by
  obtain rfl : f = 3 := Option.some.inj ((show Tryz.prog.funcNamed "simile/similelaw18.SmithNames" = some 3 by kernel_rfl).symm.trans hf) |>.symm
  obtain rfl : fn = Tryz.f3 := (Option.some.inj (Tryz.func3.symm.trans hfn)).symm
  refine ⟨by kernel_rfl, fun j t ht => ?_⟩
  rw [Tryz.params3] at ht
  simp at ht

theorem smithNames_card : Rows.SmithNamesCardSaid :=
  Claim7.holds_tied_plain_at .later [] _ _ _ _ smithNames_said (fun _ h => by cases h) smithNames_cw (fun _ h => by cases h) smithNames_row_tie rfl ⟨rfl, rfl⟩ (by kernel_rfl) rfl smithNames_plain smithNames_cg
#print axioms smithNames_card
end Go.Proofs.YtacelbpkhdagmaaGreatDoor
