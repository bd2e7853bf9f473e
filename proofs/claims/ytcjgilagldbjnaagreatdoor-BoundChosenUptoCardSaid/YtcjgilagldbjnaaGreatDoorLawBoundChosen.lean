/- BoundChosen returns true for any input of at most 2^20 values in all, in every memory in which the list of bases is as it is laid. Condition: the bulk of what comes in is at most 1048576, as the statement says. -/
import Derived.Test.YtcjgilagldbjnaaGreatDoorPkBb11
import Derived.Test.YtcjgilagldbjnaaGreatDoorPkBb50
import Derived.Test.YtcjgilagldbjnaaGreatDoorPkBb51
import Derived.Test.YtcjgilagldbjnaaGreatDoorCards
import Derived.Test.YtcjgilagldbjnaaGreatDoorTie
import Derived.OpenShut
import Derived.Deep.DeepHandedRow
import Derived.Lib.LaidTab
namespace Go.Proofs.YtcjgilagldbjnaaGreatDoor
open Go.ChangeShapes Go.WideShapes Go.ChangeAt Go.RowKit
set_option maxRecDepth 100000 in
theorem awake_true (e : TypeId) : Ev.yesB ((Ev.mach Tryz.prog 1 Ev.okT 300).call 6 [] (Ev.tabH [(0, .cells false e [.int .u32 2, .int .u32 7, .int .u32 61])]) 1) = true := by kernel_rfl
theorem ev_mix : Tryz.prog.follows .mixedOrders = true := by kernel_rfl
theorem ev_names : (Tryz.prog.funcs.toList.all fun fn => !(fn.name == "runtime.NumGoroutine")) = true := by kernel_rfl
set_option maxRecDepth 100000 in
theorem bawake_any (w : World) (hw : ∃ e, w.heap[0]? = some (.cells ⟨[.int .u32 2, .int .u32 7, .int .u32 61]⟩ e (0, 0))) : Calls Tryz.prog 6 #[] w fun r w' => r = .returned (.bool true) ∧ Below w.heap.size w w' := by
 obtain ⟨e, he⟩ := hw
 refine (callsIn_wide (n := 0)).1 (Ev.reckoned (G := 1) ev_mix (Ev.names_of ev_names) (l := [(0, .cells false e [.int .u32 2, .int .u32 7, .int .u32 61])]) (show 1 ≤ _ from Ev.size_of he) (fun p hp => ?_) (by kernel_rfl) 300 (awake_true e) 0)
 obtain rfl := List.mem_singleton.1 hp
 exact ⟨(by decide : (0 : Nat) < 1), he, rfl⟩
theorem tab_next {g : Nat} {l : List Value} {w w' : World} (h : ∃ e, w.heap[g]? = some (.cells ⟨l⟩ e (0, 0))) (hb : Below w.heap.size w w') : ∃ e, w'.heap[g]? = some (.cells ⟨l⟩ e (0, 0)) := by
 obtain ⟨e, h⟩ := h
 exact ⟨e, (hb.block _ (Array.getElem?_eq_some_iff.1 h).1).trans h⟩
theorem bases_tab {w : World} (h : ∃ e, w.heap[0]? = some (.cells ⟨[.int .u32 2, .int .u32 7, .int .u32 61]⟩ e (0, 0))) : Bases w := by
 obtain ⟨e, h⟩ := h
 refine ⟨?_, ?_, ?_⟩ <;> simp [World.cell?, h]
theorem gBases : Tryz.prog.globalNamed "simile/prime.bases" = some 0 := by kernel_rfl
theorem gBasesType : (Tryz.prog.globals[0]?).map (·.type) = some 99 := by kernel_rfl
theorem cellsBases : Tryz.prog.cellsOf 99 = 3 := by kernel_rfl
theorem cellsU32 : Tryz.prog.cellsOf 34 = 1 := by kernel_rfl
theorem bases_of {W : World} (h : laidMetH Tryz.prog Rows.boundChosenUptoRow.laid W) : ∃ e, W.heap[0]? = some (.cells ⟨[.int .u32 2, .int .u32 7, .int .u32 61]⟩ e (0, 0)) :=
 Ev.row_of_head (rest := []) (k := .u32) [2, 7, 61] gBases gBasesType Tryz.underlying99 Tryz.underlying34 cellsU32 cellsBases (by decide) h
noncomputable def basesWorld (os : Os) (_ : Array Value) : World :=
 { World.holding Tryz.prog os ⟨#[], #[], []⟩ with heap := (World.holding Tryz.prog os ⟨#[], #[], []⟩).heap.modify 0 fun
   | .cells _ t frozen => .cells #[.int .u32 2, .int .u32 7, .int .u32 61] t frozen
   | o => o }
theorem boundChosen_met (os : Os) : laidMet Tryz.prog Rows.boundChosenUptoRow.laid ((basesWorld os #[]).forCall (fun _ _ => 0) ⟨#[], #[.agg #[.bool false, .slice none 0 0], .agg #[.bool false, .slice none 0 0]], []⟩).memory :=
 laidMet_of_run' 8 (by kernel_rfl) (by kernel_rfl)
theorem boundChosen_reads (os : Os) {H : Type} (enc : TypeId × Value → H) : ∃ places, DataW.whole enc Tryz.prog ((basesWorld os #[]).forCall (fun _ _ => 0) ⟨#[], #[.agg #[.bool false, .slice none 0 0], .agg #[.bool false, .slice none 0 0]], []⟩).memory Tryz.f4.params.toList Rows.boundChosenSpec.vars false (#[.agg #[.bool false, .slice none 0 0], .agg #[.bool false, .slice none 0 0]] : Array Value).toList 8 = some ([.agg [.lit (.bool false), .nil], .agg [.lit (.bool false), .nil]], [], places) :=
 ⟨[], by kernel_rfl⟩
set_option maxRecDepth 100000 in
theorem boundChosen_lifted (os : Os) (started : os.Started) (H : Type) (enc : TypeId × Value → H) (F : Stop.Interp) :
  ReturnsInHanded {} Tryz.checked os 4 .any ((Rows.OpenSpec.upto Rows.boundChosenSpec).preRow enc Tryz.prog Tryz.f4 Rows.boundChosenUptoRow.domain false Rows.boundChosenUptoRow.laid) (((Rows.OpenSpec.upto Rows.boundChosenSpec).at F).post enc Tryz.prog Tryz.f4 false true false false) := by
 obtain ⟨places, hx⟩ := boundChosen_reads os enc
 refine returnsInHanded_of_row (C := Tryz.checked) (s := Rows.OpenSpec.upto Rows.boundChosenSpec) Tryz.own started (by kernel_rfl) Tryz.func4
  (witness_row_at (enc := enc) (C := Tryz.checked) false (basesWorld os #[]) #[.agg #[.bool false, .slice none 0 0], .agg #[.bool false, .slice none 0 0]] rfl (by kernel_rfl) (by kernel_rfl) (by kernel_rfl)
   (OpenSpec.preRow_of_cond 8 hx (by kernel_rfl) (fun k hk => by cases hk; kernel_rfl) (by kernel_rfl) (boundChosen_met os))) ?_
 intro W base args ds gs before hval0 hW _ hcond _ hL _ _
 have hk := hcond _ rfl
 have hval : ∀ (j : Nat) t v, Tryz.f4.params[j]? = some t → args[j]? = some v → Value.okWide Tryz.prog W .any base t v := hval0
 have hW' := hW
 obtain ⟨p, q, hA0, hV, rfl, _, _⟩ := hW
 have hA : DataW.TrodAll enc Tryz.prog W 0 (fun _ => true) true Tryz.f4.params.toList args.toList ds p := hA0
 rw [Tryz.params4] at hA hval
 obtain ⟨v0, v1, d0, d1, p0, p1, rfl, rfl, rfl, h0, h1⟩ := trodAll_two hA
 obtain ⟨rfl, rfl⟩ := trodVars_none hV
 obtain ⟨g0, A0, c0, xs0, z0, rfl, H0⟩ := open_zint (hval 0 25 v0 rfl rfl) h0 (fun x hx => hW'.lt x (by simp [hx])) hk (by simp)
 obtain ⟨g1, A1, c1, xs1, z1, rfl, H1⟩ := open_zint (hval 1 25 v1 rfl rfl) h1 (fun x hx => hW'.lt x (by simp [hx])) hk (by simp)
 have T := bases_of hL
 refine (bchosen_walk H0 H1 (bases_tab T) (hi9 fun X hX => bawake_any X (tab_next T hX))).mono ?_
 rintro _ W' ⟨rfl, hb⟩
 exact ⟨_, rfl, law_post (f := Tryz.f4) 4 Tryz.laidOut (by
  rw [Tryz.params4]
  intro t ht
  have hall : ([25, 25].all fun u => Tryz.prog.readableRec u && decide (u < Tryz.prog.types.size)) = true := by kernel_rfl
  have h9 := List.all_eq_true.1 hall t (by simpa using ht)
  rw [Bool.and_eq_true, decide_eq_true_eq] at h9
  exact h9) rfl Tryz.underlying4 rfl hW' ⟨rfl, rfl, rfl⟩ hb⟩
theorem boundChosen_upto : Rows.BoundChosenUptoSaid :=
 OpenClaim.holds_of_cond 4 Tryz.f4 rfl rfl rfl rfl rfl rfl rfl ⟨rfl, rfl, rfl, rfl, rfl⟩ rfl rfl rfl rfl rfl (by kernel_rfl) Tryz.func4 (by kernel_rfl)
  (of_decide_eq_true (by kernel_rfl)) (by unfold Func.isWrapper; first | (rw [if_pos (by decide +kernel)]; kernel_rfl) | (rw [if_neg (by decide +kernel)]; exact ⟨rfl, rfl⟩))
  (fun os started H enc _ F => by rw [OpenClaim.pre_eq_preRow]; exact boundChosen_lifted os started H enc F)
theorem boundChosen_plain (f : FuncId) (fn : Func) (hf : Tryz.pinned.checked.prog.funcNamed "simile/similelaw22.BoundChosen" = some f) (hfn : Tryz.pinned.checked.prog.funcs[f]? = some fn) :
  false = Tryz.pinned.checked.prog.looks [] ∧ ∀ (j : Nat) t, fn.params[j]? = some t → Tryz.pinned.checked.prog.wantsStandIn t = false := by
 obtain rfl : f = 4 := Option.some.inj ((show Tryz.prog.funcNamed "simile/similelaw22.BoundChosen" = some 4 by kernel_rfl).symm.trans hf) |>.symm
 obtain rfl : fn = Tryz.f4 := (Option.some.inj (Tryz.func4.symm.trans hfn)).symm
 refine ⟨by kernel_rfl, fun j t ht => ?_⟩
 rw [Tryz.params4] at ht
 have hall : ([25, 25].all fun u => Tryz.pinned.checked.prog.wantsStandIn u == false) = true := by kernel_rfl
 have h9 := List.all_eq_true.1 hall t (by
  have := Array.mem_of_getElem? ht
  simpa using this)
 simpa using h9
theorem boundChosenUpto_card : Rows.BoundChosenUptoCardSaid :=
 Claim7.holds_tied_plain_at .later [] _ _ _ _ boundChosen_upto (fun _ h => by cases h) (by kernel_rfl) (fun _ h => by cases h) boundChosenUpto_row_tie rfl ⟨rfl, rfl⟩ (by kernel_rfl) rfl boundChosen_plain (by kernel_rfl)
#print axioms boundChosenUpto_card
end Go.Proofs.YtcjgilagldbjnaaGreatDoor