/- BoundEnough returns true for any input of at most 2^20 values in all, in every memory in which the list of bases is as it is laid. Condition: the bulk of what comes in is at most 1048576, as the statement says. -/
import Derived.Test.YtcjgilagldbjnaaDoorPkBe11
import Derived.Test.YtcjgilagldbjnaaDoorPkBe41
import Derived.Test.YtcjgilagldbjnaaDoorPkBe42
import Derived.Test.YtcjgilagldbjnaaDoorCards
import Derived.Test.YtcjgilagldbjnaaDoorTie
import Derived.OpenShut
import Derived.Deep.DeepHandedRow
import Derived.Lib.LaidTab
namespace Go.Proofs.YtcjgilagldbjnaaDoor
open Go.ChangeShapes Go.WideShapes Go.ChangeAt Go.RowKit

set_option maxRecDepth 100000 in
theorem awake_true (e : TypeId) : Ev.yesB ((Ev.mach Tryd.prog 1 Ev.okT 300).call 7 [] (Ev.tabH [(0, .cells false e [.int .u32 2, .int .u32 7, .int .u32 61])]) 1) = true := by kernel_rfl
theorem ev_mix : Tryd.prog.follows .mixedOrders = true := by kernel_rfl
theorem ev_names : (Tryd.prog.funcs.toList.all fun fn => !(fn.name == "runtime.NumGoroutine")) = true := by kernel_rfl
set_option maxRecDepth 100000 in
theorem bawake_any (w : World) (hw : ∃ e, w.heap[0]? = some (.cells ⟨[.int .u32 2, .int .u32 7, .int .u32 61]⟩ e (0, 0))) : Calls Tryd.prog 7 #[] w fun r w' => r = .returned (.bool true) ∧ Below w.heap.size w w' := by
  obtain ⟨e, he⟩ := hw
  refine (callsIn_wide (n := 0)).1 (Ev.reckoned (G := 1) ev_mix (Ev.names_of ev_names) (l := [(0, .cells false e [.int .u32 2, .int .u32 7, .int .u32 61])]) (show 1 ≤ _ from Ev.size_of he) (fun p hp => ?_) (by kernel_rfl) 300 (awake_true e) 0)
  obtain rfl := List.mem_singleton.1 hp
  exact ⟨(by decide : (0 : Nat) < 1), he, rfl⟩
theorem tab_next {g : Nat} {l : List Value} {w w' : World} (h : ∃ e, w.heap[g]? = some (.cells ⟨l⟩ e (0, 0))) (hb : Below w.heap.size w w') : ∃ e, w'.heap[g]? = some (.cells ⟨l⟩ e (0, 0)) := by
  obtain ⟨e, h⟩ := h
  exact ⟨e, (hb.block _ (Array.getElem?_eq_some_iff.1 h).1).trans h⟩
theorem bases_tab {w : World} (h : ∃ e, w.heap[0]? = some (.cells ⟨[.int .u32 2, .int .u32 7, .int .u32 61]⟩ e (0, 0))) : Bases w := by
  obtain ⟨e, h⟩ := h
  refine ⟨?_, ?_, ?_⟩ <;> simp [World.cell?, h]

theorem gBases : Tryd.prog.globalNamed "simile/prime.bases" = some 0 := by kernel_rfl
theorem gBasesType : (Tryd.prog.globals[0]?).map (·.type) = some 79 := by kernel_rfl
theorem cellsBases : Tryd.prog.cellsOf 79 = 3 := by kernel_rfl
theorem cellsU32 : Tryd.prog.cellsOf 43 = 1 := by kernel_rfl

/-- What the row's list gives. -/
theorem bases_of {W : World} (h : laidMetH Tryd.prog Rows.boundEnoughUptoRow.laid W) : ∃ e, W.heap[0]? = some (.cells ⟨[.int .u32 2, .int .u32 7, .int .u32 61]⟩ e (0, 0)) :=
  Ev.row_of_head (rest := []) (k := .u32) [2, 7, 61] gBases gBasesType Tryd.underlying79 Tryd.underlying43 cellsU32 cellsBases (by decide) h

/-- A world for the witness: the list of bases as it is laid. -/
noncomputable def basesWorld (os : Os) (_ : Array Value) : World :=
  { World.holding Tryd.prog os ⟨#[], #[], []⟩ with heap := (World.holding Tryd.prog os ⟨#[], #[], []⟩).heap.modify 0 fun
      | .cells _ t frozen => .cells #[.int .u32 2, .int .u32 7, .int .u32 61] t frozen
      | o => o }

theorem boundEnough_met (os : Os) : laidMet Tryd.prog Rows.boundEnoughUptoRow.laid ((basesWorld os #[]).forCall (fun _ _ => 0) ⟨#[], #[.agg #[.bool false, .slice none 0 0], .slice none 0 0], []⟩).memory :=
  laidMet_of_run' 8 (by kernel_rfl) (by kernel_rfl)
theorem boundEnough_reads (os : Os) {H : Type} (enc : TypeId × Value → H) : ∃ places, DataW.whole enc Tryd.prog ((basesWorld os #[]).forCall (fun _ _ => 0) ⟨#[], #[.agg #[.bool false, .slice none 0 0], .slice none 0 0], []⟩).memory Tryd.f3.params.toList Rows.boundEnoughSpec.vars false (#[.agg #[.bool false, .slice none 0 0], .slice none 0 0] : Array Value).toList 8 = some ([.agg [.lit (.bool false), .nil], .nil], [], places) :=
  ⟨[], by kernel_rfl⟩

set_option maxRecDepth 100000 in
theorem boundEnough_lifted (os : Os) (started : os.Started) (H : Type) (enc : TypeId × Value → H) (F : Stop.Interp) :
    ReturnsInHanded {} Tryd.checked os 3 .any ((Rows.OpenSpec.upto Rows.boundEnoughSpec).preRow enc Tryd.prog Tryd.f3 Rows.boundEnoughUptoRow.domain false Rows.boundEnoughUptoRow.laid) (((Rows.OpenSpec.upto Rows.boundEnoughSpec).at F).post enc Tryd.prog Tryd.f3 false true false false) := by
  obtain ⟨places, hx⟩ := boundEnough_reads os enc
  refine returnsInHanded_of_row (C := Tryd.checked) (s := Rows.OpenSpec.upto Rows.boundEnoughSpec) Tryd.own started (by kernel_rfl) Tryd.func3
    (witness_row_at (enc := enc) (C := Tryd.checked) false (basesWorld os #[]) #[.agg #[.bool false, .slice none 0 0], .slice none 0 0] rfl (by kernel_rfl) (by kernel_rfl) (by kernel_rfl)
      (OpenSpec.preRow_of_cond 8 hx (by kernel_rfl) (fun k hk => by cases hk; kernel_rfl) (by kernel_rfl) (boundEnough_met os))) ?_
  intro W base args ds gs before hval0 hW _ hcond _ hL _ _
  have hk := hcond _ rfl
  have hval : ∀ (j : Nat) t v, Tryd.f3.params[j]? = some t → args[j]? = some v → Value.okWide Tryd.prog W .any base t v := hval0
  have hW' := hW
  obtain ⟨p, q, hA0, hV, rfl, _, _⟩ := hW
  have hA : DataW.TrodAll enc Tryd.prog W 0 (fun _ => true) true Tryd.f3.params.toList args.toList ds p := hA0
  rw [Tryd.params3] at hA hval
  obtain ⟨v0, v1, d0, d1, p0, p1, rfl, rfl, rfl, h0, h1⟩ := trodAll_two hA
  obtain ⟨rfl, rfl⟩ := trodVars_none hV
  obtain ⟨g0, A0, c0, xs0, z0, rfl, H0⟩ := open_zint (hval 0 25 v0 rfl rfl) h0 (fun x hx => hW'.lt x (by simp [hx])) hk (by simp)
  obtain ⟨A1, c1, xs1, rfl, hc1, hd1, hr1, hm1⟩ := open_u32s (hval 1 22 v1 rfl rfl) h1 (fun x hx => hW'.lt x (by simp [hx])) hk (by simp)
  have T := bases_of hL
  refine (benough_walk (K := 1048576) H0 (by omega) hr1 hc1 hd1 hm1 (bases_tab T) (Lib.hid fun X hX => bawake_any X (tab_next T hX))).mono ?_
  rintro _ W' ⟨rfl, hb⟩
  exact ⟨_, rfl, law_post (f := Tryd.f3) 4 Tryd.laidOut (by
    rw [Tryd.params3]
    intro t ht
    have hall : ([25, 22].all fun u => Tryd.prog.readableRec u && decide (u < Tryd.prog.types.size)) = true := by kernel_rfl
    have h9 := List.all_eq_true.1 hall t (by simpa using ht)
    rw [Bool.and_eq_true, decide_eq_true_eq] at h9
    exact h9) rfl Tryd.underlying4 rfl hW' ⟨rfl, rfl, rfl⟩ hb⟩

theorem boundEnough_upto : Rows.BoundEnoughUptoSaid :=
  OpenClaim.holds_of_cond 3 Tryd.f3 rfl rfl rfl rfl rfl rfl rfl ⟨rfl, rfl, rfl, rfl, rfl⟩ rfl rfl rfl rfl rfl (by kernel_rfl) Tryd.func3 (by kernel_rfl)
    (of_decide_eq_true (by kernel_rfl)) (by unfold Func.isWrapper; first | (rw [if_pos (by decide +kernel)]; kernel_rfl) | (rw [if_neg (by decide +kernel)]; exact ⟨rfl, rfl⟩))
    (fun os started H enc _ F => by rw [OpenClaim.pre_eq_preRow]; exact boundEnough_lifted os started H enc F)

/-- No parameter wants a stand-in; the program's own looks are off. -/
theorem boundEnough_plain (f : FuncId) (fn : Func) (hf : Tryd.pinned.checked.prog.funcNamed "simile/similelaw22.BoundEnough" = some f) (hfn : Tryd.pinned.checked.prog.funcs[f]? = some fn) :
    false = Tryd.pinned.checked.prog.looks [] ∧ ∀ (j : Nat) t, fn.params[j]? = some t → Tryd.pinned.checked.prog.wantsStandIn t = false := by
  obtain rfl : f = 3 := Option.some.inj ((show Tryd.prog.funcNamed "simile/similelaw22.BoundEnough" = some 3 by kernel_rfl).symm.trans hf) |>.symm
  obtain rfl : fn = Tryd.f3 := (Option.some.inj (Tryd.func3.symm.trans hfn)).symm
  refine ⟨by kernel_rfl, fun j t ht => ?_⟩
  rw [Tryd.params3] at ht
  have hall : ([25, 22].all fun u => Tryd.pinned.checked.prog.wantsStandIn u == false) = true := by kernel_rfl
  have h9 := List.all_eq_true.1 hall t (by
    have := Array.mem_of_getElem? ht
    simpa using this)
  simpa using h9

theorem boundEnoughUpto_card : Rows.BoundEnoughUptoCardSaid :=
  Claim7.holds_tied_plain_at .later [] _ _ _ _ boundEnough_upto (fun _ h => by cases h) (by kernel_rfl) (fun _ h => by cases h) boundEnoughUpto_row_tie rfl ⟨rfl, rfl⟩ (by kernel_rfl) rfl boundEnough_plain (by kernel_rfl)
#print axioms boundEnoughUpto_card
end Go.Proofs.YtcjgilagldbjnaaDoor
