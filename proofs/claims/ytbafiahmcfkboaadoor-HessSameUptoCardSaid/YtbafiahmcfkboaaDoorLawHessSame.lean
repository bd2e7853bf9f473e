/- HessSame returns true for every input of at most 1048576 values in all, in every memory in which the bases are as the program lays them, and leaves its arguments as they read. Condition: the bulk of what comes in is at most 1048576, as the statement says. -/
import Derived.Test.YtbafiahmcfkboaaDoorPkHm42
import Derived.Test.YtbafiahmcfkboaaDoorPkHm44
import Derived.Test.YtbafiahmcfkboaaDoorPkHm43
namespace Go.Proofs.YtbafiahmcfkboaaDoor
open Go.ChangeShapes Go.WideShapes Go.ChangeAt Go.RowKit

theorem hessSame_met (os : Os) : laidMet Tryd.prog Rows.hessSameUptoRow.laid ((basesWorld os).forCall (fun _ _ => 0) ⟨#[], #[.slice none 0 0, .int .u32 0], []⟩).memory :=
  laidMet_of_run' 8 (by kernel_rfl) (by kernel_rfl)
theorem hessSame_reads (os : Os) {H : Type} (enc : TypeId × Value → H) : ∃ places, DataW.whole enc Tryd.prog ((basesWorld os).forCall (fun _ _ => 0) ⟨#[], #[.slice none 0 0, .int .u32 0], []⟩).memory Tryd.f6.params.toList Rows.hessSameSpec.vars false (#[.slice none 0 0, .int .u32 0] : Array Value).toList 8 = some ([.nil, .lit (.int .u32 0)], [], places) :=
  ⟨[], by kernel_rfl⟩

set_option maxRecDepth 100000 in
theorem hessSame_lifted (os : Os) (started : os.Started) (H : Type) (enc : TypeId × Value → H) (F : Stop.Interp) :
    ReturnsInHanded {} Tryd.checked os 6 .any ((Rows.OpenSpec.upto Rows.hessSameSpec).preRow enc Tryd.prog Tryd.f6 Rows.hessSameUptoRow.domain false Rows.hessSameUptoRow.laid) (((Rows.OpenSpec.upto Rows.hessSameSpec).at F).post enc Tryd.prog Tryd.f6 false true false false) := by
  obtain ⟨places, hx⟩ := hessSame_reads os enc
  refine returnsInHanded_of_row (C := Tryd.checked) (s := Rows.OpenSpec.upto Rows.hessSameSpec) Tryd.own started (by kernel_rfl) Tryd.func6
    (witness_row_at (enc := enc) (C := Tryd.checked) false (basesWorld os) #[.slice none 0 0, .int .u32 0] rfl (by kernel_rfl) (by kernel_rfl) (by kernel_rfl)
      (OpenSpec.preRow_of_cond 8 hx (by kernel_rfl) (fun k hk => by cases hk; kernel_rfl) (by kernel_rfl) (hessSame_met os))) ?_
  intro W base args ds gs before hval0 hW _ hcond _ hL _ _
  have hk := hcond _ rfl
  have hval : ∀ (j : Nat) t v, Tryd.f6.params[j]? = some t → args[j]? = some v → Value.okWide Tryd.prog W .any base t v := hval0
  have hW' := hW
  obtain ⟨p, q, hA0, hV, rfl, _, _⟩ := hW
  have hA : DataW.TrodAll enc Tryd.prog W 0 (fun _ => true) true Tryd.f6.params.toList args.toList ds p := hA0
  rw [Tryd.params6] at hA hval
  obtain ⟨v0, v1, d0, d1, p0, p1, rfl, rfl, rfl, h0, h1⟩ := trodAll_two hA
  obtain ⟨rfl, rfl⟩ := trodVars_none hV
  have hlt0 : ∀ x ∈ p0, x.block < W.heap.size := fun x hx => hW'.lt x (by simp [hx])
  obtain ⟨A0, c0, M0, rfl, hc0, hd0, hr0, hm0, hw0⟩ := open_mat (hval 0 23 v0 rfl rfl) h0 hlt0 hk (by simp)
  obtain ⟨n1, rfl, rfl, rfl, wn1⟩ := open_int Tryd.underlying24 (hval 1 24 v1 rfl rfl) h1
  obtain ⟨k1, rfl, b1⟩ := wf_u32 wn1
  refine (hessSame_walk A0 c0 k1 M0 W (bx_of hL) b1 hr0 hm0 hd0).mono ?_
  rintro e W' ⟨rfl, hb⟩
  refine ⟨_, rfl, law_post (f := Tryd.f6) 4 Tryd.laidOut ?_ rfl Tryd.underlying4 rfl hW' ⟨rfl, rfl, rfl⟩ hb⟩
  rw [Tryd.params6]
  intro t ht
  have hall : ([23, 24].all fun u => Tryd.prog.readableRec u && decide (u < Tryd.prog.types.size)) = true := by kernel_rfl
  have h9 := List.all_eq_true.1 hall t (by simpa using ht)
  rw [Bool.and_eq_true, decide_eq_true_eq] at h9
  exact h9

theorem hessSame_upto : Rows.HessSameUptoSaid :=
  OpenClaim.holds_of_cond 6 Tryd.f6 rfl rfl rfl rfl rfl rfl rfl ⟨rfl, rfl, rfl, rfl, rfl⟩ rfl rfl rfl rfl rfl (by kernel_rfl) Tryd.func6 (by kernel_rfl)
    (of_decide_eq_true (by kernel_rfl)) (by unfold Func.isWrapper; first | (rw [if_pos (by decide +kernel)]; kernel_rfl) | (rw [if_neg (by decide +kernel)]; exact ⟨rfl, rfl⟩))
    (fun os started H enc _ F => by rw [OpenClaim.pre_eq_preRow]; exact hessSame_lifted os started H enc F)

theorem hessSame_plain (f : FuncId) (fn : Func) (hf : Tryd.pinned.checked.prog.funcNamed "simile/similelaw21.HessSame" = some f) (hfn : Tryd.pinned.checked.prog.funcs[f]? = some fn) :
    false = Tryd.pinned.checked.prog.looks [] ∧ ∀ (j : Nat) t, fn.params[j]? = some t → Tryd.pinned.checked.prog.wantsStandIn t = false := by
  obtain rfl : f = 6 := Option.some.inj ((show Tryd.prog.funcNamed "simile/similelaw21.HessSame" = some 6 by kernel_rfl).symm.trans hf) |>.symm
  obtain rfl : fn = Tryd.f6 := (Option.some.inj (Tryd.func6.symm.trans hfn)).symm
  refine ⟨by kernel_rfl, fun j t ht => ?_⟩
  rw [Tryd.params6] at ht
  have hall : ([23, 24].all fun u => Tryd.pinned.checked.prog.wantsStandIn u == false) = true := by kernel_rfl
  have h9 := List.all_eq_true.1 hall t (by
    have := Array.mem_of_getElem? ht
    simpa using this)
  simpa using h9

theorem hessSameUpto_card : Rows.HessSameUptoCardSaid :=
  Claim7.holds_tied_plain_at .later [] _ _ _ _ hessSame_upto (fun _ h => by cases h) (by kernel_rfl) (fun _ h => by cases h) hessSameUpto_row_tie rfl ⟨rfl, rfl⟩ (by kernel_rfl) rfl hessSame_plain (by kernel_rfl)
#print axioms hessSameUpto_card
end Go.Proofs.YtbafiahmcfkboaaDoor
