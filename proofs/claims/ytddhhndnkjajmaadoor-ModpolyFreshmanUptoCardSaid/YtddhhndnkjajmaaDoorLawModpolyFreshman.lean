/- ModpolyFreshman returns true for every input of at most 1048576 values in all, in every memory in which the bases are as the program lays them, and leaves its arguments as they read. Condition: the bulk of what comes in is at most 1048576, as the statement says. -/
import Derived.Test.YtddhhndnkjajmaaDoorPkMq33
import Derived.Test.YtddhhndnkjajmaaDoorPkMq34
namespace Go.Proofs.YtddhhndnkjajmaaDoor
open Go.ChangeShapes Go.WideShapes Go.ChangeAt Go.RowKit

theorem modpolyFreshman_met (os : Os) : laidMet Tryd.prog Rows.modpolyFreshmanUptoRow.laid ((basesWorld os).forCall (fun _ _ => 0) ⟨#[], #[.slice none 0 0, .slice none 0 0, .int .u32 0], []⟩).memory :=
  laidMet_of_run' 8 (by kernel_rfl) (by kernel_rfl)
theorem modpolyFreshman_reads (os : Os) {H : Type} (enc : TypeId × Value → H) : ∃ places, DataW.whole enc Tryd.prog ((basesWorld os).forCall (fun _ _ => 0) ⟨#[], #[.slice none 0 0, .slice none 0 0, .int .u32 0], []⟩).memory Tryd.f10.params.toList Rows.modpolyFreshmanSpec.vars false (#[.slice none 0 0, .slice none 0 0, .int .u32 0] : Array Value).toList 8 = some ([.nil, .nil, .lit (.int .u32 0)], [], places) :=
  ⟨[], by kernel_rfl⟩

set_option maxRecDepth 100000 in
theorem modpolyFreshman_lifted (os : Os) (started : os.Started) (H : Type) (enc : TypeId × Value → H) (F : Stop.Interp) :
    ReturnsInHanded {} Tryd.checked os 10 .any ((Rows.OpenSpec.upto Rows.modpolyFreshmanSpec).preRow enc Tryd.prog Tryd.f10 Rows.modpolyFreshmanUptoRow.domain false Rows.modpolyFreshmanUptoRow.laid) (((Rows.OpenSpec.upto Rows.modpolyFreshmanSpec).at F).post enc Tryd.prog Tryd.f10 false true false false) := by
  obtain ⟨places, hx⟩ := modpolyFreshman_reads os enc
  refine returnsInHanded_of_row (C := Tryd.checked) (s := Rows.OpenSpec.upto Rows.modpolyFreshmanSpec) Tryd.own started (by kernel_rfl) Tryd.func10
    (witness_row_at (enc := enc) (C := Tryd.checked) false (basesWorld os) #[.slice none 0 0, .slice none 0 0, .int .u32 0] rfl (by kernel_rfl) (by kernel_rfl) (by kernel_rfl)
      (OpenSpec.preRow_of_cond 8 hx (by kernel_rfl) (fun k hk => by cases hk; kernel_rfl) (by kernel_rfl) (modpolyFreshman_met os))) ?_
  intro W base args ds gs before hval0 hW _ hcond _ hL _ _
  have hk := hcond _ rfl
  have hval : ∀ (j : Nat) t v, Tryd.f10.params[j]? = some t → args[j]? = some v → Value.okWide Tryd.prog W .any base t v := hval0
  have hW' := hW
  obtain ⟨p, q, hA0, hV, rfl, _, _⟩ := hW
  have hA : DataW.TrodAll enc Tryd.prog W 0 (fun _ => true) true Tryd.f10.params.toList args.toList ds p := hA0
  rw [Tryd.params10] at hA hval
  obtain ⟨v0, v1, v2, d0, d1, d2, p0, p1, p2, rfl, rfl, rfl, h0, h1, h2⟩ := trodAll_three hA
  obtain ⟨rfl, rfl⟩ := trodVars_none hV
  have hlt0 : ∀ x ∈ p0, x.block < W.heap.size := fun x hx => hW'.lt x (by simp [hx])
  obtain ⟨A0, c0, xs0, rfl, hc0, hd0, hr0, hm0⟩ := open_poly_t Tryd.underlying23 (hval 0 23 v0 rfl rfl) h0 hlt0 hk (by simp)
  have hlt1 : ∀ x ∈ p1, x.block < W.heap.size := fun x hx => hW'.lt x (by simp [hx])
  obtain ⟨A1, c1, xs1, rfl, hc1, hd1, hr1, hm1⟩ := open_poly_t Tryd.underlying23 (hval 1 23 v1 rfl rfl) h1 hlt1 hk (by simp)
  obtain ⟨n2, rfl, rfl, rfl, wn2⟩ := open_int Tryd.underlying24 (hval 2 24 v2 rfl rfl) h2
  obtain ⟨k2, rfl, b2⟩ := wf_u32 wn2
  refine (modpolyFreshman_walk A0 A1 c0 c1 xs0 xs1 k2 W (bx_of hL) hr0 hr1 hm0 hm1 hd0 hd1 b2).mono ?_
  rintro e W' ⟨rfl, hb⟩
  refine ⟨_, rfl, law_post (f := Tryd.f10) 4 Tryd.laidOut ?_ rfl Tryd.underlying4 rfl hW' ⟨rfl, rfl, rfl⟩ hb⟩
  rw [Tryd.params10]
  intro t ht
  have hall : ([23, 23, 24].all fun u => Tryd.prog.readableRec u && decide (u < Tryd.prog.types.size)) = true := by kernel_rfl
  have h9 := List.all_eq_true.1 hall t (by simpa using ht)
  rw [Bool.and_eq_true, decide_eq_true_eq] at h9
  exact h9

theorem modpolyFreshman_upto : Rows.ModpolyFreshmanUptoSaid :=
  OpenClaim.holds_of_cond 10 Tryd.f10 rfl rfl rfl rfl rfl rfl rfl ⟨rfl, rfl, rfl, rfl, rfl⟩ rfl rfl rfl rfl rfl (by kernel_rfl) Tryd.func10 (by kernel_rfl)
    (of_decide_eq_true (by kernel_rfl)) (by unfold Func.isWrapper; first | (rw [if_pos (by decide +kernel)]; kernel_rfl) | (rw [if_neg (by decide +kernel)]; exact ⟨rfl, rfl⟩))
    (fun os started H enc _ F => by rw [OpenClaim.pre_eq_preRow]; exact modpolyFreshman_lifted os started H enc F)

theorem modpolyFreshman_plain (f : FuncId) (fn : Func) (hf : Tryd.pinned.checked.prog.funcNamed "simile/similelaw08.ModpolyFreshman" = some f) (hfn : Tryd.pinned.checked.prog.funcs[f]? = some fn) :
    false = Tryd.pinned.checked.prog.looks [] ∧ ∀ (j : Nat) t, fn.params[j]? = some t → Tryd.pinned.checked.prog.wantsStandIn t = false := by
  obtain rfl : f = 10 := Option.some.inj ((show Tryd.prog.funcNamed "simile/similelaw08.ModpolyFreshman" = some 10 by kernel_rfl).symm.trans hf) |>.symm
  obtain rfl : fn = Tryd.f10 := (Option.some.inj (Tryd.func10.symm.trans hfn)).symm
  refine ⟨by kernel_rfl, fun j t ht => ?_⟩
  rw [Tryd.params10] at ht
  have hall : ([23, 23, 24].all fun u => Tryd.pinned.checked.prog.wantsStandIn u == false) = true := by kernel_rfl
  have h9 := List.all_eq_true.1 hall t (by
    have := Array.mem_of_getElem? ht
    simpa using this)
  simpa using h9

theorem modpolyFreshmanUpto_card : Rows.ModpolyFreshmanUptoCardSaid :=
  Claim7.holds_tied_plain_at .later [] _ _ _ _ modpolyFreshman_upto (fun _ h => by cases h) (by kernel_rfl) (fun _ h => by cases h) modpolyFreshmanUpto_row_tie rfl ⟨rfl, rfl⟩ (by kernel_rfl) rfl modpolyFreshman_plain (by kernel_rfl)
#print axioms modpolyFreshmanUpto_card
end Go.Proofs.YtddhhndnkjajmaaDoor
