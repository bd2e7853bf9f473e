/- PrimeLaws returns true for every input, in every memory in which the bases are as the program lays them. No further condition. -/
import Derived.Test.YtnjhppdcpjgfmaaDoorPrimeT
import Derived.Test.YtnjhppdcpjgfmaaDoorLaid
import Derived.Lib.SmallJoins
namespace Go.Proofs.YtnjhppdcpjgfmaaDoor
open Go.ChangeShapes Go.WideShapes Go.ChangeAt Go.RowKit

theorem primeLaws_met (os : Os) : laidMet Tryd.prog Rows.primeLawsRow.laid ((basesWorld os).forCall (fun _ _ => 0) ⟨#[], #[.agg #[.int .u32 0, .int .u32 0, .int .u32 0, .int .u32 0]], []⟩).memory :=
  laidMet_of_run' 8 (by kernel_rfl) (by kernel_rfl)
theorem primeLaws_reads (os : Os) {H : Type} (enc : TypeId × Value → H) : ∃ places, DataW.whole enc Tryd.prog ((basesWorld os).forCall (fun _ _ => 0) ⟨#[], #[.agg #[.int .u32 0, .int .u32 0, .int .u32 0, .int .u32 0]], []⟩).memory Tryd.f10.params.toList Rows.primeLawsSpec.vars false (#[.agg #[.int .u32 0, .int .u32 0, .int .u32 0, .int .u32 0]] : Array Value).toList 8 = some ([.agg [.lit (.int .u32 0), .lit (.int .u32 0), .lit (.int .u32 0), .lit (.int .u32 0)]], [], places) :=
  ⟨[], by kernel_rfl⟩

set_option maxRecDepth 100000 in
theorem primeLaws_lifted (os : Os) (started : os.Started) (H : Type) (enc : TypeId × Value → H) (F : Stop.Interp) :
    ReturnsInHanded {} Tryd.checked os 10 .any ((OpenSpec.ofChange Rows.primeLawsSpec).preRow enc Tryd.prog Tryd.f10 Rows.primeLawsRow.domain false Rows.primeLawsRow.laid) (((OpenSpec.ofChange Rows.primeLawsSpec).at F).post enc Tryd.prog Tryd.f10 false true false false) := by
  obtain ⟨places, hx⟩ := primeLaws_reads os enc
  refine returnsInHanded_of_row (C := Tryd.checked) (s := OpenSpec.ofChange Rows.primeLawsSpec) Tryd.own started (by kernel_rfl) Tryd.func10
    (witness_row_at (enc := enc) (C := Tryd.checked) false (basesWorld os) #[.agg #[.int .u32 0, .int .u32 0, .int .u32 0, .int .u32 0]] rfl (by kernel_rfl) (by kernel_rfl) (by kernel_rfl)
      (OpenSpec.preRow_of_cond 8 hx (by kernel_rfl) (fun k hk => by cases hk) (by kernel_rfl) (primeLaws_met os))) ?_
  intro W base args ds gs before hval0 hW _ _ _ hL _ _
  have hval : ∀ (j : Nat) t v, Tryd.f10.params[j]? = some t → args[j]? = some v → Value.okWide Tryd.prog W .any base t v := hval0
  have hW' := hW
  obtain ⟨p, q, hA0, hV, rfl, _, _⟩ := hW
  have hA : DataW.TrodAll enc Tryd.prog W 0 (fun _ => true) true Tryd.f10.params.toList args.toList ds p := hA0
  rw [Tryd.params10] at hA hval
  obtain ⟨v0, d0, rfl, rfl, h0⟩ := trodAll_one hA
  obtain ⟨rfl, rfl⟩ := trodVars_none hV
  obtain ⟨w0_0, w0_1, w0_2, w0_3, y0_0, y0_1, y0_2, y0_3, _, rfl, rfl, rfl, g0_0, g0_1, g0_2, g0_3⟩ := Go.Joins.open_agg4 Tryd.underlying61 (by kernel_rfl) (by kernel_rfl) (hval 0 61 v0 rfl rfl) h0
  obtain ⟨n0_0, c0_0, rfl, wn0_0⟩ := DataW.trod_int Tryd.underlying22 g0_0
  obtain rfl := (List.cons.inj c0_0).1
  obtain ⟨k0_0, rfl, b0_0⟩ := wf_u32 wn0_0
  obtain ⟨n0_1, c0_1, rfl, wn0_1⟩ := DataW.trod_int Tryd.underlying22 g0_1
  obtain rfl := (List.cons.inj c0_1).1
  obtain ⟨k0_1, rfl, b0_1⟩ := wf_u32 wn0_1
  obtain ⟨n0_2, c0_2, rfl, wn0_2⟩ := DataW.trod_int Tryd.underlying22 g0_2
  obtain rfl := (List.cons.inj c0_2).1
  obtain ⟨k0_2, rfl, b0_2⟩ := wf_u32 wn0_2
  obtain ⟨n0_3, c0_3, rfl, wn0_3⟩ := DataW.trod_int Tryd.underlying22 g0_3
  obtain rfl := (List.cons.inj c0_3).1
  obtain ⟨k0_3, rfl, b0_3⟩ := wf_u32 wn0_3
  refine (primeLaws_walk k0_0 b0_0 k0_1 b0_1 k0_2 b0_2 k0_3 b0_3 W (bases_of hL)).mono ?_
  rintro e W' ⟨rfl, hb⟩
  refine ⟨_, rfl, law_post (f := Tryd.f10) 4 Tryd.laidOut ?_ rfl Tryd.underlying4 rfl hW' ⟨rfl, rfl, rfl⟩ hb⟩
  rw [Tryd.params10]
  intro t ht
  have hall : ([61].all fun u => Tryd.prog.readableRec u && decide (u < Tryd.prog.types.size)) = true := by kernel_rfl
  have h9 := List.all_eq_true.1 hall t (by simpa using ht)
  rw [Bool.and_eq_true, decide_eq_true_eq] at h9
  exact h9

theorem primeLaws_said : Rows.PrimeLawsSaid :=
  OpenClaim.holds_of_cond 10 Tryd.f10 rfl rfl rfl rfl rfl rfl rfl ⟨rfl, rfl, rfl, rfl, rfl⟩ rfl rfl rfl rfl rfl (by kernel_rfl) Tryd.func10 (by kernel_rfl)
    (of_decide_eq_true (by kernel_rfl)) (by unfold Func.isWrapper; first | (rw [if_pos (by decide +kernel)]; kernel_rfl) | (rw [if_neg (by decide +kernel)]; exact ⟨rfl, rfl⟩))
    (fun os started H enc _ F => by rw [OpenClaim.pre_eq_preRow]; exact primeLaws_lifted os started H enc F)

theorem primeLaws_plain (f : FuncId) (fn : Func) (hf : Tryd.pinned.checked.prog.funcNamed "simile/similelaw04.PrimeLaws" = some f) (hfn : Tryd.pinned.checked.prog.funcs[f]? = some fn) :
    false = Tryd.pinned.checked.prog.looks [] ∧ ∀ (j : Nat) t, fn.params[j]? = some t → Tryd.pinned.checked.prog.wantsStandIn t = false := by
  obtain rfl : f = 10 := Option.some.inj ((show Tryd.prog.funcNamed "simile/similelaw04.PrimeLaws" = some 10 by kernel_rfl).symm.trans hf) |>.symm
  obtain rfl : fn = Tryd.f10 := (Option.some.inj (Tryd.func10.symm.trans hfn)).symm
  refine ⟨by kernel_rfl, fun j t ht => ?_⟩
  rw [Tryd.params10] at ht
  have hall : ([61].all fun u => Tryd.pinned.checked.prog.wantsStandIn u == false) = true := by kernel_rfl
  have h9 := List.all_eq_true.1 hall t (by
    have := Array.mem_of_getElem? ht
    simpa using this)
  simpa using h9

theorem primeLaws_card : Rows.PrimeLawsCardSaid :=
  Claim7.holds_tied_plain_at .later [] _ _ _ _ primeLaws_said (fun _ h => by cases h) (by kernel_rfl) (fun _ h => by cases h) primeLaws_row_tie rfl ⟨rfl, rfl⟩ (by kernel_rfl) rfl primeLaws_plain (by kernel_rfl)
#print axioms primeLaws_card
end Go.Proofs.YtnjhppdcpjgfmaaDoor
