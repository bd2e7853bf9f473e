/- PrimeLists returns true for every input, in every memory in which the bases are as the program lays them. No further condition. -/
import Derived.Test.YtnjhppdcpjgfmaaDoorListsB
import Derived.Test.YtnjhppdcpjgfmaaDoorLaid
import Derived.Lib.SmallJoins
namespace Go.Proofs.YtnjhppdcpjgfmaaDoor
open Go.ChangeShapes Go.WideShapes Go.ChangeAt Go.RowKit

theorem primeLists_met (os : Os) : laidMet Tryd.prog Rows.primeListsRow.laid ((basesWorld os).forCall (fun _ _ => 0) ⟨#[], #[.int .u32 0, .int .i64 0, .agg #[.bool false, .int .u32 0, .int .u32 0]], []⟩).memory :=
  laidMet_of_run' 8 (by kernel_rfl) (by kernel_rfl)
theorem primeLists_reads (os : Os) {H : Type} (enc : TypeId × Value → H) : ∃ places, DataW.whole enc Tryd.prog ((basesWorld os).forCall (fun _ _ => 0) ⟨#[], #[.int .u32 0, .int .i64 0, .agg #[.bool false, .int .u32 0, .int .u32 0]], []⟩).memory Tryd.f4.params.toList Rows.primeListsSpec.vars false (#[.int .u32 0, .int .i64 0, .agg #[.bool false, .int .u32 0, .int .u32 0]] : Array Value).toList 8 = some ([.lit (.int .u32 0), .lit (.int .i64 0), .agg [.lit (.bool false), .lit (.int .u32 0), .lit (.int .u32 0)]], [], places) :=
  ⟨[], by kernel_rfl⟩

set_option maxRecDepth 100000 in
theorem primeLists_lifted (os : Os) (started : os.Started) (H : Type) (enc : TypeId × Value → H) (F : Stop.Interp) :
    ReturnsInHanded {} Tryd.checked os 4 .any ((OpenSpec.ofChange Rows.primeListsSpec).preRow enc Tryd.prog Tryd.f4 Rows.primeListsRow.domain false Rows.primeListsRow.laid) (((OpenSpec.ofChange Rows.primeListsSpec).at F).post enc Tryd.prog Tryd.f4 false true false false) := by
  obtain ⟨places, hx⟩ := primeLists_reads os enc
  refine returnsInHanded_of_row (C := Tryd.checked) (s := OpenSpec.ofChange Rows.primeListsSpec) Tryd.own started (by kernel_rfl) Tryd.func4
    (witness_row_at (enc := enc) (C := Tryd.checked) false (basesWorld os) #[.int .u32 0, .int .i64 0, .agg #[.bool false, .int .u32 0, .int .u32 0]] rfl (by kernel_rfl) (by kernel_rfl) (by kernel_rfl)
      (OpenSpec.preRow_of_cond 8 hx (by kernel_rfl) (fun k hk => by cases hk) (by kernel_rfl) (primeLists_met os))) ?_
  intro W base args ds gs before hval0 hW _ _ _ hL _ _
  have hval : ∀ (j : Nat) t v, Tryd.f4.params[j]? = some t → args[j]? = some v → Value.okWide Tryd.prog W .any base t v := hval0
  have hW' := hW
  obtain ⟨p, q, hA0, hV, rfl, _, _⟩ := hW
  have hA : DataW.TrodAll enc Tryd.prog W 0 (fun _ => true) true Tryd.f4.params.toList args.toList ds p := hA0
  rw [Tryd.params4] at hA hval
  obtain ⟨v0, v1, v2, d0, d1, d2, p0, p1, p2, rfl, rfl, rfl, h0, h1, h2⟩ := trodAll_three hA
  obtain ⟨rfl, rfl⟩ := trodVars_none hV
  obtain ⟨n0, rfl, rfl, rfl, wn0⟩ := open_int Tryd.underlying22 (hval 0 22 v0 rfl rfl) h0
  obtain ⟨k0, rfl, b0⟩ := wf_u32 wn0
  obtain ⟨n1, rfl, rfl, rfl, wn1⟩ := open_int Tryd.underlying3 (hval 1 3 v1 rfl rfl) h1
  obtain ⟨w2_0, w2_1, w2_2, y2_0, y2_1, y2_2, _, rfl, rfl, rfl, g2_0, g2_1, g2_2⟩ := Go.Joins.open_agg3 Tryd.underlying28 (by kernel_rfl) (by kernel_rfl) (hval 2 28 v2 rfl rfl) h2
  obtain ⟨n2_0, c2_0, rfl⟩ := DataW.trod_bool Tryd.underlying4 g2_0
  obtain rfl := (List.cons.inj c2_0).1
  obtain ⟨n2_1, c2_1, rfl, wn2_1⟩ := DataW.trod_int Tryd.underlying22 g2_1
  obtain rfl := (List.cons.inj c2_1).1
  obtain ⟨k2_1, rfl, b2_1⟩ := wf_u32 wn2_1
  obtain ⟨n2_2, c2_2, rfl, wn2_2⟩ := DataW.trod_int Tryd.underlying22 g2_2
  obtain rfl := (List.cons.inj c2_2).1
  obtain ⟨k2_2, rfl, b2_2⟩ := wf_u32 wn2_2
  refine (primeLists_walk k0 b0 n1 (wf_i64 wn1) n2_0 k2_1 b2_1 k2_2 b2_2 W (bases_of hL)).mono ?_
  rintro e W' ⟨rfl, hb⟩
  refine ⟨_, rfl, law_post (f := Tryd.f4) 4 Tryd.laidOut ?_ rfl Tryd.underlying4 rfl hW' ⟨rfl, rfl, rfl⟩ hb⟩
  rw [Tryd.params4]
  intro t ht
  have hall : ([22, 3, 28].all fun u => Tryd.prog.readableRec u && decide (u < Tryd.prog.types.size)) = true := by kernel_rfl
  have h9 := List.all_eq_true.1 hall t (by simpa using ht)
  rw [Bool.and_eq_true, decide_eq_true_eq] at h9
  exact h9

theorem primeLists_said : Rows.PrimeListsSaid :=
  OpenClaim.holds_of_cond 4 Tryd.f4 rfl rfl rfl rfl rfl rfl rfl ⟨rfl, rfl, rfl, rfl, rfl⟩ rfl rfl rfl rfl rfl (by kernel_rfl) Tryd.func4 (by kernel_rfl)
    (of_decide_eq_true (by kernel_rfl)) (by unfold Func.isWrapper; first | (rw [if_pos (by decide +kernel)]; kernel_rfl) | (rw [if_neg (by decide +kernel)]; exact ⟨rfl, rfl⟩))
    (fun os started H enc _ F => by rw [OpenClaim.pre_eq_preRow]; exact primeLists_lifted os started H enc F)

theorem primeLists_plain (f : FuncId) (fn : Func) (hf : Tryd.pinned.checked.prog.funcNamed "simile/similelaw04.PrimeLists" = some f) (hfn : Tryd.pinned.checked.prog.funcs[f]? = some fn) :
    false = Tryd.pinned.checked.prog.looks [] ∧ ∀ (j : Nat) t, fn.params[j]? = some t → Tryd.pinned.checked.prog.wantsStandIn t = false := by
  obtain rfl : f = 4 := Option.some.inj ((show Tryd.prog.funcNamed "simile/similelaw04.PrimeLists" = some 4 by kernel_rfl).symm.trans hf) |>.symm
  obtain rfl : fn = Tryd.f4 := (Option.some.inj (Tryd.func4.symm.trans hfn)).symm
  refine ⟨by kernel_rfl, fun j t ht => ?_⟩
  rw [Tryd.params4] at ht
  have hall : ([22, 3, 28].all fun u => Tryd.pinned.checked.prog.wantsStandIn u == false) = true := by kernel_rfl
  have h9 := List.all_eq_true.1 hall t (by
    have := Array.mem_of_getElem? ht
    simpa using this)
  simpa using h9

theorem primeLists_card : Rows.PrimeListsCardSaid :=
  Claim7.holds_tied_plain_at .later [] _ _ _ _ primeLists_said (fun _ h => by cases h) (by kernel_rfl) (fun _ h => by cases h) primeLists_row_tie rfl ⟨rfl, rfl⟩ (by kernel_rfl) rfl primeLists_plain (by kernel_rfl)
#print axioms primeLists_card
end Go.Proofs.YtnjhppdcpjgfmaaDoor
