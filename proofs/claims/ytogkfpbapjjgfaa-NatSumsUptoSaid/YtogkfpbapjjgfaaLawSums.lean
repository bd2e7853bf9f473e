/- NatSums returns true for any two numbers of at most 2^20 values in all, and leaves its arguments as they read. Condition: the bulk of what comes in is at most 1048576, as the statement says. -/
import Derived.Test.YtogkfpbapjjgfaaSumsW
import Derived.Test.YtogkfpbapjjgfaaOpenU
namespace Go.Proofs.Ytogkfpbapjjgfaa
open Go.ChangeShapes Go.WideShapes Go.ChangeAt Go.RowKit

set_option maxRecDepth 100000 in
theorem natSums_lifted (os : Os) (started : os.Started) (H : Type) (enc : TypeId × Value → H) (F : Stop.Interp) :
    ReturnsInHanded {} Try.checked os 4 .any ((Rows.OpenSpec.upto Rows.natSumsSpec).pre6 enc Try.prog Try.f4 Rows.natSumsUptoRow.domain false) (((Rows.OpenSpec.upto Rows.natSumsSpec).at F).post enc Try.prog Try.f4 false true false false) := by
  refine returnsInHanded_of_cond (C := Try.checked) (s := Rows.OpenSpec.upto Rows.natSumsSpec) (k := Rows.uptoSmall) rfl Try.own started (by kernel_rfl) Try.func4
    (OpenSpec.witness (enc := enc) (C := Try.checked) (s := Rows.OpenSpec.upto Rows.natSumsSpec) (k := Rows.uptoSmall) rfl false ⟨#[], #[.slice none 0 0, .slice none 0 0], []⟩ 8 (by kernel_rfl) (by kernel_rfl) (by kernel_rfl)
      (x := ([.nil, .nil], [], [])) (by kernel_rfl) rfl (by kernel_rfl)) ?_
  intro W base args ds gs before hval0 hW _ hk _
  have hval : ∀ (j : Nat) t v, Try.f4.params[j]? = some t → args[j]? = some v → Value.okWide Try.prog W .any base t v := hval0
  have hW' := hW
  obtain ⟨p, q, hA0, hV, rfl, _, _⟩ := hW
  have hA : DataW.TrodAll enc Try.prog W 0 (fun _ => true) true Try.f4.params.toList args.toList ds p := hA0
  rw [Try.params4] at hA hval
  obtain ⟨v0, v1, d0, d1, p0, p1, rfl, rfl, rfl, h0, h1⟩ := trodAll_two hA
  obtain ⟨rfl, rfl⟩ := trodVars_none hV
  have hlt0 : ∀ x ∈ p0, x.block < W.heap.size := fun x hx => hW'.lt x (by simp [hx])
  have hlt1 : ∀ x ∈ p1, x.block < W.heap.size := fun x hx => hW'.lt x (by simp [hx])
  obtain ⟨A, c, xs, rfl, hc, hd, hr, hm⟩ := open_nat_le (hval 0 24 v0 rfl rfl) h0 hlt0 1048576 (by omega) (small_slice hk (by simp))
  obtain ⟨A2, c2, ys, rfl, hc2, hd2, hr2, hm2⟩ := open_nat_le (hval 1 24 v1 rfl rfl) h1 hlt1 1048576 (by omega) (small_slice hk (by simp))
  refine (natSums_any A A2 c c2 xs ys W hr hr2 hd hd2 hc hc2 hm hm2).mono ?_
  rintro e W' ⟨rfl, hb⟩
  refine ⟨_, rfl, law_post (f := Try.f4) 4 Try.laidOut ?_ rfl Try.underlying4 rfl hW' ⟨rfl, rfl, rfl⟩ hb⟩
  rw [Try.params4]
  intro t ht
  have hall : ([24, 24].all fun u => Try.prog.readableRec u && decide (u < Try.prog.types.size)) = true := by kernel_rfl
  have h9 := List.all_eq_true.1 hall t (by simpa using ht)
  rw [Bool.and_eq_true, decide_eq_true_eq] at h9
  exact h9

theorem natSums_upto : Rows.NatSumsUptoSaid :=
  OpenClaim.holds_of_cond 4 Try.f4 rfl rfl rfl rfl rfl rfl rfl ⟨rfl, rfl, rfl, rfl, rfl⟩ rfl rfl rfl rfl rfl (by kernel_rfl) Try.func4 (by kernel_rfl)
    (of_decide_eq_true (by kernel_rfl)) (by unfold Func.isWrapper; first | (rw [if_pos (by decide +kernel)]; kernel_rfl) | (rw [if_neg (by decide +kernel)]; exact ⟨rfl, rfl⟩))
    (fun os started H enc _ F => natSums_lifted os started H enc F)
#print axioms natSums_upto
end Go.Proofs.Ytogkfpbapjjgfaa
