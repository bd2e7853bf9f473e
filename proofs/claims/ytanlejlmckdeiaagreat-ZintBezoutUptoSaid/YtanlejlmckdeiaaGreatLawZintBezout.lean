/- ZintBezout returns true for any input of at most 2^20 values in all, and leaves its arguments as they read. Condition: the bulk of what comes in is at most 1048576, as the statement says. -/
import Derived.Test.YtanlejlmckdeiaaGreatPkZb7
import Derived.Test.YtanlejlmckdeiaaGreatPkZd38
namespace Go.Proofs.YtanlejlmckdeiaaGreat
open Go.ChangeShapes Go.WideShapes Go.ChangeAt Go.RowKit

set_option maxRecDepth 100000 in
theorem zintBezout_lifted (os : Os) (started : os.Started) (H : Type) (enc : TypeId × Value → H) (F : Stop.Interp) :
    ReturnsInHanded {} Tryz.checked os 6 .any ((Rows.OpenSpec.upto Rows.zintBezoutSpec).pre6 enc Tryz.prog Tryz.f6 Rows.zintBezoutUptoRow.domain false) (((Rows.OpenSpec.upto Rows.zintBezoutSpec).at F).post enc Tryz.prog Tryz.f6 false true false false) := by
  refine returnsInHanded_of_cond (C := Tryz.checked) (s := Rows.OpenSpec.upto Rows.zintBezoutSpec) (k := Rows.uptoSmall) rfl Tryz.own started (by kernel_rfl) Tryz.func6
    (OpenSpec.witness (enc := enc) (C := Tryz.checked) (s := Rows.OpenSpec.upto Rows.zintBezoutSpec) (k := Rows.uptoSmall) rfl false ⟨#[], #[.agg #[.bool false, .slice none 0 0], .agg #[.bool false, .slice none 0 0]], []⟩ 8 (by kernel_rfl) (by kernel_rfl) (by kernel_rfl)
      (x := ([.agg [.lit (.bool false), .nil], .agg [.lit (.bool false), .nil]], [], [])) (by kernel_rfl) rfl (by kernel_rfl)) ?_
  intro W base args ds gs before hval0 hW _ hk _
  have hval : ∀ (j : Nat) t v, Tryz.f6.params[j]? = some t → args[j]? = some v → Value.okWide Tryz.prog W .any base t v := hval0
  have hW' := hW
  obtain ⟨p, q, hA0, hV, rfl, _, _⟩ := hW
  have hA : DataW.TrodAll enc Tryz.prog W 0 (fun _ => true) true Tryz.f6.params.toList args.toList ds p := hA0
  rw [Tryz.params6] at hA hval
  obtain ⟨v0, v1, d0, d1, p0, p1, rfl, rfl, rfl, h0, h1⟩ := trodAll_two hA
  obtain ⟨rfl, rfl⟩ := trodVars_none hV
  obtain ⟨g0, A0, c0, xs0, z0, rfl, H0⟩ := open_zint (hval 0 25 v0 rfl rfl) h0 (fun x hx => hW'.lt x (by simp [hx])) hk (by simp)
  obtain ⟨g1, A1, c1, xs1, z1, rfl, H1⟩ := open_zint (hval 1 25 v1 rfl rfl) h1 (fun x hx => hW'.lt x (by simp [hx])) hk (by simp)
  refine (bezout_walk 1048576 (Nat.le_refl _) (by omega) H0 H1).mono ?_
  rintro e W' ⟨rfl, hb⟩
  refine ⟨_, rfl, law_post (f := Tryz.f6) 4 Tryz.laidOut ?_ rfl Tryz.underlying4 rfl hW' ⟨rfl, rfl, rfl⟩ hb⟩
  rw [Tryz.params6]
  intro t ht
  have hall : ([25, 25].all fun u => Tryz.prog.readableRec u && decide (u < Tryz.prog.types.size)) = true := by kernel_rfl
  have h9 := List.all_eq_true.1 hall t (by simpa using ht)
  rw [Bool.and_eq_true, decide_eq_true_eq] at h9
  exact h9

theorem zintBezout_upto : Rows.ZintBezoutUptoSaid :=
  OpenClaim.holds_of_cond 6 Tryz.f6 rfl rfl rfl rfl rfl rfl rfl ⟨rfl, rfl, rfl, rfl, rfl⟩ rfl rfl rfl rfl rfl (by kernel_rfl) Tryz.func6 (by kernel_rfl)
    (of_decide_eq_true (by kernel_rfl)) (by unfold Func.isWrapper; first | (rw [if_pos (by decide +kernel)]; kernel_rfl) | (rw [if_neg (by decide +kernel)]; exact ⟨rfl, rfl⟩))
    (fun os started H enc _ F => zintBezout_lifted os started H enc F)
#print axioms zintBezout_upto
end Go.Proofs.YtanlejlmckdeiaaGreat
