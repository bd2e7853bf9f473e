/- RatPowers returns true for any input of at most 2^20 values in all, in every memory in which the library's table is as the library lays it, and leaves its arguments as they read. Condition: the bulk of what comes in is at most 1048576, as the statement says. -/
import Derived.Test.YtbcphifjcaobfaaGreatDoorPkRp44
import Derived.Test.YtbcphifjcaobfaaGreatDoorPkRp46
import Derived.Test.YtbcphifjcaobfaaGreatDoorCards
import Derived.Test.YtbcphifjcaobfaaGreatDoorTie
import Derived.OpenShut
import Derived.Deep.DeepHandedRow
import Derived.Lib.LaidTab
import Derived.Lib.SmallJoins
import Derived.Carry
import Derived.LaidSub
namespace Go.Proofs.YtbcphifjcaobfaaGreatDoor
open Go.ChangeShapes Go.WideShapes Go.ChangeAt Go.RowKit
theorem gTab : Tryz.prog.globalNamed "math/bits.deBruijn32tab" = some 0 := by kernel_rfl
theorem gTabType : (Tryz.prog.globals[0]?).map (·.type) = some 175 := by kernel_rfl
theorem cellsTab : Tryz.prog.cellsOf 175 = 32 := by kernel_rfl
theorem cellsU8 : Tryz.prog.cellsOf 5 = 1 := by kernel_rfl
theorem tab_lits : ∀ j, j < 32 → ([0, 1, 28, 2, 29, 14, 24, 3, 30, 22, 20, 15, 25, 17, 4, 8, 31, 27, 13, 23, 21, 19, 16, 7, 26, 12, 18, 6, 11, 5, 10, 9] : List Int).getD j 0 = ((Lib.deBruijn32tab.getD j 0 : Nat) : Int) := by decide
theorem tab_of {W : World} (h : laidMetH Tryz.prog [("math/bits.deBruijn32tab", Rows.laid_math_bits_deBruijn32tab)] W) : Tab32 W :=
 have h : Lib.TabIs Tryz.prog W "math/bits.deBruijn32tab" .u8 [0, 1, 28, 2, 29, 14, 24, 3, 30, 22, 20, 15, 25, 17, 4, 8, 31, 27, 13, 23, 21, 19, 16, 7, 26, 12, 18, 6, 11, 5, 10, 9] := Lib.tabIs_of_head (rest := []) gTab gTabType Tryz.underlying175 Tryz.underlying5 cellsU8 cellsTab h
 fun j hj => by
  have hj : j < 32 := hj
  rw [h.cell gTab j hj, tab_lits j hj]
theorem Tab32.lt {W : World} (h : Tab32 W) : 0 < W.heap.size := by
 have h0 := h 0 (by decide)
 rcases Nat.lt_or_ge 0 W.heap.size with h1 | h1
 ·exact h1
 ·exfalso
  simp only [World.cell?] at h0
  rw [Array.getElem?_eq_none h1] at h0
  simp at h0
noncomputable def tabWorld (os : Os) : World :=
 { World.holding Tryz.prog os ⟨#[], #[], []⟩ with heap := (World.holding Tryz.prog os ⟨#[], #[], []⟩).heap.modify 0 fun
   | .cells _ t frozen => .cells #[.int .u8 0, .int .u8 1, .int .u8 28, .int .u8 2, .int .u8 29, .int .u8 14, .int .u8 24, .int .u8 3, .int .u8 30, .int .u8 22, .int .u8 20, .int .u8 15, .int .u8 25, .int .u8 17, .int .u8 4, .int .u8 8, .int .u8 31, .int .u8 27, .int .u8 13, .int .u8 23, .int .u8 21, .int .u8 19, .int .u8 16, .int .u8 7, .int .u8 26, .int .u8 12, .int .u8 18, .int .u8 6, .int .u8 11, .int .u8 5, .int .u8 10, .int .u8 9] t frozen
   | o => o }
theorem gTab64 : Tryz.prog.globalNamed "math/bits.deBruijn64tab" = some 1 := by kernel_rfl
theorem gTabType64 : (Tryz.prog.globals[1]?).map (·.type) = some 180 := by kernel_rfl
theorem cellsTab64 : Tryz.prog.cellsOf 180 = 64 := by kernel_rfl
theorem cellsByte : Tryz.prog.cellsOf 5 = 1 := by kernel_rfl
theorem tab64_lits : ∀ j, j < 64 → ([0, 1, 56, 2, 57, 49, 28, 3, 61, 58, 42, 50, 38, 29, 17, 4, 62, 47, 59, 36, 45, 43, 51, 22, 53, 39, 33, 30, 24, 18, 12, 5, 63, 55, 48, 27, 60, 41, 37, 16, 46, 35, 44, 21, 52, 32, 23, 11, 54, 26, 40, 15, 34, 20, 31, 10, 25, 14, 19, 9, 13, 8, 7, 6] : List Int).getD j 0 = ((Lib.deBruijn64tab.getD j 0 : Nat) : Int) := by decide
theorem tab64_of {W : World} (h : laidMetH Tryz.prog [("math/bits.deBruijn64tab", Rows.laid_math_bits_deBruijn64tab)] W) : Tab64 W :=
 have h : Lib.TabIs Tryz.prog W "math/bits.deBruijn64tab" .u8 [0, 1, 56, 2, 57, 49, 28, 3, 61, 58, 42, 50, 38, 29, 17, 4, 62, 47, 59, 36, 45, 43, 51, 22, 53, 39, 33, 30, 24, 18, 12, 5, 63, 55, 48, 27, 60, 41, 37, 16, 46, 35, 44, 21, 52, 32, 23, 11, 54, 26, 40, 15, 34, 20, 31, 10, 25, 14, 19, 9, 13, 8, 7, 6] := Lib.tabIs_of_head (rest := []) gTab64 gTabType64 Tryz.underlying180 Tryz.underlying5 cellsByte cellsTab64 h
 fun j hj => by
  have hj : j < 64 := hj
  rw [h.cell gTab64 j hj, tab64_lits j hj]
theorem Tab64.lt {W : World} (h : Tab64 W) : 1 < W.heap.size := by
 have h0 := h 0 (by decide)
 unfold World.cell? at h0
 rcases Nat.lt_or_ge 1 W.heap.size with g | g
 ·exact g
 ·simp [Array.getElem?_eq_none g] at h0
theorem laid32 {W : World} (h : laidMetH Tryz.prog Rows.ratPowersUptoRow.laid W) : laidMetH Tryz.prog [("math/bits.deBruijn32tab", Rows.laid_math_bits_deBruijn32tab)] W := by
 have h9 := h.filter (fun x => x.1 == "math/bits.deBruijn32tab")
 have e : Rows.ratPowersUptoRow.laid.filter (fun x => x.1 == "math/bits.deBruijn32tab") = [("math/bits.deBruijn32tab", Rows.laid_math_bits_deBruijn32tab)] := by kernel_rfl
 rwa [e] at h9
theorem laid64 {W : World} (h : laidMetH Tryz.prog Rows.ratPowersUptoRow.laid W) : laidMetH Tryz.prog [("math/bits.deBruijn64tab", Rows.laid_math_bits_deBruijn64tab)] W := by
 have h9 := h.filter (fun x => x.1 == "math/bits.deBruijn64tab")
 have e : Rows.ratPowersUptoRow.laid.filter (fun x => x.1 == "math/bits.deBruijn64tab") = [("math/bits.deBruijn64tab", Rows.laid_math_bits_deBruijn64tab)] := by kernel_rfl
 rwa [e] at h9
noncomputable def tabWorld64 (os : Os) : World :=
 { tabWorld os with heap := (tabWorld os).heap.modify 1 fun
   | .cells _ t frozen => .cells #[.int .u8 0, .int .u8 1, .int .u8 56, .int .u8 2, .int .u8 57, .int .u8 49, .int .u8 28, .int .u8 3, .int .u8 61, .int .u8 58, .int .u8 42, .int .u8 50, .int .u8 38, .int .u8 29, .int .u8 17, .int .u8 4, .int .u8 62, .int .u8 47, .int .u8 59, .int .u8 36, .int .u8 45, .int .u8 43, .int .u8 51, .int .u8 22, .int .u8 53, .int .u8 39, .int .u8 33, .int .u8 30, .int .u8 24, .int .u8 18, .int .u8 12, .int .u8 5, .int .u8 63, .int .u8 55, .int .u8 48, .int .u8 27, .int .u8 60, .int .u8 41, .int .u8 37, .int .u8 16, .int .u8 46, .int .u8 35, .int .u8 44, .int .u8 21, .int .u8 52, .int .u8 32, .int .u8 23, .int .u8 11, .int .u8 54, .int .u8 26, .int .u8 40, .int .u8 15, .int .u8 34, .int .u8 20, .int .u8 31, .int .u8 10, .int .u8 25, .int .u8 14, .int .u8 19, .int .u8 9, .int .u8 13, .int .u8 8, .int .u8 7, .int .u8 6] t frozen
   | o => o }
theorem ratPowers_met (os : Os) : laidMet Tryz.prog Rows.ratPowersUptoRow.laid ((tabWorld64 os).forCall (fun _ _ => 0) ⟨#[], #[.agg #[.bool false, .slice none 0 0, .bool false, .slice none 0 0], .int .i64 0], []⟩).memory :=
 laidMet_of_run' 8 (by kernel_rfl) (by kernel_rfl)
theorem ratPowers_reads (os : Os) {H : Type} (enc : TypeId × Value → H) : ∃ places, DataW.whole enc Tryz.prog ((tabWorld64 os).forCall (fun _ _ => 0) ⟨#[], #[.agg #[.bool false, .slice none 0 0, .bool false, .slice none 0 0], .int .i64 0], []⟩).memory Tryz.f6.params.toList Rows.ratPowersSpec.vars false (#[.agg #[.bool false, .slice none 0 0, .bool false, .slice none 0 0], .int .i64 0] : Array Value).toList 8 = some ([.agg [.agg [.lit (.bool false), .nil], .agg [.lit (.bool false), .nil]], .lit (.int .i64 0)], [], places) :=
 ⟨[], by kernel_rfl⟩
set_option maxRecDepth 100000 in
theorem ratPowers_lifted (os : Os) (started : os.Started) (H : Type) (enc : TypeId × Value → H) (F : Stop.Interp) :
  ReturnsInHanded {} Tryz.checked os 6 .any ((Rows.OpenSpec.upto Rows.ratPowersSpec).preRow enc Tryz.prog Tryz.f6 Rows.ratPowersUptoRow.domain false Rows.ratPowersUptoRow.laid) (((Rows.OpenSpec.upto Rows.ratPowersSpec).at F).post enc Tryz.prog Tryz.f6 false true false false) := by
 obtain ⟨places, hx⟩ := ratPowers_reads os enc
 refine returnsInHanded_of_row (C := Tryz.checked) (s := Rows.OpenSpec.upto Rows.ratPowersSpec) Tryz.own started (by kernel_rfl) Tryz.func6
  (witness_row_at (enc := enc) (C := Tryz.checked) false (tabWorld64 os) #[.agg #[.bool false, .slice none 0 0, .bool false, .slice none 0 0], .int .i64 0] rfl (by kernel_rfl) (by kernel_rfl) (by kernel_rfl)
   (OpenSpec.preRow_of_cond 8 hx (by kernel_rfl) (fun k hk => by cases hk; kernel_rfl) (by kernel_rfl) (ratPowers_met os))) ?_
 intro W base args ds gs before hval0 hW _ hcond _ hL _ _
 have hk := hcond _ rfl
 have hval : ∀ (j : Nat) t v, Tryz.f6.params[j]? = some t → args[j]? = some v → Value.okWide Tryz.prog W .any base t v := hval0
 have hW' := hW
 obtain ⟨p, q, hA0, hV, rfl, _, _⟩ := hW
 have hA : DataW.TrodAll enc Tryz.prog W 0 (fun _ => true) true Tryz.f6.params.toList args.toList ds p := hA0
 rw [Tryz.params6] at hA hval
 obtain ⟨v0, v1, d0, d1, p0, p1, rfl, rfl, rfl, h0, h1⟩ := trodAll_two hA
 obtain ⟨rfl, rfl⟩ := trodVars_none hV
 obtain ⟨g0, A0, c0, xs0, z0, e0, B0, f0, ys0, y0, rfl, H0, J0⟩ := open_rat (hval 0 27 v0 rfl rfl) h0 (fun x hx => hW'.lt x (by simp [hx])) hk (by simp)
 obtain ⟨n1, rfl, rfl, rfl, wn1⟩ := open_int Tryz.underlying3 (hval 1 3 v1 rfl rfl) h1
 refine (powers_walk5 1048576 nl9 (by decide) ⟨tab64_of (laid64 hL), (tab64_of (laid64 hL)).lt⟩ ⟨tab_of (laid32 hL), (tab_of (laid32 hL)).lt⟩ ⟨IV.of_zh H0, IV.of_zh J0⟩ n1 (wf_i64 wn1)).mono ?_
 rintro e W' ⟨rfl, hb⟩
 refine ⟨_, rfl, law_post (f := Tryz.f6) 4 Tryz.laidOut ?_ rfl Tryz.underlying4 rfl hW' ⟨rfl, rfl, rfl⟩ hb⟩
 rw [Tryz.params6]
 intro t ht
 have hall : ([27, 3].all fun u => Tryz.prog.readableRec u && decide (u < Tryz.prog.types.size)) = true := by kernel_rfl
 have h9 := List.all_eq_true.1 hall t (by simpa using ht)
 rw [Bool.and_eq_true, decide_eq_true_eq] at h9
 exact h9
theorem ratPowers_upto : Rows.RatPowersUptoSaid :=
 OpenClaim.holds_of_cond 6 Tryz.f6 rfl rfl rfl rfl rfl rfl rfl ⟨rfl, rfl, rfl, rfl, rfl⟩ rfl rfl rfl rfl rfl (by kernel_rfl) Tryz.func6 (by kernel_rfl)
  (of_decide_eq_true (by kernel_rfl)) (by unfold Func.isWrapper; first | (rw [if_pos (by decide +kernel)]; kernel_rfl) | (rw [if_neg (by decide +kernel)]; exact ⟨rfl, rfl⟩))
  (fun os started H enc _ F => by rw [OpenClaim.pre_eq_preRow]; exact ratPowers_lifted os started H enc F)
theorem ratPowers_plain (f : FuncId) (fn : Func) (hf : Tryz.pinned.checked.prog.funcNamed "simile/similelaw05.RatPowers" = some f) (hfn : Tryz.pinned.checked.prog.funcs[f]? = some fn) :
  false = Tryz.pinned.checked.prog.looks [] ∧ ∀ (j : Nat) t, fn.params[j]? = some t → Tryz.pinned.checked.prog.wantsStandIn t = false := by
 obtain rfl : f = 6 := Option.some.inj ((show Tryz.prog.funcNamed "simile/similelaw05.RatPowers" = some 6 by kernel_rfl).symm.trans hf) |>.symm
 obtain rfl : fn = Tryz.f6 := (Option.some.inj (Tryz.func6.symm.trans hfn)).symm
 refine ⟨by kernel_rfl, fun j t ht => ?_⟩
 rw [Tryz.params6] at ht
 have hall : ([27, 3].all fun u => Tryz.pinned.checked.prog.wantsStandIn u == false) = true := by kernel_rfl
 have h9 := List.all_eq_true.1 hall t (by
  have := Array.mem_of_getElem? ht
  simpa using this)
 simpa using h9
theorem ratPowersUpto_card : Rows.RatPowersUptoCardSaid :=
 Claim7.holds_tied_plain_at .later [] _ _ _ _ ratPowers_upto (fun _ h => by cases h) (by kernel_rfl) (fun _ h => by cases h) ratPowersUpto_row_tie rfl ⟨rfl, rfl⟩ (by kernel_rfl) rfl ratPowers_plain (by kernel_rfl)
#print axioms ratPowersUpto_card
end Go.Proofs.YtbcphifjcaobfaaGreatDoor