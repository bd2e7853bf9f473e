/- The list of bases as the program lays it, and what whole numbers that come in read as. Conditions: none. -/
import Derived.Test.YtcopkeccogpkmaaDoorPkPf1
import Derived.Test.YtcopkeccogpkmaaDoorPkPf24
import Derived.Test.YtcopkeccogpkmaaDoorCards
import Derived.Test.YtcopkeccogpkmaaDoorTie
import Derived.OpenShut
import Derived.Deep.DeepHandedRow
import Derived.Lib.LaidTab
import Derived.Carry
namespace Go.Proofs.YtcopkeccogpkmaaDoor
open Go.ChangeShapes Go.WideShapes Go.ChangeAt Go.RowKit

theorem gBases : Tryd.prog.globalNamed "simile/prime.bases" = some 0 := by kernel_rfl
theorem gBasesType : (Tryd.prog.globals[0]?).map (·.type) = some 45 := by kernel_rfl
theorem cellsBases : Tryd.prog.cellsOf 45 = 3 := by kernel_rfl
theorem cellsU32 : Tryd.prog.cellsOf 22 = 1 := by kernel_rfl

/-- What the rows' list gives. -/
theorem bases_of {W : World} (h : laidMetH Tryd.prog [("simile/prime.bases", Rows.laid_simile_prime_bases)] W) : Bases W :=
  have h : Lib.TabIs Tryd.prog W "simile/prime.bases" .u32 [2, 7, 61] := Lib.tabIs_of_head (rest := []) gBases gBasesType Tryd.underlying45 Tryd.underlying22 cellsU32 cellsBases h
  ⟨h.cell gBases 0 (by decide), h.cell gBases 1 (by decide), h.cell gBases 2 (by decide)⟩

/-- A world for the witness: the list of bases as it is laid. -/
noncomputable def basesWorld (os : Os) : World :=
  { World.holding Tryd.prog os ⟨#[], #[], []⟩ with heap := (World.holding Tryd.prog os ⟨#[], #[], []⟩).heap.modify 0 fun
      | .cells _ t frozen => .cells #[.int .u32 2, .int .u32 7, .int .u32 61] t frozen
      | o => o }

theorem wf_u32 {n : Int} (h : (Lit.int .u32 n).wf = true) : ∃ k : Nat, n = (k : Int) ∧ k < 4294967296 := by
  have h1 : IntKind.u32.min = 0 := rfl
  have h2 : IntKind.u32.max = 4294967295 := rfl
  simp only [Lit.wf, Bool.and_eq_true, decide_eq_true_eq] at h
  exact ⟨n.toNat, by omega, by omega⟩
theorem Bases.below {w w' : World} (h : Bases w) {B : Nat} (hb : Below B w w') (hB : 0 < B) : Bases w' :=
  ⟨(hb.cell (p := ⟨_, 0, none⟩) hB).trans h.1, (hb.cell (p := ⟨_, 1, none⟩) hB).trans h.2.1, (hb.cell (p := ⟨_, 2, none⟩) hB).trans h.2.2⟩
theorem Bases.dr {w w' : World} (h : Bases w) (hd : Dr w w') : Bases w' := by
  obtain ⟨n, rfl⟩ := hd
  exact h
end Go.Proofs.YtcopkeccogpkmaaDoor
