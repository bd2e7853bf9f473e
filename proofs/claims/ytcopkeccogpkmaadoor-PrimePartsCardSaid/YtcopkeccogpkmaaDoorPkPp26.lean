/- From a walk of a law to its row: a law returns true, its arguments read as they read, and nothing that was there has turned. The list of bases as the program lays it, and what whole numbers that come in read as. Conditions: none. -/
import Derived.Test.YtcopkeccogpkmaaDoorPkPp0
import Derived.Test.YtcopkeccogpkmaaDoorRows
import Derived.ProofKit
import Derived.SizedLaws
import Derived.Test.YtcopkeccogpkmaaDoorPkPp1
import Derived.Test.YtcopkeccogpkmaaDoorCards
import Derived.Test.YtcopkeccogpkmaaDoorTie
import Derived.OpenShut
import Derived.Deep.DeepHandedRow
import Derived.Lib.LaidTab
import Derived.Carry
namespace Go.Proofs.YtcopkeccogpkmaaDoor
section
open Go.ChangeShapes Go.WideShapes Go.ChangeAt Go.RowKit

theorem Tryd.own : ownKnob Tryd.prog.godebug = none := by kernel_rfl
theorem Tryd.laidOut : laidOutB Tryd.prog = true := by kernel_rfl

theorem trodAll_below {H : Type} {enc : TypeId × Value → H} {P : Program} (hl : laidOutB P = true) {W W' : World} (hb : Below W.heap.size W W') :
    ∀ (ts : List TypeId), (∀ t ∈ ts, P.readableRec t = true ∧ t < P.types.size) → ∀ (vs : List Value) (ds : List (DataW H)) (ps : List MemPlace), DataW.TrodAll enc P W 0 (fun _ => true) true ts vs ds ps → (∀ x ∈ ps, x.block < W.heap.size) →
      DataW.TrodAll enc P W' 0 (fun b => decide (b < W.heap.size)) true ts vs ds ps
  | [], _, vs, ds, ps, h, _ => by
    obtain ⟨rfl, rfl, rfl⟩ := trodAll_nil h
    exact trodAll_mk0
  | t :: ts, hr, vs, ds, ps, h, hlt => by
    obtain ⟨v, vs', d, ds', p, q, rfl, rfl, rfl, hd, hrest⟩ := trodAll_cons h
    have h1 := hr t List.mem_cons_self
    exact ⟨p, q, Below.trod hl h1.1 h1.2 hd hb (fun x hx => hlt x (List.mem_append_left _ hx)),
      trodAll_below hl hb ts (fun t ht => hr t (List.mem_cons_of_mem _ ht)) vs' ds' q hrest (fun x hx => hlt x (List.mem_append_right _ hx)), rfl⟩

/-- A law's 'post', out of 'it returned true, and all old memory is as it was'. -/
theorem law_post {H : Type} {enc : TypeId × Value → H} {P : Program} {f : Func} {s : ChangeSpec} {apart : Bool} {W W' : World} {args : Array Value} {ds : List (DataW H)} {before : List MemPlace} (tb : TypeId)
    (hl : laidOutB P = true) (hr : ∀ t ∈ f.params.toList, P.readableRec t = true ∧ t < P.types.size) (hres : f.resultTypes.toList = [tb]) (htb : P.underlying tb = some .bool) (hsv : s.vars = [])
    (hW : DataW.Whole enc P f.params.toList s.vars apart W args.toList ds [] before)
    (hfn : (s.fn H (ds ++ [])).results = [.lit (.bool true)] ∧ (s.fn H (ds ++ [])).args = ds ∧ (s.fn H (ds ++ [])).vars = [])
    (hb : Below W.heap.size W W') : s.post enc P f apart true false false W args (.bool true) W' := by
  have hW0 := hW
  obtain ⟨p, q, hA, hV, rfl, _, _⟩ := hW
  rw [hsv] at hV
  obtain ⟨_, rfl⟩ := trodVars_none hV
  have hlt : ∀ x ∈ p, x.block < W.heap.size := fun x hx => hW0.lt x (by simpa using hx)
  have hsz : f.resultTypes.size = 1 := by rw [← Array.length_toList, hres]; rfl
  refine ⟨ds, [], _, [], p, [], hW0, ?_, ?_, ?_, hb.frame _, fun h => by cases h⟩
  · rw [hfn.1, hres, hsz]
    exact trodAll_mk1 (shut_bool htb _)
  · rw [hfn.2.1]
    exact trodAll_below hl hb _ hr _ _ _ hA hlt
  · rw [hsv, hfn.2.2]; rfl
end
section
open Go.ChangeShapes Go.WideShapes Go.ChangeAt Go.RowKit

theorem gBases : Tryd.prog.globalNamed "simile/prime.bases" = some 0 := by kernel_rfl
theorem gBasesType : (Tryd.prog.globals[0]?).map (·.type) = some 45 := by kernel_rfl
theorem cellsBases : Tryd.prog.cellsOf 45 = 3 := by kernel_rfl
theorem cellsU32 : Tryd.prog.cellsOf 22 = 1 := by kernel_rfl

/-- What the rows' list gives. -/
theorem bases_of {W : World} (h : laidMetH Tryd.prog [("simile/prime.bases", Rows.laid_simile_prime_bases)] W) : Bases W :=
  have h : Lib.TabIs Tryd.prog W "simile/prime.bases" .u32 [2, 7, 61] := Lib.tabIs_of_head (rest := []) gBases gBasesType Tryd.underlying45 Tryd.underlying22 cellsU32 cellsBases h
  ⟨h.cell gBases 0 (by decide), h.cell gBases 1 (by decide), h.cell gBases 2 (by decide)⟩

/-- A world for the witness: the list of bases as it is laid. -/
noncomputable def basesWorld (os : Os) : World :=
  { World.holding Tryd.prog os ⟨#[], #[], []⟩ with heap := (World.holding Tryd.prog os ⟨#[], #[], []⟩).heap.modify 0 fun
      | .cells _ t frozen => .cells #[.int .u32 2, .int .u32 7, .int .u32 61] t frozen
      | o => o }

theorem wf_u32 {n : Int} (h : (Lit.int .u32 n).wf = true) : ∃ k : Nat, n = (k : Int) ∧ k < 4294967296 := by
  have h1 : IntKind.u32.min = 0 := rfl
  have h2 : IntKind.u32.max = 4294967295 := rfl
  simp only [Lit.wf, Bool.and_eq_true, decide_eq_true_eq] at h
  exact ⟨n.toNat, by omega, by omega⟩
theorem Bases.below {w w' : World} (h : Bases w) {B : Nat} (hb : Below B w w') (hB : 0 < B) : Bases w' :=
  ⟨(hb.cell (p := ⟨_, 0, none⟩) hB).trans h.1, (hb.cell (p := ⟨_, 1, none⟩) hB).trans h.2.1, (hb.cell (p := ⟨_, 2, none⟩) hB).trans h.2.2⟩
end
end Go.Proofs.YtcopkeccogpkmaaDoor
