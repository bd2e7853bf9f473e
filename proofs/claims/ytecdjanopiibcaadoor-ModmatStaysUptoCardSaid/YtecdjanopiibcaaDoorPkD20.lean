/- What the bound on the whole input gives. No conditions. A matrix that comes in as a slice of rows: what its reading says, and its sizes where what comes in is of small bulk. Condition: the bulk. From a walk of a law to its row: a law returns true, its arguments read as they read, and nothing that was there has turned. The list of bases as the program lays it, and what whole numbers that come in read as. Conditions: none. -/
import Derived.Test.YtecdjanopiibcaaDoorRows
import Derived.ProofKit
import Derived.SizedLaws
import Derived.Test.YtecdjanopiibcaaDoorPkD0
import Derived.Deep.Matrix
import Derived.Test.YtecdjanopiibcaaDoorPkD2
import Derived.Test.YtecdjanopiibcaaDoorCards
import Derived.Test.YtecdjanopiibcaaDoorTie
import Derived.OpenShut
import Derived.Deep.DeepHandedRow
import Derived.Lib.LaidTab
import Derived.Carry
namespace Go.Proofs.YtecdjanopiibcaaDoor
section
open Go

theorem bulk_one {H : Type} (d : DataW H) : 1 ≤ Rows.uptoBulk d := by
  cases d with
  | lit l => cases l <;> simp only [Rows.uptoBulk] <;> omega
  | _ => simp only [Rows.uptoBulk]; omega
theorem bulk_len {H : Type} (l : List (DataW H)) : l.length ≤ Rows.uptoBulkAll l := by
  induction l with
  | nil => simp only [List.length_nil]; omega
  | cons x l ih => have := bulk_one x; simp only [Rows.uptoBulkAll, List.length_cons]; omega
theorem bulk_part {H : Type} {d : DataW H} {l : List (DataW H)} (h : d ∈ l) : Rows.uptoBulk d ≤ Rows.uptoBulkAll l := by
  induction l with
  | nil => cases h
  | cons x l ih =>
    simp only [Rows.uptoBulkAll]
    rcases List.mem_cons.1 h with rfl | h
    · omega
    · have := ih h; omega
/-- A slice among data of small bulk has few places. -/
theorem small_slice {H : Type} {l : List (DataW H)} {d : DataW H} (hk : Rows.uptoSmall H l = true) (hd : d ∈ l) : ∀ elems spare, d = .slice elems spare → elems.length + spare.length ≤ 1048576 := fun elems spare e => by
  have h1 : Rows.uptoBulkAll l ≤ 1048576 := of_decide_eq_true hk
  have h2 := bulk_part hd
  subst e
  have h3 := bulk_len elems
  have h4 := bulk_len spare
  have h5 : Rows.uptoBulk (DataW.slice elems spare) = Rows.uptoBulkAll elems + Rows.uptoBulkAll spare + 1 := by simp only [Rows.uptoBulk]
  omega
end
section
open Go.ChangeShapes Go.WideShapes Go.ChangeAt Go.RowKit

theorem Tryd.cellsM32 : Tryd.prog.cellsOf 28 = 1 := by kernel_rfl
theorem wfm_u32 {n : Int} (h : (Lit.int .u32 n).wf = true) : 0 ≤ n ∧ n < 4294967296 := by
  have h1 : IntKind.u32.min = 0 := rfl
  have h2 : IntKind.u32.max = 4294967295 := rfl
  simp only [Lit.wf, Bool.and_eq_true, decide_eq_true_eq] at h
  omega
theorem Tryd.cellsRow : Tryd.prog.cellsOf 37 = 1 := by kernel_rfl
theorem bulk_row {H : Type} {k : IntKind} {A : Option Addr} {L : Nat} {Z : List Int} (hA : A ≠ none) (hL : L ≤ Z.length) : L ≤ Rows.uptoBulk (Deep.intRow (H := H) k A L Z) := by
  cases A with
  | none => exact absurd rfl hA
  | some a =>
    have h1 := bulk_len (lits (H := H) k (Z.take L))
    have h2 : (lits (H := H) k (Z.take L)).length = L := by simp [lits]; omega
    simp only [Deep.intRow, Rows.uptoBulk]
    omega

set_option maxHeartbeats 800000 in
theorem open_mat {H : Type} {enc : TypeId × Value → H} {W : World} {r : Reach} {b0 : Nat} {v : Value} {d : DataW H} {p : List MemPlace} {l : List (DataW H)} (hval : Value.okWide Tryd.prog W r b0 26 v) (h : DataW.Trod enc Tryd.prog W 0 (fun _ => true) true 26 v d p)
    (hlt : ∀ x ∈ p, x.block < W.heap.size) (hk : Rows.uptoSmall H l = true) (hd : d ∈ l) :
    ∃ (A : Option Addr) (c : Nat) (M : List (List Nat)), v = .slice A M.length c ∧ M.length ≤ c ∧ DigM 4294967296 M ∧ RdM W W.heap.size A M ∧ M.length ≤ 1048576 ∧ ∀ x ∈ M, x.length ≤ 1048576 := by
  obtain ⟨a0, len, cap, rfl⟩ := okWide_slice Tryd.underlying26 hval
  obtain ⟨fuel, hf⟩ := h
  rcases Deep.open_int_rows Tryd.underlying26 Tryd.underlying37 Tryd.underlying28 Tryd.cellsRow Tryd.cellsM32 hf with ⟨hcs, hx⟩ | ⟨a, len', cap', A, L, C, Z, hcs, _, hl, hm, hx, hrow⟩
  · simp [Value.cells] at hcs
    obtain ⟨rfl, rfl, rfl⟩ := hcs
    exact ⟨none, 0, [], rfl, Nat.le_refl _, (fun _ h => by cases h), RdM.nil_, by simp, fun _ h => by cases h⟩
  · simp [Value.cells] at hcs
    obtain ⟨rfl, rfl, rfl⟩ := hcs
    simp only [Prod.mk.injEq] at hx
    obtain ⟨rfl, rfl⟩ := hx
    have hsz := small_slice hk hd _ _ rfl
    simp only [List.length_map, List.length_range] at hsz
    have hrl : ∀ i, i < len → (((Z i).take (L i)).map Int.toNat).length = L i := fun i hi => by
      obtain ⟨_, h1, _, h2, _⟩ := hrow i (by omega)
      rw [List.length_map, List.length_take]; omega
    have hbulk : ∀ i, i < len → L i ≤ 1048576 := fun i hi => by
      obtain ⟨_, h1, _, h2, _, h3, _⟩ := hrow i (by omega)
      by_cases hA : A i = none
      · have := h3 hA; omega
      · have h4 : Rows.uptoBulkAll l ≤ 1048576 := of_decide_eq_true hk
        have h5 := bulk_part hd
        have h6 : Deep.intRow (H := H) .u32 (A i) (L i) (Z i) ∈ (List.range len).map fun r => Deep.intRow (H := H) .u32 (A r) (L r) (Z r) := List.mem_map.2 ⟨i, List.mem_range.2 hi, rfl⟩
        have h7 := bulk_part h6
        have h8 := bulk_row (H := H) (k := .u32) (Z := Z i) hA (by omega : L i ≤ (Z i).length)
        simp only [Rows.uptoBulk] at h5
        omega
    have hlen : ((List.range len).map fun i => ((Z i).take (L i)).map Int.toNat).length = len := by simp
    have hget : ∀ i (h : i < ((List.range len).map fun i => ((Z i).take (L i)).map Int.toNat).length), ((List.range len).map fun i => ((Z i).take (L i)).map Int.toNat)[i] = ((Z i).take (L i)).map Int.toNat := fun i h => by simp
    refine ⟨some a, cap, (List.range len).map fun i => ((Z i).take (L i)).map Int.toNat, by rw [hlen], by rw [hlen]; exact hl, fun x hx y hy => ?_, fun hn => ?_, by rw [hlen]; omega, fun x hx => ?_⟩
    · obtain ⟨i, hi, rfl⟩ := List.mem_map.1 hx
      obtain ⟨z, hz, rfl⟩ := List.mem_map.1 hy
      have hi : i < len := List.mem_range.1 hi
      obtain ⟨_, _, _, _, h4, _⟩ := hrow i (by omega)
      have := wfm_u32 (h4 z (List.mem_of_mem_take hz))
      omega
    · have hl0 : 0 < len := by
        rcases Nat.eq_zero_or_pos len with h0 | h0
        · subst h0; simp at hn
        · exact h0
      obtain ⟨b, off, spot⟩ := a
      have hspot : spot = none := by simpa [Addr.add] using World.cell?_spot (hrow 0 (by omega)).1
      subst hspot
      have hbW : b < W.heap.size := hlt (.cell b off) (List.mem_append_left _ (MemPlace.mem_row.2 ⟨0, by omega, by simp⟩))
      refine ⟨b, off, rfl, hbW, fun i hi => ?_⟩
      have hi2 : i < len := by rw [hlen] at hi; exact hi
      obtain ⟨h1, h2, h3, h4, h5, h6, h7⟩ := hrow i (by omega)
      rw [show (⟨b, off, none⟩ : Addr).add i = ⟨b, off + i, none⟩ from by unfold Addr.add; split <;> simp_all] at h1
      refine ⟨A i, C i, by rw [hget i hi, hrl i hi2]; exact h1, by rw [hget i hi, hrl i hi2]; exact h2, by rw [hget i hi, hrl i hi2]; have := hbulk i hi2; omega, ?_⟩
      rw [hget i hi]
      intro hn2
      have hLi : 0 < L i := by
        rcases Nat.eq_zero_or_pos (L i) with h0 | h0
        · rw [h0] at hn2; simp [u32s] at hn2
        · exact h0
      cases hA : A i with
      | none => have := h6 hA; omega
      | some a' =>
        obtain ⟨_, h8⟩ := h7 a' hA
        obtain ⟨b2, off2, spot2⟩ := a'
        have hspot2 : spot2 = none := by simpa [Addr.add] using World.cell?_spot (h8 0 (by omega))
        subst hspot2
        have hb2 : b2 < W.heap.size := hlt (.cell b2 off2) (List.mem_append_right _ (List.mem_flatMap.2 ⟨i, List.mem_range.2 (by omega), by
          rw [hA]; exact MemPlace.mem_row.2 ⟨0, by omega, by simp⟩⟩))
        refine ⟨b2, off2, rfl, hb2, fun k u hu => ?_⟩
        have hk2 : k < L i := by
          have := (List.getElem?_eq_some_iff.1 hu).1
          rw [u32s_length, hrl i hi2] at this
          exact this
        have h9 := h8 k (by omega)
        rw [show (⟨b2, off2, none⟩ : Addr).add k = ⟨b2, off2 + k, none⟩ from by unfold Addr.add; split <;> simp_all] at h9
        rw [h9, ← hu, u32s_at (by rw [hrl i hi2]; exact hk2)]
        have hkz : k < (Z i).length := by omega
        have := wfm_u32 (h5 (Z i)[k] (List.getElem_mem hkz))
        simp [List.getD, List.getElem?_eq_getElem hkz]
        omega
    · obtain ⟨i, hi, rfl⟩ := List.mem_map.1 hx
      have hi : i < len := List.mem_range.1 hi
      rw [hrl i hi]
      exact hbulk i hi
end
section
open Go.ChangeShapes Go.WideShapes Go.ChangeAt Go.RowKit

theorem Tryd.own : ownKnob Tryd.prog.godebug = none := by kernel_rfl
theorem Tryd.laidOut : laidOutB Tryd.prog = true := by kernel_rfl

theorem trodAll_below {H : Type} {enc : TypeId × Value → H} {P : Program} (hl : laidOutB P = true) {W W' : World} (hb : Below W.heap.size W W') :
    ∀ (ts : List TypeId), (∀ t ∈ ts, P.readableRec t = true ∧ t < P.types.size) → ∀ (vs : List Value) (ds : List (DataW H)) (ps : List MemPlace), DataW.TrodAll enc P W 0 (fun _ => true) true ts vs ds ps → (∀ x ∈ ps, x.block < W.heap.size) →
      DataW.TrodAll enc P W' 0 (fun b => decide (b < W.heap.size)) true ts vs ds ps
  | [], _, vs, ds, ps, h, _ => by
    obtain ⟨rfl, rfl, rfl⟩ := trodAll_nil h
    exact trodAll_mk0
  | t :: ts, hr, vs, ds, ps, h, hlt => by
    obtain ⟨v, vs', d, ds', p, q, rfl, rfl, rfl, hd, hrest⟩ := trodAll_cons h
    have h1 := hr t List.mem_cons_self
    exact ⟨p, q, Below.trod hl h1.1 h1.2 hd hb (fun x hx => hlt x (List.mem_append_left _ hx)),
      trodAll_below hl hb ts (fun t ht => hr t (List.mem_cons_of_mem _ ht)) vs' ds' q hrest (fun x hx => hlt x (List.mem_append_right _ hx)), rfl⟩

/-- A law's 'post', out of 'it returned true, and all old memory is as it was'. -/
theorem law_post {H : Type} {enc : TypeId × Value → H} {P : Program} {f : Func} {s : ChangeSpec} {apart : Bool} {W W' : World} {args : Array Value} {ds : List (DataW H)} {before : List MemPlace} (tb : TypeId)
    (hl : laidOutB P = true) (hr : ∀ t ∈ f.params.toList, P.readableRec t = true ∧ t < P.types.size) (hres : f.resultTypes.toList = [tb]) (htb : P.underlying tb = some .bool) (hsv : s.vars = [])
    (hW : DataW.Whole enc P f.params.toList s.vars apart W args.toList ds [] before)
    (hfn : (s.fn H (ds ++ [])).results = [.lit (.bool true)] ∧ (s.fn H (ds ++ [])).args = ds ∧ (s.fn H (ds ++ [])).vars = [])
    (hb : Below W.heap.size W W') : s.post enc P f apart true false false W args (.bool true) W' := by
  have hW0 := hW
  obtain ⟨p, q, hA, hV, rfl, _, _⟩ := hW
  rw [hsv] at hV
  obtain ⟨_, rfl⟩ := trodVars_none hV
  have hlt : ∀ x ∈ p, x.block < W.heap.size := fun x hx => hW0.lt x (by simpa using hx)
  have hsz : f.resultTypes.size = 1 := by rw [← Array.length_toList, hres]; rfl
  refine ⟨ds, [], _, [], p, [], hW0, ?_, ?_, ?_, hb.frame _, fun h => by cases h⟩
  · rw [hfn.1, hres, hsz]
    exact trodAll_mk1 (shut_bool htb _)
  · rw [hfn.2.1]
    exact trodAll_below hl hb _ hr _ _ _ hA hlt
  · rw [hsv, hfn.2.2]; rfl
end
section
open Go.ChangeShapes Go.WideShapes Go.ChangeAt Go.RowKit

theorem gBases : Tryd.prog.globalNamed "simile/prime.bases" = some 0 := by kernel_rfl
theorem gBasesType : (Tryd.prog.globals[0]?).map (·.type) = some 88 := by kernel_rfl
theorem cellsBases : Tryd.prog.cellsOf 88 = 3 := by kernel_rfl
theorem cellsU32 : Tryd.prog.cellsOf 28 = 1 := by kernel_rfl

/-- What the rows' list gives. -/
theorem bases_of {W : World} (h : laidMetH Tryd.prog [("simile/prime.bases", Rows.laid_simile_prime_bases)] W) : Bases W :=
  have h : Lib.TabIs Tryd.prog W "simile/prime.bases" .u32 [2, 7, 61] := Lib.tabIs_of_head (rest := []) gBases gBasesType Tryd.underlying88 Tryd.underlying28 cellsU32 cellsBases h
  ⟨h.cell gBases 0 (by decide), h.cell gBases 1 (by decide), h.cell gBases 2 (by decide)⟩

/-- A world for the witness: the list of bases as it is laid. -/
noncomputable def basesWorld (os : Os) : World :=
  { World.holding Tryd.prog os ⟨#[], #[], []⟩ with heap := (World.holding Tryd.prog os ⟨#[], #[], []⟩).heap.modify 0 fun
      | .cells _ t frozen => .cells #[.int .u32 2, .int .u32 7, .int .u32 61] t frozen
      | o => o }

theorem wf_u32 {n : Int} (h : (Lit.int .u32 n).wf = true) : ∃ k : Nat, n = (k : Int) ∧ k < 4294967296 := by
  have h1 : IntKind.u32.min = 0 := rfl
  have h2 : IntKind.u32.max = 4294967295 := rfl
  simp only [Lit.wf, Bool.and_eq_true, decide_eq_true_eq] at h
  exact ⟨n.toNat, by omega, by omega⟩
theorem wf_i64 {n : Int} (h : (Lit.int .i64 n).wf = true) : -9223372036854775808 ≤ n ∧ n ≤ 9223372036854775807 := by
  have h1 : IntKind.i64.min = -9223372036854775808 := rfl
  have h2 : IntKind.i64.max = 9223372036854775807 := rfl
  simp only [Lit.wf, Bool.and_eq_true, decide_eq_true_eq] at h
  omega
theorem wf_u64 {n : Int} (h : (Lit.int .u64 n).wf = true) : ∃ k : Nat, n = (k : Int) ∧ k < 18446744073709551616 := by
  have h1 : IntKind.u64.min = 0 := rfl
  have h2 : IntKind.u64.max = 18446744073709551615 := rfl
  simp only [Lit.wf, Bool.and_eq_true, decide_eq_true_eq] at h
  exact ⟨n.toNat, by omega, by omega⟩
theorem Bases.below {w w' : World} (h : Bases w) {B : Nat} (hb : Below B w w') (hB : 0 < B) : Bases w' :=
  ⟨(hb.cell (p := ⟨_, 0, none⟩) hB).trans h.1, (hb.cell (p := ⟨_, 1, none⟩) hB).trans h.2.1, (hb.cell (p := ⟨_, 2, none⟩) hB).trans h.2.2⟩
theorem Bases.dr {w w' : World} (h : Bases w) (hd : Dr w w') : Bases w' := by
  obtain ⟨n, rfl⟩ := hd
  exact h
end
end Go.Proofs.YtecdjanopiibcaaDoor
