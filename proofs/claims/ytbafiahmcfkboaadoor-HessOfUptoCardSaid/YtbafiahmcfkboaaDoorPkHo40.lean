/- From a walk of a law to its row: a law returns true, its arguments read as they read, and nothing that was there has turned. A number that comes in as a slice of limbs: what its reading says. No conditions. What the bound on the whole input gives. No conditions. An integer that comes in as a sign and a slice of limbs: what its reading says, where what comes in is of small bulk. Condition: the bulk. Rows of integers that come in: what their reading says, where what comes in is of small bulk. Condition: the bulk. The list of bases as the program lays it, and what whole numbers that come in read as. Conditions: none. What the memory holds when the call begins: the bases. No conditions. -/
import Derived.Test.YtbafiahmcfkboaaDoorPkHo7
import Derived.Test.YtbafiahmcfkboaaDoorRows
import Derived.ProofKit
import Derived.SizedLaws
import Derived.Test.YtbafiahmcfkboaaDoorPkHo20
import Derived.Test.YtbafiahmcfkboaaDoorPkHo30
import Derived.Lib.SmallJoins
import Derived.Test.YtbafiahmcfkboaaDoorPkHo39
import Derived.Deep.SlicePairs
import Derived.Test.YtbafiahmcfkboaaDoorCards
import Derived.Test.YtbafiahmcfkboaaDoorTie
import Derived.OpenShut
import Derived.Deep.DeepHandedRow
import Derived.Lib.LaidTab
import Derived.Carry
import Derived.Test.YtbafiahmcfkboaaDoorPkHo17
import Derived.Deep.Strs
namespace Go.Proofs.YtbafiahmcfkboaaDoor
section
open Go.ChangeShapes Go.WideShapes Go.ChangeAt Go.RowKit

theorem Tryd.own : ownKnob Tryd.prog.godebug = none := by kernel_rfl
theorem Tryd.laidOut : laidOutB Tryd.prog = true := by kernel_rfl

theorem trodAll_below {H : Type} {enc : TypeId × Value → H} {P : Program} (hl : laidOutB P = true) {W W' : World} (hb : Below W.heap.size W W') :
    ∀ (ts : List TypeId), (∀ t ∈ ts, P.readableRec t = true ∧ t < P.types.size) → ∀ (vs : List Value) (ds : List (DataW H)) (ps : List MemPlace), DataW.TrodAll enc P W 0 (fun _ => true) true ts vs ds ps → (∀ x ∈ ps, x.block < W.heap.size) →
      DataW.TrodAll enc P W' 0 (fun b => decide (b < W.heap.size)) true ts vs ds ps
  | [], _, vs, ds, ps, h, _ => by
    obtain ⟨rfl, rfl, rfl⟩ := trodAll_nil h
    exact trodAll_mk0
  | t :: ts, hr, vs, ds, ps, h, hlt => by
    obtain ⟨v, vs', d, ds', p, q, rfl, rfl, rfl, hd, hrest⟩ := trodAll_cons h
    have h1 := hr t List.mem_cons_self
    exact ⟨p, q, Below.trod hl h1.1 h1.2 hd hb (fun x hx => hlt x (List.mem_append_left _ hx)),
      trodAll_below hl hb ts (fun t ht => hr t (List.mem_cons_of_mem _ ht)) vs' ds' q hrest (fun x hx => hlt x (List.mem_append_right _ hx)), rfl⟩

/-- A law's 'post', out of 'it returned true, and all old memory is as it was'. -/
theorem law_post {H : Type} {enc : TypeId × Value → H} {P : Program} {f : Func} {s : ChangeSpec} {apart : Bool} {W W' : World} {args : Array Value} {ds : List (DataW H)} {before : List MemPlace} (tb : TypeId)
    (hl : laidOutB P = true) (hr : ∀ t ∈ f.params.toList, P.readableRec t = true ∧ t < P.types.size) (hres : f.resultTypes.toList = [tb]) (htb : P.underlying tb = some .bool) (hsv : s.vars = [])
    (hW : DataW.Whole enc P f.params.toList s.vars apart W args.toList ds [] before)
    (hfn : (s.fn H (ds ++ [])).results = [.lit (.bool true)] ∧ (s.fn H (ds ++ [])).args = ds ∧ (s.fn H (ds ++ [])).vars = [])
    (hb : Below W.heap.size W W') : s.post enc P f apart true false false W args (.bool true) W' := by
  have hW0 := hW
  obtain ⟨p, q, hA, hV, rfl, _, _⟩ := hW
  rw [hsv] at hV
  obtain ⟨_, rfl⟩ := trodVars_none hV
  have hlt : ∀ x ∈ p, x.block < W.heap.size := fun x hx => hW0.lt x (by simpa using hx)
  have hsz : f.resultTypes.size = 1 := by rw [← Array.length_toList, hres]; rfl
  refine ⟨ds, [], _, [], p, [], hW0, ?_, ?_, ?_, hb.frame _, fun h => by cases h⟩
  · rw [hfn.1, hres, hsz]
    exact trodAll_mk1 (shut_bool htb _)
  · rw [hfn.2.1]
    exact trodAll_below hl hb _ hr _ _ _ hA hlt
  · rw [hsv, hfn.2.2]; rfl
end
section
open Go.ChangeShapes Go.WideShapes Go.ChangeAt Go.RowKit

theorem Tryd.cells32 : Tryd.prog.cellsOf 24 = 1 := by kernel_rfl
theorem wf_u329z {n : Int} (h : (Lit.int .u32 n).wf = true) : 0 ≤ n ∧ n < 4294967296 := by
  have h1 : IntKind.u32.min = 0 := rfl
  have h2 : IntKind.u32.max = 4294967295 := rfl
  simp only [Lit.wf, Bool.and_eq_true, decide_eq_true_eq] at h
  omega
end
section
open Go

theorem bulk_one {H : Type} (d : DataW H) : 1 ≤ Rows.uptoBulk d := by
  cases d with
  | lit l => cases l <;> simp only [Rows.uptoBulk] <;> omega
  | _ => simp only [Rows.uptoBulk]; omega
theorem bulk_len {H : Type} (l : List (DataW H)) : l.length ≤ Rows.uptoBulkAll l := by
  induction l with
  | nil => simp only [List.length_nil]; omega
  | cons x l ih => have := bulk_one x; simp only [Rows.uptoBulkAll, List.length_cons]; omega
theorem bulk_part {H : Type} {d : DataW H} {l : List (DataW H)} (h : d ∈ l) : Rows.uptoBulk d ≤ Rows.uptoBulkAll l := by
  induction l with
  | nil => cases h
  | cons x l ih =>
    simp only [Rows.uptoBulkAll]
    rcases List.mem_cons.1 h with rfl | h
    · omega
    · have := ih h; omega
end
section
open Go.ChangeShapes Go.WideShapes Go.ChangeAt Go.RowKit

set_option maxRecDepth 100000 in
theorem open_nat_t {H : Type} {enc : TypeId × Value → H} {W : World} {fuel : Nat} {a0 : Option Addr} {len cap : Nat} {d : DataW H} {p : List MemPlace} (hf : DataW.trod enc Tryd.prog W 0 (fun _ => true) true fuel 49 [.slice a0 len cap] = some (d, p))
    (hlt : ∀ x ∈ p, x.block < W.heap.size) (N : Nat) (hN : N ≤ 35184372087808) (hsz : ∀ elems spare, d = .slice elems spare → elems.length + spare.length ≤ N) :
    ∃ xs : List Nat, xs.length = len ∧ len ≤ cap ∧ Dig 4294967296 xs ∧ Rd W W.heap.size a0 (u32s xs) ∧ len ≤ N := by
  rcases open_ints Tryd.underlying49 Tryd.underlying24 Tryd.cells32 hf with ⟨hcs, hx⟩ | ⟨a, len', cap', zs, hcs, _, hl, hm, hz, hx, hcell, hwz⟩
  · simp at hcs
    obtain ⟨rfl, rfl, rfl⟩ := hcs
    exact ⟨[], rfl, Nat.le_refl _, Dig.nil_ _, Rd.nil_, by omega⟩
  · simp at hcs
    obtain ⟨rfl, rfl, rfl⟩ := hcs
    simp only [Prod.mk.injEq] at hx
    obtain ⟨rfl, rfl⟩ := hx
    simp only [if_true] at hz
    have hreach := hsz _ _ rfl
    simp only [lits, List.length_map, List.length_take, List.length_drop] at hreach
    have hlen : ((zs.take len).map Int.toNat).length = len := by rw [List.length_map, List.length_take]; omega
    refine ⟨(zs.take len).map Int.toNat, hlen, hl, fun x hx => ?_, fun hn => ?_, by omega⟩
    · obtain ⟨z, hz1, rfl⟩ := List.mem_map.1 hx
      have := wf_u329z (hwz z (List.mem_of_mem_take hz1))
      omega
    · have hl0 : 0 < len := by
        rcases Nat.eq_zero_or_pos len with h0 | h0
        · subst h0; simp [u32s] at hn
        · exact h0
      obtain ⟨b, off, spot⟩ := a
      have hspot : spot = none := by simpa [Addr.add] using World.cell?_spot (hcell 0 (by omega))
      subst hspot
      have hbW : b < W.heap.size := hlt (.cell b off) (MemPlace.mem_row.2 ⟨0, by omega, by simp⟩)
      refine ⟨b, off, rfl, hbW, fun k u hu => ?_⟩
      have hk : k < len := by
        have := (List.getElem?_eq_some_iff.1 hu).1
        rw [u32s_length, hlen] at this
        exact this
      have h1 := hcell k (by omega)
      rw [show (⟨b, off, none⟩ : Addr).add k = ⟨b, off + k, none⟩ from by unfold Addr.add; split <;> simp_all] at h1
      rw [h1, ← hu, u32s_at (by rw [hlen]; exact hk)]
      have hkz : k < zs.length := by omega
      have := wf_u329z (hwz zs[k] (List.getElem_mem hkz))
      simp [List.getD, List.getElem?_eq_getElem hkz]
      omega
end
section
open Go.ChangeShapes Go.WideShapes Go.ChangeAt Go.RowKit

theorem list_per {α : Type} {P : Nat → α → Prop} (n : Nat) (h : ∀ i, i < n → ∃ a, P i a) : ∃ L : List α, L.length = n ∧ ∀ i (hi : i < L.length), P i L[i] := by
  induction n with
  | zero => exact ⟨[], rfl, fun i hi => by simp at hi⟩
  | succ n ih =>
    obtain ⟨L, hL, hP⟩ := ih fun i hi => h i (by omega)
    obtain ⟨a, ha⟩ := h n (by omega)
    refine ⟨L ++ [a], by simp [hL], fun i hi => ?_⟩
    rcases Nat.lt_or_ge i n with g | g
    · rw [List.getElem_append_left (by omega)]
      exact hP i (by omega)
    · have hi' : i = n := by simp [hL] at hi; omega
      subst hi'
      rw [List.getElem_append_right (by omega)]
      simpa [hL] using ha
theorem bulk_two {H : Type} (d0 d1 : DataW H) : Rows.uptoBulk d1 ≤ Rows.uptoBulk (.agg [d0, d1]) := by
  simp only [Rows.uptoBulk, Rows.uptoBulkAll]; omega
/-- What a row of integers' cells hold. -/
def RowI (W : World) (v : Value) (L : List Ie) : Prop :=
  L.length ≤ 1048576 ∧ ∃ Ai ci, v = .slice Ai L.length ci ∧ ∀ k (h2 : k < L.length), ∃ b2 o2, Ai = some ⟨b2, o2, none⟩ ∧ b2 < W.heap.size ∧ W.cell? ⟨b2, o2 + k * 2, none⟩ = some (.bool L[k].g) ∧ W.cell? ⟨b2, o2 + k * 2 + 1, none⟩ = some (.slice L[k].A L[k].n L[k].c) ∧ okI W L[k]

set_option maxRecDepth 100000 in
set_option maxHeartbeats 1600000 in
theorem open_rowI {H : Type} {enc : TypeId × Value → H} {W : World} {fuel : Nat} {v : Value} {d : DataW H} {p : List MemPlace} (hf : DataW.trod enc Tryd.prog W 0 (fun _ => true) true fuel 48 [v] = some (d, p))
    (hlt : ∀ x ∈ p, x.block < W.heap.size) (hbulk : Rows.uptoBulk d ≤ 1048576) : ∃ L, RowI W v L := by
  rcases Go.Deep.open_slice_pairs Tryd.underlying48 Tryd.underlying51 (by kernel_rfl) rfl rfl (by kernel_rfl) (by kernel_rfl) hf with ⟨hcs, hx⟩ | ⟨a, len, cap, m, n, V0, V1, D0, D1, P0, P1, hcs, _, hl, hm, hmm, hx, hrow⟩
  · obtain rfl := (List.cons.inj hcs).1
    exact ⟨[], Nat.zero_le _, none, 0, rfl, fun k hk => by simp at hk⟩
  · obtain rfl := (List.cons.inj hcs).1
    simp only [Prod.mk.injEq] at hx
    obtain ⟨rfl, rfl⟩ := hx
    simp only [if_true] at hmm
    subst hmm
    simp only [Rows.uptoBulk] at hbulk
    have hlen1 := bulk_len ((List.range len).map fun i => DataW.agg [D0 i, D1 i])
    simp only [List.length_map, List.length_range] at hlen1
    have each : ∀ i, i < len → ∃ e : Ie, V0 i = .bool e.g ∧ V1 i = .slice e.A e.n e.c ∧ okI W e := fun i hi => by
      obtain ⟨h1, h2, h3, h4⟩ := hrow i (by omega)
      obtain ⟨b, c0, _⟩ := DataW.trod_bool Tryd.underlying4 h3
      obtain ⟨a1, len1, cap1, c1⟩ := Go.Joins.slice_form Tryd.underlying49 h4
      have e0 := (List.cons.inj c0).1
      have e1 := (List.cons.inj c1).1
      rw [e1] at h4
      have hmem : DataW.agg [D0 i, D1 i] ∈ (List.range len).map fun i => DataW.agg [D0 i, D1 i] := List.mem_map.2 ⟨i, List.mem_range.2 hi, rfl⟩
      have hb1 : Rows.uptoBulk (D1 i) ≤ 1048576 := by
        have := bulk_part hmem
        have := bulk_two (D0 i) (D1 i)
        omega
      obtain ⟨xs, rfl, hc, hdg, hr, hle⟩ := open_nat_t h4 (fun x hx => hlt x (List.mem_append_right _ (List.mem_flatMap.2 ⟨i, List.mem_range.2 (by omega), List.mem_append_right _ hx⟩))) 1048576 (by omega) (fun elems spare e => by
        have h3 := bulk_len elems
        have h4 := bulk_len spare
        rw [e] at hb1
        simp only [Rows.uptoBulk] at hb1
        omega)
      exact ⟨⟨b, a1, xs.length, cap1, ivalN b (val 4294967296 xs)⟩, e0, e1, xs, rfl, ⟨⟨hdg, (abs_ival _ _).symm, hr, hc, hle⟩, by show ivalN _ _ = _; rw [abs_ival]⟩⟩
    obtain ⟨L, hL, hP⟩ := list_per len each
    subst hL
    refine ⟨L, by omega, some a, _, rfl, fun k hk => ?_⟩
    obtain ⟨b, off, spot⟩ := a
    have hspot : spot = none := by simpa [Addr.add] using World.cell?_spot (hrow 0 (by omega)).1
    subst hspot
    have hbW : b < W.heap.size := hlt (.cell b off) (List.mem_append_left _ (MemPlace.mem_row.2 ⟨0, by omega, by simp⟩))
    obtain ⟨e0, e1, hz⟩ := hP k hk
    obtain ⟨h1, h2, _, _⟩ := hrow k (by omega)
    rw [show (⟨b, off, none⟩ : Addr).add (k * 2) = ⟨b, off + k * 2, none⟩ from by unfold Addr.add; split <;> simp_all] at h1
    rw [show (⟨b, off, none⟩ : Addr).add (k * 2 + 1) = ⟨b, off + k * 2 + 1, none⟩ from by unfold Addr.add; split <;> simp_all [Nat.add_assoc]] at h2
    exact ⟨b, off, rfl, hbW, by rw [h1, e0], by rw [h2, e1], hz⟩

set_option maxRecDepth 100000 in
set_option maxHeartbeats 1600000 in
theorem open_zrows {H : Type} {enc : TypeId × Value → H} {W : World} {r : Reach} {b0 : Nat} {v : Value} {d : DataW H} {p : List MemPlace} {l : List (DataW H)} (hval : Value.okWide Tryd.prog W r b0 44 v) (h : DataW.Trod enc Tryd.prog W 0 (fun _ => true) true 44 v d p)
    (hlt : ∀ x ∈ p, x.block < W.heap.size) (hk : Rows.uptoSmall H l = true) (hd : d ∈ l) :
    ∃ (A : Option Addr) (c : Nat) (M : List (List Ie)), v = .slice A M.length c ∧ RZ okI W A M ∧ M.length ≤ 1048576 ∧ ∀ i (h : i < M.length), M[i].length ≤ 1048576 := by
  have hbulk : Rows.uptoBulk d ≤ 1048576 := by
    have h4 : Rows.uptoBulkAll l ≤ 1048576 := of_decide_eq_true hk
    have h5 := bulk_part hd
    omega
  obtain ⟨a0, len, cap, rfl⟩ := okWide_slice Tryd.underlying44 hval
  obtain ⟨fuel, hf⟩ := h
  rcases Go.Deep.open_slice1 Tryd.underlying44 (by kernel_rfl) hf with ⟨hcs, hx⟩ | ⟨a, len', cap', m, n, V, D, Pl, hcs, _, hl, hm, hmm, hx, hrow⟩
  · simp [Value.cells] at hcs
    obtain ⟨rfl, rfl, rfl⟩ := hcs
    exact ⟨none, 0, [], rfl, fun h => absurd rfl h, by simp, fun i hi => by simp at hi⟩
  · simp [Value.cells] at hcs
    obtain ⟨rfl, rfl, rfl⟩ := hcs
    simp only [Prod.mk.injEq] at hx
    obtain ⟨rfl, rfl⟩ := hx
    simp only [if_true] at hmm
    subst hmm
    simp only [Rows.uptoBulk] at hbulk
    have hlen1 := bulk_len ((List.range len).map D)
    simp only [List.length_map, List.length_range] at hlen1
    have each : ∀ i, i < len → ∃ L, RowI W (V i) L := fun i hi => by
      obtain ⟨h1, h2⟩ := hrow i (by omega)
      have hmem : D i ∈ (List.range len).map D := List.mem_map.2 ⟨i, List.mem_range.2 hi, rfl⟩
      have := bulk_part hmem
      exact open_rowI h2 (fun x hx => hlt x (List.mem_append_right _ (List.mem_flatMap.2 ⟨i, List.mem_range.2 (by omega), hx⟩))) (by omega)
    obtain ⟨M, hM, hP⟩ := list_per len each
    subst hM
    refine ⟨some a, _, M, rfl, fun hn => ?_, by omega, fun i hi => (hP i hi).1⟩
    have hl0 : 0 < M.length := List.length_pos_iff.2 hn
    obtain ⟨b, off, spot⟩ := a
    have hspot : spot = none := by simpa [Addr.add] using World.cell?_spot (hrow 0 (by omega)).1
    subst hspot
    have hbW : b < W.heap.size := hlt (.cell b off) (List.mem_append_left _ (MemPlace.mem_row.2 ⟨0, by omega, by simp⟩))
    refine ⟨b, off, rfl, hbW, fun i hi => ?_⟩
    obtain ⟨_, Ai, ci, e, h9⟩ := hP i hi
    obtain ⟨h1, _⟩ := hrow i (by omega)
    rw [show (⟨b, off, none⟩ : Addr).add i = ⟨b, off + i, none⟩ from by unfold Addr.add; split <;> simp_all] at h1
    exact ⟨Ai, ci, by rw [h1, e], h9⟩
end
section
open Go.ChangeShapes Go.WideShapes Go.ChangeAt Go.RowKit

theorem gBases : Tryd.prog.globalNamed "simile/prime.bases" = some 0 := by kernel_rfl
theorem gBasesType : (Tryd.prog.globals[0]?).map (·.type) = some 116 := by kernel_rfl
theorem cellsBases : Tryd.prog.cellsOf 116 = 3 := by kernel_rfl
theorem cellsU32 : Tryd.prog.cellsOf 24 = 1 := by kernel_rfl

/-- A world for the witness: the list of bases as it is laid. -/
noncomputable def basesWorld (os : Os) : World :=
  { World.holding Tryd.prog os ⟨#[], #[], []⟩ with heap := (World.holding Tryd.prog os ⟨#[], #[], []⟩).heap.modify 0 fun
      | .cells _ t frozen => .cells #[.int .u32 2, .int .u32 7, .int .u32 61] t frozen
      | o => o }

theorem wf_u32 {n : Int} (h : (Lit.int .u32 n).wf = true) : ∃ k : Nat, n = (k : Int) ∧ k < 4294967296 := by
  have h1 : IntKind.u32.min = 0 := rfl
  have h2 : IntKind.u32.max = 4294967295 := rfl
  simp only [Lit.wf, Bool.and_eq_true, decide_eq_true_eq] at h
  exact ⟨n.toNat, by omega, by omega⟩
end
section
open Go.ChangeShapes Go.WideShapes Go.ChangeAt Go.RowKit

theorem bx_of {W : World} (h : laidMetH Tryd.prog [("simile/prime.bases", Rows.laid_simile_prime_bases)] W) : Bx W :=
  Ev.row_of_head (k := .u32) [2, 7, 61] gBases gBasesType Tryd.underlying116 Tryd.underlying24 cellsU32 cellsBases (by decide) h
end
end Go.Proofs.YtbafiahmcfkboaaDoor
