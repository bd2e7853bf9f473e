/- From a walk of a law to its row: a law returns true, its arg. A number that comes in as a slice of limbs: what its reading. What the bound on the whole input gives. An integer that comes in as a sign and a slice of limbs: wha. -/
import Derived.Test.YtcjgilagldbjnaaGreatDoorPkBb13
import Derived.Test.YtcjgilagldbjnaaGreatDoorRows
import Derived.ProofKit
import Derived.SizedLaws
import Derived.Test.YtcjgilagldbjnaaGreatDoorPkBb14
import Derived.Test.YtcjgilagldbjnaaGreatDoorPkBb27
import Derived.Lib.SmallJoins
namespace Go.Proofs.YtcjgilagldbjnaaGreatDoor
section
open Go.ChangeShapes Go.WideShapes Go.ChangeAt Go.RowKit
theorem Tryz.own : ownKnob Tryz.prog.godebug = none := by kernel_rfl
theorem Tryz.laidOut : laidOutB Tryz.prog = true := by kernel_rfl
theorem trodAll_below {H : Type} {enc : TypeId × Value → H} {P : Program} (hl : laidOutB P = true) {W W' : World} (hb : Below W.heap.size W W') :
  ∀ (ts : List TypeId), (∀ t ∈ ts, P.readableRec t = true ∧ t < P.types.size) → ∀ (vs : List Value) (ds : List (DataW H)) (ps : List MemPlace), DataW.TrodAll enc P W 0 (fun _ => true) true ts vs ds ps → (∀ x ∈ ps, x.block < W.heap.size) →
   DataW.TrodAll enc P W' 0 (fun b => decide (b < W.heap.size)) true ts vs ds ps
 | [], _, vs, ds, ps, h, _ => by
  obtain ⟨rfl, rfl, rfl⟩ := trodAll_nil h
  exact trodAll_mk0
 | t :: ts, hr, vs, ds, ps, h, hlt => by
  obtain ⟨v, vs', d, ds', p, q, rfl, rfl, rfl, hd, hrest⟩ := trodAll_cons h
  have h1 := hr t List.mem_cons_self
  exact ⟨p, q, Below.trod hl h1.1 h1.2 hd hb (fun x hx => hlt x (List.mem_append_left _ hx)),
   trodAll_below hl hb ts (fun t ht => hr t (List.mem_cons_of_mem _ ht)) vs' ds' q hrest (fun x hx => hlt x (List.mem_append_right _ hx)), rfl⟩
theorem law_post {H : Type} {enc : TypeId × Value → H} {P : Program} {f : Func} {s : ChangeSpec} {apart : Bool} {W W' : World} {args : Array Value} {ds : List (DataW H)} {before : List MemPlace} (tb : TypeId)
  (hl : laidOutB P = true) (hr : ∀ t ∈ f.params.toList, P.readableRec t = true ∧ t < P.types.size) (hres : f.resultTypes.toList = [tb]) (htb : P.underlying tb = some .bool) (hsv : s.vars = [])
  (hW : DataW.Whole enc P f.params.toList s.vars apart W args.toList ds [] before)
  (hfn : (s.fn H (ds ++ [])).results = [.lit (.bool true)] ∧ (s.fn H (ds ++ [])).args = ds ∧ (s.fn H (ds ++ [])).vars = [])
  (hb : Below W.heap.size W W') : s.post enc P f apart true false false W args (.bool true) W' := by
 have hW0 := hW
 obtain ⟨p, q, hA, hV, rfl, _, _⟩ := hW
 rw [hsv] at hV
 obtain ⟨_, rfl⟩ := trodVars_none hV
 have hlt : ∀ x ∈ p, x.block < W.heap.size := fun x hx => hW0.lt x (by simpa using hx)
 have hsz : f.resultTypes.size = 1 := by rw [← Array.length_toList, hres]; rfl
 refine ⟨ds, [], _, [], p, [], hW0, ?_, ?_, ?_, hb.frame _, fun h => by cases h⟩
 ·rw [hfn.1, hres, hsz]
  exact trodAll_mk1 (shut_bool htb _)
 ·rw [hfn.2.1]
  exact trodAll_below hl hb _ hr _ _ _ hA hlt
 ·rw [hsv, hfn.2.2]; rfl
end
section
open Go.ChangeShapes Go.WideShapes Go.ChangeAt Go.RowKit
theorem Tryz.cells32 : Tryz.prog.cellsOf 34 = 1 := by kernel_rfl
theorem wf_u32 {n : Int} (h : (Lit.int .u32 n).wf = true) : 0 ≤ n ∧ n < 4294967296 := by
 have h1 : IntKind.u32.min = 0 := rfl
 have h2 : IntKind.u32.max = 4294967295 := rfl
 simp only [Lit.wf, Bool.and_eq_true, decide_eq_true_eq] at h
 omega
theorem wf_i64 {n : Int} (h : (Lit.int .i64 n).wf = true) : -9223372036854775808 ≤ n ∧ n ≤ 9223372036854775807 := by
 have h1 : IntKind.i64.min = -9223372036854775808 := rfl
 have h2 : IntKind.i64.max = 9223372036854775807 := rfl
 simp only [Lit.wf, Bool.and_eq_true, decide_eq_true_eq] at h
 omega
end
section
open Go
theorem bulk_one {H : Type} (d : DataW H) : 1 ≤ Rows.uptoBulk d := by
 cases d with
 | lit l => cases l <;> simp only [Rows.uptoBulk] <;> omega
 | _ => simp only [Rows.uptoBulk]; omega
theorem bulk_len {H : Type} (l : List (DataW H)) : l.length ≤ Rows.uptoBulkAll l := by
 induction l with
 | nil => simp only [List.length_nil]; omega
 | cons x l ih => have := bulk_one x; simp only [Rows.uptoBulkAll, List.length_cons]; omega
theorem bulk_part {H : Type} {d : DataW H} {l : List (DataW H)} (h : d ∈ l) : Rows.uptoBulk d ≤ Rows.uptoBulkAll l := by
 induction l with
 | nil => cases h
 | cons x l ih =>
  simp only [Rows.uptoBulkAll]
  rcases List.mem_cons.1 h with rfl | h
  ·omega
  ·have := ih h; omega
end
section
open Go.ChangeShapes Go.WideShapes Go.ChangeAt Go.RowKit
set_option maxRecDepth 100000 in
theorem open_nat_t {H : Type} {enc : TypeId × Value → H} {W : World} {fuel : Nat} {a0 : Option Addr} {len cap : Nat} {d : DataW H} {p : List MemPlace} (hf : DataW.trod enc Tryz.prog W 0 (fun _ => true) true fuel 23 [.slice a0 len cap] = some (d, p))
  (hlt : ∀ x ∈ p, x.block < W.heap.size) (N : Nat) (hN : N ≤ 35184372087808) (hsz : ∀ elems spare, d = .slice elems spare → elems.length + spare.length ≤ N) :
  ∃ xs : List Nat, xs.length = len ∧ len ≤ cap ∧ Dig 4294967296 xs ∧ Rd W W.heap.size a0 (u32s xs) ∧ len ≤ N := by
 rcases open_ints Tryz.underlying23 Tryz.underlying34 Tryz.cells32 hf with ⟨hcs, hx⟩ | ⟨a, len', cap', zs, hcs, _, hl, hm, hz, hx, hcell, hwz⟩
 ·simp at hcs
  obtain ⟨rfl, rfl, rfl⟩ := hcs
  exact ⟨[], rfl, Nat.le_refl _, Dig.nil_ _, Rd.nil_, by omega⟩
 ·simp at hcs
  obtain ⟨rfl, rfl, rfl⟩ := hcs
  simp only [Prod.mk.injEq] at hx
  obtain ⟨rfl, rfl⟩ := hx
  simp only [if_true] at hz
  have hreach := hsz _ _ rfl
  simp only [lits, List.length_map, List.length_take, List.length_drop] at hreach
  have hlen : ((zs.take len).map Int.toNat).length = len := by rw [List.length_map, List.length_take]; omega
  refine ⟨(zs.take len).map Int.toNat, hlen, hl, fun x hx => ?_, fun hn => ?_, by omega⟩
  ·obtain ⟨z, hz1, rfl⟩ := List.mem_map.1 hx
   have := wf_u32 (hwz z (List.mem_of_mem_take hz1))
   omega
  ·have hl0 : 0 < len := by
    rcases Nat.eq_zero_or_pos len with h0 | h0
    ·subst h0; simp [u32s] at hn
    ·exact h0
   obtain ⟨b, off, spot⟩ := a
   have hspot : spot = none := by simpa [Addr.add] using World.cell?_spot (hcell 0 (by omega))
   subst hspot
   have hbW : b < W.heap.size := hlt (.cell b off) (MemPlace.mem_row.2 ⟨0, by omega, by simp⟩)
   refine ⟨b, off, rfl, hbW, fun k u hu => ?_⟩
   have hk : k < len := by
    have := (List.getElem?_eq_some_iff.1 hu).1
    rw [u32s_length, hlen] at this
    exact this
   have h1 := hcell k (by omega)
   rw [show (⟨b, off, none⟩ : Addr).add k = ⟨b, off + k, none⟩ from by unfold Addr.add; split <;> simp_all] at h1
   rw [h1, ← hu, u32s_at (by rw [hlen]; exact hk)]
   have hkz : k < zs.length := by omega
   have := wf_u32 (hwz zs[k] (List.getElem_mem hkz))
   simp [List.getD, List.getElem?_eq_getElem hkz]
   omega
set_option maxRecDepth 100000 in
theorem open_zint {H : Type} {enc : TypeId × Value → H} {W : World} {r : Reach} {b0 : Nat} {v : Value} {d : DataW H} {p : List MemPlace} {l : List (DataW H)} (hval : Value.okWide Tryz.prog W r b0 25 v) (h : DataW.Trod enc Tryz.prog W 0 (fun _ => true) true 25 v d p)
  (hlt : ∀ x ∈ p, x.block < W.heap.size) (hk : Rows.uptoSmall H l = true) (hd : d ∈ l) :
  ∃ (g : Bool) (A : Option Addr) (c : Nat) (xs : List Nat) (z : Int), v = .agg #[.bool g, .slice A xs.length c] ∧ Zh W g A c xs z 1048576 := by
 obtain ⟨w0, w1, y0, y1, n, rfl, rfl, rfl, g0, g1⟩ := Go.Joins.open_agg2 Tryz.underlying25 (by kernel_rfl) (by kernel_rfl) hval h
 obtain ⟨b, c0, rfl⟩ := DataW.trod_bool Tryz.underlying4 g0
 obtain rfl := (List.cons.inj c0).1
 obtain ⟨a0, len, cap, c1⟩ := Go.Joins.slice_form Tryz.underlying23 g1
 obtain rfl := (List.cons.inj c1).1
 obtain ⟨xs, rfl, hc, hdg, hr, hl⟩ := open_nat_t g1 (fun x hx => hlt x (List.mem_append_right _ hx)) 1048576 (by omega) (fun elems spare e => by
  have h1 : Rows.uptoBulkAll l ≤ 1048576 := of_decide_eq_true hk
  have h2 := bulk_part hd
  have h3 := bulk_len elems
  have h4 := bulk_len spare
  simp only [Rows.uptoBulk, Rows.uptoBulkAll, e] at h2
  omega)
 exact ⟨b, a0, cap, xs, ivalN b (val 4294967296 xs), rfl, ⟨⟨hdg, (abs_ival _ _).symm, hr, hc, hl⟩, by rw [abs_ival]⟩⟩
end
end Go.Proofs.YtcjgilagldbjnaaGreatDoor
