/- The walk of the law ZintDivides. Conditions: at most 2^20 limbs each. From a walk of a law to its row: a law returns true, its arguments read as they read, and nothing that was there has turned. A number that comes in as a slice of limbs: what its reading says. No conditions. What the bound on the whole input gives. No conditions. -/
import Derived.Test.YtanlejlmckdeiaaGreatPkZd34
import Derived.Test.YtanlejlmckdeiaaGreatPkZd35
import Derived.Test.YtanlejlmckdeiaaGreatPkZd36
import Derived.Test.YtanlejlmckdeiaaGreatPkZd0
import Derived.Test.YtanlejlmckdeiaaGreatRows
import Derived.ProofKit
import Derived.SizedLaws
namespace Go.Proofs.YtanlejlmckdeiaaGreat
section
open Go.RowKit

theorem zq_nought {W w' : World} {e : Ending} (h : ZQ W w' 0 0 5 e) : ∃ A1 c1 A3 c3, e = .returned (.tuple #[.agg #[.bool false, .slice A1 0 c1], .agg #[.bool false, .slice A3 0 c3], .int .i64 5]) ∧ Below W.heap.size W w' := by
  obtain ⟨qs, rs, A1, c1, A3, c3, rfl, hq, hr, _, _, hb⟩ := h
  have e1 : qs = [] := Num.unique (by omega) hq (Num.zero_ _)
  have e2 : rs = [] := Num.unique (by omega) hr (Num.zero_ _)
  subst e1 e2
  exact ⟨A1, c1, A3, c3, rfl, hb⟩
theorem ze_nought {W w' : World} {e : Ending} (h : ZE W w' 0 5 e) : ∃ A1 c1, e = .returned (.tuple #[.agg #[.bool false, .slice A1 0 c1], .int .i64 5]) ∧ Below W.heap.size W w' := by
  obtain ⟨qs, A1, c1, rfl, hq, _, hb⟩ := h
  have e1 : qs = [] := Num.unique (by omega) hq (Num.zero_ _)
  subst e1
  exact ⟨A1, c1, rfl, hb⟩
theorem divides_walk {w : World} {g g2 : Bool} {A A2 : Option Addr} {c c2 : Nat} {xs ys : List Nat} {z y : Int} (N : Nat) (hN : N ≤ 1048576) (h : Zh w g A c xs z N) (h2 : Zh w g2 A2 c2 ys y N) (n : Int) (hn : 0 ≤ n ∧ n < 4294967296) :
    Calls Tryz.prog 5 #[.agg #[.bool g, .slice A xs.length c], .agg #[.bool g2, .slice A2 ys.length c2], .int .u32 n] w fun e w' => e = .returned (.bool true) ∧ Below w.heap.size w w' := by
  obtain ⟨p, rfl⟩ := Int.eq_ofNat_of_zero_le hn.1
  have hp9 : p < 4294967296 := by omega
  obtain ⟨mv, kv, hp, MD, RM⟩ : ∃ mv kv : Int, DivP p mv kv ∧ (∀ W (_ : Below w.heap.size w W), Calls Tryz.prog 33 #[.agg #[.bool g, .slice A xs.length c], .int .u32 (p : Int)] W fun e w' => e = .returned (.tuple #[.int .u32 mv, .int .i64 kv]) ∧ Below W.heap.size W w') ∧
      (p ≠ 0 → ∀ W (_ : Below w.heap.size w W), Calls Tryz.prog 34 #[.agg #[.bool g, .slice A xs.length c], .int .u32 (p : Int)] W fun e w' => e = .returned (.int .u32 mv) ∧ Below W.heap.size W w') := by
    by_cases h0 : p = 0
    · subst h0
      exact ⟨0, 1, Or.inl ⟨rfl, rfl, rfl⟩, fun W hW => zmod_nought, fun h => absurd rfl h⟩
    · exact ⟨z % (p : Int), 0, Or.inr ⟨h0, rfl⟩, fun W hW => zmod_any (h.next hW) (by omega) p (by omega) hp9, fun _ W hW => (h.next hW).rmod (by omega) p (by omega) hp9⟩
  by_cases hy : y = 0
  · subst hy
    refine div_nought p mv kv hp hp9 (Lib.hid fun W hW => ?_) (Lib.hid fun W hW => ?_) (Lib.hid fun W hW => ?_) (Lib.hid fun W hW => ?_) (Lib.hid MD) (fun h0 => Lib.hid (RM h0)) (Lib.hid fun W hW => (h2.next hW).rsign (by omega))
    · have h9 := (h.next hW).euclid (h2.next hW) (by omega) (by omega)
      rw [show euQ z 0 = 0 from Int.ediv_zero z, show euR z 0 = 0 from rfl, show euE 0 = 5 from rfl] at h9
      exact h9.mono fun e w' h => zq_nought h
    · have h9 := (h.next hW).trunc (h2.next hW) (by omega) (by omega)
      rw [show trQ z 0 = 0 from Int.tdiv_zero z, show trR z 0 = 0 from rfl, show euE 0 = 5 from rfl] at h9
      exact h9.mono fun e w' h => zq_nought h
    · have h9 := (h.next hW).exact (h2.next hW) (by omega) (by omega)
      rw [show exQ z 0 = 0 from rfl, show exE z 0 = 5 from rfl] at h9
      exact h9.mono fun e w' h => ze_nought h
    · have h9 := (h.next hW).near (h2.next hW) (by omega) (by omega)
      rw [show nrQ z 0 = 0 from rfl, show nrE 0 = 5 from rfl] at h9
      exact h9.mono fun e w' h => ze_nought h
  · have es : y.sign = 1 ∨ y.sign = -1 := by rcases sign_cases y with ⟨a, b⟩ | ⟨a, b⟩ | ⟨a, b⟩ <;> rw [b] <;> first | exact absurd a hy | simp
    have EU : ∀ W (_ : Below w.heap.size w W), Calls Tryz.prog 29 #[.agg #[.bool g, .slice A xs.length c], .agg #[.bool g2, .slice A2 ys.length c2]] W fun e w' => ZQ W w' (z / y) (z % y) 0 e := fun W hW => by
      have h9 := (h.next hW).euclid (h2.next hW) (by omega) (by omega)
      rwa [show euQ z y = z / y from rfl, show euR z y = z % y from if_neg hy, show euE y = 0 from if_neg hy] at h9
    have TC : ∀ W (_ : Below w.heap.size w W), Calls Tryz.prog 30 #[.agg #[.bool g, .slice A xs.length c], .agg #[.bool g2, .slice A2 ys.length c2]] W fun e w' => ZQ W w' (Int.tdiv z y) (Int.tmod z y) 0 e := fun W hW => by
      have h9 := (h.next hW).trunc (h2.next hW) (by omega) (by omega)
      rwa [show trQ z y = Int.tdiv z y from rfl, show trR z y = Int.tmod z y from if_neg hy, show euE y = 0 from if_neg hy] at h9
    have NR : ∀ W (_ : Below w.heap.size w W), Calls Tryz.prog 32 #[.agg #[.bool g, .slice A xs.length c], .agg #[.bool g2, .slice A2 ys.length c2]] W fun e w' => ZE W w' (nearZ z y) 0 e := fun W hW => by
      have h9 := (h.next hW).near (h2.next hW) (by omega) (by omega)
      rwa [show nrQ z y = nearZ z y from if_neg hy, show nrE y = 0 from if_neg hy] at h9
    obtain ⟨vx, xe, ok, hok, EX, REX⟩ : ∃ (vx xe : Int) (ok : Bool), (ok = true ∧ xe = 0 ∨ ok = false ∧ xe = 30 ∧ vx = 0) ∧
        (∀ W (_ : Below w.heap.size w W), Calls Tryz.prog 31 #[.agg #[.bool g, .slice A xs.length c], .agg #[.bool g2, .slice A2 ys.length c2]] W fun e w' => ZE W w' vx xe e) ∧
        (∀ W (_ : Below w.heap.size w W), Calls Tryz.prog 37 #[.agg #[.bool g, .slice A xs.length c], .agg #[.bool g2, .slice A2 ys.length c2]] W fun e w' => ZB W w' vx ok e) := by
      by_cases h0 : Int.tmod z y = 0
      · refine ⟨Int.tdiv z y, 0, true, Or.inl ⟨rfl, rfl⟩, fun W hW => ?_, fun W hW => (h.next hW).rexact_yes (h2.next hW) hy (by omega) h0⟩
        have h9 := (h.next hW).exact (h2.next hW) (by omega) (by omega)
        rwa [show exQ z y = Int.tdiv z y from by unfold exQ; rw [if_neg hy, if_pos h0], show exE z y = 0 from by unfold exE; rw [if_neg hy, if_pos h0]] at h9
      · refine ⟨0, 30, false, Or.inr ⟨rfl, rfl, rfl⟩, fun W hW => ?_, fun W hW => (h.next hW).rexact_no (h2.next hW) hy (by omega) h0⟩
        have h9 := (h.next hW).exact (h2.next hW) (by omega) (by omega)
        rwa [show exQ z y = 0 from by unfold exQ; rw [if_neg hy, if_neg h0], show exE z y = 30 from by unfold exE; rw [if_neg hy, if_neg h0]] at h9
    exact div_other p mv kv (z / y) (z % y) (Int.tdiv z y) (Int.tmod z y) vx (nearZ z y) xe y.sign ok hp hp9 es hok (Lib.hid EU) (Lib.hid TC) (Lib.hid EX) (Lib.hid NR) (Lib.hid MD) (fun h0 => Lib.hid (RM h0)) (Lib.hid fun W hW => (h2.next hW).rsign (by omega))
      (Lib.hid fun W hW => (h.next hW).reuclid (h2.next hW) hy (by omega) (by omega)) (Lib.hid fun W hW => (h.next hW).rtrunc (h2.next hW) hy (by omega)) (Lib.hid REX) (Lib.hid fun W hW => (h.next hW).rnear (h2.next hW) hy (by omega) (by omega))
end
section
open Go.ChangeShapes Go.WideShapes Go.ChangeAt Go.RowKit

theorem Tryz.own : ownKnob Tryz.prog.godebug = none := by kernel_rfl
theorem Tryz.laidOut : laidOutB Tryz.prog = true := by kernel_rfl

theorem trodAll_below {H : Type} {enc : TypeId × Value → H} {P : Program} (hl : laidOutB P = true) {W W' : World} (hb : Below W.heap.size W W') :
    ∀ (ts : List TypeId), (∀ t ∈ ts, P.readableRec t = true ∧ t < P.types.size) → ∀ (vs : List Value) (ds : List (DataW H)) (ps : List MemPlace), DataW.TrodAll enc P W 0 (fun _ => true) true ts vs ds ps → (∀ x ∈ ps, x.block < W.heap.size) →
      DataW.TrodAll enc P W' 0 (fun b => decide (b < W.heap.size)) true ts vs ds ps
  | [], _, vs, ds, ps, h, _ => by
    obtain ⟨rfl, rfl, rfl⟩ := trodAll_nil h
    exact trodAll_mk0
  | t :: ts, hr, vs, ds, ps, h, hlt => by
    obtain ⟨v, vs', d, ds', p, q, rfl, rfl, rfl, hd, hrest⟩ := trodAll_cons h
    have h1 := hr t List.mem_cons_self
    exact ⟨p, q, Below.trod hl h1.1 h1.2 hd hb (fun x hx => hlt x (List.mem_append_left _ hx)),
      trodAll_below hl hb ts (fun t ht => hr t (List.mem_cons_of_mem _ ht)) vs' ds' q hrest (fun x hx => hlt x (List.mem_append_right _ hx)), rfl⟩

/-- A law's 'post', out of 'it returned true, and all old memory is as it was'. -/
theorem law_post {H : Type} {enc : TypeId × Value → H} {P : Program} {f : Func} {s : ChangeSpec} {apart : Bool} {W W' : World} {args : Array Value} {ds : List (DataW H)} {before : List MemPlace} (tb : TypeId)
    (hl : laidOutB P = true) (hr : ∀ t ∈ f.params.toList, P.readableRec t = true ∧ t < P.types.size) (hres : f.resultTypes.toList = [tb]) (htb : P.underlying tb = some .bool) (hsv : s.vars = [])
    (hW : DataW.Whole enc P f.params.toList s.vars apart W args.toList ds [] before)
    (hfn : (s.fn H (ds ++ [])).results = [.lit (.bool true)] ∧ (s.fn H (ds ++ [])).args = ds ∧ (s.fn H (ds ++ [])).vars = [])
    (hb : Below W.heap.size W W') : s.post enc P f apart true false false W args (.bool true) W' := by
  have hW0 := hW
  obtain ⟨p, q, hA, hV, rfl, _, _⟩ := hW
  rw [hsv] at hV
  obtain ⟨_, rfl⟩ := trodVars_none hV
  have hlt : ∀ x ∈ p, x.block < W.heap.size := fun x hx => hW0.lt x (by simpa using hx)
  have hsz : f.resultTypes.size = 1 := by rw [← Array.length_toList, hres]; rfl
  refine ⟨ds, [], _, [], p, [], hW0, ?_, ?_, ?_, hb.frame _, fun h => by cases h⟩
  · rw [hfn.1, hres, hsz]
    exact trodAll_mk1 (shut_bool htb _)
  · rw [hfn.2.1]
    exact trodAll_below hl hb _ hr _ _ _ hA hlt
  · rw [hsv, hfn.2.2]; rfl
end
section
open Go.ChangeShapes Go.WideShapes Go.ChangeAt Go.RowKit

theorem Tryz.cells32 : Tryz.prog.cellsOf 36 = 1 := by kernel_rfl
theorem Tryz.bytes32 : Tryz.prog.bytesOf 36 = 4 := by kernel_rfl

theorem wf_u32 {n : Int} (h : (Lit.int .u32 n).wf = true) : 0 ≤ n ∧ n < 4294967296 := by
  have h1 : IntKind.u32.min = 0 := rfl
  have h2 : IntKind.u32.max = 4294967295 := rfl
  simp only [Lit.wf, Bool.and_eq_true, decide_eq_true_eq] at h
  omega
theorem wf_i64 {n : Int} (h : (Lit.int .i64 n).wf = true) : -9223372036854775808 ≤ n ∧ n ≤ 9223372036854775807 := by
  have h1 : IntKind.i64.min = -9223372036854775808 := rfl
  have h2 : IntKind.i64.max = 9223372036854775807 := rfl
  simp only [Lit.wf, Bool.and_eq_true, decide_eq_true_eq] at h
  omega
theorem wf_u64 {n : Int} (h : (Lit.int .u64 n).wf = true) : 0 ≤ n ∧ n < 18446744073709551616 := by
  have h1 : IntKind.u64.min = 0 := rfl
  have h2 : IntKind.u64.max = 18446744073709551615 := rfl
  simp only [Lit.wf, Bool.and_eq_true, decide_eq_true_eq] at h
  omega

set_option maxRecDepth 100000 in
theorem open_nat {H : Type} {enc : TypeId × Value → H} {W : World} {r : Reach} {b0 : Nat} {v : Value} {d : DataW H} {p : List MemPlace} (hval : Value.okWide Tryz.prog W r b0 23 v) (h : DataW.Trod enc Tryz.prog W 0 (fun _ => true) true 23 v d p)
    (hlt : ∀ x ∈ p, x.block < W.heap.size) (hsz : ∀ elems spare, d = .slice elems spare → (elems.length + spare.length) * Tryz.prog.bytesOf 36 ≤ reachBytes) :
    ∃ (A : Option Addr) (c : Nat) (xs : List Nat), v = .slice A xs.length c ∧ xs.length ≤ c ∧ Dig 4294967296 xs ∧ Rd W W.heap.size A (u32s xs) ∧ xs.length ≤ 35184372087808 := by
  obtain ⟨a0, len, cap, rfl⟩ := okWide_slice Tryz.underlying23 hval
  obtain ⟨fuel, hf⟩ := h
  rcases open_ints Tryz.underlying23 Tryz.underlying36 Tryz.cells32 hf with ⟨hcs, hx⟩ | ⟨a, len', cap', zs, hcs, _, hl, hm, hz, hx, hcell, hwz⟩
  · simp [Value.cells] at hcs
    obtain ⟨rfl, rfl, rfl⟩ := hcs
    exact ⟨none, 0, [], rfl, Nat.le_refl _, Dig.nil_ _, Rd.nil_, by simp⟩
  · simp [Value.cells] at hcs
    obtain ⟨rfl, rfl, rfl⟩ := hcs
    simp only [Prod.mk.injEq] at hx
    obtain ⟨rfl, rfl⟩ := hx
    simp only [if_true] at hz
    have hreach := hsz _ _ rfl
    rw [Tryz.bytes32] at hreach
    simp only [lits, List.length_map, List.length_take, List.length_drop, reachBytes] at hreach
    have hlen : ((zs.take len).map Int.toNat).length = len := by rw [List.length_map, List.length_take]; omega
    refine ⟨some a, cap, (zs.take len).map Int.toNat, by rw [hlen], by rw [hlen]; exact hl, fun x hx => ?_, fun hn => ?_, by rw [hlen]; omega⟩
    · obtain ⟨z, hz1, rfl⟩ := List.mem_map.1 hx
      have := wf_u32 (hwz z (List.mem_of_mem_take hz1))
      omega
    · have hl0 : 0 < len := by
        rcases Nat.eq_zero_or_pos len with h0 | h0
        · subst h0; simp [u32s] at hn
        · exact h0
      obtain ⟨b, off, spot⟩ := a
      have hspot : spot = none := by simpa [Addr.add] using World.cell?_spot (hcell 0 (by omega))
      subst hspot
      have hbW : b < W.heap.size := hlt (.cell b off) (MemPlace.mem_row.2 ⟨0, by omega, by simp⟩)
      refine ⟨b, off, rfl, hbW, fun k u hu => ?_⟩
      have hk : k < len := by
        have := (List.getElem?_eq_some_iff.1 hu).1
        rw [u32s_length, hlen] at this
        exact this
      have h1 := hcell k (by omega)
      rw [show (⟨b, off, none⟩ : Addr).add k = ⟨b, off + k, none⟩ from by unfold Addr.add; split <;> simp_all] at h1
      rw [h1, ← hu, u32s_at (by rw [hlen]; exact hk)]
      have hkz : k < zs.length := by omega
      have := wf_u32 (hwz zs[k] (List.getElem_mem hkz))
      simp [List.getD, List.getElem?_eq_getElem hkz]
      omega
end
section
open Go

theorem bulk_one {H : Type} (d : DataW H) : 1 ≤ Rows.uptoBulk d := by
  cases d with
  | lit l => cases l <;> simp only [Rows.uptoBulk] <;> omega
  | _ => simp only [Rows.uptoBulk]; omega
theorem bulk_len {H : Type} (l : List (DataW H)) : l.length ≤ Rows.uptoBulkAll l := by
  induction l with
  | nil => simp only [List.length_nil]; omega
  | cons x l ih => have := bulk_one x; simp only [Rows.uptoBulkAll, List.length_cons]; omega
theorem bulk_part {H : Type} {d : DataW H} {l : List (DataW H)} (h : d ∈ l) : Rows.uptoBulk d ≤ Rows.uptoBulkAll l := by
  induction l with
  | nil => cases h
  | cons x l ih =>
    simp only [Rows.uptoBulkAll]
    rcases List.mem_cons.1 h with rfl | h
    · omega
    · have := ih h; omega
/-- A slice among data of small bulk has few places. -/
theorem small_slice {H : Type} {l : List (DataW H)} {d : DataW H} (hk : Rows.uptoSmall H l = true) (hd : d ∈ l) : ∀ elems spare, d = .slice elems spare → elems.length + spare.length ≤ 1048576 := fun elems spare e => by
  have h1 : Rows.uptoBulkAll l ≤ 1048576 := of_decide_eq_true hk
  have h2 := bulk_part hd
  subst e
  have h3 := bulk_len elems
  have h4 := bulk_len spare
  have h5 : Rows.uptoBulk (DataW.slice elems spare) = Rows.uptoBulkAll elems + Rows.uptoBulkAll spare + 1 := by simp only [Rows.uptoBulk]
  omega
end
end Go.Proofs.YtanlejlmckdeiaaGreat
