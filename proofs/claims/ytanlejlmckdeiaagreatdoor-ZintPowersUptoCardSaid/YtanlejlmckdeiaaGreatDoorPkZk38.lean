/- The walk of the law ZintCommon. Conditions: at most 2^20 limbs in all, at most 2^20 numbers; the table of the library as it is laid. From a walk of a law to its row: a law returns true, its arguments read as they read, and nothing that was there has turned. A number that comes in as a slice of limbs: what its reading says. No conditions. What the bound on the whole input gives. No conditions. -/
import Derived.Test.YtanlejlmckdeiaaGreatDoorPkZk32
import Derived.Test.YtanlejlmckdeiaaGreatDoorPkZk34
import Derived.Test.YtanlejlmckdeiaaGreatDoorPkZk37
import Derived.Test.YtanlejlmckdeiaaGreatDoorPkZk33
import Derived.Test.YtanlejlmckdeiaaGreatDoorPkZk0
import Derived.Test.YtanlejlmckdeiaaGreatDoorRows
import Derived.ProofKit
import Derived.SizedLaws
namespace Go.Proofs.YtanlejlmckdeiaaGreatDoor
section
open Go.RowKit

theorem lsame_res {W w1 w2 : World} {z : Int} {zs ys : List Nat} {A1 A2 : Option Addr} {c1 c2 B1 B2 : Nat} (n1 : Num 4294967296 zs z.natAbs) (r1 : Res w1 B1 61 A1 c1 (u32s zs)) (h1 : Below w1.heap.size w1 W) (n2 : Num 4294967296 ys z.natAbs) (r2 : Res w2 B2 61 A2 c2 (u32s ys)) (h2 : Below w2.heap.size w2 W) :
    Calls Tryz.prog 7 #[.agg #[.bool (isNeg z), .slice A1 zs.length c1], .agg #[.bool (isNeg z), .slice A2 ys.length c2]] W fun e w' => e = .returned (.bool true) ∧ Below W.heap.size W w' := by
  have e2 := Num.unique (by omega) n1 n2
  subst e2
  exact lsame_any _ ((r1.rd.below h1).mono h1.size) ((r2.rd.below h2).mono h2.size) (res_len r1)
theorem fold_same {β : Type} (f : β → Int → β) (b : β) {l l' : List ZE1} (h : l'.map (fun e => e.z) = l.map (fun e => e.z)) (k : Nat) : (l'.take k).foldl (fun s e => f s e.z) b = (l.take k).foldl (fun s e => f s e.z) b := by
  have h1 : ∀ L : List ZE1, (L.take k).foldl (fun s e => f s e.z) b = ((L.map fun e => e.z).take k).foldl f b := fun L => by
    rw [← List.map_take, List.foldl_map]
  rw [h1, h1, h]
section
variable {l l' : List ZE1} (h : l'.map (fun e => e.z) = l.map (fun e => e.z)) (k : Nat)
include h
theorem gcdTo_same : gcdTo l' k = gcdTo l k := fold_same (fun n z => Nat.gcd n z.natAbs) 0 h k
theorem lcmTo_same : lcmTo l' k = lcmTo l k := fold_same (fun n z => n * (z.natAbs / Nat.gcd n z.natAbs)) 1 h k
theorem sumTo_same : sumTo l' k = sumTo l k := fold_same (fun s z => s + z) 0 h k
theorem prodTo_same : prodTo l' k = prodTo l k := fold_same (fun s z => s * z) 1 h k
end

set_option maxHeartbeats 6400000 in
theorem common_walk {w : World} {A : Option Addr} {c : Nat} {l : List ZE1} (N : Nat) (hN : N ≤ 1048576) (hT : Tab64 w) (hTB : 0 < w.heap.size) (h : ZR w N A l) (hlen : l.length ≤ 1048576) :
    Calls Tryz.prog 3 #[.slice A l.length c] w fun e w' => e = .returned (.bool true) ∧ Below w.heap.size w w' := by
  have CA := Lib.hid (copyall_any (c := c) l h hN hlen)
  have HR := Lib.hid h
  have HT := Lib.hid hT
  have HTB := Lib.hid hTB
  clear h hT hTB
  go_enter Tryz.func3, Tryz.ntmps3
  go_wp2_with fail
  refine CA.out.mono ?_
  rintro e w1 ⟨g, l', rfl, hll, hzr, hsame, K1⟩
  have hmap : l'.map (fun e => e.z) = l.map (fun e => e.z) := List.ext_getElem (by simp [hll]) fun i h1 h2 => by
    rw [List.getElem_map, List.getElem_map]
    exact (hsame i _ _).2.2
  have HS : Hid (∀ k (h1 : k < l'.length) (h2 : k < l.length), l'[k].g = l[k].g ∧ l'[k].xs = l[k].xs) := fun k h1 h2 => ⟨(hsame k h1 h2).1, (hsame k h1 h2).2.1⟩
  have HG := Lib.hid hzr
  have HLL := Lib.hid hll
  have EG := Lib.hid (gcdTo_same hmap l.length)
  have EL := Lib.hid (lcmTo_same hmap l.length)
  have ES := Lib.hid (sumTo_same hmap l.length)
  have EP := Lib.hid (prodTo_same hmap l.length)
  have HLC : Hid (∀ k, k ≤ l'.length → lcmTo l' k < 4294967296 ^ (N + 1)) := fun k hk => hzr.lcm_lt k hk
  have J1 : Below w1.heap.size w1 w1 := Below.refl _ _
  clear hll hzr hsame hmap CA
  have CGcd : Calls Tryz.prog 8 #[.slice (some ⟨g, 0, none⟩) l.length l.length] w1 fun e w' => ZOut w1 w' ((gcdTo l l.length : Nat)) e := by
    have h9 := zgcd_any (c := l.length) l' (HG.out.next J1).zl (by omega) (by rw [HLL.out]; omega) (HT.out.below K1 HTB.out) (Nat.lt_of_lt_of_le HTB.out K1.size)
    rw [HLL.out, EG.out] at h9
    exact h9
  go_wp2_with fail
  refine CGcd.mono ?_
  rintro e w2 ⟨z2, A2, c2, rfl, n2, r2, b2⟩
  have K2 := bst K1 b2 (Nat.le_refl _)
  have J2 := bst J1 b2 (Nat.le_refl _)
  clear CGcd
  have DGcd : Calls Tryz.prog 9 #[.slice A l.length c] w2 fun e w' => ZOut w2 w' ((gcdTo l l.length : Nat)) e := rzgcd_any l (HR.out.next K2) hN hlen
  go_wp2_with fail
  refine DGcd.mono ?_
  rintro e w3 ⟨z3, A3, c3, rfl, n3, r3, b3⟩
  have K3 := bst K2 b3 (Nat.le_refl _)
  have J3 := bst J2 b3 (Nat.le_refl _)
  have SGcd := Lib.hid (lsame_res n2 r2 b3 n3 r3 (Below.refl _ _))
  clear DGcd n2 r2 b2 n3 r3 b3 K2 J2
  go_wp2_with fail
  refine SGcd.out.mono ?_
  rintro e w4 ⟨rfl, b4⟩
  have K4 := bst K3 b4 (Nat.le_refl _)
  have J4 := bst J3 b4 (Nat.le_refl _)
  clear SGcd b4 K3 J3
  have CLcm : Calls Tryz.prog 10 #[.slice (some ⟨g, 0, none⟩) l.length l.length] w4 fun e w' => ZOut w4 w' ((lcmTo l l.length : Nat)) e := by
    have h9 := zlcm_any (M := N + 1) (c := l.length) l' (HG.out.next J4).zl (by omega) (by omega) HLC.out (by rw [HLL.out]; omega) (HT.out.below K4 HTB.out) (Nat.lt_of_lt_of_le HTB.out K4.size)
    rw [HLL.out, EL.out] at h9
    exact h9
  go_wp2_with fail
  refine CLcm.mono ?_
  rintro e w5 ⟨z5, A5, c5, rfl, n5, r5, b5⟩
  have K5 := bst K4 b5 (Nat.le_refl _)
  have J5 := bst J4 b5 (Nat.le_refl _)
  clear CLcm
  have DLcm : Calls Tryz.prog 11 #[.slice A l.length c] w5 fun e w' => ZOut w5 w' ((lcmTo l l.length : Nat)) e := rzlcm_any l (HR.out.next K5) hN hlen
  go_wp2_with fail
  refine DLcm.mono ?_
  rintro e w6 ⟨z6, A6, c6, rfl, n6, r6, b6⟩
  have K6 := bst K5 b6 (Nat.le_refl _)
  have J6 := bst J5 b6 (Nat.le_refl _)
  have SLcm := Lib.hid (lsame_res n5 r5 b6 n6 r6 (Below.refl _ _))
  clear DLcm n5 r5 b5 n6 r6 b6 K5 J5
  go_wp2_with fail
  refine SLcm.out.mono ?_
  rintro e w7 ⟨rfl, b7⟩
  have K7 := bst K6 b7 (Nat.le_refl _)
  have J7 := bst J6 b7 (Nat.le_refl _)
  clear SLcm b7 K6 J6
  have CSum : Calls Tryz.prog 12 #[.slice (some ⟨g, 0, none⟩) l.length l.length] w7 fun e w' => ZOut w7 w' (sumTo l l.length) e := by
    have h9 := zsum_any (c := l.length) l' (HG.out.next J7) hN (by rw [HLL.out]; exact hlen)
    rw [HLL.out, ES.out] at h9
    exact h9
  go_wp2_with fail
  refine CSum.mono ?_
  rintro e w8 ⟨z8, A8, c8, rfl, n8, r8, b8⟩
  have K8 := bst K7 b8 (Nat.le_refl _)
  have J8 := bst J7 b8 (Nat.le_refl _)
  clear CSum
  have DSum : Calls Tryz.prog 13 #[.slice A l.length c] w8 fun e w' => ZOut w8 w' (sumTo l l.length) e := rzsum_any l (HR.out.next K8) hN hlen
  go_wp2_with fail
  refine DSum.mono ?_
  rintro e w9 ⟨z9, A9, c9, rfl, n9, r9, b9⟩
  have K9 := bst K8 b9 (Nat.le_refl _)
  have J9 := bst J8 b9 (Nat.le_refl _)
  have SSum := Lib.hid (lsame_res n8 r8 b9 n9 r9 (Below.refl _ _))
  clear DSum n8 r8 b8 n9 r9 b9 K8 J8
  go_wp2_with fail
  refine SSum.out.mono ?_
  rintro e w10 ⟨rfl, b10⟩
  have K10 := bst K9 b10 (Nat.le_refl _)
  have J10 := bst J9 b10 (Nat.le_refl _)
  clear SSum b10 K9 J9
  have CProd : Calls Tryz.prog 14 #[.slice (some ⟨g, 0, none⟩) l.length l.length] w10 fun e w' => ZOut w10 w' (prodTo l l.length) e := by
    have h9 := zprod_any hN l.length l' HLL.out hlen _ _ l.length (HG.out.next J10) (Nat.le_refl _) (by omega)
    rw [HLL.out, EP.out] at h9
    exact h9
  go_wp2_with fail
  refine CProd.mono ?_
  rintro e w11 ⟨z11, A11, c11, rfl, n11, r11, b11⟩
  have K11 := bst K10 b11 (Nat.le_refl _)
  have J11 := bst J10 b11 (Nat.le_refl _)
  clear CProd
  have DProd : Calls Tryz.prog 15 #[.slice A l.length c] w11 fun e w' => ZOut w11 w' (prodTo l l.length) e := rzprod_any l (HR.out.next K11) hN hlen
  go_wp2_with fail
  refine DProd.mono ?_
  rintro e w12 ⟨z12, A12, c12, rfl, n12, r12, b12⟩
  have K12 := bst K11 b12 (Nat.le_refl _)
  have J12 := bst J11 b12 (Nat.le_refl _)
  have SProd := Lib.hid (lsame_res n11 r11 b12 n12 r12 (Below.refl _ _))
  clear DProd n11 r11 b11 n12 r12 b12 K11 J11
  go_wp2_with fail
  refine SProd.out.mono ?_
  rintro e w13 ⟨rfl, b13⟩
  have K13 := bst K12 b13 (Nat.le_refl _)
  have J13 := bst J12 b13 (Nat.le_refl _)
  clear SProd b13 K12 J12
  have SA := Lib.hid (sameall_any (c := l.length) (c2 := c) l l' (HG.out.next J13) (HR.out.next K13) HLL.out HS.out hN hlen)
  clear HG HR HS HLC EG EL ES EP
  go_wp2_with fail
  refine SA.out.mono ?_
  rintro e wa ⟨rfl, ba⟩
  have Ka := bst K13 ba (Nat.le_refl _)
  go_wp2_with fail
  refine (zlives_any wa).mono ?_
  rintro e wb ⟨rfl, bb⟩
  go_wp2_with fail
  go_ret
  exact ⟨rfl, bst Ka bb (Nat.le_refl _)⟩
end
section
open Go.ChangeShapes Go.WideShapes Go.ChangeAt Go.RowKit

theorem Tryz.own : ownKnob Tryz.prog.godebug = none := by kernel_rfl
theorem Tryz.laidOut : laidOutB Tryz.prog = true := by kernel_rfl

theorem trodAll_below {H : Type} {enc : TypeId × Value → H} {P : Program} (hl : laidOutB P = true) {W W' : World} (hb : Below W.heap.size W W') :
    ∀ (ts : List TypeId), (∀ t ∈ ts, P.readableRec t = true ∧ t < P.types.size) → ∀ (vs : List Value) (ds : List (DataW H)) (ps : List MemPlace), DataW.TrodAll enc P W 0 (fun _ => true) true ts vs ds ps → (∀ x ∈ ps, x.block < W.heap.size) →
      DataW.TrodAll enc P W' 0 (fun b => decide (b < W.heap.size)) true ts vs ds ps
  | [], _, vs, ds, ps, h, _ => by
    obtain ⟨rfl, rfl, rfl⟩ := trodAll_nil h
    exact trodAll_mk0
  | t :: ts, hr, vs, ds, ps, h, hlt => by
    obtain ⟨v, vs', d, ds', p, q, rfl, rfl, rfl, hd, hrest⟩ := trodAll_cons h
    have h1 := hr t List.mem_cons_self
    exact ⟨p, q, Below.trod hl h1.1 h1.2 hd hb (fun x hx => hlt x (List.mem_append_left _ hx)),
      trodAll_below hl hb ts (fun t ht => hr t (List.mem_cons_of_mem _ ht)) vs' ds' q hrest (fun x hx => hlt x (List.mem_append_right _ hx)), rfl⟩

/-- A law's 'post', out of 'it returned true, and all old memory is as it was'. -/
theorem law_post {H : Type} {enc : TypeId × Value → H} {P : Program} {f : Func} {s : ChangeSpec} {apart : Bool} {W W' : World} {args : Array Value} {ds : List (DataW H)} {before : List MemPlace} (tb : TypeId)
    (hl : laidOutB P = true) (hr : ∀ t ∈ f.params.toList, P.readableRec t = true ∧ t < P.types.size) (hres : f.resultTypes.toList = [tb]) (htb : P.underlying tb = some .bool) (hsv : s.vars = [])
    (hW : DataW.Whole enc P f.params.toList s.vars apart W args.toList ds [] before)
    (hfn : (s.fn H (ds ++ [])).results = [.lit (.bool true)] ∧ (s.fn H (ds ++ [])).args = ds ∧ (s.fn H (ds ++ [])).vars = [])
    (hb : Below W.heap.size W W') : s.post enc P f apart true false false W args (.bool true) W' := by
  have hW0 := hW
  obtain ⟨p, q, hA, hV, rfl, _, _⟩ := hW
  rw [hsv] at hV
  obtain ⟨_, rfl⟩ := trodVars_none hV
  have hlt : ∀ x ∈ p, x.block < W.heap.size := fun x hx => hW0.lt x (by simpa using hx)
  have hsz : f.resultTypes.size = 1 := by rw [← Array.length_toList, hres]; rfl
  refine ⟨ds, [], _, [], p, [], hW0, ?_, ?_, ?_, hb.frame _, fun h => by cases h⟩
  · rw [hfn.1, hres, hsz]
    exact trodAll_mk1 (shut_bool htb _)
  · rw [hfn.2.1]
    exact trodAll_below hl hb _ hr _ _ _ hA hlt
  · rw [hsv, hfn.2.2]; rfl
end
section
open Go.ChangeShapes Go.WideShapes Go.ChangeAt Go.RowKit

theorem Tryz.cells32 : Tryz.prog.cellsOf 61 = 1 := by kernel_rfl
theorem Tryz.bytes32 : Tryz.prog.bytesOf 61 = 4 := by kernel_rfl

theorem wf_u32 {n : Int} (h : (Lit.int .u32 n).wf = true) : 0 ≤ n ∧ n < 4294967296 := by
  have h1 : IntKind.u32.min = 0 := rfl
  have h2 : IntKind.u32.max = 4294967295 := rfl
  simp only [Lit.wf, Bool.and_eq_true, decide_eq_true_eq] at h
  omega
theorem wf_i64 {n : Int} (h : (Lit.int .i64 n).wf = true) : -9223372036854775808 ≤ n ∧ n ≤ 9223372036854775807 := by
  have h1 : IntKind.i64.min = -9223372036854775808 := rfl
  have h2 : IntKind.i64.max = 9223372036854775807 := rfl
  simp only [Lit.wf, Bool.and_eq_true, decide_eq_true_eq] at h
  omega
theorem wf_u64 {n : Int} (h : (Lit.int .u64 n).wf = true) : 0 ≤ n ∧ n < 18446744073709551616 := by
  have h1 : IntKind.u64.min = 0 := rfl
  have h2 : IntKind.u64.max = 18446744073709551615 := rfl
  simp only [Lit.wf, Bool.and_eq_true, decide_eq_true_eq] at h
  omega

set_option maxRecDepth 100000 in
theorem open_nat {H : Type} {enc : TypeId × Value → H} {W : World} {r : Reach} {b0 : Nat} {v : Value} {d : DataW H} {p : List MemPlace} (hval : Value.okWide Tryz.prog W r b0 26 v) (h : DataW.Trod enc Tryz.prog W 0 (fun _ => true) true 26 v d p)
    (hlt : ∀ x ∈ p, x.block < W.heap.size) (hsz : ∀ elems spare, d = .slice elems spare → (elems.length + spare.length) * Tryz.prog.bytesOf 61 ≤ reachBytes) :
    ∃ (A : Option Addr) (c : Nat) (xs : List Nat), v = .slice A xs.length c ∧ xs.length ≤ c ∧ Dig 4294967296 xs ∧ Rd W W.heap.size A (u32s xs) ∧ xs.length ≤ 35184372087808 := by
  obtain ⟨a0, len, cap, rfl⟩ := okWide_slice Tryz.underlying26 hval
  obtain ⟨fuel, hf⟩ := h
  rcases open_ints Tryz.underlying26 Tryz.underlying61 Tryz.cells32 hf with ⟨hcs, hx⟩ | ⟨a, len', cap', zs, hcs, _, hl, hm, hz, hx, hcell, hwz⟩
  · simp [Value.cells] at hcs
    obtain ⟨rfl, rfl, rfl⟩ := hcs
    exact ⟨none, 0, [], rfl, Nat.le_refl _, Dig.nil_ _, Rd.nil_, by simp⟩
  · simp [Value.cells] at hcs
    obtain ⟨rfl, rfl, rfl⟩ := hcs
    simp only [Prod.mk.injEq] at hx
    obtain ⟨rfl, rfl⟩ := hx
    simp only [if_true] at hz
    have hreach := hsz _ _ rfl
    rw [Tryz.bytes32] at hreach
    simp only [lits, List.length_map, List.length_take, List.length_drop, reachBytes] at hreach
    have hlen : ((zs.take len).map Int.toNat).length = len := by rw [List.length_map, List.length_take]; omega
    refine ⟨some a, cap, (zs.take len).map Int.toNat, by rw [hlen], by rw [hlen]; exact hl, fun x hx => ?_, fun hn => ?_, by rw [hlen]; omega⟩
    · obtain ⟨z, hz1, rfl⟩ := List.mem_map.1 hx
      have := wf_u32 (hwz z (List.mem_of_mem_take hz1))
      omega
    · have hl0 : 0 < len := by
        rcases Nat.eq_zero_or_pos len with h0 | h0
        · subst h0; simp [u32s] at hn
        · exact h0
      obtain ⟨b, off, spot⟩ := a
      have hspot : spot = none := by simpa [Addr.add] using World.cell?_spot (hcell 0 (by omega))
      subst hspot
      have hbW : b < W.heap.size := hlt (.cell b off) (MemPlace.mem_row.2 ⟨0, by omega, by simp⟩)
      refine ⟨b, off, rfl, hbW, fun k u hu => ?_⟩
      have hk : k < len := by
        have := (List.getElem?_eq_some_iff.1 hu).1
        rw [u32s_length, hlen] at this
        exact this
      have h1 := hcell k (by omega)
      rw [show (⟨b, off, none⟩ : Addr).add k = ⟨b, off + k, none⟩ from by unfold Addr.add; split <;> simp_all] at h1
      rw [h1, ← hu, u32s_at (by rw [hlen]; exact hk)]
      have hkz : k < zs.length := by omega
      have := wf_u32 (hwz zs[k] (List.getElem_mem hkz))
      simp [List.getD, List.getElem?_eq_getElem hkz]
      omega
end
section
open Go

theorem bulk_one {H : Type} (d : DataW H) : 1 ≤ Rows.uptoBulk d := by
  cases d with
  | lit l => cases l <;> simp only [Rows.uptoBulk] <;> omega
  | _ => simp only [Rows.uptoBulk]; omega
theorem bulk_len {H : Type} (l : List (DataW H)) : l.length ≤ Rows.uptoBulkAll l := by
  induction l with
  | nil => simp only [List.length_nil]; omega
  | cons x l ih => have := bulk_one x; simp only [Rows.uptoBulkAll, List.length_cons]; omega
theorem bulk_part {H : Type} {d : DataW H} {l : List (DataW H)} (h : d ∈ l) : Rows.uptoBulk d ≤ Rows.uptoBulkAll l := by
  induction l with
  | nil => cases h
  | cons x l ih =>
    simp only [Rows.uptoBulkAll]
    rcases List.mem_cons.1 h with rfl | h
    · omega
    · have := ih h; omega
/-- A slice among data of small bulk has few places. -/
theorem small_slice {H : Type} {l : List (DataW H)} {d : DataW H} (hk : Rows.uptoSmall H l = true) (hd : d ∈ l) : ∀ elems spare, d = .slice elems spare → elems.length + spare.length ≤ 1048576 := fun elems spare e => by
  have h1 : Rows.uptoBulkAll l ≤ 1048576 := of_decide_eq_true hk
  have h2 := bulk_part hd
  subst e
  have h3 := bulk_len elems
  have h4 := bulk_len spare
  have h5 : Rows.uptoBulk (DataW.slice elems spare) = Rows.uptoBulkAll elems + Rows.uptoBulkAll spare + 1 := by simp only [Rows.uptoBulk]
  omega
end
end Go.Proofs.YtanlejlmckdeiaaGreatDoor
