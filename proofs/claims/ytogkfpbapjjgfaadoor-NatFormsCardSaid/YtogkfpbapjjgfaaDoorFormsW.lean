/- The walk of the law NatForms. Conditions: fewer limbs than any slice can have; the table reads as it is laid. -/
import Derived.Test.YtogkfpbapjjgfaaDoorFormsB
import Derived.Test.YtogkfpbapjjgfaaDoorRefLen
import Derived.Test.YtogkfpbapjjgfaaDoorLentRd
import Derived.Sort.CutIn
import Derived.Sort.QuietIn
import Derived.LoopIn
import Derived.Deep.RegionHeld3
namespace Go.Proofs.YtogkfpbapjjgfaaDoor
open Go.RowKit Go.Shelf

attribute [local go_sem] Oper.semAt_some

set_option maxHeartbeats 400000 in
theorem bits_any (A : Option Addr) (c : Nat) (xs : List Nat) (w : World) (B : Nat) (hr : Rd w B A (u32s xs)) (hB : B ≤ w.heap.size) (hc : xs.length ≤ c) (hm : xs.length ≤ 70368744177664) :
    Calls Tryd.prog 20 #[.slice A xs.length c] w fun e w' => ∃ (A' : Option Addr) (c' Bk : Nat), e = .returned (.func (.func 43) #[] #[.pointer (some ⟨Bk, 0, none⟩)]) ∧ Boxed w' Bk 23 (.slice A' (trimL xs).length c') ∧ Res w' w.heap.size 31 A' c' (u32s (trimL xs)) ∧ Below w.heap.size w w' := by
  go_enter Tryd.func20, Tryd.ntmps20
  go_wp2_with fail
  refine (norm_any A c xs _ B hr hB hc hm).mono ?_
  rintro e w1 ⟨A1, c1, rfl, hres, hb⟩
  have hbx := Boxed.new w1 23 (.slice A1 (trimL xs).length c1)
  have hbe : Below w1.heap.size w1 (w1.alloc (.cells #[.slice A1 (trimL xs).length c1] 23)) := (Below.refl _ w1).alloc (Nat.le_refl _) _
  have hres2 := hres.below hbe (Nat.le_refl _)
  have hs := hb.size
  go_wp2
  go_ret
  exact ⟨A1, c1, w1.heap.size, rfl, hbx, hres2, hb.trans (hbe.mono hs)⟩

/-- What the law holds all along: its argument's box, the result's box, what lay below. -/
def FP (A : Option Addr) (c : Nat) (xs : List Nat) (w W : World) : Prop :=
  W.heap[w.heap.size]? = some (.cells #[.slice A xs.length c] 23 (0, 0)) ∧ (∃ v, Boxed W (w.heap.size + 1) 4 v) ∧ Below w.heap.size w W
theorem FP.c0 {A : Option Addr} {c : Nat} {xs : List Nat} {w W : World} (h : FP A c xs w W) : W.cell? ⟨w.heap.size, 0, none⟩ = some (.slice A xs.length c) := by simp [World.cell?, h.1]
theorem FP.size {A : Option Addr} {c : Nat} {xs : List Nat} {w W : World} (h : FP A c xs w W) : w.heap.size + 2 ≤ W.heap.size := by
  obtain ⟨v, hv⟩ := h.2.1
  have := hv.lt
  omega
theorem FP.keep {A : Option Addr} {c : Nat} {xs : List Nat} {w W W' : World} {n : Nat} (h : FP A c xs w W) (hb : Below n W W') (hn : w.heap.size + 2 ≤ n) : FP A c xs w W' := by
  obtain ⟨v, hv⟩ := h.2.1
  exact ⟨(hb.block _ (by omega)).trans h.1, ⟨v, (hb.block _ (by omega)).trans hv⟩, h.2.2.trans (hb.mono (by omega))⟩
theorem FP.start (A : Option Addr) (c : Nat) (xs : List Nat) (w : World) (u : Value) : FP A c xs w ((w.alloc (.cells #[.slice A xs.length c] 23)).alloc (.cells #[u] 4)) := by
  refine ⟨?_, ⟨u, ?_⟩, ((Below.refl _ w).alloc (Nat.le_refl _) _).alloc (by simp) _⟩
  · exact (Below.heap_alloc _ _ _ (by simp)).trans (World.alloc_heap_new w _)
  · have := Boxed.new (w.alloc (.cells #[.slice A xs.length c] 23)) 4 u
    simpa using this
theorem vloop_step {ps : List Nat} (h2 : ps.length ≤ 2) (k : Nat) (hk : k < ps.length) (hd : Dig 4294967296 ps) : val 4294967296 (ps.drop (k + 1)) < 4294967296 ∧ val 4294967296 (ps.drop k) = ps[k] + 4294967296 * val 4294967296 (ps.drop (k + 1)) := by
  refine ⟨?_, ?_⟩
  · have h1 := val_lt _ _ (hd.drop_ (k + 1))
    rw [List.length_drop] at h1
    rcases Nat.lt_or_ge (ps.length - (k + 1)) 1 with h | h
    · have e : ps.length - (k + 1) = 0 := by omega
      rw [e] at h1; simp at h1; omega
    · have e : ps.length - (k + 1) = 1 := by omega
      rw [e] at h1; simpa using h1
  · rw [List.drop_eq_getElem_cons hk]; rfl
theorem box_cell {W : World} {B : Nat} {v : Value} {t : TypeId} (h : Boxed W B t v) : W.cell? ⟨B, 0, none⟩ = some v ∧ W.frozen? ⟨B, 0, none⟩ = false := ⟨h.cell, h.frozen⟩

set_option maxRecDepth 100000 in
set_option maxHeartbeats 4000000 in
theorem forms_walk (A : Option Addr) (c : Nat) (xs : List Nat) (n : Nat) (i : Int) (w : World) (hr : Rd w w.heap.size A (u32s xs)) (hd : Dig 4294967296 xs) (hc : xs.length ≤ c) (hm : xs.length ≤ 35184372088000) (hn : n < 18446744073709551616) (hi : i ≤ 9223372036854775807) (hT : Tab32 w) (hlt : 0 < w.heap.size) :
    CallsIn Fence.wide 6 Tryd.prog 3 #[.slice A xs.length c, .int .u64 (n : Int), .int .i64 i] w fun r w' => r = .returned (.bool true) ∧ Below w.heap.size w w' := by
  have HP0 := Lib.hid (FP.start A c xs w (.bool false))
  have HT := Lib.hid hT
  refine callsIn_of_wp_marks Tryd.func3 rfl trivial ?_ rfl
  simp only [Tryd.ntmps3, List.size_toArray, List.length_cons, List.length_nil, Nat.reduceAdd, Nat.reduceSub, Array.replicate_succ, Array.replicate_zero, List.push_toArray, List.append_toArray, List.nil_append, List.cons_append]
  gi_wp2_with fail
  have hr0 := hr.below HP0.out.2.2
  have hs0 : ((w.alloc (.cells #[.slice A xs.length c] 23)).alloc (.cells #[.bool false] 4)).heap.size = w.heap.size + 2 := by simp
  refine ⟨trivial, (callsIn_wide.2 (lend_any A c xs _ w.heap.size hr0 (by omega) (by omega))).mono ?_⟩
  rintro e w1 ⟨rfl, hblk, hb1⟩
  rw [hs0] at hblk hb1 ⊢
  have HP1 := Lib.hid (HP0.out.keep hb1 (Nat.le_refl _))
  have hlt1 := hblk.lt
  have HL1 := Lib.hid hblk
  clear hblk hb1 hr0 hs0
  gi_wp2_with fail
  refine ⟨trivial, (callsIn_wide.2 (norm_any _ _ xs _ w1.heap.size (lent_rd HL1.out hlt1) (Nat.le_refl _) (by omega) (by omega))).mono ?_⟩
  rintro e w2 ⟨Ax, cx, rfl, hx, hb2⟩
  have HP2 := Lib.hid (HP1.out.keep hb2 HP1.out.size)
  have HL2 := Lib.hid (HL1.out.below hb2 hlt1)
  have hs2 := hb2.size
  have Hx2 := Lib.hid hx
  have Hgx : Hid (trimL xs ≠ [] → ∃ g, Ax = some ⟨g, 0, none⟩ ∧ w1.heap.size ≤ g ∧ g < w2.heap.size) := fun hne => by
    obtain ⟨g, rest, e, hg, hb, _⟩ := hx.2.2 (by intro e; have := u32s_length (trimL xs); rw [e] at this; exact hne (List.eq_nil_of_length_eq_zero this.symm))
    exact ⟨g, e, hg, hb.lt⟩
  clear hx hb2
  gi_wp2_with fail
  refine ⟨trivial, (callsIn_wide.2 (norm_any _ _ xs _ w2.heap.size (lent_rd HL2.out HL2.out.lt) (Nat.le_refl _) (by omega) (by omega))).mono ?_⟩
  rintro e w3 ⟨Aa, ca, rfl, ha, hb3⟩
  have HP3 := Lib.hid (HP2.out.keep hb3 HP2.out.size)
  have HL3 := Lib.hid (HL2.out.below hb3 HL2.out.lt)
  have Hx3 := Lib.hid (Hx2.out.below hb3 (Nat.le_refl _))
  have Ha3 := Lib.hid ha
  have hs3 := hb3.size
  have hra3 := hr.below HP3.out.2.2
  have hc0 := HP3.out.c0
  clear ha hb3
  gi_wp2_with fail
  refine ⟨trivial, (callsIn_wide.2 (rnorm_any A c xs _ w.heap.size hra3 HP3.out.2.2.size (by omega))).mono ?_⟩
  rintro e w4 ⟨Aw, cw, rfl, hw, hb4⟩
  have HP4 := Lib.hid (HP3.out.keep hb4 HP3.out.size)
  have HL4 := Lib.hid (HL3.out.below hb4 HL3.out.lt)
  have Hx4 := Lib.hid (Hx3.out.below hb4 (Nat.le_refl _))
  have Ha4 := Lib.hid (Ha3.out.below hb4 (Nat.le_refl _))
  have Hw4 := Lib.hid hw
  have hs4 := hb4.size
  clear hw hb4 hra3 hc0
  gi_wp2_with fail
  refine ⟨trivial, (callsIn_wide.2 (uint64_any _ _ xs _ w4.heap.size (lent_rd HL4.out HL4.out.lt) hd (by omega) (by omega))).mono ?_⟩
  rintro e w5 ⟨rfl, hdr⟩
  have HP5 := Lib.hid (HP4.out.keep (hdr.below w4.heap.size) HP4.out.size)
  have HL5 := Lib.hid (HL4.out.below (hdr.below w4.heap.size) HL4.out.lt)
  have hz5 : w5.heap.size = w4.heap.size := by rw [hdr.heap]
  have Hx5 := Lib.hid (Hx4.out.below (hdr.below w4.heap.size) (Nat.le_refl _))
  have Ha5 := Lib.hid (Ha4.out.below (hdr.below w4.heap.size) (Nat.le_refl _))
  have Hw5 := Lib.hid (Hw4.out.below (hdr.below w4.heap.size) (Nat.le_refl _))
  obtain ⟨u, hu⟩ : ∃ u, u = u64Of xs := ⟨_, rfl⟩
  rw [← hu]
  unfold u64Of at hu
  have hdp := hd.trim_
  have hvp := val_trim 4294967296 xs
  have hpl := trimL_length_le xs
  obtain ⟨ps, hps⟩ : ∃ ps, ps = trimL xs := ⟨_, rfl⟩
  rw [← hps] at hu Hx5 Ha5 Hw5 hdp hvp hpl ⊢
  rw [← hvp] at hu
  obtain ⟨sm, hsm⟩ : ∃ sm, sm = decide (ps.length ≤ 2) := ⟨_, rfl⟩
  rw [← hsm]
  have Hu := Lib.hid hu
  have Hps := Lib.hid hps
  have Hvp := Lib.hid hvp
  have Hsm := Lib.hid hsm
  have hrw := Hw5.out.rd
  have e2 : decide ((ps.length : Int) ≤ 2) = sm := by rw [hsm]; by_cases h : ps.length ≤ 2 <;> simp [h] <;> omega
  clear hdr HP0 HP1 HP2 HP3 HP4 HL1 HL2 HL3 HL4 Hx2 Hx3 Hx4 Ha3 Ha4 Hw4 hu hps hvp hsm
  gi_wp2_with (simp only [e2])
  gi_loopw [15, 16] (fun v k W => ∃ (j vv : Nat), j ≤ ps.length ∧ k = .int .i64 ((j : Int) - 1) ∧ v = .int .u64 (vv : Int) ∧ W = w5 ∧ (sm = true → vv = val 4294967296 (ps.drop j)) ∧ (sm = false → vv = 0)) (fun _ k _ => (intOf k + 1).toNat)
  case atStart => exact ⟨ps.length, 0, Nat.le_refl _, rfl, rfl, rfl, fun _ => by simp [val], fun _ => rfl⟩
  case round =>
    obtain ⟨j, vv, hj, rfl, rfl, rfl, hv1, hv0⟩ := hrel
    have Hv1 := Lib.hid hv1
    have Hv0 := Lib.hid hv0
    clear hv1 hv0
    gi_upto_region 8 with fail
    gi_cut [48, 49, 50, 51] from 170 (fun _ _ _ s W => s = .bool (decide (0 < j) && sm) ∧ W = wr)
    case first =>
      by_cases h0 : 0 < j
      · have t1 : decide ((0 : Int) ≤ (j : Int) - 1) = true := decide_eq_true (by omega)
        have t2 : decide (0 < j) = true := decide_eq_true h0
        gi_wp2_with (simp only [t1])
        gi_meet
        case rel => exact ⟨by rw [t2]; rfl, rfl⟩
      · have t1 : decide ((0 : Int) ≤ (j : Int) - 1) = false := decide_eq_false (by omega)
        have t2 : decide (0 < j) = false := decide_eq_false h0
        gi_wp2_with (simp only [t1])
        gi_meet
        case rel => exact ⟨by rw [t2]; rfl, rfl⟩
    case rest =>
      obtain ⟨rfl, rfl⟩ := hcut
      obtain ⟨bb, hbb⟩ : ∃ bb, bb = (decide (0 < j) && sm) := ⟨_, rfl⟩
      rw [← hbb]
      have Hbb := Lib.hid hbb
      clear hbb
      cases bb
      · have hvu : vv = u := by
          have h1 := Hbb.out
          have h2 := Hu.out
          have h3 := Hsm.out
          cases sm
          · rw [if_neg (of_decide_eq_false h3.symm)] at h2
            rw [Hv0.out rfl, h2]
          · rw [if_pos (of_decide_eq_true h3.symm)] at h2
            have hj0 : j = 0 := by
              have := of_decide_eq_false (by simpa using h1.symm : decide (0 < j) = false)
              omega
            rw [Hv1.out rfl, h2, hj0, List.drop_zero]
        subst hvu
        clear Hv1 Hv0 Hbb
        gi_wp2_with fail
        have hrx := Hx5.out.rd
        refine ⟨trivial, (callsIn_wide.2 (same_yes Ax Aw cx cw ps _ wc.heap.size hrx hrw (by omega))).mono ?_⟩
        rintro e w6 ⟨rfl, hdr⟩
        have HP6 := Lib.hid (HP5.out.keep (hdr.below wc.heap.size) HP5.out.size)
        have HL6 := Lib.hid (HL5.out.below (hdr.below wc.heap.size) HL5.out.lt)
        have hz6 : w6.heap.size = w4.heap.size := by rw [hdr.heap]; exact hz5
        have Hx6 := Lib.hid (Hx5.out.below (hdr.below wc.heap.size) (Nat.le_refl _))
        have Ha6 := Lib.hid (Ha5.out.below (hdr.below wc.heap.size) (Nat.le_refl _))
        have Hw6 := Lib.hid (Hw5.out.below (hdr.below wc.heap.size) (Nat.le_refl _))
        clear hdr HP5 HL5 hz5 Hx5 Ha5 Hw5 hrw hrx
        gi_wp2_with fail
        refine ⟨trivial, (callsIn_wide.2 (of_any n hn _)).mono ?_⟩
        rintro e w7 ⟨zs, A7, c7, rfl, hn7, hres7, hb7⟩
        have HP7 := Lib.hid (HP6.out.keep hb7 HP6.out.size)
        have HL7 := Lib.hid (HL6.out.below hb7 HL6.out.lt)
        have hz7 := hb7.size
        rw [hz6] at hz7
        have Hx7 := Lib.hid (Hx6.out.below hb7 (Nat.le_refl _))
        have Ha7 := Lib.hid (Ha6.out.below hb7 (Nat.le_refl _))
        have Hw7 := Lib.hid (Hw6.out.below hb7 (Nat.le_refl _))
        clear hb7 HP6 HL6 hz6 Hx6 Ha6 Hw6
        gi_wp2_with fail
        refine ⟨trivial, (callsIn_wide.2 (rof_any n hn _)).mono ?_⟩
        rintro e w8 ⟨ys, A8, c8, rfl, hn8, hres8, hb8⟩
        obtain rfl := Num.unique (by omega) hn7 hn8
        have HP8 := Lib.hid (HP7.out.keep hb8 HP7.out.size)
        have HL8 := Lib.hid (HL7.out.below hb8 HL7.out.lt)
        have hz8 := Nat.le_trans hz7 hb8.size
        have Hx8 := Lib.hid (Hx7.out.below hb8 (Nat.le_refl _))
        have Ha8 := Lib.hid (Ha7.out.below hb8 (Nat.le_refl _))
        have Hw8 := Lib.hid (Hw7.out.below hb8 (Nat.le_refl _))
        have hr7 := (hres7.below hb8 (Nat.le_refl _)).rd
        have hr8 := hres8.rd
        have hzl : zs.length ≤ 281474976710656 := by have := hres8.2.1; have := hres8.1; rw [u32s_length] at this; omega
        clear hb8 HP7 HL7 hz7 Hx7 Ha7 Hw7 hn7 hn8 hres7 hres8
        gi_wp2_with fail
        refine ⟨trivial, (callsIn_wide.2 (same_yes A7 A8 c7 c8 zs _ w8.heap.size hr7 hr8 hzl)).mono ?_⟩
        rintro e w9 ⟨rfl, hdr⟩
        have HP9 := Lib.hid (HP8.out.keep (hdr.below w8.heap.size) HP8.out.size)
        have HL9 := Lib.hid (HL8.out.below (hdr.below w8.heap.size) HL8.out.lt)
        have hz9 : w4.heap.size ≤ w9.heap.size := by rw [hdr.heap]; exact hz8
        have Hx9 := Lib.hid (Hx8.out.below (hdr.below w8.heap.size) (Nat.le_refl _))
        have Ha9 := Lib.hid (Ha8.out.below (hdr.below w8.heap.size) (Nat.le_refl _))
        have Hw9 := Lib.hid (Hw8.out.below (hdr.below w8.heap.size) (Nat.le_refl _))
        clear hdr HP8 HL8 hz8 Hx8 Ha8 Hw8 hr7 hr8 hzl
        have es : (sm != sm) = false := by cases sm <;> rfl
        have ev : ((vv : Int) != (vv : Int)) = false := by simp
        gi_upto_region 13 with (first | (simp only [es, ev]) | (simp only [es]) | (simp only [ev]))
        gi_cut [104] from 170 (fun s W => s = .bool false ∧ Below w9.heap.size w9 W)
        case first =>
          have hc0 := HP9.out.c0
          have hsz9 := HP9.out.size
          have hTb : ∀ {W}, Below w9.heap.size w9 W → Tab32 W := fun hW => (HT.out.below HP9.out.2.2 hlt).below hW (by omega)
          have hrp : ∀ {W}, Below w9.heap.size w9 W → Rd W w9.heap.size (some ⟨w.heap.size + 2, 1, none⟩) (u32s xs) := fun hW => (lent_rd HL9.out HL9.out.lt).below hW
          have hra : ∀ {W}, Below w9.heap.size w9 W → Rd W w9.heap.size A (u32s xs) := fun hW => ((hr.below HP9.out.2.2).mono (by omega)).below hW
          have hcw : ∀ {W}, Below w9.heap.size w9 W → W.cell? ⟨w.heap.size, 0, none⟩ = some (.slice A xs.length c) := fun hW => (hW.cell (p := ⟨w.heap.size, 0, none⟩) (by show w.heap.size < _; omega)).trans hc0
          obtain ⟨t, ht⟩ := trail_exists xs
          have H1 : Hid (∀ W, Below w9.heap.size w9 W → Calls Tryd.prog 14 #[.slice (some ⟨w.heap.size + 2, 1, none⟩) xs.length (xs.length + 1)] W fun e w' => e = .returned (.int .i64 (bitsOf (val 4294967296 xs) : Nat)) ∧ W = w') := fun W hW => len_any _ _ xs W _ (hrp hW) hd (by omega) (by omega)
          have H2 : Hid (∀ W, Below w9.heap.size w9 W → Calls Tryd.prog 15 #[.slice A xs.length c] W fun e w' => e = .returned (.int .i64 (bitsOf (val 4294967296 xs) : Nat)) ∧ Below W.heap.size W w') := fun W hW => rlen_any _ _ xs W _ (hra hW) hW.size hd (by omega)
          have H3 : Hid (∀ W, Below w9.heap.size w9 W → Calls Tryd.prog 16 #[.slice (some ⟨w.heap.size + 2, 1, none⟩) xs.length (xs.length + 1), .int .i64 i] W fun e w' => e = .returned (.int .u64 (bitOf xs i : Nat)) ∧ Dr W w') := fun W hW => bit_any _ _ xs i W _ (hrp hW) hd (by omega) hi
          have H4 : Hid (∀ W, Below w9.heap.size w9 W → Calls Tryd.prog 17 #[.slice A xs.length c, .int .i64 i] W fun e w' => e = .returned (.int .u64 (bitOf xs i : Nat)) ∧ W = w') := fun W hW => rbit_any _ _ xs i W _ (hra hW) hd (by omega) hi
          have H5 : Hid (∀ W, Below w9.heap.size w9 W → Calls Tryd.prog 18 #[.slice (some ⟨w.heap.size + 2, 1, none⟩) xs.length (xs.length + 1)] W fun e w' => e = .returned (.int .i64 (t : Int)) ∧ W = w') := fun W hW => trail_fix _ _ xs t ht W _ (hrp hW) hd (by omega) (hTb hW)
          have H6 : Hid (∀ W, Below w9.heap.size w9 W → Calls Tryd.prog 19 #[.slice A xs.length c] W fun e w' => e = .returned (.int .i64 (t : Int)) ∧ W = w') := fun W hW => rtrail_any _ _ xs t ht W _ (hra hW) hd (by omega)
          obtain ⟨q, hq⟩ : ∃ q, q = bitsOf (val 4294967296 xs) := ⟨_, rfl⟩
          obtain ⟨bi, hbi⟩ : ∃ bi, bi = bitOf xs i := ⟨_, rfl⟩
          rw [← hq] at H1 H2
          rw [← hbi] at H3 H4
          have Hcw := Lib.hid (fun W => @hcw W)
          have q1 : ((q : Int) != (q : Int)) = false := by simp
          have q2 : ((bi : Int) != (bi : Int)) = false := by simp
          have q3 : ((t : Int) != (t : Int)) = false := by simp
          clear hTb hrp hra hcw ht hq hbi
          refine wpIn_wide.2 (wp_region_noPanic ?_)
          go_region_held3 (fun W => W.cell? ⟨w.heap.size, 0, none⟩ = some (.slice A xs.length c)) (first | go_keep | exact Hca.out | exact Hcb.out) (first
            | (go_at_call 14; (with_reducible refine (H1.out _ (by first | exact Below.refl _ _ | exact (Below.refl _ _).drew)).mono ?_); rintro e w' ⟨rfl, rfl⟩)
            | (go_at_call 15; (with_reducible refine (H2.out _ (by first | exact Below.refl _ _ | exact (Below.refl _ _).drew)).mono ?_); rintro e wa ⟨rfl, hba⟩; have hBa : Below w9.heap.size w9 wa := (by first | exact hba | exact (Below.refl _ _).drew.trans hba); have Hca := Lib.hid (Hcw.out _ hBa))
            | (go_at_call 16; (with_reducible refine (H3.out _ (by first | exact hBa | exact hBa.drew)).mono ?_); rintro e wb ⟨rfl, hdb⟩; have hBb : Below w9.heap.size w9 wb := (by first | exact hBa.trans (hdb.below _) | exact hBa.drew.trans (hdb.below _)); have Hcb := Lib.hid (Hcw.out _ hBb))
            | (go_at_call 17; (with_reducible refine (H4.out _ (by first | exact hBb | exact hBb.drew)).mono ?_); rintro e w' ⟨rfl, rfl⟩)
            | (go_at_call 18; (with_reducible refine (H5.out _ (by first | exact hBb | exact hBb.drew | exact hBb.drew.drew)).mono ?_); rintro e w' ⟨rfl, rfl⟩)
            | (go_at_call 19; (with_reducible refine (H6.out _ (by first | exact hBb | exact hBb.drew | exact hBb.drew.drew)).mono ?_); rintro e w' ⟨rfl, rfl⟩))
          all_goals refine NoPanic.normal ?_
          all_goals go_wp2
          all_goals gi_meet
          all_goals exact ⟨rfl, by first | exact hBb | exact hBb.drew | exact hBb.drew.drew⟩
        case rest =>
          obtain ⟨rfl, hb10⟩ := hcut
          have HP10 := Lib.hid (HP9.out.keep hb10 HP9.out.size)
          have HL10 := Lib.hid (HL9.out.below hb10 HL9.out.lt)
          have hz10 := Nat.le_trans hz9 hb10.size
          have Hx10 := Lib.hid (Hx9.out.below hb10 (Nat.le_refl _))
          have Ha10 := Lib.hid (Ha9.out.below hb10 (Nat.le_refl _))
          have Hw10 := Lib.hid (Hw9.out.below hb10 (Nat.le_refl _))
          clear hb10 HP9 HL9 hz9 Hx9 Ha9 Hw9 es ev
          have hw2 := HP10.out.size
          have hbelV : Below wc.heap.size wc ((wc.alloc (.cells #[.int .i64 (-1)] 3)).alloc (.cells #[.int .i64 0] 3)) := ((Below.refl _ wc).alloc (Nat.le_refl _) _).alloc (by simp) _
          have hJ0 : JI w wc [] ((wc.alloc (.cells #[.int .i64 (-1)] 3)).alloc (.cells #[.int .i64 0] 3)) := by
            refine ⟨⟨(Hold.refl _ _).below hbelV, HP10.out.2.2.trans (hbelV.mono (by omega)), (Boxed.new wc 3 (.int .i64 (-1))).alloc _, ?_, ?_⟩, by simp⟩
            · have := Boxed.new (wc.alloc (.cells #[.int .i64 (-1)] 3)) 3 (.int .i64 0)
              rw [World.size_alloc] at this
              exact this
            · obtain ⟨u, hu⟩ := HP10.out.2.1
              exact ⟨u, (hbelV.block _ (by omega)).trans hu⟩
          have HJ0 := Lib.hid hJ0
          have HrV := Lib.hid ((lent_rd HL10.out HL10.out.lt).below hbelV)
          have hszV : ((wc.alloc (.cells #[.int .i64 (-1)] 3)).alloc (.cells #[.int .i64 0] 3)).heap.size = wc.heap.size + 2 := by simp
          clear hJ0 hbelV
          gi_upto_region 16 with fail
          obtain ⟨V, hV⟩ : ∃ V, V = (wc.alloc (.cells #[.int .i64 (-1)] 3)).alloc (.cells #[.int .i64 0] 3) := ⟨_, rfl⟩
          rw [← hV] at HJ0 HrV hszV ⊢
          clear hV
          gi_wp2_with fail
          refine ⟨trivial, (callsIn_wide.2 (bits_any _ _ xs _ wc.heap.size HrV.out (by omega) (by omega) (by omega))).mono ?_⟩
          rintro e wb ⟨Ak, ck, Bk, rfl, hbk, hresk, hbb⟩
          rw [← Hps.out] at hbk hresk
          have HJ1 := Lib.hid (show JI w wc [] wb from ⟨HJ0.out.1.below hbb, HJ0.out.2⟩)
          have HTb := Lib.hid (HT.out.below HJ1.out.1.2.1 hlt)
          have hszb := hbb.size
          have Hbk := Lib.hid hbk
          have Hresk := Lib.hid hresk
          clear hbk hresk hbb HJ0 HrV
          have xN : ∀ (p : Value) (W : World), Sem.run Tryd.prog (binOp BinOp.eql 37 (.func (.func 43) #[] #[p]) .nilFunc) W = .ok (.bool false) W := fun _ _ => by kernel_rfl
          gi_wp2_with fail
          refine range_fin (by omega) (gf := 43) (lb := #[.pointer (some ⟨Bk, 0, none⟩)]) rfl (enters_of Tryd.func43 (by kernel_rfl) rfl)
            (bits_own 5 Bk w.heap.size V.heap.size Ak ck ps (by omega) hdp (by omega) wb Hbk.out Hresk.out HTb.out hlt HJ1.out.1.2.1.size) KC.trans (KC.put HJ1.out.1.2.1.size) (fun _ => rfl)
            (JI w wc) (JX ps w wc) (JI.own HJ1.out.1.2.1.size) (JX.own HJ1.out.1.2.1.size) HJ1.out ?act 2 (fun W => ∃ (l : Int) (v : Nat), (v = pops ps ∨ v = 3001) ∧ JF w wc l (v : Int) W) ?exit ?hd ?hs ?fin ?assign ?body
          case exit => exact fun _ _ h => h
          case hd => exact fun pre W h hJ => ⟨_, pre.length, Or.inl h.2, hJ.1⟩
          case hs =>
            rintro c pre W hg (⟨_, p, x, rfl, hno⟩ | ⟨rfl, l, hJ⟩)
            · exact absurd hg.last hno
            · exact ⟨rfl, l, 3001, Or.inr rfl, hJ⟩
          case assign =>
            intro l' x W K hK
            gi_wp2
            exact hK
          case fin =>
            rintro D W hD ⟨l, v, hv, hJ⟩ hK
            have hc3 : W.cell? ⟨w.heap.size, 0, none⟩ = some (.slice A xs.length c) := by
              have := hJ.1 w.heap.size _ (by omega) HP10.out.1 rfl
              simp [World.cell?, this]
            have hraW := hr.below hJ.2.1
            have hsW := hJ.2.2.2.1.lt
            have hDl := (Array.getElem?_eq_some_iff.1 hK).1
            have hpx : pops ps = pops xs := by rw [Hps.out, pops_trim]
            have hpl2 := pops_le hd
            obtain ⟨gx, hgx1, hgx2, hgx3⟩ : ∃ gx, (ps ≠ [] → Ax = some ⟨gx, 0, none⟩ ∧ ∃ ys, Blk W gx 31 ys ∧ ps.length ≤ ys.length) ∧ w.heap.size + 3 ≤ gx ∧ (gx < w2.heap.size ∨ W.heap.size ≤ gx) := by
              by_cases hne : ps = []
              · exact ⟨W.heap.size, fun h => absurd hne h, by omega, Or.inr (Nat.le_refl _)⟩
              · obtain ⟨g, hg1, hg2, hg3⟩ := Hgx.out (by rw [← Hps.out]; exact hne)
                refine ⟨g, fun _ => ⟨hg1, ?_⟩, by omega, Or.inl hg3⟩
                obtain ⟨g', rest, e, _, hb, _⟩ := (Hx10.out.hold hJ.1 (by omega)).2.2 (by intro e; have := u32s_length ps; rw [e] at this; exact hne (List.eq_nil_of_length_eq_zero this.symm))
                rw [hg1] at e
                obtain rfl : g = g' := by simpa using e
                exact ⟨_, hb, by rw [List.length_append, u32s_length]; omega⟩
            have HJ := Lib.hid hJ
            have HK := Lib.hid hK
            have Hgx1 := Lib.hid hgx1
            have HraW := Lib.hid hraW
            clear hJ hK hgx1 Hgx Hbk Hresk HTb xN
            gi_wp2_with fail
            gi_loopw [21, 23, 127] (fun o _ ix Wr => ∃ k : Nat, k ≤ xs.length ∧ ix = .int .i64 (k : Int) ∧ o = .int .i64 ((pops (xs.take k) : Nat) : Int) ∧ Wr = W) (fun _ _ ix _ => xs.length - (intOf ix).toNat)
            case atStart => exact ⟨0, by omega, rfl, rfl, rfl⟩
            case round =>
              obtain ⟨k, hk, rfl, rfl, rfl⟩ := hrel
              by_cases hkl : k < xs.length
              · obtain ⟨b, off, rfl, hb, hcell⟩ := HraW.out (by intro e; have := u32s_length xs; rw [e] at this; simp at this; omega)
                have hxk := hcell k _ (u32s_at hkl)
                have hxkd := hd.at_ k hkl
                have hpk := pops_take_succ xs k hkl
                have hpb : pops (xs.take (k + 1)) ≤ 32 * (xs.take (k + 1)).length := pops_le (hd.take_ _)
                rw [List.length_take] at hpb
                obtain ⟨y, hy⟩ : ∃ y, y = xs[k] := ⟨_, rfl⟩
                rw [← hy] at hxk hxkd hpk
                obtain ⟨s0, hs0⟩ : ∃ s0, s0 = pops (xs.take k) := ⟨_, rfl⟩
                rw [← hs0] at hpk ⊢
                obtain ⟨s1, hs1⟩ : ∃ s1, s1 = pops (xs.take (k + 1)) := ⟨_, rfl⟩
                rw [← hs1] at hpk hpb
                have Hs1 := Lib.hid hs1
                have Hpk := Lib.hid hpk
                have hs1b : s1 ≤ 1152921504606846976 := by omega
                clear hcell hy hs0 hs1 hpk hpb
                gi_wp2_with fail
                gi_loopw [21, 23] (fun o yv Wr2 => ∃ s z : Nat, o = .int .i64 (s : Int) ∧ yv = .int .u32 (z : Int) ∧ z < 4294967296 ∧ s + pop z = s1 ∧ Wr2 = wr) (fun _ yv _ => (intOf yv).toNat)
                case atStart => exact ⟨s0, y, rfl, rfl, hxkd, Hpk.out.symm, rfl⟩
                case round =>
                  clear hxk hxkd Hpk
                  obtain ⟨s, z, rfl, rfl, hz, hsz, rfl⟩ := hrel
                  by_cases hz0 : z = 0
                  · subst hz0
                    rw [pop_zero] at hsz
                    have Hsz := Lib.hid hsz
                    clear hsz
                    gi_wp2_with fail
                    go_roundw
                    case rel => exact ⟨k + 1, by omega, by go_num, by rw [← Hs1.out, ← Hsz.out]; rfl, by trivial⟩
                    case measure => simp [intOf]; omega
                  · have hpr := pop_rec z
                    have t1 : decide ((0 : Int) < (z : Int)) = true := decide_eq_true (by omega)
                    have Hpr := Lib.hid (show s + z % 2 + pop (z / 2) = s1 by omega)
                    have hsb : s ≤ 1152921504606846976 := by omega
                    clear hpr hsz
                    gi_wp2_with fail
                    go_roundw
                    case rel => exact ⟨s + z % 2, z / 2, by go_num, by go_num, by omega, Hpr.out, by trivial⟩
                    case measure => simp [intOf]; omega
              · obtain rfl : k = xs.length := by omega
                rw [List.take_length]
                obtain ⟨o, ho⟩ : ∃ o, o = pops xs := ⟨_, rfl⟩
                rw [← ho] at hpx hpl2 ⊢
                rw [hpx] at hv
                clear ho
                gi_wp2_with fail
                gi_loopw [24, 143] (fun _ ix W2 => ∃ k : Nat, k ≤ ps.length ∧ ix = .int .i64 (k : Int) ∧ Ch gx wr W2 ∧ (ps ≠ [] → ∃ ys, Blk W2 gx 31 ys ∧ ps.length ≤ ys.length)) (fun _ ix _ => ps.length - (intOf ix).toNat)
                case atStart => exact ⟨0, by omega, rfl, Ch.refl _ _, fun h => (Hgx1.out h).2⟩
                case round =>
                  obtain ⟨k, hk, rfl, hch, hys⟩ := hrel
                  by_cases hkp : k < ps.length
                  · have hne : ps ≠ [] := by rintro rfl; simp at hkp
                    obtain ⟨ys, hby, hyl⟩ := hys hne
                    obtain rfl := (Hgx1.out hne).1
                    have hcy := hby.cell k
                    rw [List.getElem?_eq_getElem (by omega)] at hcy
                    have hfy := hby.frozen k
                    obtain ⟨yk, hyk⟩ : ∃ yk, yk = ys[k] := ⟨_, rfl⟩
                    rw [← hyk] at hcy
                    have Hset := Lib.hid (hby.set_ k (.int .u32 7))
                    have Hch := Lib.hid (hch.setCell k (.int .u32 7))
                    clear hys hby hyk hch
                    gi_wp2_with fail
                    go_roundw
                    case rel => exact ⟨k + 1, by omega, by go_num, Hch.out, fun _ => ⟨_, Hset.out, by rw [List.length_set]; exact hyl⟩⟩
                    case measure => simp [intOf]; omega
                  · obtain rfl : k = ps.length := by omega
                    have hJ := HJ.out
                    have hb18 : Boxed wr (wc.heap.size + 1) 3 (.int .i64 (v : Int)) := (hch.block _ (by omega)).trans hJ.2.2.2.1
                    have hb6 : ∃ u, Boxed wr (w.heap.size + 1) 4 u := by
                      obtain ⟨u, hu⟩ := hJ.2.2.2.2
                      exact ⟨u, (hch.block _ (by omega)).trans hu⟩
                    have hc18 := hb18.cell
                    have hf18 := hb18.frozen
                    have Hbw := Lib.hid (hJ.2.1.trans (hch.below (by omega)))
                    have Hra2 := Lib.hid (HraW.out.ch hch (by omega))
                    have Ha2 := Lib.hid ((Ha10.out.hold hJ.1 (by omega)).ch hch hgx3)
                    have Hw2 := Lib.hid ((Hw10.out.hold hJ.1 (by omega)).ch hch (by omega))
                    have HL2 := Lib.hid ((HL10.out.hold hJ.1 (by omega)).ch hch (by omega))
                    have HK2 := Lib.hid ((hch.block D (by omega)).trans HK.out)
                    have Hb6 := Lib.hid hb6
                    have hc3w : wr.cell? ⟨w.heap.size, 0, none⟩ = some (.slice A xs.length c) := ((hch.below (B := w.heap.size + 1) (by omega)).cell (p := ⟨w.heap.size, 0, none⟩) (by show w.heap.size < _; omega)).trans hc3
                    have hsz : wr.heap.size = _ := hch.size
                    rw [← hsz] at hDl hsW
                    clear hJ hb18 hb6 hch hys hc3 HJ HK Hgx1 hraW HraW hgx3 hsz
                    by_cases hvo : v = o
                    · subst hvo
                      have t1 : ((v : Int) == (v : Int)) = true := by simp
                      gi_wp2_with (simp only [t1])
                      refine ⟨trivial, (callsIn_wide.2 (same_yes Aa Aw ca cw ps _ wr.heap.size Ha2.out.rd Hw2.out.rd (by omega))).mono ?_⟩
                      rintro e w11 ⟨rfl, hdr⟩
                      have hb11 := hdr.below wr.heap.size
                      have hc11 : w11.cell? ⟨w.heap.size, 0, none⟩ = some (.slice A xs.length c) := (hb11.cell (p := ⟨w.heap.size, 0, none⟩) (by show w.heap.size < _; omega)).trans hc3w
                      have hz11 : w11.heap.size = wr.heap.size := by rw [hdr.heap]
                      clear hdr t1 hc18 hf18 hc3w
                      gi_wp2_with fail
                      refine ⟨trivial, (callsIn_wide.2 (kept_yes _ A (xs.length + 2) c xs _ wr.heap.size ((lent_rd0 HL2.out HL2.out.lt).below hb11) ((Hra2.out.mono (by omega)).below hb11) (by omega))).mono ?_⟩
                      rintro e w12 ⟨rfl, rfl⟩
                      clear hc11
                      gi_wp2_with fail
                      refine ⟨trivial, (callsIn_wide.2 (lives_any _)).mono ?_⟩
                      rintro e w13 ⟨rfl, hb13⟩
                      have hb13w := hb11.trans (hb13.mono (by omega))
                      have hb6w : ∃ u, Boxed w13 (w.heap.size + 1) 4 u := by
                        obtain ⟨u, hu⟩ := Hb6.out
                        exact ⟨u, (hb13w.block _ (by omega)).trans hu⟩
                      have HE := Lib.hid (forms_end (Hbw.out.trans (hb13w.mono (by omega))) hb6w (by omega) ((hb13w.block D (by omega)).trans HK2.out))
                      obtain ⟨u6, hu6⟩ := hb6w
                      have hc6 := hu6.cell
                      have hf6 := hu6.frozen
                      clear hu6 hb13w hb13 hb11
                      gi_wp2_with fail
                      refine ⟨by simp, .inl ⟨_, _, rfl, run_takeDeferred HE.out.1, ?_⟩⟩
                      have e0 := HE.out.2.1
                      refine ⟨.bool true, ?_, rfl, HE.out.2.2⟩
                      simp [results, Tryd.f3, go_sem, e0]
                    · obtain rfl : v = 3001 := by omega
                      have t1 : ((3001 : Int) == (o : Int)) = false := by simp; omega
                      gi_wp2_with (simp only [t1])
                      refine ⟨trivial, (callsIn_wide.2 (same_yes Aa Aw ca cw ps _ wr.heap.size Ha2.out.rd Hw2.out.rd (by omega))).mono ?_⟩
                      rintro e w11 ⟨rfl, hdr⟩
                      have hb11 := hdr.below wr.heap.size
                      have hc11 : w11.cell? ⟨w.heap.size, 0, none⟩ = some (.slice A xs.length c) := (hb11.cell (p := ⟨w.heap.size, 0, none⟩) (by show w.heap.size < _; omega)).trans hc3w
                      have hz11 : w11.heap.size = wr.heap.size := by rw [hdr.heap]
                      clear hdr t1 hc18 hf18 hc3w
                      gi_wp2_with fail
                      refine ⟨trivial, (callsIn_wide.2 (kept_yes _ A (xs.length + 2) c xs _ wr.heap.size ((lent_rd0 HL2.out HL2.out.lt).below hb11) ((Hra2.out.mono (by omega)).below hb11) (by omega))).mono ?_⟩
                      rintro e w12 ⟨rfl, rfl⟩
                      clear hc11
                      gi_wp2_with fail
                      refine ⟨trivial, (callsIn_wide.2 (lives_any _)).mono ?_⟩
                      rintro e w13 ⟨rfl, hb13⟩
                      have hb13w := hb11.trans (hb13.mono (by omega))
                      have hb6w : ∃ u, Boxed w13 (w.heap.size + 1) 4 u := by
                        obtain ⟨u, hu⟩ := Hb6.out
                        exact ⟨u, (hb13w.block _ (by omega)).trans hu⟩
                      have HE := Lib.hid (forms_end (Hbw.out.trans (hb13w.mono (by omega))) hb6w (by omega) ((hb13w.block D (by omega)).trans HK2.out))
                      obtain ⟨u6, hu6⟩ := hb6w
                      have hc6 := hu6.cell
                      have hf6 := hu6.frozen
                      clear hu6 hb13w hb13 hb11
                      gi_wp2_with fail
                      refine ⟨by simp, .inl ⟨_, _, rfl, run_takeDeferred HE.out.1, ?_⟩⟩
                      have e0 := HE.out.2.1
                      refine ⟨.bool true, ?_, rfl, HE.out.2.2⟩
                      simp [results, Tryd.f3, go_sem, e0]
          case body =>
            intro l' pre x W hI hln
            obtain ⟨xv, hxv⟩ := x
            obtain ⟨hJ, hcnt⟩ := hI
            have hc3 : W.cell? ⟨w.heap.size, 0, none⟩ = some (.slice A xs.length c) := by
              have := hJ.1 w.heap.size _ (by omega) HP10.out.1 rfl
              simp [World.cell?, this]
            have hbe : bitOf xs (xv : Int) = bitAt ps xv := by
              unfold bitOf
              rw [if_neg (by omega), Int.toNat_natCast, Hps.out, bitAt_trim]
            have Hbit := Lib.hid (rbit_any A c xs (xv : Int) W w.heap.size (hr.below hJ.2.1) hd (by omega) (by omega))
            rw [hbe] at Hbit
            obtain ⟨bv, hbv⟩ : ∃ bv, bv = bitAt ps xv := ⟨_, rfl⟩
            rw [← hbv] at Hbit
            obtain ⟨la, hla⟩ : ∃ la, la = lastI pre := ⟨_, rfl⟩
            obtain ⟨m, hmm⟩ : ∃ m, m = pre.length := ⟨_, rfl⟩
            rw [← hla, ← hmm] at hJ
            rw [← hmm] at hcnt
            have HX := Lib.hid (fun (W' : World) (h : ¬ (la < (xv : Int) ∧ bv = 1)) => (show JX ps w wc .ret (pre ++ [⟨xv, hxv⟩]) W' from Or.inl ⟨rfl, pre, _, rfl, by rw [← hla, ← hbv]; exact h⟩))
            have hc17 := hJ.2.2.1.cell
            have hf17 := hJ.2.2.1.frozen
            obtain ⟨u6, hb6⟩ := hJ.2.2.2.2
            have hc6 := hb6.cell
            have hf6 := hb6.frozen
            have HJ := Lib.hid hJ
            have Hmm := Lib.hid hmm
            clear hJ hb6 hla hbv hmm hbe hln
            by_cases hlt2 : la < (xv : Int)
            · have t1 : decide ((xv : Int) ≤ la) = false := decide_eq_false (by omega)
              by_cases hb1 : bv = 1
              · subst hb1
                have hput := HJ.out.put hw2 (xv : Int) ((m + 1 : Nat) : Int)
                have hkc := kc_put HJ.out (.int .i64 (xv : Int)) (.int .i64 ((m + 1 : Nat) : Int)) V.heap.size (by omega) (by omega)
                have hko := (KeepsOthers.setCell W ⟨wc.heap.size, 0, none⟩ (.int .i64 (xv : Int))).trans (KeepsOthers.setCell _ ⟨wc.heap.size + 1, 0, none⟩ (.int .i64 ((m + 1 : Nat) : Int)))
                have hx18 := boxed_far HJ.out.2.2.2.1 (show wc.heap.size + 1 ≠ wc.heap.size by omega) (.int .i64 (xv : Int))
                have hd18 := hx18.cell
                have he18 := hx18.frozen
                rw [show ((m + 1 : Nat) : Int) = (m : Int) + 1 from by omega] at hput hkc hko
                have HPut := Lib.hid hput
                have HKc := Lib.hid hkc
                have HKo := Lib.hid hko
                clear HX hput hkc hko hx18
                gi_wp2_with (simp only [t1])
                refine ⟨trivial, (CallsIn.inRound l' (callsIn_wide.2 Hbit.out)).mono ?_⟩
                rintro _ W9 ⟨rfl, h9⟩
                rw [← h9]
                clear h9
                gi_upto_region 25 with fail
                obtain ⟨W5, hW5⟩ : ∃ W5, W5 = (W.setCell ⟨wc.heap.size, 0, none⟩ (.int .i64 (xv : Int))).setCell ⟨wc.heap.size + 1, 0, none⟩ (.int .i64 ((m : Int) + 1)) := ⟨_, rfl⟩
                have H5 := Lib.hid (show JF w wc (xv : Int) ((m : Int) + 1) W5 from by rw [hW5]; exact HPut.out)
                have HK5 := Lib.hid (show KC w.heap.size V.heap.size W W5 from by rw [hW5]; exact HKc.out)
                have HO5 := Lib.hid (show KeepsOthers W W5 from by rw [hW5]; exact HKo.out)
                have hc18 : W5.cell? ⟨wc.heap.size + 1, 0, none⟩ = some (.int .i64 ((m : Int) + 1)) := H5.out.2.2.2.1.cell
                rw [← hW5]
                clear hd18 he18 hc17 hf17 hc3 hc6 hf6 hW5 HPut HKc HKo Hbit HJ
                by_cases h30 : m = 3000
                · have t3 : decide ((3000 : Int) < (m : Int) + 1) = true := decide_eq_true (by omega)
                  have H7 := Lib.hid (show JX ps w wc (.exit 2) (pre ++ [⟨xv, hxv⟩]) W5 from Or.inr ⟨rfl, _, by have := H5.out; rwa [show (m : Int) + 1 = 3001 from by omega] at this⟩)
                  gi_wp2_with (simp only [t3])
                  exact ⟨HO5.out, H7.out⟩
                · have t3 : decide ((3000 : Int) < (m : Int) + 1) = false := decide_eq_false (by omega)
                  have H7 := Lib.hid (show JI w wc (pre ++ [⟨xv, hxv⟩]) W5 from by
                    refine ⟨?_, by rw [List.length_append, List.length_singleton, ← Hmm.out]; omega⟩
                    rw [lastI_snoc, List.length_append, List.length_singleton, ← Hmm.out, show ((m + 1 : Nat) : Int) = (m : Int) + 1 from by omega]
                    exact H5.out)
                  gi_wp2_with (simp only [t3])
                  exact ⟨HO5.out, HK5.out, H7.out⟩
              · have HX2 := Lib.hid (fun W' => HX.out W' (fun h => hb1 h.2))
                have hxz : ((bv : Int) != 1) = true := by simp; omega
                clear HX
                gi_wp2_with (simp only [t1])
                refine ⟨trivial, (CallsIn.inRound l' (callsIn_wide.2 Hbit.out)).mono ?_⟩
                rintro _ W9 ⟨rfl, h9⟩
                rw [← h9]
                clear h9
                gi_wp2_with (simp only [hxz])
                exact ⟨KeepsOthers.setCell _ _ _, HX2.out _⟩
            · have t1 : decide ((xv : Int) ≤ la) = true := decide_eq_true (by omega)
              have HX2 := Lib.hid (fun W' => HX.out W' (fun h => hlt2 h.1))
              have hle : (xv : Int) ≤ la := by omega
              clear HX hlt2 Hbit
              gi_wp2_with (first | (simp only [t1]) | (simp only [hle]))
              refine ⟨trivial, ?_⟩
              gi_wp2_with fail
              exact ⟨KeepsOthers.setCell _ _ _, HX2.out _⟩
      · have hjs : 0 < j ∧ sm = true := by have h1 := Hbb.out; simpa using h1.symm
        obtain ⟨h0, rfl⟩ := hjs
        obtain ⟨k, rfl⟩ : ∃ k, j = k + 1 := ⟨j - 1, by omega⟩
        have h2l := of_decide_eq_true Hsm.out.symm
        obtain ⟨hv2, hv3⟩ := vloop_step h2l k (by omega) hdp
        have hvv := Hv1.out rfl
        rw [← hvv] at hv2 hv3
        obtain ⟨b, off, rfl, hb, hcell⟩ := hrw (by intro e; have := u32s_length ps; rw [e] at this; simp at this; omega)
        have hx := hcell k _ (u32s_at (by omega))
        have hxd := hdp.at_ k (by omega)
        have hor := word_or ps[k] vv hxd hv2
        rw [← hv3] at hor
        obtain ⟨x, hxe⟩ : ∃ x, x = ps[k] := ⟨_, rfl⟩
        rw [← hxe] at hx hxd hor
        have hk1 : ((k + 1 : Nat) : Int) - 1 = (k : Int) := by omega
        rw [hk1]
        clear Hv1 Hv0 Hbb hcell hxe hvv hv3
        gi_wp2_with (simp only [hor])
        case roundEnd =>
          refine ⟨?_, by simp [intOf]⟩
          exact ⟨k, val 4294967296 (ps.drop k), by omega, by go_num, by go_num, by trivial, fun _ => rfl, fun h => by cases h⟩
end Go.Proofs.YtogkfpbapjjgfaaDoor
