/- The contracts of the reference's Same on equal lists, and of lives. -/
import Derived.Test.YtogkfpbapjjgfaaDoorDiv
namespace Go.Proofs.YtogkfpbapjjgfaaDoor
open Go.RowKit

set_option maxHeartbeats 400000 in
theorem same_yes (A A2 : Option Addr) (c c2 : Nat) (xs : List Nat) (w : World) (B : Nat) (hr : Rd w B A (u32s xs)) (hr2 : Rd w B A2 (u32s xs)) (hm : xs.length ≤ 281474976710656) :
    Calls Tryd.prog 11 #[.slice A xs.length c, .slice A2 xs.length c2] w fun e w' => e = .returned (.bool true) ∧ Dr w w' := by
  have t1 : ((xs.length : Int) != (xs.length : Int)) = false := by simp
  go_enter Tryd.func11, Tryd.ntmps11
  go_wp2
  go_loopw [5, 13] (fun _ i wr => ∃ k : Nat, k ≤ xs.length ∧ i = .int .i64 k ∧ Dr w wr) (fun _ i _ => xs.length - (intOf i).toNat)
  case atStart => exact ⟨0, by omega, rfl, Dr.refl _⟩
  case round =>
    obtain ⟨k, hk, rfl, hdr⟩ := hrel
    by_cases hlt : k < xs.length
    · obtain ⟨b, off, rfl, hb, hcell⟩ := hr (by intro e; have := u32s_length xs; rw [e] at this; simp at this; omega)
      obtain ⟨b2, off2, rfl, hb2, hcell2⟩ := hr2 (by intro e; have := u32s_length xs; rw [e] at this; simp at this; omega)
      have hx := ((hdr.below B).cell (p := ⟨b, off + k, none⟩) hb).trans (hcell k _ (u32s_at hlt))
      have hy := ((hdr.below B).cell (p := ⟨b2, off2 + k, none⟩) hb2).trans (hcell2 k _ (u32s_at hlt))
      have t2 : ((xs[k] : Int) != (xs[k] : Int)) = false := by simp
      clear hcell hcell2 hr hr2
      go_wp2
      go_quiet (fail)
      go_wp2
      go_roundw
      case rel => exact ⟨k + 1, by omega, by go_num, hdr.step _⟩
      case measure => simp [intOf]; omega
    · go_wp2
      go_ret
      exact ⟨rfl, hdr⟩

theorem num_lit {zs : List Nat} (n : Nat) (h : Dig 4294967296 zs) (h2 : trimL zs = zs) (h3 : val 4294967296 zs = n) : Num 4294967296 zs n := ⟨h, h2, h3⟩
theorem dig_lit {zs : List Nat} (h : (zs.all fun z => decide (z < 4294967296)) = true) : Dig 4294967296 zs := fun z hz => by simpa using List.all_eq_true.1 h z hz

theorem rd_new {w : World} {t : TypeId} {cs : Array Value} {vs : List Value} (e : cs = vs.toArray) : Rd (w.alloc (.cells cs t (0, 0))) (w.heap.size + 1) (some ⟨w.heap.size, 0, none⟩) vs :=
  Rd.of_blk (Blk.new_ e) (by omega) 0 (fun k v hv => by rw [Nat.zero_add]; exact hv)

set_option maxHeartbeats 800000 in
theorem lives_any (w : World) : Calls Tryd.prog 22 #[] w fun e w' => e = .returned (.bool true) ∧ Below w.heap.size w w' := by
  go_enter Tryd.func22, Tryd.ntmps22
  go_wp2_with fail
  have hb1 : Blk ((w.alloc (.cells #[.int .u32 0, .int .u32 0, .int .u32 1] 31)).alloc (.cells #[.int .u32 10] 31)) w.heap.size 31 (u32s [0, 0, 1]) := (Blk.new_ (by rfl)).heapAlloc _
  have hb2 : Blk ((w.alloc (.cells #[.int .u32 0, .int .u32 0, .int .u32 1] 31)).alloc (.cells #[.int .u32 10] 31)) (w.heap.size + 1) 31 (u32s [10]) := by
    have := Blk.new_ (w := w.alloc (.cells #[.int .u32 0, .int .u32 0, .int .u32 1] 31)) (t := 31) (cs := #[.int .u32 10]) (vs := u32s [10]) (by rfl)
    simpa using this
  have hz : ((w.alloc (.cells #[.int .u32 0, .int .u32 0, .int .u32 1] 31)).alloc (.cells #[.int .u32 10] 31)).heap.size = w.heap.size + 2 := by simp
  have hbel : Below w.heap.size w ((w.alloc (.cells #[.int .u32 0, .int .u32 0, .int .u32 1] 31)).alloc (.cells #[.int .u32 10] 31)) := ((Below.refl _ _).alloc (Nat.le_refl _) _).alloc (by simp) _
  refine (div_any (P := (· = 1)) quotient_one (some ⟨w.heap.size, 0, none⟩) (some ⟨w.heap.size + 1, 0, none⟩) 3 1 [0, 0, 1] [10] _ (w.heap.size + 2) ?_ ?_ ?_ ?_ ?_ ?_ ?_ ?_ ?_ ?_).mono ?_
  · exact Rd.of_blk hb1 (by omega) 0 (fun k v hv => by rw [Nat.zero_add]; exact hv)
  · exact Rd.of_blk hb2 (by omega) 0 (fun k v hv => by rw [Nat.zero_add]; exact hv)
  · rw [hz]; omega
  · exact dig_lit (by decide)
  · exact dig_lit (by decide)
  · simp
  · simp
  · simp
  · simp
  · rfl
  rintro e w1 ⟨qs, rs, A1, c1, A3, c3, rfl, hq, hr, hres1, hres2, hbel1⟩
  have eq : qs = [2576980377, 429496729] := Num.unique (b := 4294967296) (by omega) hq (num_lit _ (dig_lit (by decide)) (by decide) (by simp [val]))
  have er : rs = [6] := Num.unique (b := 4294967296) (by omega) hr (num_lit _ (dig_lit (by decide)) (by decide) (by simp [val]))
  subst eq er
  rw [hz] at hres1 hres2 hbel1
  have hbel2 : Below w.heap.size w w1 := hbel.trans (hbel1.mono (by omega))
  clear hb1 hb2 hq hr hbel hbel1 hz
  rw [show val 4294967296 [10] = 10 from rfl, if_neg (by omega : ¬ (10 : Nat) = 0)]
  go_wp2_with fail
  have hA := hres1.rd
  have hB := hres2.rd
  refine (same_yes A1 (some ⟨w1.heap.size, 0, none⟩) c1 2 [2576980377, 429496729] _ (w1.heap.size + 1) ((hA.below ((Below.refl _ _).alloc (Nat.le_refl _) _)).mono (by omega)) (rd_new rfl) (by simp)).mono ?_
  rintro e w2 ⟨rfl, hdr2⟩
  have hb2 : Below w1.heap.size w1 w2 := ((Below.refl _ _).alloc (Nat.le_refl _) _).trans (hdr2.below _)
  clear hdr2
  go_wp2_with fail
  refine (same_yes A3 (some ⟨w2.heap.size, 0, none⟩) c3 1 [6] _ (w2.heap.size + 1) (((hB.below hb2).below ((Below.refl _ _).alloc hb2.size _)).mono (by have := hb2.size; omega)) (rd_new rfl) (by simp)).mono ?_
  rintro e w3 ⟨rfl, hdr3⟩
  have hb3 : Below w2.heap.size w2 w3 := ((Below.refl _ _).alloc (Nat.le_refl _) _).trans (hdr3.below _)
  clear hdr3
  go_wp2_with fail
  refine (len_any (some ⟨w3.heap.size, 0, none⟩) 2 [0, 1] _ (w3.heap.size + 1) (rd_new rfl) (dig_lit (by decide)) (by simp) (by simp)).mono ?_
  rintro e w4 ⟨rfl, rfl⟩
  rw [show bitsOf (val 4294967296 [0, 1]) = 33 from by decide]
  go_wp2
  go_ret
  have s1 := hbel2.size
  have s2 := hb2.size
  have s3 := hb3.size
  exact ⟨rfl, ((hbel2.trans (hb2.mono s1)).trans (hb3.mono (by omega))).alloc (by omega) _⟩
end Go.Proofs.YtogkfpbapjjgfaaDoor
