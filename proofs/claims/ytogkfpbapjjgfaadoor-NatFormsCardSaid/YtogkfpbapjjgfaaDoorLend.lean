/- The contracts of the reference's Lend and Kept. -/
import Derived.Test.YtogkfpbapjjgfaaDoorRefA
namespace Go.Proofs.YtogkfpbapjjgfaaDoor
open Go.RowKit

/-- What Lend lays round the limbs. -/
def lentL (xs : List Nat) : List Nat := 2779096485 :: (xs ++ [2779096485])
theorem lentL_length (xs : List Nat) : (lentL xs).length = xs.length + 2 := by simp [lentL]

set_option maxHeartbeats 800000 in
theorem lend_any (A : Option Addr) (c : Nat) (xs : List Nat) (w : World) (B : Nat) (hr : Rd w B A (u32s xs)) (hB : B ≤ w.heap.size) (hm : xs.length ≤ 70368744177000) :
    Calls Tryd.prog 7 #[.slice A xs.length c] w fun e w' => e = .returned (.tuple #[.slice (some ⟨w.heap.size, 0, none⟩) (xs.length + 2) (xs.length + 2), .slice (some ⟨w.heap.size, 1, none⟩) xs.length (xs.length + 1)]) ∧ Blk w' w.heap.size 31 (u32s (lentL xs)) ∧ Below w.heap.size w w' := by
  have hmk : ∀ W : World, (Instr.makeSlice 23 (.int .i64 ((xs.length : Int) + 2)) (.int .i64 ((xs.length : Int) + 2))).run Tryd.prog W = .ok (.slice (some ⟨W.heap.size, 0, none⟩) (xs.length + 2) (xs.length + 2)) (W.alloc (.cells (List.replicate (xs.length + 2) (Value.int .u32 0)).toArray 31)) := fun W => by
    have := mk32 (xs.length + 2) (by omega) W
    rwa [show ((xs.length + 2 : Nat) : Int) = (xs.length : Int) + 2 from by omega] at this
  go_enter Tryd.func7, Tryd.ntmps7
  go_wp2
  go_loopw [5, 14] (fun _ i wr => ∃ (k : Nat) (zs : List Nat), k ≤ xs.length + 2 ∧ i = .int .i64 k ∧ zs.length = xs.length + 2 ∧ Blk wr w.heap.size 31 (u32s zs) ∧ zs.take k = List.replicate k 2779096485 ∧ Below w.heap.size w wr) (fun _ i _ => xs.length + 2 - (intOf i).toNat)
  case atStart => exact ⟨0, List.replicate (xs.length + 2) 0, by omega, rfl, by simp, Blk.new_ (by simp [u32s]), by simp, (Below.refl _ _).alloc (Nat.le_refl _) _⟩
  case round =>
    obtain ⟨k, zs, hk, rfl, hzl, hblk, htk, hbel⟩ := hrel
    by_cases hlt : k < xs.length + 2
    · have hkz : k < zs.length := by omega
      have Hzl := Lib.hid hzl
      have Htk := Lib.hid htk
      clear hzl htk
      have hc2 := (hblk.cell k).trans (u32s_at hkz)
      have hf2 := hblk.frozen k
      go_wp2
      go_roundw
      case rel =>
        refine ⟨k + 1, zs.set k 2779096485, by omega, by go_num, by simpa using Hzl.out, ?_, ?_, hbel.setCell (p := ⟨w.heap.size, k, none⟩) (Nat.le_refl _) _⟩
        · have hb2 := hblk.set_ k (Value.int IntKind.u32 ((2779096485 : Nat) : Int))
          rw [u32s_set] at hb2
          exact hb2
        · rw [List.take_succ_eq_append_getElem (by simpa using hkz), List.take_set_of_le (Nat.le_refl _), Htk.out, List.replicate_succ']
          simp
      case measure => simp [intOf]; omega
    · obtain rfl : k = xs.length + 2 := by omega
      have hz : zs = List.replicate (xs.length + 2) 2779096485 := by rw [← htk, ← hzl, List.take_length]
      clear htk hzl
      subst hz
      go_wp2
      go_loopw [6, 7, 23] (fun _ _ i wq => ∃ (k : Nat) (zs : List Nat), k ≤ xs.length ∧ i = .int .i64 k ∧ Blk wq w.heap.size 31 (u32s zs) ∧ zs = 2779096485 :: (xs.take k ++ List.replicate (xs.length - k + 1) 2779096485) ∧ Below w.heap.size w wq) (fun _ _ i _ => xs.length - (intOf i).toNat)
      case atStart => exact ⟨0, _, by omega, rfl, hblk, by simp [List.replicate_succ], hbel⟩
      case round =>
        clear hblk hbel
        obtain ⟨k, zs, hk2, rfl, hblk, hze, hbel⟩ := hrel
        by_cases hlt : k < xs.length
        · obtain ⟨b, off, rfl, hb, hcell⟩ := hr (by intro e; have := u32s_length xs; rw [e] at this; simp at this; omega)
          have hx := (hbel.cell (p := ⟨b, off + k, none⟩) (show b < _ by omega)).trans (hcell k _ (u32s_at hlt))
          have hkz : k + 1 < zs.length := by rw [hze]; simp; omega
          have hze2 : zs.set (k + 1) xs[k] = 2779096485 :: (xs.take (k + 1) ++ List.replicate (xs.length - (k + 1) + 1) 2779096485) := by
            rw [hze, List.set_cons_succ, List.take_succ_eq_append_getElem hlt, List.append_assoc]
            congr 1
            rw [List.set_append_right _ _ (by rw [List.length_take]; omega), List.length_take, Nat.min_eq_left (by omega), Nat.sub_self, show xs.length - k + 1 = xs.length - (k + 1) + 1 + 1 from by omega, List.replicate_succ]
            simp
          have Hze2 := Lib.hid hze2
          clear hcell hze hze2
          have hc2 := (hblk.cell (k + 1)).trans (u32s_at hkz)
          have hf2 := hblk.frozen (k + 1)
          go_wp2
          go_roundw
          case rel =>
            refine ⟨k + 1, zs.set (k + 1) xs[k], by omega, by go_num, ?_, Hze2.out, hbel.setCell (p := ⟨w.heap.size, k + 1, none⟩) (Nat.le_refl _) _⟩
            have hb2 := hblk.set_ (k + 1) (Value.int IntKind.u32 (xs[k] : Int))
            rw [u32s_set] at hb2
            exact hb2
          case measure => simp [intOf]; omega
        · obtain rfl : k = xs.length := by omega
          have hze2 : zs = lentL xs := by rw [hze]; simp [lentL]
          clear hze
          subst hze2
          go_wp2
          go_quiet (fail)
          go_wp2
          go_ret2
          exact ⟨rfl, hblk.drewN _, hbel.trans ((Dr.refl _).step _ |>.below _)⟩

set_option maxHeartbeats 400000 in
theorem kept_yes (A A2 : Option Addr) (c c2 : Nat) (xs : List Nat) (w : World) (B : Nat) (hr : Rd w B A (u32s (lentL xs))) (hr2 : Rd w B A2 (u32s xs)) (hm : xs.length ≤ 70368744177000) :
    Calls Tryd.prog 21 #[.slice A (xs.length + 2) c, .slice A2 xs.length c2] w fun e w' => e = .returned (.bool true) ∧ w = w' := by
  obtain ⟨b, off, rfl, hb, hcell⟩ := hr (by simp [lentL, u32s])
  have c0 := hcell 0 _ (u32s_at (by rw [lentL_length]; omega))
  have c1 := hcell (xs.length + 1) _ (u32s_at (by rw [lentL_length]; omega))
  rw [show (lentL xs)[0]'(by rw [lentL_length]; omega) = 2779096485 from rfl] at c0
  rw [show (lentL xs)[xs.length + 1]'(by rw [lentL_length]; omega) = 2779096485 from by simp [lentL]] at c1
  simp only [Nat.add_zero] at c0
  have t0 : (((xs.length : Int) + 2) != ((xs.length : Int) + 2)) = false := by simp
  have hcx : ∀ k (h : k < xs.length), w.cell? ⟨b, off + (k + 1), none⟩ = some (.int .u32 (xs[k] : Nat)) := fun k h => by
    have := hcell (k + 1) _ (u32s_at (by rw [lentL_length]; omega))
    rw [show (lentL xs)[k + 1]'(by rw [lentL_length]; omega) = xs[k] from by simp [lentL, List.getElem_append_left h]] at this
    exact this
  clear hcell hr
  have Hcx := Lib.hid hcx
  clear hcx
  go_enter Tryd.func21, Tryd.ntmps21
  go_wp2
  go_loop [5, 6, 30] (fun _ _ i => ∃ k : Nat, k ≤ xs.length ∧ i = .int .i64 k) (fun _ _ i => xs.length - (intOf i).toNat)
  case atStart => exact ⟨0, by omega, rfl⟩
  case round =>
    obtain ⟨k, hk, rfl⟩ := hrel
    by_cases hlt : k < xs.length
    · obtain ⟨b2, off2, rfl, hb2, hcell2⟩ := hr2 (by intro e; have := u32s_length xs; rw [e] at this; simp at this; omega)
      have hx := hcell2 k _ (u32s_at hlt)
      have hy := Hcx.out k hlt
      have t2 : ((xs[k] : Int) != (xs[k] : Int)) = false := by simp
      clear hcell2 hr2
      go_wp2
      go_round
      case rel => exact ⟨k + 1, by omega, by go_num⟩
      case measure => simp [intOf]; omega
    · go_wp2
      go_ret
      exact ⟨rfl, rfl⟩
end Go.Proofs.YtogkfpbapjjgfaaDoor
