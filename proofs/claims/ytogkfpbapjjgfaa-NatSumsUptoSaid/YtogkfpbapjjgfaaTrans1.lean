/- The contract of digitsOf. Conditions: the places suffice. -/
import Derived.Test.YtogkfpbapjjgfaaField2
namespace Go.Proofs.Ytogkfpbapjjgfaa
open Go.RowKit

def dig4 (x : Nat) : List Nat := [x % 65536, x / 65536 % 65536, x / 4294967296 % 65536, x / 281474976710656 % 65536]
def digs : List Nat → List Nat
  | [] => []
  | x :: xs => dig4 x ++ digs xs
theorem digs_length (xs : List Nat) : (digs xs).length = 4 * xs.length := by
  induction xs with
  | nil => rfl
  | cons x xs ih => simp only [digs, List.length_append, ih, List.length_cons]; simp [dig4]; omega
theorem digs_le (xs : List Nat) : ∀ v ∈ digs xs, v ≤ 65535 := by
  induction xs with
  | nil => intro v hv; cases hv
  | cons x xs ih =>
    intro v hv
    rcases List.mem_append.1 hv with hv | hv
    · simp only [dig4, List.mem_cons, List.not_mem_nil, or_false] at hv
      omega
    · exact ih v hv
theorem digs_val (xs : List Nat) (h : Dig 18446744073709551616 xs) : val 65536 (digs xs) = val 18446744073709551616 xs := by
  induction xs with
  | nil => rfl
  | cons x xs ih =>
    have hx := h.head_
    simp only [digs, val_append, ih h.tail_, val]
    simp only [dig4, val, List.length_cons, List.length_nil]
    rw [show (65536 : Nat) ^ (0 + 1 + 1 + 1 + 1) = 18446744073709551616 from rfl]
    omega
theorem digs_append (xs ys : List Nat) : digs (xs ++ ys) = digs xs ++ digs ys := by
  induction xs with
  | nil => rfl
  | cons x xs ih => simp only [List.cons_append, digs, ih, List.append_assoc]
theorem set_end (A : List Nat) (m v : Nat) : (A ++ List.replicate (m + 1) 0).set A.length v = (A ++ [v]) ++ List.replicate m 0 := by
  rw [List.set_append_right _ _ (Nat.le_refl _), Nat.sub_self, List.replicate_succ, List.append_assoc]; rfl

/-- digitsOf's row behind k words and j digits more of x. -/
def DigRow (us : List Nat) (n k j x : Nat) : List Nat := digs (us.take k) ++ (dig4 x).take j ++ List.replicate (n - 4 * k - j) 0
theorem DigRow.length {us : List Nat} {n k j x : Nat} (hk : k ≤ us.length) (hj : j ≤ 4) (hn : 4 * k + j ≤ n) : (DigRow us n k j x).length = n := by
  unfold DigRow
  rw [List.length_append, List.length_append, digs_length, List.length_take, List.length_take, List.length_replicate]
  simp [dig4]; omega
theorem DigRow.step {us : List Nat} {n k j x d : Nat} (hk : k ≤ us.length) (hj : j < 4) (hn : 4 * k + j < n) (hd : (dig4 x)[j]? = some d) : (DigRow us n k j x).set (4 * k + j) d = DigRow us n k (j + 1) x := by
  unfold DigRow
  have hl : (digs (us.take k) ++ (dig4 x).take j).length = 4 * k + j := by
    rw [List.length_append, digs_length, List.length_take, List.length_take]
    simp [dig4]; omega
  have e1 : n - 4 * k - j = (n - 4 * k - (j + 1)) + 1 := by omega
  rw [e1, ← hl, set_end]
  congr 1
  rw [List.append_assoc]
  congr 1
  have hj4 : j < (dig4 x).length := hj
  rw [List.getElem?_eq_getElem hj4] at hd
  rw [← Option.some.inj hd]
  exact (List.take_succ_eq_append_getElem hj4).symm
theorem DigRow.next {us : List Nat} {n k : Nat} (hk : k < us.length) (hn : 4 * k + 4 ≤ n) : DigRow us n k 4 us[k] = DigRow us n (k + 1) 0 0 := by
  unfold DigRow
  rw [List.take_succ_eq_append_getElem hk, digs_append]
  simp only [digs, List.append_nil, List.take_zero]
  rw [show n - 4 * k - 4 = n - 4 * (k + 1) - 0 from by omega]
  rfl
theorem DigRow.start (us : List Nat) (n : Nat) : DigRow us n 0 0 0 = List.replicate n 0 := by simp [DigRow, digs]
theorem DigRow.finish (us : List Nat) (n : Nat) : DigRow us n us.length 0 0 = digs us ++ List.replicate (n - 4 * us.length) 0 := by simp [DigRow]
theorem DigRow.zero (us : List Nat) (n k x : Nat) : DigRow us n k 0 x = DigRow us n k 0 0 := by simp [DigRow]
theorem and_mask (y : Nat) (h : y < 18446744073709551616) : bits BinOp.and IntKind.u64 (y : Int) 65535 = ((y % 65536 : Nat) : Int) := by
  have h1 := u64_and_nat y 65535 h (by omega)
  have h2 : y &&& 65535 = y % 65536 := Nat.and_two_pow_sub_one_eq_mod y 16
  rw [h2] at h1
  exact h1

set_option maxHeartbeats 1600000 in
theorem digitsOf_any (A : Option Addr) (c : Nat) (us : List Nat) (n : Nat) (w : World) (B : Nat) (hr : Rd w B A (u64s us)) (hB : B ≤ w.heap.size) (hd : Dig 18446744073709551616 us) (hn : 4 * us.length ≤ n) (hm : n ≤ 35184372088832) :
    Calls Try.prog 70 #[.slice A us.length c, .int .i64 (n : Int)] w fun e w' => ∃ g, e = .returned (.slice (some ⟨g, 0, none⟩) n n) ∧ w.heap.size ≤ g ∧ Blk w' g 44 (u64s (digs us ++ List.replicate (n - 4 * us.length) 0)) ∧ Below w.heap.size w w' := by
  have hmk := fun W => mk64 n hm W
  go_enter Try.func70, Try.ntmps70
  go_wp2_with fail
  go_loopw [6, 7, 8, 13] (fun _ _ _ i wr => ∃ k : Nat, k ≤ us.length ∧ i = .int .i64 k ∧ Blk wr w.heap.size 44 (u64s (DigRow us n k 0 0)) ∧ Below w.heap.size w wr) (fun _ _ _ i _ => us.length - (intOf i).toNat)
  case atStart => exact ⟨0, by omega, rfl, by rw [DigRow.start]; exact Blk.new_ (by simp [u64s]), (Below.refl _ _).alloc (Nat.le_refl _) _⟩
  case round =>
    obtain ⟨k, hk, rfl, hblk, hbel⟩ := hrel
    by_cases hlt : k < us.length
    · obtain ⟨b, off, rfl, hb, hx⟩ := hr.at64 hlt
      have hx := (hbel.cell (p := ⟨b, off + k, none⟩) (show b < _ by omega)).trans hx
      have hxd := hd.at_ k hlt
      have hkn : 4 * k + 4 ≤ n := by omega
      go_wp2_with fail
      go_loopw [8, 18] (fun _ i wr => ∃ j : Nat, j ≤ 4 ∧ i = .int .i64 j ∧ Blk wr w.heap.size 44 (u64s (DigRow us n k j us[k])) ∧ Below w.heap.size w wr) (fun _ i _ => 4 - (intOf i).toNat)
      case atStart => exact ⟨0, by omega, rfl, by rw [DigRow.zero]; exact hblk, hbel⟩
      case round =>
        clear hblk hbel
        obtain ⟨j, hj, rfl, hblk, hbel⟩ := hrel
        by_cases hj4 : j < 4
        · have hlen := DigRow.length (us := us) (n := n) (k := k) (j := j) (x := us[k]) hk hj (by omega)
          have hidx : 4 * k + j < (DigRow us n k j us[k]).length := by rw [hlen]; omega
          obtain ⟨vv, hc⟩ : ∃ vv, wr.cell? ⟨w.heap.size, 4 * k + j, none⟩ = some vv := ⟨_, (hblk.cell (4 * k + j)).trans (u64s_at hidx)⟩
          have hf := hblk.frozen (4 * k + j)
          have hset := fun d => hblk.set_ (4 * k + j) (.int .u64 ((d : Nat) : Int))
          have Hset := Lib.hid hset
          have hkn' : 4 * (k : Int) + 3 < (n : Int) := by omega
          have i0 : 4 * k + j < n := by omega
          have i1 : 4 * k < n := by omega
          clear hlen hidx hset
          rcases (by omega : j = 0 ∨ j = 1 ∨ j = 2 ∨ j = 3) with rfl | rfl | rfl | rfl
          · have hc0 : wr.cell? ⟨w.heap.size, 4 * k, none⟩ = some vv := hc
            have hf0 : wr.frozen? ⟨w.heap.size, 4 * k, none⟩ = false := hf
            clear hc hf
            have a1 := and_mask us[k] hxd
            obtain ⟨d, hdd⟩ : ∃ d, d = us[k] % 65536 := ⟨_, rfl⟩
            rw [← hdd] at a1
            have a2 : (us[k] : Int) % 65536 = (d : Int) := by omega
            have hst := DigRow.step (us := us) (n := n) (k := k) (j := 0) (x := us[k]) (d := d) hk (by omega) i0 (by rw [hdd]; rfl)
            have Hst := Lib.hid hst
            clear hdd hst
            go_wp2_with fail
            go_roundw
            case rel => exact ⟨1, by omega, rfl, by have := Hset.out d; rw [u64s_set, Hst.out] at this; first | exact this | (rw [a1]; exact this), hbel.setCell (p := ⟨w.heap.size, 4 * k + 0, none⟩) (Nat.le_refl _) _⟩
            case measure => simp [intOf]
          · obtain ⟨y, hy⟩ : ∃ y, y = us[k] / 65536 := ⟨_, rfl⟩
            have b1 : (us[k] : Int) / 65536 = (y : Int) := by omega
            have a1 := and_mask y (by omega)
            obtain ⟨d, hdd⟩ : ∃ d, d = y % 65536 := ⟨_, rfl⟩
            rw [← hdd] at a1
            have a2 : (y : Int) % 65536 = (d : Int) := by omega
            have e9 : bits BinOp.and IntKind.u64 ((us[k] : Int) / 65536) 65535 = (d : Int) := by rw [b1]; exact a1
            have hyb : y < 18446744073709551616 := by omega
            have hst := DigRow.step (us := us) (n := n) (k := k) (j := 1) (x := us[k]) (d := d) hk (by omega) i0 (by rw [hdd, hy]; rfl)
            have Hst := Lib.hid hst
            clear hdd hst hy
            go_wp2_with fail
            go_roundw
            case rel => exact ⟨2, by omega, rfl, by have := Hset.out d; rw [u64s_set, Hst.out] at this; first | exact this | (rw [e9]; exact this), hbel.setCell (p := ⟨w.heap.size, 4 * k + 1, none⟩) (Nat.le_refl _) _⟩
            case measure => simp [intOf]
          · obtain ⟨y, hy⟩ : ∃ y, y = us[k] / 4294967296 := ⟨_, rfl⟩
            have b1 : (us[k] : Int) / 4294967296 = (y : Int) := by omega
            have a1 := and_mask y (by omega)
            obtain ⟨d, hdd⟩ : ∃ d, d = y % 65536 := ⟨_, rfl⟩
            rw [← hdd] at a1
            have a2 : (y : Int) % 65536 = (d : Int) := by omega
            have e9 : bits BinOp.and IntKind.u64 ((us[k] : Int) / 4294967296) 65535 = (d : Int) := by rw [b1]; exact a1
            have hyb : y < 18446744073709551616 := by omega
            have hst := DigRow.step (us := us) (n := n) (k := k) (j := 2) (x := us[k]) (d := d) hk (by omega) i0 (by rw [hdd, hy]; rfl)
            have Hst := Lib.hid hst
            clear hdd hst hy
            go_wp2_with fail
            go_roundw
            case rel => exact ⟨3, by omega, rfl, by have := Hset.out d; rw [u64s_set, Hst.out] at this; first | exact this | (rw [e9]; exact this), hbel.setCell (p := ⟨w.heap.size, 4 * k + 2, none⟩) (Nat.le_refl _) _⟩
            case measure => simp [intOf]
          · obtain ⟨y, hy⟩ : ∃ y, y = us[k] / 281474976710656 := ⟨_, rfl⟩
            have b1 : (us[k] : Int) / 281474976710656 = (y : Int) := by omega
            have a1 := and_mask y (by omega)
            obtain ⟨d, hdd⟩ : ∃ d, d = y % 65536 := ⟨_, rfl⟩
            rw [← hdd] at a1
            have a2 : (y : Int) % 65536 = (d : Int) := by omega
            have e9 : bits BinOp.and IntKind.u64 ((us[k] : Int) / 281474976710656) 65535 = (d : Int) := by rw [b1]; exact a1
            have hyb : y < 18446744073709551616 := by omega
            have hst := DigRow.step (us := us) (n := n) (k := k) (j := 3) (x := us[k]) (d := d) hk (by omega) i0 (by rw [hdd, hy]; rfl)
            have Hst := Lib.hid hst
            clear hdd hst hy
            go_wp2_with fail
            go_roundw
            case rel => exact ⟨4, by omega, rfl, by have := Hset.out d; rw [u64s_set, Hst.out] at this; first | exact this | (rw [e9]; exact this), hbel.setCell (p := ⟨w.heap.size, 4 * k + 3, none⟩) (Nat.le_refl _) _⟩
            case measure => simp [intOf]
        · obtain rfl : j = 4 := by omega
          rw [DigRow.next hlt hkn] at hblk
          go_wp2_with fail
          go_roundw
          case rel => exact ⟨k + 1, by omega, by go_num, hblk, hbel⟩
          case measure => simp [intOf]; omega
    · obtain rfl : k = us.length := by omega
      rw [DigRow.finish] at hblk
      go_wp2_with fail
      go_ret
      exact ⟨_, rfl, Nat.le_refl _, hblk, hbel⟩
end Go.Proofs.Ytogkfpbapjjgfaa
