/- The walk of the law NatPowers. Conditions: at most 2^20 limbs; the table of the library as it is laid. -/
import Derived.Test.YtanlejlmckdeiaaDoorPkNp20
import Derived.Test.YtanlejlmckdeiaaDoorPkNp21
namespace Go.Proofs.YtanlejlmckdeiaaDoor
open Go.RowKit

section
variable {w : World} {A : Option Addr} {a b c N : Nat} {xs : List Nat}
theorem Hv.lent {W : World} (h : Hv w A c xs a N) (hL : Blk W w.heap.size 36 (u32s (lentL xs))) : Hv W (some ⟨w.heap.size, 1, none⟩) (xs.length + 1) xs a N :=
  ⟨h.dig, h.val_, lent_rd hL hL.lt, by omega, h.len⟩
theorem psame {W w1 w2 : World} {n : Nat} {zs ys : List Nat} {A1 A2 : Option Addr} {c1 c2 B1 B2 : Nat} (n1 : Num 4294967296 zs n) (r1 : Res w1 B1 36 A1 c1 (u32s zs)) (h1 : Below w1.heap.size w1 W) (n2 : Num 4294967296 ys n) (r2 : Res w2 B2 36 A2 c2 (u32s ys)) (h2 : Below w2.heap.size w2 W) :
    Calls Tryd.prog 6 #[.slice A1 zs.length c1, .slice A2 ys.length c2] W fun e w' => e = .returned (.bool true) ∧ Below W.heap.size W w' := by
  have e2 := Num.unique (by omega) n1 n2
  subst e2
  have hl := r1.1
  have hc := r1.2.1
  rw [u32s_length] at hl
  refine (same_yes A1 A2 c1 c2 zs W W.heap.size ((r1.rd.below h1).mono h1.size) ((r2.rd.below h2).mono h2.size) (by omega)).mono ?_
  rintro e w' ⟨rfl, hd⟩
  exact ⟨rfl, hd.below _⟩
theorem pkept {W : World} (h : Hv w A c xs a N) (hN : N ≤ 1048576) (hW : Below w.heap.size w W) (hL : Blk W w.heap.size 36 (u32s (lentL xs))) (cc : Nat) :
    Calls Tryd.prog 11 #[.slice (some ⟨w.heap.size, 0, none⟩) (xs.length + 2) cc, .slice A xs.length c] W fun e w' => e = .returned (.bool true) ∧ W = w' :=
  kept_yes _ _ _ _ xs W W.heap.size (lent_rd0 hL hL.lt) ((h.rd.below hW).mono hW.size) (by have := h.len; omega)
set_option maxHeartbeats 3200000 in
theorem npowers_low_neg (k : Int) (_ : -9223372036854775808 ≤ k) (_ : k ≤ 9223372036854775807) (h : Hv w A c xs a N) (hN : N ≤ 1048576) (hbe : b = bitsOf a) (hb9 : b ≤ 2147483648) (hb : b ≤ 1) (hn : k < 0) (ZP : Hid (∀ W (_ : Below w.heap.size w W) (_ : Hv W (some ⟨w.heap.size, 1, none⟩) (xs.length + 1) xs a N), Calls Tryd.prog 10 #[.slice (some ⟨w.heap.size, 1, none⟩) xs.length (xs.length + 1), .int .i64 k] W fun e w' => PwF W w' (.int .i64 1) e)) :
    Calls Tryd.prog 3 #[.slice A xs.length c, .int .i64 k] w fun e w' => e = .returned (.bool true) ∧ Below w.heap.size w w' := by
  have t9 : decide (k < 0) = true := decide_eq_true hn
  have LE := Lib.hid (lend_any A c xs w w.heap.size h.rd (Nat.le_refl _) (by have := h.len; omega))
  have H := Lib.hid h
  have LN : Hid (∀ W (_ : Below w.heap.size w W), Calls Tryd.prog 8 #[.slice A xs.length c] W fun e w' => e = .returned (.int .i64 (b : Nat)) ∧ Below W.heap.size W w') := fun W hW => by rw [hbe]; exact (h.next hW).lenP (by omega)
  have t1 : decide ((1 : Int) < (b : Int)) = false := decide_eq_false (by omega)
  have t1b : decide (1 < b) = false := decide_eq_false (by omega)
  clear h hbe
  go_enter Tryd.func3, Tryd.ntmps3
  go_wp2_with fail
  refine LE.out.mono ?_
  rintro e w1 ⟨rfl, hL, k1⟩
  have HL1 := Lib.hid hL
  have HP1 := H.out.lent hL
  have SQ := Lib.hid (sqrt_any a _ _ xs w1 w1.heap.size HP1.rd (Nat.le_refl _) HP1.dig HP1.val_ HP1.cap (by have := HP1.len; omega))
  clear LE hL HP1
  go_wp2_with fail
  refine SQ.out.mono ?_
  rintro e w2 ⟨zs, A2, c2, s, rfl, n2, hs, r2, hb2⟩
  have k2 := k1.trans (hb2.mono k1.size)
  have HL2 := Lib.hid (HL1.out.below hb2 HL1.out.lt)
  have RS := Lib.hid (rsqrt_any (H.out.next k2) (by omega))
  clear SQ HL1 hb2 k1
  go_wp2_with fail
  refine RS.out.mono ?_
  rintro e w3 ⟨s2, hs2, ys, A3, c3, rfl, n3, r3, hb3⟩
  obtain rfl := hs2.unique hs
  have k3 := k2.trans (hb3.mono k2.size)
  have HL3 := Lib.hid (HL2.out.below hb3 HL2.out.lt)
  have SM := Lib.hid (psame n2 r2 hb3 n3 r3 (Below.refl _ _))
  clear RS HL2 k2 n2 r2 hb3 n3 r3 hs hs2
  go_wp2_with fail
  refine SM.out.mono ?_
  rintro e w4 ⟨rfl, hb4⟩
  have k4 := k3.trans (hb4.mono k3.size)
  have HL4 := Lib.hid (HL3.out.below hb4 HL3.out.lt)
  clear SM HL3 k3 hb4
  go_wp2_with fail
  refine (LN.out _ k4).mono ?_
  rintro e w5 ⟨rfl, hb5⟩
  have k5 := k4.trans (hb5.mono k4.size)
  have HL5 := Lib.hid (HL4.out.below hb5 HL4.out.lt)
  clear LN HL4 k4 hb5
  go_wp2_with fail
  refine (ZP.out _ k5 (H.out.lent HL5.out)).mono ?_
  rintro e w6 ⟨rfl, hb6⟩
  have k6 := k5.trans (hb6.mono k5.size)
  have HL6 := Lib.hid (HL5.out.below hb6 HL5.out.lt)
  clear ZP HL5 k5 hb6
  go_wp2_with fail
  refine (pkept H.out hN k6 HL6.out _).mono ?_
  rintro e wk ⟨rfl, rfl⟩
  go_wp2_with fail
  refine (lives_any _).mono ?_
  rintro e wz ⟨rfl, hbz⟩
  go_wp2_with fail
  go_ret
  exact ⟨rfl, k6.trans (hbz.mono k6.size)⟩
set_option maxHeartbeats 3200000 in
theorem npowers_non_neg (k : Int) (hk9 : -9223372036854775808 ≤ k) (hk8 : k ≤ 9223372036854775807) (h : Hv w A c xs a N) (hN : N ≤ 1048576) (hbe : b = bitsOf a) (hb9 : b ≤ 2147483648) (hb : 1 < b) (hk0 : k ≤ 0) (hn : k < 0) (ZP : Hid (∀ W (_ : Below w.heap.size w W) (_ : Hv W (some ⟨w.heap.size, 1, none⟩) (xs.length + 1) xs a N), Calls Tryd.prog 10 #[.slice (some ⟨w.heap.size, 1, none⟩) xs.length (xs.length + 1), .int .i64 k] W fun e w' => PwF W w' (.int .i64 1) e)) :
    Calls Tryd.prog 3 #[.slice A xs.length c, .int .i64 k] w fun e w' => e = .returned (.bool true) ∧ Below w.heap.size w w' := by
  have t9 : decide (k < 0) = true := decide_eq_true hn
  have LE := Lib.hid (lend_any A c xs w w.heap.size h.rd (Nat.le_refl _) (by have := h.len; omega))
  have H := Lib.hid h
  have LN : Hid (∀ W (_ : Below w.heap.size w W), Calls Tryd.prog 8 #[.slice A xs.length c] W fun e w' => e = .returned (.int .i64 (b : Nat)) ∧ Below W.heap.size W w') := fun W hW => by rw [hbe]; exact (h.next hW).lenP (by omega)
  have t1 : decide ((1 : Int) < (b : Int)) = true := decide_eq_true (by omega)
  have t1b : decide (1 < b) = true := decide_eq_true hb
  have t2 : decide (0 < k) = false := decide_eq_false (by omega)
  clear h hbe
  go_enter Tryd.func3, Tryd.ntmps3
  go_wp2_with fail
  refine LE.out.mono ?_
  rintro e w1 ⟨rfl, hL, k1⟩
  have HL1 := Lib.hid hL
  have HP1 := H.out.lent hL
  have SQ := Lib.hid (sqrt_any a _ _ xs w1 w1.heap.size HP1.rd (Nat.le_refl _) HP1.dig HP1.val_ HP1.cap (by have := HP1.len; omega))
  clear LE hL HP1
  go_wp2_with fail
  refine SQ.out.mono ?_
  rintro e w2 ⟨zs, A2, c2, s, rfl, n2, hs, r2, hb2⟩
  have k2 := k1.trans (hb2.mono k1.size)
  have HL2 := Lib.hid (HL1.out.below hb2 HL1.out.lt)
  have RS := Lib.hid (rsqrt_any (H.out.next k2) (by omega))
  clear SQ HL1 hb2 k1
  go_wp2_with fail
  refine RS.out.mono ?_
  rintro e w3 ⟨s2, hs2, ys, A3, c3, rfl, n3, r3, hb3⟩
  obtain rfl := hs2.unique hs
  have k3 := k2.trans (hb3.mono k2.size)
  have HL3 := Lib.hid (HL2.out.below hb3 HL2.out.lt)
  have SM := Lib.hid (psame n2 r2 hb3 n3 r3 (Below.refl _ _))
  clear RS HL2 k2 n2 r2 hb3 n3 r3 hs hs2
  go_wp2_with fail
  refine SM.out.mono ?_
  rintro e w4 ⟨rfl, hb4⟩
  have k4 := k3.trans (hb4.mono k3.size)
  have HL4 := Lib.hid (HL3.out.below hb4 HL3.out.lt)
  clear SM HL3 k3 hb4
  go_wp2_with fail
  refine (LN.out _ k4).mono ?_
  rintro e w5 ⟨rfl, hb5⟩
  have k5 := k4.trans (hb5.mono k4.size)
  have HL5 := Lib.hid (HL4.out.below hb5 HL4.out.lt)
  clear LN HL4 k4 hb5
  go_wp2_with fail
  refine (ZP.out _ k5 (H.out.lent HL5.out)).mono ?_
  rintro e w6 ⟨rfl, hb6⟩
  have k6 := k5.trans (hb6.mono k5.size)
  have HL6 := Lib.hid (HL5.out.below hb6 HL5.out.lt)
  clear ZP HL5 k5 hb6
  go_wp2_with fail
  refine (pkept H.out hN k6 HL6.out _).mono ?_
  rintro e wk ⟨rfl, rfl⟩
  go_wp2_with fail
  refine (lives_any _).mono ?_
  rintro e wz ⟨rfl, hbz⟩
  go_wp2_with fail
  go_ret
  exact ⟨rfl, k6.trans (hbz.mono k6.size)⟩
set_option maxHeartbeats 3200000 in
theorem npowers_low_ok (k : Int) (hk9 : -9223372036854775808 ≤ k) (hk8 : k ≤ 9223372036854775807) (h : Hv w A c xs a N) (hN : N ≤ 1048576) (hbe : b = bitsOf a) (hb9 : b ≤ 2147483648) (hb : b ≤ 1) (q : Nat) (hn : 0 ≤ k) (ZP : Hid (∀ W (_ : Below w.heap.size w W) (_ : Hv W (some ⟨w.heap.size, 1, none⟩) (xs.length + 1) xs a N), Calls Tryd.prog 10 #[.slice (some ⟨w.heap.size, 1, none⟩) xs.length (xs.length + 1), .int .i64 k] W fun e w' => PwE W w' q (.int .i64 0) e)) (RP : Hid (∀ W (_ : Below w.heap.size w W), Calls Tryd.prog 12 #[.slice A xs.length c, .int .i64 k] W fun e w' => PwE W w' q (.bool true) e)) :
    Calls Tryd.prog 3 #[.slice A xs.length c, .int .i64 k] w fun e w' => e = .returned (.bool true) ∧ Below w.heap.size w w' := by
  have t9 : decide (k < 0) = false := decide_eq_false (by omega)
  have LE := Lib.hid (lend_any A c xs w w.heap.size h.rd (Nat.le_refl _) (by have := h.len; omega))
  have H := Lib.hid h
  have LN : Hid (∀ W (_ : Below w.heap.size w W), Calls Tryd.prog 8 #[.slice A xs.length c] W fun e w' => e = .returned (.int .i64 (b : Nat)) ∧ Below W.heap.size W w') := fun W hW => by rw [hbe]; exact (h.next hW).lenP (by omega)
  have t1 : decide ((1 : Int) < (b : Int)) = false := decide_eq_false (by omega)
  have t1b : decide (1 < b) = false := decide_eq_false (by omega)
  clear h hbe
  go_enter Tryd.func3, Tryd.ntmps3
  go_wp2_with fail
  refine LE.out.mono ?_
  rintro e w1 ⟨rfl, hL, k1⟩
  have HL1 := Lib.hid hL
  have HP1 := H.out.lent hL
  have SQ := Lib.hid (sqrt_any a _ _ xs w1 w1.heap.size HP1.rd (Nat.le_refl _) HP1.dig HP1.val_ HP1.cap (by have := HP1.len; omega))
  clear LE hL HP1
  go_wp2_with fail
  refine SQ.out.mono ?_
  rintro e w2 ⟨zs, A2, c2, s, rfl, n2, hs, r2, hb2⟩
  have k2 := k1.trans (hb2.mono k1.size)
  have HL2 := Lib.hid (HL1.out.below hb2 HL1.out.lt)
  have RS := Lib.hid (rsqrt_any (H.out.next k2) (by omega))
  clear SQ HL1 hb2 k1
  go_wp2_with fail
  refine RS.out.mono ?_
  rintro e w3 ⟨s2, hs2, ys, A3, c3, rfl, n3, r3, hb3⟩
  obtain rfl := hs2.unique hs
  have k3 := k2.trans (hb3.mono k2.size)
  have HL3 := Lib.hid (HL2.out.below hb3 HL2.out.lt)
  have SM := Lib.hid (psame n2 r2 hb3 n3 r3 (Below.refl _ _))
  clear RS HL2 k2 n2 r2 hb3 n3 r3 hs hs2
  go_wp2_with fail
  refine SM.out.mono ?_
  rintro e w4 ⟨rfl, hb4⟩
  have k4 := k3.trans (hb4.mono k3.size)
  have HL4 := Lib.hid (HL3.out.below hb4 HL3.out.lt)
  clear SM HL3 k3 hb4
  go_wp2_with fail
  refine (LN.out _ k4).mono ?_
  rintro e w5 ⟨rfl, hb5⟩
  have k5 := k4.trans (hb5.mono k4.size)
  have HL5 := Lib.hid (HL4.out.below hb5 HL4.out.lt)
  clear LN HL4 k4 hb5
  go_wp2_with fail
  refine (ZP.out _ k5 (H.out.lent HL5.out)).mono ?_
  rintro e w6 ⟨zs6, A6, c6, rfl, n6, r6, hb6⟩
  have k6 := k5.trans (hb6.mono k5.size)
  have HL6 := Lib.hid (HL5.out.below hb6 HL5.out.lt)
  clear ZP HL5 k5 hb6
  go_wp2_with fail
  refine (RP.out _ k6).mono ?_
  rintro e w7 ⟨zs7, A7, c7, rfl, n7, r7, hb7⟩
  have k7 := k6.trans (hb7.mono k6.size)
  have HL7 := Lib.hid (HL6.out.below hb7 HL6.out.lt)
  have SM := Lib.hid (psame n6 r6 hb7 n7 r7 (Below.refl _ _))
  clear RP HL6 k6 n6 r6 n7 r7 hb7
  go_wp2_with fail
  refine SM.out.mono ?_
  rintro e w8 ⟨rfl, hb8⟩
  have k8 := k7.trans (hb8.mono k7.size)
  have HL8 := Lib.hid (HL7.out.below hb8 HL7.out.lt)
  clear SM HL7 k7 hb8
  go_wp2_with fail
  refine (pkept H.out hN k8 HL8.out _).mono ?_
  rintro e wk ⟨rfl, rfl⟩
  go_wp2_with fail
  refine (lives_any _).mono ?_
  rintro e wz ⟨rfl, hbz⟩
  go_wp2_with fail
  go_ret
  exact ⟨rfl, k8.trans (hbz.mono k8.size)⟩
set_option maxHeartbeats 3200000 in
theorem npowers_non_ok (k : Int) (hk9 : -9223372036854775808 ≤ k) (hk8 : k ≤ 9223372036854775807) (h : Hv w A c xs a N) (hN : N ≤ 1048576) (hbe : b = bitsOf a) (hb9 : b ≤ 2147483648) (hb : 1 < b) (hk0 : k ≤ 0) (q : Nat) (hn : 0 ≤ k) (ZP : Hid (∀ W (_ : Below w.heap.size w W) (_ : Hv W (some ⟨w.heap.size, 1, none⟩) (xs.length + 1) xs a N), Calls Tryd.prog 10 #[.slice (some ⟨w.heap.size, 1, none⟩) xs.length (xs.length + 1), .int .i64 k] W fun e w' => PwE W w' q (.int .i64 0) e)) (RP : Hid (∀ W (_ : Below w.heap.size w W), Calls Tryd.prog 12 #[.slice A xs.length c, .int .i64 k] W fun e w' => PwE W w' q (.bool true) e)) :
    Calls Tryd.prog 3 #[.slice A xs.length c, .int .i64 k] w fun e w' => e = .returned (.bool true) ∧ Below w.heap.size w w' := by
  have t9 : decide (k < 0) = false := decide_eq_false (by omega)
  have LE := Lib.hid (lend_any A c xs w w.heap.size h.rd (Nat.le_refl _) (by have := h.len; omega))
  have H := Lib.hid h
  have LN : Hid (∀ W (_ : Below w.heap.size w W), Calls Tryd.prog 8 #[.slice A xs.length c] W fun e w' => e = .returned (.int .i64 (b : Nat)) ∧ Below W.heap.size W w') := fun W hW => by rw [hbe]; exact (h.next hW).lenP (by omega)
  have t1 : decide ((1 : Int) < (b : Int)) = true := decide_eq_true (by omega)
  have t1b : decide (1 < b) = true := decide_eq_true hb
  have t2 : decide (0 < k) = false := decide_eq_false (by omega)
  clear h hbe
  go_enter Tryd.func3, Tryd.ntmps3
  go_wp2_with fail
  refine LE.out.mono ?_
  rintro e w1 ⟨rfl, hL, k1⟩
  have HL1 := Lib.hid hL
  have HP1 := H.out.lent hL
  have SQ := Lib.hid (sqrt_any a _ _ xs w1 w1.heap.size HP1.rd (Nat.le_refl _) HP1.dig HP1.val_ HP1.cap (by have := HP1.len; omega))
  clear LE hL HP1
  go_wp2_with fail
  refine SQ.out.mono ?_
  rintro e w2 ⟨zs, A2, c2, s, rfl, n2, hs, r2, hb2⟩
  have k2 := k1.trans (hb2.mono k1.size)
  have HL2 := Lib.hid (HL1.out.below hb2 HL1.out.lt)
  have RS := Lib.hid (rsqrt_any (H.out.next k2) (by omega))
  clear SQ HL1 hb2 k1
  go_wp2_with fail
  refine RS.out.mono ?_
  rintro e w3 ⟨s2, hs2, ys, A3, c3, rfl, n3, r3, hb3⟩
  obtain rfl := hs2.unique hs
  have k3 := k2.trans (hb3.mono k2.size)
  have HL3 := Lib.hid (HL2.out.below hb3 HL2.out.lt)
  have SM := Lib.hid (psame n2 r2 hb3 n3 r3 (Below.refl _ _))
  clear RS HL2 k2 n2 r2 hb3 n3 r3 hs hs2
  go_wp2_with fail
  refine SM.out.mono ?_
  rintro e w4 ⟨rfl, hb4⟩
  have k4 := k3.trans (hb4.mono k3.size)
  have HL4 := Lib.hid (HL3.out.below hb4 HL3.out.lt)
  clear SM HL3 k3 hb4
  go_wp2_with fail
  refine (LN.out _ k4).mono ?_
  rintro e w5 ⟨rfl, hb5⟩
  have k5 := k4.trans (hb5.mono k4.size)
  have HL5 := Lib.hid (HL4.out.below hb5 HL4.out.lt)
  clear LN HL4 k4 hb5
  go_wp2_with fail
  refine (ZP.out _ k5 (H.out.lent HL5.out)).mono ?_
  rintro e w6 ⟨zs6, A6, c6, rfl, n6, r6, hb6⟩
  have k6 := k5.trans (hb6.mono k5.size)
  have HL6 := Lib.hid (HL5.out.below hb6 HL5.out.lt)
  clear ZP HL5 k5 hb6
  go_wp2_with fail
  refine (RP.out _ k6).mono ?_
  rintro e w7 ⟨zs7, A7, c7, rfl, n7, r7, hb7⟩
  have k7 := k6.trans (hb7.mono k6.size)
  have HL7 := Lib.hid (HL6.out.below hb7 HL6.out.lt)
  have SM := Lib.hid (psame n6 r6 hb7 n7 r7 (Below.refl _ _))
  clear RP HL6 k6 n6 r6 n7 r7 hb7
  go_wp2_with fail
  refine SM.out.mono ?_
  rintro e w8 ⟨rfl, hb8⟩
  have k8 := k7.trans (hb8.mono k7.size)
  have HL8 := Lib.hid (HL7.out.below hb8 HL7.out.lt)
  clear SM HL7 k7 hb8
  go_wp2_with fail
  refine (pkept H.out hN k8 HL8.out _).mono ?_
  rintro e wk ⟨rfl, rfl⟩
  go_wp2_with fail
  refine (lives_any _).mono ?_
  rintro e wz ⟨rfl, hbz⟩
  go_wp2_with fail
  go_ret
  exact ⟨rfl, k8.trans (hbz.mono k8.size)⟩
set_option maxHeartbeats 3200000 in
theorem npowers_few_ok (k : Int) (hk9 : -9223372036854775808 ≤ k) (hk8 : k ≤ 9223372036854775807) (h : Hv w A c xs a N) (hN : N ≤ 1048576) (hbe : b = bitsOf a) (hb9 : b ≤ 2147483648) (hb : 1 < b) (hk0 : 0 < k) (hk1 : k < 67108864) (m : Int) (hm : (b : Int) * k = m) (hm1 : m ≤ 40000) (hm0 : 0 ≤ m) (q : Nat) (_ : 0 ≤ k) (ZP : Hid (∀ W (_ : Below w.heap.size w W) (_ : Hv W (some ⟨w.heap.size, 1, none⟩) (xs.length + 1) xs a N), Calls Tryd.prog 10 #[.slice (some ⟨w.heap.size, 1, none⟩) xs.length (xs.length + 1), .int .i64 k] W fun e w' => PwE W w' q (.int .i64 0) e)) (RP : Hid (∀ W (_ : Below w.heap.size w W), Calls Tryd.prog 12 #[.slice A xs.length c, .int .i64 k] W fun e w' => PwE W w' q (.bool true) e)) :
    Calls Tryd.prog 3 #[.slice A xs.length c, .int .i64 k] w fun e w' => e = .returned (.bool true) ∧ Below w.heap.size w w' := by
  have t9 : decide (k < 0) = false := decide_eq_false (by omega)
  have LE := Lib.hid (lend_any A c xs w w.heap.size h.rd (Nat.le_refl _) (by have := h.len; omega))
  have H := Lib.hid h
  have LN : Hid (∀ W (_ : Below w.heap.size w W), Calls Tryd.prog 8 #[.slice A xs.length c] W fun e w' => e = .returned (.int .i64 (b : Nat)) ∧ Below W.heap.size W w') := fun W hW => by rw [hbe]; exact (h.next hW).lenP (by omega)
  have t1 : decide ((1 : Int) < (b : Int)) = true := decide_eq_true (by omega)
  have t1b : decide (1 < b) = true := decide_eq_true hb
  have t2 : decide (0 < k) = true := decide_eq_true (by omega)
  have t3 : decide (k < 67108864) = true := decide_eq_true (by omega)
  have t4 : decide (40000 < m) = false := decide_eq_false (by omega)
  clear h hbe
  go_enter Tryd.func3, Tryd.ntmps3
  go_wp2_with fail
  refine LE.out.mono ?_
  rintro e w1 ⟨rfl, hL, k1⟩
  have HL1 := Lib.hid hL
  have HP1 := H.out.lent hL
  have SQ := Lib.hid (sqrt_any a _ _ xs w1 w1.heap.size HP1.rd (Nat.le_refl _) HP1.dig HP1.val_ HP1.cap (by have := HP1.len; omega))
  clear LE hL HP1
  go_wp2_with fail
  refine SQ.out.mono ?_
  rintro e w2 ⟨zs, A2, c2, s, rfl, n2, hs, r2, hb2⟩
  have k2 := k1.trans (hb2.mono k1.size)
  have HL2 := Lib.hid (HL1.out.below hb2 HL1.out.lt)
  have RS := Lib.hid (rsqrt_any (H.out.next k2) (by omega))
  clear SQ HL1 hb2 k1
  go_wp2_with fail
  refine RS.out.mono ?_
  rintro e w3 ⟨s2, hs2, ys, A3, c3, rfl, n3, r3, hb3⟩
  obtain rfl := hs2.unique hs
  have k3 := k2.trans (hb3.mono k2.size)
  have HL3 := Lib.hid (HL2.out.below hb3 HL2.out.lt)
  have SM := Lib.hid (psame n2 r2 hb3 n3 r3 (Below.refl _ _))
  clear RS HL2 k2 n2 r2 hb3 n3 r3 hs hs2
  go_wp2_with fail
  refine SM.out.mono ?_
  rintro e w4 ⟨rfl, hb4⟩
  have k4 := k3.trans (hb4.mono k3.size)
  have HL4 := Lib.hid (HL3.out.below hb4 HL3.out.lt)
  clear SM HL3 k3 hb4
  go_wp2_with fail
  refine (LN.out _ k4).mono ?_
  rintro e w5 ⟨rfl, hb5⟩
  have k5 := k4.trans (hb5.mono k4.size)
  have HL5 := Lib.hid (HL4.out.below hb5 HL4.out.lt)
  clear LN HL4 k4 hb5
  go_wp2_with (simp only [])
  refine (ZP.out _ k5 (H.out.lent HL5.out)).mono ?_
  rintro e w6 ⟨zs6, A6, c6, rfl, n6, r6, hb6⟩
  have k6 := k5.trans (hb6.mono k5.size)
  have HL6 := Lib.hid (HL5.out.below hb6 HL5.out.lt)
  clear ZP HL5 k5 hb6
  go_wp2_with fail
  refine (RP.out _ k6).mono ?_
  rintro e w7 ⟨zs7, A7, c7, rfl, n7, r7, hb7⟩
  have k7 := k6.trans (hb7.mono k6.size)
  have HL7 := Lib.hid (HL6.out.below hb7 HL6.out.lt)
  have SM := Lib.hid (psame n6 r6 hb7 n7 r7 (Below.refl _ _))
  clear RP HL6 k6 n6 r6 n7 r7 hb7
  go_wp2_with fail
  refine SM.out.mono ?_
  rintro e w8 ⟨rfl, hb8⟩
  have k8 := k7.trans (hb8.mono k7.size)
  have HL8 := Lib.hid (HL7.out.below hb8 HL7.out.lt)
  clear SM HL7 k7 hb8
  go_wp2_with fail
  refine (pkept H.out hN k8 HL8.out _).mono ?_
  rintro e wk ⟨rfl, rfl⟩
  go_wp2_with fail
  refine (lives_any _).mono ?_
  rintro e wz ⟨rfl, hbz⟩
  go_wp2_with fail
  go_ret
  exact ⟨rfl, k8.trans (hbz.mono k8.size)⟩
set_option maxHeartbeats 3200000 in
theorem npowers_far_much (k : Int) (hk9 : -9223372036854775808 ≤ k) (hk8 : k ≤ 9223372036854775807) (h : Hv w A c xs a N) (hN : N ≤ 1048576) (hbe : b = bitsOf a) (hb9 : b ≤ 2147483648) (hb : 1 < b) (hk0 : 67108864 ≤ k) (_ : 0 ≤ k) (ZP : Hid (∀ W (_ : Below w.heap.size w W) (_ : Hv W (some ⟨w.heap.size, 1, none⟩) (xs.length + 1) xs a N), Calls Tryd.prog 10 #[.slice (some ⟨w.heap.size, 1, none⟩) xs.length (xs.length + 1), .int .i64 k] W fun e w' => PwF W w' (.int .i64 4) e)) (RP : Hid (∀ W (_ : Below w.heap.size w W), Calls Tryd.prog 12 #[.slice A xs.length c, .int .i64 k] W fun e w' => PwF W w' (.bool false) e)) :
    Calls Tryd.prog 3 #[.slice A xs.length c, .int .i64 k] w fun e w' => e = .returned (.bool true) ∧ Below w.heap.size w w' := by
  have t9 : decide (k < 0) = false := decide_eq_false (by omega)
  have LE := Lib.hid (lend_any A c xs w w.heap.size h.rd (Nat.le_refl _) (by have := h.len; omega))
  have H := Lib.hid h
  have LN : Hid (∀ W (_ : Below w.heap.size w W), Calls Tryd.prog 8 #[.slice A xs.length c] W fun e w' => e = .returned (.int .i64 (b : Nat)) ∧ Below W.heap.size W w') := fun W hW => by rw [hbe]; exact (h.next hW).lenP (by omega)
  have t1 : decide ((1 : Int) < (b : Int)) = true := decide_eq_true (by omega)
  have t1b : decide (1 < b) = true := decide_eq_true hb
  have t2 : decide (0 < k) = true := decide_eq_true (by omega)
  have t3 : decide (k < 67108864) = false := decide_eq_false (by omega)
  clear h hbe
  go_enter Tryd.func3, Tryd.ntmps3
  go_wp2_with fail
  refine LE.out.mono ?_
  rintro e w1 ⟨rfl, hL, k1⟩
  have HL1 := Lib.hid hL
  have HP1 := H.out.lent hL
  have SQ := Lib.hid (sqrt_any a _ _ xs w1 w1.heap.size HP1.rd (Nat.le_refl _) HP1.dig HP1.val_ HP1.cap (by have := HP1.len; omega))
  clear LE hL HP1
  go_wp2_with fail
  refine SQ.out.mono ?_
  rintro e w2 ⟨zs, A2, c2, s, rfl, n2, hs, r2, hb2⟩
  have k2 := k1.trans (hb2.mono k1.size)
  have HL2 := Lib.hid (HL1.out.below hb2 HL1.out.lt)
  have RS := Lib.hid (rsqrt_any (H.out.next k2) (by omega))
  clear SQ HL1 hb2 k1
  go_wp2_with fail
  refine RS.out.mono ?_
  rintro e w3 ⟨s2, hs2, ys, A3, c3, rfl, n3, r3, hb3⟩
  obtain rfl := hs2.unique hs
  have k3 := k2.trans (hb3.mono k2.size)
  have HL3 := Lib.hid (HL2.out.below hb3 HL2.out.lt)
  have SM := Lib.hid (psame n2 r2 hb3 n3 r3 (Below.refl _ _))
  clear RS HL2 k2 n2 r2 hb3 n3 r3 hs hs2
  go_wp2_with fail
  refine SM.out.mono ?_
  rintro e w4 ⟨rfl, hb4⟩
  have k4 := k3.trans (hb4.mono k3.size)
  have HL4 := Lib.hid (HL3.out.below hb4 HL3.out.lt)
  clear SM HL3 k3 hb4
  go_wp2_with fail
  refine (LN.out _ k4).mono ?_
  rintro e w5 ⟨rfl, hb5⟩
  have k5 := k4.trans (hb5.mono k4.size)
  have HL5 := Lib.hid (HL4.out.below hb5 HL4.out.lt)
  clear LN HL4 k4 hb5
  go_wp2_with fail
  refine (ZP.out _ k5 (H.out.lent HL5.out)).mono ?_
  rintro e w6 ⟨rfl, hb6⟩
  have k6 := k5.trans (hb6.mono k5.size)
  clear ZP HL5 k5 hb6
  go_wp2_with fail
  refine (RP.out _ k6).mono ?_
  rintro e w7 ⟨rfl, hb7⟩
  have k7 := k6.trans (hb7.mono k6.size)
  clear RP k6 hb7
  go_wp2_with fail
  refine (lives_any _).mono ?_
  rintro e wz ⟨rfl, hbz⟩
  go_wp2_with fail
  go_ret
  exact ⟨rfl, k7.trans (hbz.mono k7.size)⟩
set_option maxHeartbeats 3200000 in
theorem npowers_big_much (k : Int) (hk9 : -9223372036854775808 ≤ k) (hk8 : k ≤ 9223372036854775807) (h : Hv w A c xs a N) (hN : N ≤ 1048576) (hbe : b = bitsOf a) (hb9 : b ≤ 2147483648) (hb : 1 < b) (hk0 : 0 < k) (hk1 : k < 67108864) (m r : Int) (hm : (b : Int) * k = m) (hm1 : 40000 < m) (hm2 : m ≤ 9223372036854775807) (hr : ((b : Int) - 1) * k = r) (hr1 : 67108864 ≤ r) (hr2 : r ≤ 9223372036854775807) (_ : 0 ≤ k) (ZP : Hid (∀ W (_ : Below w.heap.size w W) (_ : Hv W (some ⟨w.heap.size, 1, none⟩) (xs.length + 1) xs a N), Calls Tryd.prog 10 #[.slice (some ⟨w.heap.size, 1, none⟩) xs.length (xs.length + 1), .int .i64 k] W fun e w' => PwF W w' (.int .i64 4) e)) (RP : Hid (∀ W (_ : Below w.heap.size w W), Calls Tryd.prog 12 #[.slice A xs.length c, .int .i64 k] W fun e w' => PwF W w' (.bool false) e)) :
    Calls Tryd.prog 3 #[.slice A xs.length c, .int .i64 k] w fun e w' => e = .returned (.bool true) ∧ Below w.heap.size w w' := by
  have t9 : decide (k < 0) = false := decide_eq_false (by omega)
  have LE := Lib.hid (lend_any A c xs w w.heap.size h.rd (Nat.le_refl _) (by have := h.len; omega))
  have H := Lib.hid h
  have LN : Hid (∀ W (_ : Below w.heap.size w W), Calls Tryd.prog 8 #[.slice A xs.length c] W fun e w' => e = .returned (.int .i64 (b : Nat)) ∧ Below W.heap.size W w') := fun W hW => by rw [hbe]; exact (h.next hW).lenP (by omega)
  have t1 : decide ((1 : Int) < (b : Int)) = true := decide_eq_true (by omega)
  have t1b : decide (1 < b) = true := decide_eq_true hb
  have t2 : decide (0 < k) = true := decide_eq_true (by omega)
  have t3 : decide (k < 67108864) = true := decide_eq_true (by omega)
  have t4 : decide (40000 < m) = true := decide_eq_true (by omega)
  have t5 : decide (r < 67108864) = false := decide_eq_false (by omega)
  clear h hbe
  go_enter Tryd.func3, Tryd.ntmps3
  go_wp2_with fail
  refine LE.out.mono ?_
  rintro e w1 ⟨rfl, hL, k1⟩
  have HL1 := Lib.hid hL
  have HP1 := H.out.lent hL
  have SQ := Lib.hid (sqrt_any a _ _ xs w1 w1.heap.size HP1.rd (Nat.le_refl _) HP1.dig HP1.val_ HP1.cap (by have := HP1.len; omega))
  clear LE hL HP1
  go_wp2_with fail
  refine SQ.out.mono ?_
  rintro e w2 ⟨zs, A2, c2, s, rfl, n2, hs, r2, hb2⟩
  have k2 := k1.trans (hb2.mono k1.size)
  have HL2 := Lib.hid (HL1.out.below hb2 HL1.out.lt)
  have RS := Lib.hid (rsqrt_any (H.out.next k2) (by omega))
  clear SQ HL1 hb2 k1
  go_wp2_with fail
  refine RS.out.mono ?_
  rintro e w3 ⟨s2, hs2, ys, A3, c3, rfl, n3, r3, hb3⟩
  obtain rfl := hs2.unique hs
  have k3 := k2.trans (hb3.mono k2.size)
  have HL3 := Lib.hid (HL2.out.below hb3 HL2.out.lt)
  have SM := Lib.hid (psame n2 r2 hb3 n3 r3 (Below.refl _ _))
  clear RS HL2 k2 n2 r2 hb3 n3 r3 hs hs2
  go_wp2_with fail
  refine SM.out.mono ?_
  rintro e w4 ⟨rfl, hb4⟩
  have k4 := k3.trans (hb4.mono k3.size)
  have HL4 := Lib.hid (HL3.out.below hb4 HL3.out.lt)
  clear SM HL3 k3 hb4
  go_wp2_with fail
  refine (LN.out _ k4).mono ?_
  rintro e w5 ⟨rfl, hb5⟩
  have k5 := k4.trans (hb5.mono k4.size)
  have HL5 := Lib.hid (HL4.out.below hb5 HL4.out.lt)
  clear LN HL4 k4 hb5
  go_wp2_with (first | simp only [] | simp only [hr])
  refine (ZP.out _ k5 (H.out.lent HL5.out)).mono ?_
  rintro e w6 ⟨rfl, hb6⟩
  have k6 := k5.trans (hb6.mono k5.size)
  clear ZP HL5 k5 hb6
  go_wp2_with fail
  refine (RP.out _ k6).mono ?_
  rintro e w7 ⟨rfl, hb7⟩
  have k7 := k6.trans (hb7.mono k6.size)
  clear RP k6 hb7
  go_wp2_with fail
  refine (lives_any _).mono ?_
  rintro e wz ⟨rfl, hbz⟩
  go_wp2_with fail
  go_ret
  exact ⟨rfl, k7.trans (hbz.mono k7.size)⟩
set_option maxHeartbeats 3200000 in
theorem npowers_mid_lives (k : Int) (_ : -9223372036854775808 ≤ k) (_ : k ≤ 9223372036854775807) (h : Hv w A c xs a N) (hN : N ≤ 1048576) (hbe : b = bitsOf a) (hb9 : b ≤ 2147483648) (hb : 1 < b) (hk0 : 0 < k) (hk1 : k < 67108864) (m r : Int) (hm : (b : Int) * k = m) (hm1 : 40000 < m) (hm2 : m ≤ 9223372036854775807) (hr : ((b : Int) - 1) * k = r) (hr1 : r < 67108864) (hr2 : 0 ≤ r)  :
    Calls Tryd.prog 3 #[.slice A xs.length c, .int .i64 k] w fun e w' => e = .returned (.bool true) ∧ Below w.heap.size w w' := by
  have LE := Lib.hid (lend_any A c xs w w.heap.size h.rd (Nat.le_refl _) (by have := h.len; omega))
  have H := Lib.hid h
  have LN : Hid (∀ W (_ : Below w.heap.size w W), Calls Tryd.prog 8 #[.slice A xs.length c] W fun e w' => e = .returned (.int .i64 (b : Nat)) ∧ Below W.heap.size W w') := fun W hW => by rw [hbe]; exact (h.next hW).lenP (by omega)
  have t1 : decide ((1 : Int) < (b : Int)) = true := decide_eq_true (by omega)
  have t1b : decide (1 < b) = true := decide_eq_true hb
  have t2 : decide (0 < k) = true := decide_eq_true (by omega)
  have t3 : decide (k < 67108864) = true := decide_eq_true (by omega)
  have t4 : decide (40000 < m) = true := decide_eq_true (by omega)
  have t5 : decide (r < 67108864) = true := decide_eq_true (by omega)
  clear h hbe
  go_enter Tryd.func3, Tryd.ntmps3
  go_wp2_with fail
  refine LE.out.mono ?_
  rintro e w1 ⟨rfl, hL, k1⟩
  have HL1 := Lib.hid hL
  have HP1 := H.out.lent hL
  have SQ := Lib.hid (sqrt_any a _ _ xs w1 w1.heap.size HP1.rd (Nat.le_refl _) HP1.dig HP1.val_ HP1.cap (by have := HP1.len; omega))
  clear LE hL HP1
  go_wp2_with fail
  refine SQ.out.mono ?_
  rintro e w2 ⟨zs, A2, c2, s, rfl, n2, hs, r2, hb2⟩
  have k2 := k1.trans (hb2.mono k1.size)
  have HL2 := Lib.hid (HL1.out.below hb2 HL1.out.lt)
  have RS := Lib.hid (rsqrt_any (H.out.next k2) (by omega))
  clear SQ HL1 hb2 k1
  go_wp2_with fail
  refine RS.out.mono ?_
  rintro e w3 ⟨s2, hs2, ys, A3, c3, rfl, n3, r3, hb3⟩
  obtain rfl := hs2.unique hs
  have k3 := k2.trans (hb3.mono k2.size)
  have HL3 := Lib.hid (HL2.out.below hb3 HL2.out.lt)
  have SM := Lib.hid (psame n2 r2 hb3 n3 r3 (Below.refl _ _))
  clear RS HL2 k2 n2 r2 hb3 n3 r3 hs hs2
  go_wp2_with fail
  refine SM.out.mono ?_
  rintro e w4 ⟨rfl, hb4⟩
  have k4 := k3.trans (hb4.mono k3.size)
  have HL4 := Lib.hid (HL3.out.below hb4 HL3.out.lt)
  clear SM HL3 k3 hb4
  go_wp2_with fail
  refine (LN.out _ k4).mono ?_
  rintro e w5 ⟨rfl, hb5⟩
  have k5 := k4.trans (hb5.mono k4.size)
  have HL5 := Lib.hid (HL4.out.below hb5 HL4.out.lt)
  clear LN HL4 k4 hb5
  go_wp2_with (first | simp only [] | simp only [hr])
  refine (lives_any _).mono ?_
  rintro e wz ⟨rfl, hbz⟩
  go_wp2_with fail
  go_ret
  exact ⟨rfl, k5.trans (hbz.mono k5.size)⟩

theorem npowers_walk (N : Nat) (hN : N ≤ 1048576) (hT : Tab32 w) (hTB : 0 < w.heap.size) (h : Hv w A c xs a N) (k : Int) (hk9 : -9223372036854775808 ≤ k ∧ k ≤ 9223372036854775807) :
    Calls Tryd.prog 3 #[.slice A xs.length c, .int .i64 k] w fun e w' => e = .returned (.bool true) ∧ Below w.heap.size w w' := by
  have hbl := bits_limbs h.lt
  have OKZ : ∀ m : Nat, k = (m : Int) → PwS a m → Hid (∀ W (_ : Below w.heap.size w W) (_ : Hv W (some ⟨w.heap.size, 1, none⟩) (xs.length + 1) xs a N), Calls Tryd.prog 10 #[.slice (some ⟨w.heap.size, 1, none⟩) xs.length (xs.length + 1), .int .i64 k] W fun e w' => PwE W w' (a ^ m) (.int .i64 0) e) := fun m hm hs W hW hv => by
    rw [hm]
    exact npow_all hv (by omega) m (by omega) hs (hT.below hW hTB) (Nat.lt_of_lt_of_le hTB hW.size)
  have OKR : ∀ m : Nat, k = (m : Int) → PwS a m → Hid (∀ W (_ : Below w.heap.size w W), Calls Tryd.prog 12 #[.slice A xs.length c, .int .i64 k] W fun e w' => PwE W w' (a ^ m) (.bool true) e) := fun m hm hs W hW => by
    rw [hm]
    exact rpow_all (h.next hW) (by omega) m (by omega) hs
  have NOZ : ∀ m : Nat, k = (m : Int) → 2 ≤ bitsOf a → 67108864 ≤ m * (bitsOf a - 1) → Hid (∀ W (_ : Below w.heap.size w W) (_ : Hv W (some ⟨w.heap.size, 1, none⟩) (xs.length + 1) xs a N), Calls Tryd.prog 10 #[.slice (some ⟨w.heap.size, 1, none⟩) xs.length (xs.length + 1), .int .i64 k] W fun e w' => PwF W w' (.int .i64 4) e) := fun m hm h1 h2 W hW hv => by
    rw [hm]
    exact npow_big hv (by omega) m (by omega) h1 h2
  have NOR : ∀ m : Nat, k = (m : Int) → 2 ≤ bitsOf a → 67108864 ≤ m * (bitsOf a - 1) → Hid (∀ W (_ : Below w.heap.size w W), Calls Tryd.prog 12 #[.slice A xs.length c, .int .i64 k] W fun e w' => PwF W w' (.bool false) e) := fun m hm h1 h2 W hW => by
    rw [hm]
    exact rpow_much (h.next hW) (by omega) m (by omega) h1 h2
  have NEG : k < 0 → Hid (∀ W (_ : Below w.heap.size w W) (_ : Hv W (some ⟨w.heap.size, 1, none⟩) (xs.length + 1) xs a N), Calls Tryd.prog 10 #[.slice (some ⟨w.heap.size, 1, none⟩) xs.length (xs.length + 1), .int .i64 k] W fun e w' => PwF W w' (.int .i64 1) e) := fun h0 W hW hv =>
    npow_neg hv (by omega) k h0
  obtain ⟨b, hb⟩ : ∃ b, b = bitsOf a := ⟨_, rfl⟩
  have hS : ∀ m, PwS a m ↔ m = 0 ∨ b ≤ 1 ∨ b * m ≤ 40000 := fun m => by rw [hb]; exact Iff.rfl
  rw [← hb] at hbl NOZ NOR
  have hb9 : b ≤ 2147483648 := by omega
  by_cases hn : k < 0
  · by_cases h1 : b ≤ 1
    · exact npowers_low_neg k hk9.1 hk9.2 h hN hb hb9 h1 hn (NEG hn)
    · exact npowers_non_neg k hk9.1 hk9.2 h hN hb hb9 (by omega) (by omega) hn (NEG hn)
  · obtain ⟨m, hm⟩ : ∃ m : Nat, k = (m : Int) := ⟨k.toNat, by omega⟩
    by_cases h1 : b ≤ 1
    · have hs := (hS m).2 (Or.inr (Or.inl h1))
      exact npowers_low_ok k hk9.1 hk9.2 h hN hb hb9 h1 _ (by omega) (OKZ m hm hs) (OKR m hm hs)
    · by_cases h2 : m = 0
      · have hs := (hS m).2 (Or.inl h2)
        exact npowers_non_ok k hk9.1 hk9.2 h hN hb hb9 (by omega) (by omega) _ (by omega) (OKZ m hm hs) (OKR m hm hs)
      · by_cases h3 : 67108864 ≤ m
        · have h4 : 67108864 ≤ m * (b - 1) := Nat.le_trans h3 (Nat.le_mul_of_pos_right m (by omega))
          exact npowers_far_much k hk9.1 hk9.2 h hN hb hb9 (by omega) (by omega) (by omega) (NOZ m hm (by omega) h4) (NOR m hm (by omega) h4)
        · have e1 : (b : Int) * k = ((b * m : Nat) : Int) := by rw [hm]; simp
          have e2 : ((b : Int) - 1) * k = (((b - 1) * m : Nat) : Int) := by
            rw [hm, Int.natCast_mul, Int.natCast_sub (by omega)]
            rfl
          have u1 : b * m ≤ 2147483648 * 67108864 := Nat.mul_le_mul hb9 (by omega)
          have u2 : (b - 1) * m ≤ 2147483648 * 67108864 := Nat.mul_le_mul (by omega) (by omega)
          by_cases h4 : b * m ≤ 40000
          · have hs := (hS m).2 (Or.inr (Or.inr h4))
            exact npowers_few_ok k hk9.1 hk9.2 h hN hb hb9 (by omega) (by omega) (by omega) _ e1 (by omega) (by omega) _ (by omega) (OKZ m hm hs) (OKR m hm hs)
          · by_cases h5 : (b - 1) * m < 67108864
            · exact npowers_mid_lives k hk9.1 hk9.2 h hN hb hb9 (by omega) (by omega) (by omega) _ _ e1 (by omega) (by omega) e2 (by omega) (by omega)
            · have h6 : 67108864 ≤ m * (b - 1) := by rw [Nat.mul_comm]; omega
              exact npowers_big_much k hk9.1 hk9.2 h hN hb hb9 (by omega) (by omega) (by omega) _ _ e1 (by omega) (by omega) e2 (by omega) (by omega) (by omega) (NOZ m hm (by omega) h6) (NOR m hm (by omega) h6)
end
end Go.Proofs.YtanlejlmckdeiaaDoor
