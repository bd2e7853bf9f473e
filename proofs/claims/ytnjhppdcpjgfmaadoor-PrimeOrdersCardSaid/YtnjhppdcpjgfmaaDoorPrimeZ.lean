/- The contracts of both Roots, and the walk of PrimeOrders: true. Conditions: p a prime; bases reads 2, 7, 61. -/
import Derived.Test.YtnjhppdcpjgfmaaDoorPrimeY
import Derived.Test.YtnjhppdcpjgfmaaDoorPrimeW
namespace Go.Proofs.YtnjhppdcpjgfmaaDoor
open Go.RowKit

theorem isOrd_le {a p o : Nat} (hp : Pr p) (h : IsOrd a p o) : o ≤ p - 1 := by
  have h0 := h.not_zero
  exact Nat.le_of_dvd (by have := hp.1; omega) (h.2.2 _ (hp.fermat fun hd => h0 (Nat.mod_eq_zero_of_dvd hd)))

set_option maxHeartbeats 1600000 in
theorem proot_yes (p g : Nat) (hp : Pr p) (hlt : p < 4294967296) (hg : LeastRoot p g) (w : World) (hw : Bases w) :
    Calls Tryd.prog 40 #[.int .u32 (p : Int)] w fun r w' => r = .returned (.tuple #[.int .u32 (g : Int), .int .i64 0]) ∧ Below w.heap.size w w' := by
  have Hw := Lib.hid hw
  have hp1 := hp.1
  have Hi := Lib.hid (fun W hW => is_yes p hp hlt W hW)
  have Hf := Lib.hid (fun W => factors_any (p - 1) (by omega) (by omega) W)
  have Ho := Lib.hid (fun x (hx : 0 < x) (hxp : x < p) L hF A c W hrd => order_any x p (by omega) hp hlt (by rw [Nat.mod_eq_of_lt hxp]; omega) L hF A c W hrd)
  have Hg := Lib.hid hg
  have Hlo := Lib.hid (fun x o (h : IsOrd x p o) => isOrd_le hp h)
  have hgp := hg.2.1
  have hg0 := hg.1
  obtain ⟨m, hm⟩ : ∃ m, m = p - 1 := ⟨_, rfl⟩
  have tm : (p : Int) - 1 = (m : Int) := by omega
  have hmp : m < p := by omega
  rw [← hm] at Hf Hlo
  have Hm := Lib.hid hm
  clear hw hp hm hg
  go_enter Tryd.func40, Tryd.ntmps40
  go_wp2_with fail
  refine (Hi.out _ Hw.out).mono ?_
  rintro _ _ ⟨rfl, rfl⟩
  go_wp2_with fail
  refine (Hf.out _).mono ?_
  rintro _ w1 ⟨v, L, rfl, hF, hown, hb⟩
  obtain ⟨A, c, rfl, hrd⟩ := own_rd hown
  have HF := Lib.hid (Hm.out ▸ hF)
  have Hrd := Lib.hid hrd
  clear hown hF hrd
  go_wp2
  go_loopw [5] (fun gv wr => ∃ x : Nat, gv = .int .u32 (x : Int) ∧ 0 < x ∧ x ≤ g ∧ Below w1.heap.size w1 wr) (fun gv _ => g - (intOf gv).toNat)
  case atStart => exact ⟨1, rfl, by omega, by omega, Below.refl _ _⟩
  case round =>
    obtain ⟨x, rfl, hx0, hxg, hbw⟩ := hrel
    go_wp2_with fail
    refine (Ho.out x hx0 (by omega) L HF.out A c _ ((Hrd.out.below hbw).mono hbw.size)).mono ?_
    rintro _ w2 ⟨o, rfl, ho, hod, hb2⟩
    have hle := Hlo.out x o ho
    have HO := Lib.hid ho
    have hb3 := hbw.trans (hb2.mono hbw.size)
    clear ho hod
    by_cases hxe : x = g
    · obtain rfl : o = m := HO.out.unique (hxe ▸ Hm.out ▸ Hg.out.2.2.1)
      subst hxe
      go_wp2
      go_ret2
      exact ⟨rfl, hb.trans (hb3.mono hb.size)⟩
    · have hne : o ≠ m := fun h => Hg.out.2.2.2 x hx0 (by omega) (by rw [← Hm.out, ← h]; exact HO.out)
      have hlo : o < m := by omega
      go_wp2
      go_roundw
      case rel => exact ⟨x + 1, by go_num, by omega, by omega, hb3⟩
      case measure => simp [intOf]; omega
theorem proot_no (p : Nat) (hp : ¬ Pr p) (hlt : p < 4294967296) (w : World) (hw : Bases w) :
    Calls Tryd.prog 40 #[.int .u32 (p : Int)] w fun r w' => r = .returned (.tuple #[.int .u32 0, .int .i64 40]) ∧ w' = w := by
  have Hw := Lib.hid hw
  have Hi := Lib.hid (fun W hW => is_no p hp hlt W hW)
  clear hw hp
  go_enter Tryd.func40, Tryd.ntmps40
  go_wp2_with fail
  refine (Hi.out _ Hw.out).mono ?_
  rintro _ _ ⟨rfl, rfl⟩
  go_wp2
  go_ret2
  exact ⟨rfl, rfl⟩

set_option maxHeartbeats 1600000 in
theorem rroot_any (p g : Nat) (hp : Pr p) (hlt : p < 4294967296) (hg : LeastRoot p g) (w : World) :
    Calls Tryd.prog 41 #[.int .u32 (p : Int)] w fun r w' => r = .returned (.int .u32 (g : Int)) ∧ Below w.heap.size w w' := by
  have hp1 := hp.1
  have Ho := Lib.hid (fun x (hx : 0 < x) (hxp : x < p) W => rorder_any x p (by omega) hp hlt (by rw [Nat.mod_eq_of_lt hxp]; omega) W)
  have Hg := Lib.hid hg
  have Hlo := Lib.hid (fun x o (h : IsOrd x p o) => isOrd_le hp h)
  have hgp := hg.2.1
  have hg0 := hg.1
  obtain ⟨m, hm⟩ : ∃ m, m = p - 1 := ⟨_, rfl⟩
  have tm : (p : Int) - 1 = (m : Int) := by omega
  have hmp : m < p := by omega
  rw [← hm] at Hlo
  have Hm := Lib.hid hm
  clear hp hm hg
  go_enter Tryd.func41, Tryd.ntmps41
  go_wp2
  go_loopw [3] (fun gv wr => ∃ x : Nat, gv = .int .u32 (x : Int) ∧ 0 < x ∧ x ≤ g ∧ Below w.heap.size w wr) (fun gv _ => g - (intOf gv).toNat)
  case atStart => exact ⟨1, rfl, by omega, by omega, Below.refl _ _⟩
  case round =>
    obtain ⟨x, rfl, hx0, hxg, hbw⟩ := hrel
    go_wp2_with fail
    refine (Ho.out x hx0 (by omega) _).mono ?_
    rintro _ w2 ⟨o, rfl, ho, hb2⟩
    have hle := Hlo.out x o ho
    have HO := Lib.hid ho
    have hb3 := hbw.trans (hb2.mono hbw.size)
    clear ho
    by_cases hxe : x = g
    · obtain rfl : o = m := HO.out.unique (hxe ▸ Hm.out ▸ Hg.out.2.2.1)
      subst hxe
      have te : ((o : Int) == (o : Int)) = true := by simp
      go_wp2
      go_ret
      exact ⟨rfl, hb3⟩
    · have hne : o ≠ m := fun h => Hg.out.2.2.2 x hx0 (by omega) (by rw [← Hm.out, ← h]; exact HO.out)
      have te : ((o : Int) == (m : Int)) = false := by simp; omega
      go_wp2
      go_roundw
      case rel => exact ⟨x + 1, by go_num, by omega, by omega, hb3⟩
      case measure => simp [intOf]; omega

set_option maxHeartbeats 1600000 in
theorem orders_none (a p : Nat) (hp : ¬ Pr p) (hlt : p < 4294967296) (w : World) (hw : Bases w) :
    Calls Tryd.prog 9 #[.int .u32 (a : Int), .int .u32 (p : Int)] w fun r w' => r = .returned (.bool true) ∧ Below w.heap.size w w' := by
  have Hw := Lib.hid hw
  have A1 := Lib.hid (fun W hW => pord_no a p hp hlt W hW)
  have A2 := Lib.hid (fun W hW => proot_no p hp hlt W hW)
  have Hi := Lib.hid (fun W => ris_no p hp hlt W)
  clear hw hp
  go_enter Tryd.func9, Tryd.ntmps9
  go_wp2_with fail
  refine (A1.out _ Hw.out).mono ?_
  rintro _ _ ⟨rfl, rfl⟩
  go_wp2_with fail
  refine (A2.out _ Hw.out).mono ?_
  rintro _ _ ⟨rfl, rfl⟩
  go_wp2_with fail
  refine (Hi.out _).mono ?_
  rintro _ _ ⟨rfl, rfl⟩
  go_wp2_with fail
  refine (told_error 0 40 _ rfl).mono ?_
  rintro _ _ ⟨rfl, rfl⟩
  go_wp2_with fail
  refine (told_error 0 40 _ rfl).mono ?_
  rintro _ _ ⟨rfl, rfl⟩
  go_wp2_with fail
  refine (awake_any _ Hw.out).mono ?_
  rintro _ _ ⟨rfl, rfl⟩
  go_wp2
  go_ret
  exact ⟨rfl, Below.refl _ _⟩

set_option maxHeartbeats 1600000 in
theorem orders_zero (a p g : Nat) (_ha : a < 4294967296) (hp : Pr p) (hlt : p < 4294967296) (hg : LeastRoot p g) (h0 : a % p = 0) (w : World) (hw : Bases w) :
    Calls Tryd.prog 9 #[.int .u32 (a : Int), .int .u32 (p : Int)] w fun r w' => r = .returned (.bool true) ∧ Below w.heap.size w w' := by
  have Hw := Lib.hid hw
  have hp1 := hp.1
  have A1 := Lib.hid (fun W hW => pord_zero a p hp hlt h0 W hW)
  have t0 : (a : Int) % (p : Int) = 0 := by rw [cast_mod, h0]; rfl
  have A2 := Lib.hid (fun W hW => proot_yes p g hp hlt hg W hW)
  have A3 := Lib.hid (fun W => rroot_any p g hp hlt hg W)
  have Hi := Lib.hid (fun W => ris_yes p hp hlt W)
  have t2 : ((p : Int) == 0) = false := by simp; omega
  clear hw hp h0 hg
  go_enter Tryd.func9, Tryd.ntmps9
  go_wp2_with fail
  refine (A1.out _ Hw.out).mono ?_
  rintro _ _ ⟨rfl, rfl⟩
  go_wp2_with fail
  refine (A2.out _ Hw.out).mono ?_
  rintro _ w2 ⟨rfl, hb_w2⟩
  have Hw2 := Lib.hid (Hw.out.keep hb_w2 Hw.out.lt)
  have HB2 := Lib.hid hb_w2
  clear hb_w2
  go_wp2_with fail
  refine (Hi.out _).mono ?_
  rintro _ _ ⟨rfl, rfl⟩
  go_wp2_with fail
  refine (A3.out _).mono ?_
  rintro _ w3 ⟨rfl, hb_w3⟩
  have Hw3 := Lib.hid (Hw2.out.keep hb_w3 Hw2.out.lt)
  have HB3 := Lib.hid (HB2.out.trans (hb_w3.mono HB2.out.size))
  clear hb_w3
  go_wp2_with fail
  refine (told_right g 0 _ rfl).mono ?_
  rintro _ _ ⟨rfl, rfl⟩
  go_wp2_with fail
  refine (told_error 0 5 _ rfl).mono ?_
  rintro _ _ ⟨rfl, rfl⟩
  go_wp2_with fail
  refine (awake_any _ Hw3.out).mono ?_
  rintro _ _ ⟨rfl, rfl⟩
  go_wp2
  go_ret
  exact ⟨rfl, HB3.out⟩

set_option maxHeartbeats 1600000 in
theorem orders_some (a p g : Nat) (ha : a < 4294967296) (hp : Pr p) (hlt : p < 4294967296) (hg : LeastRoot p g) (h0 : a % p ≠ 0) (w : World) (hw : Bases w) :
    Calls Tryd.prog 9 #[.int .u32 (a : Int), .int .u32 (p : Int)] w fun r w' => r = .returned (.bool true) ∧ Below w.heap.size w w' := by
  have Hw := Lib.hid hw
  have hp1 := hp.1
  obtain ⟨o, ho, _⟩ := exists_ord hp h0
  have A1 := Lib.hid (show ∀ W, Bases W → Calls Tryd.prog 39 #[.int .u32 (a : Int), .int .u32 (p : Int)] W (fun r w' => r = .returned (.tuple #[.int .u32 (o : Int), .int .i64 0]) ∧ Below W.heap.size W w') from fun W hW => (pord_yes a p ha hp hlt h0 W hW).mono fun _ _ ⟨o', e1, e2, _, e4⟩ => ⟨by rw [e1, e2.unique ho], e4⟩)
  have A5 := Lib.hid (show ∀ W, Calls Tryd.prog 42 #[.int .u32 (a : Int), .int .u32 (p : Int)] W (fun r w' => r = .returned (.int .u32 (o : Int)) ∧ Below W.heap.size W w') from fun W => (rorder_any a p ha hp hlt h0 W).mono fun _ _ ⟨o', e1, e2, e4⟩ => ⟨by rw [e1, e2.unique ho], e4⟩)
  have t0 : (a : Int) % (p : Int) = ((a % p : Nat) : Int) := cast_mod a p
  obtain ⟨x, hx⟩ : ∃ x, x = a % p := ⟨_, rfl⟩
  rw [← hx] at t0 h0
  have t1 : ((x : Int) == 0) = false := by simp; omega
  have A2 := Lib.hid (fun W hW => proot_yes p g hp hlt hg W hW)
  have A3 := Lib.hid (fun W => rroot_any p g hp hlt hg W)
  have Hi := Lib.hid (fun W => ris_yes p hp hlt W)
  have t2 : ((p : Int) == 0) = false := by simp; omega
  clear hw hp h0 hg ho hx
  go_enter Tryd.func9, Tryd.ntmps9
  go_wp2_with fail
  refine (A1.out _ Hw.out).mono ?_
  rintro _ w1 ⟨rfl, hb_w1⟩
  have Hw1 := Lib.hid (Hw.out.keep hb_w1 Hw.out.lt)
  go_wp2_with fail
  refine (A2.out _ Hw1.out).mono ?_
  rintro _ w2 ⟨rfl, hb_w2⟩
  have Hw2 := Lib.hid (Hw1.out.keep hb_w2 Hw1.out.lt)
  have HB2 := Lib.hid (hb_w1.trans (hb_w2.mono hb_w1.size))
  clear hb_w1 hb_w2
  go_wp2_with fail
  refine (Hi.out _).mono ?_
  rintro _ _ ⟨rfl, rfl⟩
  go_wp2_with fail
  refine (A3.out _).mono ?_
  rintro _ w3 ⟨rfl, hb_w3⟩
  have Hw3 := Lib.hid (Hw2.out.keep hb_w3 Hw2.out.lt)
  have HB3 := Lib.hid (HB2.out.trans (hb_w3.mono HB2.out.size))
  clear hb_w3
  go_wp2_with fail
  refine (told_right g 0 _ rfl).mono ?_
  rintro _ _ ⟨rfl, rfl⟩
  go_wp2_with fail
  refine (A5.out _).mono ?_
  rintro _ w4 ⟨rfl, hb_w4⟩
  have Hw4 := Lib.hid (Hw3.out.keep hb_w4 Hw3.out.lt)
  have HB4 := Lib.hid (HB3.out.trans (hb_w4.mono HB3.out.size))
  clear hb_w4
  go_wp2_with fail
  refine (told_right o 0 _ rfl).mono ?_
  rintro _ _ ⟨rfl, rfl⟩
  go_wp2_with fail
  refine (awake_any _ Hw4.out).mono ?_
  rintro _ _ ⟨rfl, rfl⟩
  go_wp2
  go_ret
  exact ⟨rfl, HB4.out⟩

theorem primeOrders_walk (a : Nat) (ha : a < 4294967296) (p : Nat) (hlt : p < 4294967296) (w : World) (hw : Bases w) :
    Calls Tryd.prog 9 #[.int .u32 (a : Int), .int .u32 (p : Int)] w fun r w' => r = .returned (.bool true) ∧ Below w.heap.size w w' := by
  by_cases hp : Pr p
  · obtain ⟨g, hg⟩ := hp.least_root
    by_cases h0 : a % p = 0
    · exact orders_zero a p g ha hp hlt hg h0 w hw
    · exact orders_some a p g ha hp hlt hg h0 w hw
  · exact orders_none a p hp hlt w hw
end Go.Proofs.YtnjhppdcpjgfmaaDoor
