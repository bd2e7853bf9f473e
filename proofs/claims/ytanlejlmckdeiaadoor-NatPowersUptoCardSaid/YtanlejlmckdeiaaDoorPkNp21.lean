/- The contract of nat.Sqrt. Conditions: limbs; at most 2^27 of them. The contracts of the reference's Lend and Kept. Rows that Lend handed out, as slices. No conditions. The contracts of the reference's Same on equal lists, and of lives. -/
import Derived.Test.YtanlejlmckdeiaaDoorPkNp19
import Derived.Test.YtanlejlmckdeiaaDoorPkNp16
import Derived.Test.YtanlejlmckdeiaaDoorPkNp9
import Derived.Test.YtanlejlmckdeiaaDoorPkNp13
import Derived.Test.YtanlejlmckdeiaaDoorPkNp6
import Derived.Test.YtanlejlmckdeiaaDoorPkNp5
import Derived.Test.YtanlejlmckdeiaaDoorPkNp4
namespace Go.Proofs.YtanlejlmckdeiaaDoor
section
open Go.RowKit

def SqrtOut (w w' : World) (m : Nat) (e : Ending) : Prop :=
  ∃ zs A' c' s, e = .returned (.slice A' zs.length c') ∧ Num 4294967296 zs s ∧ IsRoot m s ∧ Res w' w.heap.size 36 A' c' (u32s zs) ∧ Below w.heap.size w w'
def SqrtOk (m : Nat) : Prop :=
  ∀ (A : Option Addr) (c : Nat) (xs : List Nat) (w : World) (B : Nat), Rd w B A (u32s xs) → B ≤ w.heap.size → Dig 4294967296 xs → val 4294967296 xs = m → xs.length ≤ c → xs.length ≤ 134217728 → Calls Tryd.prog 5 #[.slice A xs.length c] w fun e w' => SqrtOut w w' m e
theorem sqrt_drop {m : Nat} (h : 18446744073709551616 ≤ m) : 1 ≤ Nat.log2 m / 4 ∧ 1 ≤ m / 2 ^ (2 * (Nat.log2 m / 4)) ∧ m / 2 ^ (2 * (Nat.log2 m / 4)) < m := by
  have h0 : m ≠ 0 := by omega
  have h1 : 64 ≤ Nat.log2 m := (Nat.le_log2 h0).2 (by rw [show (2 : Nat) ^ 64 = 18446744073709551616 from by decide]; exact h)
  have h2 := Nat.log2_self_le h0
  refine ⟨by omega, ?_, ?_⟩
  · refine (Nat.le_div_iff_mul_le (Nat.two_pow_pos _)).2 ?_
    rw [Nat.one_mul]
    exact Nat.le_trans (Nat.pow_le_pow_right (by omega) (by omega)) h2
  · refine Nat.div_lt_self (by omega) ?_
    have : 2 ^ 1 ≤ 2 ^ (2 * (Nat.log2 m / 4)) := Nat.pow_le_pow_right (by omega) (by omega)
    omega
theorem root_up {m s d : Nat} (h : s * s ≤ m / 2 ^ (2 * d)) : s * 2 ^ d * (s * 2 ^ d) ≤ m := by
  have e : s * 2 ^ d * (s * 2 ^ d) = s * s * 2 ^ (2 * d) := by
    rw [show 2 * d = d + d from by omega, Nat.pow_add]; grind
  rw [e]
  exact Nat.le_trans (Nat.mul_le_mul_right _ h) (Nat.div_mul_le_self _ _)
theorem self_le_sq {x m : Nat} (h : x * x ≤ m) : x ≤ m := by
  rcases Nat.eq_zero_or_pos x with h0 | h0
  · omega
  · exact Nat.le_trans (Nat.le_mul_of_pos_left _ h0) h

set_option maxHeartbeats 6400000 in
set_option maxRecDepth 100000 in
theorem sqrt_any : ∀ m, SqrtOk m := fun m => by
  induction m using Nat.strongRecOn with
  | _ m ih =>
    intro A c xs w B hr hB hd hv hc hm
    have hn : Num 4294967296 (trimL xs) m := by rw [← hv]; exact Num.of_trim hd
    have hl := trimL_length_le xs
    have hrt : Rd w B A (u32s (trimL xs)) := by rw [u32s_trim]; exact hr.take _
    have T0 := Lib.hid (trim_any A c xs w B hr hc (by omega))
    obtain ⟨ps, hps⟩ : ∃ ps, ps = trimL xs := ⟨_, rfl⟩
    rw [← hps] at hn hl hrt T0
    clear hps
    by_cases h2 : ps.length ≤ 2
    · have hm64 : m < 18446744073709551616 := by
        have h1 := hn.lt
        have h3 : 4294967296 ^ ps.length ≤ 4294967296 ^ 2 := Nat.pow_le_pow_right (by omega) h2
        omega
      have t1 : decide (ps.length ≤ 2) = true := decide_eq_true h2
      have W1 := Lib.hid (word_any A c ps w B hrt hn.1 h2)
      rw [hn.2.2] at W1
      go_enter Tryd.func5, Tryd.ntmps5
      go_wp2_with (first
        | (go_at_call 13; (with_reducible refine T0.out.mono ?_); rintro e w' ⟨rfl, rfl⟩)
        | simp only []
        | (go_at_call 16; (with_reducible refine W1.out.mono ?_); rintro e w1 ⟨rfl, hdr⟩)
        | (go_at_call 15; (with_reducible refine (wordRoot_any m hm64 _).mono ?_); rintro e w2 ⟨⟨s, rfl, hs, hsb⟩, rfl⟩)
        | (go_at_call 14; (with_reducible refine (of_any s (by omega) _).mono ?_); rintro e w3 ⟨zs, A1, c1, rfl, hz, hres, hb⟩))
      go_ret
      have hb0 := hdr.below w.heap.size
      exact ⟨zs, A1, c1, s, rfl, hz, hs, hres.mono hb0.size, hb0.trans (hb.mono hb0.size)⟩
    · have t1 : decide (ps.length ≤ 2) = false := decide_eq_false h2
      have hm64 : 18446744073709551616 ≤ m := by
        have h1 := hn.ge (by intro e; rw [e] at h2; simp at h2)
        have h3 : 4294967296 ^ 2 ≤ 4294967296 ^ (ps.length - 1) := Nat.pow_le_pow_right (by omega) (by omega)
        omega
      obtain ⟨d1, d2, d3⟩ := sqrt_drop hm64
      obtain ⟨D, hD⟩ : ∃ D, D = Nat.log2 m / 4 := ⟨_, rfl⟩
      rw [← hD] at d1 d2 d3
      obtain ⟨NN, hNN⟩ : ∃ NN, NN = ps.length := ⟨_, rfl⟩
      have hmN : m < 4294967296 ^ NN := by rw [hNN]; exact hn.lt
      have hNb : NN ≤ 134217728 := by omega
      have hDl : D ≤ 8 * NN := by
        have h3 : Nat.log2 m < 32 * NN := (Nat.log2_lt (by omega)).2 (by
          rw [Nat.pow_mul]; exact hmN)
        omega
      have hP : Hd w A c ps m NN := ⟨hn, hrt.mono hB, by omega, by omega⟩
      have L1 := Lib.hid (len_any A c ps w B hrt hn.1 (by omega) (by omega))
      have hbits : bitsOf m = Nat.log2 m + 1 := by unfold bitsOf; rw [if_neg (by omega)]
      rw [hn.2.2, hbits] at L1
      have e1 : (((Nat.log2 m + 1 : Nat) : Int) - 1) / 4 = (D : Int) := by omega
      have e1b : ((Nat.log2 m : Int) + 1 - 1) / 4 = (D : Int) := by omega
      have e1c : (Nat.log2 m : Int) / 4 = (D : Int) := by omega
      have hlog : Nat.log2 m < 4294967296 := by
        have h3 : Nat.log2 m < 32 * NN := (Nat.log2_lt (by omega)).2 (by
          rw [Nat.pow_mul]; exact hmN)
        omega
      have R1 := Lib.hid (right_any A c ps (2 * (D : Int)) w B hrt hB hn.1 (by omega) (by omega) (by omega))
      rw [hn.2.2] at R1
      have hD2 : ¬ (2 * (D : Int) < 0) := by omega
      have HD := Lib.hid hD
      obtain ⟨lg, hlg⟩ : ∃ lg, lg = Nat.log2 m := ⟨_, rfl⟩
      rw [← hlg] at L1 e1 e1b e1c hlog
      clear hD hlg hbits hNN
      go_enter Tryd.func5, Tryd.ntmps5
      go_upto_region 6 with (first
        | (go_at_call 13; (with_reducible refine T0.out.mono ?_); rintro e w' ⟨rfl, rfl⟩)
        | simp only []
        | simp only [e1]
        | simp only [e1b]
        | simp only [e1c]
        | (go_at_call 17; (with_reducible refine L1.out.mono ?_); rintro e w' ⟨rfl, rfl⟩)
        | (go_at_call 18; (with_reducible refine R1.out.mono ?_); rintro e w1 ⟨hs, A1, c1, rfl, hhn, hres1, hb1⟩))
      rw [if_neg hD2, show (2 * (D : Int)).toNat = 2 * D from by omega] at hhn
      obtain ⟨H, hH⟩ : ∃ H, H = m / 2 ^ (2 * D) := ⟨_, rfl⟩
      rw [← hH] at hhn d2 d3
      have hH1 : Hd w1 A1 c1 hs H NN := Hd.of hhn hres1 (by omega) hmN
      have S1 := Lib.hid (ih H d3 A1 c1 hs w1 w1.heap.size hH1.rd (Nat.le_refl _) hhn.1 hhn.2.2 hH1.cap (by have := hH1.len; omega))
      have HH := Lib.hid hH
      clear hH R1 L1 T0 hres1
      have hP1 := hP.next (by rw [show w.heap.size = w.heap.size from rfl]; exact hb1)
      go_wp2_with fail
      refine S1.out.mono ?_
      rintro e w2 ⟨zs, A2, c2, s, rfl, hz, hs2, hres2, hb2⟩
      have hs0 : 0 < s := by
        rcases Nat.eq_zero_or_pos s with h0 | h0
        · have := hs2.2
          rw [h0] at this
          omega
        · exact h0
      obtain ⟨x, hx⟩ : ∃ x, x = s * 2 ^ D := ⟨_, rfl⟩
      have hxx : x * x ≤ m := by rw [hx]; exact root_up (by rw [← HH.out]; exact hs2.1)
      have hxm := self_le_sq hxx
      have hx0 : 0 < x := by rw [hx]; exact Nat.mul_pos hs0 (Nat.two_pow_pos _)
      have hZ : Hd w2 A2 c2 zs s NN := Hd.of hz hres2 (by have := self_le_sq hs2.1; omega) hmN
      have U1 := Lib.hid (shiftUp_any A2 c2 zs D (D / 32) (D % 32) w2 w2.heap.size hZ.rd (Nat.le_refl _) hz.1 (by omega) (by omega) (by have := hZ.len; omega))
      rw [hz.2.2, ← hx] at U1
      have hP2 := hP1.next hb2
      clear hx S1
      go_wp2_with fail
      refine U1.out.mono ?_
      rintro e w3 ⟨z3, A3, c3, rfl, hz3, hres3, hb3⟩
      have hX : Hd w3 A3 c3 z3 x NN := Hd.of hz3 hres3 hxm hmN
      have hP3 := hP2.next hb3
      have V1 := Lib.hid (div_any quotient_all A A3 c c3 ps z3 w3 w3.heap.size hP3.rd hX.rd (Nat.le_refl _) hn.1 hz3.1 hP3.cap hX.cap (by omega) (by have := hX.len; omega) (by show _ ≤ _; have := hX.len; have := trimL_length_le z3; omega))
      rw [hn.2.2, hz3.2.2] at V1
      clear U1 hP2
      go_wp2_with fail
      refine V1.out.mono ?_
      rintro e w4 ⟨qs, rs, A4, c4, A5, c5, rfl, hqn, hrn, hresq, hresr, hb4⟩
      have hQ : Hd w4 A4 c4 qs (m / x) NN := Hd.of hqn hresq (Nat.div_le_self _ _) hmN
      have hX4 := hX.next hb4
      have hP4 := hP3.next hb4
      have A1' := Lib.hid (add_any A3 A4 c3 c4 z3 qs w4 w4.heap.size hX4.rd hQ.rd (Nat.le_refl _) hX4.num.1 hQ.num.1 hX4.cap hQ.cap (by have := hX4.len; omega) (by have := hQ.len; omega))
      rw [hX4.num.2.2, hQ.num.2.2] at A1'
      clear V1 hP3 hX hqn hrn hresq hresr
      go_wp2_with fail
      refine A1'.out.mono ?_
      rintro e w5 ⟨z5, A6, c6, rfl, hz5, hres5, hb5⟩
      have hsum : x + m / x ≤ 4294967296 ^ (NN + 1) - 1 := by
        have := Nat.div_le_self m x
        rw [Nat.pow_succ]
        omega
      have hY : Hd w5 A6 c6 z5 (x + m / x) (NN + 1) := Hd.of hz5 hres5 hsum (by have := Nat.pow_pos (n := NN + 1) (show 0 < 4294967296 by omega); omega)
      have hP5 := hP4.next hb5
      have R2 := Lib.hid (right_any A6 c6 z5 1 w5 w5.heap.size hY.rd (Nat.le_refl _) hz5.1 hY.cap (by have := hY.len; omega) (by omega))
      rw [hz5.2.2] at R2
      clear A1' hP4 hX4 hQ
      go_wp2_with fail
      refine R2.out.mono ?_
      rintro e w6 ⟨z6, A7, c7, rfl, hz6, hres6, hb6⟩
      rw [if_neg (by omega), show (1 : Int).toNat = 1 from rfl, Nat.pow_one] at hz6
      have hP6 := hP5.next hb6
      have hN0 := Lib.hid (newton_ge (a := m) hx0)
      obtain ⟨r, hr9⟩ : ∃ r, r = (x + m / x) / 2 := ⟨_, rfl⟩
      rw [← hr9] at hz6 hN0
      have hR : Hd w6 A7 c7 z6 r (NN + 1) := Hd.of hz6 hres6 (m := 4294967296 ^ (NN + 1) - 1) (by omega) (by have := Nat.pow_pos (n := NN + 1) (show 0 < 4294967296 by omega); omega)
      have hbt : Below w.heap.size w w6 := ((((hb1.trans (hb2.mono hb1.size)).trans (hb3.mono (Nat.le_trans hb1.size hb2.size))).trans (hb4.mono (Nat.le_trans hb1.size (Nat.le_trans hb2.size hb3.size)))).trans (hb5.mono (Nat.le_trans hb1.size (Nat.le_trans hb2.size (Nat.le_trans hb3.size hb4.size))))).trans (hb6.mono (Nat.le_trans hb1.size (Nat.le_trans hb2.size (Nat.le_trans hb3.size (Nat.le_trans hb4.size hb5.size)))))
      have hres7 : Res w6 w.heap.size 36 A7 c7 (u32s z6) := hres6.mono (Nat.le_trans hb1.size (Nat.le_trans hb2.size (Nat.le_trans hb3.size (Nat.le_trans hb4.size hb5.size))))
      clear R2 hP5 hY hr9 hres6 hP1 hH1 hZ hb1 hb2 hb3 hb4 hb5 hb6 hsum hxx hxm
      go_wp2_with fail
      go_loopg [6] r (fun K rv wr => ∃ (zr : List Nat) (A7 : Option Addr) (c7 r : Nat), rv = .slice A7 zr.length c7 ∧ Hd wr A7 c7 zr r (NN + 1) ∧ Hd wr A c ps m NN ∧ Hid (m < (r + 1) * (r + 1)) ∧ r ≤ K ∧ Res wr w.heap.size 36 A7 c7 (u32s zr) ∧ Below w.heap.size w wr)
      case atStart => exact ⟨z6, A7, c7, r, rfl, hR, hP6, hN0, Nat.le_refl _, hres7, hbt⟩
      case round =>
        clear hR hP6 hN0 hres7 hbt
        obtain ⟨zr, A7, c7, r, rfl, hR, hP, HN, hK, hres, hbel⟩ := hrel
        have hlr := hR.len
        have htr := trimL_length_le zr
        have M1 := Lib.hid (mul_any A7 A7 c7 c7 zr zr wr wr.heap.size hR.rd hR.rd (Nat.le_refl _) hR.num.1 hR.num.1 hR.cap hR.cap (by omega) (by omega) (by omega))
        rw [hR.num.2.2] at M1
        have hsq : Hid (r * r < 4294967296 ^ (2 * (NN + 1))) := by
          show _ < _
          have h1 : r < 4294967296 ^ (NN + 1) := Nat.lt_of_lt_of_le hR.num.lt (Nat.pow_le_pow_right (by omega) hlr)
          rw [show 2 * (NN + 1) = NN + 1 + (NN + 1) from by omega, Nat.pow_add]
          exact Nat.mul_lt_mul'' h1 h1
        obtain ⟨q, hq⟩ : ∃ q, q = r * r := ⟨_, rfl⟩
        rw [← hq] at M1 hsq
        have Hq := Lib.hid hq
        clear hq
        have C1 : Hid (∀ (zs : List Nat) (A9 : Option Addr) (c9 : Nat) (W : World), Below wr.heap.size wr W → Num 4294967296 zs q → Res W wr.heap.size 36 A9 c9 (u32s zs) → Calls Tryd.prog 22 #[.slice A9 zs.length c9, .slice A ps.length c] W fun e w' => e = .returned (.int .i64 (cmpN q m)) ∧ Dr W w') := fun zs A9 c9 W hW hz hr9 => by
          have hP2 := hP.next hW
          have hZ : Hd W A9 c9 zs q (2 * (NN + 1)) := Hd.of hz hr9 (Nat.le_refl _) hsq.out
          have := cmp_any A9 A c9 c zs ps W W.heap.size hZ.rd hP2.rd hz.1 hn.1 hZ.cap hP2.cap (by have := hZ.len; omega) (by omega)
          rwa [hz.2.2, hn.2.2] at this
        by_cases hgt : m < q
        · have t2 : decide (0 < cmpN q m) = true := by
            unfold cmpN
            rw [if_neg (by omega)]
            split
            · rfl
            · omega
          have O1 : Hid (∀ W : World, Calls Tryd.prog 14 #[.int .u64 1] W fun e w' => ∃ zs A' c', e = .returned (.slice A' zs.length c') ∧ Num 4294967296 zs 1 ∧ Res w' W.heap.size 36 A' c' (u32s zs) ∧ Below W.heap.size W w') := fun W => of_any 1 (by omega) W
          obtain ⟨f1, f2⟩ := root_down HN.out (by rw [← Hq.out]; exact hgt)
          have F2 := Lib.hid f2
          clear f2
          go_wp2_with (first
            | (go_at_call 23; (with_reducible refine M1.out.mono ?_); rintro e w7 ⟨zs, A9, c9, rfl, hz, hres9, hb7⟩)
            | (go_at_call 22; (with_reducible refine (C1.out _ _ _ _ hb7 hz hres9).mono ?_); rintro e w8 ⟨rfl, hdr⟩; have hb8 : Below wr.heap.size wr w8 := hb7.trans ((hdr.below w7.heap.size).mono hb7.size); have hR8 := hR.next hb8)
            | simp only []
            | (go_at_call 14; (with_reducible refine (O1.out _).mono ?_); rintro e w9 ⟨os, A10, c10, rfl, ho, hreso, hb9⟩; have hR9 := hR8.next hb9; have hO : Hd w9 A10 c10 os 1 1 := Hd.of ho hreso (Nat.le_refl _) (by decide); have S2 := Lib.hid (sub_any A7 A10 c7 c10 zr os w9 w9.heap.size hR9.rd hO.rd (Nat.le_refl _) hR9.num.1 ho.1 hR9.cap hO.cap (by omega) (by have := hO.len; omega)); rw [hR9.num.2.2, ho.2.2] at S2)
            | (go_at_call 24; (with_reducible refine S2.out.mono ?_); rintro e w10 ⟨zd, A11, c11, rfl, hzd, hresd, hb10⟩))
          have hb9t := hb8.trans (hb9.mono hb8.size)
          have hbz := hb9t.trans (hb10.mono hb9t.size)
          have hlt9 : r < 4294967296 ^ (NN + 1) := Nat.lt_of_lt_of_le hR.num.lt (Nat.pow_le_pow_right (by omega) hlr)
          go_roundg (r - 1)
          case measure => omega
          case rel => exact ⟨zd, A11, c11, r - 1, rfl, Hd.of hzd hresd (by omega) hlt9, hP.next hbz, F2.out, Nat.le_refl _, hresd.mono (Nat.le_trans hbel.size hb9t.size), hbel.trans (hbz.mono hbel.size)⟩
        · have t2 : decide (0 < cmpN q m) = false := by
            unfold cmpN
            split
            · rfl
            · first
              | (split <;> first | rfl | (exfalso; omega))
              | rfl
          go_wp2_with (first
            | (go_at_call 23; (with_reducible refine M1.out.mono ?_); rintro e w7 ⟨zs, A9, c9, rfl, hz, hres9, hb7⟩)
            | (go_at_call 22; (with_reducible refine (C1.out _ _ _ _ hb7 hz hres9).mono ?_); rintro e w8 ⟨rfl, hdr⟩)
            | simp only [])
          go_ret
          have hb8 : Below wr.heap.size wr w8 := hb7.trans ((hdr.below w7.heap.size).mono hb7.size)
          exact ⟨zr, A7, c7, r, rfl, hR.num, ⟨by rw [← Hq.out]; omega, HN.out⟩, hres.below hb8 (Nat.le_refl _), hbel.trans (hb8.mono hbel.size)⟩
end
section
open Go.RowKit

/-- What Lend lays round the limbs. -/
def lentL (xs : List Nat) : List Nat := 2779096485 :: (xs ++ [2779096485])
theorem lentL_length (xs : List Nat) : (lentL xs).length = xs.length + 2 := by simp [lentL]

set_option maxHeartbeats 800000 in
theorem lend_any (A : Option Addr) (c : Nat) (xs : List Nat) (w : World) (B : Nat) (hr : Rd w B A (u32s xs)) (hB : B ≤ w.heap.size) (hm : xs.length ≤ 70368744177000) :
    Calls Tryd.prog 4 #[.slice A xs.length c] w fun e w' => e = .returned (.tuple #[.slice (some ⟨w.heap.size, 0, none⟩) (xs.length + 2) (xs.length + 2), .slice (some ⟨w.heap.size, 1, none⟩) xs.length (xs.length + 1)]) ∧ Blk w' w.heap.size 36 (u32s (lentL xs)) ∧ Below w.heap.size w w' := by
  have hmk : ∀ W : World, (Instr.makeSlice 23 (.int .i64 ((xs.length : Int) + 2)) (.int .i64 ((xs.length : Int) + 2))).run Tryd.prog W = .ok (.slice (some ⟨W.heap.size, 0, none⟩) (xs.length + 2) (xs.length + 2)) (W.alloc (.cells (List.replicate (xs.length + 2) (Value.int .u32 0)).toArray 36)) := fun W => by
    have := mk32 (xs.length + 2) (by omega) W
    rwa [show ((xs.length + 2 : Nat) : Int) = (xs.length : Int) + 2 from by omega] at this
  go_enter Tryd.func4, Tryd.ntmps4
  go_wp2
  go_loopw [5, 14] (fun _ i wr => ∃ (k : Nat) (zs : List Nat), k ≤ xs.length + 2 ∧ i = .int .i64 k ∧ zs.length = xs.length + 2 ∧ Blk wr w.heap.size 36 (u32s zs) ∧ zs.take k = List.replicate k 2779096485 ∧ Below w.heap.size w wr) (fun _ i _ => xs.length + 2 - (intOf i).toNat)
  case atStart => exact ⟨0, List.replicate (xs.length + 2) 0, by omega, rfl, by simp, Blk.new_ (by simp [u32s]), by simp, (Below.refl _ _).alloc (Nat.le_refl _) _⟩
  case round =>
    obtain ⟨k, zs, hk, rfl, hzl, hblk, htk, hbel⟩ := hrel
    by_cases hlt : k < xs.length + 2
    · have hkz : k < zs.length := by omega
      have Hzl := Lib.hid hzl
      have Htk := Lib.hid htk
      clear hzl htk
      have hc2 := (hblk.cell k).trans (u32s_at hkz)
      have hf2 := hblk.frozen k
      go_wp2
      go_roundw
      case rel =>
        refine ⟨k + 1, zs.set k 2779096485, by omega, by go_num, by simpa using Hzl.out, ?_, ?_, hbel.setCell (p := ⟨w.heap.size, k, none⟩) (Nat.le_refl _) _⟩
        · have hb2 := hblk.set_ k (Value.int IntKind.u32 ((2779096485 : Nat) : Int))
          rw [u32s_set] at hb2
          exact hb2
        · rw [List.take_succ_eq_append_getElem (by simpa using hkz), List.take_set_of_le (Nat.le_refl _), Htk.out, List.replicate_succ']
          simp
      case measure => simp [intOf]; omega
    · obtain rfl : k = xs.length + 2 := by omega
      have hz : zs = List.replicate (xs.length + 2) 2779096485 := by rw [← htk, ← hzl, List.take_length]
      clear htk hzl
      subst hz
      go_wp2
      go_loopw [6, 7, 23] (fun _ _ i wq => ∃ (k : Nat) (zs : List Nat), k ≤ xs.length ∧ i = .int .i64 k ∧ Blk wq w.heap.size 36 (u32s zs) ∧ zs = 2779096485 :: (xs.take k ++ List.replicate (xs.length - k + 1) 2779096485) ∧ Below w.heap.size w wq) (fun _ _ i _ => xs.length - (intOf i).toNat)
      case atStart => exact ⟨0, _, by omega, rfl, hblk, by simp [List.replicate_succ], hbel⟩
      case round =>
        clear hblk hbel
        obtain ⟨k, zs, hk2, rfl, hblk, hze, hbel⟩ := hrel
        by_cases hlt : k < xs.length
        · obtain ⟨b, off, rfl, hb, hcell⟩ := hr (by intro e; have := u32s_length xs; rw [e] at this; simp at this; omega)
          have hx := (hbel.cell (p := ⟨b, off + k, none⟩) (show b < _ by omega)).trans (hcell k _ (u32s_at hlt))
          have hkz : k + 1 < zs.length := by rw [hze]; simp; omega
          have hze2 : zs.set (k + 1) xs[k] = 2779096485 :: (xs.take (k + 1) ++ List.replicate (xs.length - (k + 1) + 1) 2779096485) := by
            rw [hze, List.set_cons_succ, List.take_succ_eq_append_getElem hlt, List.append_assoc]
            congr 1
            rw [List.set_append_right _ _ (by rw [List.length_take]; omega), List.length_take, Nat.min_eq_left (by omega), Nat.sub_self, show xs.length - k + 1 = xs.length - (k + 1) + 1 + 1 from by omega, List.replicate_succ]
            simp
          have Hze2 := Lib.hid hze2
          clear hcell hze hze2
          have hc2 := (hblk.cell (k + 1)).trans (u32s_at hkz)
          have hf2 := hblk.frozen (k + 1)
          go_wp2
          go_roundw
          case rel =>
            refine ⟨k + 1, zs.set (k + 1) xs[k], by omega, by go_num, ?_, Hze2.out, hbel.setCell (p := ⟨w.heap.size, k + 1, none⟩) (Nat.le_refl _) _⟩
            have hb2 := hblk.set_ (k + 1) (Value.int IntKind.u32 (xs[k] : Int))
            rw [u32s_set] at hb2
            exact hb2
          case measure => simp [intOf]; omega
        · obtain rfl : k = xs.length := by omega
          have hze2 : zs = lentL xs := by rw [hze]; simp [lentL]
          clear hze
          subst hze2
          go_wp2
          go_quiet (fail)
          go_wp2
          go_ret2
          exact ⟨rfl, hblk.drewN _, hbel.trans ((Dr.refl _).step _ |>.below _)⟩

set_option maxHeartbeats 400000 in
theorem kept_yes (A A2 : Option Addr) (c c2 : Nat) (xs : List Nat) (w : World) (B : Nat) (hr : Rd w B A (u32s (lentL xs))) (hr2 : Rd w B A2 (u32s xs)) (hm : xs.length ≤ 70368744177000) :
    Calls Tryd.prog 11 #[.slice A (xs.length + 2) c, .slice A2 xs.length c2] w fun e w' => e = .returned (.bool true) ∧ w = w' := by
  obtain ⟨b, off, rfl, hb, hcell⟩ := hr (by simp [lentL, u32s])
  have c0 := hcell 0 _ (u32s_at (by rw [lentL_length]; omega))
  have c1 := hcell (xs.length + 1) _ (u32s_at (by rw [lentL_length]; omega))
  rw [show (lentL xs)[0]'(by rw [lentL_length]; omega) = 2779096485 from rfl] at c0
  rw [show (lentL xs)[xs.length + 1]'(by rw [lentL_length]; omega) = 2779096485 from by simp [lentL]] at c1
  simp only [Nat.add_zero] at c0
  have t0 : (((xs.length : Int) + 2) != ((xs.length : Int) + 2)) = false := by simp
  have hcx : ∀ k (h : k < xs.length), w.cell? ⟨b, off + (k + 1), none⟩ = some (.int .u32 (xs[k] : Nat)) := fun k h => by
    have := hcell (k + 1) _ (u32s_at (by rw [lentL_length]; omega))
    rw [show (lentL xs)[k + 1]'(by rw [lentL_length]; omega) = xs[k] from by simp [lentL, List.getElem_append_left h]] at this
    exact this
  clear hcell hr
  have Hcx := Lib.hid hcx
  clear hcx
  go_enter Tryd.func11, Tryd.ntmps11
  go_wp2
  go_loop [5, 6, 30] (fun _ _ i => ∃ k : Nat, k ≤ xs.length ∧ i = .int .i64 k) (fun _ _ i => xs.length - (intOf i).toNat)
  case atStart => exact ⟨0, by omega, rfl⟩
  case round =>
    obtain ⟨k, hk, rfl⟩ := hrel
    by_cases hlt : k < xs.length
    · obtain ⟨b2, off2, rfl, hb2, hcell2⟩ := hr2 (by intro e; have := u32s_length xs; rw [e] at this; simp at this; omega)
      have hx := hcell2 k _ (u32s_at hlt)
      have hy := Hcx.out k hlt
      have t2 : ((xs[k] : Int) != (xs[k] : Int)) = false := by simp
      clear hcell2 hr2
      go_wp2
      go_round
      case rel => exact ⟨k + 1, by omega, by go_num⟩
      case measure => simp [intOf]; omega
    · go_wp2
      go_ret
      exact ⟨rfl, rfl⟩
end
section
open Go.RowKit

/-- A slice that Lend handed out reads as the limbs. -/
theorem lent_rd {w : World} {g B : Nat} {t : TypeId} {xs : List Nat} (h : Blk w g t (u32s (lentL xs))) (hg : g < B) : Rd w B (some ⟨g, 1, none⟩) (u32s xs) :=
  Rd.of_blk h hg 1 (fun k v hv => by
    rw [Nat.add_comm]
    have hk : k < xs.length := by
      have := (List.getElem?_eq_some_iff.1 hv).1
      rwa [u32s_length] at this
    rw [u32s_at hk] at hv
    rw [u32s_at (by rw [lentL_length]; omega), ← hv]
    simp [lentL, List.getElem_append_left hk])
theorem lent_rd0 {w : World} {g B : Nat} {t : TypeId} {xs : List Nat} (h : Blk w g t (u32s (lentL xs))) (hg : g < B) : Rd w B (some ⟨g, 0, none⟩) (u32s (lentL xs)) :=
  Rd.of_blk h hg 0 (fun k v hv => by rw [Nat.zero_add]; exact hv)
end
section
open Go.RowKit

set_option maxHeartbeats 800000 in
theorem lives_any (w : World) : Calls Tryd.prog 9 #[] w fun e w' => e = .returned (.bool true) ∧ Below w.heap.size w w' := by
  go_enter Tryd.func9, Tryd.ntmps9
  go_wp2_with fail
  have hb1 : Blk ((w.alloc (.cells #[.int .u32 0, .int .u32 0, .int .u32 1] 36)).alloc (.cells #[.int .u32 10] 36)) w.heap.size 36 (u32s [0, 0, 1]) := (Blk.new_ (by rfl)).heapAlloc _
  have hb2 : Blk ((w.alloc (.cells #[.int .u32 0, .int .u32 0, .int .u32 1] 36)).alloc (.cells #[.int .u32 10] 36)) (w.heap.size + 1) 36 (u32s [10]) := by
    have := Blk.new_ (w := w.alloc (.cells #[.int .u32 0, .int .u32 0, .int .u32 1] 36)) (t := 36) (cs := #[.int .u32 10]) (vs := u32s [10]) (by rfl)
    simpa using this
  have hz : ((w.alloc (.cells #[.int .u32 0, .int .u32 0, .int .u32 1] 36)).alloc (.cells #[.int .u32 10] 36)).heap.size = w.heap.size + 2 := by simp
  have hbel : Below w.heap.size w ((w.alloc (.cells #[.int .u32 0, .int .u32 0, .int .u32 1] 36)).alloc (.cells #[.int .u32 10] 36)) := ((Below.refl _ _).alloc (Nat.le_refl _) _).alloc (by simp) _
  refine (div_any (P := (· = 1)) quotient_one (some ⟨w.heap.size, 0, none⟩) (some ⟨w.heap.size + 1, 0, none⟩) 3 1 [0, 0, 1] [10] _ (w.heap.size + 2) ?_ ?_ ?_ ?_ ?_ ?_ ?_ ?_ ?_ ?_).mono ?_
  · exact Rd.of_blk hb1 (by omega) 0 (fun k v hv => by rw [Nat.zero_add]; exact hv)
  · exact Rd.of_blk hb2 (by omega) 0 (fun k v hv => by rw [Nat.zero_add]; exact hv)
  · rw [hz]; omega
  · exact dig_lit (by decide)
  · exact dig_lit (by decide)
  · simp
  · simp
  · simp
  · simp
  · rfl
  rintro e w1 ⟨qs, rs, A1, c1, A3, c3, rfl, hq, hr, hres1, hres2, hbel1⟩
  have eq : qs = [2576980377, 429496729] := Num.unique (b := 4294967296) (by omega) hq (num_lit _ (dig_lit (by decide)) (by decide) (by simp [val]))
  have er : rs = [6] := Num.unique (b := 4294967296) (by omega) hr (num_lit _ (dig_lit (by decide)) (by decide) (by simp [val]))
  subst eq er
  rw [hz] at hres1 hres2 hbel1
  have hbel2 : Below w.heap.size w w1 := hbel.trans (hbel1.mono (by omega))
  clear hb1 hb2 hq hr hbel hbel1 hz
  rw [show val 4294967296 [10] = 10 from rfl, if_neg (by omega : ¬ (10 : Nat) = 0)]
  go_wp2_with fail
  have hA := hres1.rd
  have hB := hres2.rd
  refine (same_yes A1 (some ⟨w1.heap.size, 0, none⟩) c1 2 [2576980377, 429496729] _ (w1.heap.size + 1) ((hA.below ((Below.refl _ _).alloc (Nat.le_refl _) _)).mono (by omega)) (rd_new rfl) (by simp)).mono ?_
  rintro e w2 ⟨rfl, hdr2⟩
  have hb2 : Below w1.heap.size w1 w2 := ((Below.refl _ _).alloc (Nat.le_refl _) _).trans (hdr2.below _)
  clear hdr2
  go_wp2_with fail
  refine (same_yes A3 (some ⟨w2.heap.size, 0, none⟩) c3 1 [6] _ (w2.heap.size + 1) (((hB.below hb2).below ((Below.refl _ _).alloc hb2.size _)).mono (by have := hb2.size; omega)) (rd_new rfl) (by simp)).mono ?_
  rintro e w3 ⟨rfl, hdr3⟩
  have hb3 : Below w2.heap.size w2 w3 := ((Below.refl _ _).alloc (Nat.le_refl _) _).trans (hdr3.below _)
  clear hdr3
  go_wp2_with fail
  refine (len_any (some ⟨w3.heap.size, 0, none⟩) 2 [0, 1] _ (w3.heap.size + 1) (rd_new rfl) (dig_lit (by decide)) (by simp) (by simp)).mono ?_
  rintro e w4 ⟨rfl, rfl⟩
  rw [show bitsOf (val 4294967296 [0, 1]) = 33 from by decide]
  go_wp2
  go_ret
  have s1 := hbel2.size
  have s2 := hb2.size
  have s3 := hb3.size
  exact ⟨rfl, ((hbel2.trans (hb2.mono s1)).trans (hb3.mono (by omega))).alloc (by omega) _⟩
end
end Go.Proofs.YtanlejlmckdeiaaDoor
