/- The contract of product, for all words: by induction on their number. Conditions: at most 2^29 words together. -/
import Derived.Test.YtogkfpbapjjgfaaByT2
namespace Go.Proofs.Ytogkfpbapjjgfaa
open Go.RowKit

set_option maxHeartbeats 1600000 in
theorem product_all (n : Nat) : ProdOk n := by
  induction n using Nat.strongRecOn with
  | _ n ih =>
  intro A A2 c c2 us vs w B hn hr hr2 hB hd hd2 hc hc2 hm
  have Hih : Hid (∀ m, m < n → ProdOk m) := ih
  clear ih
  go_enter Try.func34, Try.ntmps34
  go_upto_if 9 with (fail)
  go_cut [0, 1] (fun s0 s1 wc => ∃ (D D2 : Option Addr) (d d2 : Nat) (xs ys : List Nat), s0 = .slice D xs.length d ∧ s1 = .slice D2 ys.length d2 ∧ ys.length ≤ xs.length ∧ Hid (xs.length + ys.length = us.length + vs.length) ∧ xs.length + ys.length ≤ n ∧ xs.length + ys.length ≤ 536870912 ∧ Dig 18446744073709551616 xs ∧ Dig 18446744073709551616 ys ∧ Hid (val 18446744073709551616 xs * val 18446744073709551616 ys = val 18446744073709551616 us * val 18446744073709551616 vs) ∧ Rd w B D (u64s xs) ∧ Rd w B D2 (u64s ys) ∧ xs.length ≤ d ∧ ys.length ≤ d2 ∧ wc = w)
  case first =>
    by_cases hlt : us.length < vs.length
    · go_wp2
      go_meet
      exact ⟨A2, A, c2, c, vs, us, rfl, rfl, by omega, Lib.hid (Nat.add_comm _ _), by omega, by omega, hd2, hd, Lib.hid (Nat.mul_comm _ _), hr2, hr, hc2, hc, rfl⟩
    · go_wp2
      go_meet
      exact ⟨A, A2, c, c2, us, vs, rfl, rfl, by omega, Lib.hid rfl, by omega, by omega, hd, hd2, Lib.hid rfl, hr, hr2, hc, hc2, rfl⟩
  case rest =>
    clear hr hr2 hd hd2 hc hc2 hm hn
    obtain ⟨D, D2, d, d2, xs, ys, rfl, rfl, hle, Hlen, hn, hm, hd, hd2, Hv, hr, hr2, hc, hc2, rfl⟩ := hcut
    by_cases h40 : ys.length < 40
    · have t1 : decide ((ys.length : Int) < 40) = true := by simp; omega
      have hcon := longProduct_any D D2 d d2 xs ys wc B hr hr2 hB hd hd2 (by omega)
      rw [Hlen.out, Hv.out] at hcon
      have Hc := Lib.hid hcon
      clear hcon
      go_wp2_with (go_at_call 51; refine Hc.out.mono ?_; rintro e w1 ⟨zs, g, rfl, hzl, hzd, hzv, hg, hblk, hbel⟩; have Hzl := Lib.hid hzl; clear hzl)
      go_ret
      exact ⟨zs, g, rfl, Hzl.out, hzd, hzv, hg, hblk, hbel⟩
    have t1 : decide ((ys.length : Int) < 40) = false := by simp; omega
    by_cases h2 : 2 * ys.length < xs.length
    · have t2 : decide (2 * (ys.length : Int) < (xs.length : Int)) = true := by simp; omega
      have hcon := piecewise_any D D2 d d2 xs ys wc B (Hih.out _ (by omega)) hr hr2 hB hd hd2 hc hc2 (by omega) hle hm
      rw [Hlen.out, Hv.out] at hcon
      have Hc := Lib.hid hcon
      clear hcon
      go_wp2_with (go_at_call 52; refine Hc.out.mono ?_; rintro e w1 ⟨zs, g, rfl, hzl, hzd, hzv, hg, hblk, hbel⟩; have Hzl := Lib.hid hzl; clear hzl)
      go_ret
      exact ⟨zs, g, rfl, Hzl.out, hzd, hzv, hg, hblk, hbel⟩
    have t2 : decide (2 * (ys.length : Int) < (xs.length : Int)) = false := by simp; omega
    by_cases h3 : ys.length < 2800
    · have t3 : decide ((ys.length : Int) < 2800) = true := by simp; omega
      have hcon := byHalves_any D D2 d d2 xs ys wc B (Hih.out _ (by omega)) hr hr2 hB hd hd2 hc hc2 (by omega) hle (by omega) hm
      rw [Hlen.out, Hv.out] at hcon
      have Hc := Lib.hid hcon
      clear hcon
      go_wp2_with (go_at_call 53; refine Hc.out.mono ?_; rintro e w1 ⟨zs, g, rfl, hzl, hzd, hzv, hg, hblk, hbel⟩; have Hzl := Lib.hid hzl; clear hzl)
      go_ret
      exact ⟨zs, g, rfl, Hzl.out, hzd, hzv, hg, hblk, hbel⟩
    · have t3 : decide ((ys.length : Int) < 2800) = false := by simp; omega
      have hcon := byTransform_any D D2 d d2 xs ys wc B hr hr2 hB hd hd2 (by omega) hm
      rw [Hlen.out, Hv.out] at hcon
      have Hc := Lib.hid hcon
      clear hcon
      go_wp2_with (go_at_call 54; refine Hc.out.mono ?_; rintro e w1 ⟨zs, g, rfl, hzl, hzd, hzv, hg, hblk, hbel⟩; have Hzl := Lib.hid hzl; clear hzl)
      go_ret
      exact ⟨zs, g, rfl, Hzl.out, hzd, hzv, hg, hblk, hbel⟩

theorem product_any (A A2 : Option Addr) (c c2 : Nat) (us vs : List Nat) (w : World) (B : Nat) (hr : Rd w B A (u64s us)) (hr2 : Rd w B A2 (u64s vs)) (hB : B ≤ w.heap.size) (hd : Dig 18446744073709551616 us) (hd2 : Dig 18446744073709551616 vs) (hc : us.length ≤ c) (hc2 : vs.length ≤ c2) (hm : us.length + vs.length ≤ 536870912) :
    Calls Try.prog 34 #[.slice A us.length c, .slice A2 vs.length c2] w fun e w' => Words w w' (us.length + vs.length) (val 18446744073709551616 us * val 18446744073709551616 vs) e :=
  product_all _ A A2 c c2 us vs w B (Nat.le_refl _) hr hr2 hB hd hd2 hc hc2 hm
end Go.Proofs.Ytogkfpbapjjgfaa
