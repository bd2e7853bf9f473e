/- The contract of the reference's Cmp. -/
import Derived.Test.YtogkfpbapjjgfaaLend
namespace Go.Proofs.Ytogkfpbapjjgfaa
open Go.RowKit

theorem val_pad (b : Nat) (xs : List Nat) (n : Nat) : val b (xs ++ List.replicate n 0) = val b xs := by rw [val_append, val_zeros]; simp
theorem val_lt_getD {xs ys : List Nat} (hx : Dig 4294967296 xs) (k : Nat) (hs : ∀ j, k < j → at0 xs j = at0 ys j) (hlt : at0 xs k < at0 ys k) : val 4294967296 xs < val 4294967296 ys := by
  obtain ⟨n, hn⟩ : ∃ n, n = max (max xs.length ys.length) (k + 1) := ⟨_, rfl⟩
  rw [← val_pad 4294967296 xs (n - xs.length), ← val_pad 4294967296 ys (n - ys.length)]
  have h1 : ∀ (zs : List Nat), zs.length ≤ n → ∀ i (h : i < (zs ++ List.replicate (n - zs.length) 0).length), (zs ++ List.replicate (n - zs.length) 0)[i] = at0 zs i := fun zs hz i h => by
    by_cases hi : i < zs.length
    · rw [List.getElem_append_left hi, at0_in hi]
    · rw [List.getElem_append_right (by omega), at0_out (by omega)]
      simp
  refine val_cmp_top 4294967296 _ _ (hx.append_ (Dig.zeros_ (by omega) _)) (by simp; omega) k (by simp; omega) (fun i h hki => ?_) ?_
  · rw [h1 xs (by omega), h1 ys (by omega), hs i hki]
  · rw [h1 xs (by omega), h1 ys (by omega)]; exact hlt
theorem val_eq_getD {xs ys : List Nat} (hs : ∀ j, at0 xs j = at0 ys j) : val 4294967296 xs = val 4294967296 ys := by
  rw [← val_pad 4294967296 xs (ys.length - xs.length), ← val_pad 4294967296 ys (xs.length - ys.length)]
  congr 1
  apply List.ext_getElem (by simp; omega)
  intro i h1 h2
  have e := hs i
  by_cases hi : i < xs.length
  · rw [List.getElem_append_left hi]
    rw [at0_in hi] at e
    by_cases hj : i < ys.length
    · rw [List.getElem_append_left hj, e, at0_in hj]
    · rw [List.getElem_append_right (by omega), e, at0_out (by omega)]; simp
  · rw [List.getElem_append_right (by omega)]
    rw [at0_out (by omega)] at e
    by_cases hj : i < ys.length
    · rw [List.getElem_append_left hj, ← at0_in hj, ← e]; simp
    · rw [List.getElem_append_right (by omega)]; simp

set_option maxHeartbeats 800000 in
theorem rcmp_any (A A2 : Option Addr) (c c2 : Nat) (xs ys : List Nat) (w : World) (B : Nat) (hr : Rd w B A (u32s xs)) (hr2 : Rd w B A2 (u32s ys)) (hd : Dig 4294967296 xs) (hd2 : Dig 4294967296 ys) (hm : xs.length ≤ 281474976710656) (hm2 : ys.length ≤ 281474976710656) :
    Calls Try.prog 11 #[.slice A xs.length c, .slice A2 ys.length c2] w fun e w' => e = .returned (.int .i64 (cmpN (val 4294967296 xs) (val 4294967296 ys))) ∧ w = w' := by
  obtain ⟨bb, tl⟩ : ∃ bb, decide (xs.length < ys.length) = bb := ⟨_, rfl⟩
  cases bb
  all_goals
    have hl := tl
    simp at hl
    go_enter Try.func11, Try.ntmps11
    go_wp2
    go_loop [6] (fun i => ∃ k : Nat, k ≤ 281474976710656 ∧ i = .int .i64 ((k : Int) - 1) ∧ ∀ j, k ≤ j → at0 xs j = at0 ys j) (fun i => (intOf i + 1).toNat)
    case atStart =>
      first
        | exact ⟨ys.length, hm2, rfl, fun j hj => by rw [at0_out (by omega), at0_out (by omega)]⟩
        | exact ⟨xs.length, hm, rfl, fun j hj => by rw [at0_out (by omega), at0_out (by omega)]⟩
    case round =>
      obtain ⟨k, hk, rfl, hs⟩ := hrel
      rcases k with _ | k
      · have e1 : cmpN (val 4294967296 xs) (val 4294967296 ys) = 0 := by
          rw [val_eq_getD (fun j => hs j (by omega))]; simp [cmpN]
        have He1 := Lib.hid e1
        clear e1 hs
        go_wp2
        go_ret
        exact ⟨by rw [He1.out]; rfl, rfl⟩
      · rw [show ((k + 1 : Nat) : Int) - 1 = (k : Int) from by omega]
        have hkb : k ≤ 9223372036854775807 := by omega
        rcases Nat.lt_trichotomy (at0 xs k) (at0 ys k) with h1 | h1 | h1
        · have e1 : cmpN (val 4294967296 xs) (val 4294967296 ys) = -1 := by
            have := val_lt_getD hd k (fun j hj => hs j (by omega)) h1
            simp [cmpN, this]
          have He1 := Lib.hid e1
          obtain ⟨x, hx⟩ : ∃ x, x = at0 xs k := ⟨_, rfl⟩
          obtain ⟨y, hy⟩ : ∃ y, y = at0 ys k := ⟨_, rfl⟩
          have t1 : decide (at0 xs k < at0 ys k) = true := by simpa using h1
          clear e1 hs hx hy
          go_wp2_with (first
          | (go_at_call 36; (with_reducible refine (limb_any A c xs k _ B hr hd hm hkb).mono ?_); rintro e w' ⟨rfl, rfl⟩)
          | (go_at_call 36; (with_reducible refine (limb_any A2 c2 ys k _ B hr2 hd2 hm2 hkb).mono ?_); rintro e w' ⟨rfl, rfl⟩))
          go_ret
          exact ⟨by rw [He1.out]; rfl, rfl⟩
        · have t1 : decide (at0 xs k < at0 ys k) = false := by rw [h1]; simp
          have t2 : decide (at0 ys k < at0 xs k) = false := by rw [h1]; simp
          have Hs : Hid (∀ j, k ≤ j → at0 xs j = at0 ys j) := fun j hj => by
            by_cases e : k = j
            · subst e; exact h1
            · exact hs j (by omega)
          clear hs h1
          go_wp2_with (first
          | (go_at_call 36; (with_reducible refine (limb_any A c xs k _ B hr hd hm hkb).mono ?_); rintro e w' ⟨rfl, rfl⟩)
          | (go_at_call 36; (with_reducible refine (limb_any A2 c2 ys k _ B hr2 hd2 hm2 hkb).mono ?_); rintro e w' ⟨rfl, rfl⟩))
          go_round
          case rel => exact ⟨k, by omega, by go_num, Hs.out⟩
          case measure => simp [intOf]
        · have e1 : cmpN (val 4294967296 xs) (val 4294967296 ys) = 1 := by
            have := val_lt_getD hd2 k (fun j hj => (hs j (by omega)).symm) h1
            simp [cmpN, this]; omega
          have He1 := Lib.hid e1
          have t1 : decide (at0 xs k < at0 ys k) = false := by simp; omega
          have t2 : decide (at0 ys k < at0 xs k) = true := by simpa using h1
          clear e1 hs
          go_wp2_with (first
          | (go_at_call 36; (with_reducible refine (limb_any A c xs k _ B hr hd hm hkb).mono ?_); rintro e w' ⟨rfl, rfl⟩)
          | (go_at_call 36; (with_reducible refine (limb_any A2 c2 ys k _ B hr2 hd2 hm2 hkb).mono ?_); rintro e w' ⟨rfl, rfl⟩))
          go_ret
          exact ⟨by rw [He1.out]; rfl, rfl⟩
end Go.Proofs.Ytogkfpbapjjgfaa
