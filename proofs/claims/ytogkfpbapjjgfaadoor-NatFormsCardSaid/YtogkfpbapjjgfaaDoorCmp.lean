/- The contracts of order and Cmp. -/
import Derived.Test.YtogkfpbapjjgfaaDoorWordsA
import Derived.Test.YtogkfpbapjjgfaaDoorShelf
namespace Go.Proofs.YtogkfpbapjjgfaaDoor
open Go.RowKit

/-- -1, 0 or 1. -/
def cmpN (a b : Nat) : Int := if a < b then -1 else if b < a then 1 else 0

set_option maxHeartbeats 400000 in
theorem order_any (b : Bool) (w : World) : Calls Tryd.prog 65 #[.bool b] w fun e w' => e = .returned (.int .i64 (if b then -1 else 1)) ∧ w = w' := by
  cases b
  all_goals
    go_enter Tryd.func65, Tryd.ntmps65
    go_wp2
    go_ret
    exact ⟨rfl, rfl⟩

theorem val_cmp_top (b : Nat) (xs ys : List Nat) (hx : Dig b xs) (hl : xs.length = ys.length) (j : Nat) (hj : j < xs.length) (hsame : ∀ i (h : i < xs.length), j < i → xs[i] = ys[i]'(by omega)) (hlt : xs[j] < ys[j]'(by omega)) : val b xs < val b ys := by
  induction xs generalizing ys j with
  | nil => simp at hj
  | cons x xs ih =>
    cases ys with
    | nil => simp at hl
    | cons y ys =>
      cases j with
      | zero =>
        have e : xs = ys := by
          apply List.ext_getElem (by simpa using hl)
          intro i h1 h2
          have := hsame (i + 1) (by simpa using h1) (by omega)
          simpa using this
        subst e
        simp only [val]
        simp at hlt
        omega
      | succ j =>
        have h1 := ih ys hx.tail_ (by simpa using hl) j (by simpa using hj) (fun i h hji => by
          have := hsame (i + 1) (by simpa using h) (by omega)
          simpa using this) (by simpa using hlt)
        have h2 := hx.head_
        simp only [val]
        have : b * (val b xs + 1) ≤ b * val b ys := Nat.mul_le_mul_left _ h1
        rw [Nat.mul_add] at this
        omega
theorem val_lt_len {b : Nat} {xs ys : List Nat} {m n : Nat} (hb : 0 < b) (hx : Num b xs m) (hy : Num b ys n) (h : xs.length < ys.length) : m < n := by
  have h1 := hx.lt
  have h2 := hy.ge (by rintro rfl; simp at h)
  have : b ^ xs.length ≤ b ^ (ys.length - 1) := Nat.pow_le_pow_right hb (by omega)
  omega

set_option maxHeartbeats 400000 in
theorem cmp_any (A A2 : Option Addr) (c c2 : Nat) (xs ys : List Nat) (w : World) (B : Nat) (hr : Rd w B A (u32s xs)) (hr2 : Rd w B A2 (u32s ys)) (hd : Dig 4294967296 xs) (hd2 : Dig 4294967296 ys) (hc : xs.length ≤ c) (hc2 : ys.length ≤ c2) (hm : xs.length ≤ 281474976710656) (hm2 : ys.length ≤ 281474976710656) :
    Calls Tryd.prog 36 #[.slice A xs.length c, .slice A2 ys.length c2] w fun e w' => e = .returned (.int .i64 (cmpN (val 4294967296 xs) (val 4294967296 ys))) ∧ Dr w w' := by
  obtain ⟨m, hmv⟩ : ∃ m, m = val 4294967296 xs := ⟨_, rfl⟩
  obtain ⟨n, hnv⟩ : ∃ n, n = val 4294967296 ys := ⟨_, rfl⟩
  have hn1 : Num 4294967296 (trimL xs) m := by rw [hmv]; exact Num.of_trim hd
  have hn2 : Num 4294967296 (trimL ys) n := by rw [hnv]; exact Num.of_trim hd2
  have hl1 := trimL_length_le xs
  have hl2 := trimL_length_le ys
  rw [← hmv, ← hnv]
  have hrt : Rd w B A (u32s (trimL xs)) := by rw [u32s_trim]; exact hr.take _
  have hrt2 : Rd w B A2 (u32s (trimL ys)) := by rw [u32s_trim]; exact hr2.take _
  obtain ⟨ps, has⟩ : ∃ ps, ps = trimL xs := ⟨_, rfl⟩
  obtain ⟨qs, hbs⟩ : ∃ qs, qs = trimL ys := ⟨_, rfl⟩
  rw [← has] at hn1 hrt hl1
  rw [← hbs] at hn2 hrt2 hl2
  have Has := Lib.hid has
  have Hbs := Lib.hid hbs
  clear has hbs hmv hnv
  rcases Nat.lt_trichotomy ps.length qs.length with hlt | heq | hgt
  · have hv : m < n := val_lt_len (by omega) hn1 hn2 hlt
    have e1 : cmpN m n = -1 := by simp [cmpN, hv]
    have He1 := Lib.hid e1
    have t1 : ((ps.length : Int) != (qs.length : Int)) = true := by rw [bne_iff_ne]; omega
    clear e1 hv
    go_enter Tryd.func36, Tryd.ntmps36
    go_wp2_with (first
      | (go_at_call 37; (with_reducible refine (trim_any A c xs _ B hr hc hm).mono ?_); rintro e w' ⟨rfl, rfl⟩; rw [← Has.out])
      | (go_at_call 37; (with_reducible refine (trim_any A2 c2 ys _ B hr2 hc2 hm2).mono ?_); rintro e w' ⟨rfl, rfl⟩; rw [← Hbs.out])
      | (go_at_call 65; (with_reducible refine (order_any _ _).mono ?_); rintro e w' ⟨rfl, rfl⟩))
    go_ret
    exact ⟨by rw [He1.out]; rfl, Dr.refl _⟩
  · have t1 : ((ps.length : Int) != (qs.length : Int)) = false := by rw [bne_eq_false_iff_eq]; omega
    have Heq := Lib.hid heq
    clear heq
    go_enter Tryd.func36, Tryd.ntmps36
    go_wp2_with (first
      | (go_at_call 37; (with_reducible refine (trim_any A c xs _ B hr hc hm).mono ?_); rintro e w' ⟨rfl, rfl⟩; rw [← Has.out])
      | (go_at_call 37; (with_reducible refine (trim_any A2 c2 ys _ B hr2 hc2 hm2).mono ?_); rintro e w' ⟨rfl, rfl⟩; rw [← Hbs.out])
      | (go_at_call 65; (with_reducible refine (order_any _ _).mono ?_); rintro e w' ⟨rfl, rfl⟩))
    go_loopw [5] (fun i wr => ∃ k : Nat, k ≤ ps.length ∧ i = .int .i64 ((k : Int) - 1) ∧ (∀ j (h : j < ps.length) (h2 : j < qs.length), k ≤ j → ps[j] = qs[j]) ∧ Dr w wr) (fun i _ => (intOf i + 1).toNat)
    case atStart => exact ⟨ps.length, Nat.le_refl _, rfl, fun j h _ hj => by omega, Dr.refl _⟩
    case round =>
      obtain ⟨k, hk, rfl, hs, hdr⟩ := hrel
      rcases k with _ | k
      · go_wp2
        go_ret
        have e : ps = qs := List.ext_getElem Heq.out (fun j h1 h2 => hs j h1 h2 (Nat.zero_le _))
        have e2 : m = n := by rw [← hn1.2.2, ← hn2.2.2, e]
        exact ⟨by rw [e2]; simp [cmpN], hdr⟩
      · have hk2 : k < qs.length := by have := Heq.out; omega
        obtain ⟨b, off, rfl, hb, hcell⟩ := hrt (by intro e; have := u32s_length ps; rw [e] at this; simp at this; omega)
        obtain ⟨b2, off2, rfl, hb2, hcell2⟩ := hrt2 (by intro e; have := u32s_length qs; rw [e] at this; simp at this; omega)
        have hx := hcell k _ (u32s_at (by omega))
        have hy := hcell2 k _ (u32s_at hk2)
        rw [show ((k + 1 : Nat) : Int) - 1 = (k : Int) from by omega]
        have hx := ((hdr.below B).cell (p := ⟨b, off + k, none⟩) hb).trans hx
        have hy := ((hdr.below B).cell (p := ⟨b2, off2 + k, none⟩) hb2).trans hy
        clear hcell hcell2 hr hr2 hrt hrt2
        rcases Nat.lt_trichotomy ps[k] qs[k] with hlt | he | hgt
        · have hv : m < n := by
            rw [← hn1.2.2, ← hn2.2.2]
            exact val_cmp_top _ ps qs hn1.1 Heq.out k (by omega) (fun i h hki => hs i h (by have := Heq.out; omega) hki) hlt
          have e1 : cmpN m n = -1 := by simp [cmpN, hv]
          have He1 := Lib.hid e1
          have t2 : ((ps[k] : Int) != (qs[k] : Int)) = true := by rw [bne_iff_ne]; omega
          have t3 : decide (ps[k] < qs[k]) = true := by simp; omega
          clear e1 hv hs
          go_wp2
          go_quiet (fail)
          go_wp2
          go_quiet ((go_at_call 65; first | exact quietL (order_any _ _) | exact quietAddL (order_any _ _)))
          go_wp2
          go_ret
          exact ⟨by rw [He1.out]; rfl, by first | exact hdr.step _ | exact (hdr.step _).step _⟩
        · have t2 : ((ps[k] : Int) != (qs[k] : Int)) = false := by rw [bne_eq_false_iff_eq]; omega
          have Hs : Hid (∀ j (h : j < ps.length) (h2 : j < qs.length), k ≤ j → ps[j] = qs[j]) := fun j h h2 hkj => by
            by_cases e : k = j
            · subst e; exact he
            · exact hs j h h2 (by omega)
          clear hs he
          go_wp2
          go_quiet (fail)
          go_wp2
          go_roundw
          case rel => exact ⟨k, by omega, by go_num, Hs.out, hdr.step _⟩
          case measure => simp [intOf]
        · have hv : n < m := by
            rw [← hn1.2.2, ← hn2.2.2]
            exact val_cmp_top _ qs ps hn2.1 Heq.out.symm k hk2 (fun i h hki => (hs i (by have := Heq.out; omega) h hki).symm) hgt
          have e1 : cmpN m n = 1 := by simp [cmpN, hv]; omega
          have He1 := Lib.hid e1
          have t2 : ((ps[k] : Int) != (qs[k] : Int)) = true := by rw [bne_iff_ne]; omega
          have t3 : decide (ps[k] < qs[k]) = false := by simp; omega
          clear e1 hv hs
          go_wp2
          go_quiet (fail)
          go_wp2
          go_quiet ((go_at_call 65; first | exact quietL (order_any _ _) | exact quietAddL (order_any _ _)))
          go_wp2
          go_ret
          exact ⟨by rw [He1.out]; rfl, by first | exact hdr.step _ | exact (hdr.step _).step _⟩
  · have hv : n < m := val_lt_len (by omega) hn2 hn1 hgt
    have e1 : cmpN m n = 1 := by simp [cmpN, hv]; omega
    have He1 := Lib.hid e1
    have t1 : ((ps.length : Int) != (qs.length : Int)) = true := by rw [bne_iff_ne]; omega
    clear e1 hv
    go_enter Tryd.func36, Tryd.ntmps36
    go_wp2_with (first
      | (go_at_call 37; (with_reducible refine (trim_any A c xs _ B hr hc hm).mono ?_); rintro e w' ⟨rfl, rfl⟩; rw [← Has.out])
      | (go_at_call 37; (with_reducible refine (trim_any A2 c2 ys _ B hr2 hc2 hm2).mono ?_); rintro e w' ⟨rfl, rfl⟩; rw [← Hbs.out])
      | (go_at_call 65; (with_reducible refine (order_any _ _).mono ?_); rintro e w' ⟨rfl, rfl⟩))
    go_ret
    exact ⟨by rw [He1.out]; rfl, Dr.refl _⟩
end Go.Proofs.YtogkfpbapjjgfaaDoor
