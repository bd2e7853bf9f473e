/- The contracts of raise, greatest, cut, compareWords and joined. Conditions: words; fewer than any slice can have. The contract of joined. Conditions: words; the lower part not longer than the place of the upper one, which is above 0. append of so many noughts (of a made row) onto a row of one's own, both arms. Conditions: at most 2^43 words. The numbers behind division by halves. No conditions of its own. -/
import Derived.Test.YtadpelhmjmamnaaGreatDoorPkCf22
import Derived.Test.YtadpelhmjmamnaaGreatDoorPkCf16
import Derived.Maps.AppendAt
import Derived.ArgAppend
import Derived.Test.YtadpelhmjmamnaaGreatDoorPkCf20
import Derived.Test.YtadpelhmjmamnaaGreatDoorPkCf24
namespace Go.Proofs.YtadpelhmjmamnaaGreatDoor
section
open Go.RowKit

theorem patch_high (n m : Nat) (hi : List Nat) (h : hi.length = m) : patch (List.replicate (n + m) 0) n hi = List.replicate n 0 ++ hi := by
  subst h
  simp [patch, List.drop_replicate, List.take_replicate]
theorem patch_nil (L : List Nat) (o : Nat) : patch L o [] = L := by simp [patch]
theorem u64s_nn {us : List Nat} (h : us ≠ []) : u64s us ≠ [] := by simpa [u64s] using h
theorem len_pos {us : List Nat} (h : us ≠ []) : 0 < us.length := by
  cases us with
  | nil => exact absurd rfl h
  | cons _ _ => simp

set_option maxHeartbeats 1600000 in
theorem raise_any (A : Option Addr) (c n : Nat) (us : List Nat) (w : World) (B : Nat) (hr : Rd w B A (u64s us)) (hB : B ≤ w.heap.size) (hd : Dig 18446744073709551616 us) (hm : n + us.length ≤ 35184372088000) (hne : us ≠ []) :
    Calls Tryz.prog 190 #[.slice A us.length c, .int .i64 (n : Int)] w fun e w' => Words w w' (n + us.length) (18446744073709551616 ^ n * val 18446744073709551616 us) e := by
  have hmk := fun W => mk64a n us.length (by omega) W
  have hl := len_pos hne
  have j1 : ¬ (n + us.length = n) := by omega
  have j2 : ¬ (us.length = 0) := by omega
  obtain ⟨b, off, rfl, hbB, hcell⟩ := hr (u64s_nn hne)
  go_enter Tryz.func190, Tryz.ntmps190
  go_wp2_with ((with_reducible refine wpList_copy_splice (o := ⟨some 15, _, _, _, _, _⟩) rfl _ _ _ _ rfl 84 Tryz.underlying146 ?u1 _ _ _ _ _ _ rfl rfl w.heap.size n (u64s (List.replicate (n + us.length) 0)) 84 ?c1 (u64s us) ?c2 ?c3 ?c4 ?c5 w.heap.size w ?c6 (Nat.le_refl _) ?_); rotate_right; intro w2 hg2 hb2)
  case u1 => kernel_rfl
  case c1 => exact Blk.new_ (by simp [u64s])
  case c2 => rw [u64s_length]; simp
  case c3 =>
    intro _ j v hv
    rw [World.cell?_alloc_past _ _ _ (by show b < _; omega)]
    exact hcell j v hv
  case c4 => rw [u64s_length, u64s_length, List.length_replicate]; omega
  case c5 => exact one_u64s us
  case c6 => exact (Below.refl _ _).alloc (Nat.le_refl _) _
  have hg3 : Blk w2 w.heap.size 84 (u64s (List.replicate n 0 ++ us)) := by
    have e : splice (u64s (List.replicate (n + us.length) 0)) n (u64s us) = u64s (List.replicate n 0 ++ us) := by
      rw [u64s_splice, patch_high n us.length us rfl]
    rw [← e]; exact hg2.out
  clear hmk hg2
  go_ret
  exact ⟨List.replicate n 0 ++ us, w.heap.size, by simp, by simp, (Dig.zeros_ (by omega) _).append_ hd, by rw [val_append, val_zeros, List.length_replicate, Nat.zero_add], Nat.le_refl _, hg3, hb2⟩


theorem greatest_val (n : Nat) : val 18446744073709551616 (List.replicate n 18446744073709551615) = 18446744073709551616 ^ n - 1 := by
  induction n with
  | zero => rfl
  | succ n ih =>
    have := Nat.pow_pos (n := n) (show 0 < 18446744073709551616 by omega)
    rw [List.replicate_succ]
    simp only [val]
    rw [ih, Nat.pow_succ]
    omega
theorem ones_set {n k : Nat} (h : k < n) : (List.replicate k 18446744073709551615 ++ List.replicate (n - k) 0).set k 18446744073709551615 = List.replicate (k + 1) 18446744073709551615 ++ List.replicate (n - (k + 1)) 0 := by
  obtain ⟨m, hm⟩ : ∃ m, n - k = m + 1 := ⟨n - k - 1, by omega⟩
  rw [hm, show n - (k + 1) = m from by omega, List.set_append_right _ _ (by simp), List.length_replicate, Nat.sub_self, List.replicate_succ (n := m), List.set_cons_zero, List.replicate_succ' (n := k), List.append_assoc]
  rfl
theorem dig_ones (n : Nat) : Dig 18446744073709551616 (List.replicate n 18446744073709551615) := fun y hy => by rw [(List.mem_replicate.1 hy).2]; omega

set_option maxHeartbeats 1600000 in
theorem greatest_any (n : Nat) (w : World) (hm : n ≤ 35184372088832) :
    Calls Tryz.prog 198 #[.int .i64 (n : Int)] w fun e w' => Words w w' n (18446744073709551616 ^ n - 1) e := by
  have hmk := fun W => mk64 n hm W
  go_enter Tryz.func198, Tryz.ntmps198
  go_wp2_with fail
  go_loopw [4, 9] (fun _ i wr => ∃ k : Nat, k ≤ n ∧ i = .int .i64 (k : Int) ∧ Blk wr w.heap.size 84 (u64s (List.replicate k 18446744073709551615 ++ List.replicate (n - k) 0)) ∧ Below w.heap.size w wr) (fun _ i _ => n - (intOf i).toNat)
  case atStart => exact ⟨0, by omega, rfl, Blk.new_ (by simp [u64s]), (Below.refl _ _).alloc (Nat.le_refl _) _⟩
  case round =>
    obtain ⟨k, hk, rfl, hblk, hbel⟩ := hrel
    by_cases hlt : k < n
    · obtain ⟨vv, hcc⟩ : ∃ vv, wr.cell? ⟨w.heap.size, k, none⟩ = some vv := ⟨_, (hblk.cell k).trans (u64s_at (by simp; omega))⟩
      have hf := hblk.frozen k
      have hset := hblk.set_ k (.int .u64 ((18446744073709551615 : Nat) : Int))
      rw [u64s_set, ones_set hlt] at hset
      have Hset := Lib.hid hset
      clear hset
      go_wp2_with fail
      go_roundw
      case rel => exact ⟨k + 1, by omega, by go_num, Hset.out, hbel.setCell (p := ⟨w.heap.size, k, none⟩) (Nat.le_refl _) _⟩
      case measure => simp [intOf]; omega
    · obtain rfl : k = n := by omega
      rw [Nat.sub_self, List.replicate_zero, List.append_nil] at hblk
      go_wp2_with fail
      go_ret
      exact ⟨List.replicate k 18446744073709551615, w.heap.size, by simp, by simp, dig_ones k, greatest_val k, Nat.le_refl _, hblk, hbel⟩

theorem cut_nil {us : List Nat} {f t : Nat} (h : min t us.length ≤ f) : (us.take t).drop f = [] := by
  apply List.drop_eq_nil_of_le
  rw [List.length_take]; exact h

set_option maxHeartbeats 1600000 in
theorem cut_any (A : Option Addr) (c f t : Nat) (us : List Nat) (w : World) (B : Nat) (hr : Rd w B A (u64s us)) (hc : us.length ≤ c) (hm : us.length ≤ 281474976710656) :
    Calls Tryz.prog 193 #[.slice A us.length c, .int .i64 (f : Int), .int .i64 (t : Int)] w fun e w' => ∃ A' c', e = .returned (.slice A' (trimL ((us.take t).drop f)).length c') ∧ Rd w B A' (u64s (trimL ((us.take t).drop f))) ∧ (trimL ((us.take t).drop f)).length ≤ c' ∧ w = w' := by
  obtain ⟨T, hT⟩ : ∃ T, T = min t us.length := ⟨_, rfl⟩
  have hmin : min (t : Int) (us.length : Int) = (T : Int) := by omega
  have hTl : T ≤ us.length := by omega
  rcases Nat.lt_or_ge f T with hlt | hge
  · have t1 : decide ((T : Int) ≤ (f : Int)) = false := by simp; omega
    have t2 : decide (T ≤ f) = false := by simp; omega
    have hl : ((us.take t).drop f).length = T - f := by rw [List.length_drop, List.length_take, ← hT]
    have hne : us ≠ [] := by rintro rfl; simp at hTl; omega
    obtain ⟨b, off, rfl, hbB, _⟩ := hr (u64s_nn hne)
    have hr2 : Rd w B (some ⟨b, off + f, none⟩) (u64s ((us.take t).drop f)) := (hr.takeN t).drop_ f
    have htw := trimWords_any (some ⟨b, off + f, none⟩) (c - f) ((us.take t).drop f) w B hr2 (by omega) (by omega)
    rw [hl] at htw
    have hr3 : Rd w B (some ⟨b, off + f, none⟩) (u64s (trimL ((us.take t).drop f))) := by rw [u64s_trim]; exact hr2.take _
    have hlt2 := trimL_length_le ((us.take t).drop f)
    rw [hl] at hlt2
    obtain ⟨zs, hz⟩ : ∃ zs, zs = trimL ((us.take t).drop f) := ⟨_, rfl⟩
    rw [← hz] at htw hr3 hlt2 ⊢
    have Htw := Lib.hid htw
    have i1 : (f : Int) ≤ (T : Int) := by omega
    have i2 : (T : Int) ≤ (c : Int) := by omega
    have i3 : f ≤ T := by omega
    have i4 : ¬ (c = f) := by omega
    clear htw hz hT hr hr2 hl hne
    go_enter Tryz.func193, Tryz.ntmps193
    go_wp2_with (first | (simp only []) | (go_at_call 142; (with_reducible refine Htw.out.mono ?_); rintro e w' ⟨rfl, rfl⟩))
    go_ret
    exact ⟨_, c - f, rfl, hr3, by omega, rfl⟩
  · have t1 : decide ((T : Int) ≤ (f : Int)) = true := by simp; omega
    have t2 : decide (T ≤ f) = true := by simp; omega
    rw [cut_nil (by omega)]
    clear hr
    go_enter Tryz.func193, Tryz.ntmps193
    go_wp2_with (simp only [hmin])
    go_ret
    exact ⟨none, 0, rfl, Rd.nil_, by simp [trimL], rfl⟩


set_option maxHeartbeats 1600000 in
theorem cmpW_any (A A2 : Option Addr) (c c2 : Nat) (ps qs : List Nat) (m n : Nat) (w : World) (B : Nat) (hrt : Rd w B A (u64s ps)) (hrt2 : Rd w B A2 (u64s qs)) (hn1 : Num 18446744073709551616 ps m) (hn2 : Num 18446744073709551616 qs n) (_ : ps.length ≤ c) (_ : qs.length ≤ c2) (hm : ps.length ≤ 281474976710656) (_ : qs.length ≤ 281474976710656) :
    Calls Tryz.prog 168 #[.slice A ps.length c, .slice A2 qs.length c2] w fun e w' => e = .returned (.int .i64 (cmpN m n)) ∧ Dr w w' := by
  rcases Nat.lt_trichotomy ps.length qs.length with hlt | heq | hgt
  · have hv : m < n := val_lt_len (by omega) hn1 hn2 hlt
    have e1 : cmpN m n = -1 := by simp [cmpN, hv]
    have He1 := Lib.hid e1
    have t1 : ((ps.length : Int) != (qs.length : Int)) = true := by rw [bne_iff_ne]; omega
    clear e1 hv
    go_enter Tryz.func168, Tryz.ntmps168
    go_wp2_with (go_at_call 105; (with_reducible refine (order_any _ _).mono ?_); rintro e w' ⟨rfl, rfl⟩)
    go_ret
    exact ⟨by rw [He1.out]; rfl, Dr.refl _⟩
  · have t1 : ((ps.length : Int) != (qs.length : Int)) = false := by rw [bne_eq_false_iff_eq]; omega
    have Heq := Lib.hid heq
    clear heq
    go_enter Tryz.func168, Tryz.ntmps168
    go_wp2_with (go_at_call 105; (with_reducible refine (order_any _ _).mono ?_); rintro e w' ⟨rfl, rfl⟩)
    go_loopw [5] (fun i wr => ∃ k : Nat, k ≤ ps.length ∧ i = .int .i64 ((k : Int) - 1) ∧ (∀ j (h : j < ps.length) (h2 : j < qs.length), k ≤ j → ps[j] = qs[j]) ∧ Dr w wr) (fun i _ => (intOf i + 1).toNat)
    case atStart => exact ⟨ps.length, Nat.le_refl _, rfl, fun j h _ hj => by omega, Dr.refl _⟩
    case round =>
      obtain ⟨k, hk, rfl, hs, hdr⟩ := hrel
      rcases k with _ | k
      · go_wp2
        go_ret
        have e : ps = qs := List.ext_getElem Heq.out (fun j h1 h2 => hs j h1 h2 (Nat.zero_le _))
        have e2 : m = n := by rw [← hn1.2.2, ← hn2.2.2, e]
        exact ⟨by rw [e2]; simp [cmpN], hdr⟩
      · have hk2 : k < qs.length := by have := Heq.out; omega
        obtain ⟨b, off, rfl, hb, hcell⟩ := hrt (by intro e; have := u64s_length ps; rw [e] at this; simp at this; omega)
        obtain ⟨b2, off2, rfl, hb2, hcell2⟩ := hrt2 (by intro e; have := u64s_length qs; rw [e] at this; simp at this; omega)
        have hx := hcell k _ (u64s_at (by omega))
        have hy := hcell2 k _ (u64s_at hk2)
        rw [show ((k + 1 : Nat) : Int) - 1 = (k : Int) from by omega]
        have hx := ((hdr.below B).cell (p := ⟨b, off + k, none⟩) hb).trans hx
        have hy := ((hdr.below B).cell (p := ⟨b2, off2 + k, none⟩) hb2).trans hy
        clear hcell hcell2 hrt hrt2
        rcases Nat.lt_trichotomy ps[k] qs[k] with hlt | he | hgt
        · have hv : m < n := by
            rw [← hn1.2.2, ← hn2.2.2]
            exact val_cmp_top _ ps qs hn1.1 Heq.out k (by omega) (fun i h hki => hs i h (by have := Heq.out; omega) hki) hlt
          have e1 : cmpN m n = -1 := by simp [cmpN, hv]
          have He1 := Lib.hid e1
          have t2 : ((ps[k] : Int) != (qs[k] : Int)) = true := by rw [bne_iff_ne]; omega
          have t3 : decide (ps[k] < qs[k]) = true := by simp; omega
          clear e1 hv hs
          go_wp2
          go_quiet (fail)
          go_wp2
          go_quiet ((go_at_call 105; first | exact quietL (order_any _ _) | exact quietAddL (order_any _ _)))
          go_wp2
          go_ret
          exact ⟨by rw [He1.out]; rfl, by first | exact hdr.step _ | exact (hdr.step _).step _⟩
        · have t2 : ((ps[k] : Int) != (qs[k] : Int)) = false := by rw [bne_eq_false_iff_eq]; omega
          have Hs : Hid (∀ j (h : j < ps.length) (h2 : j < qs.length), k ≤ j → ps[j] = qs[j]) := fun j h h2 hkj => by
            by_cases e : k = j
            · subst e; exact he
            · exact hs j h h2 (by omega)
          clear hs he
          go_wp2
          go_quiet (fail)
          go_wp2
          go_roundw
          case rel => exact ⟨k, by omega, by go_num, Hs.out, hdr.step _⟩
          case measure => simp [intOf]
        · have hv : n < m := by
            rw [← hn1.2.2, ← hn2.2.2]
            exact val_cmp_top _ qs ps hn2.1 Heq.out.symm k hk2 (fun i h hki => (hs i (by have := Heq.out; omega) h hki).symm) hgt
          have e1 : cmpN m n = 1 := by simp [cmpN, hv]; omega
          have He1 := Lib.hid e1
          have t2 : ((ps[k] : Int) != (qs[k] : Int)) = true := by rw [bne_iff_ne]; omega
          have t3 : decide (ps[k] < qs[k]) = false := by simp; omega
          clear e1 hv hs
          go_wp2
          go_quiet (fail)
          go_wp2
          go_quiet ((go_at_call 105; first | exact quietL (order_any _ _) | exact quietAddL (order_any _ _)))
          go_wp2
          go_ret
          exact ⟨by rw [He1.out]; rfl, by first | exact hdr.step _ | exact (hdr.step _).step _⟩
  · have hv : n < m := val_lt_len (by omega) hn2 hn1 hgt
    have e1 : cmpN m n = 1 := by simp [cmpN, hv]; omega
    have He1 := Lib.hid e1
    have t1 : ((ps.length : Int) != (qs.length : Int)) = true := by rw [bne_iff_ne]; omega
    clear e1 hv
    go_enter Tryz.func168, Tryz.ntmps168
    go_wp2_with (go_at_call 105; (with_reducible refine (order_any _ _).mono ?_); rintro e w' ⟨rfl, rfl⟩)
    go_ret
    exact ⟨by rw [He1.out]; rfl, Dr.refl _⟩
end
section
open Go.RowKit

/-- A row of its own of N words that makes v; the slice goes to the topmost word that is not 0. -/
def JoinOut (w w' : World) (N v : Nat) (e : Ending) : Prop :=
  ∃ ys g, e = .returned (.slice (some ⟨g, 0, none⟩) (trimL ys).length ys.length) ∧ ys.length = N ∧ Dig 18446744073709551616 ys ∧ val 18446744073709551616 ys = v ∧ w.heap.size ≤ g ∧ Blk w' g 84 (u64s ys) ∧ Below w.heap.size w w'

theorem join_low (n m : Nat) (lo : List Nat) (h : lo.length ≤ n) : patch (List.replicate (n + m) 0) 0 lo = lo ++ List.replicate (n - lo.length) 0 ++ List.replicate m 0 := by
  simp [patch, List.drop_replicate]
  omega
theorem join_high (n : Nat) (lo hi : List Nat) (h : lo.length ≤ n) : patch (lo ++ List.replicate (n - lo.length) 0 ++ List.replicate hi.length 0) n hi = lo ++ List.replicate (n - lo.length) 0 ++ hi := by
  have e : (lo ++ List.replicate (n - lo.length) 0).length = n := by simp; omega
  unfold patch
  rw [List.take_left' e, List.drop_of_length_le (by simp; omega), List.append_nil]
theorem join_val (n : Nat) (lo hi : List Nat) (h : lo.length ≤ n) : val 18446744073709551616 (lo ++ List.replicate (n - lo.length) 0 ++ hi) = val 18446744073709551616 lo + 18446744073709551616 ^ n * val 18446744073709551616 hi := by
  have e : (lo ++ List.replicate (n - lo.length) 0).length = n := by simp; omega
  rw [val_append, val_append, val_zeros, Nat.mul_zero, Nat.add_zero, e]

set_option maxHeartbeats 1600000 in
theorem joined_any (A A2 : Option Addr) (c c2 n : Nat) (lo hi : List Nat) (w : World) (B : Nat) (hr : Rd w B A (u64s lo)) (hr2 : Rd w B A2 (u64s hi)) (hB : B ≤ w.heap.size) (hd : Dig 18446744073709551616 lo) (hd2 : Dig 18446744073709551616 hi) (hn : lo.length ≤ n) (h0 : 0 < n) (hm : n + hi.length ≤ 35184372088000) :
    Calls Tryz.prog 192 #[.slice A lo.length c, .slice A2 hi.length c2, .int .i64 (n : Int)] w fun e w' => JoinOut w w' (n + hi.length) (val 18446744073709551616 lo + 18446744073709551616 ^ n * val 18446744073709551616 hi) e := by
  have hmk := fun W => mk64a n hi.length (by omega) W
  have hmin : min lo.length (n + hi.length) = lo.length := by omega
  have j0 : ¬ (n + hi.length = 0) := by omega
  by_cases hne : hi = []
  · have hl0 : hi.length = 0 := by rw [hne]; rfl
    have hmk0 := fun W => mk64 n (by omega) W
    have hmin0 : min lo.length n = lo.length := by omega
    rw [hl0, Nat.add_zero]
    have hv : val 18446744073709551616 hi = 0 := by rw [hne]; rfl
    rw [hv, Nat.mul_zero, Nat.add_zero]
    clear hmk hmin j0 hr2
    go_enter Tryz.func192, Tryz.ntmps192
    go_upto_region 3 with ((with_reducible refine wpList_copy_splice (o := ⟨some 15, _, _, _, _, _⟩) rfl _ _ _ _ rfl 84 Tryz.underlying146 ?u1 _ _ _ _ _ _ rfl rfl w.heap.size 0 (u64s (List.replicate n 0)) 84 ?c1 (u64s lo) ?c2 ?c3 ?c4 ?c5 w.heap.size w ?c6 (Nat.le_refl _) ?_); rotate_right; intro w2 hg2 hb2)
    case u1 => kernel_rfl
    case c1 => exact Blk.new_ (by simp [u64s])
    case c2 => rw [u64s_length]; first | exact (Nat.min_eq_left (by omega)).symm | exact (Nat.min_eq_right (by omega)).symm
    case c3 =>
      intro hp
      have hne : u64s lo ≠ [] := by intro e; rw [e] at hp; simp at hp
      obtain ⟨b, off, rfl, hbB, hcell⟩ := hr hne
      refine ⟨_, rfl, fun j v hv => ?_⟩
      rw [add_none]
      rw [World.cell?_alloc_past _ _ _ (by show b < _; omega)]
      exact hcell j v hv
    case c4 => rw [u64s_length, u64s_length, List.length_replicate]; omega
    case c5 => exact one_u64s lo
    case c6 => exact (Below.refl _ _).alloc (Nat.le_refl _) _
    have hg3 : Blk w2 w.heap.size 84 (u64s (lo ++ List.replicate (n - lo.length) 0)) := by
      have h9 := hg2.out
      have e := join_low n 0 lo hn
      rw [Nat.add_zero, List.replicate_zero, List.append_nil] at e
      rwa [u64s_splice, e] at h9
    clear hg2 hmk0
    obtain ⟨ys, hys⟩ : ∃ ys, ys = lo ++ List.replicate (n - lo.length) 0 := ⟨_, rfl⟩
    rw [← hys] at hg3
    have hyl : ys.length = n := by rw [hys]; simp; omega
    have hyd : Dig 18446744073709551616 ys := by rw [hys]; exact hd.append_ (Dig.zeros_ (by omega) _)
    have hyv : val 18446744073709551616 ys = val 18446744073709551616 lo := by rw [hys, val_append, val_zeros, Nat.mul_zero, Nat.add_zero]
    clear hys
    go_upto_region 4 with ((with_reducible refine wpList_copy_splice (o := ⟨some 20, _, _, _, _, _⟩) rfl _ _ _ _ rfl 84 Tryz.underlying146 ?u1 _ _ _ _ _ _ rfl rfl w.heap.size 0 (u64s ys) 84 ?d1 (u64s []) ?d2 ?d3 ?d4 ?d5 w.heap.size w ?d6 (Nat.le_refl _) ?_); rotate_right; intro w3 hg4 hb3)
    case u1 => kernel_rfl
    case d1 => exact hg3
    case d2 => simp [u64s]
    case d3 => simp [u64s]
    case d4 => simp [u64s]
    case d5 => exact one_u64s []
    case d6 => exact hb2
    have hg5 : Blk w3 w.heap.size 84 (u64s ys) := by
      have h9 := hg4.out
      rwa [u64s_splice, patch_nil] at h9
    have Htw : Hid (∀ W, Dr w3 W → Calls Tryz.prog 142 #[.slice (some ⟨w.heap.size, 0, none⟩) n n] W fun e w' => e = .returned (.slice (some ⟨w.heap.size, 0, none⟩) (trimL ys).length n) ∧ W = w') := fun W hW => by
      have hW3 := hg5.below (hW.below _) hg5.lt
      have := trimWords_any (some ⟨w.heap.size, 0, none⟩) n ys W W.heap.size (Rd.of_blk hW3 hW3.lt 0 (fun k v hv => by rw [Nat.zero_add]; exact hv)) (by omega) (by omega)
      rwa [hyl] at this
    have Hyv := Lib.hid hyv
    have Hyl := Lib.hid hyl
    clear hg4 hyv hyl hg3
    go_wp2_with (go_at_call 142; (with_reducible refine (Htw.out _ (Dr.refl _)).mono ?_); rintro e w4 ⟨rfl, rfl⟩)
    go_ret
    exact ⟨ys, w.heap.size, by rw [Hyl.out]; rfl, Hyl.out, hyd, Hyv.out, Nat.le_refl _, hg5, hb3⟩
  · have hl := len_pos hne
    have j1 : ¬ (n + hi.length = n) := by omega
    have j2 : (n : Int) ≤ (n : Int) + (hi.length : Int) := by omega
    have j3 : n ≤ n + hi.length := by omega
    obtain ⟨b2, off2, rfl, hbB2, hcell2⟩ := hr2 (u64s_nn hne)
    go_enter Tryz.func192, Tryz.ntmps192
    go_upto_region 3 with ((with_reducible refine wpList_copy_splice (o := ⟨some 15, _, _, _, _, _⟩) rfl _ _ _ _ rfl 84 Tryz.underlying146 ?u1 _ _ _ _ _ _ rfl rfl w.heap.size 0 (u64s (List.replicate (n + hi.length) 0)) 84 ?c1 (u64s lo) ?c2 ?c3 ?c4 ?c5 w.heap.size w ?c6 (Nat.le_refl _) ?_); rotate_right; intro w2 hg2 hb2)
    case u1 => kernel_rfl
    case c1 => exact Blk.new_ (by simp [u64s])
    case c2 => rw [u64s_length]; first | exact (Nat.min_eq_left (by omega)).symm | exact (Nat.min_eq_right (by omega)).symm
    case c3 =>
      intro hp
      have hne : u64s lo ≠ [] := by intro e; rw [e] at hp; simp at hp
      obtain ⟨b, off, rfl, hbB, hcell⟩ := hr hne
      refine ⟨_, rfl, fun j v hv => ?_⟩
      rw [add_none]
      rw [World.cell?_alloc_past _ _ _ (by show b < _; omega)]
      exact hcell j v hv
    case c4 => rw [u64s_length, u64s_length, List.length_replicate]; omega
    case c5 => exact one_u64s lo
    case c6 => exact (Below.refl _ _).alloc (Nat.le_refl _) _
    have hg3 : Blk w2 w.heap.size 84 (u64s (lo ++ List.replicate (n - lo.length) 0 ++ List.replicate hi.length 0)) := by
      have h9 := hg2.out
      rwa [u64s_splice, join_low n hi.length lo hn] at h9
    have hlen3 : (lo ++ List.replicate (n - lo.length) 0 ++ List.replicate hi.length 0).length = n + hi.length := by simp; omega
    have Hg3 := Lib.hid hg3
    have Hlen3 := Lib.hid hlen3
    clear hg2 hmk hg3 hlen3
    go_upto_region 4 with ((with_reducible refine wpList_copy_splice (o := ⟨some 20, _, _, _, _, _⟩) rfl _ _ _ _ rfl 84 Tryz.underlying146 ?u1 _ _ _ _ _ _ rfl rfl w.heap.size n (u64s (lo ++ List.replicate (n - lo.length) 0 ++ List.replicate hi.length 0)) 84 ?d1 (u64s hi) ?d2 ?d3 ?d4 ?d5 w.heap.size w ?d6 (Nat.le_refl _) ?_); rotate_right; intro w3 hg4 hb3)
    case u1 => kernel_rfl
    case d1 => exact Hg3.out
    case d2 => rw [u64s_length]; simp
    case d3 =>
      intro _ j v hv
      rw [hb2.cell (p := ⟨b2, off2 + j, none⟩) (show b2 < _ by omega)]
      exact hcell2 j v hv
    case d4 => rw [u64s_length, u64s_length, Hlen3.out]; omega
    case d5 => exact one_u64s hi
    case d6 => exact hb2
    have hg5 : Blk w3 w.heap.size 84 (u64s (lo ++ List.replicate (n - lo.length) 0 ++ hi)) := by
      have h9 := hg4.out
      rwa [u64s_splice, join_high n lo hi hn] at h9
    obtain ⟨ys, hys⟩ : ∃ ys, ys = lo ++ List.replicate (n - lo.length) 0 ++ hi := ⟨_, rfl⟩
    rw [← hys] at hg5
    have hyl : ys.length = n + hi.length := by rw [hys]; simp; omega
    have hyd : Dig 18446744073709551616 ys := by rw [hys]; exact (hd.append_ (Dig.zeros_ (by omega) _)).append_ hd2
    have hyv := join_val n lo hi hn
    rw [← hys] at hyv
    have Htw : Hid (∀ W, Dr w3 W → Calls Tryz.prog 142 #[.slice (some ⟨w.heap.size, 0, none⟩) (n + hi.length) (n + hi.length)] W fun e w' => e = .returned (.slice (some ⟨w.heap.size, 0, none⟩) (trimL ys).length (n + hi.length)) ∧ W = w') := fun W hW => by
      have hW3 := hg5.below (hW.below _) hg5.lt
      have := trimWords_any (some ⟨w.heap.size, 0, none⟩) (n + hi.length) ys W W.heap.size (Rd.of_blk hW3 hW3.lt 0 (fun k v hv => by rw [Nat.zero_add]; exact hv)) (by omega) (by omega)
      rwa [hyl] at this
    have Hyv := Lib.hid hyv
    have Hyl := Lib.hid hyl
    clear hys hg4 Hlen3 Hg3 hyv hyl
    go_wp2_with (go_at_call 142; (with_reducible refine (Htw.out _ (Dr.refl _)).mono ?_); rintro e w4 ⟨rfl, rfl⟩)
    go_ret
    exact ⟨ys, w.heap.size, by rw [Hyl.out]; rfl, Hyl.out, hyd, Hyv.out, Nat.le_refl _, hg5, hb3⟩
end
section
open Go.RowKit

theorem zeroCells_one (z : Value) (n : Nat) (hz : z.cells = #[z]) : Builtin.zeroCells z.cells n = (List.replicate n z).toArray := by
  rw [hz]
  apply Array.ext'
  simp only [Builtin.zeroCells, List.size_toArray, List.length_singleton, Nat.mul_one, Nat.mod_one]
  simp [Array.toList_map, List.map_const']

theorem Blk.setCells_ {g : Nat} {t : TypeId} : ∀ (zs : List Value) (w : World) (vs : List Value) (o : Nat), Blk w g t vs → o + zs.length ≤ vs.length → Blk (w.setCells g o zs) g t (vs.take o ++ zs ++ vs.drop (o + zs.length))
  | [], w, vs, o, h, _ => by simpa [World.setCells] using h
  | z :: zs, w, vs, o, h, hl => by
    rw [List.length_cons] at hl
    have h1 := Blk.setCells_ zs _ _ (o + 1) (h.set_ o z) (by rw [List.length_set]; omega)
    have e : (vs.set o z).take (o + 1) ++ zs ++ (vs.set o z).drop (o + 1 + zs.length) = vs.take o ++ z :: zs ++ vs.drop (o + (z :: zs).length) := by
      rw [List.drop_set_of_lt (by omega), List.take_succ_eq_append_getElem (by rw [List.length_set]; omega), List.getElem_set_self, List.take_set_of_le (Nat.le_refl _), List.length_cons, show o + (zs.length + 1) = o + 1 + zs.length from by omega]
      simp
    rw [e] at h1
    exact h1
theorem Ch.setCells_ {g : Nat} : ∀ (zs : List Value) (w : World) (o : Nat), Ch g w (w.setCells g o zs)
  | [], w, _ => Ch.refl g w
  | z :: zs, w, o => ((Ch.refl g w).setCell o z).trans (Ch.setCells_ zs _ (o + 1))

section
variable {P : Program} (w : World) (t tx ty e : TypeId) (k : IntKind) (i : TypeInfo) (z : Value)
theorem run_appz_room (ht : P.underlying t = some (.slice e)) (htx : P.underlying tx = some (.int k)) (hi : P.info? e = some i) (hz : i.zero = some z) (hsize : i.size = 1) (hby : i.bytes = 8) (hzs : z.cells = #[z]) (hz1 : z.oneCell' = true)
    (g n cap m : Nat) (vs : List Value) (hblk : Blk w g e vs) (hc : vs.length = cap) (hr : n + m ≤ cap) (hm : n + m ≤ 8796093022208) :
    (Builtin.append_ #[t, tx] ty #[.slice (some ⟨g, 0, none⟩) n cap, .int .i64 (m : Int)]).run P w = .ok (.slice (some ⟨g, 0, none⟩) (n + m) cap) (w.setCells g n (List.replicate m z)) := by
  have h0 : ∀ w', (asInt (.int .i64 (m : Int))).run P w' = .ok (m : Int) w' := fun _ => rfl
  have h1 : IntKind.i64.wrap (m : Int) = (m : Int) := by rw [IntKind.wrap_i64]; omega
  have h2 : ¬ ((m : Int) < 0) := by omega
  have h3 : ¬ (281474976710656 < (m : Int) * 8) := by omega
  have hst := run_storeCells_cells (P := P) g n (List.replicate m z) 0 w (fun j hj => by
    rw [Nat.add_zero, hblk.cell, List.getElem?_eq_getElem (by simp at hj; omega)]; rfl) (fun j _ => hblk.frozen _) (fun v hv => by rw [(List.mem_replicate.1 hv).2]; exact hz1)
  rw [Nat.add_zero] at hst
  have hadd : (Addr.add ⟨g, 0, none⟩ n) = ⟨g, n, none⟩ := by rw [add_none, Nat.zero_add]
  by_cases hm0 : m = 0
  · subst hm0
    have hr0 : n ≤ cap := by omega
    have h0' : ∀ w', (asInt (.int .i64 0)).run P w' = .ok 0 w' := fun _ => rfl
    simp [Builtin.append_, run_underlying ht, run_underlying htx, sizeOf, typeInfo, hi, h0', hr0, World.setCells, storeCells, show IntKind.i64.wrap 0 = 0 from by decide]
  · simp [Builtin.append_, run_underlying ht, run_underlying htx, sizeOf, typeInfo, zeroValue, hi, hz, h0, h1, h2, h3, hsize, hby, hr, hm0, zeroCells_one z m hzs, hadd]
    rw [hst]
    rfl
theorem run_appz_grow (ht : P.underlying t = some (.slice e)) (htx : P.underlying tx = some (.int k)) (hi : P.info? e = some i) (hz : i.zero = some z) (hsize : i.size = 1) (hby : i.bytes = 8) (hzs : z.cells = #[z])
    (g n cap m : Nat) (vs : List Value) (hblk : Blk w g e vs) (hc : vs.length = cap) (hnc : n ≤ cap) (hr : cap < n + m) (hm : n + m ≤ 8796093022208) :
    (Builtin.append_ #[t, tx] ty #[.slice (some ⟨g, 0, none⟩) n cap, .int .i64 (m : Int)]).run P w = .ok (.slice (some ⟨w.heap.size, 0, none⟩) (n + m) (grownCap w (n + m) cap e))
      (w.drew.alloc (.cells (vs.take n ++ List.replicate m z ++ List.replicate (grownCap w (n + m) cap e - (n + m)) z).toArray e)) := by
  have h0 : ∀ w', (asInt (.int .i64 (m : Int))).run P w' = .ok (m : Int) w' := fun _ => rfl
  have h1 : IntKind.i64.wrap (m : Int) = (m : Int) := by rw [IntKind.wrap_i64]; omega
  have h2 : ¬ ((m : Int) < 0) := by omega
  have h3 : ¬ (281474976710656 < (m : Int) * 8) := by omega
  have hn : ¬ (n + m ≤ cap) := by omega
  have hm0 : m ≠ 0 := by omega
  have h63' : ¬ (9223372036854775807 < ((n : Int) + (m : Int))) := by omega
  have h48' : ¬ (281474976710656 < Builtin.nextslicecap (n + m) cap * 8) := by
    have := growslice_fits (need := n + m) (old := cap) (bytes := 8) (by omega) (by omega)
    omega
  have hfo := run_firstCells_some (P := P) w.drew 1 n ⟨g, 0, none⟩ n cap (vs.take n) (by rw [List.length_take]; omega) (fun j v hv => by
    rw [add_none, Nat.zero_add]
    rw [List.getElem?_take] at hv
    split at hv
    · exact (hblk.drew.cell j).trans hv
    · cases hv)
  simp [Builtin.append_, run_underlying ht, run_underlying htx, sizeOf, typeInfo, zeroValue, hi, hz, h0, h1, h2, h3, hsize, hby, hn, hm0, h63', h48', Question.forced, hfo, newRow, zeroCells_one z _ hzs]
  refine ⟨rfl, ?_⟩
  unfold grownCap
  congr 2
  simp
end
theorem run_appz64 (w : World) (ty : TypeId) (g n cap m : Nat) (L : List Nat) (hblk : Blk w g 84 (u64s L)) (hc : L.length = cap) (hnc : n ≤ cap) (hm : n + m ≤ 8796093022208) (hd : Dig 18446744073709551616 L) :
    ∃ g' L' w', (Builtin.append_ #[146, 3] ty #[.slice (some ⟨g, 0, none⟩) n cap, .int .i64 (m : Int)]).run Tryz.prog w = .ok (.slice (some ⟨g', 0, none⟩) (n + m) L'.length) w' ∧ Blk w' g' 84 (u64s L') ∧ L'.take (n + m) = L.take n ++ List.replicate m 0 ∧ n + m ≤ L'.length ∧ Dig 18446744073709551616 L' ∧ (g' = g ∨ g' = w.heap.size) ∧ Tn g w w' := by
  obtain ⟨i0, hi, hz0, hz1, hz2⟩ := info_parts Tryz.info64
  have hrep : ∀ q : Nat, List.replicate q (Value.int .u64 0) = u64s (List.replicate q 0) := fun q => by simp [u64s]
  by_cases hr : n + m ≤ cap
  · have h1 := run_appz_room (P := Tryz.prog) w 146 3 ty 84 .i64 i0 (.int .u64 0) Tryz.underlying146 Tryz.underlying3 hi hz0 hz1 hz2 rfl rfl g n cap m (u64s L) hblk (by rw [u64s_length]; exact hc) hr hm
    have h2 := Blk.setCells_ (List.replicate m (Value.int .u64 0)) w (u64s L) n hblk (by rw [List.length_replicate, u64s_length]; omega)
    have e : (u64s L).take n ++ List.replicate m (Value.int .u64 0) ++ (u64s L).drop (n + (List.replicate m (Value.int .u64 0)).length) = u64s (patch L n (List.replicate m 0)) := by
      rw [hrep]
      simp [patch, u64s, List.map_take, List.map_drop]
    rw [e] at h2
    have hl : (patch L n (List.replicate m 0)).length = L.length := patch_length (by rw [List.length_replicate]; omega)
    refine ⟨g, patch L n (List.replicate m 0), _, by rw [hl, hc]; exact h1, h2, ?_, by omega, patch_dig hd (Dig.zeros_ (by omega) _), Or.inl rfl, Tn.of_ch (Ch.setCells_ _ _ _)⟩
    unfold patch
    rw [List.take_left' (by simp; omega)]
  · have h1 := run_appz_grow (P := Tryz.prog) w 146 3 ty 84 .i64 i0 (.int .u64 0) Tryz.underlying146 Tryz.underlying3 hi hz0 hz1 hz2 rfl g n cap m (u64s L) hblk (by rw [u64s_length]; exact hc) hnc (by omega) hm
    obtain ⟨K, hK⟩ : ∃ K, K = grownCap w (n + m) cap 84 := ⟨_, rfl⟩
    have hge := grownCap_ge w (n + m) cap 84
    rw [← hK] at h1 hge
    have e : (u64s L).take n ++ List.replicate m (Value.int .u64 0) ++ List.replicate (K - (n + m)) (Value.int .u64 0) = u64s (L.take n ++ List.replicate m 0 ++ List.replicate (K - (n + m)) 0) := by
      rw [hrep, hrep]
      simp [u64s, List.map_take]
    rw [e] at h1
    have hl : (L.take n ++ List.replicate m 0 ++ List.replicate (K - (n + m)) 0).length = K := by simp; omega
    refine ⟨w.heap.size, L.take n ++ List.replicate m 0 ++ List.replicate (K - (n + m)) 0, _, by rw [hl]; exact h1, Blk.new w.drew _ _, ?_, by omega, ((hd.take_ _).append_ (Dig.zeros_ (by omega) _)).append_ (Dig.zeros_ (by omega) _), Or.inr rfl, ?_⟩
    · rw [List.take_left' (by simp; omega)]
    · exact Tn.of_below (B := w.heap.size) ((Below.refl _ _).drew.alloc (Nat.le_refl _) _) (Nat.le_refl _)
end
section
open Go.RowKit

theorem val_take_mod {b : Nat} (hb : 0 < b) (xs : List Nat) (k : Nat) (hd : Dig b xs) : val b (xs.take k) = val b xs % b ^ k := by
  rcases Nat.lt_or_ge k xs.length with h | h
  · have h1 := val_take_drop b xs k (by omega)
    have h2 := val_lt b _ (hd.take_ k)
    rw [List.length_take, Nat.min_eq_left (by omega)] at h2
    rw [h1, Nat.add_mul_mod_self_left, Nat.mod_eq_of_lt h2]
  · rw [List.take_of_length_le h]
    have h2 := val_lt b _ hd
    have h3 : b ^ xs.length ≤ b ^ k := Nat.pow_le_pow_right hb h
    rw [Nat.mod_eq_of_lt (by omega)]

/-- r b + ul is what stands ahead of taking q vb. -/
theorem bz_eq {b U V vt vb uh ul q r : Nat} (hU : U = uh * b + ul) (hV : V = vt * b + vb) (h : uh = q * vt + r) : r * b + ul + q * V = U + q * vb := by
  subst hU hV h
  grind
theorem bz_lt1 {b U V vt vb uh ul q r : Nat} (hU : U = uh * b + ul) (hV : V = vt * b + vb) (h : uh = q * vt + r) (hr : r < vt) (hul : ul < b) : U < (q + 1) * V := by
  have h1 : (r + 1) * b ≤ vt * b := Nat.mul_le_mul_right _ hr
  have h2 : r * b + ul < vt * b := by rw [Nat.add_mul] at h1; omega
  have h3 : U + q * vb = r * b + ul + q * V := (bz_eq hU hV h).symm
  rw [Nat.add_mul]
  omega
theorem bz_half {b c V : Nat} (hb : b = 2 * c) (h : b * b ≤ 2 * V) (h0 : 0 < b) : b ≤ 2 * (V / b) := by
  have h1 := Nat.div_add_mod V b
  have h2 := Nat.mod_lt V h0
  have h3 : b * b < b * (2 * (V / b) + 2) := by rw [Nat.mul_add, Nat.mul_left_comm]; omega
  have h4 := Nat.lt_of_mul_lt_mul_left h3
  omega
theorem pow_even (k : Nat) (h : 0 < k) : (18446744073709551616 : Nat) ^ k = 2 * (9223372036854775808 * 18446744073709551616 ^ (k - 1)) := by
  obtain ⟨m, rfl⟩ : ∃ m, k = m + 1 := ⟨k - 1, by omega⟩
  rw [Nat.pow_succ, Nat.add_sub_cancel]
  omega
theorem top_trim {xs : List Nat} {n : Nat} (hl : xs.length = n) (hn : 0 < n) (hd : Dig 18446744073709551616 xs) (h : 18446744073709551616 ^ n ≤ 2 * val 18446744073709551616 xs) : trimL xs = xs := by
  refine trimL_of_ge (by omega) hd ?_
  obtain ⟨m, rfl⟩ : ∃ m, n = m + 1 := ⟨n - 1, by omega⟩
  rw [hl, Nat.add_sub_cancel]
  rw [Nat.pow_succ] at h
  omega
theorem top_word {xs : List Nat} {m : Nat} (hl : xs.length = m + 2) (hd : Dig 18446744073709551616 xs) (h : 18446744073709551616 ^ (m + 2) ≤ 2 * val 18446744073709551616 xs) : 0 < xs[m + 1] := by
  have h1 : val 18446744073709551616 xs = val 18446744073709551616 (xs.take (m + 1)) + 18446744073709551616 ^ (m + 1) * xs[m + 1] := by
    have := val_take_succ 18446744073709551616 xs (m + 1) (by omega)
    rwa [List.take_of_length_le (by omega)] at this
  have h2 := val_lt _ _ (hd.take_ (m + 1))
  rw [List.length_take, Nat.min_eq_left (by omega)] at h2
  rcases Nat.eq_zero_or_pos xs[m + 1] with h0 | h0
  · rw [h0, Nat.mul_zero] at h1
    rw [Nat.pow_succ _ (m + 1)] at h
    omega
  · exact h0
theorem num_drop {xs : List Nat} {n : Nat} (h : Num 18446744073709551616 xs n) (k : Nat) : Num 18446744073709551616 (trimL (xs.drop k)) (n / 18446744073709551616 ^ k) := by
  have h1 := Num.of_trim (h.1.drop_ k)
  rwa [val_drop (by omega) _ _ h.1, h.2.2] at h1
theorem num_take {xs : List Nat} {n : Nat} (h : Num 18446744073709551616 xs n) (k : Nat) : Num 18446744073709551616 (trimL (xs.take k)) (n % 18446744073709551616 ^ k) := by
  have h1 := Num.of_trim (h.1.take_ k)
  rwa [val_take_mod (by omega) _ _ h.1, h.2.2] at h1
theorem num_len {xs : List Nat} {n k : Nat} (h : Num 18446744073709551616 xs n) (hk : n < 18446744073709551616 ^ k) : xs.length ≤ k := by
  have := trimL_len_le (b := 18446744073709551616) (by omega) h.1 (by rw [h.2.2]; exact hk)
  rwa [h.2.1] at this

/-- A round of taking one too great a quotient back. -/
theorem bz_back {U V q P r r2 c : Nat} (h : r + q * V = U + P) (h2 : r2 + P * c = r + V) (hr : r < P) (hc : c ≤ 1) : 0 < q ∧ r2 + (q - 1) * V = U + P * (1 - c) ∧ U < q * V := by
  have hq : 0 < q := by
    rcases Nat.eq_zero_or_pos q with h0 | h0
    · subst h0; omega
    · exact h0
  obtain ⟨m, rfl⟩ : ∃ m, q = m + 1 := ⟨q - 1, by omega⟩
  rw [Nat.add_mul, Nat.one_mul] at h
  refine ⟨hq, ?_, ?_⟩
  · rw [Nat.add_sub_cancel]
    rcases Nat.eq_zero_or_pos c with h0 | h0
    · subst h0; simp only [Nat.mul_zero, Nat.add_zero, Nat.sub_zero, Nat.mul_one] at *; omega
    · obtain rfl : c = 1 := by omega
      simp only [Nat.mul_one, Nat.sub_self, Nat.mul_zero, Nat.add_zero] at *; omega
  · rw [Nat.add_mul, Nat.one_mul]; omega
theorem bz_done {U V q r : Nat} (h : r + q * V = U) (h2 : U < (q + 1) * V) : q = U / V ∧ r = U % V := by
  rw [Nat.add_mul, Nat.one_mul] at h2
  have hr : r < V := by omega
  have h3 : U = r + V * q := by rw [Nat.mul_comm]; exact h.symm
  subst h3
  rw [Nat.add_mul_div_left _ _ (by omega), Nat.div_eq_of_lt hr, Nat.add_mul_mod_self_left, Nat.mod_eq_of_lt hr]
  omega

/-- What the two divisions by halves answer. -/
def HalfOut (w w' : World) (U V : Nat) (e : Ending) : Prop :=
  ∃ qs rs Q cq R cr, e = .returned (.tuple #[.slice Q qs.length cq, .slice R rs.length cr]) ∧ Num 18446744073709551616 qs (U / V) ∧ Num 18446744073709551616 rs (U % V) ∧ qs.length ≤ cq ∧ rs.length ≤ cr ∧
    Rd w' w'.heap.size Q (u64s qs) ∧ Rd w' w'.heap.size R (u64s rs) ∧ (∀ g, g < w.heap.size → Rx w' g R (u64s rs)) ∧ Below w.heap.size w w'
def TwoOk (n : Nat) : Prop :=
  ∀ (A A2 : Option Addr) (c c2 : Nat) (us vs : List Nat) (U V : Nat) (w : World) (B : Nat), vs.length = n → Rd w B A (u64s us) → Rd w B A2 (u64s vs) → B ≤ w.heap.size → Num 18446744073709551616 us U → Dig 18446744073709551616 vs → val 18446744073709551616 vs = V → 18446744073709551616 ^ n ≤ 2 * V → U < V * 18446744073709551616 ^ n →
    us.length ≤ c → vs.length ≤ c2 → Calls Tryz.prog 191 #[.slice A us.length c, .slice A2 vs.length c2] w fun e w' => HalfOut w w' U V e
end
end Go.Proofs.YtadpelhmjmamnaaGreatDoor
