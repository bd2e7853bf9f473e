/- The contract of unshiftWords. The contracts of raise, greatest, cut, compareWords and join. The contract of joined. append of so many noughts (of a made row) onto a row of one'. -/
import Derived.Test.YtbcphifjcaobfaaGreatDoorPkRp9
import Derived.Test.YtbcphifjcaobfaaGreatDoorPkRp7
import Derived.Test.YtbcphifjcaobfaaGreatDoorPkRp1
import Derived.Maps.AppendAt
import Derived.ArgAppend
namespace Go.Proofs.YtbcphifjcaobfaaGreatDoor
section
open Go.RowKit
structure Down (us : List Nat) (n m k : Nat) (zs : List Nat) : Prop where
 len : zs.length = us.length
 dig : Dig 18446744073709551616 zs
 sum : val 18446744073709551616 zs = val 18446744073709551616 (us.take k) / 2 ^ n
 low : ∀ j (h : j < zs.length), k = j + 1 → zs[j] < 2 ^ m
 zero : ∀ j (h : j < zs.length), k ≤ j → zs[j] = 0
theorem Down.start (us : List Nat) (n m : Nat) : Down us n m 0 (List.replicate us.length 0) :=
 ⟨by simp, Dig.zeros_ (by omega) _, by rw [val_zeros]; simp [val], fun j h e => by omega, fun j h _ => by simp⟩
theorem Down.first {us zs : List Nat} {n m : Nat} (h : Down us n m 0 zs) (hnm : n + m = 64) (hk : 0 < us.length) (hx : us[0] < 18446744073709551616) : Down us n m (0 + 1) (zs.set 0 (us[0] / 2 ^ n)) := by
 have hl := h.len
 have e1 := val_set 18446744073709551616 zs 0 (us[0] / 2 ^ n) (by omega)
 rw [h.zero 0 (by omega) nl9, Nat.mul_zero, Nat.add_zero] at e1
 refine ⟨by rw [List.length_set]; exact hl, h.dig.set_ 0 _ (Nat.lt_of_le_of_lt (Nat.div_le_self _ _) hx), ?_, fun j hj e => ?_, fun j hj hkj => ?_⟩
 ·rw [e1, h.sum, val_take_succ _ _ _ hk]
  simp [val]
 ·obtain rfl : j = 0 := by omega
  rw [List.getElem_set_self]
  exact shr_lt (by omega) hx
 ·rw [List.length_set] at hj
  rw [List.getElem_set_ne (by omega)]
  exact h.zero j hj (by omega)
theorem Down.step {us zs : List Nat} {n m k : Nat} (h : Down us n m (k + 1) zs) (hnm : n + m = 64) (hk : k + 1 < us.length) (hz : k < zs.length) (hx : us[k + 1] < 18446744073709551616) :
  Down us n m (k + 1 + 1) ((zs.set (k + 1) (us[k + 1] / 2 ^ n)).set k (zs[k] + us[k + 1] * 2 ^ m % 18446744073709551616)) := by
 have h1 := h.low k hz rfl
 have h2 := lo_lt (x := us[k + 1]) (n := m) (m := n) (by omega) h1
 have h3 := shr_lt (n := m) (m := n) (by omega) hx
 have hl := h.len
 have hk1 : k + 1 < zs.length := by omega
 have e1 := val_set 18446744073709551616 zs (k + 1) (us[k + 1] / 2 ^ n) hk1
 rw [h.zero (k + 1) hk1 nl9, Nat.mul_zero, Nat.add_zero] at e1
 have e2 := val_set 18446744073709551616 (zs.set (k + 1) (us[k + 1] / 2 ^ n)) k (zs[k] + us[k + 1] * 2 ^ m % 18446744073709551616) (by rw [List.length_set]; exact hz)
 rw [List.getElem_set_ne (by omega), Nat.mul_add] at e2
 have e3 := (shl_split us[k + 1] m n (by omega)).1
 refine ⟨by rw [List.length_set, List.length_set]; exact hl, (h.dig.set_ (k + 1) _ (Nat.lt_of_le_of_lt (Nat.div_le_self _ _) hx)).set_ k _ h2, ?_, fun j hj e => ?_, fun j hj hkj => ?_⟩
 ·have hW : (18446744073709551616 : Nat) = 2 ^ n * 2 ^ m := by rw [← Nat.pow_add, hnm]
  have e5 : val 18446744073709551616 (us.take (k + 1 + 1)) = val 18446744073709551616 (us.take (k + 1)) + 2 ^ n * (18446744073709551616 ^ k * (us[k + 1] * 2 ^ m)) := by
   rw [val_take_succ _ _ _ hk]
   congr 1
   rw [Nat.pow_succ]
   conv => lhs; rw [show (18446744073709551616 : Nat) ^ k * 18446744073709551616 = 18446744073709551616 ^ k * (2 ^ n * 2 ^ m) from by rw [← hW]]
   rw [Nat.mul_left_comm (2 ^ n), Nat.mul_assoc, Nat.mul_assoc, Nat.mul_comm (2 ^ m)]
  have e6 : 18446744073709551616 ^ k * (us[k + 1] * 2 ^ m) = 18446744073709551616 ^ k * (us[k + 1] * 2 ^ m % 18446744073709551616) + 18446744073709551616 ^ (k + 1) * (us[k + 1] / 2 ^ n) := by
   conv => lhs; rw [e3]
   rw [Nat.mul_add, Nat.pow_succ, Nat.mul_assoc]
  rw [e5, Nat.add_mul_div_left _ _ (Nat.two_pow_pos n), ← h.sum, e6]
  omega
 ·obtain rfl : j = k + 1 := by omega
  rw [List.getElem_set_ne (by omega), List.getElem_set_self]
  exact h3
 ·rw [List.length_set, List.length_set] at hj
  rw [List.getElem_set_ne (by omega), List.getElem_set_ne (by omega)]
  exact h.zero j hj (by omega)
theorem or_zero_u64 (x : Nat) (h : x < 18446744073709551616) : bits BinOp.or IntKind.u64 (0 : Int) (x : Int) = (x : Int) := by
 have := u64_or_nat 0 x (by omega) h
 rw [show ((0 : Nat) : Int) = 0 from rfl] at this
 rw [this, Nat.zero_or]
set_option maxRecDepth 20000 in
set_option maxHeartbeats 1600000 in
theorem unshiftWords_any (A : Option Addr) (c n : Nat) (us : List Nat) (w : World) (B : Nat) (hr : Rd w B A (u64s us)) (hB : B ≤ w.heap.size) (hd : Dig 18446744073709551616 us) (hm : us.length ≤ 35184372088800) (hn : n < 64) :
  Calls Tryz.prog 177 #[.slice A us.length c, .int .u64 (n : Int)] w fun e w' => Words w w' us.length (val 18446744073709551616 us / 2 ^ n) e := by
 have hmk := fun W => mk64 us.length (by omega) W
 obtain ⟨m, hmn⟩ : ∃ m, m = 64 - n := ⟨_, rfl⟩
 have hnm : n + m = 64 := by omega
 have hm64 : m ≤ 64 := by omega
 have e64 : (64 : Int) - (n : Int) = (m : Int) := by omega
 have e64w : IntKind.u64.wrap ((64 : Int) - (n : Int)) = (m : Int) := by rw [IntKind.wrap_u64]; omega
 have Hrep : Hid (∀ k : Nat, (List.replicate k (Value.int .u64 0)).toArray = (u64s (List.replicate k 0)).toArray) := fun k => by simp [u64s]
 clear hmn
 go_enter Tryz.func177, Tryz.ntmps177
 go_wp2_with fail
 go_loopw [6, 7, 13] (fun _ _ i wr => ∃ (k : Nat) (zs : List Nat), k ≤ us.length ∧ i = .int .i64 (k : Int) ∧ Hid (Down us n m k zs) ∧ Blk wr w.heap.size 116 (u64s zs) ∧ Below w.heap.size w wr) (fun _ _ i _ => us.length - (intOf i).toNat)
 case atStart => exact ⟨0, List.replicate us.length 0, by omega, rfl, Down.start us n m, Blk.new_ (Hrep.out _), br9.alloc nl9 _⟩
 case round =>
  obtain ⟨k, zs, hk, rfl, hup, hblk, hbel⟩ := hrel
  have hzl := hup.out.len
  by_cases hlt : k < us.length
  ·obtain ⟨b, off, rfl, hb, hx⟩ := hr.at64 hlt
   have hx := (hbel.cell (p := ⟨b, off + k, none⟩) (show b < _ by omega)).trans hx
   have hxd := hd.at_ k hlt
   have hz : k < zs.length := by omega
   have c1 := hblk.cell k
   rw [u64s_at hz, hup.out.zero k hz nl9] at c1
   have f1 := hblk.frozen k
   have hbne : b ≠ w.heap.size := by omega
   have hsr := shr_nat2 us[k] n
   have htx : us[k] / 2 ^ n < 18446744073709551616 := Nat.lt_of_le_of_lt (Nat.div_le_self _ _) hxd
   have hor1 := or_zero_u64 _ htx
   have hset1 := hblk.set_ k (.int .u64 ((us[k] / 2 ^ n : Nat) : Int))
   have hbel1 := hbel.setCell (p := ⟨w.heap.size, k, none⟩) nl9 (.int .u64 ((us[k] / 2 ^ n : Nat) : Int))
   rw [u64s_set] at hset1
   by_cases h0 : k = 0
   ·subst h0
    have hstep := hi9 (hup.out.first hnm hlt hxd)
    obtain ⟨x, hxe⟩ : ∃ x, x = us[0] := ⟨_, rfl⟩
    rw [← hxe] at hx hxd hsr hor1 hset1 hbel1 hstep htx
    rw [Nat.add_zero] at hx
    obtain ⟨t, ht⟩ := nameIt (x / 2 ^ n)
    rw [← ht] at hsr hor1 hset1 hbel1 hstep htx
    have Hset := hi9 hset1
    have Hbel := hi9 hbel1
    clear hset1 hbel1 hxe ht hup hbel hmk
    go_wp2_with (first | (simp only [hsr]) | (simp only [hor1]))
    go_roundw
    case rel => exact ⟨0 + 1, _, by omega, by go_num, hstep, Hset.out, Hbel.out⟩
    case measure => simp [intOf]; omega
   ·obtain ⟨j, rfl⟩ : ∃ j, k = j + 1 := ⟨k - 1, by omega⟩
    have hzj : j < zs.length := by omega
    have hlow := hup.out.low j hzj rfl
    have hstep := hi9 (hup.out.step hnm hlt hzj hxd)
    have hyd := hup.out.dig.at_ j hzj
    have hor := shl_or zs[j] us[j + 1] m n (by omega) hlow hyd
    have hlo := lo_lt (x := us[j + 1]) (n := m) (m := n) (by omega) hlow
    have c2 := hset1.cell j
    rw [u64s_at (by rw [List.length_set]; exact hzj), List.getElem_set_ne (by omega)] at c2
    have f2 := hset1.frozen j
    have f3 := hblk.frozen j
    have c3 := hblk.cell j
    rw [u64s_at hzj] at c3
    obtain ⟨y, hy⟩ : ∃ y, y = zs[j] := ⟨_, rfl⟩
    obtain ⟨x, hxe⟩ : ∃ x, x = us[j + 1] := ⟨_, rfl⟩
    rw [← hy, ← hxe] at hor hstep hlo
    rw [← hy] at c2 c3 hyd
    rw [← hxe] at hx hxd hsr hor1 hset1 hbel1 htx c2 f2
    obtain ⟨t, ht⟩ := nameIt (x / 2 ^ n)
    rw [← ht] at hsr hor1 hset1 hbel1 hstep htx c2 f2
    obtain ⟨s, hs⟩ := nameIt (y + x * 2 ^ m % 18446744073709551616)
    rw [← hs] at hor hstep hlo
    have hset2 := hset1.set_ j (.int .u64 (s : Int))
    rw [u64s_set] at hset2
    have Hset := hi9 hset2
    have Hbel := hi9 (hbel1.setCell (p := ⟨w.heap.size, j, none⟩) nl9 (.int .u64 (s : Int)))
    have i0 : decide ((0 : Int) < (j : Int) + 1) = true := decide_eq_true (by omega)
    clear hset1 hset2 hbel1 hxe hy ht hs hlow hup hbel hmk
    go_wp2_with (first | (simp only [hsr]) | (simp only [hor1]) | (simp only [hor]) | (simp only [e64w]) | (simp only [e64]) | (simp only [i0]))
    go_roundw
    case rel => exact ⟨j + 1 + 1, _, by omega, by go_num, hstep, Hset.out, Hbel.out⟩
    case measure => simp [intOf]; omega
  ·obtain rfl : k = us.length := by omega
   have hsum := hup.out.sum
   rw [List.take_length] at hsum
   have Hsum := hi9 hsum
   clear hsum hmk
   go_wp2_with fail
   go_ret
   exact ⟨zs, w.heap.size, by rw [hzl]; rfl, hzl, hup.out.dig, Hsum.out, Nat.le_refl _, hblk, hbel⟩
end
section
open Go.RowKit
theorem patch_high (n m : Nat) (hi : List Nat) (h : hi.length = m) : patch (List.replicate (n + m) 0) n hi = List.replicate n 0 ++ hi := by
 subst h
 simp [patch, List.drop_replicate, List.take_replicate]
theorem patch_nil (L : List Nat) (o : Nat) : patch L o [] = L := by simp [patch]
theorem u64s_nn {us : List Nat} (h : us ≠ []) : u64s us ≠ [] := by simpa [u64s] using h
theorem len_pos {us : List Nat} (h : us ≠ []) : 0 < us.length := by
 cases us with
 | nil => exact absurd rfl h
 | cons _ _ => simp
set_option maxHeartbeats 1600000 in
theorem raise_any (A : Option Addr) (c n : Nat) (us : List Nat) (w : World) (B : Nat) (hr : Rd w B A (u64s us)) (hB : B ≤ w.heap.size) (hd : Dig 18446744073709551616 us) (hm : n + us.length ≤ 35184372088000) (hne : us ≠ []) :
  Calls Tryz.prog 202 #[.slice A us.length c, .int .i64 (n : Int)] w fun e w' => Words w w' (n + us.length) (18446744073709551616 ^ n * val 18446744073709551616 us) e := by
 have hmk := fun W => mk64a n us.length (by omega) W
 have hl := len_pos hne
 have j1 : ¬ (n + us.length = n) := by omega
 have j2 : ¬ (us.length = 0) := by omega
 obtain ⟨b, off, rfl, hbB, hcell⟩ := hr (u64s_nn hne)
 go_enter Tryz.func202, Tryz.ntmps202
 go_wp2_with ((with_reducible refine wpList_copy_splice (o := ⟨some 15, _, _, _, _, _⟩) rfl _ _ _ _ rfl 116 Tryz.underlying132 ?u1 _ _ _ _ _ _ rfl rfl w.heap.size n (u64s (List.replicate (n + us.length) 0)) 116 ?c1 (u64s us) ?c2 ?c3 ?c4 ?c5 w.heap.size w ?c6 nl9 ?_); rotate_right; intro w2 hg2 hb2)
 case u1 => kernel_rfl
 case c1 => exact Blk.new_ (by simp [u64s])
 case c2 => rw [u64s_length]; simp
 case c3 =>
  intro _ j v hv
  rw [World.cell?_alloc_past _ _ _ (by show b < _; omega)]
  exact hcell j v hv
 case c4 => rw [u64s_length, u64s_length, List.length_replicate]; omega
 case c5 => exact one_u64s us
 case c6 => exact br9.alloc nl9 _
 have hg3 : Blk w2 w.heap.size 116 (u64s (List.replicate n 0 ++ us)) := by
  have e : splice (u64s (List.replicate (n + us.length) 0)) n (u64s us) = u64s (List.replicate n 0 ++ us) := by
   rw [u64s_splice, patch_high n us.length us rfl]
  rw [← e]; exact hg2.out
 clear hmk hg2
 go_ret
 exact ⟨List.replicate n 0 ++ us, w.heap.size, by simp, by simp, (Dig.zeros_ (by omega) _).append_ hd, by rw [val_append, val_zeros, List.length_replicate, Nat.zero_add], Nat.le_refl _, hg3, hb2⟩
theorem greatest_val (n : Nat) : val 18446744073709551616 (List.replicate n 18446744073709551615) = 18446744073709551616 ^ n - 1 := by
 induction n with
 | zero => rfl
 | succ n ih =>
  have := Nat.pow_pos (n := n) (show 0 < 18446744073709551616 by omega)
  rw [List.replicate_succ]
  simp only [val]
  rw [ih, Nat.pow_succ]
  omega
theorem ones_set {n k : Nat} (h : k < n) : (List.replicate k 18446744073709551615 ++ List.replicate (n - k) 0).set k 18446744073709551615 = List.replicate (k + 1) 18446744073709551615 ++ List.replicate (n - (k + 1)) 0 := by
 obtain ⟨m, hm⟩ : ∃ m, n - k = m + 1 := ⟨n - k - 1, by omega⟩
 rw [hm, show n - (k + 1) = m from by omega, List.set_append_right _ _ (by simp), List.length_replicate, Nat.sub_self, List.replicate_succ (n := m), List.set_cons_zero, List.replicate_succ' (n := k), List.append_assoc]
 rfl
theorem dig_ones (n : Nat) : Dig 18446744073709551616 (List.replicate n 18446744073709551615) := fun y hy => by rw [(List.mem_replicate.1 hy).2]; omega
set_option maxHeartbeats 1600000 in
theorem greatest_any (n : Nat) (w : World) (hm : n ≤ 35184372088832) :
  Calls Tryz.prog 218 #[.int .i64 (n : Int)] w fun e w' => Words w w' n (18446744073709551616 ^ n - 1) e := by
 have hmk := fun W => mk64 n hm W
 go_enter Tryz.func218, Tryz.ntmps218
 go_wp2_with fail
 go_loopw [4, 9] (fun _ i wr => ∃ k : Nat, k ≤ n ∧ i = .int .i64 (k : Int) ∧ Blk wr w.heap.size 116 (u64s (List.replicate k 18446744073709551615 ++ List.replicate (n - k) 0)) ∧ Below w.heap.size w wr) (fun _ i _ => n - (intOf i).toNat)
 case atStart => exact ⟨0, by omega, rfl, Blk.new_ (by simp [u64s]), br9.alloc nl9 _⟩
 case round =>
  obtain ⟨k, hk, rfl, hblk, hbel⟩ := hrel
  by_cases hlt : k < n
  ·obtain ⟨vv, hcc⟩ : ∃ vv, wr.cell? ⟨w.heap.size, k, none⟩ = some vv := ⟨_, (hblk.cell k).trans (u64s_at (by simp; omega))⟩
   have hf := hblk.frozen k
   have hset := hblk.set_ k (.int .u64 ((18446744073709551615 : Nat) : Int))
   rw [u64s_set, ones_set hlt] at hset
   have Hset := hi9 hset
   clear hset
   go_wp2_with fail
   go_roundw
   case rel => exact ⟨k + 1, by omega, by go_num, Hset.out, hbel.setCell (p := ⟨w.heap.size, k, none⟩) nl9 _⟩
   case measure => simp [intOf]; omega
  ·obtain rfl : k = n := by omega
   rw [Nat.sub_self, List.replicate_zero, List.append_nil] at hblk
   go_wp2_with fail
   go_ret
   exact ⟨List.replicate k 18446744073709551615, w.heap.size, by simp, by simp, dig_ones k, greatest_val k, Nat.le_refl _, hblk, hbel⟩
theorem cut_nil {us : List Nat} {f t : Nat} (h : min t us.length ≤ f) : (us.take t).drop f = [] := by
 apply List.drop_eq_nil_of_le
 rw [List.length_take]; exact h
set_option maxHeartbeats 1600000 in
theorem cut_any (A : Option Addr) (c f t : Nat) (us : List Nat) (w : World) (B : Nat) (hr : Rd w B A (u64s us)) (hc : us.length ≤ c) (hm : us.length ≤ 281474976710656) :
  Calls Tryz.prog 205 #[.slice A us.length c, .int .i64 (f : Int), .int .i64 (t : Int)] w fun e w' => ∃ A' c', e = .returned (.slice A' (trimL ((us.take t).drop f)).length c') ∧ Rd w B A' (u64s (trimL ((us.take t).drop f))) ∧ (trimL ((us.take t).drop f)).length ≤ c' ∧ w = w' := by
 obtain ⟨T, hT⟩ : ∃ T, T = min t us.length := ⟨_, rfl⟩
 have hmin : min (t : Int) (us.length : Int) = (T : Int) := by omega
 have hTl : T ≤ us.length := by omega
 rcases Nat.lt_or_ge f T with hlt | hge
 ·have t1 : decide ((T : Int) ≤ (f : Int)) = false := by simp; omega
  have t2 : decide (T ≤ f) = false := by simp; omega
  have hl : ((us.take t).drop f).length = T - f := by rw [List.length_drop, List.length_take, ← hT]
  have hne : us ≠ [] := by rintro rfl; simp at hTl; omega
  obtain ⟨b, off, rfl, hbB, _⟩ := hr (u64s_nn hne)
  have hr2 : Rd w B (some ⟨b, off + f, none⟩) (u64s ((us.take t).drop f)) := (hr.takeN t).drop_ f
  have htw := trimWords_any (some ⟨b, off + f, none⟩) (c - f) ((us.take t).drop f) w B hr2 (by omega) (by omega)
  rw [hl] at htw
  have hr3 : Rd w B (some ⟨b, off + f, none⟩) (u64s (trimL ((us.take t).drop f))) := by rw [u64s_trim]; exact hr2.take _
  have hlt2 := trimL_length_le ((us.take t).drop f)
  rw [hl] at hlt2
  obtain ⟨zs, hz⟩ : ∃ zs, zs = trimL ((us.take t).drop f) := ⟨_, rfl⟩
  rw [← hz] at htw hr3 hlt2 ⊢
  have Htw := hi9 htw
  have i1 : (f : Int) ≤ (T : Int) := by omega
  have i2 : (T : Int) ≤ (c : Int) := by omega
  have i3 : f ≤ T := by omega
  have i4 : ¬ (c = f) := by omega
  clear htw hz hT hr hr2 hl hne
  go_enter Tryz.func205, Tryz.ntmps205
  go_wp2_with (first | (simp only []) | (go_at_call 157; (with_reducible refine Htw.out.mono ?_); rintro e w' ⟨rfl, rfl⟩))
  go_ret
  exact ⟨_, c - f, rfl, hr3, by omega, rfl⟩
 ·have t1 : decide ((T : Int) ≤ (f : Int)) = true := by simp; omega
  have t2 : decide (T ≤ f) = true := by simp; omega
  rw [cut_nil (by omega)]
  clear hr
  go_enter Tryz.func205, Tryz.ntmps205
  go_wp2_with (simp only [hmin])
  go_ret
  exact ⟨none, 0, rfl, Rd.nil_, by simp [trimL], rfl⟩
set_option maxHeartbeats 1600000 in
theorem cmpW_any (A A2 : Option Addr) (c c2 : Nat) (ps qs : List Nat) (m n : Nat) (w : World) (B : Nat) (hrt : Rd w B A (u64s ps)) (hrt2 : Rd w B A2 (u64s qs)) (hn1 : Num 18446744073709551616 ps m) (hn2 : Num 18446744073709551616 qs n) (_ : ps.length ≤ c) (_ : qs.length ≤ c2) (hm : ps.length ≤ 281474976710656) (_ : qs.length ≤ 281474976710656) :
  Calls Tryz.prog 179 #[.slice A ps.length c, .slice A2 qs.length c2] w fun e w' => e = .returned (.int .i64 (cmpN m n)) ∧ Dr w w' := by
 rcases Nat.lt_trichotomy ps.length qs.length with hlt | heq | hgt
 ·have hv : m < n := val_lt_len (by omega) hn1 hn2 hlt
  have e1 : cmpN m n = -1 := by simp [cmpN, hv]
  have He1 := hi9 e1
  have t1 : ((ps.length : Int) != (qs.length : Int)) = true := by rw [bne_iff_ne]; omega
  clear e1 hv
  go_enter Tryz.func179, Tryz.ntmps179
  go_wp2_with (go_at_call 130; (with_reducible refine (order_any _ _).mono ?_); rintro e w' ⟨rfl, rfl⟩)
  go_ret
  exact ⟨by rw [He1.out]; rfl, Dr.refl _⟩
 ·have t1 : ((ps.length : Int) != (qs.length : Int)) = false := by rw [bne_eq_false_iff_eq]; omega
  have Heq := hi9 heq
  clear heq
  go_enter Tryz.func179, Tryz.ntmps179
  go_wp2_with (go_at_call 130; (with_reducible refine (order_any _ _).mono ?_); rintro e w' ⟨rfl, rfl⟩)
  go_loopw [5] (fun i wr => ∃ k : Nat, k ≤ ps.length ∧ i = .int .i64 ((k : Int) - 1) ∧ (∀ j (h : j < ps.length) (h2 : j < qs.length), k ≤ j → ps[j] = qs[j]) ∧ Dr w wr) (fun i _ => (intOf i + 1).toNat)
  case atStart => exact ⟨ps.length, Nat.le_refl _, rfl, fun j h _ hj => by omega, Dr.refl _⟩
  case round =>
   obtain ⟨k, hk, rfl, hs, hdr⟩ := hrel
   rcases k with _ | k
   ·go_wp2
    go_ret
    have e : ps = qs := List.ext_getElem Heq.out (fun j h1 h2 => hs j h1 h2 (Nat.zero_le _))
    have e2 : m = n := by rw [← hn1.2.2, ← hn2.2.2, e]
    exact ⟨by rw [e2]; simp [cmpN], hdr⟩
   ·have hk2 : k < qs.length := by have := Heq.out; omega
    obtain ⟨b, off, rfl, hb, hcell⟩ := hrt (by intro e; have := u64s_length ps; rw [e] at this; simp at this; omega)
    obtain ⟨b2, off2, rfl, hb2, hcell2⟩ := hrt2 (by intro e; have := u64s_length qs; rw [e] at this; simp at this; omega)
    have hx := hcell k _ (u64s_at (by omega))
    have hy := hcell2 k _ (u64s_at hk2)
    rw [show ((k + 1 : Nat) : Int) - 1 = (k : Int) from by omega]
    have hx := ((hdr.below B).cell (p := ⟨b, off + k, none⟩) hb).trans hx
    have hy := ((hdr.below B).cell (p := ⟨b2, off2 + k, none⟩) hb2).trans hy
    clear hcell hcell2 hrt hrt2
    rcases Nat.lt_trichotomy ps[k] qs[k] with hlt | he | hgt
    ·have hv : m < n := by
      rw [← hn1.2.2, ← hn2.2.2]
      exact val_cmp_top _ ps qs hn1.1 Heq.out k (by omega) (fun i h hki => hs i h (by have := Heq.out; omega) hki) hlt
     have e1 : cmpN m n = -1 := by simp [cmpN, hv]
     have He1 := hi9 e1
     have t2 : ((ps[k] : Int) != (qs[k] : Int)) = true := by rw [bne_iff_ne]; omega
     have t3 : decide (ps[k] < qs[k]) = true := by simp; omega
     clear e1 hv hs
     go_wp2
     go_quiet (fail)
     go_wp2
     go_quiet ((go_at_call 130; first | exact quietL (order_any _ _) | exact quietAddL (order_any _ _)))
     go_wp2
     go_ret
     exact ⟨by rw [He1.out]; rfl, by first | exact hdr.step _ | exact (hdr.step _).step _⟩
    ·have t2 : ((ps[k] : Int) != (qs[k] : Int)) = false := by rw [bne_eq_false_iff_eq]; omega
     have Hs : Hid (∀ j (h : j < ps.length) (h2 : j < qs.length), k ≤ j → ps[j] = qs[j]) := fun j h h2 hkj => by
      by_cases e : k = j
      ·subst e; exact he
      ·exact hs j h h2 (by omega)
     clear hs he
     go_wp2
     go_quiet (fail)
     go_wp2
     go_roundw
     case rel => exact ⟨k, by omega, by go_num, Hs.out, hdr.step _⟩
     case measure => simp [intOf]
    ·have hv : n < m := by
      rw [← hn1.2.2, ← hn2.2.2]
      exact val_cmp_top _ qs ps hn2.1 Heq.out.symm k hk2 (fun i h hki => (hs i (by have := Heq.out; omega) h hki).symm) hgt
     have e1 : cmpN m n = 1 := by simp [cmpN, hv]; omega
     have He1 := hi9 e1
     have t2 : ((ps[k] : Int) != (qs[k] : Int)) = true := by rw [bne_iff_ne]; omega
     have t3 : decide (ps[k] < qs[k]) = false := by simp; omega
     clear e1 hv hs
     go_wp2
     go_quiet (fail)
     go_wp2
     go_quiet ((go_at_call 130; first | exact quietL (order_any _ _) | exact quietAddL (order_any _ _)))
     go_wp2
     go_ret
     exact ⟨by rw [He1.out]; rfl, by first | exact hdr.step _ | exact (hdr.step _).step _⟩
 ·have hv : n < m := val_lt_len (by omega) hn2 hn1 hgt
  have e1 : cmpN m n = 1 := by simp [cmpN, hv]; omega
  have He1 := hi9 e1
  have t1 : ((ps.length : Int) != (qs.length : Int)) = true := by rw [bne_iff_ne]; omega
  clear e1 hv
  go_enter Tryz.func179, Tryz.ntmps179
  go_wp2_with (go_at_call 130; (with_reducible refine (order_any _ _).mono ?_); rintro e w' ⟨rfl, rfl⟩)
  go_ret
  exact ⟨by rw [He1.out]; rfl, Dr.refl _⟩
end
section
open Go.RowKit
def JoinOut (w w' : World) (N v : Nat) (e : Ending) : Prop :=
 ∃ ys g, e = .returned (.slice (some ⟨g, 0, none⟩) (trimL ys).length ys.length) ∧ ys.length = N ∧ Dig 18446744073709551616 ys ∧ val 18446744073709551616 ys = v ∧ w.heap.size ≤ g ∧ Blk w' g 116 (u64s ys) ∧ Below w.heap.size w w'
theorem join_low (n m : Nat) (lo : List Nat) (h : lo.length ≤ n) : patch (List.replicate (n + m) 0) 0 lo = lo ++ List.replicate (n - lo.length) 0 ++ List.replicate m 0 := by
 simp [patch, List.drop_replicate]
 omega
theorem join_high (n : Nat) (lo hi : List Nat) (h : lo.length ≤ n) : patch (lo ++ List.replicate (n - lo.length) 0 ++ List.replicate hi.length 0) n hi = lo ++ List.replicate (n - lo.length) 0 ++ hi := by
 have e : (lo ++ List.replicate (n - lo.length) 0).length = n := by simp; omega
 unfold patch
 rw [List.take_left' e, List.drop_of_length_le (by simp; omega), List.append_nil]
theorem join_val (n : Nat) (lo hi : List Nat) (h : lo.length ≤ n) : val 18446744073709551616 (lo ++ List.replicate (n - lo.length) 0 ++ hi) = val 18446744073709551616 lo + 18446744073709551616 ^ n * val 18446744073709551616 hi := by
 have e : (lo ++ List.replicate (n - lo.length) 0).length = n := by simp; omega
 rw [val_append, val_append, val_zeros, Nat.mul_zero, Nat.add_zero, e]
set_option maxHeartbeats 1600000 in
theorem joined_any (A A2 : Option Addr) (c c2 n : Nat) (lo hi : List Nat) (w : World) (B : Nat) (hr : Rd w B A (u64s lo)) (hr2 : Rd w B A2 (u64s hi)) (hB : B ≤ w.heap.size) (hd : Dig 18446744073709551616 lo) (hd2 : Dig 18446744073709551616 hi) (hn : lo.length ≤ n) (h0 : 0 < n) (hm : n + hi.length ≤ 35184372088000) :
  Calls Tryz.prog 204 #[.slice A lo.length c, .slice A2 hi.length c2, .int .i64 (n : Int)] w fun e w' => JoinOut w w' (n + hi.length) (val 18446744073709551616 lo + 18446744073709551616 ^ n * val 18446744073709551616 hi) e := by
 have hmk := fun W => mk64a n hi.length (by omega) W
 have hmin : min lo.length (n + hi.length) = lo.length := by omega
 have j0 : ¬ (n + hi.length = 0) := by omega
 by_cases hne : hi = []
 ·have hl0 : hi.length = 0 := by rw [hne]; rfl
  have hmk0 := fun W => mk64 n (by omega) W
  have hmin0 : min lo.length n = lo.length := by omega
  rw [hl0, Nat.add_zero]
  have hv : val 18446744073709551616 hi = 0 := by rw [hne]; rfl
  rw [hv, Nat.mul_zero, Nat.add_zero]
  clear hmk hmin j0 hr2
  go_enter Tryz.func204, Tryz.ntmps204
  go_upto_region 3 with ((with_reducible refine wpList_copy_splice (o := ⟨some 15, _, _, _, _, _⟩) rfl _ _ _ _ rfl 116 Tryz.underlying132 ?u1 _ _ _ _ _ _ rfl rfl w.heap.size 0 (u64s (List.replicate n 0)) 116 ?c1 (u64s lo) ?c2 ?c3 ?c4 ?c5 w.heap.size w ?c6 nl9 ?_); rotate_right; intro w2 hg2 hb2)
  case u1 => kernel_rfl
  case c1 => exact Blk.new_ (by simp [u64s])
  case c2 => rw [u64s_length]; first | exact (Nat.min_eq_left (by omega)).symm | exact (Nat.min_eq_right (by omega)).symm
  case c3 =>
   intro hp
   have hne : u64s lo ≠ [] := by intro e; rw [e] at hp; simp at hp
   obtain ⟨b, off, rfl, hbB, hcell⟩ := hr hne
   refine ⟨_, rfl, fun j v hv => ?_⟩
   rw [add_none]
   rw [World.cell?_alloc_past _ _ _ (by show b < _; omega)]
   exact hcell j v hv
  case c4 => rw [u64s_length, u64s_length, List.length_replicate]; omega
  case c5 => exact one_u64s lo
  case c6 => exact br9.alloc nl9 _
  have hg3 : Blk w2 w.heap.size 116 (u64s (lo ++ List.replicate (n - lo.length) 0)) := by
   have h9 := hg2.out
   have e := join_low n 0 lo hn
   rw [Nat.add_zero, List.replicate_zero, List.append_nil] at e
   rwa [u64s_splice, e] at h9
  clear hg2 hmk0
  obtain ⟨ys, hys⟩ : ∃ ys, ys = lo ++ List.replicate (n - lo.length) 0 := ⟨_, rfl⟩
  rw [← hys] at hg3
  have hyl : ys.length = n := by rw [hys]; simp; omega
  have hyd : Dig 18446744073709551616 ys := by rw [hys]; exact hd.append_ (Dig.zeros_ (by omega) _)
  have hyv : val 18446744073709551616 ys = val 18446744073709551616 lo := by rw [hys, val_append, val_zeros, Nat.mul_zero, Nat.add_zero]
  clear hys
  go_upto_region 4 with ((with_reducible refine wpList_copy_splice (o := ⟨some 20, _, _, _, _, _⟩) rfl _ _ _ _ rfl 116 Tryz.underlying132 ?u1 _ _ _ _ _ _ rfl rfl w.heap.size 0 (u64s ys) 116 ?d1 (u64s []) ?d2 ?d3 ?d4 ?d5 w.heap.size w ?d6 nl9 ?_); rotate_right; intro w3 hg4 hb3)
  case u1 => kernel_rfl
  case d1 => exact hg3
  case d2 => simp [u64s]
  case d3 => simp [u64s]
  case d4 => simp [u64s]
  case d5 => exact one_u64s []
  case d6 => exact hb2
  have hg5 : Blk w3 w.heap.size 116 (u64s ys) := by
   have h9 := hg4.out
   rwa [u64s_splice, patch_nil] at h9
  have Htw : Hid (∀ W, Dr w3 W → Calls Tryz.prog 157 #[.slice (some ⟨w.heap.size, 0, none⟩) n n] W fun e w' => e = .returned (.slice (some ⟨w.heap.size, 0, none⟩) (trimL ys).length n) ∧ W = w') := fun W hW => by
   have hW3 := hg5.below (hW.below _) hg5.lt
   have := trimWords_any (some ⟨w.heap.size, 0, none⟩) n ys W W.heap.size (Rd.of_blk hW3 hW3.lt 0 (fun k v hv => by rw [Nat.zero_add]; exact hv)) (by omega) (by omega)
   rwa [hyl] at this
  have Hyv := hi9 hyv
  have Hyl := hi9 hyl
  clear hg4 hyv hyl hg3
  go_wp2_with (go_at_call 157; (with_reducible refine (Htw.out _ (Dr.refl _)).mono ?_); rintro e w4 ⟨rfl, rfl⟩)
  go_ret
  exact ⟨ys, w.heap.size, by rw [Hyl.out]; rfl, Hyl.out, hyd, Hyv.out, Nat.le_refl _, hg5, hb3⟩
 ·have hl := len_pos hne
  have j1 : ¬ (n + hi.length = n) := by omega
  have j2 : (n : Int) ≤ (n : Int) + (hi.length : Int) := by omega
  have j3 : n ≤ n + hi.length := by omega
  obtain ⟨b2, off2, rfl, hbB2, hcell2⟩ := hr2 (u64s_nn hne)
  go_enter Tryz.func204, Tryz.ntmps204
  go_upto_region 3 with ((with_reducible refine wpList_copy_splice (o := ⟨some 15, _, _, _, _, _⟩) rfl _ _ _ _ rfl 116 Tryz.underlying132 ?u1 _ _ _ _ _ _ rfl rfl w.heap.size 0 (u64s (List.replicate (n + hi.length) 0)) 116 ?c1 (u64s lo) ?c2 ?c3 ?c4 ?c5 w.heap.size w ?c6 nl9 ?_); rotate_right; intro w2 hg2 hb2)
  case u1 => kernel_rfl
  case c1 => exact Blk.new_ (by simp [u64s])
  case c2 => rw [u64s_length]; first | exact (Nat.min_eq_left (by omega)).symm | exact (Nat.min_eq_right (by omega)).symm
  case c3 =>
   intro hp
   have hne : u64s lo ≠ [] := by intro e; rw [e] at hp; simp at hp
   obtain ⟨b, off, rfl, hbB, hcell⟩ := hr hne
   refine ⟨_, rfl, fun j v hv => ?_⟩
   rw [add_none]
   rw [World.cell?_alloc_past _ _ _ (by show b < _; omega)]
   exact hcell j v hv
  case c4 => rw [u64s_length, u64s_length, List.length_replicate]; omega
  case c5 => exact one_u64s lo
  case c6 => exact br9.alloc nl9 _
  have hg3 : Blk w2 w.heap.size 116 (u64s (lo ++ List.replicate (n - lo.length) 0 ++ List.replicate hi.length 0)) := by
   have h9 := hg2.out
   rwa [u64s_splice, join_low n hi.length lo hn] at h9
  have hlen3 : (lo ++ List.replicate (n - lo.length) 0 ++ List.replicate hi.length 0).length = n + hi.length := by simp; omega
  have Hg3 := hi9 hg3
  have Hlen3 := hi9 hlen3
  clear hg2 hmk hg3 hlen3
  go_upto_region 4 with ((with_reducible refine wpList_copy_splice (o := ⟨some 20, _, _, _, _, _⟩) rfl _ _ _ _ rfl 116 Tryz.underlying132 ?u1 _ _ _ _ _ _ rfl rfl w.heap.size n (u64s (lo ++ List.replicate (n - lo.length) 0 ++ List.replicate hi.length 0)) 116 ?d1 (u64s hi) ?d2 ?d3 ?d4 ?d5 w.heap.size w ?d6 nl9 ?_); rotate_right; intro w3 hg4 hb3)
  case u1 => kernel_rfl
  case d1 => exact Hg3.out
  case d2 => rw [u64s_length]; simp
  case d3 =>
   intro _ j v hv
   rw [hb2.cell (p := ⟨b2, off2 + j, none⟩) (show b2 < _ by omega)]
   exact hcell2 j v hv
  case d4 => rw [u64s_length, u64s_length, Hlen3.out]; omega
  case d5 => exact one_u64s hi
  case d6 => exact hb2
  have hg5 : Blk w3 w.heap.size 116 (u64s (lo ++ List.replicate (n - lo.length) 0 ++ hi)) := by
   have h9 := hg4.out
   rwa [u64s_splice, join_high n lo hi hn] at h9
  obtain ⟨ys, hys⟩ : ∃ ys, ys = lo ++ List.replicate (n - lo.length) 0 ++ hi := ⟨_, rfl⟩
  rw [← hys] at hg5
  have hyl : ys.length = n + hi.length := by rw [hys]; simp; omega
  have hyd : Dig 18446744073709551616 ys := by rw [hys]; exact (hd.append_ (Dig.zeros_ (by omega) _)).append_ hd2
  have hyv := join_val n lo hi hn
  rw [← hys] at hyv
  have Htw : Hid (∀ W, Dr w3 W → Calls Tryz.prog 157 #[.slice (some ⟨w.heap.size, 0, none⟩) (n + hi.length) (n + hi.length)] W fun e w' => e = .returned (.slice (some ⟨w.heap.size, 0, none⟩) (trimL ys).length (n + hi.length)) ∧ W = w') := fun W hW => by
   have hW3 := hg5.below (hW.below _) hg5.lt
   have := trimWords_any (some ⟨w.heap.size, 0, none⟩) (n + hi.length) ys W W.heap.size (Rd.of_blk hW3 hW3.lt 0 (fun k v hv => by rw [Nat.zero_add]; exact hv)) (by omega) (by omega)
   rwa [hyl] at this
  have Hyv := hi9 hyv
  have Hyl := hi9 hyl
  clear hys hg4 Hlen3 Hg3 hyv hyl
  go_wp2_with (go_at_call 157; (with_reducible refine (Htw.out _ (Dr.refl _)).mono ?_); rintro e w4 ⟨rfl, rfl⟩)
  go_ret
  exact ⟨ys, w.heap.size, by rw [Hyl.out]; rfl, Hyl.out, hyd, Hyv.out, Nat.le_refl _, hg5, hb3⟩
end
section
open Go.RowKit
theorem zeroCells_one (z : Value) (n : Nat) (hz : z.cells = #[z]) : Builtin.zeroCells z.cells n = (List.replicate n z).toArray := by
 rw [hz]
 apply Array.ext'
 simp only [Builtin.zeroCells, List.size_toArray, List.length_singleton, Nat.mul_one, Nat.mod_one]
 simp [Array.toList_map, List.map_const']
theorem Blk.setCells_ {g : Nat} {t : TypeId} : ∀ (zs : List Value) (w : World) (vs : List Value) (o : Nat), Blk w g t vs → o + zs.length ≤ vs.length → Blk (w.setCells g o zs) g t (vs.take o ++ zs ++ vs.drop (o + zs.length))
 | [], w, vs, o, h, _ => by simpa [World.setCells] using h
 | z :: zs, w, vs, o, h, hl => by
  rw [List.length_cons] at hl
  have h1 := Blk.setCells_ zs _ _ (o + 1) (h.set_ o z) (by rw [List.length_set]; omega)
  have e : (vs.set o z).take (o + 1) ++ zs ++ (vs.set o z).drop (o + 1 + zs.length) = vs.take o ++ z :: zs ++ vs.drop (o + (z :: zs).length) := by
   rw [List.drop_set_of_lt (by omega), List.take_succ_eq_append_getElem (by rw [List.length_set]; omega), List.getElem_set_self, List.take_set_of_le nl9, List.length_cons, show o + (zs.length + 1) = o + 1 + zs.length from by omega]
   simp
  rw [e] at h1
  exact h1
theorem Ch.setCells_ {g : Nat} : ∀ (zs : List Value) (w : World) (o : Nat), Ch g w (w.setCells g o zs)
 | [], w, _ => Ch.refl g w
 | z :: zs, w, o => ((Ch.refl g w).setCell o z).trans (Ch.setCells_ zs _ (o + 1))
section
variable {P : Program} (w : World) (t tx ty e : TypeId) (k : IntKind) (i : TypeInfo) (z : Value)
theorem run_appz_room (ht : P.underlying t = some (.slice e)) (htx : P.underlying tx = some (.int k)) (hi : P.info? e = some i) (hz : i.zero = some z) (hsize : i.size = 1) (hby : i.bytes = 8) (hzs : z.cells = #[z]) (hz1 : z.oneCell' = true)
  (g n cap m : Nat) (vs : List Value) (hblk : Blk w g e vs) (hc : vs.length = cap) (hr : n + m ≤ cap) (hm : n + m ≤ 8796093022208) :
  (Builtin.append_ #[t, tx] ty #[.slice (some ⟨g, 0, none⟩) n cap, .int .i64 (m : Int)]).run P w = .ok (.slice (some ⟨g, 0, none⟩) (n + m) cap) (w.setCells g n (List.replicate m z)) := by
 have h0 : ∀ w', (asInt (.int .i64 (m : Int))).run P w' = .ok (m : Int) w' := fun _ => rfl
 have h1 : IntKind.i64.wrap (m : Int) = (m : Int) := by rw [IntKind.wrap_i64]; omega
 have h2 : ¬ ((m : Int) < 0) := by omega
 have h3 : ¬ (281474976710656 < (m : Int) * 8) := by omega
 have hst := run_storeCells_cells (P := P) g n (List.replicate m z) 0 w (fun j hj => by
  rw [Nat.add_zero, hblk.cell, List.getElem?_eq_getElem (by simp at hj; omega)]; rfl) (fun j _ => hblk.frozen _) (fun v hv => by rw [(List.mem_replicate.1 hv).2]; exact hz1)
 rw [Nat.add_zero] at hst
 have hadd : (Addr.add ⟨g, 0, none⟩ n) = ⟨g, n, none⟩ := by rw [add_none, Nat.zero_add]
 by_cases hm0 : m = 0
 ·subst hm0
  have hr0 : n ≤ cap := by omega
  have h0' : ∀ w', (asInt (.int .i64 0)).run P w' = .ok 0 w' := fun _ => rfl
  simp [Builtin.append_, run_underlying ht, run_underlying htx, sizeOf, typeInfo, hi, h0', hr0, World.setCells, storeCells, show IntKind.i64.wrap 0 = 0 from by decide]
 ·simp [Builtin.append_, run_underlying ht, run_underlying htx, sizeOf, typeInfo, zeroValue, hi, hz, h0, h1, h2, h3, hsize, hby, hr, hm0, zeroCells_one z m hzs, hadd]
  rw [hst]
  rfl
theorem run_appz_grow (ht : P.underlying t = some (.slice e)) (htx : P.underlying tx = some (.int k)) (hi : P.info? e = some i) (hz : i.zero = some z) (hsize : i.size = 1) (hby : i.bytes = 8) (hzs : z.cells = #[z])
  (g n cap m : Nat) (vs : List Value) (hblk : Blk w g e vs) (hc : vs.length = cap) (hnc : n ≤ cap) (hr : cap < n + m) (hm : n + m ≤ 8796093022208) :
  (Builtin.append_ #[t, tx] ty #[.slice (some ⟨g, 0, none⟩) n cap, .int .i64 (m : Int)]).run P w = .ok (.slice (some ⟨w.heap.size, 0, none⟩) (n + m) (grownCap w (n + m) cap e))
   (w.drew.alloc (.cells (vs.take n ++ List.replicate m z ++ List.replicate (grownCap w (n + m) cap e - (n + m)) z).toArray e)) := by
 have h0 : ∀ w', (asInt (.int .i64 (m : Int))).run P w' = .ok (m : Int) w' := fun _ => rfl
 have h1 : IntKind.i64.wrap (m : Int) = (m : Int) := by rw [IntKind.wrap_i64]; omega
 have h2 : ¬ ((m : Int) < 0) := by omega
 have h3 : ¬ (281474976710656 < (m : Int) * 8) := by omega
 have hn : ¬ (n + m ≤ cap) := by omega
 have hm0 : m ≠ 0 := by omega
 have h63' : ¬ (9223372036854775807 < ((n : Int) + (m : Int))) := by omega
 have h48' : ¬ (281474976710656 < Builtin.nextslicecap (n + m) cap * 8) := by
  have := growslice_fits (need := n + m) (old := cap) (bytes := 8) (by omega) (by omega)
  omega
 have hfo := run_firstCells_some (P := P) w.drew 1 n ⟨g, 0, none⟩ n cap (vs.take n) (by rw [List.length_take]; omega) (fun j v hv => by
  rw [add_none, Nat.zero_add]
  rw [List.getElem?_take] at hv
  split at hv
  ·exact (hblk.drew.cell j).trans hv
  ·cases hv)
 simp [Builtin.append_, run_underlying ht, run_underlying htx, sizeOf, typeInfo, zeroValue, hi, hz, h0, h1, h2, h3, hsize, hby, hn, hm0, h63', h48', Question.forced, hfo, newRow, zeroCells_one z _ hzs]
 refine ⟨rfl, ?_⟩
 unfold grownCap
 congr 2
 simp
end
theorem run_appz64 (w : World) (ty : TypeId) (g n cap m : Nat) (L : List Nat) (hblk : Blk w g 116 (u64s L)) (hc : L.length = cap) (hnc : n ≤ cap) (hm : n + m ≤ 8796093022208) (hd : Dig 18446744073709551616 L) :
  ∃ g' L' w', (Builtin.append_ #[132, 3] ty #[.slice (some ⟨g, 0, none⟩) n cap, .int .i64 (m : Int)]).run Tryz.prog w = .ok (.slice (some ⟨g', 0, none⟩) (n + m) L'.length) w' ∧ Blk w' g' 116 (u64s L') ∧ L'.take (n + m) = L.take n ++ List.replicate m 0 ∧ n + m ≤ L'.length ∧ Dig 18446744073709551616 L' ∧ (g' = g ∨ g' = w.heap.size) ∧ Tn g w w' := by
 obtain ⟨i0, hi, hz0, hz1, hz2⟩ := info_parts Tryz.info64
 have hrep : ∀ q : Nat, List.replicate q (Value.int .u64 0) = u64s (List.replicate q 0) := fun q => by simp [u64s]
 by_cases hr : n + m ≤ cap
 ·have h1 := run_appz_room (P := Tryz.prog) w 132 3 ty 116 .i64 i0 (.int .u64 0) Tryz.underlying132 Tryz.underlying3 hi hz0 hz1 hz2 rfl rfl g n cap m (u64s L) hblk (by rw [u64s_length]; exact hc) hr hm
  have h2 := Blk.setCells_ (List.replicate m (Value.int .u64 0)) w (u64s L) n hblk (by rw [List.length_replicate, u64s_length]; omega)
  have e : (u64s L).take n ++ List.replicate m (Value.int .u64 0) ++ (u64s L).drop (n + (List.replicate m (Value.int .u64 0)).length) = u64s (patch L n (List.replicate m 0)) := by
   rw [hrep]
   simp [patch, u64s, List.map_take, List.map_drop]
  rw [e] at h2
  have hl : (patch L n (List.replicate m 0)).length = L.length := patch_length (by rw [List.length_replicate]; omega)
  refine ⟨g, patch L n (List.replicate m 0), _, by rw [hl, hc]; exact h1, h2, ?_, by omega, patch_dig hd (Dig.zeros_ (by omega) _), Or.inl rfl, Tn.of_ch (Ch.setCells_ _ _ _)⟩
  unfold patch
  rw [List.take_left' (by simp; omega)]
 ·have h1 := run_appz_grow (P := Tryz.prog) w 132 3 ty 116 .i64 i0 (.int .u64 0) Tryz.underlying132 Tryz.underlying3 hi hz0 hz1 hz2 rfl g n cap m (u64s L) hblk (by rw [u64s_length]; exact hc) hnc (by omega) hm
  obtain ⟨K, hK⟩ : ∃ K, K = grownCap w (n + m) cap 116 := ⟨_, rfl⟩
  have hge := grownCap_ge w (n + m) cap 116
  rw [← hK] at h1 hge
  have e : (u64s L).take n ++ List.replicate m (Value.int .u64 0) ++ List.replicate (K - (n + m)) (Value.int .u64 0) = u64s (L.take n ++ List.replicate m 0 ++ List.replicate (K - (n + m)) 0) := by
   rw [hrep, hrep]
   simp [u64s, List.map_take]
  rw [e] at h1
  have hl : (L.take n ++ List.replicate m 0 ++ List.replicate (K - (n + m)) 0).length = K := by simp; omega
  refine ⟨w.heap.size, L.take n ++ List.replicate m 0 ++ List.replicate (K - (n + m)) 0, _, by rw [hl]; exact h1, Blk.new w.drew _ _, ?_, by omega, ((hd.take_ _).append_ (Dig.zeros_ (by omega) _)).append_ (Dig.zeros_ (by omega) _), Or.inr rfl, ?_⟩
  ·rw [List.take_left' (by simp; omega)]
  ·exact Tn.of_below (B := w.heap.size) (br9.drew.alloc nl9 _) nl9
end
end Go.Proofs.YtbcphifjcaobfaaGreatDoor
