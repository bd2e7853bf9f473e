/- The contracts of Of and Len. The contract of shortQuotient. The contract of Div, over any contract of quotient. The contracts of the reference's limb, Norm and Zero. The contract of the reference's Cmp. -/
import Derived.Test.YtcjgilagldbjnaaGreatDoorPkBb17
namespace Go.Proofs.YtcjgilagldbjnaaGreatDoor
section
open Go.RowKit
def bitsOf (n : Nat) : Nat := if n = 0 then 0 else Nat.log2 n + 1
set_option maxHeartbeats 400000 in
theorem of_any (n : Nat) (h : n < 18446744073709551616) (w : World) :
  Calls Tryz.prog 20 #[.int .u64 (n : Int)] w fun e w' => ∃ zs A' c', e = .returned (.slice A' zs.length c') ∧ Num 4294967296 zs n ∧ Res w' w.heap.size 34 A' c' (u32s zs) ∧ Below w.heap.size w w' := by
 go_enter Tryz.func20, Tryz.ntmps20
 go_wp2_with fail
 have hblk : Blk (w.alloc (.cells #[.int .u64 (n : Int)] 53)) w.heap.size 53 (u64s [n]) := Blk.new_ rfl
 refine (narrow_any (some ⟨w.heap.size, 0, none⟩) 1 [n] _ (w.heap.size + 1) ?_ ?_ ?_ ?_ ?_).mono ?_
 ·exact Rd.of_blk hblk (by omega) 0 (fun k v hv => by rw [Nat.zero_add]; exact hv)
 ·simp
 ·exact Dig.cons_ h (Dig.nil_ _)
 ·simp
 ·simp
 rintro e w' ⟨zs, A', c', rfl, hn, hres, hb⟩
 go_wp2
 go_ret
 have hz : (w.alloc (.cells #[.int .u64 (n : Int)] 53)).heap.size = w.heap.size + 1 := by simp
 rw [hz] at hres hb
 exact ⟨zs, A', c', rfl, by simpa [val] using hn, hres.mono (by omega), (br9.alloc nl9 _).trans (hb.mono (by omega))⟩
theorem bitLen_val (x : Nat) (h : x < 18446744073709551616) : Lib.bitLen x = bitsOf x := by
 unfold bitsOf
 by_cases h0 : x = 0
 ·subst h0; rfl
 ·rw [if_neg h0]
  obtain ⟨a, b, c⟩ := bitLen_bounds x h h0
  have h1 := (Nat.le_log2 h0).2 b
  have h2 := (Nat.log2_lt h0).2 c
  omega
theorem bitsOf_val {zs : List Nat} {n : Nat} (h : Num 4294967296 zs n) (hn : zs ≠ []) (hl : zs.length - 1 < zs.length) : bitsOf n = 32 * (zs.length - 1) + bitsOf (zs[zs.length - 1]) := by
 have ht := trimL_last h.2.1 hn
 obtain ⟨t, hte⟩ : ∃ t, t = zs[zs.length - 1] := ⟨_, rfl⟩
 have e : zs = zs.take (zs.length - 1) ++ [zs[zs.length - 1]] := by
  rw [← List.take_succ_eq_append_getElem (by omega), show zs.length - 1 + 1 = zs.length from by omega, List.take_length]
 have hv : n = val 4294967296 (zs.take (zs.length - 1)) + 4294967296 ^ (zs.length - 1) * t := by
  have h1 := val_snoc 4294967296 (zs.take (zs.length - 1)) t
  rw [List.length_take, Nat.min_eq_left (by omega)] at h1
  rw [← h1, hte, ← e, h.2.2]
 have hlt := val_lt 4294967296 _ (h.1.take_ (zs.length - 1))
 rw [List.length_take, Nat.min_eq_left (by omega)] at hlt
 rw [← hte] at ht ⊢
 have e2 : (4294967296 : Nat) ^ (zs.length - 1) = 2 ^ (32 * (zs.length - 1)) := by rw [show (4294967296 : Nat) = 2 ^ 32 from rfl, ← Nat.pow_mul]
 rw [e2] at hv hlt
 have hn0 : n ≠ 0 := by
  have := Nat.mul_pos (Nat.two_pow_pos (32 * (zs.length - 1))) (Nat.pos_of_ne_zero ht)
  omega
 unfold bitsOf
 rw [if_neg ht, if_neg hn0]
 have a1 : 2 ^ Nat.log2 t ≤ t := (Nat.le_log2 ht).1 nl9
 have a2 : t < 2 ^ (Nat.log2 t + 1) := (Nat.log2_lt ht).1 (by omega)
 have b1 : 32 * (zs.length - 1) + Nat.log2 t ≤ Nat.log2 n := by
  refine (Nat.le_log2 hn0).2 ?_
  rw [Nat.pow_add]
  have := Nat.mul_le_mul_left (2 ^ (32 * (zs.length - 1))) a1
  omega
 have b2 : Nat.log2 n < 32 * (zs.length - 1) + Nat.log2 t + 1 := by
  refine (Nat.log2_lt hn0).2 ?_
  rw [Nat.add_assoc, Nat.pow_add]
  have h3 : 2 ^ (32 * (zs.length - 1)) * (t + 1) ≤ 2 ^ (32 * (zs.length - 1)) * 2 ^ (Nat.log2 t + 1) := Nat.mul_le_mul_left _ a2
  rw [Nat.mul_add] at h3
  omega
 omega
set_option maxHeartbeats 400000 in
theorem len_any (A : Option Addr) (c : Nat) (xs : List Nat) (w : World) (B : Nat) (hr : Rd w B A (u32s xs)) (hd : Dig 4294967296 xs) (hc : xs.length ≤ c) (hm : xs.length ≤ 70368744177664) :
  Calls Tryz.prog 62 #[.slice A xs.length c] w fun e w' => e = .returned (.int .i64 (bitsOf (val 4294967296 xs) : Nat)) ∧ w = w' := by
 have hn := Num.of_trim hd
 have hl := trimL_length_le xs
 have hrt : Rd w B A (u32s (trimL xs)) := by rw [u32s_trim]; exact hr.take _
 by_cases h0 : trimL xs = []
 ·have hl0 : ((trimL xs).length : Int) = 0 := by rw [h0]; rfl
  have hv : bitsOf (val 4294967296 xs) = 0 := by rw [← val_trim, h0]; rfl
  have Hv := hi9 hv
  clear hv h0 hn
  go_enter Tryz.func62, Tryz.ntmps62
  go_wp2_with (go_at_call 37; (with_reducible refine (trim_any A c xs _ B hr hc (by omega)).mono ?_); rintro e w' ⟨rfl, rfl⟩)
  go_ret
  exact ⟨by rw [Hv.out]; rfl, rfl⟩
 ·have hne : (trimL xs).length ≠ 0 := by intro e; exact h0 (List.eq_nil_of_length_eq_zero e)
  have hv := bitsOf_val hn h0 (by omega)
  obtain ⟨b, off, rfl, hbB, hcell⟩ := hrt (by intro e; have := u32s_length (trimL xs); rw [e] at this; simp at this; omega)
  obtain ⟨k, hk⟩ : ∃ k, (trimL xs).length = k + 1 := ⟨(trimL xs).length - 1, by omega⟩
  have hcl := hcell k _ (u32s_at (by omega))
  have hx := hn.1.at_ k (by omega)
  have hv2 : bitsOf (val 4294967296 xs) = 32 * k + bitsOf ((trimL xs)[k]) := by
   rw [hv]; simp [hk]
  have hb32 : bitsOf ((trimL xs)[k]) ≤ 32 := by
   rw [← bitLen_val _ (by omega)]; exact Lib.bitLen_le _ 32 (by omega) hx
  obtain ⟨x, hxe⟩ : ∃ x, x = (trimL xs)[k] := ⟨_, rfl⟩
  rw [← hxe] at hcl hx hv2 hb32
  have hT : Hid ((trimL xs).length = k + 1) := hk
  have Hv2 := hi9 hv2
  have hbl := bitLen_val x (by omega)
  have Hbl := hi9 hbl
  have hkb : k < 70368744177664 := by omega
  clear hv hv2 hn hcell hxe hbl h0 hne hk
  go_enter Tryz.func62, Tryz.ntmps62
  go_wp2_with (first
   | (go_at_call 37; (with_reducible refine (trim_any _ c xs _ B hr hc (by omega)).mono ?_); rintro e w' ⟨rfl, rfl⟩; rw [hT.out])
   | (go_at_call 77; (with_reducible refine (len32_any _ _ hx).mono ?_); rintro e w' ⟨rfl, rfl⟩; rw [Hbl.out]))
  go_ret
  refine ⟨?_, rfl⟩
  rw [Hv2.out]
  simp
end
section
open Go.RowKit
def Shorted (ws : List Nat) (b k : Nat) (qs : List Nat) (r : Nat) : Prop :=
 qs.length = ws.length ∧ Dig 18446744073709551616 qs ∧ r < b ∧ val 18446744073709551616 (ws.drop k) = val 18446744073709551616 (qs.drop k) * b + r
theorem Shorted.start (ws : List Nat) (b : Nat) (hb : 0 < b) : Shorted ws b ws.length (List.replicate ws.length 0) 0 :=
 ⟨by simp, Dig.zeros_ (by omega) _, hb, by simp [val]⟩
theorem Shorted.step {ws qs : List Nat} {b k r : Nat} (h : Shorted ws b (k + 1) qs r) (hk : k < ws.length) (hw : ws[k] < 18446744073709551616) (hb : b < 18446744073709551616) :
  Shorted ws b k (qs.set k ((r * 18446744073709551616 + ws[k]) / b)) ((r * 18446744073709551616 + ws[k]) % b) := by
 obtain ⟨h1, h2, h3, h4⟩ := h
 have hq : (r * 18446744073709551616 + ws[k]) / b < 18446744073709551616 := by
  rw [Nat.div_lt_iff_lt_mul (by omega)]
  have : (r + 1) * 18446744073709551616 ≤ b * 18446744073709551616 := Nat.mul_le_mul_right _ h3
  omega
 refine ⟨by simpa using h1, h2.set_ _ _ hq, Nat.mod_lt _ (by omega), ?_⟩
 have e1 : ws.drop k = ws[k] :: ws.drop (k + 1) := List.drop_eq_getElem_cons hk
 have e2 : (qs.set k ((r * 18446744073709551616 + ws[k]) / b)).drop k = ((r * 18446744073709551616 + ws[k]) / b) :: qs.drop (k + 1) := by
  rw [List.drop_eq_getElem_cons (by simpa using (by omega : k < qs.length))]
  simp [List.drop_set]
 rw [e1, e2]
 simp only [val]
 rw [h4]
 have hd := Nat.div_add_mod (r * 18446744073709551616 + ws[k]) b
 generalize (r * 18446744073709551616 + ws[k]) / b = q at *
 generalize (r * 18446744073709551616 + ws[k]) % b = m at *
 rw [Nat.add_mul, Nat.mul_add, Nat.mul_assoc, Nat.mul_comm q b]
 generalize val 18446744073709551616 (qs.drop (k + 1)) * b = z at *
 omega
end
section
open Go.RowKit
end
section
open Go.RowKit
def at0 (xs : List Nat) (k : Nat) : Nat := xs.getD k 0
theorem at0_lt {xs : List Nat} (hd : Dig 4294967296 xs) (k : Nat) : at0 xs k < 4294967296 := by
 unfold at0
 rw [List.getD_eq_getElem?_getD]
 by_cases h : k < xs.length
 ·rw [List.getElem?_eq_getElem h]; exact hd.at_ k h
 ·rw [List.getElem?_eq_none (by omega)]; simp
theorem at0_in {xs : List Nat} {k : Nat} (h : k < xs.length) : at0 xs k = xs[k] := by
 unfold at0
 rw [List.getD_eq_getElem?_getD, List.getElem?_eq_getElem h]; rfl
theorem at0_out {xs : List Nat} {k : Nat} (h : xs.length ≤ k) : at0 xs k = 0 := by
 unfold at0
 rw [List.getD_eq_getElem?_getD, List.getElem?_eq_none h]; rfl
theorem trimL_nil_at {xs : List Nat} (h : trimL xs = []) : ∀ (k : Nat) (hk : k < xs.length), xs[k] = 0 := by
 induction xs with
 | nil => intro k hk; simp at hk
 | cons x xs ih =>
  simp only [trimL] at h
  split at h
  ·rename_i e
   split at h
   ·rename_i h0
    intro k hk
    cases k with
    | zero => simpa using h0
    | succ k => simpa using ih e k (by simpa using hk)
   ·cases h
  ·cases h
set_option maxHeartbeats 400000 in
theorem limb_any (A : Option Addr) (c : Nat) (xs : List Nat) (k : Nat) (w : World) (B : Nat) (hr : Rd w B A (u32s xs)) (hd : Dig 4294967296 xs) (_ : xs.length ≤ 281474976710656) (hk : k ≤ 9223372036854775807) :
  Calls Tryz.prog 46 #[.slice A xs.length c, .int .i64 (k : Int)] w fun e w' => e = .returned (.int .u64 (at0 xs k : Nat)) ∧ w = w' := by
 have t0 : decide ((k : Int) < 0) = false := by simp
 rcases Nat.lt_or_ge k xs.length with hlt | hge
 ·obtain ⟨b, off, rfl, hb, hcell⟩ := hr (by intro e; have := u32s_length xs; rw [e] at this; simp at this; omega)
  have hx := hcell k _ (u32s_at hlt)
  have t1 : decide (xs.length ≤ k) = false := by simp; omega
  have e1 := hi9 (at0_in hlt)
  have hxd := hd.at_ k hlt
  clear hcell hr
  go_enter Tryz.func46, Tryz.ntmps46
  go_wp2
  go_ret
  exact ⟨by rw [e1.out]; rfl, rfl⟩
 ·have t1 : decide (xs.length ≤ k) = true := by simp; omega
  have e1 := hi9 (at0_out hge)
  go_enter Tryz.func46, Tryz.ntmps46
  go_wp2
  go_ret
  exact ⟨by rw [e1.out]; rfl, rfl⟩
set_option maxHeartbeats 800000 in
theorem rnorm_any (A : Option Addr) (c : Nat) (xs : List Nat) (w : World) (B : Nat) (hr : Rd w B A (u32s xs)) (hB : B ≤ w.heap.size) (hm : xs.length ≤ 70368744177664) :
  Calls Tryz.prog 13 #[.slice A xs.length c] w fun e w' => ∃ A' c', e = .returned (.slice A' (trimL xs).length c') ∧ Res w' w.heap.size 34 A' c' (u32s (trimL xs)) ∧ Below w.heap.size w w' := by
 go_enter Tryz.func13, Tryz.ntmps13
 go_upto_block 0 with (fail)
 go_cut [3] (fun v wc => v = .int .i64 ((trimL xs).length : Int) ∧ wc = w)
 case first =>
  go_wp2_with fail
  go_loop [3] (fun v => ∃ m : Nat, m ≤ xs.length ∧ v = .int .i64 m ∧ trimL (xs.take m) = trimL xs) (fun v => (intOf v).toNat)
  case atStart => exact ⟨xs.length, Nat.le_refl _, rfl, by simp⟩
  case round =>
   obtain ⟨m, hm1, rfl, ht⟩ := hrel
   have Ht := hi9 ht; clear ht
   rcases m with _ | m
   ·go_wp2
    go_meet
    have h0 : (trimL xs).length = 0 := by rw [← Ht.out]; rfl
    exact ⟨by rw [h0]; rfl, rfl⟩
   ·obtain ⟨b, off, rfl, hb, hcell⟩ := hr (by intro e; have := u32s_length xs; rw [e] at this; simp at this; omega)
    have hcl := hcell m _ (u32s_at (by omega))
    clear hcell
    by_cases h0 : xs[m] = 0
    ·have hz := trimL_take_zero xs m (by omega) h0
     rw [h0] at hcl
     have Hz := hi9 hz
     clear hz h0
     go_wp2
     go_round
     case rel => exact ⟨m, by omega, by go_num, by rw [← Hz.out]; exact Ht.out⟩
     case measure => simp [intOf]
    ·have hz := trimL_take_pos xs m (by omega) h0
     have Hz := hi9 hz
     have hne : ((xs[m] : Int) == 0) = false := by simp; omega
     clear hz
     go_wp2
     go_meet
     exact ⟨by have h9 := Hz.out; rw [Ht.out] at h9; rw [h9]; simp, rfl⟩
 case rest =>
  obtain ⟨rfl, rfl⟩ := hcut
  have hl := trimL_length_le xs
  obtain ⟨ts, hts⟩ : ∃ ts, ts = trimL xs := ⟨_, rfl⟩
  have hrt : Rd wc B A (u32s ts) := by rw [hts, u32s_trim]; exact hr.take _
  rw [← hts] at hl ⊢
  have hmk := fun W => mk32 ts.length (by omega) W
  have Hts := hi9 hts
  clear hts
  go_wp2
  go_loopw [5] (fun i wr => ∃ (k : Nat) (zs : List Nat), k ≤ ts.length ∧ i = .int .i64 k ∧ zs.length = ts.length ∧ Blk wr wc.heap.size 34 (u32s zs) ∧ zs.take k = ts.take k ∧ Below wc.heap.size wc wr) (fun i _ => ts.length - (intOf i).toNat)
  case atStart => exact ⟨0, List.replicate ts.length 0, by omega, rfl, by simp, Blk.new_ (by simp [u32s]), by simp, br9.alloc nl9 _⟩
  case round =>
   obtain ⟨k, zs, hk, rfl, hzl, hblk, htk, hbel⟩ := hrel
   by_cases hlt : k < ts.length
   ·obtain ⟨b, off, rfl, hb, hcell⟩ := hrt (by intro e; have := u32s_length ts; rw [e] at this; simp at this; omega)
    have hx := (hbel.cell (p := ⟨b, off + k, none⟩) (show b < _ by omega)).trans (hcell k _ (u32s_at hlt))
    have hkz : k < zs.length := by omega
    have Hzl := hi9 hzl
    have Htk := hi9 htk
    clear hcell hzl htk
    have hc2 := (hblk.cell k).trans (u32s_at hkz)
    have hf2 := hblk.frozen k
    go_wp2
    go_roundw
    case rel =>
     refine ⟨k + 1, zs.set k ts[k], by omega, by go_num, by simpa using Hzl.out, ?_, ?_, hbel.setCell (p := ⟨wc.heap.size, k, none⟩) nl9 _⟩
     ·have hb2 := hblk.set_ k (Value.int IntKind.u32 (ts[k] : Int))
      rw [u32s_set] at hb2
      exact hb2
     ·rw [List.take_succ_eq_append_getElem hlt, List.take_succ_eq_append_getElem (by simpa using hkz), ← Htk.out, List.take_set_of_le nl9]
      simp
    case measure => simp [intOf]; omega
   ·go_wp2
    go_ret
    obtain rfl : k = ts.length := by omega
    have e : zs = ts := by
     rw [List.take_length, ← hzl, List.take_length] at htk
     exact htk
    subst e
    clear htk
    have h3 := Res.of_blk0 hblk nl9 (by rw [u32s_length]; omega)
    rw [u32s_length] at h3
    exact ⟨_, _, by rw [← Hts.out]; rfl, by rw [← Hts.out]; exact h3, hbel⟩
set_option maxHeartbeats 400000 in
theorem zero_any (A : Option Addr) (c : Nat) (xs : List Nat) (w : World) (B : Nat) (hr : Rd w B A (u32s xs)) (hm : xs.length ≤ 281474976710656) :
  Calls Tryz.prog 45 #[.slice A xs.length c] w fun e w' => e = .returned (.bool (decide (trimL xs = []))) ∧ w = w' := by
 go_enter Tryz.func45, Tryz.ntmps45
 go_wp2
 go_loop [4, 7] (fun _ i => ∃ k : Nat, k ≤ xs.length ∧ i = .int .i64 k ∧ trimL (xs.take k) = []) (fun _ i => xs.length - (intOf i).toNat)
 case atStart => exact ⟨0, by omega, rfl, rfl⟩
 case round =>
  obtain ⟨k, hk, rfl, ht⟩ := hrel
  by_cases hlt : k < xs.length
  ·obtain ⟨b, off, rfl, hb, hcell⟩ := hr (by intro e; have := u32s_length xs; rw [e] at this; simp at this; omega)
   have hx := hcell k _ (u32s_at hlt)
   have Ht := hi9 ht
   clear hcell ht
   by_cases h0 : xs[k] = 0
   ·have t1 : ((xs[k] : Int) != 0) = false := by simpa using h0
    have hz := hi9 (trimL_take_zero xs k hlt h0)
    clear h0
    go_wp2
    go_round
    case rel => exact ⟨k + 1, by omega, by go_num, by rw [hz.out]; exact Ht.out⟩
    case measure => simp [intOf]; omega
   ·have t1 : ((xs[k] : Int) != 0) = true := by simpa using h0
    have hz : decide (trimL xs = []) = false := by
     simp only [decide_eq_false_iff_not]
     intro e
     have h1 := trimL_nil_at e k hlt
     exact h0 h1
    have Hz := hi9 hz
    clear hz h0
    go_wp2
    go_ret
    exact ⟨by rw [Hz.out]; rfl, rfl⟩
  ·obtain rfl : k = xs.length := by omega
   have hz : decide (trimL xs = []) = true := by rw [List.take_length] at ht; simp [ht]
   have Hz := hi9 hz
   clear hz ht
   go_wp2
   go_ret
   exact ⟨by rw [Hz.out]; rfl, rfl⟩
end
section
open Go.RowKit
theorem val_pad (b : Nat) (xs : List Nat) (n : Nat) : val b (xs ++ List.replicate n 0) = val b xs := by rw [val_append, val_zeros]; simp
theorem val_lt_getD {xs ys : List Nat} (hx : Dig 4294967296 xs) (k : Nat) (hs : ∀ j, k < j → at0 xs j = at0 ys j) (hlt : at0 xs k < at0 ys k) : val 4294967296 xs < val 4294967296 ys := by
 obtain ⟨n, hn⟩ : ∃ n, n = max (max xs.length ys.length) (k + 1) := ⟨_, rfl⟩
 rw [← val_pad 4294967296 xs (n - xs.length), ← val_pad 4294967296 ys (n - ys.length)]
 have h1 : ∀ (zs : List Nat), zs.length ≤ n → ∀ i (h : i < (zs ++ List.replicate (n - zs.length) 0).length), (zs ++ List.replicate (n - zs.length) 0)[i] = at0 zs i := fun zs hz i h => by
  by_cases hi : i < zs.length
  ·rw [List.getElem_append_left hi, at0_in hi]
  ·rw [List.getElem_append_right (by omega), at0_out (by omega)]
   simp
 refine val_cmp_top 4294967296 _ _ (hx.append_ (Dig.zeros_ (by omega) _)) (by simp; omega) k (by simp; omega) (fun i h hki => ?_) ?_
 ·rw [h1 xs (by omega), h1 ys (by omega), hs i hki]
 ·rw [h1 xs (by omega), h1 ys (by omega)]; exact hlt
theorem val_eq_getD {xs ys : List Nat} (hs : ∀ j, at0 xs j = at0 ys j) : val 4294967296 xs = val 4294967296 ys := by
 rw [← val_pad 4294967296 xs (ys.length - xs.length), ← val_pad 4294967296 ys (xs.length - ys.length)]
 congr 1
 apply List.ext_getElem (by simp; omega)
 intro i h1 h2
 have e := hs i
 by_cases hi : i < xs.length
 ·rw [List.getElem_append_left hi]
  rw [at0_in hi] at e
  by_cases hj : i < ys.length
  ·rw [List.getElem_append_left hj, e, at0_in hj]
  ·rw [List.getElem_append_right (by omega), e, at0_out (by omega)]; simp
 ·rw [List.getElem_append_right (by omega)]
  rw [at0_out (by omega)] at e
  by_cases hj : i < ys.length
  ·rw [List.getElem_append_left hj, ← at0_in hj, ← e]; simp
  ·rw [List.getElem_append_right (by omega)]; simp
set_option maxHeartbeats 800000 in
theorem rcmp_any (A A2 : Option Addr) (c c2 : Nat) (xs ys : List Nat) (w : World) (B : Nat) (hr : Rd w B A (u32s xs)) (hr2 : Rd w B A2 (u32s ys)) (hd : Dig 4294967296 xs) (hd2 : Dig 4294967296 ys) (hm : xs.length ≤ 281474976710656) (hm2 : ys.length ≤ 281474976710656) :
  Calls Tryz.prog 27 #[.slice A xs.length c, .slice A2 ys.length c2] w fun e w' => e = .returned (.int .i64 (cmpN (val 4294967296 xs) (val 4294967296 ys))) ∧ w = w' := by
 obtain ⟨bb, tl⟩ : ∃ bb, decide (xs.length < ys.length) = bb := ⟨_, rfl⟩
 cases bb
 all_goals
  have hl := tl
  simp at hl
  go_enter Tryz.func27, Tryz.ntmps27
  go_wp2
  go_loop [6] (fun i => ∃ k : Nat, k ≤ 281474976710656 ∧ i = .int .i64 ((k : Int) - 1) ∧ ∀ j, k ≤ j → at0 xs j = at0 ys j) (fun i => (intOf i + 1).toNat)
  case atStart =>
   first
    | exact ⟨ys.length, hm2, rfl, fun j hj => by rw [at0_out (by omega), at0_out (by omega)]⟩
    | exact ⟨xs.length, hm, rfl, fun j hj => by rw [at0_out (by omega), at0_out (by omega)]⟩
  case round =>
   obtain ⟨k, hk, rfl, hs⟩ := hrel
   rcases k with _ | k
   ·have e1 : cmpN (val 4294967296 xs) (val 4294967296 ys) = 0 := by
     rw [val_eq_getD (fun j => hs j (by omega))]; simp [cmpN]
    have He1 := hi9 e1
    clear e1 hs
    go_wp2
    go_ret
    exact ⟨by rw [He1.out]; rfl, rfl⟩
   ·rw [show ((k + 1 : Nat) : Int) - 1 = (k : Int) from by omega]
    have hkb : k ≤ 9223372036854775807 := by omega
    rcases Nat.lt_trichotomy (at0 xs k) (at0 ys k) with h1 | h1 | h1
    ·have e1 : cmpN (val 4294967296 xs) (val 4294967296 ys) = -1 := by
      have := val_lt_getD hd k (fun j hj => hs j (by omega)) h1
      simp [cmpN, this]
     have He1 := hi9 e1
     obtain ⟨x, hx⟩ : ∃ x, x = at0 xs k := ⟨_, rfl⟩
     obtain ⟨y, hy⟩ : ∃ y, y = at0 ys k := ⟨_, rfl⟩
     have t1 : decide (at0 xs k < at0 ys k) = true := by simpa using h1
     clear e1 hs hx hy
     go_wp2_with (first
     | (go_at_call 46; (with_reducible refine (limb_any A c xs k _ B hr hd hm hkb).mono ?_); rintro e w' ⟨rfl, rfl⟩)
     | (go_at_call 46; (with_reducible refine (limb_any A2 c2 ys k _ B hr2 hd2 hm2 hkb).mono ?_); rintro e w' ⟨rfl, rfl⟩))
     go_ret
     exact ⟨by rw [He1.out]; rfl, rfl⟩
    ·have t1 : decide (at0 xs k < at0 ys k) = false := by rw [h1]; simp
     have t2 : decide (at0 ys k < at0 xs k) = false := by rw [h1]; simp
     have Hs : Hid (∀ j, k ≤ j → at0 xs j = at0 ys j) := fun j hj => by
      by_cases e : k = j
      ·subst e; exact h1
      ·exact hs j (by omega)
     clear hs h1
     go_wp2_with (first
     | (go_at_call 46; (with_reducible refine (limb_any A c xs k _ B hr hd hm hkb).mono ?_); rintro e w' ⟨rfl, rfl⟩)
     | (go_at_call 46; (with_reducible refine (limb_any A2 c2 ys k _ B hr2 hd2 hm2 hkb).mono ?_); rintro e w' ⟨rfl, rfl⟩))
     go_round
     case rel => exact ⟨k, by omega, by go_num, Hs.out⟩
     case measure => simp [intOf]
    ·have e1 : cmpN (val 4294967296 xs) (val 4294967296 ys) = 1 := by
      have := val_lt_getD hd2 k (fun j hj => (hs j (by omega)).symm) h1
      simp [cmpN, this]; omega
     have He1 := hi9 e1
     have t1 : decide (at0 xs k < at0 ys k) = false := by simp; omega
     have t2 : decide (at0 ys k < at0 xs k) = true := by simpa using h1
     clear e1 hs
     go_wp2_with (first
     | (go_at_call 46; (with_reducible refine (limb_any A c xs k _ B hr hd hm hkb).mono ?_); rintro e w' ⟨rfl, rfl⟩)
     | (go_at_call 46; (with_reducible refine (limb_any A2 c2 ys k _ B hr2 hd2 hm2 hkb).mono ?_); rintro e w' ⟨rfl, rfl⟩))
     go_ret
     exact ⟨by rw [He1.out]; rfl, rfl⟩
end
end Go.Proofs.YtcjgilagldbjnaaGreatDoor
