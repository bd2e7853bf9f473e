/- The contract of addRow. Conditions: fewer words than any slice can have. The contracts of addInto and takeFrom. Conditions: fewer words than any slice can have. Plain algebra: a transform by halves and back over any commutative ring. No conditions. Plain algebra: products of digit lists by a transform modulo 2^64 - 2^32 + 1. No conditions. -/
import Derived.Test.YtadpelhmjmamnaaGreatDoorPkCf16
namespace Go.Proofs.YtadpelhmjmamnaaGreatDoor
section
open Go.RowKit

theorem carry_mul3 {c x v y : Nat} {B : Nat} (hc : c < B) (hx : x < B) (hv : v < B) (hy : y < B) : (c + x * v + y) / B < B := by
  rw [Nat.div_lt_iff_lt_mul (by omega)]
  have h1 : x * v ≤ (B - 1) * (B - 1) := Nat.mul_le_mul (by omega) (by omega)
  obtain ⟨q, rfl⟩ : ∃ q, B = q + 1 := ⟨B - 1, by omega⟩
  have h2 : (q + 1) * (q + 1) = q * q + q + q + 1 := by rw [Nat.add_mul, Nat.mul_add]; omega
  rw [h2]
  simp only [Nat.add_sub_cancel] at h1
  omega
theorem mul_T64 {b : Nat} {us : List Nat} {k v : Nat} (hu : k < us.length) : val b (us.take k) * v + b ^ k * (us[k] * v) = val b (us.take (k + 1)) * v := by
  rw [val_take_succ b us k hu, Nat.add_mul, Nat.mul_assoc]
theorem Acc.at_ {b : Nat} {os zs : List Nat} {T k c : Nat} (h : Acc b os T k zs c) (hk : k < os.length) : ∃ h2 : k < zs.length, zs[k] = os[k] := ⟨by rw [h.2.1]; exact hk, h.2.2.2 k _ hk (Nat.le_refl _)⟩
theorem Dec.at_ {b : Nat} {os zs : List Nat} {T k c : Nat} (h : Dec b os T k zs c) (hk : k < os.length) : ∃ h2 : k < zs.length, zs[k] = os[k] := ⟨by rw [h.2.1]; exact hk, h.2.2.2 k _ hk (Nat.le_refl _)⟩
theorem seg_length {L : List Nat} {o n : Nat} (h : o + n ≤ L.length) : ((L.drop o).take n).length = n := by simp; omega
theorem seg_dig {b : Nat} {L : List Nat} (h : Dig b L) (o n : Nat) : Dig b ((L.drop o).take n) := (h.drop_ _).take_ _
theorem blk_patch {w : World} {g : Nat} {L zs : List Nat} {o k : Nat} (h : Blk w g 84 (u64s (patch L o zs))) (hk : k < zs.length) (ho : o + zs.length ≤ L.length) : w.cell? ⟨g, o + k, none⟩ = some (.int .u64 (zs[k] : Nat)) := by
  rw [h.cell (o + k), u64s_at (by rw [patch_length ho]; omega), patch_get hk ho]
theorem blk_patch_set {w : World} {g : Nat} {L zs : List Nat} {o k v : Nat} (h : Blk w g 84 (u64s (patch L o zs))) (hk : k < zs.length) (ho : o + zs.length ≤ L.length) : Blk (w.setCell ⟨g, o + k, none⟩ (.int .u64 (v : Int))) g 84 (u64s (patch L o (zs.set k v))) := by
  have := h.set_ (o + k) (.int .u64 (v : Int))
  rwa [u64s_set, patch_set hk ho] at this

set_option maxHeartbeats 1600000 in
theorem addRow_any (g o co : Nat) (L us : List Nat) (v : Nat) (A : Option Addr) (c : Nat) (w : World) (hblk : Blk w g 84 (u64s L)) (hrx : Rx w g A (u64s us)) (ho : o + us.length ≤ L.length) (hco : us.length ≤ co) (hd : Dig 18446744073709551616 L) (hdu : Dig 18446744073709551616 us) (hv : v < 18446744073709551616) (hm : L.length ≤ 281474976710656) (hm2 : us.length ≤ 281474976710656) :
    Calls Tryz.prog 156 #[.slice (some ⟨g, o, none⟩) us.length co, .slice A us.length c, .int .u64 (v : Int)] w fun e w' => ∃ (zs : List Nat) (q : Nat), e = .returned (.int .u64 (q : Int)) ∧ zs.length = us.length ∧ Dig 18446744073709551616 zs ∧ q < 18446744073709551616 ∧ val 18446744073709551616 zs + 18446744073709551616 ^ us.length * q = val 18446744073709551616 ((L.drop o).take us.length) + val 18446744073709551616 us * v ∧ Blk w' g 84 (u64s (patch L o zs)) ∧ Tn g w w' := by
  have hsl := seg_length ho
  have hsd := seg_dig hd o us.length
  have hps := patch_self ho
  obtain ⟨os, hos⟩ : ∃ os, os = (L.drop o).take us.length := ⟨_, rfl⟩
  rw [← hos] at hsl hsd hps ⊢
  have hblk0 : Blk w g 84 (u64s (patch L o os)) := by rw [hps]; exact hblk
  have Hsl := Lib.hid hsl
  have hgw := hblk.lt
  clear hos hsl hps hblk
  go_enter Tryz.func156, Tryz.ntmps156
  go_wp2_with (go_at_call 179; (with_reducible refine (multiplier_any _ _).mono ?_); rintro e w1 ⟨rfl, hbn, hbc, hsz, hbel⟩)
  have hblk1 := hblk0.below hbel hgw
  have htn1 : Tn g w w1 := Tn.of_below hbel (Nat.le_refl _)
  clear hblk0 hbel hsz
  go_loopw [8, 9, 18] (fun _ _ i wr => ∃ (k cc : Nat) (zs : List Nat), k ≤ us.length ∧ i = .int .i64 k ∧ cc < 18446744073709551616 ∧ Blk wr g 84 (u64s (patch L o zs)) ∧ Blk wr w.heap.size 84 [.int .u64 (v : Int)] ∧ Blk wr (w.heap.size + 1) 84 [.int .u64 (cc : Int)] ∧ Acc 18446744073709551616 os (val 18446744073709551616 (us.take k) * v) k zs cc ∧ Tn g w wr) (fun _ _ i _ => us.length - (intOf i).toNat)
  case atStart => exact ⟨0, 0, os, by omega, rfl, by omega, hblk1, hbn, hbc, by simpa [val] using Acc.start hsd, htn1⟩
  case round =>
    clear hblk1 hbn hbc htn1
    obtain ⟨k, cc, zs, hk, rfl, hcc, hblk, hbn, hbc, hacc, htn⟩ := hrel
    by_cases hlt : k < us.length
    · obtain ⟨b, off, rfl, hb, hbg, hx⟩ := (hrx.tn htn).at64 hlt
      have hxd := hdu.at_ k hlt
      have hko : k < os.length := by rw [Hsl.out]; exact hlt
      obtain ⟨hz1, hzk⟩ := hacc.at_ hko
      have hzo : o + zs.length ≤ L.length := by rw [hacc.2.1, Hsl.out]; exact ho
      have hy := blk_patch hblk hz1 hzo
      have hyd := hacc.1.at_ k hz1
      have Hzk := Lib.hid hzk
      clear hzk
      go_wp2_with (go_at_call 195; (with_reducible refine (multiplier1_any _ _ v cc _ _ _ hxd hyd hv hcc hbc hbn (by omega)).mono ?_); rintro e w2 ⟨rfl, hg2, hch⟩; have hq2 := hblk.ch hch (by omega); have hc2 := blk_patch hq2 hz1 hzo; have hf2 := hq2.frozen (o + k))
      go_roundw
      case rel =>
        have h9 := hacc.step (d := us[k] * v) (r := (cc + us[k] * v + zs[k]) % 18446744073709551616) (q := (cc + us[k] * v + zs[k]) / 18446744073709551616) hko (by omega) (by rw [← Hzk.out]; omega)
        rw [mul_T64 hlt] at h9
        have htn2 := (htn.chNew hch (by omega)).setCell (o + k) (.int .u64 (((cc + us[k] * v + zs[k]) % 18446744073709551616 : Nat) : Int))
        exact ⟨k + 1, (cc + us[k] * v + zs[k]) / 18446744073709551616, zs.set k ((cc + us[k] * v + zs[k]) % 18446744073709551616), by omega, by go_num, carry_mul3 hcc hxd hv hyd, blk_patch_set hq2 hz1 hzo, (hbn.ch hch (by omega)).far (p := ⟨g, o + k, none⟩) (by simp; omega) _, hg2.far (p := ⟨g, o + k, none⟩) (by simp; omega) _, h9, htn2⟩
      case measure => simp [intOf]; omega
    · obtain rfl : k = us.length := by omega
      go_wp2_with fail
      refine (multiplier1_any 0 0 v cc _ _ _ (by omega) (by omega) hv hcc hbc hbn (by omega)).mono ?_
      rw [show cc + 0 * v + 0 = cc from by omega, Nat.mod_eq_of_lt hcc]
      rintro e w2 ⟨rfl, hg2, hch⟩
      go_wp2_with fail
      go_ret
      refine ⟨zs, cc, rfl, hacc.2.1.trans Hsl.out, hacc.1, hcc, ?_, hblk.ch hch (by omega), htn.chNew hch (by omega)⟩
      have := hacc.2.2.1
      rw [List.take_length] at this
      exact this
end
section
open Go.RowKit

theorem one_T {b : Nat} {us : List Nat} {k : Nat} (hu : k < us.length) : val b (us.take k) + b ^ k * us[k] = val b (us.take (k + 1)) := (val_take_succ b us k hu).symm
theorem Acc.end_ {b : Nat} {os zs : List Nat} {T k c N : Nat} (h : Acc b os T k zs c) (hc : c = 0 ∨ k = N) : val b zs + b ^ N * c = val b os + T := by
  rcases hc with rfl | rfl
  · have := h.2.2.1; simpa using this
  · exact h.2.2.1
theorem Dec.end_ {b : Nat} {os zs : List Nat} {T k c N : Nat} (h : Dec b os T k zs c) (hc : c = 0 ∨ k = N) : val b zs + T = val b os + b ^ N * c := by
  rcases hc with rfl | rfl
  · have := h.2.2.1; simpa using this
  · exact h.2.2.1

set_option maxHeartbeats 1600000 in
theorem addInto_any (g o N co : Nat) (L us : List Nat) (A : Option Addr) (c : Nat) (w : World) (hblk : Blk w g 84 (u64s L)) (hrx : Rx w g A (u64s us)) (ho : o + N ≤ L.length) (hun : us.length ≤ N) (hd : Dig 18446744073709551616 L) (hdu : Dig 18446744073709551616 us) (hm : N ≤ 281474976710656) :
    Calls Tryz.prog 157 #[.slice (some ⟨g, o, none⟩) N co, .slice A us.length c] w fun e w' => ∃ (zs : List Nat) (q : Nat), e = .returned (.int .u64 (q : Int)) ∧ zs.length = N ∧ Dig 18446744073709551616 zs ∧ q ≤ 1 ∧ val 18446744073709551616 zs + 18446744073709551616 ^ N * q = val 18446744073709551616 ((L.drop o).take N) + val 18446744073709551616 us ∧ Blk w' g 84 (u64s (patch L o zs)) ∧ Tn g w w' := by
  have hsl := seg_length ho
  have hsd := seg_dig hd o N
  have hps := patch_self ho
  obtain ⟨os, hos⟩ : ∃ os, os = (L.drop o).take N := ⟨_, rfl⟩
  rw [← hos] at hsl hsd hps ⊢
  have hblk0 : Blk w g 84 (u64s (patch L o os)) := by rw [hps]; exact hblk
  have Hsl := Lib.hid hsl
  have hgw := hblk.lt
  clear hos hsl hps hblk
  go_enter Tryz.func157, Tryz.ntmps157
  go_wp2_with fail
  go_loopw [5, 6, 7, 11] (fun cv _ _ i wr => ∃ (k cc : Nat) (zs : List Nat), k ≤ us.length ∧ i = .int .i64 k ∧ cv = .int .u64 cc ∧ cc ≤ 1 ∧ Blk wr g 84 (u64s (patch L o zs)) ∧ Acc 18446744073709551616 os (val 18446744073709551616 (us.take k)) k zs cc ∧ Tn g w wr) (fun _ _ _ i _ => us.length - (intOf i).toNat)
  case atStart => exact ⟨0, 0, os, by omega, rfl, rfl, by omega, hblk0, by simpa [val] using Acc.start hsd, Tn.refl _ _⟩
  case round =>
    clear hblk0
    obtain ⟨k, cc, zs, hk, rfl, rfl, hcc, hblk, hacc, htn⟩ := hrel
    by_cases hlt : k < us.length
    · obtain ⟨b, off, rfl, hb, hbg, hx⟩ := (hrx.tn htn).at64 hlt
      have hxd := hdu.at_ k hlt
      have hko : k < os.length := by rw [Hsl.out]; omega
      have hkN : k < N := by omega
      obtain ⟨hz1, hzk⟩ := hacc.at_ hko
      have hzo : o + zs.length ≤ L.length := by rw [hacc.2.1, Hsl.out]; exact ho
      have hy := blk_patch hblk hz1 hzo
      have hyd := hacc.1.at_ k hz1
      have hf := hblk.frozen (o + k)
      have Hzk := Lib.hid hzk
      have a1 := fun W => add64_run zs[k] us[k] cc hcc W
      obtain ⟨l, hl⟩ : ∃ l, l = (zs[k] + us[k] + cc) % 18446744073709551616 := ⟨_, rfl⟩
      obtain ⟨q, hq⟩ : ∃ q, q = (zs[k] + us[k] + cc) / 18446744073709551616 := ⟨_, rfl⟩
      rw [← hl, ← hq] at a1
      have Hl := Lib.hid hl
      have Hq := Lib.hid hq
      clear hzk hl hq
      go_wp2_with (simp only [a1])
      go_roundw
      case rel =>
        have hl := Hl.out
        have hq := Hq.out
        have h9 := hacc.step (d := us[k]) (r := l) (q := q) hko (by omega) (by rw [← Hzk.out]; omega)
        rw [one_T hlt] at h9
        exact ⟨k + 1, q, zs.set k l, by omega, by go_num, rfl, by omega, blk_patch_set hblk hz1 hzo, h9, htn.setCell (o + k) _⟩
      case measure => simp [intOf]; omega
    · obtain rfl : k = us.length := by omega
      go_wp2_with fail
      go_loopw [5, 8] (fun cv i wr => ∃ (k cc : Nat) (zs : List Nat), us.length ≤ k ∧ k ≤ N ∧ i = .int .i64 k ∧ cv = .int .u64 cc ∧ cc ≤ 1 ∧ Blk wr g 84 (u64s (patch L o zs)) ∧ Acc 18446744073709551616 os (val 18446744073709551616 us) k zs cc ∧ Tn g w wr) (fun _ i _ => N - (intOf i).toNat)
      case atStart => exact ⟨us.length, cc, zs, by omega, hun, rfl, rfl, hcc, hblk, by rw [List.take_length] at hacc; exact hacc, htn⟩
      case round =>
        clear hblk hacc htn hcc
        obtain ⟨k, cc, zs, hku, hk, rfl, rfl, hcc, hblk, hacc, htn⟩ := hrel
        rcases Nat.eq_zero_or_pos cc with hc0 | hc1
        · obtain rfl := hc0
          go_wp2_with fail
          go_ret
          exact ⟨zs, 0, rfl, hacc.2.1.trans Hsl.out, hacc.1, by omega, hacc.end_ (Or.inl rfl), hblk, htn⟩
        · obtain rfl : cc = 1 := by omega
          by_cases hlt : k < N
          · have hko : k < os.length := by rw [Hsl.out]; omega
            obtain ⟨hz1, hzk⟩ := hacc.at_ hko
            have hzo : o + zs.length ≤ L.length := by rw [hacc.2.1, Hsl.out]; exact ho
            have hy := blk_patch hblk hz1 hzo
            have hyd := hacc.1.at_ k hz1
            have hf := hblk.frozen (o + k)
            have Hzk := Lib.hid hzk
            have a1 : ∀ W, (callFunc 180 #[.int .u64 (zs[k] : Int), .int .u64 0, .int .u64 1]).run Tryz.prog W = _ := fun W => add64_run zs[k] 0 1 (by omega) W
            obtain ⟨l, hl⟩ : ∃ l, l = (zs[k] + 0 + 1) % 18446744073709551616 := ⟨_, rfl⟩
            obtain ⟨q, hq⟩ : ∃ q, q = (zs[k] + 0 + 1) / 18446744073709551616 := ⟨_, rfl⟩
            rw [← hl, ← hq] at a1
            have Hl := Lib.hid hl
            have Hq := Lib.hid hq
            clear hzk hl hq
            go_wp2_with (simp only [a1])
            go_roundw
            case rel =>
              have hl := Hl.out
              have hq := Hq.out
              have h9 := hacc.step (d := 0) (r := l) (q := q) hko (by omega) (by rw [← Hzk.out]; omega)
              rw [Nat.mul_zero, Nat.add_zero] at h9
              exact ⟨k + 1, q, zs.set k l, by omega, by omega, by go_num, rfl, by omega, blk_patch_set hblk hz1 hzo, h9, htn.setCell (o + k) _⟩
            case measure => simp [intOf]; omega
          · obtain rfl : k = N := by omega
            go_wp2_with fail
            go_ret
            exact ⟨zs, 1, rfl, hacc.2.1.trans Hsl.out, hacc.1, by omega, hacc.end_ (Or.inr rfl), hblk, htn⟩
theorem nameIt (x : Nat) : ∃ l, l = x := ⟨x, rfl⟩
theorem sub64_b1 (x : Nat) (w : World) : (callFunc 181 #[.int .u64 (x : Int), .int .u64 0, .int .u64 1]).run Tryz.prog w = .ok (.value (.tuple #[.int .u64 (((x + 18446744073709551615) % 18446744073709551616 : Nat) : Int), .int .u64 ((if x < 1 then 1 else 0 : Nat) : Int)])) w := by
  have h := sub64_run x 0 1 (by omega) w
  rw [show x + 18446744073709551616 - 0 - 1 = x + 18446744073709551615 from by omega, Nat.zero_add] at h
  exact h

set_option maxHeartbeats 1600000 in
theorem takeFrom_any (g o N co : Nat) (L us : List Nat) (A : Option Addr) (c : Nat) (w : World) (hblk : Blk w g 84 (u64s L)) (hrx : Rx w g A (u64s us)) (ho : o + N ≤ L.length) (hun : us.length ≤ N) (hd : Dig 18446744073709551616 L) (hdu : Dig 18446744073709551616 us) (hm : N ≤ 281474976710656) :
    Calls Tryz.prog 159 #[.slice (some ⟨g, o, none⟩) N co, .slice A us.length c] w fun e w' => ∃ (zs : List Nat) (q : Nat), e = .returned (.int .u64 (q : Int)) ∧ zs.length = N ∧ Dig 18446744073709551616 zs ∧ q ≤ 1 ∧ val 18446744073709551616 zs + val 18446744073709551616 us = val 18446744073709551616 ((L.drop o).take N) + 18446744073709551616 ^ N * q ∧ Blk w' g 84 (u64s (patch L o zs)) ∧ Tn g w w' := by
  have hsl := seg_length ho
  have hsd := seg_dig hd o N
  have hps := patch_self ho
  obtain ⟨os, hos⟩ : ∃ os, os = (L.drop o).take N := ⟨_, rfl⟩
  rw [← hos] at hsl hsd hps ⊢
  have hblk0 : Blk w g 84 (u64s (patch L o os)) := by rw [hps]; exact hblk
  have Hsl := Lib.hid hsl
  have hgw := hblk.lt
  clear hos hsl hps hblk
  go_enter Tryz.func159, Tryz.ntmps159
  go_wp2_with fail
  go_loopw [5, 6, 7, 11] (fun cv _ _ i wr => ∃ (k cc : Nat) (zs : List Nat), k ≤ us.length ∧ i = .int .i64 k ∧ cv = .int .u64 cc ∧ cc ≤ 1 ∧ Blk wr g 84 (u64s (patch L o zs)) ∧ Dec 18446744073709551616 os (val 18446744073709551616 (us.take k)) k zs cc ∧ Tn g w wr) (fun _ _ _ i _ => us.length - (intOf i).toNat)
  case atStart => exact ⟨0, 0, os, by omega, rfl, rfl, by omega, hblk0, by simpa [val] using Dec.start hsd, Tn.refl _ _⟩
  case round =>
    clear hblk0
    obtain ⟨k, cc, zs, hk, rfl, rfl, hcc, hblk, hacc, htn⟩ := hrel
    by_cases hlt : k < us.length
    · obtain ⟨b, off, rfl, hb, hbg, hx⟩ := (hrx.tn htn).at64 hlt
      have hxd := hdu.at_ k hlt
      have hko : k < os.length := by rw [Hsl.out]; omega
      have hkN : k < N := by omega
      obtain ⟨hz1, hzk⟩ := hacc.at_ hko
      have hzo : o + zs.length ≤ L.length := by rw [hacc.2.1, Hsl.out]; exact ho
      have hy := blk_patch hblk hz1 hzo
      have hyd := hacc.1.at_ k hz1
      have hf := hblk.frozen (o + k)
      have Hzk := Lib.hid hzk
      have a1 := fun W => sub64_run zs[k] us[k] cc hcc W
      obtain ⟨l, hl⟩ : ∃ l, l = (zs[k] + 18446744073709551616 - us[k] - cc) % 18446744073709551616 := ⟨_, rfl⟩
      obtain ⟨q, hq⟩ : ∃ q, q = if zs[k] < us[k] + cc then 1 else 0 := ⟨_, rfl⟩
      rw [← hl, ← hq] at a1
      have Hl := Lib.hid hl
      have Hq := Lib.hid hq
      clear hzk hl hq
      go_wp2_with (simp only [a1])
      go_roundw
      case rel =>
        have hl := Hl.out
        have hq := Hq.out
        have hzk := Hzk.out
        have hqq : q ≤ 1 := by rw [hq]; split <;> omega
        have h9 := hacc.step (d := us[k]) (r := l) (q := q) hko (by omega) (by rw [← hzk, hq]; split <;> omega)
        rw [one_T hlt] at h9
        exact ⟨k + 1, q, zs.set k l, by omega, by go_num, rfl, by omega, blk_patch_set hblk hz1 hzo, h9, htn.setCell (o + k) _⟩
      case measure => simp [intOf]; omega
    · obtain rfl : k = us.length := by omega
      go_wp2_with fail
      go_loopw [5, 8] (fun cv i wr => ∃ (k cc : Nat) (zs : List Nat), us.length ≤ k ∧ k ≤ N ∧ i = .int .i64 k ∧ cv = .int .u64 cc ∧ cc ≤ 1 ∧ Blk wr g 84 (u64s (patch L o zs)) ∧ Dec 18446744073709551616 os (val 18446744073709551616 us) k zs cc ∧ Tn g w wr) (fun _ i _ => N - (intOf i).toNat)
      case atStart => exact ⟨us.length, cc, zs, by omega, hun, rfl, rfl, hcc, hblk, by rw [List.take_length] at hacc; exact hacc, htn⟩
      case round =>
        clear hblk hacc htn hcc
        obtain ⟨k, cc, zs, hku, hk, rfl, rfl, hcc, hblk, hacc, htn⟩ := hrel
        rcases Nat.eq_zero_or_pos cc with hc0 | hc1
        · obtain rfl := hc0
          go_wp2_with fail
          go_ret
          exact ⟨zs, 0, rfl, hacc.2.1.trans Hsl.out, hacc.1, by omega, hacc.end_ (Or.inl rfl), hblk, htn⟩
        · obtain rfl : cc = 1 := by omega
          by_cases hlt : k < N
          · have hko : k < os.length := by rw [Hsl.out]; omega
            obtain ⟨hz1, hzk⟩ := hacc.at_ hko
            have hzo : o + zs.length ≤ L.length := by rw [hacc.2.1, Hsl.out]; exact ho
            have hy := blk_patch hblk hz1 hzo
            have hyd := hacc.1.at_ k hz1
            have hf := hblk.frozen (o + k)
            have Hzk := Lib.hid hzk
            have a1 := fun W => sub64_b1 zs[k] W
            obtain ⟨l, hl⟩ := nameIt ((zs[k] + 18446744073709551615) % 18446744073709551616)
            obtain ⟨q, hq⟩ := nameIt (if zs[k] < 1 then 1 else 0)
            rw [← hl, ← hq] at a1
            have Hl := Lib.hid hl
            have Hq := Lib.hid hq
            clear hzk hl hq
            go_wp2_with (simp only [a1])
            go_roundw
            case rel =>
              have hl := Hl.out
              have hq := Hq.out
              have hzk := Hzk.out
              have hqq : q ≤ 1 := by rw [hq]; split <;> omega
              have h9 := hacc.step (d := 0) (r := l) (q := q) hko (by omega) (by rw [← hzk, hq]; split <;> omega)
              rw [Nat.mul_zero, Nat.add_zero] at h9
              exact ⟨k + 1, q, zs.set k l, by omega, by omega, by go_num, rfl, by omega, blk_patch_set hblk hz1 hzo, h9, htn.setCell (o + k) _⟩
            case measure => simp [intOf]; omega
          · obtain rfl : k = N := by omega
            go_wp2_with fail
            go_ret
            exact ⟨zs, 1, rfl, hacc.2.1.trans Hsl.out, hacc.1, by omega, hacc.end_ (Or.inr rfl), hblk, htn⟩
end
section
section Ring
variable {z9 : Nat} [NeZero z9]

def sm (f : Nat → Fin z9) : Nat → Fin z9
  | 0 => 0
  | n + 1 => sm f n + f n

theorem sm_congr {f g : Nat → Fin z9} (n : Nat) (h : ∀ i, i < n → f i = g i) : sm f n = sm g n := by
  induction n with
  | zero => rfl
  | succ n ih => simp only [sm, ih (fun i hi => h i (by omega)), h n (by omega)]
theorem sm_add (f g : Nat → Fin z9) (n : Nat) : sm (fun i => f i + g i) n = sm f n + sm g n := by
  induction n with
  | zero => simp only [sm]; grind
  | succ n ih => simp only [sm, ih]; grind
theorem sm_mul (c : Fin z9) (f : Nat → Fin z9) (n : Nat) : sm (fun i => c * f i) n = c * sm f n := by
  induction n with
  | zero => simp only [sm]; grind
  | succ n ih => simp only [sm, ih]; grind
theorem sm_split (f : Nat → Fin z9) (a b : Nat) : sm f (a + b) = sm f a + sm (fun i => f (a + i)) b := by
  induction b with
  | zero => simp only [sm, Nat.add_zero]; grind
  | succ n ih => rw [← Nat.add_assoc]; simp only [sm, ih]; grind
theorem sm_shift (f : Nat → Fin z9) (n : Nat) : sm f (n + 1) = f 0 + sm (fun i => f (i + 1)) n := by
  rw [Nat.add_comm, sm_split]
  simp only [sm, Nat.add_comm 1]; grind
theorem sm_zero (n : Nat) : sm (fun _ => (0 : Fin z9)) n = 0 := by
  induction n with
  | zero => rfl
  | succ n ih => simp only [sm, ih]; grind

theorem pw_zero (a : Fin z9) : a ^ 0 = 1 := by grind
theorem pw_succ (a : Fin z9) (n : Nat) : a ^ (n + 1) = a ^ n * a := by grind
theorem pw_add (a : Fin z9) (m n : Nat) : a ^ (m + n) = a ^ m * a ^ n := by
  induction n with
  | zero => rw [Nat.add_zero, pw_zero]; grind
  | succ n ih => rw [← Nat.add_assoc, pw_succ, pw_succ, ih]; grind
theorem pw_mul (a b : Fin z9) (n : Nat) : (a * b) ^ n = a ^ n * b ^ n := by
  induction n with
  | zero => rw [pw_zero, pw_zero, pw_zero]; grind
  | succ n ih => rw [pw_succ, pw_succ, pw_succ, ih]; grind
theorem pw_one (n : Nat) : (1 : Fin z9) ^ n = 1 := by
  induction n with
  | zero => rw [pw_zero]
  | succ n ih => rw [pw_succ, ih]; grind
theorem pw_pw (a : Fin z9) (m n : Nat) : a ^ (m * n) = (a ^ m) ^ n := by
  induction n with
  | zero => rw [Nat.mul_zero, pw_zero, pw_zero]
  | succ n ih => rw [Nat.mul_succ, pw_add, ih, pw_succ]

/-- One layer down: from blocks of 2 h to blocks of h. -/
def sLay (h : Nat) (rt : Nat → Fin z9) (x : Nat → Fin z9) : Nat → Fin z9 := fun j =>
  if j % (2 * h) < h then x j + x (j + h) else (x (j - h) - x j) * rt (j % (2 * h) - h)
/-- One layer up. -/
def gLay (h : Nat) (rt : Nat → Fin z9) (x : Nat → Fin z9) : Nat → Fin z9 := fun j =>
  if j % (2 * h) < h then x j + x (j + h) * rt (j % (2 * h)) else x (j - h) - x j * rt (j % (2 * h) - h)

theorem mod_low {h r i : Nat} (hi : i < h) : (2 * h * r + i) % (2 * h) = i := by
  rw [Nat.mul_add_mod, Nat.mod_eq_of_lt (by omega)]
theorem mod_high {h r i : Nat} (hi : i < h) : (2 * h * r + h + i) % (2 * h) = h + i := by
  rw [Nat.add_assoc, Nat.mul_add_mod, Nat.mod_eq_of_lt (by omega)]

theorem s_low (h r : Nat) (rt x : Nat → Fin z9) (t : Fin z9) (ht : t ^ h = 1) :
    sm (fun i => sLay h rt x (2 * h * r + i) * t ^ i) h = sm (fun i => x (2 * h * r + i) * t ^ i) (2 * h) := by
  rw [Nat.two_mul h, sm_split, ← sm_add]
  refine sm_congr h fun i hi => ?_
  have e : sLay h rt x ((h + h) * r + i) = x ((h + h) * r + i) + x ((h + h) * r + i + h) := by
    unfold sLay
    rw [← Nat.two_mul, mod_low hi, if_pos hi]
  rw [e, pw_add, ht, show (h + h) * r + (h + i) = (h + h) * r + i + h from by omega]
  grind
theorem s_high (h r : Nat) (rt x : Nat → Fin z9) (t w : Fin z9) (ht : t ^ h = 1) (hw : w ^ h = -1) (hrt : ∀ i, i < h → rt i = w ^ i) :
    sm (fun i => sLay h rt x (2 * h * r + h + i) * t ^ i) h = sm (fun i => x (2 * h * r + i) * (w * t) ^ i) (2 * h) := by
  rw [Nat.two_mul h, sm_split, ← sm_add]
  refine sm_congr h fun i hi => ?_
  have e : sLay h rt x ((h + h) * r + h + i) = (x ((h + h) * r + i) - x ((h + h) * r + h + i)) * w ^ i := by
    unfold sLay
    rw [← Nat.two_mul, mod_high hi, if_neg (by omega), show h + i - h = i from by omega, show 2 * h * r + h + i - h = 2 * h * r + i from by omega, hrt i hi]
  rw [e, pw_add, pw_mul, pw_mul, ht, hw, show (h + h) * r + (h + i) = (h + h) * r + h + i from by omega]
  grind

/-- All layers down from blocks of 2^k to blocks of 2^j: the roots of the layer of h are rts h. -/
def sAll (rts : Nat → Nat → Fin z9) (k : Nat) : Nat → (Nat → Fin z9) → (Nat → Fin z9)
  | 0, x => x
  | m + 1, x => sLay (2 ^ (k - 1 - m)) (rts (2 ^ (k - 1 - m))) (sAll rts k m x)

theorem s_eval (rts : Nat → Nat → Fin z9) (ws : Nat → Fin z9) (k : Nat) (hw : ∀ j, j < k → ws j ^ (2 ^ j) = -1) (hrt : ∀ j i, j < k → i < 2 ^ j → rts (2 ^ j) i = ws j ^ i) (m : Nat) (hm : m ≤ k) :
    ∀ r, r < 2 ^ m → ∃ c : Fin z9, ∀ (x : Nat → Fin z9) (t : Fin z9), t ^ 2 ^ (k - m) = 1 → sm (fun i => sAll rts k m x (2 ^ (k - m) * r + i) * t ^ i) (2 ^ (k - m)) = sm (fun i => x i * (c * t) ^ i) (2 ^ k) := by
  induction m with
  | zero =>
    intro r hr
    obtain rfl : r = 0 := by simpa using hr
    refine ⟨1, fun x t _ => ?_⟩
    rw [Nat.sub_zero]
    refine sm_congr _ fun i _ => ?_
    show x (2 ^ k * 0 + i) * t ^ i = _
    rw [show 2 ^ k * 0 + i = i from by omega, show (1 : Fin z9) * t = t from by grind]
  | succ m ih =>
    intro r hr
    obtain ⟨h, hh⟩ : ∃ h, h = 2 ^ (k - (m + 1)) := ⟨_, rfl⟩
    have e1 : 2 ^ (k - m) = 2 * h := by
      rw [hh, show k - m = k - (m + 1) + 1 from by omega, Nat.pow_succ]; omega
    have e2 : 2 ^ (k - 1 - m) = h := by rw [hh]; congr 1; omega
    have hw2 := hw (k - (m + 1)) (by omega)
    rw [← hh] at hw2
    have hrt2 : ∀ i, i < h → rts h i = ws (k - (m + 1)) ^ i := fun i hi => by
      rw [hh]; exact hrt _ i (by omega) (by rw [← hh]; exact hi)
    obtain ⟨c, hc⟩ := ih (by omega) (r / 2) (by rw [Nat.pow_succ] at hr; omega)
    rw [e1] at hc
    rw [← hh]
    have e3 : ∀ x, sAll rts k (m + 1) x = sLay h (rts h) (sAll rts k m x) := fun x => by
      show sLay (2 ^ (k - 1 - m)) (rts (2 ^ (k - 1 - m))) (sAll rts k m x) = _
      rw [e2]
    rcases Nat.mod_two_eq_zero_or_one r with h0 | h1
    · refine ⟨c, fun x t ht => ?_⟩
      rw [e3, ← hc x t (by rw [Nat.two_mul, pw_add, ht]; grind), ← s_low h (r / 2) (rts h) _ t ht]
      refine sm_congr _ fun i _ => ?_
      rw [show h * r = 2 * h * (r / 2) from by rw [Nat.mul_comm 2 h, Nat.mul_assoc]; congr 1; omega]
    · refine ⟨c * ws (k - (m + 1)), fun x t ht => ?_⟩
      have e4 : (c * ws (k - (m + 1)) * t) = c * (ws (k - (m + 1)) * t) := by grind
      rw [e3, e4, ← hc x (ws (k - (m + 1)) * t) (by rw [pw_mul, Nat.two_mul, pw_add, pw_add, ht, hw2]; grind), ← s_high h (r / 2) (rts h) _ t _ ht hw2 hrt2]
      refine sm_congr _ fun i _ => ?_
      rw [show h * r = 2 * h * (r / 2) + h from by rw [Nat.mul_comm 2 h, Nat.mul_assoc, ← Nat.mul_succ]; congr 1; omega]

/-- At the end, each place holds the polynomial's value at a point of its own. -/
theorem s_value (rts : Nat → Nat → Fin z9) (ws : Nat → Fin z9) (k : Nat) (hw : ∀ j, j < k → ws j ^ (2 ^ j) = -1) (hrt : ∀ j i, j < k → i < 2 ^ j → rts (2 ^ j) i = ws j ^ i) :
    ∀ r, r < 2 ^ k → ∃ c : Fin z9, ∀ x : Nat → Fin z9, sAll rts k k x r = sm (fun i => x i * c ^ i) (2 ^ k) := by
  intro r hr
  obtain ⟨c, hc⟩ := s_eval rts ws k hw hrt k (Nat.le_refl _) r hr
  refine ⟨c, fun x => ?_⟩
  have := hc x 1 (pw_one _)
  rw [Nat.sub_self, Nat.pow_zero] at this
  simp only [sm, Nat.one_mul, Nat.add_zero, pw_zero] at this
  rw [show c * 1 = c from by grind] at this
  rw [← this]; grind

theorem s_product (rts : Nat → Nat → Fin z9) (ws : Nat → Fin z9) (k : Nat) (hw : ∀ j, j < k → ws j ^ (2 ^ j) = -1) (hrt : ∀ j i, j < k → i < 2 ^ j → rts (2 ^ j) i = ws j ^ i)
    (x y z : Nat → Fin z9) (hz : ∀ t : Fin z9, sm (fun i => z i * t ^ i) (2 ^ k) = sm (fun i => x i * t ^ i) (2 ^ k) * sm (fun i => y i * t ^ i) (2 ^ k)) :
    ∀ r, r < 2 ^ k → sAll rts k k z r = sAll rts k k x r * sAll rts k k y r := by
  intro r hr
  obtain ⟨c, hc⟩ := s_value rts ws k hw hrt r hr
  rw [hc, hc, hc, hz]

theorem g_s (h : Nat) (rt ru x : Nat → Fin z9) (hh : 0 < h) (hrt : ∀ i, i < h → rt i * ru i = 1) (j : Nat) : gLay h ru (sLay h rt x) j = 2 * x j := by
  unfold gLay
  by_cases hj : j % (2 * h) < h
  · have e : (j + h) % (2 * h) = j % (2 * h) + h := by
      have h1 := Nat.div_add_mod j (2 * h)
      conv => lhs; rw [← h1]
      rw [Nat.add_assoc, Nat.mul_add_mod, Nat.mod_eq_of_lt (by omega)]
    rw [if_pos hj]
    unfold sLay
    rw [if_pos hj, e, if_neg (by omega), show j % (2 * h) + h - h = j % (2 * h) from by omega, show j + h - h = j from by omega]
    have := hrt _ hj
    grind
  · have h2 : j % (2 * h) < 2 * h := Nat.mod_lt _ (by omega)
    have h3 : h ≤ j := Nat.le_trans (by omega) (Nat.mod_le j (2 * h))
    have e : (j - h) % (2 * h) = j % (2 * h) - h := by
      have h1 := Nat.div_add_mod j (2 * h)
      rw [show j - h = 2 * h * (j / (2 * h)) + (j % (2 * h) - h) from by omega, Nat.mul_add_mod, Nat.mod_eq_of_lt (by omega)]
    rw [if_neg hj]
    unfold sLay
    rw [e, if_pos (by omega), if_neg hj, show j - h + h = j from by omega]
    have := hrt (j % (2 * h) - h) (by omega)
    grind
theorem g_mul (h : Nat) (ru : Nat → Fin z9) (c : Fin z9) (x : Nat → Fin z9) (j : Nat) : gLay h ru (fun i => c * x i) j = c * gLay h ru x j := by
  unfold gLay
  split <;> grind

/-- m layers up from blocks of one. -/
def gAll (rus : Nat → Nat → Fin z9) : Nat → (Nat → Fin z9) → (Nat → Fin z9)
  | 0, x => x
  | m + 1, x => gLay (2 ^ m) (rus (2 ^ m)) (gAll rus m x)

omit [NeZero z9] in
theorem gLay_congr (h : Nat) (ru x y : Nat → Fin z9) (e : ∀ j, x j = y j) : gLay h ru x = gLay h ru y := by
  have : x = y := funext e
  rw [this]
theorem g_all (rts rus : Nat → Nat → Fin z9) (k : Nat) (hrt : ∀ j i, j < k → i < 2 ^ j → rts (2 ^ j) i * rus (2 ^ j) i = 1) (x : Nat → Fin z9) (m : Nat) (hm : m ≤ k) :
    ∀ j, gAll rus m (sAll rts k k x) j = 2 ^ m * sAll rts k (k - m) x j := by
  induction m with
  | zero => intro j; rw [pw_zero]; show sAll rts k k x j = 1 * sAll rts k k x j; grind
  | succ m ih =>
    intro j
    show gLay (2 ^ m) (rus (2 ^ m)) (gAll rus m (sAll rts k k x)) j = _
    rw [gLay_congr _ _ _ _ (ih (by omega)), g_mul, show k - m = (k - (m + 1)) + 1 from by omega]
    show 2 ^ m * gLay (2 ^ m) (rus (2 ^ m)) (sLay (2 ^ (k - 1 - (k - (m + 1)))) (rts (2 ^ (k - 1 - (k - (m + 1))))) (sAll rts k (k - (m + 1)) x)) j = _
    rw [show k - 1 - (k - (m + 1)) = m from by omega, g_s _ _ _ _ (Nat.two_pow_pos m) (fun i hi => hrt m i (by omega) hi), pw_succ]
    grind
end Ring
end
section
section Poly
variable {z9 : Nat} [NeZero z9]
def addP : List Nat → List Nat → List Nat
  | [], ys => ys
  | xs, [] => xs
  | x :: xs, y :: ys => (x + y) :: addP xs ys
/-- The coefficients of the product, in as many places as both have. -/
def mulL : List Nat → List Nat → List Nat
  | [], ys => List.replicate ys.length 0
  | x :: xs, ys => addP (ys.map (x * ·)) (0 :: mulL xs ys)
theorem addP_length (xs ys : List Nat) : (addP xs ys).length = max xs.length ys.length := by
  induction xs generalizing ys with
  | nil => simp [addP]
  | cons x xs ih => cases ys with
    | nil => simp [addP]
    | cons y ys => simp only [addP, List.length_cons, ih]; omega
theorem mulL_length (xs ys : List Nat) : (mulL xs ys).length = xs.length + ys.length := by
  induction xs with
  | nil => simp [mulL]
  | cons x xs ih => simp only [mulL, addP_length, List.length_map, List.length_cons, ih]; omega
theorem addP_le {xs ys : List Nat} {A B : Nat} (hx : ∀ v ∈ xs, v ≤ A) (hy : ∀ v ∈ ys, v ≤ B) : ∀ v ∈ addP xs ys, v ≤ A + B := by
  induction xs generalizing ys with
  | nil => intro v hv; have := hy v hv; omega
  | cons x xs ih => cases ys with
    | nil => intro v hv; have := hx v hv; omega
    | cons y ys =>
      intro v hv
      rcases List.mem_cons.1 hv with rfl | hv
      · have := hx x (List.mem_cons_self); have := hy y (List.mem_cons_self); omega
      · exact ih (fun v hv => hx v (List.mem_cons_of_mem _ hv)) (fun v hv => hy v (List.mem_cons_of_mem _ hv)) v hv
theorem mulL_le {xs ys : List Nat} {M : Nat} (hx : ∀ v ∈ xs, v ≤ M) (hy : ∀ v ∈ ys, v ≤ M) : ∀ v ∈ mulL xs ys, v ≤ xs.length * (M * M) := by
  induction xs with
  | nil => intro v hv; rw [(List.mem_replicate.1 hv).2]; omega
  | cons x xs ih =>
    intro v hv
    have h1 := addP_le (A := M * M) (B := xs.length * (M * M)) (xs := ys.map (x * ·)) (ys := 0 :: mulL xs ys) (fun v hv => by
      obtain ⟨y, hy1, rfl⟩ := List.mem_map.1 hv
      exact Nat.mul_le_mul (hx x List.mem_cons_self) (hy y hy1)) (fun v hv => by
      rcases List.mem_cons.1 hv with rfl | hv
      · omega
      · exact ih (fun v hv => hx v (List.mem_cons_of_mem _ hv)) v hv) v hv
    rw [List.length_cons, Nat.succ_mul]; omega

/-- The polynomial at t. -/
def evL (f : Nat → Fin z9) (t : Fin z9) : List Nat → Fin z9
  | [] => 0
  | x :: xs => f x + t * evL f t xs
theorem evL_addP (f : Nat → Fin z9) (hf : ∀ a b, f (a + b) = f a + f b) (t : Fin z9) (xs ys : List Nat) : evL f t (addP xs ys) = evL f t xs + evL f t ys := by
  induction xs generalizing ys with
  | nil => simp only [addP, evL]; grind
  | cons x xs ih => cases ys with
    | nil => simp only [addP, evL]; grind
    | cons y ys => simp only [addP, evL, ih, hf]; grind
theorem evL_map (f : Nat → Fin z9) (hm : ∀ a b, f (a * b) = f a * f b) (t : Fin z9) (x : Nat) (ys : List Nat) : evL f t (ys.map (x * ·)) = f x * evL f t ys := by
  induction ys with
  | nil => simp only [List.map_nil, evL]; grind
  | cons y ys ih => simp only [List.map_cons, evL, ih, hm]; grind
theorem evL_zeros (f : Nat → Fin z9) (h0 : f 0 = 0) (t : Fin z9) (n : Nat) : evL f t (List.replicate n 0) = 0 := by
  induction n with
  | zero => rfl
  | succ n ih => simp only [List.replicate_succ, evL, ih, h0]; grind
theorem evL_mulL (f : Nat → Fin z9) (h0 : f 0 = 0) (hf : ∀ a b, f (a + b) = f a + f b) (hm : ∀ a b, f (a * b) = f a * f b) (t : Fin z9) (xs ys : List Nat) : evL f t (mulL xs ys) = evL f t xs * evL f t ys := by
  induction xs with
  | nil => simp only [mulL, evL, evL_zeros f h0]; grind
  | cons x xs ih => simp only [mulL, evL, evL_addP f hf, evL_map f hm, ih, h0]; grind
theorem evL_sm (f : Nat → Fin z9) (h0 : f 0 = 0) (t : Fin z9) (xs : List Nat) (n : Nat) (hn : xs.length ≤ n) : sm (fun i => f (xs.getD i 0) * t ^ i) n = evL f t xs := by
  induction xs generalizing n with
  | nil =>
    rw [sm_congr (g := fun _ => (0 : Fin z9)) n (fun i _ => by simp [h0]; grind), sm_zero]; rfl
  | cons x xs ih =>
    cases n with
    | zero => simp at hn
    | succ n =>
      rw [sm_shift]
      have := ih n (by simpa using hn)
      simp only [List.getD_cons_zero, List.getD_cons_succ, evL]
      rw [← this, ← sm_mul, pw_zero]
      have e : sm (fun i => f (xs.getD i 0) * t ^ (i + 1)) n = sm (fun i => t * (f (xs.getD i 0) * t ^ i)) n := sm_congr n fun i _ => by rw [pw_succ]; grind
      rw [e]; grind
end Poly

abbrev FP := Fin 18446744069414584321
def ph (a : Nat) : FP := Fin.ofNat _ a
theorem ph_val (a : Nat) : (ph a).val = a % 18446744069414584321 := rfl
theorem ph_add (a b : Nat) : ph (a + b) = ph a + ph b := by apply Fin.ext; simp [ph, Fin.ofNat, Fin.add_def]
theorem ph_mul (a b : Nat) : ph (a * b) = ph a * ph b := by apply Fin.ext; simp [ph, Fin.ofNat, Fin.mul_def, Nat.mul_mod]
theorem ph_mod (a : Nat) : ph (a % 18446744069414584321) = ph a := by apply Fin.ext; simp [ph, Fin.ofNat]
theorem ph_zero : ph 0 = 0 := rfl
theorem ph_pow (a n : Nat) : ph (a ^ n) = ph a ^ n := by
  induction n with
  | zero => rw [pw_zero]; rfl
  | succ n ih => rw [Nat.pow_succ, ph_mul, ih, pw_succ]
theorem ph_inj {a b : Nat} (ha : a < 18446744069414584321) (hb : b < 18446744069414584321) (h : ph a = ph b) : a = b := by
  have := congrArg Fin.val h
  rw [ph_val, ph_val, Nat.mod_eq_of_lt ha, Nat.mod_eq_of_lt hb] at this
  exact this
theorem ph_of_mod {a b : Nat} (h : a % 18446744069414584321 = b % 18446744069414584321) : ph a = ph b := by rw [← ph_mod, h, ph_mod]

/-- Powers by squares, for the kernel. -/
def pm (p : Nat) : Nat → Nat → Nat → Nat
  | 0, _, _ => 1
  | fuel + 1, a, e => if e = 0 then 1 else if e % 2 = 1 then a * pm p fuel (a * a % p) (e / 2) % p else pm p fuel (a * a % p) (e / 2)
theorem pm_eq (p : Nat) (fuel a e : Nat) (h : e < 2 ^ fuel) : pm p fuel a e % p = a ^ e % p := by
  induction fuel generalizing a e with
  | zero => obtain rfl : e = 0 := by simpa using h
            rfl
  | succ fuel ih =>
    simp only [pm]
    have h2 := ih (a * a % p) (e / 2) (by rw [Nat.pow_succ] at h; omega)
    have h3 : (a * a % p) ^ (e / 2) % p = a ^ (2 * (e / 2)) % p := by
      rw [← Nat.pow_mod, Nat.pow_mul, Nat.pow_two]
    split
    · rename_i h0; rw [h0]; rfl
    · split
      · rename_i h1
        have e2 : e = 2 * (e / 2) + 1 := by omega
        conv => rhs; rw [e2, Nat.pow_succ, Nat.mul_mod, ← h3, ← h2]
        rw [Nat.mul_comm, Nat.mul_mod, Nat.mod_mod]
      · have e2 : e = 2 * (e / 2) := by omega
        conv => rhs; rw [e2, ← h3, ← h2]
theorem seven_half : (7 : Nat) ^ 9223372034707292160 % 18446744069414584321 = 18446744069414584320 := by
  rw [← pm_eq 18446744069414584321 64 7 9223372034707292160 (by decide)]
  decide +kernel
theorem two_192 : (2 : Nat) ^ 192 % 18446744069414584321 = 1 := by decide +kernel
theorem ph_seven : ph 7 ^ 9223372034707292160 = -1 := by
  rw [← ph_pow]
  apply Fin.ext
  rw [ph_val, seven_half]; rfl

section Final
variable {z9 : Nat} [NeZero z9]
theorem in_block {k m j : Nat} (hm : m < k) (hj : j < 2 ^ k) (h : j % (2 * 2 ^ m) < 2 ^ m) : j + 2 ^ m < 2 ^ k := by
  obtain ⟨q, hq⟩ : ∃ q, 2 ^ k = 2 * 2 ^ m * q := ⟨2 ^ (k - (m + 1)), by
    rw [← Nat.pow_succ', ← Nat.pow_add]; congr 1; omega⟩
  have h1 := Nat.div_add_mod j (2 * 2 ^ m)
  have h2 : j / (2 * 2 ^ m) < q := by
    rw [Nat.div_lt_iff_lt_mul (by have := Nat.two_pow_pos m; omega), Nat.mul_comm, ← hq]; exact hj
  have h3 : 2 * 2 ^ m * (j / (2 * 2 ^ m) + 1) ≤ 2 * 2 ^ m * q := Nat.mul_le_mul_left _ h2
  rw [← hq, Nat.mul_add] at h3
  omega
omit [NeZero z9] in
theorem gLay_local {k m : Nat} (hm : m < k) (rt x y : Nat → Fin z9) (h : ∀ j, j < 2 ^ k → x j = y j) : ∀ j, j < 2 ^ k → gLay (2 ^ m) rt x j = gLay (2 ^ m) rt y j := by
  intro j hj
  unfold gLay
  split
  · rename_i hl
    rw [h j hj, h _ (in_block hm hj hl)]
  · rw [h j hj, h (j - 2 ^ m) (Nat.lt_of_le_of_lt (Nat.sub_le _ _) hj)]
omit [NeZero z9] in
theorem gAll_local {k : Nat} (rus : Nat → Nat → Fin z9) (x y : Nat → Fin z9) (h : ∀ j, j < 2 ^ k → x j = y j) (m : Nat) (hm : m ≤ k) : ∀ j, j < 2 ^ k → gAll rus m x j = gAll rus m y j := by
  induction m with
  | zero => exact h
  | succ m ih => exact gLay_local (by omega) _ _ _ (ih (by omega))
end Final

/-- The root of the order 2^k, and its inverse. -/
def rootE (k : Nat) : Nat := 18446744069414584320 / 2 ^ k
theorem rootE_mul {k : Nat} (hk : k ≤ 32) : rootE k * 2 ^ k = 18446744069414584320 := by
  unfold rootE
  refine Nat.div_mul_cancel ⟨2 ^ (32 - k) * 4294967295, ?_⟩
  rw [← Nat.mul_assoc, ← Nat.pow_add, show k + (32 - k) = 32 from by omega]
theorem root_half {k : Nat} (hk : k ≤ 32) (h0 : 1 ≤ k) : (ph 7 ^ rootE k) ^ 2 ^ (k - 1) = (-1 : FP) := by
  rw [← pw_pw, ← ph_seven]
  congr 1
  have h := rootE_mul hk
  rw [show 2 ^ k = 2 ^ (k - 1) * 2 from by rw [← Nat.pow_succ]; congr 1; omega, ← Nat.mul_assoc] at h
  omega
theorem root_inv {k : Nat} : ph 7 ^ rootE k * ph 7 ^ (18446744069414584320 - rootE k) = (1 : FP) := by
  have h : rootE k ≤ 18446744069414584320 := Nat.div_le_self _ _
  rw [← pw_add, show rootE k + (18446744069414584320 - rootE k) = 9223372034707292160 + 9223372034707292160 from by omega, pw_add, ph_seven]
  grind
theorem scale_inv (k e : Nat) (he : e + 1 = 18446744069414584320) : (2 : FP) ^ k * ph ((2 ^ k) ^ e % 18446744069414584321) = 1 := by
  rw [ph_mod, ph_pow, ph_pow, show ph 2 = 2 from rfl, show ((2 : FP) ^ k) * (2 ^ k) ^ e = (2 ^ k) ^ (e + 1) from by rw [pw_succ]; grind, he, ← pw_pw, show k * 18446744069414584320 = 192 * (k * 96076792028200960) from by omega, pw_pw]
  have h : (2 : FP) ^ 192 = 1 := by
    rw [show (2 : FP) = ph 2 from rfl, ← ph_pow]
    apply Fin.ext
    rw [ph_val, two_192]; rfl
  rw [h, pw_one]

/-- The list's places as elements of the field. -/
def fl (xs : List Nat) : Nat → FP := fun i => ph (xs.getD i 0)
/-- The roots of a layer. -/
def rtsOf (w : FP) (k : Nat) : Nat → Nat → FP := fun h i => w ^ (i * (2 ^ (k - 1) / h))

theorem half_div {k j : Nat} (hj : j < k) : 2 ^ (k - 1) / 2 ^ j = 2 ^ (k - 1 - j) := Nat.pow_div (by omega) (by omega)
theorem ntt_out (k e0 : Nat) (he0 : e0 + 1 = 18446744069414584320) (h0 : 1 ≤ k) (hk : k ≤ 32) (xs ys : List Nat) (M : Nat) (hx : ∀ v ∈ xs, v ≤ M) (hy : ∀ v ∈ ys, v ≤ M) (hl : xs.length + ys.length ≤ 2 ^ k) (hM : xs.length * (M * M) < 18446744069414584321)
    (V : Nat → FP) (hV : ∀ j, j < 2 ^ k → V j = sAll (rtsOf (ph 7 ^ rootE k) k) k k (fl xs) j * sAll (rtsOf (ph 7 ^ rootE k) k) k k (fl ys) j)
    (u : Nat → Nat) (hu : ∀ j, j < 2 ^ k → ph (u j) = gAll (rtsOf (ph 7 ^ (18446744069414584320 - rootE k)) k) k V j) :
    ∀ j, j < 2 ^ k → u j * ((2 ^ k) ^ e0 % 18446744069414584321) % 18446744069414584321 = (mulL xs ys).getD j 0 := by
  intro j hj
  have hw : ∀ j, j < k → ((ph 7 ^ rootE k) ^ 2 ^ (k - 1 - j)) ^ 2 ^ j = (-1 : FP) := fun j hj => by
    rw [← pw_pw, ← Nat.pow_add, show k - 1 - j + j = k - 1 from by omega]; exact root_half hk h0
  have hrt : ∀ j i, j < k → i < 2 ^ j → rtsOf (ph 7 ^ rootE k) k (2 ^ j) i = ((ph 7 ^ rootE k) ^ 2 ^ (k - 1 - j)) ^ i := fun j i hj _ => by
    unfold rtsOf
    rw [half_div hj, Nat.mul_comm, pw_pw]
  have hru : ∀ j i, j < k → i < 2 ^ j → rtsOf (ph 7 ^ rootE k) k (2 ^ j) i * rtsOf (ph 7 ^ (18446744069414584320 - rootE k)) k (2 ^ j) i = 1 := fun j i hj _ => by
    unfold rtsOf
    rw [← pw_mul, root_inv, pw_one]
  have hz : ∀ t : FP, sm (fun i => fl (mulL xs ys) i * t ^ i) (2 ^ k) = sm (fun i => fl xs i * t ^ i) (2 ^ k) * sm (fun i => fl ys i * t ^ i) (2 ^ k) := fun t => by
    unfold fl
    rw [evL_sm ph ph_zero t _ _ (by rw [mulL_length]; exact hl), evL_sm ph ph_zero t _ _ (by omega), evL_sm ph ph_zero t _ _ (by omega), evL_mulL ph ph_zero ph_add ph_mul]
  have hs := s_product (rtsOf (ph 7 ^ rootE k) k) (fun j => (ph 7 ^ rootE k) ^ 2 ^ (k - 1 - j)) k hw hrt (fl xs) (fl ys) (fl (mulL xs ys)) hz
  have hg := g_all (rtsOf (ph 7 ^ rootE k) k) (rtsOf (ph 7 ^ (18446744069414584320 - rootE k)) k) k hru (fl (mulL xs ys)) k (Nat.le_refl _) j
  have e : gAll (rtsOf (ph 7 ^ (18446744069414584320 - rootE k)) k) k V j = 2 ^ k * fl (mulL xs ys) j := by
    rw [gAll_local (k := k) _ _ (sAll (rtsOf (ph 7 ^ rootE k) k) k k (fl (mulL xs ys))) (fun j hj => by rw [hV j hj, hs j hj]) k (Nat.le_refl _) j hj, hg, Nat.sub_self]
    rfl
  refine ph_inj (Nat.mod_lt _ (by decide)) ?_ ?_
  · rw [List.getD_eq_getElem?_getD]
    by_cases hlt : j < (mulL xs ys).length
    · rw [List.getElem?_eq_getElem hlt]
      exact Nat.lt_of_le_of_lt (mulL_le hx hy _ (List.getElem_mem hlt)) hM
    · rw [List.getElem?_eq_none (by omega)]; decide
  · rw [ph_mod, ph_mul, hu j hj, e]
    have := scale_inv k e0 he0
    unfold fl
    grind
end
end Go.Proofs.YtadpelhmjmamnaaGreatDoor
