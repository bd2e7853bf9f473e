/- The contracts of addInto and takeFrom. Conditions: fewer words than any slice can have. -/
import Derived.Test.YtogkfpbapjjgfaaRowA
namespace Go.Proofs.Ytogkfpbapjjgfaa
open Go.RowKit

theorem one_T {b : Nat} {us : List Nat} {k : Nat} (hu : k < us.length) : val b (us.take k) + b ^ k * us[k] = val b (us.take (k + 1)) := (val_take_succ b us k hu).symm
theorem Acc.end_ {b : Nat} {os zs : List Nat} {T k c N : Nat} (h : Acc b os T k zs c) (hc : c = 0 ∨ k = N) : val b zs + b ^ N * c = val b os + T := by
  rcases hc with rfl | rfl
  · have := h.2.2.1; simpa using this
  · exact h.2.2.1
theorem Dec.end_ {b : Nat} {os zs : List Nat} {T k c N : Nat} (h : Dec b os T k zs c) (hc : c = 0 ∨ k = N) : val b zs + T = val b os + b ^ N * c := by
  rcases hc with rfl | rfl
  · have := h.2.2.1; simpa using this
  · exact h.2.2.1

set_option maxHeartbeats 1600000 in
theorem addInto_any (g o N co : Nat) (L us : List Nat) (A : Option Addr) (c : Nat) (w : World) (hblk : Blk w g 44 (u64s L)) (hrx : Rx w g A (u64s us)) (ho : o + N ≤ L.length) (hun : us.length ≤ N) (hd : Dig 18446744073709551616 L) (hdu : Dig 18446744073709551616 us) (hm : L.length ≤ 281474976710656) :
    Calls Try.prog 65 #[.slice (some ⟨g, o, none⟩) N co, .slice A us.length c] w fun e w' => ∃ (zs : List Nat) (q : Nat), e = .returned (.int .u64 (q : Int)) ∧ zs.length = N ∧ Dig 18446744073709551616 zs ∧ q ≤ 1 ∧ val 18446744073709551616 zs + 18446744073709551616 ^ N * q = val 18446744073709551616 ((L.drop o).take N) + val 18446744073709551616 us ∧ Blk w' g 44 (u64s (patch L o zs)) ∧ Tn g w w' := by
  have hsl := seg_length ho
  have hsd := seg_dig hd o N
  have hps := patch_self ho
  obtain ⟨os, hos⟩ : ∃ os, os = (L.drop o).take N := ⟨_, rfl⟩
  rw [← hos] at hsl hsd hps ⊢
  have hblk0 : Blk w g 44 (u64s (patch L o os)) := by rw [hps]; exact hblk
  have Hsl := Lib.hid hsl
  have hgw := hblk.lt
  clear hos hsl hps hblk
  go_enter Try.func65, Try.ntmps65
  go_wp2_with fail
  go_loopw [5, 6, 7, 11] (fun cv _ _ i wr => ∃ (k cc : Nat) (zs : List Nat), k ≤ us.length ∧ i = .int .i64 k ∧ cv = .int .u64 cc ∧ cc ≤ 1 ∧ Blk wr g 44 (u64s (patch L o zs)) ∧ Acc 18446744073709551616 os (val 18446744073709551616 (us.take k)) k zs cc ∧ Tn g w wr) (fun _ _ _ i _ => us.length - (intOf i).toNat)
  case atStart => exact ⟨0, 0, os, by omega, rfl, rfl, by omega, hblk0, by simpa [val] using Acc.start hsd, Tn.refl _ _⟩
  case round =>
    clear hblk0
    obtain ⟨k, cc, zs, hk, rfl, rfl, hcc, hblk, hacc, htn⟩ := hrel
    by_cases hlt : k < us.length
    · obtain ⟨b, off, rfl, hb, hbg, hx⟩ := (hrx.tn htn).at64 hlt
      have hxd := hdu.at_ k hlt
      have hko : k < os.length := by rw [Hsl.out]; omega
      have hkN : k < N := by omega
      obtain ⟨hz1, hzk⟩ := hacc.at_ hko
      have hzo : o + zs.length ≤ L.length := by rw [hacc.2.1, Hsl.out]; exact ho
      have hy := blk_patch hblk hz1 hzo
      have hyd := hacc.1.at_ k hz1
      have hf := hblk.frozen (o + k)
      have Hzk := Lib.hid hzk
      have a1 := fun W => add64_run zs[k] us[k] cc hcc W
      obtain ⟨l, hl⟩ : ∃ l, l = (zs[k] + us[k] + cc) % 18446744073709551616 := ⟨_, rfl⟩
      obtain ⟨q, hq⟩ : ∃ q, q = (zs[k] + us[k] + cc) / 18446744073709551616 := ⟨_, rfl⟩
      rw [← hl, ← hq] at a1
      have Hl := Lib.hid hl
      have Hq := Lib.hid hq
      clear hzk hl hq
      go_wp2_with (simp only [a1])
      go_roundw
      case rel =>
        have hl := Hl.out
        have hq := Hq.out
        have h9 := hacc.step (d := us[k]) (r := l) (q := q) hko (by omega) (by rw [← Hzk.out]; omega)
        rw [one_T hlt] at h9
        exact ⟨k + 1, q, zs.set k l, by omega, by go_num, rfl, by omega, blk_patch_set hblk hz1 hzo, h9, htn.setCell (o + k) _⟩
      case measure => simp [intOf]; omega
    · obtain rfl : k = us.length := by omega
      go_wp2_with fail
      go_loopw [5, 8] (fun cv i wr => ∃ (k cc : Nat) (zs : List Nat), us.length ≤ k ∧ k ≤ N ∧ i = .int .i64 k ∧ cv = .int .u64 cc ∧ cc ≤ 1 ∧ Blk wr g 44 (u64s (patch L o zs)) ∧ Acc 18446744073709551616 os (val 18446744073709551616 us) k zs cc ∧ Tn g w wr) (fun _ i _ => N - (intOf i).toNat)
      case atStart => exact ⟨us.length, cc, zs, by omega, hun, rfl, rfl, hcc, hblk, by rw [List.take_length] at hacc; exact hacc, htn⟩
      case round =>
        clear hblk hacc htn hcc
        obtain ⟨k, cc, zs, hku, hk, rfl, rfl, hcc, hblk, hacc, htn⟩ := hrel
        rcases Nat.eq_zero_or_pos cc with hc0 | hc1
        · obtain rfl := hc0
          go_wp2_with fail
          go_ret
          exact ⟨zs, 0, rfl, hacc.2.1.trans Hsl.out, hacc.1, by omega, hacc.end_ (Or.inl rfl), hblk, htn⟩
        · obtain rfl : cc = 1 := by omega
          by_cases hlt : k < N
          · have hko : k < os.length := by rw [Hsl.out]; omega
            obtain ⟨hz1, hzk⟩ := hacc.at_ hko
            have hzo : o + zs.length ≤ L.length := by rw [hacc.2.1, Hsl.out]; exact ho
            have hy := blk_patch hblk hz1 hzo
            have hyd := hacc.1.at_ k hz1
            have hf := hblk.frozen (o + k)
            have Hzk := Lib.hid hzk
            have a1 : ∀ W, (callFunc 85 #[.int .u64 (zs[k] : Int), .int .u64 0, .int .u64 1]).run Try.prog W = _ := fun W => add64_run zs[k] 0 1 (by omega) W
            obtain ⟨l, hl⟩ : ∃ l, l = (zs[k] + 0 + 1) % 18446744073709551616 := ⟨_, rfl⟩
            obtain ⟨q, hq⟩ : ∃ q, q = (zs[k] + 0 + 1) / 18446744073709551616 := ⟨_, rfl⟩
            rw [← hl, ← hq] at a1
            have Hl := Lib.hid hl
            have Hq := Lib.hid hq
            clear hzk hl hq
            go_wp2_with (simp only [a1])
            go_roundw
            case rel =>
              have hl := Hl.out
              have hq := Hq.out
              have h9 := hacc.step (d := 0) (r := l) (q := q) hko (by omega) (by rw [← Hzk.out]; omega)
              rw [Nat.mul_zero, Nat.add_zero] at h9
              exact ⟨k + 1, q, zs.set k l, by omega, by omega, by go_num, rfl, by omega, blk_patch_set hblk hz1 hzo, h9, htn.setCell (o + k) _⟩
            case measure => simp [intOf]; omega
          · obtain rfl : k = N := by omega
            go_wp2_with fail
            go_ret
            exact ⟨zs, 1, rfl, hacc.2.1.trans Hsl.out, hacc.1, by omega, hacc.end_ (Or.inr rfl), hblk, htn⟩
theorem nameIt (x : Nat) : ∃ l, l = x := ⟨x, rfl⟩
theorem sub64_b1 (x : Nat) (w : World) : (callFunc 86 #[.int .u64 (x : Int), .int .u64 0, .int .u64 1]).run Try.prog w = .ok (.value (.tuple #[.int .u64 (((x + 18446744073709551615) % 18446744073709551616 : Nat) : Int), .int .u64 ((if x < 1 then 1 else 0 : Nat) : Int)])) w := by
  have h := sub64_run x 0 1 (by omega) w
  rw [show x + 18446744073709551616 - 0 - 1 = x + 18446744073709551615 from by omega, Nat.zero_add] at h
  exact h

set_option maxHeartbeats 1600000 in
theorem takeFrom_any (g o N co : Nat) (L us : List Nat) (A : Option Addr) (c : Nat) (w : World) (hblk : Blk w g 44 (u64s L)) (hrx : Rx w g A (u64s us)) (ho : o + N ≤ L.length) (hun : us.length ≤ N) (hd : Dig 18446744073709551616 L) (hdu : Dig 18446744073709551616 us) (hm : L.length ≤ 281474976710656) :
    Calls Try.prog 67 #[.slice (some ⟨g, o, none⟩) N co, .slice A us.length c] w fun e w' => ∃ (zs : List Nat) (q : Nat), e = .returned (.int .u64 (q : Int)) ∧ zs.length = N ∧ Dig 18446744073709551616 zs ∧ q ≤ 1 ∧ val 18446744073709551616 zs + val 18446744073709551616 us = val 18446744073709551616 ((L.drop o).take N) + 18446744073709551616 ^ N * q ∧ Blk w' g 44 (u64s (patch L o zs)) ∧ Tn g w w' := by
  have hsl := seg_length ho
  have hsd := seg_dig hd o N
  have hps := patch_self ho
  obtain ⟨os, hos⟩ : ∃ os, os = (L.drop o).take N := ⟨_, rfl⟩
  rw [← hos] at hsl hsd hps ⊢
  have hblk0 : Blk w g 44 (u64s (patch L o os)) := by rw [hps]; exact hblk
  have Hsl := Lib.hid hsl
  have hgw := hblk.lt
  clear hos hsl hps hblk
  go_enter Try.func67, Try.ntmps67
  go_wp2_with fail
  go_loopw [5, 6, 7, 11] (fun cv _ _ i wr => ∃ (k cc : Nat) (zs : List Nat), k ≤ us.length ∧ i = .int .i64 k ∧ cv = .int .u64 cc ∧ cc ≤ 1 ∧ Blk wr g 44 (u64s (patch L o zs)) ∧ Dec 18446744073709551616 os (val 18446744073709551616 (us.take k)) k zs cc ∧ Tn g w wr) (fun _ _ _ i _ => us.length - (intOf i).toNat)
  case atStart => exact ⟨0, 0, os, by omega, rfl, rfl, by omega, hblk0, by simpa [val] using Dec.start hsd, Tn.refl _ _⟩
  case round =>
    clear hblk0
    obtain ⟨k, cc, zs, hk, rfl, rfl, hcc, hblk, hacc, htn⟩ := hrel
    by_cases hlt : k < us.length
    · obtain ⟨b, off, rfl, hb, hbg, hx⟩ := (hrx.tn htn).at64 hlt
      have hxd := hdu.at_ k hlt
      have hko : k < os.length := by rw [Hsl.out]; omega
      have hkN : k < N := by omega
      obtain ⟨hz1, hzk⟩ := hacc.at_ hko
      have hzo : o + zs.length ≤ L.length := by rw [hacc.2.1, Hsl.out]; exact ho
      have hy := blk_patch hblk hz1 hzo
      have hyd := hacc.1.at_ k hz1
      have hf := hblk.frozen (o + k)
      have Hzk := Lib.hid hzk
      have a1 := fun W => sub64_run zs[k] us[k] cc hcc W
      obtain ⟨l, hl⟩ : ∃ l, l = (zs[k] + 18446744073709551616 - us[k] - cc) % 18446744073709551616 := ⟨_, rfl⟩
      obtain ⟨q, hq⟩ : ∃ q, q = if zs[k] < us[k] + cc then 1 else 0 := ⟨_, rfl⟩
      rw [← hl, ← hq] at a1
      have Hl := Lib.hid hl
      have Hq := Lib.hid hq
      clear hzk hl hq
      go_wp2_with (simp only [a1])
      go_roundw
      case rel =>
        have hl := Hl.out
        have hq := Hq.out
        have hzk := Hzk.out
        have hqq : q ≤ 1 := by rw [hq]; split <;> omega
        have h9 := hacc.step (d := us[k]) (r := l) (q := q) hko (by omega) (by rw [← hzk, hq]; split <;> omega)
        rw [one_T hlt] at h9
        exact ⟨k + 1, q, zs.set k l, by omega, by go_num, rfl, by omega, blk_patch_set hblk hz1 hzo, h9, htn.setCell (o + k) _⟩
      case measure => simp [intOf]; omega
    · obtain rfl : k = us.length := by omega
      go_wp2_with fail
      go_loopw [5, 8] (fun cv i wr => ∃ (k cc : Nat) (zs : List Nat), us.length ≤ k ∧ k ≤ N ∧ i = .int .i64 k ∧ cv = .int .u64 cc ∧ cc ≤ 1 ∧ Blk wr g 44 (u64s (patch L o zs)) ∧ Dec 18446744073709551616 os (val 18446744073709551616 us) k zs cc ∧ Tn g w wr) (fun _ i _ => N - (intOf i).toNat)
      case atStart => exact ⟨us.length, cc, zs, by omega, hun, rfl, rfl, hcc, hblk, by rw [List.take_length] at hacc; exact hacc, htn⟩
      case round =>
        clear hblk hacc htn hcc
        obtain ⟨k, cc, zs, hku, hk, rfl, rfl, hcc, hblk, hacc, htn⟩ := hrel
        rcases Nat.eq_zero_or_pos cc with hc0 | hc1
        · obtain rfl := hc0
          go_wp2_with fail
          go_ret
          exact ⟨zs, 0, rfl, hacc.2.1.trans Hsl.out, hacc.1, by omega, hacc.end_ (Or.inl rfl), hblk, htn⟩
        · obtain rfl : cc = 1 := by omega
          by_cases hlt : k < N
          · have hko : k < os.length := by rw [Hsl.out]; omega
            obtain ⟨hz1, hzk⟩ := hacc.at_ hko
            have hzo : o + zs.length ≤ L.length := by rw [hacc.2.1, Hsl.out]; exact ho
            have hy := blk_patch hblk hz1 hzo
            have hyd := hacc.1.at_ k hz1
            have hf := hblk.frozen (o + k)
            have Hzk := Lib.hid hzk
            have a1 := fun W => sub64_b1 zs[k] W
            obtain ⟨l, hl⟩ := nameIt ((zs[k] + 18446744073709551615) % 18446744073709551616)
            obtain ⟨q, hq⟩ := nameIt (if zs[k] < 1 then 1 else 0)
            rw [← hl, ← hq] at a1
            have Hl := Lib.hid hl
            have Hq := Lib.hid hq
            clear hzk hl hq
            go_wp2_with (simp only [a1])
            go_roundw
            case rel =>
              have hl := Hl.out
              have hq := Hq.out
              have hzk := Hzk.out
              have hqq : q ≤ 1 := by rw [hq]; split <;> omega
              have h9 := hacc.step (d := 0) (r := l) (q := q) hko (by omega) (by rw [← hzk, hq]; split <;> omega)
              rw [Nat.mul_zero, Nat.add_zero] at h9
              exact ⟨k + 1, q, zs.set k l, by omega, by omega, by go_num, rfl, by omega, blk_patch_set hblk hz1 hzo, h9, htn.setCell (o + k) _⟩
            case measure => simp [intOf]; omega
          · obtain rfl : k = N := by omega
            go_wp2_with fail
            go_ret
            exact ⟨zs, 1, rfl, hacc.2.1.trans Hsl.out, hacc.1, by omega, hacc.end_ (Or.inr rfl), hblk, htn⟩
end Go.Proofs.Ytogkfpbapjjgfaa
