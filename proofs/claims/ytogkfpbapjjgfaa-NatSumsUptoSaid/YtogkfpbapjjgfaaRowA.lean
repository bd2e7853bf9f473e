/- The contract of addRow. Conditions: fewer words than any slice can have. -/
import Derived.Test.YtogkfpbapjjgfaaAddN
namespace Go.Proofs.Ytogkfpbapjjgfaa
open Go.RowKit

theorem carry_mul3 {c x v y : Nat} {B : Nat} (hc : c < B) (hx : x < B) (hv : v < B) (hy : y < B) : (c + x * v + y) / B < B := by
  rw [Nat.div_lt_iff_lt_mul (by omega)]
  have h1 : x * v ≤ (B - 1) * (B - 1) := Nat.mul_le_mul (by omega) (by omega)
  obtain ⟨q, rfl⟩ : ∃ q, B = q + 1 := ⟨B - 1, by omega⟩
  have h2 : (q + 1) * (q + 1) = q * q + q + q + 1 := by rw [Nat.add_mul, Nat.mul_add]; omega
  rw [h2]
  simp only [Nat.add_sub_cancel] at h1
  omega
theorem mul_T64 {b : Nat} {us : List Nat} {k v : Nat} (hu : k < us.length) : val b (us.take k) * v + b ^ k * (us[k] * v) = val b (us.take (k + 1)) * v := by
  rw [val_take_succ b us k hu, Nat.add_mul, Nat.mul_assoc]
theorem Acc.at_ {b : Nat} {os zs : List Nat} {T k c : Nat} (h : Acc b os T k zs c) (hk : k < os.length) : ∃ h2 : k < zs.length, zs[k] = os[k] := ⟨by rw [h.2.1]; exact hk, h.2.2.2 k _ hk (Nat.le_refl _)⟩
theorem Dec.at_ {b : Nat} {os zs : List Nat} {T k c : Nat} (h : Dec b os T k zs c) (hk : k < os.length) : ∃ h2 : k < zs.length, zs[k] = os[k] := ⟨by rw [h.2.1]; exact hk, h.2.2.2 k _ hk (Nat.le_refl _)⟩
theorem seg_length {L : List Nat} {o n : Nat} (h : o + n ≤ L.length) : ((L.drop o).take n).length = n := by simp; omega
theorem seg_dig {b : Nat} {L : List Nat} (h : Dig b L) (o n : Nat) : Dig b ((L.drop o).take n) := (h.drop_ _).take_ _
theorem blk_patch {w : World} {g : Nat} {L zs : List Nat} {o k : Nat} (h : Blk w g 44 (u64s (patch L o zs))) (hk : k < zs.length) (ho : o + zs.length ≤ L.length) : w.cell? ⟨g, o + k, none⟩ = some (.int .u64 (zs[k] : Nat)) := by
  rw [h.cell (o + k), u64s_at (by rw [patch_length ho]; omega), patch_get hk ho]
theorem blk_patch_set {w : World} {g : Nat} {L zs : List Nat} {o k v : Nat} (h : Blk w g 44 (u64s (patch L o zs))) (hk : k < zs.length) (ho : o + zs.length ≤ L.length) : Blk (w.setCell ⟨g, o + k, none⟩ (.int .u64 (v : Int))) g 44 (u64s (patch L o (zs.set k v))) := by
  have := h.set_ (o + k) (.int .u64 (v : Int))
  rwa [u64s_set, patch_set hk ho] at this

set_option maxHeartbeats 1600000 in
theorem addRow_any (g o co : Nat) (L us : List Nat) (v : Nat) (A : Option Addr) (c : Nat) (w : World) (hblk : Blk w g 44 (u64s L)) (hrx : Rx w g A (u64s us)) (ho : o + us.length ≤ L.length) (hco : us.length ≤ co) (hd : Dig 18446744073709551616 L) (hdu : Dig 18446744073709551616 us) (hv : v < 18446744073709551616) (hm : L.length ≤ 281474976710656) (hm2 : us.length ≤ 281474976710656) :
    Calls Try.prog 64 #[.slice (some ⟨g, o, none⟩) us.length co, .slice A us.length c, .int .u64 (v : Int)] w fun e w' => ∃ (zs : List Nat) (q : Nat), e = .returned (.int .u64 (q : Int)) ∧ zs.length = us.length ∧ Dig 18446744073709551616 zs ∧ q < 18446744073709551616 ∧ val 18446744073709551616 zs + 18446744073709551616 ^ us.length * q = val 18446744073709551616 ((L.drop o).take us.length) + val 18446744073709551616 us * v ∧ Blk w' g 44 (u64s (patch L o zs)) ∧ Tn g w w' := by
  have hsl := seg_length ho
  have hsd := seg_dig hd o us.length
  have hps := patch_self ho
  obtain ⟨os, hos⟩ : ∃ os, os = (L.drop o).take us.length := ⟨_, rfl⟩
  rw [← hos] at hsl hsd hps ⊢
  have hblk0 : Blk w g 44 (u64s (patch L o os)) := by rw [hps]; exact hblk
  have Hsl := Lib.hid hsl
  have hgw := hblk.lt
  clear hos hsl hps hblk
  go_enter Try.func64, Try.ntmps64
  go_wp2_with (go_at_call 84; (with_reducible refine (multiplier_any _ _).mono ?_); rintro e w1 ⟨rfl, hbn, hbc, hsz, hbel⟩)
  have hblk1 := hblk0.below hbel hgw
  have htn1 : Tn g w w1 := Tn.of_below hbel (Nat.le_refl _)
  clear hblk0 hbel hsz
  go_loopw [8, 9, 18] (fun _ _ i wr => ∃ (k cc : Nat) (zs : List Nat), k ≤ us.length ∧ i = .int .i64 k ∧ cc < 18446744073709551616 ∧ Blk wr g 44 (u64s (patch L o zs)) ∧ Blk wr w.heap.size 44 [.int .u64 (v : Int)] ∧ Blk wr (w.heap.size + 1) 44 [.int .u64 (cc : Int)] ∧ Acc 18446744073709551616 os (val 18446744073709551616 (us.take k) * v) k zs cc ∧ Tn g w wr) (fun _ _ i _ => us.length - (intOf i).toNat)
  case atStart => exact ⟨0, 0, os, by omega, rfl, by omega, hblk1, hbn, hbc, by simpa [val] using Acc.start hsd, htn1⟩
  case round =>
    clear hblk1 hbn hbc htn1
    obtain ⟨k, cc, zs, hk, rfl, hcc, hblk, hbn, hbc, hacc, htn⟩ := hrel
    by_cases hlt : k < us.length
    · obtain ⟨b, off, rfl, hb, hbg, hx⟩ := (hrx.tn htn).at64 hlt
      have hxd := hdu.at_ k hlt
      have hko : k < os.length := by rw [Hsl.out]; exact hlt
      obtain ⟨hz1, hzk⟩ := hacc.at_ hko
      have hzo : o + zs.length ≤ L.length := by rw [hacc.2.1, Hsl.out]; exact ho
      have hy := blk_patch hblk hz1 hzo
      have hyd := hacc.1.at_ k hz1
      have Hzk := Lib.hid hzk
      clear hzk
      go_wp2_with (go_at_call 91; (with_reducible refine (multiplier1_any _ _ v cc _ _ _ hxd hyd hv hcc hbc hbn (by omega)).mono ?_); rintro e w2 ⟨rfl, hg2, hch⟩; have hq2 := hblk.ch hch (by omega); have hc2 := blk_patch hq2 hz1 hzo; have hf2 := hq2.frozen (o + k))
      go_roundw
      case rel =>
        have h9 := hacc.step (d := us[k] * v) (r := (cc + us[k] * v + zs[k]) % 18446744073709551616) (q := (cc + us[k] * v + zs[k]) / 18446744073709551616) hko (by omega) (by rw [← Hzk.out]; omega)
        rw [mul_T64 hlt] at h9
        have htn2 := (htn.chNew hch (by omega)).setCell (o + k) (.int .u64 (((cc + us[k] * v + zs[k]) % 18446744073709551616 : Nat) : Int))
        exact ⟨k + 1, (cc + us[k] * v + zs[k]) / 18446744073709551616, zs.set k ((cc + us[k] * v + zs[k]) % 18446744073709551616), by omega, by go_num, carry_mul3 hcc hxd hv hyd, blk_patch_set hq2 hz1 hzo, (hbn.ch hch (by omega)).far (p := ⟨g, o + k, none⟩) (by simp; omega) _, hg2.far (p := ⟨g, o + k, none⟩) (by simp; omega) _, h9, htn2⟩
      case measure => simp [intOf]; omega
    · obtain rfl : k = us.length := by omega
      go_wp2_with fail
      refine (multiplier1_any 0 0 v cc _ _ _ (by omega) (by omega) hv hcc hbc hbn (by omega)).mono ?_
      rw [show cc + 0 * v + 0 = cc from by omega, Nat.mod_eq_of_lt hcc]
      rintro e w2 ⟨rfl, hg2, hch⟩
      go_wp2_with fail
      go_ret
      refine ⟨zs, cc, rfl, hacc.2.1.trans Hsl.out, hacc.1, hcc, ?_, hblk.ch hch (by omega), htn.chNew hch (by omega)⟩
      have := hacc.2.2.1
      rw [List.take_length] at this
      exact this
end Go.Proofs.Ytogkfpbapjjgfaa
