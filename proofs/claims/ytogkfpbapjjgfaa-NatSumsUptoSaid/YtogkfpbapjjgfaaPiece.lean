/- The contract of piecewise, given that of product for fewer words. -/
import Derived.Test.YtogkfpbapjjgfaaLongP
import Derived.Deep.RegionHeld3
namespace Go.Proofs.Ytogkfpbapjjgfaa
open Go.RowKit

/-- product is right for factors that have no more than n words together. -/
def ProdOk (n : Nat) : Prop :=
  ∀ (A A2 : Option Addr) (c c2 : Nat) (us vs : List Nat) (w : World) (B : Nat), us.length + vs.length ≤ n → Rd w B A (u64s us) → Rd w B A2 (u64s vs) → B ≤ w.heap.size → Dig 18446744073709551616 us → Dig 18446744073709551616 vs → us.length ≤ c → vs.length ≤ c2 → us.length + vs.length ≤ 536870912 →
    Calls Try.prog 34 #[.slice A us.length c, .slice A2 vs.length c2] w fun e w' => Words w w' (us.length + vs.length) (val 18446744073709551616 us * val 18446744073709551616 vs) e

/-- A slice's place behind k cells. -/
def offA (A : Option Addr) (k : Nat) : Option Addr := A.map fun a => ⟨a.block, a.off + k, none⟩
theorem Rd.drop_ {w : World} {B : Nat} {A : Option Addr} {xs : List Nat} (h : Rd w B A (u64s xs)) (k : Nat) : Rd w B (offA A k) (u64s (xs.drop k)) := fun hn => by
  obtain ⟨b, off, e, hb, hc⟩ := h (by intro e; apply hn; unfold u64s at e ⊢; rw [List.map_drop, e]; simp)
  refine ⟨b, off + k, by rw [e]; rfl, hb, fun i v hv => ?_⟩
  rw [Nat.add_assoc]
  refine hc (k + i) v ?_
  unfold u64s at hv ⊢
  rw [List.map_drop, List.getElem?_drop] at hv
  exact hv
theorem Rd.takeN {w : World} {B : Nat} {A : Option Addr} {xs : List Nat} (h : Rd w B A (u64s xs)) (k : Nat) : Rd w B A (u64s (xs.take k)) := by
  have := h.take k
  unfold u64s at this ⊢
  rwa [← List.map_take] at this

theorem Res.rx_ {w : World} {B g : Nat} {t : TypeId} {A : Option Addr} {c : Nat} {vs : List Value} (h : Res w B t A c vs) (hg : g < B) : Rx w g A vs := fun hn => by
  obtain ⟨b, rest, rfl, hb, hk, _⟩ := h.2.2 hn
  exact ⟨b, 0, rfl, hk.lt, by omega, fun k v hv => by rw [hk.cell, Nat.zero_add, List.getElem?_append_left (List.getElem?_eq_some_iff.1 hv).1]; exact hv⟩
theorem piece_step {b k N q V : Nat} {zs zr us pc : List Nat} (hv : val b zs = val b (us.take k) * V) (hk : k ≤ us.length) (hN : k + N = zs.length) (hl : zr.length = N) (hpc : pc = (us.drop k).take pc.length) (hz : val b zr + b ^ N * q = val b ((zs.drop k).take N) + val b pc * V) (hY : val b us * V < b ^ zs.length) (_ : 0 < b) :
    q = 0 ∧ val b (patch zs k zr) = val b (us.take (k + pc.length)) * V := by
  subst hl
  have h1 := patch_val b (L := zs) (o := k) (zs := zr) (by omega)
  have e1 : val b (us.take (k + pc.length)) = val b (us.take k) + b ^ k * val b pc := by
    rw [show us.take (k + pc.length) = us.take k ++ pc from by rw [List.take_add]; congr 1; exact hpc.symm, val_append, List.length_take, Nat.min_eq_left hk]
  have e2 : b ^ k * val b zr + b ^ k * (b ^ zr.length * q) = b ^ k * val b ((zs.drop k).take zr.length) + b ^ k * (val b pc * V) := by
    rw [← Nat.mul_add, hz, Nat.mul_add]
  rw [← Nat.mul_assoc, ← Nat.pow_add, hN] at e2
  have e3 : val b (patch zs k zr) + b ^ zs.length * q = val b (us.take (k + pc.length)) * V := by
    rw [e1, Nat.add_mul, Nat.mul_assoc, ← hv]
    generalize b ^ k * (val b pc * V) = t1 at *
    generalize b ^ zs.length * q = t2 at *
    omega
  have h4 : val b (us.take (k + pc.length)) * V < b ^ zs.length := by
    refine Nat.lt_of_le_of_lt (Nat.mul_le_mul_right _ ?_) hY
    conv => rhs; rw [← List.take_append_drop (k + pc.length) us, val_append]
    exact Nat.le_add_right _ _
  have hq := carry_zero e3 h4
  subst hq
  exact ⟨rfl, by simpa using e3⟩
theorem prod_lt {b : Nat} {us vs : List Nat} (hd : Dig b us) (hd2 : Dig b vs) (hb : 0 < b) : val b us * val b vs < b ^ (us.length + vs.length) := by
  rw [Nat.pow_add]
  have h1 := val_lt b us hd
  have h2 := val_lt b vs hd2
  exact Nat.mul_lt_mul_of_lt_of_le h1 (Nat.le_of_lt h2) (Nat.pow_pos hb)

set_option maxHeartbeats 1600000 in
theorem piecewise_any (A A2 : Option Addr) (c c2 : Nat) (us vs : List Nat) (w : World) (B : Nat) (hIH : ProdOk (2 * vs.length)) (hr : Rd w B A (u64s us)) (hr2 : Rd w B A2 (u64s vs)) (hB : B ≤ w.heap.size) (hd : Dig 18446744073709551616 us) (hd2 : Dig 18446744073709551616 vs) (hc : us.length ≤ c) (hc2 : vs.length ≤ c2) (h1 : 0 < vs.length) (hle : vs.length ≤ us.length) (hm : us.length + vs.length ≤ 536870912) :
    Calls Try.prog 52 #[.slice A us.length c, .slice A2 vs.length c2] w fun e w' => Words w w' (us.length + vs.length) (val 18446744073709551616 us * val 18446744073709551616 vs) e := by
  have hmk := fun W => mk64a us.length vs.length (by omega) W
  have hY := prod_lt hd hd2 (by omega)
  have HY := Lib.hid hY
  have HIH : Hid (ProdOk (2 * vs.length)) := hIH
  clear hY hIH
  go_enter Try.func52, Try.ntmps52
  go_wp2_with fail
  go_loopw [6, 7] (fun i _ wr => ∃ (k : Nat) (zs : List Nat), k ≤ us.length + vs.length ∧ i = .int .i64 k ∧ zs.length = us.length + vs.length ∧ Dig 18446744073709551616 zs ∧ Blk wr w.heap.size 44 (u64s zs) ∧ val 18446744073709551616 zs = val 18446744073709551616 (us.take k) * val 18446744073709551616 vs ∧ Below w.heap.size w wr) (fun i _ _ => us.length + vs.length - (intOf i).toNat)
  case atStart => exact ⟨0, List.replicate (us.length + vs.length) 0, by omega, rfl, by simp, Dig.zeros_ (by omega) _, Blk.new_ (by simp [u64s]), by rw [val_zeros]; simp [val], (Below.refl _ _).alloc (Nat.le_refl _) _⟩
  case round =>
    obtain ⟨k, zs, hk, rfl, hzl, hzd, hblk, hv, hbel⟩ := hrel
    have Hzl := Lib.hid hzl
    have Hv := Lib.hid hv
    have hbs := hbel.size
    by_cases hlt : k < us.length
    · obtain ⟨b, off, rfl, hb, _⟩ := hr.at64 hlt
      clear hzl hv
      go_upto_region 6 with (fail)
      obtain ⟨pc, hpc⟩ : ∃ pc, pc = (us.drop k).take vs.length := ⟨_, rfl⟩
      have hpl : (min ((k : Int) + (vs.length : Int)) (us.length : Int)).toNat - k = pc.length := by
        rw [hpc, List.length_take, List.length_drop]; omega
      have hp2 : pc.length ≤ vs.length := by rw [hpc, List.length_take]; omega
      have hp3 : k + pc.length ≤ us.length := by rw [hpc, List.length_take, List.length_drop]; omega
      have hp4 : pc.length = vs.length ∨ k + pc.length = us.length := by rw [hpc, List.length_take, List.length_drop]; omega
      have hpe := Lib.hid (show pc = (us.drop k).take pc.length from by rw [hpc, List.length_take, List.take_eq_take_iff]; simp)
      rw [hpl]
      have hpd : Dig 18446744073709551616 pc := by rw [hpc]; exact seg_dig hd k _
      have hrp : Rd w B (some ⟨b, off + k, none⟩) (u64s pc) := by rw [hpc]; exact (hr.drop_ k).takeN _
      have Hprod : Hid (∀ W, Below w.heap.size w W → Calls Try.prog 34 #[.slice (some ⟨b, off + k, none⟩) pc.length (c - k), .slice A2 vs.length c2] W fun e w' => Words W w' (pc.length + vs.length) (val 18446744073709551616 pc * val 18446744073709551616 vs) e) := fun W hW =>
        HIH.out _ _ _ _ pc vs W B (by omega) (hrp.below (hW.mono hB)) (hr2.below (hW.mono hB)) (Nat.le_trans hB hW.size) hpd hd2 (by omega) hc2 (by omega)
      clear hpc hpl
      have hzb : zs.length ≤ 281474976710656 := by rw [Hzl.out]; omega
      have hzo : k + (us.length + vs.length - k) ≤ zs.length := by rw [Hzl.out]; omega
      have Hb := Lib.hid hblk
      have hi0 : (0 : Int) ≤ (k : Int) := by omega
      have hi1 : (k : Int) ≤ (us.length : Int) + (vs.length : Int) := by omega
      have hi2 : k ≤ us.length + vs.length := by omega
      have hi3 : ¬ (us.length + vs.length = k) := by omega
      have hi4 : ¬ (k = us.length + vs.length) := by omega
      go_region_held3 (fun _ => True) (exact trivial) (first
        | (go_at_call 34; refine (Hprod.out _ (by first | exact hbel | exact hbel.drew)).mono ?_; rintro e w1 ⟨ps, g1, rfl, hpsl, hpsd, hpsv, hg1, hres, hb1⟩; have hbel1 : Below w.heap.size w w1 := (by first | exact hbel.trans (hb1.mono hbs) | exact hbel.drew.trans (hb1.mono hbs)); have hq1 : Blk w1 w.heap.size 44 (u64s zs) := (by first | exact Hb.out.below hb1 Hb.out.lt | exact Hb.out.drew.below hb1 Hb.out.lt); have hrx1 : Rx w1 w.heap.size (some ⟨g1, 0, none⟩) (u64s ps) := Rx.of_blk hres (by have h1 : wr.heap.size ≤ g1 := hg1; have h2 := Hb.out.lt; omega) 0 (fun k v hv => by rw [Nat.zero_add]; exact hv); have Hpsl := Lib.hid hpsl; have Hpsv := Lib.hid hpsv; have hpsb : ps.length ≤ us.length + vs.length - k := (by omega); clear hpsl hpsv)
        | (go_at_call 65; refine (addInto_any w.heap.size k (us.length + vs.length - k) _ zs ps _ _ _ (by first | exact hq1 | exact hq1.drew) (by first | exact hrx1 | exact hrx1.keep (Below.refl _ _).drew (Nat.le_refl _)) hzo hpsb hzd hpsd hzb).mono ?_; rintro e w2 ⟨zr, q, rfl, hrl, hrd, hq, hrv, hblk2, htn⟩; have hbel2 : Below w.heap.size w w2 := (by first | exact hbel1.trans (htn.below (Nat.le_refl _) hbel1.size) | exact hbel1.drew.trans (htn.below (Nat.le_refl _) hbel1.size)); have Hrl := Lib.hid hrl; have Hrv := Lib.hid hrv; clear hrl hrv))
      all_goals
        go_wp2_with fail
        go_roundw
        case rel =>
          have hrv := Hrv.out
          rw [Hpsv.out] at hrv
          have hst := piece_step Hv.out (by omega) (by rw [Hzl.out]; omega) Hrl.out hpe.out hrv (by rw [Hzl.out]; exact HY.out) (by omega)
          have hpl := patch_length (L := zs) (o := k) (zs := zr) (by rw [Hrl.out, Hzl.out]; omega)
          refine ⟨k + vs.length, patch zs k zr, by omega, by go_num, hpl.trans Hzl.out, patch_dig hzd hrd, hblk2, ?_, hbel2⟩
          rw [hst.2]
          congr 2
          rcases hp4 with h | h
          · rw [h]
          · rw [List.take_of_length_le (by omega), List.take_of_length_le (by omega)]
        case measure => simp [intOf]; omega
    · clear hzl hv
      go_wp2_with fail
      go_ret
      have hv := Hv.out
      rw [List.take_of_length_le (by omega)] at hv
      exact ⟨zs, _, by rw [Hzl.out]; rfl, Hzl.out, hzd, hv, Nat.le_refl _, hblk, hbel⟩
end Go.Proofs.Ytogkfpbapjjgfaa
