/- The contract of piecewise, given that of product for fewer words. The contract of the reference's Same on equal lists; numbers that are written out. No conditions. Plain numbers: a word by half a word, with the digit guessed by the upper halves (Knuth's way). No conditions but those of each. The contract of math/bits.Div64: by Knuth's way, half a word at a time. Conditions: hi below y. -/
import Derived.Test.YtadpelhmjmamnaaGreatDoorPkCf18
import Derived.Deep.RegionHeld3
import Derived.Test.YtadpelhmjmamnaaGreatDoorPkCf15
import Derived.Deep.QuietTactic
import Derived.BigQuiet
import Derived.Test.YtadpelhmjmamnaaGreatDoorPkCf16
import Derived.Deep.CutBlock
import Derived.Deep.DeepCutAuto
namespace Go.Proofs.YtadpelhmjmamnaaGreatDoor
section
open Go.RowKit

/-- product is right for factors that have no more than n words together. -/
def ProdOk (n : Nat) : Prop :=
  ∀ (A A2 : Option Addr) (c c2 : Nat) (us vs : List Nat) (w : World) (B : Nat), us.length + vs.length ≤ n → Rd w B A (u64s us) → Rd w B A2 (u64s vs) → B ≤ w.heap.size → Dig 18446744073709551616 us → Dig 18446744073709551616 vs → us.length ≤ c → vs.length ≤ c2 → us.length + vs.length ≤ 536870912 →
    Calls Tryz.prog 118 #[.slice A us.length c, .slice A2 vs.length c2] w fun e w' => Words w w' (us.length + vs.length) (val 18446744073709551616 us * val 18446744073709551616 vs) e

/-- A slice's place behind k cells. -/
def offA (A : Option Addr) (k : Nat) : Option Addr := A.map fun a => ⟨a.block, a.off + k, none⟩
theorem Rd.drop_ {w : World} {B : Nat} {A : Option Addr} {xs : List Nat} (h : Rd w B A (u64s xs)) (k : Nat) : Rd w B (offA A k) (u64s (xs.drop k)) := fun hn => by
  obtain ⟨b, off, e, hb, hc⟩ := h (by intro e; apply hn; unfold u64s at e ⊢; rw [List.map_drop, e]; simp)
  refine ⟨b, off + k, by rw [e]; rfl, hb, fun i v hv => ?_⟩
  rw [Nat.add_assoc]
  refine hc (k + i) v ?_
  unfold u64s at hv ⊢
  rw [List.map_drop, List.getElem?_drop] at hv
  exact hv
theorem Rd.takeN {w : World} {B : Nat} {A : Option Addr} {xs : List Nat} (h : Rd w B A (u64s xs)) (k : Nat) : Rd w B A (u64s (xs.take k)) := by
  have := h.take k
  unfold u64s at this ⊢
  rwa [← List.map_take] at this

theorem piece_step {b k N q V : Nat} {zs zr us pc : List Nat} (hv : val b zs = val b (us.take k) * V) (hk : k ≤ us.length) (hN : k + N = zs.length) (hl : zr.length = N) (hpc : pc = (us.drop k).take pc.length) (hz : val b zr + b ^ N * q = val b ((zs.drop k).take N) + val b pc * V) (hY : val b us * V < b ^ zs.length) (_ : 0 < b) :
    q = 0 ∧ val b (patch zs k zr) = val b (us.take (k + pc.length)) * V := by
  subst hl
  have h1 := patch_val b (L := zs) (o := k) (zs := zr) (by omega)
  have e1 : val b (us.take (k + pc.length)) = val b (us.take k) + b ^ k * val b pc := by
    rw [show us.take (k + pc.length) = us.take k ++ pc from by rw [List.take_add]; congr 1; exact hpc.symm, val_append, List.length_take, Nat.min_eq_left hk]
  have e2 : b ^ k * val b zr + b ^ k * (b ^ zr.length * q) = b ^ k * val b ((zs.drop k).take zr.length) + b ^ k * (val b pc * V) := by
    rw [← Nat.mul_add, hz, Nat.mul_add]
  rw [← Nat.mul_assoc, ← Nat.pow_add, hN] at e2
  have e3 : val b (patch zs k zr) + b ^ zs.length * q = val b (us.take (k + pc.length)) * V := by
    rw [e1, Nat.add_mul, Nat.mul_assoc, ← hv]
    generalize b ^ k * (val b pc * V) = t1 at *
    generalize b ^ zs.length * q = t2 at *
    omega
  have h4 : val b (us.take (k + pc.length)) * V < b ^ zs.length := by
    refine Nat.lt_of_le_of_lt (Nat.mul_le_mul_right _ ?_) hY
    conv => rhs; rw [← List.take_append_drop (k + pc.length) us, val_append]
    exact Nat.le_add_right _ _
  have hq := carry_zero e3 h4
  subst hq
  exact ⟨rfl, by simpa using e3⟩
theorem prod_lt {b : Nat} {us vs : List Nat} (hd : Dig b us) (hd2 : Dig b vs) (hb : 0 < b) : val b us * val b vs < b ^ (us.length + vs.length) := by
  rw [Nat.pow_add]
  have h1 := val_lt b us hd
  have h2 := val_lt b vs hd2
  exact Nat.mul_lt_mul_of_lt_of_le h1 (Nat.le_of_lt h2) (Nat.pow_pos hb)

set_option maxHeartbeats 1600000 in
theorem piecewise_any (A A2 : Option Addr) (c c2 : Nat) (us vs : List Nat) (w : World) (B : Nat) (hIH : ProdOk (2 * vs.length)) (hr : Rd w B A (u64s us)) (hr2 : Rd w B A2 (u64s vs)) (hB : B ≤ w.heap.size) (hd : Dig 18446744073709551616 us) (hd2 : Dig 18446744073709551616 vs) (hc : us.length ≤ c) (hc2 : vs.length ≤ c2) (h1 : 0 < vs.length) (hle : vs.length ≤ us.length) (hm : us.length + vs.length ≤ 536870912) :
    Calls Tryz.prog 145 #[.slice A us.length c, .slice A2 vs.length c2] w fun e w' => Words w w' (us.length + vs.length) (val 18446744073709551616 us * val 18446744073709551616 vs) e := by
  have hmk := fun W => mk64a us.length vs.length (by omega) W
  have hY := prod_lt hd hd2 (by omega)
  have HY := Lib.hid hY
  have HIH : Hid (ProdOk (2 * vs.length)) := hIH
  clear hY hIH
  go_enter Tryz.func145, Tryz.ntmps145
  go_wp2_with fail
  go_loopw [6, 7] (fun i _ wr => ∃ (k : Nat) (zs : List Nat), k ≤ us.length + vs.length ∧ i = .int .i64 k ∧ zs.length = us.length + vs.length ∧ Dig 18446744073709551616 zs ∧ Blk wr w.heap.size 84 (u64s zs) ∧ val 18446744073709551616 zs = val 18446744073709551616 (us.take k) * val 18446744073709551616 vs ∧ Below w.heap.size w wr) (fun i _ _ => us.length + vs.length - (intOf i).toNat)
  case atStart => exact ⟨0, List.replicate (us.length + vs.length) 0, by omega, rfl, by simp, Dig.zeros_ (by omega) _, Blk.new_ (by simp [u64s]), by rw [val_zeros]; simp [val], (Below.refl _ _).alloc (Nat.le_refl _) _⟩
  case round =>
    obtain ⟨k, zs, hk, rfl, hzl, hzd, hblk, hv, hbel⟩ := hrel
    have Hzl := Lib.hid hzl
    have Hv := Lib.hid hv
    have hbs := hbel.size
    by_cases hlt : k < us.length
    · obtain ⟨b, off, rfl, hb, _⟩ := hr.at64 hlt
      clear hzl hv
      go_upto_region 6 with (fail)
      obtain ⟨pc, hpc⟩ : ∃ pc, pc = (us.drop k).take vs.length := ⟨_, rfl⟩
      have hpl : (min ((k : Int) + (vs.length : Int)) (us.length : Int)).toNat - k = pc.length := by
        rw [hpc, List.length_take, List.length_drop]; omega
      have hp2 : pc.length ≤ vs.length := by rw [hpc, List.length_take]; omega
      have hp3 : k + pc.length ≤ us.length := by rw [hpc, List.length_take, List.length_drop]; omega
      have hp4 : pc.length = vs.length ∨ k + pc.length = us.length := by rw [hpc, List.length_take, List.length_drop]; omega
      have hpe := Lib.hid (show pc = (us.drop k).take pc.length from by rw [hpc, List.length_take, List.take_eq_take_iff]; simp)
      rw [hpl]
      have hpd : Dig 18446744073709551616 pc := by rw [hpc]; exact seg_dig hd k _
      have hrp : Rd w B (some ⟨b, off + k, none⟩) (u64s pc) := by rw [hpc]; exact (hr.drop_ k).takeN _
      have Hprod : Hid (∀ W, Below w.heap.size w W → Calls Tryz.prog 118 #[.slice (some ⟨b, off + k, none⟩) pc.length (c - k), .slice A2 vs.length c2] W fun e w' => Words W w' (pc.length + vs.length) (val 18446744073709551616 pc * val 18446744073709551616 vs) e) := fun W hW =>
        HIH.out _ _ _ _ pc vs W B (by omega) (hrp.below (hW.mono hB)) (hr2.below (hW.mono hB)) (Nat.le_trans hB hW.size) hpd hd2 (by omega) hc2 (by omega)
      clear hpc hpl
      have hzb : zs.length ≤ 281474976710656 := by rw [Hzl.out]; omega
      have hzo : k + (us.length + vs.length - k) ≤ zs.length := by rw [Hzl.out]; omega
      have Hb := Lib.hid hblk
      have hi0 : (0 : Int) ≤ (k : Int) := by omega
      have hi1 : (k : Int) ≤ (us.length : Int) + (vs.length : Int) := by omega
      have hi2 : k ≤ us.length + vs.length := by omega
      have hi3 : ¬ (us.length + vs.length = k) := by omega
      have hi4 : ¬ (k = us.length + vs.length) := by omega
      go_region_held3 (fun _ => True) (exact trivial) (first
        | (go_at_call 118; refine (Hprod.out _ (by first | exact hbel | exact hbel.drew)).mono ?_; rintro e w1 ⟨ps, g1, rfl, hpsl, hpsd, hpsv, hg1, hres, hb1⟩; have hbel1 : Below w.heap.size w w1 := (by first | exact hbel.trans (hb1.mono hbs) | exact hbel.drew.trans (hb1.mono hbs)); have hq1 : Blk w1 w.heap.size 84 (u64s zs) := (by first | exact Hb.out.below hb1 Hb.out.lt | exact Hb.out.drew.below hb1 Hb.out.lt); have hrx1 : Rx w1 w.heap.size (some ⟨g1, 0, none⟩) (u64s ps) := Rx.of_blk hres (by have h1 : wr.heap.size ≤ g1 := hg1; have h2 := Hb.out.lt; omega) 0 (fun k v hv => by rw [Nat.zero_add]; exact hv); have Hpsl := Lib.hid hpsl; have Hpsv := Lib.hid hpsv; have hpsb : ps.length ≤ us.length + vs.length - k := (by omega); clear hpsl hpsv)
        | (go_at_call 157; refine (addInto_any w.heap.size k (us.length + vs.length - k) _ zs ps _ _ _ (by first | exact hq1 | exact hq1.drew) (by first | exact hrx1 | exact hrx1.keep (Below.refl _ _).drew (Nat.le_refl _)) hzo hpsb hzd hpsd (Nat.le_trans (Nat.sub_le _ _) (by omega))).mono ?_; rintro e w2 ⟨zr, q, rfl, hrl, hrd, hq, hrv, hblk2, htn⟩; have hbel2 : Below w.heap.size w w2 := (by first | exact hbel1.trans (htn.below (Nat.le_refl _) hbel1.size) | exact hbel1.drew.trans (htn.below (Nat.le_refl _) hbel1.size)); have Hrl := Lib.hid hrl; have Hrv := Lib.hid hrv; clear hrl hrv))
      all_goals
        go_wp2_with fail
        go_roundw
        case rel =>
          have hrv := Hrv.out
          rw [Hpsv.out] at hrv
          have hst := piece_step Hv.out (by omega) (by rw [Hzl.out]; omega) Hrl.out hpe.out hrv (by rw [Hzl.out]; exact HY.out) (by omega)
          have hpl := patch_length (L := zs) (o := k) (zs := zr) (by rw [Hrl.out, Hzl.out]; omega)
          refine ⟨k + vs.length, patch zs k zr, by omega, by go_num, hpl.trans Hzl.out, patch_dig hzd hrd, hblk2, ?_, hbel2⟩
          rw [hst.2]
          congr 2
          rcases hp4 with h | h
          · rw [h]
          · rw [List.take_of_length_le (by omega), List.take_of_length_le (by omega)]
        case measure => simp [intOf]; omega
    · clear hzl hv
      go_wp2_with fail
      go_ret
      have hv := Hv.out
      rw [List.take_of_length_le (by omega)] at hv
      exact ⟨zs, _, by rw [Hzl.out]; rfl, Hzl.out, hzd, hv, Nat.le_refl _, hblk, hbel⟩
end
section
open Go.RowKit

set_option maxHeartbeats 400000 in
theorem same_yes (A A2 : Option Addr) (c c2 : Nat) (xs : List Nat) (w : World) (B : Nat) (hr : Rd w B A (u32s xs)) (hr2 : Rd w B A2 (u32s xs)) (hm : xs.length ≤ 281474976710656) :
    Calls Tryz.prog 64 #[.slice A xs.length c, .slice A2 xs.length c2] w fun e w' => e = .returned (.bool true) ∧ Dr w w' := by
  have t1 : ((xs.length : Int) != (xs.length : Int)) = false := by simp
  go_enter Tryz.func64, Tryz.ntmps64
  go_wp2
  go_loopw [5, 13] (fun _ i wr => ∃ k : Nat, k ≤ xs.length ∧ i = .int .i64 k ∧ Dr w wr) (fun _ i _ => xs.length - (intOf i).toNat)
  case atStart => exact ⟨0, by omega, rfl, Dr.refl _⟩
  case round =>
    obtain ⟨k, hk, rfl, hdr⟩ := hrel
    by_cases hlt : k < xs.length
    · obtain ⟨b, off, rfl, hb, hcell⟩ := hr (by intro e; have := u32s_length xs; rw [e] at this; simp at this; omega)
      obtain ⟨b2, off2, rfl, hb2, hcell2⟩ := hr2 (by intro e; have := u32s_length xs; rw [e] at this; simp at this; omega)
      have hx := ((hdr.below B).cell (p := ⟨b, off + k, none⟩) hb).trans (hcell k _ (u32s_at hlt))
      have hy := ((hdr.below B).cell (p := ⟨b2, off2 + k, none⟩) hb2).trans (hcell2 k _ (u32s_at hlt))
      have t2 : ((xs[k] : Int) != (xs[k] : Int)) = false := by simp
      clear hcell hcell2 hr hr2
      go_wp2
      go_quiet (fail)
      go_wp2
      go_roundw
      case rel => exact ⟨k + 1, by omega, by go_num, hdr.step _⟩
      case measure => simp [intOf]; omega
    · go_wp2
      go_ret
      exact ⟨rfl, hdr⟩
end
section
/-- What the loop knows of its digit q and rest r. -/
structure Half (Y Y1 Y0 U L q r : Nat) : Prop where
  sum : q * Y1 + r = U
  rest : r < 4294967296
  ge : (U * 4294967296 + L) / Y ≤ q
  le : q ≤ 4294967297

section
variable {Y Y1 Y0 U L q r : Nat}
theorem half_start (hY : Y = Y1 * 4294967296 + Y0) (h1 : 2147483648 ≤ Y1) (h2 : Y1 < 4294967296) (h0 : Y0 < 4294967296) (hL : L < 4294967296) (hU : U < Y) : Half Y Y1 Y0 U L (U / Y1) (U % Y1) := by
  have hd := Nat.div_add_mod U Y1
  have hm : U % Y1 < Y1 := Nat.mod_lt _ (by omega)
  rw [Nat.mul_comm] at hd
  refine ⟨hd, by omega, ?_, ?_⟩
  · rw [← Nat.lt_succ_iff, Nat.div_lt_iff_lt_mul (by omega), hY, Nat.succ_mul, Nat.mul_add, ← Nat.mul_assoc]
    generalize U / Y1 * Y1 = a at *
    generalize U / Y1 * Y0 = b at *
    omega
  · have : U / Y1 < 4294967298 := by
      rw [Nat.div_lt_iff_lt_mul (by omega)]
      omega
    omega
theorem half_Q (hY : Y = Y1 * 4294967296 + Y0) (_ : 2147483648 ≤ Y1) (hL : L < 4294967296) (hU : U < Y) : (U * 4294967296 + L) / Y < 4294967296 := by
  rw [Nat.div_lt_iff_lt_mul (by omega)]; omega
theorem half_over (hY : Y = Y1 * 4294967296 + Y0) (h1 : 2147483648 ≤ Y1) (h : Half Y Y1 Y0 U L q r) (hc : 4294967296 * r + L < q * Y0) : (U * 4294967296 + L) / Y < q := by
  rw [Nat.div_lt_iff_lt_mul (by omega), hY, Nat.mul_add, ← Nat.mul_assoc]
  have := h.sum
  generalize q * Y1 = a at *
  generalize q * Y0 = b at *
  omega
theorem half_down (h : Half Y Y1 Y0 U L q r) (hlt : (U * 4294967296 + L) / Y < q) (hr : r + Y1 < 4294967296) : Half Y Y1 Y0 U L (q - 1) (r + Y1) := by
  have hq : 0 < q := Nat.zero_lt_of_lt hlt
  obtain ⟨k, rfl⟩ : ∃ k, q = k + 1 := ⟨q - 1, by omega⟩
  refine ⟨?_, hr, Nat.lt_succ_iff.1 hlt, by have := h.le; omega⟩
  have := h.sum
  rw [Nat.succ_mul] at this
  simp only [Nat.add_sub_cancel]
  omega
theorem half_out (hY : Y = Y1 * 4294967296 + Y0) (h1 : 2147483648 ≤ Y1) (h : Half Y Y1 Y0 U L q r) (hc : q * Y0 ≤ 4294967296 * r + L) : q = (U * 4294967296 + L) / Y := by
  refine Nat.le_antisymm ?_ h.ge
  rw [Nat.le_div_iff_mul_le (by omega), hY, Nat.mul_add, ← Nat.mul_assoc]
  have := h.sum
  generalize q * Y1 = a at *
  generalize q * Y0 = b at *
  omega
theorem half_break (hY : Y = Y1 * 4294967296 + Y0) (h1 : 2147483648 ≤ Y1) (h0 : Y0 < 4294967296) (h : Half Y Y1 Y0 U L q r) (hlt : (U * 4294967296 + L) / Y < q) (hr : 4294967296 ≤ r + Y1) : q - 1 = (U * 4294967296 + L) / Y := by
  have hq : 0 < q := Nat.zero_lt_of_lt hlt
  obtain ⟨k, rfl⟩ : ∃ k, q = k + 1 := ⟨q - 1, by omega⟩
  simp only [Nat.add_sub_cancel]
  refine Nat.le_antisymm ?_ (Nat.lt_succ_iff.1 hlt)
  have hs := h.sum
  have hl := h.le
  rw [Nat.succ_mul] at hs
  have hk : k * Y0 ≤ 4294967296 * Y0 := Nat.mul_le_mul_right _ (by omega)
  rw [Nat.le_div_iff_mul_le (by omega), hY, Nat.mul_add, ← Nat.mul_assoc]
  generalize k * Y1 = a at *
  generalize k * Y0 = b at *
  omega
end
theorem two_halves (Y A L0 : Nat) (hY : 0 < Y) : (A * 4294967296 + L0) / Y = A / Y * 4294967296 + (A % Y * 4294967296 + L0) / Y ∧ (A * 4294967296 + L0) % Y = (A % Y * 4294967296 + L0) % Y := by
  have h := Nat.div_add_mod A Y
  have e : A * 4294967296 + L0 = Y * (A / Y * 4294967296) + (A % Y * 4294967296 + L0) := by
    conv => lhs; rw [← h]
    rw [Nat.add_mul, Nat.mul_assoc]; omega
  constructor
  · conv => lhs; rw [e]
    rw [Nat.mul_add_div hY]
  · conv => lhs; rw [e]
    rw [Nat.mul_add_mod]
theorem shifted_div (N y p : Nat) (hp : 0 < p) : N * p / (y * p) = N / y ∧ N * p % (y * p) / p = N % y := by
  refine ⟨Nat.mul_div_mul_right _ _ hp, ?_⟩
  rw [Nat.mul_mod_mul_right, Nat.mul_div_cancel _ hp]
/-- What Div64 reckons is the quotient and the rest. -/
theorem div64_fin {hi lo y s Y U L L1 L0 : Nat} (hs : s < 64) (hy : 0 < y) (hY : Y = y * 2 ^ s) (hU : U = hi * 2 ^ s + lo / 2 ^ (64 - s)) (hL : L = lo * 2 ^ s % 18446744073709551616) (_ : lo < 18446744073709551616) (hL1 : L1 = L / 4294967296) (hL0 : L0 = L % 4294967296) :
    (U * 4294967296 + L1) / Y * 4294967296 + ((U * 4294967296 + L1) % Y * 4294967296 + L0) / Y = (hi * 18446744073709551616 + lo) / y ∧ ((U * 4294967296 + L1) % Y * 4294967296 + L0) % Y / 2 ^ s = (hi * 18446744073709551616 + lo) % y := by
  have hp : 0 < 2 ^ s := Nat.two_pow_pos s
  have hYp : 0 < Y := by rw [hY]; exact Nat.mul_pos hy hp
  obtain ⟨a, b⟩ := two_halves Y (U * 4294967296 + L1) L0 hYp
  rw [← a, ← b]
  have e64 : 2 ^ (64 - s) * 2 ^ s = 18446744073709551616 := by rw [← Nat.pow_add, show 64 - s + s = 64 from by omega]
  have el : lo * 2 ^ s = lo / 2 ^ (64 - s) * 18446744073709551616 + L := by
    have h1 := Nat.div_add_mod (lo * 2 ^ s) 18446744073709551616
    have h2 : lo * 2 ^ s / 18446744073709551616 = lo / 2 ^ (64 - s) := by
      rw [← e64, Nat.mul_div_mul_right _ _ hp]
    rw [h2, ← hL] at h1
    omega
  have e : (U * 4294967296 + L1) * 4294967296 + L0 = (hi * 18446744073709551616 + lo) * 2 ^ s := by
    rw [Nat.add_mul (hi * 18446744073709551616) lo, el, hU]
    rw [show hi * 18446744073709551616 * 2 ^ s = hi * 2 ^ s * 18446744073709551616 from by rw [Nat.mul_assoc, Nat.mul_comm 18446744073709551616, ← Nat.mul_assoc]]
    generalize hi * 2 ^ s = p1
    generalize lo / 2 ^ (64 - s) = p2
    omega
  rw [e, hY]
  exact shifted_div _ _ _ hp
end
section
open Go.RowKit

theorem int_u64 {a b : Int} (h : a = b) : Value.int .u64 a = Value.int .u64 b := by rw [h]

set_option maxHeartbeats 1600000 in
theorem div64_big (hi lo y s Y Y1 Y0 : Nat) (hy : y < 18446744073709551616) (hh : hi < y) (h0 : 0 < hi) (hlo : lo < 18446744073709551616) (w : World) (hs : Lib.bitLen y = 64 - s) (hs2 : s < 64)
    (hY : Y = y * 2 ^ s) (hYlt : Y < 18446744073709551616) (hY1 : 2147483648 ≤ Y1) (hY1lt : Y1 < 4294967296) (hY0 : Y0 < 4294967296) (hYY : Y = Y1 * 4294967296 + Y0)
    (U L L1 L0 q0 r0 : Nat) (hU : U = hi * 2 ^ s + lo / 2 ^ (64 - s)) (hL : L = lo * 2 ^ s % 18446744073709551616) (hL1 : L1 = L / 4294967296) (hL0 : L0 = L % 4294967296) (hUY : U < Y) (hq0 : q0 = U / Y1) (hr0 : r0 = U % Y1) :
    Calls Tryz.prog 186 #[.int .u64 (hi : Int), .int .u64 (lo : Int), .int .u64 (y : Int)] w fun e w' => e = .returned (.tuple #[.int .u64 (((hi * 18446744073709551616 + lo) / y : Nat) : Int), .int .u64 (((hi * 18446744073709551616 + lo) % y : Nat) : Int)]) ∧ Dr w w' := by
  have t0 : ((y : Int) == 0) = false := by simp; omega
  have t1 : decide (y ≤ hi) = false := by simp; omega
  have t2 : ((hi : Int) == 0) = false := by simp; omega
  have hs3 : (64 : Int) - (Lib.bitLen y : Int) = (s : Int) := by rw [hs]; omega
  have Hs3 := Lib.hid hs3
  have Hs := Lib.hid hs
  have t3 : IntKind.u64.wrap ((y : Int) * 2 ^ s) = (Y : Int) := by
    rw [IntKind.wrap_u64, hY]
    have : ((y : Int) * 2 ^ s) = ((y * 2 ^ s : Nat) : Int) := by simp
    rw [this]; omega
  have t4 : (Y : Int) / 4294967296 = (Y1 : Int) := by omega
  have t5 : bits .and .u64 (Y : Int) 4294967295 = (Y0 : Int) := by
    have := u64_and_nat Y 4294967295 hYlt (by omega)
    rw [show ((4294967295 : Nat) : Int) = 4294967295 from rfl] at this
    rw [this, show (4294967295 : Nat) = 2 ^ 32 - 1 from rfl, Nat.and_two_pow_sub_one_eq_mod]
    omega
  have t6 : ¬ (Y1 = 0) := by omega
  have t7 : bits .or .u64 (IntKind.u64.wrap ((hi : Int) * 2 ^ s)) ((lo : Int) / 2 ^ (64 - s)) = (U : Int) := by
    have e64 : 2 ^ s * 2 ^ (64 - s) = 18446744073709551616 := by rw [← Nat.pow_add, show s + (64 - s) = 64 from by omega]
    have hp : 0 < 2 ^ s := Nat.two_pow_pos s
    have hp2 : 0 < 2 ^ (64 - s) := Nat.two_pow_pos _
    have hlo2 : lo / 2 ^ (64 - s) < 2 ^ s := by rw [Nat.div_lt_iff_lt_mul hp2, e64]; exact hlo
    have hhi : hi * 2 ^ s < 18446744073709551616 := by
      have : hi * 2 ^ s ≤ y * 2 ^ s := Nat.mul_le_mul_right _ (by omega)
      omega
    have e1 : IntKind.u64.wrap ((hi : Int) * 2 ^ s) = ((hi * 2 ^ s : Nat) : Int) := by
      rw [IntKind.wrap_u64, show ((hi : Int) * 2 ^ s) = ((hi * 2 ^ s : Nat) : Int) from by simp]; omega
    have e2 : ((lo : Int) / 2 ^ (64 - s)) = ((lo / 2 ^ (64 - s) : Nat) : Int) := by simp
    have hl3 : lo / 2 ^ (64 - s) < 18446744073709551616 := Nat.lt_of_le_of_lt (Nat.div_le_self _ _) hlo
    rw [e1, e2, u64_or_nat _ _ hhi hl3, or_shift _ _ _ hlo2, hU, Nat.mul_comm (2 ^ s), Nat.add_comm]
  have t8 : IntKind.u64.wrap ((lo : Int) * 2 ^ s) = (L : Int) := by
    rw [IntKind.wrap_u64, hL]; simp
  have t9 : (L : Int) / 4294967296 = (L1 : Int) := by omega
  have t10 : bits .and .u64 (L : Int) 4294967295 = (L0 : Int) := by
    have hLl : L < 18446744073709551616 := by omega
    have := u64_and_nat L 4294967295 hLl (by omega)
    rw [show ((4294967295 : Nat) : Int) = 4294967295 from rfl] at this
    rw [this, show (4294967295 : Nat) = 2 ^ 32 - 1 from rfl, Nat.and_two_pow_sub_one_eq_mod]
    omega
  have t11 : (U : Int) / (Y1 : Int) = (q0 : Int) := by rw [hq0]; simp
  have t12 : IntKind.u64.wrap ((q0 : Int) * (Y1 : Int)) = ((U - r0 : Nat) : Int) := by
    have hd := Nat.div_add_mod U Y1
    rw [← hq0, ← hr0, Nat.mul_comm] at hd
    rw [IntKind.wrap_u64, ← Int.natCast_mul, show q0 * Y1 = U - r0 from by omega]
    omega
  have t13 : (U : Int) - ((U - r0 : Nat) : Int) = (r0 : Int) := by
    have : r0 ≤ U := by rw [hr0]; exact Nat.mod_le _ _
    omega
  have b1 : q0 ≤ 4294967297 := by rw [hq0]; exact (half_start (L := 0) hYY hY1 hY1lt hY0 (by omega) hUY).le
  have b2 : r0 < 4294967296 := by rw [hr0]; have := Nat.mod_lt U (y := Y1) (by omega); omega
  have b3 : L1 < 4294967296 := by omega
  have b4 : L0 < 4294967296 := by omega
  have HY := Lib.hid hY
  have HYY := Lib.hid hYY
  have HU := Lib.hid hU
  have HL := Lib.hid hL
  have HL1 := Lib.hid hL1
  have HL0 := Lib.hid hL0
  have Hq0 := Lib.hid hq0
  have Hr0 := Lib.hid hr0
  clear hs hs3 hY hYY hU hL hL1 hL0 hq0 hr0
  go_enter Tryz.func186, Tryz.ntmps186
  go_upto_block 0 with (go_at_call 173; (with_reducible refine (lz64_any _ _ hy).mono ?_); rintro e w' ⟨rfl, rfl⟩; rw [Hs3.out])
  go_cut [15, 16] (fun q _ wc => q = .int .u64 (((U * 4294967296 + L1) / Y : Nat) : Int) ∧ wc = w)
  case first =>
    go_wp2_with fail
    go_loop [15, 16] (fun q r => ∃ a b : Nat, q = .int .u64 a ∧ r = .int .u64 b ∧ Half Y Y1 Y0 U L1 a b) (fun q _ => (intOf q).toNat)
    case atStart => exact ⟨q0, r0, rfl, rfl, by rw [Hq0.out, Hr0.out]; exact half_start HYY.out hY1 hY1lt hY0 b3 hUY⟩
    case round =>
      obtain ⟨a, b, rfl, rfl, hh⟩ := hrel
      have ha := hh.le
      have hb := hh.rest
      have hY1p : 0 < Y1 := by omega
      have hQ := half_Q HYY.out hY1 b3 hUY
      rcases Nat.lt_or_ge a 4294967296 with hlt | hge
      · have hm : a * Y0 < 18446744073709551616 := by
          have : a * Y0 ≤ 4294967295 * 4294967295 := Nat.mul_le_mul (by omega) (by omega)
          omega
        have e1 : IntKind.u64.wrap ((a : Int) * (Y0 : Int)) = ((a * Y0 : Nat) : Int) := by rw [IntKind.wrap_u64, ← Int.natCast_mul]; omega
        rcases Nat.lt_or_ge (4294967296 * b + L1) (a * Y0) with hov | hfit
        · have hlt2 := half_over HYY.out hY1 hh hov
          have t20 : decide (4294967296 ≤ (a : Int)) = false := by simp; omega
          have ha1 : 0 < a := Nat.zero_lt_of_lt hlt2
          rcases Nat.lt_or_ge (b + Y1) 4294967296 with hr | hr
          · have Hd := Lib.hid (half_down hh hlt2 hr)
            have t21 : decide (4294967296 ≤ (b : Int) + (Y1 : Int)) = false := by simp; omega
            clear hh hlt2
            go_wp2
            go_round
            case rel => exact ⟨a - 1, b + Y1, int_u64 (by omega), int_u64 (by omega), Hd.out⟩
            case measure => simp [intOf]; omega
          · have Hq := Lib.hid (half_break HYY.out hY1 hY0 hh hlt2 hr)
            have t21 : decide (4294967296 ≤ (b : Int) + (Y1 : Int)) = true := by simp; omega
            clear hh hlt2
            go_wp2
            go_meet
            exact ⟨int_u64 (by rw [← Hq.out]; omega), rfl⟩
        · have hq := half_out HYY.out hY1 hh hfit
          have Hq := Lib.hid hq
          clear hq
          have t20 : decide (4294967296 ≤ (a : Int)) = false := by simp; omega
          go_wp2
          go_meet
          exact ⟨by rw [Hq.out], rfl⟩
      · have hlt2 : (U * 4294967296 + L1) / Y < a := Nat.lt_of_lt_of_le hQ hge
        have t20 : decide (4294967296 ≤ (a : Int)) = true := by simp; omega
        have ha1 : 0 < a := Nat.zero_lt_of_lt hlt2
        rcases Nat.lt_or_ge (b + Y1) 4294967296 with hr | hr
        · have Hd := Lib.hid (half_down hh hlt2 hr)
          have t21 : decide (4294967296 ≤ (b : Int) + (Y1 : Int)) = false := by simp; omega
          clear hh hlt2
          go_wp2
          go_round
          case rel => exact ⟨a - 1, b + Y1, int_u64 (by omega), int_u64 (by omega), Hd.out⟩
          case measure => simp [intOf]; omega
        · have Hq := Lib.hid (half_break HYY.out hY1 hY0 hh hlt2 hr)
          have t21 : decide (4294967296 ≤ (b : Int) + (Y1 : Int)) = true := by simp; omega
          clear hh hlt2
          go_wp2
          go_meet
          exact ⟨int_u64 (by rw [← Hq.out]; omega), rfl⟩
  case rest =>
    obtain ⟨rfl, rfl⟩ := hcut
    obtain ⟨Q1, hQ1⟩ : ∃ Q1, Q1 = (U * 4294967296 + L1) / Y := ⟨_, rfl⟩
    rw [← hQ1]
    have HQ1 := Lib.hid hQ1
    clear hQ1
    obtain ⟨V2, hV2⟩ : ∃ V2, V2 = (U * 4294967296 + L1) % Y := ⟨_, rfl⟩
    have hVY : V2 < Y := by rw [hV2]; exact Nat.mod_lt _ (by omega)
    have t30 : IntKind.u64.wrap (IntKind.u64.wrap (IntKind.u64.wrap ((U : Int) * 4294967296) + (L1 : Int)) - IntKind.u64.wrap ((Q1 : Int) * (Y : Int))) = (V2 : Int) := by
      have h1 := Nat.div_add_mod (U * 4294967296 + L1) Y
      rw [← HQ1.out, ← hV2, Nat.mul_comm] at h1
      simp only [IntKind.wrap_u64]
      rw [← Int.natCast_mul]
      generalize Q1 * Y = z at *
      omega
    obtain ⟨q2, hq2⟩ : ∃ q2, q2 = V2 / Y1 := ⟨_, rfl⟩
    obtain ⟨r2, hr2⟩ : ∃ r2, r2 = V2 % Y1 := ⟨_, rfl⟩
    have t31 : (V2 : Int) / (Y1 : Int) = (q2 : Int) := by rw [hq2]; simp
    have t32 : IntKind.u64.wrap ((q2 : Int) * (Y1 : Int)) = ((V2 - r2 : Nat) : Int) := by
      have hd := Nat.div_add_mod V2 Y1
      rw [← hq2, ← hr2, Nat.mul_comm] at hd
      rw [IntKind.wrap_u64, ← Int.natCast_mul, show q2 * Y1 = V2 - r2 from by omega]
      omega
    have t33 : (V2 : Int) - ((V2 - r2 : Nat) : Int) = (r2 : Int) := by
      have : r2 ≤ V2 := by rw [hr2]; exact Nat.mod_le _ _
      omega
    have b5 : q2 ≤ 4294967297 := by rw [hq2]; exact (half_start (L := 0) HYY.out hY1 hY1lt hY0 (by omega) hVY).le
    have b6 : r2 < 4294967296 := by rw [hr2]; have := Nat.mod_lt V2 (y := Y1) (by omega); omega
    have HV2 := Lib.hid hV2
    have Hq2 := Lib.hid hq2
    have Hr2 := Lib.hid hr2
    clear hV2 hq2 hr2
    go_upto_block 2 with (fail)
    go_cut [18, 16] (fun q _ wc2 => q = .int .u64 (((V2 * 4294967296 + L0) / Y : Nat) : Int) ∧ wc2 = wc)
    case first =>
      go_wp2_with fail
      go_loop [18, 16] (fun q r => ∃ a b : Nat, q = .int .u64 a ∧ r = .int .u64 b ∧ Half Y Y1 Y0 V2 L0 a b) (fun q _ => (intOf q).toNat)
      case atStart => exact ⟨q2, r2, rfl, rfl, by rw [Hq2.out, Hr2.out]; exact half_start HYY.out hY1 hY1lt hY0 b4 hVY⟩
      case round =>
        obtain ⟨a, b, rfl, rfl, hh⟩ := hrel
        have ha := hh.le
        have hb := hh.rest
        have hY1p : 0 < Y1 := by omega
        have hQ := half_Q HYY.out hY1 b4 hVY
        rcases Nat.lt_or_ge a 4294967296 with hlt | hge
        · have hm : a * Y0 < 18446744073709551616 := by
            have : a * Y0 ≤ 4294967295 * 4294967295 := Nat.mul_le_mul (by omega) (by omega)
            omega
          have e1 : IntKind.u64.wrap ((a : Int) * (Y0 : Int)) = ((a * Y0 : Nat) : Int) := by rw [IntKind.wrap_u64, ← Int.natCast_mul]; omega
          rcases Nat.lt_or_ge (4294967296 * b + L0) (a * Y0) with hov | hfit
          · have hlt2 := half_over HYY.out hY1 hh hov
            have t20 : decide (4294967296 ≤ (a : Int)) = false := by simp; omega
            have ha1 : 0 < a := Nat.zero_lt_of_lt hlt2
            rcases Nat.lt_or_ge (b + Y1) 4294967296 with hr | hr
            · have Hd := Lib.hid (half_down hh hlt2 hr)
              have t21 : decide (4294967296 ≤ (b : Int) + (Y1 : Int)) = false := by simp; omega
              clear hh hlt2
              go_wp2
              go_round
              case rel => exact ⟨a - 1, b + Y1, int_u64 (by omega), int_u64 (by omega), Hd.out⟩
              case measure => simp [intOf]; omega
            · have Hq := Lib.hid (half_break HYY.out hY1 hY0 hh hlt2 hr)
              have t21 : decide (4294967296 ≤ (b : Int) + (Y1 : Int)) = true := by simp; omega
              clear hh hlt2
              go_wp2
              go_meet
              exact ⟨int_u64 (by rw [← Hq.out]; omega), rfl⟩
          · have hq := half_out HYY.out hY1 hh hfit
            have Hq := Lib.hid hq
            clear hq
            have t20 : decide (4294967296 ≤ (a : Int)) = false := by simp; omega
            go_wp2
            go_meet
            exact ⟨by rw [Hq.out], rfl⟩
        · have hlt2 : (V2 * 4294967296 + L0) / Y < a := Nat.lt_of_lt_of_le hQ hge
          have t20 : decide (4294967296 ≤ (a : Int)) = true := by simp; omega
          have ha1 : 0 < a := Nat.zero_lt_of_lt hlt2
          rcases Nat.lt_or_ge (b + Y1) 4294967296 with hr | hr
          · have Hd := Lib.hid (half_down hh hlt2 hr)
            have t21 : decide (4294967296 ≤ (b : Int) + (Y1 : Int)) = false := by simp; omega
            clear hh hlt2
            go_wp2
            go_round
            case rel => exact ⟨a - 1, b + Y1, int_u64 (by omega), int_u64 (by omega), Hd.out⟩
            case measure => simp [intOf]; omega
          · have Hq := Lib.hid (half_break HYY.out hY1 hY0 hh hlt2 hr)
            have t21 : decide (4294967296 ≤ (b : Int) + (Y1 : Int)) = true := by simp; omega
            clear hh hlt2
            go_wp2
            go_meet
            exact ⟨int_u64 (by rw [← Hq.out]; omega), rfl⟩
    case rest =>
      obtain ⟨rfl, rfl⟩ := hcut
      obtain ⟨Q0, hQ0⟩ : ∃ Q0, Q0 = (V2 * 4294967296 + L0) / Y := ⟨_, rfl⟩
      rw [← hQ0]
      obtain ⟨R, hR⟩ : ∃ R, R = (V2 * 4294967296 + L0) % Y := ⟨_, rfl⟩
      have t40 : IntKind.u64.wrap (IntKind.u64.wrap (IntKind.u64.wrap ((V2 : Int) * 4294967296) + (L0 : Int)) - IntKind.u64.wrap ((Q0 : Int) * (Y : Int))) = (R : Int) := by
        have h1 := Nat.div_add_mod (V2 * 4294967296 + L0) Y
        have h2 : R < Y := by rw [hR]; exact Nat.mod_lt _ (by omega)
        rw [← hQ0, ← hR, Nat.mul_comm] at h1
        simp only [IntKind.wrap_u64]
        rw [← Int.natCast_mul]
        generalize Q0 * Y = z at *
        omega
      have q1b : Q1 < 4294967296 := by rw [HQ1.out]; exact half_Q HYY.out hY1 b3 hUY
      have q0b : Q0 < 4294967296 := by rw [hQ0]; exact half_Q HYY.out hY1 b4 hVY
      have HQ0 := Lib.hid hQ0
      have HR := Lib.hid hR
      clear hQ0 hR
      go_wp2
      go_ret2
      have hyp : 0 < y := by omega
      obtain ⟨f1, f2⟩ := div64_fin hs2 hyp HY.out HU.out HL.out hlo HL1.out HL0.out
      rw [← HQ1.out, ← HV2.out, ← HQ0.out] at f1
      rw [← HV2.out, ← HR.out] at f2
      refine ⟨?_, Dr.refl _⟩
      rw [← f1, ← f2]
      simp

set_option maxHeartbeats 400000 in
theorem div64_zero (lo y : Nat) (hy : y < 18446744073709551616) (h0 : 0 < y) (hlo : lo < 18446744073709551616) (w : World) :
    Calls Tryz.prog 186 #[.int .u64 0, .int .u64 (lo : Int), .int .u64 (y : Int)] w fun e w' => e = .returned (.tuple #[.int .u64 ((lo / y : Nat) : Int), .int .u64 ((lo % y : Nat) : Int)]) ∧ Dr w w' := by
  have t0 : ((y : Int) == 0) = false := by simp; omega
  have t1 : decide (y ≤ 0) = false := by simp; omega
  have t3 : ¬ (y = 0) := by omega
  go_enter Tryz.func186, Tryz.ntmps186
  go_wp2
  go_quiet (fail)
  go_wp2
  go_ret2
  refine ⟨?_, (Dr.refl _).step _⟩
  have hq : lo / y ≤ lo := Nat.div_le_self _ _
  have e1 : IntKind.u64.wrap ((lo : Int) / (y : Int)) = ((lo / y : Nat) : Int) := by
    rw [IntKind.wrap_u64, ← Int.natCast_ediv]
    generalize lo / y = q at *
    omega
  show Ending.returned (.tuple #[.int .u64 (IntKind.u64.wrap ((lo : Int) / (y : Int))), .int .u64 ((lo : Int) % (y : Int))]) = _
  rw [e1]
  simp

theorem div64_any (hi lo y : Nat) (hy : y < 18446744073709551616) (hh : hi < y) (hlo : lo < 18446744073709551616) (w : World) :
    Calls Tryz.prog 186 #[.int .u64 (hi : Int), .int .u64 (lo : Int), .int .u64 (y : Int)] w fun e w' => e = .returned (.tuple #[.int .u64 (((hi * 18446744073709551616 + lo) / y : Nat) : Int), .int .u64 (((hi * 18446744073709551616 + lo) % y : Nat) : Int)]) ∧ Dr w w' := by
  rcases Nat.eq_zero_or_pos hi with h0 | h0
  · subst h0
    refine (div64_zero lo y hy hh hlo w).mono ?_
    rintro e w' ⟨rfl, hw⟩
    exact ⟨by simp, hw⟩
  · obtain ⟨hb1, hb2, hb3⟩ := bitLen_bounds y hy (by omega)
    have hb4 := bitLen_le64 y hy
    obtain ⟨s, hs⟩ : ∃ s, s = 64 - Lib.bitLen y := ⟨_, rfl⟩
    have e1 : 2 ^ Lib.bitLen y * 2 ^ s = 18446744073709551616 := by rw [← Nat.pow_add, show Lib.bitLen y + s = 64 from by omega]
    have e2 : 2 ^ (Lib.bitLen y - 1) * 2 ^ s = 9223372036854775808 := by rw [← Nat.pow_add, show Lib.bitLen y - 1 + s = 63 from by omega]
    have hp : 0 < 2 ^ s := Nat.two_pow_pos s
    have u1 : y * 2 ^ s < 18446744073709551616 := by rw [← e1]; exact Nat.mul_lt_mul_of_pos_right hb3 hp
    have u2 : 9223372036854775808 ≤ y * 2 ^ s := by rw [← e2]; exact Nat.mul_le_mul_right _ hb2
    have u3 : hi * 2 ^ s + lo / 2 ^ (64 - s) < y * 2 ^ s := by
      have e64 : 2 ^ s * 2 ^ (64 - s) = 18446744073709551616 := by rw [← Nat.pow_add, show s + (64 - s) = 64 from by omega]
      have : lo / 2 ^ (64 - s) < 2 ^ s := by rw [Nat.div_lt_iff_lt_mul (Nat.two_pow_pos _), e64]; exact hlo
      have h2 : (hi + 1) * 2 ^ s ≤ y * 2 ^ s := Nat.mul_le_mul_right _ hh
      rw [Nat.succ_mul] at h2
      omega
    exact div64_big hi lo y s (y * 2 ^ s) (y * 2 ^ s / 4294967296) (y * 2 ^ s % 4294967296) hy hh h0 hlo w (by omega) (by omega) rfl u1 (by omega) (by omega) (by omega) (by omega)
      _ _ _ _ _ _ rfl rfl rfl rfl u3 rfl rfl
end
end Go.Proofs.YtadpelhmjmamnaaGreatDoor
