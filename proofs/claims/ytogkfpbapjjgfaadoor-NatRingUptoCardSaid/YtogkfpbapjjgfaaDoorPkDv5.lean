/- The contract of unshiftWords. Conditions: words; a shift below 64. The contract of piecewise, given that of product for fewer words. The contracts of the reference's limb, Norm and Zero. The contracts of the reference's Lend and Kept. -/
import Derived.Test.YtogkfpbapjjgfaaDoorPkDv4
import Derived.Test.YtogkfpbapjjgfaaDoorPkDv2
import Derived.Deep.RegionHeld3
namespace Go.Proofs.YtogkfpbapjjgfaaDoor
section
open Go.RowKit

/-- Between two words of unshiftWords. -/
structure Down (us : List Nat) (n m k : Nat) (zs : List Nat) : Prop where
  len : zs.length = us.length
  dig : Dig 18446744073709551616 zs
  sum : val 18446744073709551616 zs = val 18446744073709551616 (us.take k) / 2 ^ n
  low : ∀ j (h : j < zs.length), k = j + 1 → zs[j] < 2 ^ m
  zero : ∀ j (h : j < zs.length), k ≤ j → zs[j] = 0
theorem Down.start (us : List Nat) (n m : Nat) : Down us n m 0 (List.replicate us.length 0) :=
  ⟨by simp, Dig.zeros_ (by omega) _, by rw [val_zeros]; simp [val], fun j h e => by omega, fun j h _ => by simp⟩
theorem Down.first {us zs : List Nat} {n m : Nat} (h : Down us n m 0 zs) (hnm : n + m = 64) (hk : 0 < us.length) (hx : us[0] < 18446744073709551616) : Down us n m (0 + 1) (zs.set 0 (us[0] / 2 ^ n)) := by
  have hl := h.len
  have e1 := val_set 18446744073709551616 zs 0 (us[0] / 2 ^ n) (by omega)
  rw [h.zero 0 (by omega) (Nat.le_refl _), Nat.mul_zero, Nat.add_zero] at e1
  refine ⟨by rw [List.length_set]; exact hl, h.dig.set_ 0 _ (Nat.lt_of_le_of_lt (Nat.div_le_self _ _) hx), ?_, fun j hj e => ?_, fun j hj hkj => ?_⟩
  · rw [e1, h.sum, val_take_succ _ _ _ hk]
    simp [val]
  · obtain rfl : j = 0 := by omega
    rw [List.getElem_set_self]
    exact shr_lt (by omega) hx
  · rw [List.length_set] at hj
    rw [List.getElem_set_ne (by omega)]
    exact h.zero j hj (by omega)
theorem Down.step {us zs : List Nat} {n m k : Nat} (h : Down us n m (k + 1) zs) (hnm : n + m = 64) (hk : k + 1 < us.length) (hz : k < zs.length) (hx : us[k + 1] < 18446744073709551616) :
    Down us n m (k + 1 + 1) ((zs.set (k + 1) (us[k + 1] / 2 ^ n)).set k (zs[k] + us[k + 1] * 2 ^ m % 18446744073709551616)) := by
  have h1 := h.low k hz rfl
  have h2 := lo_lt (x := us[k + 1]) (n := m) (m := n) (by omega) h1
  have h3 := shr_lt (n := m) (m := n) (by omega) hx
  have hl := h.len
  have hk1 : k + 1 < zs.length := by omega
  have e1 := val_set 18446744073709551616 zs (k + 1) (us[k + 1] / 2 ^ n) hk1
  rw [h.zero (k + 1) hk1 (Nat.le_refl _), Nat.mul_zero, Nat.add_zero] at e1
  have e2 := val_set 18446744073709551616 (zs.set (k + 1) (us[k + 1] / 2 ^ n)) k (zs[k] + us[k + 1] * 2 ^ m % 18446744073709551616) (by rw [List.length_set]; exact hz)
  rw [List.getElem_set_ne (by omega), Nat.mul_add] at e2
  have e3 := (shl_split us[k + 1] m n (by omega)).1
  refine ⟨by rw [List.length_set, List.length_set]; exact hl, (h.dig.set_ (k + 1) _ (Nat.lt_of_le_of_lt (Nat.div_le_self _ _) hx)).set_ k _ h2, ?_, fun j hj e => ?_, fun j hj hkj => ?_⟩
  · have hW : (18446744073709551616 : Nat) = 2 ^ n * 2 ^ m := by rw [← Nat.pow_add, hnm]
    have e5 : val 18446744073709551616 (us.take (k + 1 + 1)) = val 18446744073709551616 (us.take (k + 1)) + 2 ^ n * (18446744073709551616 ^ k * (us[k + 1] * 2 ^ m)) := by
      rw [val_take_succ _ _ _ hk]
      congr 1
      rw [Nat.pow_succ]
      conv => lhs; rw [show (18446744073709551616 : Nat) ^ k * 18446744073709551616 = 18446744073709551616 ^ k * (2 ^ n * 2 ^ m) from by rw [← hW]]
      rw [Nat.mul_left_comm (2 ^ n), Nat.mul_assoc, Nat.mul_assoc, Nat.mul_comm (2 ^ m)]
    have e6 : 18446744073709551616 ^ k * (us[k + 1] * 2 ^ m) = 18446744073709551616 ^ k * (us[k + 1] * 2 ^ m % 18446744073709551616) + 18446744073709551616 ^ (k + 1) * (us[k + 1] / 2 ^ n) := by
      conv => lhs; rw [e3]
      rw [Nat.mul_add, Nat.pow_succ, Nat.mul_assoc]
    rw [e5, Nat.add_mul_div_left _ _ (Nat.two_pow_pos n), ← h.sum, e6]
    omega
  · obtain rfl : j = k + 1 := by omega
    rw [List.getElem_set_ne (by omega), List.getElem_set_self]
    exact h3
  · rw [List.length_set, List.length_set] at hj
    rw [List.getElem_set_ne (by omega), List.getElem_set_ne (by omega)]
    exact h.zero j hj (by omega)

theorem or_zero_u64 (x : Nat) (h : x < 18446744073709551616) : bits BinOp.or IntKind.u64 (0 : Int) (x : Int) = (x : Int) := by
  have := u64_or_nat 0 x (by omega) h
  rw [show ((0 : Nat) : Int) = 0 from rfl] at this
  rw [this, Nat.zero_or]

set_option maxRecDepth 20000 in
set_option maxHeartbeats 1600000 in
theorem unshiftWords_any (A : Option Addr) (c n : Nat) (us : List Nat) (w : World) (B : Nat) (hr : Rd w B A (u64s us)) (hB : B ≤ w.heap.size) (hd : Dig 18446744073709551616 us) (hm : us.length ≤ 35184372088800) (hn : n < 64) :
    Calls Tryd.prog 72 #[.slice A us.length c, .int .u64 (n : Int)] w fun e w' => Words w w' us.length (val 18446744073709551616 us / 2 ^ n) e := by
  have hmk := fun W => mk64 us.length (by omega) W
  obtain ⟨m, hmn⟩ : ∃ m, m = 64 - n := ⟨_, rfl⟩
  have hnm : n + m = 64 := by omega
  have hm64 : m ≤ 64 := by omega
  have e64 : (64 : Int) - (n : Int) = (m : Int) := by omega
  have e64w : IntKind.u64.wrap ((64 : Int) - (n : Int)) = (m : Int) := by rw [IntKind.wrap_u64]; omega
  have Hrep : Hid (∀ k : Nat, (List.replicate k (Value.int .u64 0)).toArray = (u64s (List.replicate k 0)).toArray) := fun k => by simp [u64s]
  clear hmn
  go_enter Tryd.func72, Tryd.ntmps72
  go_wp2_with fail
  go_loopw [6, 7, 13] (fun _ _ i wr => ∃ (k : Nat) (zs : List Nat), k ≤ us.length ∧ i = .int .i64 (k : Int) ∧ Hid (Down us n m k zs) ∧ Blk wr w.heap.size 24 (u64s zs) ∧ Below w.heap.size w wr) (fun _ _ i _ => us.length - (intOf i).toNat)
  case atStart => exact ⟨0, List.replicate us.length 0, by omega, rfl, Down.start us n m, Blk.new_ (Hrep.out _), (Below.refl _ _).alloc (Nat.le_refl _) _⟩
  case round =>
    obtain ⟨k, zs, hk, rfl, hup, hblk, hbel⟩ := hrel
    have hzl := hup.out.len
    by_cases hlt : k < us.length
    · obtain ⟨b, off, rfl, hb, hx⟩ := hr.at64 hlt
      have hx := (hbel.cell (p := ⟨b, off + k, none⟩) (show b < _ by omega)).trans hx
      have hxd := hd.at_ k hlt
      have hz : k < zs.length := by omega
      have c1 := hblk.cell k
      rw [u64s_at hz, hup.out.zero k hz (Nat.le_refl _)] at c1
      have f1 := hblk.frozen k
      have hbne : b ≠ w.heap.size := by omega
      have hsr := shr_nat2 us[k] n
      have htx : us[k] / 2 ^ n < 18446744073709551616 := Nat.lt_of_le_of_lt (Nat.div_le_self _ _) hxd
      have hor1 := or_zero_u64 _ htx
      have hset1 := hblk.set_ k (.int .u64 ((us[k] / 2 ^ n : Nat) : Int))
      have hbel1 := hbel.setCell (p := ⟨w.heap.size, k, none⟩) (Nat.le_refl _) (.int .u64 ((us[k] / 2 ^ n : Nat) : Int))
      rw [u64s_set] at hset1
      by_cases h0 : k = 0
      · subst h0
        have hstep := Lib.hid (hup.out.first hnm hlt hxd)
        obtain ⟨x, hxe⟩ : ∃ x, x = us[0] := ⟨_, rfl⟩
        rw [← hxe] at hx hxd hsr hor1 hset1 hbel1 hstep htx
        rw [Nat.add_zero] at hx
        obtain ⟨t, ht⟩ := nameIt (x / 2 ^ n)
        rw [← ht] at hsr hor1 hset1 hbel1 hstep htx
        have Hset := Lib.hid hset1
        have Hbel := Lib.hid hbel1
        clear hset1 hbel1 hxe ht hup hbel hmk
        go_wp2_with (first | (simp only [hsr]) | (simp only [hor1]))
        go_roundw
        case rel => exact ⟨0 + 1, _, by omega, by go_num, hstep, Hset.out, Hbel.out⟩
        case measure => simp [intOf]; omega
      · obtain ⟨j, rfl⟩ : ∃ j, k = j + 1 := ⟨k - 1, by omega⟩
        have hzj : j < zs.length := by omega
        have hlow := hup.out.low j hzj rfl
        have hstep := Lib.hid (hup.out.step hnm hlt hzj hxd)
        have hyd := hup.out.dig.at_ j hzj
        have hor := shl_or zs[j] us[j + 1] m n (by omega) hlow hyd
        have hlo := lo_lt (x := us[j + 1]) (n := m) (m := n) (by omega) hlow
        have c2 := hset1.cell j
        rw [u64s_at (by rw [List.length_set]; exact hzj), List.getElem_set_ne (by omega)] at c2
        have f2 := hset1.frozen j
        have f3 := hblk.frozen j
        have c3 := hblk.cell j
        rw [u64s_at hzj] at c3
        obtain ⟨y, hy⟩ : ∃ y, y = zs[j] := ⟨_, rfl⟩
        obtain ⟨x, hxe⟩ : ∃ x, x = us[j + 1] := ⟨_, rfl⟩
        rw [← hy, ← hxe] at hor hstep hlo
        rw [← hy] at c2 c3 hyd
        rw [← hxe] at hx hxd hsr hor1 hset1 hbel1 htx c2 f2
        obtain ⟨t, ht⟩ := nameIt (x / 2 ^ n)
        rw [← ht] at hsr hor1 hset1 hbel1 hstep htx c2 f2
        obtain ⟨s, hs⟩ := nameIt (y + x * 2 ^ m % 18446744073709551616)
        rw [← hs] at hor hstep hlo
        have hset2 := hset1.set_ j (.int .u64 (s : Int))
        rw [u64s_set] at hset2
        have Hset := Lib.hid hset2
        have Hbel := Lib.hid (hbel1.setCell (p := ⟨w.heap.size, j, none⟩) (Nat.le_refl _) (.int .u64 (s : Int)))
        have i0 : decide ((0 : Int) < (j : Int) + 1) = true := decide_eq_true (by omega)
        clear hset1 hset2 hbel1 hxe hy ht hs hlow hup hbel hmk
        go_wp2_with (first | (simp only [hsr]) | (simp only [hor1]) | (simp only [hor]) | (simp only [e64w]) | (simp only [e64]) | (simp only [i0]))
        go_roundw
        case rel => exact ⟨j + 1 + 1, _, by omega, by go_num, hstep, Hset.out, Hbel.out⟩
        case measure => simp [intOf]; omega
    · obtain rfl : k = us.length := by omega
      have hsum := hup.out.sum
      rw [List.take_length] at hsum
      have Hsum := Lib.hid hsum
      clear hsum hmk
      go_wp2_with fail
      go_ret
      exact ⟨zs, w.heap.size, by rw [hzl]; rfl, hzl, hup.out.dig, Hsum.out, Nat.le_refl _, hblk, hbel⟩
end
section
open Go.RowKit

/-- product is right for factors that have no more than n words together. -/
def ProdOk (n : Nat) : Prop :=
  ∀ (A A2 : Option Addr) (c c2 : Nat) (us vs : List Nat) (w : World) (B : Nat), us.length + vs.length ≤ n → Rd w B A (u64s us) → Rd w B A2 (u64s vs) → B ≤ w.heap.size → Dig 18446744073709551616 us → Dig 18446744073709551616 vs → us.length ≤ c → vs.length ≤ c2 → us.length + vs.length ≤ 536870912 →
    Calls Tryd.prog 63 #[.slice A us.length c, .slice A2 vs.length c2] w fun e w' => Words w w' (us.length + vs.length) (val 18446744073709551616 us * val 18446744073709551616 vs) e

/-- A slice's place behind k cells. -/
def offA (A : Option Addr) (k : Nat) : Option Addr := A.map fun a => ⟨a.block, a.off + k, none⟩
theorem Rd.drop_ {w : World} {B : Nat} {A : Option Addr} {xs : List Nat} (h : Rd w B A (u64s xs)) (k : Nat) : Rd w B (offA A k) (u64s (xs.drop k)) := fun hn => by
  obtain ⟨b, off, e, hb, hc⟩ := h (by intro e; apply hn; unfold u64s at e ⊢; rw [List.map_drop, e]; simp)
  refine ⟨b, off + k, by rw [e]; rfl, hb, fun i v hv => ?_⟩
  rw [Nat.add_assoc]
  refine hc (k + i) v ?_
  unfold u64s at hv ⊢
  rw [List.map_drop, List.getElem?_drop] at hv
  exact hv
theorem Rd.takeN {w : World} {B : Nat} {A : Option Addr} {xs : List Nat} (h : Rd w B A (u64s xs)) (k : Nat) : Rd w B A (u64s (xs.take k)) := by
  have := h.take k
  unfold u64s at this ⊢
  rwa [← List.map_take] at this

theorem Res.rx_ {w : World} {B g : Nat} {t : TypeId} {A : Option Addr} {c : Nat} {vs : List Value} (h : Res w B t A c vs) (hg : g < B) : Rx w g A vs := fun hn => by
  obtain ⟨b, rest, rfl, hb, hk, _⟩ := h.2.2 hn
  exact ⟨b, 0, rfl, hk.lt, by omega, fun k v hv => by rw [hk.cell, Nat.zero_add, List.getElem?_append_left (List.getElem?_eq_some_iff.1 hv).1]; exact hv⟩
theorem piece_step {b k N q V : Nat} {zs zr us pc : List Nat} (hv : val b zs = val b (us.take k) * V) (hk : k ≤ us.length) (hN : k + N = zs.length) (hl : zr.length = N) (hpc : pc = (us.drop k).take pc.length) (hz : val b zr + b ^ N * q = val b ((zs.drop k).take N) + val b pc * V) (hY : val b us * V < b ^ zs.length) (_ : 0 < b) :
    q = 0 ∧ val b (patch zs k zr) = val b (us.take (k + pc.length)) * V := by
  subst hl
  have h1 := patch_val b (L := zs) (o := k) (zs := zr) (by omega)
  have e1 : val b (us.take (k + pc.length)) = val b (us.take k) + b ^ k * val b pc := by
    rw [show us.take (k + pc.length) = us.take k ++ pc from by rw [List.take_add]; congr 1; exact hpc.symm, val_append, List.length_take, Nat.min_eq_left hk]
  have e2 : b ^ k * val b zr + b ^ k * (b ^ zr.length * q) = b ^ k * val b ((zs.drop k).take zr.length) + b ^ k * (val b pc * V) := by
    rw [← Nat.mul_add, hz, Nat.mul_add]
  rw [← Nat.mul_assoc, ← Nat.pow_add, hN] at e2
  have e3 : val b (patch zs k zr) + b ^ zs.length * q = val b (us.take (k + pc.length)) * V := by
    rw [e1, Nat.add_mul, Nat.mul_assoc, ← hv]
    generalize b ^ k * (val b pc * V) = t1 at *
    generalize b ^ zs.length * q = t2 at *
    omega
  have h4 : val b (us.take (k + pc.length)) * V < b ^ zs.length := by
    refine Nat.lt_of_le_of_lt (Nat.mul_le_mul_right _ ?_) hY
    conv => rhs; rw [← List.take_append_drop (k + pc.length) us, val_append]
    exact Nat.le_add_right _ _
  have hq := carry_zero e3 h4
  subst hq
  exact ⟨rfl, by simpa using e3⟩
theorem prod_lt {b : Nat} {us vs : List Nat} (hd : Dig b us) (hd2 : Dig b vs) (hb : 0 < b) : val b us * val b vs < b ^ (us.length + vs.length) := by
  rw [Nat.pow_add]
  have h1 := val_lt b us hd
  have h2 := val_lt b vs hd2
  exact Nat.mul_lt_mul_of_lt_of_le h1 (Nat.le_of_lt h2) (Nat.pow_pos hb)

set_option maxHeartbeats 1600000 in
theorem piecewise_any (A A2 : Option Addr) (c c2 : Nat) (us vs : List Nat) (w : World) (B : Nat) (hIH : ProdOk (2 * vs.length)) (hr : Rd w B A (u64s us)) (hr2 : Rd w B A2 (u64s vs)) (hB : B ≤ w.heap.size) (hd : Dig 18446744073709551616 us) (hd2 : Dig 18446744073709551616 vs) (hc : us.length ≤ c) (hc2 : vs.length ≤ c2) (h1 : 0 < vs.length) (hle : vs.length ≤ us.length) (hm : us.length + vs.length ≤ 536870912) :
    Calls Tryd.prog 83 #[.slice A us.length c, .slice A2 vs.length c2] w fun e w' => Words w w' (us.length + vs.length) (val 18446744073709551616 us * val 18446744073709551616 vs) e := by
  have hmk := fun W => mk64a us.length vs.length (by omega) W
  have hY := prod_lt hd hd2 (by omega)
  have HY := Lib.hid hY
  have HIH : Hid (ProdOk (2 * vs.length)) := hIH
  clear hY hIH
  go_enter Tryd.func83, Tryd.ntmps83
  go_wp2_with fail
  go_loopw [6, 7] (fun i _ wr => ∃ (k : Nat) (zs : List Nat), k ≤ us.length + vs.length ∧ i = .int .i64 k ∧ zs.length = us.length + vs.length ∧ Dig 18446744073709551616 zs ∧ Blk wr w.heap.size 24 (u64s zs) ∧ val 18446744073709551616 zs = val 18446744073709551616 (us.take k) * val 18446744073709551616 vs ∧ Below w.heap.size w wr) (fun i _ _ => us.length + vs.length - (intOf i).toNat)
  case atStart => exact ⟨0, List.replicate (us.length + vs.length) 0, by omega, rfl, by simp, Dig.zeros_ (by omega) _, Blk.new_ (by simp [u64s]), by rw [val_zeros]; simp [val], (Below.refl _ _).alloc (Nat.le_refl _) _⟩
  case round =>
    obtain ⟨k, zs, hk, rfl, hzl, hzd, hblk, hv, hbel⟩ := hrel
    have Hzl := Lib.hid hzl
    have Hv := Lib.hid hv
    have hbs := hbel.size
    by_cases hlt : k < us.length
    · obtain ⟨b, off, rfl, hb, _⟩ := hr.at64 hlt
      clear hzl hv
      go_upto_region 6 with (fail)
      obtain ⟨pc, hpc⟩ : ∃ pc, pc = (us.drop k).take vs.length := ⟨_, rfl⟩
      have hpl : (min ((k : Int) + (vs.length : Int)) (us.length : Int)).toNat - k = pc.length := by
        rw [hpc, List.length_take, List.length_drop]; omega
      have hp2 : pc.length ≤ vs.length := by rw [hpc, List.length_take]; omega
      have hp3 : k + pc.length ≤ us.length := by rw [hpc, List.length_take, List.length_drop]; omega
      have hp4 : pc.length = vs.length ∨ k + pc.length = us.length := by rw [hpc, List.length_take, List.length_drop]; omega
      have hpe := Lib.hid (show pc = (us.drop k).take pc.length from by rw [hpc, List.length_take, List.take_eq_take_iff]; simp)
      rw [hpl]
      have hpd : Dig 18446744073709551616 pc := by rw [hpc]; exact seg_dig hd k _
      have hrp : Rd w B (some ⟨b, off + k, none⟩) (u64s pc) := by rw [hpc]; exact (hr.drop_ k).takeN _
      have Hprod : Hid (∀ W, Below w.heap.size w W → Calls Tryd.prog 63 #[.slice (some ⟨b, off + k, none⟩) pc.length (c - k), .slice A2 vs.length c2] W fun e w' => Words W w' (pc.length + vs.length) (val 18446744073709551616 pc * val 18446744073709551616 vs) e) := fun W hW =>
        HIH.out _ _ _ _ pc vs W B (by omega) (hrp.below (hW.mono hB)) (hr2.below (hW.mono hB)) (Nat.le_trans hB hW.size) hpd hd2 (by omega) hc2 (by omega)
      clear hpc hpl
      have hzb : zs.length ≤ 281474976710656 := by rw [Hzl.out]; omega
      have hzo : k + (us.length + vs.length - k) ≤ zs.length := by rw [Hzl.out]; omega
      have Hb := Lib.hid hblk
      have hi0 : (0 : Int) ≤ (k : Int) := by omega
      have hi1 : (k : Int) ≤ (us.length : Int) + (vs.length : Int) := by omega
      have hi2 : k ≤ us.length + vs.length := by omega
      have hi3 : ¬ (us.length + vs.length = k) := by omega
      have hi4 : ¬ (k = us.length + vs.length) := by omega
      go_region_held3 (fun _ => True) (exact trivial) (first
        | (go_at_call 63; refine (Hprod.out _ (by first | exact hbel | exact hbel.drew)).mono ?_; rintro e w1 ⟨ps, g1, rfl, hpsl, hpsd, hpsv, hg1, hres, hb1⟩; have hbel1 : Below w.heap.size w w1 := (by first | exact hbel.trans (hb1.mono hbs) | exact hbel.drew.trans (hb1.mono hbs)); have hq1 : Blk w1 w.heap.size 24 (u64s zs) := (by first | exact Hb.out.below hb1 Hb.out.lt | exact Hb.out.drew.below hb1 Hb.out.lt); have hrx1 : Rx w1 w.heap.size (some ⟨g1, 0, none⟩) (u64s ps) := Rx.of_blk hres (by have h1 : wr.heap.size ≤ g1 := hg1; have h2 := Hb.out.lt; omega) 0 (fun k v hv => by rw [Nat.zero_add]; exact hv); have Hpsl := Lib.hid hpsl; have Hpsv := Lib.hid hpsv; have hpsb : ps.length ≤ us.length + vs.length - k := (by omega); clear hpsl hpsv)
        | (go_at_call 91; refine (addInto_any w.heap.size k (us.length + vs.length - k) _ zs ps _ _ _ (by first | exact hq1 | exact hq1.drew) (by first | exact hrx1 | exact hrx1.keep (Below.refl _ _).drew (Nat.le_refl _)) hzo hpsb hzd hpsd (Nat.le_trans (Nat.sub_le _ _) (by omega))).mono ?_; rintro e w2 ⟨zr, q, rfl, hrl, hrd, hq, hrv, hblk2, htn⟩; have hbel2 : Below w.heap.size w w2 := (by first | exact hbel1.trans (htn.below (Nat.le_refl _) hbel1.size) | exact hbel1.drew.trans (htn.below (Nat.le_refl _) hbel1.size)); have Hrl := Lib.hid hrl; have Hrv := Lib.hid hrv; clear hrl hrv))
      all_goals
        go_wp2_with fail
        go_roundw
        case rel =>
          have hrv := Hrv.out
          rw [Hpsv.out] at hrv
          have hst := piece_step Hv.out (by omega) (by rw [Hzl.out]; omega) Hrl.out hpe.out hrv (by rw [Hzl.out]; exact HY.out) (by omega)
          have hpl := patch_length (L := zs) (o := k) (zs := zr) (by rw [Hrl.out, Hzl.out]; omega)
          refine ⟨k + vs.length, patch zs k zr, by omega, by go_num, hpl.trans Hzl.out, patch_dig hzd hrd, hblk2, ?_, hbel2⟩
          rw [hst.2]
          congr 2
          rcases hp4 with h | h
          · rw [h]
          · rw [List.take_of_length_le (by omega), List.take_of_length_le (by omega)]
        case measure => simp [intOf]; omega
    · clear hzl hv
      go_wp2_with fail
      go_ret
      have hv := Hv.out
      rw [List.take_of_length_le (by omega)] at hv
      exact ⟨zs, _, by rw [Hzl.out]; rfl, Hzl.out, hzd, hv, Nat.le_refl _, hblk, hbel⟩
end
section
open Go.RowKit

/-- The k-th of a list, 0 past it. -/
def at0 (xs : List Nat) (k : Nat) : Nat := xs.getD k 0
theorem at0_lt {xs : List Nat} (hd : Dig 4294967296 xs) (k : Nat) : at0 xs k < 4294967296 := by
  unfold at0
  rw [List.getD_eq_getElem?_getD]
  by_cases h : k < xs.length
  · rw [List.getElem?_eq_getElem h]; exact hd.at_ k h
  · rw [List.getElem?_eq_none (by omega)]; simp
theorem at0_in {xs : List Nat} {k : Nat} (h : k < xs.length) : at0 xs k = xs[k] := by
  unfold at0
  rw [List.getD_eq_getElem?_getD, List.getElem?_eq_getElem h]; rfl
theorem at0_out {xs : List Nat} {k : Nat} (h : xs.length ≤ k) : at0 xs k = 0 := by
  unfold at0
  rw [List.getD_eq_getElem?_getD, List.getElem?_eq_none h]; rfl

theorem trimL_nil_at {xs : List Nat} (h : trimL xs = []) : ∀ (k : Nat) (hk : k < xs.length), xs[k] = 0 := by
  induction xs with
  | nil => intro k hk; simp at hk
  | cons x xs ih =>
    simp only [trimL] at h
    split at h
    · rename_i e
      split at h
      · rename_i h0
        intro k hk
        cases k with
        | zero => simpa using h0
        | succ k => simpa using ih e k (by simpa using hk)
      · cases h
    · cases h

set_option maxHeartbeats 400000 in
theorem limb_any (A : Option Addr) (c : Nat) (xs : List Nat) (k : Nat) (w : World) (B : Nat) (hr : Rd w B A (u32s xs)) (hd : Dig 4294967296 xs) (_ : xs.length ≤ 281474976710656) (hk : k ≤ 9223372036854775807) :
    Calls Tryd.prog 41 #[.slice A xs.length c, .int .i64 (k : Int)] w fun e w' => e = .returned (.int .u64 (at0 xs k : Nat)) ∧ w = w' := by
  have t0 : decide ((k : Int) < 0) = false := by simp
  rcases Nat.lt_or_ge k xs.length with hlt | hge
  · obtain ⟨b, off, rfl, hb, hcell⟩ := hr (by intro e; have := u32s_length xs; rw [e] at this; simp at this; omega)
    have hx := hcell k _ (u32s_at hlt)
    have t1 : decide (xs.length ≤ k) = false := by simp; omega
    have e1 := Lib.hid (at0_in hlt)
    have hxd := hd.at_ k hlt
    clear hcell hr
    go_enter Tryd.func41, Tryd.ntmps41
    go_wp2
    go_ret
    exact ⟨by rw [e1.out]; rfl, rfl⟩
  · have t1 : decide (xs.length ≤ k) = true := by simp; omega
    have e1 := Lib.hid (at0_out hge)
    go_enter Tryd.func41, Tryd.ntmps41
    go_wp2
    go_ret
    exact ⟨by rw [e1.out]; rfl, rfl⟩

set_option maxHeartbeats 800000 in
theorem rnorm_any (A : Option Addr) (c : Nat) (xs : List Nat) (w : World) (B : Nat) (hr : Rd w B A (u32s xs)) (hB : B ≤ w.heap.size) (hm : xs.length ≤ 70368744177664) :
    Calls Tryd.prog 9 #[.slice A xs.length c] w fun e w' => ∃ A' c', e = .returned (.slice A' (trimL xs).length c') ∧ Res w' w.heap.size 31 A' c' (u32s (trimL xs)) ∧ Below w.heap.size w w' := by
  go_enter Tryd.func9, Tryd.ntmps9
  go_upto_block 0 with (fail)
  go_cut [3] (fun v wc => v = .int .i64 ((trimL xs).length : Int) ∧ wc = w)
  case first =>
    go_wp2_with fail
    go_loop [3] (fun v => ∃ m : Nat, m ≤ xs.length ∧ v = .int .i64 m ∧ trimL (xs.take m) = trimL xs) (fun v => (intOf v).toNat)
    case atStart => exact ⟨xs.length, Nat.le_refl _, rfl, by simp⟩
    case round =>
      obtain ⟨m, hm1, rfl, ht⟩ := hrel
      have Ht := Lib.hid ht; clear ht
      rcases m with _ | m
      · go_wp2
        go_meet
        have h0 : (trimL xs).length = 0 := by rw [← Ht.out]; rfl
        exact ⟨by rw [h0]; rfl, rfl⟩
      · obtain ⟨b, off, rfl, hb, hcell⟩ := hr (by intro e; have := u32s_length xs; rw [e] at this; simp at this; omega)
        have hcl := hcell m _ (u32s_at (by omega))
        clear hcell
        by_cases h0 : xs[m] = 0
        · have hz := trimL_take_zero xs m (by omega) h0
          rw [h0] at hcl
          have Hz := Lib.hid hz
          clear hz h0
          go_wp2
          go_round
          case rel => exact ⟨m, by omega, by go_num, by rw [← Hz.out]; exact Ht.out⟩
          case measure => simp [intOf]
        · have hz := trimL_take_pos xs m (by omega) h0
          have Hz := Lib.hid hz
          have hne : ((xs[m] : Int) == 0) = false := by simp; omega
          clear hz
          go_wp2
          go_meet
          exact ⟨by have h9 := Hz.out; rw [Ht.out] at h9; rw [h9]; simp, rfl⟩
  case rest =>
    obtain ⟨rfl, rfl⟩ := hcut
    have hl := trimL_length_le xs
    obtain ⟨ts, hts⟩ : ∃ ts, ts = trimL xs := ⟨_, rfl⟩
    have hrt : Rd wc B A (u32s ts) := by rw [hts, u32s_trim]; exact hr.take _
    rw [← hts] at hl ⊢
    have hmk := fun W => mk32 ts.length (by omega) W
    have Hts := Lib.hid hts
    clear hts
    go_wp2
    go_loopw [5] (fun i wr => ∃ (k : Nat) (zs : List Nat), k ≤ ts.length ∧ i = .int .i64 k ∧ zs.length = ts.length ∧ Blk wr wc.heap.size 31 (u32s zs) ∧ zs.take k = ts.take k ∧ Below wc.heap.size wc wr) (fun i _ => ts.length - (intOf i).toNat)
    case atStart => exact ⟨0, List.replicate ts.length 0, by omega, rfl, by simp, Blk.new_ (by simp [u32s]), by simp, (Below.refl _ _).alloc (Nat.le_refl _) _⟩
    case round =>
      obtain ⟨k, zs, hk, rfl, hzl, hblk, htk, hbel⟩ := hrel
      by_cases hlt : k < ts.length
      · obtain ⟨b, off, rfl, hb, hcell⟩ := hrt (by intro e; have := u32s_length ts; rw [e] at this; simp at this; omega)
        have hx := (hbel.cell (p := ⟨b, off + k, none⟩) (show b < _ by omega)).trans (hcell k _ (u32s_at hlt))
        have hkz : k < zs.length := by omega
        have Hzl := Lib.hid hzl
        have Htk := Lib.hid htk
        clear hcell hzl htk
        have hc2 := (hblk.cell k).trans (u32s_at hkz)
        have hf2 := hblk.frozen k
        go_wp2
        go_roundw
        case rel =>
          refine ⟨k + 1, zs.set k ts[k], by omega, by go_num, by simpa using Hzl.out, ?_, ?_, hbel.setCell (p := ⟨wc.heap.size, k, none⟩) (Nat.le_refl _) _⟩
          · have hb2 := hblk.set_ k (Value.int IntKind.u32 (ts[k] : Int))
            rw [u32s_set] at hb2
            exact hb2
          · rw [List.take_succ_eq_append_getElem hlt, List.take_succ_eq_append_getElem (by simpa using hkz), ← Htk.out, List.take_set_of_le (Nat.le_refl _)]
            simp
        case measure => simp [intOf]; omega
      · go_wp2
        go_ret
        obtain rfl : k = ts.length := by omega
        have e : zs = ts := by
          rw [List.take_length, ← hzl, List.take_length] at htk
          exact htk
        subst e
        clear htk
        have h3 := Res.of_blk0 hblk (Nat.le_refl _) (by rw [u32s_length]; omega)
        rw [u32s_length] at h3
        exact ⟨_, _, by rw [← Hts.out]; rfl, by rw [← Hts.out]; exact h3, hbel⟩

set_option maxHeartbeats 400000 in
theorem zero_any (A : Option Addr) (c : Nat) (xs : List Nat) (w : World) (B : Nat) (hr : Rd w B A (u32s xs)) (hm : xs.length ≤ 281474976710656) :
    Calls Tryd.prog 26 #[.slice A xs.length c] w fun e w' => e = .returned (.bool (decide (trimL xs = []))) ∧ w = w' := by
  go_enter Tryd.func26, Tryd.ntmps26
  go_wp2
  go_loop [4, 7] (fun _ i => ∃ k : Nat, k ≤ xs.length ∧ i = .int .i64 k ∧ trimL (xs.take k) = []) (fun _ i => xs.length - (intOf i).toNat)
  case atStart => exact ⟨0, by omega, rfl, rfl⟩
  case round =>
    obtain ⟨k, hk, rfl, ht⟩ := hrel
    by_cases hlt : k < xs.length
    · obtain ⟨b, off, rfl, hb, hcell⟩ := hr (by intro e; have := u32s_length xs; rw [e] at this; simp at this; omega)
      have hx := hcell k _ (u32s_at hlt)
      have Ht := Lib.hid ht
      clear hcell ht
      by_cases h0 : xs[k] = 0
      · have t1 : ((xs[k] : Int) != 0) = false := by simpa using h0
        have hz := Lib.hid (trimL_take_zero xs k hlt h0)
        clear h0
        go_wp2
        go_round
        case rel => exact ⟨k + 1, by omega, by go_num, by rw [hz.out]; exact Ht.out⟩
        case measure => simp [intOf]; omega
      · have t1 : ((xs[k] : Int) != 0) = true := by simpa using h0
        have hz : decide (trimL xs = []) = false := by
          simp only [decide_eq_false_iff_not]
          intro e
          have h1 := trimL_nil_at e k hlt
          exact h0 h1
        have Hz := Lib.hid hz
        clear hz h0
        go_wp2
        go_ret
        exact ⟨by rw [Hz.out]; rfl, rfl⟩
    · obtain rfl : k = xs.length := by omega
      have hz : decide (trimL xs = []) = true := by rw [List.take_length] at ht; simp [ht]
      have Hz := Lib.hid hz
      clear hz ht
      go_wp2
      go_ret
      exact ⟨by rw [Hz.out]; rfl, rfl⟩
end
section
open Go.RowKit

/-- What Lend lays round the limbs. -/
def lentL (xs : List Nat) : List Nat := 2779096485 :: (xs ++ [2779096485])
theorem lentL_length (xs : List Nat) : (lentL xs).length = xs.length + 2 := by simp [lentL]

set_option maxHeartbeats 800000 in
theorem lend_any (A : Option Addr) (c : Nat) (xs : List Nat) (w : World) (B : Nat) (hr : Rd w B A (u32s xs)) (hB : B ≤ w.heap.size) (hm : xs.length ≤ 70368744177000) :
    Calls Tryd.prog 7 #[.slice A xs.length c] w fun e w' => e = .returned (.tuple #[.slice (some ⟨w.heap.size, 0, none⟩) (xs.length + 2) (xs.length + 2), .slice (some ⟨w.heap.size, 1, none⟩) xs.length (xs.length + 1)]) ∧ Blk w' w.heap.size 31 (u32s (lentL xs)) ∧ Below w.heap.size w w' := by
  have hmk : ∀ W : World, (Instr.makeSlice 23 (.int .i64 ((xs.length : Int) + 2)) (.int .i64 ((xs.length : Int) + 2))).run Tryd.prog W = .ok (.slice (some ⟨W.heap.size, 0, none⟩) (xs.length + 2) (xs.length + 2)) (W.alloc (.cells (List.replicate (xs.length + 2) (Value.int .u32 0)).toArray 31)) := fun W => by
    have := mk32 (xs.length + 2) (by omega) W
    rwa [show ((xs.length + 2 : Nat) : Int) = (xs.length : Int) + 2 from by omega] at this
  go_enter Tryd.func7, Tryd.ntmps7
  go_wp2
  go_loopw [5, 14] (fun _ i wr => ∃ (k : Nat) (zs : List Nat), k ≤ xs.length + 2 ∧ i = .int .i64 k ∧ zs.length = xs.length + 2 ∧ Blk wr w.heap.size 31 (u32s zs) ∧ zs.take k = List.replicate k 2779096485 ∧ Below w.heap.size w wr) (fun _ i _ => xs.length + 2 - (intOf i).toNat)
  case atStart => exact ⟨0, List.replicate (xs.length + 2) 0, by omega, rfl, by simp, Blk.new_ (by simp [u32s]), by simp, (Below.refl _ _).alloc (Nat.le_refl _) _⟩
  case round =>
    obtain ⟨k, zs, hk, rfl, hzl, hblk, htk, hbel⟩ := hrel
    by_cases hlt : k < xs.length + 2
    · have hkz : k < zs.length := by omega
      have Hzl := Lib.hid hzl
      have Htk := Lib.hid htk
      clear hzl htk
      have hc2 := (hblk.cell k).trans (u32s_at hkz)
      have hf2 := hblk.frozen k
      go_wp2
      go_roundw
      case rel =>
        refine ⟨k + 1, zs.set k 2779096485, by omega, by go_num, by simpa using Hzl.out, ?_, ?_, hbel.setCell (p := ⟨w.heap.size, k, none⟩) (Nat.le_refl _) _⟩
        · have hb2 := hblk.set_ k (Value.int IntKind.u32 ((2779096485 : Nat) : Int))
          rw [u32s_set] at hb2
          exact hb2
        · rw [List.take_succ_eq_append_getElem (by simpa using hkz), List.take_set_of_le (Nat.le_refl _), Htk.out, List.replicate_succ']
          simp
      case measure => simp [intOf]; omega
    · obtain rfl : k = xs.length + 2 := by omega
      have hz : zs = List.replicate (xs.length + 2) 2779096485 := by rw [← htk, ← hzl, List.take_length]
      clear htk hzl
      subst hz
      go_wp2
      go_loopw [6, 7, 23] (fun _ _ i wq => ∃ (k : Nat) (zs : List Nat), k ≤ xs.length ∧ i = .int .i64 k ∧ Blk wq w.heap.size 31 (u32s zs) ∧ zs = 2779096485 :: (xs.take k ++ List.replicate (xs.length - k + 1) 2779096485) ∧ Below w.heap.size w wq) (fun _ _ i _ => xs.length - (intOf i).toNat)
      case atStart => exact ⟨0, _, by omega, rfl, hblk, by simp [List.replicate_succ], hbel⟩
      case round =>
        clear hblk hbel
        obtain ⟨k, zs, hk2, rfl, hblk, hze, hbel⟩ := hrel
        by_cases hlt : k < xs.length
        · obtain ⟨b, off, rfl, hb, hcell⟩ := hr (by intro e; have := u32s_length xs; rw [e] at this; simp at this; omega)
          have hx := (hbel.cell (p := ⟨b, off + k, none⟩) (show b < _ by omega)).trans (hcell k _ (u32s_at hlt))
          have hkz : k + 1 < zs.length := by rw [hze]; simp; omega
          have hze2 : zs.set (k + 1) xs[k] = 2779096485 :: (xs.take (k + 1) ++ List.replicate (xs.length - (k + 1) + 1) 2779096485) := by
            rw [hze, List.set_cons_succ, List.take_succ_eq_append_getElem hlt, List.append_assoc]
            congr 1
            rw [List.set_append_right _ _ (by rw [List.length_take]; omega), List.length_take, Nat.min_eq_left (by omega), Nat.sub_self, show xs.length - k + 1 = xs.length - (k + 1) + 1 + 1 from by omega, List.replicate_succ]
            simp
          have Hze2 := Lib.hid hze2
          clear hcell hze hze2
          have hc2 := (hblk.cell (k + 1)).trans (u32s_at hkz)
          have hf2 := hblk.frozen (k + 1)
          go_wp2
          go_roundw
          case rel =>
            refine ⟨k + 1, zs.set (k + 1) xs[k], by omega, by go_num, ?_, Hze2.out, hbel.setCell (p := ⟨w.heap.size, k + 1, none⟩) (Nat.le_refl _) _⟩
            have hb2 := hblk.set_ (k + 1) (Value.int IntKind.u32 (xs[k] : Int))
            rw [u32s_set] at hb2
            exact hb2
          case measure => simp [intOf]; omega
        · obtain rfl : k = xs.length := by omega
          have hze2 : zs = lentL xs := by rw [hze]; simp [lentL]
          clear hze
          subst hze2
          go_wp2
          go_quiet (fail)
          go_wp2
          go_ret2
          exact ⟨rfl, hblk.drewN _, hbel.trans ((Dr.refl _).step _ |>.below _)⟩

set_option maxHeartbeats 400000 in
theorem kept_yes (A A2 : Option Addr) (c c2 : Nat) (xs : List Nat) (w : World) (B : Nat) (hr : Rd w B A (u32s (lentL xs))) (hr2 : Rd w B A2 (u32s xs)) (hm : xs.length ≤ 70368744177000) :
    Calls Tryd.prog 21 #[.slice A (xs.length + 2) c, .slice A2 xs.length c2] w fun e w' => e = .returned (.bool true) ∧ w = w' := by
  obtain ⟨b, off, rfl, hb, hcell⟩ := hr (by simp [lentL, u32s])
  have c0 := hcell 0 _ (u32s_at (by rw [lentL_length]; omega))
  have c1 := hcell (xs.length + 1) _ (u32s_at (by rw [lentL_length]; omega))
  rw [show (lentL xs)[0]'(by rw [lentL_length]; omega) = 2779096485 from rfl] at c0
  rw [show (lentL xs)[xs.length + 1]'(by rw [lentL_length]; omega) = 2779096485 from by simp [lentL]] at c1
  simp only [Nat.add_zero] at c0
  have t0 : (((xs.length : Int) + 2) != ((xs.length : Int) + 2)) = false := by simp
  have hcx : ∀ k (h : k < xs.length), w.cell? ⟨b, off + (k + 1), none⟩ = some (.int .u32 (xs[k] : Nat)) := fun k h => by
    have := hcell (k + 1) _ (u32s_at (by rw [lentL_length]; omega))
    rw [show (lentL xs)[k + 1]'(by rw [lentL_length]; omega) = xs[k] from by simp [lentL, List.getElem_append_left h]] at this
    exact this
  clear hcell hr
  have Hcx := Lib.hid hcx
  clear hcx
  go_enter Tryd.func21, Tryd.ntmps21
  go_wp2
  go_loop [5, 6, 30] (fun _ _ i => ∃ k : Nat, k ≤ xs.length ∧ i = .int .i64 k) (fun _ _ i => xs.length - (intOf i).toNat)
  case atStart => exact ⟨0, by omega, rfl⟩
  case round =>
    obtain ⟨k, hk, rfl⟩ := hrel
    by_cases hlt : k < xs.length
    · obtain ⟨b2, off2, rfl, hb2, hcell2⟩ := hr2 (by intro e; have := u32s_length xs; rw [e] at this; simp at this; omega)
      have hx := hcell2 k _ (u32s_at hlt)
      have hy := Hcx.out k hlt
      have t2 : ((xs[k] : Int) != (xs[k] : Int)) = false := by simp
      clear hcell2 hr2
      go_wp2
      go_round
      case rel => exact ⟨k + 1, by omega, by go_num⟩
      case measure => simp [intOf]; omega
    · go_wp2
      go_ret
      exact ⟨rfl, rfl⟩
end
end Go.Proofs.YtogkfpbapjjgfaaDoor
