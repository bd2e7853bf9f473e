/- The trailing zeros of a number by its value: 2 to them divid. The contracts of lifter, dropper and their closures. The contract of shiftUp. The walk of Right where something is left. -/
import Derived.Test.YtbcphifjcaobfaaGreatDoorPkRp40
import Derived.Test.YtbcphifjcaobfaaGreatDoorPkRp9
import Derived.Test.YtbcphifjcaobfaaGreatDoorPkRp6
namespace Go.Proofs.YtbcphifjcaobfaaGreatDoor
section
open Go.RowKit
theorem drop_at {b : Nat} {qs : List Nat} {k : Nat} (h : k < qs.length) : val b (qs.drop k) = qs[k] + b * val b (qs.drop (k + 1)) := by
 rw [List.drop_eq_getElem_cons h]
 rfl
theorem bitAt_val {xs : List Nat} (hd : Dig 4294967296 xs) (i : Nat) : bitAt xs i = val 4294967296 xs / 2 ^ i % 2 := by
 have h1 : (2 : Nat) ^ i = 4294967296 ^ (i / 32) * 2 ^ (i % 32) := by
  rw [show (4294967296 : Nat) = 2 ^ 32 from rfl, ← Nat.pow_mul, ← Nat.pow_add]
  congr 1
  omega
 rw [h1, ← Nat.div_div_eq_div_mul, ← val_drop (by omega) xs _ hd]
 unfold bitAt
 by_cases hk : i / 32 < xs.length
 ·rw [drop_at hk, at0_in hk]
  have hp : (4294967296 : Nat) = 2 ^ (i % 32) * (2 * 2 ^ (31 - i % 32)) := by
   rw [← Nat.mul_assoc, ← Nat.pow_succ, ← Nat.pow_add, show i % 32 + 1 + (31 - i % 32) = 32 from by omega]
  obtain ⟨V, hV⟩ : ∃ V, V = val 4294967296 (xs.drop (i / 32 + 1)) := ⟨_, rfl⟩
  rw [← hV]
  have hp2 : xs[i / 32] + 4294967296 * V = xs[i / 32] + 2 ^ (i % 32) * (2 * (2 ^ (31 - i % 32) * V)) := by
   conv => lhs; rw [hp]
   simp only [Nat.mul_assoc]
  rw [hp2, Nat.add_mul_div_left _ _ (Nat.two_pow_pos _), Nat.add_mul_mod_self_left]
 ·rw [at0_out (by omega), List.drop_eq_nil_of_le (by omega)]
  simp [val]
theorem dvd_of_bits {a t : Nat} (h : ∀ j, j < t → a / 2 ^ j % 2 = 0) : 2 ^ t ∣ a := by
 induction t with
 | zero => exact ⟨a, by simp⟩
 | succ t ih =>
  obtain ⟨m, hm⟩ := ih fun j hj => h j (by omega)
  have h1 := h t (by omega)
  rw [hm, Nat.mul_div_cancel_left _ (Nat.two_pow_pos t)] at h1
  refine ⟨m / 2, ?_⟩
  rw [Nat.pow_succ, Nat.mul_assoc, hm]
  congr 1
  omega
theorem TrailIs.dvd {xs : List Nat} {t : Nat} (hd : Dig 4294967296 xs) (h : TrailIs xs t) : 2 ^ t ∣ val 4294967296 xs := by
 rcases h with ⟨_, _, h⟩ | ⟨rfl, _⟩
 ·refine dvd_of_bits fun j hj => ?_
  have := h j hj
  rw [bitAt_val hd] at this
  omega
 ·exact ⟨val 4294967296 xs, by simp⟩
end
section
open Go.RowKit
theorem lifter_any (n : Nat) (w : World) : Calls Tryz.prog 171 #[.int .u64 (n : Int)] w fun e w' => e = .returned (.func (.func 198) #[] #[.pointer (some ⟨w.heap.size + 1, 0, none⟩), .pointer (some ⟨w.heap.size, 0, none⟩)]) ∧
  Blk w' w.heap.size 69 [.int .u64 (n : Int)] ∧ Blk w' (w.heap.size + 1) 116 [.int .u64 ((0 : Nat) : Int)] ∧ w'.heap.size = w.heap.size + 2 ∧ Below w.heap.size w w' := by
 have hmf : ∀ (fn : Fn) (first cap : Array Value) (w : World), (Instr.makeFunc fn first cap).run Tryz.prog w = .ok (.func fn first cap) w := fun _ _ _ _ => rfl
 go_enter Tryz.func171, Tryz.ntmps171
 go_wp2
 go_ret
 exact ⟨rfl, (Blk.new_ rfl).heapAlloc _, blk_two rfl, by simp, (br9.alloc nl9 _).alloc (by simp) _⟩
theorem dropper_any (n : Nat) (w : World) : Calls Tryz.prog 169 #[.int .u64 (n : Int)] w fun e w' => e = .returned (.func (.func 196) #[] #[.pointer (some ⟨w.heap.size + 1, 0, none⟩), .pointer (some ⟨w.heap.size, 0, none⟩)]) ∧
  Blk w' w.heap.size 69 [.int .u64 (n : Int)] ∧ Blk w' (w.heap.size + 1) 116 [.int .u64 ((0 : Nat) : Int)] ∧ w'.heap.size = w.heap.size + 2 ∧ Below w.heap.size w w' := by
 have hmf : ∀ (fn : Fn) (first cap : Array Value) (w : World), (Instr.makeFunc fn first cap).run Tryz.prog w = .ok (.func fn first cap) w := fun _ _ _ _ => rfl
 go_enter Tryz.func169, Tryz.ntmps169
 go_wp2
 go_ret
 exact ⟨rfl, (Blk.new_ rfl).heapAlloc _, blk_two rfl, by simp, (br9.alloc nl9 _).alloc (by simp) _⟩
set_option maxHeartbeats 400000 in
theorem lifter1_any (x c n g h : Nat) (w : World) (hn : n < 32) (hx : x < 4294967296) (hc : c < 2 ^ n) (hg : Blk w g 116 [.int .u64 (c : Int)]) (hh : Blk w h 69 [.int .u64 (n : Int)]) (hne : h ≠ g) :
  Calls Tryz.prog 198 #[.int .u32 (x : Int), .pointer (some ⟨g, 0, none⟩), .pointer (some ⟨h, 0, none⟩)] w fun e w' => e = .returned (.int .u32 (((c + 2 ^ n * x) % 4294967296 : Nat) : Int)) ∧ Blk w' g 116 [.int .u64 (((c + 2 ^ n * x) / 4294967296 : Nat) : Int)] ∧ Ch g w w' := by
 obtain ⟨s, hs⟩ : ∃ s, s = c + 2 ^ n * x := ⟨_, rfl⟩
 obtain ⟨e1, hb⟩ := shift_or c x n hn hc hx
 rw [← hs] at e1 hb ⊢
 have c1 := hg.cell0
 have c2 := hh.cell0
 have f1 := hg.frozen 0
 have e2 : ¬ (h = g) := hne
 have Hs := hi9 hs
 clear hs
 go_enter Tryz.func198, Tryz.ntmps198
 go_wp2
 go_ret
 refine ⟨by simp, ?_, ((Ch.refl g w).setCell 0 _).setCell 0 _⟩
 have hb2 := (hg.set_ 0 (.int .u64 (s : Int))).set_ 0 (.int .u64 ((s / 4294967296 : Nat) : Int))
 simpa using hb2
set_option maxHeartbeats 400000 in
set_option maxRecDepth 100000 in
theorem dropper1_any (x c n g h : Nat) (w : World) (hn : n < 32) (hx : x < 4294967296) (_ : c < 18446744073709551616) (hg : Blk w g 116 [.int .u64 (c : Int)]) (hh : Blk w h 69 [.int .u64 (n : Int)]) (hne : h ≠ g) :
  Calls Tryz.prog 196 #[.int .u32 (x : Int), .pointer (some ⟨g, 0, none⟩), .pointer (some ⟨h, 0, none⟩)] w fun e w' => e = .returned (.int .u32 (((c % 4294967296 * 4294967296 + x) / 2 ^ n % 4294967296 : Nat) : Int)) ∧ Blk w' g 116 [.int .u64 ((c % 4294967296 * 4294967296 + x : Nat) : Int)] ∧ Ch g w w' := by
 obtain ⟨s, hs⟩ : ∃ s, s = c % 4294967296 * 4294967296 + x := ⟨_, rfl⟩
 have e1 : bits BinOp.or IntKind.u64 (IntKind.u64.wrap ((c : Int) * 4294967296)) (x : Int) = (s : Int) := by
  have e : IntKind.u64.wrap ((c : Int) * 4294967296) = ((c % 4294967296 * 4294967296 : Nat) : Int) := by
   rw [IntKind.wrap_u64]; omega
  rw [e, u64_or_nat _ x (by omega) (by omega)]
  have := or_shift x (c % 4294967296) 32 (by omega)
  rw [show (2 : Nat) ^ 32 = 4294967296 from rfl] at this
  rw [this, hs]; congr 1; omega
 have hb : s < 18446744073709551616 := by omega
 rw [← hs]
 have c1 := hg.cell0
 have c2 := hh.cell0
 have f1 := hg.frozen 0
 have e2 : ¬ (h = g) := hne
 have Hs := hi9 hs
 clear hs
 go_enter Tryz.func196, Tryz.ntmps196
 go_wp2
 go_ret
 refine ⟨by simp, ?_, (Ch.refl g w).setCell 0 _⟩
 have hb2 := hg.set_ 0 (.int .u64 (s : Int))
 simpa using hb2
end
section
open Go.RowKit
def Shifted (xs : List Nat) (d s k : Nat) (zs : List Nat) (c : Nat) : Prop :=
 Dig 4294967296 zs ∧ c < 2 ^ s ∧ val 4294967296 zs + 4294967296 ^ (d + k) * c = 4294967296 ^ d * (val 4294967296 (xs.take k) * 2 ^ s) ∧ ∀ j (h : j < zs.length), d + k ≤ j → zs[j] = 0
theorem Shifted.start (xs : List Nat) (d s n : Nat) : Shifted xs d s 0 (List.replicate n 0) 0 :=
 ⟨Dig.zeros_ (by omega) _, Nat.two_pow_pos _, by simp [val_zeros, val], fun j h _ => by simp⟩
theorem Shifted.step {xs zs : List Nat} {d s k c : Nat} (h : Shifted xs d s k zs c) (hk : k < xs.length) (hz : d + k < zs.length) (hx : xs[k] < 4294967296) :
  Shifted xs d s (k + 1) (zs.set (d + k) ((c + 2 ^ s * xs[k]) % 4294967296)) ((c + 2 ^ s * xs[k]) / 4294967296) := by
 obtain ⟨h1, h2, h3, h4⟩ := h
 refine ⟨h1.set_ _ _ (Nat.mod_lt _ (by omega)), ?_, ?_, fun i hi hki => ?_⟩
 ·rw [Nat.div_lt_iff_lt_mul (by omega)]
  have : 2 ^ s * (xs[k] + 1) ≤ 2 ^ s * 4294967296 := Nat.mul_le_mul_left _ hx
  rw [Nat.mul_add] at this
  omega
 ·have e1 := val_set 4294967296 zs (d + k) ((c + 2 ^ s * xs[k]) % 4294967296) hz
  rw [h4 (d + k) hz nl9] at e1
  rw [val_take_succ _ _ _ hk, show d + (k + 1) = d + k + 1 from by omega, Nat.pow_succ, Nat.mul_assoc]
  have e2 := Nat.mod_add_div (c + 2 ^ s * xs[k]) 4294967296
  generalize (c + 2 ^ s * xs[k]) % 4294967296 = a at *
  generalize (c + 2 ^ s * xs[k]) / 4294967296 = b at *
  have e3 : 4294967296 ^ (d + k) * a + 4294967296 ^ (d + k) * (4294967296 * b) = 4294967296 ^ (d + k) * c + 4294967296 ^ d * (4294967296 ^ k * xs[k] * 2 ^ s) := by
   rw [← Nat.mul_add, e2, Nat.mul_add, Nat.pow_add]
   congr 1
   rw [Nat.mul_assoc, Nat.mul_assoc, Nat.mul_comm (2 ^ s)]
  rw [Nat.add_mul, Nat.mul_add]
  omega
 ·rw [List.getElem_set, if_neg (by omega)]
  exact h4 i (by simpa using hi) (by omega)
theorem Shifted.last {xs zs : List Nat} {d s c : Nat} (h : Shifted xs d s xs.length zs c) (hs : s < 32) (hz : d + xs.length < zs.length) :
  Dig 4294967296 (zs.set (d + xs.length) (c % 4294967296)) ∧ val 4294967296 (zs.set (d + xs.length) (c % 4294967296)) = val 4294967296 xs * 2 ^ (32 * d + s) := by
 obtain ⟨h1, h2, h3, h4⟩ := h
 have h5 : 2 ^ s ≤ 2 ^ 31 := Nat.pow_le_pow_right (by omega) (by omega)
 have hc : c % 4294967296 = c := Nat.mod_eq_of_lt (by omega)
 rw [hc]
 refine ⟨h1.set_ _ _ (by omega), ?_⟩
 have e1 := val_set 4294967296 zs (d + xs.length) c hz
 rw [h4 _ hz nl9] at e1
 rw [List.take_length] at h3
 rw [Nat.pow_add, Nat.pow_mul, show (2 : Nat) ^ 32 = 4294967296 from rfl, Nat.mul_comm (4294967296 ^ d), ← Nat.mul_assoc, Nat.mul_comm _ (4294967296 ^ d)]
 omega
set_option maxHeartbeats 800000 in
theorem shiftUp_any (A : Option Addr) (c : Nat) (xs : List Nat) (n d s : Nat) (w : World) (B : Nat) (hr : Rd w B A (u32s xs)) (hB : B ≤ w.heap.size) (hd : Dig 4294967296 xs) (hn : n = 32 * d + s) (hs : s < 32) (hm : d + xs.length + 1 ≤ 70368744177664) :
  Calls Tryz.prog 153 #[.slice A xs.length c, .int .i64 (n : Int)] w fun e w' => ∃ zs A' c', e = .returned (.slice A' zs.length c') ∧ Num 4294967296 zs (val 4294967296 xs * 2 ^ n) ∧ Res w' w.heap.size 50 A' c' (u32s zs) ∧ Below w.heap.size w w' := by
 have hmk : ∀ W : World, (Instr.makeSlice 23 (.int .i64 ((d : Int) + (xs.length : Int) + 1)) (.int .i64 ((d : Int) + (xs.length : Int) + 1))).run Tryz.prog W = .ok (.slice (some ⟨W.heap.size, 0, none⟩) (d + xs.length + 1) (d + xs.length + 1)) (W.alloc (.cells (List.replicate (d + xs.length + 1) (Value.int .u32 0)).toArray 50)) := fun W => by
  have := mk32 (d + xs.length + 1) hm W
  rwa [show ((d + xs.length + 1 : Nat) : Int) = (d : Int) + (xs.length : Int) + 1 from by omega] at this
 have q1 : (n : Int) / 32 = (d : Int) := by omega
 have q2 : (n : Int) % 32 = (s : Int) := by omega
 have nb : n < 9223372036854775807 := by omega
 have Hn := hi9 hn
 clear hn
 go_enter Tryz.func153, Tryz.ntmps153
 go_wp2_with (go_at_call 171; (with_reducible refine (lifter_any _ _).mono ?_); rintro e w1 ⟨rfl, hbn, hbc, hsz, hbel⟩)
 rw [size_alloc] at hbn hbc hsz hbel
 have hblk0 : Blk w1 w.heap.size 50 (u32s (List.replicate (d + xs.length + 1) 0)) := by
  have h0 : Blk (w.alloc (.cells (Array.replicate (d + xs.length + 1) (Value.int .u32 0)) 50)) w.heap.size 50 (u32s (List.replicate (d + xs.length + 1) 0)) := Blk.new_ (by simp [u32s])
  exact h0.below hbel (by omega)
 have hbel1 : Below w.heap.size w w1 := (br9.alloc nl9 _).trans (hbel.mono (by omega))
 clear hbel hsz
 go_loopw [7, 8, 22] (fun _ _ i wr => ∃ (k cc : Nat) (zs : List Nat), k ≤ xs.length ∧ i = .int .i64 k ∧ zs.length = d + xs.length + 1 ∧ Blk wr w.heap.size 50 (u32s zs) ∧ Blk wr (w.heap.size + 1) 69 [.int .u64 (s : Int)] ∧ Blk wr (w.heap.size + 1 + 1) 116 [.int .u64 (cc : Int)] ∧ Shifted xs d s k zs cc ∧ Below w.heap.size w wr) (fun _ _ i _ => xs.length - (intOf i).toNat)
 case atStart => exact ⟨0, 0, _, by omega, rfl, by simp, hblk0, hbn, hbc, Shifted.start xs d s _, hbel1⟩
 case round =>
  clear hblk0 hbn hbc hbel1
  obtain ⟨k, cc, zs, hk, rfl, hzl, hblk, hbn, hbc, hsh, hbel⟩ := hrel
  by_cases hlt : k < xs.length
  ·obtain ⟨b, off, rfl, hb, hcell⟩ := hr (by intro e; have := u32s_length xs; rw [e] at this; simp at this; omega)
   have hx := (hbel.cell (p := ⟨b, off + k, none⟩) (show b < _ by omega)).trans (hcell k _ (u32s_at hlt))
   have hxd := hd.at_ k hlt
   have hcc := hsh.2.1
   have hz1 : d + k < zs.length := by omega
   have Hzl := hi9 hzl
   clear hcell hzl
   go_wp2_with (go_at_call 198; (with_reducible refine (lifter1_any _ cc s _ _ _ hs hxd hcc hbc hbn (by omega)).mono ?_); rintro e w2 ⟨rfl, hg2, hch⟩; have hq2 := hblk.ch hch (by omega); have hc2 := (hq2.cell (d + k)).trans (u32s_at hz1); have hf2 := hq2.frozen (d + k))
   go_roundw
   case rel =>
    refine ⟨k + 1, _, _, by omega, by go_num, ?_, ?_, (hbn.ch hch (by omega)).far (p := ⟨w.heap.size, d + k, none⟩) (by simp) _, hg2.far (p := ⟨w.heap.size, d + k, none⟩) (by simp; omega) _, hsh.step hlt hz1 hxd, (hbel.trans (hch.below (by omega))).setCell (p := ⟨w.heap.size, d + k, none⟩) nl9 _⟩
    ·simpa using Hzl.out
    ·have hb2 := hq2.set_ (d + k) (Value.int IntKind.u32 (((cc + 2 ^ s * xs[k]) % 4294967296 : Nat) : Int))
     rw [u32s_set] at hb2
     exact hb2
   case measure => simp [intOf]; omega
  ·obtain rfl : k = xs.length := by omega
   have hz1 : d + xs.length < zs.length := by omega
   have hcc := hsh.2.1
   have Hzl := hi9 hzl
   clear hzl
   go_wp2_with fail
   have hl1 := lifter1_any 0 cc s (w.heap.size + 1 + 1) (w.heap.size + 1) wr hs (by omega) hcc hbc hbn (by omega)
   rw [show cc + 2 ^ s * 0 = cc from by omega] at hl1
   refine hl1.mono ?_
   rintro e w2 ⟨rfl, hg2, hch⟩
   have hq2 := hblk.ch hch (by omega)
   have hc2 := (hq2.cell (d + xs.length)).trans (u32s_at hz1)
   have hf2 := hq2.frozen (d + xs.length)
   have hb2 : Blk (w2.setCell ⟨w.heap.size, d + xs.length, none⟩ (.int .u32 ((cc % 4294967296 : Nat) : Int))) w.heap.size 50 (u32s (zs.set (d + xs.length) (cc % 4294967296))) := by
    have := hq2.set_ (d + xs.length) (Value.int IntKind.u32 ((cc % 4294967296 : Nat) : Int))
    rwa [u32s_set] at this
   obtain ⟨ld, lv⟩ := hsh.last hs hz1
   obtain ⟨zs2, hzs2⟩ : ∃ zs2, zs2 = zs.set (d + xs.length) (cc % 4294967296) := ⟨_, rfl⟩
   rw [← hzs2] at hb2 ld lv
   have hl2 : Hid (zs2.length = d + xs.length + 1) := by rw [hzs2, List.length_set]; exact Hzl.out
   have hm2 : zs2.length ≤ 281474976710656 := by have := hl2.out; omega
   have Hlv := hi9 lv
   have hbel3 := (hbel.trans (hch.below (B := w.heap.size) (by omega))).setCell (p := ⟨w.heap.size, d + xs.length, none⟩) nl9 (.int .u32 ((cc % 4294967296 : Nat) : Int))
   clear hzs2 lv hl1
   have hrd := (Res.of_blk0 hb2 nl9 (by rw [u32s_length]; omega)).rd
   go_wp2_with (go_at_call 128; rw [← hl2.out]; refine (trim_any _ _ zs2 _ _ hrd nl9 hm2).mono ?_; rintro e w3 ⟨rfl, rfl⟩)
   go_ret
   refine ⟨trimL zs2, _, _, rfl, ?_, ?_, hbel3⟩
   ·have hz := Num.of_trim ld
    rw [Hlv.out, ← Hn.out] at hz
    exact hz
   ·have h3 := (Res.of_blk0 hb2 nl9 (by rw [u32s_length]; omega)).take (trimL zs2).length
    rw [← u32s_trim, u32s_length] at h3
    exact h3
end
section
open Go.RowKit
def Dropped (ps : List Nat) (d s k : Nat) (zs : List Nat) (c : Nat) : Prop :=
 Dig 4294967296 zs ∧ zs.length = ps.length - d ∧ c < 18446744073709551616 ∧ c % 4294967296 = val 4294967296 (ps.drop (d + k)) % 4294967296 ∧ val 4294967296 (zs.drop k) = val 4294967296 (ps.drop (d + k)) / 2 ^ s
theorem Dropped.start (ps : List Nat) (d s : Nat) (h : d ≤ ps.length) : Dropped ps d s (ps.length - d) (List.replicate (ps.length - d) 0) 0 :=
 ⟨Dig.zeros_ (by omega) _, by simp, by omega, by rw [show d + (ps.length - d) = ps.length from by omega]; simp [val], by rw [show d + (ps.length - d) = ps.length from by omega]; simp [val]⟩
theorem Dropped.step {ps zs : List Nat} {d s k c : Nat} (h : Dropped ps d s (k + 1) zs c) (hk : d + k < ps.length) (hx : ps[d + k] < 4294967296) (hs : s < 32) :
  Dropped ps d s k (zs.set k ((c % 4294967296 * 4294967296 + ps[d + k]) / 2 ^ s % 4294967296)) (c % 4294967296 * 4294967296 + ps[d + k]) := by
 obtain ⟨h1, h2, h3, h4, h5⟩ := h
 have e1 : ps.drop (d + k) = ps[d + k] :: ps.drop (d + (k + 1)) := List.drop_eq_getElem_cons hk
 have hkz : k < zs.length := by omega
 refine ⟨h1.set_ _ _ (Nat.mod_lt _ (by omega)), by simpa using h2, by omega, ?_, ?_⟩
 ·rw [e1]
  simp only [val]
  rw [Nat.add_mul_mod_self_left]; omega
 ·have e2 : (zs.set k ((c % 4294967296 * 4294967296 + ps[d + k]) / 2 ^ s % 4294967296)).drop k = ((c % 4294967296 * 4294967296 + ps[d + k]) / 2 ^ s % 4294967296) :: zs.drop (k + 1) := by
   rw [List.drop_eq_getElem_cons (by simpa using hkz)]
   simp [List.drop_set]
  rw [e1, e2]
  simp only [val]
  rw [h5, h4, drop_limb _ _ _ hx hs]
set_option maxHeartbeats 800000 in
theorem right_walk (A : Option Addr) (c : Nat) (xs ps : List Nat) (n d s : Nat) (w : World) (B : Nat) (hr : Rd w B A (u32s xs)) (hB : B ≤ w.heap.size) (hc : xs.length ≤ c) (hps : ps = trimL xs) (hd : Dig 4294967296 ps) (hn : n = 32 * d + s) (hs : s < 32) (hdl : d < ps.length) (hm : xs.length ≤ 70368744177664) :
  Calls Tryz.prog 151 #[.slice A xs.length c, .int .i64 (n : Int)] w fun e w' => ∃ zs A' c', e = .returned (.tuple #[.slice A' zs.length c', .int .i64 0]) ∧ Num 4294967296 zs (val 4294967296 ps / 2 ^ n) ∧ Res w' w.heap.size 50 A' c' (u32s zs) ∧ Below w.heap.size w w' := by
 have hl := trimL_length_le xs
 rw [← hps] at hl
 have hrt : Rd w B A (u32s ps) := by rw [hps, u32s_trim]; exact hr.take _
 obtain ⟨m, hme⟩ : ∃ m, m = ps.length - d := ⟨_, rfl⟩
 have hmp : (ps.length : Int) - (d : Int) = (m : Int) := by omega
 have hmk := fun W => mk32 m (by omega) W
 have hml : Hid (m = ps.length - d) := hme
 have q1 : (n : Int) / 32 = (d : Int) := by omega
 have q2 : (n : Int) % 32 = (s : Int) := by omega
 have nb : n < 9223372036854775807 := by omega
 have t0 : decide (ps.length ≤ d) = false := by simp; omega
 have hmb : m ≤ 70368744177664 := by omega
 have hm0 : 0 < m := by omega
 have hmm : xs.length ≤ 281474976710656 := by omega
 have Hn := hi9 hn
 have Hps := hi9 hps
 clear hn hps hme
 go_enter Tryz.func151, Tryz.ntmps151
 go_wp2_with (first
  | (go_at_call 128; (with_reducible refine (trim_any A c xs _ B hr hc hmm).mono ?_); rintro e w' ⟨rfl, rfl⟩; rw [← Hps.out])
  | (go_at_call 169; (with_reducible refine (dropper_any _ _).mono ?_); rintro e w1 ⟨rfl, hbn, hbc, hsz, hbel⟩))
 rw [size_alloc] at hbn hbc hsz hbel
 have hblk0 : Blk w1 w.heap.size 50 (u32s (List.replicate m 0)) := by
  have h0 : Blk (w.alloc (.cells (Array.replicate m (Value.int .u32 0)) 50)) w.heap.size 50 (u32s (List.replicate m 0)) := Blk.new_ (by simp [u32s])
  exact h0.below hbel (by omega)
 have hbel1 : Below w.heap.size w w1 := (br9.alloc nl9 _).trans (hbel.mono (by omega))
 clear hbel hsz
 go_loopw [8] (fun i wr => ∃ (k cc : Nat) (zs : List Nat), k ≤ m ∧ i = .int .i64 ((k : Int) - 1) ∧ Blk wr w.heap.size 50 (u32s zs) ∧ Blk wr (w.heap.size + 1) 69 [.int .u64 (s : Int)] ∧ Blk wr (w.heap.size + 1 + 1) 116 [.int .u64 (cc : Int)] ∧ Dropped ps d s k zs cc ∧ Below w.heap.size w wr) (fun i _ => (intOf i + 1).toNat)
 case atStart => exact ⟨m, 0, _, Nat.le_refl _, rfl, hblk0, hbn, hbc, by rw [hml.out]; exact Dropped.start ps d s (by omega), hbel1⟩
 case round =>
  clear hblk0 hbn hbc hbel1
  obtain ⟨k, cc, zs, hk, rfl, hblk, hbn, hbc, hsh, hbel⟩ := hrel
  have hzm : zs.length = m := by rw [hsh.2.1]; exact hml.out.symm
  rcases k with _ | k
  ·have hrd := (Res.of_blk0 hblk nl9 (by rw [u32s_length]; omega)).rd
   have Hzm := hi9 hzm
   clear hzm
   have hzb : zs.length ≤ 281474976710656 := by have := Hzm.out; omega
   go_wp2_with (go_at_call 128; rw [← Hzm.out]; refine (trim_any _ _ zs _ _ hrd nl9 hzb).mono ?_; rintro e w3 ⟨rfl, rfl⟩)
   go_ret2
   refine ⟨trimL zs, _, _, rfl, ?_, ?_, hbel⟩
   ·have hz := Num.of_trim hsh.1
    have h5 := hsh.2.2.2.2
    rw [List.drop_zero, Nat.add_zero, val_drop (by omega) ps d hd, show (4294967296 : Nat) ^ d = 2 ^ (32 * d) from by rw [Nat.pow_mul], Nat.div_div_eq_div_mul, ← Nat.pow_add, ← Hn.out] at h5
    rw [h5] at hz
    exact hz
   ·have h3 := (Res.of_blk0 hblk nl9 (by rw [u32s_length]; omega)).take (trimL zs).length
    rw [← u32s_trim, u32s_length] at h3
    exact h3
  ·rw [show ((k + 1 : Nat) : Int) - 1 = (k : Int) from by omega]
   have hdk : d + k < ps.length := by have := hml.out; omega
   obtain ⟨b, off, rfl, hb, hcell⟩ := hrt (by intro e; have := u32s_length ps; rw [e] at this; simp at this; omega)
   have hx := (hbel.cell (p := ⟨b, off + (d + k), none⟩) (show b < _ by omega)).trans (hcell (d + k) _ (u32s_at hdk))
   have hxd := hd.at_ (d + k) hdk
   have hcc := hsh.2.2.1
   have hz1 : k < zs.length := by omega
   have Hzm := hi9 hzm
   clear hcell hzm
   have Hcc := hi9 hcc
   clear hcc
   go_wp2_with (go_at_call 196; (with_reducible refine (dropper1_any _ cc s _ _ _ hs hxd Hcc.out hbc hbn (by omega)).mono ?_); rintro e w2 ⟨rfl, hg2, hch⟩; have hq2 := hblk.ch hch (by omega); have hc2 := (hq2.cell k).trans (u32s_at hz1); have hf2 := hq2.frozen k)
   go_roundw
   case rel =>
    refine ⟨k, _, _, by omega, by go_num, ?_, (hbn.ch hch (by omega)).far (p := ⟨w.heap.size, k, none⟩) (by simp) _, hg2.far (p := ⟨w.heap.size, k, none⟩) (by simp; omega) _, hsh.step hdk hxd hs, (hbel.trans (hch.below (by omega))).setCell (p := ⟨w.heap.size, k, none⟩) nl9 _⟩
    have hb2 := hq2.set_ k (Value.int IntKind.u32 (((cc % 4294967296 * 4294967296 + ps[d + k]) / 2 ^ s % 4294967296 : Nat) : Int))
    rw [u32s_set] at hb2
    exact hb2
   case measure => simp [intOf]
end
end Go.Proofs.YtbcphifjcaobfaaGreatDoor
