/- The contract of shiftUp. The walk of Right where something is left. The numbers behind division by halves. No conditions of its own. Plain algebra: a transform by halves and back over any commutative ring. No conditions. -/
import Derived.Test.YtogkfpbapjjgfaaDoorPkDv4
import Derived.Test.YtogkfpbapjjgfaaDoorPkDv7
namespace Go.Proofs.YtogkfpbapjjgfaaDoor
section
open Go.RowKit

theorem size_alloc (w : World) (o : Obj) : (w.alloc o).heap.size = w.heap.size + 1 := by simp

/-- What shiftUp's row and carry are behind k limbs. -/
def Shifted (xs : List Nat) (d s k : Nat) (zs : List Nat) (c : Nat) : Prop :=
  Dig 4294967296 zs ∧ c < 2 ^ s ∧ val 4294967296 zs + 4294967296 ^ (d + k) * c = 4294967296 ^ d * (val 4294967296 (xs.take k) * 2 ^ s) ∧ ∀ j (h : j < zs.length), d + k ≤ j → zs[j] = 0
theorem Shifted.start (xs : List Nat) (d s n : Nat) : Shifted xs d s 0 (List.replicate n 0) 0 :=
  ⟨Dig.zeros_ (by omega) _, Nat.two_pow_pos _, by simp [val_zeros, val], fun j h _ => by simp⟩
theorem Shifted.step {xs zs : List Nat} {d s k c : Nat} (h : Shifted xs d s k zs c) (hk : k < xs.length) (hz : d + k < zs.length) (hx : xs[k] < 4294967296) :
    Shifted xs d s (k + 1) (zs.set (d + k) ((c + 2 ^ s * xs[k]) % 4294967296)) ((c + 2 ^ s * xs[k]) / 4294967296) := by
  obtain ⟨h1, h2, h3, h4⟩ := h
  refine ⟨h1.set_ _ _ (Nat.mod_lt _ (by omega)), ?_, ?_, fun i hi hki => ?_⟩
  · rw [Nat.div_lt_iff_lt_mul (by omega)]
    have : 2 ^ s * (xs[k] + 1) ≤ 2 ^ s * 4294967296 := Nat.mul_le_mul_left _ hx
    rw [Nat.mul_add] at this
    omega
  · have e1 := val_set 4294967296 zs (d + k) ((c + 2 ^ s * xs[k]) % 4294967296) hz
    rw [h4 (d + k) hz (Nat.le_refl _)] at e1
    rw [val_take_succ _ _ _ hk, show d + (k + 1) = d + k + 1 from by omega, Nat.pow_succ, Nat.mul_assoc]
    have e2 := Nat.mod_add_div (c + 2 ^ s * xs[k]) 4294967296
    generalize (c + 2 ^ s * xs[k]) % 4294967296 = a at *
    generalize (c + 2 ^ s * xs[k]) / 4294967296 = b at *
    have e3 : 4294967296 ^ (d + k) * a + 4294967296 ^ (d + k) * (4294967296 * b) = 4294967296 ^ (d + k) * c + 4294967296 ^ d * (4294967296 ^ k * xs[k] * 2 ^ s) := by
      rw [← Nat.mul_add, e2, Nat.mul_add, Nat.pow_add]
      congr 1
      rw [Nat.mul_assoc, Nat.mul_assoc, Nat.mul_comm (2 ^ s)]
    rw [Nat.add_mul, Nat.mul_add]
    omega
  · rw [List.getElem_set, if_neg (by omega)]
    exact h4 i (by simpa using hi) (by omega)
theorem Shifted.last {xs zs : List Nat} {d s c : Nat} (h : Shifted xs d s xs.length zs c) (hs : s < 32) (hz : d + xs.length < zs.length) :
    Dig 4294967296 (zs.set (d + xs.length) (c % 4294967296)) ∧ val 4294967296 (zs.set (d + xs.length) (c % 4294967296)) = val 4294967296 xs * 2 ^ (32 * d + s) := by
  obtain ⟨h1, h2, h3, h4⟩ := h
  have h5 : 2 ^ s ≤ 2 ^ 31 := Nat.pow_le_pow_right (by omega) (by omega)
  have hc : c % 4294967296 = c := Nat.mod_eq_of_lt (by omega)
  rw [hc]
  refine ⟨h1.set_ _ _ (by omega), ?_⟩
  have e1 := val_set 4294967296 zs (d + xs.length) c hz
  rw [h4 _ hz (Nat.le_refl _)] at e1
  rw [List.take_length] at h3
  rw [Nat.pow_add, Nat.pow_mul, show (2 : Nat) ^ 32 = 4294967296 from rfl, Nat.mul_comm (4294967296 ^ d), ← Nat.mul_assoc, Nat.mul_comm _ (4294967296 ^ d)]
  omega

set_option maxHeartbeats 800000 in
theorem shiftUp_any (A : Option Addr) (c : Nat) (xs : List Nat) (n d s : Nat) (w : World) (B : Nat) (hr : Rd w B A (u32s xs)) (hB : B ≤ w.heap.size) (hd : Dig 4294967296 xs) (hn : n = 32 * d + s) (hs : s < 32) (hm : d + xs.length + 1 ≤ 70368744177664) :
    Calls Tryd.prog 56 #[.slice A xs.length c, .int .i64 (n : Int)] w fun e w' => ∃ zs A' c', e = .returned (.slice A' zs.length c') ∧ Num 4294967296 zs (val 4294967296 xs * 2 ^ n) ∧ Res w' w.heap.size 31 A' c' (u32s zs) ∧ Below w.heap.size w w' := by
  have hmk : ∀ W : World, (Instr.makeSlice 23 (.int .i64 ((d : Int) + (xs.length : Int) + 1)) (.int .i64 ((d : Int) + (xs.length : Int) + 1))).run Tryd.prog W = .ok (.slice (some ⟨W.heap.size, 0, none⟩) (d + xs.length + 1) (d + xs.length + 1)) (W.alloc (.cells (List.replicate (d + xs.length + 1) (Value.int .u32 0)).toArray 31)) := fun W => by
    have := mk32 (d + xs.length + 1) hm W
    rwa [show ((d + xs.length + 1 : Nat) : Int) = (d : Int) + (xs.length : Int) + 1 from by omega] at this
  have q1 : (n : Int) / 32 = (d : Int) := by omega
  have q2 : (n : Int) % 32 = (s : Int) := by omega
  have nb : n < 9223372036854775807 := by omega
  have Hn := Lib.hid hn
  clear hn
  go_enter Tryd.func56, Tryd.ntmps56
  go_wp2_with (go_at_call 78; (with_reducible refine (lifter_any _ _).mono ?_); rintro e w1 ⟨rfl, hbn, hbc, hsz, hbel⟩)
  rw [size_alloc] at hbn hbc hsz hbel
  have hblk0 : Blk w1 w.heap.size 31 (u32s (List.replicate (d + xs.length + 1) 0)) := by
    have h0 : Blk (w.alloc (.cells (Array.replicate (d + xs.length + 1) (Value.int .u32 0)) 31)) w.heap.size 31 (u32s (List.replicate (d + xs.length + 1) 0)) := Blk.new_ (by simp [u32s])
    exact h0.below hbel (by omega)
  have hbel1 : Below w.heap.size w w1 := ((Below.refl _ _).alloc (Nat.le_refl _) _).trans (hbel.mono (by omega))
  clear hbel hsz
  go_loopw [7, 8, 22] (fun _ _ i wr => ∃ (k cc : Nat) (zs : List Nat), k ≤ xs.length ∧ i = .int .i64 k ∧ zs.length = d + xs.length + 1 ∧ Blk wr w.heap.size 31 (u32s zs) ∧ Blk wr (w.heap.size + 1) 30 [.int .u64 (s : Int)] ∧ Blk wr (w.heap.size + 1 + 1) 24 [.int .u64 (cc : Int)] ∧ Shifted xs d s k zs cc ∧ Below w.heap.size w wr) (fun _ _ i _ => xs.length - (intOf i).toNat)
  case atStart => exact ⟨0, 0, _, by omega, rfl, by simp, hblk0, hbn, hbc, Shifted.start xs d s _, hbel1⟩
  case round =>
    clear hblk0 hbn hbc hbel1
    obtain ⟨k, cc, zs, hk, rfl, hzl, hblk, hbn, hbc, hsh, hbel⟩ := hrel
    by_cases hlt : k < xs.length
    · obtain ⟨b, off, rfl, hb, hcell⟩ := hr (by intro e; have := u32s_length xs; rw [e] at this; simp at this; omega)
      have hx := (hbel.cell (p := ⟨b, off + k, none⟩) (show b < _ by omega)).trans (hcell k _ (u32s_at hlt))
      have hxd := hd.at_ k hlt
      have hcc := hsh.2.1
      have hz1 : d + k < zs.length := by omega
      have Hzl := Lib.hid hzl
      clear hcell hzl
      go_wp2_with (go_at_call 98; (with_reducible refine (lifter1_any _ cc s _ _ _ hs hxd hcc hbc hbn (by omega)).mono ?_); rintro e w2 ⟨rfl, hg2, hch⟩; have hq2 := hblk.ch hch (by omega); have hc2 := (hq2.cell (d + k)).trans (u32s_at hz1); have hf2 := hq2.frozen (d + k))
      go_roundw
      case rel =>
        refine ⟨k + 1, _, _, by omega, by go_num, ?_, ?_, (hbn.ch hch (by omega)).far (p := ⟨w.heap.size, d + k, none⟩) (by simp) _, hg2.far (p := ⟨w.heap.size, d + k, none⟩) (by simp; omega) _, hsh.step hlt hz1 hxd, (hbel.trans (hch.below (by omega))).setCell (p := ⟨w.heap.size, d + k, none⟩) (Nat.le_refl _) _⟩
        · simpa using Hzl.out
        · have hb2 := hq2.set_ (d + k) (Value.int IntKind.u32 (((cc + 2 ^ s * xs[k]) % 4294967296 : Nat) : Int))
          rw [u32s_set] at hb2
          exact hb2
      case measure => simp [intOf]; omega
    · obtain rfl : k = xs.length := by omega
      have hz1 : d + xs.length < zs.length := by omega
      have hcc := hsh.2.1
      have Hzl := Lib.hid hzl
      clear hzl
      go_wp2_with fail
      have hl1 := lifter1_any 0 cc s (w.heap.size + 1 + 1) (w.heap.size + 1) wr hs (by omega) hcc hbc hbn (by omega)
      rw [show cc + 2 ^ s * 0 = cc from by omega] at hl1
      refine hl1.mono ?_
      rintro e w2 ⟨rfl, hg2, hch⟩
      have hq2 := hblk.ch hch (by omega)
      have hc2 := (hq2.cell (d + xs.length)).trans (u32s_at hz1)
      have hf2 := hq2.frozen (d + xs.length)
      have hb2 : Blk (w2.setCell ⟨w.heap.size, d + xs.length, none⟩ (.int .u32 ((cc % 4294967296 : Nat) : Int))) w.heap.size 31 (u32s (zs.set (d + xs.length) (cc % 4294967296))) := by
        have := hq2.set_ (d + xs.length) (Value.int IntKind.u32 ((cc % 4294967296 : Nat) : Int))
        rwa [u32s_set] at this
      obtain ⟨ld, lv⟩ := hsh.last hs hz1
      obtain ⟨zs2, hzs2⟩ : ∃ zs2, zs2 = zs.set (d + xs.length) (cc % 4294967296) := ⟨_, rfl⟩
      rw [← hzs2] at hb2 ld lv
      have hl2 : Hid (zs2.length = d + xs.length + 1) := by rw [hzs2, List.length_set]; exact Hzl.out
      have hm2 : zs2.length ≤ 281474976710656 := by have := hl2.out; omega
      have Hlv := Lib.hid lv
      have hbel3 := (hbel.trans (hch.below (B := w.heap.size) (by omega))).setCell (p := ⟨w.heap.size, d + xs.length, none⟩) (Nat.le_refl _) (.int .u32 ((cc % 4294967296 : Nat) : Int))
      clear hzs2 lv hl1
      have hrd := (Res.of_blk0 hb2 (Nat.le_refl _) (by rw [u32s_length]; omega)).rd
      go_wp2_with (go_at_call 37; rw [← hl2.out]; refine (trim_any _ _ zs2 _ _ hrd (Nat.le_refl _) hm2).mono ?_; rintro e w3 ⟨rfl, rfl⟩)
      go_ret
      refine ⟨trimL zs2, _, _, rfl, ?_, ?_, hbel3⟩
      · have hz := Num.of_trim ld
        rw [Hlv.out, ← Hn.out] at hz
        exact hz
      · have h3 := (Res.of_blk0 hb2 (Nat.le_refl _) (by rw [u32s_length]; omega)).take (trimL zs2).length
        rw [← u32s_trim, u32s_length] at h3
        exact h3
end
section
open Go.RowKit

theorem val_drop {b : Nat} (hb : 0 < b) (xs : List Nat) (d : Nat) (hd : Dig b xs) : val b (xs.drop d) = val b xs / b ^ d := by
  induction d generalizing xs with
  | zero => simp
  | succ d ih =>
    cases xs with
    | nil => simp [val]
    | cons x xs =>
      rw [List.drop_succ_cons, ih xs hd.tail_]
      simp only [val]
      rw [Nat.pow_succ, Nat.mul_comm (b ^ d) b, ← Nat.div_div_eq_div_mul, Nat.add_mul_div_left _ _ hb, Nat.div_eq_of_lt hd.head_, Nat.zero_add]

/-- One limb of a number over 2^s. -/
theorem drop_limb (x V s : Nat) (hx : x < 4294967296) (hs : s < 32) : (x + 4294967296 * V) / 2 ^ s = (V % 4294967296 * 4294967296 + x) / 2 ^ s % 4294967296 + 4294967296 * (V / 2 ^ s) := by
  have hp : 0 < 2 ^ s := Nat.two_pow_pos s
  have e32 : (4294967296 : Nat) = 2 ^ s * 2 ^ (32 - s) := by rw [← Nat.pow_add, show s + (32 - s) = 32 from by omega]
  have h1 : (x + 4294967296 * V) / 2 ^ s / 4294967296 = V / 2 ^ s := by
    rw [Nat.div_div_eq_div_mul, Nat.mul_comm (2 ^ s), ← Nat.div_div_eq_div_mul, Nat.add_mul_div_left _ _ (by omega), Nat.div_eq_of_lt hx, Nat.zero_add]
  have h2 : (x + 4294967296 * V) / 2 ^ s % 4294967296 = (V % 4294967296 * 4294967296 + x) / 2 ^ s % 4294967296 := by
    have hV := Nat.mod_add_div V 4294967296
    have e : x + 4294967296 * V = (V % 4294967296 * 4294967296 + x) + 2 ^ s * (4294967296 * (2 ^ (32 - s) * (V / 4294967296))) := by
      have : 2 ^ s * (4294967296 * (2 ^ (32 - s) * (V / 4294967296))) = 4294967296 * (4294967296 * (V / 4294967296)) := by
        rw [← Nat.mul_assoc, Nat.mul_comm (2 ^ s), Nat.mul_assoc, ← Nat.mul_assoc (2 ^ s), ← e32]
      rw [this]
      generalize V / 4294967296 = q at *
      generalize V % 4294967296 = r at *
      omega
    rw [e, Nat.add_mul_div_left _ _ hp, Nat.add_mul_mod_self_left]
  have := Nat.mod_add_div ((x + 4294967296 * V) / 2 ^ s) 4294967296
  rw [h1, h2] at this
  exact this.symm

/-- What Right's row and carry are when the limbs from k on are told. -/
def Dropped (ps : List Nat) (d s k : Nat) (zs : List Nat) (c : Nat) : Prop :=
  Dig 4294967296 zs ∧ zs.length = ps.length - d ∧ c < 18446744073709551616 ∧ c % 4294967296 = val 4294967296 (ps.drop (d + k)) % 4294967296 ∧ val 4294967296 (zs.drop k) = val 4294967296 (ps.drop (d + k)) / 2 ^ s
theorem Dropped.start (ps : List Nat) (d s : Nat) (h : d ≤ ps.length) : Dropped ps d s (ps.length - d) (List.replicate (ps.length - d) 0) 0 :=
  ⟨Dig.zeros_ (by omega) _, by simp, by omega, by rw [show d + (ps.length - d) = ps.length from by omega]; simp [val], by rw [show d + (ps.length - d) = ps.length from by omega]; simp [val]⟩
theorem Dropped.step {ps zs : List Nat} {d s k c : Nat} (h : Dropped ps d s (k + 1) zs c) (hk : d + k < ps.length) (hx : ps[d + k] < 4294967296) (hs : s < 32) :
    Dropped ps d s k (zs.set k ((c % 4294967296 * 4294967296 + ps[d + k]) / 2 ^ s % 4294967296)) (c % 4294967296 * 4294967296 + ps[d + k]) := by
  obtain ⟨h1, h2, h3, h4, h5⟩ := h
  have e1 : ps.drop (d + k) = ps[d + k] :: ps.drop (d + (k + 1)) := List.drop_eq_getElem_cons hk
  have hkz : k < zs.length := by omega
  refine ⟨h1.set_ _ _ (Nat.mod_lt _ (by omega)), by simpa using h2, by omega, ?_, ?_⟩
  · rw [e1]
    simp only [val]
    rw [Nat.add_mul_mod_self_left]; omega
  · have e2 : (zs.set k ((c % 4294967296 * 4294967296 + ps[d + k]) / 2 ^ s % 4294967296)).drop k = ((c % 4294967296 * 4294967296 + ps[d + k]) / 2 ^ s % 4294967296) :: zs.drop (k + 1) := by
      rw [List.drop_eq_getElem_cons (by simpa using hkz)]
      simp [List.drop_set]
    rw [e1, e2]
    simp only [val]
    rw [h5, h4, drop_limb _ _ _ hx hs]

set_option maxHeartbeats 800000 in
theorem right_walk (A : Option Addr) (c : Nat) (xs ps : List Nat) (n d s : Nat) (w : World) (B : Nat) (hr : Rd w B A (u32s xs)) (hB : B ≤ w.heap.size) (hc : xs.length ≤ c) (hps : ps = trimL xs) (hd : Dig 4294967296 ps) (hn : n = 32 * d + s) (hs : s < 32) (hdl : d < ps.length) (hm : xs.length ≤ 70368744177664) :
    Calls Tryd.prog 55 #[.slice A xs.length c, .int .i64 (n : Int)] w fun e w' => ∃ zs A' c', e = .returned (.tuple #[.slice A' zs.length c', .int .i64 0]) ∧ Num 4294967296 zs (val 4294967296 ps / 2 ^ n) ∧ Res w' w.heap.size 31 A' c' (u32s zs) ∧ Below w.heap.size w w' := by
  have hl := trimL_length_le xs
  rw [← hps] at hl
  have hrt : Rd w B A (u32s ps) := by rw [hps, u32s_trim]; exact hr.take _
  obtain ⟨m, hme⟩ : ∃ m, m = ps.length - d := ⟨_, rfl⟩
  have hmp : (ps.length : Int) - (d : Int) = (m : Int) := by omega
  have hmk := fun W => mk32 m (by omega) W
  have hml : Hid (m = ps.length - d) := hme
  have q1 : (n : Int) / 32 = (d : Int) := by omega
  have q2 : (n : Int) % 32 = (s : Int) := by omega
  have nb : n < 9223372036854775807 := by omega
  have t0 : decide (ps.length ≤ d) = false := by simp; omega
  have hmb : m ≤ 70368744177664 := by omega
  have hm0 : 0 < m := by omega
  have hmm : xs.length ≤ 281474976710656 := by omega
  have Hn := Lib.hid hn
  have Hps := Lib.hid hps
  clear hn hps hme
  go_enter Tryd.func55, Tryd.ntmps55
  go_wp2_with (first
    | (go_at_call 37; (with_reducible refine (trim_any A c xs _ B hr hc hmm).mono ?_); rintro e w' ⟨rfl, rfl⟩; rw [← Hps.out])
    | (go_at_call 77; (with_reducible refine (dropper_any _ _).mono ?_); rintro e w1 ⟨rfl, hbn, hbc, hsz, hbel⟩))
  rw [size_alloc] at hbn hbc hsz hbel
  have hblk0 : Blk w1 w.heap.size 31 (u32s (List.replicate m 0)) := by
    have h0 : Blk (w.alloc (.cells (Array.replicate m (Value.int .u32 0)) 31)) w.heap.size 31 (u32s (List.replicate m 0)) := Blk.new_ (by simp [u32s])
    exact h0.below hbel (by omega)
  have hbel1 : Below w.heap.size w w1 := ((Below.refl _ _).alloc (Nat.le_refl _) _).trans (hbel.mono (by omega))
  clear hbel hsz
  go_loopw [8] (fun i wr => ∃ (k cc : Nat) (zs : List Nat), k ≤ m ∧ i = .int .i64 ((k : Int) - 1) ∧ Blk wr w.heap.size 31 (u32s zs) ∧ Blk wr (w.heap.size + 1) 30 [.int .u64 (s : Int)] ∧ Blk wr (w.heap.size + 1 + 1) 24 [.int .u64 (cc : Int)] ∧ Dropped ps d s k zs cc ∧ Below w.heap.size w wr) (fun i _ => (intOf i + 1).toNat)
  case atStart => exact ⟨m, 0, _, Nat.le_refl _, rfl, hblk0, hbn, hbc, by rw [hml.out]; exact Dropped.start ps d s (by omega), hbel1⟩
  case round =>
    clear hblk0 hbn hbc hbel1
    obtain ⟨k, cc, zs, hk, rfl, hblk, hbn, hbc, hsh, hbel⟩ := hrel
    have hzm : zs.length = m := by rw [hsh.2.1]; exact hml.out.symm
    rcases k with _ | k
    · have hrd := (Res.of_blk0 hblk (Nat.le_refl _) (by rw [u32s_length]; omega)).rd
      have Hzm := Lib.hid hzm
      clear hzm
      have hzb : zs.length ≤ 281474976710656 := by have := Hzm.out; omega
      go_wp2_with (go_at_call 37; rw [← Hzm.out]; refine (trim_any _ _ zs _ _ hrd (Nat.le_refl _) hzb).mono ?_; rintro e w3 ⟨rfl, rfl⟩)
      go_ret2
      refine ⟨trimL zs, _, _, rfl, ?_, ?_, hbel⟩
      · have hz := Num.of_trim hsh.1
        have h5 := hsh.2.2.2.2
        rw [List.drop_zero, Nat.add_zero, val_drop (by omega) ps d hd, show (4294967296 : Nat) ^ d = 2 ^ (32 * d) from by rw [Nat.pow_mul], Nat.div_div_eq_div_mul, ← Nat.pow_add, ← Hn.out] at h5
        rw [h5] at hz
        exact hz
      · have h3 := (Res.of_blk0 hblk (Nat.le_refl _) (by rw [u32s_length]; omega)).take (trimL zs).length
        rw [← u32s_trim, u32s_length] at h3
        exact h3
    · rw [show ((k + 1 : Nat) : Int) - 1 = (k : Int) from by omega]
      have hdk : d + k < ps.length := by have := hml.out; omega
      obtain ⟨b, off, rfl, hb, hcell⟩ := hrt (by intro e; have := u32s_length ps; rw [e] at this; simp at this; omega)
      have hx := (hbel.cell (p := ⟨b, off + (d + k), none⟩) (show b < _ by omega)).trans (hcell (d + k) _ (u32s_at hdk))
      have hxd := hd.at_ (d + k) hdk
      have hcc := hsh.2.2.1
      have hz1 : k < zs.length := by omega
      have Hzm := Lib.hid hzm
      clear hcell hzm
      have Hcc := Lib.hid hcc
      clear hcc
      go_wp2_with (go_at_call 97; (with_reducible refine (dropper1_any _ cc s _ _ _ hs hxd Hcc.out hbc hbn (by omega)).mono ?_); rintro e w2 ⟨rfl, hg2, hch⟩; have hq2 := hblk.ch hch (by omega); have hc2 := (hq2.cell k).trans (u32s_at hz1); have hf2 := hq2.frozen k)
      go_roundw
      case rel =>
        refine ⟨k, _, _, by omega, by go_num, ?_, (hbn.ch hch (by omega)).far (p := ⟨w.heap.size, k, none⟩) (by simp) _, hg2.far (p := ⟨w.heap.size, k, none⟩) (by simp; omega) _, hsh.step hdk hxd hs, (hbel.trans (hch.below (by omega))).setCell (p := ⟨w.heap.size, k, none⟩) (Nat.le_refl _) _⟩
        have hb2 := hq2.set_ k (Value.int IntKind.u32 (((cc % 4294967296 * 4294967296 + ps[d + k]) / 2 ^ s % 4294967296 : Nat) : Int))
        rw [u32s_set] at hb2
        exact hb2
      case measure => simp [intOf]
end
section
open Go.RowKit

theorem val_take_mod {b : Nat} (hb : 0 < b) (xs : List Nat) (k : Nat) (hd : Dig b xs) : val b (xs.take k) = val b xs % b ^ k := by
  rcases Nat.lt_or_ge k xs.length with h | h
  · have h1 := val_take_drop b xs k (by omega)
    have h2 := val_lt b _ (hd.take_ k)
    rw [List.length_take, Nat.min_eq_left (by omega)] at h2
    rw [h1, Nat.add_mul_mod_self_left, Nat.mod_eq_of_lt h2]
  · rw [List.take_of_length_le h]
    have h2 := val_lt b _ hd
    have h3 : b ^ xs.length ≤ b ^ k := Nat.pow_le_pow_right hb h
    rw [Nat.mod_eq_of_lt (by omega)]

/-- r b + ul is what stands ahead of taking q vb. -/
theorem bz_eq {b U V vt vb uh ul q r : Nat} (hU : U = uh * b + ul) (hV : V = vt * b + vb) (h : uh = q * vt + r) : r * b + ul + q * V = U + q * vb := by
  subst hU hV h
  grind
theorem bz_lt1 {b U V vt vb uh ul q r : Nat} (hU : U = uh * b + ul) (hV : V = vt * b + vb) (h : uh = q * vt + r) (hr : r < vt) (hul : ul < b) : U < (q + 1) * V := by
  have h1 : (r + 1) * b ≤ vt * b := Nat.mul_le_mul_right _ hr
  have h2 : r * b + ul < vt * b := by rw [Nat.add_mul] at h1; omega
  have h3 : U + q * vb = r * b + ul + q * V := (bz_eq hU hV h).symm
  rw [Nat.add_mul]
  omega
theorem bz_half {b c V : Nat} (hb : b = 2 * c) (h : b * b ≤ 2 * V) (h0 : 0 < b) : b ≤ 2 * (V / b) := by
  have h1 := Nat.div_add_mod V b
  have h2 := Nat.mod_lt V h0
  have h3 : b * b < b * (2 * (V / b) + 2) := by rw [Nat.mul_add, Nat.mul_left_comm]; omega
  have h4 := Nat.lt_of_mul_lt_mul_left h3
  omega
theorem pow_even (k : Nat) (h : 0 < k) : (18446744073709551616 : Nat) ^ k = 2 * (9223372036854775808 * 18446744073709551616 ^ (k - 1)) := by
  obtain ⟨m, rfl⟩ : ∃ m, k = m + 1 := ⟨k - 1, by omega⟩
  rw [Nat.pow_succ, Nat.add_sub_cancel]
  omega
theorem top_trim {xs : List Nat} {n : Nat} (hl : xs.length = n) (hn : 0 < n) (hd : Dig 18446744073709551616 xs) (h : 18446744073709551616 ^ n ≤ 2 * val 18446744073709551616 xs) : trimL xs = xs := by
  refine trimL_of_ge (by omega) hd ?_
  obtain ⟨m, rfl⟩ : ∃ m, n = m + 1 := ⟨n - 1, by omega⟩
  rw [hl, Nat.add_sub_cancel]
  rw [Nat.pow_succ] at h
  omega
theorem top_word {xs : List Nat} {m : Nat} (hl : xs.length = m + 2) (hd : Dig 18446744073709551616 xs) (h : 18446744073709551616 ^ (m + 2) ≤ 2 * val 18446744073709551616 xs) : 0 < xs[m + 1] := by
  have h1 : val 18446744073709551616 xs = val 18446744073709551616 (xs.take (m + 1)) + 18446744073709551616 ^ (m + 1) * xs[m + 1] := by
    have := val_take_succ 18446744073709551616 xs (m + 1) (by omega)
    rwa [List.take_of_length_le (by omega)] at this
  have h2 := val_lt _ _ (hd.take_ (m + 1))
  rw [List.length_take, Nat.min_eq_left (by omega)] at h2
  rcases Nat.eq_zero_or_pos xs[m + 1] with h0 | h0
  · rw [h0, Nat.mul_zero] at h1
    rw [Nat.pow_succ _ (m + 1)] at h
    omega
  · exact h0
theorem num_drop {xs : List Nat} {n : Nat} (h : Num 18446744073709551616 xs n) (k : Nat) : Num 18446744073709551616 (trimL (xs.drop k)) (n / 18446744073709551616 ^ k) := by
  have h1 := Num.of_trim (h.1.drop_ k)
  rwa [val_drop (by omega) _ _ h.1, h.2.2] at h1
theorem num_take {xs : List Nat} {n : Nat} (h : Num 18446744073709551616 xs n) (k : Nat) : Num 18446744073709551616 (trimL (xs.take k)) (n % 18446744073709551616 ^ k) := by
  have h1 := Num.of_trim (h.1.take_ k)
  rwa [val_take_mod (by omega) _ _ h.1, h.2.2] at h1
theorem num_len {xs : List Nat} {n k : Nat} (h : Num 18446744073709551616 xs n) (hk : n < 18446744073709551616 ^ k) : xs.length ≤ k := by
  have := trimL_len_le (b := 18446744073709551616) (by omega) h.1 (by rw [h.2.2]; exact hk)
  rwa [h.2.1] at this

/-- A round of taking one too great a quotient back. -/
theorem bz_back {U V q P r r2 c : Nat} (h : r + q * V = U + P) (h2 : r2 + P * c = r + V) (hr : r < P) (hc : c ≤ 1) : 0 < q ∧ r2 + (q - 1) * V = U + P * (1 - c) ∧ U < q * V := by
  have hq : 0 < q := by
    rcases Nat.eq_zero_or_pos q with h0 | h0
    · subst h0; omega
    · exact h0
  obtain ⟨m, rfl⟩ : ∃ m, q = m + 1 := ⟨q - 1, by omega⟩
  rw [Nat.add_mul, Nat.one_mul] at h
  refine ⟨hq, ?_, ?_⟩
  · rw [Nat.add_sub_cancel]
    rcases Nat.eq_zero_or_pos c with h0 | h0
    · subst h0; simp only [Nat.mul_zero, Nat.add_zero, Nat.sub_zero, Nat.mul_one] at *; omega
    · obtain rfl : c = 1 := by omega
      simp only [Nat.mul_one, Nat.sub_self, Nat.mul_zero, Nat.add_zero] at *; omega
  · rw [Nat.add_mul, Nat.one_mul]; omega
theorem bz_done {U V q r : Nat} (h : r + q * V = U) (h2 : U < (q + 1) * V) : q = U / V ∧ r = U % V := by
  rw [Nat.add_mul, Nat.one_mul] at h2
  have hr : r < V := by omega
  have h3 : U = r + V * q := by rw [Nat.mul_comm]; exact h.symm
  subst h3
  rw [Nat.add_mul_div_left _ _ (by omega), Nat.div_eq_of_lt hr, Nat.add_mul_mod_self_left, Nat.mod_eq_of_lt hr]
  omega

/-- What the two divisions by halves answer. -/
def HalfOut (w w' : World) (U V : Nat) (e : Ending) : Prop :=
  ∃ qs rs Q cq R cr, e = .returned (.tuple #[.slice Q qs.length cq, .slice R rs.length cr]) ∧ Num 18446744073709551616 qs (U / V) ∧ Num 18446744073709551616 rs (U % V) ∧ qs.length ≤ cq ∧ rs.length ≤ cr ∧
    Rd w' w'.heap.size Q (u64s qs) ∧ Rd w' w'.heap.size R (u64s rs) ∧ (∀ g, g < w.heap.size → Rx w' g R (u64s rs)) ∧ Below w.heap.size w w'
def TwoOk (n : Nat) : Prop :=
  ∀ (A A2 : Option Addr) (c c2 : Nat) (us vs : List Nat) (U V : Nat) (w : World) (B : Nat), vs.length = n → Rd w B A (u64s us) → Rd w B A2 (u64s vs) → B ≤ w.heap.size → Num 18446744073709551616 us U → Dig 18446744073709551616 vs → val 18446744073709551616 vs = V → 18446744073709551616 ^ n ≤ 2 * V → U < V * 18446744073709551616 ^ n →
    us.length ≤ c → vs.length ≤ c2 → Calls Tryd.prog 93 #[.slice A us.length c, .slice A2 vs.length c2] w fun e w' => HalfOut w w' U V e
end
section
section Ring
variable {z9 : Nat} [NeZero z9]

def sm (f : Nat → Fin z9) : Nat → Fin z9
  | 0 => 0
  | n + 1 => sm f n + f n

theorem sm_congr {f g : Nat → Fin z9} (n : Nat) (h : ∀ i, i < n → f i = g i) : sm f n = sm g n := by
  induction n with
  | zero => rfl
  | succ n ih => simp only [sm, ih (fun i hi => h i (by omega)), h n (by omega)]
theorem sm_add (f g : Nat → Fin z9) (n : Nat) : sm (fun i => f i + g i) n = sm f n + sm g n := by
  induction n with
  | zero => simp only [sm]; grind
  | succ n ih => simp only [sm, ih]; grind
theorem sm_mul (c : Fin z9) (f : Nat → Fin z9) (n : Nat) : sm (fun i => c * f i) n = c * sm f n := by
  induction n with
  | zero => simp only [sm]; grind
  | succ n ih => simp only [sm, ih]; grind
theorem sm_split (f : Nat → Fin z9) (a b : Nat) : sm f (a + b) = sm f a + sm (fun i => f (a + i)) b := by
  induction b with
  | zero => simp only [sm, Nat.add_zero]; grind
  | succ n ih => rw [← Nat.add_assoc]; simp only [sm, ih]; grind
theorem sm_shift (f : Nat → Fin z9) (n : Nat) : sm f (n + 1) = f 0 + sm (fun i => f (i + 1)) n := by
  rw [Nat.add_comm, sm_split]
  simp only [sm, Nat.add_comm 1]; grind
theorem sm_zero (n : Nat) : sm (fun _ => (0 : Fin z9)) n = 0 := by
  induction n with
  | zero => rfl
  | succ n ih => simp only [sm, ih]; grind

theorem pw_zero (a : Fin z9) : a ^ 0 = 1 := by grind
theorem pw_succ (a : Fin z9) (n : Nat) : a ^ (n + 1) = a ^ n * a := by grind
theorem pw_add (a : Fin z9) (m n : Nat) : a ^ (m + n) = a ^ m * a ^ n := by
  induction n with
  | zero => rw [Nat.add_zero, pw_zero]; grind
  | succ n ih => rw [← Nat.add_assoc, pw_succ, pw_succ, ih]; grind
theorem pw_mul (a b : Fin z9) (n : Nat) : (a * b) ^ n = a ^ n * b ^ n := by
  induction n with
  | zero => rw [pw_zero, pw_zero, pw_zero]; grind
  | succ n ih => rw [pw_succ, pw_succ, pw_succ, ih]; grind
theorem pw_one (n : Nat) : (1 : Fin z9) ^ n = 1 := by
  induction n with
  | zero => rw [pw_zero]
  | succ n ih => rw [pw_succ, ih]; grind
theorem pw_pw (a : Fin z9) (m n : Nat) : a ^ (m * n) = (a ^ m) ^ n := by
  induction n with
  | zero => rw [Nat.mul_zero, pw_zero, pw_zero]
  | succ n ih => rw [Nat.mul_succ, pw_add, ih, pw_succ]

/-- One layer down: from blocks of 2 h to blocks of h. -/
def sLay (h : Nat) (rt : Nat → Fin z9) (x : Nat → Fin z9) : Nat → Fin z9 := fun j =>
  if j % (2 * h) < h then x j + x (j + h) else (x (j - h) - x j) * rt (j % (2 * h) - h)
/-- One layer up. -/
def gLay (h : Nat) (rt : Nat → Fin z9) (x : Nat → Fin z9) : Nat → Fin z9 := fun j =>
  if j % (2 * h) < h then x j + x (j + h) * rt (j % (2 * h)) else x (j - h) - x j * rt (j % (2 * h) - h)

theorem mod_low {h r i : Nat} (hi : i < h) : (2 * h * r + i) % (2 * h) = i := by
  rw [Nat.mul_add_mod, Nat.mod_eq_of_lt (by omega)]
theorem mod_high {h r i : Nat} (hi : i < h) : (2 * h * r + h + i) % (2 * h) = h + i := by
  rw [Nat.add_assoc, Nat.mul_add_mod, Nat.mod_eq_of_lt (by omega)]

theorem s_low (h r : Nat) (rt x : Nat → Fin z9) (t : Fin z9) (ht : t ^ h = 1) :
    sm (fun i => sLay h rt x (2 * h * r + i) * t ^ i) h = sm (fun i => x (2 * h * r + i) * t ^ i) (2 * h) := by
  rw [Nat.two_mul h, sm_split, ← sm_add]
  refine sm_congr h fun i hi => ?_
  have e : sLay h rt x ((h + h) * r + i) = x ((h + h) * r + i) + x ((h + h) * r + i + h) := by
    unfold sLay
    rw [← Nat.two_mul, mod_low hi, if_pos hi]
  rw [e, pw_add, ht, show (h + h) * r + (h + i) = (h + h) * r + i + h from by omega]
  grind
theorem s_high (h r : Nat) (rt x : Nat → Fin z9) (t w : Fin z9) (ht : t ^ h = 1) (hw : w ^ h = -1) (hrt : ∀ i, i < h → rt i = w ^ i) :
    sm (fun i => sLay h rt x (2 * h * r + h + i) * t ^ i) h = sm (fun i => x (2 * h * r + i) * (w * t) ^ i) (2 * h) := by
  rw [Nat.two_mul h, sm_split, ← sm_add]
  refine sm_congr h fun i hi => ?_
  have e : sLay h rt x ((h + h) * r + h + i) = (x ((h + h) * r + i) - x ((h + h) * r + h + i)) * w ^ i := by
    unfold sLay
    rw [← Nat.two_mul, mod_high hi, if_neg (by omega), show h + i - h = i from by omega, show 2 * h * r + h + i - h = 2 * h * r + i from by omega, hrt i hi]
  rw [e, pw_add, pw_mul, pw_mul, ht, hw, show (h + h) * r + (h + i) = (h + h) * r + h + i from by omega]
  grind

/-- All layers down from blocks of 2^k to blocks of 2^j: the roots of the layer of h are rts h. -/
def sAll (rts : Nat → Nat → Fin z9) (k : Nat) : Nat → (Nat → Fin z9) → (Nat → Fin z9)
  | 0, x => x
  | m + 1, x => sLay (2 ^ (k - 1 - m)) (rts (2 ^ (k - 1 - m))) (sAll rts k m x)

theorem s_eval (rts : Nat → Nat → Fin z9) (ws : Nat → Fin z9) (k : Nat) (hw : ∀ j, j < k → ws j ^ (2 ^ j) = -1) (hrt : ∀ j i, j < k → i < 2 ^ j → rts (2 ^ j) i = ws j ^ i) (m : Nat) (hm : m ≤ k) :
    ∀ r, r < 2 ^ m → ∃ c : Fin z9, ∀ (x : Nat → Fin z9) (t : Fin z9), t ^ 2 ^ (k - m) = 1 → sm (fun i => sAll rts k m x (2 ^ (k - m) * r + i) * t ^ i) (2 ^ (k - m)) = sm (fun i => x i * (c * t) ^ i) (2 ^ k) := by
  induction m with
  | zero =>
    intro r hr
    obtain rfl : r = 0 := by simpa using hr
    refine ⟨1, fun x t _ => ?_⟩
    rw [Nat.sub_zero]
    refine sm_congr _ fun i _ => ?_
    show x (2 ^ k * 0 + i) * t ^ i = _
    rw [show 2 ^ k * 0 + i = i from by omega, show (1 : Fin z9) * t = t from by grind]
  | succ m ih =>
    intro r hr
    obtain ⟨h, hh⟩ : ∃ h, h = 2 ^ (k - (m + 1)) := ⟨_, rfl⟩
    have e1 : 2 ^ (k - m) = 2 * h := by
      rw [hh, show k - m = k - (m + 1) + 1 from by omega, Nat.pow_succ]; omega
    have e2 : 2 ^ (k - 1 - m) = h := by rw [hh]; congr 1; omega
    have hw2 := hw (k - (m + 1)) (by omega)
    rw [← hh] at hw2
    have hrt2 : ∀ i, i < h → rts h i = ws (k - (m + 1)) ^ i := fun i hi => by
      rw [hh]; exact hrt _ i (by omega) (by rw [← hh]; exact hi)
    obtain ⟨c, hc⟩ := ih (by omega) (r / 2) (by rw [Nat.pow_succ] at hr; omega)
    rw [e1] at hc
    rw [← hh]
    have e3 : ∀ x, sAll rts k (m + 1) x = sLay h (rts h) (sAll rts k m x) := fun x => by
      show sLay (2 ^ (k - 1 - m)) (rts (2 ^ (k - 1 - m))) (sAll rts k m x) = _
      rw [e2]
    rcases Nat.mod_two_eq_zero_or_one r with h0 | h1
    · refine ⟨c, fun x t ht => ?_⟩
      rw [e3, ← hc x t (by rw [Nat.two_mul, pw_add, ht]; grind), ← s_low h (r / 2) (rts h) _ t ht]
      refine sm_congr _ fun i _ => ?_
      rw [show h * r = 2 * h * (r / 2) from by rw [Nat.mul_comm 2 h, Nat.mul_assoc]; congr 1; omega]
    · refine ⟨c * ws (k - (m + 1)), fun x t ht => ?_⟩
      have e4 : (c * ws (k - (m + 1)) * t) = c * (ws (k - (m + 1)) * t) := by grind
      rw [e3, e4, ← hc x (ws (k - (m + 1)) * t) (by rw [pw_mul, Nat.two_mul, pw_add, pw_add, ht, hw2]; grind), ← s_high h (r / 2) (rts h) _ t _ ht hw2 hrt2]
      refine sm_congr _ fun i _ => ?_
      rw [show h * r = 2 * h * (r / 2) + h from by rw [Nat.mul_comm 2 h, Nat.mul_assoc, ← Nat.mul_succ]; congr 1; omega]

/-- At the end, each place holds the polynomial's value at a point of its own. -/
theorem s_value (rts : Nat → Nat → Fin z9) (ws : Nat → Fin z9) (k : Nat) (hw : ∀ j, j < k → ws j ^ (2 ^ j) = -1) (hrt : ∀ j i, j < k → i < 2 ^ j → rts (2 ^ j) i = ws j ^ i) :
    ∀ r, r < 2 ^ k → ∃ c : Fin z9, ∀ x : Nat → Fin z9, sAll rts k k x r = sm (fun i => x i * c ^ i) (2 ^ k) := by
  intro r hr
  obtain ⟨c, hc⟩ := s_eval rts ws k hw hrt k (Nat.le_refl _) r hr
  refine ⟨c, fun x => ?_⟩
  have := hc x 1 (pw_one _)
  rw [Nat.sub_self, Nat.pow_zero] at this
  simp only [sm, Nat.one_mul, Nat.add_zero, pw_zero] at this
  rw [show c * 1 = c from by grind] at this
  rw [← this]; grind

theorem s_product (rts : Nat → Nat → Fin z9) (ws : Nat → Fin z9) (k : Nat) (hw : ∀ j, j < k → ws j ^ (2 ^ j) = -1) (hrt : ∀ j i, j < k → i < 2 ^ j → rts (2 ^ j) i = ws j ^ i)
    (x y z : Nat → Fin z9) (hz : ∀ t : Fin z9, sm (fun i => z i * t ^ i) (2 ^ k) = sm (fun i => x i * t ^ i) (2 ^ k) * sm (fun i => y i * t ^ i) (2 ^ k)) :
    ∀ r, r < 2 ^ k → sAll rts k k z r = sAll rts k k x r * sAll rts k k y r := by
  intro r hr
  obtain ⟨c, hc⟩ := s_value rts ws k hw hrt r hr
  rw [hc, hc, hc, hz]

theorem g_s (h : Nat) (rt ru x : Nat → Fin z9) (hh : 0 < h) (hrt : ∀ i, i < h → rt i * ru i = 1) (j : Nat) : gLay h ru (sLay h rt x) j = 2 * x j := by
  unfold gLay
  by_cases hj : j % (2 * h) < h
  · have e : (j + h) % (2 * h) = j % (2 * h) + h := by
      have h1 := Nat.div_add_mod j (2 * h)
      conv => lhs; rw [← h1]
      rw [Nat.add_assoc, Nat.mul_add_mod, Nat.mod_eq_of_lt (by omega)]
    rw [if_pos hj]
    unfold sLay
    rw [if_pos hj, e, if_neg (by omega), show j % (2 * h) + h - h = j % (2 * h) from by omega, show j + h - h = j from by omega]
    have := hrt _ hj
    grind
  · have h2 : j % (2 * h) < 2 * h := Nat.mod_lt _ (by omega)
    have h3 : h ≤ j := Nat.le_trans (by omega) (Nat.mod_le j (2 * h))
    have e : (j - h) % (2 * h) = j % (2 * h) - h := by
      have h1 := Nat.div_add_mod j (2 * h)
      rw [show j - h = 2 * h * (j / (2 * h)) + (j % (2 * h) - h) from by omega, Nat.mul_add_mod, Nat.mod_eq_of_lt (by omega)]
    rw [if_neg hj]
    unfold sLay
    rw [e, if_pos (by omega), if_neg hj, show j - h + h = j from by omega]
    have := hrt (j % (2 * h) - h) (by omega)
    grind
theorem g_mul (h : Nat) (ru : Nat → Fin z9) (c : Fin z9) (x : Nat → Fin z9) (j : Nat) : gLay h ru (fun i => c * x i) j = c * gLay h ru x j := by
  unfold gLay
  split <;> grind

/-- m layers up from blocks of one. -/
def gAll (rus : Nat → Nat → Fin z9) : Nat → (Nat → Fin z9) → (Nat → Fin z9)
  | 0, x => x
  | m + 1, x => gLay (2 ^ m) (rus (2 ^ m)) (gAll rus m x)

omit [NeZero z9] in
theorem gLay_congr (h : Nat) (ru x y : Nat → Fin z9) (e : ∀ j, x j = y j) : gLay h ru x = gLay h ru y := by
  have : x = y := funext e
  rw [this]
theorem g_all (rts rus : Nat → Nat → Fin z9) (k : Nat) (hrt : ∀ j i, j < k → i < 2 ^ j → rts (2 ^ j) i * rus (2 ^ j) i = 1) (x : Nat → Fin z9) (m : Nat) (hm : m ≤ k) :
    ∀ j, gAll rus m (sAll rts k k x) j = 2 ^ m * sAll rts k (k - m) x j := by
  induction m with
  | zero => intro j; rw [pw_zero]; show sAll rts k k x j = 1 * sAll rts k k x j; grind
  | succ m ih =>
    intro j
    show gLay (2 ^ m) (rus (2 ^ m)) (gAll rus m (sAll rts k k x)) j = _
    rw [gLay_congr _ _ _ _ (ih (by omega)), g_mul, show k - m = (k - (m + 1)) + 1 from by omega]
    show 2 ^ m * gLay (2 ^ m) (rus (2 ^ m)) (sLay (2 ^ (k - 1 - (k - (m + 1)))) (rts (2 ^ (k - 1 - (k - (m + 1))))) (sAll rts k (k - (m + 1)) x)) j = _
    rw [show k - 1 - (k - (m + 1)) = m from by omega, g_s _ _ _ _ (Nat.two_pow_pos m) (fun i hi => hrt m i (by omega) hi), pw_succ]
    grind
end Ring
end
end Go.Proofs.YtogkfpbapjjgfaaDoor
