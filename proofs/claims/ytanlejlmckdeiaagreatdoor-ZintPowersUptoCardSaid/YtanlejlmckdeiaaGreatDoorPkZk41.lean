/- The walk of Right where something is left. The contract of Right. Conditions: fewer limbs than any slice can have. The contract of nat.Pow. Conditions: at most 2^26 limbs; the library's table as it is laid where a power is told; the power has few bits. The contract of the reference's Pow. Conditions: at most 2^26 limbs; the power has few bits where it is told. -/
import Derived.Test.YtanlejlmckdeiaaGreatDoorPkZk40
import Derived.Test.YtanlejlmckdeiaaGreatDoorPkZk39
namespace Go.Proofs.YtanlejlmckdeiaaGreatDoor
section
open Go.RowKit

/-- What Right's row and carry are when the limbs from k on are told. -/
def Dropped (ps : List Nat) (d s k : Nat) (zs : List Nat) (c : Nat) : Prop :=
  Dig 4294967296 zs ∧ zs.length = ps.length - d ∧ c < 18446744073709551616 ∧ c % 4294967296 = val 4294967296 (ps.drop (d + k)) % 4294967296 ∧ val 4294967296 (zs.drop k) = val 4294967296 (ps.drop (d + k)) / 2 ^ s
theorem Dropped.start (ps : List Nat) (d s : Nat) (h : d ≤ ps.length) : Dropped ps d s (ps.length - d) (List.replicate (ps.length - d) 0) 0 :=
  ⟨Dig.zeros_ (by omega) _, by simp, by omega, by rw [show d + (ps.length - d) = ps.length from by omega]; simp [val], by rw [show d + (ps.length - d) = ps.length from by omega]; simp [val]⟩
theorem Dropped.step {ps zs : List Nat} {d s k c : Nat} (h : Dropped ps d s (k + 1) zs c) (hk : d + k < ps.length) (hx : ps[d + k] < 4294967296) (hs : s < 32) :
    Dropped ps d s k (zs.set k ((c % 4294967296 * 4294967296 + ps[d + k]) / 2 ^ s % 4294967296)) (c % 4294967296 * 4294967296 + ps[d + k]) := by
  obtain ⟨h1, h2, h3, h4, h5⟩ := h
  have e1 : ps.drop (d + k) = ps[d + k] :: ps.drop (d + (k + 1)) := List.drop_eq_getElem_cons hk
  have hkz : k < zs.length := by omega
  refine ⟨h1.set_ _ _ (Nat.mod_lt _ (by omega)), by simpa using h2, by omega, ?_, ?_⟩
  · rw [e1]
    simp only [val]
    rw [Nat.add_mul_mod_self_left]; omega
  · have e2 : (zs.set k ((c % 4294967296 * 4294967296 + ps[d + k]) / 2 ^ s % 4294967296)).drop k = ((c % 4294967296 * 4294967296 + ps[d + k]) / 2 ^ s % 4294967296) :: zs.drop (k + 1) := by
      rw [List.drop_eq_getElem_cons (by simpa using hkz)]
      simp [List.drop_set]
    rw [e1, e2]
    simp only [val]
    rw [h5, h4, drop_limb _ _ _ hx hs]

set_option maxHeartbeats 800000 in
theorem right_walk (A : Option Addr) (c : Nat) (xs ps : List Nat) (n d s : Nat) (w : World) (B : Nat) (hr : Rd w B A (u32s xs)) (hB : B ≤ w.heap.size) (hc : xs.length ≤ c) (hps : ps = trimL xs) (hd : Dig 4294967296 ps) (hn : n = 32 * d + s) (hs : s < 32) (hdl : d < ps.length) (hm : xs.length ≤ 70368744177664) :
    Calls Tryz.prog 84 #[.slice A xs.length c, .int .i64 (n : Int)] w fun e w' => ∃ zs A' c', e = .returned (.tuple #[.slice A' zs.length c', .int .i64 0]) ∧ Num 4294967296 zs (val 4294967296 ps / 2 ^ n) ∧ Res w' w.heap.size 61 A' c' (u32s zs) ∧ Below w.heap.size w w' := by
  have hl := trimL_length_le xs
  rw [← hps] at hl
  have hrt : Rd w B A (u32s ps) := by rw [hps, u32s_trim]; exact hr.take _
  obtain ⟨m, hme⟩ : ∃ m, m = ps.length - d := ⟨_, rfl⟩
  have hmp : (ps.length : Int) - (d : Int) = (m : Int) := by omega
  have hmk := fun W => mk32 m (by omega) W
  have hml : Hid (m = ps.length - d) := hme
  have q1 : (n : Int) / 32 = (d : Int) := by omega
  have q2 : (n : Int) % 32 = (s : Int) := by omega
  have nb : n < 9223372036854775807 := by omega
  have t0 : decide (ps.length ≤ d) = false := by simp; omega
  have hmb : m ≤ 70368744177664 := by omega
  have hm0 : 0 < m := by omega
  have hmm : xs.length ≤ 281474976710656 := by omega
  have Hn := Lib.hid hn
  have Hps := Lib.hid hps
  clear hn hps hme
  go_enter Tryz.func84, Tryz.ntmps84
  go_wp2_with (first
    | (go_at_call 64; (with_reducible refine (trim_any A c xs _ B hr hc hmm).mono ?_); rintro e w' ⟨rfl, rfl⟩; rw [← Hps.out])
    | (go_at_call 121; (with_reducible refine (dropper_any _ _).mono ?_); rintro e w1 ⟨rfl, hbn, hbc, hsz, hbel⟩))
  rw [size_alloc] at hbn hbc hsz hbel
  have hblk0 : Blk w1 w.heap.size 61 (u32s (List.replicate m 0)) := by
    have h0 : Blk (w.alloc (.cells (Array.replicate m (Value.int .u32 0)) 61)) w.heap.size 61 (u32s (List.replicate m 0)) := Blk.new_ (by simp [u32s])
    exact h0.below hbel (by omega)
  have hbel1 : Below w.heap.size w w1 := ((Below.refl _ _).alloc (Nat.le_refl _) _).trans (hbel.mono (by omega))
  clear hbel hsz
  go_loopw [8] (fun i wr => ∃ (k cc : Nat) (zs : List Nat), k ≤ m ∧ i = .int .i64 ((k : Int) - 1) ∧ Blk wr w.heap.size 61 (u32s zs) ∧ Blk wr (w.heap.size + 1) 69 [.int .u64 (s : Int)] ∧ Blk wr (w.heap.size + 1 + 1) 55 [.int .u64 (cc : Int)] ∧ Dropped ps d s k zs cc ∧ Below w.heap.size w wr) (fun i _ => (intOf i + 1).toNat)
  case atStart => exact ⟨m, 0, _, Nat.le_refl _, rfl, hblk0, hbn, hbc, by rw [hml.out]; exact Dropped.start ps d s (by omega), hbel1⟩
  case round =>
    clear hblk0 hbn hbc hbel1
    obtain ⟨k, cc, zs, hk, rfl, hblk, hbn, hbc, hsh, hbel⟩ := hrel
    have hzm : zs.length = m := by rw [hsh.2.1]; exact hml.out.symm
    rcases k with _ | k
    · have hrd := (Res.of_blk0 hblk (Nat.le_refl _) (by rw [u32s_length]; omega)).rd
      have Hzm := Lib.hid hzm
      clear hzm
      have hzb : zs.length ≤ 281474976710656 := by have := Hzm.out; omega
      go_wp2_with (go_at_call 64; rw [← Hzm.out]; refine (trim_any _ _ zs _ _ hrd (Nat.le_refl _) hzb).mono ?_; rintro e w3 ⟨rfl, rfl⟩)
      go_ret2
      refine ⟨trimL zs, _, _, rfl, ?_, ?_, hbel⟩
      · have hz := Num.of_trim hsh.1
        have h5 := hsh.2.2.2.2
        rw [List.drop_zero, Nat.add_zero, val_drop (by omega) ps d hd, show (4294967296 : Nat) ^ d = 2 ^ (32 * d) from by rw [Nat.pow_mul], Nat.div_div_eq_div_mul, ← Nat.pow_add, ← Hn.out] at h5
        rw [h5] at hz
        exact hz
      · have h3 := (Res.of_blk0 hblk (Nat.le_refl _) (by rw [u32s_length]; omega)).take (trimL zs).length
        rw [← u32s_trim, u32s_length] at h3
        exact h3
    · rw [show ((k + 1 : Nat) : Int) - 1 = (k : Int) from by omega]
      have hdk : d + k < ps.length := by have := hml.out; omega
      obtain ⟨b, off, rfl, hb, hcell⟩ := hrt (by intro e; have := u32s_length ps; rw [e] at this; simp at this; omega)
      have hx := (hbel.cell (p := ⟨b, off + (d + k), none⟩) (show b < _ by omega)).trans (hcell (d + k) _ (u32s_at hdk))
      have hxd := hd.at_ (d + k) hdk
      have hcc := hsh.2.2.1
      have hz1 : k < zs.length := by omega
      have Hzm := Lib.hid hzm
      clear hcell hzm
      have Hcc := Lib.hid hcc
      clear hcc
      go_wp2_with (go_at_call 149; (with_reducible refine (dropper1_any _ cc s _ _ _ hs hxd Hcc.out hbc hbn (by omega)).mono ?_); rintro e w2 ⟨rfl, hg2, hch⟩; have hq2 := hblk.ch hch (by omega); have hc2 := (hq2.cell k).trans (u32s_at hz1); have hf2 := hq2.frozen k)
      go_roundw
      case rel =>
        refine ⟨k, _, _, by omega, by go_num, ?_, (hbn.ch hch (by omega)).far (p := ⟨w.heap.size, k, none⟩) (by simp) _, hg2.far (p := ⟨w.heap.size, k, none⟩) (by simp; omega) _, hsh.step hdk hxd hs, (hbel.trans (hch.below (by omega))).setCell (p := ⟨w.heap.size, k, none⟩) (Nat.le_refl _) _⟩
        have hb2 := hq2.set_ k (Value.int IntKind.u32 (((cc % 4294967296 * 4294967296 + ps[d + k]) / 2 ^ s % 4294967296 : Nat) : Int))
        rw [u32s_set] at hb2
        exact hb2
      case measure => simp [intOf]
end
section
open Go.RowKit

/-- What Right answers. -/
def RightOut (w w' : World) (m : Nat) (n : Int) (e : Ending) : Prop :=
  ∃ zs A' c', e = .returned (.tuple #[.slice A' zs.length c', .int .i64 (if n < 0 then 1 else 0)]) ∧ Num 4294967296 zs (if n < 0 then 0 else m / 2 ^ n.toNat) ∧ Res w' w.heap.size 61 A' c' (u32s zs) ∧ Below w.heap.size w w'
set_option maxHeartbeats 400000 in
theorem right_any (A : Option Addr) (c : Nat) (xs : List Nat) (n : Int) (w : World) (B : Nat) (hr : Rd w B A (u32s xs)) (hB : B ≤ w.heap.size) (hd : Dig 4294967296 xs) (hc : xs.length ≤ c) (hm : xs.length ≤ 70368744177664) (hn : n ≤ 9223372036854775807) :
    Calls Tryz.prog 84 #[.slice A xs.length c, .int .i64 n] w fun e w' => RightOut w w' (val 4294967296 xs) n e := by
  have hmm : xs.length ≤ 281474976710656 := by omega
  rcases Int.lt_or_le n 0 with h0 | h0
  · go_enter Tryz.func84, Tryz.ntmps84
    go_wp2_with (go_at_call 64; (with_reducible refine (trim_any A c xs _ B hr hc hmm).mono ?_); rintro e w' ⟨rfl, rfl⟩)
    go_ret2
    exact ⟨[], none, 0, by rw [if_pos h0]; rfl, by rw [if_pos h0]; exact Num.zero_ _, Res.none_, Below.refl _ _⟩
  · obtain ⟨k, rfl⟩ := Int.eq_ofNat_of_zero_le h0
    have hl := trimL_length_le xs
    rcases Nat.lt_or_ge (k / 32) (trimL xs).length with hlt | hge
    · refine (right_walk A c xs (trimL xs) k (k / 32) (k % 32) w B hr hB hc rfl hd.trim_ (by omega) (by omega) hlt hm).mono ?_
      rintro e w' ⟨zs, A', c', rfl, hz, hres, hb⟩
      exact ⟨zs, A', c', by rw [if_neg (by omega)], by rw [if_neg (by omega), Int.toNat_natCast, ← val_trim]; exact hz, hres, hb⟩
    · have t0 : (trimL xs).length ≤ k / 32 := hge
      have hz : val 4294967296 xs / 2 ^ k = 0 := by
        rw [← val_trim]
        refine Nat.div_eq_of_lt (Nat.lt_of_lt_of_le (val_lt _ _ hd.trim_) ?_)
        rw [show (4294967296 : Nat) = 2 ^ 32 from rfl, ← Nat.pow_mul]
        exact Nat.pow_le_pow_right (by omega) (by omega)
      have Hz := Lib.hid hz
      clear hz
      have kb : k ≤ 9223372036854775807 := by omega
      have t1 : decide (((trimL xs).length : Int) ≤ (k : Int) / 32) = true := by simp; omega
      go_enter Tryz.func84, Tryz.ntmps84
      go_wp2_with (go_at_call 64; (with_reducible refine (trim_any A c xs _ B hr hc hmm).mono ?_); rintro e w' ⟨rfl, rfl⟩)
      go_ret2
      exact ⟨[], none, 0, by rw [if_neg (by omega)]; rfl, by rw [if_neg (by omega), Int.toNat_natCast, Hz.out]; exact Num.zero_ _, Res.none_, Below.refl _ _⟩
end
section
open Go.RowKit

/-- What a power answers where it is told. -/
def PwE (w w' : World) (n : Nat) (v : Value) (e : Ending) : Prop := ∃ zs A' c', e = .returned (.tuple #[.slice A' zs.length c', v]) ∧ Num 4294967296 zs n ∧ Res w' w.heap.size 61 A' c' (u32s zs) ∧ Below w.heap.size w w'
/-- What it answers where it isn't. -/
def PwF (w w' : World) (v : Value) (e : Ending) : Prop := e = .returned (.tuple #[.slice none 0 0, v]) ∧ Below w.heap.size w w'

section
variable {w : World} {A : Option Addr} {c a K : Nat} {xs : List Nat}
theorem npow_neg (h : Hv w A c xs a K) (hK : K ≤ 67108864) (k : Int) (hk : k < 0) : Calls Tryz.prog 54 #[.slice A xs.length c, .int .i64 k] w fun e w' => PwF w w' (.int .i64 1) e := by
  have hlen := h.len
  have T0 := Lib.hid (trim_any A c xs w w.heap.size h.rd h.cap (by omega))
  have t1 : decide (k < 0) = true := decide_eq_true hk
  clear h
  go_enter Tryz.func54, Tryz.ntmps54
  go_wp2_with (go_at_call 64; (with_reducible refine T0.out.mono ?_); rintro e w' ⟨rfl, rfl⟩)
  go_ret2
  exact ⟨rfl, Below.refl _ _⟩
theorem quo_gt {k b : Nat} (hb : 2 ≤ b) : ((67108863 : Int) / ((b : Int) - 1) < (k : Int)) ↔ 67108864 ≤ k * (b - 1) := by
  obtain ⟨d, rfl⟩ : ∃ d, b = d + 1 := ⟨b - 1, by omega⟩
  have e1 : ((d + 1 : Nat) : Int) - 1 = (d : Int) := by omega
  rw [e1, Nat.add_sub_cancel, show (67108863 : Int) = ((67108863 : Nat) : Int) from rfl, ← Int.natCast_ediv, Int.ofNat_lt, Nat.div_lt_iff_lt_mul (by omega)]
  omega
theorem npow_big (h : Hv w A c xs a K) (hK : K ≤ 67108864) (k : Nat) (hk : k < 9223372036854775808) (hb : 2 ≤ bitsOf a) (hbig : 67108864 ≤ k * (bitsOf a - 1)) : Calls Tryz.prog 54 #[.slice A xs.length c, .int .i64 (k : Int)] w fun e w' => PwF w w' (.int .i64 4) e := by
  have hlen := h.len
  have T0 := Lib.hid (trim_any A c xs w w.heap.size h.rd h.cap (by omega))
  have hn : Num 4294967296 (trimL xs) a := by rw [← h.val_]; exact Num.of_trim h.dig
  have hl := trimL_length_le xs
  have hrt : Rd w w.heap.size A (u32s (trimL xs)) := by rw [u32s_trim]; exact h.rd.take _
  have hbl := bits_limbs h.lt
  have L1 := Lib.hid (len_any A c (trimL xs) w w.heap.size hrt hn.1 (by have := h.cap; omega) (by omega))
  rw [hn.2.2] at L1
  have hk0 : k ≠ 0 := by rintro rfl; omega
  have hq := (quo_gt (k := k) hb).2 hbig
  obtain ⟨b, hbe⟩ : ∃ b, b = bitsOf a := ⟨_, rfl⟩
  rw [← hbe] at L1 hb hbl hq
  obtain ⟨ps, hps⟩ : ∃ ps, ps = trimL xs := ⟨_, rfl⟩
  rw [← hps] at T0 L1
  have t0 : ((k : Int) == 0) = false := beq_eq_false_iff_ne.2 (by omega)
  have t1 : decide ((b : Int) ≤ 1) = false := decide_eq_false (by omega)
  have t1b : decide (b ≤ 1) = false := decide_eq_false (by omega)
  have t3 : ((b : Int) - 1 == 0) = false := beq_eq_false_iff_ne.2 (by omega)
  have t2 : decide ((67108863 : Int) / ((b : Int) - 1) < (k : Int)) = true := decide_eq_true hq
  clear h hn hrt hbig hbe hps hq hlen hl
  go_enter Tryz.func54, Tryz.ntmps54
  go_wp2_with (first
    | (go_at_call 64; (with_reducible refine T0.out.mono ?_); rintro e w' ⟨rfl, rfl⟩)
    | (go_at_call 38; (with_reducible refine L1.out.mono ?_); rintro e w' ⟨rfl, rfl⟩))
  go_ret2
  exact ⟨rfl, Below.refl _ _⟩
theorem pow_bits {a k : Nat} : bitsOf (a ^ k) ≤ bitsOf a * k + 1 := by
  rw [bits_le_iff, Nat.pow_succ, Nat.pow_mul]
  have h1 : a ^ k ≤ (2 ^ bitsOf a) ^ k := Nat.pow_le_pow_left (Nat.le_of_lt bits_lt) k
  have := Nat.pow_pos (n := k) (Nat.two_pow_pos (bitsOf a))
  omega
theorem pow_limbs {a k : Nat} (h : bitsOf a * k ≤ 40000) : ∃ N, N ≤ 2000 ∧ a ^ k < 4294967296 ^ N ∧ bitsOf (a ^ k) ≤ 32 * N := by
  obtain ⟨N, hN⟩ : ∃ N, N = 1251 := ⟨_, rfl⟩
  have h1 : a ^ k ≤ (2 ^ bitsOf a) ^ k := Nat.pow_le_pow_left (Nat.le_of_lt bits_lt) k
  rw [← Nat.pow_mul] at h1
  have h2 : 2 ^ (bitsOf a * k) < 2 ^ (32 * N) := Nat.pow_lt_pow_right (by omega) (by omega)
  refine ⟨N, by omega, ?_, ?_⟩
  · rw [show (4294967296 : Nat) = 2 ^ 32 from rfl, ← Nat.pow_mul]; omega
  · rw [bits_le_iff]; omega
theorem small_pow {a k : Nat} (hk : k ≠ 0) (h : bitsOf a ≤ 1) : a ^ k = a := by
  have : a < 2 := by
    have := (bits_le_iff (n := a) (b := 1)).1 h
    omega
  have h2 : a = 0 ∨ a = 1 := by omega
  rcases h2 with rfl | rfl
  · exact Nat.zero_pow (by omega)
  · exact Nat.one_pow _
set_option maxHeartbeats 3200000 in
theorem npow_zero (h : Hv w A c xs a K) (hK : K ≤ 67108864) : Calls Tryz.prog 54 #[.slice A xs.length c, .int .i64 0] w fun e w' => PwE w w' (a ^ 0) (.int .i64 0) e := by
  have hlen := h.len
  have T0 := Lib.hid (trim_any A c xs w w.heap.size h.rd h.cap (by omega))
  clear h
  go_enter Tryz.func54, Tryz.ntmps54
  go_wp2_with (first
    | (go_at_call 64; (with_reducible refine T0.out.mono ?_); rintro e w' ⟨rfl, rfl⟩)
    | (go_at_call 41; (refine (of_any 1 (by decide) _).mono ?_); rintro e w1 ⟨zs, A1, c1, rfl, hz, hr, hb⟩))
  go_ret2
  exact ⟨zs, A1, c1, rfl, hz, hr, hb⟩
set_option maxHeartbeats 3200000 in
theorem npow_little (h : Hv w A c xs a K) (hK : K ≤ 67108864) (k : Nat) (hk0 : k ≠ 0) (_ : k < 9223372036854775808) (hb : bitsOf a ≤ 1) : Calls Tryz.prog 54 #[.slice A xs.length c, .int .i64 (k : Int)] w fun e w' => PwE w w' (a ^ k) (.int .i64 0) e := by
  rw [small_pow hk0 hb]
  have hlen := h.len
  have hl := trimL_length_le xs
  have T0 := Lib.hid (trim_any A c xs w w.heap.size h.rd h.cap (by omega))
  have hn : Num 4294967296 (trimL xs) a := by rw [← h.val_]; exact Num.of_trim h.dig
  have hrt : Rd w w.heap.size A (u32s (trimL xs)) := by rw [u32s_trim]; exact h.rd.take _
  have L1 := Lib.hid (len_any A c (trimL xs) w w.heap.size hrt hn.1 (by have := h.cap; omega) (by omega))
  have N1 := Lib.hid (norm_any A c (trimL xs) w w.heap.size hrt (Nat.le_refl _) (by have := h.cap; omega) (by omega))
  rw [hn.2.2] at L1
  rw [hn.2.1] at N1
  obtain ⟨b, hbe⟩ : ∃ b, b = bitsOf a := ⟨_, rfl⟩
  rw [← hbe] at L1 hb
  obtain ⟨ps, hps⟩ : ∃ ps, ps = trimL xs := ⟨_, rfl⟩
  rw [← hps] at T0 L1 N1 hn
  have t0 : ((k : Int) == 0) = false := beq_eq_false_iff_ne.2 (by omega)
  have t1 : decide ((b : Int) ≤ 1) = true := decide_eq_true (by omega)
  have t1b : decide (b ≤ 1) = true := decide_eq_true (by omega)
  have Hn := Lib.hid hn
  clear h hn hrt hbe hps hlen hl
  go_enter Tryz.func54, Tryz.ntmps54
  go_wp2_with (first
    | (go_at_call 64; (with_reducible refine T0.out.mono ?_); rintro e w' ⟨rfl, rfl⟩)
    | (go_at_call 38; (with_reducible refine L1.out.mono ?_); rintro e w' ⟨rfl, rfl⟩)
    | (go_at_call 58; (with_reducible refine N1.out.mono ?_); rintro e w1 ⟨A1, c1, rfl, hr1, hb1⟩))
  go_ret2
  exact ⟨ps, A1, c1, rfl, Hn.out, hr1, hb1⟩
set_option maxHeartbeats 6400000 in
theorem npow_ok (h : Hv w A c xs a K) (hK : K ≤ 67108863) (k : Nat) (hk0 : k ≠ 0) (hb : 2 ≤ bitsOf a) (hs : bitsOf a * k ≤ 40000) (hT : Tab32 w) (_ : 1 < w.heap.size) : Calls Tryz.prog 54 #[.slice A xs.length c, .int .i64 (k : Int)] w fun e w' => PwE w w' (a ^ k) (.int .i64 0) e := by
  have hlen := h.len
  have hl := trimL_length_le xs
  have T0 := Lib.hid (trim_any A c xs w w.heap.size h.rd h.cap (by omega))
  have hn : Num 4294967296 (trimL xs) a := by rw [← h.val_]; exact Num.of_trim h.dig
  have hrt : Rd w w.heap.size A (u32s (trimL xs)) := by rw [u32s_trim]; exact h.rd.take _
  have L1 := Lib.hid (len_any A c (trimL xs) w w.heap.size hrt hn.1 (by have := h.cap; omega) (by omega))
  obtain ⟨t, ht⟩ := trail_exists (trimL xs)
  have hdv := ht.dvd hn.1
  rw [hn.2.2] at L1 hdv
  have R0 := Lib.hid (trail_fix A c (trimL xs) t ht w w.heap.size hrt hn.1 (by omega) hT)
  have R1 := Lib.hid (right_any A c (trimL xs) (t : Int) w w.heap.size hrt (Nat.le_refl _) hn.1 (by have := h.cap; omega) (by omega) (by
    rcases ht with ⟨h1, _, _⟩ | ⟨rfl, _⟩
    · omega
    · decide))
  rw [hn.2.2] at R1
  have ha : 0 < a := by
    rcases Nat.eq_zero_or_pos a with h0 | h0
    · subst h0; revert hb; decide
    · exact h0
  obtain ⟨o, ho⟩ := hdv
  have ho1 : 1 ≤ o := by
    rcases Nat.eq_zero_or_pos o with h0 | h0
    · subst h0; rw [Nat.mul_zero] at ho; omega
    · exact h0
  have hdiv : a / 2 ^ t = o := by rw [ho]; exact Nat.mul_div_cancel_left _ (Nat.two_pow_pos t)
  have hoa : o ≤ a := by rw [ho]; exact Nat.le_mul_of_pos_left _ (Nat.two_pow_pos t)
  have htb : t < bitsOf a := by
    rcases Nat.lt_or_ge t (bitsOf a) with g | g
    · exact g
    · have h1 : a < 2 ^ t := Nat.lt_of_lt_of_le bits_lt (Nat.pow_le_pow_right (by omega) g)
      have : 2 ^ t ≤ a := by rw [ho]; exact Nat.le_mul_of_pos_right _ (by omega)
      omega
  have hkt : k * t ≤ 40000 := by
    have h1 : k * t ≤ k * bitsOf a := Nat.mul_le_mul_left k (by omega)
    rw [Nat.mul_comm k (bitsOf a)] at h1
    omega
  have hok : o ^ k ≤ a ^ k := Nat.pow_le_pow_left hoa k
  obtain ⟨N, hN1, hN2, hN3⟩ := pow_limbs hs
  have hPow : o ^ k * 2 ^ (k * t) = a ^ k := by
    rw [ho, Nat.mul_pow, ← Nat.pow_mul, Nat.mul_comm t k, Nat.mul_comm]
  have hbo : bitsOf (o ^ k) ≤ 32 * N := by
    have h1 := (bits_le_iff (n := a ^ k)).1 hN3
    rw [bits_le_iff]
    omega
  have hkl : k ≤ 40000 := by
    have : 1 * k ≤ bitsOf a * k := Nat.mul_le_mul_right k (by omega)
    omega
  have hb40 : bitsOf a ≤ 40000 := by
    have : bitsOf a * 1 ≤ bitsOf a * k := Nat.mul_le_mul_left _ (by omega)
    omega
  have hq : ¬ ((67108863 : Int) / ((bitsOf a : Int) - 1) < (k : Int)) := by
    rw [quo_gt hb]
    have h1 : k * (bitsOf a - 1) ≤ k * bitsOf a := Nat.mul_le_mul_left k (by omega)
    rw [Nat.mul_comm k (bitsOf a)] at h1
    omega
  obtain ⟨b, hbe⟩ : ∃ b, b = bitsOf a := ⟨_, rfl⟩
  rw [← hbe] at L1 hb hq hb40
  obtain ⟨ps, hps⟩ : ∃ ps, ps = trimL xs := ⟨_, rfl⟩
  rw [← hps] at T0 L1 R0 R1
  unfold RightOut at R1
  rw [if_neg (by omega), if_neg (by omega), Int.toNat_natCast, hdiv] at R1
  obtain ⟨B, hB⟩ : ∃ B, B = bitsOf (o ^ k) := ⟨_, rfl⟩
  have LT := Nat.lt_of_le_of_lt hok hN2
  obtain ⟨q, hqe⟩ : ∃ q, q = o ^ k := ⟨_, rfl⟩
  rw [← hB] at hbo
  rw [← hqe] at hPow hB LT
  have hkt2 : (k : Int) * (t : Int) = ((k * t : Nat) : Int) := by simp
  obtain ⟨m, hm⟩ : ∃ m, m = k * t := ⟨_, rfl⟩
  rw [← hm] at hkt hPow hkt2
  have POW : Hid (∀ (os : List Nat) (A1 : Option Addr) (c1 : Nat) (W : World), Num 4294967296 os o → Res W w.heap.size 61 A1 c1 (u32s os) → Calls Tryz.prog 85 #[.slice A1 os.length c1, .int .i64 (k : Int)] W fun e w' => PwOut W w' q e) := fun os A1 c1 W hz hr => by
    rw [hqe]
    have hol : o < 4294967296 ^ K := Nat.lt_of_le_of_lt hoa h.lt
    exact power_any (Hv.of hz hr hol) (by omega) ho1 (by omega) (by omega) (by rw [← hqe]; exact LT) (by omega)
  have LEN : Hid (∀ (zs : List Nat) (A2 : Option Addr) (c2 B9 : Nat) (W : World), Num 4294967296 zs q → Res W B9 61 A2 c2 (u32s zs) → Calls Tryz.prog 38 #[.slice A2 zs.length c2] W fun e w' => e = .returned (.int .i64 (B : Nat)) ∧ W = w') := fun zs A2 c2 B9 W hz hr => by
    rw [hB]
    exact (Hv.of (K := N) hz hr LT).nlen (by omega)
  have SHU : Hid (∀ (zs : List Nat) (A2 : Option Addr) (c2 B9 : Nat) (W : World), Num 4294967296 zs q → Res W B9 61 A2 c2 (u32s zs) → Calls Tryz.prog 86 #[.slice A2 zs.length c2, .int .i64 (m : Int)] W fun e w' => PwOut W w' (a ^ k) e) := fun zs A2 c2 B9 W hz hr => by
    have hv := Hv.of (K := N) hz hr LT
    have := shiftUp_any A2 c2 zs m (m / 32) (m % 32) W W.heap.size hv.rd (Nat.le_refl _) hz.1 (by omega) (by omega) (by have := hv.len; omega)
    rw [hz.2.2, hPow] at this
    exact this
  have t0 : ((k : Int) == 0) = false := beq_eq_false_iff_ne.2 (by omega)
  have t1 : decide ((b : Int) ≤ 1) = false := decide_eq_false (by omega)
  have t1b : decide (b ≤ 1) = false := decide_eq_false (by omega)
  have t3 : ((b : Int) - 1 == 0) = false := beq_eq_false_iff_ne.2 (by omega)
  have t2 : decide ((67108863 : Int) / ((b : Int) - 1) < (k : Int)) = false := decide_eq_false hq
  have t4 : decide (67108864 < (B : Int) + (m : Int)) = false := decide_eq_false (by omega)
  clear h hn hrt hps hlen hl hT ht ho ho1 hdiv hoa htb hok hPow hN2 hN3 hq hbe LT hqe ha hs hm
  go_enter Tryz.func54, Tryz.ntmps54
  go_wp2_with (first
    | (go_at_call 64; (with_reducible refine T0.out.mono ?_); rintro e w' ⟨rfl, rfl⟩)
    | (go_at_call_of 38 (Value.slice A ps.length c); (with_reducible refine L1.out.mono ?_); rintro e w' ⟨rfl, rfl⟩)
    | (go_at_call 83; (with_reducible refine R0.out.mono ?_); rintro e w' ⟨rfl, rfl⟩)
    | (go_at_call 84; (with_reducible refine R1.out.mono ?_); rintro e w1 ⟨os, A1, c1, rfl, hz1, hr1, hb1⟩)
    | (go_at_call 85; (with_reducible refine (POW.out os A1 c1 _ hz1 hr1).mono ?_); rintro e w2 ⟨zs, A2, c2, rfl, hz2, hr2, hb2⟩)
    | (go_at_call 38; (with_reducible refine (LEN.out zs A2 c2 _ _ hz2 hr2).mono ?_); rintro e w' ⟨rfl, rfl⟩)
    | (go_at_call 86; (with_reducible refine (SHU.out zs A2 c2 _ _ hz2 hr2).mono ?_); rintro e w3 ⟨zt, A3, c3, rfl, hz3, hr3, hb3⟩)
    | simp only [])
  have k2 : Below w.heap.size w w2 := hb1.trans (hb2.mono hb1.size)
  go_ret2
  exact ⟨zt, A3, c3, rfl, hz3, hr3.mono k2.size, k2.trans (hb3.mono k2.size)⟩
end
end
section
open Go.RowKit

section
variable {w : World} {A : Option Addr} {c a K : Nat} {xs : List Nat}
theorem rpow_big1 (h : Hv w A c xs a K) (hK : K ≤ 67108864) (k : Nat) (hk : 67108864 < k) (hk2 : k < 9223372036854775808) (hb : 2 ≤ bitsOf a) : Calls Tryz.prog 55 #[.slice A xs.length c, .int .i64 (k : Int)] w fun e w' => PwF w w' (.bool false) e := by
  have NA := Lib.hid (h.normP hK)
  have LA : Hid (∀ (zs : List Nat) (A1 : Option Addr) (c1 B9 : Nat) (W : World), Num 4294967296 zs a → Res W B9 61 A1 c1 (u32s zs) → Calls Tryz.prog 18 #[.slice A1 zs.length c1] W fun e w' => e = .returned (.int .i64 (bitsOf a : Nat)) ∧ Below W.heap.size W w') := fun zs A1 c1 B9 W hz hr =>
    (Hv.of (K := K) hz hr h.lt).lenP hK
  have hbl := bits_limbs h.lt
  have hz0 : Hid (∀ zs, Num 4294967296 zs a → zs.length ≠ 0) := fun zs hz e => by
    have h1 : a = 0 := by rw [← hz.2.2, List.eq_nil_of_length_eq_zero e]; rfl
    subst h1
    revert hb
    decide
  obtain ⟨b, hbe⟩ : ∃ b, b = bitsOf a := ⟨_, rfl⟩
  rw [← hbe] at LA hb hbl
  have t1 : ((b : Int) == 1) = false := beq_eq_false_iff_ne.2 (by omega)
  have t2 : decide (67108864 < (k : Int)) = true := decide_eq_true (by omega)
  have t2b : decide (67108864 < k) = true := decide_eq_true (by omega)
  clear h hbe
  go_enter Tryz.func55, Tryz.ntmps55
  go_wp2_with fail
  refine NA.out.mono ?_
  rintro e w1 ⟨zs, A1, c1, rfl, hz, hr, hb1⟩
  have t0 : ((zs.length : Int) == 0) = false := beq_eq_false_iff_ne.2 (by have := hz0.out zs hz; omega)
  go_wp2_with fail
  refine (LA.out zs A1 c1 _ _ hz hr).mono ?_
  rintro e w2 ⟨rfl, hb2⟩
  go_wp2_with fail
  go_ret2
  exact ⟨rfl, hb1.trans (hb2.mono hb1.size)⟩
theorem rpow_big2 (h : Hv w A c xs a K) (hK : K ≤ 67108864) (k : Nat) (hk : k ≤ 67108864) (hb : 2 ≤ bitsOf a) (hbig : 67108864 ≤ k * (bitsOf a - 1)) : Calls Tryz.prog 55 #[.slice A xs.length c, .int .i64 (k : Int)] w fun e w' => PwF w w' (.bool false) e := by
  have NA := Lib.hid (h.normP hK)
  have LA : Hid (∀ (zs : List Nat) (A1 : Option Addr) (c1 B9 : Nat) (W : World), Num 4294967296 zs a → Res W B9 61 A1 c1 (u32s zs) → Calls Tryz.prog 18 #[.slice A1 zs.length c1] W fun e w' => e = .returned (.int .i64 (bitsOf a : Nat)) ∧ Below W.heap.size W w') := fun zs A1 c1 B9 W hz hr =>
    (Hv.of (K := K) hz hr h.lt).lenP hK
  have LA2 : Hid (∀ (zs : List Nat) (A1 : Option Addr) (c1 : Nat) (wo W : World), Num 4294967296 zs a → Res wo w.heap.size 61 A1 c1 (u32s zs) → Below wo.heap.size wo W → Calls Tryz.prog 18 #[.slice A1 zs.length c1] W fun e w' => e = .returned (.int .i64 (bitsOf a : Nat)) ∧ Below W.heap.size W w') := fun zs A1 c1 wo W hz hr hW =>
    ((Hv.of (K := K) hz hr h.lt).next hW).lenP hK
  have hbl := bits_limbs h.lt
  have hz0 : Hid (∀ zs, Num 4294967296 zs a → zs.length ≠ 0) := fun zs hz e => by
    have h1 : a = 0 := by rw [← hz.2.2, List.eq_nil_of_length_eq_zero e]; rfl
    subst h1
    revert hb
    decide
  obtain ⟨b, hbe⟩ : ∃ b, b = bitsOf a := ⟨_, rfl⟩
  rw [← hbe] at LA LA2 hb hbl hbig
  obtain ⟨d, rfl⟩ : ∃ d, b = d + 1 := ⟨b - 1, by omega⟩
  rw [Nat.add_sub_cancel, Nat.mul_comm] at hbig
  have e1 : ((d + 1 : Nat) : Int) - 1 = (d : Int) := by omega
  have e2 : (d : Int) * (k : Int) = ((d * k : Nat) : Int) := by simp
  have hm2 : d * k ≤ 2147483648 * 67108864 := Nat.mul_le_mul (by omega) hk
  obtain ⟨m, hm⟩ : ∃ m, m = d * k := ⟨_, rfl⟩
  rw [← hm] at hbig e2 hm2
  have t1 : ((((d + 1 : Nat) : Int)) == 1) = false := beq_eq_false_iff_ne.2 (by omega)
  have t2 : decide (67108864 < (k : Int)) = false := decide_eq_false (by omega)
  have t3 : decide (67108864 ≤ (m : Int)) = true := decide_eq_true (by omega)
  clear h hbe hm
  go_enter Tryz.func55, Tryz.ntmps55
  go_wp2_with fail
  refine NA.out.mono ?_
  rintro e w1 ⟨zs, A1, c1, rfl, hz, hr, hb1⟩
  have t0 : ((zs.length : Int) == 0) = false := beq_eq_false_iff_ne.2 (by have := hz0.out zs hz; omega)
  go_wp2_with fail
  refine (LA.out zs A1 c1 _ _ hz hr).mono ?_
  rintro e w2 ⟨rfl, hb2⟩
  go_wp2_with fail
  refine (LA2.out zs A1 c1 w1 w2 hz hr hb2).mono ?_
  rintro e w3 ⟨rfl, hb3⟩
  go_wp2_with (simp only [])
  go_ret2
  exact ⟨rfl, (hb1.trans (hb2.mono hb1.size)).trans (hb3.mono (Nat.le_trans hb1.size hb2.size))⟩
theorem num_one : Num 4294967296 [1] 1 := ⟨fun x hx => by simp at hx; omega, by decide, by simp [val]⟩
theorem res_one (W : World) {B : Nat} (hB : B ≤ W.heap.size) : Res (W.alloc (.cells #[.int .u32 1] 61)) B 61 (some ⟨W.heap.size, 0, none⟩) 1 (u32s [1]) :=
  Res.of_blk0 (vs := [.int .u32 1]) (Blk.new_ rfl) hB (by decide)
theorem rpow_zero (h : Hv w A c xs 0 K) (hK : K ≤ 67108864) (k : Nat) (hk : k < 9223372036854775808) : Calls Tryz.prog 55 #[.slice A xs.length c, .int .i64 (k : Int)] w fun e w' => PwE w w' (0 ^ k) (.bool true) e := by
  have NA := Lib.hid (h.normP hK)
  clear h
  by_cases hk0 : k = 0
  · subst hk0
    go_enter Tryz.func55, Tryz.ntmps55
    go_wp2_with fail
    refine NA.out.mono ?_
    rintro e w1 ⟨zs, A1, c1, rfl, hz, hr, hb1⟩
    obtain rfl : zs = [] := Num.unique (by omega) hz (Num.zero_ _)
    go_wp2_with fail
    go_ret2
    exact ⟨[1], _, _, rfl, num_one, res_one w1 hb1.size, hb1.alloc hb1.size _⟩
  · have t2 : ((k : Int) == 0) = false := beq_eq_false_iff_ne.2 (by omega)
    go_enter Tryz.func55, Tryz.ntmps55
    go_wp2_with fail
    refine NA.out.mono ?_
    rintro e w1 ⟨zs, A1, c1, rfl, hz, hr, hb1⟩
    obtain rfl : zs = [] := Num.unique (by omega) hz (Num.zero_ _)
    go_wp2_with fail
    go_ret2
    exact ⟨[], _, _, rfl, by rw [Nat.zero_pow (by omega)]; exact Num.zero_ _, hr, hb1⟩
theorem rpow_one (h : Hv w A c xs 1 K) (hK : K ≤ 67108864) (k : Nat) (hk : k < 9223372036854775808) : Calls Tryz.prog 55 #[.slice A xs.length c, .int .i64 (k : Int)] w fun e w' => PwE w w' (1 ^ k) (.bool true) e := by
  have NA := Lib.hid (h.normP hK)
  have LA : Hid (∀ (zs : List Nat) (A1 : Option Addr) (c1 B9 : Nat) (W : World), Num 4294967296 zs 1 → Res W B9 61 A1 c1 (u32s zs) → Calls Tryz.prog 18 #[.slice A1 zs.length c1] W fun e w' => e = .returned (.int .i64 1) ∧ Below W.heap.size W w') := fun zs A1 c1 B9 W hz hr =>
    (Hv.of (K := K) hz hr h.lt).lenP hK
  rw [Nat.one_pow]
  clear h
  by_cases hk0 : k = 0
  · subst hk0
    go_enter Tryz.func55, Tryz.ntmps55
    go_wp2_with fail
    refine NA.out.mono ?_
    rintro e w1 ⟨zs, A1, c1, rfl, hz, hr, hb1⟩
    obtain rfl : zs = [1] := Num.unique (by omega) hz num_one
    go_wp2_with fail
    refine (LA.out [1] A1 c1 _ _ hz hr).mono ?_
    rintro e w2 ⟨rfl, hb2⟩
    go_wp2_with fail
    go_ret2
    have k2 := hb1.trans (hb2.mono hb1.size)
    exact ⟨[1], _, _, rfl, num_one, res_one w2 k2.size, k2.alloc k2.size _⟩
  · have t2 : ((k : Int) == 0) = false := beq_eq_false_iff_ne.2 (by omega)
    go_enter Tryz.func55, Tryz.ntmps55
    go_wp2_with fail
    refine NA.out.mono ?_
    rintro e w1 ⟨zs, A1, c1, rfl, hz, hr, hb1⟩
    obtain rfl : zs = [1] := Num.unique (by omega) hz num_one
    go_wp2_with fail
    refine (LA.out [1] A1 c1 _ _ hz hr).mono ?_
    rintro e w2 ⟨rfl, hb2⟩
    go_wp2_with fail
    go_ret2
    have k2 := hb1.trans (hb2.mono hb1.size)
    exact ⟨[1], A1, c1, rfl, num_one, hr.below hb2 (Nat.le_refl _), k2⟩
set_option maxHeartbeats 6400000 in
theorem rpow_ok (h : Hv w A c xs a K) (hK : K ≤ 67108864) (k : Nat) (hb : 2 ≤ bitsOf a) (hs : bitsOf a * k ≤ 40000) : Calls Tryz.prog 55 #[.slice A xs.length c, .int .i64 (k : Int)] w fun e w' => PwE w w' (a ^ k) (.bool true) e := by
  have NA := Lib.hid (h.normP hK)
  have LA : Hid (∀ (zs : List Nat) (A1 : Option Addr) (c1 B9 : Nat) (W : World), Num 4294967296 zs a → Res W B9 61 A1 c1 (u32s zs) → Calls Tryz.prog 18 #[.slice A1 zs.length c1] W fun e w' => e = .returned (.int .i64 (bitsOf a : Nat)) ∧ Below W.heap.size W w') := fun zs A1 c1 B9 W hz hr =>
    (Hv.of (K := K) hz hr h.lt).lenP hK
  have LA2 : Hid (∀ (zs : List Nat) (A1 : Option Addr) (c1 : Nat) (wo W : World), Num 4294967296 zs a → Res wo w.heap.size 61 A1 c1 (u32s zs) → Below wo.heap.size wo W → Calls Tryz.prog 18 #[.slice A1 zs.length c1] W fun e w' => e = .returned (.int .i64 (bitsOf a : Nat)) ∧ Below W.heap.size W w') := fun zs A1 c1 wo W hz hr hW =>
    ((Hv.of (K := K) hz hr h.lt).next hW).lenP hK
  have hbl := bits_limbs h.lt
  have HAL := Lib.hid h.lt
  obtain ⟨N, hN1, hN2, hN3⟩ := pow_limbs hs
  have ha : 0 < a := by
    rcases Nat.eq_zero_or_pos a with h0 | h0
    · subst h0; revert hb; decide
    · exact h0
  have hkl : k ≤ 40000 := by
    have : 1 * k ≤ bitsOf a * k := Nat.mul_le_mul_right k (by omega)
    omega
  have hz0 : Hid (∀ zs, Num 4294967296 zs a → zs.length ≠ 0) := fun zs hz e => by
    have h1 : a = 0 := by rw [← hz.2.2, List.eq_nil_of_length_eq_zero e]; rfl
    omega
  have HPL : Hid (∀ i, i ≤ k → a ^ i < 4294967296 ^ N ∧ bitsOf (a ^ i) ≤ 64000) := fun i hi => by
    have h1 : a ^ i ≤ a ^ k := Nat.pow_le_pow_right ha hi
    refine ⟨by omega, ?_⟩
    have h2 := (bits_le_iff (n := a ^ k)).1 hN3
    have h3 : bitsOf (a ^ i) ≤ 32 * N := by rw [bits_le_iff]; omega
    omega
  obtain ⟨b, hbe⟩ : ∃ b, b = bitsOf a := ⟨_, rfl⟩
  rw [← hbe] at LA LA2 hb hbl hs
  obtain ⟨d, hd⟩ : ∃ d, b = d + 1 := ⟨b - 1, by omega⟩
  have e1 : (b : Int) - 1 = (d : Int) := by omega
  have e2 : (d : Int) * (k : Int) = ((d * k : Nat) : Int) := by simp
  have hm2 : d * k ≤ 40000 := Nat.le_trans (Nat.mul_le_mul_right k (by omega)) hs
  obtain ⟨m, hm⟩ : ∃ m, m = d * k := ⟨_, rfl⟩
  rw [← hm] at e2 hm2
  have t1 : ((b : Int) == 1) = false := beq_eq_false_iff_ne.2 (by omega)
  have t2 : decide (67108864 < (k : Int)) = false := decide_eq_false (by omega)
  have t3 : decide (67108864 ≤ (m : Int)) = false := decide_eq_false (by omega)
  clear h hbe hm hs hN2 hN3 hd
  go_enter Tryz.func55, Tryz.ntmps55
  go_wp2_with fail
  refine NA.out.mono ?_
  rintro e w1 ⟨zs, A1, c1, rfl, hz, hr, hb1⟩
  have t0 : ((zs.length : Int) == 0) = false := beq_eq_false_iff_ne.2 (by have := hz0.out zs hz; omega)
  go_wp2_with fail
  refine (LA.out zs A1 c1 _ _ hz hr).mono ?_
  rintro e w2 ⟨rfl, hb2⟩
  go_wp2_with fail
  refine (LA2.out zs A1 c1 w1 w2 hz hr hb2).mono ?_
  rintro e w3 ⟨rfl, hb3⟩
  have k2 := hb1.trans (hb2.mono hb1.size)
  have k3 := k2.trans (hb3.mono k2.size)
  have hr3 : Res w3 w.heap.size 61 A1 c1 (u32s zs) := (hr.below hb2 (Nat.le_refl _)).below hb3 (Nat.le_refl _)
  have HA : Hid (∀ W, Below w3.heap.size w3 W → Hv W A1 c1 zs a K) := fun W hW => (Hv.of (K := K) hz hr3 HAL.out).next hW
  clear hz hr hb1 hb2 hb3 k2 hr3 NA LA LA2
  go_wp2_with (simp only [])
  go_loopw [4, 5, 6, 7] (fun _ _ ov iv wr => ∃ (i : Nat) (zn : List Nat) (An : Option Addr) (cn : Nat), i ≤ k ∧ iv = .int .i64 (i : Int) ∧ ov = .slice An zn.length cn ∧ Num 4294967296 zn (a ^ i) ∧ Res wr w.heap.size 61 An cn (u32s zn) ∧ Below w.heap.size w wr ∧ Below w3.heap.size w3 wr) (fun _ _ _ iv _ => k - (intOf iv).toNat)
  case atStart => exact ⟨0, [1], _, _, Nat.zero_le _, rfl, rfl, num_one, res_one w3 k3.size, k3.alloc k3.size _, (Below.refl _ _).alloc (Nat.le_refl _) _⟩
  case round =>
    obtain ⟨i, zn, An, cn, hi, rfl, rfl, hz, hr, hbel, hbe3⟩ := hrel
    have KB := Lib.hid hbel
    have K3 := Lib.hid hbe3
    by_cases hlt : i < k
    · obtain ⟨hl1, hl2⟩ := HPL.out (i + 1) (by omega)
      rw [Nat.pow_succ] at hl1 hl2
      have M1 := Lib.hid ((Hv.of (K := N) hz hr (HPL.out i hi).1).rmulP (HA.out _ hbe3) (by omega) hK)
      obtain ⟨q, hq⟩ : ∃ q, q = a ^ i * a := ⟨_, rfl⟩
      rw [← hq] at M1 hl1 hl2
      obtain ⟨bq, hbq⟩ : ∃ bq, bq = bitsOf q := ⟨_, rfl⟩
      rw [← hbq] at hl2
      have LQ : Hid (∀ (zs : List Nat) (A1 : Option Addr) (c1 B9 : Nat) (W : World), Num 4294967296 zs q → Res W B9 61 A1 c1 (u32s zs) → Calls Tryz.prog 18 #[.slice A1 zs.length c1] W fun e w' => e = .returned (.int .i64 (bq : Nat)) ∧ Below W.heap.size W w') := fun zs A1 c1 B9 W hz hr => by
        rw [hbq]
        exact (Hv.of (K := N) hz hr hl1).lenP (by omega)
      have t5 : decide (67108864 < (bq : Int)) = false := decide_eq_false (by omega)
      have Hq := Lib.hid hq
      clear hz hr hbel hbe3 hl1 hq hbq
      go_wp2_with (first
        | (go_at_call 79; (with_reducible refine M1.out.mono ?_); rintro e w4 ⟨zq, A4, c4, rfl, hz4, hr4, hb4⟩)
        | (go_at_call 18; (with_reducible refine (LQ.out zq A4 c4 _ _ hz4 hr4).mono ?_); rintro e w5 ⟨rfl, hb5⟩))
      have k4 := KB.out.trans (hb4.mono KB.out.size)
      have k5 := k4.trans (hb5.mono k4.size)
      have s3 := K3.out.size
      have j4 := K3.out.trans (hb4.mono s3)
      have j5 := j4.trans (hb5.mono j4.size)
      go_roundw
      case rel => exact ⟨i + 1, zq, A4, c4, by omega, by go_num, rfl, by rw [Nat.pow_succ, ← Hq.out]; exact hz4, (hr4.below hb5 (Nat.le_refl _)).mono KB.out.size, k5, j5⟩
      case measure => simp [intOf]; omega
    · obtain rfl : i = k := by omega
      have Hz := Lib.hid hz
      clear hz hbel hbe3
      go_wp2_with fail
      go_ret2
      exact ⟨zn, An, cn, rfl, Hz.out, hr, KB.out⟩
/-- Where a power is told: it is 1, a number below 2, or has few bits. -/
def PwS (a k : Nat) : Prop := k = 0 ∨ bitsOf a ≤ 1 ∨ bitsOf a * k ≤ 40000
theorem PwS.limbs {a k : Nat} (h : PwS a k) : ∃ J, J ≤ 2000 ∧ a ^ k < 4294967296 ^ J := by
  by_cases hk : k = 0
  · subst hk; exact ⟨1, by omega, by simp⟩
  · by_cases hb : bitsOf a ≤ 1
    · refine ⟨1, by omega, ?_⟩
      rw [small_pow hk hb]
      have := (bits_le_iff (n := a) (b := 1)).1 hb
      omega
    · obtain ⟨J, h1, h2, _⟩ := pow_limbs ((h.resolve_left hk).resolve_left hb)
      exact ⟨J, h1, h2⟩
theorem npow_all (h : Hv w A c xs a K) (hK : K ≤ 67108863) (k : Nat) (hk : k < 9223372036854775808) (hs : PwS a k) (hT : Tab32 w) (hTB : 1 < w.heap.size) : Calls Tryz.prog 54 #[.slice A xs.length c, .int .i64 (k : Int)] w fun e w' => PwE w w' (a ^ k) (.int .i64 0) e := by
  by_cases hk0 : k = 0
  · subst hk0; exact npow_zero h (by omega)
  · by_cases hb : bitsOf a ≤ 1
    · exact npow_little h (by omega) k hk0 hk hb
    · exact npow_ok h hK k hk0 (by omega) ((hs.resolve_left hk0).resolve_left hb) hT hTB
theorem rpow_all (h : Hv w A c xs a K) (hK : K ≤ 67108863) (k : Nat) (hk : k < 9223372036854775808) (hs : PwS a k) : Calls Tryz.prog 55 #[.slice A xs.length c, .int .i64 (k : Int)] w fun e w' => PwE w w' (a ^ k) (.bool true) e := by
  by_cases hb : bitsOf a ≤ 1
  · have h1 := (bits_le_iff (n := a) (b := 1)).1 hb
    have h2 : a = 0 ∨ a = 1 := by omega
    rcases h2 with rfl | rfl
    · exact rpow_zero h (by omega) k hk
    · exact rpow_one h (by omega) k hk
  · rcases hs with rfl | h1 | h1
    · exact rpow_ok h (by omega) 0 (by omega) (by omega)
    · exact absurd h1 hb
    · exact rpow_ok h (by omega) k (by omega) h1
theorem rpow_much (h : Hv w A c xs a K) (hK : K ≤ 67108864) (k : Nat) (hk : k < 9223372036854775808) (hb : 2 ≤ bitsOf a) (hbig : 67108864 ≤ k * (bitsOf a - 1)) : Calls Tryz.prog 55 #[.slice A xs.length c, .int .i64 (k : Int)] w fun e w' => PwF w w' (.bool false) e := by
  by_cases h1 : k ≤ 67108864
  · exact rpow_big2 h hK k h1 hb hbig
  · exact rpow_big1 h hK k (by omega) hk hb
end
end
end Go.Proofs.YtanlejlmckdeiaaGreatDoor
