/- The walk of Right where something is left. -/
import Derived.Test.YtogkfpbapjjgfaaShiftU
namespace Go.Proofs.Ytogkfpbapjjgfaa
open Go.RowKit

theorem val_drop {b : Nat} (hb : 0 < b) (xs : List Nat) (d : Nat) (hd : Dig b xs) : val b (xs.drop d) = val b xs / b ^ d := by
  induction d generalizing xs with
  | zero => simp
  | succ d ih =>
    cases xs with
    | nil => simp [val]
    | cons x xs =>
      rw [List.drop_succ_cons, ih xs hd.tail_]
      simp only [val]
      rw [Nat.pow_succ, Nat.mul_comm (b ^ d) b, ← Nat.div_div_eq_div_mul, Nat.add_mul_div_left _ _ hb, Nat.div_eq_of_lt hd.head_, Nat.zero_add]

/-- One limb of a number over 2^s. -/
theorem drop_limb (x V s : Nat) (hx : x < 4294967296) (hs : s < 32) : (x + 4294967296 * V) / 2 ^ s = (V % 4294967296 * 4294967296 + x) / 2 ^ s % 4294967296 + 4294967296 * (V / 2 ^ s) := by
  have hp : 0 < 2 ^ s := Nat.two_pow_pos s
  have e32 : (4294967296 : Nat) = 2 ^ s * 2 ^ (32 - s) := by rw [← Nat.pow_add, show s + (32 - s) = 32 from by omega]
  have h1 : (x + 4294967296 * V) / 2 ^ s / 4294967296 = V / 2 ^ s := by
    rw [Nat.div_div_eq_div_mul, Nat.mul_comm (2 ^ s), ← Nat.div_div_eq_div_mul, Nat.add_mul_div_left _ _ (by omega), Nat.div_eq_of_lt hx, Nat.zero_add]
  have h2 : (x + 4294967296 * V) / 2 ^ s % 4294967296 = (V % 4294967296 * 4294967296 + x) / 2 ^ s % 4294967296 := by
    have hV := Nat.mod_add_div V 4294967296
    have e : x + 4294967296 * V = (V % 4294967296 * 4294967296 + x) + 2 ^ s * (4294967296 * (2 ^ (32 - s) * (V / 4294967296))) := by
      have : 2 ^ s * (4294967296 * (2 ^ (32 - s) * (V / 4294967296))) = 4294967296 * (4294967296 * (V / 4294967296)) := by
        rw [← Nat.mul_assoc, Nat.mul_comm (2 ^ s), Nat.mul_assoc, ← Nat.mul_assoc (2 ^ s), ← e32]
      rw [this]
      generalize V / 4294967296 = q at *
      generalize V % 4294967296 = r at *
      omega
    rw [e, Nat.add_mul_div_left _ _ hp, Nat.add_mul_mod_self_left]
  have := Nat.mod_add_div ((x + 4294967296 * V) / 2 ^ s) 4294967296
  rw [h1, h2] at this
  exact this.symm

/-- What Right's row and carry are when the limbs from k on are told. -/
def Dropped (ps : List Nat) (d s k : Nat) (zs : List Nat) (c : Nat) : Prop :=
  Dig 4294967296 zs ∧ zs.length = ps.length - d ∧ c < 18446744073709551616 ∧ c % 4294967296 = val 4294967296 (ps.drop (d + k)) % 4294967296 ∧ val 4294967296 (zs.drop k) = val 4294967296 (ps.drop (d + k)) / 2 ^ s
theorem Dropped.start (ps : List Nat) (d s : Nat) (h : d ≤ ps.length) : Dropped ps d s (ps.length - d) (List.replicate (ps.length - d) 0) 0 :=
  ⟨Dig.zeros_ (by omega) _, by simp, by omega, by rw [show d + (ps.length - d) = ps.length from by omega]; simp [val], by rw [show d + (ps.length - d) = ps.length from by omega]; simp [val]⟩
theorem Dropped.step {ps zs : List Nat} {d s k c : Nat} (h : Dropped ps d s (k + 1) zs c) (hk : d + k < ps.length) (hx : ps[d + k] < 4294967296) (hs : s < 32) :
    Dropped ps d s k (zs.set k ((c % 4294967296 * 4294967296 + ps[d + k]) / 2 ^ s % 4294967296)) (c % 4294967296 * 4294967296 + ps[d + k]) := by
  obtain ⟨h1, h2, h3, h4, h5⟩ := h
  have e1 : ps.drop (d + k) = ps[d + k] :: ps.drop (d + (k + 1)) := List.drop_eq_getElem_cons hk
  have hkz : k < zs.length := by omega
  refine ⟨h1.set_ _ _ (Nat.mod_lt _ (by omega)), by simpa using h2, by omega, ?_, ?_⟩
  · rw [e1]
    simp only [val]
    rw [Nat.add_mul_mod_self_left]; omega
  · have e2 : (zs.set k ((c % 4294967296 * 4294967296 + ps[d + k]) / 2 ^ s % 4294967296)).drop k = ((c % 4294967296 * 4294967296 + ps[d + k]) / 2 ^ s % 4294967296) :: zs.drop (k + 1) := by
      rw [List.drop_eq_getElem_cons (by simpa using hkz)]
      simp [List.getElem_set, List.drop_set]
    rw [e1, e2]
    simp only [val]
    rw [h5, h4, drop_limb _ _ _ hx hs]

set_option maxHeartbeats 800000 in
theorem right_walk (A : Option Addr) (c : Nat) (xs ps : List Nat) (n d s : Nat) (w : World) (B : Nat) (hr : Rd w B A (u32s xs)) (hB : B ≤ w.heap.size) (hc : xs.length ≤ c) (hps : ps = trimL xs) (hd : Dig 4294967296 ps) (hn : n = 32 * d + s) (hs : s < 32) (hdl : d < ps.length) (hm : xs.length ≤ 70368744177664) :
    Calls Try.prog 20 #[.slice A xs.length c, .int .i64 (n : Int)] w fun e w' => ∃ zs A' c', e = .returned (.tuple #[.slice A' zs.length c', .int .i64 0]) ∧ Num 4294967296 zs (val 4294967296 ps / 2 ^ n) ∧ Res w' w.heap.size 34 A' c' (u32s zs) ∧ Below w.heap.size w w' := by
  have hl := trimL_length_le xs
  rw [← hps] at hl
  have hrt : Rd w B A (u32s ps) := by rw [hps, u32s_trim]; exact hr.take _
  obtain ⟨m, hme⟩ : ∃ m, m = ps.length - d := ⟨_, rfl⟩
  have hmp : (ps.length : Int) - (d : Int) = (m : Int) := by omega
  have hmk := fun W => mk32 m (by omega) W
  have hml : Hid (m = ps.length - d) := hme
  have q1 : (n : Int) / 32 = (d : Int) := by omega
  have q2 : (n : Int) % 32 = (s : Int) := by omega
  have nb : n < 9223372036854775807 := by omega
  have t0 : decide (ps.length ≤ d) = false := by simp; omega
  have hmb : m ≤ 70368744177664 := by omega
  have hm0 : 0 < m := by omega
  have hmm : xs.length ≤ 281474976710656 := by omega
  have Hn := Lib.hid hn
  have Hps := Lib.hid hps
  clear hn hps hme
  go_enter Try.func20, Try.ntmps20
  go_wp2_with (first
    | (go_at_call 27; (with_reducible refine (trim_any A c xs _ B hr hc hmm).mono ?_); rintro e w' ⟨rfl, rfl⟩; rw [← Hps.out])
    | (go_at_call 41; (with_reducible refine (dropper_any _ _).mono ?_); rintro e w1 ⟨rfl, hbn, hbc, hsz, hbel⟩))
  rw [size_alloc] at hbn hbc hsz hbel
  have hblk0 : Blk w1 w.heap.size 34 (u32s (List.replicate m 0)) := by
    have h0 : Blk (w.alloc (.cells (Array.replicate m (Value.int .u32 0)) 34)) w.heap.size 34 (u32s (List.replicate m 0)) := Blk.new_ (by simp [u32s])
    exact h0.below hbel (by omega)
  have hbel1 : Below w.heap.size w w1 := ((Below.refl _ _).alloc (Nat.le_refl _) _).trans (hbel.mono (by omega))
  clear hbel hsz
  go_loopw [8] (fun i wr => ∃ (k cc : Nat) (zs : List Nat), k ≤ m ∧ i = .int .i64 ((k : Int) - 1) ∧ Blk wr w.heap.size 34 (u32s zs) ∧ Blk wr (w.heap.size + 1) 57 [.int .u64 (s : Int)] ∧ Blk wr (w.heap.size + 1 + 1) 44 [.int .u64 (cc : Int)] ∧ Dropped ps d s k zs cc ∧ Below w.heap.size w wr) (fun i _ => (intOf i + 1).toNat)
  case atStart => exact ⟨m, 0, _, Nat.le_refl _, rfl, hblk0, hbn, hbc, by rw [hml.out]; exact Dropped.start ps d s (by omega), hbel1⟩
  case round =>
    clear hblk0 hbn hbc hbel1
    obtain ⟨k, cc, zs, hk, rfl, hblk, hbn, hbc, hsh, hbel⟩ := hrel
    have hzm : zs.length = m := by rw [hsh.2.1]; exact hml.out.symm
    rcases k with _ | k
    · have hrd := (Res.of_blk0 hblk (Nat.le_refl _) (by rw [u32s_length]; omega)).rd
      have Hzm := Lib.hid hzm
      clear hzm
      have hzb : zs.length ≤ 281474976710656 := by have := Hzm.out; omega
      go_wp2_with (go_at_call 27; rw [← Hzm.out]; refine (trim_any _ _ zs _ _ hrd (Nat.le_refl _) hzb).mono ?_; rintro e w3 ⟨rfl, rfl⟩)
      go_ret2
      refine ⟨trimL zs, _, _, rfl, ?_, ?_, hbel⟩
      · have hz := Num.of_trim hsh.1
        have h5 := hsh.2.2.2.2
        rw [List.drop_zero, Nat.add_zero, val_drop (by omega) ps d hd, show (4294967296 : Nat) ^ d = 2 ^ (32 * d) from by rw [Nat.pow_mul], Nat.div_div_eq_div_mul, ← Nat.pow_add, ← Hn.out] at h5
        rw [h5] at hz
        exact hz
      · have h3 := (Res.of_blk0 hblk (Nat.le_refl _) (by rw [u32s_length]; omega)).take (trimL zs).length
        rw [← u32s_trim, u32s_length] at h3
        exact h3
    · rw [show ((k + 1 : Nat) : Int) - 1 = (k : Int) from by omega]
      have hdk : d + k < ps.length := by have := hml.out; omega
      obtain ⟨b, off, rfl, hb, hcell⟩ := hrt (by intro e; have := u32s_length ps; rw [e] at this; simp at this; omega)
      have hx := (hbel.cell (p := ⟨b, off + (d + k), none⟩) (show b < _ by omega)).trans (hcell (d + k) _ (u32s_at hdk))
      have hxd := hd.at_ (d + k) hdk
      have hcc := hsh.2.2.1
      have hz1 : k < zs.length := by omega
      have Hzm := Lib.hid hzm
      clear hcell hzm
      have Hcc := Lib.hid hcc
      clear hcc
      go_wp2_with (go_at_call 56; (with_reducible refine (dropper1_any _ cc s _ _ _ hs hxd Hcc.out hbc hbn (by omega)).mono ?_); rintro e w2 ⟨rfl, hg2, hch⟩; have hq2 := hblk.ch hch (by omega); have hc2 := (hq2.cell k).trans (u32s_at hz1); have hf2 := hq2.frozen k)
      go_roundw
      case rel =>
        refine ⟨k, _, _, by omega, by go_num, ?_, (hbn.ch hch (by omega)).far (p := ⟨w.heap.size, k, none⟩) (by simp) _, hg2.far (p := ⟨w.heap.size, k, none⟩) (by simp; omega) _, hsh.step hdk hxd hs, (hbel.trans (hch.below (by omega))).setCell (p := ⟨w.heap.size, k, none⟩) (Nat.le_refl _) _⟩
        have hb2 := hq2.set_ k (Value.int IntKind.u32 (((cc % 4294967296 * 4294967296 + ps[d + k]) / 2 ^ s % 4294967296 : Nat) : Int))
        rw [u32s_set] at hb2
        exact hb2
      case measure => simp [intOf]
end Go.Proofs.Ytogkfpbapjjgfaa
