/- The contracts of TrailingZeros32, of the reference's Of and Bit, and of Uint64, Bit and the two Trails. Conditions: words; the table reads as it is laid. -/
import Derived.Test.YtogkfpbapjjgfaaDoorPlace
import Derived.Test.YtogkfpbapjjgfaaDoorOfLen
import Derived.Shelf.Spec.TrailingZeros
namespace Go.Proofs.YtogkfpbapjjgfaaDoor
open Go.RowKit

/-- The table of the library. -/
def Tab32 (w : World) : Prop := TabAt 0 Lib.deBruijn32tab w
theorem Tab32.below {w w' : World} {B : Nat} (h : Tab32 w) (hb : Below B w w') (hB : 0 < B) : Tab32 w' := fun j hj => (hb.cell (p := ⟨_, j, none⟩) hB).trans (h j hj)
theorem Tab32.dr {w w' : World} (h : Tab32 w) (hd : Dr w w') : Tab32 w' := by
  obtain ⟨n, rfl⟩ := hd
  exact h

set_option maxHeartbeats 800000 in
theorem tz32_any (x : Nat) (hx : x < 4294967296) (h0 : x ≠ 0) (w : World) (hT : Tab32 w) :
    Calls Tryd.prog 42 #[.int .u32 (x : Int)] w fun e w' => e = .returned (.int .i64 (Lib.ctz 32 x : Nat)) ∧ w = w' := by
  obtain ⟨hlow, hk⟩ := Lib.lowest_bit 32 x h0 hx
  obtain ⟨hi, htab⟩ := Lib.deBruijn32_at _ hk
  have hcell := hT _ hi
  rw [htab] at hcell
  have key := tz32_key x _ hx h0 hlow
  obtain ⟨k, hke⟩ : ∃ k, k = Lib.ctz 32 x := ⟨_, rfl⟩
  obtain ⟨idx, hidx⟩ : ∃ idx, idx = 2 ^ k * 125613361 % 4294967296 / 134217728 := ⟨_, rfl⟩
  rw [← hke, ← hidx] at hi hcell key
  rw [← hke] at hk ⊢
  have hx0 : ((x : Int) == 0) = false := by simp; omega
  clear hlow htab hT hke hidx h0
  go_enter Tryd.func42, Tryd.ntmps42
  go_wp2_with (simp only [key])
  go_ret
  exact ⟨rfl, rfl⟩

set_option maxHeartbeats 400000 in
theorem rof_any (n : Nat) (h : n < 18446744073709551616) (w : World) :
    Calls Tryd.prog 13 #[.int .u64 (n : Int)] w fun e w' => ∃ zs A' c', e = .returned (.slice A' zs.length c') ∧ Num 4294967296 zs n ∧ Res w' w.heap.size 31 A' c' (u32s zs) ∧ Below w.heap.size w w' := by
  have e1 : IntKind.u32.wrap ((n : Int) % 4294967296) = ((n % 4294967296 : Nat) : Int) := by rw [Go.Proofs.wrap_u32']; omega
  have e2 : IntKind.u32.wrap ((n : Int) / 4294967296) = ((n / 4294967296 : Nat) : Int) := by rw [Go.Proofs.wrap_u32']; omega
  obtain ⟨a, ha⟩ : ∃ a, a = n % 4294967296 := ⟨_, rfl⟩
  obtain ⟨b, hb⟩ : ∃ b, b = n / 4294967296 := ⟨_, rfl⟩
  rw [← ha] at e1
  rw [← hb] at e2
  have hab : Hid (n = a + 4294967296 * b ∧ a < 4294967296 ∧ b < 4294967296) := by constructor <;> omega
  clear ha hb
  go_enter Tryd.func13, Tryd.ntmps13
  go_wp2_with (first | (simp only [e1, e2]) | (simp only [e1]) | (simp only [e2]))
  have hblk : Blk (w.alloc (.cells #[.int .u32 (a : Int), .int .u32 (b : Int)] 31)) w.heap.size 31 (u32s [a, b]) := Blk.new_ rfl
  obtain ⟨h1, h2, h3⟩ := hab.out
  have hd : Dig 4294967296 [a, b] := Dig.cons_ h2 (Dig.cons_ h3 (Dig.nil_ _))
  refine (rnorm_any (some ⟨w.heap.size, 0, none⟩) 2 [a, b] _ (w.heap.size + 1) ?_ ?_ ?_).mono ?_
  · exact Rd.of_blk hblk (by omega) 0 (fun k v hv => by rw [Nat.zero_add]; exact hv)
  · simp
  · simp
  rintro e w' ⟨A', c', rfl, hres, hb⟩
  go_wp2
  go_ret
  have hz : (w.alloc (.cells #[.int .u32 (a : Int), .int .u32 (b : Int)] 31)).heap.size = w.heap.size + 1 := by simp
  rw [hz] at hres hb
  exact ⟨_, A', c', rfl, by rw [h1]; simpa [val] using Num.of_trim hd, hres.mono (by omega), ((Below.refl _ _).alloc (Nat.le_refl _) _).trans (hb.mono (by omega))⟩

/-- What Uint64 answers. -/
def u64Of (xs : List Nat) : Nat := if (trimL xs).length ≤ 2 then val 4294967296 xs else 0
set_option maxHeartbeats 400000 in
theorem uint64_any (A : Option Addr) (c : Nat) (xs : List Nat) (w : World) (B : Nat) (hr : Rd w B A (u32s xs)) (hd : Dig 4294967296 xs) (hc : xs.length ≤ c) (hm : xs.length ≤ 281474976710656) :
    Calls Tryd.prog 10 #[.slice A xs.length c] w fun e w' => e = .returned (.tuple #[.int .u64 (u64Of xs : Nat), .bool (decide ((trimL xs).length ≤ 2))]) ∧ Dr w w' := by
  have hl := trimL_length_le xs
  have hrt : Rd w B A (u32s (trimL xs)) := by rw [u32s_trim]; exact hr.take _
  have hdt := hd.trim_
  have hvt := val_trim 4294967296 xs
  obtain ⟨u, hu⟩ : ∃ u, u = u64Of xs := ⟨_, rfl⟩
  rw [← hu]
  unfold u64Of at hu
  obtain ⟨ps, hps⟩ : ∃ ps, ps = trimL xs := ⟨_, rfl⟩
  rw [← hps] at hl hrt hdt hvt hu ⊢
  have Htrim := Lib.hid (fun W (h : Rd W B A (u32s xs)) => trim_any A c xs W B h hc (by omega))
  rw [← hps] at Htrim
  by_cases h2 : ps.length ≤ 2
  · have t1 : decide ((2 : Int) < (ps.length : Int)) = false := by simp; omega
    rw [if_pos h2] at hu
    have Hu := Lib.hid hu
    have Ht2 := Lib.hid (show decide (ps.length ≤ 2) = true by simpa using h2)
    rw [Ht2.out]
    have Hrt := Lib.hid hrt
    have Hdt := Lib.hid hdt
    have Hh2 := Lib.hid h2
    have Hvt := Lib.hid hvt
    clear hu hps hrt hdt h2 hvt
    go_enter Tryd.func10, Tryd.ntmps10
    go_wp2_with (first
      | (go_at_call 37; (with_reducible refine (Htrim.out _ hr).mono ?_); rintro e w' ⟨rfl, rfl⟩)
      | (go_at_call 38; (with_reducible refine (word_any _ _ ps _ _ Hrt.out Hdt.out Hh2.out).mono ?_); rintro e w' ⟨rfl, hdr⟩))
    go_ret2
    exact ⟨by rw [Hu.out, Hvt.out]; rfl, hdr⟩
  · have t1 : decide ((2 : Int) < (ps.length : Int)) = true := by simp; omega
    rw [if_neg h2] at hu
    subst hu
    rw [show decide (ps.length ≤ 2) = false by simpa using h2]
    clear hps hrt hdt h2 hvt
    go_enter Tryd.func10, Tryd.ntmps10
    go_wp2_with (go_at_call 37; (with_reducible refine (Htrim.out _ hr).mono ?_); rintro e w' ⟨rfl, rfl⟩)
    go_ret2
    exact ⟨rfl, Dr.refl _⟩

/-- A bit, of any place. -/
def bitOf (xs : List Nat) (i : Int) : Nat := if i < 0 then 0 else bitAt xs i.toNat
theorem bitAt_le (xs : List Nat) (i : Nat) : bitAt xs i < 2 := Nat.mod_lt _ (by omega)
theorem bitAt_out {xs : List Nat} {i : Nat} (h : 32 * xs.length ≤ i) : bitAt xs i = 0 := by
  unfold bitAt
  rw [at0_out (by omega)]; simp

theorem shr_nat (x t : Nat) : (x : Int) / 2 ^ t = ((x / 2 ^ t : Nat) : Int) := by rw [Int.natCast_ediv, Int.natCast_pow]; rfl
theorem one_bit (x : Nat) (h : x < 18446744073709551616) : bits .and .u64 (x : Int) 1 = ((x % 2 : Nat) : Int) := by
  have := bits_and_u64_nat x 1 h (by omega)
  rw [show ((1 : Nat) : Int) = 1 from rfl] at this
  rw [this, Nat.and_one_is_mod]
theorem one_bitw (x : Nat) (h : x < 18446744073709551616) : bits .and .u64 (IntKind.u64.wrap (x : Int)) 1 = ((x % 2 : Nat) : Int) := by
  rw [show IntKind.u64.wrap (x : Int) = (x : Int) from by rw [IntKind.wrap_u64]; omega, one_bit _ h]

set_option maxHeartbeats 800000 in
theorem bit_any (A : Option Addr) (c : Nat) (xs : List Nat) (i : Int) (w : World) (B : Nat) (hr : Rd w B A (u32s xs)) (hd : Dig 4294967296 xs) (hm : xs.length ≤ 281474976710656) (hi : i ≤ 9223372036854775807) :
    Calls Tryd.prog 16 #[.slice A xs.length c, .int .i64 i] w fun e w' => e = .returned (.int .u64 (bitOf xs i : Nat)) ∧ Dr w w' := by
  obtain ⟨b0, hb0⟩ : ∃ b0, b0 = bitOf xs i := ⟨_, rfl⟩
  rw [← hb0]
  unfold bitOf at hb0
  rcases Int.lt_or_le i 0 with h0 | h0
  · rw [if_pos h0] at hb0
    subst hb0
    have t0 : decide (i < 0) = true := decide_eq_true h0
    go_enter Tryd.func16, Tryd.ntmps16
    go_wp2_with fail
    go_ret
    exact ⟨rfl, Dr.refl _⟩
  · rw [if_neg (by omega)] at hb0
    obtain ⟨n, rfl⟩ := Int.eq_ofNat_of_zero_le h0
    rw [Int.toNat_natCast] at hb0
    have t0 : decide ((n : Int) < 0) = false := by simp
    obtain ⟨k, t, hn, ht⟩ : ∃ k t, n = 32 * k + t ∧ t < 32 := ⟨n / 32, n % 32, by omega, by omega⟩
    have q1 : (n : Int) / 32 = (k : Int) := by omega
    have q2 : (n : Int) % 32 = (t : Int) := by omega
    rw [hn] at hb0
    clear hn
    by_cases hlt : k < xs.length
    · have t1 : decide ((xs.length : Int) ≤ (k : Int)) = false := by simp; omega
      rw [bitAt_in hlt ht] at hb0
      obtain ⟨b, off, rfl, hb, hcell⟩ := hr (by intro e; have := u32s_length xs; rw [e] at this; simp at this; omega)
      have hx := hcell k _ (u32s_at hlt)
      have hxd := hd.at_ k hlt
      obtain ⟨x, hxe⟩ : ∃ x, x = xs[k] := ⟨_, rfl⟩
      rw [← hxe] at hx hxd hb0
      have Hb0 := Lib.hid hb0
      have Ht := Lib.hid ht
      have hps : Hid (x / 2 ^ t < 4294967296) := by show _ < _; have := Nat.div_le_self x (2 ^ t); omega
      clear hcell hr hxe hb0
      go_enter Tryd.func16, Tryd.ntmps16
      go_wp2_with (first | (simp only [q1, q2]) | (simp only [q1]) | (simp only [q2]))
      go_ret
      refine ⟨?_, Dr.refl _⟩
      rw [Hb0.out]
      have hq := hps.out
      show Ending.returned (.int .u64 (bits .and .u64 (IntKind.u64.wrap ((x : Int) / 2 ^ t)) 1)) = _
      rw [shr_nat, one_bitw _ (by omega)]
    · rw [bitAt_out (by omega)] at hb0
      subst hb0
      have t1 : decide ((xs.length : Int) ≤ (k : Int)) = true := by simp; omega
      go_enter Tryd.func16, Tryd.ntmps16
      go_wp2_with (first | (simp only [q1, q2]) | (simp only [q1]) | (simp only [q2]))
      go_ret
      exact ⟨rfl, Dr.refl _⟩

set_option maxHeartbeats 800000 in
theorem rbit_any (A : Option Addr) (c : Nat) (xs : List Nat) (i : Int) (w : World) (B : Nat) (hr : Rd w B A (u32s xs)) (hd : Dig 4294967296 xs) (hm : xs.length ≤ 281474976710656) (hi : i ≤ 9223372036854775807) :
    Calls Tryd.prog 17 #[.slice A xs.length c, .int .i64 i] w fun e w' => e = .returned (.int .u64 (bitOf xs i : Nat)) ∧ w = w' := by
  obtain ⟨b0, hb0⟩ : ∃ b0, b0 = bitOf xs i := ⟨_, rfl⟩
  rw [← hb0]
  unfold bitOf at hb0
  rcases Int.lt_or_le i 0 with h0 | h0
  · rw [if_pos h0] at hb0
    subst hb0
    have t0 : decide (i < 0) = true := decide_eq_true h0
    go_enter Tryd.func17, Tryd.ntmps17
    go_wp2_with fail
    go_ret
    exact ⟨rfl, rfl⟩
  · rw [if_neg (by omega)] at hb0
    obtain ⟨n, rfl⟩ := Int.eq_ofNat_of_zero_le h0
    rw [Int.toNat_natCast] at hb0
    have t0 : decide ((n : Int) < 0) = false := by simp
    obtain ⟨k, t, hn, ht⟩ : ∃ k t, n = 32 * k + t ∧ t < 32 := ⟨n / 32, n % 32, by omega, by omega⟩
    have q1 : (n : Int) / 32 = (k : Int) := by omega
    have q2 : (n : Int) % 32 = (t : Int) := by omega
    unfold bitAt at hb0
    rw [show n / 32 = k from by omega, show n % 32 = t from by omega] at hb0
    have hkb : k ≤ 9223372036854775807 := by omega
    clear hn
    have hxd := at0_lt hd k
    have Hlimb := Lib.hid (fun W (h : Rd W B A (u32s xs)) => limb_any A c xs k W B h hd hm hkb)
    obtain ⟨x, hxe⟩ : ∃ x, x = at0 xs k := ⟨_, rfl⟩
    rw [← hxe] at hxd hb0 Hlimb
    have Hb0 := Lib.hid hb0
    clear hxe hb0
    go_enter Tryd.func17, Tryd.ntmps17
    go_wp2_with (first
      | (go_at_call 41; (with_reducible refine (Hlimb.out _ hr).mono ?_); rintro e w' ⟨rfl, rfl⟩)
      | (simp only [q1, q2]) | (simp only [q1]) | (simp only [q2]))
    go_ret
    refine ⟨?_, rfl⟩
    rw [Hb0.out]
    show Ending.returned (.int .u64 (((x : Int) / 2 ^ t).tmod 2)) = _
    rw [shr_nat, Int.tmod_eq_emod_of_nonneg (Int.natCast_nonneg _)]
    rfl

set_option maxHeartbeats 800000 in
theorem trail_any (A : Option Addr) (c : Nat) (xs : List Nat) (w : World) (B : Nat) (hr : Rd w B A (u32s xs)) (hd : Dig 4294967296 xs) (hm : xs.length ≤ 281474976710656) (hT : Tab32 w) :
    Calls Tryd.prog 18 #[.slice A xs.length c] w fun e w' => ∃ t : Nat, e = .returned (.int .i64 (t : Int)) ∧ TrailIs xs t ∧ w = w' := by
  go_enter Tryd.func18, Tryd.ntmps18
  go_wp2
  go_loopw [3, 4, 7] (fun _ _ i wr => ∃ k : Nat, k ≤ xs.length ∧ i = .int .i64 k ∧ wr = w ∧ ∀ j, j < k → at0 xs j = 0) (fun _ _ i _ => xs.length - (intOf i).toNat)
  case atStart => exact ⟨0, by omega, rfl, rfl, fun j hj => by omega⟩
  case round =>
    obtain ⟨k, hk, rfl, rfl, hz⟩ := hrel
    by_cases hlt : k < xs.length
    · obtain ⟨b, off, rfl, hb, hcell⟩ := hr (by intro e; have := u32s_length xs; rw [e] at this; simp at this; omega)
      have hx := hcell k _ (u32s_at hlt)
      have hxd := hd.at_ k hlt
      have Hz := Lib.hid hz
      by_cases h0 : xs[k] = 0
      · rw [h0] at hx
        have H0 := Lib.hid h0
        clear h0 hxd hcell hr hz
        go_wp2
        go_roundw
        case rel => exact ⟨k + 1, by omega, by go_num, by trivial, fun j hj => by
          rcases Nat.lt_or_ge j k with h | h
          · exact Hz.out j h
          · obtain rfl : j = k := by omega
            rw [at0_in hlt]; exact H0.out⟩
        case measure => simp [intOf]; omega
      · have Htr := Lib.hid (trail_at hlt hz (low_of h0 hxd))
        have Htz := Lib.hid (tz32_any xs[k] hxd h0 wr hT)
        have hctl := (low_of h0 hxd).lt
        obtain ⟨t, ht⟩ : ∃ t, t = Lib.ctz 32 xs[k] := ⟨_, rfl⟩
        rw [← ht] at Htr Htz hctl
        obtain ⟨x, hxe⟩ : ∃ x, x = xs[k] := ⟨_, rfl⟩
        rw [← hxe] at hx Htz h0 hxd
        have t1 : ((x : Int) == 0) = false := by simp; omega
        clear hcell hr hz ht hxe h0
        go_wp2_with (go_at_call 42; (with_reducible refine Htz.out.mono ?_); rintro e w' ⟨rfl, rfl⟩)
        go_ret
        exact ⟨32 * k + t, by simp, Htr.out, rfl⟩
    · obtain rfl : k = xs.length := by omega
      have Hz := Lib.hid hz
      clear hz
      go_wp2
      go_ret
      exact ⟨0, rfl, trail_none Hz.out, rfl⟩

theorem trail_exists (xs : List Nat) : ∃ t, TrailIs xs t := by
  have h : ∀ m, (∀ j, j < m → bitAt xs j ≠ 1) ∨ ∃ t, t < m ∧ bitAt xs t = 1 ∧ ∀ j, j < t → bitAt xs j ≠ 1 := by
    intro m
    induction m with
    | zero => exact Or.inl fun j hj => by omega
    | succ m ih =>
      rcases ih with ih | ⟨t, h1, h2, h3⟩
      · by_cases hb : bitAt xs m = 1
        · exact Or.inr ⟨m, by omega, hb, ih⟩
        · refine Or.inl fun j hj => ?_
          rcases Nat.lt_or_ge j m with h | h
          · exact ih j h
          · obtain rfl : j = m := by omega
            exact hb
      · exact Or.inr ⟨t, by omega, h2, h3⟩
  rcases h (32 * xs.length) with h | ⟨t, h1, h2, h3⟩
  · exact ⟨0, Or.inr ⟨rfl, h⟩⟩
  · exact ⟨t, Or.inl ⟨h1, h2, h3⟩⟩
theorem TrailIs.unique {xs : List Nat} {s t : Nat} (h : TrailIs xs s) (k : TrailIs xs t) : s = t := by
  rcases h with ⟨a, b, c⟩ | ⟨rfl, c⟩ <;> rcases k with ⟨a', b', c'⟩ | ⟨rfl, c'⟩
  · rcases Nat.lt_trichotomy s t with h | h | h
    · exact absurd b (c' s h)
    · exact h
    · exact absurd b' (c t h)
  · exact absurd b (c' s a)
  · exact absurd b' (c t a')
  · rfl
theorem trail_fix (A : Option Addr) (c : Nat) (xs : List Nat) (t : Nat) (ht : TrailIs xs t) (w : World) (B : Nat) (hr : Rd w B A (u32s xs)) (hd : Dig 4294967296 xs) (hm : xs.length ≤ 281474976710656) (hT : Tab32 w) :
    Calls Tryd.prog 18 #[.slice A xs.length c] w fun e w' => e = .returned (.int .i64 (t : Int)) ∧ w = w' :=
  (trail_any A c xs w B hr hd hm hT).mono fun e w' ⟨s, he, hs, hw⟩ => ⟨by rw [he, hs.unique ht], hw⟩
theorem TrailIs.lt_ {xs : List Nat} {t k : Nat} (h : TrailIs xs t) (hk : k < 32 * xs.length) (hz : ∀ j, j < k → bitAt xs j ≠ 1) (h1 : bitAt xs k = 1) : t = k := by
  rcases h with ⟨a, b, c⟩ | ⟨rfl, c⟩
  · rcases Nat.lt_trichotomy t k with h | h | h
    · exact absurd b (hz t h)
    · exact h
    · exact absurd h1 (c k h)
  · exact absurd h1 (c k hk)
theorem TrailIs.none_ {xs : List Nat} {t : Nat} (h : TrailIs xs t) (hz : ∀ j, j < 32 * xs.length → bitAt xs j ≠ 1) : t = 0 := by
  rcases h with ⟨a, b, _⟩ | ⟨rfl, _⟩
  · exact absurd b (hz t a)
  · rfl
set_option maxHeartbeats 800000 in
theorem rtrail_any (A : Option Addr) (c : Nat) (xs : List Nat) (t : Nat) (ht : TrailIs xs t) (w : World) (B : Nat) (hr : Rd w B A (u32s xs)) (hd : Dig 4294967296 xs) (hm : xs.length ≤ 281474976710656) :
    Calls Tryd.prog 19 #[.slice A xs.length c] w fun e w' => e = .returned (.int .i64 (t : Int)) ∧ w = w' := by
  have Ht := Lib.hid ht
  clear ht
  go_enter Tryd.func19, Tryd.ntmps19
  go_wp2
  go_loopw [3] (fun i wr => ∃ k : Nat, k ≤ 32 * xs.length ∧ i = .int .i64 k ∧ wr = w ∧ ∀ j, j < k → bitAt xs j ≠ 1) (fun i _ => 32 * xs.length - (intOf i).toNat)
  case atStart => exact ⟨0, by omega, rfl, rfl, fun j hj => by omega⟩
  case round =>
    obtain ⟨k, hk, rfl, rfl, hz⟩ := hrel
    have Hz := Lib.hid hz
    clear hz
    by_cases hlt : k < 32 * xs.length
    · have Hb := Lib.hid (rbit_any A c xs (k : Int) wr B hr hd hm (by omega))
      have hbe : bitOf xs (k : Int) = bitAt xs k := by unfold bitOf; rw [if_neg (by omega), Int.toNat_natCast]
      have hb2 := bitAt_le xs k
      rw [hbe] at Hb
      by_cases h1 : bitAt xs k = 1
      · have He := Lib.hid (Ht.out.lt_ hlt Hz.out h1)
        rw [h1] at Hb
        clear hbe h1 hb2
        go_wp2_with (go_at_call 17; (with_reducible refine Hb.out.mono ?_); rintro e w' ⟨rfl, rfl⟩)
        go_ret
        exact ⟨by rw [He.out]; rfl, rfl⟩
      · obtain h0 : bitAt xs k = 0 := by omega
        have H0 := Lib.hid h0
        rw [h0] at Hb
        clear hbe h1 hb2 h0
        go_wp2_with (go_at_call 17; (with_reducible refine Hb.out.mono ?_); rintro e w' ⟨rfl, rfl⟩)
        go_roundw
        case rel => exact ⟨k + 1, by omega, by go_num, by trivial, fun j hj => by
          rcases Nat.lt_or_ge j k with h | h
          · exact Hz.out j h
          · obtain rfl : j = k := by omega
            rw [H0.out]; omega⟩
        case measure => simp [intOf]; omega
    · obtain rfl : k = 32 * xs.length := by omega
      have He := Lib.hid (Ht.out.none_ Hz.out)
      go_wp2
      go_ret
      exact ⟨by rw [He.out]; rfl, rfl⟩
end Go.Proofs.YtogkfpbapjjgfaaDoor
