/- The contracts of the reference's Of and of nat.Uint64. No conditions beyond the sizes. The contracts of the reference's operations on sizes that are held. Conditions: at most 2^26 limbs. The contract of the reference's half. Conditions: limbs. The contract of the reference's Len. -/
import Derived.Test.YtanlejlmckdeiaaGreatDoorPkZg22
import Derived.Test.YtanlejlmckdeiaaGreatDoorPkZg5
import Derived.Shelf.Spec.TrailingZeros
import Derived.Test.YtanlejlmckdeiaaGreatDoorPkZg16
import Derived.Test.YtanlejlmckdeiaaGreatDoorPkZg24
import Derived.Test.YtanlejlmckdeiaaGreatDoorPkZg6
import Derived.Test.YtanlejlmckdeiaaGreatDoorPkZg7
namespace Go.Proofs.YtanlejlmckdeiaaGreatDoor
section
open Go.RowKit

set_option maxHeartbeats 400000 in
theorem rof_any (n : Nat) (h : n < 18446744073709551616) (w : World) :
    Calls Tryz.prog 76 #[.int .u64 (n : Int)] w fun e w' => ∃ zs A' c', e = .returned (.slice A' zs.length c') ∧ Num 4294967296 zs n ∧ Res w' w.heap.size 61 A' c' (u32s zs) ∧ Below w.heap.size w w' := by
  have e1 : IntKind.u32.wrap ((n : Int) % 4294967296) = ((n % 4294967296 : Nat) : Int) := by rw [Go.Proofs.wrap_u32']; omega
  have e2 : IntKind.u32.wrap ((n : Int) / 4294967296) = ((n / 4294967296 : Nat) : Int) := by rw [Go.Proofs.wrap_u32']; omega
  obtain ⟨a, ha⟩ : ∃ a, a = n % 4294967296 := ⟨_, rfl⟩
  obtain ⟨b, hb⟩ : ∃ b, b = n / 4294967296 := ⟨_, rfl⟩
  rw [← ha] at e1
  rw [← hb] at e2
  have hab : Hid (n = a + 4294967296 * b ∧ a < 4294967296 ∧ b < 4294967296) := by constructor <;> omega
  clear ha hb
  go_enter Tryz.func76, Tryz.ntmps76
  go_wp2_with (first | (simp only [e1, e2]) | (simp only [e1]) | (simp only [e2]))
  have hblk : Blk (w.alloc (.cells #[.int .u32 (a : Int), .int .u32 (b : Int)] 61)) w.heap.size 61 (u32s [a, b]) := Blk.new_ rfl
  obtain ⟨h1, h2, h3⟩ := hab.out
  have hd : Dig 4294967296 [a, b] := Dig.cons_ h2 (Dig.cons_ h3 (Dig.nil_ _))
  refine (rnorm_any (some ⟨w.heap.size, 0, none⟩) 2 [a, b] _ (w.heap.size + 1) ?_ ?_ ?_).mono ?_
  · exact Rd.of_blk hblk (by omega) 0 (fun k v hv => by rw [Nat.zero_add]; exact hv)
  · simp
  · simp
  rintro e w' ⟨A', c', rfl, hres, hb⟩
  go_wp2
  go_ret
  have hz : (w.alloc (.cells #[.int .u32 (a : Int), .int .u32 (b : Int)] 61)).heap.size = w.heap.size + 1 := by simp
  rw [hz] at hres hb
  exact ⟨_, A', c', rfl, by rw [h1]; simpa [val] using Num.of_trim hd, hres.mono (by omega), ((Below.refl _ _).alloc (Nat.le_refl _) _).trans (hb.mono (by omega))⟩

/-- What Uint64 answers. -/
def u64Of (xs : List Nat) : Nat := if (trimL xs).length ≤ 2 then val 4294967296 xs else 0
end
section
open Go.RowKit

section
variable {w w' : World} {A A2 : Option Addr} {c c2 n k K J : Nat} {xs ys : List Nat}
theorem Hv.rnorm (h : Hv w A c xs n K) (hK : K ≤ 67108864) : Calls Tryz.prog 53 #[.slice A xs.length c] w fun e w' => NOut w w' n e := by
  have hl1 := h.len
  refine (rnorm_any A c xs w w.heap.size h.rd (Nat.le_refl _) (by omega)).mono ?_
  rintro e w' ⟨A', c', rfl, hr, hb⟩
  exact ⟨_, A', c', rfl, by rw [← h.val_]; exact Num.of_trim h.dig, hr, hb⟩
theorem Hv.radd (h : Hv w A c xs n K) (h2 : Hv w A2 c2 ys k J) (hK : K ≤ 67108864) (hJ : J ≤ 67108864) : Calls Tryz.prog 80 #[.slice A xs.length c, .slice A2 ys.length c2] w fun e w' => NOut w w' (n + k) e := by
  have hl1 := h.len
  have hl2 := h2.len
  have h9 := radd_any A A2 c c2 xs ys w w.heap.size h.rd h2.rd (Nat.le_refl _) h.dig h2.dig (by omega) (by omega)
  rwa [h.val_, h2.val_] at h9
theorem Hv.rsub (h : Hv w A c xs n K) (h2 : Hv w A2 c2 ys k J) (hK : K ≤ 67108864) (hJ : J ≤ 67108864) (hle : k ≤ n) : Calls Tryz.prog 82 #[.slice A xs.length c, .slice A2 ys.length c2] w fun e w' => NOut w w' (n - k) e := by
  have hl1 := h.len
  have hl2 := h2.len
  have h9 := rsub_any A A2 c c2 xs ys w w.heap.size h.rd h2.rd (Nat.le_refl _) h.dig h2.dig (by omega) (by omega) (by rw [h.val_, h2.val_]; exact hle)
  rwa [h.val_, h2.val_] at h9
theorem Hv.rmul (h : Hv w A c xs n K) (h2 : Hv w A2 c2 ys k J) (hK : K ≤ 67108864) (hJ : J ≤ 67108864) : Calls Tryz.prog 79 #[.slice A xs.length c, .slice A2 ys.length c2] w fun e w' => NOut w w' (n * k) e := by
  have hl1 := h.len
  have hl2 := h2.len
  have t1 := trimL_length_le xs
  have t2 := trimL_length_le ys
  have h9 := rmul_any A A2 c c2 xs ys w w.heap.size h.rd h2.rd (Nat.le_refl _) h.dig h2.dig (by omega) (by omega) (by omega)
  rwa [h.val_, h2.val_] at h9
theorem Hv.rcmp (h : Hv w A c xs n K) (h2 : Hv w A2 c2 ys k J) (hK : K ≤ 67108864) (hJ : J ≤ 67108864) : Calls Tryz.prog 81 #[.slice A xs.length c, .slice A2 ys.length c2] w fun e w' => e = .returned (.int .i64 (cmpN n k)) ∧ w = w' := by
  have hl1 := h.len
  have hl2 := h2.len
  have h9 := rcmp_any A A2 c c2 xs ys w w.heap.size h.rd h2.rd h.dig h2.dig (by omega) (by omega)
  rwa [h.val_, h2.val_] at h9
theorem Hv.ncmp (h : Hv w A c xs n K) (h2 : Hv w A2 c2 ys k J) (hK : K ≤ 67108864) (hJ : J ≤ 67108864) : Calls Tryz.prog 60 #[.slice A xs.length c, .slice A2 ys.length c2] w fun e w' => e = .returned (.int .i64 (cmpN n k)) ∧ Dr w w' := by
  have hl1 := h.len
  have hl2 := h2.len
  have h9 := cmp_any A A2 c c2 xs ys w w.heap.size h.rd h2.rd h.dig h2.dig h.cap h2.cap (by omega) (by omega)
  rwa [h.val_, h2.val_] at h9
/-- What a division answers. -/
def QOut (w w' : World) (n k : Nat) (e : Ending) : Prop := ∃ qs rs A1 c1 A3 c3, e = .returned (.tuple #[.slice A1 qs.length c1, .slice A3 rs.length c3]) ∧ Num 4294967296 qs (n / k) ∧ Num 4294967296 rs (n % k) ∧ Res w' w.heap.size 61 A1 c1 (u32s qs) ∧ Res w' w.heap.size 61 A3 c3 (u32s rs) ∧ Below w.heap.size w w'
theorem Hv.rdiv (h : Hv w A c xs n K) (h2 : Hv w A2 c2 ys k J) (hK : K ≤ 67108864) (hJ : J ≤ 67108864) (hk : 0 < k) : Calls Tryz.prog 115 #[.slice A xs.length c, .slice A2 ys.length c2] w fun e w' => QOut w w' n k e := by
  have hl1 := h.len
  have hl2 := h2.len
  have h9 := rdiv_any A A2 c c2 xs ys w w.heap.size h.rd h2.rd (Nat.le_refl _) h.dig h2.dig (by omega) (by omega) (by rw [h2.val_]; exact hk)
  rwa [h.val_, h2.val_] at h9
theorem Hv.rzero (h : Hv w A c xs n K) (hK : K ≤ 67108864) : Calls Tryz.prog 77 #[.slice A xs.length c] w fun e w' => e = .returned (.bool (decide (n = 0))) ∧ w = w' := by
  have hl1 := h.len
  have h9 := zero_any A c xs w w.heap.size h.rd (by omega)
  have e : decide (trimL xs = []) = decide (n = 0) := by
    have := (Num.of_trim h.dig).nil_iff (by omega)
    rw [h.val_] at this
    exact decide_eq_decide.2 this
  rwa [e] at h9
theorem rof_out (n : Nat) (h : n < 18446744073709551616) (w : World) : Calls Tryz.prog 76 #[.int .u64 (n : Int)] w fun e w' => NOut w w' n e := rof_any n h w
theorem of_out (n : Nat) (h : n < 18446744073709551616) (w : World) : Calls Tryz.prog 41 #[.int .u64 (n : Int)] w fun e w' => NOut w w' n e := of_any n h w
theorem Hv.nbits (h : Hv w A c xs n K) (hK : K ≤ 67108864) : Calls Tryz.prog 38 #[.slice A xs.length c] w fun e w' => e = .returned (.int .i64 (bitsOf n : Nat)) ∧ w = w' := h.nlen hK
end
end
section
open Go.RowKit

def Halved (xs : List Nat) (k : Nat) (zs : List Nat) : Prop :=
  Dig 4294967296 zs ∧ 2 * val 4294967296 zs + at0 xs 0 % 2 = val 4294967296 (xs.take k) + 4294967296 ^ k * (at0 xs k % 2) ∧ ∀ j (h : j < zs.length), k ≤ j → zs[j] = 0
theorem Halved.start (xs : List Nat) (n : Nat) : Halved xs 0 (List.replicate n 0) :=
  ⟨Dig.zeros_ (by omega) _, by simp [val_zeros, val], fun j h _ => by simp⟩
theorem Halved.step {xs zs : List Nat} {k v : Nat} (h : Halved xs k zs) (hz : k < zs.length) (hd : Dig 4294967296 xs) (hv : v = at0 xs k / 2 + at0 xs (k + 1) % 2 * 2147483648) : Halved xs (k + 1) (zs.set k v) := by
  obtain ⟨h1, h2, h3⟩ := h
  have ha := at0_lt hd k
  refine ⟨h1.set_ _ _ (by omega), ?_, fun i hi hki => ?_⟩
  · have e1 := val_set 4294967296 zs k v hz
    rw [h3 k hz (Nat.le_refl _)] at e1
    rw [val_take_at0, Nat.pow_succ, Nat.mul_assoc]
    have e2 : 2 * v + at0 xs k % 2 = at0 xs k + 4294967296 * (at0 xs (k + 1) % 2) := by omega
    have e3 : 4294967296 ^ k * (2 * v + at0 xs k % 2) = 4294967296 ^ k * (at0 xs k + 4294967296 * (at0 xs (k + 1) % 2)) := by rw [e2]
    rw [Nat.mul_add, Nat.mul_add, Nat.mul_left_comm] at e3
    omega
  · rw [List.getElem_set, if_neg (by omega)]
    exact h3 i (by simpa using hi) (by omega)
theorem Halved.last {xs zs : List Nat} (h : Halved xs xs.length zs) : val 4294967296 zs = val 4294967296 xs / 2 := by
  have h2 := h.2.1
  rw [List.take_length, at0_out (Nat.le_refl _)] at h2
  have : at0 xs 0 % 2 < 2 := Nat.mod_lt _ (by omega)
  omega

set_option maxHeartbeats 800000 in
theorem rhalf_any (A : Option Addr) (c : Nat) (xs : List Nat) (w : World) (B : Nat) (hr : Rd w B A (u32s xs)) (hB : B ≤ w.heap.size) (hd : Dig 4294967296 xs) (hm : xs.length ≤ 70368744170000) :
    Calls Tryz.prog 103 #[.slice A xs.length c] w fun e w' => ∃ zs A' c', e = .returned (.slice A' zs.length c') ∧ Num 4294967296 zs (val 4294967296 xs / 2) ∧ Res w' w.heap.size 61 A' c' (u32s zs) ∧ Below w.heap.size w w' := by
  have hmk := fun W => mk32 xs.length (by omega) W
  go_enter Tryz.func103, Tryz.ntmps103
  go_wp2
  go_loopw [4, 10] (fun _ i wr => ∃ (k : Nat) (zs : List Nat), k ≤ xs.length ∧ i = .int .i64 k ∧ zs.length = xs.length ∧ Blk wr w.heap.size 61 (u32s zs) ∧ Halved xs k zs ∧ Below w.heap.size w wr) (fun _ i _ => xs.length - (intOf i).toNat)
  case atStart => exact ⟨0, List.replicate xs.length 0, by omega, rfl, by simp, Blk.new_ (by simp [u32s]), Halved.start _ _, (Below.refl _ _).alloc (Nat.le_refl _) _⟩
  case round =>
    obtain ⟨k, zs, hk, rfl, hzl, hblk, hsm, hbel⟩ := hrel
    by_cases hlt : k < xs.length
    · have hkz : k < zs.length := by omega
      have Hzl := Lib.hid hzl
      clear hzl
      have hc2 := (hblk.cell k).trans (u32s_at hkz)
      have hf2 := hblk.frozen k
      have ha := at0_lt hd k
      have ha2 := at0_lt hd (k + 1)
      have hrw := hr.below (hbel.mono hB)
      obtain ⟨v, hv⟩ : ∃ v, v = at0 xs k / 2 + at0 xs (k + 1) % 2 * 2147483648 := ⟨_, rfl⟩
      have hst := hsm.step hkz hd hv
      have L1 := Lib.hid (limb_any A c xs k wr _ hrw hd (by omega) (by omega))
      have L2 : Hid (Calls Tryz.prog 119 #[.slice A xs.length c, .int .i64 ((k : Int) + 1)] wr fun e w' => e = .returned (.int .u64 (at0 xs (k + 1) : Nat)) ∧ wr = w') := by
        have := limb_any A c xs (k + 1) wr _ hrw hd (by omega) (by omega)
        rwa [show ((k + 1 : Nat) : Int) = (k : Int) + 1 from by omega] at this
      obtain ⟨y, hy⟩ : ∃ y, y = at0 xs k := ⟨_, rfl⟩
      obtain ⟨z, hz⟩ : ∃ z, z = at0 xs (k + 1) := ⟨_, rfl⟩
      rw [← hy] at L1 hv ha
      rw [← hz] at L2 hv ha2
      have hvb : v < 4294967296 := by omega
      have E1 : Hid ((y : Int) / 2 + (z : Int) % 2 * 2147483648 = (v : Int)) := by show (y : Int) / 2 + (z : Int) % 2 * 2147483648 = (v : Int); omega
      have Hst := Lib.hid hst
      clear hy hz hv hst hsm
      go_wp2_with (first
        | simp only [E1.out]
        | (go_at_call_of 119 (Value.slice A xs.length c); first | ((with_reducible refine L1.out.mono ?_); rintro e w' ⟨rfl, rfl⟩) | ((with_reducible refine L2.out.mono ?_); rintro e w' ⟨rfl, rfl⟩)))
      go_roundw
      case rel =>
        refine ⟨k + 1, zs.set k v, by omega, by go_num, by simpa using Hzl.out, ?_, Hst.out, hbel.setCell (p := ⟨w.heap.size, k, none⟩) (Nat.le_refl _) _⟩
        have hb2 := hblk.set_ k (Value.int IntKind.u32 (v : Int))
        rw [u32s_set] at hb2
        exact hb2
      case measure => simp [intOf]; omega
    · obtain rfl : k = xs.length := by omega
      have hrd := (Res.of_blk0 hblk (Nat.le_refl _) (by rw [u32s_length]; omega)).rd
      have Hv := Lib.hid hsm.last
      have Hzl := Lib.hid hzl
      have hzm : zs.length ≤ 70368744177664 := by omega
      clear hzl
      go_wp2_with (go_at_call 53; rw [← Hzl.out]; refine (rnorm_any _ _ zs wr _ hrd (Nat.le_refl _) hzm).mono ?_; rintro e w2 ⟨A', c', rfl, hres, hb⟩)
      go_ret
      refine ⟨trimL zs, A', c', rfl, ?_, hres.mono hbel.size, hbel.trans (hb.mono hbel.size)⟩
      rw [← Hv.out]
      exact Num.of_trim hsm.1
end
section
open Go.RowKit

theorem bitsOf_half (x : Nat) (h : 0 < x) : bitsOf x = bitsOf (x / 2) + 1 := by
  unfold bitsOf
  rw [if_neg (by omega)]
  by_cases h1 : x / 2 = 0
  · rw [if_pos h1]
    have : x = 1 := by omega
    subst this
    decide
  · rw [if_neg h1]
    have e : Nat.log2 x = Nat.log2 (x / 2) + 1 := by
      have a1 : Nat.log2 (x / 2) + 1 ≤ Nat.log2 x := by
        refine (Nat.le_log2 (by omega)).2 ?_
        have := (Nat.le_log2 h1).1 (Nat.le_refl _)
        rw [Nat.pow_succ]; omega
      have a2 : Nat.log2 x < Nat.log2 (x / 2) + 1 + 1 := by
        refine (Nat.log2_lt (by omega)).2 ?_
        have := (Nat.log2_lt h1).1 (Nat.lt_succ_self _)
        rw [Nat.pow_succ]; omega
      omega
    omega

set_option maxHeartbeats 400000 in
theorem rlen_any (A : Option Addr) (c : Nat) (xs : List Nat) (w : World) (B : Nat) (hr : Rd w B A (u32s xs)) (hB : B ≤ w.heap.size) (hd : Dig 4294967296 xs) (hm : xs.length ≤ 70368744177664) :
    Calls Tryz.prog 18 #[.slice A xs.length c] w fun e w' => e = .returned (.int .i64 (bitsOf (val 4294967296 xs) : Nat)) ∧ Below w.heap.size w w' := by
  have hn := Num.of_trim hd
  have hl := trimL_length_le xs
  go_enter Tryz.func18, Tryz.ntmps18
  go_wp2_with fail
  refine (rnorm_any A c xs _ B hr hB hm).mono ?_
  rintro e w1 ⟨A1, c1, rfl, hres, hb⟩
  obtain ⟨ps, hps⟩ : ∃ ps, ps = trimL xs := ⟨_, rfl⟩
  rw [← hps] at hn hl hres ⊢
  have hrd := hres.rd
  by_cases h0 : ps = []
  · have hl0 : (ps.length : Int) = 0 := by rw [h0]; rfl
    have hv : bitsOf (val 4294967296 xs) = 0 := by rw [← hn.2.2, h0]; rfl
    have Hv := Lib.hid hv
    clear hv h0 hn hres hrd hps
    go_wp2
    go_ret
    exact ⟨by rw [Hv.out]; rfl, hb⟩
  · have hne : ps.length ≠ 0 := fun e => h0 (List.eq_nil_of_length_eq_zero e)
    have hv := bitsOf_val hn h0 (by omega)
    obtain ⟨b, off, rfl, hbB, hcell⟩ := hrd (by intro e; have := u32s_length ps; rw [e] at this; simp at this; omega)
    obtain ⟨k, hk⟩ : ∃ k, ps.length = k + 1 := ⟨ps.length - 1, by omega⟩
    have hcl := hcell k _ (u32s_at (by omega))
    have hx := hn.1.at_ k (by omega)
    have hv2 : bitsOf (val 4294967296 xs) = 32 * k + bitsOf (ps[k]) := by rw [hv]; simp [hk]
    obtain ⟨x, hxe⟩ : ∃ x, x = ps[k] := ⟨_, rfl⟩
    rw [← hxe] at hcl hx hv2
    have hkb : k < 70368744177664 := by omega
    have Hv2 := Lib.hid hv2
    have t0 : (((k : Int) + 1) == 0) = false := by simp; omega
    rw [hk]
    clear hv hv2 hn hcell hxe h0 hne hk hres hrd hps
    go_wp2
    go_loop [3, 4] (fun nv xv => ∃ (i y : Nat), nv = .int .i64 (32 * (k : Int) + (i : Int)) ∧ xv = .int .u32 (y : Int) ∧ y ≤ x ∧ i + bitsOf y = bitsOf x ∧ i ≤ 32) (fun _ xv => (intOf xv).toNat)
    case atStart => exact ⟨0, x, by go_num, rfl, Nat.le_refl _, by omega, by omega⟩
    case round =>
      obtain ⟨i, y, rfl, rfl, hyx, hiy, hi⟩ := hrel
      have hx32 : bitsOf x ≤ 32 := by rw [← bitLen_val _ (by omega)]; exact Lib.bitLen_le _ 32 (by omega) hx
      rcases Nat.eq_zero_or_pos y with h0 | h0
      · subst h0
        have hie : i = bitsOf x := by simpa [bitsOf] using hiy
        have Hie := Lib.hid hie
        clear hiy hie hx32
        go_wp2
        go_ret
        refine ⟨?_, hb⟩
        rw [Hv2.out, ← Hie.out]
        simp
      · have hh := bitsOf_half y h0
        have hiy2 : i + 1 + bitsOf (y / 2) = bitsOf x := by omega
        have hi2 : i + 1 ≤ 32 := by omega
        have Hiy2 := Lib.hid hiy2
        clear hiy hh hiy2
        go_wp2
        go_round
        case rel => exact ⟨i + 1, y / 2, by go_num, by go_num, by omega, Hiy2.out, hi2⟩
        case measure => simp [intOf]; omega
end
end Go.Proofs.YtanlejlmckdeiaaGreatDoor
