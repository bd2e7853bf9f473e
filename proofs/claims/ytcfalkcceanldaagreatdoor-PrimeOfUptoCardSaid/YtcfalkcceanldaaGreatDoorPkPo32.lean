/- The contract of zint.Mod: the number modulo a word that is not 0; nothing else but an error at 0. Conditions: at most 2^26 limbs. -/
import Derived.Test.YtcfalkcceanldaaGreatDoorPkPo12
import Derived.Test.YtcfalkcceanldaaGreatDoorPkPo31
import Derived.Test.YtcfalkcceanldaaGreatDoorPkPo21
namespace Go.Proofs.YtcfalkcceanldaaGreatDoor
open Go.RowKit

theorem or_high (r d : Nat) (hr : r < 4294967296) (hd : d < 4294967296) : bits BinOp.or IntKind.u64 ((r : Int) * 4294967296) (d : Int) = ((d + 4294967296 * r : Nat) : Int) := by
  rw [show ((r : Int) * 4294967296) = ((r * 2 ^ 32 : Nat) : Int) from by omega, u64_or_nat _ _ (by omega) (by omega), or_shift d r 32 (by omega)]
theorem neg_emod9 (n p : Nat) (hp : 0 < p) : (-(n : Int)) % (p : Int) = if 0 < n % p then ((p - n % p : Nat) : Int) else 0 := by
  have h1 := Nat.div_add_mod n p
  have h2 := Nat.mod_lt n hp
  by_cases h : 0 < n % p
  · rw [if_pos h]
    refine (eu_of (a := -(n : Int)) (b := p) (q := -((n / p : Nat) : Int) - 1) ?_ (by omega) (by omega)).2
    have e : (n : Int) = (p : Int) * ((n / p : Nat) : Int) + ((n % p : Nat) : Int) := by rw [← Int.natCast_mul, ← Int.natCast_add, h1]
    rw [Int.mul_sub, Int.mul_neg, Int.mul_one, Int.natCast_sub (Nat.le_of_lt h2)]
    omega
  · rw [if_neg h]
    refine (eu_of (a := -(n : Int)) (b := p) (q := -((n / p : Nat) : Int)) ?_ (by omega) (by omega)).2
    have e : (n : Int) = (p : Int) * ((n / p : Nat) : Int) + ((n % p : Nat) : Int) := by rw [← Int.natCast_mul, ← Int.natCast_add, h1]
    rw [Int.mul_neg]
    omega

section
variable {w : World} {g : Bool} {A : Option Addr} {c K : Nat} {xs : List Nat} {z : Int}
theorem zmod_nought : Calls Tryz.prog 13 #[.agg #[.bool g, .slice A xs.length c], .int .u32 0] w fun e w' => e = .returned (.tuple #[.int .u32 0, .int .i64 1]) ∧ Below w.heap.size w w' := by
  go_enter Tryz.func13, Tryz.ntmps13
  go_wp2
  go_ret2
  exact ⟨rfl, bel_one _ _⟩

set_option maxHeartbeats 3200000 in
theorem zmod_any (h : Zh w g A c xs z K) (hK : K ≤ 67108864) (p : Nat) (hp0 : 0 < p) (hp : p < 4294967296) :
    Calls Tryz.prog 13 #[.agg #[.bool g, .slice A xs.length c], .int .u32 (p : Int)] w fun e w' => e = .returned (.tuple #[.int .u32 (z % (p : Int)), .int .i64 0]) ∧ Below w.heap.size w w' := by
  have hl := h.hv.len
  have hrd := h.hv.rd
  have hd := h.hv.dig
  have hv := h.hv.val_
  have hsg := h.sg
  have Hsg := Lib.hid hsg
  have Hv := Lib.hid hv
  have Hd := Lib.hid hd
  have b0 := blk_one w (.bool g) (.slice A xs.length c)
  have k0 := bel_one w (.cells #[.bool g, .slice A xs.length c] 25)
  obtain ⟨o, ho⟩ : ∃ o, o = 18446744073709551615 / p := ⟨_, rfl⟩
  have t0 : decide ((p : Int) = 0) = false := decide_eq_false (by omega)
  have Ho := Lib.hid ho
  have d0 : Hid ((18446744073709551615 : Int) / (p : Int) = ((18446744073709551615 / p : Nat) : Int)) := Lib.hid (by rw [Int.natCast_ediv]; rfl)
  clear h hv hsg hd
  go_enter Tryz.func13, Tryz.ntmps13
  go_wp2_with (fail)
  go_quiet (fail)
  go_wp2_with (fail)
  rw [d0.out, ← Ho.out]
  have Hb0 := Lib.hid b0
  obtain ⟨p0, p1, _, _⟩ := b0.two
  clear b0 d0 t0
  go_loopw [6, 8, 9, 10] (fun rv i _ _ wr => ∃ k : Nat, k ≤ xs.length ∧ i = .int .i64 ((k : Int) - 1) ∧ rv = .int .u64 ((val 4294967296 (xs.drop k) % p : Nat) : Int) ∧ Below (w.heap.size + 1) (w.alloc (.cells #[.bool g, .slice A xs.length c] 25)) wr) (fun _ i _ _ _ => (intOf i + 1).toNat)
  case atStart => exact ⟨xs.length, Nat.le_refl _, by go_num, by simp [val], Dr.below (Dr.step (Dr.refl _) _) _⟩
  case round =>
    obtain ⟨k, hk, rfl, rfl, hbel⟩ := hrel
    have hbw : Below w.heap.size w wr := bst k0 (hbel.mono (by simp)) (by simp)
    have b0 := Hb0.out.below (hbel.mono (by simp)) Hb0.out.lt
    rcases k with _ | k
    · obtain ⟨p2, p3, _, _⟩ := b0.two
      clear p0 p1
      have hv9 : val 4294967296 (xs.drop 0) % p = z.natAbs % p := by rw [List.drop_zero, Hv.out]
      rw [hv9]
      obtain ⟨n, hn⟩ : ∃ n, n = z.natAbs := ⟨_, rfl⟩
      have hmp := Nat.mod_lt z.natAbs hp0
      have ez : z = ivalN g n := by rw [hn]; exact Hsg.out.symm
      rw [← hn] at hmp ⊢
      clear Hsg Hv hn hv9
      obtain ⟨m, hm⟩ : ∃ m, m = n % p := ⟨_, rfl⟩
      have Hm := Lib.hid hm
      rw [← hm] at hmp ⊢
      clear hm
      cases g
      · have ea : z % (p : Int) = (m : Int) := by rw [ez, ival_false, Hm.out, Int.natCast_emod]
        have EA := Lib.hid ea
        clear ez ea
        go_wp2
        go_ret2
        refine ⟨?_, hbw⟩
        rw [EA.out]
        rfl
      · have ea : z % (p : Int) = if 0 < m then ((p - m : Nat) : Int) else 0 := by rw [ez, ival_true, Hm.out, neg_emod9 n p hp0]
        have EA := Lib.hid ea
        clear ez ea
        by_cases hm0 : 0 < m
        · go_wp2
          go_ret2
          refine ⟨?_, hbw⟩
          rw [EA.out, if_pos hm0, Int.natCast_sub (Nat.le_of_lt hmp)]
          rfl
        · go_wp2
          go_ret2
          refine ⟨?_, hbw⟩
          rw [EA.out, if_neg hm0]
          obtain rfl : m = 0 := by omega
          rfl
    · rw [show ((k + 1 : Nat) : Int) - 1 = (k : Int) from by omega]
      have hkx : k < xs.length := by omega
      obtain ⟨b, off, rfl, hb, hx⟩ := hrd.at32 hkx
      have hxw := (hbw.cell (p := ⟨b, off + k, none⟩) (show b < _ by omega)).trans hx
      have hdb := Hd.out.at_ k hkx
      have hdr := List.drop_eq_getElem_cons hkx
      have hvk : val 4294967296 (xs.drop k) = xs[k] + 4294967296 * val 4294967296 (xs.drop (k + 1)) := by rw [hdr]; rfl
      obtain ⟨d, hd⟩ : ∃ d, d = xs[k] := ⟨_, rfl⟩
      obtain ⟨r, hr⟩ : ∃ r, r = val 4294967296 (xs.drop (k + 1)) % p := ⟨_, rfl⟩
      rw [← hd] at hxw hdb hvk
      have hrp : r < p := by rw [hr]; exact Nat.mod_lt _ hp0
      have hgoal : (d + 4294967296 * r) % p = val 4294967296 (xs.drop k) % p := by
        have h9 := mod_digit (val 4294967296 (xs.drop (k + 1))) d p 4294967296
        rw [← hr] at h9
        rw [hvk, ← h9, Nat.add_comm, Nat.mul_comm]
      have OR := Lib.hid (or_high r d (by omega) hdb)
      obtain ⟨p2, p3, _, _⟩ := b0.two
      obtain ⟨x, hxe⟩ : ∃ x, x = d + 4294967296 * r := ⟨_, rfl⟩
      rw [← hxe] at hgoal OR
      have hx9 : x < 18446744073709551616 := by omega
      obtain ⟨q, hq⟩ : ∃ q, q = x * o / 18446744073709551616 := ⟨_, rfl⟩
      obtain ⟨lo, hlo⟩ : ∃ lo, lo = x * o % 18446744073709551616 := ⟨_, rfl⟩
      have MUL : Hid (∀ W, Calls Tryz.prog 29 #[.int .u64 (x : Int), .int .u64 (o : Int)] W fun e w' => e = .returned (.tuple #[.int .u64 (q : Int), .int .u64 (lo : Int)]) ∧ W = w') := fun W => by
        rw [hq, hlo]
        exact mul64_any x o W hx9 (by rw [Ho.out]; exact Nat.lt_of_le_of_lt (Nat.div_le_self _ _) (by decide))
      obtain ⟨hn1, hn2⟩ := mod_near hx9 hp0 Ho.out hq
      have hfin := mod_rest hx9 hp0 Ho.out hq
      have HF := Lib.hid hfin
      have HG := Lib.hid hgoal
      have HQ := Lib.hid hq
      have HR := Lib.hid hr
      rw [← hr]
      clear hgoal hfin hq hlo hvk hdr hd hx hr p0 p1 ho
      go_upto_region 8 with (fail)
      rw [OR.out]
      clear OR hxe hxw
      go_wp2_with (fail)
      refine (MUL.out _).mono ?_
      rintro e w9 ⟨rfl, rfl⟩
      go_wp2_with (fail)
      obtain ⟨y0, hy0⟩ : ∃ y0, y0 = x - q * p := ⟨_, rfl⟩
      rw [show (x : Int) - (q : Int) * (p : Int) = (y0 : Int) from by rw [hy0, Int.natCast_sub hn1, Int.natCast_mul]]
      have hf1 := HF.out.1
      have hf2 := HF.out.2
      rw [← hy0] at hf1 hf2
      have hy2 : y0 < 2 * p := by omega
      have HE : Hid (x % p = val 4294967296 (xs.drop k) % p) := HG
      obtain ⟨m, hm⟩ : ∃ m, m = x % p := ⟨_, rfl⟩
      rw [← hm] at hf1 hf2 HE
      clear hm hy0 hn1 hn2 HF HG HQ MUL HR
      go_loop [6] (fun rv => ∃ y : Nat, rv = .int .u64 (y : Int) ∧ (y = y0 ∨ p ≤ y0 ∧ y = y0 - p)) (fun rv => (intOf rv).toNat)
      case atStart => exact ⟨y0, rfl, Or.inl rfl⟩
      case round =>
        obtain ⟨y, rfl, hy⟩ := hrel
        by_cases hyp : y < p
        · have ey : y = m := by
            rcases hy with rfl | ⟨h1, rfl⟩
            · exact hf1 hyp
            · exact (hf2 h1).1
          clear hy hf1 hf2
          subst ey
          go_wp2_with (fail)
          go_roundw
          case rel =>
            refine ⟨k, by omega, rfl, ?_⟩
            rw [← Int.natCast_emod, ← HE.out]
          case measure => simp [intOf]; omega
        · have ey : y = y0 := by
            rcases hy with rfl | ⟨h1, rfl⟩
            · rfl
            · have := (hf2 h1).2; omega
          subst ey
          clear hy
          go_wp2_with (fail)
          go_round
          case rel => exact ⟨y - p, by rw [Int.natCast_sub (by omega)], Or.inr ⟨by omega, rfl⟩⟩
          case measure => simp [intOf]; omega
end
end Go.Proofs.YtcfalkcceanldaaGreatDoor
