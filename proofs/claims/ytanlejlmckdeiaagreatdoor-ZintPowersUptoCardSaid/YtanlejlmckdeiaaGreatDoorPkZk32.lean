/- The contracts of the sums, products and divisors over a row of integers that are held: zint.Sum; the reference's Sum, Product and GcdAll. Conditions: at most 2^20 limbs in all, at most 2^20 numbers. The contract of zint.Product over a row of integers that are held. Conditions: at most 2^20 limbs in all, at most 2^20 numbers. The contract of zint's Near. Conditions: at most 2^26 limbs. -/
import Derived.Test.YtanlejlmckdeiaaGreatDoorPkZk20
import Derived.Test.YtanlejlmckdeiaaGreatDoorPkZk25
import Derived.Test.YtanlejlmckdeiaaGreatDoorPkZk31
namespace Go.Proofs.YtanlejlmckdeiaaGreatDoor
section
open Go.RowKit

/-- The greatest common divisor of a row's first k numbers, as an integer. -/
def igcdTo (l : List ZE1) (k : Nat) : Int := (gcdTo l k : Nat)
theorem igcdTo_step {l : List ZE1} {k : Nat} (h : k < l.length) : igcdTo l (k + 1) = (Int.gcd (igcdTo l k) l[k].z : Nat) := by
  unfold igcdTo
  rw [gcdTo_step h]
  rfl
theorem igcd_lt {w : World} {N : Nat} {A : Option Addr} {l : List ZE1} (h : ZR w N A l) (k : Nat) (hk : k ≤ l.length) : (igcdTo l k).natAbs < 4294967296 ^ (N + 1) := by
  have h1 := gcdTo_lt h.zl (Nat.pow_pos (by omega)) k hk
  have h2 := pow_lt_up (b := 4294967296) (i := N) (j := N) (by omega) (Nat.le_refl _)
  show ((gcdTo l k : Nat) : Int).natAbs < _
  rw [Int.natAbs_natCast]
  omega

set_option maxHeartbeats 6400000 in
theorem zsum_any {w : World} {N : Nat} {A : Option Addr} {c : Nat} (l : List ZE1) (h : ZR w N A l) (hN : N ≤ 1048576) (hlen : l.length ≤ 1048576) :
    Calls Tryz.prog 12 #[.slice A l.length c] w fun e w' => ZOut w w' (sumTo l l.length) e := by
  have HL : Hid (∀ k, k ≤ l.length → (sumTo l k).natAbs < 4294967296 ^ (N + 1)) := fun k hk => h.zl.sum_lt (by omega) k hk
  have H := Lib.hid h.zl
  have b2 := blk_pair2 w (.bool false) (.slice none 0 0) (.bool false) (.slice none 0 0)
  have k0 := bel_two w (.cells #[.bool false, .slice none 0 0] 28) (.cells #[.bool false, .slice none 0 0] 28)
  clear h
  go_enter Tryz.func12, Tryz.ntmps12
  go_upto_region 2 with (fail)
  obtain ⟨w0, hw0⟩ : ∃ v, v = (w.alloc (.cells #[.bool false, .slice none 0 0] 28)).alloc (.cells #[.bool false, .slice none 0 0] 28) := ⟨_, rfl⟩
  rw [← hw0] at b2 k0 ⊢
  obtain ⟨b2, b3⟩ := b2
  clear hw0
  obtain ⟨zi, Ai, ci, hzi, hri, hb0⟩ : ∃ (zi : List Nat) (Ai : Option Addr) (ci : Nat), Num 4294967296 zi 0 ∧ Res w0 w.heap.size 61 Ai ci (u32s zi) ∧ Value.slice none 0 0 = .slice Ai zi.length ci := ⟨[], none, 0, Num.zero_ _, Res.none_, rfl⟩
  rw [hb0] at b3
  clear hb0
  go_wp2_with fail
  go_loopw [5, 8] (fun _ iv wr => ∃ (k : Nat) (zn : List Nat) (An : Option Addr) (cn : Nat), k ≤ l.length ∧ iv = .int .i64 (k : Int) ∧ Blk wr (w.heap.size + 1) 28 [.bool (isNeg (sumTo l k)), .slice An zn.length cn] ∧ Num 4294967296 zn (sumTo l k).natAbs ∧ Res wr w.heap.size 61 An cn (u32s zn) ∧ Blk wr w.heap.size 28 [.bool false, .slice none 0 0] ∧ Below w.heap.size w wr) (fun _ iv _ => l.length - (intOf iv).toNat)
  case atStart => exact ⟨0, zi, Ai, ci, Nat.zero_le _, rfl, b3, hzi, hri, b2, k0⟩
  case round =>
    obtain ⟨k, zn, An, cn, hk, rfl, b3r, hn, hr, b2r, hbel⟩ := hrel
    clear b2 b3 k0 hzi hri
    by_cases hlt : k < l.length
    · obtain ⟨b, off, rfl, hbw, h0, h1, hz⟩ := H.out k hlt
      have hx0 := (hbel.cell (p := ⟨b, off + k * 2, none⟩) hbw).trans h0
      have hx1 := (hbel.cell (p := ⟨b, off + k * 2 + 1, none⟩) hbw).trans h1
      have hz9 := hz.next hbel
      obtain ⟨m, hm⟩ : ∃ m, m = sumTo l (k + 1) := ⟨_, rfl⟩
      obtain ⟨n, hn9⟩ : ∃ n, n = sumTo l k := ⟨_, rfl⟩
      obtain ⟨x, hx⟩ : ∃ x, x = l[k].z := ⟨_, rfl⟩
      have hst := sumTo_step hlt
      have hnl : n.natAbs < 4294967296 ^ (N + 1) := by rw [hn9]; exact HL.out _ (by omega)
      rw [← hm, ← hn9, ← hx] at hst
      rw [← hn9] at hn b3r
      rw [← hx] at hz9
      obtain ⟨eg, heg⟩ : ∃ v, v = l[k].g := ⟨_, rfl⟩
      obtain ⟨eA, heA⟩ : ∃ v, v = l[k].A := ⟨_, rfl⟩
      obtain ⟨exs, hexs⟩ : ∃ v, v = l[k].xs := ⟨_, rfl⟩
      obtain ⟨ec, hec⟩ : ∃ v, v = l[k].c := ⟨_, rfl⟩
      rw [← heg] at hx0
      rw [← heA, ← hexs, ← hec] at hx1
      rw [← heg, ← heA, ← hexs, ← hec] at hz9
      have CL : Hid (∀ W (_ : Below wr.heap.size wr W), Calls Tryz.prog 22 #[.agg #[.bool (isNeg n), .slice An zn.length cn], .agg #[.bool eg, .slice eA exs.length ec]] W fun e w' => ZOut W w' m e) := fun W hW => by
        rw [hst]
        exact Zh.add ((Zh.of (K := N + 1) hn hr hnl).next hW) (hz9.next hW) (by omega) (by omega)
      have Hm := Lib.hid hm
      have HR := Lib.hid hr
      have HB2 := Lib.hid b2r
      have HB3 := Lib.hid b3r
      have KB := Lib.hid hbel
      have s0 := b3r.lt
      clear hn hr b2r b3r hbel h0 h1 hz hz9 hm hn9 hx hst heg heA hexs hec hnl
      go_upto_region 5 with (fail)
      obtain ⟨v1, hv1⟩ : ∃ v, v = wr.alloc (.cells #[.bool eg, .slice eA exs.length ec] 28) := ⟨_, rfl⟩
      rw [← hv1]
      have b5 : Blk v1 wr.heap.size 28 [.bool eg, .slice eA exs.length ec] := by rw [hv1]; exact blk_one _ _ _
      have j1 : Below wr.heap.size wr v1 := by rw [hv1]; exact bel_one _ _
      obtain ⟨g5, hg5⟩ : ∃ g, g = wr.heap.size := ⟨_, rfl⟩
      rw [← hg5] at b5 ⊢
      obtain ⟨p0, p1, _, _⟩ := b5.two
      obtain ⟨r0, r1, _, _⟩ := (HB3.out.below j1 s0).two
      clear hv1 hg5 hx0 hx1
      go_wp2_with fail
      refine (CL.out _ j1).mono ?_
      rintro e v2 ⟨zs, As, cs, rfl, hzs, hrs, hb2⟩
      have j2 := bst j1 hb2 (Nat.le_refl _)
      have k2 := bst KB.out j2 (Nat.le_refl _)
      have B3 := HB3.out.below j2 s0
      have B2 := HB2.out.below j2 HB2.out.lt
      have rs : Res v2 w.heap.size 61 As cs (u32s zs) := hrs.mono (Nat.le_trans KB.out.size j1.size)
      obtain ⟨q0, q1, q2, q3⟩ := B3.two
      clear p0 p1 r0 r1 CL hb2 hrs
      go_wp2_with fail
      go_roundw
      case rel => exact ⟨k + 1, zs, As, cs, by omega, by go_num, by rw [← Hm.out]; exact blk_pair B3 _ _, by rw [← Hm.out]; exact hzs, res_var2 rs B3 _ _, (B2.far (p := ⟨w.heap.size + 1, 0, none⟩) (by simp) _).far (p := ⟨w.heap.size + 1, 1, none⟩) (by simp) _, bsc (bsc k2 (by omega) _) (by omega) _⟩
      case measure => simp [intOf]; omega
    · obtain rfl : k = l.length := by omega
      obtain ⟨m, hm⟩ : ∃ m, m = sumTo l l.length := ⟨_, rfl⟩
      rw [← hm] at hn b3r
      have Hm := Lib.hid hm
      obtain ⟨q0, q1, q2, q3⟩ := b2r.two
      obtain ⟨r0, r1, _, _⟩ := b3r.two
      have HB2 := Lib.hid b2r
      have KB := Lib.hid hbel
      clear hm hlt hk b2r b3r hbel
      go_wp2_with fail
      rw [← Hm.out]
      exact zretT (z := m) KB.out HB2.out (Nat.le_refl _) hn hr rfl rfl rfl rfl

set_option maxHeartbeats 6400000 in
theorem rzsum_any {w : World} {N : Nat} {A : Option Addr} {c : Nat} (l : List ZE1) (h : ZR w N A l) (hN : N ≤ 1048576) (hlen : l.length ≤ 1048576) :
    Calls Tryz.prog 13 #[.slice A l.length c] w fun e w' => ZOut w w' (sumTo l l.length) e := by
  have HL : Hid (∀ k, k ≤ l.length → (sumTo l k).natAbs < 4294967296 ^ (N + 1)) := fun k hk => h.zl.sum_lt (by omega) k hk
  have H := Lib.hid h.zl
  have b2 := blk_pair2 w (.bool false) (.slice none 0 0) (.bool false) (.slice none 0 0)
  have k0 := bel_two w (.cells #[.bool false, .slice none 0 0] 28) (.cells #[.bool false, .slice none 0 0] 28)
  clear h
  go_enter Tryz.func13, Tryz.ntmps13
  go_upto_region 2 with (fail)
  obtain ⟨w0, hw0⟩ : ∃ v, v = (w.alloc (.cells #[.bool false, .slice none 0 0] 28)).alloc (.cells #[.bool false, .slice none 0 0] 28) := ⟨_, rfl⟩
  rw [← hw0] at b2 k0 ⊢
  obtain ⟨b2, b3⟩ := b2
  clear hw0
  obtain ⟨zi, Ai, ci, hzi, hri, hb0⟩ : ∃ (zi : List Nat) (Ai : Option Addr) (ci : Nat), Num 4294967296 zi 0 ∧ Res w0 w.heap.size 61 Ai ci (u32s zi) ∧ Value.slice none 0 0 = .slice Ai zi.length ci := ⟨[], none, 0, Num.zero_ _, Res.none_, rfl⟩
  rw [hb0] at b3
  clear hb0
  go_wp2_with fail
  go_loopw [5, 9] (fun _ iv wr => ∃ (k : Nat) (zn : List Nat) (An : Option Addr) (cn : Nat), k ≤ l.length ∧ iv = .int .i64 (k : Int) ∧ Blk wr (w.heap.size + 1) 28 [.bool (isNeg (sumTo l k)), .slice An zn.length cn] ∧ Num 4294967296 zn (sumTo l k).natAbs ∧ Res wr w.heap.size 61 An cn (u32s zn) ∧ Blk wr w.heap.size 28 [.bool false, .slice none 0 0] ∧ Below w.heap.size w wr) (fun _ iv _ => l.length - (intOf iv).toNat)
  case atStart => exact ⟨0, zi, Ai, ci, Nat.zero_le _, rfl, b3, hzi, hri, b2, k0⟩
  case round =>
    obtain ⟨k, zn, An, cn, hk, rfl, b3r, hn, hr, b2r, hbel⟩ := hrel
    clear b2 b3 k0 hzi hri
    by_cases hlt : k < l.length
    · obtain ⟨b, off, rfl, hbw, h0, h1, hz⟩ := H.out k hlt
      have hx0 := (hbel.cell (p := ⟨b, off + k * 2, none⟩) hbw).trans h0
      have hx1 := (hbel.cell (p := ⟨b, off + k * 2 + 1, none⟩) hbw).trans h1
      have hz9 := hz.next hbel
      obtain ⟨m, hm⟩ : ∃ m, m = sumTo l (k + 1) := ⟨_, rfl⟩
      obtain ⟨n, hn9⟩ : ∃ n, n = sumTo l k := ⟨_, rfl⟩
      obtain ⟨x, hx⟩ : ∃ x, x = l[k].z := ⟨_, rfl⟩
      have hst := sumTo_step hlt
      have hnl : n.natAbs < 4294967296 ^ (N + 1) := by rw [hn9]; exact HL.out _ (by omega)
      rw [← hm, ← hn9, ← hx] at hst
      rw [← hn9] at hn b3r
      rw [← hx] at hz9
      obtain ⟨eg, heg⟩ : ∃ v, v = l[k].g := ⟨_, rfl⟩
      obtain ⟨eA, heA⟩ : ∃ v, v = l[k].A := ⟨_, rfl⟩
      obtain ⟨exs, hexs⟩ : ∃ v, v = l[k].xs := ⟨_, rfl⟩
      obtain ⟨ec, hec⟩ : ∃ v, v = l[k].c := ⟨_, rfl⟩
      rw [← heg] at hx0
      rw [← heA, ← hexs, ← hec] at hx1
      rw [← heg, ← heA, ← hexs, ← hec] at hz9
      have CL : Hid (∀ W (_ : Below wr.heap.size wr W), Calls Tryz.prog 50 #[.agg #[.bool (isNeg n), .slice An zn.length cn], .agg #[.bool eg, .slice eA exs.length ec]] W fun e w' => ZOut W w' m e) := fun W hW => by
        rw [hst]
        exact Zh.radd ((Zh.of (K := N + 1) hn hr hnl).next hW) (hz9.next hW) (by omega) (by omega)
      have Hm := Lib.hid hm
      have HR := Lib.hid hr
      have HB2 := Lib.hid b2r
      have HB3 := Lib.hid b3r
      have KB := Lib.hid hbel
      have s0 := b3r.lt
      clear hn hr b2r b3r hbel h0 h1 hz hz9 hm hn9 hx hst heg heA hexs hec hnl
      go_upto_region 5 with (fail)
      obtain ⟨v1, hv1⟩ : ∃ v, v = wr.alloc (.cells #[.bool eg, .slice eA exs.length ec] 28) := ⟨_, rfl⟩
      rw [← hv1]
      have b5 : Blk v1 wr.heap.size 28 [.bool eg, .slice eA exs.length ec] := by rw [hv1]; exact blk_one _ _ _
      have j1 : Below wr.heap.size wr v1 := by rw [hv1]; exact bel_one _ _
      obtain ⟨g5, hg5⟩ : ∃ g, g = wr.heap.size := ⟨_, rfl⟩
      rw [← hg5] at b5 ⊢
      obtain ⟨p0, p1, _, _⟩ := b5.two
      obtain ⟨r0, r1, _, _⟩ := (HB3.out.below j1 s0).two
      clear hv1 hg5 hx0 hx1
      go_wp2_with fail
      refine (CL.out _ j1).mono ?_
      rintro e v2 ⟨zs, As, cs, rfl, hzs, hrs, hb2⟩
      have j2 := bst j1 hb2 (Nat.le_refl _)
      have k2 := bst KB.out j2 (Nat.le_refl _)
      have B3 := HB3.out.below j2 s0
      have B2 := HB2.out.below j2 HB2.out.lt
      have rs : Res v2 w.heap.size 61 As cs (u32s zs) := hrs.mono (Nat.le_trans KB.out.size j1.size)
      obtain ⟨q0, q1, q2, q3⟩ := B3.two
      clear p0 p1 r0 r1 CL hb2 hrs
      go_wp2_with fail
      go_roundw
      case rel => exact ⟨k + 1, zs, As, cs, by omega, by go_num, by rw [← Hm.out]; exact blk_pair B3 _ _, by rw [← Hm.out]; exact hzs, res_var2 rs B3 _ _, (B2.far (p := ⟨w.heap.size + 1, 0, none⟩) (by simp) _).far (p := ⟨w.heap.size + 1, 1, none⟩) (by simp) _, bsc (bsc k2 (by omega) _) (by omega) _⟩
      case measure => simp [intOf]; omega
    · obtain rfl : k = l.length := by omega
      obtain ⟨m, hm⟩ : ∃ m, m = sumTo l l.length := ⟨_, rfl⟩
      rw [← hm] at hn b3r
      have Hm := Lib.hid hm
      obtain ⟨q0, q1, q2, q3⟩ := b2r.two
      obtain ⟨r0, r1, _, _⟩ := b3r.two
      have HB2 := Lib.hid b2r
      have KB := Lib.hid hbel
      clear hm hlt hk b2r b3r hbel
      go_wp2_with fail
      rw [← Hm.out]
      exact zretT (z := m) KB.out HB2.out (Nat.le_refl _) hn hr rfl rfl rfl rfl

set_option maxHeartbeats 6400000 in
theorem rzgcd_any {w : World} {N : Nat} {A : Option Addr} {c : Nat} (l : List ZE1) (h : ZR w N A l) (hN : N ≤ 1048576) (hlen : l.length ≤ 1048576) :
    Calls Tryz.prog 9 #[.slice A l.length c] w fun e w' => ZOut w w' (igcdTo l l.length) e := by
  have HL : Hid (∀ k, k ≤ l.length → (igcdTo l k).natAbs < 4294967296 ^ (N + 1)) := fun k hk => igcd_lt h k hk
  have H := Lib.hid h.zl
  have b2 := blk_pair2 w (.bool false) (.slice none 0 0) (.bool false) (.slice none 0 0)
  have k0 := bel_two w (.cells #[.bool false, .slice none 0 0] 28) (.cells #[.bool false, .slice none 0 0] 28)
  clear h
  go_enter Tryz.func9, Tryz.ntmps9
  go_upto_region 2 with (fail)
  obtain ⟨w0, hw0⟩ : ∃ v, v = (w.alloc (.cells #[.bool false, .slice none 0 0] 28)).alloc (.cells #[.bool false, .slice none 0 0] 28) := ⟨_, rfl⟩
  rw [← hw0] at b2 k0 ⊢
  obtain ⟨b2, b3⟩ := b2
  clear hw0
  obtain ⟨zi, Ai, ci, hzi, hri, hb0⟩ : ∃ (zi : List Nat) (Ai : Option Addr) (ci : Nat), Num 4294967296 zi 0 ∧ Res w0 w.heap.size 61 Ai ci (u32s zi) ∧ Value.slice none 0 0 = .slice Ai zi.length ci := ⟨[], none, 0, Num.zero_ _, Res.none_, rfl⟩
  rw [hb0] at b3
  clear hb0
  go_wp2_with fail
  go_loopw [5, 9] (fun _ iv wr => ∃ (k : Nat) (zn : List Nat) (An : Option Addr) (cn : Nat), k ≤ l.length ∧ iv = .int .i64 (k : Int) ∧ Blk wr (w.heap.size + 1) 28 [.bool (isNeg (igcdTo l k)), .slice An zn.length cn] ∧ Num 4294967296 zn (igcdTo l k).natAbs ∧ Res wr w.heap.size 61 An cn (u32s zn) ∧ Blk wr w.heap.size 28 [.bool false, .slice none 0 0] ∧ Below w.heap.size w wr) (fun _ iv _ => l.length - (intOf iv).toNat)
  case atStart => exact ⟨0, zi, Ai, ci, Nat.zero_le _, rfl, b3, hzi, hri, b2, k0⟩
  case round =>
    obtain ⟨k, zn, An, cn, hk, rfl, b3r, hn, hr, b2r, hbel⟩ := hrel
    clear b2 b3 k0 hzi hri
    by_cases hlt : k < l.length
    · obtain ⟨b, off, rfl, hbw, h0, h1, hz⟩ := H.out k hlt
      have hx0 := (hbel.cell (p := ⟨b, off + k * 2, none⟩) hbw).trans h0
      have hx1 := (hbel.cell (p := ⟨b, off + k * 2 + 1, none⟩) hbw).trans h1
      have hz9 := hz.next hbel
      obtain ⟨m, hm⟩ : ∃ m, m = igcdTo l (k + 1) := ⟨_, rfl⟩
      obtain ⟨n, hn9⟩ : ∃ n, n = igcdTo l k := ⟨_, rfl⟩
      obtain ⟨x, hx⟩ : ∃ x, x = l[k].z := ⟨_, rfl⟩
      have hst := igcdTo_step hlt
      have hnl : n.natAbs < 4294967296 ^ (N + 1) := by rw [hn9]; exact HL.out _ (by omega)
      rw [← hm, ← hn9, ← hx] at hst
      rw [← hn9] at hn b3r
      rw [← hx] at hz9
      obtain ⟨eg, heg⟩ : ∃ v, v = l[k].g := ⟨_, rfl⟩
      obtain ⟨eA, heA⟩ : ∃ v, v = l[k].A := ⟨_, rfl⟩
      obtain ⟨exs, hexs⟩ : ∃ v, v = l[k].xs := ⟨_, rfl⟩
      obtain ⟨ec, hec⟩ : ∃ v, v = l[k].c := ⟨_, rfl⟩
      rw [← heg] at hx0
      rw [← heA, ← hexs, ← hec] at hx1
      rw [← heg, ← heA, ← hexs, ← hec] at hz9
      have CL : Hid (∀ W (_ : Below wr.heap.size wr W), Calls Tryz.prog 40 #[.agg #[.bool (isNeg n), .slice An zn.length cn], .agg #[.bool eg, .slice eA exs.length ec]] W fun e w' => ZOut W w' m e) := fun W hW => by
        rw [hst]
        exact Zh.rgcd ((Zh.of (K := N + 1) hn hr hnl).next hW) (hz9.next hW) (by omega) (by omega)
      have Hm := Lib.hid hm
      have HR := Lib.hid hr
      have HB2 := Lib.hid b2r
      have HB3 := Lib.hid b3r
      have KB := Lib.hid hbel
      have s0 := b3r.lt
      clear hn hr b2r b3r hbel h0 h1 hz hz9 hm hn9 hx hst heg heA hexs hec hnl
      go_upto_region 5 with (fail)
      obtain ⟨v1, hv1⟩ : ∃ v, v = wr.alloc (.cells #[.bool eg, .slice eA exs.length ec] 28) := ⟨_, rfl⟩
      rw [← hv1]
      have b5 : Blk v1 wr.heap.size 28 [.bool eg, .slice eA exs.length ec] := by rw [hv1]; exact blk_one _ _ _
      have j1 : Below wr.heap.size wr v1 := by rw [hv1]; exact bel_one _ _
      obtain ⟨g5, hg5⟩ : ∃ g, g = wr.heap.size := ⟨_, rfl⟩
      rw [← hg5] at b5 ⊢
      obtain ⟨p0, p1, _, _⟩ := b5.two
      obtain ⟨r0, r1, _, _⟩ := (HB3.out.below j1 s0).two
      clear hv1 hg5 hx0 hx1
      go_wp2_with fail
      refine (CL.out _ j1).mono ?_
      rintro e v2 ⟨zs, As, cs, rfl, hzs, hrs, hb2⟩
      have j2 := bst j1 hb2 (Nat.le_refl _)
      have k2 := bst KB.out j2 (Nat.le_refl _)
      have B3 := HB3.out.below j2 s0
      have B2 := HB2.out.below j2 HB2.out.lt
      have rs : Res v2 w.heap.size 61 As cs (u32s zs) := hrs.mono (Nat.le_trans KB.out.size j1.size)
      obtain ⟨q0, q1, q2, q3⟩ := B3.two
      clear p0 p1 r0 r1 CL hb2 hrs
      go_wp2_with fail
      go_roundw
      case rel => exact ⟨k + 1, zs, As, cs, by omega, by go_num, by rw [← Hm.out]; exact blk_pair B3 _ _, by rw [← Hm.out]; exact hzs, res_var2 rs B3 _ _, (B2.far (p := ⟨w.heap.size + 1, 0, none⟩) (by simp) _).far (p := ⟨w.heap.size + 1, 1, none⟩) (by simp) _, bsc (bsc k2 (by omega) _) (by omega) _⟩
      case measure => simp [intOf]; omega
    · obtain rfl : k = l.length := by omega
      obtain ⟨m, hm⟩ : ∃ m, m = igcdTo l l.length := ⟨_, rfl⟩
      rw [← hm] at hn b3r
      have Hm := Lib.hid hm
      obtain ⟨q0, q1, q2, q3⟩ := b2r.two
      obtain ⟨r0, r1, _, _⟩ := b3r.two
      have HB2 := Lib.hid b2r
      have KB := Lib.hid hbel
      clear hm hlt hk b2r b3r hbel
      go_wp2_with fail
      rw [← Hm.out]
      exact zretT (z := m) KB.out HB2.out (Nat.le_refl _) hn hr rfl rfl rfl rfl

set_option maxHeartbeats 6400000 in
theorem rzprod_any {w : World} {N : Nat} {A : Option Addr} {c : Nat} (l : List ZE1) (h : ZR w N A l) (hN : N ≤ 1048576) (hlen : l.length ≤ 1048576) :
    Calls Tryz.prog 15 #[.slice A l.length c] w fun e w' => ZOut w w' (prodTo l l.length) e := by
  have HL : Hid (∀ k, k ≤ l.length → (prodTo l k).natAbs < 4294967296 ^ (N + 1)) := fun k hk => h.prod_lt k hk
  have H := Lib.hid h.zl
  have b2 := blk_pair2 w (.bool false) (.slice none 0 0) (.bool false) (.slice none 0 0)
  have k0 := bel_two w (.cells #[.bool false, .slice none 0 0] 28) (.cells #[.bool false, .slice none 0 0] 28)
  clear h
  go_enter Tryz.func15, Tryz.ntmps15
  go_wp2_with fail
  have k9 := bel_one w (.cells #[.bool false, .slice none 0 0] 28)
  have b9 := blk_one w (.bool false) (.slice none 0 0)
  obtain ⟨w0, hw0⟩ : ∃ v, v = w.alloc (.cells #[.bool false, .slice none 0 0] 28) := ⟨_, rfl⟩
  rw [← hw0] at k9 b9 ⊢
  clear hw0 b2 k0
  refine (rzof_any 1 (by decide) (by decide) _).mono ?_
  rintro e w9 ⟨zi, Ai, ci, rfl, hzi, hri, hb0⟩
  have hg3 : w.heap.size < w9.heap.size := Nat.lt_of_lt_of_le b9.lt hb0.size
  have k8 := bst k9 hb0 (Nat.le_refl _)
  have b2 := (b9.below hb0 b9.lt).heapAlloc (.cells #[.bool (isNeg 1), .slice Ai zi.length ci] 28)
  have b3 := blk_one w9 (.bool (isNeg 1)) (.slice Ai zi.length ci)
  have k0 := bal k8 (Nat.le_refl _) (.cells #[.bool (isNeg 1), .slice Ai zi.length ci] 28)
  replace hri := (hri.mono k9.size).below (bel_one w9 (.cells #[.bool (isNeg 1), .slice Ai zi.length ci] 28)) (Nat.le_refl _)
  go_upto_region 2 with (fail)
  obtain ⟨w1, hw1⟩ : ∃ v, v = w9.alloc (.cells #[.bool (isNeg 1), .slice Ai zi.length ci] 28) := ⟨_, rfl⟩
  rw [← hw1] at b2 b3 k0 hri ⊢
  obtain ⟨g3, hg9⟩ : ∃ g, g = w9.heap.size := ⟨_, rfl⟩
  rw [← hg9] at hg3 b3 ⊢
  clear hw1 hg9 k8 k9 b9 hb0
  go_wp2_with fail
  go_loopw [5, 9] (fun _ iv wr => ∃ (k : Nat) (zn : List Nat) (An : Option Addr) (cn : Nat), k ≤ l.length ∧ iv = .int .i64 (k : Int) ∧ Blk wr g3 28 [.bool (isNeg (prodTo l k)), .slice An zn.length cn] ∧ Num 4294967296 zn (prodTo l k).natAbs ∧ Res wr w.heap.size 61 An cn (u32s zn) ∧ Blk wr w.heap.size 28 [.bool false, .slice none 0 0] ∧ Below w.heap.size w wr) (fun _ iv _ => l.length - (intOf iv).toNat)
  case atStart => exact ⟨0, zi, Ai, ci, Nat.zero_le _, rfl, b3, hzi, hri, b2, k0⟩
  case round =>
    obtain ⟨k, zn, An, cn, hk, rfl, b3r, hn, hr, b2r, hbel⟩ := hrel
    clear b2 b3 k0 hzi hri
    by_cases hlt : k < l.length
    · obtain ⟨b, off, rfl, hbw, h0, h1, hz⟩ := H.out k hlt
      have hx0 := (hbel.cell (p := ⟨b, off + k * 2, none⟩) hbw).trans h0
      have hx1 := (hbel.cell (p := ⟨b, off + k * 2 + 1, none⟩) hbw).trans h1
      have hz9 := hz.next hbel
      obtain ⟨m, hm⟩ : ∃ m, m = prodTo l (k + 1) := ⟨_, rfl⟩
      obtain ⟨n, hn9⟩ : ∃ n, n = prodTo l k := ⟨_, rfl⟩
      obtain ⟨x, hx⟩ : ∃ x, x = l[k].z := ⟨_, rfl⟩
      have hst := prodTo_step hlt
      have hnl : n.natAbs < 4294967296 ^ (N + 1) := by rw [hn9]; exact HL.out _ (by omega)
      rw [← hm, ← hn9, ← hx] at hst
      rw [← hn9] at hn b3r
      rw [← hx] at hz9
      obtain ⟨eg, heg⟩ : ∃ v, v = l[k].g := ⟨_, rfl⟩
      obtain ⟨eA, heA⟩ : ∃ v, v = l[k].A := ⟨_, rfl⟩
      obtain ⟨exs, hexs⟩ : ∃ v, v = l[k].xs := ⟨_, rfl⟩
      obtain ⟨ec, hec⟩ : ∃ v, v = l[k].c := ⟨_, rfl⟩
      rw [← heg] at hx0
      rw [← heA, ← hexs, ← hec] at hx1
      rw [← heg, ← heA, ← hexs, ← hec] at hz9
      have CL : Hid (∀ W (_ : Below wr.heap.size wr W), Calls Tryz.prog 49 #[.agg #[.bool (isNeg n), .slice An zn.length cn], .agg #[.bool eg, .slice eA exs.length ec]] W fun e w' => ZOut W w' m e) := fun W hW => by
        rw [hst]
        exact Zh.rmul ((Zh.of (K := N + 1) hn hr hnl).next hW) (hz9.next hW) (by omega)
      have Hm := Lib.hid hm
      have HR := Lib.hid hr
      have HB2 := Lib.hid b2r
      have HB3 := Lib.hid b3r
      have KB := Lib.hid hbel
      have s0 := b3r.lt
      clear hn hr b2r b3r hbel h0 h1 hz hz9 hm hn9 hx hst heg heA hexs hec hnl
      go_upto_region 5 with (fail)
      obtain ⟨v1, hv1⟩ : ∃ v, v = wr.alloc (.cells #[.bool eg, .slice eA exs.length ec] 28) := ⟨_, rfl⟩
      rw [← hv1]
      have b5 : Blk v1 wr.heap.size 28 [.bool eg, .slice eA exs.length ec] := by rw [hv1]; exact blk_one _ _ _
      have j1 : Below wr.heap.size wr v1 := by rw [hv1]; exact bel_one _ _
      obtain ⟨g5, hg5⟩ : ∃ g, g = wr.heap.size := ⟨_, rfl⟩
      rw [← hg5] at b5 ⊢
      obtain ⟨p0, p1, _, _⟩ := b5.two
      obtain ⟨r0, r1, _, _⟩ := (HB3.out.below j1 s0).two
      clear hv1 hg5 hx0 hx1
      go_wp2_with fail
      refine (CL.out _ j1).mono ?_
      rintro e v2 ⟨zs, As, cs, rfl, hzs, hrs, hb2⟩
      have j2 := bst j1 hb2 (Nat.le_refl _)
      have k2 := bst KB.out j2 (Nat.le_refl _)
      have B3 := HB3.out.below j2 s0
      have B2 := HB2.out.below j2 HB2.out.lt
      have rs : Res v2 w.heap.size 61 As cs (u32s zs) := hrs.mono (Nat.le_trans KB.out.size j1.size)
      obtain ⟨q0, q1, q2, q3⟩ := B3.two
      clear p0 p1 r0 r1 CL hb2 hrs
      go_wp2_with fail
      go_roundw
      case rel => exact ⟨k + 1, zs, As, cs, by omega, by go_num, by rw [← Hm.out]; exact blk_pair B3 _ _, by rw [← Hm.out]; exact hzs, res_var2 rs B3 _ _, (B2.far (p := ⟨g3, 0, none⟩) (by show w.heap.size ≠ g3; omega) _).far (p := ⟨g3, 1, none⟩) (by show w.heap.size ≠ g3; omega) _, bsc (bsc k2 (by omega) _) (by omega) _⟩
      case measure => simp [intOf]; omega
    · obtain rfl : k = l.length := by omega
      obtain ⟨m, hm⟩ : ∃ m, m = prodTo l l.length := ⟨_, rfl⟩
      rw [← hm] at hn b3r
      have Hm := Lib.hid hm
      obtain ⟨q0, q1, q2, q3⟩ := b2r.two
      obtain ⟨r0, r1, _, _⟩ := b3r.two
      have HB2 := Lib.hid b2r
      have KB := Lib.hid hbel
      clear hm hlt hk b2r b3r hbel
      go_wp2_with fail
      rw [← Hm.out]
      exact zretT (z := m) KB.out HB2.out (Nat.le_refl _) hn hr rfl rfl rfl rfl
end
section
open Go.RowKit

theorem mul_fold (l : List ZE1) (a : Int) : l.foldl (fun s e => s * e.z) a = a * l.foldl (fun s e => s * e.z) 1 := by
  induction l generalizing a with
  | nil => simp
  | cons x l ih => rw [List.foldl_cons, List.foldl_cons, ih, ih (1 * x.z), Int.one_mul, Int.mul_assoc]
theorem prod_split (l : List ZE1) (h : Nat) : prodTo l l.length = prodTo (l.take h) (l.take h).length * prodTo (l.drop h) (l.drop h).length := by
  unfold prodTo
  rw [List.take_length, List.take_length, List.take_length]
  conv => lhs; rw [← List.take_append_drop h l, List.foldl_append]
  exact mul_fold _ _
theorem add_fold (l : List ZE1) (a : Nat) : l.foldl (fun s e => s + e.xs.length) a = a + l.foldl (fun s e => s + e.xs.length) 0 := by
  induction l generalizing a with
  | nil => simp
  | cons x l ih => rw [List.foldl_cons, List.foldl_cons, ih, ih (0 + x.xs.length)]; omega
theorem lens_split (l : List ZE1) (h : Nat) : lensTo l l.length = lensTo (l.take h) (l.take h).length + lensTo (l.drop h) (l.drop h).length := by
  unfold lensTo
  rw [List.take_length, List.take_length, List.take_length]
  conv => lhs; rw [← List.take_append_drop h l, List.foldl_append]
  exact add_fold _ _
section
variable {w : World} {N b off : Nat} {l : List ZE1}
theorem ZR.take (h : ZR w N (some ⟨b, off, none⟩) l) (m : Nat) : ZR w N (some ⟨b, off, none⟩) (l.take m) := ⟨fun k hk => by
    have hk2 : k < l.length := by rw [List.length_take] at hk; omega
    obtain ⟨b', off', e, hb, h0, h1, hz⟩ := h.zl k hk2
    refine ⟨b', off', e, hb, ?_⟩
    rw [List.getElem_take]
    exact ⟨h0, h1, hz⟩, by have := lens_split l m; have := h.all; omega⟩
theorem ZR.drop (h : ZR w N (some ⟨b, off, none⟩) l) (m : Nat) : ZR w N (some ⟨b, off + m * 2, none⟩) (l.drop m) := ⟨fun k hk => by
    have hk2 : m + k < l.length := by rw [List.length_drop] at hk; omega
    obtain ⟨b', off', e, hb, h0, h1, hz⟩ := h.zl (m + k) hk2
    obtain ⟨rfl, rfl, _⟩ := by simpa using e
    refine ⟨_, _, rfl, hb, ?_⟩
    rw [List.getElem_drop]
    refine ⟨?_, ?_, hz⟩
    · rw [← h0]; congr 2; omega
    · rw [← h1]; congr 2; omega, by have := lens_split l m; have := h.all; omega⟩
end
theorem prodTo_zero : prodTo [] 0 = 1 := rfl
theorem prodTo_one (e : ZE1) : prodTo [e] 1 = e.z := by unfold prodTo; simp

set_option maxHeartbeats 6400000 in
theorem zprod_any {N : Nat} (hN : N ≤ 1048576) : ∀ (n : Nat) (l : List ZE1), l.length = n → n ≤ 1048576 → ∀ (w : World) (A : Option Addr) (c : Nat), ZR w N A l → n ≤ c → c ≤ 281474976710656 →
    Calls Tryz.prog 14 #[.slice A l.length c] w fun e w' => ZOut w w' (prodTo l l.length) e := fun n => by
  induction n using Nat.strongRecOn with
  | _ n ih =>
    intro l hn hn2 w A c h hc hc2
    have k0 := bel_one w (.cells #[.bool false, .slice none 0 0] 28)
    have b0 := blk_one w (.bool false) (.slice none 0 0)
    match l, hn with
    | [], hn =>
      clear ih h
      go_enter Tryz.func14, Tryz.ntmps14
      go_wp2_with fail
      obtain ⟨w0, hw0⟩ : ∃ v, v = w.alloc (.cells #[.bool false, .slice none 0 0] 28) := ⟨_, rfl⟩
      rw [← hw0] at k0 b0 ⊢
      clear hw0
      refine (zof_any 1 (by decide) (by decide) _).mono ?_
      rintro e w1 ⟨zs, As, cs, rfl, hzs, hrs, hb1⟩
      have b1 := b0.below hb1 b0.lt
      obtain ⟨q0, q1, q2, q3⟩ := b1.two
      go_wp2_with fail
      exact zretT (z := 1) (bst k0 hb1 (Nat.le_refl _)) b1 (Nat.le_refl _) hzs (hrs.mono k0.size) rfl rfl rfl rfl
    | [e1], hn =>
      obtain ⟨b, off, rfl, hbw, h0, h1, hz⟩ := h.zl 0 (by simp)
      simp only [List.getElem_cons_zero] at h0 h1 hz
      clear ih
      have NM : Hid (∀ W (_ : Below w.heap.size w W), Calls Tryz.prog 52 #[.agg #[.bool e1.g, .slice e1.A e1.xs.length e1.c]] W fun e w' => ZOut W w' e1.z e) := fun W hW => (hz.next hW).norm (by omega)
      obtain ⟨eg, heg⟩ : ∃ v, v = e1.g := ⟨_, rfl⟩
      obtain ⟨eA, heA⟩ : ∃ v, v = e1.A := ⟨_, rfl⟩
      obtain ⟨exs, hexs⟩ : ∃ v, v = e1.xs := ⟨_, rfl⟩
      obtain ⟨ec, hec⟩ : ∃ v, v = e1.c := ⟨_, rfl⟩
      obtain ⟨z, hze⟩ : ∃ v, v = e1.z := ⟨_, rfl⟩
      have hpz : prodTo [e1] [e1].length = z := by rw [hze]; exact prodTo_one e1
      rw [hpz]
      rw [← heg, ← heA, ← hexs, ← hec, ← hze] at NM
      rw [← heg] at h0
      rw [← heA, ← hexs, ← hec] at h1
      simp only [Nat.zero_mul, Nat.add_zero] at h0 h1
      have h0' := (k0.cell (p := ⟨b, off, none⟩) hbw).trans h0
      have h1' := (k0.cell (p := ⟨b, off + 1, none⟩) hbw).trans h1
      clear h hz heg heA hexs hec hze hpz h0 h1
      go_enter Tryz.func14, Tryz.ntmps14
      go_wp2_with fail
      obtain ⟨w0, hw0⟩ : ∃ v, v = w.alloc (.cells #[.bool false, .slice none 0 0] 28) := ⟨_, rfl⟩
      rw [← hw0] at k0 b0 h0' h1' ⊢
      clear hw0 h0' h1'
      refine (NM.out _ k0).mono ?_
      rintro e w1 ⟨zs, As, cs, rfl, hzs, hrs, hb1⟩
      have b1 := b0.below hb1 b0.lt
      obtain ⟨q0, q1, q2, q3⟩ := b1.two
      go_wp2_with fail
      exact zretT (z := z) (bst k0 hb1 (Nat.le_refl _)) b1 (Nat.le_refl _) hzs (hrs.mono k0.size) rfl rfl rfl rfl
    | e1 :: e2 :: l', hn =>
      obtain ⟨b, off, rfl, hbw, _, _, _⟩ := h.zl 0 (by simp)
      obtain ⟨L, hL⟩ : ∃ L, L = e1 :: e2 :: l' := ⟨_, rfl⟩
      have hL2 : 2 ≤ L.length := by rw [hL]; simp
      rw [← hL] at hn h ⊢
      clear hL
      subst hn
      obtain ⟨hf, hhf⟩ : ∃ hf, hf = L.length / 2 := ⟨_, rfl⟩
      have hsp := prod_split L hf
      have ht : (L.take hf).length = hf := by rw [List.length_take]; omega
      have hd : (L.drop hf).length = L.length - hf := by rw [List.length_drop]
      have CL1 : Hid (∀ W (_ : Below w.heap.size w W), Calls Tryz.prog 14 #[.slice (some ⟨b, off, none⟩) hf c] W fun e w' => ZOut W w' (prodTo (L.take hf) (L.take hf).length) e) := fun W hW => by
        have := ih hf (by omega) (L.take hf) ht (by omega) W (some ⟨b, off, none⟩) c ((h.take hf).next hW) (by omega) hc2
        conv at this => arg 3; rw [ht]
        exact this
      have CL2 : Hid (∀ W (_ : Below w.heap.size w W), Calls Tryz.prog 14 #[.slice (some ⟨b, off + hf * 2, none⟩) (L.length - hf) (c - hf)] W fun e w' => ZOut W w' (prodTo (L.drop hf) (L.drop hf).length) e) := fun W hW => by
        have := ih (L.length - hf) (by omega) (L.drop hf) hd (by omega) W (some ⟨b, off + hf * 2, none⟩) (c - hf) ((h.drop hf).next hW) (by omega) (by omega)
        conv at this => arg 3; rw [hd]
        exact this
      have l1 := (h.take hf).prod_lt _ (Nat.le_refl _)
      have l2 := (h.drop hf).prod_lt _ (Nat.le_refl _)
      obtain ⟨x, hx⟩ : ∃ x, x = prodTo (L.take hf) (L.take hf).length := ⟨_, rfl⟩
      obtain ⟨y, hy⟩ : ∃ y, y = prodTo (L.drop hf) (L.drop hf).length := ⟨_, rfl⟩
      rw [← hx] at hsp CL1 l1
      rw [← hy] at hsp CL2 l2
      rw [hsp]
      have MU : Hid (∀ (z1 z2 : List Nat) (A1 A2 : Option Addr) (c1 c2 B1 B2 : Nat) (w1 w2 W : World), Num 4294967296 z1 x.natAbs → Res w1 B1 61 A1 c1 (u32s z1) → Below w1.heap.size w1 W → Num 4294967296 z2 y.natAbs → Res w2 B2 61 A2 c2 (u32s z2) → Below w2.heap.size w2 W → Calls Tryz.prog 23 #[.agg #[.bool (isNeg x), .slice A1 z1.length c1], .agg #[.bool (isNeg y), .slice A2 z2.length c2]] W fun e w' => ZOut W w' (x * y) e) := fun z1 z2 A1 A2 c1 c2 B1 B2 w1 w2 W n1 r1 h1 n2 r2 h2 =>
        Zh.mul ((Zh.of (K := N + 1) n1 r1 l1).next h1) ((Zh.of (K := N + 1) n2 r2 l2).next h2) (by omega) (by omega)
      obtain ⟨n, hn⟩ : ∃ n, n = L.length := ⟨_, rfl⟩
      rw [← hn] at hhf CL2 hL2 hc hn2 ⊢
      have t1 : ((n : Int) == 0) = false := beq_eq_false_iff_ne.2 (by omega)
      have t2 : ((n : Int) == 1) = false := beq_eq_false_iff_ne.2 (by omega)
      have t3 : (n : Int) / 2 = (hf : Int) := by omega
      have hf1 : hf ≤ n := by omega
      have hf2 : 0 < c - hf := by omega
      clear ih h hsp ht hd l1 l2 hx hy hn hhf
      go_enter Tryz.func14, Tryz.ntmps14
      go_upto_region 7 with (simp only [t3])
      obtain ⟨w0, hw0⟩ : ∃ v, v = w.alloc (.cells #[.bool false, .slice none 0 0] 28) := ⟨_, rfl⟩
      rw [← hw0] at k0 b0 ⊢
      clear hw0
      go_region_with (first
        | (go_at_call_of 14 (Value.slice (some ⟨b, off, none⟩) hf c); (with_reducible refine (CL1.out _ (by repeat (first | exact k0 | exact j1 | exact j2 | apply bdw | (refine bdn ?_ _)))).mono ?_); rintro e w1 ⟨z1, A1, c1, rfl, hz1, hr1, hb1⟩; have m1 : Below w0.heap.size w0 w1 := bst (by repeat (first | exact Below.refl _ _ | exact m1 | exact m2 | apply bdw | (refine bdn ?_ _))) hb1 (Nat.le_refl _); have j1 : Below w.heap.size w w1 := bst (by repeat (first | exact k0 | exact j1 | exact j2 | apply bdw | (refine bdn ?_ _))) hb1 (Nat.le_refl _))
        | (go_at_call 14; (with_reducible refine (CL2.out _ (by repeat (first | exact k0 | exact j1 | exact j2 | apply bdw | (refine bdn ?_ _)))).mono ?_); rintro e w2 ⟨z2, A2, c2, rfl, hz2, hr2, hb2⟩; have m2 : Below w0.heap.size w0 w2 := bst (by repeat (first | exact Below.refl _ _ | exact m1 | exact m2 | apply bdw | (refine bdn ?_ _))) hb2 (Nat.le_refl _); have j2 : Below w.heap.size w w2 := bst (by repeat (first | exact k0 | exact j1 | exact j2 | apply bdw | (refine bdn ?_ _))) hb2 (Nat.le_refl _); have i2 : Below w1.heap.size w1 w2 := bst (by repeat (first | exact Below.refl _ _ | apply bdw | (refine bdn ?_ _))) hb2 (Nat.le_refl _))
        | (go_at_call 23; (with_reducible refine (MU.out z1 z2 A1 A2 c1 c2 _ _ w1 w2 _ hz1 hr1 (by repeat (first | exact i2 | apply bdw | (refine bdn ?_ _))) hz2 hr2 (by repeat (first | exact Below.refl _ _ | apply bdw | (refine bdn ?_ _)))).mono ?_); rintro e w3 ⟨z3, A3, c3, rfl, hz3, hr3, hb3⟩; have m3 : Below w0.heap.size w0 w3 := bst (by repeat (first | exact Below.refl _ _ | exact m1 | exact m2 | apply bdw | (refine bdn ?_ _))) hb3 (Nat.le_refl _); have b3 := b0.below m3 b0.lt; obtain ⟨q0, q1, q2, q3⟩ := b3.two; have j3 : Below w.heap.size w w3 := bst (by repeat (first | exact k0 | exact j1 | exact j2 | apply bdw | (refine bdn ?_ _))) hb3 (Nat.le_refl _)))
      all_goals
        go_wp2_with fail
        exact zretT (z := x * y) j3 b3 (Nat.le_refl _) hz3 (hr3.mono j2.size) rfl rfl rfl rfl
end
section
open Go.RowKit

section
variable {w : World} {g g2 : Bool} {A A2 : Option Addr} {c c2 K J : Nat} {xs ys : List Nat} {z y : Int}
theorem Zh.near (h : Zh w g A c xs z K) (h2 : Zh w g2 A2 c2 ys y J) (hK : K ≤ 67108864) (hJ : J ≤ 67108863) :
    Calls Tryz.prog 31 #[.agg #[.bool g, .slice A xs.length c], .agg #[.bool g2, .slice A2 ys.length c2]] w fun e w' => ZE w w' (nrQ z y) (nrE y) e := by
  by_cases hy : y = 0
  · subst hy
    exact near_nought h h2 hK (by omega)
  · rw [show nrQ z y = nearZ z y from if_neg hy, show nrE y = 0 from if_neg hy]
    have hpar : (z / y) % 2 = 1 ↔ (z / y).natAbs % 2 = 1 := by omega
    unfold nearZ
    rcases Nat.lt_trichotomy (2 * (z % y).natAbs) y.natAbs with hlt | heq | hgt
    · rw [if_neg (by omega)]
      exact near_lt h h2 hy hK hJ (by unfold cmpN; rw [if_pos hlt])
    · by_cases hb : (z / y).natAbs % 2 = 1
      · rw [if_pos (Or.inr ⟨heq, hpar.2 hb⟩)]
        exact near_eqo h h2 hy hK hJ (by unfold cmpN; rw [if_neg (by omega), if_neg (by omega)]) hb
      · rw [if_neg (by rintro (h9 | ⟨_, h9⟩); · omega
                       · exact hb (hpar.1 h9))]
        exact near_eqe h h2 hy hK hJ (by unfold cmpN; rw [if_neg (by omega), if_neg (by omega)]) (by omega)
    · rw [if_pos (Or.inl hgt)]
      exact near_gt h h2 hy hK hJ (by unfold cmpN; rw [if_neg (by omega), if_pos hgt])
end
end
end Go.Proofs.YtanlejlmckdeiaaGreatDoor
