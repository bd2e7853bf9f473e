/- The library's sort at []uint32: breakPatternsOrdered. Conditions: the row's size. -/
import Derived.Test.YtcopkeccogpkmaaDoorPkPp17
import Derived.Test.YtcopkeccogpkmaaDoorShelf
import Derived.Sort.LotD5
import Derived.Laws.Bits64
import Derived.Laws.Bits64b
namespace Go.Proofs.YtcopkeccogpkmaaDoor
open Go.RowKit Go.Sort

theorem Tb.side {g k : Nat} {a b c : World} (h : Tb g a b) (h2 : Tb k b c) (hk : a.heap.size ≤ k) : Tb g a c :=
  ⟨h2.os.trans h.os, h2.tape.trans h.tape, h2.output.trans h.output, Nat.le_trans h.size h2.size, fun i hi hg => (h2.block i (Nat.lt_of_lt_of_le hi h.size) (by omega)).trans (h.block i hi hg)⟩
/-- The generator's state. -/
def Xs (gr x : Nat) (w : World) : Prop := Blk w gr 58 [.int .u64 (x : Int)]
theorem Xs.drewN {gr x : Nat} {w : World} (h : Xs gr x w) (n : Nat) : Xs gr x (w.drewN n) := h
set_option maxHeartbeats 2000000 in
theorem next_anyS (gr X : Nat) (hX : X < 18446744073709551616) (w : World) (h : Xs gr X w) :
    Calls Tryd.prog 41 #[.pointer (some ⟨gr, 0, none⟩)] w fun e w' => e = .returned (.int .u64 ((xorNextN X : Nat) : Int)) ∧ Xs gr (xorNextN X) w' ∧ Tb gr w w' := by
  obtain ⟨P, hP⟩ : ∃ P : Nat, P = X ^^^ (X * 8192 % 18446744073709551616) := ⟨_, rfl⟩
  obtain ⟨Q, hQ⟩ : ∃ Q : Nat, Q = P ^^^ (P / 128) := ⟨_, rfl⟩
  obtain ⟨R, hR⟩ : ∃ R : Nat, R = Q ^^^ (Q * 131072 % 18446744073709551616) := ⟨_, rfl⟩
  have lP : P < 18446744073709551616 := by rw [hP]; exact Nat.xor_lt_two_pow (n := 64) (by omega) (by omega)
  have lQ : Q < 18446744073709551616 := by rw [hQ]; exact Nat.xor_lt_two_pow (n := 64) (by omega) (by omega)
  have e1 : bits .xor .u64 (X : Int) (IntKind.u64.wrap ((X : Int) * 8192)) = (P : Int) := by
    rw [IntKind.wrap_u64, show ((X : Int) * 8192 % 18446744073709551616) = ((X * 8192 % 18446744073709551616 : Nat) : Int) by omega, bits_xor_u64_nat _ _ hX (by omega), hP]
  have e2 : bits .xor .u64 (P : Int) ((P : Int) / 128) = (Q : Int) := by
    rw [show ((P : Int) / 128) = ((P / 128 : Nat) : Int) by omega, bits_xor_u64_nat _ _ lP (by omega), hQ]
  have e3 : bits .xor .u64 (Q : Int) (IntKind.u64.wrap ((Q : Int) * 131072)) = (R : Int) := by
    rw [IntKind.wrap_u64, show ((Q : Int) * 131072 % 18446744073709551616) = ((Q * 131072 % 18446744073709551616 : Nat) : Int) by omega, bits_xor_u64_nat _ _ lQ (by omega), hR]
  have HV : Hid (xorNextN X = R) := by show _ = _; unfold xorNextN; simp only []; rw [← hP, ← hQ, ← hR]
  have H1 : ∀ (W : World) (v : Nat), Xs gr v W → W.cell? ⟨gr, 0, none⟩ = some (.int .u64 (v : Int)) ∧ W.frozen? ⟨gr, 0, none⟩ = false := fun W v hW => ⟨Blk.cell hW 0, Blk.frozen hW 0⟩
  have H2 : ∀ (W : World) (v u : Nat), Xs gr v W → Xs gr u (W.setCell ⟨gr, 0, none⟩ (.int .u64 (u : Int))) := fun W v u hW => Blk.set_ hW 0 (.int .u64 (u : Int))
  obtain ⟨c0, f0⟩ := H1 w X h
  have h1 := H2 w X P h
  obtain ⟨c1, f1⟩ := H1 _ P h1
  have h2 := H2 _ P Q h1
  obtain ⟨c2, f2⟩ := H1 _ Q h2
  have h3 := H2 _ Q R h2
  obtain ⟨c3, f3⟩ := H1 _ R h3
  have HX3 := Lib.hid h3
  have HT : Hid (Tb gr w (((w.setCell ⟨gr, 0, none⟩ (.int .u64 (P : Int))).setCell ⟨gr, 0, none⟩ (.int .u64 (Q : Int))).setCell ⟨gr, 0, none⟩ (.int .u64 (R : Int)))) := (((Tb.refl gr w).setCell _ _).setCell _ _).setCell _ _
  clear hP hQ hR H1 H2 h h1 h2 h3
  go_enter Tryd.func41, Tryd.ntmps41
  go_upto_region 1 with (fail)
  go_region
  all_goals go_upto_region 2 with (fail)
  generalize w.setCell ⟨gr, 0, none⟩ (.int .u64 (P : Int)) = W1 at c1 f1 c2 f2 c3 f3 HX3 HT ⊢
  all_goals go_region
  all_goals go_upto_region 3 with (fail)
  generalize W1.setCell ⟨gr, 0, none⟩ (.int .u64 (Q : Int)) = W2 at c2 f2 c3 f3 HX3 HT ⊢
  all_goals go_region
  all_goals go_wp2
  go_ret
  exact ⟨by rw [HV.out]; rfl, by rw [HV.out]; exact HX3.out, HT.out.drew.drew.drew⟩
theorem pow2_fits (k : Nat) (hk : k ≤ 62) : IntKind.u64.wrap ((2 : Int) ^ k) = ((1 <<< k : Nat) : Int) := by
  have h : (2 : Nat) ^ k ≤ 2 ^ 62 := Nat.pow_le_pow_right (by decide) hk
  obtain ⟨x, hx⟩ : ∃ x, x = (2 : Nat) ^ k := ⟨_, rfl⟩
  rw [IntKind.wrap_u64, Nat.one_shiftLeft, show ((2 : Int) ^ k) = ((2 ^ k : Nat) : Int) by rw [Int.natCast_pow]; rfl, ← hx]
  rw [← hx] at h
  omega
theorem bitLen_is : ∀ x : Nat, x < 2 ^ 64 → Lib.bitLen x = bitsLen x := by
  intro x
  induction x using Nat.strongRecOn with
  | ind x ih =>
    intro h
    rcases Nat.eq_zero_or_pos x with h0 | h0
    · subst h0; rfl
    · have e := Lib.bitLen_half x (by omega) h
      rw [e, ih (x / 2) (by omega) (by omega)]
      unfold bitsLen
      rw [if_neg (show ¬ x = 0 by omega), Nat.log2_def x]
      rcases Nat.lt_or_ge x 2 with h2 | h2
      · rw [if_pos (show x / 2 = 0 by omega), if_neg (show ¬ 2 ≤ x by omega)]
      · rw [if_neg (show ¬ x / 2 = 0 by omega), if_pos h2]; omega
set_option maxHeartbeats 1000000 in
theorem nextPow_any (n : Nat) (hn : n < 4611686018427387904) (w : World) :
    Calls Tryd.prog 40 #[.int .i64 (n : Int)] w fun e w' => e = .returned (.int .u64 ((1 <<< bitsLen n : Nat) : Int)) ∧ w = w' := by
  have hLen : Hid (∀ W, Calls Tryd.prog 20 #[.int .u64 (n : Int)] W fun e W' => e = .returned (.int .i64 (bitsLen n : Int)) ∧ W = W') := fun W =>
    (Go.Proofs.Tryd.bits_Len (n : Int) W (by omega) (by omega)).mono fun _ _ ⟨he, hw⟩ => ⟨by rw [he, Int.toNat_natCast, bitLen_is n (by omega)], hw.symm⟩
  have hk : bitsLen n ≤ 62 := (bitsLen_le_iff n 62).2 (by omega)
  have hp := pow2_fits (bitsLen n) hk
  obtain ⟨M, hM⟩ : ∃ M : Nat, M = 1 <<< bitsLen n := ⟨_, rfl⟩
  obtain ⟨k, hke⟩ : ∃ k, k = bitsLen n := ⟨_, rfl⟩
  rw [← hM] at hp ⊢
  rw [← hke] at hp hk hLen
  clear hM hke
  go_enter Tryd.func40, Tryd.ntmps40
  go_wp2_with (go_at_call 20; (with_reducible refine (hLen.out _).mono ?_); rintro _ _ ⟨rfl, rfl⟩)
  go_ret
  exact ⟨rfl, rfl⟩
/-- So many rounds are left, from place i on. -/
def bpR (a L M : Nat) : Nat → Nat → UInt64 × Array Nat → Array Nat
  | 0, _, st => st.2
  | k + 1, i, st => bpR a L M k (i + 1) (breakStep a L M st i)
theorem bp_eq (d : Array Nat) (a L : Nat) (h8 : 8 ≤ L) : breakPatterns d a (a + L) = bpR a L (1 <<< bitsLen L) 3 (a + L / 4 * 2 - 1) (UInt64.ofNat L, d) := by
  unfold breakPatterns
  simp only [Nat.add_sub_cancel_left]
  rw [if_pos h8]
  rfl
theorem bp_stepN (a L M i : Nat) (r : UInt64) (f : Array Nat) (X O : Nat) (hX : X = (xorNext r).toNat) (hO : (if X &&& (M - 1) ≥ L then (X &&& (M - 1)) - L else X &&& (M - 1)) = O) : breakStep a L M (r, f) i = (xorNext r, swp f i (a + O)) := by
  unfold breakStep
  simp only [← hX, hO]

set_option maxHeartbeats 4000000 in
set_option maxRecDepth 20000 in
theorem break_any {p q : List Value} {g o : Nat} (ho : p.length = o) (cap a L : Nat) (d : Array Nat) (w : World) (h : Rw p q g d w) (hL : 8 ≤ L) (hb : a + L ≤ d.size) (hsz : d.size < 2305843009213693952) :
    Calls Tryd.prog 27 #[.slice (some ⟨g, o, none⟩) d.size cap, .int .i64 (a : Int), .int .i64 ((a + L : Nat) : Int)] w fun e w' =>
      e = .returned (.tuple #[]) ∧ Rw p q g (breakPatterns d a (a + L)) w' ∧ Tb g w w' := by
  obtain ⟨Z, hZ⟩ : ∃ Z, Z = breakPatterns d a (a + L) := ⟨_, rfl⟩
  rw [← hZ]
  obtain ⟨n, hn⟩ : ∃ n, n = d.size := ⟨_, rfl⟩
  rw [← hn] at hb hsz ⊢
  obtain ⟨gr, hgr⟩ : ∃ gr, gr = w.heap.size := ⟨_, rfl⟩
  have hne : g ≠ gr := by have := h.lt; omega
  obtain ⟨M, hM⟩ : ∃ M : Nat, M = 1 <<< bitsLen L := ⟨_, rfl⟩
  have hM1 : 1 ≤ M := by rw [hM, Nat.one_shiftLeft]; exact Nat.two_pow_pos _
  have hM2 : M ≤ 2 * L := by rw [hM, Nat.one_shiftLeft]; exact two_pow_bitsLen_le (by omega)
  have HNP : Hid (∀ W, Calls Tryd.prog 40 #[.int .i64 (L : Int)] W fun e W' => e = .returned (.int .u64 (M : Int)) ∧ W = W') := fun W => by rw [hM]; exact nextPow_any L (by omega) W
  obtain ⟨k2, hk2⟩ : ∃ k2, k2 = L / 4 * 2 := ⟨_, rfl⟩
  obtain ⟨i0, hi0⟩ : ∃ i0, i0 + 1 = a + k2 := ⟨a + k2 - 1, by omega⟩
  have hi9 : i0 = a + L / 4 * 2 - 1 := by omega
  have HB : Hid (bpR a L M 3 i0 (UInt64.ofNat L, d) = Z) := by show _ = _; rw [hM, hi9, hZ]; exact (bp_eq d a L hL).symm
  have q0 : (a : Int) + (L : Int) - (a : Int) = (L : Int) := by omega
  obtain ⟨k4, hk4⟩ : ∃ k4, k4 = L / 4 := ⟨_, rfl⟩
  have q1 : (L : Int).tdiv 4 = (k4 : Int) := by rw [hk4]; exact (Int.ofNat_tdiv L 4).symm
  have q3 : (k4 : Int) * 2 = (k2 : Int) := by omega
  have q5 : (a : Int) + (k2 : Int) - 1 = (i0 : Int) := by omega
  have hk3 : 4 ≤ k2 ∧ k2 ≤ L - 2 := by omega
  have hR0 : Rw p q g d (w.alloc (.cells #[.int .u64 (L : Int)] 58)) := h.alloc _
  have hX0 : Xs gr L (w.alloc (.cells #[.int .u64 (L : Int)] 58)) := by
    rw [hgr]; exact Blk.new_ rfl
  have hT0 : Tb g w (w.alloc (.cells #[.int .u64 (L : Int)] 58)) := (Tb.refl g w).alloc _
  have HR0 := Lib.hid hR0
  have HX0 := Lib.hid hX0
  have HT0 := Lib.hid hT0
  have Hgr := Lib.hid hgr
  have HN : Hid (n = d.size) := hn
  clear hZ hi9 hM hk2 hk4 hR0 hX0 hT0 hgr h hn
  go_enter Tryd.func27, Tryd.ntmps27
  have h8z : (8 : Int) ≤ (L : Int) := by omega
  go_upto_region 3 with (fail)
  rw [← Hgr.out]
  generalize w.alloc (.cells #[.int .u64 (L : Int)] 58) = W0 at HR0 HX0 HT0 ⊢
  go_wp2_with (go_at_call 40; (with_reducible refine (HNP.out _).mono ?_); rintro _ _ ⟨rfl, rfl⟩)
  go_loopw [9] (fun vi wr => ∃ (t : Nat) (r : UInt64) (f : Array Nat), t ≤ 3 ∧ vi = .int .i64 ((i0 + t : Nat) : Int) ∧ Hid (f.size = n) ∧ Hid (Rw p q g f wr) ∧ Hid (Xs gr r.toNat wr) ∧ Hid (Tb g w wr) ∧ Hid (bpR a L M (3 - t) (i0 + t) (r, f) = Z)) (fun vi _ => i0 + 4 - (intOf vi).toNat)
  case atStart => exact ⟨0, UInt64.ofNat L, d, by omega, rfl, HN.out.symm, HR0.out, by show Xs gr (UInt64.ofNat L).toNat _; rw [show (UInt64.ofNat L).toNat = L by simp; omega]; exact HX0.out, HT0.out, HB.out⟩
  case round =>
    obtain ⟨t, r, f, ht, rfl, HF, HR1, HX1, HT1, HI⟩ := hrel
    by_cases ht3 : t < 3
    · obtain ⟨R, hRr⟩ : ∃ R : Nat, R = r.toNat := ⟨_, rfl⟩
      have lR : R < 18446744073709551616 := by rw [hRr]; exact r.toNat_lt
      obtain ⟨X, hXe⟩ : ∃ X : Nat, X = xorNextN R := ⟨_, rfl⟩
      have lX : X < 18446744073709551616 := by rw [hXe]; exact xorNextN_lt R lR
      obtain ⟨O, hO⟩ : ∃ O : Nat, O = X &&& (M - 1) := ⟨_, rfl⟩
      have lO : O ≤ M - 1 := by rw [hO]; exact Nat.and_le_right
      have eAnd : bits .and .u64 (X : Int) ((M : Int) - 1) = (O : Int) := by
        rw [show ((M : Int) - 1) = ((M - 1 : Nat) : Int) by omega, bits_and_u64_nat _ _ lX (by omega), hO]
      have hNext : Calls Tryd.prog 41 #[.pointer (some ⟨gr, 0, none⟩)] wr fun e w' => e = .returned (.int .u64 (X : Int)) ∧ Xs gr X w' ∧ Tb gr wr w' := by
        rw [hXe]
        exact next_anyS gr R lR wr (by rw [hRr]; exact HX1.out)
      have HNX := Lib.hid hNext
      have HXE : Hid (X = (xorNext r).toNat) := by show _ = _; rw [xorNext_toNat, ← hRr, hXe]
      have HO := Lib.hid hO
      clear hRr hXe hO hNext
      obtain ⟨G, hG⟩ : ∃ G : Nat → Nat, ∀ t, G t = f[t]! := ⟨fun t => f[t]!, fun _ => rfl⟩
      have HG := Lib.hid hG
      clear hG
      have t1 : (i0 : Int) + (t : Int) ≤ (a : Int) + (k2 : Int) + 1 := by omega
      have q6 : IntKind.u64.wrap ((M : Int) - 1) = (M : Int) - 1 := by rw [IntKind.wrap_u64]; omega
      have q7 : IntKind.i64.wrap (O : Int) = (O : Int) := by rw [IntKind.wrap_i64]; omega
      have HlX := Lib.hid lX
      clear lX lR
      go_upto_region 8 with (go_at_call 41; (with_reducible refine HNX.out.mono ?_); rintro _ w2 ⟨rfl, hx2, ht2⟩; have HR2 := Lib.hid (HR1.out.tb ht2 hne); have HX2 := Lib.hid hx2; have HT2 := Lib.hid (HT1.out.side ht2 (by have := Hgr.out; omega)); have hc : ∀ t, t < n → w2.cell? ⟨g, o + t, none⟩ = some (.int .u32 (G t : Int)) := (fun t ht => by rw [HG.out]; exact HR2.out.cell ho (by rw [HF.out]; exact ht)); have hf : ∀ t, t < n → w2.frozen? ⟨g, o + t, none⟩ = false := (fun t _ => HR2.out.frozen _); clear hx2 ht2)
      by_cases hLO : L ≤ O
      · have t2 : (L : Int) ≤ (O : Int) := by omega
        go_upto_region 10 with (fail)
        by_cases hEq : i0 + t = a + (O - L)
        all_goals
          have HST : Hid (bpR a L M (2 - t) (i0 + t + 1) (xorNext r, swp f (i0 + t) (a + (O - L))) = Z) := by
            show _ = _
            rw [← HI.out, show 3 - t = (2 - t) + 1 by omega]
            show _ = bpR a L M (2 - t) (i0 + t + 1) (breakStep a L M (r, f) (i0 + t))
            rw [bp_stepN a L M _ r f X (O - L) HXE.out (by rw [if_pos (by rw [← HO.out]; omega), ← HO.out])]
          have HSZ : Hid ((swp f (i0 + t) (a + (O - L))).size = n) := by show _ = _; rw [swp_size]; exact HF.out
          have HSW : Hid (∀ W, Rw p q g f W → Rw p q g (swp f (i0 + t) (a + (O - L))) ((W.setCell ⟨g, o + (i0 + t), none⟩ (.int .u32 (G (a + (O - L)) : Int))).setCell ⟨g, o + (a + (O - L)), none⟩ (.int .u32 (G (i0 + t) : Int)))) := fun W hW => hW.swap ho (by rw [HF.out]; omega) (by rw [HF.out]; omega) (HG.out _) (HG.out _)
          have b1 : i0 + t < n := by omega
          have b2 : a + (O - L) < n := by omega
          clear t1 t2 q0 q1 q3 q5 q6 q7 hk3 hi0 hM1 hM2 lO hb eAnd hL h8z
          go_region
          all_goals go_wp2
          go_roundw
          case rel =>
            refine ⟨t + 1, xorNext r, swp f (i0 + t) (a + (O - L)), by omega, rfl, HSZ.out, ?_, ?_, ?_, ?_⟩
            · have h9 := (HSW.out _ HR2.out).drew
              first
                | exact h9
                | (rw [hEq] at h9 ⊢; exact h9)
            · show Xs gr (xorNext r).toNat _
              rw [← HXE.out]
              exact ((Blk.far HX2.out (p := ⟨g, _, none⟩) (fun e => hne e.symm) _).far (p := ⟨g, _, none⟩) (fun e => hne e.symm) _).drew
            · exact ((HT2.out.setCell _ _).setCell _ _).drew
            · show _ = _
              rw [show 3 - (t + 1) = 2 - t by omega, show i0 + (t + 1) = i0 + t + 1 by omega]
              exact HST.out
          case measure => simp [intOf]; omega
      · have t2 : ¬ (L : Int) ≤ (O : Int) := by omega
        go_upto_region 10 with (fail)
        by_cases hEq : i0 + t = a + (O)
        all_goals
          have HST : Hid (bpR a L M (2 - t) (i0 + t + 1) (xorNext r, swp f (i0 + t) (a + (O))) = Z) := by
            show _ = _
            rw [← HI.out, show 3 - t = (2 - t) + 1 by omega]
            show _ = bpR a L M (2 - t) (i0 + t + 1) (breakStep a L M (r, f) (i0 + t))
            rw [bp_stepN a L M _ r f X (O) HXE.out (by rw [if_neg (by rw [← HO.out]; omega), ← HO.out])]
          have HSZ : Hid ((swp f (i0 + t) (a + (O))).size = n) := by show _ = _; rw [swp_size]; exact HF.out
          have HSW : Hid (∀ W, Rw p q g f W → Rw p q g (swp f (i0 + t) (a + (O))) ((W.setCell ⟨g, o + (i0 + t), none⟩ (.int .u32 (G (a + (O)) : Int))).setCell ⟨g, o + (a + (O)), none⟩ (.int .u32 (G (i0 + t) : Int)))) := fun W hW => hW.swap ho (by rw [HF.out]; omega) (by rw [HF.out]; omega) (HG.out _) (HG.out _)
          have b1 : i0 + t < n := by omega
          have b2 : a + (O) < n := by omega
          clear t1 t2 q0 q1 q3 q5 q6 q7 hk3 hi0 hM1 hM2 lO hb eAnd hL h8z
          go_region
          all_goals go_wp2
          go_roundw
          case rel =>
            refine ⟨t + 1, xorNext r, swp f (i0 + t) (a + (O)), by omega, rfl, HSZ.out, ?_, ?_, ?_, ?_⟩
            · have h9 := (HSW.out _ HR2.out).drew
              first
                | exact h9
                | (rw [hEq] at h9 ⊢; exact h9)
            · show Xs gr (xorNext r).toNat _
              rw [← HXE.out]
              exact ((Blk.far HX2.out (p := ⟨g, _, none⟩) (fun e => hne e.symm) _).far (p := ⟨g, _, none⟩) (fun e => hne e.symm) _).drew
            · exact ((HT2.out.setCell _ _).setCell _ _).drew
            · show _ = _
              rw [show 3 - (t + 1) = 2 - t by omega, show i0 + (t + 1) = i0 + t + 1 by omega]
              exact HST.out
          case measure => simp [intOf]; omega
    · obtain rfl : t = 3 := by omega
      go_wp2
      go_end0
      exact ⟨rfl, by rw [← HI.out]; exact HR1.out, HT1.out⟩
end Go.Proofs.YtcopkeccogpkmaaDoor
