/- A row of integers that are held; the contract of zint.Gcd over it. Conditions: at most 2^26 limbs each; the table of the library as it is laid. The contract of zint.Lcm over a row of integers that are held. Conditions: at most 2^26 limbs each, and of what is multiplied up; the table of the library as it is laid. The contract of the law's own equal. Conditions: at most 2^26 limbs. A drawn region whose last operations stand in one order: a condition on the worlds holds till the head has come up; what it fixes may be taken first. No conditions. -/
import Derived.Test.YtanlejlmckdeiaaGreatDoorPkZg17
import Derived.Test.YtanlejlmckdeiaaGreatDoorPkZg31
import Derived.Test.YtanlejlmckdeiaaGreatDoorPkZg25
import Derived.Deep.DeepCutAuto
import Derived.Test.YtanlejlmckdeiaaGreatDoorPkZg29
import Derived.Test.YtanlejlmckdeiaaGreatDoorPkZg14
import Derived.Deep.RegionHeld
namespace Go.Proofs.YtanlejlmckdeiaaGreatDoor
section
open Go.RowKit

/-- An integer as a row holds it. -/
structure ZE1 where
  g : Bool
  A : Option Addr
  c : Nat
  xs : List Nat
  z : Int
/-- A row reads as integers that are held. -/
def ZL (w : World) (K : Nat) (A : Option Addr) (l : List ZE1) : Prop := ∀ k (_ : k < l.length), ∃ b off, A = some ⟨b, off, none⟩ ∧ b < w.heap.size ∧ w.cell? ⟨b, off + k * 2, none⟩ = some (.bool l[k].g) ∧ w.cell? ⟨b, off + k * 2 + 1, none⟩ = some (.slice l[k].A l[k].xs.length l[k].c) ∧ Zh w l[k].g l[k].A l[k].c l[k].xs l[k].z K
theorem ZL.next {w w' : World} {K : Nat} {A : Option Addr} {l : List ZE1} (h : ZL w K A l) (hb : Below w.heap.size w w') : ZL w' K A l := fun k hk => by
  obtain ⟨b, off, e, hlt, h0, h1, hz⟩ := h k hk
  exact ⟨b, off, e, Nat.lt_of_lt_of_le hlt hb.size, (hb.cell (p := ⟨b, _, none⟩) hlt).trans h0, (hb.cell (p := ⟨b, _, none⟩) hlt).trans h1, hz.next hb⟩
/-- The greatest common divisor of a row's first k numbers. -/
def gcdTo (l : List ZE1) (k : Nat) : Nat := (l.take k).foldl (fun n e => Nat.gcd n e.z.natAbs) 0
theorem gcdTo_step {l : List ZE1} {k : Nat} (h : k < l.length) : gcdTo l (k + 1) = Nat.gcd (gcdTo l k) l[k].z.natAbs := by
  unfold gcdTo
  rw [List.take_succ_eq_append_getElem h, List.foldl_append]
  rfl
theorem gcd_one_fold (l : List ZE1) : l.foldl (fun n e => Nat.gcd n e.z.natAbs) 1 = 1 := by
  induction l with
  | nil => rfl
  | cons a l ih => rw [List.foldl_cons, Nat.gcd_one_left, ih]
theorem gcdTo_one {l : List ZE1} {k : Nat} (h : gcdTo l k = 1) : gcdTo l l.length = 1 := by
  have e : l = l.take k ++ l.drop k := (List.take_append_drop k l).symm
  unfold gcdTo at h ⊢
  rw [List.take_length]
  rw [e, List.foldl_append, h, gcd_one_fold]
theorem gcdTo_lt {w : World} {K : Nat} {A : Option Addr} {l : List ZE1} (h : ZL w K A l) (hK : 0 < 4294967296 ^ K) : ∀ k, k ≤ l.length → gcdTo l k < 4294967296 ^ K := by
  intro k
  induction k with
  | zero => intro _; exact hK
  | succ k ih =>
    intro hk
    rw [gcdTo_step (by omega)]
    obtain ⟨_, _, _, _, _, _, hz⟩ := h k (by omega)
    rcases Nat.eq_zero_or_pos l[k].z.natAbs with h0 | h0
    · rw [h0, Nat.gcd_zero_right]; exact ih (by omega)
    · exact Nat.lt_of_le_of_lt (Nat.gcd_le_right _ h0) hz.lt
theorem bits_one (n : Nat) : bitsOf n = 1 ↔ n = 1 := by
  rcases Nat.lt_or_ge n 2 with h | h
  · have : n = 0 ∨ n = 1 := by omega
    rcases this with rfl | rfl
    · exact ⟨fun e => by revert e; decide, fun e => by omega⟩
    · exact ⟨fun _ => rfl, fun _ => by decide⟩
  · have h1 := bitsOf_half n (by omega)
    have h2 := bitsOf_half (n / 2) (by omega)
    omega

section
variable {w : World} {A A2 : Option Addr} {c c2 n k K J : Nat} {xs ys : List Nat}
theorem Hv.gcdN (h : Hv w A c xs n K) (h2 : Hv w A2 c2 ys k J) (hK : K ≤ 67108864) (hJ : J ≤ 67108864) (hT : Tab64 w) (hTB : 0 < w.heap.size) :
    Calls Tryz.prog 37 #[.slice A xs.length c, .slice A2 ys.length c2] w fun e w' => NOut w w' (Nat.gcd n k) e := by
  have hl1 := h.len
  have hl2 := h2.len
  have h9 := gcd_any A A2 c c2 xs ys w w.heap.size h.rd h2.rd (Nat.le_refl _) h.dig h2.dig h.cap h2.cap (by omega) (by omega) hT hTB
  rw [h.val_, h2.val_] at h9
  refine h9.mono ?_
  rintro e w' ⟨zs, A', c', rfl, hz, hr, hb⟩
  exact ⟨zs, A', c', rfl, hz, hr, hb⟩
end

set_option maxHeartbeats 6400000 in
theorem zgcd_any {w : World} {K : Nat} {A : Option Addr} {c : Nat} (l : List ZE1) (h : ZL w K A l) (hK : K ≤ 67108864) (hlen : l.length ≤ 281474976710656) (hT : Tab64 w) (hTB : 0 < w.heap.size) :
    Calls Tryz.prog 8 #[.slice A l.length c] w fun e w' => ZOut w w' (gcdTo l l.length : Nat) e := by
  have hlt := gcdTo_lt h (Nat.pow_pos (by omega))
  have HL := Lib.hid hlt
  have H := Lib.hid h
  have HT := Lib.hid hT
  have HTB := Lib.hid hTB
  have b2 := blk_one w (.bool false) (.slice none 0 0)
  have k0 := bel_one w (.cells #[.bool false, .slice none 0 0] 28)
  clear h hT hlt hTB
  go_enter Tryz.func8, Tryz.ntmps8
  go_wp2_with fail
  obtain ⟨w0, hw0⟩ : ∃ v, v = w.alloc (.cells #[.bool false, .slice none 0 0] 28) := ⟨_, rfl⟩
  rw [← hw0] at b2 k0 ⊢
  clear hw0
  go_loopw [3, 5, 8] (fun ov _ iv wr => ∃ (k : Nat) (zn : List Nat) (An : Option Addr) (cn : Nat), k ≤ l.length ∧ iv = .int .i64 (k : Int) ∧ ov = .slice An zn.length cn ∧ Num 4294967296 zn (gcdTo l k) ∧ Res wr w.heap.size 61 An cn (u32s zn) ∧ Blk wr w.heap.size 28 [.bool false, .slice none 0 0] ∧ Below w.heap.size w wr) (fun _ _ iv _ => l.length - (intOf iv).toNat)
  case atStart => exact ⟨0, [], none, 0, Nat.zero_le _, rfl, rfl, Num.zero_ _, Res.none_, b2, k0⟩
  case round =>
    obtain ⟨k, zn, An, cn, hk, rfl, rfl, hn, hr, b2r, hbel⟩ := hrel
    clear b2 k0
    by_cases hlt : k < l.length
    · obtain ⟨b, off, rfl, hbw, h0, h1, hz⟩ := H.out k hlt
      have hx0 := (hbel.cell (p := ⟨b, off + k * 2, none⟩) hbw).trans h0
      have hx1 := (hbel.cell (p := ⟨b, off + k * 2 + 1, none⟩) hbw).trans h1
      have hz9 := hz.next hbel
      obtain ⟨m, hm⟩ : ∃ m, m = gcdTo l (k + 1) := ⟨_, rfl⟩
      have hml : m < 4294967296 ^ K := by rw [hm]; exact HL.out _ (by omega)
      have GC : Hid (∀ W (_ : Below wr.heap.size wr W), Calls Tryz.prog 37 #[.slice An zn.length cn, .slice l[k].A l[k].xs.length l[k].c] W fun e w' => NOut W w' m e) := fun W hW => by
        rw [hm, gcdTo_step hlt]
        have hw := HTB.out
        have hW2 := bst hbel hW (Nat.le_refl _)
        exact Hv.gcdN ((Hv.of (K := K) hn hr (HL.out k hk)).next hW) (hz9.hv.next hW) hK hK (HT.out.below hW2 hw) (Nat.lt_of_lt_of_le hw hW2.size)
      have Hm := Lib.hid hm
      have HB2 := Lib.hid b2r
      have KB := Lib.hid hbel
      obtain ⟨eg, heg⟩ : ∃ v, v = l[k].g := ⟨_, rfl⟩
      obtain ⟨eA, heA⟩ : ∃ v, v = l[k].A := ⟨_, rfl⟩
      obtain ⟨exs, hexs⟩ : ∃ v, v = l[k].xs := ⟨_, rfl⟩
      obtain ⟨ec, hec⟩ : ∃ v, v = l[k].c := ⟨_, rfl⟩
      rw [← heg] at hx0
      rw [← heA, ← hexs, ← hec] at hx1
      rw [← heA, ← hexs, ← hec] at GC
      clear hn hr b2r hbel h0 h1 hz hz9 hm heg heA hexs hec
      go_wp2_with fail
      refine (GC.out _ (bel_one _ _)).mono ?_
      rintro e w1 ⟨zs, As, cs, rfl, hzs, hrs, hb1⟩
      have j1 : Below wr.heap.size wr w1 := bst (bel_one _ _) hb1 (Nat.le_refl _)
      have k1 := bst KB.out j1 (Nat.le_refl _)
      have b2 := HB2.out.below j1 HB2.out.lt
      have rs : Res w1 w.heap.size 61 As cs (u32s zs) := hrs.mono (by have := KB.out.size; simp; omega)
      obtain ⟨bt, hbt⟩ : ∃ v, v = bitsOf m := ⟨_, rfl⟩
      have LN : Hid (Calls Tryz.prog 38 #[.slice As zs.length cs] w1 fun e w' => e = .returned (.int .i64 (bt : Nat)) ∧ w1 = w') := by
        rw [hbt]
        exact (Hv.of (K := K) hzs hrs hml).nlen hK
      have Hbt := Lib.hid hbt
      clear GC hx0 hx1 hb1 hrs hbt HB2
      go_wp2_with fail
      refine LN.out.mono ?_
      rintro e w9 ⟨rfl, rfl⟩
      by_cases hb9 : bt = 1
      · subst hb9
        have e1 : gcdTo l l.length = m := by
          have h1 : m = 1 := (bits_one m).1 Hbt.out.symm
          rw [h1]
          exact gcdTo_one (by rw [← Hm.out]; exact h1)
        clear Hbt LN
        go_wp2_with fail
        refine (made_num false (m : Int) hzs rfl w1 (res_len rs)).mono ?_
        rintro e wm ⟨rfl, hbm⟩
        have bm := b2.below hbm b2.lt
        obtain ⟨q0, q1, q2, q3⟩ := bm.two
        go_wp2_with fail
        rw [e1]
        exact zretT (z := (m : Int)) (bst k1 hbm (Nat.le_refl _)) bm (Nat.le_refl _) (num_eq hzs (Int.natAbs_natCast _).symm) (rs.below hbm (Nat.le_refl _)) rfl rfl rfl rfl
      · have hb8 : decide (bt = 1) = false := decide_eq_false hb9
        clear Hbt LN
        go_wp2_with fail
        go_roundw
        case rel => exact ⟨k + 1, zs, As, cs, by omega, by go_num, rfl, by rw [← Hm.out]; exact hzs, rs, b2, k1⟩
        case measure => simp [intOf]; omega
    · obtain rfl : k = l.length := by omega
      have HB2 := Lib.hid b2r
      have KB := Lib.hid hbel
      obtain ⟨m, hm⟩ : ∃ m, m = gcdTo l l.length := ⟨_, rfl⟩
      rw [← hm] at hn
      have Hm := Lib.hid hm
      clear hm hlt hk b2r hbel
      go_wp2_with fail
      refine (made_num false (m : Int) hn rfl wr (res_len hr)).mono ?_
      rintro e wm ⟨rfl, hbm⟩
      have bm := HB2.out.below hbm HB2.out.lt
      obtain ⟨q0, q1, q2, q3⟩ := bm.two
      go_wp2_with fail
      rw [← Hm.out]
      exact zretT (z := (m : Int)) (bst KB.out hbm (Nat.le_refl _)) bm (Nat.le_refl _) (num_eq hn (Int.natAbs_natCast _).symm) (hr.below hbm (Nat.le_refl _)) rfl rfl rfl rfl
end
section
open Go.RowKit

/-- The least common multiple of a row's first k numbers, 0 where one of them is 0. -/
def lcmTo (l : List ZE1) (k : Nat) : Nat := (l.take k).foldl (fun n e => n * (e.z.natAbs / Nat.gcd n e.z.natAbs)) 1
theorem lcmTo_step {l : List ZE1} {k : Nat} (h : k < l.length) : lcmTo l (k + 1) = lcmTo l k * (l[k].z.natAbs / Nat.gcd (lcmTo l k) l[k].z.natAbs) := by
  unfold lcmTo
  rw [List.take_succ_eq_append_getElem h, List.foldl_append]
  rfl
theorem lcm_zero_fold (l : List ZE1) : l.foldl (fun n e => n * (e.z.natAbs / Nat.gcd n e.z.natAbs)) 0 = 0 := by
  induction l with
  | nil => rfl
  | cons a l ih => rw [List.foldl_cons, Nat.zero_mul, ih]
theorem lcmTo_zero {l : List ZE1} {k : Nat} (h : lcmTo l k = 0) : lcmTo l l.length = 0 := by
  have e : l = l.take k ++ l.drop k := (List.take_append_drop k l).symm
  unfold lcmTo at h ⊢
  rw [List.take_length]
  rw [e, List.foldl_append, h, lcm_zero_fold]

set_option maxHeartbeats 12800000 in
theorem zlcm_any {w : World} {K M : Nat} {A : Option Addr} {c : Nat} (l : List ZE1) (h : ZL w K A l) (hK : K ≤ 67108864) (hM : M ≤ 67108864) (hl : ∀ k, k ≤ l.length → lcmTo l k < 4294967296 ^ M) (hlen : l.length ≤ 281474976710656) (hT : Tab64 w) (hTB : 0 < w.heap.size) :
    Calls Tryz.prog 10 #[.slice A l.length c] w fun e w' => ZOut w w' (lcmTo l l.length : Nat) e := by
  have HL := Lib.hid hl
  have H := Lib.hid h
  have HT := Lib.hid hT
  have HTB := Lib.hid hTB
  have b2 := blk_one w (.bool false) (.slice none 0 0)
  have k0 := bel_one w (.cells #[.bool false, .slice none 0 0] 28)
  clear h hT hl hTB
  go_enter Tryz.func10, Tryz.ntmps10
  go_wp2_with fail
  obtain ⟨w0, hw0⟩ : ∃ v, v = w.alloc (.cells #[.bool false, .slice none 0 0] 28) := ⟨_, rfl⟩
  rw [← hw0] at b2 k0 ⊢
  clear hw0
  refine (of_any 1 (by decide) _).mono ?_
  rintro e w1 ⟨zo, Ao, co, rfl, hzo, hro, hbo⟩
  have s0 := k0.size
  replace b2 := b2.below hbo b2.lt
  replace k0 := bst k0 hbo (Nat.le_refl _)
  have hro9 : Res w1 w.heap.size 61 Ao co (u32s zo) := hro.mono s0
  clear hro hbo
  go_wp2_with fail
  go_loopw [3, 5, 6, 7, 8, 12] (fun ov _ _ _ _ iv wr => ∃ (k : Nat) (zn : List Nat) (An : Option Addr) (cn : Nat), k ≤ l.length ∧ iv = .int .i64 (k : Int) ∧ ov = .slice An zn.length cn ∧ Num 4294967296 zn (lcmTo l k) ∧ Res wr w.heap.size 61 An cn (u32s zn) ∧ Blk wr w.heap.size 28 [.bool false, .slice none 0 0] ∧ Below w.heap.size w wr) (fun _ _ _ _ _ iv _ => l.length - (intOf iv).toNat)
  case atStart => exact ⟨0, zo, Ao, co, Nat.zero_le _, rfl, rfl, hzo, hro9, b2, k0⟩
  case round =>
    obtain ⟨k, zn, An, cn, hk, rfl, rfl, hn, hr, b2r, hbel⟩ := hrel
    clear b2 k0 hro9 hzo
    by_cases hlt : k < l.length
    · obtain ⟨b, off, rfl, hbw, h0, h1, hz⟩ := H.out k hlt
      have hx0 := (hbel.cell (p := ⟨b, off + k * 2, none⟩) hbw).trans h0
      have hx1 := (hbel.cell (p := ⟨b, off + k * 2 + 1, none⟩) hbw).trans h1
      have hz9 := hz.next hbel
      obtain ⟨m, hm⟩ : ∃ m, m = lcmTo l (k + 1) := ⟨_, rfl⟩
      obtain ⟨n, hn9⟩ : ∃ n, n = lcmTo l k := ⟨_, rfl⟩
      obtain ⟨x, hx⟩ : ∃ x, x = l[k].z := ⟨_, rfl⟩
      have hst := lcmTo_step hlt
      have hnl : n < 4294967296 ^ M := by rw [hn9]; exact HL.out _ (by omega)
      have hml : m < 4294967296 ^ M := by rw [hm]; exact HL.out _ (by omega)
      rw [← hm, ← hn9, ← hx] at hst
      rw [← hn9] at hn
      rw [← hx] at hz9
      obtain ⟨eg, heg⟩ : ∃ v, v = l[k].g := ⟨_, rfl⟩
      obtain ⟨eA, heA⟩ : ∃ v, v = l[k].A := ⟨_, rfl⟩
      obtain ⟨exs, hexs⟩ : ∃ v, v = l[k].xs := ⟨_, rfl⟩
      obtain ⟨ec, hec⟩ : ∃ v, v = l[k].c := ⟨_, rfl⟩
      rw [← heg] at hx0
      rw [← heA, ← hexs, ← hec] at hx1
      rw [← heg, ← heA, ← hexs, ← hec] at hz9
      obtain ⟨zb, hzb⟩ : ∃ v, v = decide (x = 0) := ⟨_, rfl⟩
      have IZ : Hid (∀ W (_ : Below wr.heap.size wr W), Calls Tryz.prog 42 #[.agg #[.bool eg, .slice eA exs.length ec]] W fun e w' => e = .returned (.bool zb) ∧ Below W.heap.size W w') := fun W hW => by rw [hzb]; exact (hz9.next hW).isZero hK
      have Hm := Lib.hid hm
      have Hst := Lib.hid hst
      have Hn := Lib.hid hn
      have HR := Lib.hid hr
      have HZ9 := Lib.hid hz9
      have HB2 := Lib.hid b2r
      have KB := Lib.hid hbel
      clear hn hr b2r hbel h0 h1 hz hz9 hm hn9 hx hst heg heA hexs hec
      go_upto_region 5 with (fail)
      obtain ⟨v1, hv1⟩ : ∃ v, v = wr.alloc (.cells #[.bool eg, .slice eA exs.length ec] 28) := ⟨_, rfl⟩
      rw [← hv1]
      have b5 : Blk v1 wr.heap.size 28 [.bool eg, .slice eA exs.length ec] := by rw [hv1]; exact blk_one _ _ _
      have j1 : Below wr.heap.size wr v1 := by rw [hv1]; exact bel_one _ _
      obtain ⟨g5, hg5⟩ : ∃ g, g = wr.heap.size := ⟨_, rfl⟩
      rw [← hg5] at b5 ⊢
      obtain ⟨p0, p1, _, _⟩ := b5.two
      clear hv1 hg5 hx0 hx1
      by_cases hx0 : x = 0
      · have hz1 : zb = true := by rw [hzb]; exact decide_eq_true hx0
        clear hzb
        subst hz1
        have e1 : lcmTo l l.length = 0 := lcmTo_zero (k := k + 1) (by rw [← Hm.out, Hst.out, hx0]; simp)
        clear hx0
        go_wp2_with fail
        refine (IZ.out _ j1).mono ?_
        rintro e w2 ⟨rfl, hb2⟩
        clear p0 p1 IZ
        have j2 := bst j1 hb2 (Nat.le_refl _)
        have bm := HB2.out.below j2 HB2.out.lt
        obtain ⟨q0, q1, q2, q3⟩ := bm.two
        go_wp2_with fail
        rw [e1]
        exact zretT (z := 0) (zs := []) (bst KB.out j2 (Nat.le_refl _)) bm (Nat.le_refl _) (Num.zero_ _) Res.none_ rfl rfl rfl rfl
      · have hz1 : zb = false := by rw [hzb]; exact decide_eq_false hx0
        clear hzb
        subst hz1
        have HX0 : Hid (0 < x.natAbs) := by show 0 < _; omega
        clear hx0
        go_wp2_with fail
        refine (IZ.out _ j1).mono ?_
        rintro e v2 ⟨rfl, hb2⟩
        clear p0 p1 IZ
        have j2 := bst j1 hb2 (Nat.le_refl _)
        have k2 := bst KB.out j2 (Nat.le_refl _)
        have B5 := Lib.hid (b5.below hb2 b5.lt)
        have hN := (Hv.of (K := M) Hn.out HR.out hnl).next j2
        have hX := HZ9.out.hv.next j2
        obtain ⟨d, hd⟩ : ∃ d, d = Nat.gcd n x.natAbs := ⟨_, rfl⟩
        have hd0 : 0 < d := by rw [hd]; exact Nat.gcd_pos_of_pos_right _ HX0.out
        have hdl : d < 4294967296 ^ K := by rw [hd]; exact Nat.lt_of_le_of_lt (Nat.gcd_le_right _ HX0.out) hX.lt
        have GC : Hid (∀ W (_ : Below v2.heap.size v2 W), Calls Tryz.prog 37 #[.slice An zn.length cn, .slice eA exs.length ec] W fun e w' => NOut W w' d e) := fun W hW => by
          rw [hd]
          have hw := HTB.out
          have hW2 := bst k2 hW (Nat.le_refl _)
          exact Hv.gcdN (hN.next hW) (hX.next hW) hM hK (HT.out.below hW2 hw) (Nat.lt_of_lt_of_le hw hW2.size)
        obtain ⟨ov, hov⟩ : ∃ v, v = x.natAbs / d := ⟨_, rfl⟩
        have DV : Hid (∀ (zd : List Nat) (Ad : Option Addr) (cd B9 : Nat) (wo W : World), Below v2.heap.size v2 W → Num 4294967296 zd d → Res wo B9 61 Ad cd (u32s zd) → Below wo.heap.size wo W → Calls Tryz.prog 43 #[.slice eA exs.length ec, .slice Ad zd.length cd] W fun e w' => ∃ (qs rs : List Nat) (A1 : Option Addr) (c1 : Nat) (A3 : Option Addr) (c3 : Nat), e = .returned (.tuple #[.slice A1 qs.length c1, .slice A3 rs.length c3, .int .i64 0]) ∧ Num 4294967296 qs ov ∧ Res w' W.heap.size 61 A1 c1 (u32s qs) ∧ Below W.heap.size W w') := fun zd Ad cd B9 wo W hW hn hr hb => by
          have h9 := Hv.divN (hX.next hW) ((Hv.of (K := K) hn hr hdl).next hb) hK hK
          refine h9.mono ?_
          rintro e w' ⟨qs, rs, A1, c1, A3, c3, rfl, h1, _, h3, _, h5⟩
          rw [if_neg (by omega)]
          exact ⟨qs, rs, A1, c1, A3, c3, rfl, by rw [hov]; exact h1, h3, h5⟩
        have hovl : Hid (ov < 4294967296 ^ K) := by show _ < _; rw [hov]; exact Nat.lt_of_le_of_lt (Nat.div_le_self _ _) hX.lt
        have HMV : Hid (n * ov = m) := by show _ = _; rw [hov, hd, Hst.out]
        have HB3 := Lib.hid (HB2.out.below j2 HB2.out.lt)
        have K2 := Lib.hid k2
        have HR2 := Lib.hid (HR.out.below j2 (Nat.le_refl _))
        obtain ⟨p0, p1, _, _⟩ := B5.out.two
        clear hN hX hd hov hb2 j1 j2 k2 b5 HB2 KB HR HZ9 Hst
        go_upto_region 7 with (fail)
        go_cut [6, 7, 8] (fun v6 _ _ W => ∃ qs A1 c1, v6 = .slice A1 qs.length c1 ∧ Num 4294967296 qs ov ∧ Res W v2.heap.size 61 A1 c1 (u32s qs) ∧ Below v2.heap.size v2 W)
        case first =>
          go_region_held3 (fun W => W.cell? ⟨g5, 0, none⟩ = some (.bool eg) ∧ W.cell? ⟨g5, 1, none⟩ = some (.slice eA exs.length ec)) (go_keep) (first
            | (go_at_call 37; (with_reducible refine (GC.out _ (by repeat (first | exact Below.refl _ _ | exact jd | exact jq | apply bdw | (refine bdn ?_ _) | (refine bal ?_ (Nat.le_refl _) _)))).mono ?_); rintro e wd ⟨zd, Ad, cd, rfl, hzd, hrd, hbd⟩; have jd : Below v2.heap.size v2 wd := bst (by repeat (first | exact Below.refl _ _ | exact jd | exact jq | apply bdw | (refine bdn ?_ _) | (refine bal ?_ (Nat.le_refl _) _))) hbd (Nat.le_refl _); obtain ⟨x0d, y0d, _, _⟩ := (B5.out.below jd B5.out.lt).two)
            | (go_at_call 43; (with_reducible refine (DV.out zd Ad cd _ wd _ (by repeat (first | exact Below.refl _ _ | exact jd | exact jq | apply bdw | (refine bdn ?_ _) | (refine bal ?_ (Nat.le_refl _) _))) hzd hrd (by repeat (first | exact Below.refl _ _ | apply bdw | (refine bdn ?_ _)))).mono ?_); rintro e wq ⟨qs, rs, A1, c1, A3, c3, rfl, hq, rq, hbq⟩; have jq : Below v2.heap.size v2 wq := bst (by repeat (first | exact Below.refl _ _ | exact jd | exact jq | apply bdw | (refine bdn ?_ _) | (refine bal ?_ (Nat.le_refl _) _))) hbq (Nat.le_refl _); obtain ⟨x0q, y0q, _, _⟩ := (B5.out.below jq B5.out.lt).two))
          all_goals
            go_wp2_with fail
            go_meet
            exact ⟨qs, A1, c1, rfl, hq, rq.mono jd.size, jq⟩
        case rest =>
          obtain ⟨qs, A1, c1, rfl, hq, rq, j3⟩ := hcut
          obtain ⟨v3, rfl⟩ : ∃ v3 : World, v3 = wc := ⟨_, rfl⟩
          clear GC DV p0 p1 B5
          have k3 := bst K2.out j3 (Nat.le_refl _)
          have b2 := HB3.out.below j3 HB3.out.lt
          have MU : Hid (Calls Tryz.prog 44 #[.slice An zn.length cn, .slice A1 qs.length c1] v3 fun e w' => NOut v3 w' m e) := by
            have h9 := Hv.mulN ((Hv.of (K := M) Hn.out HR2.out hnl).next j3) (Hv.of (K := K) hq rq hovl.out) hM hK
            rwa [HMV.out] at h9
          clear HB3 K2 HR2 Hn hq rq j3
          go_wp2_with fail
          refine MU.out.mono ?_
          rintro e v4 ⟨zs, As, cs, rfl, hzs, hrs, hb4⟩
          have s3 := k3.size
          have b4 := b2.below hb4 b2.lt
          have k4 := bst k3 hb4 (Nat.le_refl _)
          clear MU b2 k3
          go_wp2_with fail
          go_roundw
          case rel => exact ⟨k + 1, zs, As, cs, by omega, by go_num, rfl, by rw [← Hm.out]; exact hzs, hrs.mono s3, b4, k4⟩
          case measure => simp [intOf]; omega
    · obtain rfl : k = l.length := by omega
      have HB2 := Lib.hid b2r
      have KB := Lib.hid hbel
      obtain ⟨m, hm⟩ : ∃ m, m = lcmTo l l.length := ⟨_, rfl⟩
      rw [← hm] at hn
      have Hm := Lib.hid hm
      clear hm hlt hk b2r hbel
      go_wp2_with fail
      refine (made_num false (m : Int) hn rfl wr (res_len hr)).mono ?_
      rintro e wm ⟨rfl, hbm⟩
      have bm := HB2.out.below hbm HB2.out.lt
      obtain ⟨q0, q1, q2, q3⟩ := bm.two
      go_wp2_with fail
      rw [← Hm.out]
      exact zretT (z := (m : Int)) (bst KB.out hbm (Nat.le_refl _)) bm (Nat.le_refl _) (num_eq hn (Int.natAbs_natCast _).symm) (hr.below hbm (Nat.le_refl _)) rfl rfl rfl rfl
end
section
open Go.RowKit

set_option maxHeartbeats 800000 in
theorem lequal_any {w : World} {g g2 : Bool} {A A2 : Option Addr} {c c2 K J : Nat} {xs ys : List Nat} {z y : Int} (h : Zh w g A c xs z K) (h2 : Zh w g2 A2 c2 ys y J) (hK : K ≤ 67108863) (hJ : J ≤ 67108863) (e : z = y) :
    Calls Tryz.prog 21 #[.agg #[.bool g, .slice A xs.length c], .agg #[.bool g2, .slice A2 ys.length c2]] w fun e w' => e = .returned (.bool true) ∧ Below w.heap.size w w' := by
  have C1 : Hid (∀ W (_ : Below w.heap.size w W), Calls Tryz.prog 34 #[.agg #[.bool g, .slice A xs.length c], .agg #[.bool g2, .slice A2 ys.length c2]] W fun e w' => e = .returned (.int .i64 0) ∧ Below W.heap.size W w') := fun W hW => by
    have h9 := (h.next hW).cmp (h2.next hW) (by omega) (by omega)
    rwa [e, show (y - y).sign = 0 from by rw [Int.sub_self]; rfl] at h9
  clear h h2 e
  go_enter Tryz.func21, Tryz.ntmps21
  go_wp2_with fail
  refine (C1.out _ (bel_two _ _ _)).mono ?_
  rintro e w1 ⟨rfl, hb⟩
  go_wp2_with fail
  go_ret
  exact ⟨rfl, bst (bel_two _ _ _) hb (Nat.le_refl _)⟩
end
section
open Go

/-- Whatever order the head comes up in, S holding behind each of its operations; L holds behind it. -/
def HeadH (P : Program) (md : Region.Mode) (ops : Array Oper) (Q : Exit → Act → World → Prop) (S : World → Prop) (n : Nat) (L : Array Bool → Act → World → Prop) : Nat → Array Bool → Act → World → Prop
  | 0, ls, a, w => L ls a w
  | f + 1, ls, a, w => Region.ready md ops ls ≠ [] ∧ ∀ i ∈ Region.ready md ops ls, i < n ∧ wpOp P ops Q i (fun a' w' => S w' ∧ HeadH P md ops Q S n L f (ls.setIfInBounds i true) a' w') a w

section
variable {P : Program} {md : Region.Mode} {ops : Array Oper} {Q : Exit → Act → World → Prop} {S : World → Prop} {n : Nat} {L : Array Bool → Act → World → Prop}

theorem HeadH.any {g : Nat} (hL : ∀ ls a w, L ls a w → wpAny P md ops Q g ls a w) :
    ∀ f ls a w, HeadH P md ops Q S n L f ls a w → wpAny P md ops Q (f + g) ls a w
  | 0, ls, a, w, h => by rw [Nat.zero_add]; exact hL ls a w h
  | f + 1, ls, a, w, h => by
    rw [show f + 1 + g = (f + g) + 1 from by omega]
    exact ⟨fun h0 => absurd h0 h.1, fun i hi => wpOp_mono (fun a' w' h' => HeadH.any hL f _ a' w' h'.2) (h.2 i hi).2⟩

theorem HeadH.first {i : Nat} {o : Oper} {v : Value} (ho : ops[i]? = some o) (hsel : Region.noSelect ops = true) (hs : Region.sinkB md ops n = true) (hc : Region.chainB md ops n = true) (hn : n < ops.size) (hin : i < n)
    (hend : ∀ ls a w, L ls a w → ∀ j ∈ Region.ready md ops ls, n ≤ j) (hQ : ∀ c a w, Q (.panic c) (a.put o.dst v) w → Q (.panic c) a w) :
    ∀ f ls a w, HeadInv md ops n ls → (∀ j oj, ops[j]? = some oj → j ≠ i → ls.getD j true = false → (∀ e ∈ oj.after, Region.binds md e = true → e.on ≠ i) → o.apart ops oj = true) →
      i ∈ Region.ready md ops ls → YieldsIf P ops S o v a → S w → HeadH P md ops Q S n L f (ls.setIfInBounds i true) (a.put o.dst v) w → HeadH P md ops Q S n L (f + 1) ls a w := by
  intro f
  induction f with
  | zero =>
    intro ls a w inv _ hr hy hS H
    have hun := (mem_ready.1 hr).1
    refine ⟨fun h => (by rw [h] at hr; cases hr), fun j hj => ?_⟩
    have hjn : j < n := (Nat.lt_or_ge j n).resolve_right fun h => absurd hj (tail_waits hs hc hn inv _ i rfl hin hun j h)
    refine ⟨hjn, ?_⟩
    by_cases hji : j = i
    · subst hji; exact hy.wpOp ho hS ⟨hS, H⟩
    · exact absurd (hend _ _ _ H j (ready_mono hj hji)) (by omega)
  | succ f ih =>
    intro ls a w inv hfree hr hy hS H
    have hun := (mem_ready.1 hr).1
    refine ⟨fun h => (by rw [h] at hr; cases hr), fun j hj => ?_⟩
    have hjn : j < n := (Nat.lt_or_ge j n).resolve_right fun h => absurd hj (tail_waits hs hc hn inv _ i rfl hin hun j h)
    refine ⟨hjn, ?_⟩
    by_cases hji : j = i
    · subst hji; exact hy.wpOp ho hS ⟨hS, H⟩
    · have h1 := (H.2 j (ready_mono hj hji)).2
      obtain ⟨hjun, oj, hoj, hall⟩ := mem_ready.1 hj
      have hno : ∀ e ∈ oj.after, Region.binds md e = true → e.on ≠ i := fun e he hb heq => by
        have h2 := hall e he hb
        rw [heq, getD_both hun] at h2
        cases h2
      have h2 := wpOp_putIf hoj (hfree j oj hoj hji hjun hno) (fun cs b => Region.noSelect_spec hsel i o cs b ho) (fun cs b => Region.noSelect_spec hsel j oj cs b hoj) hQ hy h1
      refine wpOp_mono (fun a' w' h3 => ⟨h3.2.1, ih (ls.setIfInBounds j true) a' w' (inv.set hj hjn) (fun k ok hk hki hku hkn => hfree k ok hk hki ?_ hkn) (ready_mono hr (Ne.symm hji)) h3.1 h3.2.1 ?_⟩) h2
      · by_cases hjk : j = k
        · subst hjk; exact hjun
        · rw [getD_set_ne true hjk] at hku; exact hku
      · rw [Array.setIfInBounds_comm _ _ hji]; exact h3.2.2
end

/-- The region's form: a head of n operations that all wait in the end for its last one, and a tail in one order. -/
def tailOkB (md : Region.Mode) (ops : Array Oper) (n : Nat) : Bool := Region.noSelect ops && decide (n < ops.size) && Region.sinkB md ops n && Region.chainB md ops n
/-- The walk's state in the head. -/
def HeadW (P : Program) (md : Region.Mode) (l : List Oper) (Q : Exit → Act → World → Prop) (S : World → Prop) (n : Nat) (f : Nat) (ls : Array Bool) (a : Act) (w : World) : Prop :=
  HeadInv md l.toArray n ls → HeadH P md l.toArray Q S n (fun ls' a' w' => Region.seqB md l.toArray (l.toArray.size - n) n ls' = true ∧ wpList P l.toArray Q (l.drop n) a' w') f ls a w
section
variable {P : Program} {md : Region.Mode} {l : List Oper} {Q : Exit → Act → World → Prop} {S : World → Prop} {n : Nat}
theorem tailOk_spec (h : tailOkB md l.toArray n = true) : Region.noSelect l.toArray = true ∧ n < l.toArray.size ∧ Region.sinkB md l.toArray n = true ∧ Region.chainB md l.toArray n = true := by
  simp only [tailOkB, Bool.and_eq_true, decide_eq_true_eq] at h
  obtain ⟨⟨⟨a, b⟩, c⟩, d⟩ := h
  exact ⟨a, b, c, d⟩
theorem region_held_tail {id : Nat} {a : Act} {w : World} (S : World → Prop) (n : Nat) (hm : P.follows .mixedOrders = true) (hB : tailOkB .any l.toArray n = true) (hS : S w.drew)
    (h : S w.drew → HeadW P .any l Q S n n (Array.replicate l.toArray.size false) a w.drew) : (Code.region id l.toArray true).wp P Q a w := by
  obtain ⟨_, hn, _, _⟩ := tailOk_spec hB
  have hdl : (l.drop n).length = l.toArray.size - n := by simp
  have inv0 : HeadInv .any l.toArray n (Array.replicate l.toArray.size false) :=
    ⟨by simp, fun j oj _ hl => (by rw [getD_replicate_false] at hl; cases hl), fun t _ ht => getD_in (by simpa using ht) (getD_replicate_false _ _)⟩
  have H := h hS inv0
  refine wp_region_any hm ?_
  have hfin := HeadH.any (g := l.toArray.size - n) (fun ls a' W hL => by
    have h1 := wpAny_of_seq (md := .any) (Q' := Q) (l.drop n) n ls a' W (fun j => by simp [List.getElem?_drop]) (by rw [hdl]; exact hL.1) hL.2
    rwa [hdl] at h1) _ _ _ _ H
  rw [show n + (l.toArray.size - n) = l.toArray.size from by omega] at hfin
  exact hfin
theorem HeadW.take {i : Nat} {o : Oper} {v : Value} {f : Nat} {ls : Array Bool} {a : Act} {w : World} (ho : l.toArray[i]? = some o) (hB : tailOkB md l.toArray n = true) (hin : i < n) (hf : Region.free md l.toArray ls i = true) (hr : (Region.ready md l.toArray ls).contains i = true)
    (hQ : ∀ c a w, Q (.panic c) (a.put o.dst v) w → Q (.panic c) a w) (hy : YieldsIf P l.toArray S o v a) (hS : S w) (h : HeadW P md l Q S n f (ls.setIfInBounds i true) (a.put o.dst v) w) : HeadW P md l Q S n (f + 1) ls a w := fun inv => by
  obtain ⟨hsel, hn, hs, hc⟩ := tailOk_spec hB
  have hr' : i ∈ Region.ready md l.toArray ls := by simpa using hr
  exact HeadH.first ho hsel hs hc hn hin (fun ls' a' w' hL => seqB_ready hL.1) hQ f ls a w inv (Region.free_spec ho hf) hr' hy hS (h (inv.set hr' hin))
theorem HeadW.one {i : Nat} {o : Oper} {f : Nat} {ls : Array Bool} {a : Act} {w : World} (hr : Region.ready md l.toArray ls = [i]) (hin : i < n) (ho : l.toArray[i]? = some o)
    (h : ∀ K' : Act → World → Prop, Shut (∀ a w, S w → (S w → HeadW P md l Q S n f (ls.setIfInBounds i true) a w) → K' a w) → if Region.wanted o (yielded l.toArray a.tmps) = true then Oper.wp P o a w K' Q else K' (a.put o.dst undef) w) :
    HeadW P md l Q S n (f + 1) ls a w := fun inv => ⟨by rw [hr]; simp, fun j hj => by
  have hj' := hj
  rw [hr] at hj
  obtain rfl : j = i := by simpa using hj
  exact ⟨hin, wpOp_step ho (fun K' hK => h K' (fun a w hS hW => hK a w ⟨hS, hW hS (inv.set hj' hin)⟩))⟩⟩
theorem HeadW.done {ls : Array Bool} {a : Act} {w : World} (hq : Region.seqB md l.toArray (l.toArray.size - n) n ls = true) (h : wpList P l.toArray Q (l.drop n) a w) : HeadW P md l Q S n 0 ls a w := fun _ => ⟨hq, h⟩
end
end
end Go.Proofs.YtanlejlmckdeiaaGreatDoor
