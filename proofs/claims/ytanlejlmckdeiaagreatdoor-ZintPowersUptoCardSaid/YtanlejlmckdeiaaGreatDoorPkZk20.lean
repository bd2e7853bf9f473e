/- A row of integers that are held; the contract of zint.Gcd over it. Conditions: at most 2^26 limbs each; the table of the library as it is laid. The contracts of zint's divide, by the signs and the kind of the division. Conditions: at most 2^26 limbs. The contract of zint.Lcm over a row of integers that are held. Conditions: at most 2^26 limbs each, and of what is multiplied up; the table of the library as it is laid. Sums and products over a row of integers that are held: the numbers and their bounds. No conditions beyond the sizes. -/
import Derived.Test.YtanlejlmckdeiaaGreatDoorPkZk17
import Derived.Test.YtanlejlmckdeiaaGreatDoorPkZk19
import Derived.Test.YtanlejlmckdeiaaGreatDoorPkZk5
import Derived.Test.YtanlejlmckdeiaaGreatDoorPkZk9
import Derived.Deep.DeepCutAuto
namespace Go.Proofs.YtanlejlmckdeiaaGreatDoor
section
open Go.RowKit

/-- An integer as a row holds it. -/
structure ZE1 where
  g : Bool
  A : Option Addr
  c : Nat
  xs : List Nat
  z : Int
/-- A row reads as integers that are held. -/
def ZL (w : World) (K : Nat) (A : Option Addr) (l : List ZE1) : Prop := ∀ k (_ : k < l.length), ∃ b off, A = some ⟨b, off, none⟩ ∧ b < w.heap.size ∧ w.cell? ⟨b, off + k * 2, none⟩ = some (.bool l[k].g) ∧ w.cell? ⟨b, off + k * 2 + 1, none⟩ = some (.slice l[k].A l[k].xs.length l[k].c) ∧ Zh w l[k].g l[k].A l[k].c l[k].xs l[k].z K
theorem ZL.next {w w' : World} {K : Nat} {A : Option Addr} {l : List ZE1} (h : ZL w K A l) (hb : Below w.heap.size w w') : ZL w' K A l := fun k hk => by
  obtain ⟨b, off, e, hlt, h0, h1, hz⟩ := h k hk
  exact ⟨b, off, e, Nat.lt_of_lt_of_le hlt hb.size, (hb.cell (p := ⟨b, _, none⟩) hlt).trans h0, (hb.cell (p := ⟨b, _, none⟩) hlt).trans h1, hz.next hb⟩
/-- The greatest common divisor of a row's first k numbers. -/
def gcdTo (l : List ZE1) (k : Nat) : Nat := (l.take k).foldl (fun n e => Nat.gcd n e.z.natAbs) 0
theorem gcdTo_step {l : List ZE1} {k : Nat} (h : k < l.length) : gcdTo l (k + 1) = Nat.gcd (gcdTo l k) l[k].z.natAbs := by
  unfold gcdTo
  rw [List.take_succ_eq_append_getElem h, List.foldl_append]
  rfl
theorem gcd_one_fold (l : List ZE1) : l.foldl (fun n e => Nat.gcd n e.z.natAbs) 1 = 1 := by
  induction l with
  | nil => rfl
  | cons a l ih => rw [List.foldl_cons, Nat.gcd_one_left, ih]
theorem gcdTo_one {l : List ZE1} {k : Nat} (h : gcdTo l k = 1) : gcdTo l l.length = 1 := by
  have e : l = l.take k ++ l.drop k := (List.take_append_drop k l).symm
  unfold gcdTo at h ⊢
  rw [List.take_length]
  rw [e, List.foldl_append, h, gcd_one_fold]
theorem gcdTo_lt {w : World} {K : Nat} {A : Option Addr} {l : List ZE1} (h : ZL w K A l) (hK : 0 < 4294967296 ^ K) : ∀ k, k ≤ l.length → gcdTo l k < 4294967296 ^ K := by
  intro k
  induction k with
  | zero => intro _; exact hK
  | succ k ih =>
    intro hk
    rw [gcdTo_step (by omega)]
    obtain ⟨_, _, _, _, _, _, hz⟩ := h k (by omega)
    rcases Nat.eq_zero_or_pos l[k].z.natAbs with h0 | h0
    · rw [h0, Nat.gcd_zero_right]; exact ih (by omega)
    · exact Nat.lt_of_le_of_lt (Nat.gcd_le_right _ h0) hz.lt
theorem bits_one (n : Nat) : bitsOf n = 1 ↔ n = 1 := by
  rcases Nat.lt_or_ge n 2 with h | h
  · have : n = 0 ∨ n = 1 := by omega
    rcases this with rfl | rfl
    · exact ⟨fun e => by revert e; decide, fun e => by omega⟩
    · exact ⟨fun _ => rfl, fun _ => by decide⟩
  · have h1 := bitsOf_half n (by omega)
    have h2 := bitsOf_half (n / 2) (by omega)
    omega

section
variable {w : World} {A A2 : Option Addr} {c c2 n k K J : Nat} {xs ys : List Nat}
theorem Hv.gcdN (h : Hv w A c xs n K) (h2 : Hv w A2 c2 ys k J) (hK : K ≤ 67108864) (hJ : J ≤ 67108864) (hT : Tab64 w) (hTB : 0 < w.heap.size) :
    Calls Tryz.prog 37 #[.slice A xs.length c, .slice A2 ys.length c2] w fun e w' => NOut w w' (Nat.gcd n k) e := by
  have hl1 := h.len
  have hl2 := h2.len
  have h9 := gcd_any A A2 c c2 xs ys w w.heap.size h.rd h2.rd (Nat.le_refl _) h.dig h2.dig h.cap h2.cap (by omega) (by omega) hT hTB
  rw [h.val_, h2.val_] at h9
  refine h9.mono ?_
  rintro e w' ⟨zs, A', c', rfl, hz, hr, hb⟩
  exact ⟨zs, A', c', rfl, hz, hr, hb⟩
end

set_option maxHeartbeats 6400000 in
theorem zgcd_any {w : World} {K : Nat} {A : Option Addr} {c : Nat} (l : List ZE1) (h : ZL w K A l) (hK : K ≤ 67108864) (hlen : l.length ≤ 281474976710656) (hT : Tab64 w) (hTB : 0 < w.heap.size) :
    Calls Tryz.prog 8 #[.slice A l.length c] w fun e w' => ZOut w w' (gcdTo l l.length : Nat) e := by
  have hlt := gcdTo_lt h (Nat.pow_pos (by omega))
  have HL := Lib.hid hlt
  have H := Lib.hid h
  have HT := Lib.hid hT
  have HTB := Lib.hid hTB
  have b2 := blk_one w (.bool false) (.slice none 0 0)
  have k0 := bel_one w (.cells #[.bool false, .slice none 0 0] 28)
  clear h hT hlt hTB
  go_enter Tryz.func8, Tryz.ntmps8
  go_wp2_with fail
  obtain ⟨w0, hw0⟩ : ∃ v, v = w.alloc (.cells #[.bool false, .slice none 0 0] 28) := ⟨_, rfl⟩
  rw [← hw0] at b2 k0 ⊢
  clear hw0
  go_loopw [3, 5, 8] (fun ov _ iv wr => ∃ (k : Nat) (zn : List Nat) (An : Option Addr) (cn : Nat), k ≤ l.length ∧ iv = .int .i64 (k : Int) ∧ ov = .slice An zn.length cn ∧ Num 4294967296 zn (gcdTo l k) ∧ Res wr w.heap.size 61 An cn (u32s zn) ∧ Blk wr w.heap.size 28 [.bool false, .slice none 0 0] ∧ Below w.heap.size w wr) (fun _ _ iv _ => l.length - (intOf iv).toNat)
  case atStart => exact ⟨0, [], none, 0, Nat.zero_le _, rfl, rfl, Num.zero_ _, Res.none_, b2, k0⟩
  case round =>
    obtain ⟨k, zn, An, cn, hk, rfl, rfl, hn, hr, b2r, hbel⟩ := hrel
    clear b2 k0
    by_cases hlt : k < l.length
    · obtain ⟨b, off, rfl, hbw, h0, h1, hz⟩ := H.out k hlt
      have hx0 := (hbel.cell (p := ⟨b, off + k * 2, none⟩) hbw).trans h0
      have hx1 := (hbel.cell (p := ⟨b, off + k * 2 + 1, none⟩) hbw).trans h1
      have hz9 := hz.next hbel
      obtain ⟨m, hm⟩ : ∃ m, m = gcdTo l (k + 1) := ⟨_, rfl⟩
      have hml : m < 4294967296 ^ K := by rw [hm]; exact HL.out _ (by omega)
      have GC : Hid (∀ W (_ : Below wr.heap.size wr W), Calls Tryz.prog 37 #[.slice An zn.length cn, .slice l[k].A l[k].xs.length l[k].c] W fun e w' => NOut W w' m e) := fun W hW => by
        rw [hm, gcdTo_step hlt]
        have hw := HTB.out
        have hW2 := bst hbel hW (Nat.le_refl _)
        exact Hv.gcdN ((Hv.of (K := K) hn hr (HL.out k hk)).next hW) (hz9.hv.next hW) hK hK (HT.out.below hW2 hw) (Nat.lt_of_lt_of_le hw hW2.size)
      have Hm := Lib.hid hm
      have HB2 := Lib.hid b2r
      have KB := Lib.hid hbel
      obtain ⟨eg, heg⟩ : ∃ v, v = l[k].g := ⟨_, rfl⟩
      obtain ⟨eA, heA⟩ : ∃ v, v = l[k].A := ⟨_, rfl⟩
      obtain ⟨exs, hexs⟩ : ∃ v, v = l[k].xs := ⟨_, rfl⟩
      obtain ⟨ec, hec⟩ : ∃ v, v = l[k].c := ⟨_, rfl⟩
      rw [← heg] at hx0
      rw [← heA, ← hexs, ← hec] at hx1
      rw [← heA, ← hexs, ← hec] at GC
      clear hn hr b2r hbel h0 h1 hz hz9 hm heg heA hexs hec
      go_wp2_with fail
      refine (GC.out _ (bel_one _ _)).mono ?_
      rintro e w1 ⟨zs, As, cs, rfl, hzs, hrs, hb1⟩
      have j1 : Below wr.heap.size wr w1 := bst (bel_one _ _) hb1 (Nat.le_refl _)
      have k1 := bst KB.out j1 (Nat.le_refl _)
      have b2 := HB2.out.below j1 HB2.out.lt
      have rs : Res w1 w.heap.size 61 As cs (u32s zs) := hrs.mono (by have := KB.out.size; simp; omega)
      obtain ⟨bt, hbt⟩ : ∃ v, v = bitsOf m := ⟨_, rfl⟩
      have LN : Hid (Calls Tryz.prog 38 #[.slice As zs.length cs] w1 fun e w' => e = .returned (.int .i64 (bt : Nat)) ∧ w1 = w') := by
        rw [hbt]
        exact (Hv.of (K := K) hzs hrs hml).nlen hK
      have Hbt := Lib.hid hbt
      clear GC hx0 hx1 hb1 hrs hbt HB2
      go_wp2_with fail
      refine LN.out.mono ?_
      rintro e w9 ⟨rfl, rfl⟩
      by_cases hb9 : bt = 1
      · subst hb9
        have e1 : gcdTo l l.length = m := by
          have h1 : m = 1 := (bits_one m).1 Hbt.out.symm
          rw [h1]
          exact gcdTo_one (by rw [← Hm.out]; exact h1)
        clear Hbt LN
        go_wp2_with fail
        refine (made_num false (m : Int) hzs rfl w1 (res_len rs)).mono ?_
        rintro e wm ⟨rfl, hbm⟩
        have bm := b2.below hbm b2.lt
        obtain ⟨q0, q1, q2, q3⟩ := bm.two
        go_wp2_with fail
        rw [e1]
        exact zretT (z := (m : Int)) (bst k1 hbm (Nat.le_refl _)) bm (Nat.le_refl _) (num_eq hzs (Int.natAbs_natCast _).symm) (rs.below hbm (Nat.le_refl _)) rfl rfl rfl rfl
      · have hb8 : decide (bt = 1) = false := decide_eq_false hb9
        clear Hbt LN
        go_wp2_with fail
        go_roundw
        case rel => exact ⟨k + 1, zs, As, cs, by omega, by go_num, rfl, by rw [← Hm.out]; exact hzs, rs, b2, k1⟩
        case measure => simp [intOf]; omega
    · obtain rfl : k = l.length := by omega
      have HB2 := Lib.hid b2r
      have KB := Lib.hid hbel
      obtain ⟨m, hm⟩ : ∃ m, m = gcdTo l l.length := ⟨_, rfl⟩
      rw [← hm] at hn
      have Hm := Lib.hid hm
      clear hm hlt hk b2r hbel
      go_wp2_with fail
      refine (made_num false (m : Int) hn rfl wr (res_len hr)).mono ?_
      rintro e wm ⟨rfl, hbm⟩
      have bm := HB2.out.below hbm HB2.out.lt
      obtain ⟨q0, q1, q2, q3⟩ := bm.two
      go_wp2_with fail
      rw [← Hm.out]
      exact zretT (z := (m : Int)) (bst KB.out hbm (Nat.le_refl _)) bm (Nat.le_refl _) (num_eq hn (Int.natAbs_natCast _).symm) (hr.below hbm (Nat.le_refl _)) rfl rfl rfl rfl
end
section
open Go.RowKit

/-- Where divide stands when the quotient and the remainder are told by sizes. -/
def DivMid (w : World) (x0 y0 x1 y1 : Value) (gr : Bool) (q r : Nat) (v13 v14 : Value) (W : World) : Prop :=
  ∃ qs rs A5 c5 A7 c7 gt, v13 = .slice A5 qs.length c5 ∧ v14 = .pointer (some ⟨gt, 0, none⟩) ∧ w.heap.size + 3 < gt ∧ Num 4294967296 qs q ∧ Num 4294967296 rs r ∧ Res W w.heap.size 61 A5 c5 (u32s qs) ∧ Res W w.heap.size 61 A7 c7 (u32s rs) ∧
    Blk W gt 28 [.bool (gr && decide (0 < r)), .slice A7 rs.length c7] ∧ Blk W w.heap.size 28 [x0, y0] ∧ Blk W (w.heap.size + 1) 28 [x1, y1] ∧ Blk W (w.heap.size + 2) 28 [.bool false, .slice none 0 0] ∧ Blk W (w.heap.size + 3) 28 [.bool false, .slice none 0 0] ∧ Below w.heap.size w W
/-- A quotient that is raised where something is left, and what is then left. -/
def upQ (m k : Nat) : Nat := if m % k = 0 then m / k else m / k + 1
def upR (m k : Nat) : Nat := if m % k = 0 then 0 else k - m % k
/-- What a division of integers answers. -/
def ZQOut (w w' : World) (q r : Int) (e : Ending) : Prop := ∃ qs rs A1 c1 A3 c3, e = .returned (.tuple #[.agg #[.bool (isNeg q), .slice A1 qs.length c1], .agg #[.bool (isNeg r), .slice A3 rs.length c3], .int .i64 0]) ∧ Num 4294967296 qs q.natAbs ∧ Num 4294967296 rs r.natAbs ∧ Res w' w.heap.size 61 A1 c1 (u32s qs) ∧ Res w' w.heap.size 61 A3 c3 (u32s rs) ∧ Below w.heap.size w w'
/-- What a division by nought answers. -/
def ZQErr (w w' : World) (e : Ending) : Prop := e = .returned (.tuple #[.agg #[.bool false, .slice none 0 0], .agg #[.bool false, .slice none 0 0], .int .i64 5]) ∧ Below w.heap.size w w'
theorem Hv.divN {w : World} {A A2 : Option Addr} {c c2 n k K J : Nat} {xs ys : List Nat} (h : Hv w A c xs n K) (h2 : Hv w A2 c2 ys k J) (hK : K ≤ 67108864) (hJ : J ≤ 67108864) :
    Calls Tryz.prog 43 #[.slice A xs.length c, .slice A2 ys.length c2] w fun e w' => DivOut w w' n k e := by
  have hl1 := h.len
  have hl2 := h2.len
  have t2 := trimL_length_le ys
  have h9 := div_any quotient_all A A2 c c2 xs ys w w.heap.size h.rd h2.rd (Nat.le_refl _) h.dig h2.dig h.cap h2.cap (by omega) (by omega) (by show _ ≤ _; omega)
  rwa [h.val_, h2.val_] at h9
section
variable {w : World} {g g2 : Bool} {A A2 : Option Addr} {c c2 K J : Nat} {xs ys : List Nat} {z y : Int}
set_option maxHeartbeats 1600000 in
theorem divide_nought (kind : Int) (h : Zh w g A c xs z K) (h2 : Zh w g2 A2 c2 ys 0 J) (hK : K ≤ 67108864) (hJ : J ≤ 67108864) :
    Calls Tryz.prog 59 #[.agg #[.bool g, .slice A xs.length c], .agg #[.bool g2, .slice A2 ys.length c2], .int .i64 kind] w fun e w' => ZQErr w w' e := by
  have D1 : Hid (∀ W (_ : Below w.heap.size w W), Calls Tryz.prog 43 #[.slice A xs.length c, .slice A2 ys.length c2] W fun e w' => DivOut W w' z.natAbs 0 e) := fun W hW => Hv.divN (h.hv.next hW) (h2.hv.next hW) hK hJ
  clear h h2
  obtain ⟨b0, b1, b2, b3⟩ := blk_four w (.bool g) (.slice A xs.length c) (.bool g2) (.slice A2 ys.length c2) (.bool false) (.slice none 0 0) (.bool false) (.slice none 0 0)
  have k0 := bel_four w (.cells #[.bool g, .slice A xs.length c] 28) (.cells #[.bool g2, .slice A2 ys.length c2] 28) (.cells #[.bool false, .slice none 0 0] 28) (.cells #[.bool false, .slice none 0 0] 28)
  go_enter Tryz.func59, Tryz.ntmps59
  go_wp2_with fail
  refine (D1.out _ k0).mono ?_
  rintro e w1 ⟨qs, rs, A1, c1, A3, c3, rfl, _, _, _, _, hb1⟩
  rw [if_pos rfl]
  have k1 := bst k0 hb1 (Nat.le_refl _)
  have b2' := b2.below hb1 b2.lt
  have b3' := b3.below hb1 b3.lt
  obtain ⟨p0, p1, p2, p3⟩ := b2'.two
  obtain ⟨q0, q1, q2, q3⟩ := b3'.two
  clear b0 b1 b2 b3
  go_wp2_with fail
  have b4 := blk_pair b2' (.bool false) (.slice none 0 0)
  have b5 := (b4.far (p := ⟨w.heap.size + 3, 0, none⟩) (by show w.heap.size + 2 ≠ w.heap.size + 3; omega) (.bool false)).far (p := ⟨w.heap.size + 3, 1, none⟩) (by show w.heap.size + 2 ≠ w.heap.size + 3; omega) (.slice none 0 0)
  have b6 := blk_pair ((b3'.far (p := ⟨w.heap.size + 2, 0, none⟩) (by show w.heap.size + 3 ≠ w.heap.size + 2; omega) (.bool false)).far (p := ⟨w.heap.size + 2, 1, none⟩) (by show w.heap.size + 3 ≠ w.heap.size + 2; omega) (.slice none 0 0)) (.bool false) (.slice none 0 0)
  exact bodyPost_ret (results_zzs rfl rfl rfl b5 b6) rfl ⟨rfl, bsc (bsc (bsc (bsc k1 (by omega) _) (by omega) _) (by omega) _) (by omega) _⟩
end
end
section
open Go.RowKit

/-- The least common multiple of a row's first k numbers, 0 where one of them is 0. -/
def lcmTo (l : List ZE1) (k : Nat) : Nat := (l.take k).foldl (fun n e => n * (e.z.natAbs / Nat.gcd n e.z.natAbs)) 1
theorem lcmTo_step {l : List ZE1} {k : Nat} (h : k < l.length) : lcmTo l (k + 1) = lcmTo l k * (l[k].z.natAbs / Nat.gcd (lcmTo l k) l[k].z.natAbs) := by
  unfold lcmTo
  rw [List.take_succ_eq_append_getElem h, List.foldl_append]
  rfl
theorem lcm_zero_fold (l : List ZE1) : l.foldl (fun n e => n * (e.z.natAbs / Nat.gcd n e.z.natAbs)) 0 = 0 := by
  induction l with
  | nil => rfl
  | cons a l ih => rw [List.foldl_cons, Nat.zero_mul, ih]
theorem lcmTo_zero {l : List ZE1} {k : Nat} (h : lcmTo l k = 0) : lcmTo l l.length = 0 := by
  have e : l = l.take k ++ l.drop k := (List.take_append_drop k l).symm
  unfold lcmTo at h ⊢
  rw [List.take_length]
  rw [e, List.foldl_append, h, lcm_zero_fold]

set_option maxHeartbeats 12800000 in
theorem zlcm_any {w : World} {K M : Nat} {A : Option Addr} {c : Nat} (l : List ZE1) (h : ZL w K A l) (hK : K ≤ 67108864) (hM : M ≤ 67108864) (hl : ∀ k, k ≤ l.length → lcmTo l k < 4294967296 ^ M) (hlen : l.length ≤ 281474976710656) (hT : Tab64 w) (hTB : 0 < w.heap.size) :
    Calls Tryz.prog 10 #[.slice A l.length c] w fun e w' => ZOut w w' (lcmTo l l.length : Nat) e := by
  have HL := Lib.hid hl
  have H := Lib.hid h
  have HT := Lib.hid hT
  have HTB := Lib.hid hTB
  have b2 := blk_one w (.bool false) (.slice none 0 0)
  have k0 := bel_one w (.cells #[.bool false, .slice none 0 0] 28)
  clear h hT hl hTB
  go_enter Tryz.func10, Tryz.ntmps10
  go_wp2_with fail
  obtain ⟨w0, hw0⟩ : ∃ v, v = w.alloc (.cells #[.bool false, .slice none 0 0] 28) := ⟨_, rfl⟩
  rw [← hw0] at b2 k0 ⊢
  clear hw0
  refine (of_any 1 (by decide) _).mono ?_
  rintro e w1 ⟨zo, Ao, co, rfl, hzo, hro, hbo⟩
  have s0 := k0.size
  replace b2 := b2.below hbo b2.lt
  replace k0 := bst k0 hbo (Nat.le_refl _)
  have hro9 : Res w1 w.heap.size 61 Ao co (u32s zo) := hro.mono s0
  clear hro hbo
  go_wp2_with fail
  go_loopw [3, 5, 6, 7, 8, 12] (fun ov _ _ _ _ iv wr => ∃ (k : Nat) (zn : List Nat) (An : Option Addr) (cn : Nat), k ≤ l.length ∧ iv = .int .i64 (k : Int) ∧ ov = .slice An zn.length cn ∧ Num 4294967296 zn (lcmTo l k) ∧ Res wr w.heap.size 61 An cn (u32s zn) ∧ Blk wr w.heap.size 28 [.bool false, .slice none 0 0] ∧ Below w.heap.size w wr) (fun _ _ _ _ _ iv _ => l.length - (intOf iv).toNat)
  case atStart => exact ⟨0, zo, Ao, co, Nat.zero_le _, rfl, rfl, hzo, hro9, b2, k0⟩
  case round =>
    obtain ⟨k, zn, An, cn, hk, rfl, rfl, hn, hr, b2r, hbel⟩ := hrel
    clear b2 k0 hro9 hzo
    by_cases hlt : k < l.length
    · obtain ⟨b, off, rfl, hbw, h0, h1, hz⟩ := H.out k hlt
      have hx0 := (hbel.cell (p := ⟨b, off + k * 2, none⟩) hbw).trans h0
      have hx1 := (hbel.cell (p := ⟨b, off + k * 2 + 1, none⟩) hbw).trans h1
      have hz9 := hz.next hbel
      obtain ⟨m, hm⟩ : ∃ m, m = lcmTo l (k + 1) := ⟨_, rfl⟩
      obtain ⟨n, hn9⟩ : ∃ n, n = lcmTo l k := ⟨_, rfl⟩
      obtain ⟨x, hx⟩ : ∃ x, x = l[k].z := ⟨_, rfl⟩
      have hst := lcmTo_step hlt
      have hnl : n < 4294967296 ^ M := by rw [hn9]; exact HL.out _ (by omega)
      have hml : m < 4294967296 ^ M := by rw [hm]; exact HL.out _ (by omega)
      rw [← hm, ← hn9, ← hx] at hst
      rw [← hn9] at hn
      rw [← hx] at hz9
      obtain ⟨eg, heg⟩ : ∃ v, v = l[k].g := ⟨_, rfl⟩
      obtain ⟨eA, heA⟩ : ∃ v, v = l[k].A := ⟨_, rfl⟩
      obtain ⟨exs, hexs⟩ : ∃ v, v = l[k].xs := ⟨_, rfl⟩
      obtain ⟨ec, hec⟩ : ∃ v, v = l[k].c := ⟨_, rfl⟩
      rw [← heg] at hx0
      rw [← heA, ← hexs, ← hec] at hx1
      rw [← heg, ← heA, ← hexs, ← hec] at hz9
      obtain ⟨zb, hzb⟩ : ∃ v, v = decide (x = 0) := ⟨_, rfl⟩
      have IZ : Hid (∀ W (_ : Below wr.heap.size wr W), Calls Tryz.prog 42 #[.agg #[.bool eg, .slice eA exs.length ec]] W fun e w' => e = .returned (.bool zb) ∧ Below W.heap.size W w') := fun W hW => by rw [hzb]; exact (hz9.next hW).isZero hK
      have Hm := Lib.hid hm
      have Hst := Lib.hid hst
      have Hn := Lib.hid hn
      have HR := Lib.hid hr
      have HZ9 := Lib.hid hz9
      have HB2 := Lib.hid b2r
      have KB := Lib.hid hbel
      clear hn hr b2r hbel h0 h1 hz hz9 hm hn9 hx hst heg heA hexs hec
      go_upto_region 5 with (fail)
      obtain ⟨v1, hv1⟩ : ∃ v, v = wr.alloc (.cells #[.bool eg, .slice eA exs.length ec] 28) := ⟨_, rfl⟩
      rw [← hv1]
      have b5 : Blk v1 wr.heap.size 28 [.bool eg, .slice eA exs.length ec] := by rw [hv1]; exact blk_one _ _ _
      have j1 : Below wr.heap.size wr v1 := by rw [hv1]; exact bel_one _ _
      obtain ⟨g5, hg5⟩ : ∃ g, g = wr.heap.size := ⟨_, rfl⟩
      rw [← hg5] at b5 ⊢
      obtain ⟨p0, p1, _, _⟩ := b5.two
      clear hv1 hg5 hx0 hx1
      by_cases hx0 : x = 0
      · have hz1 : zb = true := by rw [hzb]; exact decide_eq_true hx0
        clear hzb
        subst hz1
        have e1 : lcmTo l l.length = 0 := lcmTo_zero (k := k + 1) (by rw [← Hm.out, Hst.out, hx0]; simp)
        clear hx0
        go_wp2_with fail
        refine (IZ.out _ j1).mono ?_
        rintro e w2 ⟨rfl, hb2⟩
        clear p0 p1 IZ
        have j2 := bst j1 hb2 (Nat.le_refl _)
        have bm := HB2.out.below j2 HB2.out.lt
        obtain ⟨q0, q1, q2, q3⟩ := bm.two
        go_wp2_with fail
        rw [e1]
        exact zretT (z := 0) (zs := []) (bst KB.out j2 (Nat.le_refl _)) bm (Nat.le_refl _) (Num.zero_ _) Res.none_ rfl rfl rfl rfl
      · have hz1 : zb = false := by rw [hzb]; exact decide_eq_false hx0
        clear hzb
        subst hz1
        have HX0 : Hid (0 < x.natAbs) := by show 0 < _; omega
        clear hx0
        go_wp2_with fail
        refine (IZ.out _ j1).mono ?_
        rintro e v2 ⟨rfl, hb2⟩
        clear p0 p1 IZ
        have j2 := bst j1 hb2 (Nat.le_refl _)
        have k2 := bst KB.out j2 (Nat.le_refl _)
        have B5 := Lib.hid (b5.below hb2 b5.lt)
        have hN := (Hv.of (K := M) Hn.out HR.out hnl).next j2
        have hX := HZ9.out.hv.next j2
        obtain ⟨d, hd⟩ : ∃ d, d = Nat.gcd n x.natAbs := ⟨_, rfl⟩
        have hd0 : 0 < d := by rw [hd]; exact Nat.gcd_pos_of_pos_right _ HX0.out
        have hdl : d < 4294967296 ^ K := by rw [hd]; exact Nat.lt_of_le_of_lt (Nat.gcd_le_right _ HX0.out) hX.lt
        have GC : Hid (∀ W (_ : Below v2.heap.size v2 W), Calls Tryz.prog 37 #[.slice An zn.length cn, .slice eA exs.length ec] W fun e w' => NOut W w' d e) := fun W hW => by
          rw [hd]
          have hw := HTB.out
          have hW2 := bst k2 hW (Nat.le_refl _)
          exact Hv.gcdN (hN.next hW) (hX.next hW) hM hK (HT.out.below hW2 hw) (Nat.lt_of_lt_of_le hw hW2.size)
        obtain ⟨ov, hov⟩ : ∃ v, v = x.natAbs / d := ⟨_, rfl⟩
        have DV : Hid (∀ (zd : List Nat) (Ad : Option Addr) (cd B9 : Nat) (wo W : World), Below v2.heap.size v2 W → Num 4294967296 zd d → Res wo B9 61 Ad cd (u32s zd) → Below wo.heap.size wo W → Calls Tryz.prog 43 #[.slice eA exs.length ec, .slice Ad zd.length cd] W fun e w' => ∃ (qs rs : List Nat) (A1 : Option Addr) (c1 : Nat) (A3 : Option Addr) (c3 : Nat), e = .returned (.tuple #[.slice A1 qs.length c1, .slice A3 rs.length c3, .int .i64 0]) ∧ Num 4294967296 qs ov ∧ Res w' W.heap.size 61 A1 c1 (u32s qs) ∧ Below W.heap.size W w') := fun zd Ad cd B9 wo W hW hn hr hb => by
          have h9 := Hv.divN (hX.next hW) ((Hv.of (K := K) hn hr hdl).next hb) hK hK
          refine h9.mono ?_
          rintro e w' ⟨qs, rs, A1, c1, A3, c3, rfl, h1, _, h3, _, h5⟩
          rw [if_neg (by omega)]
          exact ⟨qs, rs, A1, c1, A3, c3, rfl, by rw [hov]; exact h1, h3, h5⟩
        have hovl : Hid (ov < 4294967296 ^ K) := by show _ < _; rw [hov]; exact Nat.lt_of_le_of_lt (Nat.div_le_self _ _) hX.lt
        have HMV : Hid (n * ov = m) := by show _ = _; rw [hov, hd, Hst.out]
        have HB3 := Lib.hid (HB2.out.below j2 HB2.out.lt)
        have K2 := Lib.hid k2
        have HR2 := Lib.hid (HR.out.below j2 (Nat.le_refl _))
        obtain ⟨p0, p1, _, _⟩ := B5.out.two
        clear hN hX hd hov hb2 j1 j2 k2 b5 HB2 KB HR HZ9 Hst
        go_upto_region 7 with (fail)
        go_cut [6, 7, 8] (fun v6 _ _ W => ∃ qs A1 c1, v6 = .slice A1 qs.length c1 ∧ Num 4294967296 qs ov ∧ Res W v2.heap.size 61 A1 c1 (u32s qs) ∧ Below v2.heap.size v2 W)
        case first =>
          go_region_held3 (fun W => W.cell? ⟨g5, 0, none⟩ = some (.bool eg) ∧ W.cell? ⟨g5, 1, none⟩ = some (.slice eA exs.length ec)) (go_keep) (first
            | (go_at_call 37; (with_reducible refine (GC.out _ (by repeat (first | exact Below.refl _ _ | exact jd | exact jq | apply bdw | (refine bdn ?_ _) | (refine bal ?_ (Nat.le_refl _) _)))).mono ?_); rintro e wd ⟨zd, Ad, cd, rfl, hzd, hrd, hbd⟩; have jd : Below v2.heap.size v2 wd := bst (by repeat (first | exact Below.refl _ _ | exact jd | exact jq | apply bdw | (refine bdn ?_ _) | (refine bal ?_ (Nat.le_refl _) _))) hbd (Nat.le_refl _); obtain ⟨x0d, y0d, _, _⟩ := (B5.out.below jd B5.out.lt).two)
            | (go_at_call 43; (with_reducible refine (DV.out zd Ad cd _ wd _ (by repeat (first | exact Below.refl _ _ | exact jd | exact jq | apply bdw | (refine bdn ?_ _) | (refine bal ?_ (Nat.le_refl _) _))) hzd hrd (by repeat (first | exact Below.refl _ _ | apply bdw | (refine bdn ?_ _)))).mono ?_); rintro e wq ⟨qs, rs, A1, c1, A3, c3, rfl, hq, rq, hbq⟩; have jq : Below v2.heap.size v2 wq := bst (by repeat (first | exact Below.refl _ _ | exact jd | exact jq | apply bdw | (refine bdn ?_ _) | (refine bal ?_ (Nat.le_refl _) _))) hbq (Nat.le_refl _); obtain ⟨x0q, y0q, _, _⟩ := (B5.out.below jq B5.out.lt).two))
          all_goals
            go_wp2_with fail
            go_meet
            exact ⟨qs, A1, c1, rfl, hq, rq.mono jd.size, jq⟩
        case rest =>
          obtain ⟨qs, A1, c1, rfl, hq, rq, j3⟩ := hcut
          obtain ⟨v3, rfl⟩ : ∃ v3 : World, v3 = wc := ⟨_, rfl⟩
          clear GC DV p0 p1 B5
          have k3 := bst K2.out j3 (Nat.le_refl _)
          have b2 := HB3.out.below j3 HB3.out.lt
          have MU : Hid (Calls Tryz.prog 44 #[.slice An zn.length cn, .slice A1 qs.length c1] v3 fun e w' => NOut v3 w' m e) := by
            have h9 := Hv.mulN ((Hv.of (K := M) Hn.out HR2.out hnl).next j3) (Hv.of (K := K) hq rq hovl.out) hM hK
            rwa [HMV.out] at h9
          clear HB3 K2 HR2 Hn hq rq j3
          go_wp2_with fail
          refine MU.out.mono ?_
          rintro e v4 ⟨zs, As, cs, rfl, hzs, hrs, hb4⟩
          have s3 := k3.size
          have b4 := b2.below hb4 b2.lt
          have k4 := bst k3 hb4 (Nat.le_refl _)
          clear MU b2 k3
          go_wp2_with fail
          go_roundw
          case rel => exact ⟨k + 1, zs, As, cs, by omega, by go_num, rfl, by rw [← Hm.out]; exact hzs, hrs.mono s3, b4, k4⟩
          case measure => simp [intOf]; omega
    · obtain rfl : k = l.length := by omega
      have HB2 := Lib.hid b2r
      have KB := Lib.hid hbel
      obtain ⟨m, hm⟩ : ∃ m, m = lcmTo l l.length := ⟨_, rfl⟩
      rw [← hm] at hn
      have Hm := Lib.hid hm
      clear hm hlt hk b2r hbel
      go_wp2_with fail
      refine (made_num false (m : Int) hn rfl wr (res_len hr)).mono ?_
      rintro e wm ⟨rfl, hbm⟩
      have bm := HB2.out.below hbm HB2.out.lt
      obtain ⟨q0, q1, q2, q3⟩ := bm.two
      go_wp2_with fail
      rw [← Hm.out]
      exact zretT (z := (m : Int)) (bst KB.out hbm (Nat.le_refl _)) bm (Nat.le_refl _) (num_eq hn (Int.natAbs_natCast _).symm) (hr.below hbm (Nat.le_refl _)) rfl rfl rfl rfl
end
section
open Go.RowKit

theorem list_of_each {α : Type} {P : Nat → α → Prop} (n : Nat) (h : ∀ i, i < n → ∃ a, P i a) : ∃ L : List α, L.length = n ∧ ∀ i (hi : i < L.length), P i L[i] := by
  induction n with
  | zero => exact ⟨[], rfl, fun i hi => by simp at hi⟩
  | succ n ih =>
    obtain ⟨L, hL, hP⟩ := ih fun i hi => h i (by omega)
    obtain ⟨a, ha⟩ := h n (by omega)
    refine ⟨L ++ [a], by simp [hL], fun i hi => ?_⟩
    rcases Nat.lt_or_ge i n with g | g
    · rw [List.getElem_append_left (by omega)]
      exact hP i (by omega)
    · have hi' : i = n := by simp [hL] at hi; omega
      subst hi'
      rw [List.getElem_append_right (by omega)]
      simpa [hL] using ha
/-- The sum of a row's first k numbers. -/
def sumTo (l : List ZE1) (k : Nat) : Int := (l.take k).foldl (fun s e => s + e.z) 0
theorem sumTo_step {l : List ZE1} {k : Nat} (h : k < l.length) : sumTo l (k + 1) = sumTo l k + l[k].z := by
  unfold sumTo
  rw [List.take_succ_eq_append_getElem h, List.foldl_append]
  rfl
/-- The product of a row's first k numbers. -/
def prodTo (l : List ZE1) (k : Nat) : Int := (l.take k).foldl (fun s e => s * e.z) 1
theorem prodTo_step {l : List ZE1} {k : Nat} (h : k < l.length) : prodTo l (k + 1) = prodTo l k * l[k].z := by
  unfold prodTo
  rw [List.take_succ_eq_append_getElem h, List.foldl_append]
  rfl
/-- How many limbs a row's first k numbers have. -/
def lensTo (l : List ZE1) (k : Nat) : Nat := (l.take k).foldl (fun s e => s + e.xs.length) 0
theorem lensTo_step {l : List ZE1} {k : Nat} (h : k < l.length) : lensTo l (k + 1) = lensTo l k + l[k].xs.length := by
  unfold lensTo
  rw [List.take_succ_eq_append_getElem h, List.foldl_append]
  rfl
theorem lensTo_mono {l : List ZE1} {k : Nat} (hk : k ≤ l.length) : lensTo l k ≤ lensTo l l.length := by
  have h : ∀ d, k + d ≤ l.length → lensTo l k ≤ lensTo l (k + d) := by
    intro d
    induction d with
    | zero => intro _; exact Nat.le_refl _
    | succ d ih =>
      intro hd
      have h1 := ih (by omega)
      have h2 := lensTo_step (l := l) (k := k + d) (by omega)
      rw [show k + (d + 1) = k + d + 1 from by omega, h2]
      omega
  have := h (l.length - k) (by omega)
  rwa [show k + (l.length - k) = l.length from by omega] at this
theorem lens_same {l l' : List ZE1} (hl : l'.length = l.length) (h : ∀ k (h1 : k < l'.length) (h2 : k < l.length), l'[k].xs = l[k].xs) : ∀ k, k ≤ l.length → lensTo l' k = lensTo l k := by
  intro k
  induction k with
  | zero => intro _; rfl
  | succ k ih =>
    intro hk
    rw [lensTo_step (by omega), lensTo_step (by omega), ih (by omega), h k (by omega) (by omega)]
/-- A row of integers that are held, of N limbs in all. -/
structure ZR (w : World) (N : Nat) (A : Option Addr) (l : List ZE1) : Prop where
  zl : ZL w N A l
  all : lensTo l l.length ≤ N
theorem ZR.next {w w' : World} {N : Nat} {A : Option Addr} {l : List ZE1} (h : ZR w N A l) (hb : Below w.heap.size w w') : ZR w' N A l := ⟨h.zl.next hb, h.all⟩
section
variable {w : World} {N : Nat} {A : Option Addr} {l : List ZE1}
theorem ZL.abs_lt (h : ZL w N A l) {k : Nat} (hk : k < l.length) : l[k].z.natAbs < 4294967296 ^ l[k].xs.length := by
  obtain ⟨_, _, _, _, _, _, hz⟩ := h k hk
  have := hz.hv.val_
  rw [← this]
  exact val_lt _ _ hz.hv.dig
theorem ZL.sum_le (h : ZL w N A l) : ∀ k, k ≤ l.length → (sumTo l k).natAbs ≤ k * 4294967296 ^ N := by
  intro k
  induction k with
  | zero => intro _; simp [sumTo]
  | succ k ih =>
    intro hk
    have h1 := ih (by omega)
    obtain ⟨_, _, _, _, _, _, hz⟩ := h k (by omega)
    have h2 := hz.lt
    rw [sumTo_step (by omega), Nat.succ_mul]
    have := Int.natAbs_add_le (sumTo l k) l[k].z
    omega
theorem ZL.sum_lt (h : ZL w N A l) (hl : l.length < 4294967296) (k : Nat) (hk : k ≤ l.length) : (sumTo l k).natAbs < 4294967296 ^ (N + 1) := by
  have h1 := h.sum_le k hk
  have h2 : k * 4294967296 ^ N < 4294967296 * 4294967296 ^ N := Nat.mul_lt_mul_of_pos_right (by omega) (Nat.pow_pos (by omega))
  rw [Nat.pow_succ, Nat.mul_comm (4294967296 ^ N)]
  omega
theorem ZL.prod_le (h : ZL w N A l) : ∀ k, k ≤ l.length → (prodTo l k).natAbs ≤ 4294967296 ^ lensTo l k := by
  intro k
  induction k with
  | zero => intro _; simp [prodTo, lensTo]
  | succ k ih =>
    intro hk
    have h1 := ih (by omega)
    have h2 := h.abs_lt (k := k) (by omega)
    rw [prodTo_step (by omega), lensTo_step (by omega), Int.natAbs_mul, Nat.pow_add]
    exact Nat.mul_le_mul h1 (by omega)
theorem pow_lt_up {b i j : Nat} (hb : 2 ≤ b) (h : i ≤ j) : b ^ i < b ^ (j + 1) := Nat.pow_lt_pow_right (by omega) (by omega)
theorem ZR.prod_lt (h : ZR w N A l) (k : Nat) (hk : k ≤ l.length) : (prodTo l k).natAbs < 4294967296 ^ (N + 1) := by
  have h1 := h.zl.prod_le k hk
  have h2 := lensTo_mono hk
  have h3 := pow_lt_up (b := 4294967296) (by omega) (Nat.le_trans h2 h.all)
  omega
theorem ZL.lcm_le (h : ZL w N A l) : ∀ k, k ≤ l.length → lcmTo l k ≤ 4294967296 ^ lensTo l k := by
  intro k
  induction k with
  | zero => intro _; simp [lcmTo, lensTo]
  | succ k ih =>
    intro hk
    have h1 := ih (by omega)
    have h2 := h.abs_lt (k := k) (by omega)
    rw [lcmTo_step (by omega), lensTo_step (by omega), Nat.pow_add]
    exact Nat.mul_le_mul h1 (Nat.le_trans (Nat.div_le_self _ _) (by omega))
theorem ZR.lcm_lt (h : ZR w N A l) (k : Nat) (hk : k ≤ l.length) : lcmTo l k < 4294967296 ^ (N + 1) := by
  have h1 := h.zl.lcm_le k hk
  have h2 := lensTo_mono hk
  have h3 := pow_lt_up (b := 4294967296) (by omega) (Nat.le_trans h2 h.all)
  omega
end
end
end Go.Proofs.YtanlejlmckdeiaaGreatDoor
