/- The contract of nat.Gcd on numbers that are held. Conditions: at most 2^26 limbs; the table of the library as it is laid. A row of integers that are held; the contract of zint.Gcd over it. Conditions: at most 2^26 limbs each; the table of the library as it is laid. The contracts of prime.Of and of the reference's Of; a block of four cells; a row of two integers. Conditions: the sizes; the library's table and the bases as they are laid. -/
import Derived.Test.YtcfalkcceanldaaGreatDoorPkPo25
import Derived.Test.YtcfalkcceanldaaGreatDoorPkPo45
import Derived.Test.YtcfalkcceanldaaGreatDoorPkPo34
import Derived.Test.YtcfalkcceanldaaGreatDoorPkPo30
import Derived.Test.YtcfalkcceanldaaGreatDoorPkPo11
import Derived.Test.YtcfalkcceanldaaGreatDoorPkPo1
import Derived.Test.YtcfalkcceanldaaGreatDoorPkPo32
import Derived.Test.YtcfalkcceanldaaGreatDoorPkPo43
import Derived.Test.YtcfalkcceanldaaGreatDoorPkPo44
namespace Go.Proofs.YtcfalkcceanldaaGreatDoor
section
open Go.RowKit

section
variable {w : World} {A A2 : Option Addr} {c c2 n k K J : Nat} {xs ys : List Nat}
theorem Hv.gcd (h : Hv w A c xs n K) (h2 : Hv w A2 c2 ys k J) (hK : K ≤ 67108864) (hJ : J ≤ 67108864) (hT : Tab64 w) (hTB : 1 < w.heap.size) :
    Calls Tryz.prog 31 #[.slice A xs.length c, .slice A2 ys.length c2] w fun e w' => HvOut w w' (Nat.gcd n k) (max K J) e := by
  have hl1 := h.len
  have hl2 := h2.len
  have h9 := gcd_any A A2 c c2 xs ys w w.heap.size h.rd h2.rd (Nat.le_refl _) h.dig h2.dig h.cap h2.cap (by omega) (by omega) hT hTB
  rw [h.val_, h2.val_] at h9
  refine h9.mono ?_
  rintro e w' ⟨zs, A', c', rfl, hz, hr, hb⟩
  refine ⟨zs, A', c', rfl, Hv.of hz hr ?_, hb⟩
  have p1 : 4294967296 ^ K ≤ 4294967296 ^ max K J := Nat.pow_le_pow_right (by omega) (by omega)
  have p2 : 4294967296 ^ J ≤ 4294967296 ^ max K J := Nat.pow_le_pow_right (by omega) (by omega)
  have q1 := h.lt
  have q2 := h2.lt
  rcases Nat.eq_zero_or_pos n with h0 | h0
  · rw [h0, Nat.gcd_zero_left]; omega
  · exact Nat.lt_of_le_of_lt (Nat.gcd_le_left _ h0) (by omega)
end
end
section
open Go.RowKit

/-- An integer as a row holds it. -/
structure ZE1 where
  g : Bool
  A : Option Addr
  c : Nat
  xs : List Nat
  z : Int
/-- A row reads as integers that are held. -/
def ZL (w : World) (K : Nat) (A : Option Addr) (l : List ZE1) : Prop := ∀ k (_ : k < l.length), ∃ b off, A = some ⟨b, off, none⟩ ∧ b < w.heap.size ∧ w.cell? ⟨b, off + k * 2, none⟩ = some (.bool l[k].g) ∧ w.cell? ⟨b, off + k * 2 + 1, none⟩ = some (.slice l[k].A l[k].xs.length l[k].c) ∧ Zh w l[k].g l[k].A l[k].c l[k].xs l[k].z K
theorem ZL.next {w w' : World} {K : Nat} {A : Option Addr} {l : List ZE1} (h : ZL w K A l) (hb : Below w.heap.size w w') : ZL w' K A l := fun k hk => by
  obtain ⟨b, off, e, hlt, h0, h1, hz⟩ := h k hk
  exact ⟨b, off, e, Nat.lt_of_lt_of_le hlt hb.size, (hb.cell (p := ⟨b, _, none⟩) hlt).trans h0, (hb.cell (p := ⟨b, _, none⟩) hlt).trans h1, hz.next hb⟩
/-- The greatest common divisor of a row's first k numbers. -/
def gcdTo (l : List ZE1) (k : Nat) : Nat := (l.take k).foldl (fun n e => Nat.gcd n e.z.natAbs) 0
theorem gcdTo_step {l : List ZE1} {k : Nat} (h : k < l.length) : gcdTo l (k + 1) = Nat.gcd (gcdTo l k) l[k].z.natAbs := by
  unfold gcdTo
  rw [List.take_succ_eq_append_getElem h, List.foldl_append]
  rfl
theorem gcd_one_fold (l : List ZE1) : l.foldl (fun n e => Nat.gcd n e.z.natAbs) 1 = 1 := by
  induction l with
  | nil => rfl
  | cons a l ih => rw [List.foldl_cons, Nat.gcd_one_left, ih]
theorem gcdTo_one {l : List ZE1} {k : Nat} (h : gcdTo l k = 1) : gcdTo l l.length = 1 := by
  have e : l = l.take k ++ l.drop k := (List.take_append_drop k l).symm
  unfold gcdTo at h ⊢
  rw [List.take_length]
  rw [e, List.foldl_append, h, gcd_one_fold]
theorem gcdTo_lt {w : World} {K : Nat} {A : Option Addr} {l : List ZE1} (h : ZL w K A l) (hK : 0 < 4294967296 ^ K) : ∀ k, k ≤ l.length → gcdTo l k < 4294967296 ^ K := by
  intro k
  induction k with
  | zero => intro _; exact hK
  | succ k ih =>
    intro hk
    rw [gcdTo_step (by omega)]
    obtain ⟨_, _, _, _, _, _, hz⟩ := h k (by omega)
    rcases Nat.eq_zero_or_pos l[k].z.natAbs with h0 | h0
    · rw [h0, Nat.gcd_zero_right]; exact ih (by omega)
    · exact Nat.lt_of_le_of_lt (Nat.gcd_le_right _ h0) hz.lt
theorem bits_one (n : Nat) : bitsOf n = 1 ↔ n = 1 := by
  rcases Nat.lt_or_ge n 2 with h | h
  · have : n = 0 ∨ n = 1 := by omega
    rcases this with rfl | rfl
    · exact ⟨fun e => by revert e; decide, fun e => by omega⟩
    · exact ⟨fun _ => rfl, fun _ => by decide⟩
  · have h1 := bitsOf_half n (by omega)
    have h2 := bitsOf_half (n / 2) (by omega)
    omega

section
variable {w : World} {A A2 : Option Addr} {c c2 n k K J : Nat} {xs ys : List Nat}
theorem Hv.gcdN (h : Hv w A c xs n K) (h2 : Hv w A2 c2 ys k J) (hK : K ≤ 67108864) (hJ : J ≤ 67108864) (hT : Tab64 w) (hTB : 1 < w.heap.size) :
    Calls Tryz.prog 31 #[.slice A xs.length c, .slice A2 ys.length c2] w fun e w' => NOut w w' (Nat.gcd n k) e := by
  have hl1 := h.len
  have hl2 := h2.len
  have h9 := gcd_any A A2 c c2 xs ys w w.heap.size h.rd h2.rd (Nat.le_refl _) h.dig h2.dig h.cap h2.cap (by omega) (by omega) hT hTB
  rw [h.val_, h2.val_] at h9
  refine h9.mono ?_
  rintro e w' ⟨zs, A', c', rfl, hz, hr, hb⟩
  exact ⟨zs, A', c', rfl, hz, hr, hb⟩
end

set_option maxHeartbeats 6400000 in
theorem zgcd_any {w : World} {K : Nat} {A : Option Addr} {c : Nat} (l : List ZE1) (h : ZL w K A l) (hK : K ≤ 67108864) (hlen : l.length ≤ 281474976710656) (hT : Tab64 w) (hTB : 1 < w.heap.size) :
    Calls Tryz.prog 15 #[.slice A l.length c] w fun e w' => ZOut w w' (gcdTo l l.length : Nat) e := by
  have hlt := gcdTo_lt h (Nat.pow_pos (by omega))
  have HL := Lib.hid hlt
  have H := Lib.hid h
  have HT := Lib.hid hT
  have HTB := Lib.hid hTB
  have b2 := blk_one w (.bool false) (.slice none 0 0)
  have k0 := bel_one w (.cells #[.bool false, .slice none 0 0] 25)
  clear h hT hlt hTB
  go_enter Tryz.func15, Tryz.ntmps15
  go_wp2_with fail
  obtain ⟨w0, hw0⟩ : ∃ v, v = w.alloc (.cells #[.bool false, .slice none 0 0] 25) := ⟨_, rfl⟩
  rw [← hw0] at b2 k0 ⊢
  clear hw0
  go_loopw [3, 5, 8] (fun ov _ iv wr => ∃ (k : Nat) (zn : List Nat) (An : Option Addr) (cn : Nat), k ≤ l.length ∧ iv = .int .i64 (k : Int) ∧ ov = .slice An zn.length cn ∧ Num 4294967296 zn (gcdTo l k) ∧ Res wr w.heap.size 28 An cn (u32s zn) ∧ Blk wr w.heap.size 25 [.bool false, .slice none 0 0] ∧ Below w.heap.size w wr) (fun _ _ iv _ => l.length - (intOf iv).toNat)
  case atStart => exact ⟨0, [], none, 0, Nat.zero_le _, rfl, rfl, Num.zero_ _, Res.none_, b2, k0⟩
  case round =>
    obtain ⟨k, zn, An, cn, hk, rfl, rfl, hn, hr, b2r, hbel⟩ := hrel
    clear b2 k0
    by_cases hlt : k < l.length
    · obtain ⟨b, off, rfl, hbw, h0, h1, hz⟩ := H.out k hlt
      have hx0 := (hbel.cell (p := ⟨b, off + k * 2, none⟩) hbw).trans h0
      have hx1 := (hbel.cell (p := ⟨b, off + k * 2 + 1, none⟩) hbw).trans h1
      have hz9 := hz.next hbel
      obtain ⟨m, hm⟩ : ∃ m, m = gcdTo l (k + 1) := ⟨_, rfl⟩
      have hml : m < 4294967296 ^ K := by rw [hm]; exact HL.out _ (by omega)
      have GC : Hid (∀ W (_ : Below wr.heap.size wr W), Calls Tryz.prog 31 #[.slice An zn.length cn, .slice l[k].A l[k].xs.length l[k].c] W fun e w' => NOut W w' m e) := fun W hW => by
        rw [hm, gcdTo_step hlt]
        have hw := HTB.out
        have hW2 := bst hbel hW (Nat.le_refl _)
        exact Hv.gcdN ((Hv.of (K := K) hn hr (HL.out k hk)).next hW) (hz9.hv.next hW) hK hK (HT.out.below hW2 hw) (Nat.lt_of_lt_of_le hw hW2.size)
      have Hm := Lib.hid hm
      have HB2 := Lib.hid b2r
      have KB := Lib.hid hbel
      obtain ⟨eg, heg⟩ : ∃ v, v = l[k].g := ⟨_, rfl⟩
      obtain ⟨eA, heA⟩ : ∃ v, v = l[k].A := ⟨_, rfl⟩
      obtain ⟨exs, hexs⟩ : ∃ v, v = l[k].xs := ⟨_, rfl⟩
      obtain ⟨ec, hec⟩ : ∃ v, v = l[k].c := ⟨_, rfl⟩
      rw [← heg] at hx0
      rw [← heA, ← hexs, ← hec] at hx1
      rw [← heA, ← hexs, ← hec] at GC
      clear hn hr b2r hbel h0 h1 hz hz9 hm heg heA hexs hec
      go_wp2_with fail
      refine (GC.out _ (bel_one _ _)).mono ?_
      rintro e w1 ⟨zs, As, cs, rfl, hzs, hrs, hb1⟩
      have j1 : Below wr.heap.size wr w1 := bst (bel_one _ _) hb1 (Nat.le_refl _)
      have k1 := bst KB.out j1 (Nat.le_refl _)
      have b2 := HB2.out.below j1 HB2.out.lt
      have rs : Res w1 w.heap.size 28 As cs (u32s zs) := hrs.mono (by have := KB.out.size; simp; omega)
      obtain ⟨bt, hbt⟩ : ∃ v, v = bitsOf m := ⟨_, rfl⟩
      have LN : Hid (Calls Tryz.prog 32 #[.slice As zs.length cs] w1 fun e w' => e = .returned (.int .i64 (bt : Nat)) ∧ w1 = w') := by
        rw [hbt]
        exact (Hv.of (K := K) hzs hrs hml).nlen hK
      have Hbt := Lib.hid hbt
      clear GC hx0 hx1 hb1 hrs hbt HB2
      go_wp2_with fail
      refine LN.out.mono ?_
      rintro e w9 ⟨rfl, rfl⟩
      by_cases hb9 : bt = 1
      · subst hb9
        have e1 : gcdTo l l.length = m := by
          have h1 : m = 1 := (bits_one m).1 Hbt.out.symm
          rw [h1]
          exact gcdTo_one (by rw [← Hm.out]; exact h1)
        clear Hbt LN
        go_wp2_with fail
        refine (made_num false (m : Int) hzs rfl w1 (res_len rs)).mono ?_
        rintro e wm ⟨rfl, hbm⟩
        have bm := b2.below hbm b2.lt
        obtain ⟨q0, q1, q2, q3⟩ := bm.two
        go_wp2_with fail
        rw [e1]
        exact zretT (z := (m : Int)) (bst k1 hbm (Nat.le_refl _)) bm (Nat.le_refl _) (num_eq hzs (Int.natAbs_natCast _).symm) (rs.below hbm (Nat.le_refl _)) rfl rfl rfl rfl
      · have hb8 : decide (bt = 1) = false := decide_eq_false hb9
        clear Hbt LN
        go_wp2_with fail
        go_roundw
        case rel => exact ⟨k + 1, zs, As, cs, by omega, by go_num, rfl, by rw [← Hm.out]; exact hzs, rs, b2, k1⟩
        case measure => simp [intOf]; omega
    · obtain rfl : k = l.length := by omega
      have HB2 := Lib.hid b2r
      have KB := Lib.hid hbel
      obtain ⟨m, hm⟩ : ∃ m, m = gcdTo l l.length := ⟨_, rfl⟩
      rw [← hm] at hn
      have Hm := Lib.hid hm
      clear hm hlt hk b2r hbel
      go_wp2_with fail
      refine (made_num false (m : Int) hn rfl wr (res_len hr)).mono ?_
      rintro e wm ⟨rfl, hbm⟩
      have bm := HB2.out.below hbm HB2.out.lt
      obtain ⟨q0, q1, q2, q3⟩ := bm.two
      go_wp2_with fail
      rw [← Hm.out]
      exact zretT (z := (m : Int)) (bst KB.out hbm (Nat.le_refl _)) bm (Nat.le_refl _) (num_eq hn (Int.natAbs_natCast _).symm) (hr.below hbm (Nat.le_refl _)) rfl rfl rfl rfl
end
section
open Go.RowKit

theorem Bases.next {w w' : World} (h : Bases w) (hb : Below w.heap.size w w') (hB : 0 < w.heap.size) : Bases w' :=
  ⟨(hb.cell (p := ⟨_, 0, none⟩) hB).trans h.1, (hb.cell (p := ⟨_, 1, none⟩) hB).trans h.2.1, (hb.cell (p := ⟨_, 2, none⟩) hB).trans h.2.2⟩
theorem Blk.four {w : World} {g : Nat} {t : TypeId} {a b c d : Value} (h : Blk w g t [a, b, c, d]) : w.cell? ⟨g, 0, none⟩ = some a ∧ w.cell? ⟨g, 1, none⟩ = some b ∧ w.cell? ⟨g, 2, none⟩ = some c ∧ w.cell? ⟨g, 3, none⟩ = some d ∧ w.frozen? ⟨g, 0, none⟩ = false ∧ w.frozen? ⟨g, 1, none⟩ = false ∧ w.frozen? ⟨g, 2, none⟩ = false ∧ w.frozen? ⟨g, 3, none⟩ = false :=
  ⟨h.cell 0, h.cell 1, h.cell 2, h.cell 3, h.frozen 0, h.frozen 1, h.frozen 2, h.frozen 3⟩
theorem gcd_pair (e1 e2 : ZE1) : gcdTo [e1, e2] 2 = Int.gcd e1.z e2.z := by
  unfold gcdTo
  simp only [List.take, List.foldl, Nat.gcd_zero_left]
  rfl
section
variable {w : World} {g g2 : Bool} {A A2 : Option Addr} {c c2 K : Nat} {xs ys : List Nat} {z y : Int}
/-- Two integers in a row that was laid just now. -/
theorem zl_pair {W : World} (h : Zh w g A c xs z K) (h2 : Zh w g2 A2 c2 ys y K) (hW : Below w.heap.size w W) {b : Nat} (hb : Blk W b 25 [.bool g, .slice A xs.length c, .bool g2, .slice A2 ys.length c2]) :
    ZL W K (some ⟨b, 0, none⟩) [⟨g, A, c, xs, z⟩, ⟨g2, A2, c2, ys, y⟩] := fun k hk => by
  match k, hk with
  | 0, _ => exact ⟨b, 0, rfl, hb.lt, hb.cell 0, hb.cell 1, h.next hW⟩
  | 1, _ => exact ⟨b, 0, rfl, hb.lt, hb.cell 2, hb.cell 3, h2.next hW⟩
theorem zgcd_pair {W : World} (h : Zh w g A c xs z K) (h2 : Zh w g2 A2 c2 ys y K) (hK : K ≤ 67108864) (hW : Below w.heap.size w W) {b : Nat} (hb : Blk W b 25 [.bool g, .slice A xs.length c, .bool g2, .slice A2 ys.length c2]) (hT : Tab64 W) (hTB : 1 < W.heap.size) :
    Calls Tryz.prog 15 #[.slice (some ⟨b, 0, none⟩) 2 2] W fun e w' => ZOut W w' (Int.gcd z y : Nat) e := by
  have h9 := zgcd_any (c := 2) [⟨g, A, c, xs, z⟩, ⟨g2, A2, c2, ys, y⟩] (zl_pair h h2 hW hb) hK (by simp) hT hTB
  have e : gcdTo [⟨g, A, c, xs, z⟩, ⟨g2, A2, c2, ys, y⟩] [(⟨g, A, c, xs, z⟩ : ZE1), ⟨g2, A2, c2, ys, y⟩].length = Int.gcd z y := gcd_pair _ _
  rw [e] at h9
  exact h9
theorem zmod_nat (h : Zh w g A c xs z K) (hK : K ≤ 67108864) (p : Nat) (hp0 : 0 < p) (hp : p < 4294967296) :
    Calls Tryz.prog 13 #[.agg #[.bool g, .slice A xs.length c], .int .u32 (p : Int)] w fun e w' => e = .returned (.tuple #[.int .u32 (zmd p z : Nat), .int .i64 0]) ∧ Below w.heap.size w w' := by
  have h9 := zmod_any h hK p hp0 hp
  rwa [← zmd_cast hp0 z] at h9
theorem zof_no (p : Nat) (hp : ¬ Pr p) (hlt : p < 4294967296) (hw : Bases w) (hB : 0 < w.heap.size) :
    Calls Tryz.prog 4 #[.agg #[.bool g, .slice A xs.length c], .int .u32 (p : Int)] w fun e w' => e = .returned (.tuple #[.int .u32 0, .int .i64 40]) ∧ Below w.heap.size w w' := by
  have k0 := bel_one w (.cells #[.bool g, .slice A xs.length c] 25)
  have IS := Lib.hid (is_no p hp hlt _ (hw.next k0 hB))
  clear hp hw hB
  go_enter Tryz.func4, Tryz.ntmps4
  go_wp2_with fail
  refine IS.out.mono ?_
  rintro e w1 ⟨rfl, rfl⟩
  go_wp2_with fail
  go_ret2
  exact ⟨rfl, k0⟩
theorem zof_yes (h : Zh w g A c xs z K) (hK : K ≤ 67108864) (p : Nat) (hp : Pr p) (hlt : p < 4294967296) (hw : Bases w) (hB : 0 < w.heap.size) :
    Calls Tryz.prog 4 #[.agg #[.bool g, .slice A xs.length c], .int .u32 (p : Int)] w fun e w' => e = .returned (.tuple #[.int .u32 (zmd p z : Nat), .int .i64 0]) ∧ Below w.heap.size w w' := by
  have k0 := bel_one w (.cells #[.bool g, .slice A xs.length c] 25)
  have b0 := blk_one w (.bool g) (.slice A xs.length c)
  have IS := Lib.hid (is_yes p hp hlt _ (hw.next k0 hB))
  have MD := Lib.hid (zmod_nat (h.next k0) hK p (by have := hp.1; omega) hlt)
  obtain ⟨v, hv⟩ : ∃ v, v = zmd p z := ⟨_, rfl⟩
  rw [← hv] at MD ⊢
  clear hp hw hB h hv
  obtain ⟨p0, p1, _, _⟩ := b0.two
  go_enter Tryz.func4, Tryz.ntmps4
  go_wp2_with fail
  refine IS.out.mono ?_
  rintro e w1 ⟨rfl, rfl⟩
  go_wp2_with fail
  refine MD.out.mono ?_
  rintro e w2 ⟨rfl, hb2⟩
  go_wp2_with fail
  go_ret2
  exact ⟨rfl, bst k0 hb2 (Nat.le_refl _)⟩
theorem rzof_mod (h : Zh w g A c xs z K) (hK : K ≤ 67108863) (p : Nat) (hp0 : 0 < p) (hlt : p < 4294967296) :
    Calls Tryz.prog 9 #[.agg #[.bool g, .slice A xs.length c], .int .u32 (p : Int)] w fun e w' => e = .returned (.int .u32 (zmd p z : Nat)) ∧ Below w.heap.size w w' := by
  have k0 := bel_one w (.cells #[.bool g, .slice A xs.length c] 25)
  have b0 := blk_one w (.bool g) (.slice A xs.length c)
  have MD := Lib.hid ((h.next k0).rmod hK p hp0 hlt)
  rw [← zmd_cast hp0 z] at MD
  obtain ⟨v, hv⟩ : ∃ v, v = zmd p z := ⟨_, rfl⟩
  rw [← hv] at MD ⊢
  clear h hv
  obtain ⟨p0, p1, _, _⟩ := b0.two
  go_enter Tryz.func9, Tryz.ntmps9
  go_wp2_with fail
  refine MD.out.mono ?_
  rintro e w2 ⟨rfl, hb2⟩
  go_wp2_with fail
  go_ret
  exact ⟨rfl, bst k0 hb2 (Nat.le_refl _)⟩
end
end
end Go.Proofs.YtcfalkcceanldaaGreatDoor
