/- The contracts of zint's sums, products and forms. No conditions beyond the sizes. Limbs lie apart from variables that hold integers: their blocks are of another type; the blocks of a call's own variables. No conditions. The contract of the reference's half. Conditions: limbs. The contract of the reference's Len. -/
import Derived.Test.YtcfalkcceanldaaGreatDoorPkPo28
import Derived.Deep.RegionHeld3
import Derived.Test.YtcfalkcceanldaaGreatDoorPkPo19
import Derived.Test.YtcfalkcceanldaaGreatDoorPkPo18
import Derived.Test.YtcfalkcceanldaaGreatDoorPkPo17
namespace Go.Proofs.YtcfalkcceanldaaGreatDoor
section
open Go.RowKit

section
variable {w : World} {g g2 : Bool} {A A2 : Option Addr} {c c2 K J : Nat} {xs ys : List Nat} {z y : Int}




end
/-- What tells whether an integer is nought. -/
theorem Hv.bits0 {w : World} {A : Option Addr} {c n K : Nat} {xs : List Nat} (h : Hv w A c xs n K) (hK : K ≤ 67108864) : Calls Tryz.prog 32 #[.slice A xs.length c] w fun e w' => e = .returned (.int .i64 (bitsOf n : Nat)) ∧ w = w' := h.nlen hK
theorem bits_zero (n : Nat) : (((bitsOf n : Nat) : Int) == 0) = decide (n = 0) := by
  rcases Nat.eq_zero_or_pos n with h | h
  · subst h; rfl
  · have h1 : bitsOf n ≠ 0 := by unfold bitsOf; rw [if_neg (by omega)]; omega
    have h2 : ¬ n = 0 := by omega
    rw [decide_eq_false h2]
    simpa using h1
section
variable {w w' : World} {g g2 : Bool} {A A2 : Option Addr} {c c2 K J : Nat} {xs ys : List Nat} {z y : Int}
set_option maxHeartbeats 800000 in
theorem Zh.isZero (h : Zh w g A c xs z K) (hK : K ≤ 67108864) : Calls Tryz.prog 30 #[.agg #[.bool g, .slice A xs.length c]] w fun e w' => e = .returned (.bool (decide (z = 0))) ∧ Below w.heap.size w w' := by
  have L1 := Lib.hid (fun W (hW : Below w.heap.size w W) => (h.hv.next hW).nlen hK)
  have e1 := bits_zero z.natAbs
  have e2 : decide (z.natAbs = 0) = decide (z = 0) := decide_eq_decide.2 (by omega)
  rw [e2] at e1
  obtain ⟨v, hv⟩ : ∃ v, v = decide (z = 0) := ⟨_, rfl⟩
  obtain ⟨b, hb⟩ : ∃ b, b = bitsOf z.natAbs := ⟨_, rfl⟩
  rw [← hb] at L1 e1
  rw [← hv] at e1 ⊢
  clear h hv hb e2
  go_enter Tryz.func30, Tryz.ntmps30
  go_wp2_with fail
  refine (L1.out _ (bel_one _ _)).mono ?_
  rintro e w1 ⟨rfl, rfl⟩
  go_wp2_with (simp only [])
  go_ret
  exact ⟨rfl, bel_one _ _⟩
end
end
section
open Go.RowKit

theorem type_ne : 28 ≠ 25 := by decide
/-- A store into a variable that holds an integer leaves the limbs alone: they lie in blocks of another type. -/
theorem res_var {W : World} {B g i : Nat} {A : Option Addr} {c : Nat} {vs L : List Value} (h : Res W B 28 A c vs) (hB : Blk W g 25 L) (u : Value) : Res (W.setCell ⟨g, i, none⟩ u) B 28 A c vs :=
  ⟨h.1, h.2.1, fun hn => by
    obtain ⟨b, rest, e, hb, hk, hc⟩ := h.2.2 hn
    refine ⟨b, rest, e, hb, hk.far (p := ⟨g, i, none⟩) ?_ _, hc⟩
    rintro rfl
    unfold Blk at hk hB
    rw [hk] at hB
    have hB2 := Option.some.inj hB
    injection hB2 with _ e2 _
    exact type_ne e2⟩
theorem res_var2 {W : World} {B g : Nat} {A : Option Addr} {c : Nat} {vs : List Value} {x y : Value} (h : Res W B 28 A c vs) (hB : Blk W g 25 [x, y]) (u v : Value) : Res ((W.setCell ⟨g, 0, none⟩ u).setCell ⟨g, 1, none⟩ v) B 28 A c vs :=
  res_var (res_var h hB u) (hB.set_ 0 u) v
theorem bel_four (w : World) (o o2 o3 o4 : Obj) : Below w.heap.size w ((((w.alloc o).alloc o2).alloc o3).alloc o4) := bal (bel_three w o o2 o3) (Nat.le_refl _) o4
theorem blk_four (w : World) (x0 y0 x1 y1 x2 y2 x3 y3 : Value) :
    Blk ((((w.alloc (.cells #[x0, y0] 25)).alloc (.cells #[x1, y1] 25)).alloc (.cells #[x2, y2] 25)).alloc (.cells #[x3, y3] 25)) w.heap.size 25 [x0, y0] ∧
    Blk ((((w.alloc (.cells #[x0, y0] 25)).alloc (.cells #[x1, y1] 25)).alloc (.cells #[x2, y2] 25)).alloc (.cells #[x3, y3] 25)) (w.heap.size + 1) 25 [x1, y1] ∧
    Blk ((((w.alloc (.cells #[x0, y0] 25)).alloc (.cells #[x1, y1] 25)).alloc (.cells #[x2, y2] 25)).alloc (.cells #[x3, y3] 25)) (w.heap.size + 2) 25 [x2, y2] ∧
    Blk ((((w.alloc (.cells #[x0, y0] 25)).alloc (.cells #[x1, y1] 25)).alloc (.cells #[x2, y2] 25)).alloc (.cells #[x3, y3] 25)) (w.heap.size + 3) 25 [x3, y3] := by
  refine ⟨((((Blk.new_ (cs := #[x0, y0]) (vs := [x0, y0]) rfl).heapAlloc _).heapAlloc _).heapAlloc _), ((blk_res1 w _ x1 y1).heapAlloc _).heapAlloc _, (blk_res2 w _ _ x2 y2).heapAlloc _, ?_⟩
  have h := Blk.new_ (w := ((w.alloc (.cells #[x0, y0] 25)).alloc (.cells #[x1, y1] 25)).alloc (.cells #[x2, y2] 25)) (t := 25) (cs := #[x3, y3]) (vs := [x3, y3]) rfl
  simpa using h
theorem blk_three (w : World) (x0 y0 x1 y1 x2 y2 : Value) :
    Blk (((w.alloc (.cells #[x0, y0] 25)).alloc (.cells #[x1, y1] 25)).alloc (.cells #[x2, y2] 25)) w.heap.size 25 [x0, y0] ∧
    Blk (((w.alloc (.cells #[x0, y0] 25)).alloc (.cells #[x1, y1] 25)).alloc (.cells #[x2, y2] 25)) (w.heap.size + 1) 25 [x1, y1] ∧
    Blk (((w.alloc (.cells #[x0, y0] 25)).alloc (.cells #[x1, y1] 25)).alloc (.cells #[x2, y2] 25)) (w.heap.size + 2) 25 [x2, y2] :=
  ⟨(((Blk.new_ (cs := #[x0, y0]) (vs := [x0, y0]) rfl).heapAlloc _).heapAlloc _), (blk_res1 w _ x1 y1).heapAlloc _, blk_res2 w _ _ x2 y2⟩
theorem blk_pair2 (w : World) (x0 y0 x1 y1 : Value) :
    Blk ((w.alloc (.cells #[x0, y0] 25)).alloc (.cells #[x1, y1] 25)) w.heap.size 25 [x0, y0] ∧
    Blk ((w.alloc (.cells #[x0, y0] 25)).alloc (.cells #[x1, y1] 25)) (w.heap.size + 1) 25 [x1, y1] :=
  ⟨(Blk.new_ (cs := #[x0, y0]) (vs := [x0, y0]) rfl).heapAlloc _, blk_res1 w _ x1 y1⟩
theorem blk_one (w : World) (x0 y0 : Value) : Blk (w.alloc (.cells #[x0, y0] 25)) w.heap.size 25 [x0, y0] := Blk.new_ (cs := #[x0, y0]) (vs := [x0, y0]) rfl

/-- The function answers an integer that lies in a variable of its own. -/
theorem zretT {fn : Func} {a : Act} {w W : World} {p : Tmp} {r : Nat} {b : Bool} {x y : Value} {z : Int} {zs : List Nat} {A : Option Addr} {c : Nat} (hbel : Below w.heap.size w W) (hB : Blk W r 25 [x, y]) (hr : w.heap.size ≤ r)
    (hz : Num 4294967296 zs z.natAbs) (hres : Res W w.heap.size 28 A c (u32s zs)) (hb : b = isNeg z) (hres0 : fn.results = #[.cell p 25]) (hp : a.tmps.getD p undef = .pointer (some ⟨r, 0, none⟩)) (hd : a.defers = []) :
    bodyPost Tryz.prog fn (fun e w' => ZOut w w' z e) .ret a ((W.setCell ⟨r, 0, none⟩ (.bool b)).setCell ⟨r, 1, none⟩ (.slice A zs.length c)) := by
  subst hb
  exact bodyPost_ret (results_cell_row hres0 _ _ r 25 _ (0, 0) _ hp (blk_pair hB _ _) Tryz.underlying25 rfl (by kernel_rfl)) hd
    ⟨zs, A, c, rfl, hz, res_var2 hres hB _ _, bsc (bsc hbel hr _) hr _⟩

/-- A variable that holds an integer, in memory from block B on. -/
def Vr (B : Nat) (w : World) (g : Nat) (z : Int) (K : Nat) : Prop :=
  ∃ A c zs, Blk w g 25 [.bool (isNeg z), .slice A zs.length c] ∧ Num 4294967296 zs z.natAbs ∧ Res w B 28 A c (u32s zs) ∧ zs.length ≤ K
theorem Vr.next {B g K : Nat} {w w' : World} {z : Int} (v : Vr B w g z K) (hb : Below w.heap.size w w') : Vr B w' g z K := by
  obtain ⟨A, c, zs, hk, hz, hr, hl⟩ := v
  exact ⟨A, c, zs, hk.below hb hk.lt, hz, hr.below hb (Nat.le_refl _), hl⟩
theorem Vr.lt {B g K : Nat} {w : World} {z : Int} (v : Vr B w g z K) : g < w.heap.size := by
  obtain ⟨A, c, zs, hk, _⟩ := v
  exact hk.lt
theorem Vr.other {B g h K : Nat} {w : World} {z : Int} {x y : Value} (v : Vr B w g z K) (hh : Blk w h 25 [x, y]) (hne : g ≠ h) (x' y' : Value) : Vr B ((w.setCell ⟨h, 0, none⟩ x').setCell ⟨h, 1, none⟩ y') g z K := by
  obtain ⟨A, c, zs, hk, hz, hr, hl⟩ := v
  exact ⟨A, c, zs, (hk.far (p := ⟨h, 0, none⟩) hne _).far (p := ⟨h, 1, none⟩) hne _, hz, res_var2 hr hh _ _, hl⟩
theorem Vr.put {B g K : Nat} {w : World} {z : Int} {x y : Value} {A : Option Addr} {c : Nat} {zs : List Nat} (hk : Blk w g 25 [x, y]) (hz : Num 4294967296 zs z.natAbs) (hr : Res w B 28 A c (u32s zs)) (hl : zs.length ≤ K) :
    Vr B ((w.setCell ⟨g, 0, none⟩ (.bool (isNeg z))).setCell ⟨g, 1, none⟩ (.slice A zs.length c)) g z K := ⟨A, c, zs, blk_pair hk _ _, hz, res_var2 hr hk _ _, hl⟩
end
section
open Go.RowKit

def Halved (xs : List Nat) (k : Nat) (zs : List Nat) : Prop :=
  Dig 4294967296 zs ∧ 2 * val 4294967296 zs + at0 xs 0 % 2 = val 4294967296 (xs.take k) + 4294967296 ^ k * (at0 xs k % 2) ∧ ∀ j (h : j < zs.length), k ≤ j → zs[j] = 0
theorem Halved.start (xs : List Nat) (n : Nat) : Halved xs 0 (List.replicate n 0) :=
  ⟨Dig.zeros_ (by omega) _, by simp [val_zeros, val], fun j h _ => by simp⟩
theorem Halved.step {xs zs : List Nat} {k v : Nat} (h : Halved xs k zs) (hz : k < zs.length) (hd : Dig 4294967296 xs) (hv : v = at0 xs k / 2 + at0 xs (k + 1) % 2 * 2147483648) : Halved xs (k + 1) (zs.set k v) := by
  obtain ⟨h1, h2, h3⟩ := h
  have ha := at0_lt hd k
  refine ⟨h1.set_ _ _ (by omega), ?_, fun i hi hki => ?_⟩
  · have e1 := val_set 4294967296 zs k v hz
    rw [h3 k hz (Nat.le_refl _)] at e1
    rw [val_take_at0, Nat.pow_succ, Nat.mul_assoc]
    have e2 : 2 * v + at0 xs k % 2 = at0 xs k + 4294967296 * (at0 xs (k + 1) % 2) := by omega
    have e3 : 4294967296 ^ k * (2 * v + at0 xs k % 2) = 4294967296 ^ k * (at0 xs k + 4294967296 * (at0 xs (k + 1) % 2)) := by rw [e2]
    rw [Nat.mul_add, Nat.mul_add, Nat.mul_left_comm] at e3
    omega
  · rw [List.getElem_set, if_neg (by omega)]
    exact h3 i (by simpa using hi) (by omega)
theorem Halved.last {xs zs : List Nat} (h : Halved xs xs.length zs) : val 4294967296 zs = val 4294967296 xs / 2 := by
  have h2 := h.2.1
  rw [List.take_length, at0_out (Nat.le_refl _)] at h2
  have : at0 xs 0 % 2 < 2 := Nat.mod_lt _ (by omega)
  omega

set_option maxHeartbeats 800000 in
theorem rhalf_any (A : Option Addr) (c : Nat) (xs : List Nat) (w : World) (B : Nat) (hr : Rd w B A (u32s xs)) (hB : B ≤ w.heap.size) (hd : Dig 4294967296 xs) (hm : xs.length ≤ 70368744170000) :
    Calls Tryz.prog 63 #[.slice A xs.length c] w fun e w' => ∃ zs A' c', e = .returned (.slice A' zs.length c') ∧ Num 4294967296 zs (val 4294967296 xs / 2) ∧ Res w' w.heap.size 28 A' c' (u32s zs) ∧ Below w.heap.size w w' := by
  have hmk := fun W => mk32 xs.length (by omega) W
  go_enter Tryz.func63, Tryz.ntmps63
  go_wp2
  go_loopw [4, 10] (fun _ i wr => ∃ (k : Nat) (zs : List Nat), k ≤ xs.length ∧ i = .int .i64 k ∧ zs.length = xs.length ∧ Blk wr w.heap.size 28 (u32s zs) ∧ Halved xs k zs ∧ Below w.heap.size w wr) (fun _ i _ => xs.length - (intOf i).toNat)
  case atStart => exact ⟨0, List.replicate xs.length 0, by omega, rfl, by simp, Blk.new_ (by simp [u32s]), Halved.start _ _, (Below.refl _ _).alloc (Nat.le_refl _) _⟩
  case round =>
    obtain ⟨k, zs, hk, rfl, hzl, hblk, hsm, hbel⟩ := hrel
    by_cases hlt : k < xs.length
    · have hkz : k < zs.length := by omega
      have Hzl := Lib.hid hzl
      clear hzl
      have hc2 := (hblk.cell k).trans (u32s_at hkz)
      have hf2 := hblk.frozen k
      have ha := at0_lt hd k
      have ha2 := at0_lt hd (k + 1)
      have hrw := hr.below (hbel.mono hB)
      obtain ⟨v, hv⟩ : ∃ v, v = at0 xs k / 2 + at0 xs (k + 1) % 2 * 2147483648 := ⟨_, rfl⟩
      have hst := hsm.step hkz hd hv
      have L1 := Lib.hid (limb_any A c xs k wr _ hrw hd (by omega) (by omega))
      have L2 : Hid (Calls Tryz.prog 83 #[.slice A xs.length c, .int .i64 ((k : Int) + 1)] wr fun e w' => e = .returned (.int .u64 (at0 xs (k + 1) : Nat)) ∧ wr = w') := by
        have := limb_any A c xs (k + 1) wr _ hrw hd (by omega) (by omega)
        rwa [show ((k + 1 : Nat) : Int) = (k : Int) + 1 from by omega] at this
      obtain ⟨y, hy⟩ : ∃ y, y = at0 xs k := ⟨_, rfl⟩
      obtain ⟨z, hz⟩ : ∃ z, z = at0 xs (k + 1) := ⟨_, rfl⟩
      rw [← hy] at L1 hv ha
      rw [← hz] at L2 hv ha2
      have hvb : v < 4294967296 := by omega
      have E1 : Hid ((y : Int) / 2 + (z : Int) % 2 * 2147483648 = (v : Int)) := by show (y : Int) / 2 + (z : Int) % 2 * 2147483648 = (v : Int); omega
      have Hst := Lib.hid hst
      clear hy hz hv hst hsm
      go_wp2_with (first
        | simp only [E1.out]
        | (go_at_call_of 83 (Value.slice A xs.length c); first | ((with_reducible refine L1.out.mono ?_); rintro e w' ⟨rfl, rfl⟩) | ((with_reducible refine L2.out.mono ?_); rintro e w' ⟨rfl, rfl⟩)))
      go_roundw
      case rel =>
        refine ⟨k + 1, zs.set k v, by omega, by go_num, by simpa using Hzl.out, ?_, Hst.out, hbel.setCell (p := ⟨w.heap.size, k, none⟩) (Nat.le_refl _) _⟩
        have hb2 := hblk.set_ k (Value.int IntKind.u32 (v : Int))
        rw [u32s_set] at hb2
        exact hb2
      case measure => simp [intOf]; omega
    · obtain rfl : k = xs.length := by omega
      have hrd := (Res.of_blk0 hblk (Nat.le_refl _) (by rw [u32s_length]; omega)).rd
      have Hv := Lib.hid hsm.last
      have Hzl := Lib.hid hzl
      have hzm : zs.length ≤ 70368744177664 := by omega
      clear hzl
      go_wp2_with (go_at_call 62; rw [← Hzl.out]; refine (rnorm_any _ _ zs wr _ hrd (Nat.le_refl _) hzm).mono ?_; rintro e w2 ⟨A', c', rfl, hres, hb⟩)
      go_ret
      refine ⟨trimL zs, A', c', rfl, ?_, hres.mono hbel.size, hbel.trans (hb.mono hbel.size)⟩
      rw [← Hv.out]
      exact Num.of_trim hsm.1
end
section
open Go.RowKit

theorem bitsOf_half (x : Nat) (h : 0 < x) : bitsOf x = bitsOf (x / 2) + 1 := by
  unfold bitsOf
  rw [if_neg (by omega)]
  by_cases h1 : x / 2 = 0
  · rw [if_pos h1]
    have : x = 1 := by omega
    subst this
    decide
  · rw [if_neg h1]
    have e : Nat.log2 x = Nat.log2 (x / 2) + 1 := by
      have a1 : Nat.log2 (x / 2) + 1 ≤ Nat.log2 x := by
        refine (Nat.le_log2 (by omega)).2 ?_
        have := (Nat.le_log2 h1).1 (Nat.le_refl _)
        rw [Nat.pow_succ]; omega
      have a2 : Nat.log2 x < Nat.log2 (x / 2) + 1 + 1 := by
        refine (Nat.log2_lt (by omega)).2 ?_
        have := (Nat.log2_lt h1).1 (Nat.lt_succ_self _)
        rw [Nat.pow_succ]; omega
      omega
    omega

end
end Go.Proofs.YtcfalkcceanldaaGreatDoor
