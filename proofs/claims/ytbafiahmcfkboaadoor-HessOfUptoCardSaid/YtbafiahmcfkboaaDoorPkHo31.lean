/- The contracts of the reference's operations on sizes that are held. Conditions: at most 2^26 limbs. The contracts of zint's sums, products and forms. No conditions beyond the sizes. Limbs lie apart from variables that hold integers: their blocks are of another type; the blocks of a call's own variables. No conditions. The contract of the reference's half. Conditions: limbs. The contract of the reference's Len. The contract of the reference's Left. The numbers behind the greatest common divisor. No conditions of its own. -/
import Derived.Test.YtbafiahmcfkboaaDoorPkHo30
import Derived.Test.YtbafiahmcfkboaaDoorPkHo24
import Derived.Deep.RegionHeld3
import Derived.Test.YtbafiahmcfkboaaDoorPkHo23
import Derived.Deep.RegionLaw
import Derived.Deep.DeepCutAuto
import Derived.Test.YtbafiahmcfkboaaDoorPkHo28
import Derived.Shelf.Spec.TrailingZeros
namespace Go.Proofs.YtbafiahmcfkboaaDoor
section
open Go.RowKit

section
variable {w w' : World} {A A2 : Option Addr} {c c2 n k K J : Nat} {xs ys : List Nat}
theorem Hv.rnorm (h : Hv w A c xs n K) (hK : K ≤ 67108864) : Calls Tryd.prog 76 #[.slice A xs.length c] w fun e w' => NOut w w' n e := by
  have hl1 := h.len
  refine (rnorm_any A c xs w w.heap.size h.rd (Nat.le_refl _) (by omega)).mono ?_
  rintro e w' ⟨A', c', rfl, hr, hb⟩
  exact ⟨_, A', c', rfl, by rw [← h.val_]; exact Num.of_trim h.dig, hr, hb⟩
theorem Hv.radd (h : Hv w A c xs n K) (h2 : Hv w A2 c2 ys k J) (hK : K ≤ 67108864) (hJ : J ≤ 67108864) : Calls Tryd.prog 82 #[.slice A xs.length c, .slice A2 ys.length c2] w fun e w' => NOut w w' (n + k) e := by
  have hl1 := h.len
  have hl2 := h2.len
  have h9 := radd_any9z A A2 c c2 xs ys w w.heap.size h.rd h2.rd (Nat.le_refl _) h.dig h2.dig (by omega) (by omega)
  rwa [h.val_, h2.val_] at h9
theorem Hv.rsub (h : Hv w A c xs n K) (h2 : Hv w A2 c2 ys k J) (hK : K ≤ 67108864) (hJ : J ≤ 67108864) (hle : k ≤ n) : Calls Tryd.prog 80 #[.slice A xs.length c, .slice A2 ys.length c2] w fun e w' => NOut w w' (n - k) e := by
  have hl1 := h.len
  have hl2 := h2.len
  have h9 := rsub_any9z A A2 c c2 xs ys w w.heap.size h.rd h2.rd (Nat.le_refl _) h.dig h2.dig (by omega) (by omega) (by rw [h.val_, h2.val_]; exact hle)
  rwa [h.val_, h2.val_] at h9
theorem Hv.rcmp (h : Hv w A c xs n K) (h2 : Hv w A2 c2 ys k J) (hK : K ≤ 67108864) (hJ : J ≤ 67108864) : Calls Tryd.prog 78 #[.slice A xs.length c, .slice A2 ys.length c2] w fun e w' => e = .returned (.int .i64 (cmpN n k)) ∧ w = w' := by
  have hl1 := h.len
  have hl2 := h2.len
  have h9 := rcmp_any A A2 c c2 xs ys w w.heap.size h.rd h2.rd h.dig h2.dig (by omega) (by omega)
  rwa [h.val_, h2.val_] at h9
/-- What a division answers. -/
def QOut (w w' : World) (n k : Nat) (e : Ending) : Prop := ∃ qs rs A1 c1 A3 c3, e = .returned (.tuple #[.slice A1 qs.length c1, .slice A3 rs.length c3]) ∧ Num 4294967296 qs (n / k) ∧ Num 4294967296 rs (n % k) ∧ Res9z w' w.heap.size 24 A1 c1 (u32s qs) ∧ Res9z w' w.heap.size 24 A3 c3 (u32s rs) ∧ Below w.heap.size w w'
theorem Hv.rdiv (h : Hv w A c xs n K) (h2 : Hv w A2 c2 ys k J) (hK : K ≤ 67108864) (hJ : J ≤ 67108864) (hk : 0 < k) : Calls Tryd.prog 53 #[.slice A xs.length c, .slice A2 ys.length c2] w fun e w' => QOut w w' n k e := by
  have hl1 := h.len
  have hl2 := h2.len
  have h9 := rdiv_any A A2 c c2 xs ys w w.heap.size h.rd h2.rd (Nat.le_refl _) h.dig h2.dig (by omega) (by omega) (by rw [h2.val_]; exact hk)
  rwa [h.val_, h2.val_] at h9
theorem Hv.rzero (h : Hv w A c xs n K) (hK : K ≤ 67108864) : Calls Tryd.prog 81 #[.slice A xs.length c] w fun e w' => e = .returned (.bool (decide (n = 0))) ∧ w = w' := by
  have hl1 := h.len
  have h9 := zero_any A c xs w w.heap.size h.rd (by omega)
  have e : decide (trimL xs = []) = decide (n = 0) := by
    have := (Num.of_trim h.dig).nil_iff (by omega)
    rw [h.val_] at this
    exact decide_eq_decide.2 this
  rwa [e] at h9
theorem rof_out (n : Nat) (h : n < 18446744073709551616) (w : World) : Calls Tryd.prog 59 #[.int .u64 (n : Int)] w fun e w' => NOut w w' n e := rof_any n h w
end
end
section
open Go.RowKit
end
section
open Go.RowKit

theorem type_ne : 24 ≠ 51 := by decide
/-- A store into a variable that holds an integer leaves the limbs alone: they lie in blocks of another type. -/
theorem res_var {W : World} {B g i : Nat} {A : Option Addr} {c : Nat} {vs L : List Value} (h : Res9z W B 24 A c vs) (hB : Blk W g 51 L) (u : Value) : Res9z (W.setCell ⟨g, i, none⟩ u) B 24 A c vs :=
  ⟨h.1, h.2.1, fun hn => by
    obtain ⟨b, rest, e, hb, hk, hc⟩ := h.2.2 hn
    refine ⟨b, rest, e, hb, hk.far (p := ⟨g, i, none⟩) ?_ _, hc⟩
    rintro rfl
    unfold Blk at hk hB
    rw [hk] at hB
    have hB2 := Option.some.inj hB
    injection hB2 with _ e2 _
    exact type_ne e2⟩
theorem res_var2 {W : World} {B g : Nat} {A : Option Addr} {c : Nat} {vs : List Value} {x y : Value} (h : Res9z W B 24 A c vs) (hB : Blk W g 51 [x, y]) (u v : Value) : Res9z ((W.setCell ⟨g, 0, none⟩ u).setCell ⟨g, 1, none⟩ v) B 24 A c vs :=
  res_var (res_var h hB u) (hB.set_ 0 u) v
theorem bel_four (w : World) (o o2 o3 o4 : Obj) : Below w.heap.size w ((((w.alloc o).alloc o2).alloc o3).alloc o4) := bal (bel_three w o o2 o3) (Nat.le_refl _) o4
theorem blk_four (w : World) (x0 y0 x1 y1 x2 y2 x3 y3 : Value) :
    Blk ((((w.alloc (.cells #[x0, y0] 51)).alloc (.cells #[x1, y1] 51)).alloc (.cells #[x2, y2] 51)).alloc (.cells #[x3, y3] 51)) w.heap.size 51 [x0, y0] ∧
    Blk ((((w.alloc (.cells #[x0, y0] 51)).alloc (.cells #[x1, y1] 51)).alloc (.cells #[x2, y2] 51)).alloc (.cells #[x3, y3] 51)) (w.heap.size + 1) 51 [x1, y1] ∧
    Blk ((((w.alloc (.cells #[x0, y0] 51)).alloc (.cells #[x1, y1] 51)).alloc (.cells #[x2, y2] 51)).alloc (.cells #[x3, y3] 51)) (w.heap.size + 2) 51 [x2, y2] ∧
    Blk ((((w.alloc (.cells #[x0, y0] 51)).alloc (.cells #[x1, y1] 51)).alloc (.cells #[x2, y2] 51)).alloc (.cells #[x3, y3] 51)) (w.heap.size + 3) 51 [x3, y3] := by
  refine ⟨((((Blk.new_ (cs := #[x0, y0]) (vs := [x0, y0]) rfl).heapAlloc _).heapAlloc _).heapAlloc _), ((blk_res1 w _ x1 y1).heapAlloc _).heapAlloc _, (blk_res2 w _ _ x2 y2).heapAlloc _, ?_⟩
  have h := Blk.new_ (w := ((w.alloc (.cells #[x0, y0] 51)).alloc (.cells #[x1, y1] 51)).alloc (.cells #[x2, y2] 51)) (t := 51) (cs := #[x3, y3]) (vs := [x3, y3]) rfl
  simpa using h
theorem blk_three (w : World) (x0 y0 x1 y1 x2 y2 : Value) :
    Blk (((w.alloc (.cells #[x0, y0] 51)).alloc (.cells #[x1, y1] 51)).alloc (.cells #[x2, y2] 51)) w.heap.size 51 [x0, y0] ∧
    Blk (((w.alloc (.cells #[x0, y0] 51)).alloc (.cells #[x1, y1] 51)).alloc (.cells #[x2, y2] 51)) (w.heap.size + 1) 51 [x1, y1] ∧
    Blk (((w.alloc (.cells #[x0, y0] 51)).alloc (.cells #[x1, y1] 51)).alloc (.cells #[x2, y2] 51)) (w.heap.size + 2) 51 [x2, y2] :=
  ⟨(((Blk.new_ (cs := #[x0, y0]) (vs := [x0, y0]) rfl).heapAlloc _).heapAlloc _), (blk_res1 w _ x1 y1).heapAlloc _, blk_res2 w _ _ x2 y2⟩
theorem blk_pair2 (w : World) (x0 y0 x1 y1 : Value) :
    Blk ((w.alloc (.cells #[x0, y0] 51)).alloc (.cells #[x1, y1] 51)) w.heap.size 51 [x0, y0] ∧
    Blk ((w.alloc (.cells #[x0, y0] 51)).alloc (.cells #[x1, y1] 51)) (w.heap.size + 1) 51 [x1, y1] :=
  ⟨(Blk.new_ (cs := #[x0, y0]) (vs := [x0, y0]) rfl).heapAlloc _, blk_res1 w _ x1 y1⟩
theorem blk_one (w : World) (x0 y0 : Value) : Blk (w.alloc (.cells #[x0, y0] 51)) w.heap.size 51 [x0, y0] := Blk.new_ (cs := #[x0, y0]) (vs := [x0, y0]) rfl

/-- The function answers an integer that lies in a variable of its own. -/
theorem zretT {fn : Func} {a : Act} {w W : World} {p : Tmp} {r : Nat} {b : Bool} {x y : Value} {z : Int} {zs : List Nat} {A : Option Addr} {c : Nat} (hbel : Below w.heap.size w W) (hB : Blk W r 51 [x, y]) (hr : w.heap.size ≤ r)
    (hz : Num 4294967296 zs z.natAbs) (hres : Res9z W w.heap.size 24 A c (u32s zs)) (hb : b = isNeg z) (hres0 : fn.results = #[.cell p 51]) (hp : a.tmps.getD p undef = .pointer (some ⟨r, 0, none⟩)) (hd : a.defers = []) :
    bodyPost Tryd.prog fn (fun e w' => ZOut w w' z e) .ret a ((W.setCell ⟨r, 0, none⟩ (.bool b)).setCell ⟨r, 1, none⟩ (.slice A zs.length c)) := by
  subst hb
  exact bodyPost_ret (results_cell_row hres0 _ _ r 51 _ (0, 0) _ hp (blk_pair hB _ _) Tryd.underlying51 rfl (by kernel_rfl)) hd
    ⟨zs, A, c, rfl, hz, res_var2 hres hB _ _, bsc (bsc hbel hr _) hr _⟩

/-- A variable that holds an integer, in memory from block B on. -/
def Vr (B : Nat) (w : World) (g : Nat) (z : Int) (K : Nat) : Prop :=
  ∃ A c zs, Blk w g 51 [.bool (isNeg z), .slice A zs.length c] ∧ Num 4294967296 zs z.natAbs ∧ Res9z w B 24 A c (u32s zs) ∧ zs.length ≤ K
theorem Vr.next {B g K : Nat} {w w' : World} {z : Int} (v : Vr B w g z K) (hb : Below w.heap.size w w') : Vr B w' g z K := by
  obtain ⟨A, c, zs, hk, hz, hr, hl⟩ := v
  exact ⟨A, c, zs, hk.below hb hk.lt, hz, hr.below hb (Nat.le_refl _), hl⟩
theorem Vr.lt {B g K : Nat} {w : World} {z : Int} (v : Vr B w g z K) : g < w.heap.size := by
  obtain ⟨A, c, zs, hk, _⟩ := v
  exact hk.lt
theorem Vr.other {B g h K : Nat} {w : World} {z : Int} {x y : Value} (v : Vr B w g z K) (hh : Blk w h 51 [x, y]) (hne : g ≠ h) (x' y' : Value) : Vr B ((w.setCell ⟨h, 0, none⟩ x').setCell ⟨h, 1, none⟩ y') g z K := by
  obtain ⟨A, c, zs, hk, hz, hr, hl⟩ := v
  exact ⟨A, c, zs, (hk.far (p := ⟨h, 0, none⟩) hne _).far (p := ⟨h, 1, none⟩) hne _, hz, res_var2 hr hh _ _, hl⟩
theorem Vr.put {B g K : Nat} {w : World} {z : Int} {x y : Value} {A : Option Addr} {c : Nat} {zs : List Nat} (hk : Blk w g 51 [x, y]) (hz : Num 4294967296 zs z.natAbs) (hr : Res9z w B 24 A c (u32s zs)) (hl : zs.length ≤ K) :
    Vr B ((w.setCell ⟨g, 0, none⟩ (.bool (isNeg z))).setCell ⟨g, 1, none⟩ (.slice A zs.length c)) g z K := ⟨A, c, zs, blk_pair hk _ _, hz, res_var2 hr hk _ _, hl⟩
end
section
open Go.RowKit

def Halved (xs : List Nat) (k : Nat) (zs : List Nat) : Prop :=
  Dig 4294967296 zs ∧ 2 * val 4294967296 zs + at0 xs 0 % 2 = val 4294967296 (xs.take k) + 4294967296 ^ k * (at0 xs k % 2) ∧ ∀ j (h : j < zs.length), k ≤ j → zs[j] = 0
theorem Halved.start (xs : List Nat) (n : Nat) : Halved xs 0 (List.replicate n 0) :=
  ⟨Dig.zeros_ (by omega) _, by simp [val_zeros, val], fun j h _ => by simp⟩
theorem Halved.step {xs zs : List Nat} {k v : Nat} (h : Halved xs k zs) (hz : k < zs.length) (hd : Dig 4294967296 xs) (hv : v = at0 xs k / 2 + at0 xs (k + 1) % 2 * 2147483648) : Halved xs (k + 1) (zs.set k v) := by
  obtain ⟨h1, h2, h3⟩ := h
  have ha := at0_lt hd k
  refine ⟨h1.set_ _ _ (by omega), ?_, fun i hi hki => ?_⟩
  · have e1 := val_set 4294967296 zs k v hz
    rw [h3 k hz (Nat.le_refl _)] at e1
    rw [val_take_at0, Nat.pow_succ, Nat.mul_assoc]
    have e2 : 2 * v + at0 xs k % 2 = at0 xs k + 4294967296 * (at0 xs (k + 1) % 2) := by omega
    have e3 : 4294967296 ^ k * (2 * v + at0 xs k % 2) = 4294967296 ^ k * (at0 xs k + 4294967296 * (at0 xs (k + 1) % 2)) := by rw [e2]
    rw [Nat.mul_add, Nat.mul_add, Nat.mul_left_comm] at e3
    omega
  · rw [List.getElem_set, if_neg (by omega)]
    exact h3 i (by simpa using hi) (by omega)
theorem Halved.last {xs zs : List Nat} (h : Halved xs xs.length zs) : val 4294967296 zs = val 4294967296 xs / 2 := by
  have h2 := h.2.1
  rw [List.take_length, at0_out (Nat.le_refl _)] at h2
  have : at0 xs 0 % 2 < 2 := Nat.mod_lt _ (by omega)
  omega
end
section
open Go.RowKit
end
section
open Go.RowKit
end
section
open Go.RowKit

/-- The two numbers between two of Euclid's steps by the top words. -/
structure Leh (e : Bool) (x0 y0 x y u1 u2 v1 v2 : Nat) : Prop where
  le : y ≤ x
  comb : x0 = v2 * x + v1 * y
  uv : u2 ≤ v2
  sum : u1 + u2 ≤ v1 + v2
  v2p : 1 ≤ v2
  idx : if e then x + u1 * x0 = v1 * y0 else x + v1 * y0 = u1 * x0
  idy : if e then y + v2 * y0 = u2 * x0 else y + u2 * x0 = v2 * y0
  det : if e then u2 * v1 = u1 * v2 + 1 else u1 * v2 = u2 * v1 + 1
theorem Leh.start {x0 y0 : Nat} (h : y0 ≤ x0) : Leh false x0 y0 x0 y0 1 0 0 1 :=
  ⟨h, by omega, by omega, by omega, by omega, by simp, by simp, by simp⟩
theorem Leh.next {e : Bool} {x0 y0 x y u1 u2 v1 v2 : Nat} (h : Leh e x0 y0 x y u1 u2 v1 v2) (g1 : v2 ≤ y) : Leh (!e) x0 y0 y (x % y) u2 (u1 + x / y * u2) v2 (v1 + x / y * v2) := by
  have hy : 0 < y := Nat.lt_of_lt_of_le h.v2p g1
  have hq : 1 ≤ x / y := (Nat.le_div_iff_mul_le hy).2 (by rw [Nat.one_mul]; exact h.le)
  have hm := Nat.div_add_mod x y
  obtain ⟨le, comb, uv, sum, v2p, idx, idy, det⟩ := h
  generalize x / y = q at *
  obtain ⟨r, hr⟩ : ∃ r, r = x % y := ⟨_, rfl⟩
  have hrl : r < y := by rw [hr]; exact Nat.mod_lt _ hy
  rw [← hr] at hm ⊢
  clear hr
  obtain ⟨p, rfl⟩ : ∃ p, q = p + 1 := ⟨q - 1, by omega⟩
  have hpuv : p * u2 ≤ p * v2 := Nat.mul_le_mul_left _ uv
  refine ⟨Nat.le_of_lt hrl, ?_, ?_, ?_, ?_, ?_, ?_, ?_⟩
  · subst hm; grind
  · rw [Nat.add_mul, Nat.add_mul]; omega
  · rw [Nat.add_mul, Nat.add_mul]; omega
  · rw [Nat.add_mul]; omega
  · cases e <;> simp only [Bool.not_true, Bool.not_false, if_true, Bool.false_eq_true, if_false] at idy ⊢ <;> exact idy
  · subst hm
    cases e <;> simp only [Bool.not_true, Bool.not_false, if_true, Bool.false_eq_true, if_false] at idx idy ⊢ <;> grind
  · cases e <;> simp only [Bool.not_true, Bool.not_false, if_true, Bool.false_eq_true, if_false] at det ⊢ <;> grind
theorem Leh.fits {e : Bool} {x0 y0 x y u1 u2 v1 v2 : Nat} (h : Leh e x0 y0 x y u1 u2 v1 v2) (g1 : v2 ≤ y) : v1 + v2 ≤ x0 ∧ v1 + x / y * v2 ≤ x0 ∧ u1 + x / y * u2 ≤ x0 := by
  have hn := h.next g1
  have hy : 1 ≤ y := Nat.le_trans h.v2p g1
  have hx : 1 ≤ x := Nat.le_trans hy h.le
  have c1 := h.comb
  have c2 := hn.comb
  have m1 := Nat.mul_le_mul_left v2 hx
  have m2 := Nat.mul_le_mul_left v1 hy
  have m3 := Nat.mul_le_mul_left (v1 + x / y * v2) hy
  have uv := hn.uv
  generalize (v1 + x / y * v2) = z at *
  omega
end
end Go.Proofs.YtbafiahmcfkboaaDoor
