/- An integer that is answered in normal form, as it is held; w. What is spared while variables turn; integers that lie apart. The contracts of the reference's Add and Mul. Plain numbers for the reference's Div. The contract of the reference's Div. -/
import Derived.Test.YtcjgilagldbjnaaGreatDoorPkBb26
import Derived.Test.YtcjgilagldbjnaaGreatDoorPkBb21
import Derived.Test.YtcjgilagldbjnaaGreatDoorPkBb19
namespace Go.Proofs.YtcjgilagldbjnaaGreatDoor
section
open Go.RowKit
structure Zn (w : World) (A : Option Addr) (c : Nat) (zs : List Nat) (z : Int) (K : Nat) : Prop where
 num : Num 4294967296 zs z.natAbs
 rd : Rd w w.heap.size A (u32s zs)
 cap : zs.length ≤ c
 len : zs.length ≤ K
def ZnOut (w w' : World) (z : Int) (K : Nat) (e : Ending) : Prop := ∃ zs A' c', e = .returned (.agg #[.bool (isNeg z), .slice A' zs.length c']) ∧ Zn w' A' c' zs z K ∧ Below w.heap.size w w'
section
variable {w w' : World} {A A2 : Option Addr} {c c2 K J : Nat} {zs ys : List Nat} {z y : Int} {g g2 : Bool} {e : Ending}
theorem Zn.next (h : Zn w A c zs z K) (hb : Below w.heap.size w w') : Zn w' A c zs z K := ⟨h.num, (h.rd.below hb).mono hb.size, h.cap, h.len⟩
theorem Zn.zh (h : Zn w A c zs z K) : Zh w (isNeg z) A c zs z K := ⟨⟨h.num.1, h.num.2.2, h.rd, h.cap, h.len⟩, ival_abs z⟩
theorem Zn.hv (h : Zn w A c zs z K) : Hv w A c zs z.natAbs K := h.zh.hv
theorem Zn.up (h : Zn w A c zs z K) (hJ : K ≤ J) : Zn w A c zs z J := ⟨h.num, h.rd, h.cap, Nat.le_trans h.len hJ⟩
theorem Zn.to (h : Zn w A c zs z K) (e : z = y) : Zn w A c zs y K := e ▸ h
theorem Zn.lt (h : Zn w A c zs z K) : z.natAbs < 4294967296 ^ K := h.hv.lt
theorem Zh.lt (h : Zh w g A c zs z K) : z.natAbs < 4294967296 ^ K := h.hv.lt
theorem Zn.shrink {B : Nat} (h : Num 4294967296 zs z.natAbs) (hr : Res w B 34 A c (u32s zs)) (hK : z.natAbs < 4294967296 ^ K) : Zn w A c zs z K :=
 ⟨h, hr.rd, by have := hr.1; rwa [u32s_length] at this, num32_len h nl9 hK⟩
theorem ZOut.n (h : ZOut w w' z e) (hK : z.natAbs < 4294967296 ^ K) : ZnOut w w' z K e := by
 obtain ⟨zs, A, c, rfl, hz, hr, hb⟩ := h
 exact ⟨zs, A, c, rfl, Zn.shrink hz hr hK, hb⟩
theorem ZnOut.to (h : ZnOut w w' z K e) (e9 : z = y) : ZnOut w w' y K e := e9 ▸ h
theorem ZOut.to (h : ZOut w w' z e) (e9 : z = y) : ZOut w w' y e := e9 ▸ h
theorem zdiff_lt {b i j : Nat} (hb : 2 ≤ b) (hn : z.natAbs < b ^ i) (hk : y.natAbs < b ^ j) : (z - y).natAbs < b ^ (max i j + 1) := by
 have := sum_lt_pow9 hb hn hk
 omega
end
end
section
open Go.RowKit
theorem bal {B : Nat} {a w : World} (h : Below B a w) (hB : B ≤ a.heap.size) (o : Obj) : Below B a (w.alloc o) := h.alloc (Nat.le_trans hB h.size) o
theorem bdn {B : Nat} {a w : World} (h : Below B a w) (n : Nat) : Below B a (w.drewN n) := ⟨h.os, h.tape, h.output, h.size, h.block⟩
theorem bdw {B : Nat} {a w : World} (h : Below B a w) : Below B a w.drew := ⟨h.os, h.tape, h.output, h.size, h.block⟩
theorem bst {B : Nat} {a b c : World} (h : Below B a b) (k : Below b.heap.size b c) (hB : B ≤ a.heap.size) : Below B a c := h.trans (k.mono (Nat.le_trans hB h.size))
theorem bsc {B g i : Nat} {a w : World} (h : Below B a w) (hg : B ≤ g) (u : Value) : Below B a (w.setCell ⟨g, i, none⟩ u) := h.setCell (p := ⟨g, i, none⟩) hg u
theorem Blk.c0 {w : World} {g : Nat} {t : TypeId} {x y : Value} (h : Blk w g t [x, y]) : w.cell? ⟨g, 0, none⟩ = some x := h.cell 0
theorem Blk.c1 {w : World} {g : Nat} {t : TypeId} {x y : Value} (h : Blk w g t [x, y]) : w.cell? ⟨g, 1, none⟩ = some y := h.cell 1
theorem Blk.two {w : World} {g : Nat} {t : TypeId} {x y : Value} (h : Blk w g t [x, y]) : w.cell? ⟨g, 0, none⟩ = some x ∧ w.cell? ⟨g, 1, none⟩ = some y ∧ w.frozen? ⟨g, 0, none⟩ = false ∧ w.frozen? ⟨g, 1, none⟩ = false := ⟨h.c0, h.c1, h.frozen 0, h.frozen 1⟩
structure Sp (vs : List Nat) (w w' : World) : Prop where
 size : w.heap.size ≤ w'.heap.size
 block : ∀ k, k < w.heap.size → k ∉ vs → w'.heap[k]? = w.heap[k]?
section
variable {vs : List Nat} {w w' w2 : World} {g i : Nat}
theorem Sp.refl (vs : List Nat) (w : World) : Sp vs w w := ⟨Nat.le_refl _, fun _ _ _ => rfl⟩
theorem Sp.below (h : Sp vs w w') (hb : Below w'.heap.size w' w2) : Sp vs w w2 := ⟨Nat.le_trans h.size hb.size, fun k hk hv => (hb.block k (by have := h.size; omega)).trans (h.block k hk hv)⟩
theorem Sp.trans (h : Sp vs w w') (k : Sp vs w' w2) : Sp vs w w2 := ⟨Nat.le_trans h.size k.size, fun i hi hv => (k.block i (by have := h.size; omega) hv).trans (h.block i hi hv)⟩
theorem Sp.set (h : Sp vs w w') (hg : g ∈ vs) (u : Value) : Sp vs w (w'.setCell ⟨g, i, none⟩ u) :=
 ⟨by simpa [World.setCell] using h.size, fun k hk hv => (Below.heap_setCell _ _ _ _ (by rintro rfl; exact hv hg)).trans (h.block k hk hv)⟩
theorem Sp.al (h : Sp vs w w') (o : Obj) : Sp vs w (w'.alloc o) := h.below (br9.alloc nl9 o)
theorem Sp.of (hb : Below w.heap.size w w') : Sp vs w w' := (Sp.refl vs w).below hb
end
structure Zi (B : Nat) (vs : List Nat) (w : World) (A : Option Addr) (c : Nat) (zs : List Nat) (z : Int) (K : Nat) : Prop where
 num : Num 4294967296 zs z.natAbs
 res : Res w B 34 A c (u32s zs)
 len : zs.length ≤ K
 av : zs ≠ [] → ∀ a, A = some a → a.block ∉ vs
section
variable {B B2 : Nat} {vs : List Nat} {w w' : World} {A : Option Addr} {c K J g : Nat} {zs : List Nat} {z y : Int}
theorem u32s_nil {xs : List Nat} (h : u32s xs ≠ []) : xs ≠ [] := fun e => h (by rw [e]; rfl)
theorem Zi.sp (h : Zi B vs w A c zs z K) (s : Sp vs w w') : Zi B vs w' A c zs z K :=
 ⟨h.num, ⟨h.res.1, h.res.2.1, fun hn => by
  obtain ⟨b, rest, rfl, hb, hk, hl⟩ := h.res.2.2 hn
  exact ⟨b, rest, rfl, hb, (s.block b hk.lt (h.av (u32s_nil hn) _ rfl)).trans hk, hl⟩⟩, h.len, h.av⟩
theorem Zi.next (h : Zi B vs w A c zs z K) (hb : Below w.heap.size w w') : Zi B vs w' A c zs z K := h.sp (Sp.of hb)
theorem Zi.cap (h : Zi B vs w A c zs z K) : zs.length ≤ c := by have := h.res.1; rwa [u32s_length] at this
theorem Zi.zn (h : Zi B vs w A c zs z K) : Zn w A c zs z K := ⟨h.num, h.res.rd, h.cap, h.len⟩
theorem Zi.zh (h : Zi B vs w A c zs z K) : Zh w (isNeg z) A c zs z K := h.zn.zh
theorem Zi.of (h : Num 4294967296 zs z.natAbs) (hr : Res w B2 34 A c (u32s zs)) (hK : z.natAbs < 4294967296 ^ K) (hB : B ≤ B2) (hvs : ∀ v ∈ vs, v < B2) : Zi B vs w A c zs z K :=
 ⟨h, hr.mono hB, num32_len h nl9 hK, fun hn a e hm => by
  obtain ⟨b, rest, rfl, hb, _, _⟩ := hr.2.2 (by intro e2; apply hn; have := u32s_length zs; rw [e2] at this; exact List.eq_nil_of_length_eq_zero this.symm)
  cases e
  have h9 : b < B2 := hvs _ hm
  omega⟩
theorem Zi.to (h : Zi B vs w A c zs z K) (e : z = y) : Zi B vs w A c zs y K := e ▸ h
theorem Zi.up (h : Zi B vs w A c zs z K) (hK : z.natAbs < 4294967296 ^ J) : Zi B vs w A c zs z J := ⟨h.num, h.res, num32_len h.num nl9 hK, h.av⟩
theorem Zi.lt (h : Zi B vs w A c zs z K) : z.natAbs < 4294967296 ^ K := h.zn.lt
end
def Vz (B : Nat) (vs : List Nat) (w : World) (g : Nat) (z : Int) (K : Nat) : Prop :=
 ∃ A c zs, Blk w g 25 [.bool (isNeg z), .slice A zs.length c] ∧ Zi B vs w A c zs z K
section
variable {B B2 : Nat} {vs : List Nat} {w w' w2 : World} {A : Option Addr} {c K J g h : Nat} {zs : List Nat} {z y : Int}
theorem Vz.next (v : Vz B vs w g z K) (hb : Below w.heap.size w w') : Vz B vs w' g z K := by
 obtain ⟨A, c, zs, hk, hz⟩ := v
 exact ⟨A, c, zs, hk.below hb hk.lt, hz.next hb⟩
theorem Vz.lt (v : Vz B vs w g z K) : g < w.heap.size := by
 obtain ⟨A, c, zs, hk, hz⟩ := v
 exact hk.lt
theorem Vz.other (v : Vz B vs w g z K) (hh : h ∈ vs) (hne : g ≠ h) (x y : Value) : Vz B vs ((w.setCell ⟨h, 0, none⟩ x).setCell ⟨h, 1, none⟩ y) g z K := by
 obtain ⟨A, c, zs, hk, hz⟩ := v
 exact ⟨A, c, zs, (hk.far (p := ⟨h, 0, none⟩) hne _).far (p := ⟨h, 1, none⟩) hne _, hz.sp (((Sp.refl vs w).set hh _).set hh _)⟩
theorem Vz.own {x0 y0 : Value} (hk : Blk w g 25 [x0, y0]) (hh : g ∈ vs) (hz : Zi B vs w A c zs z K) : Vz B vs ((w.setCell ⟨g, 0, none⟩ (.bool (isNeg z))).setCell ⟨g, 1, none⟩ (.slice A zs.length c)) g z K :=
 ⟨A, c, zs, blk_pair hk _ _, hz.sp (((Sp.refl vs w).set hh _).set hh _)⟩
end
theorem zretF {fn : Func} {a : Act} {w W : World} {p : Tmp} {r B : Nat} {b : Bool} {x y : Value} {z : Int} {zs : List Nat} {A : Option Addr} {c : Nat} (hbel : Below w.heap.size w W) (hB : Blk W r 25 [x, y]) (hr : w.heap.size ≤ r)
  (hz : Num 4294967296 zs z.natAbs) (hres : Res W B 34 A c (u32s zs)) (hwB : w.heap.size ≤ B) (hav : zs ≠ [] → ∀ a, A = some a → a.block ≠ r) (hb : b = isNeg z) (hres0 : fn.results = #[.cell p 25]) (hp : a.tmps.getD p undef = .pointer (some ⟨r, 0, none⟩)) (hd : a.defers = []) :
  bodyPost Tryz.prog fn (fun e w' => ZOut w w' z e) .ret a ((W.setCell ⟨r, 0, none⟩ (.bool b)).setCell ⟨r, 1, none⟩ (.slice A zs.length c)) := by
 subst hb
 have h1 : Zi w.heap.size [r] W A c zs z zs.length := ⟨hz, hres.mono hwB, Nat.le_refl _, fun hn a e hm => hav hn a e (by simpa using hm)⟩
 have hm : r ∈ [r] := List.mem_singleton.2 rfl
 have h2 := h1.sp (((Sp.refl [r] W).set (g := r) (i := 0) hm (.bool (isNeg z))).set (g := r) (i := 1) hm (.slice A zs.length c))
 exact bodyPost_ret (results_cell_row hres0 _ _ r 25 _ (0, 0) _ hp (blk_pair hB _ _) Tryz.underlying25 rfl (by kernel_rfl)) hd
  ⟨zs, A, c, rfl, hz, h2.res, bsc (bsc hbel hr _) hr _⟩
end
section
open Go.RowKit
theorem add_at0 {b : Nat} {xs ys : List Nat} {k : Nat} : val b (xs.take k) + val b (ys.take k) + b ^ k * (at0 xs k + at0 ys k) = val b (xs.take (k + 1)) + val b (ys.take (k + 1)) := by
 rw [val_take_at0, val_take_at0, Nat.mul_add]; omega
set_option maxHeartbeats 1600000 in
theorem radd_any (A A2 : Option Addr) (c c2 : Nat) (xs ys : List Nat) (w : World) (B : Nat) (hr : Rd w B A (u32s xs)) (hr2 : Rd w B A2 (u32s ys)) (hB : B ≤ w.heap.size) (hd : Dig 4294967296 xs) (hd2 : Dig 4294967296 ys) (hm : xs.length ≤ 70368744170000) (hm2 : ys.length ≤ 70368744170000) :
  Calls Tryz.prog 25 #[.slice A xs.length c, .slice A2 ys.length c2] w fun e w' => ∃ zs A' c', e = .returned (.slice A' zs.length c') ∧ Num 4294967296 zs (val 4294967296 xs + val 4294967296 ys) ∧ Res w' w.heap.size 34 A' c' (u32s zs) ∧ Below w.heap.size w w' := by
 have hm1 : xs.length ≤ 281474976710656 := by omega
 have hm3 : ys.length ≤ 281474976710656 := by omega
 go_enter Tryz.func25, Tryz.ntmps25
 go_upto_if 15 with (fail)
 go_cut [5] (fun s wc => ∃ n : Nat, s = .int .i64 n ∧ xs.length ≤ n ∧ ys.length ≤ n ∧ n ≤ 70368744170000 ∧ wc = w)
 case first =>
  by_cases hlt : xs.length < ys.length
  ·go_wp2
   go_meet
   exact ⟨ys.length, rfl, by omega, by omega, by omega, rfl⟩
  ·go_wp2
   go_meet
   exact ⟨xs.length, rfl, by omega, by omega, by omega, rfl⟩
 case rest =>
  obtain ⟨n, rfl, hn1, hn2, hnm, rfl⟩ := hcut
  have hmk := fun W => mk32s n (by omega) W
  obtain ⟨os, hos⟩ : ∃ os, os = List.replicate (n + 1) 0 := ⟨_, rfl⟩
  have hol : os.length = n + 1 := by rw [hos]; simp
  have ho0 : Hid (∀ k (h : k < os.length), os[k] = 0) := by subst hos; exact fun k h => by simp
  have hov : Hid (val 4294967296 os = 0) := by rw [hos]; exact val_zeros _ _
  have hod : Dig 4294967296 os := by rw [hos]; exact Dig.zeros_ (by omega) _
  have hblk0 : Blk (wc.alloc (.cells (Array.replicate (n + 1) (Value.int .u32 0)) 34)) wc.heap.size 34 (u32s os) := by rw [hos]; exact Blk.new_ (by simp [u32s])
  have Hol := hi9 hol
  clear hos hol
  go_wp2_with fail
  go_loopw [7, 8, 9, 23] (fun cv _ _ i wr => ∃ (k cc : Nat) (zs : List Nat), k ≤ n + 1 ∧ i = .int .i64 k ∧ cv = .int .u64 cc ∧ cc ≤ 1 ∧ Blk wr wc.heap.size 34 (u32s zs) ∧ Acc 4294967296 os (val 4294967296 (xs.take k) + val 4294967296 (ys.take k)) k zs cc ∧ Below wc.heap.size wc wr) (fun _ _ _ i _ => n + 1 - (intOf i).toNat)
  case atStart => exact ⟨0, 0, os, by omega, rfl, rfl, by omega, hblk0, by simpa [val] using Acc.start hod, br9.alloc nl9 _⟩
  case round =>
   clear hblk0
   obtain ⟨k, cc, zs, hk, rfl, rfl, hcc, hblk, hacc, hbel⟩ := hrel
   by_cases hlt : k < n + 1
   ·have hko : k < os.length := by rw [Hol.out]; exact hlt
    obtain ⟨hz1, hzk⟩ := hacc.at_ hko
    have hc2 := (hblk.cell k).trans (u32s_at hz1)
    have hf2 := hblk.frozen k
    have ha := at0_lt hd k
    have hb := at0_lt hd2 k
    obtain ⟨x, hxe⟩ : ∃ x, x = at0 xs k := ⟨_, rfl⟩
    obtain ⟨y, hye⟩ : ∃ y, y = at0 ys k := ⟨_, rfl⟩
    rw [← hxe] at ha
    rw [← hye] at hb
    obtain ⟨sm, hsme⟩ : ∃ sm, sm = x + y + cc := ⟨_, rfl⟩
    have e2 : (x : Int) + (y : Int) + (cc : Int) = (sm : Int) := by omega
    have hsb : sm < 8589934592 := by omega
    have hrw := hr.below (hbel.mono hB)
    have hrw2 := hr2.below (hbel.mono hB)
    have hkb : k ≤ 9223372036854775807 := by omega
    have hln := hlt
    have Hx := hi9 hxe
    have Hy := hi9 hye
    have Hsm := hi9 hsme
    clear hxe hye hsme hzk
    go_wp2_with (first
     | (go_at_call 46; (with_reducible refine (limb_any A c xs k _ B hrw hd hm1 hkb).mono ?_); rintro e w' ⟨rfl, rfl⟩; rw [← Hx.out])
     | (go_at_call 46; (with_reducible refine (limb_any A2 c2 ys k _ B hrw2 hd2 hm3 hkb).mono ?_); rintro e w' ⟨rfl, rfl⟩; rw [← Hy.out]))
    go_roundw
    case rel =>
     have h9 := hacc.step (d := at0 xs k + at0 ys k) (r := sm % 4294967296) (q := sm / 4294967296) hko (by omega) (by rw [ho0.out k hko, ← Hx.out, ← Hy.out]; have := Hsm.out; omega)
     rw [add_at0] at h9
     refine ⟨k + 1, sm / 4294967296, zs.set k (sm % 4294967296), by omega, by go_num, rfl, by omega, ?_, h9, hbel.setCell (p := ⟨wc.heap.size, k, none⟩) nl9 _⟩
     have hb2 := hblk.set_ k (Value.int IntKind.u32 ((sm % 4294967296 : Nat) : Int))
     rw [u32s_set] at hb2
     exact hb2
    case measure => simp [intOf]; omega
   ·have hkn : k = n + 1 := by omega
    have hkl : n + 1 ≤ k := by omega
    have hlen : zs.length = n + 1 := hacc.2.1.trans Hol.out
    have Hlen := hi9 hlen
    have hv : val 4294967296 zs = val 4294967296 xs + val 4294967296 ys := by
     have h9 := hacc.2.2.1
     rw [hov.out, hkn, List.take_of_length_le (by omega), List.take_of_length_le (by omega), Nat.zero_add] at h9
     exact carry_zero2 h9 (sum_lt (by omega) (val_lt_le hd hn1 (by omega)) (val_lt_le hd2 hn2 (by omega)))
    have Hv := hi9 hv
    have hrd := (Res.of_blk0 hblk nl9 (by rw [u32s_length]; omega)).rd
    have hzm : zs.length ≤ 70368744177664 := by omega
    clear hkn hlen hv
    go_wp2_with (go_at_call 13; rw [← Hlen.out]; refine (rnorm_any _ _ zs wr _ hrd nl9 hzm).mono ?_; rintro e w2 ⟨A', c', rfl, hres, hb⟩)
    go_ret
    refine ⟨trimL zs, A', c', rfl, ?_, hres.mono hbel.size, hbel.trans (hb.mono hbel.size)⟩
    rw [← Hv.out]
    exact Num.of_trim hacc.1
theorem Num.len_le9 {zs : List Nat} {n N : Nat} (h : Num 4294967296 zs n) (hn : n < 4294967296 ^ N) : zs.length ≤ N := by
 rw [← h.2.1]; exact trimL_len_le (by omega) h.1 (by rw [h.2.2]; exact hn)
theorem drop_val {b : Nat} {qs : List Nat} {k : Nat} (h : k < qs.length) : val b (qs.drop k) = qs[k] + b * val b (qs.drop (k + 1)) := by
 rw [List.drop_eq_getElem_cons h]; rfl
set_option maxHeartbeats 3200000 in
set_option maxRecDepth 100000 in
theorem rmul_any (A A2 : Option Addr) (c c2 : Nat) (xs ys : List Nat) (w : World) (B : Nat) (hr : Rd w B A (u32s xs)) (hr2 : Rd w B A2 (u32s ys)) (hB : B ≤ w.heap.size) (hd : Dig 4294967296 xs) (hd2 : Dig 4294967296 ys) (hm : xs.length ≤ 70368744170000) (hm2 : ys.length ≤ 70368744170000) (hmm : (trimL xs).length + (trimL ys).length ≤ 35184372088000) :
  Calls Tryz.prog 29 #[.slice A xs.length c, .slice A2 ys.length c2] w fun e w' => ∃ zs A' c', e = .returned (.slice A' zs.length c') ∧ Num 4294967296 zs (val 4294967296 xs * val 4294967296 ys) ∧ Res w' w.heap.size 34 A' c' (u32s zs) ∧ Below w.heap.size w w' := by
 have hn1 := Num.of_trim hd
 have hn2 := Num.of_trim hd2
 obtain ⟨m, hmv⟩ : ∃ m, m = val 4294967296 xs := ⟨_, rfl⟩
 obtain ⟨n, hnv⟩ : ∃ n, n = val 4294967296 ys := ⟨_, rfl⟩
 rw [← hmv] at hn1
 rw [← hnv] at hn2
 rw [← hmv, ← hnv]
 have HA := hi9 (rnorm_any A c xs w B hr hB (by omega))
 have HB := hi9 (fun W (hW : Below w.heap.size w W) => rnorm_any A2 c2 ys W B (hr2.below (hW.mono hB)) (Nat.le_trans hB hW.size) (by omega))
 obtain ⟨ps, hps⟩ : ∃ ps, ps = trimL xs := ⟨_, rfl⟩
 obtain ⟨qs, hqs⟩ : ∃ qs, qs = trimL ys := ⟨_, rfl⟩
 rw [← hps] at hn1 hmm HA
 rw [← hqs] at hn2 hmm HB
 have hdp := hn1.1
 have hdq := hn2.1
 have Hm : Hid (val 4294967296 ps = m) := hn1.2.2
 have Hn : Hid (val 4294967296 qs = n) := hn2.2.2
 clear hps hqs hmv hnv hn1 hn2 hr hr2
 go_enter Tryz.func29, Tryz.ntmps29
 go_wp2_with fail
 refine HA.out.mono ?_
 rintro e w1 ⟨A1, c1, rfl, hres1, hb1⟩
 go_wp2_with fail
 refine (HB.out w1 hb1).mono ?_
 rintro e w2 ⟨A3, c3, rfl, hres2, hb2⟩
 have hr1 : Rd w2 w2.heap.size A1 (u32s ps) := (hres1.below hb2 nl9).rd
 have hr3 : Rd w2 w2.heap.size A3 (u32s qs) := hres2.rd
 have hB2 := hb1.trans (hb2.mono hb1.size)
 clear HA HB hres1 hres2 hb1 hb2
 go_wp2_with fail
 go_loopw [5, 6] (fun ov iv wr => ∃ (k : Nat) (os : List Nat) (A4 : Option Addr) (c4 : Nat), k ≤ qs.length ∧ iv = .int .i64 ((k : Int) - 1) ∧ ov = .slice A4 os.length c4 ∧ Num 4294967296 os (m * val 4294967296 (qs.drop k)) ∧ Rd wr wr.heap.size A4 (u32s os) ∧ Below w2.heap.size w2 wr) (fun _ iv _ => (intOf iv + 1).toNat)
 case atStart => exact ⟨qs.length, [], none, 0, Nat.le_refl _, rfl, rfl, by simp [val]; exact Num.zero_ _, Rd.nil_, br9⟩
 case round =>
  obtain ⟨k, os, A4, c4, hk, rfl, rfl, hnum, hro, hbel⟩ := hrel
  have hw2s := hB2.size
  rcases k with _ | k
  ·go_wp2_with fail
   have hol : os.length ≤ 35184372088000 := by
    have := hnum.len_le9 (N := ps.length + qs.length) (by rw [List.drop_zero, ← Hm.out]; exact prod_lt hdp hdq (by omega))
    omega
   refine (rnorm_any A4 c4 os wr _ hro nl9 (by omega)).mono ?_
   rintro e w3 ⟨A', c', rfl, hres, hb⟩
   have hwr := hbel.size
   go_wp2_with fail
   go_ret
   refine ⟨trimL os, A', c', rfl, ?_, hres.mono (by omega), hB2.trans ((hbel.mono hw2s).trans (hb.mono (by omega)))⟩
   rw [hnum.2.1]
   rw [List.drop_zero, Hn.out] at hnum
   exact hnum
  ·rw [show ((k + 1 : Nat) : Int) - 1 = (k : Int) from by omega]
   have hkq : k < qs.length := by omega
   obtain ⟨b2, off2, rfl, hb2, hy⟩ := hr3.at32 hkq
   have hy := (hbel.cell (p := ⟨b2, off2 + k, none⟩) hb2).trans hy
   have hyd := hdq.at_ k hkq
   have hwr := hbel.size
   have hol : os.length ≤ 35184372088000 := by
    have := hnum.len_le9 (N := ps.length + (qs.drop (k + 1)).length) (by rw [← Hm.out]; exact prod_lt hdp (hdq.drop_ _) (by omega))
    rw [List.length_drop] at this
    omega
   have hpl : ps.length ≤ 35184372088000 := by omega
   obtain ⟨y, hye⟩ : ∃ y, y = qs[k] := ⟨_, rfl⟩
   rw [← hye] at hy hyd
   have hvd := drop_val (b := 4294967296) hkq
   rw [← hye] at hvd
   have Hsh : Hid (∀ W, Below wr.heap.size wr W → Calls Tryz.prog 47 #[.slice A4 os.length c4, .int .u32 0] W fun e w' => ∃ zs A' c', e = .returned (.slice A' zs.length c') ∧ Num 4294967296 zs (4294967296 * (m * val 4294967296 (qs.drop (k + 1)))) ∧ Res w' W.heap.size 34 A' c' (u32s zs) ∧ Below W.heap.size W w') := fun W hW => by
    have h9 := rshift_any A4 c4 os 0 W wr.heap.size (hro.below hW) hW.size hnum.1 (by omega) (by omega)
    rw [hnum.2.2, Nat.zero_add] at h9
    exact h9
   have Hsm : Hid (∀ W, Below wr.heap.size wr W → Calls Tryz.prog 48 #[.slice A1 ps.length c1, .int .u32 (y : Int)] W fun e w' => ∃ zs A' c', e = .returned (.slice A' zs.length c') ∧ Num 4294967296 zs (m * y) ∧ Res w' W.heap.size 34 A' c' (u32s zs) ∧ Below W.heap.size W w') := fun W hW => by
    have h9 := rsmall_any A1 c1 ps y W wr.heap.size (((hr1.below hbel).mono hwr).below hW) hW.size hdp hyd (by omega)
    rw [Hm.out] at h9
    exact h9
   have Hvd : Hid (4294967296 * (m * val 4294967296 (qs.drop (k + 1))) + m * y = m * val 4294967296 (qs.drop k)) := by
    show _ = _
    rw [hvd, Nat.mul_add, ← Nat.mul_assoc, Nat.mul_comm 4294967296 m, Nat.mul_assoc, Nat.add_comm]
   have hsl : ∀ zs, Num 4294967296 zs (4294967296 * (m * val 4294967296 (qs.drop (k + 1)))) → zs.length ≤ 35184372088001 := fun zs hz => by
    have h1 : m * val 4294967296 (qs.drop (k + 1)) < 4294967296 ^ (ps.length + (qs.drop (k + 1)).length) := by rw [← Hm.out]; exact prod_lt hdp (hdq.drop_ _) (by omega)
    have h2 := hz.len_le9 (N := ps.length + (qs.drop (k + 1)).length + 1) (by
     rw [Nat.pow_succ, Nat.mul_comm (4294967296 ^ _)]
     exact Nat.mul_lt_mul_of_pos_left h1 (by omega))
    rw [List.length_drop] at h2
    omega
   have hml : ∀ zs, Num 4294967296 zs (m * y) → zs.length ≤ 35184372088001 := fun zs hz => by
    have h1 : m * y < 4294967296 ^ (ps.length + 1) := by
     rw [← Hm.out, Nat.pow_succ]
     exact Nat.mul_lt_mul_of_lt_of_le (val_lt _ ps hdp) (Nat.le_of_lt hyd) (by omega)
    have h2 := hz.len_le9 h1
    omega
   have Hsl : Hid (∀ zs, Num 4294967296 zs (4294967296 * (m * val 4294967296 (qs.drop (k + 1)))) → zs.length ≤ 35184372088001) := hsl
   have Hml : Hid (∀ zs, Num 4294967296 zs (m * y) → zs.length ≤ 35184372088001) := hml
   have hbw2 : b2 < wr.heap.size := by omega
   clear hye hvd hsl hml hnum
   go_upto_region 6 with (fail)
   go_region_held3 (fun W => W.cell? ⟨b2, off2 + k, none⟩ = some (.int .u32 (y : Int))) (first | go_keep | exact Hca.out | exact Hcb.out | exact Hcc.out) (first
    | (go_at_call 47; (with_reducible refine (Hsh.out _ (by first | exact br9 | exact br9.drew | exact hBb | exact hBb.drew)).mono ?_); rintro e wa ⟨za, Aa, ca, rfl, hza, hra, hba⟩; have hBa : Below wr.heap.size wr wa := (by first | exact hba | exact br9.drew.trans hba | exact hBb.trans (hba.mono hBb.size) | exact hBb.drew.trans (hba.mono hBb.size)); have Hca := hi9 (show wa.cell? ⟨b2, off2 + k, none⟩ = some (.int .u32 (y : Int)) from (hBa.cell (p := ⟨b2, off2 + k, none⟩) hbw2).trans hy); have hla := Hsl.out _ hza)
    | (go_at_call 48; (with_reducible refine (Hsm.out _ (by first | exact br9 | exact br9.drew | exact hBa | exact hBa.drew)).mono ?_); rintro e wb ⟨zb, Ab, cb, rfl, hzb, hrb, hbb⟩; have hBb : Below wr.heap.size wr wb := (by first | exact hbb | exact br9.drew.trans hbb | exact hBa.trans (hbb.mono hBa.size) | exact hBa.drew.trans (hbb.mono hBa.size)); have Hcb := hi9 (show wb.cell? ⟨b2, off2 + k, none⟩ = some (.int .u32 (y : Int)) from (hBb.cell (p := ⟨b2, off2 + k, none⟩) hbw2).trans hy); have hlb := Hml.out _ hzb)
    | (go_at_call 25; refine (radd_any Aa Ab ca cb za zb _ _ (by first | exact hra.rd | exact (hra.below hbb nl9).rd | exact (hra.below br9.drew nl9).rd | exact ((hra.below br9.drew nl9).below hbb nl9).rd) (by first | exact hrb.rd | exact (hrb.below hba nl9).rd | exact (hrb.below br9.drew nl9).rd | exact ((hrb.below br9.drew nl9).below hba nl9).rd) nl9 hza.1 hzb.1 (by omega) (by omega)).mono ?_; rintro e wc ⟨zc, Ac, cc, rfl, hzc, hrc, hbc⟩; have hBc : Below wr.heap.size wr wc := (by first | exact hBa.trans (hbc.mono hBa.size) | exact hBb.trans (hbc.mono hBb.size) | exact hBa.drew.trans (hbc.mono hBa.size) | exact hBb.drew.trans (hbc.mono hBb.size)); have Hcc := hi9 (show wc.cell? ⟨b2, off2 + k, none⟩ = some (.int .u32 (y : Int)) from (hBc.cell (p := ⟨b2, off2 + k, none⟩) hbw2).trans hy)))
   all_goals
    go_wp2_with fail
    go_roundw
    case rel =>
     have hv := hzc
     rw [hza.2.2, hzb.2.2, Hvd.out] at hv
     exact ⟨k, zc, Ac, cc, by omega, by go_num, rfl, hv, hrc.rd, hbel.trans (hBc.mono hwr)⟩
    case measure => simp [intOf]
end
section
open Go.RowKit
def Longed (xs : List Nat) (n k : Nat) (qs : List Nat) (r : Nat) : Prop :=
 qs.length = xs.length ∧ Dig 4294967296 qs ∧ r < n ∧ val 4294967296 (xs.drop k) = val 4294967296 (qs.drop k) * n + r ∧ ∀ j (h : j < qs.length), j < k → qs[j] = 0
theorem Longed.start (xs : List Nat) (n : Nat) (hn : 0 < n) : Longed xs n xs.length (List.replicate xs.length 0) 0 :=
 ⟨by simp, Dig.zeros_ (by omega) _, hn, by simp [val], fun j h _ => by simp⟩
theorem Longed.small {xs qs : List Nat} {n k r : Nat} (h : Longed xs n (k + 1) qs r) (hk : k < xs.length) (hlt : xs[k] + 4294967296 * r < n) : Longed xs n k qs (xs[k] + 4294967296 * r) := by
 obtain ⟨h1, h2, h3, h4, h5⟩ := h
 refine ⟨h1, h2, hlt, ?_, fun j hj hjk => h5 j hj (by omega)⟩
 have e1 : xs.drop k = xs[k] :: xs.drop (k + 1) := List.drop_eq_getElem_cons hk
 have e2 : qs.drop k = qs[k]'(by omega) :: qs.drop (k + 1) := List.drop_eq_getElem_cons (by omega)
 rw [e1, e2, h5 k (by omega) (by omega)]
 simp only [val]
 rw [h4, Nat.mul_add, Nat.zero_add, Nat.mul_assoc]; omega
theorem Longed.step {xs qs : List Nat} {n k r : Nat} (h : Longed xs n (k + 1) qs r) (hk : k < xs.length) (hx : xs[k] < 4294967296) :
  (xs[k] + 4294967296 * r) / n < 4294967296 ∧ Longed xs n k (qs.set k ((xs[k] + 4294967296 * r) / n)) ((xs[k] + 4294967296 * r) % n) := by
 obtain ⟨h1, h2, h3, h4, h5⟩ := h
 have hq : (xs[k] + 4294967296 * r) / n < 4294967296 := by
  rw [Nat.div_lt_iff_lt_mul (by omega)]
  have : 4294967296 * (r + 1) ≤ 4294967296 * n := Nat.mul_le_mul_left _ h3
  omega
 refine ⟨hq, by simpa using h1, h2.set_ _ _ hq, Nat.mod_lt _ (by omega), ?_, fun j hj hjk => ?_⟩
 ·have e1 : xs.drop k = xs[k] :: xs.drop (k + 1) := List.drop_eq_getElem_cons hk
  have e2 : (qs.set k ((xs[k] + 4294967296 * r) / n)).drop k = ((xs[k] + 4294967296 * r) / n) :: qs.drop (k + 1) := by
   rw [List.drop_eq_getElem_cons (by simpa using (by omega : k < qs.length))]
   simp [List.drop_set]
  rw [e1, e2]
  simp only [val]
  rw [h4]
  have hd := Nat.div_add_mod (xs[k] + 4294967296 * r) n
  generalize (xs[k] + 4294967296 * r) / n = q at *
  generalize (xs[k] + 4294967296 * r) % n = m at *
  rw [Nat.add_mul, Nat.mul_add, Nat.mul_assoc, Nat.mul_comm q n]
  generalize val 4294967296 (qs.drop (k + 1)) * n = z at *
  omega
 ·rw [List.getElem_set, if_neg (by omega)]
  exact h5 j (by simpa using hj) (by omega)
theorem Longed.last {xs qs : List Nat} {n r : Nat} (h : Longed xs n 0 qs r) : val 4294967296 qs = val 4294967296 xs / n ∧ r = val 4294967296 xs % n := by
 obtain ⟨h1, h2, h3, h4, h5⟩ := h
 simp only [List.drop_zero] at h4
 rw [h4, Nat.mul_comm]
 constructor
 ·rw [Nat.mul_add_div (by omega), Nat.div_eq_of_lt h3, Nat.add_zero]
 ·rw [Nat.mul_add_mod, Nat.mod_eq_of_lt h3]
theorem bit_yes (D j : Nat) (h : D / 2 ^ (j + 1) * 2 ^ (j + 1) + 2 ^ j ≤ D) : D / 2 ^ j * 2 ^ j = D / 2 ^ (j + 1) * 2 ^ (j + 1) + 2 ^ j := by
 have hp : 0 < 2 ^ j := Nat.two_pow_pos j
 rw [Nat.pow_succ, ← Nat.div_div_eq_div_mul] at h ⊢
 have h1 := Nat.div_add_mod D (2 ^ j)
 have h2 : D % 2 ^ j < 2 ^ j := Nat.mod_lt _ hp
 generalize D / 2 ^ j = q at *
 have h3 : q / 2 * (2 ^ j * 2) = (q / 2 * 2) * 2 ^ j := by rw [Nat.mul_comm (2 ^ j) 2, ← Nat.mul_assoc]
 rw [h3] at h ⊢
 have h4 : q % 2 = 1 := by
  rcases Nat.mod_two_eq_zero_or_one q with h0 | h0
  ·exfalso
   have : q / 2 * 2 = q := by omega
   rw [this, Nat.mul_comm] at h
   omega
  ·exact h0
 have h5 : q = q / 2 * 2 + 1 := by omega
 conv => lhs; rw [h5]
 rw [Nat.add_mul, Nat.one_mul]
theorem bit_no (D j : Nat) (h : ¬ (D / 2 ^ (j + 1) * 2 ^ (j + 1) + 2 ^ j ≤ D)) : D / 2 ^ j * 2 ^ j = D / 2 ^ (j + 1) * 2 ^ (j + 1) := by
 have hp : 0 < 2 ^ j := Nat.two_pow_pos j
 rw [Nat.pow_succ, ← Nat.div_div_eq_div_mul] at h ⊢
 have h1 := Nat.div_add_mod D (2 ^ j)
 generalize D / 2 ^ j = q at *
 have h3 : q / 2 * (2 ^ j * 2) = (q / 2 * 2) * 2 ^ j := by rw [Nat.mul_comm (2 ^ j) 2, ← Nat.mul_assoc]
 rw [h3] at h ⊢
 have h4 : q % 2 = 0 := by
  rcases Nat.mod_two_eq_zero_or_one q with h0 | h0
  ·exact h0
  ·exfalso
   have h5 : q = q / 2 * 2 + 1 := by omega
   rw [h5, Nat.mul_add, Nat.mul_one, Nat.mul_comm] at h1
   omega
 have h5 : q / 2 * 2 = q := by omega
 rw [h5]
theorem Res.setCell {w : World} {B : Nat} {t : TypeId} {A : Option Addr} {c : Nat} {vs : List Value} (h : Res w B t A c vs) {p : Addr} (hp : p.block < B) (u : Value) : Res (w.setCell p u) B t A c vs :=
 ⟨h.1, h.2.1, fun hn => by
  obtain ⟨g, rest, e, hg, hk, hc⟩ := h.2.2 hn
  exact ⟨g, rest, e, hg, hk.far (by omega) u, hc⟩⟩
end
section
open Go.RowKit
theorem Num.len_le {b : Nat} {zs : List Nat} {n k : Nat} (hb : 1 < b) (h : Num b zs n) (hn : n < b ^ k) : zs.length ≤ k := by
 by_cases h0 : zs = []
 ·subst h0; simp
 ·have h1 := h.ge h0
  have h2 : b ^ (zs.length - 1) < b ^ k := by omega
  have := (Nat.pow_lt_pow_iff_right hb).1 h2
  omega
theorem mul_lt_pow {b n t l : Nat} (hn : n < b ^ l) (ht : t < b) : n * t < b ^ (l + 1) := by
 have h1 : n * t ≤ n * b := Nat.mul_le_mul_left _ (Nat.le_of_lt ht)
 have h2 : n * b < b ^ l * b := (Nat.mul_lt_mul_right (by omega)).2 hn
 rw [Nat.pow_succ]
 omega
theorem add_lt_pow {b n x r l : Nat} (hn : n < b ^ l) (hx : x < b) (hr : r < n) : x + b * r < b ^ (l + 1) := by
 have h1 : b * (r + 1) ≤ b * b ^ l := Nat.mul_le_mul_left _ (by omega)
 rw [Nat.mul_add, Nat.mul_one] at h1
 rw [Nat.pow_succ, Nat.mul_comm (b ^ l)]
 omega
theorem digit_or (D j d0 : Nat) (hj : j < 32) (hD : D < 4294967296) (h : d0 = D / 2 ^ (j + 1) * 2 ^ (j + 1)) : bits BinOp.or IntKind.u32 (d0 : Int) (2 ^ j % 4294967296) = ((d0 + 2 ^ j : Nat) : Int) ∧ d0 + 2 ^ j < 4294967296 := by
 have hp : 0 < 2 ^ j := Nat.two_pow_pos j
 have hj2 : 2 ^ j < 2 ^ 32 := Nat.pow_lt_pow_right (by omega) hj
 have hd : d0 ≤ D := by rw [h]; exact Nat.div_mul_le_self _ _
 have e1 : ((2 : Int) ^ j % 4294967296) = ((2 ^ j : Nat) : Int) := by
  rw [show ((2 : Int) ^ j) = ((2 ^ j : Nat) : Int) from by simp]; omega
 have e2 : d0 ||| 2 ^ j = d0 + 2 ^ j := by
  rw [h, or_shift (2 ^ j) (D / 2 ^ (j + 1)) (j + 1) (Nat.pow_lt_pow_right (by omega) (by omega)), Nat.mul_comm, Nat.add_comm]
 refine ⟨?_, ?_⟩
 ·rw [e1, u32_or_nat d0 (2 ^ j) (by omega) (by omega), e2]
 ·have e3 : 2 ^ (31 - j) * 2 ^ (j + 1) = 4294967296 := by rw [← Nat.pow_add, show 31 - j + (j + 1) = 32 from by omega]
  have h4 : D / 2 ^ (j + 1) < 2 ^ (31 - j) := by rw [Nat.div_lt_iff_lt_mul (Nat.two_pow_pos _), e3]; exact hD
  have h5 : (D / 2 ^ (j + 1) + 1) * 2 ^ (j + 1) ≤ 2 ^ (31 - j) * 2 ^ (j + 1) := Nat.mul_le_mul_right _ h4
  rw [e3, Nat.succ_mul, ← h, Nat.pow_succ] at h5
  omega
set_option maxHeartbeats 1600000 in
theorem rdiv_any (A A2 : Option Addr) (c c2 : Nat) (xs ys : List Nat) (w : World) (B : Nat) (hr : Rd w B A (u32s xs)) (hr2 : Rd w B A2 (u32s ys)) (hB : B ≤ w.heap.size) (hd : Dig 4294967296 xs) (hd2 : Dig 4294967296 ys) (hm : xs.length ≤ 70368744170000) (hm2 : ys.length ≤ 35184372088700) (hpos : 0 < val 4294967296 ys) :
  Calls Tryz.prog 51 #[.slice A xs.length c, .slice A2 ys.length c2] w fun e w' => ∃ qs rs A1 c1 A3 c3, e = .returned (.tuple #[.slice A1 qs.length c1, .slice A3 rs.length c3]) ∧ Num 4294967296 qs (val 4294967296 xs / val 4294967296 ys) ∧ Num 4294967296 rs (val 4294967296 xs % val 4294967296 ys) ∧ Res w' w.heap.size 34 A1 c1 (u32s qs) ∧ Res w' w.heap.size 34 A3 c3 (u32s rs) ∧ Below w.heap.size w w' := by
 have hl1 := trimL_length_le xs
 have hl2 := trimL_length_le ys
 obtain ⟨n, hnv⟩ : ∃ n, n = val 4294967296 ys := ⟨_, rfl⟩
 have hn2 : Num 4294967296 (trimL ys) n := by rw [hnv]; exact Num.of_trim hd2
 have Hvx := hi9 (val_trim 4294967296 xs)
 rw [← hnv] at hpos ⊢
 have hdp := hd.trim_
 have hdq := hn2.1
 go_enter Tryz.func51, Tryz.ntmps51
 go_wp2_with fail
 refine (rnorm_any A c xs _ B hr hB (by omega)).mono ?_
 rintro e w1 ⟨A1, c1, rfl, hres1, hb1⟩
 go_wp2_with fail
 refine (rnorm_any A2 c2 ys _ B (hr2.below (hb1.mono hB)) (Nat.le_trans hB hb1.size) (by omega)).mono ?_
 rintro e w2 ⟨A3, c3, rfl, hres2, hb2⟩
 have hres1' := hres1.below hb2 nl9
 have hra := hres1'.rd
 have hrb := hres2.rd
 have hb12 := hb1.trans (hb2.mono hb1.size)
 obtain ⟨ps, hps⟩ : ∃ ps, ps = trimL xs := ⟨_, rfl⟩
 obtain ⟨qs0, hqs0⟩ : ∃ qs0, qs0 = trimL ys := ⟨_, rfl⟩
 rw [← hps] at hl1 hdp hra
 rw [← hqs0] at hl2 hdq hrb hn2
 rw [← hps, ← hqs0]
 have Hps := hi9 hps
 have hvn : Hid (val 4294967296 qs0 = n) := hn2.2.2
 have hnlt := hn2.lt
 have hmk := fun W => mk32 ps.length (by omega) W
 have hs1 : w.heap.size ≤ w2.heap.size := hb12.size
 have hpl : ps.length ≤ 70368744170000 := by omega
 have hql : qs0.length ≤ 35184372088700 := by omega
 clear hps hqs0 hres1 hres1' hres2 hb1 hb2 hnv hr hr2
 go_wp2_with fail
 go_loopw [7, 8, 9, 10, 11] (fun rv i _ _ _ wr => ∃ (k R : Nat) (qs rs : List Nat) (A4 : Option Addr) (c4 : Nat), k ≤ ps.length ∧ i = .int .i64 ((k : Int) - 1) ∧ rv = .slice A4 rs.length c4 ∧ Num 4294967296 rs R ∧ Res wr (w2.heap.size + 1) 34 A4 c4 (u32s rs) ∧ Blk wr w2.heap.size 34 (u32s qs) ∧ Longed ps n k qs R ∧ Below w2.heap.size w2 wr) (fun _ i _ _ _ _ => (intOf i + 1).toNat)
 case atStart => exact ⟨ps.length, 0, List.replicate ps.length 0, [], none, 0, Nat.le_refl _, by go_num, rfl, Num.zero_ _, Res.none_, Blk.new_ (by simp [u32s]), Longed.start ps n hpos, br9.alloc nl9 _⟩
 case round =>
  obtain ⟨k, R, qs, rs, A4, c4, hk, rfl, rfl, hnr, hrr, hblk, hlg, hbel⟩ := hrel
  rcases k with _ | k
  ·obtain ⟨hv1, hv2⟩ := hlg.last
   rw [Hps.out, Hvx.out] at hv1 hv2
   have hqlen : Hid (qs.length = ps.length) := hlg.1
   have hqm : qs.length ≤ 70368744177664 := by rw [hlg.1]; omega
   have hrd := (Res.of_blk0 hblk nl9 (by rw [u32s_length]; omega)).rd
   have Hv1 := hi9 hv1
   have Hv2 := hi9 hv2
   clear hv1 hv2
   go_wp2_with fail
   rw [← hqlen.out]
   refine (rnorm_any _ _ qs wr _ hrd nl9 hqm).mono ?_
   rintro e w5 ⟨A7, c7, rfl, hres, hb5⟩
   go_wp2
   go_ret2
   have hs2 := hbel.size
   refine ⟨trimL qs, rs, A7, c7, A4, c4, rfl, ?_, ?_, hres.mono (by omega), (hrr.below hb5 nl9).mono (by omega), hb12.trans ((hbel.trans (hb5.mono hs2)).mono hs1)⟩
   ·rw [← Hv1.out]; exact Num.of_trim hlg.2.1
   ·rw [← Hv2.out]; exact hnr
  ·rw [show ((k + 1 : Nat) : Int) - 1 = (k : Int) from by omega]
   have hkp : k < ps.length := by omega
   have hrl : rs.length ≤ qs0.length := hnr.len_le (by omega) (Nat.lt_trans hlg.2.2.1 hnlt)
   obtain ⟨b, off, rfl, hbb, hcell⟩ := hra (by intro e; have := u32s_length ps; rw [e] at this; simp at this; omega)
   have hx := (hbel.cell (p := ⟨b, off + k, none⟩) hbb).trans (hcell k _ (u32s_at hkp))
   have hxd := hdp.at_ k hkp
   clear hcell
   go_wp2_with fail
   refine (rshift_any A4 c4 rs ps[k] _ _ hrr.rd nl9 hnr.1 hxd (by omega)).mono ?_
   rintro e w3 ⟨ts, A5, c5, rfl, hnt, hrt, hb3⟩
   have hs3 := hb3.size
   have hs2 := hbel.size
   have hblk3 := hblk.below hb3 hblk.lt
   have hbel3 := hbel.trans (hb3.mono hs2)
   go_wp2_with fail
   have htl : ts.length ≤ qs0.length + 1 := by
    refine hnt.len_le (by omega) ?_
    rw [hnr.2.2]
    exact add_lt_pow hnlt hxd hlg.2.2.1
   refine (rcmp_any A5 A3 c5 c3 ts qs0 _ w3.heap.size hrt.rd (hrb.below hbel3 |>.mono (Nat.le_trans hs2 hs3)) hnt.1 hdq (by omega) (by omega)).mono ?_
   rintro e w4 ⟨rfl, rfl⟩
   have hvt : val 4294967296 ts = ps[k] + 4294967296 * R := by rw [hnt.2.2, hnr.2.2]
   rw [hvt, hvn.out]
   obtain ⟨R1, hR1⟩ : ∃ R1, R1 = ps[k] + 4294967296 * R := ⟨_, rfl⟩
   rw [← hR1] at hvt ⊢
   have hnt1 : Num 4294967296 ts R1 := by rw [← hvt]; exact ⟨hnt.1, hnt.2.1, rfl⟩
   rcases Nat.lt_or_ge R1 n with hlt | hge
   ·rw [show cmpN R1 n = -1 from by simp [cmpN, hlt]]
    have hsm := hlg.small hkp (by rw [← hR1]; exact hlt)
    rw [← hR1] at hsm
    clear hR1 hvt hx
    go_wp2
    go_roundw
    case rel => exact ⟨k, R1, qs, ts, A5, c5, by omega, by go_num, rfl, hnt1, hrt.mono (by have := hblk.lt; omega), hblk3, hsm, hbel3⟩
    case measure => simp [intOf]
   ·have hc0 : 0 ≤ cmpN R1 n := by unfold cmpN; split <;> (try split) <;> omega
    obtain ⟨cm, hcm⟩ : ∃ cm : Int, cm = cmpN R1 n := ⟨_, rfl⟩
    rw [← hcm] at hc0 ⊢
    obtain ⟨hD, hst⟩ := hlg.step hkp hxd
    rw [← hR1] at hD hst
    obtain ⟨D, hDe⟩ : ∃ D, D = R1 / n := ⟨_, rfl⟩
    rw [← hDe] at hD hst
    have HDe := hi9 hDe
    have Hst := hi9 hst
    clear hcm hR1 hvt hx hDe hst
    go_wp2_with fail
    go_loopw [9, 10, 11] (fun dv kv _ wq => ∃ j : Nat, j ≤ 32 ∧ kv = .int .i64 ((j : Int) - 1) ∧ dv = .int .u32 ((D / 2 ^ j * 2 ^ j : Nat) : Int) ∧ Below w3.heap.size w3 wq) (fun _ kv _ _ => (intOf kv + 1).toNat)
    case atStart => exact ⟨32, by omega, by go_num, by rw [Nat.div_eq_of_lt hD]; rfl, br9⟩
    case round =>
     obtain ⟨j, hj, rfl, rfl, hbq⟩ := hrel
     rcases j with _ | j
     ·simp only [Nat.pow_zero, Nat.div_one, Nat.mul_one]
      have hkq : k < qs.length := by rw [hlg.1]; exact hkp
      have hbq2 := hblk3.below hbq hblk3.lt
      have hcq := (hbq2.cell k).trans (u32s_at hkq)
      have hfq := hbq2.frozen k
      have hbs : Blk (wr.setCell ⟨w2.heap.size, k, none⟩ (.int .u32 (D : Int))) w2.heap.size 34 (u32s (qs.set k D)) := by
       have := hbq2.set_ k (Value.int IntKind.u32 (D : Int))
       rwa [u32s_set] at this
      have hs4 := hbq.size
      have hb2s : Below w2.heap.size w2 (wr.setCell ⟨w2.heap.size, k, none⟩ (.int .u32 (D : Int))) := (hbel3.trans (hbq.mono (Nat.le_trans hs2 hs3))).setCell (p := ⟨w2.heap.size, k, none⟩) nl9 _
      have hrs : Res (wr.setCell ⟨w2.heap.size, k, none⟩ (.int .u32 (D : Int))) (w2.heap.size + 1) 34 A5 c5 (u32s ts) := ((hrt.mono (by have := hblk.lt; omega)).below hbq nl9).setCell (by show w2.heap.size < _; omega) _
      obtain ⟨ws, hws⟩ : ∃ ws, ws = wr.setCell ⟨w2.heap.size, k, none⟩ (.int .u32 (D : Int)) := ⟨_, rfl⟩
      go_wp2_with fail
      rw [← hws] at hbs hb2s hrs ⊢
      have hzs := hb2s.size
      refine (rsmall_any A3 c3 qs0 D _ _ (hrb.below hb2s) hzs hdq hD (by omega)).mono ?_
      rintro e w5 ⟨ms, A6, c6, rfl, hnm, hrm, hb5⟩
      have hmt : ms.length ≤ qs0.length + 1 := by
       refine hnm.len_le (by omega) ?_
       rw [hvn.out]
       exact mul_lt_pow hnlt hD
      have hmv : val 4294967296 ms ≤ val 4294967296 ts := by
       rw [hnm.2.2, hnt1.2.2, hvn.out, HDe.out]; exact Nat.mul_div_le _ _
      have hb25 := hb2s.trans (hb5.mono hzs)
      have hrs5 := hrs.below hb5 nl9
      clear hws
      go_wp2_with fail
      refine (rsub_any A5 A6 c5 c6 ts ms _ w5.heap.size hrs5.rd hrm.rd nl9 hnt1.1 hnm.1 (by omega) (by omega) hmv).mono ?_
      rintro e w6 ⟨ns, A7, c7, rfl, hnn, hrn, hb6⟩
      have hnv : Num 4294967296 ns (R1 % n) := by
       have e1 : val 4294967296 ts - val 4294967296 ms = R1 % n := by
        rw [hnm.2.2, hnt1.2.2, hvn.out, HDe.out]
        have := Nat.div_add_mod R1 n
        omega
       rw [← e1]; exact hnn
      have hsz5 := hb5.size
      have hblt := hbs.lt
      go_wp2
      go_roundw
      case rel =>
       refine ⟨k, R1 % n, qs.set k D, ns, A7, c7, by omega, by go_num, rfl, hnv, hrn.mono (by omega), (hbs.below hb5 hblt).below hb6 (by omega), Hst.out, hb25.trans (hb6.mono (by omega))⟩
      case measure => simp [intOf]
     ·rw [show ((j + 1 : Nat) : Int) - 1 = (j : Int) from by omega]
      obtain ⟨d0, hd0⟩ : ∃ d0, d0 = D / 2 ^ (j + 1) * 2 ^ (j + 1) := ⟨_, rfl⟩
      have hd0b : d0 < 4294967296 := by rw [hd0]; exact Nat.lt_of_le_of_lt (Nat.div_mul_le_self _ _) hD
      rw [← hd0]
      obtain ⟨eor, htb⟩ := digit_or D j d0 (by omega) hD hd0
      obtain ⟨tt, htt⟩ : ∃ tt, tt = d0 + 2 ^ j := ⟨_, rfl⟩
      rw [← htt] at eor htb
      have Hd0 := hi9 hd0
      have Htt := hi9 htt
      clear hd0 htt
      go_wp2_with fail
      refine (rsmall_any A3 c3 qs0 tt _ _ ((hrb.below hbel3).below (hbq.mono (Nat.le_trans hs2 hs3))) (Nat.le_trans (Nat.le_trans hs2 hs3) hbq.size) hdq htb (by omega)).mono ?_
      rintro e w5 ⟨ms, A6, c6, rfl, hnm, hrm, hb5⟩
      have hmt : ms.length ≤ qs0.length + 1 := by
       refine hnm.len_le (by omega) ?_
       rw [hvn.out]
       exact mul_lt_pow hnlt htb
      have hb35 := hbq.trans (hb5.mono hbq.size)
      have hrt5 := hrt.rd.below hb35
      have hsz5 := hb35.size
      go_wp2_with fail
      refine (rcmp_any A6 A5 c6 c5 ms ts _ w5.heap.size hrm.rd (hrt5.mono hsz5) hnm.1 hnt1.1 (by omega) (by omega)).mono ?_
      rintro e w6 ⟨rfl, rfl⟩
      rw [hnm.2.2, hnt1.2.2, hvn.out]
      by_cases hle : tt ≤ D
      ·have h1 : tt * n ≤ R1 := by rw [← Nat.le_div_iff_mul_le hpos, ← HDe.out]; exact hle
       have hc1 : cmpN (n * tt) R1 ≤ 0 := by
        rw [Nat.mul_comm]; unfold cmpN; split <;> (try split) <;> omega
       obtain ⟨cm2, hcm2⟩ : ∃ cm2 : Int, cm2 = cmpN (n * tt) R1 := ⟨_, rfl⟩
       rw [← hcm2] at hc1 ⊢
       have hby := bit_yes D j (by rw [← Hd0.out, ← Htt.out]; exact hle)
       rw [← Hd0.out, ← Htt.out] at hby
       have Hby := hi9 hby
       clear hcm2 hby h1 hle
       go_wp2
       go_roundw
       case rel => exact ⟨j, by omega, by go_num, by rw [Hby.out], hb35⟩
       case measure => simp [intOf]
      ·have h1 : R1 < tt * n := by
        rcases Nat.lt_or_ge R1 (tt * n) with h | h
        ·exact h
        ·exact absurd (by rw [HDe.out, Nat.le_div_iff_mul_le hpos]; exact h) hle
       have hc1 : cmpN (n * tt) R1 = 1 := by
        rw [Nat.mul_comm]; unfold cmpN; rw [if_neg (by omega), if_pos h1]
       rw [hc1]
       have hbn := bit_no D j (by rw [← Hd0.out, ← Htt.out]; exact hle)
       rw [← Hd0.out] at hbn
       have Hbn := hi9 hbn
       clear hc1 hbn h1 hle
       go_wp2
       go_roundw
       case rel => exact ⟨j, by omega, by go_num, by rw [Hbn.out], hb35⟩
       case measure => simp [intOf]
end
end Go.Proofs.YtcjgilagldbjnaaGreatDoor
