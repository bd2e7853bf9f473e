/- An integer that is answered in normal form, as it is held; what bounds its size. No conditions. What is spared while variables turn; integers that lie apart from the variables; variables that hold integers. No conditions. The contracts of the reference's Add and Mul. Conditions: fewer limbs than any slice can have. Plain numbers for the reference's Div. The contract of the reference's Div. Conditions: the divisor is not 0; fewer limbs than any slice can have. -/
import Derived.Test.YtcjgilagldbjnaaDoorPkBe25
import Derived.Test.YtcjgilagldbjnaaDoorPkBe20
import Derived.Test.YtcjgilagldbjnaaDoorPkBe18
namespace Go.Proofs.YtcjgilagldbjnaaDoor
section
open Go.RowKit

/-- An integer that is held in normal form, of at most K limbs. -/
structure Zn (w : World) (A : Option Addr) (c : Nat) (zs : List Nat) (z : Int) (K : Nat) : Prop where
  num : Num 4294967296 zs z.natAbs
  rd : Rd w w.heap.size A (u32s zs)
  cap : zs.length ≤ c
  len : zs.length ≤ K
/-- What an operation on integers answers, without a word on whose memory it lies in. -/
def ZnOut (w w' : World) (z : Int) (K : Nat) (e : Ending) : Prop := ∃ zs A' c', e = .returned (.agg #[.bool (isNeg z), .slice A' zs.length c']) ∧ Zn w' A' c' zs z K ∧ Below w.heap.size w w'
section
variable {w w' : World} {A A2 : Option Addr} {c c2 K J : Nat} {zs ys : List Nat} {z y : Int} {g g2 : Bool} {e : Ending}
theorem Zn.next (h : Zn w A c zs z K) (hb : Below w.heap.size w w') : Zn w' A c zs z K := ⟨h.num, (h.rd.below hb).mono hb.size, h.cap, h.len⟩
theorem Zn.zh (h : Zn w A c zs z K) : Zh w (isNeg z) A c zs z K := ⟨⟨h.num.1, h.num.2.2, h.rd, h.cap, h.len⟩, ival_abs z⟩
theorem Zn.hv (h : Zn w A c zs z K) : Hv w A c zs z.natAbs K := h.zh.hv
theorem Zn.up (h : Zn w A c zs z K) (hJ : K ≤ J) : Zn w A c zs z J := ⟨h.num, h.rd, h.cap, Nat.le_trans h.len hJ⟩
theorem Zn.to (h : Zn w A c zs z K) (e : z = y) : Zn w A c zs y K := e ▸ h
theorem Zn.lt (h : Zn w A c zs z K) : z.natAbs < 4294967296 ^ K := h.hv.lt
theorem Zh.lt (h : Zh w g A c zs z K) : z.natAbs < 4294967296 ^ K := h.hv.lt
theorem Zn.shrink {B : Nat} (h : Num 4294967296 zs z.natAbs) (hr : Res w B 43 A c (u32s zs)) (hK : z.natAbs < 4294967296 ^ K) : Zn w A c zs z K :=
  ⟨h, hr.rd, by have := hr.1; rwa [u32s_length] at this, num32_len h (Nat.le_refl _) hK⟩
theorem ZOut.n (h : ZOut w w' z e) (hK : z.natAbs < 4294967296 ^ K) : ZnOut w w' z K e := by
  obtain ⟨zs, A, c, rfl, hz, hr, hb⟩ := h
  exact ⟨zs, A, c, rfl, Zn.shrink hz hr hK, hb⟩
theorem ZnOut.to (h : ZnOut w w' z K e) (e9 : z = y) : ZnOut w w' y K e := e9 ▸ h
theorem ZOut.to (h : ZOut w w' z e) (e9 : z = y) : ZOut w w' y e := e9 ▸ h
end
end
section
open Go.RowKit

theorem bdw {B : Nat} {a w : World} (h : Below B a w) : Below B a w.drew := ⟨h.os, h.tape, h.output, h.size, h.block⟩
theorem bst {B : Nat} {a b c : World} (h : Below B a b) (k : Below b.heap.size b c) (hB : B ≤ a.heap.size) : Below B a c := h.trans (k.mono (Nat.le_trans hB h.size))
theorem bsc {B g i : Nat} {a w : World} (h : Below B a w) (hg : B ≤ g) (u : Value) : Below B a (w.setCell ⟨g, i, none⟩ u) := h.setCell (p := ⟨g, i, none⟩) hg u
theorem Blk.c0 {w : World} {g : Nat} {t : TypeId} {x y : Value} (h : Blk w g t [x, y]) : w.cell? ⟨g, 0, none⟩ = some x := h.cell 0
theorem Blk.c1 {w : World} {g : Nat} {t : TypeId} {x y : Value} (h : Blk w g t [x, y]) : w.cell? ⟨g, 1, none⟩ = some y := h.cell 1
theorem Blk.two {w : World} {g : Nat} {t : TypeId} {x y : Value} (h : Blk w g t [x, y]) : w.cell? ⟨g, 0, none⟩ = some x ∧ w.cell? ⟨g, 1, none⟩ = some y ∧ w.frozen? ⟨g, 0, none⟩ = false ∧ w.frozen? ⟨g, 1, none⟩ = false := ⟨h.c0, h.c1, h.frozen 0, h.frozen 1⟩

/-- Only the blocks that are named, and new ones, may be other than they were. -/
structure Sp (vs : List Nat) (w w' : World) : Prop where
  size : w.heap.size ≤ w'.heap.size
  block : ∀ k, k < w.heap.size → k ∉ vs → w'.heap[k]? = w.heap[k]?
section
variable {vs : List Nat} {w w' w2 : World} {g i : Nat}
theorem Sp.refl (vs : List Nat) (w : World) : Sp vs w w := ⟨Nat.le_refl _, fun _ _ _ => rfl⟩
theorem Sp.below (h : Sp vs w w') (hb : Below w'.heap.size w' w2) : Sp vs w w2 := ⟨Nat.le_trans h.size hb.size, fun k hk hv => (hb.block k (by have := h.size; omega)).trans (h.block k hk hv)⟩
theorem Sp.trans (h : Sp vs w w') (k : Sp vs w' w2) : Sp vs w w2 := ⟨Nat.le_trans h.size k.size, fun i hi hv => (k.block i (by have := h.size; omega) hv).trans (h.block i hi hv)⟩
theorem Sp.set (h : Sp vs w w') (hg : g ∈ vs) (u : Value) : Sp vs w (w'.setCell ⟨g, i, none⟩ u) :=
  ⟨by simpa [World.setCell] using h.size, fun k hk hv => (Below.heap_setCell _ _ _ _ (by rintro rfl; exact hv hg)).trans (h.block k hk hv)⟩
theorem Sp.of (hb : Below w.heap.size w w') : Sp vs w w' := (Sp.refl vs w).below hb
end

/-- An integer in normal form, in memory from block B on and apart from the blocks that are named. -/
structure Zi (B : Nat) (vs : List Nat) (w : World) (A : Option Addr) (c : Nat) (zs : List Nat) (z : Int) (K : Nat) : Prop where
  num : Num 4294967296 zs z.natAbs
  res : Res w B 43 A c (u32s zs)
  len : zs.length ≤ K
  av : zs ≠ [] → ∀ a, A = some a → a.block ∉ vs
section
variable {B B2 : Nat} {vs : List Nat} {w w' : World} {A : Option Addr} {c K J g : Nat} {zs : List Nat} {z y : Int}
theorem u32s_nil {xs : List Nat} (h : u32s xs ≠ []) : xs ≠ [] := fun e => h (by rw [e]; rfl)
theorem Zi.sp (h : Zi B vs w A c zs z K) (s : Sp vs w w') : Zi B vs w' A c zs z K :=
  ⟨h.num, ⟨h.res.1, h.res.2.1, fun hn => by
    obtain ⟨b, rest, rfl, hb, hk, hl⟩ := h.res.2.2 hn
    exact ⟨b, rest, rfl, hb, (s.block b hk.lt (h.av (u32s_nil hn) _ rfl)).trans hk, hl⟩⟩, h.len, h.av⟩
theorem Zi.next (h : Zi B vs w A c zs z K) (hb : Below w.heap.size w w') : Zi B vs w' A c zs z K := h.sp (Sp.of hb)
theorem Zi.cap (h : Zi B vs w A c zs z K) : zs.length ≤ c := by have := h.res.1; rwa [u32s_length] at this
theorem Zi.zn (h : Zi B vs w A c zs z K) : Zn w A c zs z K := ⟨h.num, h.res.rd, h.cap, h.len⟩
theorem Zi.zh (h : Zi B vs w A c zs z K) : Zh w (isNeg z) A c zs z K := h.zn.zh
theorem Zi.of (h : Num 4294967296 zs z.natAbs) (hr : Res w B2 43 A c (u32s zs)) (hK : z.natAbs < 4294967296 ^ K) (hB : B ≤ B2) (hvs : ∀ v ∈ vs, v < B2) : Zi B vs w A c zs z K :=
  ⟨h, hr.mono hB, num32_len h (Nat.le_refl _) hK, fun hn a e hm => by
    obtain ⟨b, rest, rfl, hb, _, _⟩ := hr.2.2 (by intro e2; apply hn; have := u32s_length zs; rw [e2] at this; exact List.eq_nil_of_length_eq_zero this.symm)
    cases e
    have h9 : b < B2 := hvs _ hm
    omega⟩
theorem Zi.to (h : Zi B vs w A c zs z K) (e : z = y) : Zi B vs w A c zs y K := e ▸ h
theorem Zi.up (h : Zi B vs w A c zs z K) (hK : z.natAbs < 4294967296 ^ J) : Zi B vs w A c zs z J := ⟨h.num, h.res, num32_len h.num (Nat.le_refl _) hK, h.av⟩
theorem Zi.lt (h : Zi B vs w A c zs z K) : z.natAbs < 4294967296 ^ K := h.zn.lt
end

/-- A variable that holds an integer. -/
def Vz (B : Nat) (vs : List Nat) (w : World) (g : Nat) (z : Int) (K : Nat) : Prop :=
  ∃ A c zs, Blk w g 25 [.bool (isNeg z), .slice A zs.length c] ∧ Zi B vs w A c zs z K
section
variable {B B2 : Nat} {vs : List Nat} {w w' w2 : World} {A : Option Addr} {c K J g h : Nat} {zs : List Nat} {z y : Int}
theorem Vz.next (v : Vz B vs w g z K) (hb : Below w.heap.size w w') : Vz B vs w' g z K := by
  obtain ⟨A, c, zs, hk, hz⟩ := v
  exact ⟨A, c, zs, hk.below hb hk.lt, hz.next hb⟩
theorem Vz.lt (v : Vz B vs w g z K) : g < w.heap.size := by
  obtain ⟨A, c, zs, hk, hz⟩ := v
  exact hk.lt
/-- Behind a store into another variable. -/
theorem Vz.other (v : Vz B vs w g z K) (hh : h ∈ vs) (hne : g ≠ h) (x y : Value) : Vz B vs ((w.setCell ⟨h, 0, none⟩ x).setCell ⟨h, 1, none⟩ y) g z K := by
  obtain ⟨A, c, zs, hk, hz⟩ := v
  exact ⟨A, c, zs, (hk.far (p := ⟨h, 0, none⟩) hne _).far (p := ⟨h, 1, none⟩) hne _, hz.sp (((Sp.refl vs w).set hh _).set hh _)⟩
/-- Behind a store into the variable. -/
theorem Vz.own {x0 y0 : Value} (hk : Blk w g 25 [x0, y0]) (hh : g ∈ vs) (hz : Zi B vs w A c zs z K) : Vz B vs ((w.setCell ⟨g, 0, none⟩ (.bool (isNeg z))).setCell ⟨g, 1, none⟩ (.slice A zs.length c)) g z K :=
  ⟨A, c, zs, blk_pair hk _ _, hz.sp (((Sp.refl vs w).set hh _).set hh _)⟩
end
end
section
open Go.RowKit

theorem add_at0 {b : Nat} {xs ys : List Nat} {k : Nat} : val b (xs.take k) + val b (ys.take k) + b ^ k * (at0 xs k + at0 ys k) = val b (xs.take (k + 1)) + val b (ys.take (k + 1)) := by
  rw [val_take_at0, val_take_at0, Nat.mul_add]; omega

set_option maxHeartbeats 1600000 in
theorem radd_any (A A2 : Option Addr) (c c2 : Nat) (xs ys : List Nat) (w : World) (B : Nat) (hr : Rd w B A (u32s xs)) (hr2 : Rd w B A2 (u32s ys)) (hB : B ≤ w.heap.size) (hd : Dig 4294967296 xs) (hd2 : Dig 4294967296 ys) (hm : xs.length ≤ 70368744170000) (hm2 : ys.length ≤ 70368744170000) :
    Calls Tryd.prog 16 #[.slice A xs.length c, .slice A2 ys.length c2] w fun e w' => ∃ zs A' c', e = .returned (.slice A' zs.length c') ∧ Num 4294967296 zs (val 4294967296 xs + val 4294967296 ys) ∧ Res w' w.heap.size 43 A' c' (u32s zs) ∧ Below w.heap.size w w' := by
  have hm1 : xs.length ≤ 281474976710656 := by omega
  have hm3 : ys.length ≤ 281474976710656 := by omega
  go_enter Tryd.func16, Tryd.ntmps16
  go_upto_if 15 with (fail)
  go_cut [5] (fun s wc => ∃ n : Nat, s = .int .i64 n ∧ xs.length ≤ n ∧ ys.length ≤ n ∧ n ≤ 70368744170000 ∧ wc = w)
  case first =>
    by_cases hlt : xs.length < ys.length
    · go_wp2
      go_meet
      exact ⟨ys.length, rfl, by omega, by omega, by omega, rfl⟩
    · go_wp2
      go_meet
      exact ⟨xs.length, rfl, by omega, by omega, by omega, rfl⟩
  case rest =>
    obtain ⟨n, rfl, hn1, hn2, hnm, rfl⟩ := hcut
    have hmk := fun W => mk32s n (by omega) W
    obtain ⟨os, hos⟩ : ∃ os, os = List.replicate (n + 1) 0 := ⟨_, rfl⟩
    have hol : os.length = n + 1 := by rw [hos]; simp
    have ho0 : Hid (∀ k (h : k < os.length), os[k] = 0) := by subst hos; exact fun k h => by simp
    have hov : Hid (val 4294967296 os = 0) := by rw [hos]; exact val_zeros _ _
    have hod : Dig 4294967296 os := by rw [hos]; exact Dig.zeros_ (by omega) _
    have hblk0 : Blk (wc.alloc (.cells (Array.replicate (n + 1) (Value.int .u32 0)) 43)) wc.heap.size 43 (u32s os) := by rw [hos]; exact Blk.new_ (by simp [u32s])
    have Hol := Lib.hid hol
    clear hos hol
    go_wp2_with fail
    go_loopw [7, 8, 9, 23] (fun cv _ _ i wr => ∃ (k cc : Nat) (zs : List Nat), k ≤ n + 1 ∧ i = .int .i64 k ∧ cv = .int .u64 cc ∧ cc ≤ 1 ∧ Blk wr wc.heap.size 43 (u32s zs) ∧ Acc 4294967296 os (val 4294967296 (xs.take k) + val 4294967296 (ys.take k)) k zs cc ∧ Below wc.heap.size wc wr) (fun _ _ _ i _ => n + 1 - (intOf i).toNat)
    case atStart => exact ⟨0, 0, os, by omega, rfl, rfl, by omega, hblk0, by simpa [val] using Acc.start hod, (Below.refl _ _).alloc (Nat.le_refl _) _⟩
    case round =>
      clear hblk0
      obtain ⟨k, cc, zs, hk, rfl, rfl, hcc, hblk, hacc, hbel⟩ := hrel
      by_cases hlt : k < n + 1
      · have hko : k < os.length := by rw [Hol.out]; exact hlt
        obtain ⟨hz1, hzk⟩ := hacc.at_ hko
        have hc2 := (hblk.cell k).trans (u32s_at hz1)
        have hf2 := hblk.frozen k
        have ha := at0_lt hd k
        have hb := at0_lt hd2 k
        obtain ⟨x, hxe⟩ : ∃ x, x = at0 xs k := ⟨_, rfl⟩
        obtain ⟨y, hye⟩ : ∃ y, y = at0 ys k := ⟨_, rfl⟩
        rw [← hxe] at ha
        rw [← hye] at hb
        obtain ⟨sm, hsme⟩ : ∃ sm, sm = x + y + cc := ⟨_, rfl⟩
        have e2 : (x : Int) + (y : Int) + (cc : Int) = (sm : Int) := by omega
        have hsb : sm < 8589934592 := by omega
        have hrw := hr.below (hbel.mono hB)
        have hrw2 := hr2.below (hbel.mono hB)
        have hkb : k ≤ 9223372036854775807 := by omega
        have hln := hlt
        have Hx := Lib.hid hxe
        have Hy := Lib.hid hye
        have Hsm := Lib.hid hsme
        clear hxe hye hsme hzk
        go_wp2_with (first
          | (go_at_call 34; (with_reducible refine (limb_any A c xs k _ B hrw hd hm1 hkb).mono ?_); rintro e w' ⟨rfl, rfl⟩; rw [← Hx.out])
          | (go_at_call 34; (with_reducible refine (limb_any A2 c2 ys k _ B hrw2 hd2 hm3 hkb).mono ?_); rintro e w' ⟨rfl, rfl⟩; rw [← Hy.out]))
        go_roundw
        case rel =>
          have h9 := hacc.step (d := at0 xs k + at0 ys k) (r := sm % 4294967296) (q := sm / 4294967296) hko (by omega) (by rw [ho0.out k hko, ← Hx.out, ← Hy.out]; have := Hsm.out; omega)
          rw [add_at0] at h9
          refine ⟨k + 1, sm / 4294967296, zs.set k (sm % 4294967296), by omega, by go_num, rfl, by omega, ?_, h9, hbel.setCell (p := ⟨wc.heap.size, k, none⟩) (Nat.le_refl _) _⟩
          have hb2 := hblk.set_ k (Value.int IntKind.u32 ((sm % 4294967296 : Nat) : Int))
          rw [u32s_set] at hb2
          exact hb2
        case measure => simp [intOf]; omega
      · have hkn : k = n + 1 := by omega
        have hkl : n + 1 ≤ k := by omega
        have hlen : zs.length = n + 1 := hacc.2.1.trans Hol.out
        have Hlen := Lib.hid hlen
        have hv : val 4294967296 zs = val 4294967296 xs + val 4294967296 ys := by
          have h9 := hacc.2.2.1
          rw [hov.out, hkn, List.take_of_length_le (by omega), List.take_of_length_le (by omega), Nat.zero_add] at h9
          exact carry_zero2 h9 (sum_lt (by omega) (val_lt_le hd hn1 (by omega)) (val_lt_le hd2 hn2 (by omega)))
        have Hv := Lib.hid hv
        have hrd := (Res.of_blk0 hblk (Nat.le_refl _) (by rw [u32s_length]; omega)).rd
        have hzm : zs.length ≤ 70368744177664 := by omega
        clear hkn hlen hv
        go_wp2_with (go_at_call 35; rw [← Hlen.out]; refine (rnorm_any _ _ zs wr _ hrd (Nat.le_refl _) hzm).mono ?_; rintro e w2 ⟨A', c', rfl, hres, hb⟩)
        go_ret
        refine ⟨trimL zs, A', c', rfl, ?_, hres.mono hbel.size, hbel.trans (hb.mono hbel.size)⟩
        rw [← Hv.out]
        exact Num.of_trim hacc.1

theorem Num.len_le9 {zs : List Nat} {n N : Nat} (h : Num 4294967296 zs n) (hn : n < 4294967296 ^ N) : zs.length ≤ N := by
  rw [← h.2.1]; exact trimL_len_le (by omega) h.1 (by rw [h.2.2]; exact hn)
theorem drop_val {b : Nat} {qs : List Nat} {k : Nat} (h : k < qs.length) : val b (qs.drop k) = qs[k] + b * val b (qs.drop (k + 1)) := by
  rw [List.drop_eq_getElem_cons h]; rfl

set_option maxHeartbeats 3200000 in
set_option maxRecDepth 100000 in
theorem rmul_any (A A2 : Option Addr) (c c2 : Nat) (xs ys : List Nat) (w : World) (B : Nat) (hr : Rd w B A (u32s xs)) (hr2 : Rd w B A2 (u32s ys)) (hB : B ≤ w.heap.size) (hd : Dig 4294967296 xs) (hd2 : Dig 4294967296 ys) (hm : xs.length ≤ 70368744170000) (hm2 : ys.length ≤ 70368744170000) (hmm : (trimL xs).length + (trimL ys).length ≤ 35184372088000) :
    Calls Tryd.prog 18 #[.slice A xs.length c, .slice A2 ys.length c2] w fun e w' => ∃ zs A' c', e = .returned (.slice A' zs.length c') ∧ Num 4294967296 zs (val 4294967296 xs * val 4294967296 ys) ∧ Res w' w.heap.size 43 A' c' (u32s zs) ∧ Below w.heap.size w w' := by
  have hn1 := Num.of_trim hd
  have hn2 := Num.of_trim hd2
  obtain ⟨m, hmv⟩ : ∃ m, m = val 4294967296 xs := ⟨_, rfl⟩
  obtain ⟨n, hnv⟩ : ∃ n, n = val 4294967296 ys := ⟨_, rfl⟩
  rw [← hmv] at hn1
  rw [← hnv] at hn2
  rw [← hmv, ← hnv]
  have HA := Lib.hid (rnorm_any A c xs w B hr hB (by omega))
  have HB := Lib.hid (fun W (hW : Below w.heap.size w W) => rnorm_any A2 c2 ys W B (hr2.below (hW.mono hB)) (Nat.le_trans hB hW.size) (by omega))
  obtain ⟨ps, hps⟩ : ∃ ps, ps = trimL xs := ⟨_, rfl⟩
  obtain ⟨qs, hqs⟩ : ∃ qs, qs = trimL ys := ⟨_, rfl⟩
  rw [← hps] at hn1 hmm HA
  rw [← hqs] at hn2 hmm HB
  have hdp := hn1.1
  have hdq := hn2.1
  have Hm : Hid (val 4294967296 ps = m) := hn1.2.2
  have Hn : Hid (val 4294967296 qs = n) := hn2.2.2
  clear hps hqs hmv hnv hn1 hn2 hr hr2
  go_enter Tryd.func18, Tryd.ntmps18
  go_wp2_with fail
  refine HA.out.mono ?_
  rintro e w1 ⟨A1, c1, rfl, hres1, hb1⟩
  go_wp2_with fail
  refine (HB.out w1 hb1).mono ?_
  rintro e w2 ⟨A3, c3, rfl, hres2, hb2⟩
  have hr1 : Rd w2 w2.heap.size A1 (u32s ps) := (hres1.below hb2 (Nat.le_refl _)).rd
  have hr3 : Rd w2 w2.heap.size A3 (u32s qs) := hres2.rd
  have hB2 := hb1.trans (hb2.mono hb1.size)
  clear HA HB hres1 hres2 hb1 hb2
  go_wp2_with fail
  go_loopw [5, 6] (fun ov iv wr => ∃ (k : Nat) (os : List Nat) (A4 : Option Addr) (c4 : Nat), k ≤ qs.length ∧ iv = .int .i64 ((k : Int) - 1) ∧ ov = .slice A4 os.length c4 ∧ Num 4294967296 os (m * val 4294967296 (qs.drop k)) ∧ Rd wr wr.heap.size A4 (u32s os) ∧ Below w2.heap.size w2 wr) (fun _ iv _ => (intOf iv + 1).toNat)
  case atStart => exact ⟨qs.length, [], none, 0, Nat.le_refl _, rfl, rfl, by simp [val]; exact Num.zero_ _, Rd.nil_, Below.refl _ _⟩
  case round =>
    obtain ⟨k, os, A4, c4, hk, rfl, rfl, hnum, hro, hbel⟩ := hrel
    have hw2s := hB2.size
    rcases k with _ | k
    · go_wp2_with fail
      have hol : os.length ≤ 35184372088000 := by
        have := hnum.len_le9 (N := ps.length + qs.length) (by rw [List.drop_zero, ← Hm.out]; exact prod_lt hdp hdq (by omega))
        omega
      refine (rnorm_any A4 c4 os wr _ hro (Nat.le_refl _) (by omega)).mono ?_
      rintro e w3 ⟨A', c', rfl, hres, hb⟩
      have hwr := hbel.size
      go_wp2_with fail
      go_ret
      refine ⟨trimL os, A', c', rfl, ?_, hres.mono (by omega), hB2.trans ((hbel.mono hw2s).trans (hb.mono (by omega)))⟩
      rw [hnum.2.1]
      rw [List.drop_zero, Hn.out] at hnum
      exact hnum
    · rw [show ((k + 1 : Nat) : Int) - 1 = (k : Int) from by omega]
      have hkq : k < qs.length := by omega
      obtain ⟨b2, off2, rfl, hb2, hy⟩ := hr3.at32 hkq
      have hy := (hbel.cell (p := ⟨b2, off2 + k, none⟩) hb2).trans hy
      have hyd := hdq.at_ k hkq
      have hwr := hbel.size
      have hol : os.length ≤ 35184372088000 := by
        have := hnum.len_le9 (N := ps.length + (qs.drop (k + 1)).length) (by rw [← Hm.out]; exact prod_lt hdp (hdq.drop_ _) (by omega))
        rw [List.length_drop] at this
        omega
      have hpl : ps.length ≤ 35184372088000 := by omega
      obtain ⟨y, hye⟩ : ∃ y, y = qs[k] := ⟨_, rfl⟩
      rw [← hye] at hy hyd
      have hvd := drop_val (b := 4294967296) hkq
      rw [← hye] at hvd
      have Hsh : Hid (∀ W, Below wr.heap.size wr W → Calls Tryd.prog 36 #[.slice A4 os.length c4, .int .u32 0] W fun e w' => ∃ zs A' c', e = .returned (.slice A' zs.length c') ∧ Num 4294967296 zs (4294967296 * (m * val 4294967296 (qs.drop (k + 1)))) ∧ Res w' W.heap.size 43 A' c' (u32s zs) ∧ Below W.heap.size W w') := fun W hW => by
        have h9 := rshift_any A4 c4 os 0 W wr.heap.size (hro.below hW) hW.size hnum.1 (by omega) (by omega)
        rw [hnum.2.2, Nat.zero_add] at h9
        exact h9
      have Hsm : Hid (∀ W, Below wr.heap.size wr W → Calls Tryd.prog 37 #[.slice A1 ps.length c1, .int .u32 (y : Int)] W fun e w' => ∃ zs A' c', e = .returned (.slice A' zs.length c') ∧ Num 4294967296 zs (m * y) ∧ Res w' W.heap.size 43 A' c' (u32s zs) ∧ Below W.heap.size W w') := fun W hW => by
        have h9 := rsmall_any A1 c1 ps y W wr.heap.size (((hr1.below hbel).mono hwr).below hW) hW.size hdp hyd (by omega)
        rw [Hm.out] at h9
        exact h9
      have Hvd : Hid (4294967296 * (m * val 4294967296 (qs.drop (k + 1))) + m * y = m * val 4294967296 (qs.drop k)) := by
        show _ = _
        rw [hvd, Nat.mul_add, ← Nat.mul_assoc, Nat.mul_comm 4294967296 m, Nat.mul_assoc, Nat.add_comm]
      have hsl : ∀ zs, Num 4294967296 zs (4294967296 * (m * val 4294967296 (qs.drop (k + 1)))) → zs.length ≤ 35184372088001 := fun zs hz => by
        have h1 : m * val 4294967296 (qs.drop (k + 1)) < 4294967296 ^ (ps.length + (qs.drop (k + 1)).length) := by rw [← Hm.out]; exact prod_lt hdp (hdq.drop_ _) (by omega)
        have h2 := hz.len_le9 (N := ps.length + (qs.drop (k + 1)).length + 1) (by
          rw [Nat.pow_succ, Nat.mul_comm (4294967296 ^ _)]
          exact Nat.mul_lt_mul_of_pos_left h1 (by omega))
        rw [List.length_drop] at h2
        omega
      have hml : ∀ zs, Num 4294967296 zs (m * y) → zs.length ≤ 35184372088001 := fun zs hz => by
        have h1 : m * y < 4294967296 ^ (ps.length + 1) := by
          rw [← Hm.out, Nat.pow_succ]
          exact Nat.mul_lt_mul_of_lt_of_le (val_lt _ ps hdp) (Nat.le_of_lt hyd) (by omega)
        have h2 := hz.len_le9 h1
        omega
      have Hsl : Hid (∀ zs, Num 4294967296 zs (4294967296 * (m * val 4294967296 (qs.drop (k + 1)))) → zs.length ≤ 35184372088001) := hsl
      have Hml : Hid (∀ zs, Num 4294967296 zs (m * y) → zs.length ≤ 35184372088001) := hml
      have hbw2 : b2 < wr.heap.size := by omega
      clear hye hvd hsl hml hnum
      go_upto_region 6 with (fail)
      go_region_held3 (fun W => W.cell? ⟨b2, off2 + k, none⟩ = some (.int .u32 (y : Int))) (first | go_keep | exact Hca.out | exact Hcb.out | exact Hcc.out) (first
        | (go_at_call 36; (with_reducible refine (Hsh.out _ (by first | exact Below.refl _ _ | exact (Below.refl _ _).drew | exact hBb | exact hBb.drew)).mono ?_); rintro e wa ⟨za, Aa, ca, rfl, hza, hra, hba⟩; have hBa : Below wr.heap.size wr wa := (by first | exact hba | exact (Below.refl _ _).drew.trans hba | exact hBb.trans (hba.mono hBb.size) | exact hBb.drew.trans (hba.mono hBb.size)); have Hca := Lib.hid (show wa.cell? ⟨b2, off2 + k, none⟩ = some (.int .u32 (y : Int)) from (hBa.cell (p := ⟨b2, off2 + k, none⟩) hbw2).trans hy); have hla := Hsl.out _ hza)
        | (go_at_call 37; (with_reducible refine (Hsm.out _ (by first | exact Below.refl _ _ | exact (Below.refl _ _).drew | exact hBa | exact hBa.drew)).mono ?_); rintro e wb ⟨zb, Ab, cb, rfl, hzb, hrb, hbb⟩; have hBb : Below wr.heap.size wr wb := (by first | exact hbb | exact (Below.refl _ _).drew.trans hbb | exact hBa.trans (hbb.mono hBa.size) | exact hBa.drew.trans (hbb.mono hBa.size)); have Hcb := Lib.hid (show wb.cell? ⟨b2, off2 + k, none⟩ = some (.int .u32 (y : Int)) from (hBb.cell (p := ⟨b2, off2 + k, none⟩) hbw2).trans hy); have hlb := Hml.out _ hzb)
        | (go_at_call 16; refine (radd_any Aa Ab ca cb za zb _ _ (by first | exact hra.rd | exact (hra.below hbb (Nat.le_refl _)).rd | exact (hra.below (Below.refl _ _).drew (Nat.le_refl _)).rd | exact ((hra.below (Below.refl _ _).drew (Nat.le_refl _)).below hbb (Nat.le_refl _)).rd) (by first | exact hrb.rd | exact (hrb.below hba (Nat.le_refl _)).rd | exact (hrb.below (Below.refl _ _).drew (Nat.le_refl _)).rd | exact ((hrb.below (Below.refl _ _).drew (Nat.le_refl _)).below hba (Nat.le_refl _)).rd) (Nat.le_refl _) hza.1 hzb.1 (by omega) (by omega)).mono ?_; rintro e wc ⟨zc, Ac, cc, rfl, hzc, hrc, hbc⟩; have hBc : Below wr.heap.size wr wc := (by first | exact hBa.trans (hbc.mono hBa.size) | exact hBb.trans (hbc.mono hBb.size) | exact hBa.drew.trans (hbc.mono hBa.size) | exact hBb.drew.trans (hbc.mono hBb.size)); have Hcc := Lib.hid (show wc.cell? ⟨b2, off2 + k, none⟩ = some (.int .u32 (y : Int)) from (hBc.cell (p := ⟨b2, off2 + k, none⟩) hbw2).trans hy)))
      all_goals
        go_wp2_with fail
        go_roundw
        case rel =>
          have hv := hzc
          rw [hza.2.2, hzb.2.2, Hvd.out] at hv
          exact ⟨k, zc, Ac, cc, by omega, by go_num, rfl, hv, hrc.rd, hbel.trans (hBc.mono hwr)⟩
        case measure => simp [intOf]
end
section
open Go.RowKit

/-- What Div's row and rest are when the limbs from k on are divided. -/
def Longed (xs : List Nat) (n k : Nat) (qs : List Nat) (r : Nat) : Prop :=
  qs.length = xs.length ∧ Dig 4294967296 qs ∧ r < n ∧ val 4294967296 (xs.drop k) = val 4294967296 (qs.drop k) * n + r ∧ ∀ j (h : j < qs.length), j < k → qs[j] = 0
theorem Longed.start (xs : List Nat) (n : Nat) (hn : 0 < n) : Longed xs n xs.length (List.replicate xs.length 0) 0 :=
  ⟨by simp, Dig.zeros_ (by omega) _, hn, by simp [val], fun j h _ => by simp⟩
theorem Longed.small {xs qs : List Nat} {n k r : Nat} (h : Longed xs n (k + 1) qs r) (hk : k < xs.length) (hlt : xs[k] + 4294967296 * r < n) : Longed xs n k qs (xs[k] + 4294967296 * r) := by
  obtain ⟨h1, h2, h3, h4, h5⟩ := h
  refine ⟨h1, h2, hlt, ?_, fun j hj hjk => h5 j hj (by omega)⟩
  have e1 : xs.drop k = xs[k] :: xs.drop (k + 1) := List.drop_eq_getElem_cons hk
  have e2 : qs.drop k = qs[k]'(by omega) :: qs.drop (k + 1) := List.drop_eq_getElem_cons (by omega)
  rw [e1, e2, h5 k (by omega) (by omega)]
  simp only [val]
  rw [h4, Nat.mul_add, Nat.zero_add, Nat.mul_assoc]; omega
theorem Longed.step {xs qs : List Nat} {n k r : Nat} (h : Longed xs n (k + 1) qs r) (hk : k < xs.length) (hx : xs[k] < 4294967296) :
    (xs[k] + 4294967296 * r) / n < 4294967296 ∧ Longed xs n k (qs.set k ((xs[k] + 4294967296 * r) / n)) ((xs[k] + 4294967296 * r) % n) := by
  obtain ⟨h1, h2, h3, h4, h5⟩ := h
  have hq : (xs[k] + 4294967296 * r) / n < 4294967296 := by
    rw [Nat.div_lt_iff_lt_mul (by omega)]
    have : 4294967296 * (r + 1) ≤ 4294967296 * n := Nat.mul_le_mul_left _ h3
    omega
  refine ⟨hq, by simpa using h1, h2.set_ _ _ hq, Nat.mod_lt _ (by omega), ?_, fun j hj hjk => ?_⟩
  · have e1 : xs.drop k = xs[k] :: xs.drop (k + 1) := List.drop_eq_getElem_cons hk
    have e2 : (qs.set k ((xs[k] + 4294967296 * r) / n)).drop k = ((xs[k] + 4294967296 * r) / n) :: qs.drop (k + 1) := by
      rw [List.drop_eq_getElem_cons (by simpa using (by omega : k < qs.length))]
      simp [List.drop_set]
    rw [e1, e2]
    simp only [val]
    rw [h4]
    have hd := Nat.div_add_mod (xs[k] + 4294967296 * r) n
    generalize (xs[k] + 4294967296 * r) / n = q at *
    generalize (xs[k] + 4294967296 * r) % n = m at *
    rw [Nat.add_mul, Nat.mul_add, Nat.mul_assoc, Nat.mul_comm q n]
    generalize val 4294967296 (qs.drop (k + 1)) * n = z at *
    omega
  · rw [List.getElem_set, if_neg (by omega)]
    exact h5 j (by simpa using hj) (by omega)
theorem Longed.last {xs qs : List Nat} {n r : Nat} (h : Longed xs n 0 qs r) : val 4294967296 qs = val 4294967296 xs / n ∧ r = val 4294967296 xs % n := by
  obtain ⟨h1, h2, h3, h4, h5⟩ := h
  simp only [List.drop_zero] at h4
  rw [h4, Nat.mul_comm]
  constructor
  · rw [Nat.mul_add_div (by omega), Nat.div_eq_of_lt h3, Nat.add_zero]
  · rw [Nat.mul_add_mod, Nat.mod_eq_of_lt h3]

theorem Res.setCell {w : World} {B : Nat} {t : TypeId} {A : Option Addr} {c : Nat} {vs : List Value} (h : Res w B t A c vs) {p : Addr} (hp : p.block < B) (u : Value) : Res (w.setCell p u) B t A c vs :=
  ⟨h.1, h.2.1, fun hn => by
    obtain ⟨g, rest, e, hg, hk, hc⟩ := h.2.2 hn
    exact ⟨g, rest, e, hg, hk.far (by omega) u, hc⟩⟩
end
section
open Go.RowKit
end
end Go.Proofs.YtcjgilagldbjnaaDoor
