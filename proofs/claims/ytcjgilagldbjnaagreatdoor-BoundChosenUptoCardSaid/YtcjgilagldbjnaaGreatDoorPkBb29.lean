/- The contracts of bound's size and reach: is a number above a. The contracts of prime's times and power: a b modulo p; a^e . Orders of numbers modulo a prime, and what a number that pas. What the kernel reckons: tests of single numbers, of primes . The contracts of prime's passesWith, passes and Is: what the. -/
import Derived.Test.YtcjgilagldbjnaaGreatDoorPkBb28
import Derived.Maps.AppendAt
import Derived.OwnWalk
import Derived.RangeFuncBox
import Derived.RangeFuncOwn
import Derived.Lib.OwnKind
import Derived.Deep.RegionHeld3
import Derived.Test.YtcjgilagldbjnaaGreatDoorPkBb13
import Derived.Test.YtcjgilagldbjnaaGreatDoorRows
import Derived.Test.YtcjgilagldbjnaaGreatDoorPkBb11
namespace Go.Proofs.YtcjgilagldbjnaaGreatDoor
section
open Go.RowKit
theorem cmpN_gt {n k : Nat} (h : k < n) : 0 < cmpN n k := by unfold cmpN; split <;> (try split) <;> omega
theorem cmpN_le {n k : Nat} (h : ¬ k < n) : ¬ 0 < cmpN n k := by unfold cmpN; split <;> (try split) <;> omega
section
variable {w w' : World} {A A2 : Option Addr} {c c2 n k K J : Nat} {xs ys : List Nat}
set_option maxHeartbeats 800000 in
theorem above_any (h : Hv w A c xs n K) (h2 : Hv w A2 c2 ys k J) (hK : K ≤ 67108864) (hJ : J ≤ 67108864) :
  Calls Tryz.prog 22 #[.agg #[.slice A xs.length c], .agg #[.slice A2 ys.length c2]] w fun e w' => e = .returned (.bool (decide (k < n))) ∧ Below w.heap.size w w' := by
 have CM : Hid (∀ W (_ : Below w.heap.size w W), Calls Tryz.prog 43 #[.slice A xs.length c, .slice A2 ys.length c2] W fun e w' => e = .returned (.int .i64 (cmpN n k)) ∧ Dr W w') := fun W hW => (h.next hW).ncmp (h2.next hW) hK hJ
 have k0 := bel_two w (.cells #[.slice A xs.length c] 51) (.cells #[.slice A2 ys.length c2] 51)
 obtain ⟨u, hu⟩ : ∃ u, u = decide (k < n) := ⟨_, rfl⟩
 rw [← hu]
 clear h h2
 go_enter Tryz.func22, Tryz.ntmps22
 go_wp2_with fail
 refine (CM.out _ k0).mono ?_
 rintro e w1 ⟨rfl, hb⟩
 have k1 := bst k0 (hb.below _) nl9
 clear hb k0 CM
 by_cases hlt : k < n
 ·have tc := cmpN_gt hlt
  rw [decide_eq_true hlt] at hu
  subst hu
  clear hlt
  go_wp2_with fail
  go_ret
  exact ⟨rfl, k1⟩
 ·have tc := cmpN_le hlt
  rw [decide_eq_false hlt] at hu
  subst hu
  clear hlt
  go_wp2_with fail
  go_ret
  exact ⟨by simp [tc], k1⟩
end
theorem Tryz.infoU9 : (Tryz.prog.info? 34).map (fun i => (i.zero, i.size, i.bytes)) = some (some (.int .u32 0), 1, 4) := by kernel_rfl
theorem info_parts9 {P : Program} {t : TypeId} {v : Value} {s b : Nat} (h : (P.info? t).map (fun i => (i.zero, i.size, i.bytes)) = some (some v, s, b)) : ∃ i, P.info? t = some i ∧ i.zero = some v ∧ i.size = s ∧ i.bytes = b := by
 cases hi : P.info? t with
 | none => rw [hi] at h; cases h
 | some i =>
  rw [hi] at h
  simp only [Option.map_some, Option.some.injEq, Prod.mk.injEq] at h
  exact ⟨i, rfl, h.1, h.2.1, h.2.2⟩
theorem Res.grown {w w' : World} {B : Nat} {b : Option Nat} {t : TypeId} {A : Option Addr} {c : Nat} {vs : List Value} (h : Res w B t A c vs) (hg : w.grownBy w' b) (hb : ∀ k, b = some k → k < B) : Res w' B t A c vs := ⟨h.1, h.2.1, fun hn => by
 obtain ⟨g, rest, e, hgB, hk, hc⟩ := h.2.2 hn
 exact ⟨g, rest, e, hgB, (hg.block g hk.lt (fun e => by have := hb g e.symm; omega)).trans hk, hc⟩⟩
abbrev Rw9 (w : World) (B : Nat) (A : Option Addr) (c : Nat) (R : List Nat) : Prop := w.ownsRow B 34 1 (.slice A R.length c) R.length (u32s R)
theorem rw_app {w : World} {B : Nat} {A : Option Addr} {c : Nat} {R : List Nat} (h : Rw9 w B A c R) (hR : R.length ≤ 4294967296) (hB : B ≤ w.heap.size) (x : Nat) :
  ∃ g' c' w', (Builtin.append_ #[22, 22] 22 #[.slice A R.length c, .slice (some ⟨w.heap.size, 0, none⟩) 1 1]).run Tryz.prog (w.alloc (.cells #[.int .u32 (x : Int)] 34)) = .ok (.slice (some ⟨g', 0, none⟩) (R.length + 1) c') w' ∧
   Rw9 w' B (some ⟨g', 0, none⟩) c' (R ++ [x]) ∧ w.grownBy w' (Value.slice A R.length c).ownBlock := by
 obtain ⟨i0, hi, hz0, hz1, hz2⟩ := info_parts9 Tryz.infoU9
 have hown2 := h.alloc (.cells #[.int .u32 (x : Int)] 34)
 obtain ⟨v', w', hrun, ho, hgr, _⟩ := run_append_own_at (P := Tryz.prog) (w := w.alloc (.cells #[.int .u32 (x : Int)] 34)) B 22 22 34 i0 (.int .u32 0) 1 4 Tryz.underlying22 hi hz0 hz1 hz2 rfl (by decide) _ R.length (u32s R) hown2 ⟨w.heap.size, 0, none⟩ 1 1 [.int .u32 (x : Int)] rfl (cell_one_new _ _ _) (by simp [Value.oneCell']) (by unfold maxLen; omega) (by omega) (by rw [World.size_alloc]; omega)
 obtain ⟨g', c', rfl⟩ := ownsRow_succ ho
 have hlen : (R ++ [x]).length = R.length + 1 := by simp
 have hus : u32s R ++ [.int .u32 (x : Int)] = u32s (R ++ [x]) := by simp [u32s]
 rw [hus] at ho
 refine ⟨g', c', w', hrun, by unfold Rw9; rw [hlen]; exact ho, ⟨hgr.os, hgr.tape, hgr.output, by have := hgr.size; rw [World.size_alloc] at this; omega, fun k hk hne => ?_⟩⟩
 exact (hgr.block k (by rw [World.size_alloc]; omega) hne).trans (Below.heap_alloc w _ k hk)
set_option maxHeartbeats 3200000 in
theorem take9_any {w : World} {r B n K q c cR : Nat} {A AR : Option Addr} {xs R : List Nat} (hb : Blk w r 55 [.slice A xs.length c, .slice AR R.length cR]) (h : Hv w A c xs n K) (hK : K ≤ 67108863) (hq : q < 4294967296)
  (hrB : r < B) (hBs : B ≤ w.heap.size) (hrow : Rw9 w B AR cR R) (hR : R.length ≤ 4294967296) :
  Calls Tryz.prog 23 #[.pointer (some ⟨r, 0, none⟩), .int .u32 (q : Int)] w fun e w' => ∃ zs A' c' g cp, e = .returned (.tuple #[]) ∧ Blk w' r 55 [.slice A' zs.length c', .slice (some ⟨g, 0, none⟩) (R.length + 1) cp] ∧
   Num 4294967296 zs (n * q) ∧ Res w' (r + 1) 34 A' c' (u32s zs) ∧ Rw9 w' B (some ⟨g, 0, none⟩) cp (R ++ [q]) ∧ Below r w w' ∧ (∀ k, k < B → k ≠ r → w'.heap[k]? = w.heap[k]?) ∧ KeepsOthers w w' := by
 have ew : IntKind.u64.wrap (q : Int) = (q : Int) := by show IntKind.u64.wrap (q : Int) = _; have h0 : IntKind.u64.wrap (q : Int) = (q : Int) % 18446744073709551616 := rfl; omega
 have OF : Hid (∀ W, Calls Tryz.prog 20 #[.int .u64 (IntKind.u64.wrap (q : Int))] W fun e w' => NOut W w' q e) := fun W => by rw [ew]; exact of_out q (by omega) W
 have ML : Hid (∀ (zs : List Nat) (A' : Option Addr) (c' B : Nat) (W : World), Below w.heap.size w W → Num 4294967296 zs q → Res W B 34 A' c' (u32s zs) → Calls Tryz.prog 44 #[.slice A xs.length c, .slice A' zs.length c'] W fun e w' => NOut W w' (n * q) e) := fun zs A' c' B W hW hz hr => (h.next hW).mulN (Hv.of (K := 1) hz hr (by simpa using hq)) (by omega) (by omega)
 have hlt := hb.lt
 have k0 := Below.refl w.heap.size w
 obtain ⟨q0, q1, q2, q3⟩ := hb.two
 obtain ⟨m, hm⟩ : ∃ m, m = n * q := ⟨_, rfl⟩
 rw [← hm] at ML ⊢
 clear h hm ew
 go_enter Tryz.func23, Tryz.ntmps23
 go_wp2_with fail
 go_region_with (first
  | (go_at_call 20; (with_reducible refine (OF.out _).mono ?_); rintro e w1 ⟨zs1, A1, c1, rfl, hz1, hr1, hb1⟩; have k1 := bst (bdw k0) hb1 nl9; have y0 := (k1.cell (p := ⟨r, 0, none⟩) hlt).trans q0)
  | (go_at_call 44; (with_reducible refine (ML.out _ _ _ _ _ k1 hz1 hr1).mono ?_); rintro e w2 ⟨zs2, A2, c2, rfl, hz2, hr2, hb2⟩; have k2 := bst k1 hb2 nl9; have z0 := (k2.cell (p := ⟨r, 0, none⟩) hlt).trans q0; have z1 := (k2.frozen (p := ⟨r, 0, none⟩) hlt).trans q2))
 all_goals
  have b3 : Blk (w2.setCell ⟨r, 0, none⟩ (.slice A2 zs2.length c2)) r 55 [.slice A2 zs2.length c2, .slice AR R.length cR] := by simpa using (hb.below k2 hlt).set_ 0 (.slice A2 zs2.length c2)
  have hsz := k1.size
  have h9 := hrow.lt
  have r3 : Res (w2.setCell ⟨r, 0, none⟩ (.slice A2 zs2.length c2)) w.heap.size 34 A2 c2 (u32s zs2) := (hr2.mono hsz).set_ (p := ⟨r, 0, none⟩) hlt _
  have o3 : Rw9 (w2.setCell ⟨r, 0, none⟩ (.slice A2 zs2.length c2)) B AR cR R := ownsRow_setCell_below (hrow.kept (row := none) ⟨k2.os, k2.tape, k2.output, k2.size, fun k hk _ => k2.block k hk⟩ (by cases (Value.slice AR R.length cR).ownBlock <;> simp)) hrB _
  have k3 : Below r w (w2.setCell ⟨r, 0, none⟩ (.slice A2 zs2.length c2)) := bsc (k2.mono (Nat.le_of_lt hlt)) nl9 _
  have e3 : ∀ k, k < B → k ≠ r → (w2.setCell ⟨r, 0, none⟩ (.slice A2 zs2.length c2)).heap[k]? = w.heap[k]? := fun k hk hn => (Below.heap_setCell w2 ⟨r, 0, none⟩ _ k hn).trans (k2.block k (by omega))
  have KO3 : KeepsOthers w (w2.setCell ⟨r, 0, none⟩ (.slice A2 zs2.length c2)) := (KeepsOthers.of_grownBy (row := none) ⟨k2.os, k2.tape, k2.output, k2.size, fun k hk _ => k2.block k hk⟩ (fun j o e => by cases e)).trans (KeepsOthers.setCell _ _ _)
  have s3 : B ≤ (w2.setCell ⟨r, 0, none⟩ (.slice A2 zs2.length c2)).heap.size := by simp [World.setCell]; have := k2.size; omega
  obtain ⟨W3, hW3⟩ : ∃ W3, W3 = w2.setCell ⟨r, 0, none⟩ (.slice A2 zs2.length c2) := ⟨_, rfl⟩
  rw [← hW3] at b3 r3 o3 k3 e3 s3 KO3 ⊢
  clear hW3 hb hr2 hb2 hr1 hb1 q0 q1 q2 q3 y0 z0 z1 hrow
  obtain ⟨g', c', w4, hrun, o4, hg9⟩ := rw_app o3 hR s3 q
  have b4 : Blk w4 r 55 [.slice A2 zs2.length c2, .slice AR R.length cR] := (hg9.block r b3.lt (fun e => by have := (h9 r e.symm).1; omega)).trans b3
  have r4 : Res w4 (r + 1) 34 A2 c2 (u32s zs2) := (r3.grown hg9 (fun k e => (h9 k e).2)).mono hlt
  have k4 : Below r w w4 := k3.trans ⟨hg9.os, hg9.tape, hg9.output, hg9.size, fun k hk => hg9.block k (by have := b3.lt; omega) (fun e => by have := (h9 k e.symm).1; omega)⟩
  have O4 : Hid (KeepsOthers w w4) := KO3.trans (KeepsOthers.of_grownBy hg9 (fun j o e h => by
   obtain ⟨cc, fz, h2⟩ := Lib.ownsRow_kind o3 j e
   rw [h] at h2
   cases h2
   rfl))
  have E4 : Hid (∀ k, k < B → k ≠ r → w4.heap[k]? = w.heap[k]?) := fun k hk hn => (hg9.block k (by omega) (fun e => by have := (h9 k e.symm).1; omega)).trans (e3 k hk hn)
  obtain ⟨p0, p1, p2, p3⟩ := b3.two
  obtain ⟨q0, q1, q2, q3⟩ := b4.two
  clear b3 r3 o3 k3 e3 s3 KO3 h9 hg9 hR hq hsz hlt hK ML OF hz1
  have HO := hi9 o4
  have Hrun := hi9 hrun
  clear o4 hrun
  go_wp2_with (first | (at_builtin; refine wpList_append_run rfl _ _ _ _ rfl _ _ rfl rfl _ _ Hrun.out ?_))
  refine bodyPost_end (results_none rfl _ _ _) rfl ?_
  exact ⟨zs2, A2, c2, g', c', rfl, by simpa using b4.set_ 1 (.slice (some ⟨g', 0, none⟩) (R.length + 1) c'), hz2, r4.set_ (p := ⟨r, 1, none⟩) (Nat.lt_succ_self r) _, ownsRow_setCell_below HO.out hrB _, bsc k4 nl9 _, fun k hk hn => (Below.heap_setCell w4 ⟨r, 1, none⟩ _ k hn).trans (E4.out k hk hn), O4.out.trans (KeepsOthers.setCell _ _ _)⟩
theorem take_any {w : World} {r n K q c cR : Nat} {A AR : Option Addr} {xs R : List Nat} (hb : Blk w r 55 [.slice A xs.length c, .slice AR R.length cR]) (h : Hv w A c xs n K) (hK : K ≤ 67108863) (hq : q < 4294967296)
  (hrow : Rw9 w (r + 1) AR cR R) (hR : R.length ≤ 4294967296) :
  Calls Tryz.prog 23 #[.pointer (some ⟨r, 0, none⟩), .int .u32 (q : Int)] w fun e w' => ∃ zs A' c' g cp, e = .returned (.tuple #[]) ∧ Blk w' r 55 [.slice A' zs.length c', .slice (some ⟨g, 0, none⟩) (R.length + 1) cp] ∧
   Num 4294967296 zs (n * q) ∧ Res w' (r + 1) 34 A' c' (u32s zs) ∧ Rw9 w' (r + 1) (some ⟨g, 0, none⟩) cp (R ++ [q]) ∧ Below r w w' :=
 (take9_any hb h hK hq (Nat.lt_succ_self r) hb.lt hrow hR).mono fun _ _ ⟨zs, A', c', g, cp, h1, h2, h3, h4, h5, h6, _⟩ => ⟨zs, A', c', g, cp, h1, h2, h3, h4, h5, h6⟩
end
section
open Go.RowKit
set_option maxHeartbeats 400000 in
theorem times_any (a b p : Nat) (w : World) (ha : a < 4294967296) (hb : b < 4294967296) (hp : p < 4294967296) (hp0 : 0 < p) :
  Calls Tryz.prog 85 #[.int .u32 (a : Int), .int .u32 (b : Int), .int .u32 (p : Int)] w fun e w' => e = .returned (.int .u32 ((a * b % p : Nat) : Int)) ∧ w' = w := by
 have hab : a * b ≤ 4294967295 * 4294967295 := Nat.mul_le_mul (by omega) (by omega)
 have hm : a * b % p < p := Nat.mod_lt _ hp0
 obtain ⟨m, hme⟩ : ∃ m, m = a * b := ⟨_, rfl⟩
 have t1 : IntKind.u64.wrap ((a : Int) * (b : Int)) = (m : Int) := by
  rw [IntKind.wrap_u64, ← Int.natCast_mul, ← hme]; omega
 have t2 : ((p : Int) == 0) = false := by simp; omega
 have t3 : IntKind.u32.wrap ((m : Int) % (p : Int)) = ((m % p : Nat) : Int) := by
  rw [IntKind.wrap_u32, hme]; omega
 rw [← hme]
 clear hme
 go_enter Tryz.func85, Tryz.ntmps85
 go_wp2
 go_ret
 exact ⟨by simp, rfl⟩
theorem pow_half (a e p : Nat) : a ^ e % p = (if e % 2 = 1 then ((a ^ (e / 2) % p) * (a ^ (e / 2) % p) % p) * a % p else (a ^ (e / 2) % p) * (a ^ (e / 2) % p) % p) := by
 have h : a ^ (e / 2) * a ^ (e / 2) = a ^ (e / 2 + e / 2) := (Nat.pow_add a _ _).symm
 by_cases hc : e % 2 = 1
 ·rw [if_pos hc, ← Nat.mul_mod, h, Nat.mod_mul_mod, ← Nat.pow_succ, show (e / 2 + e / 2).succ = e from by omega]
 ·rw [if_neg hc, ← Nat.mul_mod, h, show e / 2 + e / 2 = e from by omega]
set_option maxHeartbeats 400000 in
theorem power_any (a p : Nat) (ha : a < 4294967296) (hp : p < 4294967296) (hp1 : 1 < p) : ∀ (k e : Nat), e < 2 ^ k → e < 18446744073709551616 → ∀ w : World,
  Calls Tryz.prog 84 #[.int .u32 (a : Int), .int .u64 (e : Int), .int .u32 (p : Int)] w fun r w' => r = .returned (.int .u32 ((a ^ e % p : Nat) : Int)) ∧ w' = w := by
 intro k
 induction k with
 | zero =>
  intro e he _ w
  obtain rfl : e = 0 := by simpa using he
  have h1 : a ^ 0 % p = 1 := by rw [Nat.pow_zero, Nat.mod_eq_of_lt hp1]
  rw [h1]
  go_enter Tryz.func84, Tryz.ntmps84
  go_wp2
  go_ret
  exact ⟨rfl, rfl⟩
 | succ k ih =>
  intro e he hlt w
  by_cases h0 : e = 0
  ·subst h0
   have h1 : a ^ 0 % p = 1 := by rw [Nat.pow_zero, Nat.mod_eq_of_lt hp1]
   rw [h1]
   go_enter Tryz.func84, Tryz.ntmps84
   go_wp2
   go_ret
   exact ⟨rfl, rfl⟩
  ·have hh : e / 2 < 2 ^ k := by rw [Nat.pow_succ] at he; omega
   have hi := ih (e / 2) hh (by omega)
   have hv := pow_half a e p
   have hq : a ^ (e / 2) % p < p := Nat.mod_lt _ (by omega)
   obtain ⟨r, hr⟩ : ∃ r, r = a ^ e % p := ⟨_, rfl⟩
   obtain ⟨q, hqe⟩ : ∃ q, q = a ^ (e / 2) % p := ⟨_, rfl⟩
   have hs : q * q % p < p := Nat.mod_lt _ (by omega)
   rw [← hr]
   rw [← hr, ← hqe] at hv
   rw [← hqe] at hq hi
   obtain ⟨s, hse⟩ : ∃ s, s = q * q % p := ⟨_, rfl⟩
   rw [← hse] at hv hs
   have Hse := hi9 hse
   have t0 : ((e : Int) == 0) = false := by simp; omega
   obtain ⟨d, hde⟩ : ∃ d, d = e / 2 := ⟨_, rfl⟩
   rw [← hde] at hi
   have t1 : (e : Int) / 2 = (d : Int) := by omega
   clear hse hr hqe ih he hh hde
   by_cases hc : e % 2 = 1
   ·rw [if_pos hc] at hv
    have t2 : ((e : Int) % 2 == 1) = true := by simp; omega
    have Hv := hi9 hv
    clear hv hc
    go_enter Tryz.func84, Tryz.ntmps84
    go_wp2_with fail
    refine (hi _).mono ?_
    rintro _ _ ⟨rfl, rfl⟩
    go_wp2_with fail
    refine (times_any q q p _ (by omega) (by omega) hp (by omega)).mono ?_
    rintro _ _ ⟨rfl, rfl⟩
    rw [← Hse.out]
    go_wp2_with fail
    refine (times_any s a p _ (by omega) ha hp (by omega)).mono ?_
    rintro _ _ ⟨rfl, rfl⟩
    rw [← Hv.out]
    go_wp2
    go_ret
    exact ⟨rfl, rfl⟩
   ·rw [if_neg hc] at hv
    have t2 : ((e : Int) % 2 == 1) = false := by simp; omega
    have Hv := hi9 hv
    clear hv hc
    go_enter Tryz.func84, Tryz.ntmps84
    go_wp2_with fail
    refine (hi _).mono ?_
    rintro _ _ ⟨rfl, rfl⟩
    go_wp2_with fail
    refine (times_any q q p _ (by omega) (by omega) hp (by omega)).mono ?_
    rintro _ _ ⟨rfl, rfl⟩
    rw [← Hse.out, ← Hv.out]
    go_wp2
    go_ret
    exact ⟨rfl, rfl⟩
end
section
theorem pow_one_mod {q : Nat} (h : 1 < q) (k : Nat) {x : Nat} (hx : x % q = 1) : x ^ k % q = 1 := by
 rw [Nat.pow_mod, hx, Nat.one_pow, Nat.mod_eq_of_lt h]
theorem pow_mul_one {q b i : Nat} (h : 1 < q) (hi : b ^ i % q = 1) (j : Nat) : b ^ (i * j) % q = 1 := by
 rw [Nat.pow_mul]; exact pow_one_mod h j hi
theorem pow_of_dvd {q b i j : Nat} (h : 1 < q) (hi : b ^ i % q = 1) (hd : i ∣ j) : b ^ j % q = 1 := by
 obtain ⟨c, rfl⟩ := hd
 exact pow_mul_one h hi c
theorem pow_add_one {q b i : Nat} (hi : b ^ i % q = 1) (j : Nat) : b ^ (i + j) % q = b ^ j % q := by
 rw [Nat.pow_add, Nat.mul_mod, hi, Nat.one_mul, Nat.mod_mod]
theorem pow_gcd {q b : Nat} (h : 1 < q) : ∀ i j, b ^ i % q = 1 → b ^ j % q = 1 → b ^ (Nat.gcd i j) % q = 1 := by
 intro i j
 induction i, j using Nat.gcd.induction with
 | H0 n => intro _ hn; rwa [Nat.gcd_zero_left]
 | H1 m n hm ih =>
  intro h1 h2
  rw [Nat.gcd_rec]
  refine ih ?_ h1
  have e : n = m * (n / m) + n % m := (Nat.div_add_mod n m).symm
  rw [e, pow_add_one (pow_mul_one h h1 _)] at h2
  exact h2
def B3 (q k : Nat) : Prop := 2 ^ k % q = 1 ∧ 7 ^ k % q = 1 ∧ 61 ^ k % q = 1
theorem B3.of_dvd {q i j : Nat} (hq : 1 < q) (h : B3 q i) (hd : i ∣ j) : B3 q j := ⟨pow_of_dvd hq h.1 hd, pow_of_dvd hq h.2.1 hd, pow_of_dvd hq h.2.2 hd⟩
theorem B3.gcd {q i j : Nat} (hq : 1 < q) (h : B3 q i) (k : B3 q j) : B3 q (Nat.gcd i j) := ⟨pow_gcd hq _ _ h.1 k.1, pow_gcd hq _ _ h.2.1 k.2.1, pow_gcd hq _ _ h.2.2 k.2.2⟩
def Min3 (q f d : Nat) : Prop := f ∣ d → ¬ B3 q (d / f)
theorem Min3.of_dvd {q f d d' : Nat} (hq : 1 < q) (hf : 0 < f) (h : Min3 q f d) (hd : d' ∣ d) : Min3 q f d' := fun hfd hb => by
 refine h (Nat.dvd_trans hfd hd) (hb.of_dvd hq ?_)
 obtain ⟨a, rfl⟩ := hfd
 obtain ⟨c, rfl⟩ := hd
 rw [Nat.mul_div_cancel_left _ hf, Nat.mul_assoc, Nat.mul_div_cancel_left _ hf]
 exact Nat.dvd_mul_right _ _
theorem order_dvd {q d k : Nat} (hq : 1 < q) (hd0 : 0 < d) (hd : B3 q d) (hm : ∀ f, Pr f → Min3 q f d) (hk : B3 q k) : d ∣ k := by
 have hg := hk.gcd hq hd
 have hgd : Nat.gcd k d ∣ d := Nat.gcd_dvd_right k d
 have hgk : Nat.gcd k d ∣ k := Nat.gcd_dvd_left k d
 obtain ⟨c, hc⟩ := hgd
 generalize Nat.gcd k d = g at hg hgk hc
 rcases Nat.lt_or_ge c 2 with h2 | h2
 ·rcases Nat.eq_zero_or_pos c with h0 | h0
  ·subst h0; omega
  ·obtain rfl : c = 1 := by omega
   rw [hc, Nat.mul_one]; exact hgk
 ·obtain ⟨f, hf, hfc⟩ := exists_pr c h2
  refine absurd (hg.of_dvd hq ?_) (hm f hf (Nat.dvd_trans hfc ⟨g, by rw [hc, Nat.mul_comm]⟩))
  obtain ⟨e, rfl⟩ := hfc
  rw [hc, show g * (f * e) = f * (g * e) from by ac_rfl, Nat.mul_div_cancel_left _ hf.pos]
  exact Nat.dvd_mul_right _ _
def Psp (n : Nat) : Prop := B3 n (n - 1)
theorem B3.down {n q k : Nat} (h : B3 n k) (hq : 1 < q) (hd : q ∣ n) : B3 q k := by
 have key : ∀ x, x % n = 1 → x % q = 1 := fun x hx => by
  have := Nat.mod_mod_of_dvd x hd
  rw [hx, Nat.mod_eq_of_lt hq] at this
  exact this.symm
 exact ⟨key _ h.1, key _ h.2.1, key _ h.2.2⟩
theorem not_dvd_of_pow {q b k : Nat} (_hq : 1 < q) (hk : 0 < k) (h : b ^ k % q = 1) : ¬ q ∣ b := fun hd => by
 have : q ∣ b ^ k := Nat.dvd_trans hd (by
  obtain ⟨j, rfl⟩ : ∃ j, k = j + 1 := ⟨k - 1, by omega⟩
  exact ⟨b ^ j, by rw [Nat.pow_succ, Nat.mul_comm]⟩)
 rw [Nat.mod_eq_zero_of_dvd this] at h
 omega
theorem B3.fermat {q k : Nat} (hp : Pr q) (hk : 0 < k) (h : B3 q k) : B3 q (q - 1) :=
 ⟨hp.fermat (not_dvd_of_pow hp.1 hk h.1), hp.fermat (not_dvd_of_pow hp.1 hk h.2.1), hp.fermat (not_dvd_of_pow hp.1 hk h.2.2)⟩
theorem B3.rest {n q m : Nat} (hp : Pr q) (hn : n = q * m) (hm : 1 < m) (h : Psp n) : B3 q (m - 1) := by
 have hq := hp.1
 have h2 : 2 * 2 ≤ q * m := Nat.mul_le_mul hq hm
 have hd : B3 q (n - 1) := B3.down h hq ⟨m, hn⟩
 have hf := B3.fermat hp (by omega) hd
 have e : n - 1 = (q - 1) * m + (m - 1) := by
  rw [Nat.sub_mul, Nat.one_mul, hn]
  have : m ≤ q * m := Nat.le_mul_of_pos_left m (by omega)
  omega
 rw [e] at hd
 refine ⟨?_, ?_, ?_⟩
 ·have := hd.1; rwa [pow_add_one (pow_mul_one hq hf.1 _)] at this
 ·have := hd.2.1; rwa [pow_add_one (pow_mul_one hq hf.2.1 _)] at this
 ·have := hd.2.2; rwa [pow_add_one (pow_mul_one hq hf.2.2 _)] at this
theorem pow_first (q k : Nat) : ∀ j, ∃ c, (1 + k * q) ^ j = 1 + j * k * q + c * (q * q)
 | 0 => ⟨0, by simp⟩
 | j + 1 => by
  obtain ⟨c, hc⟩ := pow_first q k j
  refine ⟨j * k * k + c * (1 + k * q), ?_⟩
  rw [Nat.pow_succ, hc]
  simp only [Nat.add_mul, Nat.mul_add, Nat.one_mul, Nat.mul_one]
  have e1 : j * k * q * (k * q) = j * k * k * (q * q) := by ac_rfl
  have e2 : c * (q * q) * (k * q) = c * (k * q) * (q * q) := by ac_rfl
  rw [e1, e2]
  omega
theorem square_says {n q b : Nat} (hp : Pr q) (hn : q * q ∣ n) (hn0 : 0 < n) (h : b ^ (n - 1) % n = 1) : b ^ (q - 1) % (q * q) = 1 := by
 have hq := hp.1
 have hqq : 2 * 2 ≤ q * q := Nat.mul_le_mul hq hq
 have hqn : q ∣ n := Nat.dvd_trans ⟨q, rfl⟩ hn
 have hn4 := Nat.le_of_dvd hn0 hn
 have hx : b ^ (n - 1) % (q * q) = 1 := by
  have := Nat.mod_mod_of_dvd (b ^ (n - 1)) hn
  rw [h, Nat.mod_eq_of_lt (by omega)] at this
  exact this.symm
 have hxq : b ^ (n - 1) % q = 1 := by
  have := Nat.mod_mod_of_dvd (b ^ (n - 1)) hqn
  rw [h, Nat.mod_eq_of_lt (by omega)] at this
  exact this.symm
 have hf := hp.fermat (not_dvd_of_pow hq (by omega) hxq)
 -- y = b^(q-1) = 1 + k q
 obtain ⟨k, hk⟩ : ∃ k, b ^ (q - 1) = 1 + k * q := ⟨b ^ (q - 1) / q, by have := Nat.div_add_mod (b ^ (q - 1)) q; rw [hf, Nat.mul_comm] at this; omega⟩
 have h1 : b ^ ((n - 1) * (q - 1)) % (q * q) = 1 := pow_mul_one (by omega) hx _
 obtain ⟨c, hc⟩ := pow_first q k (n - 1)
 rw [Nat.mul_comm, Nat.pow_mul, hk, hc] at h1
 rw [Nat.add_mul_mod_self_right] at h1
 have h2 : q * q ∣ (n - 1) * k * q := by
  have h3 : (1 + (n - 1) * k * q) % (q * q) = 1 % (q * q) := by rw [h1, Nat.mod_eq_of_lt (by omega)]
  have h4 := Nat.dvd_of_mod_eq_zero (Nat.sub_mod_eq_zero_of_mod_eq h3)
  rwa [Nat.add_sub_cancel_left] at h4
 have h5 : q ∣ (n - 1) * k := Nat.dvd_of_mul_dvd_mul_right hp.pos h2
 rcases hp.dvd_mul h5 with h6 | h6
 ·exfalso
  obtain ⟨u, hu⟩ := hqn
  obtain ⟨v, hv⟩ := h6
  have : q ∣ 1 := (Nat.dvd_add_right (show q ∣ q * v from ⟨v, rfl⟩)).1 (by rw [← hv, show n - 1 + 1 = n from by omega]; exact ⟨u, hu⟩)
  exact hp.not_dvd_one this
 ·obtain ⟨u, rfl⟩ := h6
  rw [hk, show q * u * q = u * (q * q) from by ac_rfl, Nat.add_mul_mod_self_right, Nat.mod_eq_of_lt (by omega)]
end
section
/-! Miller's and Rabin's way -/
def mrLoop (n : Nat) : Nat → Nat → Bool
 | 0, _ => false
 | s + 1, x => if x = n - 1 then true else mrLoop n s (x * x % n)
def mr (b n d s : Nat) : Bool := if b ^ d % n = 1 then true else mrLoop n s (b ^ d % n)
theorem pow_square {b n e : Nat} : b ^ e % n * (b ^ e % n) % n = b ^ (e * 2) % n := by
 rw [← Nat.mul_mod, Nat.pow_mul, Nat.pow_two]
theorem minus_square {n : Nat} (hn : 1 < n) : (n - 1) * (n - 1) % n = 1 := by
 obtain ⟨m, rfl⟩ : ∃ m, n = m + 1 := ⟨n - 1, by omega⟩
 obtain ⟨k, rfl⟩ : ∃ k, m = k + 1 := ⟨m - 1, by omega⟩
 have : (k + 1) * (k + 1) = 1 + (k + 1 + 1) * k := by
  rw [Nat.add_mul, Nat.mul_add, Nat.add_mul, Nat.add_mul]; omega
 rw [Nat.add_sub_cancel, this, Nat.add_mul_mod_self_left, Nat.mod_eq_of_lt (by omega)]
theorem mrLoop_says {b n : Nat} (hn : 1 < n) : ∀ (s e : Nat), mrLoop n s (b ^ e % n) = true → b ^ (e * 2 ^ s) % n = 1
 | 0, e, h => by simp [mrLoop] at h
 | s + 1, e, h => by
  rw [mrLoop] at h
  by_cases hx : b ^ e % n = n - 1
  ·have h2 : b ^ (e * 2) % n = 1 := by rw [← pow_square, hx, minus_square hn]
   rw [Nat.pow_succ, Nat.mul_comm (2 ^ s), ← Nat.mul_assoc]
   exact pow_mul_one hn h2 _
  ·rw [if_neg hx, pow_square] at h
   have := mrLoop_says hn s (e * 2) h
   rwa [Nat.mul_assoc, ← Nat.pow_succ'] at this
theorem mr_says {b n d s : Nat} (hn : 1 < n) (h : mr b n d s = true) : b ^ (d * 2 ^ s) % n = 1 := by
 unfold mr at h
 by_cases h1 : b ^ d % n = 1
 ·exact pow_mul_one hn h1 _
 ·rw [if_neg h1] at h
  exact mrLoop_says hn s d h
/-! Strict evaluation -/
noncomputable def strict (n : Nat) (f : Nat → Bool) : Bool := Nat.rec (f (nat_lit 0)) (fun k _ => f (Nat.succ k)) n
theorem strict_eq (n : Nat) (f : Nat → Bool) : strict n f = f n := by cases n <;> rfl
noncomputable def ite3 (c a b : Bool) : Bool := Bool.rec b a c
theorem ite3_eq (c a b : Bool) : ite3 c a b = if c = true then a else b := by cases c <;> rfl
theorem and3 {c a : Bool} (h : ite3 c a false = true) : c = true ∧ a = true := by cases c <;> simp_all [ite3]
noncomputable def pow3 (b e n : Nat) : Nat := Nat.mod (Nat.mul (Nat.pow (Nat.mod (Nat.mul (Nat.pow (Nat.mod (Nat.pow b (Nat.div e (nat_lit 65536))) n) (nat_lit 256)) (Nat.pow b (Nat.div (Nat.mod e (nat_lit 65536)) (nat_lit 256)))) n) (nat_lit 256)) (Nat.pow b (Nat.mod e (nat_lit 256)))) n
theorem pow3_eq (b e n : Nat) : pow3 b e n = b ^ e % n := by
 show ((((b ^ (e / 65536) % n) ^ 256 * b ^ (e % 65536 / 256)) % n) ^ 256 * b ^ (e % 256)) % n = b ^ e % n
 have s1 : ((b ^ (e / 65536) % n) ^ 256 * b ^ (e % 65536 / 256)) % n = b ^ (e / 256) % n := by
  rw [Nat.mul_mod, ← Nat.pow_mod, ← Nat.mul_mod, ← Nat.pow_mul, ← Nat.pow_add]
  congr 2; omega
 rw [s1, Nat.mul_mod, ← Nat.pow_mod, ← Nat.mul_mod, ← Nat.pow_mul, ← Nat.pow_add]
 congr 2; omega
/-! The tests with powers by steps, for the few that pass Fermat's test -/
noncomputable def loopK (k : Nat) (s : Nat) : Nat → Bool := Nat.rec (fun _ => false) (fun _ ih x => strict x fun x => ite3 (Nat.beq x k) true (ih (Nat.mod (Nat.mul x x) (Nat.succ k)))) s
theorem loopK_eq (k : Nat) : ∀ s x, loopK k s x = mrLoop (k + 1) s x
 | 0, _ => rfl
 | s + 1, x => by
  show strict x (fun x => ite3 (Nat.beq x k) true (loopK k s (Nat.mod (Nat.mul x x) (Nat.succ k)))) = _
  rw [strict_eq, ite3_eq, mrLoop, loopK_eq k s]
  by_cases h : x = k
  ·simp [h]
  ·have : Nat.beq x k = false := Bool.eq_false_iff.2 fun e => h (Nat.eq_of_beq_eq_true e)
   rw [this, if_neg (by simp), if_neg (by omega)]; rfl
noncomputable def mrK (b k d s : Nat) : Bool := strict (pow3 b d (Nat.succ k)) fun x => ite3 (Nat.beq x (nat_lit 1)) true (loopK k s x)
theorem mrK_eq (b k d s : Nat) : mrK b k d s = mr b (k + 1) d s := by
 unfold mrK mr
 rw [strict_eq, pow3_eq, ite3_eq, loopK_eq]
 by_cases h : b ^ d % (k + 1) = 1
 ·rw [show b ^ d % Nat.succ k = 1 from h]; simp
 ·have : Nat.beq (b ^ d % Nat.succ k) 1 = false := Bool.eq_false_iff.2 fun e => h (Nat.eq_of_beq_eq_true e)
  rw [this, if_neg h]; rfl
noncomputable def slowK (k : Nat) : Bool := strict (Nat.gcd k (nat_lit 4294967296)) fun g => strict (Nat.div k g) fun d => strict (Nat.log2 g) fun s =>
 ite3 (Nat.beq (Nat.mul d (Nat.pow (nat_lit 2) s)) k) (ite3 (Nat.beq (Nat.mod d (nat_lit 2)) (nat_lit 1)) (ite3 (mrK (nat_lit 2) k d s) (ite3 (mrK (nat_lit 7) k d s) (ite3 (mrK (nat_lit 61) k d s) false true) true) true) false) false
noncomputable def bad (n : Nat) : Bool := Nat.rec false (fun k _ => ite3 (Nat.beq (pow3 (nat_lit 2) k (Nat.succ k)) (nat_lit 1)) (slowK k) true) n
def Passes (n : Nat) : Prop := ∀ d s, n - 1 = d * 2 ^ s → d % 2 = 1 → mr 2 n d s = true ∧ mr 7 n d s = true ∧ mr 61 n d s = true
theorem split_unique {a b s t : Nat} (ha : a % 2 = 1) (hb : b % 2 = 1) (h : a * 2 ^ s = b * 2 ^ t) : a = b ∧ s = t := by
 have key : ∀ (s t a b : Nat), a % 2 = 1 → b % 2 = 1 → a * 2 ^ s = b * 2 ^ t → s ≤ t → a = b ∧ s = t := by
  intro s
  induction s with
  | zero =>
   intro t a b ha hb h _
   cases t with
   | zero => simp at h; exact ⟨h, rfl⟩
   | succ t => rw [Nat.pow_succ, ← Nat.mul_assoc, Nat.pow_zero] at h; omega
  | succ s ih =>
   intro t a b ha hb h hle
   cases t with
   | zero => omega
   | succ t =>
    rw [Nat.pow_succ, Nat.pow_succ, ← Nat.mul_assoc, ← Nat.mul_assoc] at h
    obtain ⟨h1, h2⟩ := ih t a b ha hb (by omega) (by omega)
    exact ⟨h1, by omega⟩
 rcases Nat.le_total s t with hle | hle
 ·exact key s t a b ha hb h hle
 ·obtain ⟨h1, h2⟩ := key t s b a hb ha h.symm hle
  exact ⟨h1.symm, h2.symm⟩
theorem split_exists : ∀ n, 0 < n → ∃ d s, n = d * 2 ^ s ∧ d % 2 = 1 := by
 intro n
 induction n using Nat.strongRecOn with
 | _ n ih =>
  intro h
  by_cases h2 : n % 2 = 1
  ·exact ⟨n, 0, by simp, h2⟩
  ·obtain ⟨d, s, hd, ho⟩ := ih (n / 2) (by omega) (by omega)
   exact ⟨d, s + 1, by rw [Nat.pow_succ, ← Nat.mul_assoc, ← hd]; omega, ho⟩
theorem Passes.psp {n : Nat} (hn : 1 < n) (h : Passes n) : Psp n := by
 obtain ⟨d, s, hd, ho⟩ := split_exists (n - 1) (by omega)
 obtain ⟨h1, h2, h3⟩ := h d s hd ho
 unfold Psp
 rw [hd]
 exact ⟨mr_says hn h1, mr_says hn h2, mr_says hn h3⟩
theorem bad_says {n : Nat} (hn : 1 < n) (h : bad n = true) (hp : Passes n) : False := by
 cases n with
 | zero => omega
 | succ k =>
  have h : ite3 (Nat.beq (pow3 2 k (Nat.succ k)) 1) (slowK k) true = true := h
  rw [ite3_eq, pow3_eq] at h
  by_cases h1 : 2 ^ k % (k + 1) = 1
  ·have : Nat.beq (2 ^ k % Nat.succ k) 1 = true := by rw [show 2 ^ k % Nat.succ k = 1 from h1]; rfl
   rw [if_pos this] at h
   unfold slowK at h
   rw [strict_eq, strict_eq, strict_eq] at h
   obtain ⟨hs, h⟩ := and3 h
   obtain ⟨ho, h⟩ := and3 h
   have hs : k / Nat.gcd k 4294967296 * 2 ^ Nat.log2 (Nat.gcd k 4294967296) = k := Nat.eq_of_beq_eq_true hs
   have ho : k / Nat.gcd k 4294967296 % 2 = 1 := Nat.eq_of_beq_eq_true ho
   change ite3 (mrK 2 k (k / Nat.gcd k 4294967296) (Nat.log2 (Nat.gcd k 4294967296))) (ite3 (mrK 7 k (k / Nat.gcd k 4294967296) (Nat.log2 (Nat.gcd k 4294967296))) (ite3 (mrK 61 k (k / Nat.gcd k 4294967296) (Nat.log2 (Nat.gcd k 4294967296))) false true) true) true = true at h
   generalize k / Nat.gcd k 4294967296 = d at hs h ho
   generalize Nat.log2 (Nat.gcd k 4294967296) = s at hs h
   obtain ⟨p2, p7, p61⟩ := hp d s (by omega) ho
   rw [mrK_eq, mrK_eq, mrK_eq, p2, p7, p61] at h
   exact absurd h (by simp [ite3])
  ·exact h1 (Passes.psp hn hp).1
end
section
open Go.RowKit
set_option maxHeartbeats 400000 in
theorem passesWith_any (b n d s : Nat) (hb : b < 4294967296) (hn : n < 4294967296) (hn1 : 1 < n) (hd : d % 2 = 1) (hs : s ≤ 32) (hsplit : n - 1 = d * 2 ^ s) (w : World) :
  Calls Tryz.prog 72 #[.int .u32 (b : Int), .int .u32 (n : Int)] w fun e w' => e = .returned (.bool (mr b n d s)) ∧ w' = w := by
 obtain ⟨m, hm⟩ : ∃ m, n = m + 1 := ⟨n - 1, by omega⟩
 subst hm
 have hm : m = d * 2 ^ s := by omega
 clear hsplit
 have hpow := fun W => power_any b (m + 1) hb hn hn1 64 d (by
  have : d ≤ d * 2 ^ s := Nat.le_mul_of_pos_right _ (Nat.two_pow_pos s)
  have : d < 18446744073709551616 := by omega
  simpa using this) (by
  have : d ≤ d * 2 ^ s := Nat.le_mul_of_pos_right _ (Nat.two_pow_pos s)
  omega) W
 have hdm : d < 4294967296 := by
  have : d ≤ d * 2 ^ s := Nat.le_mul_of_pos_right _ (Nat.two_pow_pos s)
  omega
 have hx : b ^ d % (m + 1) < m + 1 := Nat.mod_lt _ (by omega)
 have hmr : mr b (m + 1) d s = if b ^ d % (m + 1) = 1 then true else mrLoop (m + 1) s (b ^ d % (m + 1)) := rfl
 obtain ⟨x, hxe⟩ : ∃ x, x = b ^ d % (m + 1) := ⟨_, rfl⟩
 rw [← hxe] at hx hmr
 simp only [← hxe] at hpow
 clear hxe
 have Hm := hi9 hm
 have Hmr := hi9 hmr
 have hm2 : m < 4294967295 := by omega
 have hm0 : 0 < m := by omega
 clear hm hmr
 go_enter Tryz.func72, Tryz.ntmps72
 go_wp2
 go_loop [5, 6] (fun ov tv => ∃ (j i y : Nat), i + j = s ∧ y = d * 2 ^ j ∧ 0 < y ∧ y ≤ m ∧ ov = .int .u32 (y : Int) ∧ tv = .int .i64 (i : Int)) (fun ov _ => (intOf ov).toNat)
 case atStart => exact ⟨s, 0, m, by omega, Hm.out, hm0, by omega, rfl, rfl⟩
 case round =>
  obtain ⟨j, i, y, hij, hy, hy0, hym, rfl, rfl⟩ := hrel
  cases j with
  | succ j =>
   have hy2 : y = 2 * (d * 2 ^ j) := by rw [hy, Nat.pow_succ, ← Nat.mul_assoc, Nat.mul_comm]
   obtain ⟨z, hz⟩ : ∃ z, z = d * 2 ^ j := ⟨_, rfl⟩
   rw [← hz] at hy2
   have Hz := hi9 hz
   clear hy hz
   have t0 : ((y : Int) % 2 == 0) = true := by simp; omega
   have t1 : (y : Int) / 2 = (z : Int) := by omega
   have Hy2 := hi9 hy2
   have hi : i < 32 := by omega
   clear hy2
   go_wp2
   go_round
   case rel => exact ⟨j, i + 1, z, by omega, Hz.out, by have := Hy2.out; omega, by have := Hy2.out; omega, by go_num, by go_num⟩
   case measure => have := Hy2.out; simp [intOf]; omega
  | zero =>
   obtain rfl : y = d := by simpa using hy
   obtain rfl : i = s := by omega
   clear hy hij
   have t0 : ((y : Int) % 2 == 0) = false := by simp; omega
   go_wp2_with fail
   refine (hpow _).mono ?_
   rintro _ _ ⟨rfl, rfl⟩
   by_cases h1 : x = 1
   ·have e1 := Hmr.out
    rw [if_pos h1] at e1
    have E1 := hi9 e1
    subst h1
    clear e1 Hmr hpow
    go_wp2
    go_ret
    exact ⟨by rw [E1.out]; rfl, rfl⟩
   ·have e1 := Hmr.out
    rw [if_neg h1] at e1
    have E1 := hi9 e1
    have t1 : ((x : Int) == 1) = false := by simp; omega
    clear e1 Hmr hpow
    go_wp2
    go_loop [25, 7] (fun cv xv => ∃ (j c z : Nat), c + j = i ∧ z < m + 1 ∧ mrLoop (m + 1) i x = mrLoop (m + 1) j z ∧ cv = .int .i64 (c : Int) ∧ xv = .int .u32 (z : Int)) (fun cv _ => i - (intOf cv).toNat)
    case atStart => exact ⟨i, 0, x, by omega, hx, rfl, rfl, rfl⟩
    case round =>
     obtain ⟨j, c, z, hcj, hz, hmz, rfl, rfl⟩ := hrel
     cases j with
     | zero =>
      obtain rfl : c = i := by omega
      have Hmz := hi9 hmz
      clear hmz
      go_wp2
      go_ret
      exact ⟨by rw [E1.out, Hmz.out]; rfl, rfl⟩
     | succ j =>
      have hci : c < i := by omega
      by_cases hzm : z = m
      ·subst hzm
       rw [mrLoop, if_pos (by omega)] at hmz
       have Hmz := hi9 hmz
       clear hmz
       have t2 : ((z : Int) == (z : Int)) = true := by simp
       go_wp2
       go_ret
       exact ⟨by rw [E1.out, Hmz.out]; rfl, rfl⟩
      ·rw [mrLoop, if_neg (by omega)] at hmz
       have Hmz := hi9 hmz
       have t2 : ((z : Int) == (m : Int)) = false := by simp; omega
       clear hmz
       go_wp2_with fail
       refine (times_any z z (m + 1) _ (by omega) (by omega) hn (by omega)).mono ?_
       rintro _ _ ⟨rfl, rfl⟩
       have hq : z * z % (m + 1) < m + 1 := Nat.mod_lt _ (by omega)
       obtain ⟨q, hqe⟩ : ∃ q, q = z * z % (m + 1) := ⟨_, rfl⟩
       have Hqe := hi9 hqe
       rw [← hqe] at hq ⊢
       clear hqe
       go_wp2
       go_round
       case rel => exact ⟨j, c + 1, q, by omega, hq, by rw [Hmz.out, Hqe.out], by go_num, rfl⟩
       case measure => simp [intOf]; omega
def Bases (w : World) : Prop := w.cell? ⟨0, 0, none⟩ = some (.int .u32 2) ∧ w.cell? ⟨0, 1, none⟩ = some (.int .u32 7) ∧ w.cell? ⟨0, 2, none⟩ = some (.int .u32 61)
def base1 (n d s b : Nat) : Bool := if b % n = 0 then true else mr b n d s
def passAll (n d s : Nat) : Bool := if base1 n d s 2 = true then if base1 n d s 7 = true then base1 n d s 61 else false else false
set_option maxHeartbeats 1600000 in
theorem passes_any (n d s : Nat) (hn : n < 4294967296) (hn1 : 1 < n) (hd : d % 2 = 1) (hs : s ≤ 32) (hsplit : n - 1 = d * 2 ^ s) (w : World) (hw : Bases w) :
  Calls Tryz.prog 49 #[.int .u32 (n : Int)] w fun e w' => e = .returned (.bool (passAll n d s)) ∧ w' = w := by
 obtain ⟨h0, h1, h2⟩ := hw
 have hp := fun b hb W => passesWith_any b n d s hb hn hn1 hd hs hsplit W
 have e1 : ∀ b, base1 n d s b = if b % n = 0 then true else mr b n d s := fun _ => rfl
 have e2 : passAll n d s = if base1 n d s 2 = true then if base1 n d s 7 = true then base1 n d s 61 else false else false := rfl
 obtain ⟨F, hF⟩ : ∃ F, F = base1 n d s := ⟨_, rfl⟩
 obtain ⟨M, hM⟩ : ∃ M : Nat → Bool, M = fun b => mr b n d s := ⟨_, rfl⟩
 obtain ⟨R, hR⟩ : ∃ R, R = passAll n d s := ⟨_, rfl⟩
 have e3 : ∀ b, mr b n d s = M b := fun b => by rw [hM]
 simp only [e3, ← hF, ← hR] at e1 e2 hp ⊢
 have E1 := hi9 e1
 have E2 := hi9 e2
 have Hp := hi9 hp
 have t0 : ((n : Int) == 0) = false := by simp; omega
 clear hF hM hR e1 e2 e3 hp hd hs hsplit
 go_enter Tryz.func49, Tryz.ntmps49
 go_wp2
 go_loop [6] (fun iv => (iv = .int .i64 0) ∨ (iv = .int .i64 1 ∧ F 2 = true) ∨ (iv = .int .i64 2 ∧ F 2 = true ∧ F 7 = true) ∨ (iv = .int .i64 3 ∧ F 2 = true ∧ F 7 = true ∧ F 61 = true)) (fun iv => 3 - (intOf iv).toNat)
 case atStart => exact Or.inl rfl
 case round =>
  rcases hrel with rfl | ⟨rfl, f2⟩ | ⟨rfl, f2, f7⟩ | ⟨rfl, f2, f7, f61⟩
  ·have eB := E1.out 2
   have xB : ∀ w : World, (Instr.index 99 (.agg #[.int .u32 2, .int .u32 7, .int .u32 61]) (.int .i64 0)).run Tryz.prog w = .ok (.int .u32 2) w := fun _ => by kernel_rfl
   have hpB := fun W => Hp.out 2 (by decide) W
   by_cases hz : 2 % n = 0
   ·rw [if_pos hz] at eB
    have t1 : ((2 : Int) % (n : Int) != 0) = false := by rw [show (2 : Int) % (n : Int) = ((2 % n : Nat) : Int) from by norm_cast, hz]; rfl
    have EB := hi9 eB
    clear eB hz hpB
    go_wp2
    go_round
    case rel => exact Or.inr (Or.inl ⟨by go_num, EB.out⟩)
    case measure => simp [intOf]
   ·rw [if_neg hz] at eB
    have t1 : ((2 : Int) % (n : Int) != 0) = true := by rw [show (2 : Int) % (n : Int) = ((2 % n : Nat) : Int) from by norm_cast, bne_iff_ne]; exact fun h => hz (Int.ofNat.inj h)
    obtain ⟨v, hv⟩ : ∃ v, v = M 2 := ⟨_, rfl⟩
    rw [← hv] at eB
    simp only [← hv] at hpB
    have EB := hi9 eB
    clear eB hz hv
    go_wp2_with fail
    refine (hpB _).mono ?_
    rintro _ _ ⟨rfl, rfl⟩
    clear hpB
    cases v with
    | false =>
     go_wp2
     go_ret
     exact ⟨by rw [E2.out, EB.out]; rfl, rfl⟩
    | true =>
     go_wp2
     go_round
     case rel => exact Or.inr (Or.inl ⟨by go_num, EB.out⟩)
     case measure => simp [intOf]
  ·have eB := E1.out 7
   have xB : ∀ w : World, (Instr.index 99 (.agg #[.int .u32 2, .int .u32 7, .int .u32 61]) (.int .i64 1)).run Tryz.prog w = .ok (.int .u32 7) w := fun _ => by kernel_rfl
   replace f2 := hi9 f2
   have hpB := fun W => Hp.out 7 (by decide) W
   by_cases hz : 7 % n = 0
   ·rw [if_pos hz] at eB
    have t1 : ((7 : Int) % (n : Int) != 0) = false := by rw [show (7 : Int) % (n : Int) = ((7 % n : Nat) : Int) from by norm_cast, hz]; rfl
    have EB := hi9 eB
    clear eB hz hpB
    go_wp2
    go_round
    case rel => exact Or.inr (Or.inr (Or.inl ⟨by go_num, f2.out, EB.out⟩))
    case measure => simp [intOf]
   ·rw [if_neg hz] at eB
    have t1 : ((7 : Int) % (n : Int) != 0) = true := by rw [show (7 : Int) % (n : Int) = ((7 % n : Nat) : Int) from by norm_cast, bne_iff_ne]; exact fun h => hz (Int.ofNat.inj h)
    obtain ⟨v, hv⟩ : ∃ v, v = M 7 := ⟨_, rfl⟩
    rw [← hv] at eB
    simp only [← hv] at hpB
    have EB := hi9 eB
    clear eB hz hv
    go_wp2_with fail
    refine (hpB _).mono ?_
    rintro _ _ ⟨rfl, rfl⟩
    clear hpB
    cases v with
    | false =>
     go_wp2
     go_ret
     exact ⟨by rw [E2.out, f2.out, EB.out]; rfl, rfl⟩
    | true =>
     go_wp2
     go_round
     case rel => exact Or.inr (Or.inr (Or.inl ⟨by go_num, f2.out, EB.out⟩))
     case measure => simp [intOf]
  ·have eB := E1.out 61
   have xB : ∀ w : World, (Instr.index 99 (.agg #[.int .u32 2, .int .u32 7, .int .u32 61]) (.int .i64 2)).run Tryz.prog w = .ok (.int .u32 61) w := fun _ => by kernel_rfl
   replace f2 := hi9 f2
   replace f7 := hi9 f7
   have hpB := fun W => Hp.out 61 (by decide) W
   by_cases hz : 61 % n = 0
   ·rw [if_pos hz] at eB
    have t1 : ((61 : Int) % (n : Int) != 0) = false := by rw [show (61 : Int) % (n : Int) = ((61 % n : Nat) : Int) from by norm_cast, hz]; rfl
    have EB := hi9 eB
    clear eB hz hpB
    go_wp2
    go_round
    case rel => exact Or.inr (Or.inr (Or.inr ⟨by go_num, f2.out, f7.out, EB.out⟩))
    case measure => simp [intOf]
   ·rw [if_neg hz] at eB
    have t1 : ((61 : Int) % (n : Int) != 0) = true := by rw [show (61 : Int) % (n : Int) = ((61 % n : Nat) : Int) from by norm_cast, bne_iff_ne]; exact fun h => hz (Int.ofNat.inj h)
    obtain ⟨v, hv⟩ : ∃ v, v = M 61 := ⟨_, rfl⟩
    rw [← hv] at eB
    simp only [← hv] at hpB
    have EB := hi9 eB
    clear eB hz hv
    go_wp2_with fail
    refine (hpB _).mono ?_
    rintro _ _ ⟨rfl, rfl⟩
    clear hpB
    cases v with
    | false =>
     go_wp2
     go_ret
     exact ⟨by rw [E2.out, f2.out, f7.out, EB.out]; rfl, rfl⟩
    | true =>
     go_wp2
     go_round
     case rel => exact Or.inr (Or.inr (Or.inr ⟨by go_num, f2.out, f7.out, EB.out⟩))
     case measure => simp [intOf]
  ·have f2 := hi9 f2
   have f7 := hi9 f7
   have f61 := hi9 f61
   go_wp2
   go_ret
   exact ⟨by rw [E2.out, f2.out, f7.out, f61.out]; rfl, rfl⟩
end
end Go.Proofs.YtcjgilagldbjnaaGreatDoor
