/- The places of the bits that are 1: plain mathematics. The contracts of the reference's Of and of nat.Uint64. The contracts of the reference's operations on sizes that ar. What a function answers that holds its results in cells and . The contracts of zint's sums, products and forms. -/
import Derived.Test.YtcjgilagldbjnaaGreatDoorPkBb18
import Derived.Lib.TrailingZeros
import Derived.Shelf.Spec.TrailingZeros
import Derived.Test.YtcjgilagldbjnaaGreatDoorPkBb27
import Derived.Deep.RegionHeld3
namespace Go.Proofs.YtcjgilagldbjnaaGreatDoor
section
open Go.RowKit
def bitAt (xs : List Nat) (i : Nat) : Nat := at0 xs (i / 32) / 2 ^ (i % 32) % 2
def pop (n : Nat) : Nat := if h : n = 0 then 0 else n % 2 + pop (n / 2)
termination_by n
decreasing_by omega
def pops : List Nat → Nat
 | [] => 0
 | x :: xs => pop x + pops xs
theorem pops_append (xs ys : List Nat) : pops (xs ++ ys) = pops xs + pops ys := by
 induction xs with
 | nil => simp [pops]
 | cons x xs ih => simp only [List.cons_append, pops, ih]; omega
theorem pops_take_succ (xs : List Nat) (k : Nat) (h : k < xs.length) : pops (xs.take (k + 1)) = pops (xs.take k) + pop xs[k] := by
 rw [List.take_succ_eq_append_getElem h, pops_append]
 simp [pops]
theorem bitAt_in {xs : List Nat} {k t : Nat} (h : k < xs.length) (ht : t < 32) : bitAt xs (32 * k + t) = xs[k] / 2 ^ t % 2 := by
 unfold bitAt
 rw [show (32 * k + t) / 32 = k from by omega, show (32 * k + t) % 32 = t from by omega, at0_in h]
theorem bit_one {x t : Nat} (h : x.testBit t = true) : x / 2 ^ t % 2 = 1 := by
 rw [Nat.testBit_eq_decide_div_mod_eq] at h; exact of_decide_eq_true h
structure Low (y t z : Nat) : Prop where
 lt : t < 32
 one : y.testBit t = true
 below : ∀ j, j < t → y.testBit j = false
 rest : ∀ j, z.testBit j = true → y.testBit j = true ∧ t < j
 pops : pop z + 1 = pop y
 less : z < y
abbrev Pl := { x : Nat // x < 1152921504606846976 }
def lastI (pre : List Pl) : Int := match pre.getLast? with
 | none => -1
 | some x => (x.1 : Int)
theorem lastI_nil : lastI [] = -1 := rfl
theorem lastI_snoc (pre : List Pl) (x : Pl) : lastI (pre ++ [x]) = (x.1 : Int) := by simp [lastI]
def Good (xs : List Nat) (pre : List Pl) : Prop := ∀ (p : List Pl) (x : Pl), (p ++ [x]) <+: pre → lastI p < (x.1 : Int) ∧ bitAt xs x.1 = 1
theorem Good.nil_ (xs : List Nat) : Good xs [] := fun p x h => by
 have := List.prefix_nil.1 h
 simp at this
theorem Good.step {xs : List Nat} {pre : List Pl} (h : Good xs pre) (x : Pl) (h1 : lastI pre < (x.1 : Int)) (h2 : bitAt xs x.1 = 1) : Good xs (pre ++ [x]) := fun p y hp => by
 rcases List.prefix_concat_iff.1 hp with e | e
 ·obtain ⟨rfl, e2⟩ := List.append_inj' e rfl
  obtain rfl : y = x := by simpa using e2
  exact ⟨h1, h2⟩
 ·exact h p y e
theorem Good.last {xs : List Nat} {pre : List Pl} {x : Pl} (h : Good xs (pre ++ [x])) : lastI pre < (x.1 : Int) ∧ bitAt xs x.1 = 1 := h pre x (List.prefix_refl _)
structure Limbs (xs : List Nat) (k : Nat) (pre : List Pl) : Prop where
 le : k ≤ xs.length
 good : Good xs pre
 count : pre.length = pops (xs.take k)
 last : lastI pre < 32 * (k : Int)
structure Inner (xs : List Nat) (k y : Nat) (pre : List Pl) : Prop where
 lt : k < xs.length
 yb : y < 4294967296
 good : Good xs pre
 count : pre.length + pop y = pops (xs.take (k + 1))
 last : lastI pre < 32 * ((k : Int) + 1)
 bits : ∀ j, y.testBit j = true → at0 xs k / 2 ^ j % 2 = 1 ∧ lastI pre < 32 * (k : Int) + (j : Int)
theorem Limbs.start (xs : List Nat) : Limbs xs 0 [] := ⟨by omega, Good.nil_ _, by simp [pops], by rw [lastI_nil]; omega⟩
theorem Limbs.enter {xs : List Nat} {k : Nat} {pre : List Pl} (h : Limbs xs k pre) (hd : Dig 4294967296 xs) (hk : k < xs.length) : Inner xs k xs[k] pre := by
 have h1 := h.last
 refine ⟨hk, hd.at_ k hk, h.good, by rw [pops_take_succ _ _ hk, h.count], by omega, fun j hj => ⟨?_, by omega⟩⟩
 rw [at0_in hk]; exact bit_one hj
theorem Inner.ok {xs : List Nat} {k y t z : Nat} {pre : List Pl} (h : Inner xs k y pre) (hl : Low y t z) : lastI pre < 32 * (k : Int) + (t : Int) ∧ bitAt xs (32 * k + t) = 1 := by
 have h1 := h.bits t hl.one
 refine ⟨h1.2, ?_⟩
 rw [bitAt_in h.lt hl.lt, ← at0_in h.lt]
 exact h1.1
theorem Inner.step {xs : List Nat} {k y t z : Nat} {pre : List Pl} (h : Inner xs k y pre) (hl : Low y t z) (x : Pl) (hx : x.1 = 32 * k + t) : Inner xs k z (pre ++ [x]) := by
 have h1 := h.ok hl
 have h2 := hl.less
 have h3 := h.yb
 have h4 := hl.lt
 have h5 := hl.pops
 refine ⟨h.lt, by omega, h.good.step x (by rw [hx]; omega) (by rw [hx]; exact h1.2), ?_, ?_, ?_⟩
 ·rw [List.length_append, List.length_singleton]; have := h.count; omega
 ·rw [lastI_snoc, hx]; omega
 ·intro j hj
  obtain ⟨a, b⟩ := hl.rest j hj
  refine ⟨(h.bits j a).1, ?_⟩
  rw [lastI_snoc, hx]; omega
end
section
open Go.RowKit
set_option maxHeartbeats 400000 in
theorem rof_any (n : Nat) (h : n < 18446744073709551616) (w : World) :
  Calls Tryz.prog 26 #[.int .u64 (n : Int)] w fun e w' => ∃ zs A' c', e = .returned (.slice A' zs.length c') ∧ Num 4294967296 zs n ∧ Res w' w.heap.size 34 A' c' (u32s zs) ∧ Below w.heap.size w w' := by
 have e1 : IntKind.u32.wrap ((n : Int) % 4294967296) = ((n % 4294967296 : Nat) : Int) := by rw [Go.Proofs.wrap_u32']; omega
 have e2 : IntKind.u32.wrap ((n : Int) / 4294967296) = ((n / 4294967296 : Nat) : Int) := by rw [Go.Proofs.wrap_u32']; omega
 obtain ⟨a, ha⟩ : ∃ a, a = n % 4294967296 := ⟨_, rfl⟩
 obtain ⟨b, hb⟩ : ∃ b, b = n / 4294967296 := ⟨_, rfl⟩
 rw [← ha] at e1
 rw [← hb] at e2
 have hab : Hid (n = a + 4294967296 * b ∧ a < 4294967296 ∧ b < 4294967296) := by constructor <;> omega
 clear ha hb
 go_enter Tryz.func26, Tryz.ntmps26
 go_wp2_with (first | (simp only [e1, e2]) | (simp only [e1]) | (simp only [e2]))
 have hblk : Blk (w.alloc (.cells #[.int .u32 (a : Int), .int .u32 (b : Int)] 34)) w.heap.size 34 (u32s [a, b]) := Blk.new_ rfl
 obtain ⟨h1, h2, h3⟩ := hab.out
 have hd : Dig 4294967296 [a, b] := Dig.cons_ h2 (Dig.cons_ h3 (Dig.nil_ _))
 refine (rnorm_any (some ⟨w.heap.size, 0, none⟩) 2 [a, b] _ (w.heap.size + 1) ?_ ?_ ?_).mono ?_
 ·exact Rd.of_blk hblk (by omega) 0 (fun k v hv => by rw [Nat.zero_add]; exact hv)
 ·simp
 ·simp
 rintro e w' ⟨A', c', rfl, hres, hb⟩
 go_wp2
 go_ret
 have hz : (w.alloc (.cells #[.int .u32 (a : Int), .int .u32 (b : Int)] 34)).heap.size = w.heap.size + 1 := by simp
 rw [hz] at hres hb
 exact ⟨_, A', c', rfl, by rw [h1]; simpa [val] using Num.of_trim hd, hres.mono (by omega), (br9.alloc nl9 _).trans (hb.mono (by omega))⟩
end
section
open Go.RowKit
section
variable {w w' : World} {A A2 : Option Addr} {c c2 n k K J : Nat} {xs ys : List Nat}
theorem Hv.rnorm (h : Hv w A c xs n K) (hK : K ≤ 67108864) : Calls Tryz.prog 13 #[.slice A xs.length c] w fun e w' => NOut w w' n e := by
 have hl1 := h.len
 refine (rnorm_any A c xs w w.heap.size h.rd nl9 (by omega)).mono ?_
 rintro e w' ⟨A', c', rfl, hr, hb⟩
 exact ⟨_, A', c', rfl, by rw [← h.val_]; exact Num.of_trim h.dig, hr, hb⟩
theorem Hv.radd (h : Hv w A c xs n K) (h2 : Hv w A2 c2 ys k J) (hK : K ≤ 67108864) (hJ : J ≤ 67108864) : Calls Tryz.prog 25 #[.slice A xs.length c, .slice A2 ys.length c2] w fun e w' => NOut w w' (n + k) e := by
 have hl1 := h.len
 have hl2 := h2.len
 have h9 := radd_any A A2 c c2 xs ys w w.heap.size h.rd h2.rd nl9 h.dig h2.dig (by omega) (by omega)
 rwa [h.val_, h2.val_] at h9
theorem Hv.rsub (h : Hv w A c xs n K) (h2 : Hv w A2 c2 ys k J) (hK : K ≤ 67108864) (hJ : J ≤ 67108864) (hle : k ≤ n) : Calls Tryz.prog 73 #[.slice A xs.length c, .slice A2 ys.length c2] w fun e w' => NOut w w' (n - k) e := by
 have hl1 := h.len
 have hl2 := h2.len
 have h9 := rsub_any A A2 c c2 xs ys w w.heap.size h.rd h2.rd nl9 h.dig h2.dig (by omega) (by omega) (by rw [h.val_, h2.val_]; exact hle)
 rwa [h.val_, h2.val_] at h9
theorem Hv.rmul (h : Hv w A c xs n K) (h2 : Hv w A2 c2 ys k J) (hK : K ≤ 67108864) (hJ : J ≤ 67108864) : Calls Tryz.prog 29 #[.slice A xs.length c, .slice A2 ys.length c2] w fun e w' => NOut w w' (n * k) e := by
 have hl1 := h.len
 have hl2 := h2.len
 have t1 := trimL_length_le xs
 have t2 := trimL_length_le ys
 have h9 := rmul_any A A2 c c2 xs ys w w.heap.size h.rd h2.rd nl9 h.dig h2.dig (by omega) (by omega) (by omega)
 rwa [h.val_, h2.val_] at h9
theorem Hv.rcmp (h : Hv w A c xs n K) (h2 : Hv w A2 c2 ys k J) (hK : K ≤ 67108864) (hJ : J ≤ 67108864) : Calls Tryz.prog 27 #[.slice A xs.length c, .slice A2 ys.length c2] w fun e w' => e = .returned (.int .i64 (cmpN n k)) ∧ w = w' := by
 have hl1 := h.len
 have hl2 := h2.len
 have h9 := rcmp_any A A2 c c2 xs ys w w.heap.size h.rd h2.rd h.dig h2.dig (by omega) (by omega)
 rwa [h.val_, h2.val_] at h9
theorem Hv.ncmp (h : Hv w A c xs n K) (h2 : Hv w A2 c2 ys k J) (hK : K ≤ 67108864) (hJ : J ≤ 67108864) : Calls Tryz.prog 43 #[.slice A xs.length c, .slice A2 ys.length c2] w fun e w' => e = .returned (.int .i64 (cmpN n k)) ∧ Dr w w' := by
 have hl1 := h.len
 have hl2 := h2.len
 have h9 := cmp_any A A2 c c2 xs ys w w.heap.size h.rd h2.rd h.dig h2.dig h.cap h2.cap (by omega) (by omega)
 rwa [h.val_, h2.val_] at h9
def QOut (w w' : World) (n k : Nat) (e : Ending) : Prop := ∃ qs rs A1 c1 A3 c3, e = .returned (.tuple #[.slice A1 qs.length c1, .slice A3 rs.length c3]) ∧ Num 4294967296 qs (n / k) ∧ Num 4294967296 rs (n % k) ∧ Res w' w.heap.size 34 A1 c1 (u32s qs) ∧ Res w' w.heap.size 34 A3 c3 (u32s rs) ∧ Below w.heap.size w w'
theorem Hv.rdiv (h : Hv w A c xs n K) (h2 : Hv w A2 c2 ys k J) (hK : K ≤ 67108864) (hJ : J ≤ 67108864) (hk : 0 < k) : Calls Tryz.prog 51 #[.slice A xs.length c, .slice A2 ys.length c2] w fun e w' => QOut w w' n k e := by
 have hl1 := h.len
 have hl2 := h2.len
 have h9 := rdiv_any A A2 c c2 xs ys w w.heap.size h.rd h2.rd nl9 h.dig h2.dig (by omega) (by omega) (by rw [h2.val_]; exact hk)
 rwa [h.val_, h2.val_] at h9
theorem Hv.rzero (h : Hv w A c xs n K) (hK : K ≤ 67108864) : Calls Tryz.prog 45 #[.slice A xs.length c] w fun e w' => e = .returned (.bool (decide (n = 0))) ∧ w = w' := by
 have hl1 := h.len
 have h9 := zero_any A c xs w w.heap.size h.rd (by omega)
 have e : decide (trimL xs = []) = decide (n = 0) := by
  have := (Num.of_trim h.dig).nil_iff (by omega)
  rw [h.val_] at this
  exact decide_eq_decide.2 this
 rwa [e] at h9
theorem rof_out (n : Nat) (h : n < 18446744073709551616) (w : World) : Calls Tryz.prog 26 #[.int .u64 (n : Int)] w fun e w' => NOut w w' n e := rof_any n h w
theorem of_out (n : Nat) (h : n < 18446744073709551616) (w : World) : Calls Tryz.prog 20 #[.int .u64 (n : Int)] w fun e w' => NOut w w' n e := of_any n h w
end
end
section
open Go.RowKit
section
variable {w : World} {p q r u g g2 g3 : Nat} {x y x2 y2 x3 y3 : Value} {fn : Func} {tmps : Array Value}
theorem lvz (h : Blk w g 25 [x, y]) : (loadVar 25 ⟨g, 0, none⟩).run Tryz.prog w = .ok (.agg #[x, y]) w :=
 run_loadVar_row w g 25 25 #[x, y] (0, 0) _ h Tryz.underlying25 rfl (by kernel_rfl)
theorem results_zz (h : fn.results = #[.cell p 25, .cell q 25]) (hp : tmps.getD p undef = .pointer (some ⟨g, 0, none⟩)) (hq : tmps.getD q undef = .pointer (some ⟨g2, 0, none⟩)) (hb : Blk w g 25 [x, y]) (hb2 : Blk w g2 25 [x2, y2]) :
  (results fn tmps).run Tryz.prog w = .ok (.tuple #[.agg #[x, y], .agg #[x2, y2]]) w := by
 have hp' : tmps[p]?.getD undef = .pointer (some ⟨g, 0, none⟩) := by simpa using hp
 have hq' : tmps[q]?.getD undef = .pointer (some ⟨g2, 0, none⟩) := by simpa using hq
 simp [results, h, hp', hq', asAddr, lvz hb, lvz hb2]
end
end
section
open Go.RowKit
section
variable {w : World} {g g2 : Bool} {A A2 : Option Addr} {c c2 K J : Nat} {xs ys : List Nat} {z y : Int}
set_option maxHeartbeats 1600000 in
theorem Zh.add (h : Zh w g A c xs z K) (h2 : Zh w g2 A2 c2 ys y J) (hK : K ≤ 67108864) (hJ : J ≤ 67108864) :
  Calls Tryz.prog 57 #[.agg #[.bool g, .slice A xs.length c], .agg #[.bool g2, .slice A2 ys.length c2]] w fun e w' => ZOut w w' (z + y) e := by
 have e9 : Hid (∀ W : World, Below w.heap.size w W → Calls Tryz.prog 74 #[.bool g, .slice A xs.length c, .bool g2, .slice A2 ys.length c2] W fun e w' => ZOut W w' (z + y) e) := fun W hW => by
  have := zadded_any g g2 (h.hv.next hW) (h2.hv.next hW) hK hJ
  rwa [h.sg, h2.sg] at this
 clear h h2
 go_enter Tryz.func57, Tryz.ntmps57
 go_wp2_with fail
 refine (e9.out _ (bel_three _ _ _ _)).mono ?_
 rintro e w1 ⟨zs, A', c', rfl, hz, hr, hb⟩
 obtain ⟨hc, hf⟩ := bcell hb
 have hB := (blk_res2 w (.cells #[.bool g, .slice A xs.length c] 25) (.cells #[.bool g2, .slice A2 ys.length c2] 25) (.bool false) (.slice none 0 0)).below hb (by simp)
 go_wp2
 exact zret ((bel_three _ _ _ _).trans (hb.mono (bel_three _ _ _ _).size)) hB (by omega) hz hr (by simp) rfl rfl rfl
set_option maxHeartbeats 1600000 in
theorem Zh.mul (h : Zh w g A c xs z K) (h2 : Zh w g2 A2 c2 ys y J) (hK : K ≤ 67108864) (hJ : J ≤ 67108864) :
  Calls Tryz.prog 60 #[.agg #[.bool g, .slice A xs.length c], .agg #[.bool g2, .slice A2 ys.length c2]] w fun e w' => ZOut w w' (z * y) e := by
 have e9 : Hid (∀ W : World, Below w.heap.size w W → Calls Tryz.prog 44 #[.slice A xs.length c, .slice A2 ys.length c2] W fun e w' => NOut W w' (z.natAbs * y.natAbs) e) := fun W hW => Hv.mulN (h.hv.next hW) (h2.hv.next hW) hK hJ
 have Hv9 : Hid ((z * y) = ivalN (!(g == g2)) (z.natAbs * y.natAbs)) := by show _ = _; rw [show (!(g == g2)) = (g != g2) from rfl, ← mul_ival, h.sg, h2.sg]
 have hl3 : w.heap.size < w.heap.size + 1 + 1 + 1 := by omega
 have hn1 : w.heap.size + 1 + 1 ≠ w.heap.size := by omega
 have hn2 : w.heap.size ≠ w.heap.size + 1 + 1 := by omega
 clear h h2
 go_enter Tryz.func60, Tryz.ntmps60
 go_wp2_with fail
 go_region_held3 (fun W => W.cell? ⟨w.heap.size, 0, none⟩ = some (.bool g) ∧ W.cell? ⟨w.heap.size, 1, none⟩ = some (.slice A xs.length c) ∧ W.cell? ⟨w.heap.size + 1, 0, none⟩ = some (.bool g2) ∧ W.cell? ⟨w.heap.size + 1, 1, none⟩ = some (.slice A2 ys.length c2)) (go_keep) (first
  | (go_at_call 44; (with_reducible refine (e9.out _ (by first | exact bel_three _ _ _ _ | exact (bel_three _ _ _ _).trans (((Dr.refl _).step _).below _))).mono ?_); rintro e w1 ⟨zs, A', c', rfl, hz, hr, hb⟩; obtain ⟨hc, hf⟩ := bcell hb; have q3 : w.heap.size + 1 + 1 < w1.heap.size := Nat.lt_of_lt_of_le (Nat.lt_succ_self _) (show w.heap.size + 1 + 1 + 1 ≤ w1.heap.size by simpa using hb.size); have q2 : w.heap.size + 1 < w1.heap.size := Nat.lt_of_succ_lt q3; have q1 : w.heap.size < w1.heap.size := Nat.lt_of_succ_lt q2)
  | (go_at_call 75; (with_reducible refine (made_num _ _ hz Hv9.out _ (res_len hr)).mono ?_); rintro e w2 ⟨rfl, hb2⟩; obtain ⟨hc2, hf2⟩ := bcell hb2))
 all_goals
  have k1 : Below w.heap.size w w1 := bst (by first | exact bel_three _ _ _ _ | exact (bel_three _ _ _ _).trans (((Dr.refl _).step _).below _)) hb nl9
  have hB : Blk w1 (w.heap.size + 2) 25 [.bool false, .slice none 0 0] := by first | exact (blk_res2 w _ _ _ _).below hb (by simp) | exact ((blk_res2 w _ _ _ _).drewN _).below hb (by simp) | exact (blk_res2 w _ _ _ _).drew.below hb (by simp)
  go_wp2_with fail
  exact zret (z := z * y) (bst k1 hb2 nl9) (hB.below hb2 (by omega)) (by omega) (num_eq hz (by rw [Hv9.out, abs_ival])) (hr.below hb2 nl9) (by simp; try omega) rfl rfl rfl
end
theorem bits_zero (n : Nat) : (((bitsOf n : Nat) : Int) == 0) = decide (n = 0) := by
 rcases Nat.eq_zero_or_pos n with h | h
 ·subst h; rfl
 ·have h1 : bitsOf n ≠ 0 := by unfold bitsOf; rw [if_neg (by omega)]; omega
  have h2 : ¬ n = 0 := by omega
  rw [decide_eq_false h2]
  simpa using h1
section
variable {w w' : World} {g g2 : Bool} {A A2 : Option Addr} {c c2 K J : Nat} {xs ys : List Nat} {z y : Int}
set_option maxHeartbeats 800000 in
theorem Zh.isZero (h : Zh w g A c xs z K) (hK : K ≤ 67108864) : Calls Tryz.prog 36 #[.agg #[.bool g, .slice A xs.length c]] w fun e w' => e = .returned (.bool (decide (z = 0))) ∧ Below w.heap.size w w' := by
 have L1 := hi9 (fun W (hW : Below w.heap.size w W) => (h.hv.next hW).nlen hK)
 have e1 := bits_zero z.natAbs
 have e2 : decide (z.natAbs = 0) = decide (z = 0) := decide_eq_decide.2 (by omega)
 rw [e2] at e1
 obtain ⟨v, hv⟩ : ∃ v, v = decide (z = 0) := ⟨_, rfl⟩
 obtain ⟨b, hb⟩ : ∃ b, b = bitsOf z.natAbs := ⟨_, rfl⟩
 rw [← hb] at L1 e1
 rw [← hv] at e1 ⊢
 clear h hv hb e2
 go_enter Tryz.func36, Tryz.ntmps36
 go_wp2_with fail
 refine (L1.out _ (bel_one _ _)).mono ?_
 rintro e w1 ⟨rfl, rfl⟩
 go_wp2_with (simp only [])
 go_ret
 exact ⟨rfl, bel_one _ _⟩
end
end
end Go.Proofs.YtcjgilagldbjnaaGreatDoor
