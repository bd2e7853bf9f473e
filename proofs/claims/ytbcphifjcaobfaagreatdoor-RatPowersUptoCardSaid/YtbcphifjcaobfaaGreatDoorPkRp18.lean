/- The contracts of apply. The contract of simulate. The contracts of TrailingZeros64 and of wordGcd. The contract of wide, with the row it makes. -/
import Derived.Test.YtbcphifjcaobfaaGreatDoorPkRp17
import Derived.Deep.MidRow
import Derived.Deep.LoopGhost
import Derived.Test.YtbcphifjcaobfaaGreatDoorPkRp4
namespace Go.Proofs.YtbcphifjcaobfaaGreatDoor
section
open Go.RowKit
def MixOut (w w' : World) (B ga gb N : Nat) (ra rb : List Nat) (X Y : Nat) : Prop :=
 ∃ xs2 ys2 : List Nat, xs2.length = N ∧ ys2.length = N ∧ Dig 18446744073709551616 xs2 ∧ Dig 18446744073709551616 ys2 ∧ val 18446744073709551616 xs2 = X ∧ val 18446744073709551616 ys2 = Y ∧ Blk w' ga 116 (u64s (xs2 ++ ra)) ∧ Blk w' gb 116 (u64s (ys2 ++ rb)) ∧ Below B w w'
set_option maxRecDepth 100000 in
set_option maxHeartbeats 1600000 in
theorem apply_even (ga gb ca cb : Nat) (xs ys ra rb : List Nat) (u0 v0 u1 v1 B : Nat) (w : World) (hba : Blk w ga 116 (u64s (xs ++ ra))) (hbb : Blk w gb 116 (u64s (ys ++ rb))) (hne : ga ≠ gb) (hB : B ≤ ga) (hB2 : B ≤ gb) (hl : ys.length = xs.length) (hca : xs.length ≤ ca) (hcb : xs.length ≤ cb) (hm48 : xs.length ≤ 281474976710656) (hdx : Dig 18446744073709551616 xs) (hdy : Dig 18446744073709551616 ys)
  (h1 : u0 < 18446744073709551616) (h2 : v0 < 18446744073709551616) (h3 : u1 < 18446744073709551616) (h4 : v1 < 18446744073709551616) (a1 : v0 * val 18446744073709551616 ys ≤ u0 * val 18446744073709551616 xs) (a2 : u0 * val 18446744073709551616 xs - v0 * val 18446744073709551616 ys < 18446744073709551616 ^ xs.length) (b1 : u1 * val 18446744073709551616 xs ≤ v1 * val 18446744073709551616 ys) (b2 : v1 * val 18446744073709551616 ys - u1 * val 18446744073709551616 xs < 18446744073709551616 ^ xs.length) :
  Calls Tryz.prog 181 #[.agg #[.int .u64 (u0 : Int), .int .u64 (v0 : Int), .int .u64 (u1 : Int), .int .u64 (v1 : Int), .bool true], .slice (some ⟨ga, 0, none⟩) xs.length ca, .slice (some ⟨gb, 0, none⟩) xs.length cb] w fun e w' => e = .returned (.tuple #[.slice (some ⟨ga, 0, none⟩) xs.length ca, .slice (some ⟨gb, 0, none⟩) xs.length cb]) ∧
   MixOut w w' B ga gb xs.length ra rb (u0 * val 18446744073709551616 xs - v0 * val 18446744073709551616 ys) (v1 * val 18446744073709551616 ys - u1 * val 18446744073709551616 xs) := by
 have hgl := hba.lt
 have hgl2 := hbb.lt
 have HM : Hid (∀ W, Below w.heap.size w W → Calls Tryz.prog 206 #[.slice (some ⟨ga, 0, none⟩) xs.length ca, .slice (some ⟨gb, 0, none⟩) xs.length cb, .int .u64 (u0 : Int), .int .u64 (v0 : Int), .int .u64 (v1 : Int), .int .u64 (u1 : Int)] W fun e w' => e = .returned (.tuple #[]) ∧ MixOut W w' B ga gb xs.length ra rb (u0 * val 18446744073709551616 xs - v0 * val 18446744073709551616 ys) (v1 * val 18446744073709551616 ys - u1 * val 18446744073709551616 xs)) := fun W hW =>
  (mix_any ga gb ca cb xs ys ra rb u0 v0 v1 u1 B W (hba.below hW hgl) (hbb.below hW hgl2) hne hB hB2 hl hca hcb hm48 hdx hdy h1 h2 h4 h3 a1 a2 b1 b2).mono fun e w' ⟨x2, y2, q0, q1, q2, q3, q4, q5, q6, q7, q8, q9⟩ => ⟨q0, x2, y2, q1, q2, q3, q4, q5, q6, q7, q8, q9⟩
 clear hba hbb a1 a2 b1 b2 hl
 go_enter Tryz.func181, Tryz.ntmps181
 go_wp2_with (go_at_call 206; (with_reducible refine (HM.out _ (by first | exact br9 | exact br9.alloc nl9 _)).mono ?_); rintro e w2 ⟨rfl, hmo⟩)
 go_ret2
 obtain ⟨x2, y2, q1, q2, q3, q4, q5, q6, q7, q8, q9⟩ := hmo
 exact ⟨rfl, x2, y2, q1, q2, q3, q4, q5, q6, q7, q8, (br9.alloc (by omega) _).trans q9⟩
set_option maxRecDepth 100000 in
set_option maxHeartbeats 1600000 in
theorem apply_odd (ga gb ca cb : Nat) (xs ys ra rb : List Nat) (u0 v0 u1 v1 B : Nat) (w : World) (hba : Blk w ga 116 (u64s (xs ++ ra))) (hbb : Blk w gb 116 (u64s (ys ++ rb))) (hne : ga ≠ gb) (hB : B ≤ ga) (hB2 : B ≤ gb) (hl : ys.length = xs.length) (hca : xs.length ≤ ca) (hcb : xs.length ≤ cb) (hm48 : xs.length ≤ 281474976710656) (hdx : Dig 18446744073709551616 xs) (hdy : Dig 18446744073709551616 ys)
  (h1 : u0 < 18446744073709551616) (h2 : v0 < 18446744073709551616) (h3 : u1 < 18446744073709551616) (h4 : v1 < 18446744073709551616) (a1 : u0 * val 18446744073709551616 xs ≤ v0 * val 18446744073709551616 ys) (a2 : v0 * val 18446744073709551616 ys - u0 * val 18446744073709551616 xs < 18446744073709551616 ^ xs.length) (b1 : v1 * val 18446744073709551616 ys ≤ u1 * val 18446744073709551616 xs) (b2 : u1 * val 18446744073709551616 xs - v1 * val 18446744073709551616 ys < 18446744073709551616 ^ xs.length) :
  Calls Tryz.prog 181 #[.agg #[.int .u64 (u0 : Int), .int .u64 (v0 : Int), .int .u64 (u1 : Int), .int .u64 (v1 : Int), .bool false], .slice (some ⟨ga, 0, none⟩) xs.length ca, .slice (some ⟨gb, 0, none⟩) xs.length cb] w fun e w' => e = .returned (.tuple #[.slice (some ⟨gb, 0, none⟩) xs.length cb, .slice (some ⟨ga, 0, none⟩) xs.length ca]) ∧
   MixOut w w' B gb ga xs.length rb ra (v0 * val 18446744073709551616 ys - u0 * val 18446744073709551616 xs) (u1 * val 18446744073709551616 xs - v1 * val 18446744073709551616 ys) := by
 have hgl := hba.lt
 have hgl2 := hbb.lt
 have HM : Hid (∀ W, Below w.heap.size w W → Calls Tryz.prog 206 #[.slice (some ⟨gb, 0, none⟩) xs.length cb, .slice (some ⟨ga, 0, none⟩) xs.length ca, .int .u64 (v0 : Int), .int .u64 (u0 : Int), .int .u64 (u1 : Int), .int .u64 (v1 : Int)] W fun e w' => e = .returned (.tuple #[]) ∧ MixOut W w' B gb ga xs.length rb ra (v0 * val 18446744073709551616 ys - u0 * val 18446744073709551616 xs) (u1 * val 18446744073709551616 xs - v1 * val 18446744073709551616 ys)) := fun W hW => by
  have h := mix_any gb ga cb ca ys xs rb ra v0 u0 u1 v1 B W (hbb.below hW hgl2) (hba.below hW hgl) hne.symm hB2 hB hl.symm (by omega) (by omega) (by omega) hdy hdx h2 h1 h3 h4 a1 (by rw [hl]; exact a2) b1 (by rw [hl]; exact b2)
  rw [hl] at h
  exact h.mono fun e w' ⟨x2, y2, q0, q1, q2, q3, q4, q5, q6, q7, q8, q9⟩ => ⟨q0, x2, y2, q1, q2, q3, q4, q5, q6, q7, q8, q9⟩
 clear hba hbb a1 a2 b1 b2 hl
 go_enter Tryz.func181, Tryz.ntmps181
 go_wp2_with (go_at_call 206; (with_reducible refine (HM.out _ (by first | exact br9 | exact br9.alloc nl9 _)).mono ?_); rintro e w2 ⟨rfl, hmo⟩)
 go_ret2
 obtain ⟨x2, y2, q1, q2, q3, q4, q5, q6, q7, q8, q9⟩ := hmo
 exact ⟨rfl, x2, y2, q1, q2, q3, q4, q5, q6, q7, q8, (br9.alloc (by omega) _).trans q9⟩
end
section
open Go.RowKit
theorem top_or {t y s m : Nat} (hsm : s + m = 64) (ht : t < 2 ^ m) (hy : y < 18446744073709551616) : bits BinOp.or IntKind.u64 (IntKind.u64.wrap ((t : Int) * 2 ^ s)) (((y / 2 ^ m : Nat) : Int)) = ((t * 2 ^ s + y / 2 ^ m : Nat) : Int) ∧ t * 2 ^ s + y / 2 ^ m < 18446744073709551616 := by
 have hW : (18446744073709551616 : Nat) = 2 ^ m * 2 ^ s := by rw [← Nat.pow_add, show m + s = 64 from by omega]
 have h1 : y / 2 ^ m < 2 ^ s := by
  rw [Nat.div_lt_iff_lt_mul (Nat.two_pow_pos m), Nat.mul_comm, ← hW]; exact hy
 have h2 : (t + 1) * 2 ^ s ≤ 18446744073709551616 := by rw [hW]; exact Nat.mul_le_mul_right _ ht
 rw [Nat.add_mul, Nat.one_mul] at h2
 have h3 : t * 2 ^ s < 18446744073709551616 := by have := Nat.two_pow_pos s; omega
 have h5 := shl_or (y / 2 ^ m) t s m hsm h1 (Nat.lt_of_le_of_lt (Nat.div_le_self _ _) hy)
 rw [wrap_shl] at h5 ⊢
 rw [Nat.mod_eq_of_lt h3] at h5 ⊢
 refine ⟨?_, by omega⟩
 rw [bits_or_u64_nat _ _ (Nat.lt_of_le_of_lt (Nat.div_le_self _ _) hy) h3, Nat.or_comm, ← bits_or_u64_nat _ _ h3 (Nat.lt_of_le_of_lt (Nat.div_le_self _ _) hy)] at h5
 rw [h5, Nat.add_comm]
theorem shr_n (x t : Nat) : (x : Int) / 2 ^ t = ((x / 2 ^ t : Nat) : Int) := by rw [Int.natCast_ediv, Int.natCast_pow]; rfl
theorem top_two {us : List Nat} {m : Nat} (hl : us.length = m + 2) (hd : Dig 18446744073709551616 us) : val 18446744073709551616 us / 18446744073709551616 ^ m = us[m] + 18446744073709551616 * us[m + 1] ∧ val 18446744073709551616 us / 18446744073709551616 ^ (m + 1) = us[m + 1] := by
 have e1 : us.drop m = [us[m], us[m + 1]] := by
  rw [List.drop_eq_getElem_cons (by omega), List.drop_eq_getElem_cons (by omega), List.drop_of_length_le (by omega)]
 have e2 : us.drop (m + 1) = [us[m + 1]] := by
  rw [List.drop_eq_getElem_cons (by omega), List.drop_of_length_le (by omega)]
 rw [← val_drop (by omega) _ _ hd, ← val_drop (by omega) _ _ hd, e1, e2]
 simp [val]
theorem top_word1 {vs : List Nat} {m : Nat} (hl : vs.length = m + 1) (hd : Dig 18446744073709551616 vs) : val 18446744073709551616 vs / 18446744073709551616 ^ m = vs[m] := by
 have e2 : vs.drop m = [vs[m]] := by
  rw [List.drop_eq_getElem_cons (by omega), List.drop_of_length_le (by omega)]
 rw [← val_drop (by omega) _ _ hd, e2]
 simp [val]
theorem two_div {t y s m : Nat} (hsm : s + m = 64) : (y + 18446744073709551616 * t) / 2 ^ m = t * 2 ^ s + y / 2 ^ m := by
 have hW : (18446744073709551616 : Nat) = 2 ^ m * 2 ^ s := by rw [← Nat.pow_add, show m + s = 64 from by omega]
 rw [hW, Nat.mul_assoc, Nat.add_mul_div_left _ _ (Nat.two_pow_pos m), Nat.mul_comm (2 ^ s), Nat.add_comm]
theorem two_alloc (w : World) (n : Nat) (o o2 : Obj) : Below w.heap.size w (((w.alloc o).drewN n).alloc o2) := by
 have h1 := (Below.refl w.heap.size w).alloc nl9 o
 have h2 := h1.trans (((Dr.refl (w.alloc o)).step n).below w.heap.size)
 exact h2.alloc h2.size o2
theorem blk_two_draw {w : World} {o : Obj} {n : Nat} {t : TypeId} {cs : Array Value} {vs : List Value} (e : cs = vs.toArray) : Blk (((w.alloc o).drewN n).alloc (.cells cs t (0, 0))) (w.heap.size + 1) t vs := by
 have h := Blk.new_ (w := (w.alloc o).drewN n) (t := t) e
 have hz : ((w.alloc o).drewN n).heap.size = w.heap.size + 1 := by show (w.alloc o).heap.size = _; simp
 rwa [hz] at h
def StepsOk (ev : Bool) (u0 v0 u1 v1 X Y : Nat) : Prop :=
 v0 = 0 ∨ (u0 < 18446744073709551616 ∧ v0 < 18446744073709551616 ∧ u1 < 18446744073709551616 ∧ v1 < 18446744073709551616 ∧
  (if ev then v0 * Y ≤ u0 * X ∧ u1 * X ≤ v1 * Y ∧ v1 * Y - u1 * X ≤ u0 * X - v0 * Y ∧ Nat.gcd (u0 * X - v0 * Y) (v1 * Y - u1 * X) = Nat.gcd X Y ∧ u0 * X - v0 * Y + (v1 * Y - u1 * X) ≤ X
   else u0 * X ≤ v0 * Y ∧ v1 * Y ≤ u1 * X ∧ u1 * X - v1 * Y ≤ v0 * Y - u0 * X ∧ Nat.gcd (v0 * Y - u0 * X) (u1 * X - v1 * Y) = Nat.gcd X Y ∧ v0 * Y - u0 * X + (u1 * X - v1 * Y) ≤ X))
def Simd (ev : Bool) (x0 y0 x y u0 u1 u2 v0 v1 v2 : Nat) : Prop :=
 Leh ev x0 y0 x y u1 u2 v1 v2 ∧ u0 ≤ x0 ∧ u1 ≤ x0 ∧ v0 ≤ x0 ∧ v1 ≤ x0 ∧ (v0 = 0 ∨ ∃ xp, Leh (!ev) x0 y0 xp x u0 u1 v0 v1 ∧ v1 ≤ x ∧ x + v0 + v1 ≤ xp)
theorem Simd.ok {ev : Bool} {x0 y0 x y u0 u1 u2 v0 v1 v2 D ra rb X Y : Nat} (h : Simd ev x0 y0 x y u0 u1 u2 v0 v1 v2) (hX : X = x0 * D + ra) (hY : Y = y0 * D + rb) (ha : ra < D) (hb : rb < D) (hx : x0 < 18446744073709551616) : StepsOk ev u0 v0 u1 v1 X Y := by
 obtain ⟨_, h1, h2, h3, h4, h5⟩ := h
 rcases Nat.eq_zero_or_pos v0 with h0 | h0
 ·exact Or.inl h0
 rcases h5 with h5 | ⟨xp, h5, h6, h7⟩
 ·omega
 refine Or.inr ⟨by omega, by omega, by omega, by omega, ?_⟩
 cases ev
 ·simp only [Bool.false_eq_true, if_false]
  obtain ⟨m1, m2, m3, m4, m5⟩ := Leh.mixed2 h5 h6 h7 hX hY ha hb
  exact ⟨m1, m2, m3, m4, m5 h0⟩
 ·simp only [if_true]
  obtain ⟨m1, m2, m3, m4, m5⟩ := Leh.mixed h5 h6 h7 hX hY ha hb
  exact ⟨m1, m2, m3, m4, m5 h0 h5.v2p⟩
theorem Simd.start {x0 y0 : Nat} (h : y0 ≤ x0) (h1 : 1 ≤ x0) : Simd false x0 y0 x0 y0 0 1 0 0 0 1 := ⟨Leh.start h, by omega, by omega, by omega, by omega, Or.inl rfl⟩
theorem Simd.next {ev : Bool} {x0 y0 x y u0 u1 u2 v0 v1 v2 : Nat} (h : Simd ev x0 y0 x y u0 u1 u2 v0 v1 v2) (g1 : v2 ≤ y) (g2 : y + v1 + v2 ≤ x) : Simd (!ev) x0 y0 y (x % y) u1 u2 (u1 + x / y * u2) v1 v2 (v1 + x / y * v2) := by
 obtain ⟨hl, h1, h2, h3, h4, h5⟩ := h
 obtain ⟨f1, f2, f3⟩ := hl.fits g1
 have uv := hl.uv
 refine ⟨hl.next g1, h2, by omega, h4, by omega, Or.inr ⟨x, by rw [Bool.not_not]; exact hl, g1, g2⟩⟩
theorem steps_end {wr : World} {s r : Nat} {z0 z1 z2 z3 : Value} {ev : Bool} {u0 v0 u1 v1 B : Nat} {w : World} (h1 : Blk wr s 165 [z0, z1, z2, z3, .bool ev]) (h0 : Blk wr r 165 [.int .u64 0, .int .u64 0, .int .u64 0, .int .u64 0, .bool false]) (hne : s ≠ r) (hb : Below B w wr) (hB : B ≤ s) :
  ∃ W, W = (((wr.setCell ⟨s, 0, none⟩ (.int .u64 (u0 : Int))).setCell ⟨s, 2, none⟩ (.int .u64 (u1 : Int))).setCell ⟨s, 1, none⟩ (.int .u64 (v0 : Int))).setCell ⟨s, 3, none⟩ (.int .u64 (v1 : Int)) ∧
   Blk W s 165 [.int .u64 (u0 : Int), .int .u64 (v0 : Int), .int .u64 (u1 : Int), .int .u64 (v1 : Int), .bool ev] ∧ Blk W r 165 [.int .u64 0, .int .u64 0, .int .u64 0, .int .u64 0, .bool false] ∧ Below B w W := by
 have k1 := (((h1.set_ 0 (.int .u64 (u0 : Int))).set_ 2 (.int .u64 (u1 : Int))).set_ 1 (.int .u64 (v0 : Int))).set_ 3 (.int .u64 (v1 : Int))
 simp only [List.set_cons_zero, List.set_cons_succ] at k1
 have k0 := (((h0.far (p := ⟨s, 0, none⟩) hne.symm (.int .u64 (u0 : Int))).far (p := ⟨s, 2, none⟩) hne.symm (.int .u64 (u1 : Int))).far (p := ⟨s, 1, none⟩) hne.symm (.int .u64 (v0 : Int))).far (p := ⟨s, 3, none⟩) hne.symm (.int .u64 (v1 : Int))
 have kb := (((hb.setCell (p := ⟨s, 0, none⟩) hB (.int .u64 (u0 : Int))).setCell (p := ⟨s, 2, none⟩) hB (.int .u64 (u1 : Int))).setCell (p := ⟨s, 1, none⟩) hB (.int .u64 (v0 : Int))).setCell (p := ⟨s, 3, none⟩) hB (.int .u64 (v1 : Int))
 exact ⟨_, rfl, k1, k0, kb⟩
theorem blk_range {w : World} {g : Nat} {t : TypeId} {cs : List Value} (h : Blk w g t cs) : w.rangeAt g 0 cs := fun j v hv => by
 rw [Nat.zero_add, h.cell]; exact hv
set_option maxRecDepth 100000 in
set_option maxHeartbeats 6400000 in
theorem simulate_any (A A2 : Option Addr) (c c2 : Nat) (us vs : List Nat) (X Y : Nat) (w : World) (B : Nat) (hr : Rd w B A (u64s us)) (hr2 : Rd w B A2 (u64s vs)) (hB : B ≤ w.heap.size) (nX : Num 18446744073709551616 us X) (nY : Num 18446744073709551616 vs Y) (hle : Y ≤ X) (h2 : 2 ≤ us.length) (h3 : 2 ≤ vs.length) (hl : vs.length ≤ us.length) (hm48 : us.length ≤ 281474976710656) :
  Calls Tryz.prog 180 #[.slice A us.length c, .slice A2 vs.length c2] w fun e w' => ∃ (u0 v0 u1 v1 : Nat) (ev : Bool), e = .returned (.agg #[.int .u64 (u0 : Int), .int .u64 (v0 : Int), .int .u64 (u1 : Int), .int .u64 (v1 : Int), .bool ev]) ∧ StepsOk ev u0 v0 u1 v1 X Y ∧ Below w.heap.size w w' := by
 obtain ⟨m, hn⟩ : ∃ m, us.length = m + 2 := ⟨us.length - 2, by omega⟩
 have hune : us ≠ [] := by intro e; rw [e] at h2; simp at h2
 have hge := nX.ge hune
 rw [show us.length - 1 = m + 1 from by omega] at hge
 have hd := nX.1
 have hd2 := nY.1
 have hut := top_pos hn hd (by rw [nX.2.2]; exact hge)
 obtain ⟨tA1, tA2⟩ := top_two hn hd
 rw [nX.2.2] at tA1 tA2
 have htd := hd.at_ (m + 1) (by omega)
 have htd2 := hd.at_ m (by omega)
 obtain ⟨b, off, rfl, hb, cx1⟩ := hr.at64 (show m + 1 < us.length by omega)
 obtain ⟨b', off', he', _, cx2⟩ := hr.at64 (show m < us.length by omega)
 obtain ⟨rfl, rfl⟩ : b = b' ∧ off = off' := by simpa using he'
 obtain ⟨t, htt⟩ : ∃ t, t = us[m + 1] := ⟨_, rfl⟩
 obtain ⟨t2, htt2⟩ : ∃ t2, t2 = us[m] := ⟨_, rfl⟩
 rw [← htt] at hut tA1 tA2 htd cx1
 rw [← htt2] at tA1 htd2 cx2
 obtain ⟨bl1, bl2, bl3⟩ := bitLen_bounds t htd (by omega)
 have bl4 := bitLen_le64 t htd
 have hlz := fun W => lz64_any t W htd
 obtain ⟨bl, hbl⟩ : ∃ bl, bl = Lib.bitLen t := ⟨_, rfl⟩
 rw [← hbl] at bl1 bl2 bl3 bl4 hlz
 obtain ⟨s, hs⟩ : ∃ s, s = 64 - bl := ⟨_, rfl⟩
 have Bl2 := hi9 bl2
 have Bl3 := hi9 bl3
 clear bl2 bl3 htt htt2 he' hbl
 have hbs : s + bl = 64 := by omega
 have hs64 : s < 64 := by omega
 have eS : (64 : Int) - (bl : Int) = (s : Int) := by omega
 have eS2 : (64 : Int) - (s : Int) = (bl : Int) := by omega
 obtain ⟨o1, o2⟩ := top_or hbs Bl3.out htd2
 have x0e : (X / 18446744073709551616 ^ m) / 2 ^ bl = t * 2 ^ s + t2 / 2 ^ bl := by rw [tA1]; exact two_div hbs
 obtain ⟨x0, hx0⟩ : ∃ x0, x0 = t * 2 ^ s + t2 / 2 ^ bl := ⟨_, rfl⟩
 rw [← hx0] at o1 o2 x0e
 have hx01 : 1 ≤ x0 := by
  have h9 : 1 * 1 ≤ t * 2 ^ s := Nat.mul_le_mul hut (Nat.two_pow_pos s)
  rw [hx0]
  exact Nat.le_trans h9 (Nat.le_add_right _ _)
 obtain ⟨D, hD⟩ : ∃ D, D = 18446744073709551616 ^ m * 2 ^ bl := ⟨_, rfl⟩
 have hD0 : 0 < D := by rw [hD]; exact Nat.mul_pos (Nat.pow_pos (by omega)) (Nat.two_pow_pos _)
 have hXD : X / D = x0 := by rw [hD, ← Nat.div_div_eq_div_mul]; exact x0e
 obtain ⟨y0, hy0⟩ : ∃ y0, y0 = Y / D := ⟨_, rfl⟩
 have hyx : y0 ≤ x0 := by rw [hy0, ← hXD]; exact Nat.div_le_div_right hle
 have HX := hi9 (show X = x0 * D + X % D by rw [← hXD, Nat.mul_comm]; exact (Nat.div_add_mod X D).symm)
 have HY := hi9 (show Y = y0 * D + Y % D by rw [hy0, Nat.mul_comm]; exact (Nat.div_add_mod Y D).symm)
 have Hy0 : Hid (y0 = (Y / 18446744073709551616 ^ m) / 2 ^ bl) := by show _ = _; rw [hy0, hD, ← Nat.div_div_eq_div_mul]
 have Ho1 : Hid (bits BinOp.or IntKind.u64 (IntKind.u64.wrap ((t : Int) * 2 ^ s)) ((t2 : Int) / 2 ^ bl) = (x0 : Int)) := by
  show bits BinOp.or IntKind.u64 (IntKind.u64.wrap ((t : Int) * 2 ^ s)) ((t2 : Int) / 2 ^ bl) = (x0 : Int)
  rw [← o1, shr_n]
 have Hlz := hi9 hlz
 have Hx0 := hi9 hx0
 clear o1 x0e hx0 hD hXD hy0 hlz tA1 hs hge
 obtain ⟨b2, off2, rfl, hb2, cy0⟩ := hr2.at64 (show 0 < vs.length by omega)
 have past : ∀ (k : Nat) (v : Value) (g : Nat) (o : Obj), g < w.heap.size → w.cell? ⟨g, k, none⟩ = some v → (w.alloc o).cell? ⟨g, k, none⟩ = some v := fun k v g o hg hc => by
  rw [World.cell?_alloc_past _ _ _ (by show g < _; exact hg)]; exact hc
 have hcx1 := fun o => past _ _ _ o (Nat.lt_of_lt_of_le hb hB) cx1
 have hcx2 := fun o => past _ _ _ o (Nat.lt_of_lt_of_le hb hB) cx2
 clear cx1 cx2
 have p1 : (m : Int) + 2 - 1 = (m : Int) + 1 := by omega
 have p2 : (m : Int) + 2 - 2 = (m : Int) := by omega
 rw [hn]
 have HS := hi9 (fun (z : Nat) (hz : z = y0) => (show Simd false x0 y0 x0 z 0 1 0 0 0 1 by rw [hz]; exact Simd.start hyx hx01))
 rcases (by omega : vs.length = m + 2 ∨ vs.length = m + 1 ∨ vs.length ≤ m) with h5 | h5 | h5
 case' inl =>
  obtain ⟨tB1, tB2⟩ := top_two h5 hd2
  rw [nY.2.2] at tB1 tB2
  obtain ⟨b3, off3, he3, _, cy1⟩ := hr2.at64 (show m + 1 < vs.length by omega)
  obtain ⟨rfl, rfl⟩ : b2 = b3 ∧ off2 = off3 := by simpa using he3
  obtain ⟨b3, off3, he3, _, cy2⟩ := hr2.at64 (show m < vs.length by omega)
  obtain ⟨rfl, rfl⟩ : b2 = b3 ∧ off2 = off3 := by simpa using he3
  have hyd := hd2.at_ (m + 1) (by omega)
  have hyd2 := hd2.at_ m (by omega)
  obtain ⟨r, hrr⟩ : ∃ r, r = vs[m + 1] := ⟨_, rfl⟩
  obtain ⟨r2, hrr2⟩ : ∃ r2, r2 = vs[m] := ⟨_, rfl⟩
  rw [← hrr] at tB1 tB2 cy1 hyd
  rw [← hrr2] at tB1 cy2 hyd2
  have hrt : r ≤ t := by rw [← tB2, ← tA2]; exact Nat.div_le_div_right hle
  obtain ⟨o3, o4⟩ := top_or hbs (Nat.lt_of_le_of_lt hrt Bl3.out) hyd2
  have Ho3 : Hid (bits BinOp.or IntKind.u64 (IntKind.u64.wrap ((r : Int) * 2 ^ s)) ((r2 : Int) / 2 ^ bl) = (y0 : Int)) := by
   show bits BinOp.or IntKind.u64 (IntKind.u64.wrap ((r : Int) * 2 ^ s)) ((r2 : Int) / 2 ^ bl) = (y0 : Int)
   rw [Hy0.out, tB1, two_div hbs, ← o3, shr_n]
  have H5 := hi9 h5
  have hcy1 := fun o => past _ _ _ o (Nat.lt_of_lt_of_le hb2 hB) cy1
  have hcy2 := fun o => past _ _ _ o (Nat.lt_of_lt_of_le hb2 hB) cy2
  clear past cy1 cy2 o3 o4 tB1 tB2 hrr hrr2 he3 h5 tA2 cy0
  rw [H5.out]
  go_enter Tryz.func180, Tryz.ntmps180
  go_upto_region 3 with (first
   | simp only []
   | simp only [eS]
   | (go_at_call 173; (with_reducible refine (Hlz.out _).mono ?_); rintro e w' ⟨rfl, rfl⟩))
  go_quiet (first | simp only [p1] | simp only [p2] | simp only [eS2] | simp only [Ho1.out])
  rw [Ho1.out]
  go_upto_region 7 with (simp only [p1])
  go_quiet (first | simp only [p1] | simp only [p2] | simp only [eS2])
  rw [Ho3.out]
  go_wp2_with fail
 case' inr.inl =>
  have tB1 := top_word1 h5 hd2
  rw [nY.2.2] at tB1
  obtain ⟨b3, off3, he3, _, cy2⟩ := hr2.at64 (show m < vs.length by omega)
  obtain ⟨rfl, rfl⟩ : b2 = b3 ∧ off2 = off3 := by simpa using he3
  have hyd2 := hd2.at_ m (by omega)
  obtain ⟨r2, hrr2⟩ : ∃ r2, r2 = vs[m] := ⟨_, rfl⟩
  rw [← hrr2] at tB1 cy2 hyd2
  have Ho3 : Hid ((r2 : Int) / 2 ^ bl = (y0 : Int)) := by
   show (r2 : Int) / 2 ^ bl = (y0 : Int)
   rw [Hy0.out, tB1, shr_n]
  have H5 := hi9 h5
  have hcy2 := fun o => past _ _ _ o (Nat.lt_of_lt_of_le hb2 hB) cy2
  have p3 : ((m : Int) + 1 == (m : Int) + 2) = false := by simp
  clear past cy2 tB1 hrr2 he3 h5 tA2 cy0
  rw [H5.out]
  go_enter Tryz.func180, Tryz.ntmps180
  go_upto_region 3 with (first
   | simp only []
   | simp only [eS]
   | (go_at_call 173; (with_reducible refine (Hlz.out _).mono ?_); rintro e w' ⟨rfl, rfl⟩))
  go_quiet (first | simp only [p1] | simp only [p2] | simp only [eS2])
  rw [Ho1.out]
  go_wp2_with (first | simp only [p3] | simp only [p1] | simp only [p2] | simp only [eS2] | simp only [Ho3.out])
 case' inr.inr =>
  have H0 : Hid (y0 = 0) := by
   show _ = _
   rw [Hy0.out, Nat.div_eq_of_lt (Nat.lt_of_lt_of_le nY.lt (Nat.pow_le_pow_right (by omega) h5)), Nat.zero_div]
  have p3 : ((vs.length : Int) == (m : Int) + 2) = false := by simp; omega
  have p4 : ((vs.length : Int) == (m : Int) + 1) = false := by simp; omega
  clear past tA2 cy0
  go_enter Tryz.func180, Tryz.ntmps180
  go_upto_region 3 with (first
   | simp only []
   | simp only [eS]
   | (go_at_call 173; (with_reducible refine (Hlz.out _).mono ?_); rintro e w' ⟨rfl, rfl⟩))
  go_quiet (first | simp only [p1] | simp only [p2] | simp only [eS2])
  rw [Ho1.out]
  go_wp2_with (first | simp only [p3] | simp only [p4] | simp only [p1] | simp only [p2])
 all_goals
  clear Ho1 Hlz Hx0 Bl2 Bl3
  go_loopg [7, 8, 10, 11, 12, 13, 14, 15, 16] x0 (fun K s7 s8 s10 s11 s12 s13 s14 s15 _ wr => ∃ (ev : Bool) (x y u0 u1 u2 v0 v1 v2 : Nat), s7 = .int .u64 (x : Int) ∧ s8 = .int .u64 (y : Int) ∧ s10 = .int .u64 (u0 : Int) ∧ s11 = .int .u64 (u1 : Int) ∧ s12 = .int .u64 (u2 : Int) ∧ s13 = .int .u64 (v0 : Int) ∧ s14 = .int .u64 (v1 : Int) ∧ s15 = .int .u64 (v2 : Int) ∧ y ≤ K ∧ Hid (Simd ev x0 y0 x y u0 u1 u2 v0 v1 v2) ∧ Blk wr (w.heap.size + 1) 165 [.int .u64 0, .int .u64 0, .int .u64 1, .int .u64 0, .bool ev] ∧ Blk wr w.heap.size 165 [.int .u64 0, .int .u64 0, .int .u64 0, .int .u64 0, .bool false] ∧ Below w.heap.size w wr)
  case atStart =>
   have hb9 : Blk (w.alloc (.cells #[.int .u64 0, .int .u64 0, .int .u64 0, .int .u64 0, .bool false] 165)) w.heap.size 165 [.int .u64 0, .int .u64 0, .int .u64 0, .int .u64 0, .bool false] := Blk.new_ rfl
   first
    | exact ⟨false, x0, y0, 0, 1, 0, 0, 0, 1, rfl, rfl, rfl, rfl, rfl, rfl, rfl, rfl, hyx, HS.out _ rfl, blk_two_draw rfl, (hb9.drewN _).heapAlloc _, two_alloc _ _ _ _⟩
    | exact ⟨false, x0, 0, 0, 1, 0, 0, 0, 1, rfl, rfl, rfl, rfl, rfl, rfl, rfl, rfl, Nat.zero_le _, HS.out 0 H0.out.symm, blk_two_draw rfl, (hb9.drewN _).heapAlloc _, two_alloc _ _ _ _⟩
  case round =>
   obtain ⟨ev, x, y, u0, u1, u2, v0, v1, v2, rfl, rfl, rfl, rfl, rfl, rfl, rfl, rfl, hyK, HSt, hbs1, hbs0, hbel⟩ := hrel
   have hxy := HSt.out.1.le
   have hxm : x ≤ x0 := by
    have h1 := HSt.out.1.comb
    have h3 := Nat.mul_le_mul_right x HSt.out.1.v2p
    rw [Nat.one_mul] at h3
    omega
   have c0 := hbs1.cell 0
   have c1 := hbs1.cell 1
   have c2' := hbs1.cell 2
   have c3 := hbs1.cell 3
   have c4 := hbs1.cell 4
   have d0 := hbs0.cell 0
   have hf := hbs1.frozen
   have hf0 := hbs0.frozen
   simp only [List.getElem?_cons_zero, List.getElem?_cons_succ] at c0 c1 c2' c3 c4 d0
   by_cases hg : v2 ≤ y ∧ y + v1 + v2 ≤ x
   ·obtain ⟨g1, g2⟩ := hg
    obtain ⟨f1, f2, f3⟩ := HSt.out.1.fits g1
    have hn := HSt.out.next g1 g2
    have hv2 := HSt.out.1.v2p
    have hrl : x % y < y := Nat.mod_lt _ (by omega)
    obtain ⟨q, hq⟩ : ∃ q, q = x / y := ⟨_, rfl⟩
    obtain ⟨r, hr9⟩ : ∃ r, r = x % y := ⟨_, rfl⟩
    rw [← hq] at f2 f3 hn
    rw [← hr9] at hn hrl
    obtain ⟨z1, hz1⟩ : ∃ z, z = q * u2 := ⟨_, rfl⟩
    obtain ⟨z2, hz2⟩ : ∃ z, z = q * v2 := ⟨_, rfl⟩
    rw [← hz1] at f3 hn
    rw [← hz2] at f2 hn
    have t1 : decide (v2 ≤ y) = true := decide_eq_true g1
    have t2 : decide ((v1 : Int) + (v2 : Int) ≤ (x : Int) - (y : Int)) = true := decide_eq_true (by omega)
    have hqx : q ≤ x := by rw [hq]; exact Nat.div_le_self _ _
    have E1 : Hid (IntKind.u64.wrap ((x : Int) / (y : Int)) = (q : Int)) := by
     show IntKind.u64.wrap ((x : Int) / (y : Int)) = (q : Int)
     rw [show (x : Int) / (y : Int) = (q : Int) from by rw [hq]; rfl, IntKind.wrap_u64]; omega
    have E2 : Hid ((x : Int) % (y : Int) = (r : Int)) := by show (x : Int) % (y : Int) = (r : Int); rw [hr9]; rfl
    have E3 : Hid (IntKind.u64.wrap ((q : Int) * (u2 : Int)) = (z1 : Int)) := by
     show IntKind.u64.wrap ((q : Int) * (u2 : Int)) = (z1 : Int)
     rw [show (q : Int) * (u2 : Int) = (z1 : Int) from by rw [hz1]; simp, IntKind.wrap_u64]; omega
    have E4 : Hid (IntKind.u64.wrap ((q : Int) * (v2 : Int)) = (z2 : Int)) := by
     show IntKind.u64.wrap ((q : Int) * (v2 : Int)) = (z2 : Int)
     rw [show (q : Int) * (v2 : Int) = (z2 : Int) from by rw [hz2]; simp, IntKind.wrap_u64]; omega
    have hy9 : ¬ (y = 0) := by omega
    have hy8 : ((y : Int) == 0) = false := by simp; omega
    have Hn := hi9 hn
    clear hq hr9 hz1 hz2 hn HSt c0 c1 c2' c3 d0 HX HY Hy0
    go_upto_region 15 with (first | simp only [t1] | simp only [t2] | simp only [E1.out])
    go_quiet (first | simp only [E2.out])
    rw [E2.out]
    go_wp2_with (first | simp only [E3.out] | simp only [E4.out])
    go_roundg r
    case measure => omega
    case rel => exact ⟨!ev, y, r, u1, u2, u1 + z1, v1, v2, v1 + z2, rfl, rfl, rfl, rfl, by go_num, rfl, rfl, by go_num, Nat.le_refl _, Hn.out, (hbs1.drewN _).set_ 4 (.bool (!ev)), (hbs0.drewN _).far (p := ⟨w.heap.size + 1, 4, none⟩) (by simp) _, (hbel.trans (((Dr.refl _).step _).below _)).setCell (p := ⟨w.heap.size + 1, 4, none⟩) (by simp) _⟩
   ·have hok := HSt.out.ok HX.out HY.out (Nat.mod_lt _ hD0) (Nat.mod_lt _ hD0) o2
    have Hok := hi9 hok
    obtain ⟨W, hWe, hW1, hW0, hWb⟩ := steps_end (u0 := u0) (v0 := v0) (u1 := u1) (v1 := v1) hbs1 hbs0 (by omega) hbel (by omega)
    have HWe := hi9 hWe
    clear hWe
    by_cases g1 : v2 ≤ y
    case' pos =>
     obtain ⟨f1, _, _⟩ := HSt.out.1.fits g1
     have t1 : decide (v2 ≤ y) = true := decide_eq_true g1
     have t2 : decide ((v1 : Int) + (v2 : Int) ≤ (x : Int) - (y : Int)) = false := decide_eq_false (by omega)
     clear HSt hok HX HY Hy0
     go_upto_region 20 with (first | simp only [t1] | simp only [t2])
    case' neg =>
     have t1 : decide (v2 ≤ y) = false := decide_eq_false g1
     clear HSt hok HX HY Hy0
     go_upto_region 20 with (first | simp only [t1])
    all_goals
     rw [← HWe.out]
     clear c0 c1 c2' c3 c4 d0 hf hf0 hbs1 hbs0
     have e0 := hW0.cell 0
     have e1 := hW0.cell 1
     have e2 := hW0.cell 2
     have e3 := hW0.cell 3
     have e4 := hW0.cell 4
     have ef := hW0.frozen
     simp only [List.getElem?_cons_zero, List.getElem?_cons_succ] at e0 e1 e2 e3 e4
     go_wp2_with ((with_reducible refine wpList_load_mid (op := ⟨some 121, _, _, _, _, _⟩) rfl 165 (.tmp 9) rfl (w.heap.size + 1) 0 rfl [.int .u64 (u0 : Int), .int .u64 (v0 : Int), .int .u64 (u1 : Int), .int .u64 (v1 : Int), .bool ev] _ (blk_range hW1) Tryz.underlying165 rfl (by kernel_rfl) ?_))
     have k9 := ((((hW0.set_ 0 (.int .u64 (u0 : Int))).set_ 1 (.int .u64 (v0 : Int))).set_ 2 (.int .u64 (u1 : Int))).set_ 3 (.int .u64 (v1 : Int))).set_ 4 (.bool ev)
     simp only [List.set_cons_zero, List.set_cons_succ] at k9
     have kb := ((((hWb.setCell (p := ⟨w.heap.size, 0, none⟩) nl9 (.int .u64 (u0 : Int))).setCell (p := ⟨w.heap.size, 1, none⟩) nl9 (.int .u64 (v0 : Int))).setCell (p := ⟨w.heap.size, 2, none⟩) nl9 (.int .u64 (u1 : Int))).setCell (p := ⟨w.heap.size, 3, none⟩) nl9 (.int .u64 (v1 : Int))).setCell (p := ⟨w.heap.size, 4, none⟩) nl9 (.bool ev)
     refine bodyPost_ret (results_cell_row rfl _ _ w.heap.size 165 _ (0, 0) _ rfl k9 Tryz.underlying165 rfl (by kernel_rfl)) rfl ?_
     exact ⟨u0, v0, u1, v1, ev, rfl, Hok.out, kb⟩
end
section
open Go.RowKit
def Tab64 (w : World) : Prop := TabAt 1 Lib.deBruijn64tab w
theorem Tab64.below {w w' : World} {B : Nat} (h : Tab64 w) (hb : Below B w w') (hB : 1 < B) : Tab64 w' := fun j hj => (hb.cell (p := ⟨_, j, none⟩) hB).trans (h j hj)
theorem Tab64.dr {w w' : World} (h : Tab64 w) (hd : Dr w w') : Tab64 w' := by
 obtain ⟨n, rfl⟩ := hd
 exact h
set_option maxHeartbeats 800000 in
theorem tz64_any (x : Nat) (hx : x < 18446744073709551616) (h0 : x ≠ 0) (w : World) (hT : Tab64 w) :
  Calls Tryz.prog 178 #[.int .u64 (x : Int)] w fun e w' => e = .returned (.int .i64 (Lib.ctz 64 x : Nat)) ∧ w = w' := by
 obtain ⟨hlow, hk⟩ := Lib.lowest_bit 64 x h0 hx
 obtain ⟨hi, htab⟩ := Lib.deBruijn64_at _ hk
 have hcell := hT _ hi
 rw [htab] at hcell
 have key := tz64_key x _ hx h0 hlow
 obtain ⟨k, hke⟩ : ∃ k, k = Lib.ctz 64 x := ⟨_, rfl⟩
 obtain ⟨idx, hidx⟩ : ∃ idx, idx = 2 ^ k * 285870213051353865 % 18446744073709551616 / 288230376151711744 := ⟨_, rfl⟩
 rw [← hke, ← hidx] at hi hcell key
 rw [← hke] at hk ⊢
 have hx0 : ((x : Int) == 0) = false := by simp; omega
 clear hlow htab hT hke hidx h0
 go_enter Tryz.func178, Tryz.ntmps178
 go_wp2_with (simp only [key])
 go_ret
 exact ⟨rfl, rfl⟩
theorem shr_nat64 (x t : Nat) : (x : Int) / 2 ^ t = ((x / 2 ^ t : Nat) : Int) := by rw [Int.natCast_ediv, Int.natCast_pow]; rfl
theorem or_le_u64 {a b : Nat} (ha : a < 18446744073709551616) (hb : b < 18446744073709551616) : a ||| b < 18446744073709551616 := Nat.or_lt_two_pow (n := 64) ha hb
set_option maxHeartbeats 1600000 in
theorem wordGcd_any (a b : Nat) (ha : a < 18446744073709551616) (hb : b < 18446744073709551616) (w : World) (hT : Tab64 w) :
  Calls Tryz.prog 155 #[.int .u64 (a : Int), .int .u64 (b : Int)] w fun e w' => e = .returned (.int .u64 (Nat.gcd a b : Nat)) ∧ w = w' := by
 have hor := bits_or_u64_nat a b ha hb
 by_cases ha0 : a = 0
 ·subst ha0
  rw [Nat.gcd_zero_left]
  have hor0 : bits .or .u64 (0 : Int) (b : Int) = (b : Int) := by
   rw [Nat.zero_or] at hor
   exact hor
  go_enter Tryz.func155, Tryz.ntmps155
  go_wp2_with (simp only [hor0])
  go_ret
  exact ⟨rfl, rfl⟩
 by_cases hb0 : b = 0
 ·subst hb0
  rw [Nat.gcd_zero_right]
  have hor0 : bits .or .u64 (a : Int) (0 : Int) = (a : Int) := by
   rw [Nat.or_zero] at hor
   exact hor
  have t0 : ((a : Int) == 0) = false := by simp; omega
  go_enter Tryz.func155, Tryz.ntmps155
  go_wp2_with (first | simp only [hor0] | simp only [t0])
  go_ret
  exact ⟨rfl, rfl⟩
 have t0 : ((a : Int) == 0) = false := by simp; omega
 have t1 : ((b : Int) == 0) = false := by simp; omega
 have hgs := gcd_start ha0 ha hb0 hb
 have hor2 := or_le_u64 ha hb
 have hor0 : a ||| b ≠ 0 := fun e => ha0 (Nat.or_eq_zero_iff.1 e).1
 have T1 := hi9 (fun W (h : Tab64 W) => tz64_any (a ||| b) hor2 hor0 W h)
 have T2 := hi9 (fun W (h : Tab64 W) => tz64_any a ha ha0 W h)
 obtain ⟨o1, o2⟩ := (ctz_spec hor0 hor2).1, ctz_spec ha0 ha
 obtain ⟨tw, htw⟩ : ∃ tw, tw = Lib.ctz 64 (a ||| b) := ⟨_, rfl⟩
 obtain ⟨ta, hta⟩ : ∃ ta, ta = Lib.ctz 64 a := ⟨_, rfl⟩
 rw [← htw] at T1 hgs
 rw [← hta] at T2 hgs o2
 obtain ⟨o3, o4, o5⟩ := o2
 have o6 : a / 2 ^ ta ≤ a := Nat.div_le_self _ _
 have htw64 : tw < 64 := by rw [htw]; exact (ctz_spec hor0 hor2).1
 obtain ⟨a1, ha1⟩ : ∃ a1, a1 = a / 2 ^ ta := ⟨_, rfl⟩
 have E1 : Hid ((a : Int) / 2 ^ ta = (a1 : Int)) := by show (a : Int) / 2 ^ ta = (a1 : Int); rw [ha1]; exact shr_nat64 a ta
 rw [← ha1] at o4 o5 o6 hgs
 have hG : Nat.gcd a b < 18446744073709551616 := Nat.lt_of_le_of_lt (Nat.gcd_le_left b (by omega)) ha
 obtain ⟨G, hGe⟩ : ∃ G, G = Nat.gcd a b := ⟨_, rfl⟩
 rw [← hGe] at hgs hG ⊢
 have Hgs := hi9 hgs
 obtain ⟨ab, hab⟩ : ∃ ab, ab = a ||| b := ⟨_, rfl⟩
 rw [← hab] at hor T1
 have Hor := hi9 hor
 clear htw hta ha1 o5 hGe hgs hab hor hor2 hor0
 go_enter Tryz.func155, Tryz.ntmps155
 go_wp2_with (first
  | simp only []
  | simp only [t1]
  | simp only [Hor.out]
  | simp only [E1.out]
  | (go_at_call_of 178 (Value.int IntKind.u64 (ab : Int)); (with_reducible refine (T1.out _ hT).mono ?_); rintro e w' ⟨rfl, rfl⟩)
  | (go_at_call 178; (with_reducible refine (T2.out _ hT).mono ?_); rintro e w' ⟨rfl, rfl⟩))
 go_loopg [0, 1] (a1 + b) (fun K av bv wr => ∃ x y : Nat, av = .int .u64 (x : Int) ∧ bv = .int .u64 (y : Int) ∧ x % 2 = 1 ∧ x < 18446744073709551616 ∧ y < 18446744073709551616 ∧ x + y ≤ K ∧ Hid (Nat.gcd x y = Nat.gcd a1 b) ∧ wr = w)
 case atStart => exact ⟨a1, b, rfl, rfl, o4, by omega, hb, Nat.le_refl _, rfl, rfl⟩
 case round =>
  obtain ⟨x, y, rfl, rfl, hx1, hx, hy, hK, Hg, rfl⟩ := hrel
  by_cases hy0 : y = 0
  ·subst hy0
   have hxg : x * 2 ^ tw = G := by
    have h1 := Hg.out
    rw [Nat.gcd_zero_right] at h1
    rw [h1]; exact Hgs.out.symm
   have e9 : IntKind.u64.wrap ((x : Int) * 2 ^ tw) = (G : Int) := by
    rw [show (x : Int) * 2 ^ tw = (G : Int) from by rw [← hxg, Int.natCast_mul, Int.natCast_pow]; rfl, IntKind.wrap_u64]
    omega
   have E9 := hi9 e9
   clear hxg e9
   go_wp2_with (first | simp only [E9.out])
   go_ret
   exact ⟨rfl, rfl⟩
  ·have t2 : ((y : Int) == 0) = false := by simp; omega
   obtain ⟨p1, p2, p3⟩ := ctz_spec hy0 hy
   have T3 := hi9 (fun W (h : Tab64 W) => tz64_any y hy hy0 W h)
   obtain ⟨tb, htb⟩ : ∃ tb, tb = Lib.ctz 64 y := ⟨_, rfl⟩
   rw [← htb] at T3 p1 p2 p3
   obtain ⟨y1, hy1⟩ : ∃ y1, y1 = y / 2 ^ tb := ⟨_, rfl⟩
   have E3 : Hid ((y : Int) / 2 ^ tb = (y1 : Int)) := by show (y : Int) / 2 ^ tb = (y1 : Int); rw [hy1]; exact shr_nat64 y tb
   have p4 : y1 ≤ y := by rw [hy1]; exact Nat.div_le_self _ _
   rw [← hy1] at p2 p3
   have hg2 : Nat.gcd x y1 = Nat.gcd a1 b := by rw [← Hg.out, p3, odd_gcd hx1]
   have Hg2 := hi9 hg2
   clear htb hy1 p3 hg2 Hg
   by_cases hlt : y1 < x
   ·have t3 : decide ((y1 : Int) < (x : Int)) = true := decide_eq_true (by omega)
    go_wp2_with (first
     | simp only []
     | simp only [E3.out]
     | simp only [t3]
     | (go_at_call 178; (with_reducible refine (T3.out _ hT).mono ?_); rintro e w' ⟨rfl, rfl⟩))
    go_roundg (y1 + (x - y1))
    case measure => omega
    case rel => exact ⟨y1, x - y1, rfl, by go_num, p2, by omega, by omega, Nat.le_refl _, by show _ = _; rw [Nat.gcd_sub_self_right (by omega), Nat.gcd_comm]; exact Hg2.out, rfl⟩
   ·have t3 : decide ((y1 : Int) < (x : Int)) = false := decide_eq_false (by omega)
    go_wp2_with (first
     | simp only []
     | simp only [E3.out]
     | simp only [t3]
     | (go_at_call 178; (with_reducible refine (T3.out _ hT).mono ?_); rintro e w' ⟨rfl, rfl⟩))
    go_roundg (x + (y1 - x))
    case measure => omega
    case rel => exact ⟨x, y1 - x, rfl, by go_num, hx1, hx, by omega, Nat.le_refl _, by show _ = _; rw [Nat.gcd_sub_self_right (by omega)]; exact Hg2.out, rfl⟩
end
section
open Go.RowKit
set_option maxHeartbeats 1600000 in
theorem wide_words (A : Option Addr) (c : Nat) (xs : List Nat) (w : World) (B : Nat) (hr : Rd w B A (u32s xs)) (hB : B ≤ w.heap.size) (hd : Dig 4294967296 xs) (_ : xs.length ≤ c) (hm : xs.length ≤ 70368744177000) :
  Calls Tryz.prog 136 #[.slice A xs.length c] w fun e w' => Words w w' ((xs.length + 1) / 2) (val 4294967296 xs) e := by
 obtain ⟨N, hN⟩ : ∃ N, N = (xs.length + 1) / 2 := ⟨_, rfl⟩
 have hmk := fun W => mk64 N (by omega) W
 have hq1 : ((xs.length : Int) + 1) / 2 = (N : Int) := by omega
 have hq2 : ((xs.length : Int) + 1).tdiv 2 = (N : Int) := by rw [Int.tdiv_eq_ediv_of_nonneg (by omega)]; omega
 have HN := hi9 hN; clear hN
 go_enter Tryz.func136, Tryz.ntmps136
 go_wp2
 go_loopw [4, 5, 13] (fun _ _ i wr => ∃ (k : Nat) (ys : List Nat), k ≤ xs.length ∧ i = .int .i64 k ∧ ys.length = N ∧ Blk wr w.heap.size 116 (u64s ys) ∧ Packed xs k ys ∧ Below w.heap.size w wr) (fun _ _ i _ => xs.length - (intOf i).toNat)
 case atStart => exact ⟨0, List.replicate N 0, by omega, rfl, by simp, Blk.new_ (by simp [u64s]), Packed.start _ _, br9.alloc nl9 _⟩
 case round =>
  obtain ⟨k, ys, hk, rfl, hyl, hblk, hpk, hbel⟩ := hrel
  by_cases hlt : k < xs.length
  ·obtain ⟨b, off, rfl, hb, hcell⟩ := hr (by intro e; have := u32s_length xs; rw [e] at this; simp at this; omega)
   have hx := (hbel.cell (p := ⟨b, off + k, none⟩) (show b < _ by omega)).trans (hcell k _ (u32s_at hlt))
   clear hcell
   rcases Nat.mod_two_eq_zero_or_one k with h2 | h2
   ·obtain ⟨j, rfl⟩ : ∃ j, k = 2 * j := ⟨k / 2, by omega⟩
    have HN' := HN.out
    have hj : j < ys.length := by omega
    have hcj := (hblk.cell j).trans (u64s_at hj)
    have hfj := hblk.frozen j
    have hz : ys[j] = 0 := hpk.2.2.1 j hj (by omega)
    rw [hz] at hcj
    clear h2 hz HN'
    go_wp2
    go_region
    all_goals
     go_wp2
     go_roundw
     case rel =>
      refine ⟨2 * j + 1, ys.set j xs[2 * j], by omega, by go_num, by simpa using hyl, ?_, hpk.even hlt hj hd, (hbel.setCell (p := ⟨w.heap.size, j, none⟩) nl9 _).drew⟩
      have hb2 := (hblk.set_ j (Value.int IntKind.u64 (bits BinOp.or IntKind.u64 0 (IntKind.u64.wrap (IntKind.u64.wrap ↑xs[2 * j]))))).drew
      rw [or_zero_wrap _ (hd.at_ _ hlt), u64s_set] at hb2
      rw [or_zero_wrap _ (hd.at_ _ hlt)]
      exact hb2
     case measure => simp [intOf]; omega
   ·obtain ⟨j, rfl⟩ : ∃ j, k = 2 * j + 1 := ⟨k / 2, by omega⟩
    have HN' := HN.out
    have hj : j < ys.length := by omega
    have hcj := (hblk.cell j).trans (u64s_at hj)
    have hfj := hblk.frozen j
    have e1 : (2 * j + 1) / 2 = j := by omega
    clear h2 HN'
    go_wp2
    go_region
    all_goals
     go_wp2
     go_roundw
     case rel =>
      refine ⟨2 * j + 1 + 1, ys.set j (ys[j] + 4294967296 * xs[2 * j + 1]), by omega, by go_num, by simpa using hyl, ?_, hpk.odd hlt hj hd, (hbel.setCell (p := ⟨w.heap.size, j, none⟩) nl9 _).drew⟩
      have hb2 := (hblk.set_ j (Value.int IntKind.u64 (bits BinOp.or IntKind.u64 (↑ys[j]) (IntKind.u64.wrap (IntKind.u64.wrap ↑xs[2 * j + 1] * 4294967296))))).drew
      rw [or_shift_wrap _ _ (hpk.2.2.2 j hj rfl) (hd.at_ _ hlt), u64s_set] at hb2
      rw [or_shift_wrap _ _ (hpk.2.2.2 j hj rfl) (hd.at_ _ hlt)]
      exact hb2
     case measure => simp [intOf]; omega
  ·go_wp2
   go_ret
   obtain rfl : k = xs.length := by omega
   exact ⟨ys, w.heap.size, by rw [hyl]; rfl, by rw [hyl]; exact HN.out, hpk.1, by rw [hpk.2.1, List.take_length], Nat.le_refl _, hblk, hbel⟩
end
end Go.Proofs.YtbcphifjcaobfaaGreatDoor
