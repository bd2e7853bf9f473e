/- bound.apart as an iterator: the contract of its closure. The contracts of zint's Sign, Cmp, Of and of what a division. A word's rest by a product with (2^64 - 1) / p, as zint.Mod . The contract of the reference's half. The contract of the reference's Len. -/
import Derived.Test.YtcjgilagldbjnaaGreatDoorPkBb40
import Derived.Test.YtcjgilagldbjnaaGreatDoorPkBb28
import Derived.Test.YtcjgilagldbjnaaGreatDoorPkBb14
import Derived.Test.YtcjgilagldbjnaaGreatDoorPkBb19
import Derived.Test.YtcjgilagldbjnaaGreatDoorPkBb18
namespace Go.Proofs.YtcjgilagldbjnaaGreatDoor
section
open Go.RowKit Go.Shelf
def KA (n₀ b : Nat) (W W' : World) : Prop := Below n₀ W W' ∧ (∀ o : Obj, W.heap[b]? = some o → o.isCells = true → W'.heap[b]? = some o)
theorem KA.refl (n₀ b : Nat) (W : World) : KA n₀ b W W := ⟨br9, fun _ h _ => h⟩
theorem KA.trans {n₀ b : Nat} {A B C : World} (h : KA n₀ b A B) (k : KA n₀ b B C) : KA n₀ b A C := ⟨h.1.trans k.1, fun o ho hc => k.2 o (h.2 o ho hc) hc⟩
theorem KA.put {n₀ b : Nat} {w : World} (hw : n₀ ≤ w.heap.size) (W : World) (l : Nat) (o o' : Obj) (hn : w.heap.size ≤ l) (hl : W.heap[l]? = some o) (ho : o.isCells = false) (ho2 : o.isWalk = false) : KA n₀ b W (W.putObj l o') :=
 ⟨belowK_b hw W l o o' hn hl ho ho2, fun ob hx hc => by
  refine (World.putObj_heap_other (fun e => ?_)).trans hx
  subst e
  rw [hx] at hl
  cases hl
  rw [ho] at hc; cases hc⟩
theorem KA.blk {n₀ b : Nat} {W W' : World} {t : TypeId} {vs : List Value} (h : KA n₀ b W W') (hb : Blk W b t vs) : Blk W' b t vs := h.2 _ hb rfl
def ApAll (d : Int) (xs : List U32) : Prop := xs.map (·.1) = Cs d 0
def ApPart (d : Int) (pre : List U32) : Prop := ∃ (p : List U32) (m : U32), pre = p ++ [m] ∧ m.1 ≤ 4294967294 ∧ p.map (·.1) = Cs d m.1 ∧ Pr m.1 ∧ ndB d m.1 = true
theorem below_own {B : Nat} {W W' : World} {β : Type} {J : β → World → Prop} {s : β} (hJ : OwnFrom B J) (h : J s W) (hb : Below W.heap.size W W') : J s W' :=
 hJ s W W' none h ⟨hb.os, hb.tape, hb.output, hb.size, fun k hk _ => hb.block k hk⟩ (fun r e => by cases e)
set_option maxRecDepth 100000 in
set_option maxHeartbeats 3200000 in
theorem apart_own (n Bd n₀ : Nat) (g : Bool) (A : Option Addr) (c l0 : Nat) (d : Int) (hn : 1 ≤ n) (w : World) (hBd : Blk w Bd 25 [.bool g, .slice A l0 c]) (hn0 : n₀ ≤ w.heap.size)
  (LS : Hid (∀ (k r : Nat) (ok : Bool), k < 4294967296 → LastIs k r ok → ∀ W (_ : Below n₀ w W), Calls Tryz.prog 41 #[.int .u32 (k : Int)] W fun e w' => e = .returned (.tuple #[.int .u32 (r : Int), .bool ok]) ∧ Below W.heap.size W w'))
  (MD : Hid (∀ p : Nat, 0 < p → p < 4294967296 → ∀ W (_ : Below n₀ w W), Calls Tryz.prog 42 #[.agg #[.bool g, .slice A l0 c], .int .u32 (p : Int)] W fun e w' => e = .returned (.tuple #[.int .u32 (d % (p : Int)), .int .i64 0]) ∧ Below W.heap.size W w')) :
  SeqOwn n Tryz.prog 40 #[.pointer (some ⟨Bd, 0, none⟩)] encU (KA n₀ Bd) (ApAll d) (ApPart d) 4294967296 w := by
 intro l J Jx W hW hJ hJx hY h0
 have HJ := hi9 hJ
 have HY := hi9 hY
 have hbd : Blk W Bd 25 [.bool g, .slice A l0 c] := hBd.below hW hBd.lt
 have k0 : Below n₀ w W := hW.mono hn0
 obtain ⟨r1, o1, hl1⟩ := last_exists 4294967295
 have C1 := LS.out 4294967295 r1 o1 (by omega) hl1 W k0
 have HC1 := hi9 C1
 have HL1 : Hid (LastIs (4294967294 + 1) r1 o1) := hl1
 have KW := hi9 k0
 have sW : n₀ ≤ W.heap.size := Nat.le_trans hn0 hW.size
 clear hW hJ hJx hY hBd C1 hl1 k0
 refine callsIn_of_wp Tryz.func40 rfl trivial ?_ rfl
 simp only [Tryz.ntmps40, List.size_toArray, List.length_cons, List.length_nil, Nat.reduceAdd, Nat.reduceSub, Array.replicate_succ, Array.replicate_zero, List.push_toArray, List.append_toArray, List.nil_append, List.cons_append]
 gi_wp2_with fail
 refine ⟨trivial, (callsIn_wide.2 HC1.out).mono ?_⟩
 rintro e w1 ⟨rfl, hb⟩
 have hbd1 := hbd.below hb hbd.lt
 have k1 := KW.out.trans (hb.mono sW)
 have hJ1 := below_own HJ.out h0 hb
 have s1 := Nat.le_trans sW hb.size
 have hz1 := hb.size
 clear hb HC1 h0 hbd
 gi_wp2_with fail
 gi_loopw [4, 5, 6, 7] (fun pv ov _ _ wr => ∃ (m r : Nat) (ok : Bool) (pre : List U32), pv = .int .u32 (r : Int) ∧ ov = .bool ok ∧ m ≤ 4294967294 ∧ Hid (LastIs (m + 1) r ok) ∧ Hid (pre.map (·.1) = Cs d m) ∧ J pre wr ∧ Blk wr Bd 25 [.bool g, .slice A l0 c] ∧ Below n₀ w wr) (fun pv _ _ _ _ => (intOf pv).toNat)
 case atStart => exact ⟨4294967294, r1, o1, [], rfl, rfl, Nat.le_refl _, HL1, hi9 (by rw [Cs_top]; rfl), hJ1, hbd1, k1⟩
 case round =>
  clear hbd1 k1 hJ1 HL1 s1 hz1
  obtain ⟨m, r, ok, pre, rfl, rfl, hm, HL, HP, hJr, hbr, kr⟩ := hrel
  cases ok with
  | false =>
   have HA : Hid (ApAll d pre) := HP.out.trans (Cs_end hm HL.out).symm
   have HJr := hi9 hJr
   clear hJr hbr kr HL HP
   gi_wp2
   go_end0
   exact ⟨⟨_, rfl⟩, .inl ⟨pre, HA.out, HJr.out⟩⟩
  | true =>
   obtain ⟨_, hpr, hrm⟩ := down_last hm HL.out
   have hr2 := hpr.1
   have hCs := Cs_last (d := d) hm HL.out
   have HC := hi9 (MD.out r (by omega) (by omega) wr kr)
   have HJr := hi9 hJr
   have HK := hi9 kr
   obtain ⟨p0, p1, p2, p3⟩ := hbr.two
   have HB := hi9 hbr
   have HPr := hi9 hpr
   have HCs := hi9 hCs
   clear hJr kr hpr hCs hbr
   obtain ⟨v, hv⟩ : ∃ v, v = d % (r : Int) := ⟨_, rfl⟩
   rw [← hv] at HC
   have HV := hi9 hv
   clear hv
   gi_wp2_with fail
   refine ⟨trivial, (callsIn_wide.2 HC.out).mono ?_⟩
   rintro e w3 ⟨rfl, hb⟩
   have sr := Nat.le_trans hn0 HK.out.size
   have HB3 := hi9 (HB.out.below hb HB.out.lt)
   have HK3 := hi9 (HK.out.trans (hb.mono sr))
   have HJ3 := hi9 (below_own HJ.out HJr.out hb)
   have s3 : n₀ ≤ w3.heap.size := Nat.le_trans sr hb.size
   clear hb HJr HB HK p0 p1 p2 p3 HC
   obtain ⟨r2, ok2, hl2⟩ := last_exists r
   have HL2 : Hid (LastIs (r - 1 + 1) r2 ok2) := by show LastIs _ _ _; rw [Nat.sub_add_cancel (by omega)]; exact hl2
   have hr2r : r2 < r := by
    rcases hl2 with ⟨_, _, h, _⟩ | ⟨_, h, _⟩ <;> omega
   have HLS : Hid (∀ W (_ : Below n₀ w W), Calls Tryz.prog 41 #[.int .u32 (r : Int)] W fun e w' => e = .returned (.tuple #[.int .u32 (r2 : Int), .bool ok2]) ∧ Below W.heap.size W w') := fun X hX => LS.out r r2 ok2 (by omega) hl2 X hX
   clear hl2
   by_cases hv0 : v = 0
   ·subst hv0
    have HP2 : Hid (pre.map (·.1) = Cs d (r - 1)) := by
     show _ = _
     rw [HCs.out, if_neg (by rw [ndB, decide_eq_true_eq]; exact fun h => h HV.out.symm), List.append_nil]
     exact HP.out
    clear HCs HV HP
    gi_wp2_with fail
    refine ⟨fun _ h => (by cases h), ?_⟩
    gi_wp2_with fail
    refine ⟨trivial, (callsIn_wide.2 (HLS.out _ HK3.out)).mono ?_⟩
    rintro e w4 ⟨rfl, hb⟩
    have X1 := hi9 (HB3.out.below hb HB3.out.lt)
    have X2 := hi9 (HK3.out.trans (hb.mono s3))
    have X3 := hi9 (below_own HJ.out HJ3.out hb)
    clear hb HLS HB3 HK3 HJ3
    gi_wp2_with fail
    go_roundw
    case rel => exact ⟨r - 1, r2, ok2, pre, rfl, rfl, by omega, HL2, HP2, X3.out, X1.out, X2.out⟩
    case measure => simp [intOf]; omega
   ·have hnd : ndB d r = true := by rw [ndB, decide_eq_true_eq, ← HV.out]; exact hv0
    have t1 : (v != 0) = true := by simp [hv0]
    have hr32 : r < 4294967296 := by omega
    have HP2 : Hid ((pre ++ [(⟨r, hr32⟩ : U32)]).map (fun x => x.1) = Cs d (r - 1)) := by
     show _ = _
     rw [HCs.out, if_pos hnd, List.map_append, HP.out]; rfl
    have HPm : Hid (pre.map (·.1) = Cs d r) := by
     show _ = _
     rw [HP.out, Cs, Cs]
     congr 1
     obtain ⟨k, rfl⟩ : ∃ k, m = r + k := ⟨m - r, by omega⟩
     refine (down_none k hm (fun q h1 h2 => ?_)).symm
     rcases HL.out with ⟨_, _, _, h3⟩ | ⟨h3, _⟩
     ·exact h3 q h1 (by omega)
     ·cases h3
    have HPart : Hid (ApPart d (pre ++ [⟨r, hr32⟩])) := ⟨pre, ⟨r, hr32⟩, rfl, by show r ≤ _; omega, HPm.out, HPr.out, hnd⟩
    have hlen : pre.length < 4294967296 := by
     have h1 := congrArg List.length HP.out
     rw [List.length_map] at h1
     have h2 := List.length_filter_le (ndB d) (down 4294967294 m)
     have h3 := down_length 4294967294 m
     unfold Cs at h1
     omega
    obtain ⟨fn, tmps, assign, body, hy, hR⟩ := HY.out pre ⟨r, hr32⟩ w3 HJ3.out hlen
    dsimp only [encU] at hy
    clear hlen hnd HV HCs HP hv0
    gi_wp2_with fail
    refine hR.mono ?_
    rintro e W3 ⟨_, (⟨rfl, hJ4, hk4⟩ | ⟨rfl, hJx4⟩)⟩
    ·have hB4 := hk4.blk HB3.out
     have hK4 := HK3.out.trans hk4.1
     have s4 : n₀ ≤ W3.heap.size := Nat.le_trans s3 hk4.1.size
     have HJ4 := hi9 hJ4
     have HB4 := hi9 hB4
     have HK4 := hi9 hK4
     clear hy hR HB3 HK3 HJ3 hJ4 hB4 hK4 hk4 HPart
     gi_wp2_with fail
     refine ⟨trivial, (callsIn_wide.2 (HLS.out _ HK4.out)).mono ?_⟩
     rintro e w4 ⟨rfl, hb⟩
     have X1 := hi9 (HB4.out.below hb HB4.out.lt)
     have X2 := hi9 (HK4.out.trans (hb.mono s4))
     have X3 := hi9 (below_own HJ.out HJ4.out hb)
     clear hb HLS HB4 HK4 HJ4
     gi_wp2_with fail
     go_roundw
     case rel => exact ⟨r - 1, r2, ok2, _, rfl, rfl, by omega, HL2, HP2, X3.out, X1.out, X2.out⟩
     case measure => simp [intOf]; omega
    ·have HJx := hi9 hJx4
     clear hy hR HB3 HK3 HJ3 hJx4
     gi_wp2
     refine bodyPost_ret (results_none rfl _ _ _) rfl ?_
     exact ⟨⟨_, rfl⟩, .inr ⟨_, HPart.out, HJx.out⟩⟩
end
section
open Go.RowKit
theorem sg_neg {g : Bool} {z : Int} (h : ivalN g z.natAbs = z) (h0 : z ≠ 0) : g = isNeg z := by
 have h1 := isNeg_ival g z.natAbs
 rw [h] at h1
 have : decide (0 < z.natAbs) = true := decide_eq_true (by omega)
 rw [this, Bool.and_true] at h1
 exact h1.symm
section
variable {w w' : World} {g g2 : Bool} {A A2 : Option Addr} {c c2 K J : Nat} {xs ys : List Nat} {z y : Int}
set_option maxHeartbeats 1600000 in
theorem Zh.sign (h : Zh w g A c xs z K) (hK : K ≤ 67108864) : Calls Tryz.prog 18 #[.agg #[.bool g, .slice A xs.length c]] w fun e w' => e = .returned (.int .i64 z.sign) ∧ Below w.heap.size w w' := by
 have Z1 : Hid (∀ W (_ : Below w.heap.size w W), Calls Tryz.prog 36 #[.agg #[.bool g, .slice A xs.length c]] W fun e w' => e = .returned (.bool (decide (z = 0))) ∧ Below W.heap.size W w') := fun W hW => (h.next hW).isZero hK
 have hs := h.sg
 clear h
 by_cases h0 : z = 0
 ·rw [decide_eq_true h0] at Z1
  rw [h0, show Int.sign 0 = 0 from rfl]
  clear hs h0
  go_enter Tryz.func18, Tryz.ntmps18
  go_wp2_with fail
  refine (Z1.out _ (bel_one _ _)).mono ?_
  rintro e w1 ⟨rfl, hb⟩
  go_wp2_with fail
  go_ret
  exact ⟨rfl, bst (bel_one _ _) hb nl9⟩
 ·have hg := sg_neg hs h0
  rw [decide_eq_false h0] at Z1
  cases g
  ·have e1 : z.sign = 1 := Int.sign_eq_one_of_pos (by simp [isNeg] at hg; omega)
   rw [e1]
   clear hs h0 hg e1
   go_enter Tryz.func18, Tryz.ntmps18
   go_wp2_with fail
   refine (Z1.out _ (bel_one _ _)).mono ?_
   rintro e w1 ⟨rfl, hb⟩
   obtain ⟨q0, q1, q2, q3⟩ := ((Blk.new_ (w := w) (t := 25) (cs := #[.bool false, .slice A xs.length c]) (vs := [.bool false, .slice A xs.length c]) rfl).below hb (by simp)).two
   go_wp2_with fail
   go_ret
   exact ⟨rfl, bst (bel_one _ _) hb nl9⟩
  ·have e1 : z.sign = -1 := Int.sign_eq_neg_one_of_neg (by simp [isNeg] at hg; omega)
   rw [e1]
   clear hs h0 hg e1
   go_enter Tryz.func18, Tryz.ntmps18
   go_wp2_with fail
   refine (Z1.out _ (bel_one _ _)).mono ?_
   rintro e w1 ⟨rfl, hb⟩
   obtain ⟨q0, q1, q2, q3⟩ := ((Blk.new_ (w := w) (t := 25) (cs := #[.bool true, .slice A xs.length c]) (vs := [.bool true, .slice A xs.length c]) rfl).below hb (by simp)).two
   go_wp2_with fail
   go_ret
   exact ⟨rfl, bst (bel_one _ _) hb nl9⟩
end
end
section
theorem mod_near {x p o q : Nat} (hx : x < 18446744073709551616) (hp : 0 < p) (ho : o = 18446744073709551615 / p) (hq : q = x * o / 18446744073709551616) :
  q * p ≤ x ∧ x < q * p + 2 * p := by
 have h1 : o * p ≤ 18446744073709551615 := by rw [ho]; exact Nat.div_mul_le_self _ _
 have h2 : 18446744073709551615 < o * p + p := by rw [ho]; exact Nat.lt_div_mul_add hp
 have h3 : q * 18446744073709551616 ≤ x * o := by rw [hq]; exact Nat.div_mul_le_self _ _
 have h4 : x * o < q * 18446744073709551616 + 18446744073709551616 := by rw [hq]; exact Nat.lt_div_mul_add (by decide)
 have e1 := Nat.mul_le_mul_right p h3
 have e2 := (Nat.mul_lt_mul_right hp).2 h4
 have e3 := Nat.mul_le_mul_left x h1
 have e4 := Nat.mul_le_mul_left x (show 18446744073709551616 ≤ o * p + p from h2)
 have e5 := (Nat.mul_lt_mul_right hp).2 hx
 rw [Nat.mul_right_comm, Nat.mul_assoc x o p] at e1
 rw [Nat.add_mul, Nat.mul_right_comm q, Nat.mul_assoc x o p] at e2
 rw [Nat.mul_add] at e4
 generalize x * (o * p) = X at e1 e2 e3 e4
 generalize q * p = Y at e1 e2
 generalize x * p = Z at e4 e5
 omega
theorem mod_rest {x p o q : Nat} (hx : x < 18446744073709551616) (hp : 0 < p) (ho : o = 18446744073709551615 / p) (hq : q = x * o / 18446744073709551616) :
  (x - q * p < p → x - q * p = x % p) ∧ (p ≤ x - q * p → x - q * p - p = x % p ∧ x - q * p - p < p) := by
 obtain ⟨a, b⟩ := mod_near hx hp ho hq
 have s : (x - q * p) % p = x % p := by
  rw [Nat.mul_comm q p] at a ⊢
  exact Nat.sub_mul_mod a
 refine ⟨fun h => by rw [← s, Nat.mod_eq_of_lt h], fun h => ?_⟩
 have l : x - q * p - p < p := by omega
 exact ⟨by rw [← s, Nat.mod_eq_sub_mod h, Nat.mod_eq_of_lt l], l⟩
theorem mod_digit (v d p W : Nat) : ((v % p) * W + d) % p = (d + W * v) % p := by
 rw [Nat.add_comm d, Nat.mul_comm W, Nat.add_mod, Nat.mul_mod, Nat.mod_mod, ← Nat.mul_mod, ← Nat.add_mod]
end
section
open Go.RowKit
def Halved (xs : List Nat) (k : Nat) (zs : List Nat) : Prop :=
 Dig 4294967296 zs ∧ 2 * val 4294967296 zs + at0 xs 0 % 2 = val 4294967296 (xs.take k) + 4294967296 ^ k * (at0 xs k % 2) ∧ ∀ j (h : j < zs.length), k ≤ j → zs[j] = 0
theorem Halved.start (xs : List Nat) (n : Nat) : Halved xs 0 (List.replicate n 0) :=
 ⟨Dig.zeros_ (by omega) _, by simp [val_zeros, val], fun j h _ => by simp⟩
theorem Halved.step {xs zs : List Nat} {k v : Nat} (h : Halved xs k zs) (hz : k < zs.length) (hd : Dig 4294967296 xs) (hv : v = at0 xs k / 2 + at0 xs (k + 1) % 2 * 2147483648) : Halved xs (k + 1) (zs.set k v) := by
 obtain ⟨h1, h2, h3⟩ := h
 have ha := at0_lt hd k
 refine ⟨h1.set_ _ _ (by omega), ?_, fun i hi hki => ?_⟩
 ·have e1 := val_set 4294967296 zs k v hz
  rw [h3 k hz nl9] at e1
  rw [val_take_at0, Nat.pow_succ, Nat.mul_assoc]
  have e2 : 2 * v + at0 xs k % 2 = at0 xs k + 4294967296 * (at0 xs (k + 1) % 2) := by omega
  have e3 : 4294967296 ^ k * (2 * v + at0 xs k % 2) = 4294967296 ^ k * (at0 xs k + 4294967296 * (at0 xs (k + 1) % 2)) := by rw [e2]
  rw [Nat.mul_add, Nat.mul_add, Nat.mul_left_comm] at e3
  omega
 ·rw [List.getElem_set, if_neg (by omega)]
  exact h3 i (by simpa using hi) (by omega)
theorem Halved.last {xs zs : List Nat} (h : Halved xs xs.length zs) : val 4294967296 zs = val 4294967296 xs / 2 := by
 have h2 := h.2.1
 rw [List.take_length, at0_out nl9] at h2
 have : at0 xs 0 % 2 < 2 := Nat.mod_lt _ (by omega)
 omega
end
section
open Go.RowKit
theorem bitsOf_half (x : Nat) (h : 0 < x) : bitsOf x = bitsOf (x / 2) + 1 := by
 unfold bitsOf
 rw [if_neg (by omega)]
 by_cases h1 : x / 2 = 0
 ·rw [if_pos h1]
  have : x = 1 := by omega
  subst this
  decide
 ·rw [if_neg h1]
  have e : Nat.log2 x = Nat.log2 (x / 2) + 1 := by
   have a1 : Nat.log2 (x / 2) + 1 ≤ Nat.log2 x := by
    refine (Nat.le_log2 (by omega)).2 ?_
    have := (Nat.le_log2 h1).1 nl9
    rw [Nat.pow_succ]; omega
   have a2 : Nat.log2 x < Nat.log2 (x / 2) + 1 + 1 := by
    refine (Nat.log2_lt (by omega)).2 ?_
    have := (Nat.log2_lt h1).1 (Nat.lt_succ_self _)
    rw [Nat.pow_succ]; omega
   omega
  omega
set_option maxHeartbeats 400000 in
theorem rlen_any (A : Option Addr) (c : Nat) (xs : List Nat) (w : World) (B : Nat) (hr : Rd w B A (u32s xs)) (hB : B ≤ w.heap.size) (hd : Dig 4294967296 xs) (hm : xs.length ≤ 70368744177664) :
  Calls Tryz.prog 5 #[.slice A xs.length c] w fun e w' => e = .returned (.int .i64 (bitsOf (val 4294967296 xs) : Nat)) ∧ Below w.heap.size w w' := by
 have hn := Num.of_trim hd
 have hl := trimL_length_le xs
 go_enter Tryz.func5, Tryz.ntmps5
 go_wp2_with fail
 refine (rnorm_any A c xs _ B hr hB hm).mono ?_
 rintro e w1 ⟨A1, c1, rfl, hres, hb⟩
 obtain ⟨ps, hps⟩ : ∃ ps, ps = trimL xs := ⟨_, rfl⟩
 rw [← hps] at hn hl hres ⊢
 have hrd := hres.rd
 by_cases h0 : ps = []
 ·have hl0 : (ps.length : Int) = 0 := by rw [h0]; rfl
  have hv : bitsOf (val 4294967296 xs) = 0 := by rw [← hn.2.2, h0]; rfl
  have Hv := hi9 hv
  clear hv h0 hn hres hrd hps
  go_wp2
  go_ret
  exact ⟨by rw [Hv.out]; rfl, hb⟩
 ·have hne : ps.length ≠ 0 := fun e => h0 (List.eq_nil_of_length_eq_zero e)
  have hv := bitsOf_val hn h0 (by omega)
  obtain ⟨b, off, rfl, hbB, hcell⟩ := hrd (by intro e; have := u32s_length ps; rw [e] at this; simp at this; omega)
  obtain ⟨k, hk⟩ : ∃ k, ps.length = k + 1 := ⟨ps.length - 1, by omega⟩
  have hcl := hcell k _ (u32s_at (by omega))
  have hx := hn.1.at_ k (by omega)
  have hv2 : bitsOf (val 4294967296 xs) = 32 * k + bitsOf (ps[k]) := by rw [hv]; simp [hk]
  obtain ⟨x, hxe⟩ : ∃ x, x = ps[k] := ⟨_, rfl⟩
  rw [← hxe] at hcl hx hv2
  have hkb : k < 70368744177664 := by omega
  have Hv2 := hi9 hv2
  have t0 : (((k : Int) + 1) == 0) = false := by simp; omega
  rw [hk]
  clear hv hv2 hn hcell hxe h0 hne hk hres hrd hps
  go_wp2
  go_loop [3, 4] (fun nv xv => ∃ (i y : Nat), nv = .int .i64 (32 * (k : Int) + (i : Int)) ∧ xv = .int .u32 (y : Int) ∧ y ≤ x ∧ i + bitsOf y = bitsOf x ∧ i ≤ 32) (fun _ xv => (intOf xv).toNat)
  case atStart => exact ⟨0, x, by go_num, rfl, Nat.le_refl _, by omega, by omega⟩
  case round =>
   obtain ⟨i, y, rfl, rfl, hyx, hiy, hi⟩ := hrel
   have hx32 : bitsOf x ≤ 32 := by rw [← bitLen_val _ (by omega)]; exact Lib.bitLen_le _ 32 (by omega) hx
   rcases Nat.eq_zero_or_pos y with h0 | h0
   ·subst h0
    have hie : i = bitsOf x := by simpa [bitsOf] using hiy
    have Hie := hi9 hie
    clear hiy hie hx32
    go_wp2
    go_ret
    refine ⟨?_, hb⟩
    rw [Hv2.out, ← Hie.out]
    simp
   ·have hh := bitsOf_half y h0
    have hiy2 : i + 1 + bitsOf (y / 2) = bitsOf x := by omega
    have hi2 : i + 1 ≤ 32 := by omega
    have Hiy2 := hi9 hiy2
    clear hiy hh hiy2
    go_wp2
    go_round
    case rel => exact ⟨i + 1, y / 2, by go_num, by go_num, by omega, Hiy2.out, hi2⟩
    case measure => simp [intOf]; omega
end
end Go.Proofs.YtcjgilagldbjnaaGreatDoor
