/- The contracts of sumOf and longProduct. The contract of piecewise, given that of product for fewer w. The contract of the reference's Same on equal lists; numbers. Plain numbers: a word by half a word, with the digit guessed. The contract of math/bits.Div64: by Knuth's way, half a word. -/
import Derived.Test.YtcjgilagldbjnaaGreatDoorPkBb15
import Derived.Laws.CopyOwn
import Derived.Deep.RegionHeld3
import Derived.Test.YtcjgilagldbjnaaGreatDoorPkBb14
import Derived.Deep.QuietTactic
import Derived.BigQuiet
import Derived.Deep.CutBlock
import Derived.Deep.DeepCutAuto
namespace Go.Proofs.YtcjgilagldbjnaaGreatDoor
section
open Go.RowKit
theorem sum_lt {b n x y : Nat} (hb : 2 ≤ b) (hx : x < b ^ n) (hy : y < b ^ n) : x + y < b ^ (n + 1) := by
 rw [Nat.pow_succ]
 have : b ^ n * 2 ≤ b ^ n * b := Nat.mul_le_mul_left _ hb
 omega
theorem val_lt_le {b : Nat} {xs : List Nat} {n : Nat} (h : Dig b xs) (hl : xs.length ≤ n) (hb : 0 < b) : val b xs < b ^ n :=
 Nat.lt_of_lt_of_le (val_lt b xs h) (Nat.pow_le_pow_right hb hl)
theorem carry_zero {b n v q X : Nat} (h : v + b ^ n * q = X) (hX : X < b ^ n) : q = 0 := by
 rcases Nat.eq_zero_or_pos q with h0 | h0
 ·exact h0
 ·have : b ^ n * 1 ≤ b ^ n * q := Nat.mul_le_mul_left _ h0
  omega
theorem carry_zero2 {b n v q X : Nat} (h : v + b ^ n * q = X) (hX : X < b ^ n) : v = X := by
 rw [carry_zero h hX] at h; simpa using h
theorem u64s_splice (L zs : List Nat) (o : Nat) : splice (u64s L) o (u64s zs) = u64s (patch L o zs) := by
 simp [splice, patch, u64s, List.map_take, List.map_drop]
theorem mk64s (n : Nat) (h : n + 1 ≤ 35184372088832) (W : World) : (Instr.makeSlice 76 (.int .i64 ((n : Int) + 1)) (.int .i64 ((n : Int) + 1))).run Tryz.prog W = .ok (.slice (some ⟨W.heap.size, 0, none⟩) (n + 1) (n + 1)) (W.alloc (.cells (List.replicate (n + 1) (Value.int .u64 0)).toArray 53)) := by
 have := mk64 (n + 1) h W
 rwa [show ((n + 1 : Nat) : Int) = (n : Int) + 1 from by omega] at this
theorem mk64a (n m : Nat) (h : n + m ≤ 35184372088832) (W : World) : (Instr.makeSlice 76 (.int .i64 ((n : Int) + (m : Int))) (.int .i64 ((n : Int) + (m : Int)))).run Tryz.prog W = .ok (.slice (some ⟨W.heap.size, 0, none⟩) (n + m) (n + m)) (W.alloc (.cells (List.replicate (n + m) (Value.int .u64 0)).toArray 53)) := by
 have := mk64 (n + m) h W
 rwa [show ((n + m : Nat) : Int) = (n : Int) + (m : Int) from by omega] at this
theorem add_none (b off j : Nat) : (Addr.add ⟨b, off, none⟩ j) = ⟨b, off + j, none⟩ := by first | rfl | simp [Addr.add]
theorem patch_zero_all {L zs : List Nat} (h : zs.length = L.length) : patch L 0 zs = zs := by simp [patch, h]
def Words (w w' : World) (len n : Nat) (e : Ending) : Prop :=
 ∃ zs g, e = .returned (.slice (some ⟨g, 0, none⟩) zs.length zs.length) ∧ zs.length = len ∧ Dig 18446744073709551616 zs ∧ val 18446744073709551616 zs = n ∧ w.heap.size ≤ g ∧ Blk w' g 53 (u64s zs) ∧ Below w.heap.size w w'
set_option maxHeartbeats 1600000 in
theorem sumOf_any (A A2 : Option Addr) (c c2 : Nat) (us vs : List Nat) (w : World) (B : Nat) (hr : Rd w B A (u64s us)) (hr2 : Rd w B A2 (u64s vs)) (hB : B ≤ w.heap.size) (hd : Dig 18446744073709551616 us) (hd2 : Dig 18446744073709551616 vs) (hle : vs.length ≤ us.length) (hm : us.length ≤ 35184372088000) :
  Calls Tryz.prog 94 #[.slice A us.length c, .slice A2 vs.length c2] w fun e w' => Words w w' (us.length + 1) (val 18446744073709551616 us + val 18446744073709551616 vs) e := by
 have hmk := fun W => mk64s us.length (by omega) W
 go_enter Tryz.func94, Tryz.ntmps94
 go_wp2_with ((with_reducible refine wpList_copy_splice (o := ⟨some 12, _, _, _, _, _⟩) rfl _ _ _ _ rfl 53 Tryz.underlying76 ?u1 _ _ _ _ _ _ rfl rfl w.heap.size 0 (u64s (List.replicate (us.length + 1) 0)) 53 ?c1 (u64s us) ?c2 ?c3 ?c4 ?c5 w.heap.size w ?c6 nl9 ?_); rotate_right; intro w2 hg2 hb2)
 case u1 => kernel_rfl
 case c1 => exact Blk.new_ (by simp [u64s])
 case c2 => rw [u64s_length]; simp
 case c3 =>
  intro hp
  have hne : u64s us ≠ [] := by intro e; rw [e] at hp; simp at hp
  obtain ⟨b, off, rfl, hbB, hcell⟩ := hr hne
  refine ⟨_, rfl, fun j v hv => ?_⟩
  rw [add_none]
  rw [World.cell?_alloc_past _ _ _ (by show b < _; omega)]
  exact hcell j v hv
 case c4 => rw [u64s_length, u64s_length, List.length_replicate]; omega
 case c5 => exact one_u64s us
 case c6 => exact br9.alloc nl9 _
 have hg3 : Blk w2 w.heap.size 53 (u64s (us ++ [0])) := by
  have e : splice (u64s (List.replicate (us.length + 1) 0)) 0 (u64s us) = u64s (us ++ [0]) := by
   rw [u64s_splice]; congr 1
   simp [patch, List.drop_replicate]
  rw [← e]; exact hg2.out
 have hz := hb2.size
 have hrx : Rx w2 w.heap.size A2 (u64s vs) := (hr2.below (hb2.mono hB)).rx hB (by omega)
 have hdl : Dig 18446744073709551616 (us ++ [0]) := hd.append_ (Dig.cons_ (by omega) (Dig.nil_ _))
 have hvl := hi9 (show val 18446744073709551616 (((us ++ [0]).drop 0).take (us.length + 1)) = val 18446744073709551616 us from by
  rw [List.drop_zero, List.take_of_length_le (by simp), val_snoc]; simp)
 clear hg2 hmk
 refine (addInto_any w.heap.size 0 (us.length + 1) (us.length + 1) (us ++ [0]) vs A2 c2 w2 hg3 hrx (by simp) (by omega) hdl hd2 (by simp; omega)).mono ?_
 rintro e w3 ⟨zs, q, rfl, hzl, hzd, hq, hv, hblk, htn⟩
 have Hzl := hi9 hzl
 have Hv := hi9 hv
 clear hzl hv
 go_wp2_with fail
 go_ret
 have hv := Hv.out
 rw [hvl.out] at hv
 rw [patch_zero_all (by rw [Hzl.out]; simp)] at hblk
 exact ⟨zs, _, by rw [Hzl.out]; rfl, Hzl.out, hzd, carry_zero2 hv (sum_lt (by omega) (val_lt _ _ hd) (val_lt_le hd2 hle (by omega))), Nat.le_refl _, hblk, hb2.trans (htn.below nl9 hz)⟩
theorem long_step {b k la v q : Nat} {us zs zr : List Nat} {X : Nat} (hv : val b zs = val b us * X) (hk : k + la < zs.length) (hl : zr.length = la) (h0 : zs[k + la] = 0) (hz : val b zr + b ^ la * q = val b ((zs.drop k).take la) + val b us * v) :
  val b ((patch zs k zr).set (k + la) q) = val b us * (X + b ^ k * v) := by
 subst hl
 have h1 := patch_val b (L := zs) (o := k) (zs := zr) (by omega)
 have hpl := patch_length (L := zs) (o := k) (zs := zr) (by omega)
 have h2 := val_set b (patch zs k zr) (k + zr.length) q (by omega)
 have h3 : (patch zs k zr)[k + zr.length]'(by omega) = 0 := by
  rw [← h0]
  unfold patch
  rw [List.getElem_append_right (by simp; omega)]
  rw [List.getElem_drop]
  congr 1
  simp; omega
 rw [h3, Nat.mul_zero, Nat.add_zero] at h2
 rw [h2, Nat.pow_add, Nat.mul_add, ← hv]
 have h4 : b ^ k * val b zr + b ^ k * (b ^ zr.length * q) = b ^ k * val b ((zs.drop k).take zr.length) + b ^ k * (val b us * v) := by
  rw [← Nat.mul_add, hz, Nat.mul_add]
 rw [Nat.mul_assoc, show val b us * (b ^ k * v) = b ^ k * (val b us * v) from by rw [← Nat.mul_assoc, Nat.mul_comm (val b us), Nat.mul_assoc]]
 generalize b ^ k * (b ^ zr.length * q) = t1 at *
 generalize b ^ k * (val b us * v) = t2 at *
 omega
set_option maxHeartbeats 1600000 in
theorem longProduct_any (A A2 : Option Addr) (c c2 : Nat) (us vs : List Nat) (w : World) (B : Nat) (hr : Rd w B A (u64s us)) (hr2 : Rd w B A2 (u64s vs)) (hB : B ≤ w.heap.size) (hd : Dig 18446744073709551616 us) (hd2 : Dig 18446744073709551616 vs) (hm : us.length + vs.length ≤ 35184372088000) :
  Calls Tryz.prog 80 #[.slice A us.length c, .slice A2 vs.length c2] w fun e w' => Words w w' (us.length + vs.length) (val 18446744073709551616 us * val 18446744073709551616 vs) e := by
 have hmk := fun W => mk64a us.length vs.length (by omega) W
 go_enter Tryz.func80, Tryz.ntmps80
 go_wp2_with fail
 go_loopw [6, 7, 16] (fun _ _ i wr => ∃ (k : Nat) (zs : List Nat), k ≤ vs.length ∧ i = .int .i64 k ∧ zs.length = us.length + vs.length ∧ Dig 18446744073709551616 zs ∧ Blk wr w.heap.size 53 (u64s zs) ∧ val 18446744073709551616 zs = val 18446744073709551616 us * val 18446744073709551616 (vs.take k) ∧ (∀ j (h : j < zs.length), k + us.length ≤ j → zs[j] = 0) ∧ Below w.heap.size w wr) (fun _ _ i _ => vs.length - (intOf i).toNat)
 case atStart => exact ⟨0, List.replicate (us.length + vs.length) 0, by omega, rfl, by simp, Dig.zeros_ (by omega) _, Blk.new_ (by simp [u64s]), by rw [val_zeros]; simp [val], fun j h _ => by simp, br9.alloc nl9 _⟩
 case round =>
  obtain ⟨k, zs, hk, rfl, hzl, hzd, hblk, hv, hzero, hbel⟩ := hrel
  have Hzl := hi9 hzl
  have Hv := hi9 hv
  have Hzero := hi9 hzero
  have hbs := hbel.size
  by_cases hlt : k < vs.length
  ·obtain ⟨b, off, rfl, hb, hx⟩ := hr2.at64 hlt
   have hx := (hbel.cell (p := ⟨b, off + k, none⟩) (show b < _ by omega)).trans hx
   have hxd := hd2.at_ k hlt
   have hrx : Rx wr w.heap.size A (u64s us) := (hr.below (hbel.mono hB)).rx hB (by omega)
   have hz1 : k + us.length < zs.length := by omega
   have h0 := hzero (k + us.length) hz1 nl9
   have ho : k + us.length ≤ zs.length := by omega
   have hzm : zs.length ≤ 281474976710656 := by omega
   have hum : us.length ≤ 281474976710656 := by omega
   have H0 := hi9 h0
   clear hzl hv hzero h0
   go_wp2_with fail
   rw [show k + us.length - k = us.length from by omega]
   refine (addRow_any w.heap.size k _ zs us vs[k] A c _ hblk hrx ho (by omega) hzd hd hxd hzm hum).mono ?_
   rintro e w2 ⟨zr, q, rfl, hrl, hrd, hq, hrv, hblk2, htn⟩
   have hpl : (patch zs k zr).length = zs.length := patch_length (by omega)
   obtain ⟨vv, hcc⟩ : ∃ vv, w2.cell? ⟨w.heap.size, k + us.length, none⟩ = some vv := ⟨_, (hblk2.cell (k + us.length)).trans (u64s_at (by omega))⟩
   have hf := hblk2.frozen (k + us.length)
   have Hrl := hi9 hrl
   have Hrv := hi9 hrv
   have Hpl := hi9 hpl
   clear hrl hrv hpl
   go_wp2_with fail
   go_roundw
   case rel =>
    refine ⟨k + 1, (patch zs k zr).set (k + us.length) q, by omega, by go_num, by rw [List.length_set, Hpl.out, Hzl.out], (patch_dig hzd hrd).set_ _ _ hq, ?_, ?_, ?_, (hbel.trans (htn.below nl9 hbs)).setCell (p := ⟨w.heap.size, k + us.length, none⟩) nl9 _⟩
    ·have := hblk2.set_ (k + us.length) (.int .u64 (q : Int))
     rwa [u64s_set] at this
    ·rw [long_step Hv.out hz1 Hrl.out H0.out Hrv.out, val_take_succ _ vs k hlt]
    ·intro j hj hkj
     have hj2 : j < zs.length := by rw [List.length_set, Hpl.out] at hj; exact hj
     rw [List.getElem_set, if_neg (by omega)]
     have e := Hzero.out j hj2 (by omega)
     rw [← e]
     unfold patch
     have := Hrl.out
     rw [List.getElem_append_right (by simp; omega), List.getElem_drop]
     congr 1
     simp; omega
   case measure => simp [intOf]; omega
  ·obtain rfl : k = vs.length := by omega
   clear hzl hv hzero
   go_wp2_with fail
   go_ret
   have hv := Hv.out
   rw [List.take_length] at hv
   exact ⟨zs, _, by rw [Hzl.out]; rfl, Hzl.out, hzd, hv, Nat.le_refl _, hblk, hbel⟩
end
section
open Go.RowKit
def ProdOk (n : Nat) : Prop :=
 ∀ (A A2 : Option Addr) (c c2 : Nat) (us vs : List Nat) (w : World) (B : Nat), us.length + vs.length ≤ n → Rd w B A (u64s us) → Rd w B A2 (u64s vs) → B ≤ w.heap.size → Dig 18446744073709551616 us → Dig 18446744073709551616 vs → us.length ≤ c → vs.length ≤ c2 → us.length + vs.length ≤ 536870912 →
  Calls Tryz.prog 70 #[.slice A us.length c, .slice A2 vs.length c2] w fun e w' => Words w w' (us.length + vs.length) (val 18446744073709551616 us * val 18446744073709551616 vs) e
def offA (A : Option Addr) (k : Nat) : Option Addr := A.map fun a => ⟨a.block, a.off + k, none⟩
theorem Rd.drop_ {w : World} {B : Nat} {A : Option Addr} {xs : List Nat} (h : Rd w B A (u64s xs)) (k : Nat) : Rd w B (offA A k) (u64s (xs.drop k)) := fun hn => by
 obtain ⟨b, off, e, hb, hc⟩ := h (by intro e; apply hn; unfold u64s at e ⊢; rw [List.map_drop, e]; simp)
 refine ⟨b, off + k, by rw [e]; rfl, hb, fun i v hv => ?_⟩
 rw [Nat.add_assoc]
 refine hc (k + i) v ?_
 unfold u64s at hv ⊢
 rw [List.map_drop, List.getElem?_drop] at hv
 exact hv
theorem Rd.takeN {w : World} {B : Nat} {A : Option Addr} {xs : List Nat} (h : Rd w B A (u64s xs)) (k : Nat) : Rd w B A (u64s (xs.take k)) := by
 have := h.take k
 unfold u64s at this ⊢
 rwa [← List.map_take] at this
theorem piece_step {b k N q V : Nat} {zs zr us pc : List Nat} (hv : val b zs = val b (us.take k) * V) (hk : k ≤ us.length) (hN : k + N = zs.length) (hl : zr.length = N) (hpc : pc = (us.drop k).take pc.length) (hz : val b zr + b ^ N * q = val b ((zs.drop k).take N) + val b pc * V) (hY : val b us * V < b ^ zs.length) (_ : 0 < b) :
  q = 0 ∧ val b (patch zs k zr) = val b (us.take (k + pc.length)) * V := by
 subst hl
 have h1 := patch_val b (L := zs) (o := k) (zs := zr) (by omega)
 have e1 : val b (us.take (k + pc.length)) = val b (us.take k) + b ^ k * val b pc := by
  rw [show us.take (k + pc.length) = us.take k ++ pc from by rw [List.take_add]; congr 1; exact hpc.symm, val_append, List.length_take, Nat.min_eq_left hk]
 have e2 : b ^ k * val b zr + b ^ k * (b ^ zr.length * q) = b ^ k * val b ((zs.drop k).take zr.length) + b ^ k * (val b pc * V) := by
  rw [← Nat.mul_add, hz, Nat.mul_add]
 rw [← Nat.mul_assoc, ← Nat.pow_add, hN] at e2
 have e3 : val b (patch zs k zr) + b ^ zs.length * q = val b (us.take (k + pc.length)) * V := by
  rw [e1, Nat.add_mul, Nat.mul_assoc, ← hv]
  generalize b ^ k * (val b pc * V) = t1 at *
  generalize b ^ zs.length * q = t2 at *
  omega
 have h4 : val b (us.take (k + pc.length)) * V < b ^ zs.length := by
  refine Nat.lt_of_le_of_lt (Nat.mul_le_mul_right _ ?_) hY
  conv => rhs; rw [← List.take_append_drop (k + pc.length) us, val_append]
  exact Nat.le_add_right _ _
 have hq := carry_zero e3 h4
 subst hq
 exact ⟨rfl, by simpa using e3⟩
theorem prod_lt {b : Nat} {us vs : List Nat} (hd : Dig b us) (hd2 : Dig b vs) (hb : 0 < b) : val b us * val b vs < b ^ (us.length + vs.length) := by
 rw [Nat.pow_add]
 have h1 := val_lt b us hd
 have h2 := val_lt b vs hd2
 exact Nat.mul_lt_mul_of_lt_of_le h1 (Nat.le_of_lt h2) (Nat.pow_pos hb)
set_option maxHeartbeats 1600000 in
theorem piecewise_any (A A2 : Option Addr) (c c2 : Nat) (us vs : List Nat) (w : World) (B : Nat) (hIH : ProdOk (2 * vs.length)) (hr : Rd w B A (u64s us)) (hr2 : Rd w B A2 (u64s vs)) (hB : B ≤ w.heap.size) (hd : Dig 18446744073709551616 us) (hd2 : Dig 18446744073709551616 vs) (hc : us.length ≤ c) (hc2 : vs.length ≤ c2) (h1 : 0 < vs.length) (hle : vs.length ≤ us.length) (hm : us.length + vs.length ≤ 536870912) :
  Calls Tryz.prog 81 #[.slice A us.length c, .slice A2 vs.length c2] w fun e w' => Words w w' (us.length + vs.length) (val 18446744073709551616 us * val 18446744073709551616 vs) e := by
 have hmk := fun W => mk64a us.length vs.length (by omega) W
 have hY := prod_lt hd hd2 (by omega)
 have HY := hi9 hY
 have HIH : Hid (ProdOk (2 * vs.length)) := hIH
 clear hY hIH
 go_enter Tryz.func81, Tryz.ntmps81
 go_wp2_with fail
 go_loopw [6, 7] (fun i _ wr => ∃ (k : Nat) (zs : List Nat), k ≤ us.length + vs.length ∧ i = .int .i64 k ∧ zs.length = us.length + vs.length ∧ Dig 18446744073709551616 zs ∧ Blk wr w.heap.size 53 (u64s zs) ∧ val 18446744073709551616 zs = val 18446744073709551616 (us.take k) * val 18446744073709551616 vs ∧ Below w.heap.size w wr) (fun i _ _ => us.length + vs.length - (intOf i).toNat)
 case atStart => exact ⟨0, List.replicate (us.length + vs.length) 0, by omega, rfl, by simp, Dig.zeros_ (by omega) _, Blk.new_ (by simp [u64s]), by rw [val_zeros]; simp [val], br9.alloc nl9 _⟩
 case round =>
  obtain ⟨k, zs, hk, rfl, hzl, hzd, hblk, hv, hbel⟩ := hrel
  have Hzl := hi9 hzl
  have Hv := hi9 hv
  have hbs := hbel.size
  by_cases hlt : k < us.length
  ·obtain ⟨b, off, rfl, hb, _⟩ := hr.at64 hlt
   clear hzl hv
   go_upto_region 6 with (fail)
   obtain ⟨pc, hpc⟩ : ∃ pc, pc = (us.drop k).take vs.length := ⟨_, rfl⟩
   have hpl : (min ((k : Int) + (vs.length : Int)) (us.length : Int)).toNat - k = pc.length := by
    rw [hpc, List.length_take, List.length_drop]; omega
   have hp2 : pc.length ≤ vs.length := by rw [hpc, List.length_take]; omega
   have hp3 : k + pc.length ≤ us.length := by rw [hpc, List.length_take, List.length_drop]; omega
   have hp4 : pc.length = vs.length ∨ k + pc.length = us.length := by rw [hpc, List.length_take, List.length_drop]; omega
   have hpe := hi9 (show pc = (us.drop k).take pc.length from by rw [hpc, List.length_take, List.take_eq_take_iff]; simp)
   rw [hpl]
   have hpd : Dig 18446744073709551616 pc := by rw [hpc]; exact seg_dig hd k _
   have hrp : Rd w B (some ⟨b, off + k, none⟩) (u64s pc) := by rw [hpc]; exact (hr.drop_ k).takeN _
   have Hprod : Hid (∀ W, Below w.heap.size w W → Calls Tryz.prog 70 #[.slice (some ⟨b, off + k, none⟩) pc.length (c - k), .slice A2 vs.length c2] W fun e w' => Words W w' (pc.length + vs.length) (val 18446744073709551616 pc * val 18446744073709551616 vs) e) := fun W hW =>
    HIH.out _ _ _ _ pc vs W B (by omega) (hrp.below (hW.mono hB)) (hr2.below (hW.mono hB)) (Nat.le_trans hB hW.size) hpd hd2 (by omega) hc2 (by omega)
   clear hpc hpl
   have hzb : zs.length ≤ 281474976710656 := by rw [Hzl.out]; omega
   have hzo : k + (us.length + vs.length - k) ≤ zs.length := by rw [Hzl.out]; omega
   have Hb := hi9 hblk
   have hi0 : (0 : Int) ≤ (k : Int) := by omega
   have hi1 : (k : Int) ≤ (us.length : Int) + (vs.length : Int) := by omega
   have hi2 : k ≤ us.length + vs.length := by omega
   have hi3 : ¬ (us.length + vs.length = k) := by omega
   have hi4 : ¬ (k = us.length + vs.length) := by omega
   go_region_held3 (fun _ => True) (exact trivial) (first
    | (go_at_call 70; refine (Hprod.out _ (by first | exact hbel | exact hbel.drew)).mono ?_; rintro e w1 ⟨ps, g1, rfl, hpsl, hpsd, hpsv, hg1, hres, hb1⟩; have hbel1 : Below w.heap.size w w1 := (by first | exact hbel.trans (hb1.mono hbs) | exact hbel.drew.trans (hb1.mono hbs)); have hq1 : Blk w1 w.heap.size 53 (u64s zs) := (by first | exact Hb.out.below hb1 Hb.out.lt | exact Hb.out.drew.below hb1 Hb.out.lt); have hrx1 : Rx w1 w.heap.size (some ⟨g1, 0, none⟩) (u64s ps) := Rx.of_blk hres (by have h1 : wr.heap.size ≤ g1 := hg1; have h2 := Hb.out.lt; omega) 0 (fun k v hv => by rw [Nat.zero_add]; exact hv); have Hpsl := hi9 hpsl; have Hpsv := hi9 hpsv; have hpsb : ps.length ≤ us.length + vs.length - k := (by omega); clear hpsl hpsv)
    | (go_at_call 93; refine (addInto_any w.heap.size k (us.length + vs.length - k) _ zs ps _ _ _ (by first | exact hq1 | exact hq1.drew) (by first | exact hrx1 | exact hrx1.keep br9.drew nl9) hzo hpsb hzd hpsd (Nat.le_trans (Nat.sub_le _ _) (by omega))).mono ?_; rintro e w2 ⟨zr, q, rfl, hrl, hrd, hq, hrv, hblk2, htn⟩; have hbel2 : Below w.heap.size w w2 := (by first | exact hbel1.trans (htn.below nl9 hbel1.size) | exact hbel1.drew.trans (htn.below nl9 hbel1.size)); have Hrl := hi9 hrl; have Hrv := hi9 hrv; clear hrl hrv))
   all_goals
    go_wp2_with fail
    go_roundw
    case rel =>
     have hrv := Hrv.out
     rw [Hpsv.out] at hrv
     have hst := piece_step Hv.out (by omega) (by rw [Hzl.out]; omega) Hrl.out hpe.out hrv (by rw [Hzl.out]; exact HY.out) (by omega)
     have hpl := patch_length (L := zs) (o := k) (zs := zr) (by rw [Hrl.out, Hzl.out]; omega)
     refine ⟨k + vs.length, patch zs k zr, by omega, by go_num, hpl.trans Hzl.out, patch_dig hzd hrd, hblk2, ?_, hbel2⟩
     rw [hst.2]
     congr 2
     rcases hp4 with h | h
     ·rw [h]
     ·rw [List.take_of_length_le (by omega), List.take_of_length_le (by omega)]
    case measure => simp [intOf]; omega
  ·clear hzl hv
   go_wp2_with fail
   go_ret
   have hv := Hv.out
   rw [List.take_of_length_le (by omega)] at hv
   exact ⟨zs, _, by rw [Hzl.out]; rfl, Hzl.out, hzd, hv, Nat.le_refl _, hblk, hbel⟩
end
section
open Go.RowKit
set_option maxHeartbeats 400000 in
theorem same_yes (A A2 : Option Addr) (c c2 : Nat) (xs : List Nat) (w : World) (B : Nat) (hr : Rd w B A (u32s xs)) (hr2 : Rd w B A2 (u32s xs)) (hm : xs.length ≤ 281474976710656) :
  Calls Tryz.prog 61 #[.slice A xs.length c, .slice A2 xs.length c2] w fun e w' => e = .returned (.bool true) ∧ Dr w w' := by
 have t1 : ((xs.length : Int) != (xs.length : Int)) = false := by simp
 go_enter Tryz.func61, Tryz.ntmps61
 go_wp2
 go_loopw [5, 13] (fun _ i wr => ∃ k : Nat, k ≤ xs.length ∧ i = .int .i64 k ∧ Dr w wr) (fun _ i _ => xs.length - (intOf i).toNat)
 case atStart => exact ⟨0, by omega, rfl, Dr.refl _⟩
 case round =>
  obtain ⟨k, hk, rfl, hdr⟩ := hrel
  by_cases hlt : k < xs.length
  ·obtain ⟨b, off, rfl, hb, hcell⟩ := hr (by intro e; have := u32s_length xs; rw [e] at this; simp at this; omega)
   obtain ⟨b2, off2, rfl, hb2, hcell2⟩ := hr2 (by intro e; have := u32s_length xs; rw [e] at this; simp at this; omega)
   have hx := ((hdr.below B).cell (p := ⟨b, off + k, none⟩) hb).trans (hcell k _ (u32s_at hlt))
   have hy := ((hdr.below B).cell (p := ⟨b2, off2 + k, none⟩) hb2).trans (hcell2 k _ (u32s_at hlt))
   have t2 : ((xs[k] : Int) != (xs[k] : Int)) = false := by simp
   clear hcell hcell2 hr hr2
   go_wp2
   go_quiet (fail)
   go_wp2
   go_roundw
   case rel => exact ⟨k + 1, by omega, by go_num, hdr.step _⟩
   case measure => simp [intOf]; omega
  ·go_wp2
   go_ret
   exact ⟨rfl, hdr⟩
end
section

end
section
open Go.RowKit
theorem int_u64 {a b : Int} (h : a = b) : Value.int .u64 a = Value.int .u64 b := by rw [h]
end
end Go.Proofs.YtcjgilagldbjnaaGreatDoor
