/- The contract of blockQuotient. The contract of quotient. The contracts of nat's operations on numbers that are held. Plain numbers: a sign and a size as an integer; quotients by. -/
import Derived.Test.YtbcphifjcaobfaaGreatDoorPkRp12
import Derived.Test.YtbcphifjcaobfaaGreatDoorPkRp10
import Derived.Test.YtbcphifjcaobfaaGreatDoorPkRp5
import Derived.Test.YtbcphifjcaobfaaGreatDoorPkRp9
import Derived.Test.YtbcphifjcaobfaaGreatDoorPkRp1
import Derived.Test.YtbcphifjcaobfaaGreatDoorPkRp0
namespace Go.Proofs.YtbcphifjcaobfaaGreatDoor
section
open Go.RowKit
set_option maxRecDepth 100000 in
set_option maxHeartbeats 3200000 in
theorem blockQuotient_any (A A2 : Option Addr) (c c2 : Nat) (us vs : List Nat) (U V : Nat) (w : World) (B : Nat) (hn1 : 200 ≤ vs.length) (hn2 : vs.length ≤ 134217728) (hr : Rd w B A (u64s us)) (hr2 : Rd w B A2 (u64s vs)) (hB : B ≤ w.heap.size) (hd : Dig 18446744073709551616 us) (hU : val 18446744073709551616 us = U) (hd2 : Dig 18446744073709551616 vs) (hV : val 18446744073709551616 vs = V) (htop : 18446744073709551616 ^ vs.length ≤ 2 * V) (hune : us ≠ []) (hm : us.length ≤ 35183800000000) :
  Calls Tryz.prog 176 #[.slice A us.length c, .slice A2 vs.length c2] w fun e w' => BlockOut w w' (us.length + 402653184) U V e := by
 have hvne : vs ≠ [] := by intro e; rw [e] at hn1; simp at hn1
 go_enter Tryz.func176, Tryz.ntmps176
 go_upto_region 3 with fail
 go_loopg [6, 7] vs.length (fun K sv hv wr => ∃ (s k P : Nat), sv = .int .i64 (s : Int) ∧ hv = .int .i64 (k : Int) ∧ s ≤ K ∧ Hid (P = 2 ^ k) ∧ Hid (vs.length ≤ s * P) ∧ Hid ((s - 1) * P < vs.length) ∧ 100 ≤ s ∧ s ≤ 134217728 ∧ wr = w)
 case atStart => exact ⟨vs.length, 0, 1, rfl, rfl, Nat.le_refl _, rfl, by show _ ≤ _; omega, by show _ < _; omega, by omega, hn2, rfl⟩
 case round =>
  obtain ⟨s, k, P, rfl, rfl, hsK, HP, Hle, Hlt, hs1, hsm, rfl⟩ := hrel
  have hk27 : k < 27 := pow_small (n := vs.length) (by
   rw [← HP.out]
   have h1 := Hlt.out
   have h3 : 1 * P ≤ (s - 1) * P := Nat.mul_le_mul_right _ (by omega)
   omega) hn2
  by_cases h200 : 200 ≤ s
  ·have t1 : decide (200 ≤ (s : Int)) = true := decide_eq_true (by omega)
   have e1 : ((s : Int) + 1) / 2 = (((s + 1) / 2 : Nat) : Int) := by omega
   obtain ⟨s2, hs2⟩ : ∃ s2, s2 = (s + 1) / 2 := ⟨_, rfl⟩
   rw [← hs2] at e1
   have hs3 : s2 < s := by omega
   have hs4 : 100 ≤ s2 := by omega
   have Hs2 := hi9 hs2
   clear hs2
   go_wp2_with (first | simp only [t1] | simp only [e1])
   go_roundg s2
   case measure => omega
   case rel =>
    obtain ⟨c1, c2⟩ := half_cover Hle.out Hlt.out (by omega)
    rw [← Hs2.out] at c1 c2
    exact ⟨s2, k + 1, 2 * P, rfl, by go_num, Nat.le_refl _, by show 2 * P = _; rw [Nat.pow_succ, ← HP.out]; omega, c1, c2, hs4, by omega, rfl⟩
  ·have t1 : decide (200 ≤ (s : Int)) = false := decide_eq_false (by omega)
   obtain ⟨sz, hsz⟩ : ∃ sz, sz = s * P := ⟨_, rfl⟩
   have hszn : vs.length ≤ sz := by rw [hsz]; exact Hle.out
   have hszl : sz < 2 * vs.length := by rw [hsz]; exact cover_le Hlt.out (by omega)
   have e2 : Hid (wrap64 ((s : Int) * 2 ^ min k 64) = (sz : Int)) := by
    show wrap64 ((s : Int) * 2 ^ min k 64) = (sz : Int)
    have h1 : (s : Int) * 2 ^ k = (sz : Int) := by rw [hsz, HP.out, Int.natCast_mul, Int.natCast_pow]; rfl
    rw [Nat.min_eq_left (by omega), h1]
    exact IntWalk.wrap64_in _ (by omega)
   clear hsz HP Hle Hlt hs1 hsm hk27
   obtain ⟨pad, hpad⟩ : ∃ pad, vs.length + pad = sz := ⟨sz - vs.length, by omega⟩
   have e3 : (sz : Int) - (vs.length : Int) = (pad : Int) := by omega
   have hpadb : pad < 134217728 := by omega
   have HRv := hi9 (raise_any A2 c2 pad vs wr B hr2 hB hd2 (by omega) hvne)
   have HRu : Hid (∀ W, Below wr.heap.size wr W → Calls Tryz.prog 202 #[.slice A us.length c, .int .i64 (pad : Int)] W fun e w' => Words W w' (pad + us.length) (18446744073709551616 ^ pad * U) e) := fun W hW => by
    have := raise_any A c pad us W B (hr.below (hW.mono hB)) (Nat.le_trans hB hW.size) hd (by omega) hune
    rwa [hU] at this
   rw [hV] at HRv
   have Hpad := hi9 hpad
   clear hpad
   go_upto_region 9 with (first
    | simp only []
    | simp only [e2.out]
    | simp only [e3]
    | (go_at_call_of 202 (Value.slice A2 vs.length c2); (with_reducible refine HRv.out.mono ?_); rintro e w1 ⟨v2, gv, rfl, hvl, hvd, hvv, hgv, hbv, hb1⟩; have Hvl : Hid (v2.length = sz) := (by show _ = _; have := Hpad.out; omega); have Hvv := hi9 hvv; clear hvl hvv)
    | (go_at_call 202; (with_reducible refine (HRu.out _ hb1).mono ?_); rintro e w2 ⟨z2, gu, rfl, hzl, hzd, hzv, hgu, hbu, hb2⟩; have Hzl := hi9 hzl; have Hzv := hi9 hzv; clear hzl hzv)
    | (go_at_call 157; (with_reducible refine (trimWords_any (some ⟨gu, 0, none⟩) z2.length z2 w2 w2.heap.size (Rd.of_blk hbu hbu.lt 0 (fun k v hv => by rw [Nat.zero_add]; exact hv)) nl9 (by have := Hzl.out; omega)).mono ?_); rintro e w3 ⟨rfl, rfl⟩))
   obtain ⟨V2, hV2⟩ : ∃ V2, V2 = 18446744073709551616 ^ pad * V := ⟨_, rfl⟩
   obtain ⟨U2, hU2⟩ : ∃ U2, U2 = 18446744073709551616 ^ pad * U := ⟨_, rfl⟩
   obtain ⟨u2, hu2⟩ : ∃ u2, u2 = trimL z2 := ⟨_, rfl⟩
   have nu2 : Num 18446744073709551616 u2 U2 := by rw [hu2, hU2, ← Hzv.out]; exact Num.of_trim hzd
   have hru : Rd w2 w2.heap.size (some ⟨gu, 0, none⟩) (u64s u2) := by
    have := (Rd.of_blk hbu hbu.lt 0 (fun k v hv => by rw [Nat.zero_add]; exact hv) : Rd w2 w2.heap.size (some ⟨gu, 0, none⟩) (u64s z2)).takeN (trimL z2).length
    rwa [trimL_take, ← hu2] at this
   have hrv : Rd w2 w2.heap.size (some ⟨gv, 0, none⟩) (u64s v2) := ((Rd.of_blk hbv hbv.lt 0 (fun k v hv => by rw [Nat.zero_add]; exact hv) : Rd w1 w1.heap.size (some ⟨gv, 0, none⟩) (u64s v2)).below hb2).mono hb2.size
   have hlu : u2.length ≤ z2.length := by rw [hu2]; exact trimL_length_le z2
   have hlu2 : u2.length ≤ us.length + pad := by have := Hzl.out; omega
   have hvv2 : Hid (val 18446744073709551616 v2 = V2) := by show _ = _; rw [hV2]; exact Hvv.out
   have htop2 : Hid (18446744073709551616 ^ sz ≤ 2 * V2) := by
    show _ ≤ _
    rw [← Hpad.out, hV2, Nat.add_comm, Nat.pow_add, Nat.mul_left_comm]
    exact Nat.mul_le_mul_left _ htop
   have HV2 := hi9 hV2
   have HU2 := hi9 hU2
   rw [← hu2]
   obtain ⟨Lz, hLz⟩ : ∃ Lz, Lz = z2.length := ⟨_, rfl⟩
   rw [← hLz] at hlu ⊢
   have hsz0 : 0 < sz := by omega
   obtain ⟨bl, hbl⟩ : ∃ bl, bl = (u2.length + sz - 1) / sz := ⟨_, rfl⟩
   obtain ⟨N, hN⟩ : ∃ N, N = bl * sz := ⟨_, rfl⟩
   have hN1 : N < u2.length + sz := by
    have := Nat.div_mul_le_self (u2.length + sz - 1) sz
    rw [← hbl, ← hN] at this
    omega
   have hN2 : u2.length ≤ N := by
    have := Nat.lt_mul_div_succ (u2.length + sz - 1) hsz0
    rw [← hbl, Nat.mul_add, Nat.mul_one, Nat.mul_comm, ← hN] at this
    omega
   have e4 : ((u2.length : Int) + (sz : Int) - 1) / (sz : Int) = (bl : Int) := by
    rw [show (u2.length : Int) + (sz : Int) - 1 = ((u2.length + sz - 1 : Nat) : Int) from by omega, hbl]; rfl
   have E5 : Hid (wrap64 ((bl : Int) * (sz : Int)) = (N : Int)) := by
    show wrap64 ((bl : Int) * (sz : Int)) = (N : Int)
    rw [show (bl : Int) * (sz : Int) = (N : Int) from by rw [hN]; simp]
    exact IntWalk.wrap64_in _ (by omega)
   have e6 : ¬ ((sz : Int) = 0) := by omega
   have e7 : ((sz : Int) == 0) = false := by simp; omega
   have hbN : bl ≤ N := by rw [hN]; exact Nat.le_mul_of_pos_right _ hsz0
   have hmk := fun W => mk64 N (by omega) W
   have HN := hi9 hN
   have E4 := hi9 e4
   have hw2 : Below wr.heap.size wr w2 := hb1.trans (hb2.mono hb1.size)
   clear hV2 hU2 hu2 hLz hbl hN e4 HRv HRu e2 e3 hbu hbv hb1 hb2 hgv hgu Hzl Hzv hzd Hvv
   go_wp2_with (first | simp only [E4.out] | simp only [E5.out])
   have hV2W : V2 < 18446744073709551616 ^ sz := by rw [← hvv2.out, ← Hvl.out]; exact val_lt _ _ hvd
   have hV20 : 0 < V2 := by have h1 := htop2.out; have h3 := Nat.pow_pos (n := sz) (show 0 < 18446744073709551616 by omega); omega
   have hU2W : U2 < 18446744073709551616 ^ (bl * sz) := by
    rw [← HN.out]
    exact Nat.lt_of_lt_of_le nu2.lt (Nat.pow_le_pow_right (by omega) hN2)
   go_loopg [11, 12] bl (fun K rv kv wl => ∃ (rs qs : List Nat) (R : Option Addr) (cr r : Nat), rv = .slice R rs.length cr ∧ kv = .int .i64 ((K : Int) - 1) ∧ Num 18446744073709551616 rs r ∧ rs.length ≤ cr ∧ Rx wl w2.heap.size R (u64s rs) ∧ Hid (Blocks U2 V2 sz bl K qs r) ∧ Blk wl w2.heap.size 116 (u64s qs) ∧ Below w2.heap.size w2 wl)
   case atStart => exact ⟨[], List.replicate N 0, none, 0, 0, rfl, rfl, ⟨Dig.nil_ _, rfl, rfl⟩, Nat.le_refl _, fun h => absurd rfl h, by rw [HN.out]; exact Blocks.start hV20 hU2W, Blk.new_ (by simp [u64s]), br9.alloc nl9 _⟩
   case round =>
    obtain ⟨rs, qs, R, cr, r, rfl, rfl, nrs, hcr, hrx, HB, hbq, hbel⟩ := hrel
    have hrl : rs.length ≤ sz := num_len nrs (Nat.lt_trans HB.out.lt hV2W)
    by_cases h0 : gk = 0
    ·subst h0
     have hcut := cut_rest R cr pad rs _ _ hrx.rd hcr (by omega)
     have Hcut := hi9 hcut
     clear hcut hmk E4 E5
     go_wp2_with (go_at_call 205; (with_reducible refine Hcut.out.mono ?_); rintro e w4 ⟨A9, c9, rfl, hr9, hc9, rfl⟩)
     go_ret2
     obtain ⟨f1, f2⟩ := HB.out.end_
     have hpW := Nat.pow_pos (n := pad) (show 0 < 18446744073709551616 by omega)
     rw [HU2.out, HV2.out, Nat.mul_div_mul_left _ _ hpW] at f1
     rw [HU2.out, HV2.out, Nat.mul_mod_mul_left] at f2
     have n9 := num_drop nrs pad
     rw [f2, Nat.mul_div_cancel_left _ hpW] at n9
     have hql : qs.length = N := by rw [HB.out.len, HN.out]
     exact ⟨qs, trimL (rs.drop pad), w2.heap.size, A9, c9, by rw [hql]; rfl, HB.out.dig, f1, n9, hc9, by omega, hw2.size, hbq, hr9, hw2.trans (hbel.mono hw2.size)⟩
    ·obtain ⟨k, rfl⟩ : ∃ k, gk = k + 1 := ⟨gk - 1, by omega⟩
     have hk1 : ((k + 1 : Nat) : Int) - 1 = (k : Int) := by omega
     rw [hk1]
     obtain ⟨a, ha⟩ : ∃ a, a = k * sz := ⟨_, rfl⟩
     have hle := HB.out.le
     have haN : a + sz ≤ N := by rw [ha, HN.out, ← Nat.succ_mul]; exact Nat.mul_le_mul_right _ hle
     have hau : a < u2.length := by omega
     obtain ⟨bs, hbs⟩ : ∃ bs, bs = (u2.drop a).take sz := ⟨_, rfl⟩
     have hbd : Dig 18446744073709551616 bs := by rw [hbs]; exact (nu2.1.drop_ _).take_ _
     have hbv : val 18446744073709551616 bs = U2 / 18446744073709551616 ^ a % 18446744073709551616 ^ sz := by
      rw [hbs, val_take_mod (by omega) _ _ (nu2.1.drop_ _), val_drop (by omega) _ _ nu2.1, nu2.2.2]
     have hbl : bs.length = min sz (u2.length - a) := by rw [hbs, List.length_take, List.length_drop]
     have hrb : Rd w2 w2.heap.size (some ⟨gu, a, none⟩) (u64s bs) := by
      have h9 : Rd w2 w2.heap.size (some ⟨gu, 0 + a, none⟩) (u64s ((u2.drop a).take sz)) := (hru.drop_ a).takeN sz
      rwa [Nat.zero_add, ← hbs] at h9
     obtain ⟨T, hT⟩ : ∃ T, T = min (a + sz) u2.length := ⟨_, rfl⟩
     have E8 : Hid (wrap64 ((k : Int) * (sz : Int)) = (a : Int)) := by
      show wrap64 ((k : Int) * (sz : Int)) = (a : Int)
      rw [show (k : Int) * (sz : Int) = (a : Int) from by rw [ha]; simp]
      exact IntWalk.wrap64_in _ (by omega)
     have E9 : Hid (wrap64 (((k : Int) + 1) * (sz : Int)) = ((a + sz : Nat) : Int)) := by
      show wrap64 (((k : Int) + 1) * (sz : Int)) = ((a + sz : Nat) : Int)
      rw [show ((k : Int) + 1) * (sz : Int) = ((a + sz : Nat) : Int) from by rw [ha, Int.add_mul, Int.one_mul]; simp]
      exact IntWalk.wrap64_in _ (by omega)
     have e10 : min ((a + sz : Nat) : Int) (u2.length : Int) = (T : Int) := by omega
     have e10b : min ((a : Int) + (sz : Int)) (u2.length : Int) = (T : Int) := by omega
     have f1 : a ≤ T := by omega
     have f2 : T ≤ Lz := by omega
     have f3 : T - a = bs.length := by omega
     have f4 : ¬ (Lz = a) := by omega
     have f5 : ¬ (N = a) := by omega
     have f6 : a ≤ N := by omega
     have hbs0 : bs.length ≤ sz := by omega
     have hbs1 : bs.length ≤ Lz - a := by omega
     obtain ⟨X, hX⟩ : ∃ X, X = U2 / 18446744073709551616 ^ a % 18446744073709551616 ^ sz + 18446744073709551616 ^ sz * r := ⟨_, rfl⟩
     have hXlt : X < V2 * 18446744073709551616 ^ sz := by rw [hX]; exact blocks_X_lt HB.out.lt (Nat.pow_pos (by omega))
     have Hj : Hid (∀ W, Below wr.heap.size wr W → Calls Tryz.prog 204 #[.slice (some ⟨gu, a, none⟩) bs.length (Lz - a), .slice R rs.length cr, .int .i64 (sz : Int)] W fun e w' => JoinOut W w' (sz + rs.length) X e) := fun W hW => by
      have hW2 : Below w2.heap.size w2 W := hbel.trans (hW.mono hbel.size)
      have := joined_any (some ⟨gu, a, none⟩) R (Lz - a) cr sz bs rs W W.heap.size ((hrb.below hW2).mono hW2.size) ((hrx.rd.below hW).mono hW.size) nl9 hbd nrs.1 hbs0 hsz0 (by omega)
      rwa [hbv, nrs.2.2, ← hX] at this
     have Htwo : Hid (∀ W A' c' xs, Rd W W.heap.size A' (u64s xs) → Below w2.heap.size w2 W → Num 18446744073709551616 xs X → xs.length ≤ c' → Calls Tryz.prog 203 #[.slice A' xs.length c', .slice (some ⟨gv, 0, none⟩) v2.length v2.length] W fun e w' => HalfOut W w' X V2 e) := fun W A' c' xs q1 q2 q3 q4 =>
      two_any sz (by omega) (by omega) A' (some ⟨gv, 0, none⟩) c' v2.length xs v2 X V2 W W.heap.size Hvl.out q1 ((hrv.below q2).mono q2.size) nl9 q3 hvd hvv2.out htop2.out hXlt q4 nl9
     have Ha := hi9 ha
     have HX := hi9 hX
     clear hbs hT ha hX hbl hbv hrb hmk E4 E5 hk1
     go_upto_region 17 with (first
      | simp only [E8.out]
      | simp only [E9.out]
      | simp only [e10]
      | simp only [e10b]
      | simp only [f3]
      | (go_at_call 204; (with_reducible refine (Hj.out _ br9).mono ?_); rintro e w4 ⟨ys, g, rfl, hyl, hyd, hyv, hg, hbk, hb4⟩; have nys := Num.of_trim hyd; rw [hyv] at nys; have hry := ((Rd.of_blk hbk hbk.lt 0 (fun k v hv => by rw [Nat.zero_add]; exact hv) : Rd w4 w4.heap.size (some ⟨g, 0, none⟩) (u64s ys)).takeN (trimL ys).length); rw [trimL_take] at hry; clear hyv hyl)
      | (go_at_call 203; (with_reducible refine (Htwo.out _ _ _ _ hry (hbel.trans (hb4.mono hbel.size)) nys (trimL_length_le ys)).mono ?_); rintro e w5 ⟨ds, rs2, Q2, cq2, R2, cr2, rfl, nds, nrs2, hcq2, hcr2, hq5, hr5, hx5, hb5⟩))
     have hl4 : ds.length ≤ sz := num_len nds (by
      exact (Nat.div_lt_iff_lt_mul hV20).2 (by rw [Nat.mul_comm]; exact hXlt))
     have hb45 : Below wr.heap.size wr w5 := hb4.trans (hb5.mono hb4.size)
     have hbq5 := hbq.below hb45 hbq.lt
     have hbel5 : Below w2.heap.size w2 w5 := hbel.trans (hb45.mono hbel.size)
     have hx6 := hx5 w2.heap.size (Nat.lt_of_lt_of_le hbq.lt hb4.size)
     have hqlen : Hid (qs.length = N) := by show _ = _; rw [HB.out.len, HN.out]
     have hnx : Hid (Blocks U2 V2 sz bl k (patch qs a ds) (X % V2)) := by
      rw [Ha.out]
      exact HB.out.next (by rw [← Ha.out]; exact HX.out) nds.1 nds.2.2 hl4
     clear hb4 hb5 hbq hrx hr5 nys hry hbk hyd hg Hj Htwo
     go_wp2_with (first
      | simp only [E8.out]
      | ((with_reducible refine wpList_copy_tn (o := ⟨some 82, _, _, _, _, _⟩) rfl _ _ _ _ rfl 116 Tryz.underlying132 ?u1 _ _ _ _ _ _ rfl rfl w2.heap.size a (u64s qs) 116 hbq5 (u64s ds) ?c2 ?c3 ?c4 ?c5 ?_); rotate_right; intro w6 hg6 htn6))
     case u1 => kernel_rfl
     case c2 => rw [u64s_length]; exact (Nat.min_eq_left (by omega)).symm
     case c3 =>
      intro hp
      have hne : u64s ds ≠ [] := by intro e; rw [e] at hp; simp at hp
      obtain ⟨b, off, rfl, hbB, hcell⟩ := hq5 hne
      exact ⟨trivial, _, rfl, fun j v hv => by rw [add_none]; exact hcell j v hv⟩
     case c4 => rw [u64s_length, u64s_length, hqlen.out]; omega
     case c5 => exact one_u64s ds
     have hg7 : Blk w6 w2.heap.size 116 (u64s (patch qs a ds)) := by
      have := hg6.out
      rwa [u64s_splice] at this
     clear hg6
     go_wp2_with fail
     go_roundg k
     case measure => omega
     case rel => exact ⟨rs2, patch qs a ds, R2, cr2, X % V2, rfl, rfl, nrs2, hcr2, hx6.tn htn6, hnx, hg7, hbel5.trans (htn6.below nl9 hbel5.size)⟩
end
section
open Go.RowKit
theorem val_top1 (b : Nat) (xs : List Nat) (m : Nat) (h : xs.length = m + 2) : val b xs = val b (xs.take (m + 1)) + b ^ (m + 1) * xs[m + 1] := by
 have := val_take_succ b xs (m + 1) (by omega)
 rw [List.take_of_length_le (by omega)] at this
 exact this
theorem top_fits {vs : List Nat} {m bl s : Nat} (hl : vs.length = m + 2) (hd : Dig 18446744073709551616 vs) (ht : vs[m + 1] < 2 ^ bl) (hs : bl + s = 64) : val 18446744073709551616 vs * 2 ^ s < 18446744073709551616 ^ (m + 2) := by
 have h1 := val_top1 18446744073709551616 vs m hl
 have h2 := val_lt _ _ (hd.take_ (m + 1))
 rw [List.length_take, Nat.min_eq_left (by omega)] at h2
 have h3 : 18446744073709551616 ^ (m + 1) * (vs[m + 1] + 1) ≤ 18446744073709551616 ^ (m + 1) * 2 ^ bl := Nat.mul_le_mul_left _ ht
 rw [Nat.mul_add] at h3
 have h4 : val 18446744073709551616 vs < 18446744073709551616 ^ (m + 1) * 2 ^ bl := by omega
 have h5 := Nat.mul_lt_mul_of_pos_right h4 (Nat.two_pow_pos s)
 rw [Nat.mul_assoc, ← Nat.pow_add, hs] at h5
 rw [Nat.pow_succ _ (m + 1)]
 exact h5
theorem top_pos {xs : List Nat} {m : Nat} (hl : xs.length = m + 2) (hd : Dig 18446744073709551616 xs) (h : 18446744073709551616 ^ (m + 1) ≤ val 18446744073709551616 xs) : 0 < xs[m + 1] := by
 have h1 := val_top1 18446744073709551616 xs m hl
 have h2 := val_lt _ _ (hd.take_ (m + 1))
 rw [List.length_take, Nat.min_eq_left (by omega)] at h2
 rcases Nat.eq_zero_or_pos xs[m + 1] with h0 | h0
 ·rw [h0, Nat.mul_zero] at h1; omega
 ·exact h0
theorem take_fit {b : Nat} {xs : List Nat} {k : Nat} (hk : k ≤ xs.length) (_ : 0 < b) (h : val b xs < b ^ k) : val b (xs.take k) = val b xs := by
 have h1 := val_take_drop b xs k hk
 rcases Nat.eq_zero_or_pos (val b (xs.drop k)) with h0 | h0
 ·rw [h0, Nat.mul_zero] at h1; omega
 ·have := Nat.mul_le_mul_left (b ^ k) h0
  omega
theorem drop_low {us u2 : List Nat} {m s : Nat} (hd : Dig 18446744073709551616 us) (hd2 : Dig 18446744073709551616 u2) (hu : val 18446744073709551616 u2 = val 18446744073709551616 us * 2 ^ s) (hl : m + 2 ≤ us.length) : val 18446744073709551616 (u2.drop (us.length + 1 - (m + 2))) < 18446744073709551616 ^ (m + 1) * 2 ^ s := by
 rw [val_drop (by omega) _ _ hd2, Nat.div_lt_iff_lt_mul (Nat.pow_pos (by omega)), hu]
 have h1 := Nat.mul_lt_mul_of_pos_right (val_lt _ _ hd) (Nat.two_pow_pos s)
 have h2 : 18446744073709551616 ^ (m + 1) * 2 ^ s * 18446744073709551616 ^ (us.length + 1 - (m + 2)) = 18446744073709551616 ^ us.length * 2 ^ s := by
  rw [Nat.mul_right_comm, ← Nat.pow_add]
  congr 2
  omega
 rw [h2]; exact h1
theorem len_shift {q u c d : Nat} (hc : d = 1 + c) (h : q ≤ u + 1 + c) : q ≤ u + d := by omega
theorem len_long {q u m d : Nat} (hc : 1 ≤ d) (h : q = u + 1 - m) : q ≤ u + d := by omega
theorem half_le {Y Z c d : Nat} (hc : d = 2 * c) (h : Y * c ≤ Z) : Y * d ≤ 2 * Z := by
 subst hc
 rw [Nat.mul_left_comm]
 exact Nat.mul_le_mul_left 2 h
theorem top_full {vs : List Nat} {m bl s : Nat} (hl : vs.length = m + 2) (ht : 2 ^ (bl - 1) ≤ vs[m + 1]) (hb : 1 ≤ bl) (hs : bl + s = 64) : 18446744073709551616 ^ (m + 2) ≤ 2 * (val 18446744073709551616 vs * 2 ^ s) := by
 have h1 := val_top1 18446744073709551616 vs m hl
 have h3 : 18446744073709551616 ^ (m + 1) * 2 ^ (bl - 1) ≤ 18446744073709551616 ^ (m + 1) * vs[m + 1] := Nat.mul_le_mul_left _ ht
 have h4 : 18446744073709551616 ^ (m + 1) * 2 ^ (bl - 1) ≤ val 18446744073709551616 vs := by omega
 have h5 := Nat.mul_le_mul_right (2 ^ s) h4
 have h6 : (2 : Nat) ^ 63 = 9223372036854775808 := by decide
 rw [Nat.mul_assoc, ← Nat.pow_add, show bl - 1 + s = 63 from by omega, h6] at h5
 rw [Nat.pow_succ _ (m + 1)]
 exact half_le (by decide) h5
theorem Words.res {w w' : World} {zs : List Nat} {g : Nat} (hg : w.heap.size ≤ g) (hb : Blk w' g 116 (u64s zs)) (hl : zs.length ≤ 281474976710656) : Res w' w.heap.size 116 (some ⟨g, 0, none⟩) zs.length (u64s zs) := by
 have e : (u64s zs).length = zs.length := u64s_length zs
 refine ⟨Nat.le_of_eq e, hl, fun _ => ⟨g, [], rfl, hg, ?_, ?_⟩⟩
 ·rw [List.append_nil]; exact hb
 ·rw [List.length_nil, Nat.add_zero]; exact e
set_option maxRecDepth 100000 in
set_option maxHeartbeats 3200000 in
theorem quotient_big (A : Option Addr) (c : Nat) (A2 : Option Addr) (c2 : Nat) (us vs : List Nat) (w : World) (B : Nat) (hr : Rd w B A (u64s us)) (hr2 : Rd w B A2 (u64s vs)) (hB : B ≤ w.heap.size) (hd : Dig 18446744073709551616 us) (hd2 : Dig 18446744073709551616 vs) (_ : trimL us = us) (ht2 : trimL vs = vs) (h2v : 2 ≤ vs.length)
  (hge : val 18446744073709551616 vs ≤ val 18446744073709551616 us) (hP : vs.length ≤ 134217728) (_ : us.length ≤ c) (_ : vs.length ≤ c2) (hm : us.length ≤ 35183400000000) :
  Calls Tryz.prog 154 #[.slice A us.length c, .slice A2 vs.length c2] w fun e w' => ∃ qs rs A1 c1 g, e = .returned (.tuple #[.slice A1 qs.length c1, .slice (some ⟨g, 0, none⟩) rs.length rs.length]) ∧ Dig 18446744073709551616 qs ∧ Dig 18446744073709551616 rs ∧ qs.length ≤ us.length + 402653185 ∧ rs.length ≤ us.length + 1 ∧ qs.length ≤ c1 ∧
   val 18446744073709551616 us = val 18446744073709551616 qs * val 18446744073709551616 vs + val 18446744073709551616 rs ∧ val 18446744073709551616 rs < val 18446744073709551616 vs ∧ Rd w' w'.heap.size A1 (u64s qs) ∧ w.heap.size ≤ g ∧ Blk w' g 116 (u64s rs) ∧ Below w.heap.size w w' := by
 have h1 : vs.length ≠ 1 := by omega
 have hv0 : vs ≠ [] := by intro e; rw [e] at h2v; simp at h2v
 obtain ⟨m, hn⟩ : ∃ m, vs.length = m + 2 := ⟨vs.length - 2, by omega⟩
 have hvge := (show Num 18446744073709551616 vs _ from ⟨hd2, ht2, rfl⟩).ge hv0
 rw [show vs.length - 1 = m + 1 from by omega] at hvge
 have hlen : m + 2 ≤ us.length := by
  rcases Nat.lt_or_ge us.length (m + 2) with hlt | hge2
  ·exfalso
   have a1 := val_lt _ _ hd
   have a2 : 18446744073709551616 ^ us.length ≤ 18446744073709551616 ^ (m + 1) := Nat.pow_le_pow_right (by omega) (by omega)
   omega
  ·exact hge2
 have hvt := top_pos hn hd2 hvge
 have hvd := hd2.at_ (m + 1) (by omega)
 obtain ⟨bl1, bl2, bl3⟩ := bitLen_bounds vs[m + 1] hvd (by omega)
 have Bl2 := hi9 bl2
 clear bl2
 have bl4 := bitLen_le64 vs[m + 1] hvd
 obtain ⟨b, off, rfl, hb, hx⟩ := hr2.at64 (show m + 1 < vs.length by omega)
 have hlz := fun W => lz64_any vs[m + 1] W hvd
 obtain ⟨bl, hbl⟩ : ∃ bl, bl = Lib.bitLen vs[m + 1] := ⟨_, rfl⟩
 rw [← hbl] at bl1 Bl2 bl3 bl4 hlz
 obtain ⟨s, hs⟩ : ∃ s, s = 64 - bl := ⟨_, rfl⟩
 have hbs : bl + s = 64 := by omega
 have hs64 : s < 64 := by omega
 have eS : (64 : Int) - (bl : Int) = (s : Int) := by omega
 have eSw : IntKind.u64.wrap (s : Int) = (s : Int) := by rw [IntKind.wrap_u64]; omega
 have hfit := top_fits hn hd2 bl3 hbs
 have Hfull := hi9 (top_full hn Bl2.out bl1 hbs)
 have Hlz := hi9 hlz
 obtain ⟨vt, hvte⟩ : ∃ vt, vt = vs[m + 1] := ⟨_, rfl⟩
 rw [← hvte] at hx Hlz hvd
 have Hsv : Hid (∀ W, Below w.heap.size w W → Calls Tryz.prog 174 #[.slice (some ⟨b, off, none⟩) (m + 2) c2, .int .u64 (s : Int)] W fun e w' => Words W w' (m + 3) (val 18446744073709551616 vs * 2 ^ s) e) := fun W hW => by
  have := shiftWords_any (some ⟨b, off, none⟩) c2 s vs W B (hr2.below (hW.mono hB)) (Nat.le_trans hB hW.size) hd2 (by omega) hs64
  rw [hn] at this; exact this
 have Hsu : Hid (∀ W, Below w.heap.size w W → Calls Tryz.prog 174 #[.slice A us.length c, .int .u64 (s : Int)] W fun e w' => Words W w' (us.length + 1) (val 18446744073709551616 us * 2 ^ s) e) := fun W hW =>
  shiftWords_any A c s us W B (hr.below (hW.mono hB)) (Nat.le_trans hB hW.size) hd (by omega) hs64
 rw [hn]
 have p3 : (m : Int) + 2 - 1 = (m : Int) + 1 := by omega
 have hne1 : (((m : Int) + 2) == 1) = false := by simp; omega
 have Hn := hi9 hn
 have Hge := hi9 hge
 have Hvge := hi9 hvge
 have Hfit := hi9 hfit
 have Hm200 : Hid (m + 2 ≤ 134217728) := by show _ ≤ _; omega
 clear hbl hs hlz hvte hr hr2 hn h1 hge hvge hfit hvt bl1 Bl2 bl3 bl4 hbs ht2 hv0 hP h2v
 go_enter Tryz.func154, Tryz.ntmps154
 go_upto_region 4 with (first | (simp only []) | (simp only [p3]) | (go_at_call 173; (with_reducible refine (Hlz.out _).mono ?_); rintro e w' ⟨rfl, rfl⟩; rw [eS]) | (simp only [eSw]) | (simp only [eS]))
 go_cut [7, 8] from 61 (fun uv vv W => ∃ (u2 v2 : List Nat) (gu gv : Nat), uv = .slice (some ⟨gu, 0, none⟩) (us.length + 1) (us.length + 1) ∧ vv = .slice (some ⟨gv, 0, none⟩) (m + 2) (m + 3) ∧ Hid (u2.length = us.length + 1) ∧ Hid (v2.length = m + 3) ∧ Dig 18446744073709551616 u2 ∧ Dig 18446744073709551616 v2 ∧ Hid (val 18446744073709551616 u2 = val 18446744073709551616 us * 2 ^ s) ∧ Hid (val 18446744073709551616 v2 = val 18446744073709551616 vs * 2 ^ s) ∧ gu ≠ gv ∧ w.heap.size ≤ gu ∧ w.heap.size ≤ gv ∧ Blk W gu 116 (u64s u2) ∧ Blk W gv 116 (u64s v2) ∧ Below w.heap.size w W)
 case first =>
  have i1 : (m : Int) + 2 ≤ (m : Int) + 3 := by omega
  have i2 : (0 : Int) ≤ (m : Int) + 2 := by omega
  have i3 : m + 2 ≤ m + 3 := by omega
  go_region_held3 (fun _ => True) (exact trivial) (first
   | (go_at_call 174; (with_reducible refine (Hsu.out _ (by first | exact br9 | exact br9.drew | exact hBb | exact hBb.drew)).mono ?_); rintro e wa ⟨ua, ga, rfl, hual, huad, huav, hga, hbka, hba⟩; have hBa : Below w.heap.size w wa := (by first | exact hba | exact br9.drew.trans hba | exact hBb.trans (hba.mono hBb.size) | exact hBb.drew.trans (hba.mono hBb.size)))
   | (go_at_call 174; (with_reducible refine (Hsv.out _ (by first | exact br9 | exact br9.drew | exact hBa | exact hBa.drew)).mono ?_); rintro e wb ⟨vb, gb, rfl, hvbl, hvbd, hvbv, hgb, hbkb, hbb⟩; have hBb : Below w.heap.size w wb := (by first | exact hbb | exact br9.drew.trans hbb | exact hBa.trans (hbb.mono hBa.size) | exact hBa.drew.trans (hbb.mono hBa.size)); have hvle : m + 2 ≤ vb.length := by omega))
  all_goals go_wp2
  all_goals go_meet
  all_goals exact ⟨ua, vb, ga, gb, rfl, rfl, hual, hvbl, huad, hvbd, huav, hvbv, by first | (have := hbka.lt; omega) | (have := hbkb.lt; omega), by first | exact hga | exact Nat.le_trans hBb.size hga, by first | exact hgb | exact Nat.le_trans hBa.size hgb, by first | exact hbka | exact hbka.below hbb hbka.lt | exact hbka.drew.below hbb hbka.lt, by first | exact hbkb | exact hbkb.below hba hbkb.lt | exact hbkb.drew.below hba hbkb.lt, by first | exact hBb | exact hBa⟩
 case rest =>
  obtain ⟨u2, v2, gu, gv, rfl, rfl, Hul, Hvl, hud, hvd2, Huv, Hvv, hne, hgu, hgv, hbu, hbv, hbel⟩ := hcut
  have hvtl : (v2.take (m + 2)).length = m + 2 := by rw [List.length_take, Hvl.out]; omega
  have hvv : val 18446744073709551616 (v2.take (m + 2)) = val 18446744073709551616 vs * 2 ^ s := (take_fit (by rw [Hvl.out]; omega) (by omega) (by rw [Hvv.out]; exact Hfit.out)).trans Hvv.out
  have hVge : 18446744073709551616 ^ (m + 1) * 2 ^ s ≤ val 18446744073709551616 vs * 2 ^ s := Nat.mul_le_mul_right _ Hvge.out
  have hvt : 0 < (v2.take (m + 2))[m + 1] := top_pos hvtl (hvd2.take_ _) (by rw [hvv]; exact Nat.le_trans (Nat.le_mul_of_pos_right _ (Nat.two_pow_pos s)) hVge)
  have hdl : val 18446744073709551616 (u2.drop (u2.length - (v2.take (m + 2)).length)) < val 18446744073709551616 (v2.take (m + 2)) := by
   rw [hvtl, Hul.out, hvv]; exact Nat.lt_of_lt_of_le (drop_low hd hud Huv.out hlen) hVge
  have hrx : Rx wc gu (some ⟨gv, 0, none⟩) (u64s (v2.take (m + 2))) := Rx.of_blk hbv (Ne.symm hne) 0 (fun k v hv => by
   rw [Nat.zero_add]
   rw [show u64s (v2.take (m + 2)) = (u64s v2).take (m + 2) from by simp [u64s, List.map_take], List.getElem?_take] at hv
   split at hv
   ·exact hv
   ·cases hv)
  have HL := longQuotient_any gu m (us.length + 1) (m + 3) u2 (v2.take (m + 2)) (some ⟨gv, 0, none⟩) wc hbu hrx hud (hvd2.take_ _) hvtl hvt hdl (by rw [Hul.out]; exact Nat.le_refl _) (by rw [Hul.out]; omega) (by rw [hvtl]; have := Hm200.out; omega)
  rw [Hul.out, hvtl, hvv, Huv.out] at HL
  have HL2 := hi9 HL
  have hVp : Hid (0 < val 18446744073709551616 vs) := by
   have := Nat.pow_pos (n := m + 1) (show 0 < 18446744073709551616 by omega)
   exact Nat.lt_of_lt_of_le this Hvge.out
  have hw2t := hbel.size
  rcases (by omega : m + 2 < 200 ∨ (200 ≤ m + 2 ∧ us.length - (m + 2) < 200) ∨ (200 ≤ m + 2 ∧ 200 ≤ us.length - (m + 2))) with h2 | ⟨h2, h3⟩ | ⟨h2, h3⟩
  rotate_right
  ·have t200 : decide ((m : Int) + 2 < 200) = false := decide_eq_false (by omega)
   have t201 : decide ((us.length : Int) - ((m : Int) + 2) < 200) = false := decide_eq_false (by omega)
   have HB := blockQuotient_any (some ⟨gu, 0, none⟩) (some ⟨gv, 0, none⟩) (us.length + 1) (m + 3) u2 (v2.take (m + 2)) _ _ wc wc.heap.size (by rw [hvtl]; omega) (by rw [hvtl]; exact Hm200.out) (Rd.of_blk hbu hbu.lt 0 (fun k v hv => by rw [Nat.zero_add]; exact hv)) hrx.rd nl9 hud rfl (hvd2.take_ _) rfl (by rw [hvtl, hvv]; exact Hfull.out) (by intro e; have h9 := Hul.out; rw [e] at h9; simp at h9) (by rw [Hul.out]; omega)
   rw [Hul.out, hvtl, hvv, Huv.out] at HB
   have HB2 := hi9 HB
   clear HB HL HL2 hrx hdl hvt hVge hvv hvtl Hsu Hsv Hlz hx
   go_wp2_with (first
    | (simp only [])
    | (simp only [t201])
    | (go_at_call 176; (with_reducible refine HB2.out.mono ?_); rintro e w2 ⟨qs, rs, gq, R, cr, rfl, hqd, hqv, hrn, hrc, hql, hgq, hbq, hrr, hb2⟩; have Hqv := hi9 hqv; have Hql := hi9 (len_shift (d := 402653185) (by decide) hql); clear hqv hql))
   have hVs : val 18446744073709551616 vs * 2 ^ s ≤ val 18446744073709551616 vs * 2 ^ s := Nat.le_refl _
   have hrlen : rs.length ≤ m + 2 := num_len hrn (by
    have h9 := Nat.mod_lt (val 18446744073709551616 us * 2 ^ s) (Nat.mul_pos hVp.out (Nat.two_pow_pos s))
    exact Nat.lt_trans h9 Hfit.out)
   have Hun := unshiftWords_any R cr s rs w2 w2.heap.size hrr nl9 hrn.1 (by omega) hs64
   rw [hrn.2.2, Nat.mul_mod_mul_right, Nat.mul_div_cancel _ (Nat.two_pow_pos s)] at Hun
   have hqv := Hqv.out
   rw [Nat.mul_div_mul_right _ _ (Nat.two_pow_pos s)] at hqv
   have Hqv2 := hi9 hqv
   have Hun2 := hi9 Hun
   clear Hun hqv Hqv
   go_wp2_with fail
   refine (Hun2.out).mono ?_
   rintro e w3 ⟨zs, gz, rfl, hzl, hzd, hzv, hgz, hbz, hb3⟩
   have Hzv := hi9 hzv
   have Hzl := hi9 hzl
   clear hzv hzl
   go_wp2_with fail
   go_ret2
   have hw2 : Below w.heap.size w w2 := hbel.trans (hb2.mono hbel.size)
   refine ⟨qs, zs, some ⟨gq, 0, none⟩, qs.length, gz, rfl, hqd, hzd, Hql.out, by have := Hzl.out; omega, Nat.le_refl _, ?_, ?_, ?_, Nat.le_trans hw2.size hgz, hbz, hw2.trans (hb3.mono hw2.size)⟩
   ·rw [Hqv2.out, Hzv.out, Nat.mul_comm]; exact (Nat.div_add_mod _ _).symm
   ·rw [Hzv.out]; exact Nat.mod_lt _ hVp.out
   ·exact Rd.of_blk (hbq.below hb3 hbq.lt) (by have := hbq.lt; have := hb3.size; omega) 0 (fun k v hv => by rw [Nat.zero_add]; exact hv)
  case' inl =>
   have t200 : decide ((m : Int) + 2 < 200) = true := decide_eq_true (by omega)
  case' inr.inl =>
   have t200 : decide ((m : Int) + 2 < 200) = false := decide_eq_false (by omega)
   have t201 : decide ((us.length : Int) - ((m : Int) + 2) < 200) = true := decide_eq_true (by omega)
  all_goals
   clear HL hrx hdl hvt hVge hvv hvtl Hsu Hsv Hlz hx
   go_wp2_with (first | (simp only []) | (simp only [t201]) | (go_at_call 175; (with_reducible refine (HL2.out).mono ?_); rintro e w2 ⟨qs, rs, gq, rfl, hql, hqd, hqv, hrl, hrd, hrv, hgq, hbq, hbr, htn⟩; have Hqv := hi9 hqv; have Hql := hi9 (len_long (d := 402653185) (by decide) hql); have Hrv := hi9 hrv; have Hrl := hi9 hrl; clear hqv hql hrv hrl))
   have Hun := unshiftWords_any (some ⟨gu, 0, none⟩) (us.length + 1) s rs w2 w2.heap.size (Rd.of_blk hbr hbr.lt 0 (fun k v hv => by rw [Nat.zero_add]; exact hv)) nl9 hrd (by rw [Hrl.out]; omega) hs64
   rw [Hrl.out, Hrv.out, Nat.mul_mod_mul_right, Nat.mul_div_cancel _ (Nat.two_pow_pos s)] at Hun
   have hqv := Hqv.out
   rw [Nat.mul_div_mul_right _ _ (Nat.two_pow_pos s)] at hqv
   have Hqv2 := hi9 hqv
   have Hun2 := hi9 Hun
   clear Hun hqv Hqv
   go_wp2_with fail
   refine (Hun2.out).mono ?_
   rintro e w3 ⟨zs, gz, rfl, hzl, hzd, hzv, hgz, hbz, hb3⟩
   have Hzv := hi9 hzv
   have Hzl := hi9 hzl
   clear hzv hzl
   go_wp2_with fail
   go_ret2
   have hw2 : Below w.heap.size w w2 := hbel.trans (htn.below hgu hbel.size)
   refine ⟨qs, zs, some ⟨gq, 0, none⟩, qs.length, gz, rfl, hqd, hzd, Hql.out, by have := Hzl.out; omega, Nat.le_refl _, ?_, ?_, ?_, Nat.le_trans hw2.size hgz, hbz, hw2.trans (hb3.mono hw2.size)⟩
   ·rw [Hqv2.out, Hzv.out, Nat.mul_comm]; exact (Nat.div_add_mod _ _).symm
   ·rw [Hzv.out]; exact Nat.mod_lt _ hVp.out
   ·exact Rd.of_blk (hbq.below hb3 hbq.lt) (by have := hbq.lt; have := hb3.size; omega) 0 (fun k v hv => by rw [Nat.zero_add]; exact hv)
theorem quotient_all : QuotientOk (fun n => n ≤ 134217728) := by
 intro A c A2 c2 us vs w B hr hr2 hB hd hd2 ht ht2 hv0 hge hP hc hc2 hm
 by_cases h1 : vs.length = 1
 ·exact quotient_one A c A2 c2 us vs w B hr hr2 hB hd hd2 ht ht2 hv0 hge h1 hc hc2 hm
 ·have h2v : 2 ≤ vs.length := by
   have : vs.length ≠ 0 := fun e => hv0 (List.eq_nil_of_length_eq_zero e)
   omega
  refine (quotient_big A c A2 c2 us vs w B hr hr2 hB hd hd2 ht ht2 h2v hge hP hc hc2 hm).mono ?_
  rintro e w' ⟨qs, rs, A1, c1, g, rfl, q1, q2, q3, q4, q5, q6, q7, q8, q9, q10, q11⟩
  exact ⟨qs, rs, A1, c1, _, _, rfl, q1, q2, q3, q4, q5, Nat.le_refl _, q6, q7, q8, Words.res q9 q10 (by omega), q11⟩
end
section
open Go.RowKit
structure Hd (w : World) (A : Option Addr) (c : Nat) (xs : List Nat) (n N : Nat) : Prop where
 num : Num 4294967296 xs n
 rd : Rd w w.heap.size A (u32s xs)
 cap : xs.length ≤ c
 len : xs.length ≤ N
theorem Hd.next {w w' : World} {A : Option Addr} {c n N : Nat} {xs : List Nat} (h : Hd w A c xs n N) (hb : Below w.heap.size w w') : Hd w' A c xs n N := ⟨h.num, (h.rd.below hb).mono hb.size, h.cap, h.len⟩
theorem num32_len {zs : List Nat} {n m N : Nat} (h : Num 4294967296 zs n) (hle : n ≤ m) (hm : m < 4294967296 ^ N) : zs.length ≤ N := by
 have := trimL_len_le (b := 4294967296) (N := N) (by omega) h.1 (by rw [h.2.2]; omega)
 rwa [h.2.1] at this
theorem Hd.of {w : World} {B : Nat} {A : Option Addr} {c n m N : Nat} {xs : List Nat} (h : Num 4294967296 xs n) (hr : Res w B 50 A c (u32s xs)) (hle : n ≤ m) (hm : m < 4294967296 ^ N) : Hd w A c xs n N :=
 ⟨h, hr.rd, by have := hr.1; rwa [u32s_length] at this, num32_len h hle hm⟩
structure Hv (w : World) (A : Option Addr) (c : Nat) (xs : List Nat) (n K : Nat) : Prop where
 dig : Dig 4294967296 xs
 val_ : val 4294967296 xs = n
 rd : Rd w w.heap.size A (u32s xs)
 cap : xs.length ≤ c
 len : xs.length ≤ K
section
variable {w w' : World} {A A2 : Option Addr} {c c2 n k K J : Nat} {xs ys : List Nat}
theorem Hv.next (h : Hv w A c xs n K) (hb : Below w.heap.size w w') : Hv w' A c xs n K := ⟨h.dig, h.val_, (h.rd.below hb).mono hb.size, h.cap, h.len⟩
theorem Hv.lt (h : Hv w A c xs n K) : n < 4294967296 ^ K := by
 rw [← h.val_]
 exact Nat.lt_of_lt_of_le (val_lt _ _ h.dig) (Nat.pow_le_pow_right (by omega) h.len)
def HvOut (w w' : World) (n K : Nat) (e : Ending) : Prop := ∃ zs A' c', e = .returned (.slice A' zs.length c') ∧ Hv w' A' c' zs n K ∧ Below w.heap.size w w'
theorem Hv.of {B : Nat} (h : Num 4294967296 xs n) (hr : Res w B 50 A c (u32s xs)) (hm : n < 4294967296 ^ K) : Hv w A c xs n K :=
 ⟨h.1, h.2.2, hr.rd, by have := hr.1; rwa [u32s_length] at this, num32_len h nl9 hm⟩
theorem sum_lt_pow9 {b i j : Nat} (hb : 2 ≤ b) (hn : n < b ^ i) (hk : k < b ^ j) : n + k < b ^ (max i j + 1) := by
 have h1 : b ^ i ≤ b ^ max i j := Nat.pow_le_pow_right (by omega) (by omega)
 have h2 : b ^ j ≤ b ^ max i j := Nat.pow_le_pow_right (by omega) (by omega)
 have h3 : b ^ max i j * 2 ≤ b ^ max i j * b := Nat.mul_le_mul_left _ hb
 rw [Nat.pow_succ]
 omega
theorem prod_lt_pow9 {b i j : Nat} (hn : n < b ^ i) (hk : k < b ^ j) : n * k < b ^ (i + j) := by
 rw [Nat.pow_add]
 exact Nat.mul_lt_mul'' hn hk
theorem Hv.add (h : Hv w A c xs n K) (h2 : Hv w A2 c2 ys k J) (hK : K ≤ 67108864) (hJ : J ≤ 67108864) :
  Calls Tryz.prog 164 #[.slice A xs.length c, .slice A2 ys.length c2] w fun e w' => HvOut w w' (n + k) (max K J + 1) e := by
 have hl1 := h.len
 have hl2 := h2.len
 have h9 := add_any A A2 c c2 xs ys w w.heap.size h.rd h2.rd nl9 h.dig h2.dig h.cap h2.cap (by omega) (by omega)
 rw [h.val_, h2.val_] at h9
 refine h9.mono ?_
 rintro e w' ⟨zs, A', c', rfl, hz, hr, hb⟩
 exact ⟨zs, A', c', rfl, Hv.of hz hr (sum_lt_pow9 (by omega) h.lt h2.lt), hb⟩
theorem Hv.mul (h : Hv w A c xs n K) (h2 : Hv w A2 c2 ys k J) (hK : K ≤ 67108864) (hJ : J ≤ 67108864) :
  Calls Tryz.prog 106 #[.slice A xs.length c, .slice A2 ys.length c2] w fun e w' => HvOut w w' (n * k) (K + J) e := by
 have hl1 := h.len
 have hl2 := h2.len
 have t1 := trimL_length_le xs
 have t2 := trimL_length_le ys
 have h9 := mul_any A A2 c c2 xs ys w w.heap.size h.rd h2.rd nl9 h.dig h2.dig h.cap h2.cap (by omega) (by omega) (by omega)
 rw [h.val_, h2.val_] at h9
 refine h9.mono ?_
 rintro e w' ⟨zs, A', c', rfl, hz, hr, hb⟩
 exact ⟨zs, A', c', rfl, Hv.of hz hr (prod_lt_pow9 h.lt h2.lt), hb⟩
theorem Hv.nlen (h : Hv w A c xs n K) (hK : K ≤ 67108864) :
  Calls Tryz.prog 97 #[.slice A xs.length c] w fun e w' => e = .returned (.int .i64 (bitsOf n : Nat)) ∧ w = w' := by
 have hl1 := h.len
 have h9 := len_any A c xs w w.heap.size h.rd h.dig h.cap (by omega)
 rwa [h.val_] at h9
end
end
section
def ivalN (g : Bool) (n : Nat) : Int := if g then -(n : Int) else n
def isNeg (z : Int) : Bool := decide (z < 0)
theorem isNeg_ival (g : Bool) (m : Nat) : isNeg (ivalN g m) = (g && decide (0 < m)) := by
 cases g <;> simp [ivalN, isNeg]
theorem abs_ival (g : Bool) (m : Nat) : (ivalN g m).natAbs = m := by
 cases g <;> simp [ivalN]
theorem ival_abs (z : Int) : ivalN (isNeg z) z.natAbs = z := by
 unfold ivalN isNeg
 by_cases h : z < 0 <;> simp [h] <;> omega
theorem ival_false (n : Nat) : ivalN false n = n := rfl
theorem ival_true (n : Nat) : ivalN true n = -(n : Int) := rfl
theorem add_ival (g g2 : Bool) (m k : Nat) : ivalN g m + ivalN g2 k = if g = g2 then ivalN g (m + k) else if g then (k : Int) - m else (m : Int) - k := by
 cases g <;> cases g2 <;> simp [ivalN] <;> omega
theorem mul_ival (g g2 : Bool) (m k : Nat) : ivalN g m * ivalN g2 k = ivalN (g != g2) (m * k) := by
 cases g <;> cases g2 <;> simp [ivalN, Int.neg_mul, Int.mul_neg]
theorem neg_ival (g : Bool) (m : Nat) : -ivalN g m = ivalN (!g) m := by
 cases g <;> simp [ivalN]
theorem tdiv_ival (g g2 : Bool) (m k : Nat) : Int.tdiv (ivalN g m) (ivalN g2 k) = ivalN (g != g2) (m / k) := by
 cases g <;> cases g2 <;> simp [ivalN, Int.neg_tdiv, Int.tdiv_neg] <;> rfl
theorem tmod_ival (g g2 : Bool) (m k : Nat) : Int.tmod (ivalN g m) (ivalN g2 k) = ivalN g (m % k) := by
 cases g <;> cases g2 <;> simp [ivalN, Int.neg_tmod, Int.tmod_neg] <;> rfl
end
end Go.Proofs.YtbcphifjcaobfaaGreatDoor
