/- The contract of divide. Conditions: p a prime below 2^32; both normal, the divisor not 0; bases reads 2, 7, 61. Greatest common divisors by Euclid's steps. Conditions: p a prime. The contracts of rest, over, monic, gcd, fieldOf. Conditions: p a prime below 2^32; all normal; bases reads 2, 7, 61. Rests by a polynomial modulo a prime. Conditions: p a prime; the divisor normal, not 0. -/
import Derived.Test.YtddhhndnkjajmaaDoorPkMq24
import Derived.Test.YtddhhndnkjajmaaDoorPkMq22
namespace Go.Proofs.YtddhhndnkjajmaaDoor
section
open Go.RowKit

/-- A quotient and a rest are handed back. -/
def PD (p : Nat) (w : World) (a b : List Nat) (e : Ending) (w' : World) : Prop := ∃ q r vq vr, e = .returned (.tuple #[vq, vr]) ∧ PR w w' vq q ∧ PR w w' vr r ∧ Dv p (zo a) (zo b) b.length q r

set_option maxHeartbeats 1600000 in
theorem fdivide_less (p sp : Nat) (A1 A2 : Option Addr) (c1 c2 m : Nat) (xs : List Nat) (w : World) (B : Nat) (hr1 : Rd w B A1 (u32s xs)) (hB : B ≤ w.heap.size) (hm1 : xs.length ≤ Big) (hl : xs.length < m) :
    Calls Tryd.prog 69 #[fieldV p sp, .slice A1 xs.length c1, .slice A2 m c2] w fun e w' => ∃ g, e = .returned (.tuple #[.slice none 0 0, .slice (some ⟨g, 0, none⟩) xs.length xs.length]) ∧ w.heap.size ≤ g ∧ Blk w' g 24 (u32s xs) ∧ Below w.heap.size w w' := by
  unfold Big at hm1
  have hmk := fun W => mkP xs.length (by omega) W
  have hb0 : Below w.heap.size w (w.alloc (.cells #[.int .u64 (p : Int), .int .u64 (sp : Int)] 77 (0, 0))) := (Below.refl _ _).alloc (Nat.le_refl _) _
  have Hr := Lib.hid (hr1.below (hb0.mono hB))
  have Hb0 := Lib.hid hb0
  clear hr1 hb0
  go_enter Tryd.func69, Tryd.ntmps69
  go_wp2_with ((with_reducible refine wpList_copyP (o := ⟨some 21, _, _, _, _, _⟩) rfl _ _ _ _ rfl 24 Tryd.underlying23 ?u1 A1 (w.heap.size + 1) 0 _ _ _ _ rfl rfl 24 (List.replicate xs.length 0) xs B (w.heap.size + 1) (w.alloc (.cells #[.int .u64 (p : Int), .int .u64 (sp : Int)] 77 (0, 0))) ?c1 ?c2 ?c3 ?c4 ?c5 (Nat.le_refl _) ?_); rotate_right; intro w2 hg2 hb2)
  case u1 => kernel_rfl
  case c1 => exact Blk.new2 (repl_u32 _)
  case c2 => exact Hr.out.alloc (by simp; omega) _
  case c3 => simp
  case c4 => simp
  case c5 => exact (Below.refl _ _).alloc (by simp) _
  rw [copy_all _ _ rfl] at hg2
  go_ret2
  exact ⟨w.heap.size + 1, rfl, by omega, hg2, Hb0.out.trans (hb2.mono (by omega))⟩

set_option maxHeartbeats 6400000 in
theorem fdivide_more (p sp : Nat) (A1 A2 : Option Addr) (c1 c2 : Nat) (xs ys : List Nat) (w : World) (B : Nat) (hpr : Pr p) (hp : p < 4294967296) (hw : Bases w) (hr1 : Rd w B A1 (u32s xs)) (hr2 : Rd w B A2 (u32s ys)) (hB : B ≤ w.heap.size) (hm1 : xs.length ≤ Big) (d1 : Nf p xs) (d2 : Nf p ys) (ny : ys ≠ []) (hl : ys.length ≤ xs.length) :
    Calls Tryd.prog 69 #[fieldV p sp, .slice A1 xs.length c1, .slice A2 ys.length c2] w (PD p w xs ys) := by
  unfold Big at hm1
  have l2 := len_pos ny
  obtain ⟨n, hn⟩ : ∃ n, n = xs.length - ys.length + 1 := ⟨_, rfl⟩
  obtain ⟨m, hm⟩ : ∃ m, m = ys.length - 1 := ⟨_, rfl⟩
  have hmk := fun W => mkP xs.length (by omega) W
  have hmk2 := fun W => mkP n (by omega) W
  have hp0 := hpr.pos
  obtain ⟨W1, hW1⟩ : ∃ W1, W1 = w.alloc (.cells #[.int .u64 (p : Int), .int .u64 (sp : Int)] 77 (0, 0)) := ⟨_, rfl⟩
  have hb0 : Below w.heap.size w W1 := by rw [hW1]; exact (Below.refl _ _).alloc (Nat.le_refl _) _
  have hs1 : W1.heap.size = w.heap.size + 1 := by rw [hW1]; simp
  have hbf : Blk W1 w.heap.size 77 [.int .u64 (p : Int), .int .u64 (sp : Int)] := by rw [hW1]; exact Blk.new_ rfl
  have HF0 := Lib.hid (hbf.cell 0)
  have HF1 := Lib.hid (hbf.cell 1)
  have Hr1 := Lib.hid (hr1.below (hb0.mono hB))
  have Hr2 := Lib.hid (hr2.below (hb0.mono hB))
  have HW1 := Lib.hid hW1
  have Hs1 := Lib.hid hs1
  have Hb0 := Lib.hid hb0
  have Hw := Lib.hid (hw.later hb0)
  have Hn := Lib.hid hn
  have Hm := Lib.hid hm
  have hyt : ys.getD m 0 % p ≠ 0 := by
    rw [hm]
    have h1 := d2.top hp0 ny
    intro h; exact h1 (Int.natCast_dvd_natCast.2 (Nat.dvd_of_mod_eq_zero h))
  have T0 : decide (xs.length < ys.length) = false := by simp; omega
  have z1 : (xs.length : Int) - (ys.length : Int) + 1 = (n : Int) := by omega
  have z2 : (ys.length : Int) - 1 = (m : Int) := by omega
  have hmy : m < ys.length := by omega
  have hdy : Hid (∀ k (h : k < ys.length), ys[k] < p) := fun k h => d2.1 _ (List.getElem_mem h)
  have HDl := Lib.hid (Dl.start hp0 d1.1 hl)
  rw [← hn] at HDl
  obtain ⟨R, hR⟩ : ∃ R, R = PD p w xs ys := ⟨_, rfl⟩
  rw [← hR]
  have HR := Lib.hid hR
  have hnb : n ≤ 17592186044417 := by omega
  clear hR hn hm hb0 hs1 hbf hr1 hr2 hw hW1
  go_enter Tryd.func69, Tryd.ntmps69
  go_wp2_with ((with_reducible refine wpList_copyP (o := ⟨some 21, _, _, _, _, _⟩) rfl _ _ _ _ rfl 24 Tryd.underlying23 ?u1 A1 (w.heap.size + 1) 0 _ _ _ _ rfl rfl 24 (List.replicate xs.length 0) xs B (w.heap.size + 1) W1 ?c1 ?c2 ?c3 ?c4 ?c5 (Nat.le_refl _) ?_); rotate_right; intro w2 hg2 hb2; have hz2 := hg2.lt)
  case u1 => kernel_rfl
  case c1 => exact Blk.new2 (repl_u32 _)
  case c2 => rw [← HW1.out]; exact Hr1.out.alloc (by have := Hs1.out; omega) _
  case c3 => simp
  case c4 => simp
  case c5 => rw [← HW1.out]; exact (Below.refl _ _).alloc (by rw [Hs1.out]; omega) _
  rw [copy_all _ _ rfl] at hg2
  obtain ⟨W3, hW3⟩ : ∃ W3, W3 = w2.alloc (.cells (Array.replicate n (Value.int .u32 0)) 24 (0, 0)) := ⟨_, rfl⟩
  have hb3 : Below w2.heap.size w2 W3 := by rw [hW3]; exact (Below.refl _ _).alloc (Nat.le_refl _) _
  have hbl3 : Below (w.heap.size + 1) W1 W3 := hb2.trans (hb3.mono (by omega))
  have hR3 : Blk W3 (w.heap.size + 1) 24 (u32s xs) := hg2.below hb3 hz2
  have hQ3 : Blk W3 w2.heap.size 24 (u32s (List.replicate n 0)) := by rw [hW3]; exact Blk.new_ (repl_u32 n)
  rw [← hW3]
  obtain ⟨gq, hgq⟩ : ∃ gq, gq = w2.heap.size := ⟨_, rfl⟩
  rw [← hgq] at hQ3 hz2 ⊢
  have f0 := (hbl3.cell (p := ⟨w.heap.size, 0, none⟩) (by simp)).trans HF0.out
  have f1 := (hbl3.cell (p := ⟨w.heap.size, 1, none⟩) (by simp)).trans HF1.out
  simp only [List.getElem?_cons_zero, List.getElem?_cons_succ] at f0 f1
  have Hr3 := Lib.hid (Hr2.out.below (hbl3.mono (by omega)))
  obtain ⟨b, off, rfl, hb, hcy⟩ := Hr3.out.at32 hmy
  have hy := hdy.out m hmy
  have hyg : ys.getD m 0 = ys[m] := by rw [List.getD_eq_getElem?_getD, List.getElem?_eq_getElem hmy]; rfl
  rw [hyg] at hyt
  obtain ⟨y, hye⟩ : ∃ y, y = ys[m] := ⟨_, rfl⟩
  rw [← hye] at hcy hy hyt hyg
  have hqz := hQ3.lt
  have HI : Hid (∀ W, Below W3.heap.size W3 W → Calls Tryd.prog 77 #[fieldV p sp, .int .u32 (y : Int)] W fun e w' => e = .returned (.int .u32 (invN p y : Int)) ∧ Below W.heap.size W w') := fun W hW =>
    finv_any p sp y W hpr hp ((Hw.out.below hbl3 (by have := Hw.out.lt; rw [Hs1.out] at this; exact this)).later hW) hyt
  have hw3 : w.heap.size < W3.heap.size := by omega
  have hbw3 : b < W3.heap.size := by omega
  have q1 : IntKind.i64.wrap (m : Int) = m := IntWalk.i64_in _ (by omega)
  have HR3 := Lib.hid hR3
  have HQ3 := Lib.hid hQ3
  have Hbl3 := Lib.hid hbl3
  have Hyg := Lib.hid hyg
  clear hR3 hQ3 hbl3 hb3 hW3 hgq hg2 hb2 hmk hmk2 hye
  obtain ⟨u, hu⟩ : ∃ u, u = invN p y := ⟨_, rfl⟩
  rw [← hu] at HI
  have Hu := Lib.hid hu
  clear hu
  go_region_held3 (fun W => W.cell? ⟨w.heap.size, 0, none⟩ = some (.int .u64 (p : Int)) ∧ W.cell? ⟨w.heap.size, 1, none⟩ = some (.int .u64 (sp : Int)) ∧ W.cell? ⟨b, off + m, none⟩ = some (.int .u32 (y : Int))) (go_keep)
    (first | (go_at_call 77; (with_reducible refine (HI.out _ (by first | exact Below.refl _ _ | exact (Below.refl _ _).drew)).mono ?_); rintro e w4 ⟨rfl, hq⟩; have hq1 : Below W3.heap.size W3 w4 := (by first | exact hq | exact (Below.refl _ _).drew.trans hq); have c0 := (hq1.cell (p := ⟨w.heap.size, 0, none⟩) hw3).trans f0; have c1 := (hq1.cell (p := ⟨w.heap.size, 1, none⟩) hw3).trans f1; have c2 := (hq1.cell (p := ⟨b, off + m, none⟩) hbw3).trans hcy; have HQ := Lib.hid hq1; clear hq hq1))
  have Hb4 := Lib.hid (Hbl3.out.trans (HQ.out.mono (by omega)))
  have hR4 := HR3.out.below HQ.out (by omega)
  have hQ4 := HQ3.out.below HQ.out (by omega)
  have hup : u < p := by rw [Hu.out]; exact invN_lt hp0 y
  have huy : Hid (y * u % p = 1) := by show _ = _; rw [Hu.out]; exact hpr.inv_right (fun hd => hyt (Nat.mod_eq_zero_of_dvd hd))
  have hgqn : ¬ (w.heap.size + 1 = gq) := by omega
  clear c0 c1 c2 hcy f0 f1 q1
  go_wp2_with fail
  go_loopw [11, 12, 13, 14, 15] (fun iv _ _ _ _ wr => ∃ (k : Nat) (Q R0 : List Nat), k ≤ n ∧ iv = .int .i64 ((k : Int) - 1) ∧ Hid (Dl p xs ys Q R0 k) ∧ Blk wr (w.heap.size + 1) 24 (u32s R0) ∧ Blk wr gq 24 (u32s Q) ∧ Below (w.heap.size + 1) W1 wr) (fun iv _ _ _ _ _ => (intOf iv + 1).toNat)
  case atStart => exact ⟨n, _, _, Nat.le_refl _, rfl, HDl, hR4, hQ4, Hb4.out⟩
  case round =>
    clear hR4 hQ4
    obtain ⟨k, Q, R0, hk, rfl, hD, hbR, hbQ, hbel⟩ := hrel
    have hlQ := hD.out.lenQ
    have hlR := hD.out.lenR
    have hgz := hbQ.lt
    have hgz1 := hbR.lt
    have f0 := (hbel.cell (p := ⟨w.heap.size, 0, none⟩) (by simp)).trans HF0.out
    have f1 := (hbel.cell (p := ⟨w.heap.size, 1, none⟩) (by simp)).trans HF1.out
    simp only [List.getElem?_cons_zero, List.getElem?_cons_succ] at f0 f1
    rcases k with _ | k
    · have e : (((0 : Nat) : Int) - 1) = -1 := rfl
      rw [e]
      have HbR := Lib.hid hbR
      have HbQ := Lib.hid hbQ
      have HlR := Lib.hid hlR
      have HlQ : Hid (Q.length = n) := by show _ = _; have := Hn.out; omega
      clear hbR hbQ hlR hlQ
      go_wp2_with (go_at_call 76; (with_reducible refine (trim_own _ _ _ _ HlR.out HbR.out (by omega)).mono ?_); rintro _ _ ⟨rfl, rfl⟩)
      rw [HR.out]
      have hwf : Below w.heap.size w wr := Hb0.out.trans (hbel.mono (by omega))
      have hq1 := PR.of_blk HbQ.out (by omega) (by rw [HlQ.out]; omega) hwf
      rw [HlQ.out] at hq1
      have hr1 := PR.of_trim (w := w) HbR.out (by omega) (by rw [HlR.out]; omega) hwf
      rw [HlR.out] at hr1
      exact ⟨_, _, _, _, rfl, hq1, hr1, hD.out.done hpr d1 d2 ny hl⟩
    · have e : ((k + 1 : Nat) : Int) - 1 = (k : Int) := by omega
      rw [e]
      obtain ⟨i, hi⟩ : ∃ i, i = k + m := ⟨_, rfl⟩
      have hix : i < xs.length := by have := Hn.out; have := Hm.out; omega
      have hkQ : k < Q.length := by have := Hn.out; omega
      have hkn : k < n := by omega
      have hcR := (hbR.cell i).trans (u32s_getD (by omega))
      have hdR : R0.getD i 0 < p := by
        rw [List.getD_eq_getElem?_getD, List.getElem?_eq_getElem (show i < R0.length by omega)]; exact hD.out.dr _ (List.getElem_mem _)
      obtain ⟨t, ht⟩ : ∃ t, t = R0.getD i 0 := ⟨_, rfl⟩
      rw [← ht] at hcR hdR
      obtain ⟨d, hd⟩ : ∃ d, d = timesN p t u := ⟨_, rfl⟩
      have hdp : d < p := by rw [hd]; exact Nat.mod_lt _ hp0
      have HT : Hid (∀ W, Calls Tryd.prog 80 #[fieldV p sp, .int .u32 (t : Int), .int .u32 (u : Int)] W fun e w' => e = .returned (.int .u32 (d : Int)) ∧ Below W.heap.size W w') := by rw [hd]; exact fun W => ftimes_any p sp t u W hp0 hp (by omega) (by omega)
      obtain ⟨s, hs⟩ : ∃ s, s = k + ys.length := ⟨_, rfl⟩
      have t1 : (k : Int) + (ys.length : Int) = (s : Int) := by omega
      have t2 : (s : Int) - 1 = (i : Int) := by have := Hm.out; omega
      have q1 : IntKind.i64.wrap (s : Int) = s := IntWalk.i64_in _ (by omega)
      have q2 : IntKind.i64.wrap (i : Int) = i := IntWalk.i64_in _ (by omega)
      have HbR := Lib.hid hbR
      have HbQ := Lib.hid hbQ
      have HlR := Lib.hid hlR
      have HlQ := Lib.hid hlQ
      have Hd := Lib.hid hd
      have Ht := Lib.hid ht
      have Hi := Lib.hid hi
      have hw5 : w.heap.size < wr.heap.size := by omega
      clear hbR hbQ hlR hlQ hs hd ht hi
      go_upto_region 10 with (fail)
      go_region_held3 (fun W => W.cell? ⟨w.heap.size, 0, none⟩ = some (.int .u64 (p : Int)) ∧ W.cell? ⟨w.heap.size, 1, none⟩ = some (.int .u64 (sp : Int)) ∧ W.cell? ⟨w.heap.size + 1, i, none⟩ = some (.int .u32 (t : Int))) (go_keep)
        (first | (go_at_call 80; (with_reducible refine (HT.out _).mono ?_); rintro e w5 ⟨rfl, hq⟩; have hq1 : Below wr.heap.size wr w5 := (by first | exact hq | exact (Below.refl _ _).drew.trans hq); have g0 := (hq1.cell (p := ⟨w.heap.size, 0, none⟩) hw5).trans f0; have g1 := (hq1.cell (p := ⟨w.heap.size, 1, none⟩) hw5).trans f1; have g2 := (hq1.cell (p := ⟨w.heap.size + 1, i, none⟩) hgz1).trans hcR; have HQ5 := Lib.hid hq1; clear hq hq1))
      have hbR5 := HbR.out.below HQ5.out (by omega)
      have hbQ5 := HbQ.out.below HQ5.out (by omega)
      have hbel5 := hbel.trans (HQ5.out.mono (by omega))
      have hz5 := HQ5.out.size
      by_cases hd0 : d = 0
      · have hsk : Hid (Dl p xs ys Q R0 k) := by
          refine hD.out.skip ?_ l2
          have h1 : t = 0 := by
            have h2 : p ∣ t * u := Nat.dvd_of_mod_eq_zero (by have := Hd.out; unfold timesN at this; omega)
            rcases hpr.dvd_mul h2 with h3 | h3
            · exact Nat.eq_zero_of_dvd_of_lt h3 hdR
            · exfalso
              have h4 := huy.out
              rw [Nat.mod_eq_zero_of_dvd (Nat.dvd_trans h3 (Nat.dvd_mul_left u y))] at h4; omega
          rw [show k + ys.length - 1 = i by have := Hi.out; have := Hm.out; omega, ← Ht.out]; exact h1
        have t3 : ((d : Int) == 0) = true := by rw [hd0]; rfl
        clear hd0
        go_wp2_with fail
        go_roundw
        case rel => exact ⟨k, Q, R0, by omega, rfl, hsk, hbR5, hbQ5, hbel5⟩
        case measure => simp [intOf]
      · have t3 : ((d : Int) == 0) = false := bz (by omega)
        obtain ⟨ls, hls⟩ : ∃ ls, ls = negN p d := ⟨_, rfl⟩
        have hlsp : ls < p := by rw [hls]; exact negN_lt hdp
        have hcq := (hbQ5.cell k).trans (u32s_getD hkQ)
        have hfq := hbQ5.frozen k
        have hset := hbQ5.set_ k (.int .u32 (d : Int))
        rw [u32s_set] at hset
        have HN : Hid (∀ W, Calls Tryd.prog 84 #[fieldV p sp, .int .u32 (d : Int)] W fun e w' => e = .returned (.int .u32 (ls : Int)) ∧ Below W.heap.size W w') := by rw [hls]; exact fun W => fnegative_any p sp d W hp hdp
        have hst : Hid (Dl p xs ys (Q.set k d) (dstep p ls k ys R0 ys.length) k) := by
          refine hD.out.step l2 hp0 hkQ hdp (by rw [hls]; exact negN_cg hdp) ?_
          have e1 : k + ys.length - 1 = i := by have := Hi.out; have := Hm.out; omega
          have e2 : ys.length - 1 = m := by have := Hm.out; omega
          rw [e1, e2, ← Ht.out, Hyg.out]
          exact step_zero (d := d) (u := u) (by rw [hls]; exact negN_cg hdp) (by rw [Hd.out]; exact mod_dvd _ _) (by have := mod_dvd (y * u) p; rwa [huy.out] at this)
        obtain ⟨W6, hW6⟩ : ∃ W6, W6 = w5.setCell ⟨gq, k, none⟩ (.int .u32 (d : Int)) := ⟨_, rfl⟩
        rw [← hW6] at hset
        have hch6 : Ch gq w5 W6 := by rw [hW6]; exact (Ch.refl _ _).setCell _ _
        have hbR6 := hbR5.ch hch6 hgqn
        have hbel6 : Below (w.heap.size + 1) W1 W6 := hbel5.trans (hch6.below (by omega))
        have hz6 := hch6.size
        have k0 := (hbel6.cell (p := ⟨w.heap.size, 0, none⟩) (by simp)).trans HF0.out
        have k1 := (hbel6.cell (p := ⟨w.heap.size, 1, none⟩) (by simp)).trans HF1.out
        simp only [List.getElem?_cons_zero, List.getElem?_cons_succ] at k0 k1
        have HW6 := Lib.hid hW6
        have hgq6 := hset.lt
        have hgR6 := hbR6.lt
        have Hset := Lib.hid hset
        have HbR6 := Lib.hid hbR6
        clear hls hset hbR6 hbR5 hbQ5 hW6 hd0
        go_upto_region 13 with (fail)
        rw [← HW6.out]
        go_wp2_with (go_at_call 84; (with_reducible refine (HN.out _).mono ?_); rintro e w7 ⟨rfl, hq7⟩)
        have hb7 : Below (w.heap.size + 1) W1 w7 := hbel6.trans (hq7.mono (by omega))
        have hR7 := HbR6.out.below hq7 hgR6
        have hQ7 := Hset.out.below hq7 hgq6
        have Hb7 := Lib.hid hb7
        have HQ7 := Lib.hid hQ7
        clear hq7 hb7 hQ7 k0 k1 g0 g1 g2 f0 f1 hcR hcq hfq q1 q2 t1 t2 t3
        go_loopw [14, 15, 73] (fun _ _ iv wq => ∃ j : Nat, j ≤ ys.length ∧ iv = .int .i64 (j : Int) ∧ Blk wq (w.heap.size + 1) 24 (u32s (dstep p ls k ys R0 j)) ∧ Ch (w.heap.size + 1) w7 wq) (fun _ _ iv _ => ys.length - (intOf iv).toNat)
        case atStart => exact ⟨0, by omega, rfl, hR7, Ch.refl _ _⟩
        case round =>
          clear hR7
          obtain ⟨j, hj, rfl, hblk, hch⟩ := hrel
          have hbw := Hb7.out.trans (hch.below (Nat.le_refl _))
          have f0 := (hbw.cell (p := ⟨w.heap.size, 0, none⟩) (by simp)).trans HF0.out
          simp only [List.getElem?_cons_zero] at f0
          by_cases hlt : j < ys.length
          · obtain ⟨b', off', e9, hb', hcy⟩ := (Hr2.out.below (hbw.mono (by omega))).at32 hlt
            obtain ⟨rfl, rfl⟩ : b = b' ∧ off = off' := by simpa using e9
            have hyj := hdy.out j hlt
            have hkj : k + j < xs.length := by have := Hn.out; omega
            have hDl : (dstep p ls k ys R0 j).length = xs.length := by rw [dstep_length]; exact HlR.out
            have hcl := (hblk.cell (k + j)).trans (u32s_getD (by omega))
            have hfz := hblk.frozen (k + j)
            have hxj : (dstep p ls k ys R0 j).getD (k + j) 0 < p := by
              rw [List.getD_eq_getElem?_getD, List.getElem?_eq_getElem (by omega)]
              exact dstep_lt hp0 hD.out.dr j _ (List.getElem_mem _)
            have hset := hblk.set_ (k + j) (.int .u32 ((((dstep p ls k ys R0 j).getD (k + j) 0 + ls * ys[j]) % p : Nat) : Int))
            rw [u32s_set] at hset
            have hE : (dstep p ls k ys R0 j).set (k + j) (((dstep p ls k ys R0 j).getD (k + j) 0 + ls * ys[j]) % p) = dstep p ls k ys R0 (j + 1) := by
              rw [dstep, List.getD_eq_getElem?_getD (l := ys), List.getElem?_eq_getElem hlt]; rfl
            rw [hE] at hset
            obtain ⟨v, hv⟩ : ∃ v, v = (dstep p ls k ys R0 j).getD (k + j) 0 := ⟨_, rfl⟩
            obtain ⟨yj, hyje⟩ : ∃ yj, yj = ys[j] := ⟨_, rfl⟩
            rw [← hv] at hcl hxj hset
            rw [← hyje] at hcy hyj hset
            have hmc : ls * yj ≤ 4294967295 * 4294967295 := Nat.mul_le_mul (by omega) (by omega)
            obtain ⟨mm, hmm⟩ : ∃ mm, mm = ls * yj := ⟨_, rfl⟩
            obtain ⟨ss, hss⟩ : ∃ ss, ss = v + mm := ⟨_, rfl⟩
            obtain ⟨r, hre⟩ : ∃ r, r = ss % p := ⟨_, rfl⟩
            have hrp : r < p := by rw [hre]; exact Nat.mod_lt _ hp0
            rw [← hmm] at hset hmc
            rw [← hss, ← hre] at hset
            have t1 : (ls : Int) * (yj : Int) = (mm : Int) := by rw [hmm]; simp
            have t2 : (v : Int) + (mm : Int) = (ss : Int) := by omega
            have t3 : (ss : Int).tmod (p : Int) = (r : Int) := by rw [tmodN, hre]
            obtain ⟨kj, hkje⟩ : ∃ kj, kj = k + j := ⟨_, rfl⟩
            rw [← hkje] at hcl hfz hset hkj
            have t5 : (k : Int) + (j : Int) = (kj : Int) := by omega
            have hssb : ss < 18446744073709551616 := by omega
            have Hset := Lib.hid hset
            clear hset hE hv hyje hmm hss hre hkje hblk e9 hDl
            go_upto_region 17 with (fail)
            have q1 := w64 (n := v) (by omega)
            have q2 := w64 (n := yj) (by omega)
            have q3 := w64 (n := mm) (by omega)
            have q4 := w64 (n := ss) (by omega)
            have q5 := w64 (n := r) (by omega)
            have q6 := w32 (n := r) (by omega)
            have q8 : IntKind.i64.wrap (kj : Int) = kj := IntWalk.i64_in _ (by omega)
            have q7 : p ≠ 0 := by omega
            refine region_quiet_tail 21 (by kernel_rfl) (by kernel_rfl) ?_
            simp only [List.take_succ_cons, List.take_zero, List.drop_succ_cons, List.drop_zero]
            repeat (quiet_step (fail))
            refine wpQuiet_nil ?_
            rintro _ ⟨nq, rfl⟩
            clear q1 q2 q3 q4 q5 q6 q7 q8 t3
            go_wp2_with fail
            go_roundw
            case rel => exact ⟨j + 1, by omega, by go_num, Hset.out, (hch.drewN nq).setCell _ _⟩
            case measure => simp [intOf]; omega
          · obtain rfl : j = ys.length := by omega
            have HB := Lib.hid hblk
            clear hblk
            go_wp2_with fail
            go_roundw
            case rel => exact ⟨k, Q.set k d, dstep p ls k ys R0 ys.length, by omega, rfl, hst, HB.out, HQ7.out.ch hch (fun h => hgqn h.symm), hbw⟩
            case measure => simp [intOf]

theorem fdivide_any (p sp : Nat) (A1 A2 : Option Addr) (c1 c2 : Nat) (xs ys : List Nat) (w : World) (B : Nat) (hpr : Pr p) (hp : p < 4294967296) (hw : Bases w) (hr1 : Rd w B A1 (u32s xs)) (hr2 : Rd w B A2 (u32s ys)) (hB : B ≤ w.heap.size) (hm1 : xs.length ≤ Big) (d1 : Nf p xs) (d2 : Nf p ys) (ny : ys ≠ []) :
    Calls Tryd.prog 69 #[fieldV p sp, .slice A1 xs.length c1, .slice A2 ys.length c2] w (PD p w xs ys) := by
  by_cases hl : ys.length ≤ xs.length
  · exact fdivide_more p sp A1 A2 c1 c2 xs ys w B hpr hp hw hr1 hr2 hB hm1 d1 d2 ny hl
  · refine (fdivide_less p sp A1 A2 c1 c2 ys.length xs w B hr1 hB hm1 (by omega)).mono ?_
    rintro _ w' ⟨g, rfl, hg, hb, hbl⟩
    exact ⟨[], xs, _, _, rfl, PR.none_ hbl, PR.of_blk hb hg (by unfold Big at hm1; omega) hbl, ⟨Nf.nil_ p, d1, by omega, Cg.of_eq fun x => by rw [Z.v_add, Z.v_mul, zo_nil]; omega⟩⟩
end
section
section
variable {p : Nat}
/-- r: xs over its top coefficient. -/
structure MoOf (p : Nat) (xs r : List Nat) : Prop where
  nf : Nf p r
  mo : Mo r
  by_ : ∃ c : Int, Cg p (zo r) (zo xs * .c c)
  back : ∃ c : Int, Cg p (zo xs) (zo r * .c c)
theorem MoOf.none_ (p : Nat) : MoOf p [] [] := ⟨Nf.nil_ p, fun h => absurd rfl h, ⟨0, Cg.of_eq fun x => by rw [Z.v_mul, zo_nil]; omega⟩, ⟨0, Cg.of_eq fun x => by rw [Z.v_mul, zo_nil]; omega⟩⟩
theorem len_of_c {r xs : List Nat} {c : Int} (hp : 0 < p) (hr : Nf p r) (h : Cg p (zo r) (zo xs * .c c)) : r.length ≤ xs.length := hr.len_le hp h fun i hi => by
  have : (zo xs * Z.c c).co i = 0 := by
    rw [Z.co_of_v (b := ⟨sclI c (zi xs)⟩) (fun x => by rw [Z.v_mul, Z.v_c, Int.mul_comm]; exact (ev_sclI _ _ _).symm)]
    show (sclI c (zi xs)).getD i 0 = 0
    rw [getD_sclI, zi_getD, getD_nat hi]; simp
  rw [this]; exact Int.dvd_zero _
theorem MoOf.len {xs r : List Nat} (h : MoOf p xs r) (hp : 0 < p) (hx : Nf p xs) : r.length = xs.length := by
  obtain ⟨c, hc⟩ := h.by_
  obtain ⟨d, hd⟩ := h.back
  exact Nat.le_antisymm (len_of_c hp h.nf hc) (len_of_c hp hx hd)
/-- Times the inverse of the top. -/
theorem MoOf.of_inv (hp : Pr p) {xs r : List Nat} {u : Nat} (hx : Nf p xs) (_ : xs ≠ []) (hr : Nf p r) (hu : xs.getD (xs.length - 1) 0 * u % p = 1) (h : Cg p (zo r) (zo xs * .c u)) : MoOf p xs r := by
  have hb : Cg p (zo xs) (zo r * .c ((xs.getD (xs.length - 1) 0 : Nat) : Int)) := by
    generalize xs.getD (xs.length - 1) 0 = t at hu
    obtain ⟨c, hc⟩ := h
    have e : ∃ k : Int, ((t : Int) * u) = p * k + 1 := ⟨((t * u / p : Nat) : Int), by
      have h1 := Nat.div_add_mod (t * u) p
      rw [hu] at h1
      have h2 : ((p * (t * u / p) + 1 : Nat) : Int) = ((t * u : Nat) : Int) := by rw [h1]
      rw [Int.natCast_add, Int.natCast_mul p] at h2
      rw [← Int.natCast_mul t u]; omega⟩
    obtain ⟨k, hk⟩ := e
    refine ⟨.c (-k) * zo xs - .c t * c, fun x => ?_⟩
    have h1 := hc x
    simp only [Z.v_sub, Z.v_mul, Z.v_c] at h1 ⊢
    rw [h1]
    have : (zo xs).v x * u * t = (zo xs).v x * (t * u) := by grind
    rw [Int.add_mul, this, hk]
    grind
  refine ⟨hr, fun nr => ?_, ⟨u, h⟩, ⟨_, hb⟩⟩
  have hl : r.length = xs.length := Nat.le_antisymm (len_of_c hp.pos hr h) (len_of_c hp.pos hx hb)
  have h1 := h.co (xs.length - 1)
  have h2 : (zo xs * Z.c u).co (xs.length - 1) = ((xs.getD (xs.length - 1) 0 * u : Nat) : Int) := by
    rw [Z.co_of_v (b := ⟨sclI u (zi xs)⟩) (fun x => by rw [Z.v_mul, Z.v_c, Int.mul_comm]; exact (ev_sclI _ _ _).symm)]
    show (sclI u (zi xs)).getD _ 0 = _
    rw [getD_sclI, zi_getD, Int.natCast_mul, Int.mul_comm]
  rw [h2, zo_co] at h1
  rw [hl]
  have h3 := hr.getD_lt hp.pos (xs.length - 1)
  generalize r.getD (xs.length - 1) 0 = a at h1 h3
  generalize xs.getD (xs.length - 1) 0 * u = m at h1 hu
  obtain ⟨k, hk⟩ := h1
  have h4 : a % p = m % p := by
    have : (a : Int) % p = (m : Int) % p := by rw [show (a : Int) = m + p * k by omega, Int.add_mul_emod_self_left]
    exact_mod_cast this
  rw [Nat.mod_eq_of_lt h3, hu] at h4
  exact h4
theorem Dd.of_mul {a b k : Z} (h : Cg p a (b * k)) : Dd p b a := ⟨k, h.trans (Cg.of_eq fun x => by rw [Z.v_mul, Z.v_mul, Int.mul_comm])⟩
theorem MoOf.gc {xs r : List Nat} (h : MoOf p xs r) : Gc p (zo xs) (zo []) r := by
  obtain ⟨c, hc⟩ := h.by_
  obtain ⟨d, hd⟩ := h.back
  exact ⟨h.nf, h.mo, ⟨.c c, .c 0, hc.trans (Cg.of_eq fun x => by simp only [Z.v_mul, Z.v_add, Z.v_c, zo_nil]; grind)⟩, Dd.of_mul hd, ⟨.c 0, Cg.of_eq fun x => by simp only [Z.v_mul, Z.v_c, zo_nil]; grind⟩⟩
theorem Gc.step {a b : Z} {n : Nat} {q r g : List Nat} (h : Dv p a b n q r) (hg : Gc p b (zo r) g) : Gc p a b g := by
  obtain ⟨s, t, hl⟩ := hg.lin
  refine ⟨hg.nf, hg.mo, ⟨t, s - t * zo q, ?_⟩, Dd.lin hg.left hg.right (zo q) (.c 1) (h.eq.trans (Cg.of_eq fun x => by simp only [Z.v_mul, Z.v_add, Z.v_c]; grind)), hg.left⟩
  exact hl.lin2 h.eq (.c 1) (.c (-1) * t) fun x => by simp only [Z.v_mul, Z.v_add, Z.v_sub, Z.v_c]; grind
theorem Gc.swap {a b : Z} {g : List Nat} (h : Gc p a b g) : Gc p b a g := by
  obtain ⟨s, t, hl⟩ := h.lin
  exact ⟨h.nf, h.mo, ⟨t, s, hl.trans (Cg.of_eq fun x => by rw [Z.v_add, Z.v_add]; omega)⟩, h.right, h.left⟩
end
end
section
open Go.RowKit

/-- Shorter than Big. -/
def Sm : Nat := 1099511627776

set_option maxHeartbeats 1600000 in
theorem frest_any (p sp : Nat) (A1 A2 : Option Addr) (c1 c2 : Nat) (xs ys : List Nat) (w : World) (B : Nat) (hpr : Pr p) (hp : p < 4294967296) (hw : Bases w) (hr1 : Rd w B A1 (u32s xs)) (hr2 : Rd w B A2 (u32s ys)) (hB : B ≤ w.heap.size) (hm1 : xs.length ≤ Big) (d1 : Nf p xs) (d2 : Nf p ys) (ny : ys ≠ []) :
    Calls Tryd.prog 81 #[fieldV p sp, .slice A1 xs.length c1, .slice A2 ys.length c2] w fun e w' => ∃ q r, PR1 w r e w' ∧ Dv p (zo xs) (zo ys) ys.length q r := by
  have hb0 : Below w.heap.size w (w.alloc (.cells #[.int .u64 (p : Int), .int .u64 (sp : Int)] 77 (0, 0))) := (Below.refl _ _).alloc (Nat.le_refl _) _
  have HD := Lib.hid (fdivide_any p sp A1 A2 c1 c2 xs ys _ B hpr hp (hw.later hb0) (hr1.below (hb0.mono hB)) (hr2.below (hb0.mono hB)) (Nat.le_trans hB hb0.size) hm1 d1 d2 ny)
  obtain ⟨R, hR⟩ : ∃ R, R = fun e w' => ∃ q r, PR1 w r e w' ∧ Dv p (zo xs) (zo ys) ys.length q r := ⟨_, rfl⟩
  have HR := Lib.hid hR
  have Hb0 := Lib.hid hb0
  show Calls _ _ _ _ (fun e w' => ∃ q r, PR1 w r e w' ∧ Dv p (zo xs) (zo ys) ys.length q r)
  rw [← hR]
  clear hR hb0 hw hr1 hr2
  go_enter Tryd.func81, Tryd.ntmps81
  go_wp2_with (go_at_call 69; (with_reducible refine HD.out.mono ?_); rintro _ w2 ⟨q, r, vq, vr, rfl, hq, hr, hdv⟩)
  rw [HR.out]
  exact ⟨q, r, ⟨_, rfl, hr.mono Hb0.out⟩, hdv⟩

set_option maxHeartbeats 1600000 in
theorem fover_any (p sp : Nat) (A1 A2 : Option Addr) (c1 c2 : Nat) (xs ys : List Nat) (w : World) (B : Nat) (hpr : Pr p) (hp : p < 4294967296) (hw : Bases w) (hr1 : Rd w B A1 (u32s xs)) (hr2 : Rd w B A2 (u32s ys)) (hB : B ≤ w.heap.size) (hm1 : xs.length ≤ Big) (d1 : Nf p xs) (d2 : Nf p ys) (ny : ys ≠ []) :
    Calls Tryd.prog 103 #[fieldV p sp, .slice A1 xs.length c1, .slice A2 ys.length c2] w fun e w' => ∃ q r, PR1 w q e w' ∧ Dv p (zo xs) (zo ys) ys.length q r := by
  have hb0 : Below w.heap.size w (w.alloc (.cells #[.int .u64 (p : Int), .int .u64 (sp : Int)] 77 (0, 0))) := (Below.refl _ _).alloc (Nat.le_refl _) _
  have HD := Lib.hid (fdivide_any p sp A1 A2 c1 c2 xs ys _ B hpr hp (hw.later hb0) (hr1.below (hb0.mono hB)) (hr2.below (hb0.mono hB)) (Nat.le_trans hB hb0.size) hm1 d1 d2 ny)
  obtain ⟨R, hR⟩ : ∃ R, R = fun e w' => ∃ q r, PR1 w q e w' ∧ Dv p (zo xs) (zo ys) ys.length q r := ⟨_, rfl⟩
  have HR := Lib.hid hR
  have Hb0 := Lib.hid hb0
  show Calls _ _ _ _ (fun e w' => ∃ q r, PR1 w q e w' ∧ Dv p (zo xs) (zo ys) ys.length q r)
  rw [← hR]
  clear hR hb0 hw hr1 hr2
  go_enter Tryd.func103, Tryd.ntmps103
  go_wp2_with (go_at_call 69; (with_reducible refine HD.out.mono ?_); rintro _ w2 ⟨q, r, vq, vr, rfl, hq, hr, hdv⟩)
  rw [HR.out]
  exact ⟨q, r, ⟨_, rfl, hq.mono Hb0.out⟩, hdv⟩

/-- What is over its top coefficient is handed back. -/
def PM (p : Nat) (w : World) (xs : List Nat) (e : Ending) (w' : World) : Prop := ∃ r, PR1 w r e w' ∧ MoOf p xs r

set_option maxHeartbeats 1600000 in
theorem fmonic_any (p sp : Nat) (A1 : Option Addr) (c1 : Nat) (xs : List Nat) (w : World) (B : Nat) (hpr : Pr p) (hp : p < 4294967296) (hw : Bases w) (hr1 : Rd w B A1 (u32s xs)) (hB : B ≤ w.heap.size) (hm1 : xs.length ≤ Big) (d1 : Nf p xs) :
    Calls Tryd.prog 52 #[fieldV p sp, .slice A1 xs.length c1] w (PM p w xs) := by
  by_cases n1 : xs = []
  · subst n1
    have key : Calls Tryd.prog 52 #[fieldV p sp, .slice A1 0 c1] w fun e w' => e = .returned (.slice none 0 0) ∧ Below w.heap.size w w' := by
      clear hr1 hw
      go_enter Tryd.func52, Tryd.ntmps52
      go_wp2
      go_ret
      exact ⟨rfl, (Below.refl _ _).alloc (Nat.le_refl _) _⟩
    refine key.mono ?_
    rintro _ w' ⟨rfl, h⟩
    exact ⟨[], ⟨_, rfl, PR.none_ h⟩, MoOf.none_ p⟩
  · have l1 := len_pos n1
    have hmb : xs.length ≤ 17592186044416 := hm1
    obtain ⟨W1, hW1⟩ : ∃ W1, W1 = w.alloc (.cells #[.int .u64 (p : Int), .int .u64 (sp : Int)] 77 (0, 0)) := ⟨_, rfl⟩
    have hb0 : Below w.heap.size w W1 := by rw [hW1]; exact (Below.refl _ _).alloc (Nat.le_refl _) _
    have hs1 : W1.heap.size = w.heap.size + 1 := by rw [hW1]; simp
    have hbf : Blk W1 w.heap.size 77 [.int .u64 (p : Int), .int .u64 (sp : Int)] := by rw [hW1]; exact Blk.new_ rfl
    have f0 := hbf.cell 0
    have f1 := hbf.cell 1
    simp only [List.getElem?_cons_zero, List.getElem?_cons_succ] at f0 f1
    obtain ⟨m, hm⟩ : ∃ m, m = xs.length - 1 := ⟨_, rfl⟩
    have hmx : m < xs.length := by omega
    have hr2 := hr1.below (hb0.mono hB)
    obtain ⟨b, off, rfl, hb, hcx⟩ := hr2.at32 hmx
    have hxg : xs.getD m 0 = xs[m] := by rw [List.getD_eq_getElem?_getD, List.getElem?_eq_getElem hmx]; rfl
    have hyt : xs.getD m 0 % p ≠ 0 := by
      rw [hm]
      intro h; exact d1.top hpr.pos n1 (Int.natCast_dvd_natCast.2 (Nat.dvd_of_mod_eq_zero h))
    have hxd := d1.getD_lt hpr.pos m
    rw [← hxg] at hcx
    obtain ⟨t, ht⟩ : ∃ t, t = xs.getD m 0 := ⟨_, rfl⟩
    rw [← ht] at hcx hyt hxd
    obtain ⟨u, hu⟩ : ∃ u, u = invN p t := ⟨_, rfl⟩
    have hut : Hid (xs.getD (xs.length - 1) 0 * u % p = 1) := by show _ = _; rw [← hm, ← ht, hu]; exact hpr.inv_right (fun hd => hyt (Nat.mod_eq_zero_of_dvd hd))
    have hul : u < p := by rw [hu]; exact invN_lt hpr.pos t
    have HI : Hid (∀ W, Below W1.heap.size W1 W → Calls Tryd.prog 77 #[fieldV p sp, .int .u32 (t : Int)] W fun e w' => e = .returned (.int .u32 (u : Int)) ∧ Below W.heap.size W w') := by
      rw [hu]; exact fun W hW => finv_any p sp t W hpr hp ((hw.later hb0).later hW) hyt
    have HS : Hid (∀ W, Below W1.heap.size W1 W → Calls Tryd.prog 60 #[fieldV p sp, .slice (some ⟨b, off, none⟩) xs.length c1, .int .u32 (u : Int)] W (PS p W (zo xs * .c u))) := fun W hW =>
      scaled_any p sp _ c1 u xs W B hpr.pos hp (hr2.below (hW.mono (Nat.le_trans hB hb0.size))) (Nat.le_trans hB (Nat.le_trans hb0.size hW.size)) hm1 (fun x hx => by have := d1.1 x hx; omega) (by omega)
    obtain ⟨R, hR⟩ : ∃ R, R = PM p w xs := ⟨_, rfl⟩
    rw [← hR]
    have HR := Lib.hid hR
    have HW1 := Lib.hid hW1
    have Hb0 := Lib.hid hb0
    have z1 : ((xs.length : Int) == 0) = false := bz l1
    have z2 : (xs.length : Int) - 1 = (m : Int) := by omega
    have q1 : IntKind.i64.wrap (m : Int) = m := IntWalk.i64_in _ (by omega)
    have hz1 : w.heap.size < W1.heap.size := by omega
    have hz2 : b < W1.heap.size := by omega
    clear hR hW1 hr1 hr2 hbf hw hm hu ht hxg
    go_enter Tryd.func52, Tryd.ntmps52
    go_wp2_with fail
    rw [← HW1.out]
    go_region_held3 (fun W => W.cell? ⟨w.heap.size, 0, none⟩ = some (.int .u64 (p : Int)) ∧ W.cell? ⟨w.heap.size, 1, none⟩ = some (.int .u64 (sp : Int)) ∧ W.cell? ⟨b, off + m, none⟩ = some (.int .u32 (t : Int))) (go_keep) (first
      | (go_at_call 77; (with_reducible refine (HI.out _ (by first | exact Below.refl _ _ | exact (Below.refl _ _).drew)).mono ?_); rintro e w3 ⟨rfl, hq⟩; have hq1 : Below W1.heap.size W1 w3 := (by first | exact hq | exact (Below.refl _ _).drew.trans hq); have c0 := (hq1.cell (p := ⟨w.heap.size, 0, none⟩) hz1).trans f0; have c1 := (hq1.cell (p := ⟨w.heap.size, 1, none⟩) hz1).trans f1; have c2 := (hq1.cell (p := ⟨b, off + m, none⟩) hz2).trans hcx; have HQ := Lib.hid hq1; clear hq hq1)
      | (go_at_call 60; (with_reducible refine (HS.out _ HQ.out).mono ?_); rintro e w4 ⟨r2, ⟨v2, rfl, hpr2⟩, hn2, hc2⟩; have HQ4 := Lib.hid (show Below w3.heap.size w3 w4 from by obtain ⟨_, _, _, _, h⟩ := hpr2; exact h); have hz3 : w.heap.size < w3.heap.size := (by have := HQ.out.size; omega); have hz4 : b < w3.heap.size := (by have := HQ.out.size; omega); have d0 := (HQ4.out.cell (p := ⟨w.heap.size, 0, none⟩) hz3).trans c0; have d1 := (HQ4.out.cell (p := ⟨w.heap.size, 1, none⟩) hz3).trans c1; have d2 := (HQ4.out.cell (p := ⟨b, off + m, none⟩) hz4).trans c2))
    all_goals go_wp2_with fail
    all_goals rw [HR.out]
    all_goals exact ⟨r2, ⟨_, rfl, hpr2.mono (Hb0.out.trans (HQ.out.mono (by omega)))⟩, MoOf.of_inv hpr (by assumption) n1 hn2 hut.out hc2⟩

/-- A greatest common divisor is handed back. -/
def PG (p : Nat) (w : World) (a b : Z) (e : Ending) (w' : World) : Prop := ∃ r, PR1 w r e w' ∧ Gc p a b r

set_option maxHeartbeats 1600000 in
theorem fgcd_any (p sp : Nat) (A1 A2 : Option Addr) (c1 c2 : Nat) (xs ys : List Nat) (w : World) (B : Nat) (hpr : Pr p) (hp : p < 4294967296) (hw : Bases w) (hr1 : Rd w B A1 (u32s xs)) (hr2 : Rd w B A2 (u32s ys)) (hB : B ≤ w.heap.size) (hm1 : xs.length ≤ Big) (hm2 : ys.length ≤ Big) (d1 : Nf p xs) (d2 : Nf p ys) :
    Calls Tryd.prog 64 #[fieldV p sp, .slice A1 xs.length c1, .slice A2 ys.length c2] w (PG p w (zo xs) (zo ys)) := by
  obtain ⟨W1, hW1⟩ : ∃ W1, W1 = w.alloc (.cells #[.int .u64 (p : Int), .int .u64 (sp : Int)] 77 (0, 0)) := ⟨_, rfl⟩
  have hb0 : Below w.heap.size w W1 := by rw [hW1]; exact (Below.refl _ _).alloc (Nat.le_refl _) _
  have hs1 : W1.heap.size = w.heap.size + 1 := by rw [hW1]; simp
  have hbf : Blk W1 w.heap.size 77 [.int .u64 (p : Int), .int .u64 (sp : Int)] := by rw [hW1]; exact Blk.new_ rfl
  have f0 := hbf.cell 0
  have f1 := hbf.cell 1
  simp only [List.getElem?_cons_zero, List.getElem?_cons_succ] at f0 f1
  have HF0 := Lib.hid f0
  have HF1 := Lib.hid f1
  have Hr1 := Lib.hid ((hr1.below (hb0.mono hB)).mono (Nat.le_trans hB hb0.size))
  have Hr2 := Lib.hid ((hr2.below (hb0.mono hB)).mono (Nat.le_trans hB hb0.size))
  have HREST : Hid (∀ (W : World) A A' c c' (a b : List Nat), Bases W → Rd W W.heap.size A (u32s a) → Rd W W.heap.size A' (u32s b) → a.length ≤ Big → Nf p a → Nf p b → b ≠ [] → Calls Tryd.prog 81 #[fieldV p sp, .slice A a.length c, .slice A' b.length c'] W fun e w' => ∃ q r, PR1 W r e w' ∧ Dv p (zo a) (zo b) b.length q r) :=
    fun W A A' c c' a b hW h1 h2 h3 h4 h5 h6 => frest_any p sp A A' c c' a b W _ hpr hp hW h1 h2 (Nat.le_refl _) h3 h4 h5 h6
  have HMON : Hid (∀ (W : World) A c (a : List Nat), Bases W → Rd W W.heap.size A (u32s a) → a.length ≤ Big → Nf p a → Calls Tryd.prog 52 #[fieldV p sp, .slice A a.length c] W (PM p W a)) :=
    fun W A c a hW h1 h2 h3 => fmonic_any p sp A c a W _ hpr hp hW h1 (Nat.le_refl _) h2 h3
  have Hw := Lib.hid (hw.later hb0)
  obtain ⟨R, hR⟩ : ∃ R, R = PG p w (zo xs) (zo ys) := ⟨_, rfl⟩
  rw [← hR]
  have HR := Lib.hid hR
  have HW1 := Lib.hid hW1
  have Hb0 := Lib.hid hb0
  have Hs1 := Lib.hid hs1
  clear hR hW1 hr1 hr2 hbf hw f0 f1 hb0 hs1
  go_enter Tryd.func64, Tryd.ntmps64
  go_wp2
  rw [← HW1.out]
  go_step3
  go_wp2
  go_step3
  go_wp2
  go_loopw [1, 2] (fun va vb wr => ∃ (a b : List Nat) (A A' : Option Addr) (c c' : Nat), va = .slice A a.length c ∧ vb = .slice A' b.length c' ∧ Hid (Rd wr wr.heap.size A (u32s a)) ∧ Hid (Rd wr wr.heap.size A' (u32s b)) ∧ Hid (a.length ≤ Big) ∧ Hid (b.length ≤ Big) ∧ Nf p a ∧ Nf p b ∧ Hid (∀ g, Gc p (zo a) (zo b) g → Gc p (zo xs) (zo ys) g) ∧ Below W1.heap.size W1 wr) (fun _ vb _ => match vb with | .slice _ n _ => n | _ => 0)
  case atStart => exact ⟨xs, ys, A1, A2, c1, c2, rfl, rfl, Hr1, Hr2, hm1, hm2, d1, d2, (show ∀ g, _ → _ from fun g h => h), Below.refl _ _⟩
  case round =>
    obtain ⟨a, b, A, A', c, c', rfl, rfl, ra, rb, la, lb, na, nb, hG, hbel⟩ := hrel
    have hz1 : w.heap.size < W1.heap.size := by rw [Hs1.out]; omega
    have g0 := (hbel.cell (p := ⟨w.heap.size, 0, none⟩) hz1).trans HF0.out
    have g1 := (hbel.cell (p := ⟨w.heap.size, 1, none⟩) hz1).trans HF1.out
    have hbw := Hw.out.later hbel
    have Hbw := Lib.hid hbw
    have Hna := Lib.hid na
    have Hnb := Lib.hid nb
    have Hbel := Lib.hid hbel
    clear na nb hbw hbel
    by_cases n0 : b = []
    · subst n0
      go_wp2_with (go_at_call 52; (with_reducible refine (HMON.out _ _ _ _ Hbw.out ra.out la.out Hna.out).mono ?_); rintro _ w2 ⟨r, ⟨v, rfl, hpv⟩, hmo⟩)
      rw [HR.out]
      exact ⟨r, ⟨_, rfl, hpv.mono (Hb0.out.trans (Hbel.out.mono (by rw [Hs1.out]; omega)))⟩, hG.out _ hmo.gc⟩
    · have z1 : ((b.length : Int) == 0) = false := bz (len_pos n0)
      have Hn0 := Lib.hid n0
      clear n0
      go_wp2_with (go_at_call 81; (with_reducible refine (HREST.out _ _ _ _ _ _ _ Hbw.out ra.out rb.out la.out Hna.out Hnb.out Hn0.out).mono ?_); rintro _ w2 ⟨q, r, ⟨_, rfl, ⟨Ar, cr, rfl, hres, hb2⟩⟩, hdv⟩)
      go_roundw
      case rel =>
        exact ⟨b, r, A', Ar, c', cr, rfl, rfl, (rb.out.below hb2).mono hb2.size, hres.rd, lb, (show _ ≤ _ from Nat.le_trans (Nat.le_of_lt hdv.lt) lb.out), Hnb.out, hdv.nr, (show ∀ g, _ → _ from fun g h => hG.out g (Gc.step hdv h)), Hbel.out.trans (hb2.mono Hbel.out.size)⟩
      case measure => have := hdv.lt; simpa using this
end
section
section
variable {p : Nat}
/-- r is the rest of z by m. -/
structure Rs (p : Nat) (m : List Nat) (z : Z) (r : List Nat) : Prop where
  nf : Nf p r
  lt : r.length < m.length
  eq : ∃ u : Z, Cg p z (u * zo m + zo r)
theorem Rs.of_dv {m : List Nat} {z : Z} {q r : List Nat} (h : Dv p z (zo m) m.length q r) : Rs p m z r := ⟨h.nr, h.lt, zo q, h.eq⟩
theorem Rs.unique (hp : Pr p) {m : List Nat} {z z' : Z} {r r' : List Nat} (hm : Nf p m) (h : Rs p m z r) (h' : Rs p m z' r') (he : ∃ u : Z, Cg p z (u * zo m + z')) : r = r' := by
  obtain ⟨u, hu⟩ := h.eq
  obtain ⟨u', hu'⟩ := h'.eq
  obtain ⟨v, hv⟩ := he
  obtain ⟨q, nq, hq⟩ := nf_of hp.pos u
  obtain ⟨q', nq', hq'⟩ := nf_of hp.pos (v + u')
  have d1 : Dv p z (zo m) m.length q r := ⟨nq, h.nf, h.lt, hu.lin2 hq (.c 1) (.c (-1) * zo m) fun x => by simp only [Z.v_add, Z.v_mul, Z.v_c]; grind⟩
  have d2 : Dv p z (zo m) m.length q' r' := ⟨nq', h'.nf, h'.lt, (hv.lin2 hu' (.c 1) (.c 1) fun x => by simp only [Z.v_add, Z.v_mul, Z.v_c]; grind : Cg p z ((v + u') * zo m + zo r')).lin2 hq' (.c 1) (.c (-1) * zo m) fun x => by simp only [Z.v_add, Z.v_mul, Z.v_c]; grind⟩
  exact (Dv.unique hp hm d1 d2 (Cg.refl z)).2
theorem Rs.cg {m : List Nat} {z z' : Z} {r : List Nat} (h : Rs p m z r) (he : ∃ u : Z, Cg p z' (u * zo m + z)) : Rs p m z' r := by
  obtain ⟨u, hu⟩ := h.eq
  obtain ⟨v, hv⟩ := he
  exact ⟨h.nf, h.lt, v + u, hv.lin2 hu (.c 1) (.c 1) fun x => by simp only [Z.v_add, Z.v_mul, Z.v_c]; grind⟩
theorem Rs.of_cg {m : List Nat} {z z' : Z} {r : List Nat} (h : Rs p m z r) (he : Cg p z' z) : Rs p m z' r := h.cg ⟨.c 0, he.trans (Cg.of_eq fun x => by simp only [Z.v_add, Z.v_mul, Z.v_c]; grind)⟩
theorem Rs.mul {m : List Nat} {z1 z2 : Z} {r1 r2 r : List Nat} (h1 : Rs p m z1 r1) (h2 : Rs p m z2 r2) (h : Rs p m (zo r1 * zo r2) r) : Rs p m (z1 * z2) r := by
  obtain ⟨u1, e1⟩ := h1.eq
  obtain ⟨u2, e2⟩ := h2.eq
  refine h.cg ⟨u1 * u2 * zo m + u1 * zo r2 + u2 * zo r1, e1.lin2 e2 z2 (u1 * zo m + zo r1) fun x => by simp only [Z.v_add, Z.v_mul]; grind⟩
theorem Rs.add {m : List Nat} {z1 z2 : Z} {r1 r2 r : List Nat} (h1 : Rs p m z1 r1) (h2 : Rs p m z2 r2) (h : Rs p m (zo r1 + zo r2) r) : Rs p m (z1 + z2) r := by
  obtain ⟨u1, e1⟩ := h1.eq
  obtain ⟨u2, e2⟩ := h2.eq
  refine h.cg ⟨u1 + u2, e1.lin2 e2 (.c 1) (.c 1) fun x => by simp only [Z.v_add, Z.v_mul, Z.v_c]; grind⟩
theorem Z.pow_two_mul (a : Z) (n : Nat) (x : Int) : (a.pow (2 * n)).v x = (a.pow n * a.pow n).v x := by
  rw [Z.v_mul, Z.v_pow, Z.v_pow, ← Int.pow_add]; congr 1; omega
theorem Z.pow_succ_v (a : Z) (n : Nat) (x : Int) : (a.pow (n + 1)).v x = (a.pow n * a).v x := rfl
/-- A power's next bit. -/
theorem Rs.sq {m : List Nat} {a : Z} {e : Nat} {o r : List Nat} (h : Rs p m (a.pow e) o) (hr : Rs p m (zo o * zo o) r) : Rs p m (a.pow (2 * e)) r := (h.mul h hr).of_cg (Cg.of_eq fun x => Z.pow_two_mul a e x)
theorem Rs.sq1 {m : List Nat} {a : Z} {e : Nat} {o a1 r : List Nat} (h : Rs p m (a.pow e) o) (ha : Rs p m a a1) (hr : Rs p m (zo o * zo a1) r) : Rs p m (a.pow (e + 1)) r := (h.mul ha hr).of_cg (Cg.refl _)
theorem Rs.none_ {m : List Nat} (nm : m ≠ []) : Rs p m (zo []) [] := ⟨Nf.nil_ p, len_pos nm, .c 0, Cg.of_eq fun x => by simp only [Z.v_add, Z.v_mul, Z.v_c, zo_nil]; grind⟩
end
end
end Go.Proofs.YtddhhndnkjajmaaDoor
