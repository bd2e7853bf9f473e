/- The contract of byHalves, given that of product for fewer words. The contract of carried. Conditions: the number fits in the places. The contract of scatter. Conditions: the length is a power of two, the roots are half as many. The contract of gather. Conditions: the length is a power of two, the roots are half as many. -/
import Derived.Test.YtadpelhmjmamnaaGreatDoorPkCf19
import Derived.Test.YtadpelhmjmamnaaGreatDoorPkCf21
import Derived.Test.YtadpelhmjmamnaaGreatDoorPkCf18
import Derived.IntWalk
namespace Go.Proofs.YtadpelhmjmamnaaGreatDoor
section
open Go.RowKit

theorem ProdOk.mono {m n : Nat} (h : ProdOk n) (hm : m ≤ n) : ProdOk m := fun A A2 c c2 us vs w B hl => h A A2 c c2 us vs w B (by omega)

theorem halves_end {b h N q aL aH bL bH m2 P : Nat} {zs zr lo hi : List Nat} (hzs : zs = lo ++ hi) (hll : lo.length = 2 * h) (hhl : 2 * h + hi.length = h + N) (hlo : val b lo = aL * bL) (hhi : val b hi = aH * bH) (hm2 : m2 = aL * bH + aH * bL) (hP : P = (aL + b ^ h * aH) * (bL + b ^ h * bH)) (hPT : P < b ^ (h + N))
    (hrl : zr.length = N) (hz : val b zr + b ^ N * q = val b ((zs.drop h).take N) + m2) : val b (patch zs h zr) = P := by
  subst hrl
  have hzl : h + zr.length = zs.length := by rw [hzs, List.length_append]; omega
  have h1 := patch_val b (L := zs) (o := h) (zs := zr) (by omega)
  have h2 : b ^ h * val b zr + b ^ (h + zr.length) * q = b ^ h * val b ((zs.drop h).take zr.length) + b ^ h * m2 := by
    rw [Nat.pow_add, Nat.mul_assoc, ← Nat.mul_add, hz, Nat.mul_add]
  have h3 : val b zs = aL * bL + b ^ (2 * h) * (aH * bH) := by rw [hzs, val_append, hll, hlo, hhi]
  have h4 : P = aL * bL + b ^ h * m2 + b ^ (2 * h) * (aH * bH) := by
    rw [hP, hm2, show b ^ (2 * h) = b ^ h * b ^ h from by rw [← Nat.pow_add]; congr 1; omega]
    generalize b ^ h = t
    grind
  have h5 : val b (patch zs h zr) + b ^ (h + zr.length) * q = P := by
    rw [h4]
    generalize b ^ (h + zr.length) * q = t1 at *
    generalize b ^ (2 * h) * (aH * bH) = t2 at *
    omega
  exact carry_zero2 h5 hPT
theorem mixed_lt {b h la lb aL aH bL bH : Nat} (hb : 2 ≤ b) (h1 : aL < b ^ h) (h2 : aH < b ^ (la - h)) (h3 : bL < b ^ h) (h4 : bH < b ^ (lb - h)) (hl : h < lb) (hl2 : lb ≤ la) : aL * bH + aH * bL < b ^ (la + lb - h) := by
  have e1 : aL * bH < b ^ lb := by
    rw [show b ^ lb = b ^ h * b ^ (lb - h) from by rw [← Nat.pow_add]; congr 1; omega]
    exact Nat.mul_lt_mul_of_lt_of_le h1 (Nat.le_of_lt h4) (Nat.pow_pos (by omega))
  have e2 : aH * bL < b ^ la := by
    rw [show b ^ la = b ^ (la - h) * b ^ h from by rw [← Nat.pow_add]; congr 1; omega]
    exact Nat.mul_lt_mul_of_lt_of_le h2 (Nat.le_of_lt h3) (Nat.pow_pos (by omega))
  have e3 : b ^ lb ≤ b ^ la := Nat.pow_le_pow_right (by omega) hl2
  exact Nat.lt_of_lt_of_le (sum_lt hb (Nat.lt_of_lt_of_le e1 e3) e2) (Nat.pow_le_pow_right (by omega) (by omega))
theorem trimL_len_le {b : Nat} {xs : List Nat} {N : Nat} (hb : 2 ≤ b) (hd : Dig b xs) (h : val b xs < b ^ N) : (trimL xs).length ≤ N := by
  have hn := Num.of_trim hd
  by_cases h0 : trimL xs = []
  · rw [h0]; simp
  · have h1 := hn.ge h0
    have h2 : b ^ ((trimL xs).length - 1) < b ^ N := Nat.lt_of_le_of_lt h1 h
    have h3 := (Nat.pow_lt_pow_iff_right (by omega)).1 h2
    omega
theorem take_mixed {b n x y : Nat} {zs : List Nat} {q : Nat} (h : val b zs + y = x + b ^ n * q) (hz : Dig b zs) (hl : zs.length = n) (hy : y ≤ x) : val b zs = x - y := by
  have h1 := val_lt b zs hz
  rw [hl] at h1
  have h2 := borrow_none h h1 hy
  rw [h2, Nat.mul_zero] at h
  omega

theorem mixed_eq (aL aH bL bH : Nat) : (aL + aH) * (bL + bH) = aL * bL + aH * bH + (aL * bH + aH * bL) := by grind
theorem patch_two (n : Nat) (lo hi : List Nat) (h : lo.length + hi.length = n) : patch (patch (List.replicate n 0) 0 lo) lo.length hi = lo ++ hi := by
  subst h
  simp [patch, List.drop_append, List.drop_replicate]

/-- Two rows that are kept. -/
def Keep2 (w : World) (g1 : Nat) (l1 : List Nat) (g2 : Nat) (l2 : List Nat) (W : World) : Prop := Blk W g1 84 (u64s l1) ∧ Blk W g2 84 (u64s l2) ∧ Below w.heap.size w W
section
variable {w W W' : World} {g1 g2 : Nat} {l1 l2 : List Nat}
theorem Keep2.next (h : Keep2 w g1 l1 g2 l2 W) (hb : Below W.heap.size W W') : Keep2 w g1 l1 g2 l2 W' :=
  ⟨h.1.below hb h.1.lt, h.2.1.below hb h.2.1.lt, h.2.2.trans (hb.mono h.2.2.size)⟩
theorem Keep2.drew (h : Keep2 w g1 l1 g2 l2 W) : Keep2 w g1 l1 g2 l2 W.drew := ⟨h.1, h.2.1, h.2.2.drew⟩
theorem Keep2.tn {g : Nat} (h : Keep2 w g1 l1 g2 l2 W) (ht : Tn g W W') (n1 : g ≠ g1) (n2 : g ≠ g2) (hg : w.heap.size ≤ g) : Keep2 w g1 l1 g2 l2 W' :=
  ⟨h.1.tn ht n1.symm, h.2.1.tn ht n2.symm, h.2.2.trans (ht.below hg h.2.2.size)⟩
theorem Keep2.b (h : Keep2 w g1 l1 g2 l2 W) : Below w.heap.size w W := h.2.2
end
theorem Rx.trim_ {w : World} {g : Nat} {A : Option Addr} {xs : List Nat} (h : Rx w g A (u64s xs)) : Rx w g A (u64s (trimL xs)) := fun hn => by
  obtain ⟨b, off, e, hb, hg, hc⟩ := h (by intro e; apply hn; rw [u64s_trim, e]; simp)
  refine ⟨b, off, e, hb, hg, fun k v hv => hc k v ?_⟩
  rw [u64s_trim, List.getElem?_take] at hv
  split at hv
  · exact hv
  · cases hv
theorem rx_whole {w : World} {g b : Nat} {L : List Nat} (h : Blk w b 84 (u64s L)) (hg : b ≠ g) : Rx w g (some ⟨b, 0, none⟩) (u64s L) := Rx.of_blk h hg 0 (fun k v hv => by rw [Nat.zero_add]; exact hv)
theorem drop_take_all (L : List Nat) (n : Nat) (h : n = L.length) : (L.drop 0).take n = L := by subst h; simp

set_option maxHeartbeats 3200000 in
set_option maxRecDepth 100000 in
theorem byHalves_any (A A2 : Option Addr) (c c2 : Nat) (us vs : List Nat) (w : World) (B : Nat) (hIH : ProdOk (us.length + vs.length - 1)) (hr : Rd w B A (u64s us)) (hr2 : Rd w B A2 (u64s vs)) (hB : B ≤ w.heap.size) (hd : Dig 18446744073709551616 us) (hd2 : Dig 18446744073709551616 vs) (hc : us.length ≤ c) (hc2 : vs.length ≤ c2) (h40 : 40 ≤ vs.length) (hle : vs.length ≤ us.length) (hle2 : us.length ≤ 2 * vs.length) (hm : us.length + vs.length ≤ 536870912) :
    Calls Tryz.prog 146 #[.slice A us.length c, .slice A2 vs.length c2] w fun e w' => Words w w' (us.length + vs.length) (val 18446744073709551616 us * val 18446744073709551616 vs) e := by
  obtain ⟨h, hh⟩ : ∃ h, h = (us.length + 1) / 2 := ⟨_, rfl⟩
  have q1 : ((us.length : Int) + 1) / 2 = (h : Int) := by omega
  have q2 : ((us.length : Int) + 1).tdiv 2 = (h : Int) := by rw [Int.tdiv_eq_ediv_of_nonneg (by omega)]; omega
  have hh1 : us.length ≤ 2 * h := by omega
  have hh2 : 2 * h ≤ us.length + 1 := by omega
  have hh3 : h ≤ us.length := by omega
  clear hh
  rcases Nat.lt_or_ge h vs.length with hv | hv
  rotate_left
  · have t1 : decide (vs.length ≤ h) = true := by simpa using hv
    have hpw := piecewise_any A A2 c c2 us vs w B (hIH.mono (by omega)) hr hr2 hB hd hd2 hc hc2 (by omega) hle hm
    have Hpw := Lib.hid hpw
    clear hpw hIH
    go_enter Tryz.func146, Tryz.ntmps146
    go_wp2_with (go_at_call 145; refine Hpw.out.mono ?_; rintro e w1 ⟨zs, g, rfl, hzl, hzd, hzv, hg, hblk, hbel⟩; have Hzl := Lib.hid hzl; clear hzl)
    go_ret
    exact ⟨zs, g, rfl, Hzl.out, hzd, hzv, hg, hblk, hbel⟩
  have t1 : decide (vs.length ≤ h) = false := by simp; omega
  obtain ⟨b, off, rfl, hbB, _⟩ := hr.at64 (k := 0) (by omega)
  obtain ⟨b2, off2, rfl, hbB2, _⟩ := hr2.at64 (k := 0) (by omega)
  -- the halves
  obtain ⟨uL, huL⟩ : ∃ x, x = us.take h := ⟨_, rfl⟩
  obtain ⟨uH, huH⟩ : ∃ x, x = us.drop h := ⟨_, rfl⟩
  obtain ⟨vL, hvL⟩ : ∃ x, x = vs.take h := ⟨_, rfl⟩
  obtain ⟨vH, hvH⟩ : ∃ x, x = vs.drop h := ⟨_, rfl⟩
  have luL : uL.length = h := by rw [huL, List.length_take]; omega
  have luH : uH.length = us.length - h := by rw [huH, List.length_drop]
  have lvL : vL.length = h := by rw [hvL, List.length_take]; omega
  have lvH : vH.length = vs.length - h := by rw [hvH, List.length_drop]
  have duL : Dig 18446744073709551616 uL := by rw [huL]; exact hd.take_ _
  have duH : Dig 18446744073709551616 uH := by rw [huH]; exact hd.drop_ _
  have dvL : Dig 18446744073709551616 vL := by rw [hvL]; exact hd2.take_ _
  have dvH : Dig 18446744073709551616 vH := by rw [hvH]; exact hd2.drop_ _
  have ruL : Rd w B (some ⟨b, off, none⟩) (u64s uL) := by rw [huL]; exact hr.takeN _
  have ruH : Rd w B (some ⟨b, off + h, none⟩) (u64s uH) := by rw [huH]; exact hr.drop_ h
  have rvL : Rd w B (some ⟨b2, off2, none⟩) (u64s vL) := by rw [hvL]; exact hr2.takeN _
  have rvH : Rd w B (some ⟨b2, off2 + h, none⟩) (u64s vH) := by rw [hvH]; exact hr2.drop_ h
  have eu : val 18446744073709551616 us = val 18446744073709551616 uL + 18446744073709551616 ^ h * val 18446744073709551616 uH := by
    conv => lhs; rw [← List.take_append_drop h us, val_append]
    rw [← huL, ← huH, luL]
  have ev : val 18446744073709551616 vs = val 18446744073709551616 vL + 18446744073709551616 ^ h * val 18446744073709551616 vH := by
    conv => lhs; rw [← List.take_append_drop h vs, val_append]
    rw [← hvL, ← hvH, lvL]
  have hPT := prod_lt hd hd2 (by omega)
  have bL1 := val_lt _ uL duL
  have bH1 := val_lt _ uH duH
  have bL2 := val_lt _ vL dvL
  have bH2 := val_lt _ vH dvH
  rw [luL] at bL1
  rw [luH] at bH1
  rw [lvL] at bL2
  rw [lvH] at bH2
  have hmx := mixed_lt (by omega) bL1 bH1 bL2 bH2 hv hle
  obtain ⟨aL, haL⟩ : ∃ x, x = val 18446744073709551616 uL := ⟨_, rfl⟩
  obtain ⟨aH, haH⟩ : ∃ x, x = val 18446744073709551616 uH := ⟨_, rfl⟩
  obtain ⟨bL, hbL⟩ : ∃ x, x = val 18446744073709551616 vL := ⟨_, rfl⟩
  obtain ⟨bH, hbH⟩ : ∃ x, x = val 18446744073709551616 vH := ⟨_, rfl⟩
  rw [← haL, ← haH] at eu
  rw [← hbL, ← hbH] at ev
  rw [← haL, ← haH, ← hbL, ← hbH] at hmx
  have Hlow : Hid (∀ W, Below w.heap.size w W → Calls Tryz.prog 118 #[.slice (some ⟨b, off, none⟩) h c, .slice (some ⟨b2, off2, none⟩) h c2] W fun e w' => Words W w' (h + h) (aL * bL) e) := fun W hW => by
    have := hIH _ _ c c2 uL vL W B (by omega) (ruL.below (hW.mono hB)) (rvL.below (hW.mono hB)) (Nat.le_trans hB hW.size) duL dvL (by omega) (by omega) (by omega)
    rw [luL, lvL, ← haL, ← hbL] at this; exact this
  have Hhigh : Hid (∀ W, Below w.heap.size w W → Calls Tryz.prog 118 #[.slice (some ⟨b, off + h, none⟩) (us.length - h) (c - h), .slice (some ⟨b2, off2 + h, none⟩) (vs.length - h) (c2 - h)] W fun e w' => Words W w' (us.length - h + (vs.length - h)) (aH * bH) e) := fun W hW => by
    have := hIH _ _ (c - h) (c2 - h) uH vH W B (by omega) (ruH.below (hW.mono hB)) (rvH.below (hW.mono hB)) (Nat.le_trans hB hW.size) duH dvH (by omega) (by omega) (by omega)
    rw [luH, lvH, ← haH, ← hbH] at this; exact this
  have Hsa : Hid (∀ W, Below w.heap.size w W → Calls Tryz.prog 158 #[.slice (some ⟨b, off, none⟩) h c, .slice (some ⟨b, off + h, none⟩) (us.length - h) (c - h)] W fun e w' => Words W w' (h + 1) (aL + aH) e) := fun W hW => by
    have := sumOf_any (some ⟨b, off, none⟩) (some ⟨b, off + h, none⟩) c (c - h) uL uH W B (ruL.below (hW.mono hB)) (ruH.below (hW.mono hB)) (Nat.le_trans hB hW.size) duL duH (by omega) (by omega)
    rw [luL, luH, ← haL, ← haH] at this; exact this
  have Hsb : Hid (∀ W, Below w.heap.size w W → Calls Tryz.prog 158 #[.slice (some ⟨b2, off2, none⟩) h c2, .slice (some ⟨b2, off2 + h, none⟩) (vs.length - h) (c2 - h)] W fun e w' => Words W w' (h + 1) (bL + bH) e) := fun W hW => by
    have := sumOf_any (some ⟨b2, off2, none⟩) (some ⟨b2, off2 + h, none⟩) c2 (c2 - h) vL vH W B (rvL.below (hW.mono hB)) (rvH.below (hW.mono hB)) (Nat.le_trans hB hW.size) dvL dvH (by omega) (by omega)
    rw [lvL, lvH, ← hbL, ← hbH] at this; exact this
  have Hm : Hid (∀ (W : World) (sa sb : List Nat) (ga gb : Nat), Blk W ga 84 (u64s sa) → Blk W gb 84 (u64s sb) → sa.length = h + 1 → sb.length = h + 1 → Dig 18446744073709551616 sa → Dig 18446744073709551616 sb → Calls Tryz.prog 118 #[.slice (some ⟨ga, 0, none⟩) sa.length sa.length, .slice (some ⟨gb, 0, none⟩) sb.length sb.length] W fun e w' => Words W w' (h + 1 + (h + 1)) (val 18446744073709551616 sa * val 18446744073709551616 sb) e) := fun W sa sb ga gb ha hb la lb da db => by
    have := hIH (some ⟨ga, 0, none⟩) (some ⟨gb, 0, none⟩) sa.length sb.length sa sb W W.heap.size (by omega) (Rd.of_blk ha ha.lt 0 (fun k v hv => by rw [Nat.zero_add]; exact hv)) (Rd.of_blk hb hb.lt 0 (fun k v hv => by rw [Nat.zero_add]; exact hv)) (Nat.le_refl _) da db (Nat.le_refl _) (Nat.le_refl _) (by omega)
    rw [la, lb] at this ⊢; exact this
  have Heu := Lib.hid eu
  have Hev := Lib.hid ev
  have Hmx := Lib.hid hmx
  have HPT := Lib.hid hPT
  have hmk := fun W => mk64a us.length vs.length (by omega) W
  have i1 : (h : Int) ≤ (us.length : Int) := by omega
  have i2 : (h : Int) ≤ (vs.length : Int) := by omega
  have i3 : (h : Int) ≤ (c : Int) := by omega
  have i4 : (h : Int) ≤ (c2 : Int) := by omega
  have i5 : h ≤ c := by omega
  have i6 : h ≤ c2 := by omega
  have i7 : h ≤ vs.length := by omega
  have i8 : ¬ (c = h) := by omega
  have i9 : ¬ (c2 = h) := by omega
  clear eu ev hmx hPT bL1 bH1 bL2 bH2 huL huH hvL hvH luL luH lvL lvH duL duH dvL dvH ruL ruH rvL rvH haL haH hbL hbH hIH hd hd2 hr hr2
  go_enter Tryz.func146, Tryz.ntmps146
  go_upto_region 4 with (fail)
  go_cut [6] (fun s wc => ∃ lo gl, s = .slice (some ⟨gl, 0, none⟩) lo.length lo.length ∧ lo.length = h + h ∧ Dig 18446744073709551616 lo ∧ Hid (val 18446744073709551616 lo = aL * bL) ∧ w.heap.size ≤ gl ∧ Blk wc gl 84 (u64s lo) ∧ Below w.heap.size w wc)
  case first =>
    go_region_held3 (fun _ => True) (exact trivial) (first
      | (go_at_call 118; refine (Hlow.out _ (by first | exact Below.refl _ _ | exact (Below.refl _ _).drew)).mono ?_; rintro e w1 ⟨ps, g1, rfl, hpsl, hpsd, hpsv, hg1, hres, hb1⟩; have Hpsl := Lib.hid hpsl; have Hpsv := Lib.hid hpsv; clear hpsl hpsv))
    all_goals
      go_wp2_with fail
      go_meet
      exact ⟨ps, g1, rfl, Hpsl.out, hpsd, Hpsv.out, hg1, hres, by first | exact hb1 | exact (Below.refl _ _).drew.trans hb1⟩
  case rest =>
    obtain ⟨lo, gl, rfl, hlol, hlod, Hlov, hgl, hblo, hbel⟩ := hcut
    have Hlol := Lib.hid hlol
    clear hlol
    go_upto_region 5 with (fail)
    go_cut [7] (fun s wd => ∃ hi gh, s = .slice (some ⟨gh, 0, none⟩) hi.length hi.length ∧ hi.length = us.length - h + (vs.length - h) ∧ Dig 18446744073709551616 hi ∧ Hid (val 18446744073709551616 hi = aH * bH) ∧ w.heap.size ≤ gh ∧ Keep2 w gl lo gh hi wd)
    case first =>
      have hbs := hbel.size
      go_region_held3 (fun _ => True) (exact trivial) (first
        | (go_at_call 118; refine (Hhigh.out _ (by first | exact hbel | exact hbel.drew)).mono ?_; rintro e w1 ⟨ps, g1, rfl, hpsl, hpsd, hpsv, hg1, hres, hb1⟩; have Hpsl := Lib.hid hpsl; have Hpsv := Lib.hid hpsv; clear hpsl hpsv))
      all_goals
        go_wp2_with fail
        go_meet
        exact ⟨ps, g1, rfl, Hpsl.out, hpsd, Hpsv.out, Nat.le_trans hbs hg1, by first | exact hblo.below hb1 hblo.lt | exact hblo.drew.below hb1 hblo.lt, hres, by first | exact hbel.trans (hb1.mono hbs) | exact hbel.drew.trans (hb1.mono hbs)⟩
    case rest =>
      clear hblo hbel
      obtain ⟨hi, gh, rfl, hhil, hhid, Hhiv, hgh, hK⟩ := hcut
      have Hhil := Lib.hid hhil
      clear hhil
      go_upto_region 6 with (fail)
      go_cut [8] (fun s wd => ∃ mi gm, s = .slice (some ⟨gm, 0, none⟩) mi.length mi.length ∧ mi.length = h + 1 + (h + 1) ∧ Dig 18446744073709551616 mi ∧ Hid (val 18446744073709551616 mi = (aL + aH) * (bL + bH)) ∧ w.heap.size ≤ gm ∧ gm ≠ gl ∧ gm ≠ gh ∧ Blk wd gm 84 (u64s mi) ∧ Keep2 w gl lo gh hi wd)
      case first =>
        have HK := Lib.hid hK
        clear hK
        go_region_held3 (fun _ => True) (exact trivial) (first
          | (go_at_call 158; (with_reducible refine (Hsa.out _ (by first | exact HK.out.b | exact HK.out.drew.b | exact HKb.out.b | exact HKb.out.drew.b)).mono ?_); rintro e wa ⟨sa, ga, rfl, hsal, hsad, hsav, hga, hbka, hBa⟩; have HKa := Lib.hid (show Keep2 w gl lo gh hi wa from (by first | exact HK.out.next hBa | exact HK.out.drew.next hBa | exact HKb.out.next hBa | exact HKb.out.drew.next hBa)); have Hsal := Lib.hid hsal; have Hsav := Lib.hid hsav; have Hbka := Lib.hid hbka; clear hsal hsav hbka)
          | (go_at_call 158; (with_reducible refine (Hsb.out _ (by first | exact HK.out.b | exact HK.out.drew.b | exact HKa.out.b | exact HKa.out.drew.b)).mono ?_); rintro e wb ⟨sb, gb, rfl, hsbl, hsbd, hsbv, hgb, hbkb, hBb⟩; have HKb := Lib.hid (show Keep2 w gl lo gh hi wb from (by first | exact HK.out.next hBb | exact HK.out.drew.next hBb | exact HKa.out.next hBb | exact HKa.out.drew.next hBb)); have Hsbl := Lib.hid hsbl; have Hsbv := Lib.hid hsbv; have Hbkb := Lib.hid hbkb; clear hsbl hsbv hbkb)
          | (go_at_call 118; (with_reducible refine (Hm.out _ sa sb ga gb (by first | exact Hbka.out | exact Hbka.out.drew | exact Hbka.out.below hBb Hbka.out.lt | exact Hbka.out.drew.below hBb Hbka.out.lt | exact (Hbka.out.below hBb Hbka.out.lt).drew | exact (Hbka.out.drew.below hBb Hbka.out.lt).drew) (by first | exact Hbkb.out | exact Hbkb.out.drew | exact Hbkb.out.below hBa Hbkb.out.lt | exact Hbkb.out.drew.below hBa Hbkb.out.lt | exact (Hbkb.out.below hBa Hbkb.out.lt).drew | exact (Hbkb.out.drew.below hBa Hbkb.out.lt).drew) Hsal.out Hsbl.out hsad hsbd).mono ?_); rintro e wm ⟨mi, gm, rfl, hml, hmd, hmv, hgm, hbkm, hBm⟩; have HKl := Lib.hid (show ∃ W, Keep2 w gl lo gh hi W ∧ W.heap.size ≤ gm ∧ Below W.heap.size W wm from (by first | exact ⟨_, HKa.out, hgm, hBm⟩ | exact ⟨_, HKb.out, hgm, hBm⟩ | exact ⟨_, HKa.out.drew, hgm, hBm⟩ | exact ⟨_, HKb.out.drew, hgm, hBm⟩)); have Hml := Lib.hid hml; have Hmv := Lib.hid hmv; clear hml hmv))
        all_goals
          go_wp2_with fail
          go_meet
          obtain ⟨W, hKW, hgW, hBW⟩ := HKl.out
          have g1 := hKW.1.lt
          have g2 := hKW.2.1.lt
          have g3 := hKW.2.2.size
          exact ⟨mi, gm, rfl, Hml.out, hmd, by rw [Hmv.out, Hsav.out, Hsbv.out]; exact rfl, by omega, by omega, by omega, hbkm, hKW.next hBW⟩
      case rest =>
        clear hK
        obtain ⟨mi, gm, rfl, hmil, hmid, Hmiv, hgm, hne1, hne2, hbm, hK⟩ := hcut
        have Hmil := Lib.hid hmil
        clear hmil Hlow Hhigh Hsa Hsb Hm
        go_wp2_with fail
        refine (takeFrom_any gm 0 mi.length mi.length mi lo (some ⟨gl, 0, none⟩) lo.length _ hbm (rx_whole hK.1 hne1.symm) (by omega) (by have := Hmil.out; have := Hlol.out; omega) hmid hlod (by have := Hmil.out; omega)).mono ?_
        rintro e w2 ⟨zr, q, rfl, hrl, hrd, hq, hrv, hblk2, htn⟩
        rw [drop_take_all mi mi.length rfl] at hrv
        rw [patch_zero_all hrl] at hblk2
        have hmx2 := mixed_eq aL aH bL bH
        rw [← Hmiv.out, ← Hlov.out, ← Hhiv.out] at hmx2
        have hv2 := take_mixed hrv hrd hrl (by omega)
        have hK2 := hK.tn htn hne1 hne2 hgm
        have Hv2 := Lib.hid hv2
        have Hrl := Lib.hid hrl
        have Hmx2 := Lib.hid hmx2
        clear hrv hv2 hrl hmx2 hbm hK htn
        go_wp2_with fail
        refine (takeFrom_any gm 0 mi.length mi.length zr hi (some ⟨gh, 0, none⟩) hi.length _ hblk2 (rx_whole hK2.2.1 hne2.symm) (by rw [Hrl.out]; omega) (by have := Hmil.out; have := Hhil.out; omega) hrd hhid (by have := Hmil.out; omega)).mono ?_
        rintro e w3 ⟨m2, q2, rfl, hml, hmd2, hq2, hmv, hblk3, htn2⟩
        rw [drop_take_all zr mi.length Hrl.out.symm] at hmv
        rw [patch_zero_all (hml.trans Hrl.out.symm)] at hblk3
        have hv3 := take_mixed hmv hmd2 hml (by rw [Hv2.out]; have := Hmx2.out; omega)
        have hm2v := Lib.hid (show val 18446744073709551616 m2 = aL * bH + aH * bL from by rw [hv3, Hv2.out]; have := Hmx2.out; omega)
        have hK3 := hK2.tn htn2 hne1 hne2 hgm
        have Hml := Lib.hid hml
        clear hmv hv3 hml hblk2 hK2 htn2 Hv2 Hmx2 hrd Hrl Hmiv
        have hlol := Hlol.out
        have hhil := Hhil.out
        have hll : lo.length = 2 * h := by omega
        have Hll := Lib.hid hll
        have hlh : 2 * h + hi.length = us.length + vs.length := by omega
        have Hlh := Lib.hid hlh
        clear hlol hhil hll hlh
        have j1 : (2 : Int) * (h : Int) ≤ (us.length : Int) + (vs.length : Int) := by omega
        have j2 : ¬ (us.length + vs.length = 2 * h) := by omega
        have j3 : (h : Int) ≤ (us.length : Int) + (vs.length : Int) := by omega
        have j4 : ¬ (us.length + vs.length = h) := by omega
        have j5 : h ≤ us.length + vs.length := by omega
        have j6 : 2 * h ≤ us.length + vs.length := by omega
        go_upto_region 11 with ((with_reducible refine wpList_copy_splice (o := ⟨some 64, _, _, _, _, _⟩) rfl _ _ _ _ rfl 84 Tryz.underlying146 ?u1 _ _ _ _ _ _ rfl rfl w3.heap.size 0 (u64s (List.replicate (us.length + vs.length) 0)) 84 ?c1 (u64s lo) ?c2 ?c3 ?c4 ?c5 w3.heap.size w3 ?c6 (Nat.le_refl _) ?_); rotate_right; intro w4 hg4 hb4)
        case u1 => kernel_rfl
        case c1 => exact Blk.new_ (by simp [u64s])
        case c2 => rw [u64s_length]; exact (Nat.min_eq_left (by have := Hll.out; omega)).symm
        case c3 =>
          intro _ j v hv
          rw [World.cell?_alloc_past _ _ _ (by show gl < _; exact hK3.1.lt), hK3.1.cell]
          exact hv
        case c4 => rw [u64s_length, u64s_length, List.length_replicate]; have := Hll.out; omega
        case c5 => exact one_u64s lo
        case c6 => exact (Below.refl _ _).alloc (Nat.le_refl _) _
        have Hg4 := Lib.hid (show Blk w4 w3.heap.size 84 (u64s (patch (List.replicate (us.length + vs.length) 0) 0 lo)) from by rw [← u64s_splice]; exact hg4.out)
        have hpl0 : (patch (List.replicate (us.length + vs.length) 0) 0 lo).length = us.length + vs.length := by rw [patch_length (by rw [List.length_replicate]; have := Hll.out; omega), List.length_replicate]
        have Hpl0 := Lib.hid hpl0
        clear hg4 hpl0
        go_upto_region 12 with ((with_reducible refine wpList_copy_splice (o := ⟨some 70, _, _, _, _, _⟩) rfl _ _ _ _ rfl 84 Tryz.underlying146 ?u1 _ _ _ _ _ _ rfl rfl w3.heap.size (2 * h) (u64s (patch (List.replicate (us.length + vs.length) 0) 0 lo)) 84 ?d2 (u64s hi) ?d3 ?d4 ?d5 ?d6 w3.heap.size w3 ?d7 (Nat.le_refl _) ?_); rotate_right; intro w5 hg5 hb5)
        case u1 => kernel_rfl
        case d2 => exact Hg4.out
        case d3 => rw [u64s_length]; exact (Nat.min_eq_left (by have := Hlh.out; omega)).symm
        case d4 =>
          intro _ j v hv
          have hk4 := hK3.2.1.below hb4 hK3.2.1.lt
          rw [hk4.cell]
          exact hv
        case d5 => rw [u64s_length, u64s_length, Hpl0.out]; have := Hlh.out; omega
        case d6 => exact one_u64s hi
        case d7 => exact hb4
        have hblk5 : Blk w5 w3.heap.size 84 (u64s (lo ++ hi)) := by
          have := hg5.out
          rw [u64s_splice, ← Hll.out, patch_two _ _ _ (by rw [Hll.out]; exact Hlh.out)] at this
          exact this
        have hbm5 := hblk3.below hb5 hblk3.lt
        have hgm3 := hblk3.lt
        have hne3 : gm ≠ w3.heap.size := by omega
        have hlen : (lo ++ hi).length = us.length + vs.length := by rw [List.length_append, Hll.out]; exact Hlh.out
        have Hlen := Lib.hid hlen
        have htl : (trimL m2).length ≤ us.length + vs.length - h := trimL_len_le (by omega) hmd2 (by rw [hm2v.out]; exact Hmx.out)
        have Htrim : Hid (∀ W, Blk W gm 84 (u64s m2) → Calls Tryz.prog 142 #[.slice (some ⟨gm, 0, none⟩) mi.length mi.length] W fun e w' => e = .returned (.slice (some ⟨gm, 0, none⟩) (trimL m2).length mi.length) ∧ W = w') := fun W hW => by
          have := trimWords_any (some ⟨gm, 0, none⟩) mi.length m2 W W.heap.size (Rd.of_blk hW hW.lt 0 (fun k v hv => by rw [Nat.zero_add]; exact hv)) (by rw [Hml.out]; exact Nat.le_refl _) (by rw [Hml.out, Hmil.out]; omega)
          rw [Hml.out] at this
          exact this
        have Hadd : Hid (∀ W, Blk W w3.heap.size 84 (u64s (lo ++ hi)) → Blk W gm 84 (u64s m2) → Calls Tryz.prog 157 #[.slice (some ⟨w3.heap.size, h, none⟩) (us.length + vs.length - h) (us.length + vs.length - h), .slice (some ⟨gm, 0, none⟩) (trimL m2).length mi.length] W fun e w' => ∃ (zs : List Nat) (q : Nat), e = .returned (.int .u64 (q : Int)) ∧ zs.length = us.length + vs.length - h ∧ Dig 18446744073709551616 zs ∧ q ≤ 1 ∧ val 18446744073709551616 zs + 18446744073709551616 ^ (us.length + vs.length - h) * q = val 18446744073709551616 (((lo ++ hi).drop h).take (us.length + vs.length - h)) + val 18446744073709551616 (trimL m2) ∧ Blk w' w3.heap.size 84 (u64s (patch (lo ++ hi) h zs)) ∧ Tn w3.heap.size W w') := fun W h1 h2 =>
          addInto_any w3.heap.size h (us.length + vs.length - h) (us.length + vs.length - h) (lo ++ hi) (trimL m2) (some ⟨gm, 0, none⟩) mi.length W h1 (rx_whole h2 hne3).trim_ (by rw [Hlen.out]; omega) htl (hlod.append_ hhid) hmd2.trim_ (by omega)
        clear hg5 Hg4 Hpl0 hlen
        go_region_held3 (fun _ => True) (exact trivial) (first
          | (go_at_call 142; (with_reducible refine (Htrim.out _ (by first | exact hbm5 | exact hbm5.drew)).mono ?_); rintro e wt ⟨rfl, rfl⟩)
          | (go_at_call 157; (with_reducible refine (Hadd.out _ (by first | exact hblk5 | exact hblk5.drew) (by first | exact hbm5 | exact hbm5.drew)).mono ?_); rintro e w6 ⟨zr, q, rfl, hrl, hrd, hq, hrv, hblk6, htn⟩; have Hrl := Lib.hid hrl; have Hrv := Lib.hid hrv; clear hrl hrv))
        all_goals
          go_wp2_with fail
          go_ret
          have hrv := Hrv.out
          rw [val_trim, hm2v.out] at hrv
          have hP := halves_end (P := val 18446744073709551616 us * val 18446744073709551616 vs) rfl Hll.out (by have := Hlh.out; omega) Hlov.out Hhiv.out rfl (by rw [Heu.out, Hev.out]) (by rw [show h + (us.length + vs.length - h) = us.length + vs.length from by omega]; exact HPT.out) Hrl.out hrv
          have hpl := patch_length (L := lo ++ hi) (o := h) (zs := zr) (by rw [Hrl.out, Hlen.out]; omega)
          rw [Hlen.out] at hpl
          refine ⟨patch (lo ++ hi) h zr, w3.heap.size, by rw [hpl]; rfl, hpl, patch_dig (hlod.append_ hhid) hrd, hP, hK3.b.size, hblk6, ?_⟩
          have e1 := hK3.b.trans (hb5.mono hK3.b.size)
          first
            | exact e1.trans (htn.below hK3.b.size e1.size)
            | exact e1.drew.trans (htn.below hK3.b.size e1.size)
end
section
open Go.RowKit

/-- What carried's row and carry are behind k digits. -/
def Carr (zl : List Nat) (n k : Nat) (os : List Nat) (c : Nat) : Prop :=
  os.length = n ∧ Dig 18446744073709551616 os ∧ c < 562949953421312 ∧ val 18446744073709551616 os + 65536 ^ k * c = val 65536 (zl.take k) ∧ (∀ j (h : j < os.length), k ≤ 4 * j → os[j] = 0) ∧ ∀ j r (h : j < os.length), k = 4 * j + r → r < 4 → os[j] < 65536 ^ r
theorem Carr.start (zl : List Nat) (n : Nat) : Carr zl n 0 (List.replicate n 0) 0 :=
  ⟨by simp, Dig.zeros_ (by omega) _, by omega, by simp [val_zeros, val], fun j h _ => by simp, fun j r h e hr => by
    simp; exact Nat.pow_pos (by omega)⟩
theorem pow16 (b q j r : Nat) (h : q = b ^ 4) : b ^ (4 * j + r) = q ^ j * b ^ r := by
  rw [Nat.pow_add, Nat.pow_mul, h]
theorem carr_val {b W V X j r k c z d c' : Nat} (hW : W = b ^ 4) (hk : k = 4 * j + r) (h : V + b ^ k * c = X) (hs : c + z = d + b * c') : V + W ^ j * (b ^ r * d) + b ^ (k + 1) * c' = X + b ^ k * z := by
  have e1 : b ^ k * c + b ^ k * z = b ^ k * d + b ^ k * (b * c') := by rw [← Nat.mul_add, hs, Nat.mul_add]
  have e2 : W ^ j * (b ^ r * d) = b ^ k * d := by rw [← Nat.mul_assoc, ← pow16 b W j r hW, ← hk]
  rw [e2, Nat.pow_succ, Nat.mul_assoc]
  generalize b ^ k * (b * c') = t1 at *
  generalize b ^ k * d = t2 at *
  generalize b ^ k * z = t3 at *
  generalize b ^ k * c = t4 at *
  omega
theorem carr_fit {b r x d : Nat} (_ : 0 < b) (hx : x < b ^ r) (hd : d < b) : x + b ^ r * d < b ^ (r + 1) := by
  rw [Nat.pow_succ]
  have : b ^ r * (d + 1) ≤ b ^ r * b := Nat.mul_le_mul_left _ hd
  rw [Nat.mul_add] at this
  omega
theorem pow_mono_lt {b x r : Nat} (hb : 0 < b) (hr : r < 4) (h : x < b ^ (r + 1)) (W : Nat) (hW : W = b ^ 4) : x < W := by
  rw [hW]; exact Nat.lt_of_lt_of_le h (Nat.pow_le_pow_right hb (by omega))
theorem Carr.step {zl os : List Nat} {n j r c d c' : Nat} (h : Carr zl n (4 * j + r) os c) (hr : r < 4) (hk : 4 * j + r < zl.length) (hj : j < os.length) (_ : zl[4 * j + r] < 18446744073709551616) (hs : c + zl[4 * j + r] = d + 65536 * c') (hd : d < 65536) (hc : c' < 562949953421312) :
    Carr zl n (4 * j + r + 1) (os.set j (os[j] + 65536 ^ r * d)) c' := by
  obtain ⟨h1, h2, h3, h4, h5, h6⟩ := h
  have hx := h6 j r hj rfl hr
  have hf := carr_fit (by omega) hx hd
  have hW := pow_mono_lt (by omega) hr hf 18446744073709551616 (by decide)
  refine ⟨by simpa using h1, h2.set_ _ _ hW, hc, ?_, fun i hi hki => ?_, fun i q hi e hq => ?_⟩
  · have e1 := val_set 18446744073709551616 os j (os[j] + 65536 ^ r * d) hj
    rw [Nat.mul_add] at e1
    have e2 : val 18446744073709551616 (os.set j (os[j] + 65536 ^ r * d)) = val 18446744073709551616 os + 18446744073709551616 ^ j * (65536 ^ r * d) := by
      generalize 18446744073709551616 ^ j * (65536 ^ r * d) = t1 at *
      generalize 18446744073709551616 ^ j * os[j] = t2 at *
      omega
    rw [e2, val_take_succ _ zl _ hk]
    exact carr_val (by decide) rfl h4 hs
  · rw [List.getElem_set, if_neg (by omega)]
    exact h5 i (by simpa using hi) (by omega)
  · rw [List.getElem_set]
    split
    · obtain rfl : q = r + 1 := by omega
      exact hf
    · have hi2 : i < os.length := by simpa using hi
      have : os[i] = 0 := h5 i hi2 (by omega)
      rw [this]; exact Nat.pow_pos (by omega)
theorem Carr.finish {zl os : List Nat} {n c : Nat} (h : Carr zl n (4 * n) os c) (hl : zl.length = 4 * n) (hT : val 65536 zl < 18446744073709551616 ^ n) : val 18446744073709551616 os = val 65536 zl := by
  have h4 := h.2.2.2.1
  rw [List.take_of_length_le (by omega), Nat.pow_mul, show (65536 : Nat) ^ 4 = 18446744073709551616 from rfl] at h4
  exact carry_zero2 h4 hT

theorem or_add (x d i : Nat) (hx : x < 2 ^ i) (hb : x < 18446744073709551616) (hd : d * 2 ^ i < 18446744073709551616) : bits BinOp.or IntKind.u64 (x : Int) ((d * 2 ^ i : Nat) : Int) = ((x + 2 ^ i * d : Nat) : Int) := by
  rw [u64_or_nat x (d * 2 ^ i) hb hd, Nat.or_comm, or_shift x d i hx]

set_option maxHeartbeats 3200000 in
theorem carried_any (A : Option Addr) (c : Nat) (xs zl : List Nat) (sc n : Nat) (w : World) (B : Nat) (hr : Rd w B A (u64s xs)) (hB : B ≤ w.heap.size) (hd : Dig 18446744073709551616 xs) (hsc : sc < 18446744073709551616) (hn : 4 * n ≤ xs.length) (hzl : zl.length = 4 * n) (hz : ∀ i (h : i < xs.length) (h2 : i < zl.length), xs[i] * sc % 18446744069414584321 = zl[i]) (hT : val 65536 zl < 18446744073709551616 ^ n) (hm : n ≤ 35184372088832) :
    Calls Tryz.prog 166 #[.slice A xs.length c, .int .u64 (sc : Int), .int .i64 (n : Int)] w fun e w' => Words w w' n (val 65536 zl) e := by
  have hmk := fun W => mk64 n hm W
  have Hz := Lib.hid hz
  have Hzl := Lib.hid hzl
  have HT := Lib.hid hT
  clear hz hzl hT
  go_enter Tryz.func166, Tryz.ntmps166
  go_wp2_with fail
  go_loopw [8, 9, 10, 15] (fun cv _ _ i wr => ∃ (k cc : Nat) (os : List Nat), k ≤ 4 * n ∧ i = .int .i64 k ∧ cv = .int .u64 cc ∧ Blk wr w.heap.size 84 (u64s os) ∧ Carr zl n k os cc ∧ Below w.heap.size w wr) (fun _ _ _ i _ => 4 * n - (intOf i).toNat)
  case atStart => exact ⟨0, 0, List.replicate n 0, by omega, rfl, rfl, Blk.new_ (by simp [u64s]), Carr.start _ _, (Below.refl _ _).alloc (Nat.le_refl _) _⟩
  case round =>
    obtain ⟨k, cc, os, hk, rfl, rfl, hblk, hca, hbel⟩ := hrel
    by_cases hlt : k < 4 * n
    · obtain ⟨b, off, rfl, hb, hx⟩ := hr.at64 (k := k) (by omega)
      have hx := (hbel.cell (p := ⟨b, off + k, none⟩) (show b < _ by omega)).trans hx
      have hkx : k < xs.length := by omega
      have hkz : k < zl.length := by rw [Hzl.out]; exact hlt
      have hxd := hd.at_ k hkx
      have hzk := Hz.out k hkx hkz
      have hfm := fun W => fieldMul_any xs[k] sc hxd hsc W
      rw [hzk] at hfm
      have hzb : zl[k] < 18446744069414584321 := by rw [← hzk]; exact Nat.mod_lt _ (by omega)
      have hzlb : zl[k] < 18446744073709551616 := by omega
      have hccb := hca.2.2.1
      obtain ⟨z, hze⟩ : ∃ z, z = zl[k] := ⟨_, rfl⟩
      rw [← hze] at hfm hzb
      have a1 := fun W => add64_run0 cc z W
      obtain ⟨lo, hlo⟩ := nameIt ((cc + z) % 18446744073709551616)
      obtain ⟨ov, hov⟩ := nameIt ((cc + z) / 18446744073709551616)
      rw [← hlo, ← hov] at a1
      have hlob : lo < 18446744073709551616 := by omega
      have hovb : ov ≤ 1 := by omega
      have m1 := and_mask lo hlob
      obtain ⟨d, hdd⟩ := nameIt (lo % 65536)
      rw [← hdd] at m1
      have hdb : d < 65536 := by omega
      obtain ⟨y, hy⟩ := nameIt (lo / 65536)
      have m2 : (lo : Int) / 65536 = (y : Int) := by omega
      have hyb : y < 281474976710656 := by omega
      obtain ⟨c2, hc2⟩ := nameIt (y + 281474976710656 * ov)
      have m3 : bits BinOp.or IntKind.u64 (y : Int) ((ov : Int) * 281474976710656) = (c2 : Int) := by
        have h9 := or_add y ov 48 (by omega) (by omega) (by omega)
        rw [show (2 : Nat) ^ 48 = 281474976710656 from rfl, ← hc2] at h9
        exact h9
      have hc2b : c2 < 562949953421312 := by omega
      have hsum : cc + z = d + 65536 * c2 := by omega
      have m2w : bits BinOp.or IntKind.u64 ((lo : Int) / 65536) ((ov : Int) * 281474976710656) = (c2 : Int) := by rw [m2]; exact m3
      rw [hze] at hsum
      have Hfm := Lib.hid hfm
      have Hsum := Lib.hid hsum
      have m4 : (lo : Int) % 65536 = (d : Int) := by omega
      clear hzk hfm hze hlo hov hdd hy hc2 hsum
      have hol := hca.1
      obtain ⟨j, hj⟩ : ∃ j, k = 4 * j ∨ k = 4 * j + 1 ∨ k = 4 * j + 2 ∨ k = 4 * j + 3 := ⟨k / 4, by omega⟩
      rcases hj with rfl | rfl | rfl | rfl
      · have q1 : (4 * (j : Int)) / 4 = (j : Int) := by omega
        have q2 : (4 * (j : Int)) % 4 = 0 := by omega
        have q3 : (4 * j) / 4 = j := by omega
        have q4 : (4 * j) % 4 = 0 := by omega
        have q5 : (4 * (j : Int)).tdiv 4 = (j : Int) := by rw [Int.tdiv_eq_ediv_of_nonneg (by omega)]; omega
        have q6 : (4 * (j : Int)).tmod 4 = 0 := by rw [Int.tmod_eq_emod_of_nonneg (by omega)]; omega
        have hjo : j < os.length := by omega
        have hjn : j < n := by omega
        have hoc := (hblk.cell j).trans (u64s_at hjo)
        have hof := hblk.frozen j
        have hob := hca.2.1.at_ j hjo
        have hos := hca.2.2.2.2.2 j 0 hjo rfl (by omega)
        have hst := hca.step (r := 0) (d := d) (c' := c2) (by omega) hkz hjo hzlb Hsum.out hdb hc2b
        rw [show (65536 : Nat) ^ 0 = 1 from rfl] at hos hst
        obtain ⟨v, hv⟩ := nameIt (os[j] + 1 * d)
        rw [← hv] at hst
        have m5 : bits BinOp.or IntKind.u64 (os[j] : Int) ((d : Int)) = (v : Int) := by
          have h9 := or_add os[j] d 0 (by omega) hob (by omega)
          rw [show (2 : Nat) ^ 0 = 1 from rfl, ← hv] at h9
          simpa using h9
        have Hst := Lib.hid hst
        have Hol := Lib.hid hol
        clear hst hv hol hos
        go_wp2_with (first
          | (go_at_call 164; (with_reducible refine (Hfm.out _).mono ?_); rintro e w' ⟨rfl, rfl⟩)
          | (simp only []))
        go_region
        all_goals
          go_wp2_with fail
          go_roundw
          case rel =>
            refine ⟨4 * j + 0 + 1, c2, os.set j v, by omega, by go_num, rfl, ?_, Hst.out, (hbel.setCell (p := ⟨w.heap.size, j, none⟩) (Nat.le_refl _) _).drew⟩
            have hb2 := (hblk.set_ j (Value.int IntKind.u64 (v : Int))).drew
            rw [u64s_set] at hb2
            first | exact hb2 | trace_state
          case measure => simp [intOf]; omega
      · have q1 : (4 * (j : Int) + 1) / 4 = (j : Int) := by omega
        have q2 : (4 * (j : Int) + 1) % 4 = 1 := by omega
        have q3 : (4 * j + 1) / 4 = j := by omega
        have q4 : (4 * j + 1) % 4 = 1 := by omega
        have q5 : (4 * (j : Int) + 1).tdiv 4 = (j : Int) := by rw [Int.tdiv_eq_ediv_of_nonneg (by omega)]; omega
        have q6 : (4 * (j : Int) + 1).tmod 4 = 1 := by rw [Int.tmod_eq_emod_of_nonneg (by omega)]; omega
        have hjo : j < os.length := by omega
        have hjn : j < n := by omega
        have hoc := (hblk.cell j).trans (u64s_at hjo)
        have hof := hblk.frozen j
        have hob := hca.2.1.at_ j hjo
        have hos := hca.2.2.2.2.2 j 1 hjo rfl (by omega)
        have hst := hca.step (r := 1) (d := d) (c' := c2) (by omega) hkz hjo hzlb Hsum.out hdb hc2b
        rw [show (65536 : Nat) ^ 1 = 65536 from rfl] at hos hst
        obtain ⟨v, hv⟩ := nameIt (os[j] + 65536 * d)
        rw [← hv] at hst
        have m5 : bits BinOp.or IntKind.u64 (os[j] : Int) ((d : Int) * 65536) = (v : Int) := by
          have h9 := or_add os[j] d 16 (by omega) hob (by omega)
          rw [show (2 : Nat) ^ 16 = 65536 from rfl, ← hv] at h9
          exact h9
        have Hst := Lib.hid hst
        have Hol := Lib.hid hol
        clear hst hv hol hos
        go_wp2_with (first
          | (go_at_call 164; (with_reducible refine (Hfm.out _).mono ?_); rintro e w' ⟨rfl, rfl⟩)
          | (simp only []))
        go_region
        all_goals
          go_wp2_with fail
          go_roundw
          case rel =>
            refine ⟨4 * j + 1 + 1, c2, os.set j v, by omega, by go_num, rfl, ?_, Hst.out, (hbel.setCell (p := ⟨w.heap.size, j, none⟩) (Nat.le_refl _) _).drew⟩
            have hb2 := (hblk.set_ j (Value.int IntKind.u64 (v : Int))).drew
            rw [u64s_set] at hb2
            first | exact hb2 | trace_state
          case measure => simp [intOf]; omega
      · have q1 : (4 * (j : Int) + 2) / 4 = (j : Int) := by omega
        have q2 : (4 * (j : Int) + 2) % 4 = 2 := by omega
        have q3 : (4 * j + 2) / 4 = j := by omega
        have q4 : (4 * j + 2) % 4 = 2 := by omega
        have q5 : (4 * (j : Int) + 2).tdiv 4 = (j : Int) := by rw [Int.tdiv_eq_ediv_of_nonneg (by omega)]; omega
        have q6 : (4 * (j : Int) + 2).tmod 4 = 2 := by rw [Int.tmod_eq_emod_of_nonneg (by omega)]; omega
        have hjo : j < os.length := by omega
        have hjn : j < n := by omega
        have hoc := (hblk.cell j).trans (u64s_at hjo)
        have hof := hblk.frozen j
        have hob := hca.2.1.at_ j hjo
        have hos := hca.2.2.2.2.2 j 2 hjo rfl (by omega)
        have hst := hca.step (r := 2) (d := d) (c' := c2) (by omega) hkz hjo hzlb Hsum.out hdb hc2b
        rw [show (65536 : Nat) ^ 2 = 4294967296 from rfl] at hos hst
        obtain ⟨v, hv⟩ := nameIt (os[j] + 4294967296 * d)
        rw [← hv] at hst
        have m5 : bits BinOp.or IntKind.u64 (os[j] : Int) ((d : Int) * 4294967296) = (v : Int) := by
          have h9 := or_add os[j] d 32 (by omega) hob (by omega)
          rw [show (2 : Nat) ^ 32 = 4294967296 from rfl, ← hv] at h9
          exact h9
        have Hst := Lib.hid hst
        have Hol := Lib.hid hol
        clear hst hv hol hos
        go_wp2_with (first
          | (go_at_call 164; (with_reducible refine (Hfm.out _).mono ?_); rintro e w' ⟨rfl, rfl⟩)
          | (simp only []))
        go_region
        all_goals
          go_wp2_with fail
          go_roundw
          case rel =>
            refine ⟨4 * j + 2 + 1, c2, os.set j v, by omega, by go_num, rfl, ?_, Hst.out, (hbel.setCell (p := ⟨w.heap.size, j, none⟩) (Nat.le_refl _) _).drew⟩
            have hb2 := (hblk.set_ j (Value.int IntKind.u64 (v : Int))).drew
            rw [u64s_set] at hb2
            first | exact hb2 | trace_state
          case measure => simp [intOf]; omega
      · have q1 : (4 * (j : Int) + 3) / 4 = (j : Int) := by omega
        have q2 : (4 * (j : Int) + 3) % 4 = 3 := by omega
        have q3 : (4 * j + 3) / 4 = j := by omega
        have q4 : (4 * j + 3) % 4 = 3 := by omega
        have q5 : (4 * (j : Int) + 3).tdiv 4 = (j : Int) := by rw [Int.tdiv_eq_ediv_of_nonneg (by omega)]; omega
        have q6 : (4 * (j : Int) + 3).tmod 4 = 3 := by rw [Int.tmod_eq_emod_of_nonneg (by omega)]; omega
        have hjo : j < os.length := by omega
        have hjn : j < n := by omega
        have hoc := (hblk.cell j).trans (u64s_at hjo)
        have hof := hblk.frozen j
        have hob := hca.2.1.at_ j hjo
        have hos := hca.2.2.2.2.2 j 3 hjo rfl (by omega)
        have hst := hca.step (r := 3) (d := d) (c' := c2) (by omega) hkz hjo hzlb Hsum.out hdb hc2b
        rw [show (65536 : Nat) ^ 3 = 281474976710656 from rfl] at hos hst
        obtain ⟨v, hv⟩ := nameIt (os[j] + 281474976710656 * d)
        rw [← hv] at hst
        have m5 : bits BinOp.or IntKind.u64 (os[j] : Int) ((d : Int) * 281474976710656) = (v : Int) := by
          have h9 := or_add os[j] d 48 (by omega) hob (by omega)
          rw [show (2 : Nat) ^ 48 = 281474976710656 from rfl, ← hv] at h9
          exact h9
        have Hst := Lib.hid hst
        have Hol := Lib.hid hol
        clear hst hv hol hos
        go_wp2_with (first
          | (go_at_call 164; (with_reducible refine (Hfm.out _).mono ?_); rintro e w' ⟨rfl, rfl⟩)
          | (simp only []))
        go_region
        all_goals
          go_wp2_with fail
          go_roundw
          case rel =>
            refine ⟨4 * j + 3 + 1, c2, os.set j v, by omega, by go_num, rfl, ?_, Hst.out, (hbel.setCell (p := ⟨w.heap.size, j, none⟩) (Nat.le_refl _) _).drew⟩
            have hb2 := (hblk.set_ j (Value.int IntKind.u64 (v : Int))).drew
            rw [u64s_set] at hb2
            first | exact hb2 | trace_state
          case measure => simp [intOf]; omega
    · have hk4 : k = 4 * n := by omega
      have Hk4 := Lib.hid hk4
      have t2 : 4 * n ≤ k := by omega
      have Hol := Lib.hid hca.1
      clear hk4
      go_wp2_with fail
      go_ret
      have hca2 := hca
      rw [Hk4.out] at hca2
      exact ⟨os, _, by rw [Hol.out]; rfl, Hol.out, hca.2.1, hca2.finish Hzl.out HT.out, Nat.le_refl _, hblk, hbel⟩
end
section
open Go.RowKit

/-- A row that is partly turned: new below f, and i places of two halves from f on. -/
def Mix (S T : Nat → FP) (n f h i : Nat) (zs : List Nat) : Prop :=
  zs.length = n ∧ (∀ v ∈ zs, v < 18446744069414584321) ∧ ∀ j (hj : j < zs.length), ph zs[j] = if j < f ∨ (f ≤ j ∧ j < f + i) ∨ (f + h ≤ j ∧ j < f + h + i) then T j else S j
/-- A row that is S. -/
def Row (S : Nat → FP) (n : Nat) (zs : List Nat) : Prop :=
  zs.length = n ∧ (∀ v ∈ zs, v < 18446744069414584321) ∧ ∀ j (hj : j < zs.length), ph zs[j] = S j
theorem Mix.start {S T : Nat → FP} {n h : Nat} {zs : List Nat} (hr : Row S n zs) : Mix S T n 0 h 0 zs :=
  ⟨hr.1, hr.2.1, fun j hj => by rw [if_neg (by omega)]; exact hr.2.2 j hj⟩
theorem Mix.next {S T : Nat → FP} {n f h : Nat} {zs : List Nat} (hm : Mix S T n f h h zs) : Mix S T n (f + 2 * h) h 0 zs :=
  ⟨hm.1, hm.2.1, fun j hj => by
    rw [hm.2.2 j hj]
    by_cases h1 : j < f + 2 * h
    · rw [if_pos (by omega), if_pos (by omega)]
    · rw [if_neg (by omega), if_neg (by omega)]⟩
theorem Mix.done {S T : Nat → FP} {n h : Nat} {zs : List Nat} (hm : Mix S T n n h 0 zs) : Row T n zs :=
  ⟨hm.1, hm.2.1, fun j hj => by rw [hm.2.2 j hj, if_pos (by have := hm.1; omega)]⟩
theorem Mix.old {S T : Nat → FP} {n f h i j : Nat} {zs : List Nat} (hm : Mix S T n f h i zs) (hj : j < zs.length) (h1 : f ≤ j) (h2 : ¬ (j < f + i)) (h3 : ¬ (f + h ≤ j ∧ j < f + h + i)) : ph zs[j] = S j := by
  rw [hm.2.2 j hj, if_neg (by omega)]
theorem Mix.step {S T : Nat → FP} {n f h i a b : Nat} {zs : List Nat} (hm : Mix S T n f h i zs) (hi : i < h) (_ : f + 2 * h ≤ n) (ha : a < 18446744069414584321) (hb : b < 18446744069414584321) (ea : ph a = T (f + i)) (eb : ph b = T (f + h + i)) : Mix S T n f h (i + 1) ((zs.set (f + i) a).set (f + h + i) b) := by
  refine ⟨by simpa using hm.1, fun v hv => ?_, fun j hj => ?_⟩
  · rcases List.mem_or_eq_of_mem_set hv with hv | rfl
    · rcases List.mem_or_eq_of_mem_set hv with hv | rfl
      · exact hm.2.1 v hv
      · exact ha
    · exact hb
  · have hj2 : j < zs.length := by simpa using hj
    rw [List.getElem_set]
    split
    · rename_i e
      subst e
      rw [if_pos (by omega)]; exact eb
    · rw [List.getElem_set]
      split
      · rename_i e
        subst e
        rw [if_pos (by omega)]; exact ea
      · rw [hm.2.2 j hj2]
        by_cases h1 : j < f ∨ (f ≤ j ∧ j < f + i) ∨ (f + h ≤ j ∧ j < f + h + i)
        · rw [if_pos h1, if_pos (by omega)]
        · rw [if_neg h1, if_neg (by omega)]

theorem ph_sub {u v : Nat} (hv : v < 18446744069414584321) : ph ((u + 18446744069414584321 - v) % 18446744069414584321) = ph u - ph v := by
  have h1 : ph (u + 18446744069414584321 - v) + ph v = ph u := by
    rw [← ph_add, show u + 18446744069414584321 - v + v = u + 18446744069414584321 from by omega]
    apply ph_of_mod; omega
  rw [ph_mod]
  grind
theorem sLay_low {z9 : Nat} {h q i : Nat} (rt S : Nat → Fin z9) (hi : i < h) : sLay h rt S (2 * h * q + i) = S (2 * h * q + i) + S (2 * h * q + h + i) := by
  unfold sLay
  rw [mod_low hi, if_pos hi, show 2 * h * q + i + h = 2 * h * q + h + i from by omega]
theorem sLay_high {z9 : Nat} {h q i : Nat} (rt S : Nat → Fin z9) (hi : i < h) : sLay h rt S (2 * h * q + h + i) = (S (2 * h * q + i) - S (2 * h * q + h + i)) * rt i := by
  unfold sLay
  rw [mod_high hi, if_neg (by omega), show 2 * h * q + h + i - h = 2 * h * q + i from by omega, show h + i - h = i from by omega]
theorem gLay_low {z9 : Nat} {h q i : Nat} (rt S : Nat → Fin z9) (hi : i < h) : gLay h rt S (2 * h * q + i) = S (2 * h * q + i) + S (2 * h * q + h + i) * rt i := by
  unfold gLay
  rw [mod_low hi, if_pos hi, show 2 * h * q + i + h = 2 * h * q + h + i from by omega]
theorem gLay_high {z9 : Nat} {h q i : Nat} (rt S : Nat → Fin z9) (hi : i < h) : gLay h rt S (2 * h * q + h + i) = S (2 * h * q + i) - S (2 * h * q + h + i) * rt i := by
  unfold gLay
  rw [mod_high hi, if_neg (by omega), show 2 * h * q + h + i - h = 2 * h * q + i from by omega, show h + i - h = i from by omega]

/-- The roots of a layer, read off a list. -/
def rtsL (rs : List Nat) (k : Nat) : Nat → Nat → FP := fun h i => ph (rs.getD (i * (2 ^ (k - 1) / h)) 0)

theorem p_lt (zs : List Nat) (h : ∀ v ∈ zs, v < 18446744069414584321) (j : Nat) (hj : j < zs.length) : zs[j] < 18446744069414584321 := h _ (List.getElem_mem hj)

set_option maxHeartbeats 3200000 in
set_option maxRecDepth 100000 in
theorem scatter_any (g : Nat) (xs rs : List Nat) (k : Nat) (A : Option Addr) (c : Nat) (w : World) (hblk : Blk w g 84 (u64s xs)) (hrx : Rx w g A (u64s rs)) (hk : 1 ≤ k) (hk2 : k ≤ 40) (hxl : xs.length = 2 ^ k) (hrl : rs.length = 2 ^ (k - 1)) (hxp : ∀ v ∈ xs, v < 18446744069414584321) (hrp : ∀ v ∈ rs, v < 18446744069414584321) :
    Calls Tryz.prog 163 #[.slice (some ⟨g, 0, none⟩) xs.length xs.length, .slice A rs.length c] w fun e w' => ∃ zs, e = .returned (.tuple #[]) ∧ Row (sAll (rtsL rs k) k k (fl xs)) (2 ^ k) zs ∧ Blk w' g 84 (u64s zs) ∧ Tn g w w' := by
  obtain ⟨N, hN⟩ : ∃ N, N = 2 ^ (k - 1) := ⟨_, rfl⟩
  have hk9 : 2 ^ k = 2 * N := by rw [hN, ← Nat.pow_succ']; congr 1; omega
  have hNb : N ≤ 1099511627776 := by rw [hN, show (1099511627776 : Nat) = 2 ^ 40 from rfl]; exact Nat.pow_le_pow_right (by omega) (by omega)
  have hN0 : 1 ≤ N := by rw [hN]; exact Nat.two_pow_pos _
  obtain ⟨M, hM⟩ : ∃ M, M = 2 * N := ⟨_, rfl⟩
  rw [← hM] at hk9
  have hrow0 : Row (sAll (rtsL rs k) k 0 (fl xs)) M xs := ⟨hxl.trans hk9, hxp, fun j hj => by
    show ph xs[j] = ph (xs.getD j 0)
    rw [List.getD_eq_getElem?_getD, List.getElem?_eq_getElem hj]; rfl⟩
  rw [← hN] at hrl
  have hxl2 : xs.length = M := hxl.trans hk9
  have HN := Lib.hid hN
  have Hk9 := Lib.hid hk9
  rw [hxl2, hrl]
  have hgw := hblk.lt
  have q1 : (M : Int) / 2 = (N : Int) := by omega
  have HM := Lib.hid hM
  have hMb : M ≤ 2199023255552 := by omega
  have Hrp : Hid (∀ v ∈ rs, v < 18446744069414584321) := hrp
  have Hrl := Lib.hid hrl
  clear hN hk9 hxl hxl2 hrp hrl hM
  go_enter Tryz.func163, Tryz.ntmps163
  go_wp2_with fail
  go_loopw [4, 5, 6, 7, 8, 9, 10, 11] (fun hv _ _ _ _ _ _ _ wr => ∃ (m h : Nat) (zs : List Nat), m ≤ k ∧ hv = .int .i64 h ∧ Hid (m < k → h = 2 ^ (k - 1 - m)) ∧ Hid (m = k → h = 0) ∧ Row (sAll (rtsL rs k) k m (fl xs)) M zs ∧ Blk wr g 84 (u64s zs) ∧ Tn g w wr) (fun hv _ _ _ _ _ _ _ _ => (intOf hv).toNat)
  case atStart => exact ⟨0, N, xs, by omega, rfl, fun _ => by rw [HN.out]; rfl, fun e => by omega, hrow0, hblk, Tn.refl _ _⟩
  case round =>
    clear hrow0 hblk
    obtain ⟨m, h, zs, hm, rfl, Hh, Hh0, hrow, hblk, htn⟩ := hrel
    by_cases hmk : m < k
    · have hh := Hh.out hmk
      obtain ⟨D, hD⟩ : ∃ D, D = 2 ^ m := ⟨_, rfl⟩
      have hh1 : 1 ≤ h := by rw [hh]; exact Nat.two_pow_pos _
      have hNB : N = h * D := by rw [HN.out, hh, hD, ← Nat.pow_add]; congr 1; omega
      have q2 : (N : Int) / (h : Int) = (D : Int) := by
        rw [hNB]
        have h9 : ((h * D : Nat) : Int) / (h : Int) = ((h * D / h : Nat) : Int) := (Int.natCast_ediv _ _).symm
        rw [h9, Nat.mul_div_cancel_left _ (by omega)]
      have q3 : (N : Int).tdiv (h : Int) = (D : Int) := by rw [Int.tdiv_eq_ediv_of_nonneg (by omega), q2]
      have hDN : D ≤ N := by rw [hNB]; exact Nat.le_mul_of_pos_left _ (by omega)
      have hdv := Lib.hid (show 2 ^ (k - 1) / h = D from by rw [← HN.out, hNB, Nat.mul_div_cancel_left _ (by omega)])
      obtain ⟨h2, hh2⟩ := nameIt (h / 2)
      have q4 : (h : Int) / 2 = (h2 : Int) := by omega
      have hlt2 : h2 < h := by omega
      have Hh2a : Hid (m + 1 < k → h2 = 2 ^ (k - 1 - (m + 1))) := fun hmk2 => by
        rw [hh2, hh, show k - 1 - m = k - 1 - (m + 1) + 1 from by omega, Nat.pow_succ]; omega
      have Hh2b : Hid (m + 1 = k → h2 = 0) := fun hmk2 => by
        rw [hh2, hh, show k - 1 - m = 0 from by omega]
      have hT : sAll (rtsL rs k) k (m + 1) (fl xs) = sLay h (rtsL rs k h) (sAll (rtsL rs k) k m (fl xs)) := by
        rw [hh]; rfl
      have HT := Lib.hid hT
      obtain ⟨S, hS⟩ : ∃ S, S = sAll (rtsL rs k) k m (fl xs) := ⟨_, rfl⟩
      rw [← hS] at hrow HT
      obtain ⟨T, hT2⟩ : ∃ T, T = sLay h (rtsL rs k h) S := ⟨_, rfl⟩
      have HT2 := Lib.hid hT2
      rw [← hT2] at HT
      have HNB := Lib.hid hNB
      have t1 : decide ((1 : Int) ≤ (h : Int)) = true := by simp; omega
      have hne : ¬ ((h : Int) = 0) := by omega
      have hne2 : ((h : Int) == 0) = false := by simp; omega
      have hhN : h ≤ N := by rw [hNB]; exact Nat.le_mul_of_pos_right _ (by rw [hD]; exact Nat.two_pow_pos _)
      clear hh hD hNB hh2 hS hT hT2 Hh Hh0
      go_wp2_with fail
      go_loopw [6, 7, 8, 9, 10, 11] (fun fv _ _ _ _ _ wr => ∃ (q f : Nat) (zs : List Nat), q ≤ D ∧ fv = .int .i64 f ∧ Hid (f = 2 * h * q) ∧ f ≤ M ∧ Mix S T M f h 0 zs ∧ Blk wr g 84 (u64s zs) ∧ Tn g w wr) (fun fv _ _ _ _ _ _ => M - (intOf fv).toNat)
      case atStart => exact ⟨0, 0, zs, by omega, rfl, rfl, by omega, Mix.start hrow, hblk, htn⟩
      case round =>
        clear hrow hblk htn
        obtain ⟨q, f, zs, hq, rfl, Hf, hfN, hmix, hblk, htn⟩ := hrel
        by_cases hlt : f < M
        · have hqD : q < D := by
            rcases Nat.lt_or_ge q D with h9 | h9
            · exact h9
            · exfalso
              have e1 := Hf.out
              rw [HM.out, HNB.out] at hlt
              have e2 : 2 * h * D ≤ 2 * h * q := Nat.mul_le_mul_left _ h9
              rw [Nat.mul_assoc] at e2
              omega
          have hf2 : f + 2 * h ≤ M := by
            have e1 := Hf.out
            rw [HM.out]
            have e2 : 2 * h * (q + 1) ≤ 2 * h * D := Nat.mul_le_mul_left _ hqD
            rw [Nat.mul_succ, Nat.mul_assoc 2 h D, ← HNB.out] at e2
            omega
          have Hf2 : Hid (f + 2 * h = 2 * h * (q + 1)) := by
            have e1 := Hf.out
            show f + 2 * h = _
            rw [Nat.mul_succ]; omega
          obtain ⟨fh, hfh⟩ := nameIt (f + h)
          obtain ⟨hd, hhd⟩ := nameIt (2 * h)
          obtain ⟨f2, hff2⟩ := nameIt (f + hd)
          have e1 : (f : Int) + (h : Int) = (fh : Int) := by omega
          have e2 : 2 * (h : Int) = (hd : Int) := by omega
          have e3 : (f : Int) + (hd : Int) = (f2 : Int) := by omega
          have ew1 : IntKind.i64.wrap (fh : Int) = (fh : Int) := IntWalk.i64_in _ (by omega)
          have ew2 : IntKind.i64.wrap (hd : Int) = (hd : Int) := IntWalk.i64_in _ (by omega)
          have ew3 : IntKind.i64.wrap (f2 : Int) = (f2 : Int) := IntWalk.i64_in _ (by omega)
          have j2 : fh ≤ M := by omega
          have j3 : f2 ≤ M := by omega
          have j4 : ¬ (M = f) := by omega
          have j5 : ¬ (M = fh) := by omega
          have j6 : f ≤ fh := by omega
          have j7 : fh ≤ f2 := by omega
          have j8 : fh - f = h := by omega
          have j9 : f2 - fh = h := by omega
          have Hfh := Lib.hid hfh
          have Hff2 : Hid (f2 = f + 2 * h) := (by omega : f2 = f + 2 * h)
          clear hfh hhd hff2 hf2
          go_upto_region 7 with (fail)
          go_region_held3 (fun _ => True) (exact trivial) (fail)
          all_goals
            go_wp2_with fail
            go_loopw [9, 10, 11, 48] (fun _ _ _ iv wr => ∃ (i : Nat) (zs : List Nat), i ≤ h ∧ iv = .int .i64 i ∧ Mix S T M f h i zs ∧ Blk wr g 84 (u64s zs) ∧ Tn g w wr) (fun _ _ _ iv _ => h - (intOf iv).toNat)
            case atStart => exact ⟨0, zs, by omega, rfl, hmix, by first | exact hblk | exact hblk.drew, by first | exact htn | exact htn.drew⟩
            case round =>
              clear hmix hblk htn
              obtain ⟨i, zs, hi, rfl, hmix, hblk, htn⟩ := hrel
              by_cases hih : i < h
              · have hfh := Hfh.out
                have hff2 := Hff2.out
                have hzl := hmix.1
                have hix1 : f + i < zs.length := by omega
                have hix2 : fh + i < zs.length := by omega
                obtain ⟨u, hu⟩ : ∃ u, u = zs[f + i] := ⟨_, rfl⟩
                obtain ⟨v, hv⟩ : ∃ v, v = zs[fh + i] := ⟨_, rfl⟩
                have cu := (hblk.cell (f + i)).trans (u64s_at hix1)
                have cv := (hblk.cell (fh + i)).trans (u64s_at hix2)
                rw [← hu] at cu
                rw [← hv] at cv
                have hup : u < 18446744069414584321 := by rw [hu]; exact p_lt zs hmix.2.1 _ _
                have hvp : v < 18446744069414584321 := by rw [hv]; exact p_lt zs hmix.2.1 _ _
                have eu : ph u = S (f + i) := by rw [hu]; exact hmix.old hix1 (by omega) (by omega) (by omega)
                have ev : ph v = S (f + h + i) := by rw [hv, show S (f + h + i) = S (fh + i) from by rw [hfh]]; exact hmix.old hix2 (by omega) (by omega) (by omega)
                have fu := hblk.frozen (f + i)
                obtain ⟨a, hae⟩ : ∃ a, a = (u + v) % 18446744069414584321 := ⟨_, rfl⟩
                obtain ⟨d, hde⟩ := nameIt ((u + 18446744069414584321 - v) % 18446744069414584321)
                have hap : a < 18446744069414584321 := by rw [hae]; exact Nat.mod_lt _ (by omega)
                have hdp : d < 18446744069414584321 := by rw [hde]; exact Nat.mod_lt _ (by omega)
                have hadd := fun W => fieldAdd_any u v hup hvp W
                have hsub := fun W => fieldSub_any u v hup hvp W
                rw [← hae] at hadd
                rw [← hde] at hsub
                have Hadd := Lib.hid hadd
                have Hsub := Lib.hid hsub
                have ea : ph a = S (f + i) + S (f + h + i) := by rw [hae, ph_mod, ph_add, eu, ev]
                have ed : ph d = S (f + i) - S (f + h + i) := by rw [hde, ph_sub hvp, eu, ev]
                obtain ⟨ix, hix⟩ : ∃ ix, ix = i * D := ⟨_, rfl⟩
                have hixN : ix < N := by
                  rw [hix, HNB.out]
                  exact Nat.mul_lt_mul_of_pos_right hih (by
                    rcases Nat.eq_zero_or_pos D with h0 | h0
                    · exfalso; have := HNB.out; rw [h0] at this; omega
                    · exact h0)
                have e5 : (i : Int) * (D : Int) = (ix : Int) := by rw [hix]; simp
                have ew5 : IntKind.i64.wrap (ix : Int) = (ix : Int) := IntWalk.i64_in _ (by omega)
                have ixr : ix < rs.length := by rw [Hrl.out]; exact hixN
                obtain ⟨b, off, rfl, hbw, hbg, hx⟩ := (hrx.tn htn).at64 ixr
                have hrv : rs[ix] < 18446744069414584321 := Hrp.out _ (List.getElem_mem ixr)
                have ert : ph rs[ix] = rtsL rs k h i := by
                  unfold rtsL
                  rw [hdv.out, ← hix, List.getD_eq_getElem?_getD, List.getElem?_eq_getElem ixr]; rfl
                obtain ⟨r, hre⟩ : ∃ r, r = rs[ix] := ⟨_, rfl⟩
                rw [← hre] at hx hrv ert
                have hmul := fun W => fieldMul_any d r (by omega) (by omega) W
                obtain ⟨bv, hbe⟩ : ∃ bv, bv = d * r % 18446744069414584321 := ⟨_, rfl⟩
                rw [← hbe] at hmul
                have hbp : bv < 18446744069414584321 := by rw [hbe]; exact Nat.mod_lt _ (by omega)
                have eb : ph bv = (S (f + i) - S (f + h + i)) * rtsL rs k h i := by rw [hbe, ph_mod, ph_mul, ed, ert]
                have Hmul := Lib.hid hmul
                have hst := hmix.step hih (by omega) hap hbp (by rw [ea, HT2.out, Hf.out, sLay_low _ _ hih]) (by rw [eb, HT2.out, Hf.out, sLay_high _ _ hih])
                rw [← hfh] at hst
                have Hst := Lib.hid hst
                have Hzl := Lib.hid hzl
                have hne9 : ¬ (f + i = fh + i) := by omega
                have ji1 : i < M - f := by omega
                have ji2 : i < M - fh := by omega
                clear hst hmul hadd hsub hae hde hbe hre hix eu ev ea ed eb ert hu hv hfh hff2 hzl
                go_upto_region 13 with (go_at_call 182; (with_reducible refine (Hadd.out _).mono ?_); rintro e w' ⟨rfl, rfl⟩)
                have hb1 := hblk.set_ (f + i) (.int .u64 (a : Int))
                rw [u64s_set] at hb1
                have htn1 := htn.setCell (f + i) (.int .u64 (a : Int))
                obtain ⟨vv, cv1⟩ : ∃ vv, (wr.setCell ⟨g, f + i, none⟩ (.int .u64 (a : Int))).cell? ⟨g, fh + i, none⟩ = some vv := ⟨_, (hb1.cell (fh + i)).trans (u64s_at (by rw [List.length_set]; exact hix2))⟩
                have fv1 := hb1.frozen (fh + i)
                have hx1 : (wr.setCell ⟨g, f + i, none⟩ (.int .u64 (a : Int))).cell? ⟨b, off + ix, none⟩ = some (.int .u64 (r : Int)) := by rw [← hx]; exact World.cell?_setCell_far _ _ _ _ (Ne.symm hbg)
                obtain ⟨W1, hW1⟩ : ∃ W1, W1 = wr.setCell ⟨g, f + i, none⟩ (.int .u64 (a : Int)) := ⟨_, rfl⟩
                rw [← hW1] at hb1 htn1 cv1 fv1 hx1 ⊢
                have hne10 : ¬ (g = b) := fun e => hbg e.symm
                have hne11 : ¬ (b = g) := hbg
                clear hW1 hx cu cv fu
                go_region_held3 (fun W => W.cell? ⟨b, off + ix, none⟩ = some (.int .u64 (r : Int))) (go_keep) (first
                  | (go_at_call 183; (with_reducible refine (Hsub.out _).mono ?_); rintro e w' ⟨rfl, rfl⟩)
                  | (go_at_call 164; (with_reducible refine (Hmul.out _).mono ?_); rintro e w' ⟨rfl, rfl⟩))
                all_goals
                  go_wp2_with fail
                  go_roundw
                  case rel =>
                    have hb2 := hb1.set_ (fh + i) (.int .u64 (bv : Int))
                    rw [u64s_set] at hb2
                    have htn2 := htn1.setCell (fh + i) (.int .u64 (bv : Int))
                    exact ⟨i + 1, _, by omega, by go_num, Hst.out, by first | exact hb2 | exact hb2.drew, by first | exact htn2 | exact htn2.drew⟩
                  case measure => simp [intOf]; omega
              · have hih2 : i = h := by omega
                have hmix2 : Mix S T M f2 h 0 zs := by
                  rw [Hff2.out]; rw [hih2] at hmix; exact hmix.next
                have hh9 : h ≤ i := by omega
                clear hih2 hmix
                go_wp2_with fail
                go_roundw
                case rel => exact ⟨q + 1, f2, zs, by omega, rfl, by rw [Hff2.out, Hf2.out]; exact rfl, j3, hmix2, hblk, htn⟩
                case measure => simp [intOf]; omega
        · have hfM : f = M := by omega
          rw [hfM] at hmix
          have hrow := hmix.done
          rw [← HT.out] at hrow
          have hMf : M ≤ f := by omega
          clear hfM hmix
          go_wp2_with fail
          go_roundw
          case rel => exact ⟨m + 1, h2, zs, by omega, rfl, Hh2a, Hh2b, hrow, hblk, htn⟩
          case measure => simp [intOf]; omega
    · have hm2 : m = k := by omega
      have hh := Hh0.out hm2
      subst hh
      have t1 : decide ((1 : Int) ≤ 0) = false := by decide
      have Hm2 := Lib.hid hm2
      clear hm2
      have h9 := hrow
      rw [Hm2.out] at h9
      have H9 := Lib.hid h9
      clear h9 hrow
      go_wp2_with fail
      go_end0
      rw [Hk9.out]
      exact ⟨rfl, zs, H9.out, hblk, htn⟩
end
section
open Go.RowKit

set_option maxHeartbeats 3200000 in
set_option maxRecDepth 100000 in
theorem gather_any (g : Nat) (xs rs : List Nat) (k : Nat) (A : Option Addr) (c : Nat) (w : World) (hblk : Blk w g 84 (u64s xs)) (hrx : Rx w g A (u64s rs)) (hk : 1 ≤ k) (hk2 : k ≤ 40) (hxl : xs.length = 2 ^ k) (hrl : rs.length = 2 ^ (k - 1)) (hxp : ∀ v ∈ xs, v < 18446744069414584321) (hrp : ∀ v ∈ rs, v < 18446744069414584321) :
    Calls Tryz.prog 165 #[.slice (some ⟨g, 0, none⟩) xs.length xs.length, .slice A rs.length c] w fun e w' => ∃ zs, e = .returned (.tuple #[]) ∧ Row (gAll (rtsL rs k) k (fl xs)) (2 ^ k) zs ∧ Blk w' g 84 (u64s zs) ∧ Tn g w w' := by
  obtain ⟨N, hN⟩ : ∃ N, N = 2 ^ (k - 1) := ⟨_, rfl⟩
  have hk9 : 2 ^ k = 2 * N := by rw [hN, ← Nat.pow_succ']; congr 1; omega
  have hNb : N ≤ 1099511627776 := by rw [hN, show (1099511627776 : Nat) = 2 ^ 40 from rfl]; exact Nat.pow_le_pow_right (by omega) (by omega)
  have hN0 : 1 ≤ N := by rw [hN]; exact Nat.two_pow_pos _
  obtain ⟨M, hM⟩ : ∃ M, M = 2 * N := ⟨_, rfl⟩
  rw [← hM] at hk9
  have hrow0 : Row (gAll (rtsL rs k) 0 (fl xs)) M xs := ⟨hxl.trans hk9, hxp, fun j hj => by
    show ph xs[j] = ph (xs.getD j 0)
    rw [List.getD_eq_getElem?_getD, List.getElem?_eq_getElem hj]; rfl⟩
  rw [← hN] at hrl
  have hxl2 : xs.length = M := hxl.trans hk9
  have HN := Lib.hid hN
  have Hk9 := Lib.hid hk9
  rw [hxl2, hrl]
  have hgw := hblk.lt
  have q1 : (M : Int) / 2 = (N : Int) := by omega
  have HM := Lib.hid hM
  have hMb : M ≤ 2199023255552 := by omega
  have Hrp : Hid (∀ v ∈ rs, v < 18446744069414584321) := hrp
  have Hrl := Lib.hid hrl
  clear hN hk9 hxl hxl2 hrp hrl hM
  go_enter Tryz.func165, Tryz.ntmps165
  go_wp2_with fail
  go_loopw [4, 5, 6, 7, 8, 9, 10, 11] (fun hv _ _ _ _ _ _ _ wr => ∃ (m h : Nat) (zs : List Nat), m ≤ k ∧ hv = .int .i64 h ∧ Hid (h = 2 ^ m) ∧ 1 ≤ h ∧ Row (gAll (rtsL rs k) m (fl xs)) M zs ∧ Blk wr g 84 (u64s zs) ∧ Tn g w wr) (fun hv _ _ _ _ _ _ _ _ => M - (intOf hv).toNat)
  case atStart => exact ⟨0, 1, xs, by omega, rfl, rfl, by omega, hrow0, hblk, Tn.refl _ _⟩
  case round =>
    clear hrow0 hblk
    obtain ⟨m, h, zs, hm, rfl, Hh, hh1, hrow, hblk, htn⟩ := hrel
    by_cases hmk : m < k
    · have hh := Hh.out
      obtain ⟨D, hD⟩ : ∃ D, D = 2 ^ (k - 1 - m) := ⟨_, rfl⟩
      have hNB : N = h * D := by rw [HN.out, hh, hD, ← Nat.pow_add]; congr 1; omega
      have q2 : (N : Int) / (h : Int) = (D : Int) := by
        rw [hNB]
        have h9 : ((h * D : Nat) : Int) / (h : Int) = ((h * D / h : Nat) : Int) := (Int.natCast_ediv _ _).symm
        rw [h9, Nat.mul_div_cancel_left _ (by omega)]
      have q3 : (N : Int).tdiv (h : Int) = (D : Int) := by rw [Int.tdiv_eq_ediv_of_nonneg (by omega), q2]
      have hDN : D ≤ N := by rw [hNB]; exact Nat.le_mul_of_pos_left _ (by omega)
      have hdv := Lib.hid (show 2 ^ (k - 1) / h = D from by rw [← HN.out, hNB, Nat.mul_div_cancel_left _ (by omega)])
      have hD1 : 1 ≤ D := by rw [hD]; exact Nat.two_pow_pos _
      have hhN : h ≤ N := by rw [hNB]; exact Nat.le_mul_of_pos_right _ hD1
      obtain ⟨h2, hh2⟩ := nameIt (2 * h)
      have q4 : (h : Int) * 2 = (h2 : Int) := by omega
      have hlt2 : h < h2 := by omega
      have hMN := HM.out
      have hhM : h < M := by omega
      have Hh2a : Hid (h2 = 2 ^ (m + 1)) := by
        show h2 = 2 ^ (m + 1)
        rw [hh2, hh, Nat.pow_succ]; omega
      have hh21 : 1 ≤ h2 := by omega
      have hT : gAll (rtsL rs k) (m + 1) (fl xs) = gLay h (rtsL rs k h) (gAll (rtsL rs k) m (fl xs)) := by
        rw [hh]; rfl
      have HT := Lib.hid hT
      obtain ⟨S, hS⟩ : ∃ S, S = gAll (rtsL rs k) m (fl xs) := ⟨_, rfl⟩
      rw [← hS] at hrow HT
      obtain ⟨T, hT2⟩ : ∃ T, T = gLay h (rtsL rs k h) S := ⟨_, rfl⟩
      have HT2 := Lib.hid hT2
      rw [← hT2] at HT
      have HNB := Lib.hid hNB
      have hne : ¬ ((h : Int) = 0) := by omega
      have hne2 : ((h : Int) == 0) = false := by simp; omega
      clear hh hD hNB hh2 hS hT hT2 Hh hMN
      go_wp2_with fail
      go_loopw [6, 7, 8, 9, 10, 11] (fun fv _ _ _ _ _ wr => ∃ (q f : Nat) (zs : List Nat), q ≤ D ∧ fv = .int .i64 f ∧ Hid (f = 2 * h * q) ∧ f ≤ M ∧ Mix S T M f h 0 zs ∧ Blk wr g 84 (u64s zs) ∧ Tn g w wr) (fun fv _ _ _ _ _ _ => M - (intOf fv).toNat)
      case atStart => exact ⟨0, 0, zs, by omega, rfl, rfl, by omega, Mix.start hrow, hblk, htn⟩
      case round =>
        clear hrow hblk htn
        obtain ⟨q, f, zs, hq, rfl, Hf, hfN, hmix, hblk, htn⟩ := hrel
        by_cases hlt : f < M
        · have hqD : q < D := by
            rcases Nat.lt_or_ge q D with h9 | h9
            · exact h9
            · exfalso
              have e1 := Hf.out
              rw [HM.out, HNB.out] at hlt
              have e2 : 2 * h * D ≤ 2 * h * q := Nat.mul_le_mul_left _ h9
              rw [Nat.mul_assoc] at e2
              omega
          have hf2 : f + 2 * h ≤ M := by
            have e1 := Hf.out
            rw [HM.out]
            have e2 : 2 * h * (q + 1) ≤ 2 * h * D := Nat.mul_le_mul_left _ hqD
            rw [Nat.mul_succ, Nat.mul_assoc 2 h D, ← HNB.out] at e2
            omega
          have Hf2 : Hid (f + 2 * h = 2 * h * (q + 1)) := by
            have e1 := Hf.out
            show f + 2 * h = _
            rw [Nat.mul_succ]; omega
          obtain ⟨fh, hfh⟩ := nameIt (f + h)
          obtain ⟨hd, hhd⟩ := nameIt (2 * h)
          obtain ⟨f2, hff2⟩ := nameIt (f + hd)
          have e1 : (f : Int) + (h : Int) = (fh : Int) := by omega
          have e2 : 2 * (h : Int) = (hd : Int) := by omega
          have e3 : (f : Int) + (hd : Int) = (f2 : Int) := by omega
          have ew1 : IntKind.i64.wrap (fh : Int) = (fh : Int) := IntWalk.i64_in _ (by omega)
          have ew2 : IntKind.i64.wrap (hd : Int) = (hd : Int) := IntWalk.i64_in _ (by omega)
          have ew3 : IntKind.i64.wrap (f2 : Int) = (f2 : Int) := IntWalk.i64_in _ (by omega)
          have j2 : fh ≤ M := by omega
          have j3 : f2 ≤ M := by omega
          have j4 : ¬ (M = f) := by omega
          have j5 : ¬ (M = fh) := by omega
          have j6 : f ≤ fh := by omega
          have j7 : fh ≤ f2 := by omega
          have j8 : fh - f = h := by omega
          have j9 : f2 - fh = h := by omega
          have Hfh := Lib.hid hfh
          have Hff2 : Hid (f2 = f + 2 * h) := (by omega : f2 = f + 2 * h)
          clear hfh hhd hff2 hf2
          go_upto_region 7 with (fail)
          go_region_held3 (fun _ => True) (exact trivial) (fail)
          all_goals
            go_wp2_with fail
            go_loopw [9, 10, 11, 47] (fun _ _ _ iv wr => ∃ (i : Nat) (zs : List Nat), i ≤ h ∧ iv = .int .i64 i ∧ Mix S T M f h i zs ∧ Blk wr g 84 (u64s zs) ∧ Tn g w wr) (fun _ _ _ iv _ => h - (intOf iv).toNat)
            case atStart => exact ⟨0, zs, by omega, rfl, hmix, by first | exact hblk | exact hblk.drew, by first | exact htn | exact htn.drew⟩
            case round =>
              clear hmix hblk htn
              obtain ⟨i, zs, hi, rfl, hmix, hblk, htn⟩ := hrel
              by_cases hih : i < h
              · have hfh := Hfh.out
                have hff2 := Hff2.out
                have hzl := hmix.1
                have hix1 : f + i < zs.length := by omega
                have hix2 : fh + i < zs.length := by omega
                obtain ⟨u, hu⟩ : ∃ u, u = zs[f + i] := ⟨_, rfl⟩
                obtain ⟨v0, hv⟩ : ∃ v0, v0 = zs[fh + i] := ⟨_, rfl⟩
                have cu := (hblk.cell (f + i)).trans (u64s_at hix1)
                have cv := (hblk.cell (fh + i)).trans (u64s_at hix2)
                rw [← hu] at cu
                rw [← hv] at cv
                have hup : u < 18446744069414584321 := by rw [hu]; exact p_lt zs hmix.2.1 _ _
                have hvp : v0 < 18446744069414584321 := by rw [hv]; exact p_lt zs hmix.2.1 _ _
                have eu : ph u = S (f + i) := by rw [hu]; exact hmix.old hix1 (by omega) (by omega) (by omega)
                have ev : ph v0 = S (f + h + i) := by rw [hv, show S (f + h + i) = S (fh + i) from by rw [hfh]]; exact hmix.old hix2 (by omega) (by omega) (by omega)
                have fu := hblk.frozen (f + i)
                obtain ⟨ix, hix⟩ : ∃ ix, ix = i * D := ⟨_, rfl⟩
                have hixN : ix < N := by
                  rw [hix, HNB.out]
                  exact Nat.mul_lt_mul_of_pos_right hih hD1
                have e5 : (i : Int) * (D : Int) = (ix : Int) := by rw [hix]; simp
                have ew5 : IntKind.i64.wrap (ix : Int) = (ix : Int) := IntWalk.i64_in _ (by omega)
                have ixr : ix < rs.length := by rw [Hrl.out]; exact hixN
                obtain ⟨b, off, rfl, hbw, hbg, hx⟩ := (hrx.tn htn).at64 ixr
                have hrv : rs[ix] < 18446744069414584321 := Hrp.out _ (List.getElem_mem ixr)
                have ert : ph rs[ix] = rtsL rs k h i := by
                  unfold rtsL
                  rw [hdv.out, ← hix, List.getD_eq_getElem?_getD, List.getElem?_eq_getElem ixr]; rfl
                obtain ⟨r, hre⟩ : ∃ r, r = rs[ix] := ⟨_, rfl⟩
                rw [← hre] at hx hrv ert
                have hmul := fun W => fieldMul_any v0 r (by omega) (by omega) W
                obtain ⟨v, hve⟩ : ∃ v, v = v0 * r % 18446744069414584321 := ⟨_, rfl⟩
                rw [← hve] at hmul
                have hvp2 : v < 18446744069414584321 := by rw [hve]; exact Nat.mod_lt _ (by omega)
                have ev2 : ph v = S (f + h + i) * rtsL rs k h i := by rw [hve, ph_mod, ph_mul, ev, ert]
                obtain ⟨a, hae⟩ : ∃ a, a = (u + v) % 18446744069414584321 := ⟨_, rfl⟩
                obtain ⟨d, hde⟩ := nameIt ((u + 18446744069414584321 - v) % 18446744069414584321)
                have hap : a < 18446744069414584321 := by rw [hae]; exact Nat.mod_lt _ (by omega)
                have hdp : d < 18446744069414584321 := by rw [hde]; exact Nat.mod_lt _ (by omega)
                have hadd := fun W => fieldAdd_any u v hup hvp2 W
                have hsub := fun W => fieldSub_any u v hup hvp2 W
                rw [← hae] at hadd
                rw [← hde] at hsub
                have Hadd := Lib.hid hadd
                have Hsub := Lib.hid hsub
                have ea : ph a = S (f + i) + S (f + h + i) * rtsL rs k h i := by rw [hae, ph_mod, ph_add, eu, ev2]
                have ed : ph d = S (f + i) - S (f + h + i) * rtsL rs k h i := by rw [hde, ph_sub hvp2, eu, ev2]
                have Hmul := Lib.hid hmul
                have hst := hmix.step hih (by omega) hap hdp (by rw [ea, HT2.out, Hf.out, gLay_low _ _ hih]) (by rw [ed, HT2.out, Hf.out, gLay_high _ _ hih])
                rw [← hfh] at hst
                have Hst := Lib.hid hst
                have Hzl := Lib.hid hzl
                have hne9 : ¬ (f + i = fh + i) := by omega
                have hne8 : ¬ (fh + i = f + i) := by omega
                have ji1 : i < M - f := by omega
                have ji2 : i < M - fh := by omega
                have hne10 : ¬ (g = b) := fun e => hbg e.symm
                have hne11 : ¬ (b = g) := hbg
                have cvv := Lib.hid (show ∃ vv, (wr.setCell ⟨g, f + i, none⟩ (.int .u64 (a : Int))).cell? ⟨g, fh + i, none⟩ = some vv from ⟨_, ((hblk.set_ (f + i) (.int .u64 (a : Int))).cell (fh + i)).trans (by rw [u64s_set]; exact u64s_at (by rw [List.length_set]; exact hix2))⟩)
                clear hst hmul hadd hsub hae hde hve hre hix eu ev ev2 ea ed ert hu hv hfh hff2 hzl
                go_upto_region 11 with (fail)
                go_region_held3 (fun W => W.cell? ⟨g, fh + i, none⟩ = some (.int .u64 (v0 : Int)) ∧ W.cell? ⟨b, off + ix, none⟩ = some (.int .u64 (r : Int))) (go_keep) (first
                  | (go_at_call 164; (with_reducible refine (Hmul.out _).mono ?_); rintro e w' ⟨rfl, rfl⟩))
                all_goals
                  go_upto_region 13 with (go_at_call 182; (with_reducible refine (Hadd.out _).mono ?_); rintro e w' ⟨rfl, rfl⟩)
                  have hb1 : Blk (wr.setCell ⟨g, f + i, none⟩ (.int .u64 (a : Int))).drew g 84 (u64s (zs.set (f + i) a)) := by
                    have := (hblk.set_ (f + i) (.int .u64 (a : Int))).drew
                    rwa [u64s_set] at this
                  have htn1 := (htn.setCell (f + i) (.int .u64 (a : Int))).drew
                  obtain ⟨vv, cv1⟩ : ∃ vv, (wr.setCell ⟨g, f + i, none⟩ (.int .u64 (a : Int))).drew.cell? ⟨g, fh + i, none⟩ = some vv := ⟨_, (hb1.cell (fh + i)).trans (u64s_at (by rw [List.length_set]; exact hix2))⟩
                  have fv1 := hb1.frozen (fh + i)
                  obtain ⟨W1, hW1⟩ : ∃ W1, W1 = (wr.setCell ⟨g, f + i, none⟩ (.int .u64 (a : Int))).drew := ⟨_, rfl⟩
                  rw [← hW1] at hb1 htn1 cv1 fv1 ⊢
                  clear hW1 hx cu cv fu cvv
                  go_wp2_with (go_at_call 183; (with_reducible refine (Hsub.out _).mono ?_); rintro e w' ⟨rfl, rfl⟩)
                  go_roundw
                  case rel =>
                    have hb2 := hb1.set_ (fh + i) (.int .u64 (d : Int))
                    rw [u64s_set] at hb2
                    have htn2 := htn1.setCell (fh + i) (.int .u64 (d : Int))
                    exact ⟨i + 1, _, by omega, by go_num, Hst.out, by first | exact hb2 | exact hb2.drew, by first | exact htn2 | exact htn2.drew⟩
                  case measure => simp [intOf]; omega
              · have hih2 : i = h := by omega
                have hmix2 : Mix S T M f2 h 0 zs := by
                  rw [Hff2.out]; rw [hih2] at hmix; exact hmix.next
                have hh9 : h ≤ i := by omega
                clear hih2 hmix
                go_wp2_with fail
                go_roundw
                case rel => exact ⟨q + 1, f2, zs, by omega, rfl, by rw [Hff2.out, Hf2.out]; exact rfl, j3, hmix2, hblk, htn⟩
                case measure => simp [intOf]; omega
        · have hfM : f = M := by omega
          rw [hfM] at hmix
          have hrow := hmix.done
          rw [← HT.out] at hrow
          have hMf : M ≤ f := by omega
          clear hfM hmix
          go_wp2_with fail
          go_roundw
          case rel => exact ⟨m + 1, h2, zs, by omega, rfl, Hh2a, hh21, hrow, hblk, htn⟩
          case measure => simp [intOf]; omega
    · have hm2 : m = k := by omega
      have hh := Hh.out
      rw [hm2, Hk9.out] at hh
      have t1 : M ≤ h := by omega
      have h9 := hrow
      rw [hm2] at h9
      have H9 := Lib.hid h9
      clear h9 hrow hm2 hh
      go_wp2_with fail
      go_end0
      rw [Hk9.out]
      first
        | exact ⟨rfl, zs, H9.out, hblk, htn⟩
        | exact ⟨zs, rfl, H9.out, hblk, htn⟩
end
end Go.Proofs.YtadpelhmjmamnaaGreatDoor
