/- The contract of byHalves, given that of product for fewer words. The contracts of raise, greatest, cut, compareWords and joined. Conditions: words; fewer than any slice can have. The contract of joined. Conditions: words; the lower part not longer than the place of the upper one, which is above 0. append of so many noughts (of a made row) onto a row of one's own, both arms. Conditions: at most 2^43 words. -/
import Derived.Test.YtogkfpbapjjgfaaDoorPkDv5
import Derived.Test.YtogkfpbapjjgfaaDoorPkDv6
import Derived.Test.YtogkfpbapjjgfaaDoorPkDv1
import Derived.Maps.AppendAt
import Derived.ArgAppend
namespace Go.Proofs.YtogkfpbapjjgfaaDoor
section
open Go.RowKit

theorem ProdOk.mono {m n : Nat} (h : ProdOk n) (hm : m ≤ n) : ProdOk m := fun A A2 c c2 us vs w B hl => h A A2 c c2 us vs w B (by omega)

theorem halves_end {b h N q aL aH bL bH m2 P : Nat} {zs zr lo hi : List Nat} (hzs : zs = lo ++ hi) (hll : lo.length = 2 * h) (hhl : 2 * h + hi.length = h + N) (hlo : val b lo = aL * bL) (hhi : val b hi = aH * bH) (hm2 : m2 = aL * bH + aH * bL) (hP : P = (aL + b ^ h * aH) * (bL + b ^ h * bH)) (hPT : P < b ^ (h + N))
    (hrl : zr.length = N) (hz : val b zr + b ^ N * q = val b ((zs.drop h).take N) + m2) : val b (patch zs h zr) = P := by
  subst hrl
  have hzl : h + zr.length = zs.length := by rw [hzs, List.length_append]; omega
  have h1 := patch_val b (L := zs) (o := h) (zs := zr) (by omega)
  have h2 : b ^ h * val b zr + b ^ (h + zr.length) * q = b ^ h * val b ((zs.drop h).take zr.length) + b ^ h * m2 := by
    rw [Nat.pow_add, Nat.mul_assoc, ← Nat.mul_add, hz, Nat.mul_add]
  have h3 : val b zs = aL * bL + b ^ (2 * h) * (aH * bH) := by rw [hzs, val_append, hll, hlo, hhi]
  have h4 : P = aL * bL + b ^ h * m2 + b ^ (2 * h) * (aH * bH) := by
    rw [hP, hm2, show b ^ (2 * h) = b ^ h * b ^ h from by rw [← Nat.pow_add]; congr 1; omega]
    generalize b ^ h = t
    grind
  have h5 : val b (patch zs h zr) + b ^ (h + zr.length) * q = P := by
    rw [h4]
    generalize b ^ (h + zr.length) * q = t1 at *
    generalize b ^ (2 * h) * (aH * bH) = t2 at *
    omega
  exact carry_zero2 h5 hPT
theorem mixed_lt {b h la lb aL aH bL bH : Nat} (hb : 2 ≤ b) (h1 : aL < b ^ h) (h2 : aH < b ^ (la - h)) (h3 : bL < b ^ h) (h4 : bH < b ^ (lb - h)) (hl : h < lb) (hl2 : lb ≤ la) : aL * bH + aH * bL < b ^ (la + lb - h) := by
  have e1 : aL * bH < b ^ lb := by
    rw [show b ^ lb = b ^ h * b ^ (lb - h) from by rw [← Nat.pow_add]; congr 1; omega]
    exact Nat.mul_lt_mul_of_lt_of_le h1 (Nat.le_of_lt h4) (Nat.pow_pos (by omega))
  have e2 : aH * bL < b ^ la := by
    rw [show b ^ la = b ^ (la - h) * b ^ h from by rw [← Nat.pow_add]; congr 1; omega]
    exact Nat.mul_lt_mul_of_lt_of_le h2 (Nat.le_of_lt h3) (Nat.pow_pos (by omega))
  have e3 : b ^ lb ≤ b ^ la := Nat.pow_le_pow_right (by omega) hl2
  exact Nat.lt_of_lt_of_le (sum_lt hb (Nat.lt_of_lt_of_le e1 e3) e2) (Nat.pow_le_pow_right (by omega) (by omega))
theorem trimL_len_le {b : Nat} {xs : List Nat} {N : Nat} (hb : 2 ≤ b) (hd : Dig b xs) (h : val b xs < b ^ N) : (trimL xs).length ≤ N := by
  have hn := Num.of_trim hd
  by_cases h0 : trimL xs = []
  · rw [h0]; simp
  · have h1 := hn.ge h0
    have h2 : b ^ ((trimL xs).length - 1) < b ^ N := Nat.lt_of_le_of_lt h1 h
    have h3 := (Nat.pow_lt_pow_iff_right (by omega)).1 h2
    omega
theorem take_mixed {b n x y : Nat} {zs : List Nat} {q : Nat} (h : val b zs + y = x + b ^ n * q) (hz : Dig b zs) (hl : zs.length = n) (hy : y ≤ x) : val b zs = x - y := by
  have h1 := val_lt b zs hz
  rw [hl] at h1
  have h2 := borrow_none h h1 hy
  rw [h2, Nat.mul_zero] at h
  omega

theorem mixed_eq (aL aH bL bH : Nat) : (aL + aH) * (bL + bH) = aL * bL + aH * bH + (aL * bH + aH * bL) := by grind
theorem patch_two (n : Nat) (lo hi : List Nat) (h : lo.length + hi.length = n) : patch (patch (List.replicate n 0) 0 lo) lo.length hi = lo ++ hi := by
  subst h
  simp [patch, List.drop_append, List.drop_replicate]

/-- Two rows that are kept. -/
def Keep2 (w : World) (g1 : Nat) (l1 : List Nat) (g2 : Nat) (l2 : List Nat) (W : World) : Prop := Blk W g1 24 (u64s l1) ∧ Blk W g2 24 (u64s l2) ∧ Below w.heap.size w W
section
variable {w W W' : World} {g1 g2 : Nat} {l1 l2 : List Nat}
theorem Keep2.next (h : Keep2 w g1 l1 g2 l2 W) (hb : Below W.heap.size W W') : Keep2 w g1 l1 g2 l2 W' :=
  ⟨h.1.below hb h.1.lt, h.2.1.below hb h.2.1.lt, h.2.2.trans (hb.mono h.2.2.size)⟩
theorem Keep2.drew (h : Keep2 w g1 l1 g2 l2 W) : Keep2 w g1 l1 g2 l2 W.drew := ⟨h.1, h.2.1, h.2.2.drew⟩
theorem Keep2.tn {g : Nat} (h : Keep2 w g1 l1 g2 l2 W) (ht : Tn g W W') (n1 : g ≠ g1) (n2 : g ≠ g2) (hg : w.heap.size ≤ g) : Keep2 w g1 l1 g2 l2 W' :=
  ⟨h.1.tn ht n1.symm, h.2.1.tn ht n2.symm, h.2.2.trans (ht.below hg h.2.2.size)⟩
theorem Keep2.b (h : Keep2 w g1 l1 g2 l2 W) : Below w.heap.size w W := h.2.2
end
theorem Rx.trim_ {w : World} {g : Nat} {A : Option Addr} {xs : List Nat} (h : Rx w g A (u64s xs)) : Rx w g A (u64s (trimL xs)) := fun hn => by
  obtain ⟨b, off, e, hb, hg, hc⟩ := h (by intro e; apply hn; rw [u64s_trim, e]; simp)
  refine ⟨b, off, e, hb, hg, fun k v hv => hc k v ?_⟩
  rw [u64s_trim, List.getElem?_take] at hv
  split at hv
  · exact hv
  · cases hv
theorem rx_whole {w : World} {g b : Nat} {L : List Nat} (h : Blk w b 24 (u64s L)) (hg : b ≠ g) : Rx w g (some ⟨b, 0, none⟩) (u64s L) := Rx.of_blk h hg 0 (fun k v hv => by rw [Nat.zero_add]; exact hv)
theorem drop_take_all (L : List Nat) (n : Nat) (h : n = L.length) : (L.drop 0).take n = L := by subst h; simp

set_option maxHeartbeats 3200000 in
set_option maxRecDepth 100000 in
theorem byHalves_any (A A2 : Option Addr) (c c2 : Nat) (us vs : List Nat) (w : World) (B : Nat) (hIH : ProdOk (us.length + vs.length - 1)) (hr : Rd w B A (u64s us)) (hr2 : Rd w B A2 (u64s vs)) (hB : B ≤ w.heap.size) (hd : Dig 18446744073709551616 us) (hd2 : Dig 18446744073709551616 vs) (hc : us.length ≤ c) (hc2 : vs.length ≤ c2) (h40 : 40 ≤ vs.length) (hle : vs.length ≤ us.length) (hle2 : us.length ≤ 2 * vs.length) (hm : us.length + vs.length ≤ 536870912) :
    Calls Tryd.prog 84 #[.slice A us.length c, .slice A2 vs.length c2] w fun e w' => Words w w' (us.length + vs.length) (val 18446744073709551616 us * val 18446744073709551616 vs) e := by
  obtain ⟨h, hh⟩ : ∃ h, h = (us.length + 1) / 2 := ⟨_, rfl⟩
  have q1 : ((us.length : Int) + 1) / 2 = (h : Int) := by omega
  have q2 : ((us.length : Int) + 1).tdiv 2 = (h : Int) := by rw [Int.tdiv_eq_ediv_of_nonneg (by omega)]; omega
  have hh1 : us.length ≤ 2 * h := by omega
  have hh2 : 2 * h ≤ us.length + 1 := by omega
  have hh3 : h ≤ us.length := by omega
  clear hh
  rcases Nat.lt_or_ge h vs.length with hv | hv
  rotate_left
  · have t1 : decide (vs.length ≤ h) = true := by simpa using hv
    have hpw := piecewise_any A A2 c c2 us vs w B (hIH.mono (by omega)) hr hr2 hB hd hd2 hc hc2 (by omega) hle hm
    have Hpw := Lib.hid hpw
    clear hpw hIH
    go_enter Tryd.func84, Tryd.ntmps84
    go_wp2_with (go_at_call 83; refine Hpw.out.mono ?_; rintro e w1 ⟨zs, g, rfl, hzl, hzd, hzv, hg, hblk, hbel⟩; have Hzl := Lib.hid hzl; clear hzl)
    go_ret
    exact ⟨zs, g, rfl, Hzl.out, hzd, hzv, hg, hblk, hbel⟩
  have t1 : decide (vs.length ≤ h) = false := by simp; omega
  obtain ⟨b, off, rfl, hbB, _⟩ := hr.at64 (k := 0) (by omega)
  obtain ⟨b2, off2, rfl, hbB2, _⟩ := hr2.at64 (k := 0) (by omega)
  -- the halves
  obtain ⟨uL, huL⟩ : ∃ x, x = us.take h := ⟨_, rfl⟩
  obtain ⟨uH, huH⟩ : ∃ x, x = us.drop h := ⟨_, rfl⟩
  obtain ⟨vL, hvL⟩ : ∃ x, x = vs.take h := ⟨_, rfl⟩
  obtain ⟨vH, hvH⟩ : ∃ x, x = vs.drop h := ⟨_, rfl⟩
  have luL : uL.length = h := by rw [huL, List.length_take]; omega
  have luH : uH.length = us.length - h := by rw [huH, List.length_drop]
  have lvL : vL.length = h := by rw [hvL, List.length_take]; omega
  have lvH : vH.length = vs.length - h := by rw [hvH, List.length_drop]
  have duL : Dig 18446744073709551616 uL := by rw [huL]; exact hd.take_ _
  have duH : Dig 18446744073709551616 uH := by rw [huH]; exact hd.drop_ _
  have dvL : Dig 18446744073709551616 vL := by rw [hvL]; exact hd2.take_ _
  have dvH : Dig 18446744073709551616 vH := by rw [hvH]; exact hd2.drop_ _
  have ruL : Rd w B (some ⟨b, off, none⟩) (u64s uL) := by rw [huL]; exact hr.takeN _
  have ruH : Rd w B (some ⟨b, off + h, none⟩) (u64s uH) := by rw [huH]; exact hr.drop_ h
  have rvL : Rd w B (some ⟨b2, off2, none⟩) (u64s vL) := by rw [hvL]; exact hr2.takeN _
  have rvH : Rd w B (some ⟨b2, off2 + h, none⟩) (u64s vH) := by rw [hvH]; exact hr2.drop_ h
  have eu : val 18446744073709551616 us = val 18446744073709551616 uL + 18446744073709551616 ^ h * val 18446744073709551616 uH := by
    conv => lhs; rw [← List.take_append_drop h us, val_append]
    rw [← huL, ← huH, luL]
  have ev : val 18446744073709551616 vs = val 18446744073709551616 vL + 18446744073709551616 ^ h * val 18446744073709551616 vH := by
    conv => lhs; rw [← List.take_append_drop h vs, val_append]
    rw [← hvL, ← hvH, lvL]
  have hPT := prod_lt hd hd2 (by omega)
  have bL1 := val_lt _ uL duL
  have bH1 := val_lt _ uH duH
  have bL2 := val_lt _ vL dvL
  have bH2 := val_lt _ vH dvH
  rw [luL] at bL1
  rw [luH] at bH1
  rw [lvL] at bL2
  rw [lvH] at bH2
  have hmx := mixed_lt (by omega) bL1 bH1 bL2 bH2 hv hle
  obtain ⟨aL, haL⟩ : ∃ x, x = val 18446744073709551616 uL := ⟨_, rfl⟩
  obtain ⟨aH, haH⟩ : ∃ x, x = val 18446744073709551616 uH := ⟨_, rfl⟩
  obtain ⟨bL, hbL⟩ : ∃ x, x = val 18446744073709551616 vL := ⟨_, rfl⟩
  obtain ⟨bH, hbH⟩ : ∃ x, x = val 18446744073709551616 vH := ⟨_, rfl⟩
  rw [← haL, ← haH] at eu
  rw [← hbL, ← hbH] at ev
  rw [← haL, ← haH, ← hbL, ← hbH] at hmx
  have Hlow : Hid (∀ W, Below w.heap.size w W → Calls Tryd.prog 63 #[.slice (some ⟨b, off, none⟩) h c, .slice (some ⟨b2, off2, none⟩) h c2] W fun e w' => Words W w' (h + h) (aL * bL) e) := fun W hW => by
    have := hIH _ _ c c2 uL vL W B (by omega) (ruL.below (hW.mono hB)) (rvL.below (hW.mono hB)) (Nat.le_trans hB hW.size) duL dvL (by omega) (by omega) (by omega)
    rw [luL, lvL, ← haL, ← hbL] at this; exact this
  have Hhigh : Hid (∀ W, Below w.heap.size w W → Calls Tryd.prog 63 #[.slice (some ⟨b, off + h, none⟩) (us.length - h) (c - h), .slice (some ⟨b2, off2 + h, none⟩) (vs.length - h) (c2 - h)] W fun e w' => Words W w' (us.length - h + (vs.length - h)) (aH * bH) e) := fun W hW => by
    have := hIH _ _ (c - h) (c2 - h) uH vH W B (by omega) (ruH.below (hW.mono hB)) (rvH.below (hW.mono hB)) (Nat.le_trans hB hW.size) duH dvH (by omega) (by omega) (by omega)
    rw [luH, lvH, ← haH, ← hbH] at this; exact this
  have Hsa : Hid (∀ W, Below w.heap.size w W → Calls Tryd.prog 101 #[.slice (some ⟨b, off, none⟩) h c, .slice (some ⟨b, off + h, none⟩) (us.length - h) (c - h)] W fun e w' => Words W w' (h + 1) (aL + aH) e) := fun W hW => by
    have := sumOf_any (some ⟨b, off, none⟩) (some ⟨b, off + h, none⟩) c (c - h) uL uH W B (ruL.below (hW.mono hB)) (ruH.below (hW.mono hB)) (Nat.le_trans hB hW.size) duL duH (by omega) (by omega)
    rw [luL, luH, ← haL, ← haH] at this; exact this
  have Hsb : Hid (∀ W, Below w.heap.size w W → Calls Tryd.prog 101 #[.slice (some ⟨b2, off2, none⟩) h c2, .slice (some ⟨b2, off2 + h, none⟩) (vs.length - h) (c2 - h)] W fun e w' => Words W w' (h + 1) (bL + bH) e) := fun W hW => by
    have := sumOf_any (some ⟨b2, off2, none⟩) (some ⟨b2, off2 + h, none⟩) c2 (c2 - h) vL vH W B (rvL.below (hW.mono hB)) (rvH.below (hW.mono hB)) (Nat.le_trans hB hW.size) dvL dvH (by omega) (by omega)
    rw [lvL, lvH, ← hbL, ← hbH] at this; exact this
  have Hm : Hid (∀ (W : World) (sa sb : List Nat) (ga gb : Nat), Blk W ga 24 (u64s sa) → Blk W gb 24 (u64s sb) → sa.length = h + 1 → sb.length = h + 1 → Dig 18446744073709551616 sa → Dig 18446744073709551616 sb → Calls Tryd.prog 63 #[.slice (some ⟨ga, 0, none⟩) sa.length sa.length, .slice (some ⟨gb, 0, none⟩) sb.length sb.length] W fun e w' => Words W w' (h + 1 + (h + 1)) (val 18446744073709551616 sa * val 18446744073709551616 sb) e) := fun W sa sb ga gb ha hb la lb da db => by
    have := hIH (some ⟨ga, 0, none⟩) (some ⟨gb, 0, none⟩) sa.length sb.length sa sb W W.heap.size (by omega) (Rd.of_blk ha ha.lt 0 (fun k v hv => by rw [Nat.zero_add]; exact hv)) (Rd.of_blk hb hb.lt 0 (fun k v hv => by rw [Nat.zero_add]; exact hv)) (Nat.le_refl _) da db (Nat.le_refl _) (Nat.le_refl _) (by omega)
    rw [la, lb] at this ⊢; exact this
  have Heu := Lib.hid eu
  have Hev := Lib.hid ev
  have Hmx := Lib.hid hmx
  have HPT := Lib.hid hPT
  have hmk := fun W => mk64a us.length vs.length (by omega) W
  have i1 : (h : Int) ≤ (us.length : Int) := by omega
  have i2 : (h : Int) ≤ (vs.length : Int) := by omega
  have i3 : (h : Int) ≤ (c : Int) := by omega
  have i4 : (h : Int) ≤ (c2 : Int) := by omega
  have i5 : h ≤ c := by omega
  have i6 : h ≤ c2 := by omega
  have i7 : h ≤ vs.length := by omega
  have i8 : ¬ (c = h) := by omega
  have i9 : ¬ (c2 = h) := by omega
  clear eu ev hmx hPT bL1 bH1 bL2 bH2 huL huH hvL hvH luL luH lvL lvH duL duH dvL dvH ruL ruH rvL rvH haL haH hbL hbH hIH hd hd2 hr hr2
  go_enter Tryd.func84, Tryd.ntmps84
  go_upto_region 4 with (fail)
  go_cut [6] (fun s wc => ∃ lo gl, s = .slice (some ⟨gl, 0, none⟩) lo.length lo.length ∧ lo.length = h + h ∧ Dig 18446744073709551616 lo ∧ Hid (val 18446744073709551616 lo = aL * bL) ∧ w.heap.size ≤ gl ∧ Blk wc gl 24 (u64s lo) ∧ Below w.heap.size w wc)
  case first =>
    go_region_held3 (fun _ => True) (exact trivial) (first
      | (go_at_call 63; refine (Hlow.out _ (by first | exact Below.refl _ _ | exact (Below.refl _ _).drew)).mono ?_; rintro e w1 ⟨ps, g1, rfl, hpsl, hpsd, hpsv, hg1, hres, hb1⟩; have Hpsl := Lib.hid hpsl; have Hpsv := Lib.hid hpsv; clear hpsl hpsv))
    all_goals
      go_wp2_with fail
      go_meet
      exact ⟨ps, g1, rfl, Hpsl.out, hpsd, Hpsv.out, hg1, hres, by first | exact hb1 | exact (Below.refl _ _).drew.trans hb1⟩
  case rest =>
    obtain ⟨lo, gl, rfl, hlol, hlod, Hlov, hgl, hblo, hbel⟩ := hcut
    have Hlol := Lib.hid hlol
    clear hlol
    go_upto_region 5 with (fail)
    go_cut [7] (fun s wd => ∃ hi gh, s = .slice (some ⟨gh, 0, none⟩) hi.length hi.length ∧ hi.length = us.length - h + (vs.length - h) ∧ Dig 18446744073709551616 hi ∧ Hid (val 18446744073709551616 hi = aH * bH) ∧ w.heap.size ≤ gh ∧ Keep2 w gl lo gh hi wd)
    case first =>
      have hbs := hbel.size
      go_region_held3 (fun _ => True) (exact trivial) (first
        | (go_at_call 63; refine (Hhigh.out _ (by first | exact hbel | exact hbel.drew)).mono ?_; rintro e w1 ⟨ps, g1, rfl, hpsl, hpsd, hpsv, hg1, hres, hb1⟩; have Hpsl := Lib.hid hpsl; have Hpsv := Lib.hid hpsv; clear hpsl hpsv))
      all_goals
        go_wp2_with fail
        go_meet
        exact ⟨ps, g1, rfl, Hpsl.out, hpsd, Hpsv.out, Nat.le_trans hbs hg1, by first | exact hblo.below hb1 hblo.lt | exact hblo.drew.below hb1 hblo.lt, hres, by first | exact hbel.trans (hb1.mono hbs) | exact hbel.drew.trans (hb1.mono hbs)⟩
    case rest =>
      clear hblo hbel
      obtain ⟨hi, gh, rfl, hhil, hhid, Hhiv, hgh, hK⟩ := hcut
      have Hhil := Lib.hid hhil
      clear hhil
      go_upto_region 6 with (fail)
      go_cut [8] (fun s wd => ∃ mi gm, s = .slice (some ⟨gm, 0, none⟩) mi.length mi.length ∧ mi.length = h + 1 + (h + 1) ∧ Dig 18446744073709551616 mi ∧ Hid (val 18446744073709551616 mi = (aL + aH) * (bL + bH)) ∧ w.heap.size ≤ gm ∧ gm ≠ gl ∧ gm ≠ gh ∧ Blk wd gm 24 (u64s mi) ∧ Keep2 w gl lo gh hi wd)
      case first =>
        have HK := Lib.hid hK
        clear hK
        go_region_held3 (fun _ => True) (exact trivial) (first
          | (go_at_call 101; (with_reducible refine (Hsa.out _ (by first | exact HK.out.b | exact HK.out.drew.b | exact HKb.out.b | exact HKb.out.drew.b)).mono ?_); rintro e wa ⟨sa, ga, rfl, hsal, hsad, hsav, hga, hbka, hBa⟩; have HKa := Lib.hid (show Keep2 w gl lo gh hi wa from (by first | exact HK.out.next hBa | exact HK.out.drew.next hBa | exact HKb.out.next hBa | exact HKb.out.drew.next hBa)); have Hsal := Lib.hid hsal; have Hsav := Lib.hid hsav; have Hbka := Lib.hid hbka; clear hsal hsav hbka)
          | (go_at_call 101; (with_reducible refine (Hsb.out _ (by first | exact HK.out.b | exact HK.out.drew.b | exact HKa.out.b | exact HKa.out.drew.b)).mono ?_); rintro e wb ⟨sb, gb, rfl, hsbl, hsbd, hsbv, hgb, hbkb, hBb⟩; have HKb := Lib.hid (show Keep2 w gl lo gh hi wb from (by first | exact HK.out.next hBb | exact HK.out.drew.next hBb | exact HKa.out.next hBb | exact HKa.out.drew.next hBb)); have Hsbl := Lib.hid hsbl; have Hsbv := Lib.hid hsbv; have Hbkb := Lib.hid hbkb; clear hsbl hsbv hbkb)
          | (go_at_call 63; (with_reducible refine (Hm.out _ sa sb ga gb (by first | exact Hbka.out | exact Hbka.out.drew | exact Hbka.out.below hBb Hbka.out.lt | exact Hbka.out.drew.below hBb Hbka.out.lt | exact (Hbka.out.below hBb Hbka.out.lt).drew | exact (Hbka.out.drew.below hBb Hbka.out.lt).drew) (by first | exact Hbkb.out | exact Hbkb.out.drew | exact Hbkb.out.below hBa Hbkb.out.lt | exact Hbkb.out.drew.below hBa Hbkb.out.lt | exact (Hbkb.out.below hBa Hbkb.out.lt).drew | exact (Hbkb.out.drew.below hBa Hbkb.out.lt).drew) Hsal.out Hsbl.out hsad hsbd).mono ?_); rintro e wm ⟨mi, gm, rfl, hml, hmd, hmv, hgm, hbkm, hBm⟩; have HKl := Lib.hid (show ∃ W, Keep2 w gl lo gh hi W ∧ W.heap.size ≤ gm ∧ Below W.heap.size W wm from (by first | exact ⟨_, HKa.out, hgm, hBm⟩ | exact ⟨_, HKb.out, hgm, hBm⟩ | exact ⟨_, HKa.out.drew, hgm, hBm⟩ | exact ⟨_, HKb.out.drew, hgm, hBm⟩)); have Hml := Lib.hid hml; have Hmv := Lib.hid hmv; clear hml hmv))
        all_goals
          go_wp2_with fail
          go_meet
          obtain ⟨W, hKW, hgW, hBW⟩ := HKl.out
          have g1 := hKW.1.lt
          have g2 := hKW.2.1.lt
          have g3 := hKW.2.2.size
          exact ⟨mi, gm, rfl, Hml.out, hmd, by rw [Hmv.out, Hsav.out, Hsbv.out]; exact rfl, by omega, by omega, by omega, hbkm, hKW.next hBW⟩
      case rest =>
        clear hK
        obtain ⟨mi, gm, rfl, hmil, hmid, Hmiv, hgm, hne1, hne2, hbm, hK⟩ := hcut
        have Hmil := Lib.hid hmil
        clear hmil Hlow Hhigh Hsa Hsb Hm
        go_wp2_with fail
        refine (takeFrom_any gm 0 mi.length mi.length mi lo (some ⟨gl, 0, none⟩) lo.length _ hbm (rx_whole hK.1 hne1.symm) (by omega) (by have := Hmil.out; have := Hlol.out; omega) hmid hlod (by have := Hmil.out; omega)).mono ?_
        rintro e w2 ⟨zr, q, rfl, hrl, hrd, hq, hrv, hblk2, htn⟩
        rw [drop_take_all mi mi.length rfl] at hrv
        rw [patch_zero_all hrl] at hblk2
        have hmx2 := mixed_eq aL aH bL bH
        rw [← Hmiv.out, ← Hlov.out, ← Hhiv.out] at hmx2
        have hv2 := take_mixed hrv hrd hrl (by omega)
        have hK2 := hK.tn htn hne1 hne2 hgm
        have Hv2 := Lib.hid hv2
        have Hrl := Lib.hid hrl
        have Hmx2 := Lib.hid hmx2
        clear hrv hv2 hrl hmx2 hbm hK htn
        go_wp2_with fail
        refine (takeFrom_any gm 0 mi.length mi.length zr hi (some ⟨gh, 0, none⟩) hi.length _ hblk2 (rx_whole hK2.2.1 hne2.symm) (by rw [Hrl.out]; omega) (by have := Hmil.out; have := Hhil.out; omega) hrd hhid (by have := Hmil.out; omega)).mono ?_
        rintro e w3 ⟨m2, q2, rfl, hml, hmd2, hq2, hmv, hblk3, htn2⟩
        rw [drop_take_all zr mi.length Hrl.out.symm] at hmv
        rw [patch_zero_all (hml.trans Hrl.out.symm)] at hblk3
        have hv3 := take_mixed hmv hmd2 hml (by rw [Hv2.out]; have := Hmx2.out; omega)
        have hm2v := Lib.hid (show val 18446744073709551616 m2 = aL * bH + aH * bL from by rw [hv3, Hv2.out]; have := Hmx2.out; omega)
        have hK3 := hK2.tn htn2 hne1 hne2 hgm
        have Hml := Lib.hid hml
        clear hmv hv3 hml hblk2 hK2 htn2 Hv2 Hmx2 hrd Hrl Hmiv
        have hlol := Hlol.out
        have hhil := Hhil.out
        have hll : lo.length = 2 * h := by omega
        have Hll := Lib.hid hll
        have hlh : 2 * h + hi.length = us.length + vs.length := by omega
        have Hlh := Lib.hid hlh
        clear hlol hhil hll hlh
        have j1 : (2 : Int) * (h : Int) ≤ (us.length : Int) + (vs.length : Int) := by omega
        have j2 : ¬ (us.length + vs.length = 2 * h) := by omega
        have j3 : (h : Int) ≤ (us.length : Int) + (vs.length : Int) := by omega
        have j4 : ¬ (us.length + vs.length = h) := by omega
        have j5 : h ≤ us.length + vs.length := by omega
        have j6 : 2 * h ≤ us.length + vs.length := by omega
        go_upto_region 11 with ((with_reducible refine wpList_copy_splice (o := ⟨some 64, _, _, _, _, _⟩) rfl _ _ _ _ rfl 24 Tryd.underlying57 ?u1 _ _ _ _ _ _ rfl rfl w3.heap.size 0 (u64s (List.replicate (us.length + vs.length) 0)) 24 ?c1 (u64s lo) ?c2 ?c3 ?c4 ?c5 w3.heap.size w3 ?c6 (Nat.le_refl _) ?_); rotate_right; intro w4 hg4 hb4)
        case u1 => kernel_rfl
        case c1 => exact Blk.new_ (by simp [u64s])
        case c2 => rw [u64s_length]; exact (Nat.min_eq_left (by have := Hll.out; omega)).symm
        case c3 =>
          intro _ j v hv
          rw [World.cell?_alloc_past _ _ _ (by show gl < _; exact hK3.1.lt), hK3.1.cell]
          exact hv
        case c4 => rw [u64s_length, u64s_length, List.length_replicate]; have := Hll.out; omega
        case c5 => exact one_u64s lo
        case c6 => exact (Below.refl _ _).alloc (Nat.le_refl _) _
        have Hg4 := Lib.hid (show Blk w4 w3.heap.size 24 (u64s (patch (List.replicate (us.length + vs.length) 0) 0 lo)) from by rw [← u64s_splice]; exact hg4.out)
        have hpl0 : (patch (List.replicate (us.length + vs.length) 0) 0 lo).length = us.length + vs.length := by rw [patch_length (by rw [List.length_replicate]; have := Hll.out; omega), List.length_replicate]
        have Hpl0 := Lib.hid hpl0
        clear hg4 hpl0
        go_upto_region 12 with ((with_reducible refine wpList_copy_splice (o := ⟨some 70, _, _, _, _, _⟩) rfl _ _ _ _ rfl 24 Tryd.underlying57 ?u1 _ _ _ _ _ _ rfl rfl w3.heap.size (2 * h) (u64s (patch (List.replicate (us.length + vs.length) 0) 0 lo)) 24 ?d2 (u64s hi) ?d3 ?d4 ?d5 ?d6 w3.heap.size w3 ?d7 (Nat.le_refl _) ?_); rotate_right; intro w5 hg5 hb5)
        case u1 => kernel_rfl
        case d2 => exact Hg4.out
        case d3 => rw [u64s_length]; exact (Nat.min_eq_left (by have := Hlh.out; omega)).symm
        case d4 =>
          intro _ j v hv
          have hk4 := hK3.2.1.below hb4 hK3.2.1.lt
          rw [hk4.cell]
          exact hv
        case d5 => rw [u64s_length, u64s_length, Hpl0.out]; have := Hlh.out; omega
        case d6 => exact one_u64s hi
        case d7 => exact hb4
        have hblk5 : Blk w5 w3.heap.size 24 (u64s (lo ++ hi)) := by
          have := hg5.out
          rw [u64s_splice, ← Hll.out, patch_two _ _ _ (by rw [Hll.out]; exact Hlh.out)] at this
          exact this
        have hbm5 := hblk3.below hb5 hblk3.lt
        have hgm3 := hblk3.lt
        have hne3 : gm ≠ w3.heap.size := by omega
        have hlen : (lo ++ hi).length = us.length + vs.length := by rw [List.length_append, Hll.out]; exact Hlh.out
        have Hlen := Lib.hid hlen
        have htl : (trimL m2).length ≤ us.length + vs.length - h := trimL_len_le (by omega) hmd2 (by rw [hm2v.out]; exact Hmx.out)
        have Htrim : Hid (∀ W, Blk W gm 24 (u64s m2) → Calls Tryd.prog 66 #[.slice (some ⟨gm, 0, none⟩) mi.length mi.length] W fun e w' => e = .returned (.slice (some ⟨gm, 0, none⟩) (trimL m2).length mi.length) ∧ W = w') := fun W hW => by
          have := trimWords_any (some ⟨gm, 0, none⟩) mi.length m2 W W.heap.size (Rd.of_blk hW hW.lt 0 (fun k v hv => by rw [Nat.zero_add]; exact hv)) (by rw [Hml.out]; exact Nat.le_refl _) (by rw [Hml.out, Hmil.out]; omega)
          rw [Hml.out] at this
          exact this
        have Hadd : Hid (∀ W, Blk W w3.heap.size 24 (u64s (lo ++ hi)) → Blk W gm 24 (u64s m2) → Calls Tryd.prog 91 #[.slice (some ⟨w3.heap.size, h, none⟩) (us.length + vs.length - h) (us.length + vs.length - h), .slice (some ⟨gm, 0, none⟩) (trimL m2).length mi.length] W fun e w' => ∃ (zs : List Nat) (q : Nat), e = .returned (.int .u64 (q : Int)) ∧ zs.length = us.length + vs.length - h ∧ Dig 18446744073709551616 zs ∧ q ≤ 1 ∧ val 18446744073709551616 zs + 18446744073709551616 ^ (us.length + vs.length - h) * q = val 18446744073709551616 (((lo ++ hi).drop h).take (us.length + vs.length - h)) + val 18446744073709551616 (trimL m2) ∧ Blk w' w3.heap.size 24 (u64s (patch (lo ++ hi) h zs)) ∧ Tn w3.heap.size W w') := fun W h1 h2 =>
          addInto_any w3.heap.size h (us.length + vs.length - h) (us.length + vs.length - h) (lo ++ hi) (trimL m2) (some ⟨gm, 0, none⟩) mi.length W h1 (rx_whole h2 hne3).trim_ (by rw [Hlen.out]; omega) htl (hlod.append_ hhid) hmd2.trim_ (by omega)
        clear hg5 Hg4 Hpl0 hlen
        go_region_held3 (fun _ => True) (exact trivial) (first
          | (go_at_call 66; (with_reducible refine (Htrim.out _ (by first | exact hbm5 | exact hbm5.drew)).mono ?_); rintro e wt ⟨rfl, rfl⟩)
          | (go_at_call 91; (with_reducible refine (Hadd.out _ (by first | exact hblk5 | exact hblk5.drew) (by first | exact hbm5 | exact hbm5.drew)).mono ?_); rintro e w6 ⟨zr, q, rfl, hrl, hrd, hq, hrv, hblk6, htn⟩; have Hrl := Lib.hid hrl; have Hrv := Lib.hid hrv; clear hrl hrv))
        all_goals
          go_wp2_with fail
          go_ret
          have hrv := Hrv.out
          rw [val_trim, hm2v.out] at hrv
          have hP := halves_end (P := val 18446744073709551616 us * val 18446744073709551616 vs) rfl Hll.out (by have := Hlh.out; omega) Hlov.out Hhiv.out rfl (by rw [Heu.out, Hev.out]) (by rw [show h + (us.length + vs.length - h) = us.length + vs.length from by omega]; exact HPT.out) Hrl.out hrv
          have hpl := patch_length (L := lo ++ hi) (o := h) (zs := zr) (by rw [Hrl.out, Hlen.out]; omega)
          rw [Hlen.out] at hpl
          refine ⟨patch (lo ++ hi) h zr, w3.heap.size, by rw [hpl]; rfl, hpl, patch_dig (hlod.append_ hhid) hrd, hP, hK3.b.size, hblk6, ?_⟩
          have e1 := hK3.b.trans (hb5.mono hK3.b.size)
          first
            | exact e1.trans (htn.below hK3.b.size e1.size)
            | exact e1.drew.trans (htn.below hK3.b.size e1.size)
end
section
open Go.RowKit

theorem patch_high (n m : Nat) (hi : List Nat) (h : hi.length = m) : patch (List.replicate (n + m) 0) n hi = List.replicate n 0 ++ hi := by
  subst h
  simp [patch, List.drop_replicate, List.take_replicate]
theorem patch_nil (L : List Nat) (o : Nat) : patch L o [] = L := by simp [patch]
theorem u64s_nn {us : List Nat} (h : us ≠ []) : u64s us ≠ [] := by simpa [u64s] using h
theorem len_pos {us : List Nat} (h : us ≠ []) : 0 < us.length := by
  cases us with
  | nil => exact absurd rfl h
  | cons _ _ => simp

set_option maxHeartbeats 1600000 in
theorem raise_any (A : Option Addr) (c n : Nat) (us : List Nat) (w : World) (B : Nat) (hr : Rd w B A (u64s us)) (hB : B ≤ w.heap.size) (hd : Dig 18446744073709551616 us) (hm : n + us.length ≤ 35184372088000) (hne : us ≠ []) :
    Calls Tryd.prog 92 #[.slice A us.length c, .int .i64 (n : Int)] w fun e w' => Words w w' (n + us.length) (18446744073709551616 ^ n * val 18446744073709551616 us) e := by
  have hmk := fun W => mk64a n us.length (by omega) W
  have hl := len_pos hne
  have j1 : ¬ (n + us.length = n) := by omega
  have j2 : ¬ (us.length = 0) := by omega
  obtain ⟨b, off, rfl, hbB, hcell⟩ := hr (u64s_nn hne)
  go_enter Tryd.func92, Tryd.ntmps92
  go_wp2_with ((with_reducible refine wpList_copy_splice (o := ⟨some 15, _, _, _, _, _⟩) rfl _ _ _ _ rfl 24 Tryd.underlying57 ?u1 _ _ _ _ _ _ rfl rfl w.heap.size n (u64s (List.replicate (n + us.length) 0)) 24 ?c1 (u64s us) ?c2 ?c3 ?c4 ?c5 w.heap.size w ?c6 (Nat.le_refl _) ?_); rotate_right; intro w2 hg2 hb2)
  case u1 => kernel_rfl
  case c1 => exact Blk.new_ (by simp [u64s])
  case c2 => rw [u64s_length]; simp
  case c3 =>
    intro _ j v hv
    rw [World.cell?_alloc_past _ _ _ (by show b < _; omega)]
    exact hcell j v hv
  case c4 => rw [u64s_length, u64s_length, List.length_replicate]; omega
  case c5 => exact one_u64s us
  case c6 => exact (Below.refl _ _).alloc (Nat.le_refl _) _
  have hg3 : Blk w2 w.heap.size 24 (u64s (List.replicate n 0 ++ us)) := by
    have e : splice (u64s (List.replicate (n + us.length) 0)) n (u64s us) = u64s (List.replicate n 0 ++ us) := by
      rw [u64s_splice, patch_high n us.length us rfl]
    rw [← e]; exact hg2.out
  clear hmk hg2
  go_ret
  exact ⟨List.replicate n 0 ++ us, w.heap.size, by simp, by simp, (Dig.zeros_ (by omega) _).append_ hd, by rw [val_append, val_zeros, List.length_replicate, Nat.zero_add], Nat.le_refl _, hg3, hb2⟩


theorem greatest_val (n : Nat) : val 18446744073709551616 (List.replicate n 18446744073709551615) = 18446744073709551616 ^ n - 1 := by
  induction n with
  | zero => rfl
  | succ n ih =>
    have := Nat.pow_pos (n := n) (show 0 < 18446744073709551616 by omega)
    rw [List.replicate_succ]
    simp only [val]
    rw [ih, Nat.pow_succ]
    omega
theorem ones_set {n k : Nat} (h : k < n) : (List.replicate k 18446744073709551615 ++ List.replicate (n - k) 0).set k 18446744073709551615 = List.replicate (k + 1) 18446744073709551615 ++ List.replicate (n - (k + 1)) 0 := by
  obtain ⟨m, hm⟩ : ∃ m, n - k = m + 1 := ⟨n - k - 1, by omega⟩
  rw [hm, show n - (k + 1) = m from by omega, List.set_append_right _ _ (by simp), List.length_replicate, Nat.sub_self, List.replicate_succ (n := m), List.set_cons_zero, List.replicate_succ' (n := k), List.append_assoc]
  rfl
theorem dig_ones (n : Nat) : Dig 18446744073709551616 (List.replicate n 18446744073709551615) := fun y hy => by rw [(List.mem_replicate.1 hy).2]; omega

set_option maxHeartbeats 1600000 in
theorem greatest_any (n : Nat) (w : World) (hm : n ≤ 35184372088832) :
    Calls Tryd.prog 118 #[.int .i64 (n : Int)] w fun e w' => Words w w' n (18446744073709551616 ^ n - 1) e := by
  have hmk := fun W => mk64 n hm W
  go_enter Tryd.func118, Tryd.ntmps118
  go_wp2_with fail
  go_loopw [4, 9] (fun _ i wr => ∃ k : Nat, k ≤ n ∧ i = .int .i64 (k : Int) ∧ Blk wr w.heap.size 24 (u64s (List.replicate k 18446744073709551615 ++ List.replicate (n - k) 0)) ∧ Below w.heap.size w wr) (fun _ i _ => n - (intOf i).toNat)
  case atStart => exact ⟨0, by omega, rfl, Blk.new_ (by simp [u64s]), (Below.refl _ _).alloc (Nat.le_refl _) _⟩
  case round =>
    obtain ⟨k, hk, rfl, hblk, hbel⟩ := hrel
    by_cases hlt : k < n
    · obtain ⟨vv, hcc⟩ : ∃ vv, wr.cell? ⟨w.heap.size, k, none⟩ = some vv := ⟨_, (hblk.cell k).trans (u64s_at (by simp; omega))⟩
      have hf := hblk.frozen k
      have hset := hblk.set_ k (.int .u64 ((18446744073709551615 : Nat) : Int))
      rw [u64s_set, ones_set hlt] at hset
      have Hset := Lib.hid hset
      clear hset
      go_wp2_with fail
      go_roundw
      case rel => exact ⟨k + 1, by omega, by go_num, Hset.out, hbel.setCell (p := ⟨w.heap.size, k, none⟩) (Nat.le_refl _) _⟩
      case measure => simp [intOf]; omega
    · obtain rfl : k = n := by omega
      rw [Nat.sub_self, List.replicate_zero, List.append_nil] at hblk
      go_wp2_with fail
      go_ret
      exact ⟨List.replicate k 18446744073709551615, w.heap.size, by simp, by simp, dig_ones k, greatest_val k, Nat.le_refl _, hblk, hbel⟩

theorem cut_nil {us : List Nat} {f t : Nat} (h : min t us.length ≤ f) : (us.take t).drop f = [] := by
  apply List.drop_eq_nil_of_le
  rw [List.length_take]; exact h

set_option maxHeartbeats 1600000 in
theorem cut_any (A : Option Addr) (c f t : Nat) (us : List Nat) (w : World) (B : Nat) (hr : Rd w B A (u64s us)) (hc : us.length ≤ c) (hm : us.length ≤ 281474976710656) :
    Calls Tryd.prog 95 #[.slice A us.length c, .int .i64 (f : Int), .int .i64 (t : Int)] w fun e w' => ∃ A' c', e = .returned (.slice A' (trimL ((us.take t).drop f)).length c') ∧ Rd w B A' (u64s (trimL ((us.take t).drop f))) ∧ (trimL ((us.take t).drop f)).length ≤ c' ∧ w = w' := by
  obtain ⟨T, hT⟩ : ∃ T, T = min t us.length := ⟨_, rfl⟩
  have hmin : min (t : Int) (us.length : Int) = (T : Int) := by omega
  have hTl : T ≤ us.length := by omega
  rcases Nat.lt_or_ge f T with hlt | hge
  · have t1 : decide ((T : Int) ≤ (f : Int)) = false := by simp; omega
    have t2 : decide (T ≤ f) = false := by simp; omega
    have hl : ((us.take t).drop f).length = T - f := by rw [List.length_drop, List.length_take, ← hT]
    have hne : us ≠ [] := by rintro rfl; simp at hTl; omega
    obtain ⟨b, off, rfl, hbB, _⟩ := hr (u64s_nn hne)
    have hr2 : Rd w B (some ⟨b, off + f, none⟩) (u64s ((us.take t).drop f)) := (hr.takeN t).drop_ f
    have htw := trimWords_any (some ⟨b, off + f, none⟩) (c - f) ((us.take t).drop f) w B hr2 (by omega) (by omega)
    rw [hl] at htw
    have hr3 : Rd w B (some ⟨b, off + f, none⟩) (u64s (trimL ((us.take t).drop f))) := by rw [u64s_trim]; exact hr2.take _
    have hlt2 := trimL_length_le ((us.take t).drop f)
    rw [hl] at hlt2
    obtain ⟨zs, hz⟩ : ∃ zs, zs = trimL ((us.take t).drop f) := ⟨_, rfl⟩
    rw [← hz] at htw hr3 hlt2 ⊢
    have Htw := Lib.hid htw
    have i1 : (f : Int) ≤ (T : Int) := by omega
    have i2 : (T : Int) ≤ (c : Int) := by omega
    have i3 : f ≤ T := by omega
    have i4 : ¬ (c = f) := by omega
    clear htw hz hT hr hr2 hl hne
    go_enter Tryd.func95, Tryd.ntmps95
    go_wp2_with (first | (simp only []) | (go_at_call 66; (with_reducible refine Htw.out.mono ?_); rintro e w' ⟨rfl, rfl⟩))
    go_ret
    exact ⟨_, c - f, rfl, hr3, by omega, rfl⟩
  · have t1 : decide ((T : Int) ≤ (f : Int)) = true := by simp; omega
    have t2 : decide (T ≤ f) = true := by simp; omega
    rw [cut_nil (by omega)]
    clear hr
    go_enter Tryd.func95, Tryd.ntmps95
    go_wp2_with (simp only [hmin])
    go_ret
    exact ⟨none, 0, rfl, Rd.nil_, by simp [trimL], rfl⟩


set_option maxHeartbeats 1600000 in
theorem cmpW_any (A A2 : Option Addr) (c c2 : Nat) (ps qs : List Nat) (m n : Nat) (w : World) (B : Nat) (hrt : Rd w B A (u64s ps)) (hrt2 : Rd w B A2 (u64s qs)) (hn1 : Num 18446744073709551616 ps m) (hn2 : Num 18446744073709551616 qs n) (_ : ps.length ≤ c) (_ : qs.length ≤ c2) (hm : ps.length ≤ 281474976710656) (_ : qs.length ≤ 281474976710656) :
    Calls Tryd.prog 74 #[.slice A ps.length c, .slice A2 qs.length c2] w fun e w' => e = .returned (.int .i64 (cmpN m n)) ∧ Dr w w' := by
  rcases Nat.lt_trichotomy ps.length qs.length with hlt | heq | hgt
  · have hv : m < n := val_lt_len (by omega) hn1 hn2 hlt
    have e1 : cmpN m n = -1 := by simp [cmpN, hv]
    have He1 := Lib.hid e1
    have t1 : ((ps.length : Int) != (qs.length : Int)) = true := by rw [bne_iff_ne]; omega
    clear e1 hv
    go_enter Tryd.func74, Tryd.ntmps74
    go_wp2_with (go_at_call 65; (with_reducible refine (order_any _ _).mono ?_); rintro e w' ⟨rfl, rfl⟩)
    go_ret
    exact ⟨by rw [He1.out]; rfl, Dr.refl _⟩
  · have t1 : ((ps.length : Int) != (qs.length : Int)) = false := by rw [bne_eq_false_iff_eq]; omega
    have Heq := Lib.hid heq
    clear heq
    go_enter Tryd.func74, Tryd.ntmps74
    go_wp2_with (go_at_call 65; (with_reducible refine (order_any _ _).mono ?_); rintro e w' ⟨rfl, rfl⟩)
    go_loopw [5] (fun i wr => ∃ k : Nat, k ≤ ps.length ∧ i = .int .i64 ((k : Int) - 1) ∧ (∀ j (h : j < ps.length) (h2 : j < qs.length), k ≤ j → ps[j] = qs[j]) ∧ Dr w wr) (fun i _ => (intOf i + 1).toNat)
    case atStart => exact ⟨ps.length, Nat.le_refl _, rfl, fun j h _ hj => by omega, Dr.refl _⟩
    case round =>
      obtain ⟨k, hk, rfl, hs, hdr⟩ := hrel
      rcases k with _ | k
      · go_wp2
        go_ret
        have e : ps = qs := List.ext_getElem Heq.out (fun j h1 h2 => hs j h1 h2 (Nat.zero_le _))
        have e2 : m = n := by rw [← hn1.2.2, ← hn2.2.2, e]
        exact ⟨by rw [e2]; simp [cmpN], hdr⟩
      · have hk2 : k < qs.length := by have := Heq.out; omega
        obtain ⟨b, off, rfl, hb, hcell⟩ := hrt (by intro e; have := u64s_length ps; rw [e] at this; simp at this; omega)
        obtain ⟨b2, off2, rfl, hb2, hcell2⟩ := hrt2 (by intro e; have := u64s_length qs; rw [e] at this; simp at this; omega)
        have hx := hcell k _ (u64s_at (by omega))
        have hy := hcell2 k _ (u64s_at hk2)
        rw [show ((k + 1 : Nat) : Int) - 1 = (k : Int) from by omega]
        have hx := ((hdr.below B).cell (p := ⟨b, off + k, none⟩) hb).trans hx
        have hy := ((hdr.below B).cell (p := ⟨b2, off2 + k, none⟩) hb2).trans hy
        clear hcell hcell2 hrt hrt2
        rcases Nat.lt_trichotomy ps[k] qs[k] with hlt | he | hgt
        · have hv : m < n := by
            rw [← hn1.2.2, ← hn2.2.2]
            exact val_cmp_top _ ps qs hn1.1 Heq.out k (by omega) (fun i h hki => hs i h (by have := Heq.out; omega) hki) hlt
          have e1 : cmpN m n = -1 := by simp [cmpN, hv]
          have He1 := Lib.hid e1
          have t2 : ((ps[k] : Int) != (qs[k] : Int)) = true := by rw [bne_iff_ne]; omega
          have t3 : decide (ps[k] < qs[k]) = true := by simp; omega
          clear e1 hv hs
          go_wp2
          go_quiet (fail)
          go_wp2
          go_quiet ((go_at_call 65; first | exact quietL (order_any _ _) | exact quietAddL (order_any _ _)))
          go_wp2
          go_ret
          exact ⟨by rw [He1.out]; rfl, by first | exact hdr.step _ | exact (hdr.step _).step _⟩
        · have t2 : ((ps[k] : Int) != (qs[k] : Int)) = false := by rw [bne_eq_false_iff_eq]; omega
          have Hs : Hid (∀ j (h : j < ps.length) (h2 : j < qs.length), k ≤ j → ps[j] = qs[j]) := fun j h h2 hkj => by
            by_cases e : k = j
            · subst e; exact he
            · exact hs j h h2 (by omega)
          clear hs he
          go_wp2
          go_quiet (fail)
          go_wp2
          go_roundw
          case rel => exact ⟨k, by omega, by go_num, Hs.out, hdr.step _⟩
          case measure => simp [intOf]
        · have hv : n < m := by
            rw [← hn1.2.2, ← hn2.2.2]
            exact val_cmp_top _ qs ps hn2.1 Heq.out.symm k hk2 (fun i h hki => (hs i (by have := Heq.out; omega) h hki).symm) hgt
          have e1 : cmpN m n = 1 := by simp [cmpN, hv]; omega
          have He1 := Lib.hid e1
          have t2 : ((ps[k] : Int) != (qs[k] : Int)) = true := by rw [bne_iff_ne]; omega
          have t3 : decide (ps[k] < qs[k]) = false := by simp; omega
          clear e1 hv hs
          go_wp2
          go_quiet (fail)
          go_wp2
          go_quiet ((go_at_call 65; first | exact quietL (order_any _ _) | exact quietAddL (order_any _ _)))
          go_wp2
          go_ret
          exact ⟨by rw [He1.out]; rfl, by first | exact hdr.step _ | exact (hdr.step _).step _⟩
  · have hv : n < m := val_lt_len (by omega) hn2 hn1 hgt
    have e1 : cmpN m n = 1 := by simp [cmpN, hv]; omega
    have He1 := Lib.hid e1
    have t1 : ((ps.length : Int) != (qs.length : Int)) = true := by rw [bne_iff_ne]; omega
    clear e1 hv
    go_enter Tryd.func74, Tryd.ntmps74
    go_wp2_with (go_at_call 65; (with_reducible refine (order_any _ _).mono ?_); rintro e w' ⟨rfl, rfl⟩)
    go_ret
    exact ⟨by rw [He1.out]; rfl, Dr.refl _⟩
end
section
open Go.RowKit

/-- A row of its own of N words that makes v; the slice goes to the topmost word that is not 0. -/
def JoinOut (w w' : World) (N v : Nat) (e : Ending) : Prop :=
  ∃ ys g, e = .returned (.slice (some ⟨g, 0, none⟩) (trimL ys).length ys.length) ∧ ys.length = N ∧ Dig 18446744073709551616 ys ∧ val 18446744073709551616 ys = v ∧ w.heap.size ≤ g ∧ Blk w' g 24 (u64s ys) ∧ Below w.heap.size w w'

theorem join_low (n m : Nat) (lo : List Nat) (h : lo.length ≤ n) : patch (List.replicate (n + m) 0) 0 lo = lo ++ List.replicate (n - lo.length) 0 ++ List.replicate m 0 := by
  simp [patch, List.drop_replicate]
  omega
theorem join_high (n : Nat) (lo hi : List Nat) (h : lo.length ≤ n) : patch (lo ++ List.replicate (n - lo.length) 0 ++ List.replicate hi.length 0) n hi = lo ++ List.replicate (n - lo.length) 0 ++ hi := by
  have e : (lo ++ List.replicate (n - lo.length) 0).length = n := by simp; omega
  unfold patch
  rw [List.take_left' e, List.drop_of_length_le (by simp; omega), List.append_nil]
theorem join_val (n : Nat) (lo hi : List Nat) (h : lo.length ≤ n) : val 18446744073709551616 (lo ++ List.replicate (n - lo.length) 0 ++ hi) = val 18446744073709551616 lo + 18446744073709551616 ^ n * val 18446744073709551616 hi := by
  have e : (lo ++ List.replicate (n - lo.length) 0).length = n := by simp; omega
  rw [val_append, val_append, val_zeros, Nat.mul_zero, Nat.add_zero, e]

set_option maxHeartbeats 1600000 in
theorem joined_any (A A2 : Option Addr) (c c2 n : Nat) (lo hi : List Nat) (w : World) (B : Nat) (hr : Rd w B A (u64s lo)) (hr2 : Rd w B A2 (u64s hi)) (hB : B ≤ w.heap.size) (hd : Dig 18446744073709551616 lo) (hd2 : Dig 18446744073709551616 hi) (hn : lo.length ≤ n) (h0 : 0 < n) (hm : n + hi.length ≤ 35184372088000) :
    Calls Tryd.prog 94 #[.slice A lo.length c, .slice A2 hi.length c2, .int .i64 (n : Int)] w fun e w' => JoinOut w w' (n + hi.length) (val 18446744073709551616 lo + 18446744073709551616 ^ n * val 18446744073709551616 hi) e := by
  have hmk := fun W => mk64a n hi.length (by omega) W
  have hmin : min lo.length (n + hi.length) = lo.length := by omega
  have j0 : ¬ (n + hi.length = 0) := by omega
  by_cases hne : hi = []
  · have hl0 : hi.length = 0 := by rw [hne]; rfl
    have hmk0 := fun W => mk64 n (by omega) W
    have hmin0 : min lo.length n = lo.length := by omega
    rw [hl0, Nat.add_zero]
    have hv : val 18446744073709551616 hi = 0 := by rw [hne]; rfl
    rw [hv, Nat.mul_zero, Nat.add_zero]
    clear hmk hmin j0 hr2
    go_enter Tryd.func94, Tryd.ntmps94
    go_upto_region 3 with ((with_reducible refine wpList_copy_splice (o := ⟨some 15, _, _, _, _, _⟩) rfl _ _ _ _ rfl 24 Tryd.underlying57 ?u1 _ _ _ _ _ _ rfl rfl w.heap.size 0 (u64s (List.replicate n 0)) 24 ?c1 (u64s lo) ?c2 ?c3 ?c4 ?c5 w.heap.size w ?c6 (Nat.le_refl _) ?_); rotate_right; intro w2 hg2 hb2)
    case u1 => kernel_rfl
    case c1 => exact Blk.new_ (by simp [u64s])
    case c2 => rw [u64s_length]; first | exact (Nat.min_eq_left (by omega)).symm | exact (Nat.min_eq_right (by omega)).symm
    case c3 =>
      intro hp
      have hne : u64s lo ≠ [] := by intro e; rw [e] at hp; simp at hp
      obtain ⟨b, off, rfl, hbB, hcell⟩ := hr hne
      refine ⟨_, rfl, fun j v hv => ?_⟩
      rw [add_none]
      rw [World.cell?_alloc_past _ _ _ (by show b < _; omega)]
      exact hcell j v hv
    case c4 => rw [u64s_length, u64s_length, List.length_replicate]; omega
    case c5 => exact one_u64s lo
    case c6 => exact (Below.refl _ _).alloc (Nat.le_refl _) _
    have hg3 : Blk w2 w.heap.size 24 (u64s (lo ++ List.replicate (n - lo.length) 0)) := by
      have h9 := hg2.out
      have e := join_low n 0 lo hn
      rw [Nat.add_zero, List.replicate_zero, List.append_nil] at e
      rwa [u64s_splice, e] at h9
    clear hg2 hmk0
    obtain ⟨ys, hys⟩ : ∃ ys, ys = lo ++ List.replicate (n - lo.length) 0 := ⟨_, rfl⟩
    rw [← hys] at hg3
    have hyl : ys.length = n := by rw [hys]; simp; omega
    have hyd : Dig 18446744073709551616 ys := by rw [hys]; exact hd.append_ (Dig.zeros_ (by omega) _)
    have hyv : val 18446744073709551616 ys = val 18446744073709551616 lo := by rw [hys, val_append, val_zeros, Nat.mul_zero, Nat.add_zero]
    clear hys
    go_upto_region 4 with ((with_reducible refine wpList_copy_splice (o := ⟨some 20, _, _, _, _, _⟩) rfl _ _ _ _ rfl 24 Tryd.underlying57 ?u1 _ _ _ _ _ _ rfl rfl w.heap.size 0 (u64s ys) 24 ?d1 (u64s []) ?d2 ?d3 ?d4 ?d5 w.heap.size w ?d6 (Nat.le_refl _) ?_); rotate_right; intro w3 hg4 hb3)
    case u1 => kernel_rfl
    case d1 => exact hg3
    case d2 => simp [u64s]
    case d3 => simp [u64s]
    case d4 => simp [u64s]
    case d5 => exact one_u64s []
    case d6 => exact hb2
    have hg5 : Blk w3 w.heap.size 24 (u64s ys) := by
      have h9 := hg4.out
      rwa [u64s_splice, patch_nil] at h9
    have Htw : Hid (∀ W, Dr w3 W → Calls Tryd.prog 66 #[.slice (some ⟨w.heap.size, 0, none⟩) n n] W fun e w' => e = .returned (.slice (some ⟨w.heap.size, 0, none⟩) (trimL ys).length n) ∧ W = w') := fun W hW => by
      have hW3 := hg5.below (hW.below _) hg5.lt
      have := trimWords_any (some ⟨w.heap.size, 0, none⟩) n ys W W.heap.size (Rd.of_blk hW3 hW3.lt 0 (fun k v hv => by rw [Nat.zero_add]; exact hv)) (by omega) (by omega)
      rwa [hyl] at this
    have Hyv := Lib.hid hyv
    have Hyl := Lib.hid hyl
    clear hg4 hyv hyl hg3
    go_wp2_with (go_at_call 66; (with_reducible refine (Htw.out _ (Dr.refl _)).mono ?_); rintro e w4 ⟨rfl, rfl⟩)
    go_ret
    exact ⟨ys, w.heap.size, by rw [Hyl.out]; rfl, Hyl.out, hyd, Hyv.out, Nat.le_refl _, hg5, hb3⟩
  · have hl := len_pos hne
    have j1 : ¬ (n + hi.length = n) := by omega
    have j2 : (n : Int) ≤ (n : Int) + (hi.length : Int) := by omega
    have j3 : n ≤ n + hi.length := by omega
    obtain ⟨b2, off2, rfl, hbB2, hcell2⟩ := hr2 (u64s_nn hne)
    go_enter Tryd.func94, Tryd.ntmps94
    go_upto_region 3 with ((with_reducible refine wpList_copy_splice (o := ⟨some 15, _, _, _, _, _⟩) rfl _ _ _ _ rfl 24 Tryd.underlying57 ?u1 _ _ _ _ _ _ rfl rfl w.heap.size 0 (u64s (List.replicate (n + hi.length) 0)) 24 ?c1 (u64s lo) ?c2 ?c3 ?c4 ?c5 w.heap.size w ?c6 (Nat.le_refl _) ?_); rotate_right; intro w2 hg2 hb2)
    case u1 => kernel_rfl
    case c1 => exact Blk.new_ (by simp [u64s])
    case c2 => rw [u64s_length]; first | exact (Nat.min_eq_left (by omega)).symm | exact (Nat.min_eq_right (by omega)).symm
    case c3 =>
      intro hp
      have hne : u64s lo ≠ [] := by intro e; rw [e] at hp; simp at hp
      obtain ⟨b, off, rfl, hbB, hcell⟩ := hr hne
      refine ⟨_, rfl, fun j v hv => ?_⟩
      rw [add_none]
      rw [World.cell?_alloc_past _ _ _ (by show b < _; omega)]
      exact hcell j v hv
    case c4 => rw [u64s_length, u64s_length, List.length_replicate]; omega
    case c5 => exact one_u64s lo
    case c6 => exact (Below.refl _ _).alloc (Nat.le_refl _) _
    have hg3 : Blk w2 w.heap.size 24 (u64s (lo ++ List.replicate (n - lo.length) 0 ++ List.replicate hi.length 0)) := by
      have h9 := hg2.out
      rwa [u64s_splice, join_low n hi.length lo hn] at h9
    have hlen3 : (lo ++ List.replicate (n - lo.length) 0 ++ List.replicate hi.length 0).length = n + hi.length := by simp; omega
    have Hg3 := Lib.hid hg3
    have Hlen3 := Lib.hid hlen3
    clear hg2 hmk hg3 hlen3
    go_upto_region 4 with ((with_reducible refine wpList_copy_splice (o := ⟨some 20, _, _, _, _, _⟩) rfl _ _ _ _ rfl 24 Tryd.underlying57 ?u1 _ _ _ _ _ _ rfl rfl w.heap.size n (u64s (lo ++ List.replicate (n - lo.length) 0 ++ List.replicate hi.length 0)) 24 ?d1 (u64s hi) ?d2 ?d3 ?d4 ?d5 w.heap.size w ?d6 (Nat.le_refl _) ?_); rotate_right; intro w3 hg4 hb3)
    case u1 => kernel_rfl
    case d1 => exact Hg3.out
    case d2 => rw [u64s_length]; simp
    case d3 =>
      intro _ j v hv
      rw [hb2.cell (p := ⟨b2, off2 + j, none⟩) (show b2 < _ by omega)]
      exact hcell2 j v hv
    case d4 => rw [u64s_length, u64s_length, Hlen3.out]; omega
    case d5 => exact one_u64s hi
    case d6 => exact hb2
    have hg5 : Blk w3 w.heap.size 24 (u64s (lo ++ List.replicate (n - lo.length) 0 ++ hi)) := by
      have h9 := hg4.out
      rwa [u64s_splice, join_high n lo hi hn] at h9
    obtain ⟨ys, hys⟩ : ∃ ys, ys = lo ++ List.replicate (n - lo.length) 0 ++ hi := ⟨_, rfl⟩
    rw [← hys] at hg5
    have hyl : ys.length = n + hi.length := by rw [hys]; simp; omega
    have hyd : Dig 18446744073709551616 ys := by rw [hys]; exact (hd.append_ (Dig.zeros_ (by omega) _)).append_ hd2
    have hyv := join_val n lo hi hn
    rw [← hys] at hyv
    have Htw : Hid (∀ W, Dr w3 W → Calls Tryd.prog 66 #[.slice (some ⟨w.heap.size, 0, none⟩) (n + hi.length) (n + hi.length)] W fun e w' => e = .returned (.slice (some ⟨w.heap.size, 0, none⟩) (trimL ys).length (n + hi.length)) ∧ W = w') := fun W hW => by
      have hW3 := hg5.below (hW.below _) hg5.lt
      have := trimWords_any (some ⟨w.heap.size, 0, none⟩) (n + hi.length) ys W W.heap.size (Rd.of_blk hW3 hW3.lt 0 (fun k v hv => by rw [Nat.zero_add]; exact hv)) (by omega) (by omega)
      rwa [hyl] at this
    have Hyv := Lib.hid hyv
    have Hyl := Lib.hid hyl
    clear hys hg4 Hlen3 Hg3 hyv hyl
    go_wp2_with (go_at_call 66; (with_reducible refine (Htw.out _ (Dr.refl _)).mono ?_); rintro e w4 ⟨rfl, rfl⟩)
    go_ret
    exact ⟨ys, w.heap.size, by rw [Hyl.out]; rfl, Hyl.out, hyd, Hyv.out, Nat.le_refl _, hg5, hb3⟩
end
section
open Go.RowKit

theorem zeroCells_one (z : Value) (n : Nat) (hz : z.cells = #[z]) : Builtin.zeroCells z.cells n = (List.replicate n z).toArray := by
  rw [hz]
  apply Array.ext'
  simp only [Builtin.zeroCells, List.size_toArray, List.length_singleton, Nat.mul_one, Nat.mod_one]
  simp [Array.toList_map, List.map_const']

theorem Blk.setCells_ {g : Nat} {t : TypeId} : ∀ (zs : List Value) (w : World) (vs : List Value) (o : Nat), Blk w g t vs → o + zs.length ≤ vs.length → Blk (w.setCells g o zs) g t (vs.take o ++ zs ++ vs.drop (o + zs.length))
  | [], w, vs, o, h, _ => by simpa [World.setCells] using h
  | z :: zs, w, vs, o, h, hl => by
    rw [List.length_cons] at hl
    have h1 := Blk.setCells_ zs _ _ (o + 1) (h.set_ o z) (by rw [List.length_set]; omega)
    have e : (vs.set o z).take (o + 1) ++ zs ++ (vs.set o z).drop (o + 1 + zs.length) = vs.take o ++ z :: zs ++ vs.drop (o + (z :: zs).length) := by
      rw [List.drop_set_of_lt (by omega), List.take_succ_eq_append_getElem (by rw [List.length_set]; omega), List.getElem_set_self, List.take_set_of_le (Nat.le_refl _), List.length_cons, show o + (zs.length + 1) = o + 1 + zs.length from by omega]
      simp
    rw [e] at h1
    exact h1
theorem Ch.setCells_ {g : Nat} : ∀ (zs : List Value) (w : World) (o : Nat), Ch g w (w.setCells g o zs)
  | [], w, _ => Ch.refl g w
  | z :: zs, w, o => ((Ch.refl g w).setCell o z).trans (Ch.setCells_ zs _ (o + 1))

section
variable {P : Program} (w : World) (t tx ty e : TypeId) (k : IntKind) (i : TypeInfo) (z : Value)
theorem run_appz_room (ht : P.underlying t = some (.slice e)) (htx : P.underlying tx = some (.int k)) (hi : P.info? e = some i) (hz : i.zero = some z) (hsize : i.size = 1) (hby : i.bytes = 8) (hzs : z.cells = #[z]) (hz1 : z.oneCell' = true)
    (g n cap m : Nat) (vs : List Value) (hblk : Blk w g e vs) (hc : vs.length = cap) (hr : n + m ≤ cap) (hm : n + m ≤ 8796093022208) :
    (Builtin.append_ #[t, tx] ty #[.slice (some ⟨g, 0, none⟩) n cap, .int .i64 (m : Int)]).run P w = .ok (.slice (some ⟨g, 0, none⟩) (n + m) cap) (w.setCells g n (List.replicate m z)) := by
  have h0 : ∀ w', (asInt (.int .i64 (m : Int))).run P w' = .ok (m : Int) w' := fun _ => rfl
  have h1 : IntKind.i64.wrap (m : Int) = (m : Int) := by rw [IntKind.wrap_i64]; omega
  have h2 : ¬ ((m : Int) < 0) := by omega
  have h3 : ¬ (281474976710656 < (m : Int) * 8) := by omega
  have hst := run_storeCells_cells (P := P) g n (List.replicate m z) 0 w (fun j hj => by
    rw [Nat.add_zero, hblk.cell, List.getElem?_eq_getElem (by simp at hj; omega)]; rfl) (fun j _ => hblk.frozen _) (fun v hv => by rw [(List.mem_replicate.1 hv).2]; exact hz1)
  rw [Nat.add_zero] at hst
  have hadd : (Addr.add ⟨g, 0, none⟩ n) = ⟨g, n, none⟩ := by rw [add_none, Nat.zero_add]
  by_cases hm0 : m = 0
  · subst hm0
    have hr0 : n ≤ cap := by omega
    have h0' : ∀ w', (asInt (.int .i64 0)).run P w' = .ok 0 w' := fun _ => rfl
    simp [Builtin.append_, run_underlying ht, run_underlying htx, sizeOf, typeInfo, hi, h0', hr0, World.setCells, storeCells, show IntKind.i64.wrap 0 = 0 from by decide]
  · simp [Builtin.append_, run_underlying ht, run_underlying htx, sizeOf, typeInfo, zeroValue, hi, hz, h0, h1, h2, h3, hsize, hby, hr, hm0, zeroCells_one z m hzs, hadd]
    rw [hst]
    rfl
theorem run_appz_grow (ht : P.underlying t = some (.slice e)) (htx : P.underlying tx = some (.int k)) (hi : P.info? e = some i) (hz : i.zero = some z) (hsize : i.size = 1) (hby : i.bytes = 8) (hzs : z.cells = #[z])
    (g n cap m : Nat) (vs : List Value) (hblk : Blk w g e vs) (hc : vs.length = cap) (hnc : n ≤ cap) (hr : cap < n + m) (hm : n + m ≤ 8796093022208) :
    (Builtin.append_ #[t, tx] ty #[.slice (some ⟨g, 0, none⟩) n cap, .int .i64 (m : Int)]).run P w = .ok (.slice (some ⟨w.heap.size, 0, none⟩) (n + m) (grownCap w (n + m) cap e))
      (w.drew.alloc (.cells (vs.take n ++ List.replicate m z ++ List.replicate (grownCap w (n + m) cap e - (n + m)) z).toArray e)) := by
  have h0 : ∀ w', (asInt (.int .i64 (m : Int))).run P w' = .ok (m : Int) w' := fun _ => rfl
  have h1 : IntKind.i64.wrap (m : Int) = (m : Int) := by rw [IntKind.wrap_i64]; omega
  have h2 : ¬ ((m : Int) < 0) := by omega
  have h3 : ¬ (281474976710656 < (m : Int) * 8) := by omega
  have hn : ¬ (n + m ≤ cap) := by omega
  have hm0 : m ≠ 0 := by omega
  have h63' : ¬ (9223372036854775807 < ((n : Int) + (m : Int))) := by omega
  have h48' : ¬ (281474976710656 < Builtin.nextslicecap (n + m) cap * 8) := by
    have := growslice_fits (need := n + m) (old := cap) (bytes := 8) (by omega) (by omega)
    omega
  have hfo := run_firstCells_some (P := P) w.drew 1 n ⟨g, 0, none⟩ n cap (vs.take n) (by rw [List.length_take]; omega) (fun j v hv => by
    rw [add_none, Nat.zero_add]
    rw [List.getElem?_take] at hv
    split at hv
    · exact (hblk.drew.cell j).trans hv
    · cases hv)
  simp [Builtin.append_, run_underlying ht, run_underlying htx, sizeOf, typeInfo, zeroValue, hi, hz, h0, h1, h2, h3, hsize, hby, hn, hm0, h63', h48', Question.forced, hfo, newRow, zeroCells_one z _ hzs]
  refine ⟨rfl, ?_⟩
  unfold grownCap
  congr 2
  simp
end
theorem run_appz64 (w : World) (ty : TypeId) (g n cap m : Nat) (L : List Nat) (hblk : Blk w g 24 (u64s L)) (hc : L.length = cap) (hnc : n ≤ cap) (hm : n + m ≤ 8796093022208) (hd : Dig 18446744073709551616 L) :
    ∃ g' L' w', (Builtin.append_ #[57, 3] ty #[.slice (some ⟨g, 0, none⟩) n cap, .int .i64 (m : Int)]).run Tryd.prog w = .ok (.slice (some ⟨g', 0, none⟩) (n + m) L'.length) w' ∧ Blk w' g' 24 (u64s L') ∧ L'.take (n + m) = L.take n ++ List.replicate m 0 ∧ n + m ≤ L'.length ∧ Dig 18446744073709551616 L' ∧ (g' = g ∨ g' = w.heap.size) ∧ Tn g w w' := by
  obtain ⟨i0, hi, hz0, hz1, hz2⟩ := info_parts Tryd.info64
  have hrep : ∀ q : Nat, List.replicate q (Value.int .u64 0) = u64s (List.replicate q 0) := fun q => by simp [u64s]
  by_cases hr : n + m ≤ cap
  · have h1 := run_appz_room (P := Tryd.prog) w 57 3 ty 24 .i64 i0 (.int .u64 0) Tryd.underlying57 Tryd.underlying3 hi hz0 hz1 hz2 rfl rfl g n cap m (u64s L) hblk (by rw [u64s_length]; exact hc) hr hm
    have h2 := Blk.setCells_ (List.replicate m (Value.int .u64 0)) w (u64s L) n hblk (by rw [List.length_replicate, u64s_length]; omega)
    have e : (u64s L).take n ++ List.replicate m (Value.int .u64 0) ++ (u64s L).drop (n + (List.replicate m (Value.int .u64 0)).length) = u64s (patch L n (List.replicate m 0)) := by
      rw [hrep]
      simp [patch, u64s, List.map_take, List.map_drop]
    rw [e] at h2
    have hl : (patch L n (List.replicate m 0)).length = L.length := patch_length (by rw [List.length_replicate]; omega)
    refine ⟨g, patch L n (List.replicate m 0), _, by rw [hl, hc]; exact h1, h2, ?_, by omega, patch_dig hd (Dig.zeros_ (by omega) _), Or.inl rfl, Tn.of_ch (Ch.setCells_ _ _ _)⟩
    unfold patch
    rw [List.take_left' (by simp; omega)]
  · have h1 := run_appz_grow (P := Tryd.prog) w 57 3 ty 24 .i64 i0 (.int .u64 0) Tryd.underlying57 Tryd.underlying3 hi hz0 hz1 hz2 rfl g n cap m (u64s L) hblk (by rw [u64s_length]; exact hc) hnc (by omega) hm
    obtain ⟨K, hK⟩ : ∃ K, K = grownCap w (n + m) cap 24 := ⟨_, rfl⟩
    have hge := grownCap_ge w (n + m) cap 24
    rw [← hK] at h1 hge
    have e : (u64s L).take n ++ List.replicate m (Value.int .u64 0) ++ List.replicate (K - (n + m)) (Value.int .u64 0) = u64s (L.take n ++ List.replicate m 0 ++ List.replicate (K - (n + m)) 0) := by
      rw [hrep, hrep]
      simp [u64s, List.map_take]
    rw [e] at h1
    have hl : (L.take n ++ List.replicate m 0 ++ List.replicate (K - (n + m)) 0).length = K := by simp; omega
    refine ⟨w.heap.size, L.take n ++ List.replicate m 0 ++ List.replicate (K - (n + m)) 0, _, by rw [hl]; exact h1, Blk.new w.drew _ _, ?_, by omega, ((hd.take_ _).append_ (Dig.zeros_ (by omega) _)).append_ (Dig.zeros_ (by omega) _), Or.inr rfl, ?_⟩
    · rw [List.take_left' (by simp; omega)]
    · exact Tn.of_below (B := w.heap.size) ((Below.refl _ _).drew.alloc (Nat.le_refl _) _) (Nat.le_refl _)
end
end Go.Proofs.YtogkfpbapjjgfaaDoor
