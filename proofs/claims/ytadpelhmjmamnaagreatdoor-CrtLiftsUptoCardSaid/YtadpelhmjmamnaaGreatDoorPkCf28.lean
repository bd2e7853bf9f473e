/- The contract of quotient. Conditions: a divisor of at most 2^27 words. The contracts of nat's operations on numbers that are held. Conditions: at most 2^26 limbs. Plain numbers: a sign and a size as an integer; quotients by sizes; the nearest. No conditions. A drawn region whose head only reads and draws, in whatever order, and whose tail stands in one order: one walk serves. No conditions. -/
import Derived.Test.YtadpelhmjmamnaaGreatDoorPkCf24
import Derived.Test.YtadpelhmjmamnaaGreatDoorPkCf27
import Derived.Test.YtadpelhmjmamnaaGreatDoorPkCf20
import Derived.Test.YtadpelhmjmamnaaGreatDoorPkCf16
import Derived.Test.YtadpelhmjmamnaaGreatDoorPkCf23
import Derived.Test.YtadpelhmjmamnaaGreatDoorPkCf15
import Derived.StillTail
import Derived.StillTailTactics
import Derived.Deep.Quiet
import Derived.Deep.QuietTactic
import Derived.BigQuiet
namespace Go.Proofs.YtadpelhmjmamnaaGreatDoor
section
open Go.RowKit

theorem val_top1 (b : Nat) (xs : List Nat) (m : Nat) (h : xs.length = m + 2) : val b xs = val b (xs.take (m + 1)) + b ^ (m + 1) * xs[m + 1] := by
  have := val_take_succ b xs (m + 1) (by omega)
  rw [List.take_of_length_le (by omega)] at this
  exact this
theorem top_fits {vs : List Nat} {m bl s : Nat} (hl : vs.length = m + 2) (hd : Dig 18446744073709551616 vs) (ht : vs[m + 1] < 2 ^ bl) (hs : bl + s = 64) : val 18446744073709551616 vs * 2 ^ s < 18446744073709551616 ^ (m + 2) := by
  have h1 := val_top1 18446744073709551616 vs m hl
  have h2 := val_lt _ _ (hd.take_ (m + 1))
  rw [List.length_take, Nat.min_eq_left (by omega)] at h2
  have h3 : 18446744073709551616 ^ (m + 1) * (vs[m + 1] + 1) ≤ 18446744073709551616 ^ (m + 1) * 2 ^ bl := Nat.mul_le_mul_left _ ht
  rw [Nat.mul_add] at h3
  have h4 : val 18446744073709551616 vs < 18446744073709551616 ^ (m + 1) * 2 ^ bl := by omega
  have h5 := Nat.mul_lt_mul_of_pos_right h4 (Nat.two_pow_pos s)
  rw [Nat.mul_assoc, ← Nat.pow_add, hs] at h5
  rw [Nat.pow_succ _ (m + 1)]
  exact h5
theorem top_pos {xs : List Nat} {m : Nat} (hl : xs.length = m + 2) (hd : Dig 18446744073709551616 xs) (h : 18446744073709551616 ^ (m + 1) ≤ val 18446744073709551616 xs) : 0 < xs[m + 1] := by
  have h1 := val_top1 18446744073709551616 xs m hl
  have h2 := val_lt _ _ (hd.take_ (m + 1))
  rw [List.length_take, Nat.min_eq_left (by omega)] at h2
  rcases Nat.eq_zero_or_pos xs[m + 1] with h0 | h0
  · rw [h0, Nat.mul_zero] at h1; omega
  · exact h0
theorem take_fit {b : Nat} {xs : List Nat} {k : Nat} (hk : k ≤ xs.length) (_ : 0 < b) (h : val b xs < b ^ k) : val b (xs.take k) = val b xs := by
  have h1 := val_take_drop b xs k hk
  rcases Nat.eq_zero_or_pos (val b (xs.drop k)) with h0 | h0
  · rw [h0, Nat.mul_zero] at h1; omega
  · have := Nat.mul_le_mul_left (b ^ k) h0
    omega
theorem drop_low {us u2 : List Nat} {m s : Nat} (hd : Dig 18446744073709551616 us) (hd2 : Dig 18446744073709551616 u2) (hu : val 18446744073709551616 u2 = val 18446744073709551616 us * 2 ^ s) (hl : m + 2 ≤ us.length) : val 18446744073709551616 (u2.drop (us.length + 1 - (m + 2))) < 18446744073709551616 ^ (m + 1) * 2 ^ s := by
  rw [val_drop (by omega) _ _ hd2, Nat.div_lt_iff_lt_mul (Nat.pow_pos (by omega)), hu]
  have h1 := Nat.mul_lt_mul_of_pos_right (val_lt _ _ hd) (Nat.two_pow_pos s)
  have h2 : 18446744073709551616 ^ (m + 1) * 2 ^ s * 18446744073709551616 ^ (us.length + 1 - (m + 2)) = 18446744073709551616 ^ us.length * 2 ^ s := by
    rw [Nat.mul_right_comm, ← Nat.pow_add]
    congr 2
    omega
  rw [h2]; exact h1

theorem len_shift {q u c d : Nat} (hc : d = 1 + c) (h : q ≤ u + 1 + c) : q ≤ u + d := by omega
theorem len_long {q u m d : Nat} (hc : 1 ≤ d) (h : q = u + 1 - m) : q ≤ u + d := by omega
theorem half_le {Y Z c d : Nat} (hc : d = 2 * c) (h : Y * c ≤ Z) : Y * d ≤ 2 * Z := by
  subst hc
  rw [Nat.mul_left_comm]
  exact Nat.mul_le_mul_left 2 h
theorem top_full {vs : List Nat} {m bl s : Nat} (hl : vs.length = m + 2) (ht : 2 ^ (bl - 1) ≤ vs[m + 1]) (hb : 1 ≤ bl) (hs : bl + s = 64) : 18446744073709551616 ^ (m + 2) ≤ 2 * (val 18446744073709551616 vs * 2 ^ s) := by
  have h1 := val_top1 18446744073709551616 vs m hl
  have h3 : 18446744073709551616 ^ (m + 1) * 2 ^ (bl - 1) ≤ 18446744073709551616 ^ (m + 1) * vs[m + 1] := Nat.mul_le_mul_left _ ht
  have h4 : 18446744073709551616 ^ (m + 1) * 2 ^ (bl - 1) ≤ val 18446744073709551616 vs := by omega
  have h5 := Nat.mul_le_mul_right (2 ^ s) h4
  have h6 : (2 : Nat) ^ 63 = 9223372036854775808 := by decide
  rw [Nat.mul_assoc, ← Nat.pow_add, show bl - 1 + s = 63 from by omega, h6] at h5
  rw [Nat.pow_succ _ (m + 1)]
  exact half_le (by decide) h5
theorem Words.res {w w' : World} {zs : List Nat} {g : Nat} (hg : w.heap.size ≤ g) (hb : Blk w' g 84 (u64s zs)) (hl : zs.length ≤ 281474976710656) : Res w' w.heap.size 84 (some ⟨g, 0, none⟩) zs.length (u64s zs) := by
  have e : (u64s zs).length = zs.length := u64s_length zs
  refine ⟨Nat.le_of_eq e, hl, fun _ => ⟨g, [], rfl, hg, ?_, ?_⟩⟩
  · rw [List.append_nil]; exact hb
  · rw [List.length_nil, Nat.add_zero]; exact e

set_option maxRecDepth 100000 in
set_option maxHeartbeats 3200000 in
theorem quotient_big (A : Option Addr) (c : Nat) (A2 : Option Addr) (c2 : Nat) (us vs : List Nat) (w : World) (B : Nat) (hr : Rd w B A (u64s us)) (hr2 : Rd w B A2 (u64s vs)) (hB : B ≤ w.heap.size) (hd : Dig 18446744073709551616 us) (hd2 : Dig 18446744073709551616 vs) (_ : trimL us = us) (ht2 : trimL vs = vs) (h2v : 2 ≤ vs.length)
    (hge : val 18446744073709551616 vs ≤ val 18446744073709551616 us) (hP : vs.length ≤ 134217728) (_ : us.length ≤ c) (_ : vs.length ≤ c2) (hm : us.length ≤ 35183400000000) :
    Calls Tryz.prog 152 #[.slice A us.length c, .slice A2 vs.length c2] w fun e w' => ∃ qs rs A1 c1 g, e = .returned (.tuple #[.slice A1 qs.length c1, .slice (some ⟨g, 0, none⟩) rs.length rs.length]) ∧ Dig 18446744073709551616 qs ∧ Dig 18446744073709551616 rs ∧ qs.length ≤ us.length + 402653185 ∧ rs.length ≤ us.length + 1 ∧ qs.length ≤ c1 ∧
      val 18446744073709551616 us = val 18446744073709551616 qs * val 18446744073709551616 vs + val 18446744073709551616 rs ∧ val 18446744073709551616 rs < val 18446744073709551616 vs ∧ Rd w' w'.heap.size A1 (u64s qs) ∧ w.heap.size ≤ g ∧ Blk w' g 84 (u64s rs) ∧ Below w.heap.size w w' := by
  have h1 : vs.length ≠ 1 := by omega
  have hv0 : vs ≠ [] := by intro e; rw [e] at h2v; simp at h2v
  obtain ⟨m, hn⟩ : ∃ m, vs.length = m + 2 := ⟨vs.length - 2, by omega⟩
  have hvge := (show Num 18446744073709551616 vs _ from ⟨hd2, ht2, rfl⟩).ge hv0
  rw [show vs.length - 1 = m + 1 from by omega] at hvge
  have hlen : m + 2 ≤ us.length := by
    rcases Nat.lt_or_ge us.length (m + 2) with hlt | hge2
    · exfalso
      have a1 := val_lt _ _ hd
      have a2 : 18446744073709551616 ^ us.length ≤ 18446744073709551616 ^ (m + 1) := Nat.pow_le_pow_right (by omega) (by omega)
      omega
    · exact hge2
  have hvt := top_pos hn hd2 hvge
  have hvd := hd2.at_ (m + 1) (by omega)
  obtain ⟨bl1, bl2, bl3⟩ := bitLen_bounds vs[m + 1] hvd (by omega)
  have Bl2 := Lib.hid bl2
  clear bl2
  have bl4 := bitLen_le64 vs[m + 1] hvd
  obtain ⟨b, off, rfl, hb, hx⟩ := hr2.at64 (show m + 1 < vs.length by omega)
  have hlz := fun W => lz64_any vs[m + 1] W hvd
  obtain ⟨bl, hbl⟩ : ∃ bl, bl = Lib.bitLen vs[m + 1] := ⟨_, rfl⟩
  rw [← hbl] at bl1 Bl2 bl3 bl4 hlz
  obtain ⟨s, hs⟩ : ∃ s, s = 64 - bl := ⟨_, rfl⟩
  have hbs : bl + s = 64 := by omega
  have hs64 : s < 64 := by omega
  have eS : (64 : Int) - (bl : Int) = (s : Int) := by omega
  have eSw : IntKind.u64.wrap (s : Int) = (s : Int) := by rw [IntKind.wrap_u64]; omega
  have hfit := top_fits hn hd2 bl3 hbs
  have Hfull := Lib.hid (top_full hn Bl2.out bl1 hbs)
  have Hlz := Lib.hid hlz
  obtain ⟨vt, hvte⟩ : ∃ vt, vt = vs[m + 1] := ⟨_, rfl⟩
  rw [← hvte] at hx Hlz hvd
  have Hsv : Hid (∀ W, Below w.heap.size w W → Calls Tryz.prog 174 #[.slice (some ⟨b, off, none⟩) (m + 2) c2, .int .u64 (s : Int)] W fun e w' => Words W w' (m + 3) (val 18446744073709551616 vs * 2 ^ s) e) := fun W hW => by
    have := shiftWords_any (some ⟨b, off, none⟩) c2 s vs W B (hr2.below (hW.mono hB)) (Nat.le_trans hB hW.size) hd2 (by omega) hs64
    rw [hn] at this; exact this
  have Hsu : Hid (∀ W, Below w.heap.size w W → Calls Tryz.prog 174 #[.slice A us.length c, .int .u64 (s : Int)] W fun e w' => Words W w' (us.length + 1) (val 18446744073709551616 us * 2 ^ s) e) := fun W hW =>
    shiftWords_any A c s us W B (hr.below (hW.mono hB)) (Nat.le_trans hB hW.size) hd (by omega) hs64
  rw [hn]
  have p3 : (m : Int) + 2 - 1 = (m : Int) + 1 := by omega
  have hne1 : (((m : Int) + 2) == 1) = false := by simp; omega
  have Hn := Lib.hid hn
  have Hge := Lib.hid hge
  have Hvge := Lib.hid hvge
  have Hfit := Lib.hid hfit
  have Hm200 : Hid (m + 2 ≤ 134217728) := by show _ ≤ _; omega
  clear hbl hs hlz hvte hr hr2 hn h1 hge hvge hfit hvt bl1 Bl2 bl3 bl4 hbs ht2 hv0 hP h2v
  go_enter Tryz.func152, Tryz.ntmps152
  go_upto_region 4 with (first | (simp only []) | (simp only [p3]) | (go_at_call 173; (with_reducible refine (Hlz.out _).mono ?_); rintro e w' ⟨rfl, rfl⟩; rw [eS]) | (simp only [eSw]) | (simp only [eS]))
  go_cut [7, 8] from 61 (fun uv vv W => ∃ (u2 v2 : List Nat) (gu gv : Nat), uv = .slice (some ⟨gu, 0, none⟩) (us.length + 1) (us.length + 1) ∧ vv = .slice (some ⟨gv, 0, none⟩) (m + 2) (m + 3) ∧ Hid (u2.length = us.length + 1) ∧ Hid (v2.length = m + 3) ∧ Dig 18446744073709551616 u2 ∧ Dig 18446744073709551616 v2 ∧ Hid (val 18446744073709551616 u2 = val 18446744073709551616 us * 2 ^ s) ∧ Hid (val 18446744073709551616 v2 = val 18446744073709551616 vs * 2 ^ s) ∧ gu ≠ gv ∧ w.heap.size ≤ gu ∧ w.heap.size ≤ gv ∧ Blk W gu 84 (u64s u2) ∧ Blk W gv 84 (u64s v2) ∧ Below w.heap.size w W)
  case first =>
    have i1 : (m : Int) + 2 ≤ (m : Int) + 3 := by omega
    have i2 : (0 : Int) ≤ (m : Int) + 2 := by omega
    have i3 : m + 2 ≤ m + 3 := by omega
    go_region_held3 (fun _ => True) (exact trivial) (first
      | (go_at_call 174; (with_reducible refine (Hsu.out _ (by first | exact Below.refl _ _ | exact (Below.refl _ _).drew | exact hBb | exact hBb.drew)).mono ?_); rintro e wa ⟨ua, ga, rfl, hual, huad, huav, hga, hbka, hba⟩; have hBa : Below w.heap.size w wa := (by first | exact hba | exact (Below.refl _ _).drew.trans hba | exact hBb.trans (hba.mono hBb.size) | exact hBb.drew.trans (hba.mono hBb.size)))
      | (go_at_call 174; (with_reducible refine (Hsv.out _ (by first | exact Below.refl _ _ | exact (Below.refl _ _).drew | exact hBa | exact hBa.drew)).mono ?_); rintro e wb ⟨vb, gb, rfl, hvbl, hvbd, hvbv, hgb, hbkb, hbb⟩; have hBb : Below w.heap.size w wb := (by first | exact hbb | exact (Below.refl _ _).drew.trans hbb | exact hBa.trans (hbb.mono hBa.size) | exact hBa.drew.trans (hbb.mono hBa.size)); have hvle : m + 2 ≤ vb.length := by omega))
    all_goals go_wp2
    all_goals go_meet
    all_goals exact ⟨ua, vb, ga, gb, rfl, rfl, hual, hvbl, huad, hvbd, huav, hvbv, by first | (have := hbka.lt; omega) | (have := hbkb.lt; omega), by first | exact hga | exact Nat.le_trans hBb.size hga, by first | exact hgb | exact Nat.le_trans hBa.size hgb, by first | exact hbka | exact hbka.below hbb hbka.lt | exact hbka.drew.below hbb hbka.lt, by first | exact hbkb | exact hbkb.below hba hbkb.lt | exact hbkb.drew.below hba hbkb.lt, by first | exact hBb | exact hBa⟩
  case rest =>
    obtain ⟨u2, v2, gu, gv, rfl, rfl, Hul, Hvl, hud, hvd2, Huv, Hvv, hne, hgu, hgv, hbu, hbv, hbel⟩ := hcut
    have hvtl : (v2.take (m + 2)).length = m + 2 := by rw [List.length_take, Hvl.out]; omega
    have hvv : val 18446744073709551616 (v2.take (m + 2)) = val 18446744073709551616 vs * 2 ^ s := (take_fit (by rw [Hvl.out]; omega) (by omega) (by rw [Hvv.out]; exact Hfit.out)).trans Hvv.out
    have hVge : 18446744073709551616 ^ (m + 1) * 2 ^ s ≤ val 18446744073709551616 vs * 2 ^ s := Nat.mul_le_mul_right _ Hvge.out
    have hvt : 0 < (v2.take (m + 2))[m + 1] := top_pos hvtl (hvd2.take_ _) (by rw [hvv]; exact Nat.le_trans (Nat.le_mul_of_pos_right _ (Nat.two_pow_pos s)) hVge)
    have hdl : val 18446744073709551616 (u2.drop (u2.length - (v2.take (m + 2)).length)) < val 18446744073709551616 (v2.take (m + 2)) := by
      rw [hvtl, Hul.out, hvv]; exact Nat.lt_of_lt_of_le (drop_low hd hud Huv.out hlen) hVge
    have hrx : Rx wc gu (some ⟨gv, 0, none⟩) (u64s (v2.take (m + 2))) := Rx.of_blk hbv (Ne.symm hne) 0 (fun k v hv => by
      rw [Nat.zero_add]
      rw [show u64s (v2.take (m + 2)) = (u64s v2).take (m + 2) from by simp [u64s, List.map_take], List.getElem?_take] at hv
      split at hv
      · exact hv
      · cases hv)
    have HL := longQuotient_any gu m (us.length + 1) (m + 3) u2 (v2.take (m + 2)) (some ⟨gv, 0, none⟩) wc hbu hrx hud (hvd2.take_ _) hvtl hvt hdl (by rw [Hul.out]; exact Nat.le_refl _) (by rw [Hul.out]; omega) (by rw [hvtl]; have := Hm200.out; omega)
    rw [Hul.out, hvtl, hvv, Huv.out] at HL
    have HL2 := Lib.hid HL
    have hVp : Hid (0 < val 18446744073709551616 vs) := by
      have := Nat.pow_pos (n := m + 1) (show 0 < 18446744073709551616 by omega)
      exact Nat.lt_of_lt_of_le this Hvge.out
    have hw2t := hbel.size
    rcases (by omega : m + 2 < 200 ∨ (200 ≤ m + 2 ∧ us.length - (m + 2) < 200) ∨ (200 ≤ m + 2 ∧ 200 ≤ us.length - (m + 2))) with h2 | ⟨h2, h3⟩ | ⟨h2, h3⟩
    rotate_right
    · have t200 : decide ((m : Int) + 2 < 200) = false := decide_eq_false (by omega)
      have t201 : decide ((us.length : Int) - ((m : Int) + 2) < 200) = false := decide_eq_false (by omega)
      have HB := blockQuotient_any (some ⟨gu, 0, none⟩) (some ⟨gv, 0, none⟩) (us.length + 1) (m + 3) u2 (v2.take (m + 2)) _ _ wc wc.heap.size (by rw [hvtl]; omega) (by rw [hvtl]; exact Hm200.out) (Rd.of_blk hbu hbu.lt 0 (fun k v hv => by rw [Nat.zero_add]; exact hv)) hrx.rd (Nat.le_refl _) hud rfl (hvd2.take_ _) rfl (by rw [hvtl, hvv]; exact Hfull.out) (by intro e; have h9 := Hul.out; rw [e] at h9; simp at h9) (by rw [Hul.out]; omega)
      rw [Hul.out, hvtl, hvv, Huv.out] at HB
      have HB2 := Lib.hid HB
      clear HB HL HL2 hrx hdl hvt hVge hvv hvtl Hsu Hsv Hlz hx
      go_wp2_with (first
        | (simp only [])
        | (simp only [t201])
        | (go_at_call 176; (with_reducible refine HB2.out.mono ?_); rintro e w2 ⟨qs, rs, gq, R, cr, rfl, hqd, hqv, hrn, hrc, hql, hgq, hbq, hrr, hb2⟩; have Hqv := Lib.hid hqv; have Hql := Lib.hid (len_shift (d := 402653185) (by decide) hql); clear hqv hql))
      have hVs : val 18446744073709551616 vs * 2 ^ s ≤ val 18446744073709551616 vs * 2 ^ s := Nat.le_refl _
      have hrlen : rs.length ≤ m + 2 := num_len hrn (by
        have h9 := Nat.mod_lt (val 18446744073709551616 us * 2 ^ s) (Nat.mul_pos hVp.out (Nat.two_pow_pos s))
        exact Nat.lt_trans h9 Hfit.out)
      have Hun := unshiftWords_any R cr s rs w2 w2.heap.size hrr (Nat.le_refl _) hrn.1 (by omega) hs64
      rw [hrn.2.2, Nat.mul_mod_mul_right, Nat.mul_div_cancel _ (Nat.two_pow_pos s)] at Hun
      have hqv := Hqv.out
      rw [Nat.mul_div_mul_right _ _ (Nat.two_pow_pos s)] at hqv
      have Hqv2 := Lib.hid hqv
      have Hun2 := Lib.hid Hun
      clear Hun hqv Hqv
      go_wp2_with fail
      refine (Hun2.out).mono ?_
      rintro e w3 ⟨zs, gz, rfl, hzl, hzd, hzv, hgz, hbz, hb3⟩
      have Hzv := Lib.hid hzv
      have Hzl := Lib.hid hzl
      clear hzv hzl
      go_wp2_with fail
      go_ret2
      have hw2 : Below w.heap.size w w2 := hbel.trans (hb2.mono hbel.size)
      refine ⟨qs, zs, some ⟨gq, 0, none⟩, qs.length, gz, rfl, hqd, hzd, Hql.out, by have := Hzl.out; omega, Nat.le_refl _, ?_, ?_, ?_, Nat.le_trans hw2.size hgz, hbz, hw2.trans (hb3.mono hw2.size)⟩
      · rw [Hqv2.out, Hzv.out, Nat.mul_comm]; exact (Nat.div_add_mod _ _).symm
      · rw [Hzv.out]; exact Nat.mod_lt _ hVp.out
      · exact Rd.of_blk (hbq.below hb3 hbq.lt) (by have := hbq.lt; have := hb3.size; omega) 0 (fun k v hv => by rw [Nat.zero_add]; exact hv)
    case' inl =>
      have t200 : decide ((m : Int) + 2 < 200) = true := decide_eq_true (by omega)
    case' inr.inl =>
      have t200 : decide ((m : Int) + 2 < 200) = false := decide_eq_false (by omega)
      have t201 : decide ((us.length : Int) - ((m : Int) + 2) < 200) = true := decide_eq_true (by omega)
    all_goals
      clear HL hrx hdl hvt hVge hvv hvtl Hsu Hsv Hlz hx
      go_wp2_with (first | (simp only []) | (simp only [t201]) | (go_at_call 175; (with_reducible refine (HL2.out).mono ?_); rintro e w2 ⟨qs, rs, gq, rfl, hql, hqd, hqv, hrl, hrd, hrv, hgq, hbq, hbr, htn⟩; have Hqv := Lib.hid hqv; have Hql := Lib.hid (len_long (d := 402653185) (by decide) hql); have Hrv := Lib.hid hrv; have Hrl := Lib.hid hrl; clear hqv hql hrv hrl))
      have Hun := unshiftWords_any (some ⟨gu, 0, none⟩) (us.length + 1) s rs w2 w2.heap.size (Rd.of_blk hbr hbr.lt 0 (fun k v hv => by rw [Nat.zero_add]; exact hv)) (Nat.le_refl _) hrd (by rw [Hrl.out]; omega) hs64
      rw [Hrl.out, Hrv.out, Nat.mul_mod_mul_right, Nat.mul_div_cancel _ (Nat.two_pow_pos s)] at Hun
      have hqv := Hqv.out
      rw [Nat.mul_div_mul_right _ _ (Nat.two_pow_pos s)] at hqv
      have Hqv2 := Lib.hid hqv
      have Hun2 := Lib.hid Hun
      clear Hun hqv Hqv
      go_wp2_with fail
      refine (Hun2.out).mono ?_
      rintro e w3 ⟨zs, gz, rfl, hzl, hzd, hzv, hgz, hbz, hb3⟩
      have Hzv := Lib.hid hzv
      have Hzl := Lib.hid hzl
      clear hzv hzl
      go_wp2_with fail
      go_ret2
      have hw2 : Below w.heap.size w w2 := hbel.trans (htn.below hgu hbel.size)
      refine ⟨qs, zs, some ⟨gq, 0, none⟩, qs.length, gz, rfl, hqd, hzd, Hql.out, by have := Hzl.out; omega, Nat.le_refl _, ?_, ?_, ?_, Nat.le_trans hw2.size hgz, hbz, hw2.trans (hb3.mono hw2.size)⟩
      · rw [Hqv2.out, Hzv.out, Nat.mul_comm]; exact (Nat.div_add_mod _ _).symm
      · rw [Hzv.out]; exact Nat.mod_lt _ hVp.out
      · exact Rd.of_blk (hbq.below hb3 hbq.lt) (by have := hbq.lt; have := hb3.size; omega) 0 (fun k v hv => by rw [Nat.zero_add]; exact hv)
theorem quotient_all : QuotientOk (fun n => n ≤ 134217728) := by
  intro A c A2 c2 us vs w B hr hr2 hB hd hd2 ht ht2 hv0 hge hP hc hc2 hm
  by_cases h1 : vs.length = 1
  · exact quotient_one A c A2 c2 us vs w B hr hr2 hB hd hd2 ht ht2 hv0 hge h1 hc hc2 hm
  · have h2v : 2 ≤ vs.length := by
      have : vs.length ≠ 0 := fun e => hv0 (List.eq_nil_of_length_eq_zero e)
      omega
    refine (quotient_big A c A2 c2 us vs w B hr hr2 hB hd hd2 ht ht2 h2v hge hP hc hc2 hm).mono ?_
    rintro e w' ⟨qs, rs, A1, c1, g, rfl, q1, q2, q3, q4, q5, q6, q7, q8, q9, q10, q11⟩
    exact ⟨qs, rs, A1, c1, _, _, rfl, q1, q2, q3, q4, q5, Nat.le_refl _, q6, q7, q8, Words.res q9 q10 (by omega), q11⟩
end
section
open Go.RowKit

/-- A slice of limbs that is held. -/
structure Hd (w : World) (A : Option Addr) (c : Nat) (xs : List Nat) (n N : Nat) : Prop where
  num : Num 4294967296 xs n
  rd : Rd w w.heap.size A (u32s xs)
  cap : xs.length ≤ c
  len : xs.length ≤ N
theorem Hd.next {w w' : World} {A : Option Addr} {c n N : Nat} {xs : List Nat} (h : Hd w A c xs n N) (hb : Below w.heap.size w w') : Hd w' A c xs n N := ⟨h.num, (h.rd.below hb).mono hb.size, h.cap, h.len⟩
theorem num32_len {zs : List Nat} {n m N : Nat} (h : Num 4294967296 zs n) (hle : n ≤ m) (hm : m < 4294967296 ^ N) : zs.length ≤ N := by
  have := trimL_len_le (b := 4294967296) (N := N) (by omega) h.1 (by rw [h.2.2]; omega)
  rwa [h.2.1] at this
theorem Hd.of {w : World} {B : Nat} {A : Option Addr} {c n m N : Nat} {xs : List Nat} (h : Num 4294967296 xs n) (hr : Res w B 27 A c (u32s xs)) (hle : n ≤ m) (hm : m < 4294967296 ^ N) : Hd w A c xs n N :=
  ⟨h, hr.rd, by have := hr.1; rwa [u32s_length] at this, num32_len h hle hm⟩
/-- A number that is held, and what it is below. -/
structure Hv (w : World) (A : Option Addr) (c : Nat) (xs : List Nat) (n K : Nat) : Prop where
  dig : Dig 4294967296 xs
  val_ : val 4294967296 xs = n
  rd : Rd w w.heap.size A (u32s xs)
  cap : xs.length ≤ c
  len : xs.length ≤ K
section
variable {w w' : World} {A A2 : Option Addr} {c c2 n k K J : Nat} {xs ys : List Nat}
theorem Hv.next (h : Hv w A c xs n K) (hb : Below w.heap.size w w') : Hv w' A c xs n K := ⟨h.dig, h.val_, (h.rd.below hb).mono hb.size, h.cap, h.len⟩
theorem Hv.lt (h : Hv w A c xs n K) : n < 4294967296 ^ K := by
  rw [← h.val_]
  exact Nat.lt_of_lt_of_le (val_lt _ _ h.dig) (Nat.pow_le_pow_right (by omega) h.len)
/-- What an operation answers. -/
def HvOut (w w' : World) (n K : Nat) (e : Ending) : Prop := ∃ zs A' c', e = .returned (.slice A' zs.length c') ∧ Hv w' A' c' zs n K ∧ Below w.heap.size w w'
theorem Hv.of {B : Nat} (h : Num 4294967296 xs n) (hr : Res w B 27 A c (u32s xs)) (hm : n < 4294967296 ^ K) : Hv w A c xs n K :=
  ⟨h.1, h.2.2, hr.rd, by have := hr.1; rwa [u32s_length] at this, num32_len h (Nat.le_refl _) hm⟩
theorem sum_lt_pow9 {b i j : Nat} (hb : 2 ≤ b) (hn : n < b ^ i) (hk : k < b ^ j) : n + k < b ^ (max i j + 1) := by
  have h1 : b ^ i ≤ b ^ max i j := Nat.pow_le_pow_right (by omega) (by omega)
  have h2 : b ^ j ≤ b ^ max i j := Nat.pow_le_pow_right (by omega) (by omega)
  have h3 : b ^ max i j * 2 ≤ b ^ max i j * b := Nat.mul_le_mul_left _ hb
  rw [Nat.pow_succ]
  omega
theorem prod_lt_pow9 {b i j : Nat} (hn : n < b ^ i) (hk : k < b ^ j) : n * k < b ^ (i + j) := by
  rw [Nat.pow_add]
  exact Nat.mul_lt_mul'' hn hk
theorem Hv.add (h : Hv w A c xs n K) (h2 : Hv w A2 c2 ys k J) (hK : K ≤ 67108864) (hJ : J ≤ 67108864) :
    Calls Tryz.prog 78 #[.slice A xs.length c, .slice A2 ys.length c2] w fun e w' => HvOut w w' (n + k) (max K J + 1) e := by
  have hl1 := h.len
  have hl2 := h2.len
  have h9 := add_any A A2 c c2 xs ys w w.heap.size h.rd h2.rd (Nat.le_refl _) h.dig h2.dig h.cap h2.cap (by omega) (by omega)
  rw [h.val_, h2.val_] at h9
  refine h9.mono ?_
  rintro e w' ⟨zs, A', c', rfl, hz, hr, hb⟩
  exact ⟨zs, A', c', rfl, Hv.of hz hr (sum_lt_pow9 (by omega) h.lt h2.lt), hb⟩
theorem Hv.mul (h : Hv w A c xs n K) (h2 : Hv w A2 c2 ys k J) (hK : K ≤ 67108864) (hJ : J ≤ 67108864) :
    Calls Tryz.prog 79 #[.slice A xs.length c, .slice A2 ys.length c2] w fun e w' => HvOut w w' (n * k) (K + J) e := by
  have hl1 := h.len
  have hl2 := h2.len
  have t1 := trimL_length_le xs
  have t2 := trimL_length_le ys
  have h9 := mul_any A A2 c c2 xs ys w w.heap.size h.rd h2.rd (Nat.le_refl _) h.dig h2.dig h.cap h2.cap (by omega) (by omega) (by omega)
  rw [h.val_, h2.val_] at h9
  refine h9.mono ?_
  rintro e w' ⟨zs, A', c', rfl, hz, hr, hb⟩
  exact ⟨zs, A', c', rfl, Hv.of hz hr (prod_lt_pow9 h.lt h2.lt), hb⟩
theorem Hv.sub (h : Hv w A c xs n K) (h2 : Hv w A2 c2 ys k J) (hK : K ≤ 67108864) (hJ : J ≤ 67108864) (hle : k ≤ n) :
    Calls Tryz.prog 153 #[.slice A xs.length c, .slice A2 ys.length c2] w fun e w' => ∃ zs A' c', e = .returned (.tuple #[.slice A' zs.length c', .int .i64 0]) ∧ Hv w' A' c' zs (n - k) K ∧ Below w.heap.size w w' := by
  have hl1 := h.len
  have hl2 := h2.len
  have h9 := sub_any A A2 c c2 xs ys w w.heap.size h.rd h2.rd (Nat.le_refl _) h.dig h2.dig h.cap h2.cap (by omega) (by omega)
  rw [h.val_, h2.val_] at h9
  refine h9.mono ?_
  rintro e w' ⟨zs, A', c', rfl, hz, hr, hb⟩
  exact ⟨zs, A', c', by rw [if_neg (by omega)], Hv.of hz hr (Nat.lt_of_le_of_lt (Nat.sub_le _ _) h.lt), hb⟩
theorem Hv.div (h : Hv w A c xs n K) (h2 : Hv w A2 c2 ys k J) (hK : K ≤ 67108864) (hJ : J ≤ 67108864) :
    Calls Tryz.prog 132 #[.slice A xs.length c, .slice A2 ys.length c2] w fun e w' => ∃ qs rs A1 c1 A3 c3, e = .returned (.tuple #[.slice A1 qs.length c1, .slice A3 rs.length c3, .int .i64 (if k = 0 then 5 else 0)]) ∧ Hv w' A1 c1 qs (n / k) K ∧ Hv w' A3 c3 rs (if k = 0 then 0 else n % k) K ∧ Below w.heap.size w w' := by
  have hl1 := h.len
  have hl2 := h2.len
  have t2 := trimL_length_le ys
  have h9 := div_any quotient_all A A2 c c2 xs ys w w.heap.size h.rd h2.rd (Nat.le_refl _) h.dig h2.dig h.cap h2.cap (by omega) (by omega) (by show _ ≤ _; omega)
  rw [h.val_, h2.val_] at h9
  refine h9.mono ?_
  rintro e w' ⟨qs, rs, A1, c1, A3, c3, rfl, hq, hr, hrq, hrr, hb⟩
  refine ⟨qs, rs, A1, c1, A3, c3, rfl, Hv.of hq hrq (Nat.lt_of_le_of_lt (Nat.div_le_self _ _) h.lt), Hv.of hr hrr ?_, hb⟩
  split
  · exact Nat.pow_pos (by omega)
  · exact Nat.lt_of_le_of_lt (Nat.mod_le _ _) h.lt
end
end
section
/-- A sign and a size, as an integer. -/
def ivalN (g : Bool) (n : Nat) : Int := if g then -(n : Int) else n
def isNeg (z : Int) : Bool := decide (z < 0)
theorem isNeg_ival (g : Bool) (m : Nat) : isNeg (ivalN g m) = (g && decide (0 < m)) := by
  cases g <;> simp [ivalN, isNeg]
theorem abs_ival (g : Bool) (m : Nat) : (ivalN g m).natAbs = m := by
  cases g <;> simp [ivalN]
theorem ival_abs (z : Int) : ivalN (isNeg z) z.natAbs = z := by
  unfold ivalN isNeg
  by_cases h : z < 0 <;> simp [h] <;> omega
theorem ival_false (n : Nat) : ivalN false n = n := rfl
theorem ival_true (n : Nat) : ivalN true n = -(n : Int) := rfl
theorem add_ival (g g2 : Bool) (m k : Nat) : ivalN g m + ivalN g2 k = if g = g2 then ivalN g (m + k) else if g then (k : Int) - m else (m : Int) - k := by
  cases g <;> cases g2 <;> simp [ivalN] <;> omega
theorem mul_ival (g g2 : Bool) (m k : Nat) : ivalN g m * ivalN g2 k = ivalN (g != g2) (m * k) := by
  cases g <;> cases g2 <;> simp [ivalN, Int.neg_mul, Int.mul_neg]
theorem neg_ival (g : Bool) (m : Nat) : -ivalN g m = ivalN (!g) m := by
  cases g <;> simp [ivalN]
end
section
open Go

/-- Whatever order the head comes up in; L holds behind it. -/
def HeadQ (P : Program) (md : Region.Mode) (ops : Array Oper) (C : World → Prop) (n : Nat) (L : Array Bool → Act → Prop) : Nat → Array Bool → Act → Prop
  | 0, ls, a => L ls a
  | f + 1, ls, a => Region.ready md ops ls ≠ [] ∧ ∀ i ∈ Region.ready md ops ls, i < n ∧ qOp P ops C i (HeadQ P md ops C n L f (ls.setIfInBounds i true)) a

section
variable {P : Program} {md : Region.Mode} {ops : Array Oper} {C : World → Prop} {n : Nat}

theorem HeadQ.any {g : Nat} {L : Array Bool → Act → Prop} {Q : Exit → Act → World → Prop} (hL : ∀ ls a W, C W → L ls a → wpAny P md ops Q g ls a W) :
    ∀ f ls a W, C W → HeadQ P md ops C n L f ls a → wpAny P md ops Q (f + g) ls a W
  | 0, ls, a, W, hW, h => by rw [Nat.zero_add]; exact hL ls a W hW h
  | f + 1, ls, a, W, hW, h => by
    rw [show f + 1 + g = (f + g) + 1 from by omega]
    exact ⟨fun h0 => absurd h0 h.1, fun i hi => wpOp_of_qOp hW (fun a' W' hW' h' => HeadQ.any hL f _ a' W' hW' h') (h.2 i hi).2⟩

theorem HeadQ.first {i : Nat} {o : Oper} {v : Value} {L : Array Bool → Act → Prop} (ho : ops[i]? = some o) (hsel : Region.noSelect ops = true)
    (hs : Region.sinkB md ops n = true) (hc : Region.chainB md ops n = true) (hn : n < ops.size) (hin : i < n) (hend : ∀ ls a, L ls a → ∀ j ∈ Region.ready md ops ls, n ≤ j) :
    ∀ f ls a, HeadInv md ops n ls → (∀ j oj, ops[j]? = some oj → j ≠ i → ls.getD j true = false → (∀ e ∈ oj.after, Region.binds md e = true → e.on ≠ i) → o.apart ops oj = true) →
      i ∈ Region.ready md ops ls → YieldsIn P ops C o v a → HeadQ P md ops C n L f (ls.setIfInBounds i true) (a.put o.dst v) → HeadQ P md ops C n L (f + 1) ls a := by
  intro f
  induction f with
  | zero =>
    intro ls a inv _ hr hy H
    have hun := (mem_ready.1 hr).1
    refine ⟨fun h => (by rw [h] at hr; cases hr), fun j hj => ?_⟩
    have hjn : j < n := (Nat.lt_or_ge j n).resolve_right fun h => absurd hj (tail_waits hs hc hn inv _ i rfl hin hun j h)
    refine ⟨hjn, ?_⟩
    by_cases hji : j = i
    · subst hji; exact hy.qOp ho H
    · exact absurd (hend _ _ H j (ready_mono hj hji)) (by omega)
  | succ f ih =>
    intro ls a inv hfree hr hy H
    have hun := (mem_ready.1 hr).1
    refine ⟨fun h => (by rw [h] at hr; cases hr), fun j hj => ?_⟩
    have hjn : j < n := (Nat.lt_or_ge j n).resolve_right fun h => absurd hj (tail_waits hs hc hn inv _ i rfl hin hun j h)
    refine ⟨hjn, ?_⟩
    by_cases hji : j = i
    · subst hji; exact hy.qOp ho H
    · have h1 := (H.2 j (ready_mono hj hji)).2
      obtain ⟨hjun, oj, hoj, hall⟩ := mem_ready.1 hj
      have hno : ∀ e ∈ oj.after, Region.binds md e = true → e.on ≠ i := fun e he hb heq => by
        have h2 := hall e he hb
        rw [heq, getD_both hun] at h2
        cases h2
      have h2 := qOp_put hoj (hfree j oj hoj hji hjun hno) (fun cs b => Region.noSelect_spec hsel i o cs b ho) (fun cs b => Region.noSelect_spec hsel j oj cs b hoj) hy h1
      refine qOp_mono (fun a' h3 => ih (ls.setIfInBounds j true) a' (inv.set hj hjn) (fun k ok hk hki hku hkn => hfree k ok hk hki ?_ hkn) (ready_mono hr (Ne.symm hji)) h3.1 ?_) h2
      · by_cases hjk : j = k
        · subst hjk; exact hjun
        · rw [getD_set_ne true hjk] at hku; exact hku
      · rw [Array.setIfInBounds_comm _ _ hji]; exact h3.2

theorem HeadQ.lex {g : Nat} {Lq : Act → Prop} (hsel : Region.noSelect ops = true) (hs : Region.sinkB md ops n = true) (hc : Region.chainB md ops n = true) (hn : n < ops.size) :
    ∀ (l : List Oper) k ls a, (∀ j, j < l.length → l[j]? = ops[k + j]?) → k + l.length = n → HeadInv md ops n ls → Region.lexHead md ops g l.length k ls = true → wpQuiet P ops C Lq l a →
      HeadQ P md ops C n (fun ls' a' => Region.seqB md ops g n ls' = true ∧ Lq a') l.length ls a
  | [], k, ls, a, _, hk, _, hB, h => by
    obtain rfl : k = n := by simpa using hk
    exact ⟨by simpa [Region.lexHead] using hB, h⟩
  | o :: l, k, ls, a, hl, hk, inv, hB, h => by
    have h0 : ops[k]? = some o := by simpa using (hl 0 (by simp)).symm
    simp only [List.length_cons, Region.lexHead, Bool.and_eq_true] at hB
    obtain ⟨⟨hr, hf⟩, hB'⟩ := hB
    have hkn : k < n := by simp only [List.length_cons] at hk; omega
    have hr' : k ∈ Region.ready md ops ls := by simpa using hr
    have hq : qOp P ops C k (wpQuiet P ops C Lq l) a := by unfold qOp; simp only [h0]; exact h
    obtain ⟨v, hy, hK⟩ := yieldsIn_of_qOp h0 hq
    refine HeadQ.first h0 hsel hs hc hn hkn (fun ls' a' hL => seqB_ready hL.1) l.length ls a inv (Region.free_spec h0 hf) hr' hy ?_
    exact HeadQ.lex hsel hs hc hn l (k + 1) _ _ (fun j hj => by have := hl (j + 1) (by simp; omega); simpa [Nat.add_assoc, Nat.add_comm 1 j] using this) (by simp only [List.length_cons] at hk; omega) (inv.set hr' hkn) hB' hK
end

/-- The class of worlds is any: each operation of the head is quiet in it; the tail is walked from any world of it. -/
theorem region_class_tail {P : Program} {C : World → Prop} {id : Nat} {Q : Exit → Act → World → Prop} {a : Act} {w : World} {l : List Oper} (n : Nat) (hm : P.follows .mixedOrders = true) (hB : Region.lexTailB .any l.toArray n = true) (hC : C (w.drewN 1))
    (h : wpQuiet P l.toArray C (fun a' => ∀ w', C w' → wpList P l.toArray Q (l.drop n) a' w') (l.take n) a) : (Code.region id l.toArray true).wp P Q a w := by
  simp only [Region.lexTailB, Bool.and_eq_true, decide_eq_true_eq] at hB
  obtain ⟨⟨⟨⟨hsel, hn⟩, hs⟩, hc⟩, hlex⟩ := hB
  have hn' : n < l.length := by simpa using hn
  have htl : (l.take n).length = n := by rw [List.length_take]; omega
  have hdl : (l.drop n).length = l.toArray.size - n := by simp
  have inv0 : HeadInv .any l.toArray n (Array.replicate l.toArray.size false) :=
    ⟨by simp, fun j oj _ hl => (by rw [getD_replicate_false] at hl; cases hl), fun t _ ht => getD_in (by simpa using ht) (getD_replicate_false _ _)⟩
  have H := HeadQ.lex (md := .any) (g := l.toArray.size - n) hsel hs hc hn (l.take n) 0 _ a (fun j hj => by
    have hj' : j < n := by rw [htl] at hj; exact hj
    simp [hj']) (by simpa using htl) inv0 (by rw [htl]; exact hlex) h
  refine wp_region_any hm ?_
  have hfin := HeadQ.any (Q := Q) (g := l.toArray.size - n) (fun ls a' W hW hL => by
    have h1 := wpAny_of_seq (md := .any) (Q' := Q) (l.drop n) n ls a' W (fun j => by simp [List.getElem?_drop]) (by rw [hdl]; exact hL.1) (hL.2 W hW)
    rwa [hdl] at h1) _ _ _ (w.drewN 1) hC H
  rw [htl, show n + (l.toArray.size - n) = l.toArray.size from by omega] at hfin
  exact hfin

/-- At the class 'some draws behind w'. -/
theorem region_quiet_tail {P : Program} {id : Nat} {Q : Exit → Act → World → Prop} {a : Act} {w : World} {l : List Oper} (n : Nat) (hm : P.follows .mixedOrders = true) (hB : Region.lexTailB .any l.toArray n = true)
    (h : wpQuiet P l.toArray (fun w' => ∃ n, w' = w.drewN n) (fun a' => ∀ w', (∃ n, w' = w.drewN n) → wpList P l.toArray Q (l.drop n) a' w') (l.take n) a) : (Code.region id l.toArray true).wp P Q a w :=
  region_class_tail n hm hB ⟨1, rfl⟩ h
end
end Go.Proofs.YtadpelhmjmamnaaGreatDoor
