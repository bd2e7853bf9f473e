/- The contract of longQuotient. Conditions: words; a divisor of two words or more whose top word is not 0; what is divided lies in a row of its own, its top part below the divisor. The contract of twoByOne, for every size. Conditions: words; the divisor's top bit; at most 2^28 words. The numbers behind a division in blocks. No conditions of its own. The contract of blockQuotient. Conditions: words; the divisor's top bit; 200 words of a divisor or more, at most 2^27. -/
import Derived.Test.YtadpelhmjmamnaaGreatDoorPkCf26
import Derived.Deep.RegionHeld3
import Derived.Laws.CopyOwn
namespace Go.Proofs.YtadpelhmjmamnaaGreatDoor
section
open Go.RowKit

theorem patch_top {L zs : List Nat} {k : Nat} (h : k + zs.length < L.length) : ∃ h2 : k + zs.length < (patch L k zs).length, (patch L k zs)[k + zs.length]'h2 = L[k + zs.length] := by
  have h1 : (L.take k ++ zs).length = k + zs.length := by rw [List.length_append, List.length_take]; omega
  refine ⟨by rw [patch_length (by omega)]; exact h, ?_⟩
  have e : ∀ (i j : Nat) (hi : i < (L.drop (k + zs.length)).length) (hj : j < L.length), j = k + zs.length + i → (L.drop (k + zs.length))[i] = L[j] := by
    rintro i j hi hj rfl
    rw [List.getElem_drop]
  unfold patch
  rw [List.getElem_append_right (by omega)]
  exact e _ _ _ h (by omega)
/-- What longQuotient answers: the quotient's digits; what is left stands in the row g. -/
def LongOut (g M n N V : Nat) (w w' : World) (e : Ending) : Prop :=
  ∃ (qs rs : List Nat) (gq : Nat), e = .returned (.slice (some ⟨gq, 0, none⟩) qs.length qs.length) ∧ qs.length = M - n ∧ Dig 18446744073709551616 qs ∧ val 18446744073709551616 qs = N / V ∧ rs.length = M ∧ Dig 18446744073709551616 rs ∧ val 18446744073709551616 rs = N % V ∧
    w.heap.size ≤ gq ∧ Blk w' gq 84 (u64s qs) ∧ Blk w' g 84 (u64s rs) ∧ Tn g w w'

set_option maxRecDepth 20000 in
set_option maxHeartbeats 3200000 in
theorem longQuotient_any (g m cu c : Nat) (us vs : List Nat) (A : Option Addr) (w : World) (hblk : Blk w g 84 (u64s us)) (hrx : Rx w g A (u64s vs)) (hd : Dig 18446744073709551616 us) (hdv : Dig 18446744073709551616 vs) (hn : vs.length = m + 2) (hv1 : 0 < vs[m + 1]) (hr : val 18446744073709551616 (us.drop (us.length - vs.length)) < val 18446744073709551616 vs)
    (hcu : us.length ≤ cu) (hm : us.length ≤ 35184372088832) (hm2 : vs.length ≤ 35184372088832) :
    Calls Tryz.prog 175 #[.slice (some ⟨g, 0, none⟩) us.length cu, .slice A vs.length c] w fun e w' => LongOut g us.length vs.length (val 18446744073709551616 us) (val 18446744073709551616 vs) w w' e := by
  rw [hn]
  have hgw := hblk.lt
  have hst := Lib.hid (Longhand.start (vs := vs) (by omega) hd hr)
  have hblk0 := Lib.hid hblk
  obtain ⟨N, hN⟩ : ∃ N, N = val 18446744073709551616 us := ⟨_, rfl⟩
  rw [← hN] at hst ⊢
  obtain ⟨M, hM⟩ : ∃ M, M = us.length := ⟨_, rfl⟩
  rw [← hM] at hst hm hcu ⊢
  have hmk := fun W => mk64 (M - (m + 2)) (by omega) W
  have hmx : max ((M : Int) - ((m : Int) + 2)) 0 = ((M - (m + 2) : Nat) : Int) := by omega
  have hrep : ∀ k : Nat, (List.replicate k (Value.int .u64 0)).toArray = (u64s (List.replicate k 0)).toArray := fun k => by simp [u64s]
  have Hrep := Lib.hid hrep
  clear hr hN hM hblk hrep
  go_enter Tryz.func175, Tryz.ntmps175
  go_wp2_with (simp only [hmx])
  go_loopw [7, 8, 9, 10] (fun i _ _ _ wr => ∃ (kk : Nat) (L qs : List Nat), i = .int .i64 ((kk : Int) - 1) ∧ Hid (Longhand 18446744073709551616 N vs M kk L qs) ∧ Blk wr g 84 (u64s L) ∧ Blk wr w.heap.size 84 (u64s qs) ∧ Tn g w wr) (fun i _ _ _ _ => (intOf i + 1).toNat)
  case atStart => exact ⟨M - (m + 2), us, List.replicate (M - (m + 2)) 0, rfl, by rw [← hn]; exact hst, hblk0.out.heapAlloc _, Blk.new_ (Hrep.out _), Tn.of_below ((Below.refl _ _).alloc (Nat.le_refl _) _) (Nat.le_refl _)⟩
  case round =>
    obtain ⟨kk, L, qs, rfl, hlg, hblk, hqb, htn⟩ := hrel
    by_cases h0 : kk = 0
    · subst h0
      have hql : qs.length = M - (m + 2) := by have := hlg.out.qlen; omega
      have Hql := Lib.hid hql
      clear hst hblk0 hmk hmx hql
      go_wp2_with fail
      go_ret
      exact ⟨qs, L, w.heap.size, by rw [Hql.out]; rfl, Hql.out, hlg.out.qdig, hlg.out.end_.1, hlg.out.len, hlg.out.dig, hlg.out.end_.2, Nat.le_refl _, hqb, hblk, htn⟩
    · obtain ⟨k, rfl⟩ : ∃ k, kk = k + 1 := ⟨kk - 1, by omega⟩
      have hle := hlg.out.le
      have hlen := hlg.out.len
      have hql := hlg.out.qlen
      have hl : k + vs.length < L.length := by omega
      obtain ⟨htop, U, hU, hUV, hdg⟩ := hlg.out.window hn hv1 hdv (by omega) hl
      have hLd := hlg.out.dig
      have d0 := hLd.at_ (k + vs.length) hl
      have d1 := hLd.at_ (k + m + 1) (by omega)
      have d2 := hLd.at_ (k + m) (by omega)
      have d3 := hdv.at_ (m + 1) (by omega)
      have d4 := hdv.at_ m (by omega)
      have c0 := hblk.cell (k + vs.length)
      rw [u64s_at hl] at c0
      have c1 := hblk.cell (k + m + 1)
      rw [u64s_at (by omega)] at c1
      have c2 := hblk.cell (k + m)
      rw [u64s_at (by omega)] at c2
      obtain ⟨b, off, rfl, hb, hbg, c3⟩ := (hrx.tn htn).at64 (show m + 1 < vs.length by omega)
      obtain ⟨b', off', he', _, _, c4⟩ := (hrx.tn htn).at64 (show m < vs.length by omega)
      obtain ⟨rfl, rfl⟩ : b = b' ∧ off = off' := by simpa using he'
      have Hg := fun W => guess_any L[k + vs.length] L[k + m + 1] L[k + m] vs[m + 1] vs[m] W d0 d1 d2 d3 d4 hv1 htop
      have hdb : digit3 18446744073709551616 L[k + vs.length] L[k + m + 1] L[k + m] vs[m + 1] vs[m] < 18446744073709551616 := by
        have : digit3 18446744073709551616 L[k + vs.length] L[k + m + 1] L[k + m] vs[m + 1] vs[m] ≤ 18446744073709551616 - 1 := Nat.min_le_left _ _
        omega
      obtain ⟨d, hde⟩ : ∃ d, d = digit3 18446744073709551616 L[k + vs.length] L[k + m + 1] L[k + m] vs[m + 1] vs[m] := ⟨_, rfl⟩
      rw [← hde] at Hg hdg hdb
      obtain ⟨top, htp⟩ : ∃ top, top = L[k + vs.length] := ⟨_, rfl⟩
      have Htp := Lib.hid htp
      rw [← htp] at Hg c0 hU d0
      obtain ⟨nx, hnx⟩ : ∃ nx, nx = L[k + m + 1] := ⟨_, rfl⟩
      rw [← hnx] at Hg c1 d1
      obtain ⟨th, hth⟩ : ∃ th, th = L[k + m] := ⟨_, rfl⟩
      rw [← hth] at Hg c2 d2
      obtain ⟨v1, hv1e⟩ : ∃ v1, v1 = vs[m + 1] := ⟨_, rfl⟩
      rw [← hv1e] at Hg c3 d3
      obtain ⟨v2, hv2e⟩ : ∃ v2, v2 = vs[m] := ⟨_, rfl⟩
      rw [← hv2e] at Hg c4 d4
      rw [hn] at c0
      have HG := Lib.hid Hg
      have HU := Lib.hid hU
      have HUV := Lib.hid hUV
      have Hdg := Lib.hid hdg
      have p1 : (k : Int) + ((m : Int) + 2) - 1 = (k : Int) + (m : Int) + 1 := by omega
      have p2 : (k : Int) + ((m : Int) + 2) - 2 = (k : Int) + (m : Int) := by omega
      have p3 : (m : Int) + 2 - 1 = (m : Int) + 1 := by omega
      have p4 : (m : Int) + 2 - 2 = (m : Int) := by omega
      clear hst hblk0 hmk hmx hU hUV hdg Hg htop hde htp hnx hth hv1e hv2e
      have hk1 : ((k + 1 : Nat) : Int) - 1 = (k : Int) := by omega
      rw [hk1]
      clear hk1
      go_upto_region 6 with fail
      go_cut [8] from 95 (fun dv W => dv = .int .u64 (d : Int) ∧ Dr wr W)
      case first =>
        go_quiet ((go_at_call 188; first | exact quietD (HG.out _) | exact quietAddD (HG.out _)))
        go_wp2
        go_meet
        case rel => exact ⟨rfl, by first | exact (Dr.refl _).step _ | exact Dr.refl _⟩
      case rest =>
        obtain ⟨rfl, hdr⟩ := hcut
        have hblk1 := hblk.below (hdr.below wr.heap.size) hblk.lt
        have hqb1 := hqb.below (hdr.below wr.heap.size) hqb.lt
        have htn1 : Tn g w wc := htn.trans (Tn.of_below (hdr.below wr.heap.size) (Nat.le_refl _))
        have hrx1 := hrx.tn htn1
        have hVp : 0 < val 18446744073709551616 vs := by have := hlg.out.rest; omega
        have HVp := Lib.hid hVp
        have Htr : Hid (∀ _co : Nat, Calls Tryz.prog 189 #[.slice (some ⟨g, k, none⟩) (m + 2) (cu - k), .slice (some ⟨b, off, none⟩) (m + 2) c, .int .u64 (d : Int)] wc fun e w' => ∃ (zs : List Nat) (q : Nat), e = .returned (.int .u64 (q : Int)) ∧ zs.length = m + 2 ∧ Dig 18446744073709551616 zs ∧ q < 18446744073709551616 ∧ val 18446744073709551616 zs + val 18446744073709551616 vs * d = val 18446744073709551616 ((L.drop k).take (m + 2)) + 18446744073709551616 ^ (m + 2) * q ∧ Blk w' g 84 (u64s (patch L k zs)) ∧ Tn g wc w') := fun _ => by
          have h := takeRow_any g k (cu - k) L vs d (some ⟨b, off, none⟩) c wc hblk1 hrx1 (by omega) (by omega) hLd hdv hdb (by omega) (by omega)
          rw [hn] at h
          exact h
        clear hblk hqb htn hdr c0 c1 c2 c3 c4 d1 d2 d4 p1 p2 p3 p4 HG he' hVp
        go_wp2_with fail
        rw [show k + (m + 2) - k = m + 2 from by omega]
        refine (Htr.out 0).mono ?_
        rintro e w2 ⟨zs, lack, rfl, hzl, hzd, hlb, hzv, hblk2, htn2⟩
        rw [← hn] at hzl hzv
        have hk : k + zs.length < L.length := by omega
        obtain ⟨qq, hqq⟩ : ∃ qq, qq = U / val 18446744073709551616 vs := ⟨_, rfl⟩
        have hfix := Lib.hid (knuth_fix HU.out (by have := val_lt _ _ hzd; rwa [hzl] at this) HVp.out (val_lt _ _ hdv) hzv Hdg.out)
        rw [← hqq] at hfix
        have Hqq := Lib.hid hqq
        have hqW : qq < 18446744073709551616 := by rw [hqq]; exact (Nat.div_lt_iff_lt_mul HVp.out).2 HUV.out
        clear hqq
        have hqb2 := hqb1.tn htn2 (by omega)
        have htn2w := htn1.trans htn2
        obtain ⟨hpt, hpe⟩ := patch_top hk
        have c0 := hblk2.cell (k + zs.length)
        rw [u64s_at hpt, hpe] at c0
        have hte : L[k + zs.length] = top := by rw [Htp.out]; congr 1; omega
        rw [hte, hzl, hn] at c0
        have f0 := hblk2.frozen (k + (m + 2))
        have hset := hblk2.set_ (k + zs.length) (.int .u64 ((0 : Nat) : Int))
        rw [u64s_set, lay_eq hk, hzl, hn] at hset
        have htn3 := htn2w.setCell (k + (m + 2)) (.int .u64 0)
        have hqb3 := hqb2.far (p := ⟨g, k + (m + 2), none⟩) (show w.heap.size ≠ g by omega) (.int .u64 0)
        have Hset := Lib.hid hset
        have Htn3 := Lib.hid htn3
        have Hqb3 := Lib.hid hqb3
        have Hzl := Lib.hid hzl
        clear hzv hpt hpe hte hset htn3 hqb3 hblk1 hqb1 htn1 hrx1 hblk2 htn2 hqb2 htn2w hzl
        go_upto_if 79 with fail
        obtain ⟨w3, hw3⟩ : ∃ w3, w3 = w2.setCell ⟨g, k + (m + 2), none⟩ (.int .u64 0) := ⟨_, rfl⟩
        have h3b : Blk w3 g 84 (u64s (lay L k zs)) := by rw [hw3]; exact Hset.out
        have h3q : Blk w3 w.heap.size 84 (u64s qs) := by rw [hw3]; exact Hqb3.out
        have h3t : Tn g w w3 := by rw [hw3]; exact Htn3.out
        rw [← hw3]
        clear hw3 Hset Hqb3 Htn3 c0 f0
        go_cut [8, 79] from 95 (fun dv _ W => ∃ z2 : List Nat, dv = .int .u64 (qq : Int) ∧ Hid (z2.length = m + 2) ∧ Dig 18446744073709551616 z2 ∧ Hid (val 18446744073709551616 z2 = U % val 18446744073709551616 vs) ∧ Blk W g 84 (u64s (lay L k z2)) ∧ Blk W w.heap.size 84 (u64s qs) ∧ Tn g w W)
        case first =>
          by_cases hlk : top < lack
          · have t1 : decide ((top : Int) < (lack : Int)) = true := decide_eq_true (by omega)
            obtain ⟨hdq, hzV⟩ := hfix.out.2 hlk
            have eD : IntKind.u64.wrap ((d : Int) - 1) = (qq : Int) := by rw [IntKind.wrap_u64]; omega
            have eD2 : (d : Int) - 1 = (qq : Int) := by omega
            have HzV := Lib.hid hzV
            have Hai := Lib.hid (addInto_any g k vs.length (cu - k) (lay L k zs) vs (some ⟨b, off, none⟩) c w3 h3b (hrx.tn h3t) (by rw [lay_length hk]; omega) (Nat.le_refl _) (lay_dig (by omega) hLd hzd) hdv (by omega))
            rw [hn] at Hai
            clear hzV hdq hfix
            go_wp2_with (first | (simp only [t1]) | (simp only [hlk, decide_true]))
            rw [show k + (m + 2) - k = m + 2 from by omega]
            refine (Hai.out).mono ?_
            rintro e w4 ⟨z2, cy, rfl, hz2l, hz2d, hcy, hz2v, hblk4, htn4⟩
            rw [← hn] at hz2l hz2v
            rw [lay_patch hk (by rw [hz2l, Hzl.out])] at hblk4
            have hwin := lay_window hk
            rw [Hzl.out] at hwin
            rw [hwin] at hz2v
            have Hz2 := Lib.hid (show val 18446744073709551616 z2 = U % val 18446744073709551616 vs from by
              have h1 := val_lt _ _ hz2d
              rw [hz2l] at h1
              have h2 := HzV.out
              have h3 := Nat.mod_lt U HVp.out
              have h4 := val_lt _ _ hdv
              have h5 : cy = 0 ∨ cy = 1 := by omega
              rcases h5 with rfl | rfl
              · rw [Nat.mul_zero] at hz2v; omega
              · rw [Nat.mul_one] at hz2v; omega)
            have Hz2l := Lib.hid (hz2l.trans hn)
            have h4q := h3q.tn htn4 (by omega)
            have h4t := h3t.trans htn4
            clear hz2v hwin hz2l h3b h3q h3t
            go_wp2_with (first | (simp only []) | (simp only [eD2]))
            go_meet
            case rel => exact ⟨z2, rfl, Hz2l, hz2d, Hz2, hblk4, h4q, h4t⟩
          · have t1 : decide ((top : Int) < (lack : Int)) = false := decide_eq_false (by omega)
            obtain ⟨hdq, hzV⟩ := hfix.out.1 hlk
            have HzV := Lib.hid hzV
            subst hdq
            clear hzV hfix
            go_wp2_with (first | (simp only [t1]) | (simp only [hlk, decide_false]))
            go_meet
            case rel => exact ⟨zs, rfl, Lib.hid (Hzl.out.trans hn), hzd, HzV, h3b, h3q, h3t⟩
        case rest =>
          clear h3b h3q h3t hzd hfix
          obtain ⟨z2, rfl, Hz2l, hz2d, Hz2, h4b, h4q, h4t⟩ := hcut
          have Hnext := Lib.hid (hlg.out.next hl (Hz2l.out.trans hn.symm) hz2d (by rw [← Htp.out]; exact HU.out) Hz2.out (by rw [← Hqq.out]; exact hqW) HVp.out (by omega))
          rw [← Hqq.out] at Hnext
          have hkq : k < qs.length := by omega
          have c5 := h4q.cell k
          rw [u64s_at hkq] at c5
          have f5 := h4q.frozen k
          have hs := h4q.set_ k (.int .u64 (qq : Int))
          rw [u64s_set] at hs
          have Hs := Lib.hid hs
          have H4b := Lib.hid (h4b.far (p := ⟨w.heap.size, k, none⟩) (show g ≠ w.heap.size by omega) (.int .u64 (qq : Int)))
          have H4t := Lib.hid (h4t.chNew ((Ch.refl w.heap.size _).setCell k (.int .u64 (qq : Int))) (Nat.le_refl _))
          have hkM : k < M - (m + 2) := by omega
          clear hs
          go_wp2_with fail
          case roundEnd => exact ⟨⟨k, lay L k z2, qs.set k qq, by go_num, Hnext, H4b.out, Hs.out, H4t.out⟩, by simp [intOf]⟩
end
section
open Go.RowKit

set_option maxRecDepth 100000 in
set_option maxHeartbeats 3200000 in
theorem twoLong_any (n : Nat) (h2 : 2 ≤ n) (hm : n ≤ 268435456) (hb : n < 200 ∨ n % 2 = 1) : TwoOk n := by
  intro A A2 c c2 us vs U V w B hn hr hr2 hB hU hd2 hV htop hlt hc hc2
  have hVn : V < 18446744073709551616 ^ n := by rw [← hV, ← hn]; exact val_lt _ _ hd2
  have hul : us.length ≤ 2 * n := num_len hU (by
    rw [show 2 * n = n + n from by omega, Nat.pow_add]
    exact Nat.lt_of_lt_of_le hlt (Nat.mul_le_mul_right _ (Nat.le_of_lt hVn)))
  obtain ⟨m, rfl⟩ : ∃ m, n = m + 2 := ⟨n - 2, by omega⟩
  obtain ⟨L, hL⟩ : ∃ L, L = max us.length (m + 2) := ⟨_, rfl⟩
  have hmx : max (us.length : Int) ((m : Int) + 2) = (L : Int) := by omega
  have hLu : us.length ≤ L := by omega
  have hLm : m + 2 ≤ L := by omega
  have hLb : L ≤ 536870912 := by omega
  clear hL
  have hmk : ∀ W : World, (Instr.makeSlice 146 (.int .i64 ((L : Int) + 1)) (.int .i64 ((L : Int) + 1))).run Tryz.prog W = .ok (.slice (some ⟨W.heap.size, 0, none⟩) (L + 1) (L + 1)) (W.alloc (.cells (List.replicate (L + 1) (Value.int .u64 0)).toArray 84)) := fun W => by
    have := mk64 (L + 1) (by omega) W
    rwa [show ((L + 1 : Nat) : Int) = (L : Int) + 1 from by omega] at this
  have hmin : min us.length (L + 1) = us.length := by omega
  rw [hn] at hc2 ⊢
  have hgl : Hid (∀ W z, Blk W z 84 (u64s (us ++ List.replicate (L + 1 - us.length) 0)) → Below w.heap.size w W → w.heap.size ≤ z → Calls Tryz.prog 175 #[.slice (some ⟨z, 0, none⟩) (L + 1) (L + 1), .slice A2 (m + 2) c2] W fun e w' => LongOut z (L + 1) (m + 2) U V W w' e) := fun W z hbk hbe hz => by
    have hl : (us ++ List.replicate (L + 1 - us.length) 0).length = L + 1 := by simp; omega
    have hd : Dig 18446744073709551616 (us ++ List.replicate (L + 1 - us.length) 0) := hU.1.append_ (Dig.zeros_ (by omega) _)
    have hv : val 18446744073709551616 (us ++ List.replicate (L + 1 - us.length) 0) = U := by rw [val_append, val_zeros, Nat.mul_zero, Nat.add_zero, hU.2.2]
    have h := longQuotient_any z m (L + 1) c2 (us ++ List.replicate (L + 1 - us.length) 0) vs A2 W hbk ((hr2.below (hbe.mono hB)).rx (by omega) (Nat.le_trans hB hbe.size)) hd hd2 hn (top_word hn hd2 (by rw [hV]; exact htop)) (by
      rw [val_drop (by omega) _ _ hd, hv, hl, hn, hV, Nat.div_lt_iff_lt_mul (Nat.pow_pos (by omega))]
      have h1 : U < 18446744073709551616 ^ L := Nat.lt_of_lt_of_le hU.lt (Nat.pow_le_pow_right (by omega) (by omega))
      have h3 : 18446744073709551616 ^ L = 18446744073709551616 ^ (m + 1) * 18446744073709551616 ^ (L + 1 - (m + 2)) := by rw [← Nat.pow_add]; congr 1; omega
      rw [h3] at h1
      refine Nat.lt_of_lt_of_le h1 (Nat.mul_le_mul_right _ ?_)
      rw [Nat.pow_succ] at htop
      omega) (by rw [hl]; exact Nat.le_refl _) (by rw [hl]; omega) (by omega)
    rwa [hl, hn, hv, hV] at h
  have hx := hU.1
  rcases hb with hb | hb
  case' inl =>
    have t2 : decide ((m : Int) + 2 < 200) = true := decide_eq_true (by omega)
    go_enter Tryz.func191, Tryz.ntmps191
    go_upto_region 3 with (simp only [t2])
  case' inr =>
    by_cases hb2 : m + 2 < 200
    case' pos =>
      have t2 : decide ((m : Int) + 2 < 200) = true := decide_eq_true (by omega)
    case' neg =>
      have t2 : decide ((m : Int) + 2 < 200) = false := decide_eq_false (by omega)
    all_goals have t3 : ((m : Int) % 2 == 1) = true := by simp only [beq_iff_eq]; omega
    all_goals go_enter Tryz.func191, Tryz.ntmps191
    all_goals go_upto_region 3 with (first | simp only [t2] | simp only [t3])
  all_goals
    go_upto_region 4 with (simp only [hmx])
    go_upto_region 5 with ((with_reducible refine wpList_copy_splice (o := ⟨some 30, _, _, _, _, _⟩) rfl _ _ _ _ rfl 84 Tryz.underlying146 ?u1 _ _ _ _ _ _ rfl rfl w.heap.size 0 (u64s (List.replicate (L + 1) 0)) 84 ?c1 (u64s us) ?c2 ?c3 ?c4 ?c5 w.heap.size w ?c6 (Nat.le_refl _) ?_); rotate_right; intro w2 hg2 hb2)
    case u1 => kernel_rfl
    case c1 => exact Blk.new_ (by simp [u64s])
    case c2 => rw [u64s_length]; first | exact (Nat.min_eq_left (by omega)).symm | exact (Nat.min_eq_right (by omega)).symm
    case c3 =>
      intro hp
      have hne : u64s us ≠ [] := by intro e; rw [e] at hp; simp at hp
      obtain ⟨b, off, rfl, hbB, hcell⟩ := hr hne
      refine ⟨_, rfl, fun j v hv => ?_⟩
      rw [add_none]
      rw [World.cell?_alloc_past _ _ _ (by show b < _; omega)]
      exact hcell j v hv
    case c4 => rw [u64s_length, u64s_length, List.length_replicate]; omega
    case c5 => exact one_u64s us
    case c6 => exact (Below.refl _ _).alloc (Nat.le_refl _) _
    have hg3 : Blk w2 w.heap.size 84 (u64s (us ++ List.replicate (L + 1 - us.length) 0)) := by
      have h9 := hg2.out
      have e := join_low (L + 1) 0 us (by omega)
      rw [Nat.add_zero, List.replicate_zero, List.append_nil] at e
      rwa [u64s_splice, e] at h9
    clear hg2 hmk
    go_upto_region 6 with ((with_reducible refine (hgl.out _ _ hg3 hb2 (Nat.le_refl _)).mono ?_); rintro e w3 ⟨qs, rs, gq, rfl, hql, hqd, hqv, hrl, hrd, hrv, hgq, hbq, hbr, htn⟩; have Hqv := Lib.hid hqv; have Hql := Lib.hid hql; have Hrv := Lib.hid hrv; have Hrl := Lib.hid hrl; clear hqv hql hrv hrl)
    have hmb : rs.length ≤ 536870913 := by rw [Hrl.out]; omega
    have hmq : qs.length ≤ 536870913 := by rw [Hql.out]; omega
    have ht1 := trimWords_any (some ⟨gq, 0, none⟩) qs.length qs w3 w3.heap.size (Rd.of_blk hbq hbq.lt 0 (fun k v hv => by rw [Nat.zero_add]; exact hv)) (Nat.le_refl _) (by omega)
    have ht2 := trimWords_any (some ⟨w.heap.size, 0, none⟩) rs.length rs w3 w3.heap.size (Rd.of_blk hbr hbr.lt 0 (fun k v hv => by rw [Nat.zero_add]; exact hv)) (Nat.le_refl _) (by omega)
    rw [Hrl.out] at ht2
    have Ht1 := Lib.hid ht1
    have Ht2 := Lib.hid ht2
    clear ht1 ht2
    go_wp2_with (first
      | (go_at_call_of 142 (Value.slice (some ⟨gq, 0, none⟩) qs.length qs.length); (with_reducible refine Ht1.out.mono ?_); rintro e wr' ⟨rfl, rfl⟩)
      | (go_at_call 142; (with_reducible refine Ht2.out.mono ?_); rintro e wr' ⟨rfl, rfl⟩))
    go_ret2
    have n1 := Num.of_trim hqd
    have n2 := Num.of_trim hrd
    rw [Hqv.out] at n1
    rw [Hrv.out] at n2
    have r1 := (Rd.of_blk hbq hbq.lt 0 (fun k v hv => by rw [Nat.zero_add]; exact hv) : Rd w3 w3.heap.size (some ⟨gq, 0, none⟩) (u64s qs)).takeN (trimL qs).length
    have r2 := (Rd.of_blk hbr hbr.lt 0 (fun k v hv => by rw [Nat.zero_add]; exact hv) : Rd w3 w3.heap.size (some ⟨w.heap.size, 0, none⟩) (u64s rs)).takeN (trimL rs).length
    rw [trimL_take] at r1 r2
    exact ⟨trimL qs, trimL rs, _, qs.length, _, L + 1, rfl, n1, n2, trimL_length_le qs, by have := trimL_length_le rs; have := Hrl.out; omega, r1, r2, fun g hg => (rx_whole hbr (by omega)).trim_, hb2.trans (htn.below (Nat.le_refl _) hb2.size)⟩

set_option maxRecDepth 100000 in
set_option maxHeartbeats 3200000 in
theorem twoHalf_any (h : Nat) (h2 : 100 ≤ h) (hm : h ≤ 134217728) (hT : TwoOk h) : TwoOk (2 * h) := by
  intro A A2 c c2 us vs U V w B hn hr hr2 hB hU hd2 hV htop hlt hc hc2
  have hVn : V < 18446744073709551616 ^ (2 * h) := by rw [← hV, ← hn]; exact val_lt _ _ hd2
  have hul : us.length ≤ 4 * h := num_len hU (by
    rw [show 4 * h = 2 * h + 2 * h from by omega, Nat.pow_add]
    exact Nat.lt_of_lt_of_le hlt (Nat.mul_le_mul_right _ (Nat.le_of_lt hVn)))
  obtain ⟨b, hb⟩ : ∃ b, b = 18446744073709551616 ^ h := ⟨_, rfl⟩
  have hb0 : 0 < b := by rw [hb]; exact Nat.pow_pos (by omega)
  have hbb : 18446744073709551616 ^ (2 * h) = b * b := by rw [hb, ← Nat.pow_add]; congr 1; omega
  have hV0 : 0 < V := by rw [hbb] at htop; have := Nat.mul_pos hb0 hb0; omega
  obtain ⟨hs, hhs⟩ : ∃ hs, hs = trimL (us.drop h) := ⟨_, rfl⟩
  obtain ⟨ls, hls⟩ : ∃ ls, ls = trimL (us.take h) := ⟨_, rfl⟩
  have nhs : Num 18446744073709551616 hs (U / b) := by rw [hb, hhs]; exact num_drop hU h
  have nls : Num 18446744073709551616 ls (U % b) := by rw [hb, hls]; exact num_take hU h
  have hl1 : U / b < V * b := by rw [Nat.div_lt_iff_lt_mul hb0, Nat.mul_assoc, ← hbb]; exact hlt
  have lls : ls.length ≤ h := num_len nls (by rw [← hb]; exact Nat.mod_lt _ hb0)
  have Hc1 : Hid (∀ W, Below w.heap.size w W → Calls Tryz.prog 193 #[.slice A us.length c, .int .i64 (h : Int), .int .i64 (2 * (2 * (h : Int)))] W fun e w' => ∃ A' c', e = .returned (.slice A' hs.length c') ∧ Rd W B A' (u64s hs) ∧ hs.length ≤ c' ∧ W = w') := fun W hW => by
    have := cut_any A c h (2 * (2 * h)) us W B (hr.below (hW.mono hB)) hc (by omega)
    rw [List.take_of_length_le (by omega), ← hhs] at this
    exact this
  have Hc2 : Hid (∀ W, Below w.heap.size w W → Calls Tryz.prog 193 #[.slice A us.length c, .int .i64 0, .int .i64 (h : Int)] W fun e w' => ∃ A' c', e = .returned (.slice A' ls.length c') ∧ Rd W B A' (u64s ls) ∧ ls.length ≤ c' ∧ W = w') := fun W hW => by
    have := cut_low A c h us W B (hr.below (hW.mono hB)) hc (by omega)
    rwa [← hls] at this
  have Hthree : Hid (∀ W A' c' xs X, Rd W W.heap.size A' (u64s xs) → Below w.heap.size w W → Num 18446744073709551616 xs X → X < V * b → xs.length ≤ c' → Calls Tryz.prog 197 #[.slice A' xs.length c', .slice A2 (2 * h) c2] W fun e w' => HalfOut W w' X V e) := fun W A' c' xs X q1 q2 q3 q4 q5 => by
    have := threeByTwo_any h hT A' A2 c' c2 xs vs X V W W.heap.size hn (by omega) hm q1 ((hr2.below (q2.mono hB)).mono (Nat.le_trans hB q2.size)) (Nat.le_refl _) q3 hd2 hV htop (by rw [← hb]; exact q4) q5 hc2
    rwa [hn] at this
  rw [hn] at hc2 ⊢
  have Hb := Lib.hid hb
  clear hhs hls hb hbb
  have t2 : decide (2 * (h : Int) < 200) = false := decide_eq_false (by omega)
  have t3 : (2 * (h : Int) % 2 == 1) = false := by simp
  have e1 : 2 * (h : Int) / 2 = (h : Int) := by omega
  go_enter Tryz.func191, Tryz.ntmps191
  go_upto_region 8 with (first | simp only [t2] | simp only [t3] | simp only [e1])
  go_upto_region 9 with (first
    | (simp only [])
    | (go_at_call 193; (with_reducible refine (Hc1.out _ (Below.refl _ _)).mono ?_); rintro e w1 ⟨Ah, ch, rfl, hrh, hch, rfl⟩)
    | (go_at_call 197; (with_reducible refine (Hthree.out _ _ _ _ _ (hrh.mono hB) (Below.refl _ _) nhs hl1 hch).mono ?_); rintro e w2 ⟨qs, rs, Q, cq, R, cr, rfl, nqs, nrs, hcq, hcr, hq2, hr3, _, hb2⟩))
  obtain ⟨q1, hq1⟩ : ∃ q, q = U / b / V := ⟨_, rfl⟩
  obtain ⟨r1, hr1⟩ : ∃ r, r = U / b % V := ⟨_, rfl⟩
  rw [← hq1] at nqs
  rw [← hr1] at nrs
  have lqs : qs.length ≤ h := num_len nqs (by rw [hq1, ← Hb.out]; exact (Nat.div_lt_iff_lt_mul hV0).2 (by rw [Nat.mul_comm]; exact hl1))
  have hr1V : r1 < V := by rw [hr1]; exact Nat.mod_lt _ hV0
  have lrs : rs.length ≤ 2 * h := num_len nrs (by omega)
  have hulb : U % b < b := Nat.mod_lt _ hb0
  have hl2 : r1 * b + U % b < V * b := by
    have := Nat.mul_le_mul_right b hr1V
    rw [Nat.succ_mul] at this
    omega
  have Hq1 := Lib.hid hq1
  have Hr1 := Lib.hid hr1
  clear hq1 hr1
  obtain ⟨N0, hN0⟩ : ∃ N0, N0 = h + rs.length := ⟨_, rfl⟩
  have Hj1 : Hid (∀ W A' c', Rd W B A' (u64s ls) → Rd W W.heap.size R (u64s rs) → B ≤ W.heap.size → Calls Tryz.prog 192 #[.slice A' ls.length c', .slice R rs.length cr, .int .i64 (h : Int)] W fun e w' => JoinOut W w' N0 (r1 * b + U % b) e) := fun W A' c' z1 z2 z3 => by
    have := joined_any A' R c' cr h ls rs W W.heap.size (z1.mono z3) z2 (Nat.le_refl _) nls.1 nrs.1 lls (by omega) (by omega)
    rw [nls.2.2, nrs.2.2, ← Hb.out, ← hN0] at this
    rw [Nat.add_comm, Nat.mul_comm]
    exact this
  clear Hc1 hch hrh hN0
  go_upto_region 10 with (first
    | (simp only [])
    | (go_at_call 193; (with_reducible refine (Hc2.out _ hb2).mono ?_); rintro e w3 ⟨Al, cl, rfl, hrl, hcl, rfl⟩)
    | (go_at_call 192; (with_reducible refine (Hj1.out _ _ _ hrl hr3 (Nat.le_trans hB hb2.size)).mono ?_); rintro e w4 ⟨ys, g, rfl, hyl, hyd, hyv, hg, hbk, hb4⟩; have hbt4 : Below w.heap.size w w4 := hb2.trans (hb4.mono hb2.size); have nys : Num 18446744073709551616 (trimL ys) (r1 * b + U % b) := (by have n9 := Num.of_trim hyd; rwa [hyv] at n9); have hry := ((Rd.of_blk hbk hbk.lt 0 (fun k v hv => by rw [Nat.zero_add]; exact hv) : Rd w4 w4.heap.size (some ⟨g, 0, none⟩) (u64s ys)).takeN (trimL ys).length); rw [trimL_take] at hry; clear hyv hyl)
    | (go_at_call 197; (with_reducible refine (Hthree.out _ _ _ _ _ hry hbt4 nys hl2 (trimL_length_le ys)).mono ?_); rintro e w5 ⟨qs2, rs2, Q2, cq2, R2, cr2, rfl, nqs2, nrs2, hcq2, hcr2, hq5, hr5, hx5, hb5⟩))
  have lqs2 : qs2.length ≤ h := num_len nqs2 (by rw [← Hb.out]; exact (Nat.div_lt_iff_lt_mul hV0).2 (by rw [Nat.mul_comm b V]; exact hl2))
  have hb35 := hb4.trans (hb5.mono hb4.size)
  have hqa := (hq2.below hb35).mono hb35.size
  have hbt5 : Below w.heap.size w w5 := hbt4.trans (hb5.mono hbt4.size)
  have hj2 := joined_any Q2 Q cq2 cq h qs2 qs w5 w5.heap.size hq5 hqa (Nat.le_refl _) nqs2.1 nqs.1 lqs2 (by omega) (by omega)
  rw [nqs2.2.2, nqs.2.2, ← Hb.out] at hj2
  have Hj2 := Lib.hid hj2
  have hfin : (r1 * b + U % b) / V + b * q1 = U / V ∧ (r1 * b + U % b) % V = U % V := by
    have e3 : (r1 * b + U % b) % V + ((r1 * b + U % b) / V + b * q1) * V = U := by
      have a1 := Nat.div_add_mod (r1 * b + U % b) V
      have a2 := Nat.div_add_mod (U / b) V
      have a3 := Nat.div_add_mod U b
      rw [← Hq1.out, ← Hr1.out] at a2
      have a4 : b * (V * q1 + r1) = b * (U / b) := by rw [a2]
      rw [Nat.mul_add] at a4
      rw [Nat.add_mul, Nat.mul_comm _ V, Nat.mul_comm r1 b] at *
      have a5 : b * q1 * V = b * (V * q1) := by rw [Nat.mul_assoc, Nat.mul_comm q1]
      omega
    have e4 : U < ((r1 * b + U % b) / V + b * q1 + 1) * V := by
      have := Nat.mod_lt (r1 * b + U % b) hV0
      rw [Nat.add_mul _ 1, Nat.one_mul]
      omega
    obtain ⟨f1, f2⟩ := bz_done e3 e4
    exact ⟨f1, f2⟩
  have Hfin := Lib.hid hfin
  clear hj2 hfin
  go_wp2_with ((with_reducible refine (Hj2.out).mono ?_); rintro e w6 ⟨zs, gz, rfl, hzl, hzd, hzv, hgz, hbz, hb6⟩; have Hzv := Lib.hid hzv; have Hzl := Lib.hid hzl; clear hzv hzl)
  go_ret2
  have n1 := Num.of_trim hzd
  rw [Hzv.out, Hfin.out.1] at n1
  have n2 := nrs2
  rw [Hfin.out.2] at n2
  have r9 := ((Rd.of_blk hbz hbz.lt 0 (fun k v hv => by rw [Nat.zero_add]; exact hv) : Rd w6 w6.heap.size (some ⟨gz, 0, none⟩) (u64s zs)).takeN (trimL zs).length)
  rw [trimL_take] at r9
  exact ⟨trimL zs, rs2, _, zs.length, _, cr2, rfl, n1, n2, trimL_length_le zs, hcr2, r9, (hr5.below hb6).mono hb6.size, fun g hg => Rx.keep (hx5 g (Nat.lt_of_lt_of_le hg hbt4.size)) hb6 (Nat.le_refl _), hbt5.trans (hb6.mono hbt5.size)⟩

theorem two_any : ∀ n : Nat, 2 ≤ n → n ≤ 268435456 → TwoOk n := fun n => by
  induction n using Nat.strongRecOn with
  | _ n ih =>
    intro h2 hm
    by_cases hb : n < 200 ∨ n % 2 = 1
    · exact twoLong_any n h2 hm hb
    · have h := twoHalf_any (n / 2) (by omega) (by omega) (ih (n / 2) (by omega) (by omega) (by omega))
      rwa [show 2 * (n / 2) = n from by omega] at h
end
section
open Go.RowKit

theorem half_cover {s P n : Nat} (h : n ≤ s * P) (h2 : (s - 1) * P < n) (hs : 1 ≤ s) : n ≤ (s + 1) / 2 * (2 * P) ∧ ((s + 1) / 2 - 1) * (2 * P) < n := by
  constructor
  · have h3 : s * P ≤ (2 * ((s + 1) / 2)) * P := Nat.mul_le_mul_right _ (by omega)
    rw [← Nat.mul_assoc, Nat.mul_comm _ 2]
    omega
  · have h3 : (2 * ((s + 1) / 2 - 1)) * P ≤ (s - 1) * P := Nat.mul_le_mul_right _ (by omega)
    rw [← Nat.mul_assoc, Nat.mul_comm _ 2]
    omega
theorem cover_le {s P n : Nat} (h2 : (s - 1) * P < n) (hs : 2 ≤ s) : s * P < 2 * n := by
  have h3 : s * P ≤ (2 * (s - 1)) * P := Nat.mul_le_mul_right _ (by omega)
  rw [Nat.mul_assoc] at h3
  omega
theorem pow_small {k n : Nat} (h : 2 ^ k < n) (hn : n ≤ 134217728) : k < 27 := by
  rcases Nat.lt_or_ge k 27 with h9 | h9
  · exact h9
  · exfalso
    have := Nat.pow_le_pow_right (show 0 < 2 by omega) h9
    have e : (2 : Nat) ^ 27 = 134217728 := rfl
    omega

/-- The state between two blocks. -/
structure Blocks (U2 V2 sz bl K : Nat) (qs : List Nat) (r : Nat) : Prop where
  len : qs.length = bl * sz
  le : K ≤ bl
  noughts : qs.take (K * sz) = List.replicate (K * sz) 0
  dig : Dig 18446744073709551616 qs
  eq : val 18446744073709551616 qs * V2 + 18446744073709551616 ^ (K * sz) * r + U2 % 18446744073709551616 ^ (K * sz) = U2
  lt : r < V2

theorem Blocks.start {U2 V2 sz bl : Nat} (hV : 0 < V2) (hU : U2 < 18446744073709551616 ^ (bl * sz)) : Blocks U2 V2 sz bl bl (List.replicate (bl * sz) 0) 0 where
  len := List.length_replicate
  le := Nat.le_refl _
  noughts := by rw [List.take_replicate, Nat.min_self]
  dig := Dig.zeros_ (by omega) _
  eq := by rw [val_zeros, Nat.zero_mul, Nat.mul_zero, Nat.zero_add, Nat.mod_eq_of_lt hU]
  lt := hV
theorem Blocks.end_ {U2 V2 sz bl r : Nat} {qs : List Nat} (h : Blocks U2 V2 sz bl 0 qs r) : val 18446744073709551616 qs = U2 / V2 ∧ r = U2 % V2 := by
  have h1 := h.eq
  rw [Nat.zero_mul, Nat.pow_zero, Nat.one_mul, Nat.mod_one, Nat.add_zero] at h1
  refine bz_done (V := V2) (by omega) ?_
  have := h.lt
  rw [Nat.add_mul, Nat.one_mul]
  omega
theorem Blocks.next {U2 V2 sz bl k r X : Nat} {qs D : List Nat} (h : Blocks U2 V2 sz bl (k + 1) qs r) (hX : X = U2 / 18446744073709551616 ^ (k * sz) % 18446744073709551616 ^ sz + 18446744073709551616 ^ sz * r) (hD : Dig 18446744073709551616 D) (hv : val 18446744073709551616 D = X / V2) (hl : D.length ≤ sz) :
    Blocks U2 V2 sz bl k (patch qs (k * sz) D) (X % V2) := by
  have e1 : (k + 1) * sz = k * sz + sz := Nat.succ_mul k sz
  have hle : k * sz + sz ≤ qs.length := by rw [h.len, ← e1]; exact Nat.mul_le_mul_right _ h.le
  obtain ⟨a, ha⟩ : ∃ a, a = k * sz := ⟨_, rfl⟩
  have hn := h.noughts
  have he := h.eq
  rw [e1, ← ha] at hn he
  rw [← ha] at hX hle
  have hseg : (qs.drop a).take D.length = List.replicate D.length 0 := by
    have h2 : ((qs.take (a + sz)).drop a).take D.length = (qs.drop a).take D.length := by
      rw [List.drop_take, List.take_take, Nat.min_eq_left (by omega)]
    rw [← h2, hn, List.drop_replicate, List.take_replicate, Nat.min_eq_left (by omega)]
  have hp := patch_val 18446744073709551616 (L := qs) (o := a) (zs := D) (by omega)
  rw [hseg, val_zeros, Nat.mul_zero, Nat.add_zero, hv] at hp
  have hV : 0 < V2 := by have := h.lt; omega
  refine { len := by rw [patch_length (by rw [← ha]; omega), h.len], le := by have := h.le; omega, noughts := ?_, dig := patch_dig h.dig hD, eq := ?_, lt := Nat.mod_lt _ hV }
  · rw [← ha]
    have h3 : qs.take a = List.replicate a 0 := by
      have h4 : (qs.take (a + sz)).take a = qs.take a := by rw [List.take_take, Nat.min_eq_left (by omega)]
      rw [← h4, hn, List.take_replicate, Nat.min_eq_left (by omega)]
    unfold patch
    rw [List.append_assoc, List.take_append_of_le_length (by rw [List.length_take]; omega), List.take_take, Nat.min_self, h3]
  · rw [← ha, hp]
    rw [Nat.pow_add, Nat.mod_mul] at he
    have h5 := Nat.div_add_mod X V2
    generalize 18446744073709551616 ^ a = W1 at *
    generalize 18446744073709551616 ^ sz = W2 at *
    generalize val 18446744073709551616 qs = Q at *
    generalize X / V2 = d at *
    generalize X % V2 = m at *
    generalize U2 / W1 % W2 = t at *
    generalize U2 % W1 = u at *
    have h6 : W1 * (V2 * d + m) = W1 * (t + W2 * r) := by rw [h5, hX]
    grind
theorem blocks_X_lt {U2 V2 r W1 W2 : Nat} (hr : r < V2) (hW : 0 < W2) : U2 / W1 % W2 + W2 * r < V2 * W2 := by
  have h1 := Nat.mod_lt (U2 / W1) hW
  have h2 := Nat.mul_le_mul_left W2 hr
  rw [Nat.mul_succ, Nat.mul_comm W2 V2] at h2
  omega

/-- A copy into a row of one's own: the other blocks stay. -/
theorem wpList_copy_tn {P : Program} {w : World} {ops : Array Oper} {rest : List Oper} {o : Oper} {a : Act} {Q : Exit → Act → World → Prop} (hgd : o.guard = none) (d s : Operand) (dT sT : TypeId)
    (ho : o.op = .call { callee := .builtin .copy, args := #[d, s], argTypes := #[dT, sT] }) (elem : TypeId) (hu : P.underlying dT = some (.slice elem)) (hsz : (P.info? elem).map (·.size) = some 1)
    (dp sp : Option Addr) (dLen dCap sLen sCap : Nat) (hd : a.eval d = .slice dp dLen dCap) (hs : a.eval s = .slice sp sLen sCap)
    (g off : Nat) (cur : List Value) (t : TypeId) (hg : Blk w g t cur) (cs : List Value) (hn : cs.length = Nat.min sLen dLen)
    (hpos : 0 < cs.length → dp = some ⟨g, off, none⟩ ∧ ∃ ad, sp = some ad ∧ ∀ j v, cs[j]? = some v → w.cell? (ad.add j) = some v)
    (hfit : off + cs.length ≤ cur.length) (h1 : ∀ v ∈ cs, v.oneCell' = true)
    (h : ∀ w', Hid (Blk w' g t (splice cur off cs)) → Tn g w w' → wpList P ops Q rest (a.put o.dst (goInt cs.length)) w') :
    wpList P ops Q (o :: rest) a w := by
  by_cases h0 : cs.length = 0
  · obtain rfl : cs = [] := List.eq_nil_of_length_eq_zero h0
    refine wpList_copy_nothing hgd d s dT sT ho elem hu hsz dp sp dLen dCap sLen sCap hd hs (by simpa using hn.symm) ?_
    exact h w (show Blk _ _ _ _ by simpa [splice] using hg) (Tn.refl _ _)
  · obtain ⟨rfl, ad, rfl, hsrc⟩ := hpos (by omega)
    refine wpList_copy_own hgd d s dT sT ho elem hu hsz g off dLen dCap ad sLen sCap hd hs cur.toArray t hg cs hn hsrc (by simpa using hfit) h1 ?_
    exact h _ (show Blk _ _ _ _ by simpa [splice, Blk] using setRow_heap w g _ _ t _ hg) ⟨rfl, rfl, rfl, by simp [World.setRow], fun k _ hk => setRow_other w g k _ hk⟩

/-- What a division in blocks answers. -/
def BlockOut (w w' : World) (n : Nat) (U V : Nat) (e : Ending) : Prop :=
  ∃ qs rs g R cr, e = .returned (.tuple #[.slice (some ⟨g, 0, none⟩) qs.length qs.length, .slice R rs.length cr]) ∧ Dig 18446744073709551616 qs ∧ val 18446744073709551616 qs = U / V ∧ Num 18446744073709551616 rs (U % V) ∧ rs.length ≤ cr ∧ qs.length ≤ n ∧
    w.heap.size ≤ g ∧ Blk w' g 84 (u64s qs) ∧ Rd w' w'.heap.size R (u64s rs) ∧ Below w.heap.size w w'
end
section
open Go.RowKit

set_option maxRecDepth 100000 in
set_option maxHeartbeats 3200000 in
theorem blockQuotient_any (A A2 : Option Addr) (c c2 : Nat) (us vs : List Nat) (U V : Nat) (w : World) (B : Nat) (hn1 : 200 ≤ vs.length) (hn2 : vs.length ≤ 134217728) (hr : Rd w B A (u64s us)) (hr2 : Rd w B A2 (u64s vs)) (hB : B ≤ w.heap.size) (hd : Dig 18446744073709551616 us) (hU : val 18446744073709551616 us = U) (hd2 : Dig 18446744073709551616 vs) (hV : val 18446744073709551616 vs = V) (htop : 18446744073709551616 ^ vs.length ≤ 2 * V) (hune : us ≠ []) (hm : us.length ≤ 35183800000000) :
    Calls Tryz.prog 176 #[.slice A us.length c, .slice A2 vs.length c2] w fun e w' => BlockOut w w' (us.length + 402653184) U V e := by
  have hvne : vs ≠ [] := by intro e; rw [e] at hn1; simp at hn1
  go_enter Tryz.func176, Tryz.ntmps176
  go_upto_region 3 with fail
  go_loopg [6, 7] vs.length (fun K sv hv wr => ∃ (s k P : Nat), sv = .int .i64 (s : Int) ∧ hv = .int .i64 (k : Int) ∧ s ≤ K ∧ Hid (P = 2 ^ k) ∧ Hid (vs.length ≤ s * P) ∧ Hid ((s - 1) * P < vs.length) ∧ 100 ≤ s ∧ s ≤ 134217728 ∧ wr = w)
  case atStart => exact ⟨vs.length, 0, 1, rfl, rfl, Nat.le_refl _, rfl, by show _ ≤ _; omega, by show _ < _; omega, by omega, hn2, rfl⟩
  case round =>
    obtain ⟨s, k, P, rfl, rfl, hsK, HP, Hle, Hlt, hs1, hsm, rfl⟩ := hrel
    have hk27 : k < 27 := pow_small (n := vs.length) (by
      rw [← HP.out]
      have h1 := Hlt.out
      have h3 : 1 * P ≤ (s - 1) * P := Nat.mul_le_mul_right _ (by omega)
      omega) hn2
    by_cases h200 : 200 ≤ s
    · have t1 : decide (200 ≤ (s : Int)) = true := decide_eq_true (by omega)
      have e1 : ((s : Int) + 1) / 2 = (((s + 1) / 2 : Nat) : Int) := by omega
      obtain ⟨s2, hs2⟩ : ∃ s2, s2 = (s + 1) / 2 := ⟨_, rfl⟩
      rw [← hs2] at e1
      have hs3 : s2 < s := by omega
      have hs4 : 100 ≤ s2 := by omega
      have Hs2 := Lib.hid hs2
      clear hs2
      go_wp2_with (first | simp only [t1] | simp only [e1])
      go_roundg s2
      case measure => omega
      case rel =>
        obtain ⟨c1, c2⟩ := half_cover Hle.out Hlt.out (by omega)
        rw [← Hs2.out] at c1 c2
        exact ⟨s2, k + 1, 2 * P, rfl, by go_num, Nat.le_refl _, by show 2 * P = _; rw [Nat.pow_succ, ← HP.out]; omega, c1, c2, hs4, by omega, rfl⟩
    · have t1 : decide (200 ≤ (s : Int)) = false := decide_eq_false (by omega)
      obtain ⟨sz, hsz⟩ : ∃ sz, sz = s * P := ⟨_, rfl⟩
      have hszn : vs.length ≤ sz := by rw [hsz]; exact Hle.out
      have hszl : sz < 2 * vs.length := by rw [hsz]; exact cover_le Hlt.out (by omega)
      have e2 : Hid (wrap64 ((s : Int) * 2 ^ min k 64) = (sz : Int)) := by
        show wrap64 ((s : Int) * 2 ^ min k 64) = (sz : Int)
        have h1 : (s : Int) * 2 ^ k = (sz : Int) := by rw [hsz, HP.out, Int.natCast_mul, Int.natCast_pow]; rfl
        rw [Nat.min_eq_left (by omega), h1]
        exact IntWalk.wrap64_in _ (by omega)
      clear hsz HP Hle Hlt hs1 hsm hk27
      obtain ⟨pad, hpad⟩ : ∃ pad, vs.length + pad = sz := ⟨sz - vs.length, by omega⟩
      have e3 : (sz : Int) - (vs.length : Int) = (pad : Int) := by omega
      have hpadb : pad < 134217728 := by omega
      have HRv := Lib.hid (raise_any A2 c2 pad vs wr B hr2 hB hd2 (by omega) hvne)
      have HRu : Hid (∀ W, Below wr.heap.size wr W → Calls Tryz.prog 190 #[.slice A us.length c, .int .i64 (pad : Int)] W fun e w' => Words W w' (pad + us.length) (18446744073709551616 ^ pad * U) e) := fun W hW => by
        have := raise_any A c pad us W B (hr.below (hW.mono hB)) (Nat.le_trans hB hW.size) hd (by omega) hune
        rwa [hU] at this
      rw [hV] at HRv
      have Hpad := Lib.hid hpad
      clear hpad
      go_upto_region 9 with (first
        | simp only []
        | simp only [e2.out]
        | simp only [e3]
        | (go_at_call_of 190 (Value.slice A2 vs.length c2); (with_reducible refine HRv.out.mono ?_); rintro e w1 ⟨v2, gv, rfl, hvl, hvd, hvv, hgv, hbv, hb1⟩; have Hvl : Hid (v2.length = sz) := (by show _ = _; have := Hpad.out; omega); have Hvv := Lib.hid hvv; clear hvl hvv)
        | (go_at_call 190; (with_reducible refine (HRu.out _ hb1).mono ?_); rintro e w2 ⟨z2, gu, rfl, hzl, hzd, hzv, hgu, hbu, hb2⟩; have Hzl := Lib.hid hzl; have Hzv := Lib.hid hzv; clear hzl hzv)
        | (go_at_call 142; (with_reducible refine (trimWords_any (some ⟨gu, 0, none⟩) z2.length z2 w2 w2.heap.size (Rd.of_blk hbu hbu.lt 0 (fun k v hv => by rw [Nat.zero_add]; exact hv)) (Nat.le_refl _) (by have := Hzl.out; omega)).mono ?_); rintro e w3 ⟨rfl, rfl⟩))
      obtain ⟨V2, hV2⟩ : ∃ V2, V2 = 18446744073709551616 ^ pad * V := ⟨_, rfl⟩
      obtain ⟨U2, hU2⟩ : ∃ U2, U2 = 18446744073709551616 ^ pad * U := ⟨_, rfl⟩
      obtain ⟨u2, hu2⟩ : ∃ u2, u2 = trimL z2 := ⟨_, rfl⟩
      have nu2 : Num 18446744073709551616 u2 U2 := by rw [hu2, hU2, ← Hzv.out]; exact Num.of_trim hzd
      have hru : Rd w2 w2.heap.size (some ⟨gu, 0, none⟩) (u64s u2) := by
        have := (Rd.of_blk hbu hbu.lt 0 (fun k v hv => by rw [Nat.zero_add]; exact hv) : Rd w2 w2.heap.size (some ⟨gu, 0, none⟩) (u64s z2)).takeN (trimL z2).length
        rwa [trimL_take, ← hu2] at this
      have hrv : Rd w2 w2.heap.size (some ⟨gv, 0, none⟩) (u64s v2) := ((Rd.of_blk hbv hbv.lt 0 (fun k v hv => by rw [Nat.zero_add]; exact hv) : Rd w1 w1.heap.size (some ⟨gv, 0, none⟩) (u64s v2)).below hb2).mono hb2.size
      have hlu : u2.length ≤ z2.length := by rw [hu2]; exact trimL_length_le z2
      have hlu2 : u2.length ≤ us.length + pad := by have := Hzl.out; omega
      have hvv2 : Hid (val 18446744073709551616 v2 = V2) := by show _ = _; rw [hV2]; exact Hvv.out
      have htop2 : Hid (18446744073709551616 ^ sz ≤ 2 * V2) := by
        show _ ≤ _
        rw [← Hpad.out, hV2, Nat.add_comm, Nat.pow_add, Nat.mul_left_comm]
        exact Nat.mul_le_mul_left _ htop
      have HV2 := Lib.hid hV2
      have HU2 := Lib.hid hU2
      rw [← hu2]
      obtain ⟨Lz, hLz⟩ : ∃ Lz, Lz = z2.length := ⟨_, rfl⟩
      rw [← hLz] at hlu ⊢
      have hsz0 : 0 < sz := by omega
      obtain ⟨bl, hbl⟩ : ∃ bl, bl = (u2.length + sz - 1) / sz := ⟨_, rfl⟩
      obtain ⟨N, hN⟩ : ∃ N, N = bl * sz := ⟨_, rfl⟩
      have hN1 : N < u2.length + sz := by
        have := Nat.div_mul_le_self (u2.length + sz - 1) sz
        rw [← hbl, ← hN] at this
        omega
      have hN2 : u2.length ≤ N := by
        have := Nat.lt_mul_div_succ (u2.length + sz - 1) hsz0
        rw [← hbl, Nat.mul_add, Nat.mul_one, Nat.mul_comm, ← hN] at this
        omega
      have e4 : ((u2.length : Int) + (sz : Int) - 1) / (sz : Int) = (bl : Int) := by
        rw [show (u2.length : Int) + (sz : Int) - 1 = ((u2.length + sz - 1 : Nat) : Int) from by omega, hbl]; rfl
      have E5 : Hid (wrap64 ((bl : Int) * (sz : Int)) = (N : Int)) := by
        show wrap64 ((bl : Int) * (sz : Int)) = (N : Int)
        rw [show (bl : Int) * (sz : Int) = (N : Int) from by rw [hN]; simp]
        exact IntWalk.wrap64_in _ (by omega)
      have e6 : ¬ ((sz : Int) = 0) := by omega
      have e7 : ((sz : Int) == 0) = false := by simp; omega
      have hbN : bl ≤ N := by rw [hN]; exact Nat.le_mul_of_pos_right _ hsz0
      have hmk := fun W => mk64 N (by omega) W
      have HN := Lib.hid hN
      have E4 := Lib.hid e4
      have hw2 : Below wr.heap.size wr w2 := hb1.trans (hb2.mono hb1.size)
      clear hV2 hU2 hu2 hLz hbl hN e4 HRv HRu e2 e3 hbu hbv hb1 hb2 hgv hgu Hzl Hzv hzd Hvv
      go_wp2_with (first | simp only [E4.out] | simp only [E5.out])
      have hV2W : V2 < 18446744073709551616 ^ sz := by rw [← hvv2.out, ← Hvl.out]; exact val_lt _ _ hvd
      have hV20 : 0 < V2 := by have h1 := htop2.out; have h3 := Nat.pow_pos (n := sz) (show 0 < 18446744073709551616 by omega); omega
      have hU2W : U2 < 18446744073709551616 ^ (bl * sz) := by
        rw [← HN.out]
        exact Nat.lt_of_lt_of_le nu2.lt (Nat.pow_le_pow_right (by omega) hN2)
      go_loopg [11, 12] bl (fun K rv kv wl => ∃ (rs qs : List Nat) (R : Option Addr) (cr r : Nat), rv = .slice R rs.length cr ∧ kv = .int .i64 ((K : Int) - 1) ∧ Num 18446744073709551616 rs r ∧ rs.length ≤ cr ∧ Rx wl w2.heap.size R (u64s rs) ∧ Hid (Blocks U2 V2 sz bl K qs r) ∧ Blk wl w2.heap.size 84 (u64s qs) ∧ Below w2.heap.size w2 wl)
      case atStart => exact ⟨[], List.replicate N 0, none, 0, 0, rfl, rfl, ⟨Dig.nil_ _, rfl, rfl⟩, Nat.le_refl _, fun h => absurd rfl h, by rw [HN.out]; exact Blocks.start hV20 hU2W, Blk.new_ (by simp [u64s]), (Below.refl _ _).alloc (Nat.le_refl _) _⟩
      case round =>
        obtain ⟨rs, qs, R, cr, r, rfl, rfl, nrs, hcr, hrx, HB, hbq, hbel⟩ := hrel
        have hrl : rs.length ≤ sz := num_len nrs (Nat.lt_trans HB.out.lt hV2W)
        by_cases h0 : gk = 0
        · subst h0
          have hcut := cut_rest R cr pad rs _ _ hrx.rd hcr (by omega)
          have Hcut := Lib.hid hcut
          clear hcut hmk E4 E5
          go_wp2_with (go_at_call 193; (with_reducible refine Hcut.out.mono ?_); rintro e w4 ⟨A9, c9, rfl, hr9, hc9, rfl⟩)
          go_ret2
          obtain ⟨f1, f2⟩ := HB.out.end_
          have hpW := Nat.pow_pos (n := pad) (show 0 < 18446744073709551616 by omega)
          rw [HU2.out, HV2.out, Nat.mul_div_mul_left _ _ hpW] at f1
          rw [HU2.out, HV2.out, Nat.mul_mod_mul_left] at f2
          have n9 := num_drop nrs pad
          rw [f2, Nat.mul_div_cancel_left _ hpW] at n9
          have hql : qs.length = N := by rw [HB.out.len, HN.out]
          exact ⟨qs, trimL (rs.drop pad), w2.heap.size, A9, c9, by rw [hql]; rfl, HB.out.dig, f1, n9, hc9, by omega, hw2.size, hbq, hr9, hw2.trans (hbel.mono hw2.size)⟩
        · obtain ⟨k, rfl⟩ : ∃ k, gk = k + 1 := ⟨gk - 1, by omega⟩
          have hk1 : ((k + 1 : Nat) : Int) - 1 = (k : Int) := by omega
          rw [hk1]
          obtain ⟨a, ha⟩ : ∃ a, a = k * sz := ⟨_, rfl⟩
          have hle := HB.out.le
          have haN : a + sz ≤ N := by rw [ha, HN.out, ← Nat.succ_mul]; exact Nat.mul_le_mul_right _ hle
          have hau : a < u2.length := by omega
          obtain ⟨bs, hbs⟩ : ∃ bs, bs = (u2.drop a).take sz := ⟨_, rfl⟩
          have hbd : Dig 18446744073709551616 bs := by rw [hbs]; exact (nu2.1.drop_ _).take_ _
          have hbv : val 18446744073709551616 bs = U2 / 18446744073709551616 ^ a % 18446744073709551616 ^ sz := by
            rw [hbs, val_take_mod (by omega) _ _ (nu2.1.drop_ _), val_drop (by omega) _ _ nu2.1, nu2.2.2]
          have hbl : bs.length = min sz (u2.length - a) := by rw [hbs, List.length_take, List.length_drop]
          have hrb : Rd w2 w2.heap.size (some ⟨gu, a, none⟩) (u64s bs) := by
            have h9 : Rd w2 w2.heap.size (some ⟨gu, 0 + a, none⟩) (u64s ((u2.drop a).take sz)) := (hru.drop_ a).takeN sz
            rwa [Nat.zero_add, ← hbs] at h9
          obtain ⟨T, hT⟩ : ∃ T, T = min (a + sz) u2.length := ⟨_, rfl⟩
          have E8 : Hid (wrap64 ((k : Int) * (sz : Int)) = (a : Int)) := by
            show wrap64 ((k : Int) * (sz : Int)) = (a : Int)
            rw [show (k : Int) * (sz : Int) = (a : Int) from by rw [ha]; simp]
            exact IntWalk.wrap64_in _ (by omega)
          have E9 : Hid (wrap64 (((k : Int) + 1) * (sz : Int)) = ((a + sz : Nat) : Int)) := by
            show wrap64 (((k : Int) + 1) * (sz : Int)) = ((a + sz : Nat) : Int)
            rw [show ((k : Int) + 1) * (sz : Int) = ((a + sz : Nat) : Int) from by rw [ha, Int.add_mul, Int.one_mul]; simp]
            exact IntWalk.wrap64_in _ (by omega)
          have e10 : min ((a + sz : Nat) : Int) (u2.length : Int) = (T : Int) := by omega
          have e10b : min ((a : Int) + (sz : Int)) (u2.length : Int) = (T : Int) := by omega
          have f1 : a ≤ T := by omega
          have f2 : T ≤ Lz := by omega
          have f3 : T - a = bs.length := by omega
          have f4 : ¬ (Lz = a) := by omega
          have f5 : ¬ (N = a) := by omega
          have f6 : a ≤ N := by omega
          have hbs0 : bs.length ≤ sz := by omega
          have hbs1 : bs.length ≤ Lz - a := by omega
          obtain ⟨X, hX⟩ : ∃ X, X = U2 / 18446744073709551616 ^ a % 18446744073709551616 ^ sz + 18446744073709551616 ^ sz * r := ⟨_, rfl⟩
          have hXlt : X < V2 * 18446744073709551616 ^ sz := by rw [hX]; exact blocks_X_lt HB.out.lt (Nat.pow_pos (by omega))
          have Hj : Hid (∀ W, Below wr.heap.size wr W → Calls Tryz.prog 192 #[.slice (some ⟨gu, a, none⟩) bs.length (Lz - a), .slice R rs.length cr, .int .i64 (sz : Int)] W fun e w' => JoinOut W w' (sz + rs.length) X e) := fun W hW => by
            have hW2 : Below w2.heap.size w2 W := hbel.trans (hW.mono hbel.size)
            have := joined_any (some ⟨gu, a, none⟩) R (Lz - a) cr sz bs rs W W.heap.size ((hrb.below hW2).mono hW2.size) ((hrx.rd.below hW).mono hW.size) (Nat.le_refl _) hbd nrs.1 hbs0 hsz0 (by omega)
            rwa [hbv, nrs.2.2, ← hX] at this
          have Htwo : Hid (∀ W A' c' xs, Rd W W.heap.size A' (u64s xs) → Below w2.heap.size w2 W → Num 18446744073709551616 xs X → xs.length ≤ c' → Calls Tryz.prog 191 #[.slice A' xs.length c', .slice (some ⟨gv, 0, none⟩) v2.length v2.length] W fun e w' => HalfOut W w' X V2 e) := fun W A' c' xs q1 q2 q3 q4 =>
            two_any sz (by omega) (by omega) A' (some ⟨gv, 0, none⟩) c' v2.length xs v2 X V2 W W.heap.size Hvl.out q1 ((hrv.below q2).mono q2.size) (Nat.le_refl _) q3 hvd hvv2.out htop2.out hXlt q4 (Nat.le_refl _)
          have Ha := Lib.hid ha
          have HX := Lib.hid hX
          clear hbs hT ha hX hbl hbv hrb hmk E4 E5 hk1
          go_upto_region 17 with (first
            | simp only [E8.out]
            | simp only [E9.out]
            | simp only [e10]
            | simp only [e10b]
            | simp only [f3]
            | (go_at_call 192; (with_reducible refine (Hj.out _ (Below.refl _ _)).mono ?_); rintro e w4 ⟨ys, g, rfl, hyl, hyd, hyv, hg, hbk, hb4⟩; have nys := Num.of_trim hyd; rw [hyv] at nys; have hry := ((Rd.of_blk hbk hbk.lt 0 (fun k v hv => by rw [Nat.zero_add]; exact hv) : Rd w4 w4.heap.size (some ⟨g, 0, none⟩) (u64s ys)).takeN (trimL ys).length); rw [trimL_take] at hry; clear hyv hyl)
            | (go_at_call 191; (with_reducible refine (Htwo.out _ _ _ _ hry (hbel.trans (hb4.mono hbel.size)) nys (trimL_length_le ys)).mono ?_); rintro e w5 ⟨ds, rs2, Q2, cq2, R2, cr2, rfl, nds, nrs2, hcq2, hcr2, hq5, hr5, hx5, hb5⟩))
          have hl4 : ds.length ≤ sz := num_len nds (by
            exact (Nat.div_lt_iff_lt_mul hV20).2 (by rw [Nat.mul_comm]; exact hXlt))
          have hb45 : Below wr.heap.size wr w5 := hb4.trans (hb5.mono hb4.size)
          have hbq5 := hbq.below hb45 hbq.lt
          have hbel5 : Below w2.heap.size w2 w5 := hbel.trans (hb45.mono hbel.size)
          have hx6 := hx5 w2.heap.size (Nat.lt_of_lt_of_le hbq.lt hb4.size)
          have hqlen : Hid (qs.length = N) := by show _ = _; rw [HB.out.len, HN.out]
          have hnx : Hid (Blocks U2 V2 sz bl k (patch qs a ds) (X % V2)) := by
            rw [Ha.out]
            exact HB.out.next (by rw [← Ha.out]; exact HX.out) nds.1 nds.2.2 hl4
          clear hb4 hb5 hbq hrx hr5 nys hry hbk hyd hg Hj Htwo
          go_wp2_with (first
            | simp only [E8.out]
            | ((with_reducible refine wpList_copy_tn (o := ⟨some 82, _, _, _, _, _⟩) rfl _ _ _ _ rfl 84 Tryz.underlying146 ?u1 _ _ _ _ _ _ rfl rfl w2.heap.size a (u64s qs) 84 hbq5 (u64s ds) ?c2 ?c3 ?c4 ?c5 ?_); rotate_right; intro w6 hg6 htn6))
          case u1 => kernel_rfl
          case c2 => rw [u64s_length]; exact (Nat.min_eq_left (by omega)).symm
          case c3 =>
            intro hp
            have hne : u64s ds ≠ [] := by intro e; rw [e] at hp; simp at hp
            obtain ⟨b, off, rfl, hbB, hcell⟩ := hq5 hne
            exact ⟨trivial, _, rfl, fun j v hv => by rw [add_none]; exact hcell j v hv⟩
          case c4 => rw [u64s_length, u64s_length, hqlen.out]; omega
          case c5 => exact one_u64s ds
          have hg7 : Blk w6 w2.heap.size 84 (u64s (patch qs a ds)) := by
            have := hg6.out
            rwa [u64s_splice] at this
          clear hg6
          go_wp2_with fail
          go_roundg k
          case measure => omega
          case rel => exact ⟨rs2, patch qs a ds, R2, cr2, X % V2, rfl, rfl, nrs2, hcr2, hx6.tn htn6, hnx, hg7, hbel5.trans (htn6.below (Nat.le_refl _) hbel5.size)⟩
end
end Go.Proofs.YtadpelhmjmamnaaGreatDoor
