/- The contract of threeByTwo, given that of twoByOne for half as many words. Conditions: words; the divisor's top bit; at most 2^28 words. The contracts of takeRow and guess. Conditions: words; the divisor's top word is not below what is divided. The contract of guess. Conditions: words; the top word is not above the divisor's. A digit of long division: plain mathematics. No conditions. -/
import Derived.Test.YtadpelhmjmamnaaGreatDoorPkCf25
import Derived.Test.YtadpelhmjmamnaaGreatDoorPkCf23
import Derived.Deep.LoopGhost
import Derived.Test.YtadpelhmjmamnaaGreatDoorPkCf17
import Derived.Test.YtadpelhmjmamnaaGreatDoorPkCf19
import Derived.WalkMore
import Derived.Test.YtadpelhmjmamnaaGreatDoorPkCf21
namespace Go.Proofs.YtadpelhmjmamnaaGreatDoor
section
open Go.RowKit

theorem cut_rest (A : Option Addr) (c f : Nat) (us : List Nat) (w : World) (B : Nat) (hr : Rd w B A (u64s us)) (hc : us.length ≤ c) (hm : us.length ≤ 281474976710656) :
    Calls Tryz.prog 193 #[.slice A us.length c, .int .i64 (f : Int), .int .i64 (us.length : Int)] w fun e w' => ∃ A' c', e = .returned (.slice A' (trimL (us.drop f)).length c') ∧ Rd w B A' (u64s (trimL (us.drop f))) ∧ (trimL (us.drop f)).length ≤ c' ∧ w = w' := by
  have h := cut_any A c f us.length us w B hr hc hm
  rw [List.take_length] at h
  exact h
theorem cut_low (A : Option Addr) (c t : Nat) (us : List Nat) (w : World) (B : Nat) (hr : Rd w B A (u64s us)) (hc : us.length ≤ c) (hm : us.length ≤ 281474976710656) :
    Calls Tryz.prog 193 #[.slice A us.length c, .int .i64 0, .int .i64 (t : Int)] w fun e w' => ∃ A' c', e = .returned (.slice A' (trimL (us.take t)).length c') ∧ Rd w B A' (u64s (trimL (us.take t))) ∧ (trimL (us.take t)).length ≤ c' ∧ w = w' := by
  have h := cut_any A c 0 t us w B hr hc hm
  rw [List.drop_zero] at h
  exact h

/-- The parts of what is divided and of the divisor. -/
structure Bz (h U V b uh ul Vt Vl : Nat) (us vs hs ts vt vl ls : List Nat) : Prop where
  eb : b = 18446744073709551616 ^ h
  b0 : 0 < b
  hs_eq : hs = trimL (us.drop h)
  ts_eq : ts = trimL (hs.drop h)
  ls_eq : ls = trimL (us.take h)
  vt_eq : vt = vs.drop h
  vl_eq : vl = vs.take h
  nhs : Num 18446744073709551616 hs uh
  nts : Num 18446744073709551616 ts (uh / b)
  nvt : Num 18446744073709551616 vt Vt
  nls : Num 18446744073709551616 ls ul
  dvl : Dig 18446744073709551616 vl
  vvl : val 18446744073709551616 vl = Vl
  lhs : hs.length ≤ 2 * h
  lvt : vt.length = h
  lvl : vl.length = h
  lls : ls.length ≤ h
  eU : U = uh * b + ul
  eV : V = Vt * b + Vl
  ulb : ul < b
  Vlb : Vl < b
  top : b ≤ 2 * Vt
  lt : U < V * b
theorem Bz.make {h U V : Nat} {us vs : List Nat} (h2 : 2 ≤ h) (hn : vs.length = 2 * h) (hU : Num 18446744073709551616 us U) (hd2 : Dig 18446744073709551616 vs) (hV : val 18446744073709551616 vs = V) (htop : 18446744073709551616 ^ (2 * h) ≤ 2 * V) (hlt : U < V * 18446744073709551616 ^ h) :
    us.length ≤ 3 * h ∧ ∃ b uh ul Vt Vl hs ts vt vl ls, Bz h U V b uh ul Vt Vl us vs hs ts vt vl ls := by
  obtain ⟨b, hb⟩ : ∃ b, b = 18446744073709551616 ^ h := ⟨_, rfl⟩
  have hb0 : 0 < b := by rw [hb]; exact Nat.pow_pos (by omega)
  have hbb : 18446744073709551616 ^ (2 * h) = b * b := by rw [hb, ← Nat.pow_add]; congr 1; omega
  have hVb : V < b * b := by rw [← hV, ← hbb, ← hn]; exact val_lt _ _ hd2
  refine ⟨num_len hU (by
    rw [show 18446744073709551616 ^ (3 * h) = b * b * 18446744073709551616 ^ h from by rw [← hbb, ← Nat.pow_add]; congr 1; omega]
    exact Nat.lt_of_lt_of_le hlt (Nat.mul_le_mul_right _ (Nat.le_of_lt hVb))), b, U / b, U % b, V / b, V % b, trimL (us.drop h), trimL ((trimL (us.drop h)).drop h), vs.drop h, vs.take h, trimL (us.take h), ?_⟩
  have nhs : Num 18446744073709551616 (trimL (us.drop h)) (U / b) := by rw [hb]; exact num_drop hU h
  have lvt : (vs.drop h).length = h := by rw [List.length_drop]; omega
  have vvt : val 18446744073709551616 (vs.drop h) = V / b := by rw [val_drop (by omega) _ _ hd2, hV, hb]
  have htop2 : b ≤ 2 * (V / b) := bz_half (by rw [hb]; exact pow_even h (by omega)) (by rw [← hbb]; exact htop) hb0
  have nls : Num 18446744073709551616 (trimL (us.take h)) (U % b) := by rw [hb]; exact num_take hU h
  exact {
    eb := hb, b0 := hb0, hs_eq := rfl, ts_eq := rfl, ls_eq := rfl, vt_eq := rfl, vl_eq := rfl, nhs := nhs
    nts := by
      have := num_drop nhs h
      rwa [← hb] at this
    nvt := ⟨hd2.drop_ _, top_trim lvt (by omega) (hd2.drop_ _) (by rw [vvt, ← hb]; exact htop2), vvt⟩
    nls := nls
    dvl := hd2.take_ _
    vvl := by rw [val_take_mod (by omega) _ _ hd2, hV, hb]
    lhs := num_len nhs (by
      rw [hbb]
      refine (Nat.div_lt_iff_lt_mul hb0).2 (Nat.lt_of_lt_of_le hlt ?_)
      rw [← hb]
      exact Nat.mul_le_mul_right _ (Nat.le_of_lt hVb))
    lvt := lvt
    lvl := by rw [List.length_take]; omega
    lls := num_len nls (by rw [← hb]; exact Nat.mod_lt _ hb0)
    eU := by rw [Nat.mul_comm]; exact (Nat.div_add_mod U b).symm
    eV := by rw [Nat.mul_comm]; exact (Nat.div_add_mod V b).symm
    ulb := Nat.mod_lt _ hb0
    Vlb := Nat.mod_lt _ hb0
    top := htop2
    lt := by rw [hb]; exact hlt }

theorem three_long {h b Vt uh : Nat} {hs : List Nat} (hb : b = 18446744073709551616 ^ h) (hn : Num 18446744073709551616 hs uh) (hl : hs.length ≤ 2 * h) (htop : b ≤ 2 * Vt) (hge : Vt ≤ uh / b) (h0 : 0 < h) : hs.length = 2 * h ∧ b * Vt ≤ uh := by
  have hb0 : 0 < b := by rw [hb]; exact Nat.pow_pos (by omega)
  have h1 : b * Vt ≤ uh := Nat.le_trans (Nat.mul_le_mul_left _ hge) (Nat.mul_div_le uh b)
  refine ⟨?_, h1⟩
  have h2 : b * b ≤ 2 * uh := by
    have := Nat.mul_le_mul_left b htop
    rw [Nat.mul_left_comm] at this
    omega
  have h3 := hn.lt
  rcases Nat.lt_or_ge hs.length (2 * h) with hlt | hge2
  · exfalso
    have h4 : 18446744073709551616 ^ hs.length ≤ 18446744073709551616 ^ (2 * h - 1) := Nat.pow_le_pow_right (by omega) (by omega)
    have h5 : b * b = 18446744073709551616 ^ (2 * h - 1) * 18446744073709551616 := by
      rw [hb, ← Nat.pow_add, ← Nat.pow_succ]; congr 1; omega
    omega
  · omega
theorem three_guess {b V Vt Vl uh ul U r : Nat} (hb0 : 0 < b) (h : b * Vt ≤ uh) (hr : r = uh - b * Vt + Vt) (hlt : U < V * b) (_ : U = uh * b + ul) (_ : V = Vt * b + Vl) : uh = (b - 1) * Vt + r ∧ U < (b - 1 + 1) * V ∧ b - 1 < b := by
  obtain ⟨m, rfl⟩ : ∃ m, b = m + 1 := ⟨b - 1, by omega⟩
  rw [Nat.add_mul, Nat.one_mul] at h
  rw [Nat.add_mul, Nat.one_mul] at hr
  refine ⟨by rw [Nat.add_sub_cancel]; omega, by rw [Nat.add_sub_cancel, Nat.mul_comm]; exact hlt, by omega⟩
theorem patch_patch0 {L z1 z2 : List Nat} (h : z1.length = z2.length) : patch (patch L 0 z1) 0 z2 = patch L 0 z2 := by
  simp [patch, ← h]
theorem patch_seg0 {L z : List Nat} {n : Nat} (h : z.length = n) : ((patch L 0 z).drop 0).take n = z := by
  subst h
  simp [patch]
theorem rd_patch0 {w : World} {g : Nat} {L z : List Nat} (h : Blk w g 84 (u64s (patch L 0 z))) : Rd w w.heap.size (some ⟨g, 0, none⟩) (u64s z) := Rd.of_blk h h.lt 0 (fun k v hv => by
  rw [Nat.zero_add]
  have e : u64s (patch L 0 z) = u64s z ++ u64s (L.drop (0 + z.length)) := by simp [patch, u64s]
  rw [e, List.getElem?_append_left (List.getElem?_eq_some_iff.1 hv).1]
  exact hv)
theorem rx_patch0 {w : World} {g g' : Nat} {L z : List Nat} (h : Blk w g 84 (u64s (patch L 0 z))) (hne : g ≠ g') : Rx w g' (some ⟨g, 0, none⟩) (u64s z) := Rx.of_blk h hne 0 (fun k v hv => by
  rw [Nat.zero_add]
  have e : u64s (patch L 0 z) = u64s z ++ u64s (L.drop (0 + z.length)) := by simp [patch, u64s]
  rw [e, List.getElem?_append_left (List.getElem?_eq_some_iff.1 hv).1]
  exact hv)

/-- The quotient's guess and what it leaves of the upper part. -/
def Guessed (h U V b uh Vt : Nat) (qs rs : List Nat) (q r : Nat) : Prop :=
  Dig 18446744073709551616 qs ∧ val 18446744073709551616 qs = q ∧ qs.length ≤ h ∧ Dig 18446744073709551616 rs ∧ val 18446744073709551616 rs = r ∧ rs.length ≤ 2 * h + 1 ∧ uh = q * Vt + r ∧ U < (q + 1) * V ∧ q < b

set_option maxRecDepth 100000 in
set_option maxHeartbeats 3200000 in
theorem threeByTwo_any (h : Nat) (hT : TwoOk h) (A A2 : Option Addr) (c c2 : Nat) (us vs : List Nat) (U V : Nat) (w : World) (B : Nat) (hn : vs.length = 2 * h) (h2 : 2 ≤ h) (hm : h ≤ 134217728) (hr : Rd w B A (u64s us)) (hr2 : Rd w B A2 (u64s vs)) (hB : B ≤ w.heap.size) (hU : Num 18446744073709551616 us U) (hd2 : Dig 18446744073709551616 vs) (hV : val 18446744073709551616 vs = V) (htop : 18446744073709551616 ^ (2 * h) ≤ 2 * V) (hlt : U < V * 18446744073709551616 ^ h)
    (hc : us.length ≤ c) (hc2 : vs.length ≤ c2) :
    Calls Tryz.prog 197 #[.slice A us.length c, .slice A2 vs.length c2] w fun e w' => HalfOut w w' U V e := by
  obtain ⟨hul, b, uh, ul, Vt, Vl, hs, ts, vt, vl, ls, HB⟩ := Bz.make h2 hn hU hd2 hV htop hlt
  obtain ⟨b2, off2, rfl, hbB2, _⟩ := hr2.at64 (k := 0) (by omega)
  have hrt : Rd w B (some ⟨b2, off2 + h, none⟩) (u64s vt) := by rw [HB.vt_eq]; exact hr2.drop_ h
  have hrl : Rd w B (some ⟨b2, off2, none⟩) (u64s vl) := by rw [HB.vl_eq]; exact hr2.takeN h
  have Hcut1 : Hid (∀ W, Below w.heap.size w W → Calls Tryz.prog 193 #[.slice A us.length c, .int .i64 (h : Int), .int .i64 (us.length : Int)] W fun e w' => ∃ A' c', e = .returned (.slice A' hs.length c') ∧ Rd W B A' (u64s hs) ∧ hs.length ≤ c' ∧ W = w') := fun W hW => by
    have := cut_rest A c h us W B (hr.below (hW.mono hB)) hc (by omega)
    rwa [← HB.hs_eq] at this
  have Hcut2 : Hid (∀ W A' c', Rd W B A' (u64s hs) → hs.length ≤ c' → Calls Tryz.prog 193 #[.slice A' hs.length c', .int .i64 (h : Int), .int .i64 (hs.length : Int)] W fun e w' => ∃ A3 c3, e = .returned (.slice A3 ts.length c3) ∧ Rd W B A3 (u64s ts) ∧ ts.length ≤ c3 ∧ W = w') := fun W A' c' q1 q2 => by
    have := cut_rest A' c' h hs W B q1 q2 (by have := HB.lhs; omega)
    rwa [← HB.ts_eq] at this
  have Hcmp : Hid (∀ W A3 c3, Rd W B A3 (u64s ts) → ts.length ≤ c3 → Below w.heap.size w W → Calls Tryz.prog 168 #[.slice A3 ts.length c3, .slice (some ⟨b2, off2 + h, none⟩) h (c2 - h)] W fun e w' => e = .returned (.int .i64 (cmpN (uh / b) Vt)) ∧ Dr W w') := fun W A3 c3 q1 q0 q2 => by
    have := cmpW_any A3 (some ⟨b2, off2 + h, none⟩) c3 (c2 - h) ts vt (uh / b) Vt W B q1 (hrt.below (q2.mono hB)) HB.nts HB.nvt q0 (by rw [HB.lvt]; omega) (by have h1 := HB.lhs; have h3 := trimL_length_le (hs.drop h); rw [← HB.ts_eq, List.length_drop] at h3; omega) (by rw [HB.lvt]; omega)
    rwa [HB.lvt] at this
  have q3 : (h : Int) ≤ 2 * (h : Int) := by omega
  have q4 : ¬ (c2 = h) := by omega
  have q5 : h ≤ 2 * h := by omega
  have q6 : 2 * h - h = h := by omega
  rw [hn] at hc2 ⊢
  go_enter Tryz.func197, Tryz.ntmps197
  go_upto_if 31 with (first
    | (simp only [])
    | (go_at_call_of 193 (Value.slice A us.length c); (with_reducible refine (Hcut1.out _ (Below.refl _ _)).mono ?_); rintro e w1 ⟨Ah, ch, rfl, hrh, hch, rfl⟩)
    | (go_at_call 193; (with_reducible refine (Hcut2.out _ _ _ hrh hch).mono ?_); rintro e w1 ⟨A3, c3, rfl, hr3, hc3, rfl⟩)
    | (go_at_call 168; (with_reducible refine (Hcmp.out _ _ _ hr3 hc3 (Below.refl _ _)).mono ?_); rintro e w1 ⟨rfl, hdr⟩))
  have hb1 := hdr.below w.heap.size
  have hrh1 := hrh.below (hb1.mono hB)
  clear hr3 hc3 hrh hdr Hcut1 Hcut2 Hcmp
  go_cut [8, 9] (fun qv rv W => ∃ (qs rs : List Nat) (Q R : Option Addr) (cq cr q r : Nat), qv = .slice Q qs.length cq ∧ rv = .slice R rs.length cr ∧ Guessed h U V b uh Vt qs rs q r ∧ Rd W W.heap.size Q (u64s qs) ∧ Rd W W.heap.size R (u64s rs) ∧ qs.length ≤ cq ∧ rs.length ≤ cr ∧ Below w.heap.size w W)
  case first =>
    by_cases hge : Vt ≤ uh / b
    · have t1 : decide (cmpN (uh / b) Vt < 0) = false := by
        unfold cmpN
        rw [if_neg (by omega)]
        split <;> simp
      obtain ⟨hsl, hbv⟩ := three_long HB.eb HB.nhs HB.lhs HB.top hge (by omega)
      have Hgr : Hid (∀ W : World, Calls Tryz.prog 198 #[.int .i64 (h : Int)] W fun e w' => Words W w' h (b - 1) e) := fun W => by
        have := greatest_any h W (by omega)
        rwa [← HB.eb] at this
      have Hsum : Hid (∀ W, Below w1.heap.size w1 W → Calls Tryz.prog 158 #[.slice Ah hs.length ch, .slice none 0 0] W fun e w' => Words W w' (2 * h + 1) uh e) := fun W hW => by
        have := sumOf_any Ah none ch 0 hs [] W B (hrh1.below (hW.mono (Nat.le_trans hB hb1.size))) Rd.nil_ (Nat.le_trans hB (Nat.le_trans hb1.size hW.size)) HB.nhs.1 (Dig.nil_ _) (by simp) (by have := HB.lhs; omega)
        rw [HB.nhs.2.2, hsl] at this
        rw [hsl]
        exact this
      have j1 : (h : Int) ≤ 2 * (h : Int) + 1 := by omega
      have j2 : ¬ (2 * h + 1 = h) := by omega
      have j3 : h ≤ 2 * h + 1 := by omega
      have j4 : 2 * h + 1 - h = h + 1 := by omega
      have Hsl := Lib.hid hsl
      simp only [t1]
      clear t1 hsl
      go_wp2_with (first
        | (simp only [])
        | (go_at_call 198; (with_reducible refine (Hgr.out _).mono ?_); rintro e w2 ⟨z1, g1, rfl, hl1, hd1, hv1, hg1, hbk1, hb2⟩)
        | (go_at_call 158; (with_reducible refine (Hsum.out _ hb2).mono ?_); rintro e w3 ⟨z2, g2, rfl, hl2, hd3, hv2, hg2, hbk2, hb3⟩))
      have hbt := hb1.trans (hb2.mono hb1.size)
      have hbu := hbt.trans (hb3.mono hbt.size)
      have hwg2 : w.heap.size ≤ g2 := Nat.le_trans hbt.size hg2
      have hrx : Rx w3 g2 (some ⟨b2, off2 + h, none⟩) (u64s vt) := (hrt.below (hbu.mono hB)).rx (Nat.le_trans hB hwg2) (Nat.le_trans hB hbu.size)
      have htk := takeFrom_any g2 h (h + 1) (h + 1) z2 vt (some ⟨b2, off2 + h, none⟩) (c2 - h) w3 hbk2 hrx (by omega) (by rw [HB.lvt]; omega) hd3 HB.nvt.1 (by omega)
      rw [HB.lvt] at htk
      have Htk := Lib.hid htk
      clear htk hrx
      refine Htk.out.mono ?_
      rintro e w4 ⟨z3, k3, rfl, hl3, hd4, hk3, hv3, hbk3, htn⟩
      clear Htk
      have hseg : val 18446744073709551616 ((z2.drop h).take (h + 1)) = uh / b := by
        rw [List.take_of_length_le (by rw [List.length_drop]; omega), val_drop (by omega) _ _ hd3, hv2, HB.eb]
      rw [hseg, HB.nvt.2.2] at hv3
      have hk0 := borrow_none hv3 (by have := val_lt _ _ hd4; rwa [hl3] at this) hge
      have hpv := patch_val 18446744073709551616 (L := z2) (o := h) (zs := z3) (by omega)
      rw [hl3, hseg, hv2, ← HB.eb] at hpv
      have hpl : (patch z2 h z3).length = 2 * h + 1 := by rw [patch_length (by omega), hl2]
      have hpd := patch_dig (o := h) hd3 hd4
      have hpe : val 18446744073709551616 (patch z2 h z3) = uh - b * Vt := by
        rw [hk0, Nat.mul_zero, Nat.add_zero] at hv3
        have h9 : b * val 18446744073709551616 z3 + b * Vt = b * (uh / b) := by rw [← Nat.mul_add, hv3]
        omega
      have Hl2 := Lib.hid hl2
      have Hpe := Lib.hid hpe
      have Hpl := Lib.hid hpl
      have Hl1 := Lib.hid hl1
      clear hseg hv3 hk0 hpv hpe hpl hbk2 hv2 hl2 hl1 hk3 hl3
      have hbt4 := hbu.trans (htn.below (Nat.le_trans hbu.size (Nat.le_refl _) |> fun _ => hwg2) hbu.size)
      have hbk4 := hbk1.below hb3 hbk1.lt |>.tn htn (by have := hbk1.lt; omega)
      go_wp2_with fail
      have hrx2 : Rx w4 g2 (some ⟨b2, off2 + h, none⟩) (u64s vt) := (hrt.below (hbt4.mono hB)).rx (Nat.le_trans hB hwg2) (Nat.le_trans hB hbt4.size)
      have hai := addInto_any g2 0 (2 * h + 1) z2.length (patch z2 h z3) vt (some ⟨b2, off2 + h, none⟩) (c2 - h) w4 hbk3 hrx2 (by rw [Hpl.out]; omega) (by rw [HB.lvt]; omega) hpd HB.nvt.1 (by omega)
      rw [HB.lvt, drop_take_all _ _ Hpl.out.symm, Hpe.out, HB.nvt.2.2, ← Hl2.out] at hai
      have Hai := Lib.hid hai
      clear hai hrx2
      refine Hai.out.mono ?_
      rintro e w5 ⟨z4, k4, rfl, hl4, hd5, hk4, hv4, hbk5, htn2⟩
      clear Hai
      have hlt2 : uh - b * Vt + Vt < 18446744073709551616 ^ z2.length := by
        have a1 := HB.nhs.lt
        have a2 := HB.nvt.lt
        rw [HB.lvt] at a2
        have a3 : 18446744073709551616 ^ h ≤ 18446744073709551616 ^ hs.length := Nat.pow_le_pow_right (by omega) (by rw [Hsl.out]; omega)
        rw [Hl2.out, Nat.pow_succ, ← Hsl.out]
        omega
      have hv5 := carry_zero2 hv4 hlt2
      rw [patch_zero_all (by rw [hl4, Hpl.out, Hl2.out])] at hbk5
      have hne : g1 ≠ g2 := by have := hbk1.lt; omega
      have hbk6 := hbk4.tn htn2 hne
      have hbt5 := hbt4.trans (htn2.below hwg2 hbt4.size)
      have Hv5 := Lib.hid hv5
      have Hl4 := Lib.hid hl4
      clear hv4 hlt2 hv5 hl4 hk4 hbk4 hbk3
      go_wp2_with fail
      go_meet
      exact ⟨z1, z4, _, _, z1.length, z2.length, b - 1, uh - b * Vt + Vt, rfl, by rw [Hl4.out], ⟨hd1, hv1, by rw [Hl1.out]; exact Nat.le_refl _, hd5, Hv5.out, by rw [Hl4.out, Hl2.out]; exact Nat.le_refl _, (three_guess HB.b0 hbv rfl HB.lt HB.eU HB.eV)⟩,
        Rd.of_blk hbk6 hbk6.lt 0 (fun k v hv => by rw [Nat.zero_add]; exact hv), Rd.of_blk hbk5 hbk5.lt 0 (fun k v hv => by rw [Nat.zero_add]; exact hv), Nat.le_refl _, by rw [Hl4.out]; exact Nat.le_refl _, hbt5⟩
    · have t1 : decide (cmpN (uh / b) Vt < 0) = true := by
        unfold cmpN
        rw [if_pos (by omega)]
        simp
      have Htwo : Hid (∀ W, Rd W B Ah (u64s hs) → Below w.heap.size w W → Calls Tryz.prog 191 #[.slice Ah hs.length ch, .slice (some ⟨b2, off2 + h, none⟩) h (c2 - h)] W fun e w' => HalfOut W w' uh Vt e) := fun W q1 q2 => by
        have := hT Ah (some ⟨b2, off2 + h, none⟩) ch (c2 - h) hs vt uh Vt W B HB.lvt q1 (hrt.below (q2.mono hB)) (Nat.le_trans hB q2.size) HB.nhs HB.nvt.1 HB.nvt.2.2 (by rw [← HB.eb]; exact HB.top) (by
          rw [← HB.eb]
          exact (Nat.div_lt_iff_lt_mul HB.b0).1 (by omega)) hch (by rw [HB.lvt]; omega)
        rwa [HB.lvt] at this
      simp only [t1]
      go_wp2_with (go_at_call 191; (with_reducible refine (Htwo.out _ hrh1 hb1).mono ?_); rintro e w2 ⟨qs, rs, Q, cq, R, cr, rfl, hqs, hrs, hcq, hcr, hq3, hr3, _, hb2⟩)
      go_meet
      have hb3 := hb1.trans (hb2.mono hb1.size)
      have hVt0 : 0 < Vt := by have h1 := HB.top; have h3 := HB.b0; omega
      refine ⟨qs, rs, _, _, cq, cr, uh / Vt, uh % Vt, rfl, rfl, ⟨hqs.1, hqs.2.2, ?_, hrs.1, hrs.2.2, ?_, ?_, ?_, ?_⟩, hq3, hr3, hcq, hcr, hb3⟩
      · exact num_len hqs (by rw [← HB.eb]; exact (Nat.div_lt_iff_lt_mul hVt0).2 (by rw [Nat.mul_comm]; exact (Nat.div_lt_iff_lt_mul HB.b0).1 (by omega)))
      · have h9 := num_len (k := h) hrs (by
          have a1 := Nat.mod_lt uh hVt0
          have a2 := HB.nvt.lt
          rw [HB.lvt] at a2
          omega)
        omega
      · rw [Nat.mul_comm]; exact (Nat.div_add_mod uh Vt).symm
      · exact bz_lt1 HB.eU HB.eV (by rw [Nat.mul_comm]; exact (Nat.div_add_mod uh Vt).symm) (Nat.mod_lt _ hVt0) HB.ulb
      · exact (Nat.div_lt_iff_lt_mul hVt0).2 (by rw [Nat.mul_comm]; exact (Nat.div_lt_iff_lt_mul HB.b0).1 (by omega))
  case rest =>
    clear hb1 hrh1 hch
    obtain ⟨qs, rs, Q, R, cq, cr, q, r, rfl, rfl, HG, hrq, hrr, hcq, hcr, hb1⟩ := hcut
    obtain ⟨N0, hN0⟩ : ∃ N0, N0 = h + rs.length := ⟨_, rfl⟩
    have lrs : rs.length ≤ 2 * h + 1 := HG.2.2.2.2.2.1
    have lqs : qs.length ≤ h := HG.2.2.1
    have Hcut3 : Hid (∀ W, Below w.heap.size w W → Calls Tryz.prog 193 #[.slice A us.length c, .int .i64 0, .int .i64 (h : Int)] W fun e w' => ∃ A' c', e = .returned (.slice A' ls.length c') ∧ Rd W B A' (u64s ls) ∧ ls.length ≤ c' ∧ W = w') := fun W hW => by
      have := cut_low A c h us W B (hr.below (hW.mono hB)) hc (by omega)
      rwa [← HB.ls_eq] at this
    have Hjo : Hid (∀ W A' c', Rd W B A' (u64s ls) → Rd W W.heap.size R (u64s rs) → B ≤ W.heap.size → Calls Tryz.prog 192 #[.slice A' ls.length c', .slice R rs.length cr, .int .i64 (h : Int)] W fun e w' => JoinOut W w' N0 (r * b + ul) e) := fun W A' c' z1 z2 z3 => by
      have := joined_any A' R c' cr h ls rs W W.heap.size (z1.mono z3) z2 (Nat.le_refl _) HB.nls.1 HG.2.2.2.1 HB.lls (by omega) (by omega)
      rw [HB.nls.2.2, HG.2.2.2.2.1, ← HB.eb, ← hN0] at this
      rw [Nat.add_comm, Nat.mul_comm]
      exact this
    have Hpr : Hid (∀ W, Below w.heap.size w W → Rd W W.heap.size Q (u64s qs) → Calls Tryz.prog 118 #[.slice Q qs.length cq, .slice (some ⟨b2, off2, none⟩) h c2] W fun e w' => Words W w' (qs.length + h) (q * Vl) e) := fun W hW z2 => by
      have := product_any Q (some ⟨b2, off2, none⟩) cq c2 qs vl W W.heap.size z2 ((hrl.below (hW.mono hB)).mono (Nat.le_trans hB hW.size)) (Nat.le_refl _) HG.1 HB.dvl hcq (by rw [HB.lvl]; omega) (by rw [HB.lvl]; omega)
      rw [HG.2.1, HB.lvl, HB.vvl] at this
      exact this
    have Hjq : Hid (∀ W, Rd W W.heap.size Q (u64s qs) → Calls Tryz.prog 192 #[.slice Q qs.length cq, .slice none 0 0, .int .i64 (h : Int)] W fun e w' => JoinOut W w' h q e) := fun W z1 => by
      have := joined_any Q none cq 0 h qs [] W W.heap.size z1 Rd.nil_ (Nat.le_refl _) HG.1 (Dig.nil_ _) lqs (by omega) (by simp; omega)
      rw [HG.2.1] at this
      simpa [val] using this
    have HN0 := Lib.hid hN0
    clear hN0
    go_wp2_with (first
      | (go_at_call_of 193 (Value.slice A us.length c); (with_reducible refine (Hcut3.out _ hb1).mono ?_); rintro e w2 ⟨A9, c9, rfl, hr9, hc9, rfl⟩)
      | (go_at_call_of 192 (Value.slice R rs.length cr); (with_reducible refine (Hjo.out _ _ _ hr9 hrr (Nat.le_trans hB hb1.size)).mono ?_); rintro e w2 ⟨ys, g, rfl, hyl, hyd, hyv, hg, hbk, hb2⟩; obtain ⟨g2, L, w3, hrun, hbk2, htk, hLl, hLd, hgg, htn⟩ := run_appz64 w2 146 g (trimL ys).length ys.length (2 * h + 2) ys hbk rfl (trimL_length_le ys) (by have h9 := trimL_length_le ys; have h8 := HN0.out; omega) hyd; have Hrun := Lib.hid hrun; have Htk := Lib.hid htk; have Hyv := Lib.hid hyv; have Hyl := Lib.hid hyl; clear hrun htk hyv hyl)
      | (at_builtin; refine wpList_append_run rfl _ _ _ _ rfl _ _ rfl rfl _ _ Hrun.out ?_))
    have hM : Hid ((trimL ys).length + (2 * h + 2) ≤ 8796093022208) := by show _ ≤ _; have h9 := trimL_length_le ys; have h8 := HN0.out; have h7 := Hyl.out; omega
    obtain ⟨M, hMe⟩ : ∃ M, M = (trimL ys).length + (2 * h + 2) := ⟨_, rfl⟩
    rw [← hMe] at hLl hM ⊢
    have hseg : val 18446744073709551616 ((L.drop 0).take M) = r * b + ul := by
      rw [List.drop_zero, hMe, Htk.out, val_append, val_zeros, Nat.mul_zero, Nat.add_zero, trimL_take, val_trim, Hyv.out]
    have hne2 : w.heap.size ≤ g2 := by
      have := hb1.size; have := hb2.size; omega
    have hb3 : Below wc.heap.size wc w3 := hb2.trans (htn.below hg hb2.size)
    have hbt3 := hb1.trans (hb3.mono hb1.size)
    have hM2 : 2 * h + 2 ≤ M := by omega
    have Hseg := Lib.hid hseg
    clear hseg hMe Hrun Htk Hyv Hyl hbk hrr Hjo Hcut3 htn hyd hgg hg hb2 HN0 hc9 hr9
    have hrq3 : Rd w3 w3.heap.size Q (u64s qs) := (hrq.below hb3).mono hb3.size
    go_wp2_with (first
      | (go_at_call 118; (with_reducible refine (Hpr.out _ hbt3 hrq3).mono ?_); rintro e w4 ⟨ps, gp, rfl, hpl, hpd, hpv, hgp, hbkp, hb4⟩; have Hpl := Lib.hid hpl; have Hpv := Lib.hid hpv; clear hpl hpv)
      | (go_at_call 142; (with_reducible refine (trimWords_any (some ⟨gp, 0, none⟩) ps.length ps w4 w4.heap.size (Rd.of_blk hbkp hbkp.lt 0 (fun k v hv => by rw [Nat.zero_add]; exact hv)) (Nat.le_refl _) (by have := Hpl.out; omega)).mono ?_); rintro e w4' ⟨rfl, rfl⟩)
      | (go_at_call 192; (with_reducible refine (Hjq.out _ ((hrq3.below hb4).mono hb4.size)).mono ?_); rintro e w5 ⟨yq, gq, rfl, hql, hqd, hqv, hgq, hbkq, hb5⟩; have Hql := Lib.hid hql; have Hqv := Lib.hid hqv; clear hql hqv))
    have hbk5 := hbk2.below (hb4.trans (hb5.mono hb4.size)) hbk2.lt
    have hbp5 := hbkp.below hb5 hbkp.lt
    have hnp : gp ≠ g2 := by have := hbk2.lt; omega
    have hnq : gq ≠ g2 := by have := hbk2.lt; have := hb4.size; omega
    have hbt5 : Below w.heap.size w w5 := hbt3.trans ((hb4.trans (hb5.mono hb4.size)).mono hbt3.size)
    have hwq : w.heap.size ≤ gq := Nat.le_trans hbt3.size (Nat.le_trans hb4.size hgq)
    have htk := takeFrom_any g2 0 M L.length L (trimL ps) (some ⟨gp, 0, none⟩) ps.length w5 hbk5 (rx_whole hbp5 hnp).trim_ (by omega) (by have := trimL_length_le ps; have := Hpl.out; omega) hLd hpd.trim_ (by have := hM.out; omega)
    rw [Hseg.out, val_trim, Hpv.out] at htk
    have Htk := Lib.hid htk
    clear htk hbk5 hbp5 hbkp hbk2 Hpr Hjq hrq3 hrq hb3 hgp
    refine Htk.out.mono ?_
    rintro e w6 ⟨z0, k0, rfl, hzl0, hzd0, hk0, hzv0, hbk6, htn6⟩
    clear Htk
    have hbq6 := hbkq.tn htn6 hnq
    have hbt6 := hbt5.trans (htn6.below hne2 hbt5.size)
    have hbz := bz_eq HB.eU HB.eV HG.2.2.2.2.2.2.1
    have hinv : Hid (val 18446744073709551616 z0 + q * V = U + 18446744073709551616 ^ M * k0) := by show _ = _; omega
    have hult : Hid (U < (q + 1) * V) := HG.2.2.2.2.2.2.2.1
    have hzq0 : Blk w6 gq 84 (u64s (patch yq 0 (trimL yq))) := by
      have e := patch_self (L := yq) (o := 0) (n := (trimL yq).length) (by have := trimL_length_le yq; omega)
      rw [List.drop_zero, trimL_take] at e
      rw [e]; exact hbq6
    have hzqv : Hid (val 18446744073709551616 (trimL yq) = q) := by show _ = _; rw [val_trim]; exact Hqv.out
    have hlq2 : (trimL yq).length ≤ yq.length := trimL_length_le yq
    obtain ⟨lq, hlq⟩ : ∃ lq, lq = (trimL yq).length := ⟨_, rfl⟩
    have hzql : Hid ((trimL yq).length = lq) := hlq.symm
    rw [← hlq] at hlq2 ⊢
    have hyqd := hqd
    clear hzv0 hbz hbq6 hbkq htn6 hbt5 hb5 hb4 Hqv hlq
    go_wp2_with fail
    go_loopg [12] q (fun k lv wr => ∃ (less : Nat) (zs zq : List Nat), lv = .int .u64 (less : Int) ∧ less ≤ 1 ∧ Hid (zs.length = M) ∧ Dig 18446744073709551616 zs ∧ Dig 18446744073709551616 zq ∧ Hid (zq.length = lq) ∧ Blk wr g2 84 (u64s (patch L 0 zs)) ∧ Blk wr gq 84 (u64s (patch yq 0 zq)) ∧ Hid (val 18446744073709551616 zq = k) ∧ Hid (val 18446744073709551616 zs + k * V = U + 18446744073709551616 ^ M * less) ∧ Hid (U < (k + 1) * V) ∧ Below w.heap.size w wr)
    case atStart => exact ⟨k0, z0, trimL yq, rfl, hk0, hzl0, hzd0, hqd.trim_, hzql, hbk6, hzq0, hzqv, hinv, hult, hbt6⟩
    case round =>
      clear hbk6 hzq0 hzqv hinv hult hbt6 hzl0 hzd0 hk0 hzql
      obtain ⟨less, zs, zq, rfl, hl1, Hzl, hzd, hqd2, Hql2, hbk, hbkq, Hqv, Hinv, Hult, hbel⟩ := hrel
      rcases Nat.eq_zero_or_pos less with h0 | h1
      · subst h0
        have e1 : val 18446744073709551616 zs + gk * V = U := by have := Hinv.out; omega
        have hd9 := bz_done e1 Hult.out
        have ht1 := trimWords_any (some ⟨gq, 0, none⟩) yq.length zq wr wr.heap.size (rd_patch0 hbkq) (by rw [Hql2.out]; exact hlq2) (by rw [Hql2.out]; have := Hql.out; omega)
        have ht2 := trimWords_any (some ⟨g2, 0, none⟩) L.length zs wr wr.heap.size (rd_patch0 hbk) (by rw [Hzl.out]; exact hLl) (by rw [Hzl.out]; have := hM.out; omega)
        rw [Hql2.out] at ht1
        rw [Hzl.out] at ht2
        have Ht1 := Lib.hid ht1
        have Ht2 := Lib.hid ht2
        have Hd9 := Lib.hid hd9
        clear ht1 ht2 hd9 e1
        go_wp2_with (first
          | (go_at_call_of 142 (Value.slice (some ⟨gq, 0, none⟩) lq yq.length); (with_reducible refine Ht1.out.mono ?_); rintro e wr' ⟨rfl, rfl⟩)
          | (go_at_call_of 142 (Value.slice (some ⟨g2, 0, none⟩) M L.length); (with_reducible refine Ht2.out.mono ?_); rintro e wr' ⟨rfl, rfl⟩))
        go_ret2
        have n1 := Num.of_trim hqd2
        have n2 := Num.of_trim hzd
        rw [Hqv.out, Hd9.out.1] at n1
        rw [Hd9.out.2] at n2
        have r1 := (rd_patch0 hbkq).takeN (trimL zq).length
        have r2 := (rd_patch0 hbk).takeN (trimL zs).length
        rw [trimL_take] at r1 r2
        exact ⟨trimL zq, trimL zs, _, yq.length, _, L.length, rfl, n1, n2, by have := trimL_length_le zq; have := Hql2.out; omega, by have := trimL_length_le zs; have := Hzl.out; omega, r1, r2, fun g hg => (rx_patch0 hbk (by omega)).trim_, hbel⟩
      · obtain rfl : less = 1 := by omega
        have hwgr := hbkq.lt
        have hai := addInto_any g2 0 M L.length (patch L 0 zs) vs (some ⟨b2, off2, none⟩) c2 wr hbk ((hr2.below (hbel.mono hB)).rx (by omega) (Nat.le_trans hB hbel.size)) (by rw [patch_length (by rw [Hzl.out]; omega)]; omega) (by omega) (patch_dig hLd hzd) hd2 (by have := hM.out; omega)
        rw [patch_seg0 Hzl.out, hV, hn] at hai
        have Hai := Lib.hid hai
        clear hai
        go_wp2_with fail
        refine Hai.out.mono ?_
        rintro e wa ⟨z2, cc, rfl, hz2l, hz2d, hcc, hz2v, hbk2, htna⟩
        clear Hai
        have hrl := val_lt _ _ hzd
        rw [Hzl.out] at hrl
        have hinv := Hinv.out
        rw [Nat.mul_one] at hinv
        obtain ⟨hk0, hi2, hu2⟩ := bz_back hinv hz2v hrl hcc
        rw [patch_patch0 (by rw [Hzl.out, hz2l])] at hbk2
        have hbqa := hbkq.tn htna hnq
        have hbela := hbel.trans (htna.below hne2 hbel.size)
        have Hz2l := Lib.hid hz2l
        have Hi2 := Lib.hid hi2
        have Hu2 := Lib.hid hu2
        have e2 : IntKind.u64.wrap (((1 : Nat) : Int) - (cc : Int)) = ((1 - cc : Nat) : Int) := by rw [IntKind.wrap_u64]; omega
        clear hz2v hinv hz2l hi2 hu2 hbk hbkq hbel
        go_wp2_with (simp only [])
        have hlq0 : 0 < lq := by
          rcases Nat.eq_zero_or_pos lq with h0 | h0
          · exfalso
            have h9 := Hql2.out
            rw [h0] at h9
            have h8 := Hqv.out
            rw [List.eq_nil_of_length_eq_zero h9] at h8
            simp [val] at h8
            omega
          · exact h0
        have hn1 : Blk (wa.alloc (.cells #[.int .u64 1] 84)) wa.heap.size 84 (u64s [1]) := Blk.new_ rfl
        have hbqb := hbqa.heapAlloc (.cells #[.int .u64 1] 84)
        have hbk2b := hbk2.heapAlloc (.cells #[.int .u64 1] 84)
        have hbelb := hbela.alloc hbela.size (.cells #[.int .u64 1] 84)
        have hqa := hbqa.lt
        have hpz : (patch yq 0 zq).length = yq.length := patch_length (by rw [Hql2.out]; omega)
        have htk := takeFrom_any gq 0 lq yq.length (patch yq 0 zq) [1] (some ⟨wa.heap.size, 0, none⟩) 1 _ hbqb (rx_whole hn1 (by omega)) (by rw [hpz]; omega) hlq0 (patch_dig hyqd hqd2) (Dig.cons_ (by omega) (Dig.nil_ _)) (by have := Hql.out; omega)
        rw [patch_seg0 Hql2.out, Hqv.out] at htk
        have Htk := Lib.hid htk
        clear htk hn1 hbqb hbk2 hbqa hpz
        refine Htk.out.mono ?_
        rintro e wb ⟨zq2, k2, rfl, hq2l, hq2d, hk2, hq2v, hbq3, htnb⟩
        clear Htk
        have hone : val 18446744073709551616 [1] = 1 := by simp [val]
        rw [hone] at hq2v
        have hlt9 := val_lt _ _ hq2d
        rw [hq2l] at hlt9
        have hk20 := borrow_none hq2v hlt9 (by omega)
        rw [hk20, Nat.mul_zero, Nat.add_zero] at hq2v
        rw [patch_patch0 (by rw [hq2l, Hql2.out])] at hbq3
        have hbk3 := hbk2b.tn htnb hnq.symm
        have hbelc := hbelb.trans (htnb.below hwq hbelb.size)
        have hqv2 : Hid (val 18446744073709551616 zq2 = gk - 1) := by show _ = _; omega
        have Hq2l := Lib.hid hq2l
        clear hq2v hlt9 hk20 hq2l hbk2b hbelb htnb
        go_wp2_with fail
        go_roundg (gk - 1)
        case measure => omega
        case rel => exact ⟨1 - cc, z2, zq2, by rw [show ((1 - cc : Nat) : Int) = 1 - (cc : Int) from by omega], by omega, Hz2l, hz2d, hq2d, Hq2l, hbk3, hbq3, hqv2, Hi2, by show _ < _; rw [Nat.sub_add_cancel (by omega)]; exact Hu2.out, hbelc⟩
end
section
open Go.RowKit

theorem take_q {W r x v c o q : Nat} (hr : r < W) (hx : x < W) (hv : v < W) (hc : c < W) (e : r + x * v + c = o + W * q) : q < W := by
  have h1 : x * v ≤ (W - 1) * (W - 1) := Nat.mul_le_mul (by omega) (by omega)
  obtain ⟨t, rfl⟩ : ∃ t, W = t + 1 := ⟨W - 1, by omega⟩
  simp only [Nat.add_sub_cancel] at h1
  rcases Nat.lt_or_ge q (t + 1) with h | h
  · exact h
  · exfalso
    have h2 : (t + 1) * (t + 1) ≤ (t + 1) * q := Nat.mul_le_mul_left _ h
    have h3 : (t + 1) * (t + 1) = t * t + t + t + 1 := by rw [Nat.add_mul, Nat.mul_add]; omega
    omega

set_option maxHeartbeats 1600000 in
theorem takeRow_any (g o co : Nat) (L us : List Nat) (v : Nat) (A : Option Addr) (c : Nat) (w : World) (hblk : Blk w g 84 (u64s L)) (hrx : Rx w g A (u64s us)) (ho : o + us.length ≤ L.length) (hco : us.length ≤ co) (hd : Dig 18446744073709551616 L) (hdu : Dig 18446744073709551616 us) (hv : v < 18446744073709551616) (hm : L.length ≤ 281474976710656) (hm2 : us.length ≤ 281474976710656) :
    Calls Tryz.prog 189 #[.slice (some ⟨g, o, none⟩) us.length co, .slice A us.length c, .int .u64 (v : Int)] w fun e w' => ∃ (zs : List Nat) (q : Nat), e = .returned (.int .u64 (q : Int)) ∧ zs.length = us.length ∧ Dig 18446744073709551616 zs ∧ q < 18446744073709551616 ∧ val 18446744073709551616 zs + val 18446744073709551616 us * v = val 18446744073709551616 ((L.drop o).take us.length) + 18446744073709551616 ^ us.length * q ∧ Blk w' g 84 (u64s (patch L o zs)) ∧ Tn g w w' := by
  have hsl := seg_length ho
  have hsd := seg_dig hd o us.length
  have hps := patch_self ho
  obtain ⟨os, hos⟩ : ∃ os, os = (L.drop o).take us.length := ⟨_, rfl⟩
  rw [← hos] at hsl hsd hps ⊢
  have hblk0 : Blk w g 84 (u64s (patch L o os)) := by rw [hps]; exact hblk
  have Hsl := Lib.hid hsl
  have hgw := hblk.lt
  clear hos hsl hps hblk
  go_enter Tryz.func189, Tryz.ntmps189
  go_wp2_with fail
  go_loopw [7, 8, 9, 10, 11, 12, 13, 20] (fun cv _ _ _ _ _ _ i wr => ∃ (k cc : Nat) (zs : List Nat), k ≤ us.length ∧ i = .int .i64 k ∧ cv = .int .u64 cc ∧ cc < 18446744073709551616 ∧ Blk wr g 84 (u64s (patch L o zs)) ∧ Dec 18446744073709551616 os (val 18446744073709551616 (us.take k) * v) k zs cc ∧ Tn g w wr) (fun _ _ _ _ _ _ _ i _ => us.length - (intOf i).toNat)
  case atStart => exact ⟨0, 0, os, by omega, rfl, rfl, by omega, hblk0, by simpa [val] using Dec.start hsd, Tn.refl _ _⟩
  case round =>
    clear hblk0
    obtain ⟨k, cc, zs, hk, rfl, rfl, hcc, hblk, hdec, htn⟩ := hrel
    by_cases hlt : k < us.length
    · obtain ⟨b, off, rfl, hb, hbg, hx⟩ := (hrx.tn htn).at64 hlt
      have hxd := hdu.at_ k hlt
      have hko : k < os.length := by rw [Hsl.out]; exact hlt
      obtain ⟨hz1, hzk⟩ := hdec.at_ hko
      have hzo : o + zs.length ≤ L.length := by rw [hdec.2.1, Hsl.out]; exact ho
      have hy := blk_patch hblk hz1 hzo
      have hf := hblk.frozen (o + k)
      have hyd := hdec.1.at_ k hz1
      obtain ⟨x, hxe⟩ : ∃ x, x = us[k] := ⟨_, rfl⟩
      obtain ⟨y, hye⟩ : ∃ y, y = zs[k] := ⟨_, rfl⟩
      rw [← hxe] at hx hxd
      rw [← hye] at hy hyd hzk
      have hmul := fun W => mul64_any x v W hxd hv
      obtain ⟨hi, hhi⟩ : ∃ hi, hi = x * v / 18446744073709551616 := ⟨_, rfl⟩
      obtain ⟨lo, hlo⟩ : ∃ lo, lo = x * v % 18446744073709551616 := ⟨_, rfl⟩
      rw [← hhi, ← hlo] at hmul
      have e0 : x * v = hi * 18446744073709551616 + lo := by rw [hhi, hlo]; omega
      have hlb : lo < 18446744073709551616 := by rw [hlo]; omega
      have s1 := fun W => sub64_run0 y lo W
      obtain ⟨r1, hr1⟩ := nameIt ((y + 18446744073709551616 - lo) % 18446744073709551616)
      obtain ⟨l1, hl1⟩ := nameIt (if y < lo then 1 else 0)
      rw [← hr1, ← hl1] at s1
      have f1 : r1 + lo = y + 18446744073709551616 * l1 := by
        by_cases h : y < lo
        · rw [if_pos h] at hl1; omega
        · rw [if_neg h] at hl1; omega
      have s2 := fun W => sub64_run0 r1 cc W
      obtain ⟨r2, hr2⟩ := nameIt ((r1 + 18446744073709551616 - cc) % 18446744073709551616)
      obtain ⟨l2, hl2⟩ := nameIt (if r1 < cc then 1 else 0)
      rw [← hr2, ← hl2] at s2
      have hr1b : r1 < 18446744073709551616 := by omega
      have hr2b : r2 < 18446744073709551616 := by omega
      have f2 : r2 + cc = r1 + 18446744073709551616 * l2 := by
        by_cases h : r1 < cc
        · rw [if_pos h] at hl2; omega
        · rw [if_neg h] at hl2; omega
      have hl1b : l1 ≤ 1 := by omega
      have hl2b : l2 ≤ 1 := by omega
      have hst := hdec.step (d := x * v) (r := r2) (q := hi + l1 + l2) hko hr2b (by rw [← hzk, e0]; omega)
      have hq : hi + l1 + l2 < 18446744073709551616 := take_q hr2b hxd hv hcc (o := y) (by rw [e0]; omega)
      rw [hxe, mul_T64 hlt] at hst
      have Hst := Lib.hid hst
      have Hmul := Lib.hid hmul
      have hq1 : hi + l1 < 18446744073709551616 := by omega
      clear hst hmul hr1 hl1 hr2 hl2 f1 f2 hxe hye hhi hlo e0 hzk
      go_wp2_with (first
        | (go_at_call 114; (with_reducible refine (Hmul.out _).mono ?_); rintro e w' ⟨rfl, rfl⟩)
        | (simp only [])
        | (simp only [s2]))
      go_roundw
      case rel => exact ⟨k + 1, hi + l1 + l2, zs.set k r2, by omega, by go_num, by go_num, hq, blk_patch_set hblk hz1 hzo, Hst.out, htn.setCell (o + k) _⟩
      case measure => simp [intOf]; omega
    · obtain rfl : k = us.length := by omega
      go_wp2_with fail
      go_ret
      refine ⟨zs, cc, rfl, hdec.2.1.trans Hsl.out, hdec.1, hcc, ?_, hblk, htn⟩
      have := hdec.2.2.1
      rw [List.take_length] at this
      exact this

theorem guess_stop {W top next third v1 v2 d r : Nat} (hd : d * v1 + r = top * W + next) (h : d * v2 ≤ r * W + third) : d * (v1 * W + v2) ≤ (top * W + next) * W + third := by
  rw [← hd, Nat.mul_add, Nat.add_mul, ← Nat.mul_assoc]; omega
theorem guess_more {W top next third v1 v2 d r : Nat} (hd : d * v1 + r = top * W + next) (h : r * W + third < d * v2) : (top * W + next) * W + third < d * (v1 * W + v2) := by
  rw [← hd, Nat.mul_add, Nat.add_mul, ← Nat.mul_assoc]; omega
/-- The digit that three words of what is divided and two of the divisor tell. -/
def digit3 (W top next third v1 v2 : Nat) : Nat := min (W - 1) (((top * W + next) * W + third) / (v1 * W + v2))
theorem digit3_eq {W top next third v1 v2 d : Nat} (hD : 0 < v1 * W + v2) (h1 : d ≤ W - 1) (h2 : digit3 W top next third v1 v2 ≤ d) (h3 : d * (v1 * W + v2) ≤ (top * W + next) * W + third) : d = digit3 W top next third v1 v2 := by
  have h4 : d ≤ ((top * W + next) * W + third) / (v1 * W + v2) := (Nat.le_div_iff_mul_le hD).2 h3
  unfold digit3 at *
  omega
theorem digit3_lt {W top next third v1 v2 d : Nat} (hD : 0 < v1 * W + v2) (h3 : (top * W + next) * W + third < d * (v1 * W + v2)) : digit3 W top next third v1 v2 ≤ d - 1 := by
  have h4 : ((top * W + next) * W + third) / (v1 * W + v2) < d := (Nat.div_lt_iff_lt_mul hD).2 h3
  unfold digit3
  omega
theorem digit3_start {W top next third v1 v2 : Nat} (_ : 0 < W) (ht : third < W) (hv : 0 < v1) : digit3 W top next third v1 v2 ≤ (top * W + next) / v1 := by
  unfold digit3
  refine Nat.le_trans (Nat.min_le_right _ _) ?_
  rw [Nat.div_le_iff_le_mul_add_pred (by have := Nat.mul_le_mul_right W hv; omega)]
  have h1 := Nat.div_add_mod (top * W + next) v1
  have h2 := Nat.mod_lt (top * W + next) hv
  generalize (top * W + next) / v1 = q at *
  generalize (top * W + next) % v1 = r at *
  rw [← h1, Nat.add_mul]
  have h3 : r * W + third < v1 * W := by
    have : (r + 1) * W ≤ v1 * W := Nat.mul_le_mul_right _ h2
    rw [Nat.add_mul] at this; omega
  have h4 : v1 * q * W ≤ (v1 * W + v2) * q := by
    rw [Nat.add_mul, Nat.mul_right_comm]; omega
  omega
theorem far_rest {W d v2 r third : Nat} (hd : d < W) (hv : v2 < W) (hr : W ≤ r) : d * v2 ≤ r * W + third := by
  have h1 : d * v2 ≤ W * W := Nat.mul_le_mul (by omega) (by omega)
  have h2 : W * W ≤ r * W := Nat.mul_le_mul_right _ hr
  omega
theorem two_words_le {W hi lo r third : Nat} (hlo : lo < W) (ht : third < W) : (hi < r ∨ hi = r ∧ lo ≤ third) ↔ hi * W + lo ≤ r * W + third := by
  constructor
  · rintro (h | ⟨rfl, h⟩)
    · have : (hi + 1) * W ≤ r * W := Nat.mul_le_mul_right _ h
      rw [Nat.add_mul] at this; omega
    · omega
  · intro h
    rcases Nat.lt_trichotomy hi r with h1 | h1 | h1
    · exact Or.inl h1
    · subst h1; exact Or.inr ⟨rfl, by omega⟩
    · exfalso
      have : (r + 1) * W ≤ hi * W := Nat.mul_le_mul_right _ h1
      rw [Nat.add_mul] at this; omega
end
section
open Go.RowKit

/-- What guess answers. -/
def GuessOut (w w' : World) (n : Nat) (e : Ending) : Prop := e = .returned (.int .u64 (n : Int)) ∧ Dr w w'

/-- Between two rounds of the search. -/
def Seek (W top next third v1 v2 d r : Nat) : Prop := d * v1 + r = top * W + next ∧ digit3 W top next third v1 v2 ≤ d ∧ d ≤ W - 1 ∧ r < W
theorem Seek.out {W top next third v1 v2 d r : Nat} (h : Seek W top next third v1 v2 d r) (hD : 0 < v1 * W + v2) (hs : d * v2 ≤ r * W + third) : d = digit3 W top next third v1 v2 :=
  digit3_eq hD h.2.2.1 h.2.1 (guess_stop h.1 hs)
theorem Seek.pos {W top next third v1 v2 d r : Nat} (_h : Seek W top next third v1 v2 d r) (hm : r * W + third < d * v2) : 0 < d := by
  rcases Nat.eq_zero_or_pos d with h0 | h0
  · subst h0; simp at hm
  · exact h0
theorem Seek.less {W top next third v1 v2 d r : Nat} (h : Seek W top next third v1 v2 d r) (hD : 0 < v1 * W + v2) (hm : r * W + third < d * v2) : (d - 1) * v1 + (r + v1) = top * W + next ∧ digit3 W top next third v1 v2 ≤ d - 1 ∧ d - 1 ≤ W - 1 := by
  have h0 := h.pos hm
  obtain ⟨k, rfl⟩ : ∃ k, d = k + 1 := ⟨d - 1, by omega⟩
  have h1 := h.1
  rw [Nat.add_mul] at h1
  refine ⟨by simp only [Nat.add_sub_cancel]; omega, digit3_lt hD (guess_more h.1 hm), by have := h.2.2.1; omega⟩
theorem Seek.far {W top next third v1 v2 d r : Nat} (hD : 0 < v1 * W + v2) (hW : 0 < W) (hv : v2 < W) (h1 : d * v1 + r = top * W + next) (h2 : digit3 W top next third v1 v2 ≤ d) (h3 : d ≤ W - 1) (hr : W ≤ r) : d = digit3 W top next third v1 v2 :=
  digit3_eq hD h3 h2 (guess_stop h1 (far_rest (by omega) hv hr))
theorem seek_start {W top next third v1 v2 : Nat} (hW : 0 < W) (ht : third < W) (hv : 0 < v1) (hvW : v1 < W) (hle : top < v1) (hn : next < W) : Seek W top next third v1 v2 ((top * W + next) / v1) ((top * W + next) % v1) := by
  have h1 := Nat.div_add_mod (top * W + next) v1
  have h2 := Nat.mod_lt (top * W + next) hv
  refine ⟨by rw [Nat.mul_comm]; exact h1, digit3_start hW ht hv, ?_, by omega⟩
  have : (top * W + next) / v1 < W := (Nat.div_lt_iff_lt_mul hv).2 (by
    have : (top + 1) * W ≤ v1 * W := Nat.mul_le_mul_right _ hle
    rw [Nat.add_mul] at this
    rw [Nat.mul_comm W v1]; omega)
  omega
theorem seek_top {W next third v1 v2 : Nat} (hW : 0 < W) : (W - 1) * v1 + (next + v1) = v1 * W + next ∧ digit3 W v1 next third v1 v2 ≤ W - 1 := by
  obtain ⟨k, rfl⟩ : ∃ k, W = k + 1 := ⟨W - 1, by omega⟩
  refine ⟨?_, Nat.min_le_left _ _⟩
  simp only [Nat.add_sub_cancel]
  rw [Nat.mul_add, Nat.mul_comm v1 k]; omega

set_option maxRecDepth 100000 in
set_option maxHeartbeats 1600000 in
theorem guess_any (top next third v1 v2 : Nat) (w : World) (h1 : top < 18446744073709551616) (h2 : next < 18446744073709551616) (h3 : third < 18446744073709551616) (h4 : v1 < 18446744073709551616) (h5 : v2 < 18446744073709551616) (h0 : 0 < v1) (hle : top ≤ v1) :
    Calls Tryz.prog 188 #[.int .u64 (top : Int), .int .u64 (next : Int), .int .u64 (third : Int), .int .u64 (v1 : Int), .int .u64 (v2 : Int)] w fun e w' => GuessOut w w' (digit3 18446744073709551616 top next third v1 v2) e := by
  have hDp : 0 < v1 * 18446744073709551616 + v2 := by omega
  obtain ⟨s, hs⟩ : ∃ s, s = (next + v1) % 18446744073709551616 := ⟨_, rfl⟩
  have e1 : IntKind.u64.wrap ((next : Int) + (v1 : Int)) = (s : Int) := by rw [IntKind.wrap_u64]; omega
  have hsb : s < 18446744073709551616 := by omega
  have hsA : s < v1 → 18446744073709551616 ≤ next + v1 := by omega
  have hsB : ¬ s < v1 → s = next + v1 := by omega
  have HsA := Lib.hid hsA
  have HsB := Lib.hid hsB
  have HDp := Lib.hid hDp
  clear hs hsA hsB hDp
  go_enter Tryz.func188, Tryz.ntmps188
  go_wp2_with fail
  go_step3
  go_upto_if 20 with (simp only [e1])
  go_cut [11, 12] from 21 (fun dv rv W => ∃ d r : Nat, dv = .int .u64 (d : Int) ∧ rv = .int .u64 (r : Int) ∧ Hid (Seek 18446744073709551616 top next third v1 v2 d r) ∧ Dr w W)
  case first =>
    by_cases hlt : top < v1
    · have t1 : decide ((top : Int) < (v1 : Int)) = true := by simp; omega
      have hdv := fun W => div64_any top next v1 h4 hlt h2 W
      have Hst := Lib.hid (seek_start (W := 18446744073709551616) (v2 := v2) (by omega) h3 h0 h4 hlt h2)
      obtain ⟨q, hq⟩ : ∃ q, q = (top * 18446744073709551616 + next) / v1 := ⟨_, rfl⟩
      obtain ⟨r, hr⟩ : ∃ r, r = (top * 18446744073709551616 + next) % v1 := ⟨_, rfl⟩
      rw [← hq, ← hr] at hdv Hst
      have Hdv := Lib.hid hdv
      clear hq hr hdv
      go_wp2_with (first | (simp only []) | (go_at_call 186; (with_reducible refine (Hdv.out _).mono ?_); rintro e w2 ⟨rfl, nd, rfl⟩))
      go_meet
      case rel => exact ⟨q, r, rfl, rfl, Hst, ⟨nd, rfl⟩⟩
    · obtain rfl : top = v1 := by omega
      have t1 : decide ((top : Int) < (top : Int)) = false := by simp
      have hst := seek_top (W := 18446744073709551616) (next := next) (third := third) (v1 := top) (v2 := v2) (by omega)
      by_cases hsv : s < top
      · have t2 : decide ((s : Int) < (top : Int)) = true := by simp; omega
        have Hout := Lib.hid (Seek.far HDp.out (by omega) h5 hst.1 hst.2 (Nat.le_refl _) (HsA.out hsv))
        clear hst
        go_wp2_with (first | (simp only [t1]) | (simp only [t2]))
        try rw [Exit.noGoto_ret]
        go_ret
        exact ⟨by rw [← Hout.out]; rfl, Dr.refl _⟩
      · have t2 : decide ((s : Int) < (top : Int)) = false := by simp; omega
        have Hst := Lib.hid (show Seek 18446744073709551616 top next third top v2 18446744073709551615 s from ⟨by rw [HsB.out hsv]; exact hst.1, hst.2, Nat.le_refl _, hsb⟩)
        clear hst
        go_wp2_with (first | (simp only [t1]) | (simp only [t2]))
        go_meet
        case rel => exact ⟨18446744073709551615, s, rfl, rfl, Hst, Dr.refl _⟩
  case rest =>
    obtain ⟨d, r, rfl, rfl, hsk, hdr⟩ := hcut
    clear e1 hsb HsA HsB
    go_wp2_with fail
    go_step3
    go_wp2_with fail
    go_loopw [11, 12, 13, 14] (fun dv rv _ _ W => ∃ d r : Nat, dv = .int .u64 (d : Int) ∧ rv = .int .u64 (r : Int) ∧ Hid (Seek 18446744073709551616 top next third v1 v2 d r) ∧ Dr w W) (fun dv _ _ _ _ => (intOf dv).toNat)
    case atStart => exact ⟨d, r, rfl, rfl, hsk, hdr⟩
    case round =>
      clear hsk hdr
      obtain ⟨d, r, rfl, rfl, hsk, hdr⟩ := hrel
      have hdb : d ≤ 18446744073709551615 := hsk.out.2.2.1
      have hrb := hsk.out.2.2.2
      have hmul := fun W => mul64_any d v2 W (by omega) h5
      obtain ⟨hi, hhi⟩ : ∃ hi, hi = d * v2 / 18446744073709551616 := ⟨_, rfl⟩
      obtain ⟨lo, hlo⟩ : ∃ lo, lo = d * v2 % 18446744073709551616 := ⟨_, rfl⟩
      rw [← hhi, ← hlo] at hmul
      have e0 : d * v2 = hi * 18446744073709551616 + lo := by rw [hhi, hlo]; omega
      have hlb : lo < 18446744073709551616 := by rw [hlo]; omega
      have hib : hi < 18446744073709551616 := by
        have : d * v2 < 18446744073709551616 * 18446744073709551616 := Nat.mul_lt_mul'' (by omega) h5
        rw [hhi]; exact (Nat.div_lt_iff_lt_mul (by omega)).2 this
      have hiff := Lib.hid (two_words_le (W := 18446744073709551616) (hi := hi) (r := r) hlb h3)
      have E0 := Lib.hid e0
      have Hmul := Lib.hid hmul
      clear hmul hhi hlo e0
      go_upto_region 7 with (go_at_call 114; (with_reducible refine (Hmul.out _).mono ?_); rintro e w' ⟨rfl, rfl⟩)
      go_cut [50] from 60 (fun b W => ∃ bb : Bool, b = .bool bb ∧ Hid (bb = decide (d * v2 ≤ r * 18446744073709551616 + third)) ∧ Dr w W)
      case first =>
        by_cases c1 : hi < r
        · have t1 : decide ((hi : Int) < (r : Int)) = true := by simp; omega
          have He := Lib.hid (show true = decide (d * v2 ≤ r * 18446744073709551616 + third) from (decide_eq_true (by rw [E0.out]; exact hiff.out.1 (Or.inl c1))).symm)
          clear hiff
          go_wp2_with (simp only [t1])
          go_meet
          case rel => exact ⟨true, rfl, He, hdr⟩
        · have t1 : decide ((hi : Int) < (r : Int)) = false := by simp; omega
          by_cases c2 : hi = r
          · subst c2
            have t2 : ((hi : Int) == (hi : Int)) = true := by simp
            obtain ⟨b3, hb3⟩ : ∃ b3, b3 = decide ((lo : Int) ≤ (third : Int)) := ⟨_, rfl⟩
            have He := Lib.hid (show b3 = decide (d * v2 ≤ hi * 18446744073709551616 + third) from by
              rw [hb3]
              by_cases c3 : lo ≤ third
              · rw [decide_eq_true (by omega), decide_eq_true (by rw [E0.out]; omega)]
              · rw [decide_eq_false (by omega), decide_eq_false (by rw [E0.out]; omega)])
            have t3 : decide (lo ≤ third) = b3 := by rw [hb3]; simp
            have t4 := hb3.symm
            clear hiff hb3
            go_wp2_with (first | (simp only [t1]) | (simp only [t2]) | (simp only [t3]) | (simp only [t4]))
            go_meet
            case rel => exact ⟨b3, by simp, He, hdr⟩
          · have t2 : ((hi : Int) == (r : Int)) = false := by simp; omega
            have He := Lib.hid (show false = decide (d * v2 ≤ r * 18446744073709551616 + third) from (decide_eq_false (by rw [E0.out]; intro h; have := hiff.out.2 h; omega)).symm)
            clear hiff
            go_wp2_with (first | (simp only [t1]) | (simp only [t2]))
            go_meet
            case rel => exact ⟨false, rfl, He, hdr⟩
      case rest =>
        clear hdr hiff hib hlb Hmul E0
        obtain ⟨bb, rfl, Hbb, hdr⟩ := hcut
        cases bb
        · have hm : r * 18446744073709551616 + third < d * v2 := by have := of_decide_eq_false Hbb.out.symm; omega
          have hless := hsk.out.less HDp.out hm
          have hd0 := hsk.out.pos hm
          have eD : IntKind.u64.wrap ((d : Int) - 1) = ((d - 1 : Nat) : Int) := by rw [IntKind.wrap_u64]; omega
          obtain ⟨r2, hr2⟩ : ∃ r2, r2 = (r + v1) % 18446744073709551616 := ⟨_, rfl⟩
          have eR : IntKind.u64.wrap ((r : Int) + (v1 : Int)) = (r2 : Int) := by rw [IntKind.wrap_u64]; omega
          have hr2b : r2 < 18446744073709551616 := by omega
          by_cases hov : 18446744073709551616 ≤ r + v1
          · have Hout := Lib.hid (Seek.far HDp.out (by omega) h5 hless.1 hless.2.1 hless.2.2 hov)
            have t1 : decide ((r2 : Int) < (v1 : Int)) = true := decide_eq_true (by omega)
            have t1n : r2 < v1 := by omega
            obtain ⟨d2, hd2⟩ : ∃ d2, d2 = d - 1 := ⟨_, rfl⟩
            rw [← hd2] at eD Hout
            have hd2b : d2 < 18446744073709551616 := by omega
            have hdd : (d : Int) - 1 = (d2 : Int) := by omega
            clear hless hm hr2 Hbb hsk hd2
            go_wp2_with (first | (simp only [t1n, decide_true]) | (simp only [eD]) | (simp only [eR]) | (simp only [hdd]) | (simp only [t1]))
            try rw [Exit.noGoto_ret]
            go_ret
            exact ⟨by rw [← Hout.out]; rfl, hdr⟩
          · have hr2e : r2 = r + v1 := by omega
            have Hsk := Lib.hid (show Seek 18446744073709551616 top next third v1 v2 (d - 1) r2 from ⟨by rw [hr2e]; exact hless.1, hless.2.1, hless.2.2, hr2b⟩)
            have t1 : decide ((r2 : Int) < (v1 : Int)) = false := decide_eq_false (by omega)
            have t1n : ¬ r2 < v1 := by omega
            obtain ⟨d2, hd2⟩ : ∃ d2, d2 = d - 1 := ⟨_, rfl⟩
            rw [← hd2] at eD Hsk
            have hd2b : d2 < 18446744073709551616 := by omega
            have hdd : (d : Int) - 1 = (d2 : Int) := by omega
            have hd2d : d2 < d := by omega
            clear hless hm hr2 Hbb hsk hd2 hr2e hov
            go_wp2_with (first | (simp only [t1n, decide_false]) | (simp only [eD]) | (simp only [eR]) | (simp only [hdd]) | (simp only [t1]))
            case roundEnd => exact ⟨⟨d2, r2, rfl, rfl, Hsk, hdr⟩, by simp [intOf]; omega⟩
        · have Hout := Lib.hid (hsk.out.out HDp.out (of_decide_eq_true Hbb.out.symm))
          clear hsk Hbb
          go_wp2_with fail
          try rw [Exit.noGoto_ret]
          go_ret
          exact ⟨by rw [← Hout.out]; rfl, hdr⟩
end
section
open Go.RowKit

theorem digit3_near {W N3 v1 v2 P t s U V : Nat} (hP : 0 < P) (hV : V = (v1 * W + v2) * P + t) (ht : t < P) (hU : U = N3 * P + s) (hs : s < P) (hD : W ≤ v1 * W + v2) (hW : 0 < W) (hUV : U < W * V) :
    min (W - 1) (N3 / (v1 * W + v2)) = U / V ∨ min (W - 1) (N3 / (v1 * W + v2)) = U / V + 1 := by
  obtain ⟨D, hDe⟩ : ∃ D, D = v1 * W + v2 := ⟨_, rfl⟩
  rw [← hDe] at hV hD ⊢
  have hDp : 0 < D := by omega
  have hVp : 0 < V := by
    have : 1 * 1 ≤ D * P := Nat.mul_le_mul hDp hP
    omega
  obtain ⟨q, hq⟩ : ∃ q, q = U / V := ⟨_, rfl⟩
  have hqV : q * V ≤ U := by rw [hq]; exact Nat.div_mul_le_self _ _
  have hqW : q < W := by rw [hq]; exact (Nat.div_lt_iff_lt_mul hVp).2 hUV
  have h1 : q ≤ N3 / D := by
    rw [Nat.le_div_iff_mul_le hDp]
    have a1 : q * (D * P) ≤ q * V := Nat.mul_le_mul_left _ (by omega)
    have a2 : q * D * P < (N3 + 1) * P := by rw [Nat.mul_assoc, Nat.add_mul]; omega
    have := Nat.lt_of_mul_lt_mul_right a2
    omega
  rw [← hq]
  obtain ⟨d, hd⟩ : ∃ d, d = min (W - 1) (N3 / D) := ⟨_, rfl⟩
  rw [← hd]
  have h2 : d ≤ W - 1 := by omega
  have h3 : d * D ≤ N3 := by
    have : d ≤ N3 / D := by omega
    exact (Nat.le_div_iff_mul_le hDp).1 this
  have h4 : q ≤ d := by omega
  have h5 : d ≤ q + 1 := by
    rcases Nat.eq_zero_or_pos d with h0 | h0
    · omega
    · obtain ⟨e, he⟩ : ∃ e, d = e + 1 := ⟨d - 1, by omega⟩
      have : e ≤ q := by
        rw [hq, Nat.le_div_iff_mul_le hVp, hV, Nat.mul_add]
        have a1 : e * t ≤ D * P := Nat.mul_le_mul (by omega) (by omega)
        have a2 : d * D * P ≤ N3 * P := Nat.mul_le_mul_right _ h3
        rw [he, Nat.add_mul, Nat.add_mul, Nat.one_mul, Nat.mul_assoc] at a2
        omega
      omega
  omega

theorem knuth_fix {B V S top lack zs d U : Nat} (hU : U = S + B * top) (hz : zs < B) (hV : 0 < V) (hVB : V < B) (e : zs + V * d = S + B * lack) (hd : d = U / V ∨ d = U / V + 1) :
    (¬ top < lack → d = U / V ∧ zs = U % V) ∧ (top < lack → d = U / V + 1 ∧ zs + V = U % V + B) := by
  have h1 := Nat.div_add_mod U V
  have h2 := Nat.mod_lt U hV
  generalize U / V = q at *
  generalize U % V = r at *
  rcases hd with rfl | rfl
  · have key : zs + B * top = r + B * lack := by omega
    have h3 : top = lack := by
      rcases Nat.lt_trichotomy top lack with h | h | h
      · have := Nat.mul_le_mul_left B h
        rw [Nat.mul_succ] at this; omega
      · exact h
      · have := Nat.mul_le_mul_left B h
        rw [Nat.mul_succ] at this; omega
    subst h3
    exact ⟨fun _ => ⟨rfl, by omega⟩, fun h => absurd h (Nat.lt_irrefl _)⟩
  · have key : zs + V + B * top = r + B * lack := by rw [Nat.mul_add] at e; omega
    have h3 : lack = top + 1 := by
      rcases Nat.lt_trichotomy lack (top + 1) with h | h | h
      · have := Nat.mul_le_mul_left B (show lack ≤ top by omega)
        omega
      · exact h
      · have := Nat.mul_le_mul_left B (show top + 2 ≤ lack by omega)
        rw [Nat.mul_add] at this; omega
    subst h3
    rw [Nat.mul_add] at key
    exact ⟨fun h => absurd (Nat.lt_succ_self _) h, fun _ => ⟨rfl, by omega⟩⟩

theorem val_top2 (b : Nat) (xs : List Nat) (m : Nat) (h : xs.length = m + 2) : val b xs = val b (xs.take m) + b ^ m * (xs[m] + b * xs[m + 1]) := by
  rw [val_take_drop b xs m (by omega), List.drop_eq_getElem_cons (show m < xs.length by omega), List.drop_eq_getElem_cons (show m + 1 < xs.length by omega), show xs.drop (m + 1 + 1) = [] from List.drop_eq_nil_of_le (by omega)]
  simp [val]
theorem val_top3 (b : Nat) (xs : List Nat) (m : Nat) (h : xs.length = m + 3) : val b xs = val b (xs.take m) + b ^ m * (xs[m] + b * (xs[m + 1] + b * xs[m + 2])) := by
  rw [val_take_drop b xs m (by omega), List.drop_eq_getElem_cons (show m < xs.length by omega), List.drop_eq_getElem_cons (show m + 1 < xs.length by omega), List.drop_eq_getElem_cons (show m + 1 + 1 < xs.length by omega), show xs.drop (m + 1 + 1 + 1) = [] from List.drop_eq_nil_of_le (by omega)]
  simp [val]
theorem val_zero_of {b : Nat} {xs : List Nat} (h : ∀ j (hj : j < xs.length), xs[j] = 0) : val b xs = 0 := by
  induction xs with
  | nil => rfl
  | cons x xs ih =>
    have h0 := h 0 (by simp)
    have h1 := ih (fun j hj => by
      have h2 := h (j + 1) (by simp only [List.length_cons]; omega)
      simp only [List.getElem_cons_succ] at h2
      exact h2)
    simp only [val, h1]
    simp at h0
    omega

/-- Between two digits. -/
structure Longhand (W N : Nat) (vs : List Nat) (M k : Nat) (L qs : List Nat) : Prop where
  le : k ≤ M - vs.length
  len : L.length = M
  dig : Dig W L
  qlen : qs.length = M - vs.length
  qdig : Dig W qs
  sum : val W qs * val W vs + val W L = N
  qzero : ∀ j (h : j < qs.length), j < k → qs[j] = 0
  zero : ∀ j (h : j < L.length), k + vs.length ≤ j → L[j] = 0
  rest : val W ((L.drop k).take vs.length) < val W vs
theorem Longhand.start {W : Nat} {vs us : List Nat} (hW : 0 < W) (hd : Dig W us) (hr : val W (us.drop (us.length - vs.length)) < val W vs) : Longhand W (val W us) vs us.length (us.length - vs.length) us (List.replicate (us.length - vs.length) 0) := by
  refine ⟨Nat.le_refl _, rfl, hd, by simp, Dig.zeros_ hW _, by rw [val_zeros]; simp, fun j h _ => by simp, fun j h hj => by omega, ?_⟩
  rw [List.take_of_length_le (by rw [List.length_drop]; omega)]
  exact hr
theorem Longhand.end_ {W N M : Nat} {vs L qs : List Nat} (h : Longhand W N vs M 0 L qs) : val W qs = N / val W vs ∧ val W L = N % val W vs := by
  have h1 := h.rest
  have h2 := h.sum
  rw [List.drop_zero] at h1
  have h3 : val W L = val W (L.take vs.length) := by
    by_cases hl : L.length ≤ vs.length
    · rw [List.take_of_length_le hl]
    · have h4 := val_take_drop W L vs.length (by omega)
      have h5 : val W (L.drop vs.length) = 0 := val_zero_of (fun j hj => by
        rw [List.length_drop] at hj
        rw [List.getElem_drop]
        exact h.zero _ (by omega) (by omega))
      rw [h5, Nat.mul_zero] at h4
      omega
  rw [← h3] at h1
  have hp : 0 < val W vs := by omega
  rw [Nat.mul_comm] at h2
  refine ⟨?_, ?_⟩
  · rw [← h2, Nat.mul_add_div hp, Nat.div_eq_of_lt h1, Nat.add_zero]
  · rw [← h2, Nat.mul_add_mod, Nat.mod_eq_of_lt h1]

/-- The window ahead of a digit. -/
theorem Longhand.window {W N M k m : Nat} {vs L qs : List Nat} (h : Longhand W N vs M (k + 1) L qs) (hn : vs.length = m + 2) (hv1 : 0 < vs[m + 1]) (hd : Dig W vs) (hW : 1 < W) (hl : k + vs.length < L.length) :
    (L[k + vs.length] ≤ vs[m + 1]) ∧
    ∃ U, U = val W ((L.drop k).take vs.length) + W ^ vs.length * L[k + vs.length] ∧ U < W * val W vs ∧ (digit3 W L[k + vs.length] L[k + m + 1] L[k + m] vs[m + 1] vs[m] = U / val W vs ∨ digit3 W L[k + vs.length] L[k + m + 1] L[k + m] vs[m + 1] vs[m] = U / val W vs + 1) := by
  have hr := h.rest
  have hX : ((L.drop k).take (vs.length + 1)).length = m + 3 := by rw [List.length_take, List.length_drop]; omega
  have e0 := val_top3 W ((L.drop k).take (vs.length + 1)) m hX
  have g0 : ((L.drop k).take (vs.length + 1))[m] = L[k + m] := by rw [List.getElem_take, List.getElem_drop]
  have g1 : ((L.drop k).take (vs.length + 1))[m + 1] = L[k + m + 1] := by rw [List.getElem_take, List.getElem_drop]; rfl
  have g2 : ((L.drop k).take (vs.length + 1))[m + 2] = L[k + vs.length] := by rw [List.getElem_take, List.getElem_drop]; congr 1; omega
  rw [g0, g1, g2] at e0
  have e1 : val W ((L.drop k).take (vs.length + 1)) = val W ((L.drop k).take vs.length) + W ^ vs.length * L[k + vs.length] := by
    have := val_take_succ W (L.drop k) vs.length (by rw [List.length_drop]; omega)
    rw [List.getElem_drop] at this
    exact this
  have e2 : val W ((L.drop k).take (vs.length + 1)) = L[k] + W * val W ((L.drop (k + 1)).take vs.length) := by
    rw [List.drop_eq_getElem_cons (show k < L.length by omega), List.take_succ_cons]; rfl
  have e3 := val_top2 W vs m hn
  have b0 := h.dig.at_ k (by omega)
  have b1 : val W (((L.drop k).take (vs.length + 1)).take m) < W ^ m := by
    have := val_lt W _ (((h.dig.drop_ k).take_ (vs.length + 1)).take_ m)
    rw [List.length_take, hX, Nat.min_eq_left (by omega)] at this
    exact this
  have b2 : val W (vs.take m) < W ^ m := by
    have := val_lt W _ (hd.take_ m)
    rw [List.length_take, hn, Nat.min_eq_left (by omega)] at this
    exact this
  have hUV : L[k] + W * val W ((L.drop (k + 1)).take vs.length) < W * val W vs := by
    have := Nat.mul_le_mul_left W hr
    rw [Nat.mul_succ] at this
    omega
  have hD : W ≤ vs[m + 1] * W + vs[m] := by
    have := Nat.mul_le_mul_right W hv1
    omega
  have htop : L[k + vs.length] ≤ vs[m + 1] := by
    rcases Nat.lt_or_ge vs[m + 1] L[k + vs.length] with hc | hc
    · exfalso
      have a1 : W ^ vs.length * (vs[m + 1] + 1) ≤ W ^ vs.length * L[k + vs.length] := Nat.mul_le_mul_left _ hc
      have a2 : val W vs < W ^ m * (W * (vs[m + 1] + 1)) := by
        rw [e3]
        have c1 := hd.at_ m (by omega)
        have c2 : W ^ m * (vs[m] + W * vs[m + 1] + 1) ≤ W ^ m * (W * (vs[m + 1] + 1)) := Nat.mul_le_mul_left _ (by rw [Nat.mul_add]; omega)
        rw [Nat.mul_add (W ^ m) _ 1] at c2
        omega
      have a3 : W * (W ^ m * (W * (vs[m + 1] + 1))) = W ^ vs.length * (vs[m + 1] + 1) := by
        rw [show W ^ vs.length = W ^ m * W * W from by rw [hn, Nat.pow_succ, Nat.pow_succ]]
        rw [Nat.mul_comm W (W ^ m * _), Nat.mul_assoc, Nat.mul_assoc, Nat.mul_assoc, Nat.mul_comm (vs[m + 1] + 1) W]
        exact (Nat.mul_assoc _ _ _).symm
      have a4 : W * val W vs ≤ W * (W ^ m * (W * (vs[m + 1] + 1))) := Nat.mul_le_mul_left _ (Nat.le_of_lt a2)
      omega
    · exact hc
  refine ⟨htop, val W ((L.drop k).take (vs.length + 1)), e1, by rw [e2]; exact hUV, ?_⟩
  have e4 : val W ((L.drop k).take (vs.length + 1)) = ((L[k + vs.length] * W + L[k + m + 1]) * W + L[k + m]) * W ^ m + val W (((L.drop k).take (vs.length + 1)).take m) := by
    rw [e0, Nat.add_comm]
    congr 1
    rw [Nat.mul_comm (W ^ m)]
    congr 1
    rw [Nat.add_comm (L[k + m])]
    congr 1
    rw [Nat.mul_comm W]
    congr 1
    rw [Nat.add_comm, Nat.mul_comm W]
  have e5 : val W vs = (vs[m + 1] * W + vs[m]) * W ^ m + val W (vs.take m) := by
    rw [e3, Nat.add_comm, Nat.mul_comm (W ^ m), Nat.add_comm vs[m], Nat.mul_comm W]
  exact digit3_near (Nat.pow_pos (by omega)) e5 b2 e4 b1 hD (by omega) (by rw [e2]; exact hUV)

/-- A window laid anew, the word above it 0. -/
def lay (L : List Nat) (k : Nat) (zs : List Nat) : List Nat := L.take k ++ zs ++ 0 :: L.drop (k + zs.length + 1)
theorem lay_eq {L : List Nat} {k : Nat} {zs : List Nat} (h : k + zs.length < L.length) : (patch L k zs).set (k + zs.length) 0 = lay L k zs := by
  unfold patch lay
  rw [List.drop_eq_getElem_cons h, List.set_append_right _ _ (by rw [List.length_append, List.length_take]; omega)]
  have e : k + zs.length - (L.take k ++ zs).length = 0 := by rw [List.length_append, List.length_take]; omega
  rw [e]; rfl
theorem lay_length {L : List Nat} {k : Nat} {zs : List Nat} (h : k + zs.length < L.length) : (lay L k zs).length = L.length := by
  unfold lay
  simp only [List.length_append, List.length_take, List.length_cons, List.length_drop]; omega
theorem lay_dig {b : Nat} {L : List Nat} {k : Nat} {zs : List Nat} (hb : 0 < b) (h : Dig b L) (hz : Dig b zs) : Dig b (lay L k zs) := ((h.take_ _).append_ hz).append_ (Dig.cons_ hb (h.drop_ _))
theorem lay_patch {L : List Nat} {k : Nat} {zs z2 : List Nat} (h : k + zs.length < L.length) (hl : z2.length = zs.length) : patch (lay L k zs) k z2 = lay L k z2 := by
  have h1 : (L.take k).length = k := by rw [List.length_take]; omega
  unfold patch
  have e1 : (lay L k zs).take k = L.take k := by
    unfold lay
    rw [List.append_assoc, List.take_left' h1]
  have e2 : (lay L k zs).drop (k + z2.length) = 0 :: L.drop (k + zs.length + 1) := by
    unfold lay
    rw [List.drop_left' (by rw [List.length_append, h1, hl])]
  rw [e1, e2]
  unfold lay
  rw [hl]
theorem lay_window {L : List Nat} {k : Nat} {zs : List Nat} (h : k + zs.length < L.length) : ((lay L k zs).drop k).take zs.length = zs := by
  have h1 : (L.take k).length = k := by rw [List.length_take]; omega
  unfold lay
  rw [List.append_assoc, List.drop_left' h1, List.take_left' rfl]
theorem lay_zero {L : List Nat} {k : Nat} {zs : List Nat} (h : k + zs.length < L.length) (hz : ∀ j (hj : j < L.length), k + 1 + zs.length ≤ j → L[j] = 0) : ∀ j (hj : j < (lay L k zs).length), k + zs.length ≤ j → (lay L k zs)[j] = 0 := by
  intro j hj hk
  have h1 : (L.take k ++ zs).length = k + zs.length := by rw [List.length_append, List.length_take]; omega
  unfold lay at hj ⊢
  rw [List.getElem_append_right (by omega)]
  rw [List.length_append, h1] at hj
  simp only [List.length_cons, List.length_drop] at hj
  obtain ⟨i, hi⟩ : ∃ i, i = j - (L.take k ++ zs).length := ⟨_, rfl⟩
  have : ∀ (i : Nat) (hi : i < (0 :: L.drop (k + zs.length + 1)).length), (0 :: L.drop (k + zs.length + 1))[i] = 0 := by
    intro i hi
    cases i with
    | zero => rfl
    | succ i =>
      rw [List.getElem_cons_succ, List.getElem_drop]
      simp only [List.length_cons, List.length_drop] at hi
      exact hz _ (by omega) (by omega)
  exact this _ _
theorem lay_val (b : Nat) {L : List Nat} {k : Nat} {zs : List Nat} (h : k + zs.length < L.length) : val b (lay L k zs) + b ^ k * (val b ((L.drop k).take zs.length) + b ^ zs.length * L[k + zs.length]) = val b L + b ^ k * val b zs := by
  have h1 : (L.take k).length = k := by rw [List.length_take]; omega
  have e1 := val_take_drop b L k (by omega)
  have e2 := val_take_drop b (L.drop k) zs.length (by rw [List.length_drop]; omega)
  rw [List.drop_drop, List.drop_eq_getElem_cons h] at e2
  have e3 : val b (L[k + zs.length] :: L.drop (k + zs.length + 1)) = L[k + zs.length] + b * val b (L.drop (k + zs.length + 1)) := rfl
  rw [e3] at e2
  have e4 : val b (lay L k zs) = val b (L.take k) + b ^ k * (val b zs + b ^ zs.length * (b * val b (L.drop (k + zs.length + 1)))) := by
    unfold lay
    rw [List.append_assoc, val_append, val_append, h1]
    simp [val]
  rw [e4, e1, e2]
  simp only [Nat.mul_add]
  omega

/-- The next digit. -/
theorem Longhand.next {W N M k U : Nat} {vs L qs zs : List Nat} (h : Longhand W N vs M (k + 1) L qs) (hl : k + vs.length < L.length) (hz : zs.length = vs.length) (hzd : Dig W zs) (hU : U = val W ((L.drop k).take vs.length) + W ^ vs.length * L[k + vs.length])
    (hzv : val W zs = U % val W vs) (hq : U / val W vs < W) (hV : 0 < val W vs) (hW : 0 < W) : Longhand W N vs M k (lay L k zs) (qs.set k (U / val W vs)) := by
  have hl' : k + zs.length < L.length := by omega
  have h1 := h.le
  have h2 := h.qlen
  have hkq : k < qs.length := by omega
  have e1 := lay_val W hl'
  have e2 := val_set W qs k (U / val W vs) hkq
  rw [h.qzero k hkq (by omega), Nat.mul_zero, Nat.add_zero] at e2
  have e3 := h.sum
  have e4 := Nat.div_add_mod U (val W vs)
  have e5 : val W (lay L k zs) + W ^ k * U = val W L + W ^ k * (U % val W vs) := by
    rw [hzv] at e1
    rw [← e1, hU]
    congr 2
    simp only [hz]
  refine ⟨by omega, (lay_length hl').trans h.len, lay_dig hW h.dig hzd, by rw [List.length_set]; exact h2, h.qdig.set_ k _ hq, ?_, ?_, ?_, ?_⟩
  · rw [e2, Nat.add_mul]
    have e6 : W ^ k * U = W ^ k * (U / val W vs) * val W vs + W ^ k * (U % val W vs) := by
      rw [Nat.mul_assoc, ← Nat.mul_add, Nat.mul_comm (U / val W vs), e4]
    omega
  · intro j hj hjk
    rw [List.getElem_set]
    rw [if_neg (by omega)]
    rw [List.length_set] at hj
    exact h.qzero j hj (by omega)
  · intro j hj hjk
    exact lay_zero hl' (fun j hj hjk => h.zero j hj (by omega)) j hj (by omega)
  · have := lay_window hl'
    rw [hz] at this
    rw [this, hzv]
    exact Nat.mod_lt _ hV
end
end Go.Proofs.YtadpelhmjmamnaaGreatDoor
