/- The library's sort at []uint32: reverseRangeOrdered; the pivot. Conditions: the row's size. -/
import Derived.Test.YtcopkeccogpkmaaDoorPkPp16
import Derived.Sort.LotD4
namespace Go.Proofs.YtcopkeccogpkmaaDoor
open Go.RowKit Go.Sort

theorem Rw.tb {p q : List Value} {g gs : Nat} {d : Array Nat} {w w' : World} (h : Rw p q g d w) (ht : Tb gs w w') (hne : g ≠ gs) : Rw p q g d w' := (ht.block g h.lt hne).trans h
theorem rl_go (i j : Nat) (d : Array Nat) (h : i < j) : reverseLoop i j d = reverseLoop (i + 1) (j - 1) (swp d i j) := by rw [reverseLoop, if_pos h]
theorem rl_stop (i j : Nat) (d : Array Nat) (h : ¬ i < j) : reverseLoop i j d = d := by rw [reverseLoop, if_neg h]
set_option maxHeartbeats 2000000 in
theorem reverse_any {p q : List Value} {g o : Nat} (ho : p.length = o) (cap a b : Nat) (d : Array Nat) (w : World) (h : Rw p q g d w) (hab : a < b) (hb : b ≤ d.size) (hsz : d.size < 2305843009213693952) :
    Calls Tryd.prog 29 #[.slice (some ⟨g, o, none⟩) d.size cap, .int .i64 (a : Int), .int .i64 (b : Int)] w fun e w' =>
      e = .returned (.tuple #[]) ∧ Rw p q g (reverseRange d a b) w' ∧ Tb g w w' := by
  obtain ⟨n, hn⟩ : ∃ n, n = d.size := ⟨_, rfl⟩
  rw [← hn] at hb hsz ⊢
  obtain ⟨c, hcb⟩ : ∃ c, b = c + 1 := ⟨b - 1, by omega⟩
  subst hcb
  have Hn := Lib.hid hn
  have H := Lib.hid h
  clear h hn
  go_enter Tryd.func29, Tryd.ntmps29
  go_wp2
  go_loopg [6, 7] (c + 1 - a) (fun m vi vj wr => ∃ (i j : Nat) (f : Array Nat), vi = .int .i64 (i : Int) ∧ vj = .int .i64 (j : Int) ∧ a ≤ i ∧ i ≤ j + 1 ∧ j ≤ c ∧ j + 1 - i ≤ m ∧ Hid (f.size = n) ∧ Hid (Rw p q g f wr) ∧ Hid (Tb g w wr) ∧ Hid (reverseLoop i j f = reverseRange d a (c + 1)))
  case atStart => exact ⟨a, c, d, rfl, by go_num, Nat.le_refl _, by omega, Nat.le_refl _, Nat.le_refl _, Hn.out.symm, H.out, Tb.refl _ _, rfl⟩
  case round =>
    obtain ⟨i, j, f, rfl, rfl, hai, hij, hjc, hm, HF, HS, HU, HI⟩ := hrel
    by_cases hlt : i < j
    · obtain ⟨G, hG⟩ : ∃ G : Nat → Nat, ∀ t, G t = f[t]! := ⟨fun t => f[t]!, fun _ => rfl⟩
      have HG := Lib.hid hG
      have hc : ∀ t, t < n → wr.cell? ⟨g, o + t, none⟩ = some (.int .u32 (G t : Int)) := fun t ht => by rw [hG]; exact HS.out.cell ho (by rw [HF.out]; exact ht)
      have hf : ∀ t, t < n → wr.frozen? ⟨g, o + t, none⟩ = false := fun t _ => HS.out.frozen _
      clear hG
      have HI2 : Hid (reverseLoop (i + 1) (j - 1) (swp f i j) = reverseRange d a (c + 1)) := by show _ = _; rw [← HI.out, rl_go i j f hlt]
      go_wp2
      go_region
      all_goals go_wp2
      go_roundg (j - i - 1)
      case measure => omega
      case rel => exact ⟨i + 1, j - 1, _, by go_num, by congr 1; omega, by omega, by omega, by omega, by omega, by show (swp f i j).size = n; rw [swp_size]; exact HF.out, (HS.out.swap ho (by rw [HF.out]; omega) (by rw [HF.out]; omega) (HG.out _) (HG.out _)).drew, ((HU.out.setCell _ _).setCell _ _).drew, HI2.out⟩
    · go_wp2
      go_end0
      exact ⟨rfl, by rw [← HI.out, rl_stop _ _ _ hlt]; exact HS.out, HU.out⟩

/-- A counter in a block of its own. -/
def Ct (gs s : Nat) (w : World) : Prop := Blk w gs 3 [.int .i64 (s : Int)]
theorem Ct.put {gs s : Nat} {w : World} (h : Ct gs s w) (t : Nat) : Ct gs t (w.setCell ⟨gs, 0, none⟩ (.int .i64 (t : Int))) := by
  have := Blk.set_ h 0 (.int .i64 (t : Int))
  exact this
theorem Ct.drew {gs s : Nat} {w : World} (h : Ct gs s w) : Ct gs s w.drew := h
theorem Ct.drewN {gs s : Nat} {w : World} (h : Ct gs s w) (n : Nat) : Ct gs s (w.drewN n) := h

set_option maxHeartbeats 2000000 in
theorem order_any2 {p q : List Value} {g o gs : Nat} (ho : p.length = o) (_ : g ≠ gs) (cap a b s : Nat) (d : Array Nat) (w : World) (h : Rw p q g d w) (hs : Ct gs s w) (ha : a < d.size) (hb : b < d.size) (hs9 : s < 1000) (_ : d.size < 2305843009213693952) :
    Calls Tryd.prog 45 #[.slice (some ⟨g, o, none⟩) d.size cap, .int .i64 (a : Int), .int .i64 (b : Int), .pointer (some ⟨gs, 0, none⟩)] w fun e w' =>
      ∃ x y t, order2 ltN d a b s = (x, y, t) ∧ e = .returned (.tuple #[.int .i64 (x : Int), .int .i64 (y : Int)]) ∧ x < d.size ∧ y < d.size ∧ t ≤ s + 1 ∧ Ct gs t w' ∧ Tb gs w w' := by
  obtain ⟨n, hn⟩ : ∃ n, n = d.size := ⟨_, rfl⟩
  rw [← hn] at ha hb ⊢
  have HL : Hid (∀ (x y : Nat) W, Calls Tryd.prog 31 #[.int .u32 (x : Int), .int .u32 (y : Int)] W fun r W' => r = .returned (.bool (ltN x y)) ∧ W' = W) := fun x y W => lessN x y W
  obtain ⟨G, hG⟩ : ∃ G : Nat → Nat, ∀ t, G t = d[t]! := ⟨fun t => d[t]!, fun _ => rfl⟩
  have HG := Lib.hid hG
  have hc : ∀ t, t < n → w.cell? ⟨g, o + t, none⟩ = some (.int .u32 (G t : Int)) := fun t ht => by rw [hG]; exact h.cell ho (by omega)
  have c0 : w.cell? ⟨gs, 0, none⟩ = some (.int .i64 (s : Int)) := Blk.cell hs 0
  have f0 : w.frozen? ⟨gs, 0, none⟩ = false := Blk.frozen hs 0
  have HS := Lib.hid hs
  clear hG h hs hn
  go_enter Tryd.func45, Tryd.ntmps45
  go_wp2
  go_quiet (first | (go_at_call 31; refine Calls.quiet_of_same (HL.out _ _ _)))
  go_wp2
  · have hl : ltN (G b) (G a) = true := by assumption
    rw [HG.out, HG.out] at hl
    go_ret2
    exact ⟨b, a, s + 1, by unfold order2; rw [if_pos hl], rfl, hb, ha, Nat.le_refl _, HS.out.put (s + 1), ((Tb.refl gs w).drewN _).setCell 0 _⟩
  · have hl : ltN (G b) (G a) = false := by assumption
    rw [HG.out, HG.out] at hl
    go_ret2
    exact ⟨a, b, s, by unfold order2; rw [if_neg (by rw [hl]; simp)], rfl, ha, hb, Nat.le_succ _, HS.out.drewN _, (Tb.refl gs w).drewN _⟩

abbrev H2 (p q : List Value) (g o gs n cap : Nat) (d : Array Nat) : Prop := ∀ (a b s : Nat) W, a < n → b < n → s < 1000 → Rw p q g d W → Ct gs s W → Calls Tryd.prog 45 #[.slice (some ⟨g, o, none⟩) n cap, .int .i64 (a : Int), .int .i64 (b : Int), .pointer (some ⟨gs, 0, none⟩)] W fun e W' =>
    ∃ x y t, order2 ltN d a b s = (x, y, t) ∧ e = .returned (.tuple #[.int .i64 (x : Int), .int .i64 (y : Int)]) ∧ x < n ∧ y < n ∧ t ≤ s + 1 ∧ Ct gs t W' ∧ Tb gs W W'
set_option maxHeartbeats 2000000 in
theorem median_any {p q : List Value} {g o gs : Nat} (ho : p.length = o) (hgs : g ≠ gs) (cap a b c s : Nat) (d : Array Nat) (w : World) (h : Rw p q g d w) (hs : Ct gs s w) (ha : a < d.size) (hb : b < d.size) (hc : c < d.size) (hs9 : s < 900) (hsz : d.size < 2305843009213693952) :
    Calls Tryd.prog 43 #[.slice (some ⟨g, o, none⟩) d.size cap, .int .i64 (a : Int), .int .i64 (b : Int), .int .i64 (c : Int), .pointer (some ⟨gs, 0, none⟩)] w fun e w' =>
      ∃ x t, median ltN d a b c s = (x, t) ∧ e = .returned (.int .i64 (x : Int)) ∧ x < d.size ∧ t ≤ s + 3 ∧ Ct gs t w' ∧ Tb gs w w' := by
  obtain ⟨n, hn⟩ : ∃ n, n = d.size := ⟨_, rfl⟩
  have HO : Hid (H2 p q g o gs n cap d) := fun a b s W h1 h2 h3 h4 h5 => by
    have h9 := order_any2 ho hgs cap a b s d W h4 h5 (by omega) (by omega) h3 hsz
    rw [← hn] at h9
    exact h9
  rw [← hn] at ha hb hc hsz ⊢
  have HR := Lib.hid h
  have HS := Lib.hid hs
  clear h hs hn
  go_enter Tryd.func43, Tryd.ntmps43
  go_upto_region 2 with (go_at_call 45; (with_reducible refine (HO.out a b s _ ha hb (by omega) HR.out HS.out).mono ?_); rintro _ w1 ⟨x1, y1, s1, e1, rfl, hx1, hy1, hs1, hc1, ht1⟩; have E1 := Lib.hid e1; have HS1 := Lib.hid hc1; have HT1 := Lib.hid ht1; have HR1 := Lib.hid (HR.out.tb ht1 hgs); clear e1 hc1 ht1)
  go_upto_region 3 with (go_at_call 45; (with_reducible refine (HO.out y1 c s1 _ hy1 hc (by omega) HR1.out HS1.out).mono ?_); rintro _ w2 ⟨x2, y2, s2, e2, rfl, hx2, hy2, hs2, hc2, ht2⟩; have E2 := Lib.hid e2; have HS2 := Lib.hid hc2; have HT2 := Lib.hid ht2; have HR2 := Lib.hid (HR1.out.tb ht2 hgs); clear e2 hc2 ht2)
  go_wp2_with (go_at_call 45; (with_reducible refine (HO.out x1 x2 s2 _ hx1 hx2 (by omega) HR2.out HS2.out).mono ?_); rintro _ w3 ⟨x3, y3, s3, e3, rfl, hx3, hy3, hs3, hc3, ht3⟩; have E3 := Lib.hid e3; have HS3 := Lib.hid hc3; have HT3 := Lib.hid ht3; clear e3 hc3 ht3)
  go_ret
  exact ⟨y3, s3, by unfold median; simp only [E1.out, E2.out, E3.out], rfl, hy3, by omega, HS3.out, (HT1.out.trans HT2.out).trans HT3.out⟩
set_option maxHeartbeats 2000000 in
theorem medianAdj_any {p q : List Value} {g o gs : Nat} (ho : p.length = o) (hgs : g ≠ gs) (cap a s : Nat) (d : Array Nat) (w : World) (h : Rw p q g d w) (hs : Ct gs s w) (ha0 : 0 < a) (ha : a + 1 < d.size) (hs9 : s < 900) (hsz : d.size < 2305843009213693952) :
    Calls Tryd.prog 42 #[.slice (some ⟨g, o, none⟩) d.size cap, .int .i64 (a : Int), .pointer (some ⟨gs, 0, none⟩)] w fun e w' =>
      ∃ x t, medianAdjacent ltN d a s = (x, t) ∧ e = .returned (.int .i64 (x : Int)) ∧ x < d.size ∧ t ≤ s + 3 ∧ Ct gs t w' ∧ Tb gs w w' := by
  obtain ⟨b, hb⟩ : ∃ b, a = b + 1 := ⟨a - 1, by omega⟩
  subst hb
  have h9 := median_any ho hgs cap b (b + 1) (b + 2) s d w h hs (by omega) (by omega) (by omega) hs9 hsz
  obtain ⟨n, hn⟩ : ∃ n, n = d.size := ⟨_, rfl⟩
  rw [← hn] at ha hsz h9 ⊢
  have HM := Lib.hid h9
  clear h9 h hs hn
  go_enter Tryd.func42, Tryd.ntmps42
  go_wp2_with (go_at_call 43; refine HM.out.mono ?_; rintro _ w1 ⟨x1, s1, e1, rfl, hx1, hs1, hc1, ht1⟩)
  go_ret
  exact ⟨x1, s1, e1, rfl, hx1, hs1, hc1, ht1⟩

set_option maxHeartbeats 4000000 in
theorem pivot_any {p q : List Value} {g o : Nat} (ho : p.length = o) (cap a b : Nat) (d : Array Nat) (w : World) (h : Rw p q g d w) (hab : a + 8 ≤ b) (hb : b ≤ d.size) (hsz : d.size < 2305843009213693952) :
    Calls Tryd.prog 28 #[.slice (some ⟨g, o, none⟩) d.size cap, .int .i64 (a : Int), .int .i64 (b : Int)] w fun e w' =>
      ∃ x hh, choosePivot ltN d a b = (x, hh) ∧ e = .returned (.tuple #[.int .i64 (x : Int), .int .i64 (hintCode hh)]) ∧ x < d.size ∧ Below w.heap.size w w' := by
  obtain ⟨n, hn⟩ : ∃ n, n = d.size := ⟨_, rfl⟩
  obtain ⟨gs, hgse⟩ : ∃ gs, gs = w.heap.size := ⟨_, rfl⟩
  have hgs : g ≠ gs := by have := h.lt; omega
  have HA : Hid (∀ (c s : Nat) W, 0 < c → c + 1 < n → s < 900 → Rw p q g d W → Ct gs s W → Calls Tryd.prog 42 #[.slice (some ⟨g, o, none⟩) n cap, .int .i64 (c : Int), .pointer (some ⟨gs, 0, none⟩)] W fun e W' => ∃ x t, medianAdjacent ltN d c s = (x, t) ∧ e = .returned (.int .i64 (x : Int)) ∧ x < n ∧ t ≤ s + 3 ∧ Ct gs t W' ∧ Tb gs W W') := fun c s W h1 h2 h3 h4 h5 => by
    have h9 := medianAdj_any ho hgs cap c s d W h4 h5 h1 (by omega) h3 hsz
    rw [← hn] at h9; exact h9
  have HM : Hid (∀ (i j k s : Nat) W, i < n → j < n → k < n → s < 900 → Rw p q g d W → Ct gs s W → Calls Tryd.prog 43 #[.slice (some ⟨g, o, none⟩) n cap, .int .i64 (i : Int), .int .i64 (j : Int), .int .i64 (k : Int), .pointer (some ⟨gs, 0, none⟩)] W fun e W' => ∃ x t, median ltN d i j k s = (x, t) ∧ e = .returned (.int .i64 (x : Int)) ∧ x < n ∧ t ≤ s + 3 ∧ Ct gs t W' ∧ Tb gs W W') := fun i j k s W h1 h2 h3 h4 h5 h6 => by
    have h9 := median_any ho hgs cap i j k s d W h5 h6 (by omega) (by omega) (by omega) h4 hsz
    rw [← hn] at h9; exact h9
  rw [← hn] at hb hsz ⊢
  obtain ⟨L, hL⟩ : ∃ L, L = b - a := ⟨_, rfl⟩
  have HLm : Hid (b - a = L) := hL.symm
  obtain ⟨m, hm⟩ : ∃ m, m = L / 4 := ⟨_, rfl⟩
  obtain ⟨i1, hi1⟩ : ∃ i1, i1 = a + m := ⟨_, rfl⟩
  obtain ⟨j1, hj1⟩ : ∃ j1, j1 = a + m * 2 := ⟨_, rfl⟩
  obtain ⟨k1, hk1⟩ : ∃ k1, k1 = a + m * 3 := ⟨_, rfl⟩
  have q1 : (b : Int) - (a : Int) = (L : Int) := by omega
  have q2 : (L : Int).tdiv 4 = (m : Int) := by rw [hm]; exact (Int.ofNat_tdiv L 4).symm
  have q3 : (a : Int) + (m : Int) = (i1 : Int) := by omega
  have q4 : (a : Int) + (m : Int) * 2 = (j1 : Int) := by omega
  have q5 : (a : Int) + (m : Int) * 3 = (k1 : Int) := by omega
  have HI : Hid (a + L / 4 * 1 = i1) := by show _ = _; omega
  have HJ : Hid (a + L / 4 * 2 = j1) := by show _ = _; omega
  have HK : Hid (a + L / 4 * 3 = k1) := by show _ = _; omega
  have HR0 : Hid (Rw p q g d (w.alloc (.cells #[.int .i64 0] 3))) := h.alloc _
  have HS0 : Hid (Ct gs 0 (w.alloc (.cells #[.int .i64 0] 3))) := by rw [hgse]; exact Blk.new_ rfl
  have Hbl : Hid (Below w.heap.size w (w.alloc (.cells #[.int .i64 0] 3))) := (Below.refl _ _).alloc (Nat.le_refl _) _
  have Hg := Lib.hid hgse
  have l1 : i1 + 1 < n := by omega
  have l2 : j1 + 1 < n := by omega
  have l3 : k1 + 1 < n := by omega
  have l4 : 0 < i1 ∧ 0 < j1 ∧ 0 < k1 := by omega
  have hL8 : 8 ≤ L := by omega
  clear h hn hL hm hi1 hj1 hk1 hgse
  go_enter Tryd.func28, Tryd.ntmps28
  go_upto_region 6 with (fail)
  rw [← Hg.out]
  generalize w.alloc (.cells #[.int .i64 0] 3) = W0 at HR0 HS0 Hbl ⊢
  by_cases h50 : 50 ≤ L
  · go_upto_region 9 with (go_at_call 42; (with_reducible refine (HA.out i1 0 _ l4.1 l1 (by omega) HR0.out HS0.out).mono ?_); rintro _ w1 ⟨x1, s1, e1, rfl, hx1, hs1, hc1, ht1⟩; have E1 := Lib.hid e1; have HS1 := Lib.hid hc1; have HT1 := Lib.hid ht1; have HR1 := Lib.hid (HR0.out.tb ht1 hgs); clear e1 hc1 ht1)
    go_upto_region 10 with (go_at_call 42; (with_reducible refine (HA.out j1 s1 _ l4.2.1 l2 (by omega) HR1.out HS1.out).mono ?_); rintro _ w2 ⟨x2, s2, e2, rfl, hx2, hs2, hc2, ht2⟩; have E2 := Lib.hid e2; have HS2 := Lib.hid hc2; have HT2 := Lib.hid ht2; have HR2 := Lib.hid (HR1.out.tb ht2 hgs); clear e2 hc2 ht2)
    go_upto_region 11 with (go_at_call 42; (with_reducible refine (HA.out k1 s2 _ l4.2.2 l3 (by omega) HR2.out HS2.out).mono ?_); rintro _ w3 ⟨x3, s3, e3, rfl, hx3, hs3, hc3, ht3⟩; have E3 := Lib.hid e3; have HS3 := Lib.hid hc3; have HT3 := Lib.hid ht3; have HR3 := Lib.hid (HR2.out.tb ht3 hgs); clear e3 hc3 ht3)
    go_upto_region 12 with (go_at_call 43; (with_reducible refine (HM.out x1 x2 x3 s3 _ hx1 hx2 hx3 (by omega) HR3.out HS3.out).mono ?_); rintro _ w4 ⟨x4, s4, e4, rfl, hx4, hs4, hc4, ht4⟩; have E4 := Lib.hid e4; have HS4 := Lib.hid hc4; have HT4 := Lib.hid ht4; have HR4 := Lib.hid (HR3.out.tb ht4 hgs); clear e4 hc4 ht4)
    have c0 : w4.cell? ⟨gs, 0, none⟩ = some (.int .i64 (s4 : Int)) := Blk.cell HS4.out 0
    have HB : Hid (Below w.heap.size w w4) := Hbl.out.trans ((((HT1.out.trans HT2.out).trans HT3.out).trans HT4.out).below (by rw [← Hg.out]; exact Nat.le_refl _) Hbl.out.size)
    have HH : Hid (choosePivot ltN d a b = (x4, hintOf s4)) := by
      show _ = _
      rw [choosePivot_eq]
      have e9 : rawPivot ltN d a b = (x4, s4) := by
        unfold rawPivot
        rw [HLm.out]
        rw [if_pos (by omega), if_pos h50, HI.out, HJ.out, HK.out]; simp only [E1.out, E2.out, E3.out, E4.out]
      rw [e9]
    by_cases h0 : s4 = 0
    · have t1 : ((s4 : Int) == 0) = true := by simp; omega
      go_wp2
      go_ret2
      exact ⟨x4, hintOf s4, HH.out, by rw [h0]; rfl, by omega, HB.out⟩
    · have t1 : ((s4 : Int) == 0) = false := by simp; omega
      by_cases h1 : s4 = 12
      · have t2 : ((s4 : Int) == 12) = true := by simp; omega
        go_wp2
        go_ret2
        exact ⟨x4, hintOf s4, HH.out, by rw [h1]; rfl, by omega, HB.out⟩
      · have t2 : ((s4 : Int) == 12) = false := by simp; omega
        go_wp2
        go_ret2
        exact ⟨x4, hintOf s4, HH.out, by unfold hintOf; rw [if_neg h0, if_neg h1]; rfl, by omega, HB.out⟩
  · go_upto_region 12 with (go_at_call 43; (with_reducible refine (HM.out i1 j1 k1 0 _ (by omega) (by omega) (by omega) (by omega) HR0.out HS0.out).mono ?_); rintro _ w4 ⟨x4, s4, e4, rfl, hx4, hs4, hc4, ht4⟩; have E4 := Lib.hid e4; have HS4 := Lib.hid hc4; have HT4 := Lib.hid ht4; have HR4 := Lib.hid (HR0.out.tb ht4 hgs); clear e4 hc4 ht4)
    have c0 : w4.cell? ⟨gs, 0, none⟩ = some (.int .i64 (s4 : Int)) := Blk.cell HS4.out 0
    have HB : Hid (Below w.heap.size w w4) := Hbl.out.trans ((HT4.out).below (by rw [← Hg.out]; exact Nat.le_refl _) Hbl.out.size)
    have HH : Hid (choosePivot ltN d a b = (x4, hintOf s4)) := by
      show _ = _
      rw [choosePivot_eq]
      have e9 : rawPivot ltN d a b = (x4, s4) := by
        unfold rawPivot
        rw [HLm.out]
        rw [if_pos (by omega), if_neg h50, HI.out, HJ.out, HK.out]; exact E4.out
      rw [e9]
    by_cases h0 : s4 = 0
    · have t1 : ((s4 : Int) == 0) = true := by simp; omega
      go_wp2
      go_ret2
      exact ⟨x4, hintOf s4, HH.out, by rw [h0]; rfl, by omega, HB.out⟩
    · have t1 : ((s4 : Int) == 0) = false := by simp; omega
      by_cases h1 : s4 = 12
      · have t2 : ((s4 : Int) == 12) = true := by simp; omega
        go_wp2
        go_ret2
        exact ⟨x4, hintOf s4, HH.out, by rw [h1]; rfl, by omega, HB.out⟩
      · have t2 : ((s4 : Int) == 12) = false := by simp; omega
        go_wp2
        go_ret2
        exact ⟨x4, hintOf s4, HH.out, by unfold hintOf; rw [if_neg h0, if_neg h1]; rfl, by omega, HB.out⟩
end Go.Proofs.YtcopkeccogpkmaaDoor
