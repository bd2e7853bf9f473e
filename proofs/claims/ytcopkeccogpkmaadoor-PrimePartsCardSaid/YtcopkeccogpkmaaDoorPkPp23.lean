/- The library's sort at []uint32: pdqsortOrdered, slices.Sort: a permutation that rises. Conditions: the row's size. -/
import Derived.Test.YtcopkeccogpkmaaDoorPkPp22
import Derived.Deep.CutBlock
import Derived.Deep.DeepCutAuto
namespace Go.Proofs.YtcopkeccogpkmaaDoor
open Go.RowKit Go.Sort

/-- The row on its way: what its part from a' to b' becomes, sorted, settles the whole. -/
structure PQ (p q : List Value) (g n : Nat) (w0 : World) (a b : Nat) (d : Array Nat) (a' b' : Nat) (f : Array Nat) (W : World) : Prop where
  size : f.size = n
  row : Rw p q g f W
  tb : Tb g w0 W
  low : Sort.Below ltN a' b' f
  all : ∀ R, PermIn a' b' f R → SortedIn ltN a' b' R → PermIn a b d R ∧ SortedIn ltN a b R
theorem PQ.perm {p q : List Value} {g n : Nat} {w0 : World} {a b : Nat} {d : Array Nat} {a' b' : Nat} {f f2 : Array Nat} {W W2 : World} (h : PQ p q g n w0 a b d a' b' f W) (hb : b' ≤ n) (hp : PermIn a' b' f f2) (hr : Rw p q g f2 W2) (ht : Tb g W W2) : PQ p q g n w0 a b d a' b' f2 W2 :=
  ⟨hp.1.trans h.size, hr, h.tb.trans ht, h.low.perm (by rw [h.size]; exact hb) hp, fun R hR hs => h.all R (permIn_trans _ _ _ _ _ hp hR) hs⟩
theorem PQ.next {p q : List Value} {g n : Nat} {w0 : World} {a b : Nat} {d : Array Nat} {a' b' : Nat} {f : Array Nat} {W W2 : World} (h : PQ p q g n w0 a b d a' b' f W) (hb : Go.RowKit.Below W.heap.size W W2) : PQ p q g n w0 a b d a' b' f W2 :=
  ⟨h.size, h.row.below hb h.row.lt, ⟨hb.os.trans h.tb.os, hb.tape.trans h.tb.tape, hb.output.trans h.tb.output, Nat.le_trans h.tb.size hb.size, fun k hk hg => (hb.block k (Nat.lt_of_lt_of_le hk h.tb.size)).trans (h.tb.block k hk hg)⟩, h.low, h.all⟩
theorem PQ.drewN {p q : List Value} {g n : Nat} {w0 : World} {a b : Nat} {d : Array Nat} {a' b' : Nat} {f : Array Nat} {W : World} (h : PQ p q g n w0 a b d a' b' f W) (k : Nat) : PQ p q g n w0 a b d a' b' f (W.drewN k) := ⟨h.size, h.row.drewN k, h.tb.drewN k, h.low, h.all⟩

set_option maxHeartbeats 12800000 in
set_option maxRecDepth 20000 in
theorem pdq_any {p q : List Value} {g o : Nat} (ho : p.length = o) (cap n : Nat) (hsz : n < 2305843009213693952) : ∀ (N a b limit : Nat) (d : Array Nat) (w : World), b - a < N → d.size = n → Rw p q g d w → a ≤ b → b ≤ n → limit < 4611686018427387904 → Sort.Below ltN a b d →
    Calls Tryd.prog 19 #[.slice (some ⟨g, o, none⟩) n cap, .int .i64 (a : Int), .int .i64 (b : Int), .int .i64 (limit : Int)] w fun e w' => e = .returned (.tuple #[]) ∧ ∃ R, Rw p q g R w' ∧ Tb g w w' ∧ PermIn a b d R ∧ SortedIn ltN a b R := by
  intro N
  induction N with
  | zero => intro _ _ _ _ _ h; exact absurd h (Nat.not_lt_zero _)
  | succ N ih =>
    intro a b limit d w hN hds hrw hab hb hlimit hlow
    have HL : Hid (∀ (x y : Nat) W, Calls Tryd.prog 31 #[.int .u32 (x : Int), .int .u32 (y : Int)] W fun r W' => r = .returned (.bool (ltN x y)) ∧ W' = W) := fun x y W => lessN x y W
    have P0 : Hid (PQ p q g n w a b d a b d w) := ⟨hds, hrw, Tb.refl _ _, hlow, fun R h1 h2 => ⟨h1, h2⟩⟩
    have IH := Lib.hid ih
    clear ih hds hrw hlow
    go_enter Tryd.func19, Tryd.ntmps19
    go_wp2
    go_loopg [1, 2, 3, 8, 9] (b - a) (fun k s1 s2 s3 s8 s9 wr => ∃ (a' b' lim : Nat) (wb wp : Bool) (f : Array Nat), s1 = .int .i64 (a' : Int) ∧ s2 = .int .i64 (b' : Int) ∧ s3 = .int .i64 (lim : Int) ∧ s8 = .bool wb ∧ s9 = .bool wp ∧
      a' ≤ b' ∧ b' ≤ n ∧ b' - a' ≤ k ∧ k ≤ b - a ∧ lim ≤ limit ∧ Hid (PQ p q g n w a b d a' b' f wr))
    case atStart => exact ⟨a, b, limit, true, true, d, rfl, rfl, rfl, rfl, rfl, hab, hb, Nat.le_refl _, Nat.le_refl _, Nat.le_refl _, P0.out⟩
    case round =>
      obtain ⟨a', b', lim, wb, wp, f, rfl, rfl, rfl, rfl, rfl, hab', hb', hk, hkN, hlim, HP⟩ := hrel
      by_cases h12 : b' - a' ≤ 12
      · have z12 : (b' : Int) - (a' : Int) ≤ 12 := by omega
        have HC : Hid (Calls Tryd.prog 25 #[.slice (some ⟨g, o, none⟩) n cap, .int .i64 (a' : Int), .int .i64 (b' : Int)] wr fun e w' => e = .returned (.tuple #[]) ∧ Rw p q g (insertionSort ltN f a' b') w' ∧ Tb g wr w') := by
          have h9 := insertion_any ho cap a' b' f wr HP.out.row hab' (by rw [HP.out.size]; exact hb') (by rw [HP.out.size]; omega)
          rw [HP.out.size] at h9; exact h9
        go_wp2_with (go_at_call 25; refine HC.out.mono ?_; rintro _ w1 ⟨rfl, hr1, ht1⟩)
        (try simp only [Exit.inBlock, Exit.then]); refine bodyPost_ret (results_none rfl _ _ _) rfl ?_
        obtain ⟨h1, h2⟩ := insertionSort_holds (lt := ltN) ltN_swo f a' b' hab' (by rw [HP.out.size]; exact hb')
        obtain ⟨h3, h4⟩ := HP.out.all _ h1 h2
        exact ⟨rfl, _, hr1, HP.out.tb.trans ht1, h3, h4⟩
      · have z12 : ¬ ((b' : Int) - (a' : Int) ≤ 12) := by omega
        by_cases hl0 : lim = 0
        · have zl : ((lim : Int) == 0) = true := by simp; omega
          have HC : Hid (Calls Tryd.prog 26 #[.slice (some ⟨g, o, none⟩) n cap, .int .i64 (a' : Int), .int .i64 (b' : Int)] wr fun e w' => e = .returned (.tuple #[]) ∧ Rw p q g (heapSort ltN f a' b') w' ∧ Tb g wr w') := by
            have h9 := heap_any ho cap a' b' f wr HP.out.row hab' (by rw [HP.out.size]; exact hb') (by rw [HP.out.size]; omega)
            rw [HP.out.size] at h9; exact h9
          go_wp2_with (go_at_call 26; refine HC.out.mono ?_; rintro _ w1 ⟨rfl, hr1, ht1⟩)
          (try simp only [Exit.inBlock, Exit.then]); refine bodyPost_ret (results_none rfl _ _ _) rfl ?_
          obtain ⟨h1, h2⟩ := heapSort_holds (lt := ltN) ltN_swo f a' b' hab' (by rw [HP.out.size]; exact hb')
          obtain ⟨h3, h4⟩ := HP.out.all _ h1 h2
          exact ⟨rfl, _, hr1, HP.out.tb.trans ht1, h3, h4⟩
        · have zl : ((lim : Int) == 0) = false := by simp; omega
          go_upto_if 35 with fail
          go_cut [3] from 19 (fun s3 wc => ∃ (l2 : Nat) (f2 : Array Nat), s3 = .int .i64 (l2 : Int) ∧ l2 ≤ lim ∧ Hid (PQ p q g n w a b d a' b' f2 wc))
          case first =>
            cases wb
            · have HC : Hid (Calls Tryd.prog 27 #[.slice (some ⟨g, o, none⟩) n cap, .int .i64 (a' : Int), .int .i64 (b' : Int)] wr fun e w' => e = .returned (.tuple #[]) ∧ Rw p q g (breakPatterns f a' b') w' ∧ Tb g wr w') := by
                have h9 := break_any ho cap a' (b' - a') f wr HP.out.row (by omega) (by rw [HP.out.size]; omega) (by rw [HP.out.size]; omega)
                rw [HP.out.size, show a' + (b' - a') = b' by omega] at h9; exact h9
              go_wp2_with (go_at_call 27; refine HC.out.mono ?_; rintro _ w1 ⟨rfl, hr1, ht1⟩)
              go_meet
              case rel => exact ⟨lim - 1, _, by congr 1; omega, by omega, HP.out.perm hb' (breakPatterns_holds f a' b' hab' (by rw [HP.out.size]; exact hb')) hr1 ht1⟩
            · go_wp2_with fail
              go_meet
              case rel => exact ⟨lim, f, rfl, Nat.le_refl _, HP.out⟩
          case rest =>
            obtain ⟨l2, f2, rfl, hl2, HP2⟩ := hcut
            have HC2 : Hid (Calls Tryd.prog 28 #[.slice (some ⟨g, o, none⟩) n cap, .int .i64 (a' : Int), .int .i64 (b' : Int)] wc fun e w' => ∃ x hh, choosePivot ltN f2 a' b' = (x, hh) ∧ e = .returned (.tuple #[.int .i64 (x : Int), .int .i64 (hintCode hh)]) ∧ x < n ∧ Go.RowKit.Below wc.heap.size wc w') := by
              have h9 := pivot_any ho cap a' b' f2 wc HP2.out.row (by omega) (by rw [HP2.out.size]; exact hb') (by rw [HP2.out.size]; omega)
              rw [HP2.out.size] at h9; exact h9
            go_upto_if 50 with (go_at_call 28; refine HC2.out.mono ?_; rintro _ w2 ⟨x, hh, hx, rfl, hxn, hb2⟩; have HP3 := Lib.hid (HP2.out.next hb2); have hxr : a' ≤ x ∧ x < b' := (by have h9 := choosePivot_holds ltN f2 a' b' (by omega); rw [hx] at h9; exact h9); clear hx hb2)
            go_cut [11, 12] from 19 (fun s11 s12 wc => ∃ (pv : Nat) (hc : Int) (f3 : Array Nat), s11 = .int .i64 (pv : Int) ∧ s12 = .int .i64 hc ∧ a' ≤ pv ∧ pv < b' ∧ Hid (PQ p q g n w a b d a' b' f3 wc))
            case first =>
              by_cases hdec : hintCode hh = 2
              · have zd : (hintCode hh == 2) = true := by rw [hdec]; rfl
                have HC3 : Hid (Calls Tryd.prog 29 #[.slice (some ⟨g, o, none⟩) n cap, .int .i64 (a' : Int), .int .i64 (b' : Int)] w2 fun e w' => e = .returned (.tuple #[]) ∧ Rw p q g (reverseRange f2 a' b') w' ∧ Tb g w2 w') := by
                  have h9 := reverse_any ho cap a' b' f2 w2 HP3.out.row (by omega) (by rw [HP3.out.size]; exact hb') (by rw [HP3.out.size]; omega)
                  rw [HP3.out.size] at h9; exact h9
                go_wp2_with (go_at_call 29; refine HC3.out.mono ?_; rintro _ w3 ⟨rfl, hr3, ht3⟩)
                go_meet
                case rel => exact ⟨b' - 1 - (x - a'), 1, _, by congr 1; omega, rfl, by omega, by omega, HP3.out.perm hb' (reverseRange_holds f2 a' b' hab' (by rw [HP3.out.size]; exact hb')) hr3 ht3⟩
              · have zd : (hintCode hh == 2) = false := by simp; exact hdec
                go_wp2_with fail
                go_meet
                case rel => exact ⟨x, hintCode hh, f2, rfl, rfl, hxr.1, hxr.2, HP3.out⟩
            case rest =>
              obtain ⟨pv, hc, f3, rfl, rfl, hpv1, hpv2, HP4⟩ := hcut
              go_upto_region 15 with fail
              go_cut [68] from 19 (fun s68 wx => ∃ t : Bool, s68 = .bool t ∧ wx = wc)
              case first =>
                have zh : ∃ u, (hc == 1) = u := ⟨_, rfl⟩
                obtain ⟨u, zu⟩ := zh
                cases wb <;> cases wp <;> cases u <;>
                  (go_wp2_with fail
                   go_meet
                   exact ⟨_, rfl, rfl⟩)
              case rest =>
                obtain ⟨t, rfl, rfl⟩ := hcut
                go_upto_if 68 with fail
                go_cut [] from 19 (fun wx => ∃ f5 : Array Nat, Hid (PQ p q g n w a b d a' b' f5 wx))
                case first =>
                  cases t
                  · go_wp2_with fail
                    go_meet
                    case rel => exact ⟨f3, HP4.out⟩
                  · have HC5 : Hid (Calls Tryd.prog 30 #[.slice (some ⟨g, o, none⟩) n cap, .int .i64 (a' : Int), .int .i64 (b' : Int)] wc fun e w' => ∃ fl d2, partialInsertionSort ltN f3 a' b' = (d2, fl) ∧ e = .returned (.bool fl) ∧ Rw p q g d2 w' ∧ Tb g wc w' ∧ d2.size = n) := by
                      by_cases h50 : b' - a' < 50
                      · have h9 := pins_few ho cap a' b' f3 wc HP4.out.row (by omega) (by rw [HP4.out.size]; exact hb') (by rw [HP4.out.size]; omega) h50
                        rw [HP4.out.size] at h9; exact h9
                      · have h9 := pins_many ho cap a' b' f3 wc HP4.out.row (by omega) (by rw [HP4.out.size]; exact hb') (by rw [HP4.out.size]; omega) h50
                        rw [HP4.out.size] at h9; exact h9
                    go_wp2_with (go_at_call 30; refine HC5.out.mono ?_; rintro _ w4 ⟨fl, f5, hx5, rfl, hr5, ht5, hs5⟩; obtain ⟨hq1, hq2⟩ := partialInsertionSort_holds (lt := ltN) ltN_swo f3 a' b' (by omega) (by rw [HP4.out.size]; exact hb') HP4.out.low; rw [hx5] at hq1 hq2; have HQ1 := Lib.hid hq1; have HQ2 := Lib.hid hq2; have HR5 := Lib.hid hr5; have HT5 := Lib.hid ht5; clear hx5 hq1 hq2 hr5 ht5 hs5; cases fl)
                    all_goals first
                      | (go_wp2_with fail
                         go_meet
                         case rel => exact ⟨f5, HP4.out.perm hb' HQ1.out HR5.out HT5.out⟩)
                      | (go_wp2_with fail
                         (try simp only [Exit.inBlock, Exit.then]); refine bodyPost_ret (results_none rfl _ _ _) rfl ?_
                         obtain ⟨h3, h4⟩ := HP4.out.all _ HQ1.out (by first | exact HQ2.out rfl | exact HQ2.out trivial)
                         exact ⟨rfl, _, HR5.out, HP4.out.tb.trans HT5.out, h3, h4⟩)
                case rest =>
                  obtain ⟨f5, HP5⟩ := hcut
                  obtain ⟨G, hG⟩ : ∃ G : Nat → Nat, ∀ t, G t = f5[t]! := ⟨fun t => f5[t]!, fun _ => rfl⟩
                  have HG := Lib.hid hG
                  have hcc : ∀ t, t < n → wc.cell? ⟨g, o + t, none⟩ = some (.int .u32 (G t : Int)) := fun t ht => by rw [hG]; exact HP5.out.row.cell ho (by rw [HP5.out.size]; exact ht)
                  have hff : ∀ t, t < n → wc.frozen? ⟨g, o + t, none⟩ = false := fun t _ => HP5.out.row.frozen _
                  clear hG
                  go_upto_region 17 with fail
                  go_cut [87] from 19 (fun s87 wx => s87 = .bool (decide (0 < a') && !ltN f5[a' - 1]! f5[pv]!) ∧ Hid (PQ p q g n w a b d a' b' f5 wx))
                  case first =>
                    rcases Nat.eq_zero_or_pos a' with ha0 | ha0
                    · have za : decide ((0 : Int) < (a' : Int)) = false := decide_eq_false (by omega)
                      go_quiet (first | (go_at_call 31; refine Calls.quiet_of_same (HL.out _ _ _)))
                      go_wp2_with fail
                      go_meet
                      case rel => exact ⟨by rw [ha0]; rfl, HP5.out.drewN _⟩
                    · have za : (0 : Int) < (a' : Int) := by omega
                      go_quiet (first | (go_at_call 31; refine Calls.quiet_of_same (HL.out _ _ _)))
                      go_wp2_with fail
                      go_meet
                      case rel => exact ⟨by rw [← HG.out, ← HG.out, decide_eq_true ha0]; rfl, HP5.out.drewN _⟩
                  case rest =>
                    obtain ⟨rfl, HP6⟩ := hcut
                    clear hcc hff HG
                    cases h87 : (decide (0 < a') && !ltN f5[a' - 1]! f5[pv]!)
                    · obtain ⟨mid, ap, d4, hx⟩ : ∃ mid ap d4, partition ltN f5 a' b' pv = (mid, ap, d4) := ⟨_, _, _, rfl⟩
                      have hcp := partition_any ho cap a' b' pv f5 wc HP6.out.row hpv1 hpv2 (by rw [HP6.out.size]; exact hb') (by rw [HP6.out.size]; omega)
                      rw [HP6.out.size, hx] at hcp
                      obtain ⟨r1, r2, r3, r4, r5, r6, r7⟩ := round_part ltN_swo (partition_holds ltN) hpv1 hpv2 (by rw [HP6.out.size]; exact hb') HP6.out.low hx
                      have HC7 : Hid (Calls Tryd.prog 33 #[.slice (some ⟨g, o, none⟩) n cap, .int .i64 (a' : Int), .int .i64 (b' : Int), .int .i64 (pv : Int)] wc fun e w' => e = .returned (.tuple #[.int .i64 (mid : Int), .bool ap]) ∧ Rw p q g d4 w' ∧ Tb g wc w') := hcp.mono fun _ _ ⟨m, fl, d2, e1, e2, e3, e4, _⟩ => by
                        obtain ⟨rfl, e5⟩ := Prod.mk.inj e1
                        obtain ⟨rfl, rfl⟩ := Prod.mk.inj e5
                        exact ⟨e2, e3, e4⟩
                      rw [HP6.out.size] at r3
                      have R4 := Lib.hid r4
                      have R5 := Lib.hid r5
                      have R6 := Lib.hid r6
                      have R7 := Lib.hid r7
                      clear hx hcp r4 r5 r6 r7
                      go_upto_if 113 with (go_at_call 33; refine HC7.out.mono ?_; rintro _ w7 ⟨rfl, hr7, ht7⟩; have HR7 := Lib.hid hr7; have HT7 := Lib.hid ht7; clear hr7 ht7)
                      by_cases h4 : mid - a' < b' - mid
                      · have z4 : (mid : Int) - (a' : Int) < (b' : Int) - (mid : Int) := by omega
                        have HC8 := Lib.hid (IH.out a' mid l2 d4 w7 (by omega) r3 HR7.out (by omega) (by omega) (by omega) R4.out)
                        go_wp2_with (go_at_call 19; refine HC8.out.mono ?_; rintro _ w8 ⟨rfl, L, hr8, ht8, hp8, hs8⟩)
                        go_roundg (b' - (mid + 1))
                        case measure => omega
                        case rel =>
                          obtain ⟨lo, al⟩ := R6.out L hp8 hs8
                          exact ⟨mid + 1, b', l2, _, ap, L, by simp, rfl, rfl, rfl, rfl, by omega, by omega, Nat.le_refl _, by omega, by omega, ⟨hp8.1.trans r3, hr8, (HP6.out.tb.trans HT7.out).trans ht8, lo, fun R hR hs => (al R hR hs).elim fun h5 h6 => HP6.out.all R h5 h6⟩⟩
                      · have z4 : ¬ ((mid : Int) - (a' : Int) < (b' : Int) - (mid : Int)) := by omega
                        have HC8 : Hid (Calls Tryd.prog 19 #[.slice (some ⟨g, o, none⟩) n cap, .int .i64 ((mid : Int) + 1), .int .i64 (b' : Int), .int .i64 (l2 : Int)] w7 fun e w' => e = .returned (.tuple #[]) ∧ ∃ R, Rw p q g R w' ∧ Tb g w7 w' ∧ PermIn (mid + 1) b' d4 R ∧ SortedIn ltN (mid + 1) b' R) := IH.out (mid + 1) b' l2 d4 w7 (by omega) r3 HR7.out (by omega) (by omega) (by omega) R5.out
                        go_wp2_with (go_at_call 19; refine HC8.out.mono ?_; rintro _ w8 ⟨rfl, L, hr8, ht8, hp8, hs8⟩)
                        go_roundg (mid - a')
                        case measure => omega
                        case rel =>
                          obtain ⟨lo, al⟩ := R7.out L hp8 hs8
                          exact ⟨a', mid, l2, _, ap, L, rfl, rfl, rfl, rfl, rfl, by omega, by omega, Nat.le_refl _, by omega, by omega, ⟨hp8.1.trans r3, hr8, (HP6.out.tb.trans HT7.out).trans ht8, lo, fun R hR hs => (al R hR hs).elim fun h5 h6 => HP6.out.all R h5 h6⟩⟩
                    · have h88 := h87
                      simp only [Bool.and_eq_true, decide_eq_true_eq, Bool.not_eq_true'] at h88
                      obtain ⟨mid, d4, hx⟩ : ∃ mid d4, partitionEqual ltN f5 a' b' pv = (mid, d4) := ⟨_, _, rfl⟩
                      have hcp := partEq_any ho cap a' b' pv f5 wc HP6.out.row hpv1 hpv2 (by rw [HP6.out.size]; exact hb') (by rw [HP6.out.size]; omega)
                      rw [HP6.out.size, hx] at hcp
                      obtain ⟨r1, r2, r3, r4, r5⟩ := round_eq ltN_swo (partitionEqual_holds ltN) h88.1 hpv1 hpv2 (by rw [HP6.out.size]; exact hb') HP6.out.low h88.2 hx
                      have HC7 : Hid (Calls Tryd.prog 32 #[.slice (some ⟨g, o, none⟩) n cap, .int .i64 (a' : Int), .int .i64 (b' : Int), .int .i64 (pv : Int)] wc fun e w' => e = .returned (.int .i64 (mid : Int)) ∧ Rw p q g d4 w' ∧ Tb g wc w') := hcp.mono fun _ _ ⟨m, d2, e1, e2, e3, e4, _⟩ => by
                        obtain ⟨rfl, rfl⟩ := Prod.mk.inj e1
                        exact ⟨e2, e3, e4⟩
                      rw [HP6.out.size] at r3
                      have R4 := Lib.hid r4
                      have R5 := Lib.hid r5
                      clear hx hcp r4 r5 h88
                      go_wp2_with (go_at_call 32; refine HC7.out.mono ?_; rintro _ w7 ⟨rfl, hr7, ht7⟩)
                      go_roundg (b' - mid)
                      case measure => omega
                      case rel => exact ⟨mid, b', l2, wb, wp, d4, rfl, rfl, rfl, rfl, rfl, r2, hb', Nat.le_refl _, by omega, by omega, ⟨r3, hr7, HP6.out.tb.trans ht7, R4.out, fun R hR hs => (R5.out R hR hs).elim fun h5 h6 => HP6.out.all R h5 h6⟩⟩
end Go.Proofs.YtcopkeccogpkmaaDoor
