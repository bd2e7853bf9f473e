/- The reduction as a function of entries; the contract of reduce. Conditions: p a prime below 2^32; bases reads 2, 7, 61. -/
import Derived.Test.YtbafiahmcfkboaaDoorPkHm27
import Derived.Test.YtbafiahmcfkboaaDoorPkHm22
namespace Go.Proofs.YtbafiahmcfkboaaDoor
open Go.RowKit

abbrev Mf := Nat → Nat → Nat
structure St where
  h : Mf
  s : Mf
  r : Mf
def exS (i k : Nat) (x : St) : St := ⟨fun a b => x.h (tr i k a) (tr i k b), fun a b => x.s a (tr i k b), fun a => x.r (tr i k a)⟩
def shS (p i k c : Nat) (x : St) : St := ⟨acN p k i c (arN p i k (ngN p c) x.h), acN p k i c x.s, arN p i k (ngN p c) x.r⟩
/-- The rows from i on: column k made nought. -/
def colS (p k u : Nat) : Nat → Nat → St → St
  | 0, _, x => x
  | m + 1, i, x => colS p k u m (i + 1) (if x.h i k = 0 then x else shS p i (k + 1) (plN p 0 (x.h i k) u) x)
/-- The first of m rows from j on that is not nought in column k; behind them if there is none. -/
def pvS (E : Mf) (k : Nat) : Nat → Nat → Nat
  | 0, j => j
  | m + 1, j => if E j k = 0 then pvS E k m (j + 1) else j
def ivN (p x : Nat) : Nat := x ^ (p - 2) % p
def stS (p n k : Nat) (x : St) : St :=
  if pvS x.h k (n - (k + 1)) (k + 1) = n then x else
    colS p k (ivN p ((exS (pvS x.h k (n - (k + 1)) (k + 1)) (k + 1) x).h (k + 1) k)) (n - (k + 2)) (k + 2) (exS (pvS x.h k (n - (k + 1)) (k + 1)) (k + 1) x)
def rdS (p n : Nat) : Nat → Nat → St → St
  | 0, _, x => x
  | m + 1, k, x => rdS p n m (k + 1) (stS p n k x)
theorem pvS_ge (E : Mf) (k : Nat) : ∀ m j, j ≤ pvS E k m j ∧ pvS E k m j ≤ j + m ∧ (pvS E k m j < j + m → E (pvS E k m j) k ≠ 0)
  | 0, j => ⟨Nat.le_refl _, Nat.le_refl _, fun h => absurd h (Nat.lt_irrefl _)⟩
  | m + 1, j => by
    unfold pvS
    split
    · have := pvS_ge E k m (j + 1)
      refine ⟨by omega, by omega, fun h => this.2.2 (by omega)⟩
    · rename_i h
      exact ⟨Nat.le_refl _, by omega, fun _ => h⟩
theorem pvS_step {E : Mf} {k m j : Nat} (hm : 0 < m) (h : E j k = 0) : pvS E k m j = pvS E k (m - 1) (j + 1) := by
  obtain ⟨m, rfl⟩ : ∃ m', m = m' + 1 := ⟨m - 1, by omega⟩
  rw [pvS, if_pos h]; rfl
theorem pvS_here {E : Mf} {k m j : Nat} (hm : 0 < m) (h : E j k ≠ 0) : pvS E k m j = j := by
  obtain ⟨m, rfl⟩ : ∃ m', m = m' + 1 := ⟨m - 1, by omega⟩
  rw [pvS, if_neg h]
theorem colS_step (p k u : Nat) {m i : Nat} (x : St) (hm : 0 < m) : colS p k u m i x = colS p k u (m - 1) (i + 1) (if x.h i k = 0 then x else shS p i (k + 1) (plN p 0 (x.h i k) u) x) := by
  obtain ⟨m, rfl⟩ : ∃ m', m = m' + 1 := ⟨m - 1, by omega⟩
  rfl
theorem rdS_step (p n : Nat) {m k : Nat} (x : St) (hm : 0 < m) : rdS p n m k x = rdS p n (m - 1) (k + 1) (stS p n k x) := by
  obtain ⟨m, rfl⟩ : ∃ m', m = m' + 1 := ⟨m - 1, by omega⟩
  rfl

def WS (w : World) (B gw p n : Nat) (q : Bool) (x : St) : Prop := WK w B gw p n q x.h x.s x.r
theorem WS.pw {w : World} {B gw p n : Nat} {q : Bool} {x : St} (h : WS w B gw p n q x) : Pw w gw p := WK.pw h
theorem WS.lt {w : World} {B gw p n : Nat} {q : Bool} {x : St} (h : WS w B gw p n q x) : B ≤ gw ∧ gw < w.heap.size ∧ Lt p n n x.h := by
  obtain ⟨_, _, _, _, _, _, h⟩ := h
  exact ⟨h.low, h.blk.lt, h.bH⟩
/-- What is read of H. -/
theorem WS.at_ {w : World} {B gw p n : Nat} {q : Bool} {x : St} (h : WS w B gw p n q x) : ∃ gh, gh < w.heap.size ∧ w.cell? ⟨gw, 1, none⟩ = some (.slice (some ⟨gh, 0, none⟩) n n) ∧ ∀ i, i < n → ∃ b, b < w.heap.size ∧ w.cell? ⟨gh, i, none⟩ = some (.slice (some ⟨b, 0, none⟩) n n) ∧ ∀ k, k < n → w.cell? ⟨b, k, none⟩ = some (.int .u32 (x.h i k : Int)) := by
  obtain ⟨gh, gs, gr, bh, bs, br, h⟩ := h
  refine ⟨gh, h.h.top.lt, h.cells.2.1, fun i hi => ?_⟩
  have hi2 : i < bh.length := by rw [h.hl]; exact hi
  exact ⟨bh[i], h.h.lt _ (.inr (List.getElem_mem hi2)), (h.h.head hi2).1, fun k hk => (h.h.cell hi2 hk).1⟩
theorem WS.dr {w w' : World} {B gw p n : Nat} {q : Bool} {x : St} (h : WS w B gw p n q x) (hd : Dr w w') : WS w' B gw p n q x := WK.dr h hd

set_option maxRecDepth 20000 in
set_option maxHeartbeats 6400000 in
theorem reduce_any (w : World) (B gw p n : Nat) (q : Bool) (x : St) (hpr : Pr p) (hp : p < 4294967296) (hw : Bases w) (hG : 0 < B) (h : WS w B gw p n q x) (_ : B ≤ w.heap.size) (hn0 : 0 < n) (hn : n ≤ 1000) :
    Calls Tryd.prog 23 #[.pointer (some ⟨gw, 0, none⟩)] w fun e w' => e = .returned (.tuple #[]) ∧ WS w' B gw p n q (rdS p n (n - 1) 0 x) ∧ Below B w w' := by
  have hp0 := hpr.pos
  have HBS : Hid (∀ W, Below B w W → Bases W) := fun W hW => ⟨(hW.cell (p := ⟨_, 0, none⟩) hG).trans hw.1, (hW.cell (p := ⟨_, 1, none⟩) hG).trans hw.2.1, (hW.cell (p := ⟨_, 2, none⟩) hG).trans hw.2.2⟩
  have HIV : Hid (∀ (W : World) (y : Nat), Below B w W → y < p → y ≠ 0 → Calls Tryd.prog 35 #[.int .u32 (y : Int), .int .u32 (p : Int)] W fun e w' => e = .returned (.tuple #[.int .u32 (ivN p y : Int), .int .i64 0]) ∧ W = w') := fun W y hW h1 h2 => (pinv_yes y p hpr hp (by rw [Nat.mod_eq_of_lt h1]; exact h2) W (HBS.out W hW)).mono fun _ _ h => ⟨h.1, h.2.symm⟩
  have HEX : Hid (∀ (W : World) (y : St) (i k : Nat), WS W B gw p n q y → i < n → k + 1 < n → Calls Tryd.prog 34 #[.pointer (some ⟨gw, 0, none⟩), .int .i64 (i : Int), .int .i64 ((k + 1 : Nat) : Int)] W fun e w' => e = .returned (.tuple #[]) ∧ WS w' B gw p n q (exS i (k + 1) y) ∧ Below B W w') := fun W y i k h1 h2 h3 => exchange_any W B gw p n q y.h y.s y.r i (k + 1) h1 (by have := h1.lt; omega) h2 h3 hn
  have HSH : Hid (∀ (W : World) (y : St) (i k c : Nat), WS W B gw p n q y → c < p → i < n → k + 1 < n → i ≠ k + 1 → Calls Tryd.prog 36 #[.pointer (some ⟨gw, 0, none⟩), .int .i64 (i : Int), .int .i64 ((k + 1 : Nat) : Int), .int .u32 (c : Int)] W fun e w' => e = .returned (.tuple #[]) ∧ WS w' B gw p n q (shS p i (k + 1) c y) ∧ Below B W w') := fun W y i k c h1 h2 h3 h4 h5 => shear_any W B gw p n q y.h y.s y.r i (k + 1) c h1 (by have := h1.lt; omega) hp0 hp h2 h3 h4 h5 hn
  have HPL : Hid (∀ (W : World) (y : St) (a b : Nat), WS W B gw p n q y → a < 4294967296 → b < 4294967296 → Calls Tryd.prog 37 #[.pointer (some ⟨gw, 0, none⟩), .int .u32 0, .int .u32 (a : Int), .int .u32 (b : Int)] W fun e w' => e = .returned (.int .u32 (plN p 0 a b : Int)) ∧ W = w') := fun W y a b h1 h2 h3 => hplus_any gw p 0 a b W hp0 hp (by omega) h2 h3 h1.pw
  have HUL : Hid (∀ y, ivN p y < p ∧ ∀ a, plN p 0 a y < p) := fun y => ⟨Nat.mod_lt _ hp0, fun a => plN_lt hp0 _ _ _⟩
  obtain ⟨gh, hgh, c1, _⟩ := h.at_
  have H0 := Lib.hid h
  clear h hw hpr hG
  go_enter Tryd.func23, Tryd.ntmps23
  go_wp2_with fail
  go_loopw [14] (fun kv wr => ∃ (k : Nat) (y : St), k ≤ n - 1 ∧ kv = .int .i64 (k : Int) ∧ Hid (WS wr B gw p n q y) ∧ Hid (rdS p n (n - 1 - k) k y = rdS p n (n - 1) 0 x) ∧ Hid (Below B w wr)) (fun kv _ => n - 1 - (intOf kv).toNat)
  case atStart => exact ⟨0, x, Nat.zero_le _, rfl, H0.out, rfl, Below.refl _ _⟩
  case round =>
    obtain ⟨wo, rfl⟩ : ∃ wo, wo = wr := ⟨_, rfl⟩
    obtain ⟨k, y, hk, rfl, hws, hrd, hbw⟩ := hrel
    by_cases hkl : k < n - 1
    · obtain ⟨gh1, hg1, d1, d2⟩ := hws.out.at_
      obtain ⟨_, hgw1, hLt⟩ := hws.out.lt
      have D2 := Lib.hid d2
      have HLt : Hid (∀ a, a < n → y.h a k < p) := fun a ha => hLt a k ha (by omega)
      clear d2 hLt
      obtain ⟨k1, hk1⟩ : ∃ k1, k1 = k + 1 := ⟨_, rfl⟩
      have HK1 := Lib.hid hk1
      obtain ⟨k2, hk2⟩ : ∃ k2, k2 = k + 2 := ⟨_, rfl⟩
      have HK2 := Lib.hid hk2
      have v1 : (k : Int) + 1 = (k1 : Int) := by omega
      have v2 : (k : Int) + 2 = (k2 : Int) := by omega
      have v3 : k1 < n := by omega
      have v4 : k2 ≤ n := by omega
      have v5 : k < k1 := by omega
      clear hk1 hk2
      go_upto_region 4 with (fail)
      go_loop [3] (fun jv => ∃ j : Nat, k + 1 ≤ j ∧ j ≤ n ∧ jv = .int .i64 (j : Int) ∧ Hid (pvS y.h k (n - j) j = pvS y.h k (n - (k + 1)) (k + 1))) (fun jv => n - (intOf jv).toNat)
      case atStart => exact ⟨k + 1, Nat.le_refl _, by omega, (by rw [← HK1.out]), rfl⟩
      case round =>
        obtain ⟨j, hj1, hj2, rfl, hpv⟩ := hrel
        by_cases hjn : j < n
        · obtain ⟨b, hb, e1, e2⟩ := D2.out j hjn
          have e3 := e2 k (by omega)
          clear e2
          by_cases hz : y.h j k = 0
          · have hpv2 : Hid (pvS y.h k (n - (j + 1)) (j + 1) = pvS y.h k (n - (k + 1)) (k + 1)) := by
              show _ = _
              rw [← hpv.out, pvS_step (m := n - j) (by omega) hz, show n - j - 1 = n - (j + 1) by omega]
            rw [hz] at e3
            clear hz
            go_wp2
            go_round
            case rel => exact ⟨j + 1, by omega, by omega, by go_num, hpv2⟩
            case measure => simp [intOf]; omega
          · have hpv2 : Hid (pvS y.h k (n - (k + 1)) (k + 1) = j) := by
              show _ = _
              rw [← hpv.out, pvS_here (m := n - j) (by omega) hz]
            have hyp := HLt.out j hjn
            obtain ⟨z, hze⟩ : ∃ z, z = y.h j k := ⟨_, rfl⟩
            have Hze := Lib.hid hze
            rw [← hze] at e3 hz hyp
            have t1 : ((z : Int) == 0) = false := by simp; omega
            have t2 : ((j : Int) == (n : Int)) = false := by simp; omega
            clear hze hpv
            have HEX1 : Hid (∀ (W : World) (y : St) (i : Nat), WS W B gw p n q y → i < n → k1 < n → Calls Tryd.prog 34 #[.pointer (some ⟨gw, 0, none⟩), .int .i64 (i : Int), .int .i64 (k1 : Int)] W fun e w' => e = .returned (.tuple #[]) ∧ WS w' B gw p n q (exS i (k + 1) y) ∧ Below B W w') := fun W y i h1 h2 h3 => by have h3' := h3; rw [HK1.out] at h3' ⊢; exact HEX.out W y i k h1 h2 h3'
            go_upto_region 8 with (first
              | (go_at_call 34; (with_reducible refine (HEX1.out wo y j hws.out hjn v3).mono ?_); rintro _ w1 ⟨rfl, h1, hb1⟩; have HW1 := Lib.hid h1; have Hb1 : Hid (Below B w w1) := hbw.out.trans hb1; obtain ⟨gh2, hg2, f1, f2⟩ := h1.at_; obtain ⟨_, hgw2, hL2⟩ := h1.lt; have f0 : w1.cell? ⟨gw, 0, none⟩ = some (.int .u64 (p : Int)) := h1.pw; clear h1 hb1))
            obtain ⟨b2, hb2, f3, f4⟩ := f2 k1 v3
            have f5 := f4 k (by omega)
            have hex : (exS j (k + 1) y).h k1 k = z := by
              rw [Hze.out, HK1.out]
              show y.h (tr j (k + 1) (k + 1)) (tr j (k + 1) k) = _
              unfold tr
              rw [if_pos rfl, if_neg (by omega), if_neg (by omega)]
            rw [hex] at f5
            obtain ⟨u, hu⟩ : ∃ u, u = ivN p z := ⟨_, rfl⟩
            have HIZ : Hid (∀ W, Dr w1 W → Calls Tryd.prog 35 #[.int .u32 (z : Int), .int .u32 (p : Int)] W fun e w' => e = .returned (.tuple #[.int .u32 (u : Int), .int .i64 0]) ∧ W = w') := fun W hW => by rw [hu]; exact HIV.out W z (Hb1.out.trans (hW.below B)) hyp hz
            obtain ⟨hup, hpl⟩ := HUL.out z
            rw [← hu] at hup
            have HPU : Hid (∀ a, plN p 0 a u < p) := fun a => by rw [hu]; exact (HUL.out (ivN p z)).2 a
            have HST : Hid (colS p k u (n - (k + 2)) (k + 2) (exS j (k + 1) y) = stS p n k y) := by
              show _ = _
              unfold stS
              rw [hpv2.out, if_neg (by omega)]
              have h9 := hex
              rw [HK1.out] at h9
              rw [h9, ← hu]
            have HRD : Hid (rdS p n (n - 1 - (k + 1)) (k + 1) (stS p n k y) = rdS p n (n - 1) 0 x) := by
              show _ = _
              rw [← hrd.out, rdS_step p n (m := n - 1 - k) y (by omega), show n - 1 - k - 1 = n - 1 - (k + 1) by omega]
            have hL2k : Hid (∀ (W : World) (v : St), WS W B gw p n q v → ∀ a, a < n → v.h a k < p) := fun W v hv a ha => hv.lt.2.2 a k ha (by omega)
            clear hex hu hpl hz f2 f4 hL2 t1 t2 hyp
            have q1 : IntKind.i64.wrap ((k : Int) + 1) = (k : Int) + 1 := IntWalk.i64_in _ (by omega)
            have q3 : (0 : Int) ≤ (k : Int) + 1 := by omega
            have q4 : (k : Int) + 1 < (n : Int) := by omega
            have q5 : k + 1 < n := by omega
            have q6 : (k : Int) < (n : Int) := by omega
            have q7 : k < n := by omega
            rw [HK1.out] at f3
            have V1 := Lib.hid v1
            clear v1
            have t4 : IntKind.u32.wrap (p : Int) = (p : Int) := by rw [IntKind.wrap_u32]; omega
            go_region_held3 (fun W => W.cell? ⟨gw, 0, none⟩ = some (.int .u64 (p : Int)) ∧ W.cell? ⟨gw, 1, none⟩ = some (.slice (some ⟨gh2, 0, none⟩) n n) ∧ W.cell? ⟨gh2, k + 1, none⟩ = some (.slice (some ⟨b2, 0, none⟩) n n) ∧ W.cell? ⟨b2, k, none⟩ = some (.int .u32 (z : Int))) (go_keep) (first | (go_at_call 35; (with_reducible refine (HIZ.out _ (by first | exact Dr.refl _ | exact (Dr.refl _).drew)).mono ?_); rintro _ _ ⟨rfl, rfl⟩))
            all_goals rw [V1.out]
            all_goals have v1 := V1.out
            all_goals go_upto_region 10 with (fail)
            all_goals
              go_loopw [6] (fun iv wr => ∃ (i : Nat) (v : St), k2 ≤ i ∧ i ≤ n ∧ iv = .int .i64 (i : Int) ∧ Hid (WS wr B gw p n q v) ∧ Hid (colS p k u (n - i) i v = stS p n k y) ∧ Hid (Below B w wr)) (fun iv _ => n - (intOf iv).toNat)
              case atStart => exact ⟨k2, exS j (k + 1) y, Nat.le_refl _, v4, rfl, HW1.out.dr (Dr.refl _).drew, by show _ = _; rw [HK2.out]; exact HST.out, Hb1.out.trans ((Dr.refl _).drew.below B)⟩
              case round =>
                obtain ⟨i, v, hi1, hi2, rfl, hv, hcs, hbv⟩ := hrel
                obtain ⟨gh3, hg3, g1, g2⟩ := hv.out.at_
                obtain ⟨_, hgw3, _⟩ := hv.out.lt
                by_cases hin : i < n
                · obtain ⟨b3, hb3, g3, g4⟩ := g2 i hin
                  have g5 := g4 k q7
                  have hl5 := hL2k.out _ _ hv.out i hin
                  clear g2 g4
                  by_cases hz5 : v.h i k = 0
                  · have HC : Hid (colS p k u (n - (i + 1)) (i + 1) v = stS p n k y) := by
                      show _ = _
                      rw [← hcs.out, colS_step p k u (m := n - i) v (by omega), if_pos hz5, show n - i - 1 = n - (i + 1) by omega]
                    rw [hz5] at g5
                    clear hz5 hl5
                    go_wp2
                    go_roundw
                    case rel => exact ⟨i + 1, v, by omega, by omega, by go_num, hv.out, HC.out, hbv.out⟩
                    case measure => simp [intOf]; omega
                  · obtain ⟨c5, hc5⟩ : ∃ c5, c5 = plN p 0 (v.h i k) u := ⟨_, rfl⟩
                    have HC : Hid (colS p k u (n - (i + 1)) (i + 1) (shS p i (k + 1) c5 v) = stS p n k y) := by
                      show _ = _
                      rw [← hcs.out, colS_step p k u (m := n - i) v (by omega), if_neg hz5, show n - i - 1 = n - (i + 1) by omega, hc5]
                    have hcp : c5 < p := by rw [hc5]; exact HPU.out _
                    have HP5 : Hid (∀ W, Dr wr W → Calls Tryd.prog 37 #[.pointer (some ⟨gw, 0, none⟩), .int .u32 0, .int .u32 (v.h i k : Int), .int .u32 (u : Int)] W fun e w' => e = .returned (.int .u32 (c5 : Int)) ∧ W = w') := fun W hW => by rw [hc5]; exact HPL.out W v _ _ (hv.out.dr hW) (by omega) (by omega)
                    have HS5 : Hid (∀ W, Dr wr W → Calls Tryd.prog 36 #[.pointer (some ⟨gw, 0, none⟩), .int .i64 (i : Int), .int .i64 (k1 : Int), .int .u32 (c5 : Int)] W fun e w' => e = .returned (.tuple #[]) ∧ WS w' B gw p n q (shS p i (k + 1) c5 v) ∧ Below B W w') := fun W hW => by
                      have h8 := HSH.out W v i k c5 (hv.out.dr hW) hcp hin q5 (by have := HK1.out; have := HK2.out; omega)
                      rw [← HK1.out] at h8 ⊢
                      exact h8
                    obtain ⟨z5, hz6⟩ : ∃ z5, z5 = v.h i k := ⟨_, rfl⟩
                    rw [← hz6] at g5 hz5 hl5 HP5
                    have t5 : ((z5 : Int) == 0) = false := by simp; omega
                    have t6 : ((z5 : Int) != 0) = true := by simp; omega
                    clear hc5 hz6 hz5 hl5
                    go_wp2_with (first
                      | (go_at_call 37; (with_reducible refine (HP5.out _ (by first | exact Dr.refl _ | exact (Dr.refl _).drew)).mono ?_); rintro _ _ ⟨rfl, rfl⟩)
                      | (go_at_call 36; (with_reducible refine (HS5.out _ (by first | exact Dr.refl _ | exact (Dr.refl _).drew)).mono ?_); rintro _ w5 ⟨rfl, h5, hb5⟩; have H5 := Lib.hid h5; have Hb5 : Hid (Below B wr w5) := (by first | exact hb5 | exact ((Dr.refl _).drew.below B).trans hb5); clear h5 hb5))
                    go_roundw
                    case rel => exact ⟨i + 1, _, by omega, by omega, by go_num, H5.out, HC.out, hbv.out.trans Hb5.out⟩
                    case measure => simp [intOf]; omega
                · obtain rfl : i = n := by omega
                  have hve : v = stS p i k y := by
                    have := hcs.out
                    rw [Nat.sub_self] at this
                    exact this
                  subst hve
                  clear g2
                  go_wp2
                  go_roundw
                  case rel => exact ⟨k + 1, _, by omega, by go_num, hv.out, HRD.out, hbv.out⟩
                  case measure => simp [intOf]; omega
        · obtain rfl : j = n := by omega
          have hpe : pvS y.h k (j - (k + 1)) (k + 1) = j := by
            have := hpv.out
            rw [Nat.sub_self] at this
            exact this.symm
          have HRD : Hid (rdS p j (j - 1 - (k + 1)) (k + 1) y = rdS p j (j - 1) 0 x) := by
            show _ = _
            rw [← hrd.out, rdS_step p j (m := j - 1 - k) y (by omega), show j - 1 - k - 1 = j - 1 - (k + 1) by omega]
            unfold stS
            rw [if_pos hpe]
          clear hpe hpv
          go_wp2
          go_roundw
          case rel => exact ⟨k + 1, y, by omega, by go_num, hws.out, HRD.out, hbw.out⟩
          case measure => simp [intOf]; omega
    · obtain rfl : k = n - 1 := by omega
      have hye : y = rdS p n (n - 1) 0 x := by
        have := hrd.out
        rw [Nat.sub_self] at this
        exact this
      subst hye
      go_wp2
      go_end0
      exact ⟨rfl, hws.out, hbw.out⟩
end Go.Proofs.YtbafiahmcfkboaaDoor
