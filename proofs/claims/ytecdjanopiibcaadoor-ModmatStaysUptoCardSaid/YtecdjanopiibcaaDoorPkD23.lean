/- ModmatBack and ModmatProducts answer true. Conditions: bases reads 2, 7, 61; the sizes. What comes in, with the walks of Kernels, Stays, Back and Products at hand. No condition of its own. -/
import Derived.Test.YtecdjanopiibcaaDoorPkD22
import Derived.Test.YtecdjanopiibcaaDoorPkD21
namespace Go.Proofs.YtecdjanopiibcaaDoor
section
open Go.RowKit

theorem Comes.pair {p : Nat} {A A2 : Option Addr} {c c2 : Nat} {M N : List (List Nat)} {w : World} (h1 : Comes p A c M w) (h2 : Comes p A2 c2 N w) (hp : Pr p) (r1 : Rect M) (r2 : Rect N) : Pair p A A2 c c2 M N w := ⟨h1.takes hp r1, h2.takes hp r2⟩
theorem idN_rect (n : Nat) : Rect (idN n) := mtab_rect

set_option maxHeartbeats 3200000 in
set_option maxRecDepth 100000 in
theorem modmatBack_walk (p : Nat) (A : Option Addr) (c : Nat) (M : List (List Nat)) (w : World) (h : Comes p A c M w) :
    Calls Tryd.prog 7 #[.slice A M.length c, .int .u32 (p : Int)] w fun r w' => r = .returned (.bool true) ∧ Below w.heap.size w w' := by
  have Haw : Hid (∀ W, Below w.heap.size w W → Calls Tryd.prog 12 #[] W fun r w' => r = .returned (.bool true) ∧ Below W.heap.size W w') := fun W hW => lawake_any W (h.bas.below hW h.bas.lt)
  have Hn := Lib.hid (fun k W => lnum_any k W)
  rcases h.sqCases with ⟨code, hc, hsq, herr⟩ | ⟨hsq, hT, hS⟩
  · have Hinv := Lib.hid (inverse_err p A M.length c w code hc herr)
    have Hdt : Hid (∀ W, Below w.heap.size w W → Calls Tryd.prog 15 #[.slice A M.length c, .int .u32 (p : Int)] W fun e w' => e = .returned (.tuple #[.int .u32 0, .int .i64 code]) ∧ Below W.heap.size W w') := fun W hW => det_err p A M.length c W code hc (herr.at_ hW)
    have t1 : (code != 0) = true := hc
    have t2 : (code == code) = true := by simp
    clear hsq herr h hc
    go_enter Tryd.func7, Tryd.ntmps7
    go_wp2_with (first
      | (go_at_call 31; (with_reducible refine Hinv.out.mono ?_); rintro e w1 ⟨rfl, hb1⟩)
      | (go_at_call 15; (with_reducible refine (Hdt.out _ hb1).mono ?_); rintro e w2 ⟨rfl, hb⟩; have hb2 := hb1.trans (hb.mono hb1.size); clear hb)
      | (go_at_call 11; (with_reducible refine (Hn.out _ _).mono ?_); rintro e w2 ⟨rfl, rfl⟩)
      | (go_at_call 12; (with_reducible refine (Haw.out _ hb2).mono ?_); rintro e w7 ⟨rfl, hb⟩; have hb7 := hb2.trans (hb.mono hb2.size); clear hb))
    go_ret
    exact ⟨rfl, hb7⟩
  · have hpr := hT.pr
    have hlt := h.lt
    have hrect := hT.rect
    have hrows := h.sz.rows
    have hm : M.length ≤ 281474976710656 := by omega
    haveI : NeZero p := ⟨by have := hpr.pos; omega⟩
    have hfull := inv_full hpr hS
    obtain ⟨hech, hgR, hlR⟩ := inv_ech hpr hS
    have hplace := piv_place hech hfull hS.1
    have hinv := inverse_ok p A c M w w.heap.size hT hS hfull
    rw [invM_eq hpr hS] at hinv
    have Hdt : Hid (∀ W, Below w.heap.size w W → Calls Tryd.prog 15 #[.slice A M.length c, .int .u32 (p : Int)] W fun e w' => e = .returned (.tuple #[.int .u32 (detN p (modN p M) : Int), .int .i64 0]) ∧ Below W.heap.size W w') := fun W hW => det_ok p A c M W w.heap.size (hT.below hW) hS
    by_cases hpl : ∀ j, j < M.length → (redN p (augN (modN p M))).2.getD j M.length = j
    · obtain ⟨b1, b2, b3⟩ := inv_both hpr hS hpl
      have hgE : Good p M.length ((redN p (augN (modN p M))).1.map (List.drop M.length)) := by
        rw [← hS.2] at hgR; exact drop_good hgR
      have hlE : ((redN p (augN (modN p M))).1.map (List.drop M.length)).length = M.length := by rw [List.length_map]; exact hlR
      have Hinv : Hid (Calls Tryd.prog 31 #[.slice A M.length c, .int .u32 (p : Int)] w fun e w' => ∃ A1, e = .returned (.tuple #[.slice A1 M.length M.length, .int .i64 0]) ∧ RdM w' w'.heap.size A1 ((redN p (augN (modN p M))).1.map (List.drop M.length)) ∧ Below w.heap.size w w') := hinv.mono fun e w' ⟨h1, _, h3⟩ => by
        obtain ⟨A1, h4, h5⟩ := h1 (hplace.2 hpl)
        exact ⟨A1, h4, h5, h3⟩
      obtain ⟨E, hE⟩ : ∃ E, E = (redN p (augN (modN p M))).1.map (List.drop M.length) := ⟨_, rfl⟩
      rw [← hE] at Hinv b1 b2 hgE hlE
      have hcE := good_cols hgE (by rw [hlE]; exact hS.1)
      have hCE : ∀ A1 W, RdM W W.heap.size A1 E → Below w.heap.size w W → Comes p A1 M.length E W := fun A1 W k1 k2 => comes_rows hlt (h.bas.below k2 h.bas.lt) (by rw [hlE]; exact Nat.le_refl _) k1 hgE (by rw [hlE]; exact hrows) hrows
      have Hmul1 : Hid (∀ A1 W, RdM W W.heap.size A1 E → Below w.heap.size w W → Calls Tryd.prog 33 #[.slice A M.length c, .slice A1 M.length M.length, .int .u32 (p : Int)] W fun e w' => ∃ A', e = .returned (.tuple #[.slice A' M.length M.length, .int .i64 0]) ∧ RdM w' w'.heap.size A' (idN M.length) ∧ Below W.heap.size W w') := fun A1 W k1 k2 => by
        have h9 := mulA_ok ((h.below k2).pair (hCE A1 W k1 k2) hpr hrect (good_rect hgE)) (by rw [hlE]; exact hS.2.symm)
        rw [b1, hlE] at h9
        exact h9
      have Hmul2 : Hid (∀ A1 W, RdM W W.heap.size A1 E → Below w.heap.size w W → Calls Tryd.prog 33 #[.slice A1 M.length M.length, .slice A M.length c, .int .u32 (p : Int)] W fun e w' => ∃ A', e = .returned (.tuple #[.slice A' M.length M.length, .int .i64 0]) ∧ RdM w' w'.heap.size A' (idN M.length) ∧ Below W.heap.size W w') := fun A1 W k1 k2 => by
        have h9 := mulA_ok ((hCE A1 W k1 k2).pair (h.below k2) hpr (good_rect hgE) hrect) hcE
        rw [b2, hlE] at h9
        exact h9
      have Hid1 : Hid (∀ W, Calls Tryd.prog 34 #[.int .i64 (M.length : Int)] W fun e w' => ∃ A' c', e = .returned (.slice A' M.length c') ∧ RdM w' w'.heap.size A' (idN M.length) ∧ Below W.heap.size W w') := fun W => (ridentity_any M.length W hrows).mono fun e w' ⟨A', c', k1, k2, k3⟩ => ⟨A', c', k1, (k2.rd (Nat.le_refl _)).2.2, k3⟩
      have Hsa : Hid (∀ A1 A2 c2 W, RdM W W.heap.size A1 (idN M.length) → RdM W W.heap.size A2 (idN M.length) → Calls Tryd.prog 30 #[.slice A1 M.length M.length, .slice A2 M.length c2] W fun e w' => e = .returned (.bool true) ∧ Dr W w') := fun A1 A2 c2 W k1 k2 => by
        have h9 := lsame_any A1 A2 M.length c2 (idN M.length) (idN M.length) W _ _ k1 k2 (by rw [idN_length]; exact hm) (by rw [idN_length]; exact hm) true (by simp)
        rw [idN_length] at h9
        exact h9
      obtain ⟨D, hD⟩ : ∃ D, D = detN p (modN p M) := ⟨_, rfl⟩
      rw [← hD] at b3
      simp only [← hD] at Hdt
      have t1 : ((D : Int) != 0) = true := by simp; omega
      clear hsq h hT hS hrect hinv hpl hplace hech hfull hgR hlR hE hD b1 b2 b3 hcE hCE hgE hlE
      go_enter Tryd.func7, Tryd.ntmps7
      go_wp2_with (first
        | (go_at_call 31; (with_reducible refine Hinv.out.mono ?_); rintro e w1 ⟨A1, rfl, hr1, hb1⟩)
        | (go_at_call 15; (with_reducible refine (Hdt.out _ hb1).mono ?_); rintro e w2 ⟨rfl, hb⟩; have hb2 := hb1.trans (hb.mono hb1.size); have hr2 := (hr1.below hb).mono hb.size; clear hb)
        | (go_at_call 11; (with_reducible refine (Hn.out _ _).mono ?_); rintro e w9 ⟨rfl, rfl⟩)
        | (go_at_call_of 33 (Value.slice A M.length c); (with_reducible refine (Hmul1.out _ _ hr2 hb2).mono ?_); rintro e w3 ⟨A3, rfl, hr3, hb⟩; have hb3 := hb2.trans (hb.mono hb2.size); have hr4 := (hr2.below hb).mono hb.size; clear hb)
        | (go_at_call 33; (with_reducible refine (Hmul2.out _ _ hr4 hb3).mono ?_); rintro e w4 ⟨A4, rfl, hr5, hb⟩; have hb4 := hb3.trans (hb.mono hb3.size); have hr6 := (hr3.below hb).mono hb.size; clear hb)
        | (go_at_call 34; (with_reducible refine (Hid1.out _).mono ?_); rintro e w5 ⟨A5, c5, rfl, hr7, hb⟩; have hb5 := hb4.trans (hb.mono hb4.size); have hr8 := (hr5.below hb).mono hb.size; have hr9 := (hr6.below hb).mono hb.size; clear hb))
      have Hs1 := Lib.hid (Hsa.out A3 A5 c5 _ hr9 hr7)
      go_wp2_with (go_at_call_of 30 (Value.slice A3 M.length M.length); (with_reducible refine Hs1.out.mono ?_); rintro e w6 ⟨rfl, hd⟩; have hb6 := hb5.trans (hd.below _); have Hs2 := Lib.hid (Hsa.out A4 A5 c5 _ (hr8.drS hd) (hr7.drS hd)); clear hd)
      go_wp2_with (first
        | (go_at_call 30; (with_reducible refine Hs2.out.mono ?_); rintro e w7 ⟨rfl, hd⟩; have hb7 := hb6.trans (hd.below _); clear hd)
        | (go_at_call 12; (with_reducible refine (Haw.out _ hb7).mono ?_); rintro e w8 ⟨rfl, hb⟩; have hb8 := hb7.trans (hb.mono hb7.size); clear hb))
      go_ret
      exact ⟨rfl, hb8⟩
    · have hD := inv_none hpr hS hpl
      have Hinv : Hid (Calls Tryd.prog 31 #[.slice A M.length c, .int .u32 (p : Int)] w fun e w' => e = .returned (.tuple #[.slice none 0 0, .int .i64 7]) ∧ Below w.heap.size w w') := hinv.mono fun e w' ⟨_, h2, h3⟩ => ⟨h2 (fun e => hpl (hplace.1 e)), h3⟩
      rw [hD] at Hdt
      have Hdt2 : Hid (∀ W, Below w.heap.size w W → Calls Tryd.prog 15 #[.slice A M.length c, .int .u32 (p : Int)] W fun e w' => e = .returned (.tuple #[.int .u32 0, .int .i64 0]) ∧ Below W.heap.size W w') := Hdt.out
      clear hsq h hT hS hrect hinv hpl hplace hech hfull hgR hlR hD Hdt
      go_enter Tryd.func7, Tryd.ntmps7
      go_wp2_with (first
        | (go_at_call 31; (with_reducible refine Hinv.out.mono ?_); rintro e w1 ⟨rfl, hb1⟩)
        | (go_at_call 15; (with_reducible refine (Hdt2.out _ hb1).mono ?_); rintro e w2 ⟨rfl, hb⟩; have hb2 := hb1.trans (hb.mono hb1.size); clear hb)
        | (go_at_call 11; (with_reducible refine (Hn.out _ _).mono ?_); rintro e w2 ⟨rfl, rfl⟩)
        | (go_at_call 12; (with_reducible refine (Haw.out _ hb2).mono ?_); rintro e w7 ⟨rfl, hb⟩; have hb7 := hb2.trans (hb.mono hb2.size); clear hb))
      go_ret
      exact ⟨rfl, hb7⟩

theorem cols_mul (p : Nat) (A B : List (List Nat)) (h : 0 < A.length) : cols (mulN p A B) = cols B := mtab_cols h
/-- Det of any rectangle. -/
theorem det_any {p : Nat} {A : Option Addr} {c : Nat} {X : List (List Nat)} {W : World} (hT : Takes p A c X W W.heap.size) : ∃ (v : Nat) (k : Int), Calls Tryd.prog 15 #[.slice A X.length c, .int .u32 (p : Int)] W fun e w' => e = .returned (.tuple #[.int .u32 (v : Int), .int .i64 k]) ∧ Below W.heap.size W w' := by
  by_cases hs : Sq X
  · exact ⟨_, 0, det_ok p A c X W W.heap.size hT hs⟩
  · exact ⟨0, 3, det_err p A X.length c W 3 (by decide) (sqErr_not hT hs)⟩

set_option maxHeartbeats 3200000 in
set_option maxRecDepth 100000 in
theorem modmatProducts_walk (p : Nat) (A A2 : Option Addr) (c c2 : Nat) (M N : List (List Nat)) (w : World) (h : Comes p A c M w) (h2 : Comes p A2 c2 N w) :
    Calls Tryd.prog 8 #[.slice A M.length c, .slice A2 N.length c2, .int .u32 (p : Int)] w fun r w' => r = .returned (.bool true) ∧ Below w.heap.size w w' := by
  have Haw : Hid (∀ W, Below w.heap.size w W → Calls Tryd.prog 12 #[] W fun r w' => r = .returned (.bool true) ∧ Below W.heap.size W w') := fun W hW => lawake_any W (h.bas.below hW h.bas.lt)
  have Hn := Lib.hid (fun k W => lnum_any k W)
  have hcase : (∃ code : Int, (code != 0) = true ∧ Calls Tryd.prog 33 #[.slice A M.length c, .slice A2 N.length c2, .int .u32 (p : Int)] w fun e w' => e = .returned (.tuple #[.slice none 0 0, .int .i64 code]) ∧ Below w.heap.size w w') ∨ (Pr p ∧ Rect M ∧ Rect N ∧ cols M = N.length) := by
    by_cases hpr : Pr p
    · by_cases hr : Rect M ∧ Rect N
      · by_cases hf : cols M = N.length
        · exact .inr ⟨hpr, hr.1, hr.2, hf⟩
        · exact .inl ⟨2, by decide, mulA_shape (h.pair h2 hpr hr.1 hr.2) hf⟩
      · exact .inl ⟨2, by decide, mulA_err p A A2 M.length N.length c c2 w 2 (by decide) fun W q hb hW => read_two_bad h h2 hpr hr W q hb hW⟩
    · exact .inl ⟨40, by decide, mulA_err p A A2 M.length N.length c c2 w 40 (by decide) fun W q _ hW => read_prime p _ 2 2 W hpr h.lt (h.bas.below hW h.bas.lt)⟩
  rcases hcase with ⟨code, hc, hmul⟩ | ⟨hpr, hr1, hr2, hfit⟩
  · have Hmul := Lib.hid hmul
    have t1 : (code != 0) = true := hc
    clear hmul h h2 hc
    go_enter Tryd.func8, Tryd.ntmps8
    go_wp2_with (first
      | (go_at_call 33; (with_reducible refine Hmul.out.mono ?_); rintro e w1 ⟨rfl, hb1⟩)
      | (go_at_call 11; (with_reducible refine (Hn.out _ _).mono ?_); rintro e w1 ⟨rfl, rfl⟩)
      | (go_at_call 12; (with_reducible refine (Haw.out _ hb1).mono ?_); rintro e w7 ⟨rfl, hb⟩; have hb7 := hb1.trans (hb.mono hb1.size); clear hb))
    go_ret
    exact ⟨rfl, hb7⟩
  · haveI : NeZero p := ⟨by have := hpr.pos; omega⟩
    have hlt := h.lt
    have hP := h.pair h2 hpr hr1 hr2
    have hmul := Lib.hid (mulA_ok hP hfit)
    obtain ⟨k1, k2⟩ := rank_mul hpr hr1 hr2 hfit
    have hwN := h2.wid
    have hrowsM := h.sz.rows
    have gC : Good p (cols N) (mulN p (modN p M) (modN p N)) := by
      have h9 := mulN_good hpr.pos (modN p M) (modN p N)
      rwa [modN_cols] at h9
    have lC : (mulN p (modN p M) (modN p N)).length = M.length := by rw [mulN_len, modN_length]
    have hCC : ∀ A1 W, RdM W W.heap.size A1 (mulN p (modN p M) (modN p N)) → Below w.heap.size w W → Takes p A1 M.length (mulN p (modN p M) (modN p N)) W W.heap.size := fun A1 W q1 q2 => (comes_rows hlt (h.bas.below q2 h.bas.lt) (by rw [lC]; exact Nat.le_refl _) q1 gC (by rw [lC]; exact hrowsM) hwN).takes hpr (good_rect gC)
    have HrM : Hid (∀ W, Below w.heap.size w W → Calls Tryd.prog 24 #[.slice A M.length c, .int .u32 (p : Int)] W fun e w' => e = .returned (.tuple #[.int .i64 (rankN p M : Int), .int .i64 0]) ∧ Below W.heap.size W w') := fun W hW => rank_ok p A c M W w.heap.size (hP.one.below hW)
    have HrN : Hid (∀ W, Below w.heap.size w W → Calls Tryd.prog 24 #[.slice A2 N.length c2, .int .u32 (p : Int)] W fun e w' => e = .returned (.tuple #[.int .i64 (rankN p N : Int), .int .i64 0]) ∧ Below W.heap.size W w') := fun W hW => rank_ok p A2 c2 N W w.heap.size (hP.two.below hW)
    have HrC : Hid (∀ A1 W, RdM W W.heap.size A1 (mulN p (modN p M) (modN p N)) → Below w.heap.size w W → Calls Tryd.prog 24 #[.slice A1 M.length M.length, .int .u32 (p : Int)] W fun e w' => e = .returned (.tuple #[.int .i64 (rankN p (mulN p (modN p M) (modN p N)) : Int), .int .i64 0]) ∧ Below W.heap.size W w') := fun A1 W q1 q2 => by
      have h9 := rank_ok p A1 M.length (mulN p (modN p M) (modN p N)) W W.heap.size (hCC A1 W q1 q2)
      rw [lC] at h9
      exact h9
    have hdet : (∃ (HdM : ∀ W, Below w.heap.size w W → Calls Tryd.prog 15 #[.slice A M.length c, .int .u32 (p : Int)] W fun e w' => e = .returned (.tuple #[.int .u32 (detN p (modN p M) : Int), .int .i64 0]) ∧ Below W.heap.size W w')
        (HdN : ∀ W, Below w.heap.size w W → Calls Tryd.prog 15 #[.slice A2 N.length c2, .int .u32 (p : Int)] W fun e w' => e = .returned (.tuple #[.int .u32 (detN p (modN p N) : Int), .int .i64 0]) ∧ Below W.heap.size W w'),
        (∀ A1 W, RdM W W.heap.size A1 (mulN p (modN p M) (modN p N)) → Below w.heap.size w W → Calls Tryd.prog 15 #[.slice A1 M.length M.length, .int .u32 (p : Int)] W fun e w' => e = .returned (.tuple #[.int .u32 (detN p (modN p (mulN p (modN p M) (modN p N))) : Int), .int .i64 0]) ∧ Below W.heap.size W w') ∧
        detN p (modN p M) * detN p (modN p N) % p = detN p (modN p (mulN p (modN p M) (modN p N))) ∧ detN p (modN p M) < p ∧ detN p (modN p N) < p) ∨
      ((∀ W, Below w.heap.size w W → ∃ (a b : Int) (x y : Nat), ((a != 0) = true ∨ (b != 0) = true) ∧ (Calls Tryd.prog 15 #[.slice A M.length c, .int .u32 (p : Int)] W fun e w' => e = .returned (.tuple #[.int .u32 (x : Int), .int .i64 a]) ∧ Below W.heap.size W w') ∧
        (∀ W2, Below w.heap.size w W2 → Calls Tryd.prog 15 #[.slice A2 N.length c2, .int .u32 (p : Int)] W2 fun e w' => e = .returned (.tuple #[.int .u32 (y : Int), .int .i64 b]) ∧ Below W2.heap.size W2 w'))) := by
      by_cases s1 : Sq M
      · by_cases s2 : Sq N
        · have sC : Sq (mulN p (modN p M) (modN p N)) := ⟨by rw [lC]; exact s1.1, by rw [lC, good_cols gC (by rw [lC]; exact s1.1), ← s2.2, ← hfit, ← s1.2]⟩
          refine .inl ⟨fun W hW => det_ok p A c M W w.heap.size (hP.one.below hW) s1, fun W hW => det_ok p A2 c2 N W w.heap.size (hP.two.below hW) s2, fun A1 W q1 q2 => ?_, det_mul hpr s1 s2 hfit, ?_, ?_⟩
          · have h9 := det_ok p A1 M.length (mulN p (modN p M) (modN p N)) W W.heap.size (hCC A1 W q1 q2) sC
            rw [lC] at h9
            exact h9
          · have g := modN_good hpr.pos M
            rw [← s1.2] at g
            exact (det_says hpr g (modN_length p M)).2
          · have g := modN_good hpr.pos N
            rw [← s2.2] at g
            exact (det_says hpr g (modN_length p N)).2
        · refine .inr fun W hW => ?_
          exact ⟨0, 3, _, 0, .inr (by decide), det_ok p A c M W w.heap.size (hP.one.below hW) s1, fun W2 hW2 => det_err p A2 N.length c2 W2 3 (by decide) (sqErr_not (h2.below hW2 |>.takes hpr hr2) s2)⟩
      · refine .inr fun W hW => ?_
        by_cases s2 : Sq N
        · exact ⟨3, 0, 0, _, .inl (by decide), det_err p A M.length c W 3 (by decide) (sqErr_not (h.below hW |>.takes hpr hr1) s1), fun W2 hW2 => det_ok p A2 c2 N W2 w.heap.size (hP.two.below hW2) s2⟩
        · exact ⟨3, 3, 0, 0, .inl (by decide), det_err p A M.length c W 3 (by decide) (sqErr_not (h.below hW |>.takes hpr hr1) s1), fun W2 hW2 => det_err p A2 N.length c2 W2 3 (by decide) (sqErr_not (h2.below hW2 |>.takes hpr hr2) s2)⟩
    have HdC : Hid (∀ A1 W, RdM W W.heap.size A1 (mulN p (modN p M) (modN p N)) → Below w.heap.size w W → ∃ (v : Nat) (k : Int), Calls Tryd.prog 15 #[.slice A1 M.length M.length, .int .u32 (p : Int)] W fun e w' => e = .returned (.tuple #[.int .u32 (v : Int), .int .i64 k]) ∧ Below W.heap.size W w') := fun A1 W q1 q2 => by
      have h9 := det_any (hCC A1 W q1 q2)
      rw [lC] at h9
      exact h9
    obtain ⟨C, hC⟩ : ∃ C, C = mulN p (modN p M) (modN p N) := ⟨_, rfl⟩
    rw [← hC] at hmul k1 k2 hdet
    simp only [← hC] at HrC HdC
    obtain ⟨x, hx⟩ : ∃ x, x = rankN p M := ⟨_, rfl⟩
    obtain ⟨y, hy⟩ : ∃ y, y = rankN p N := ⟨_, rfl⟩
    obtain ⟨z, hz⟩ : ∃ z, z = rankN p C := ⟨_, rfl⟩
    rw [← hz, ← hx] at k1
    rw [← hz, ← hy] at k2
    simp only [← hx] at HrM
    simp only [← hy] at HrN
    simp only [← hz] at HrC
    have u1 : ¬ ((x : Int) < (z : Int)) := by omega
    have u2 : ¬ ((y : Int) < (z : Int)) := by omega
    have hp0 := hpr.pos
    have t0 : ((p : Int) == 0) = false := by simp; omega
    clear h h2 hP hr1 hr2 hfit hCC gC lC hwN hrowsM hC hx hy hz
    rcases hdet with ⟨HdM, HdN, HdC2, hprod, hd1, hd2⟩ | hdet
    · have HdM := Lib.hid HdM
      have HdN := Lib.hid HdN
      have HdC2 := Lib.hid HdC2
      clear HdC
      obtain ⟨d, hd⟩ : ∃ d, d = detN p (modN p M) := ⟨_, rfl⟩
      obtain ⟨i, hi⟩ : ∃ i, i = detN p (modN p N) := ⟨_, rfl⟩
      obtain ⟨j, hj⟩ : ∃ j, j = detN p (modN p C) := ⟨_, rfl⟩
      simp only [← hd] at HdM
      simp only [← hi] at HdN
      simp only [← hj] at HdC2
      rw [← hd, ← hi, ← hj] at hprod
      rw [← hd] at hd1
      rw [← hi] at hd2
      have hm := Nat.mul_le_mul (Nat.le_of_lt (Nat.lt_trans hd1 hlt)) (Nat.le_of_lt (Nat.lt_trans hd2 hlt))
      have hjl : j < p := by rw [← hprod]; exact Nat.mod_lt _ hp0
      have hm2 : d * i < 18446744073709551616 := by
        have h1 : d * i ≤ 4294967295 * 4294967295 := Nat.mul_le_mul (by omega) (by omega)
        omega
      obtain ⟨m, hm9⟩ : ∃ m, m = d * i := ⟨_, rfl⟩
      rw [← hm9] at hprod hm2
      have e1 : (d : Int) * (i : Int) = (m : Int) := by rw [hm9]; simp
      have e2 : (m : Int) % (p : Int) = (j : Int) := by rw [← hprod]; simp
      have e3 : ((j : Int) == (j : Int)) = true := by simp
      clear hprod hm9 hm hd hi hj
      go_enter Tryd.func8, Tryd.ntmps8
      go_wp2_with (first
        | (go_at_call 33; (with_reducible refine hmul.out.mono ?_); rintro e w1 ⟨A1, rfl, hc1, hb1⟩)
        | (go_at_call 11; (with_reducible refine (Hn.out _ _).mono ?_); rintro e w1 ⟨rfl, rfl⟩)
        | (go_at_call_of 24 (Value.slice A M.length c); (with_reducible refine (HrM.out _ hb1).mono ?_); rintro e w2 ⟨rfl, hb⟩; have hb2 := hb1.trans (hb.mono hb1.size); have hc2 := (hc1.below hb).mono hb.size; clear hb)
        | (go_at_call_of 24 (Value.slice A2 N.length c2); (with_reducible refine (HrN.out _ hb2).mono ?_); rintro e w3 ⟨rfl, hb⟩; have hb3 := hb2.trans (hb.mono hb2.size); have hc3 := (hc2.below hb).mono hb.size; clear hb)
        | (go_at_call 24; (with_reducible refine (HrC.out _ _ hc3 hb3).mono ?_); rintro e w4 ⟨rfl, hb⟩; have hb4 := hb3.trans (hb.mono hb3.size); have hc4 := (hc3.below hb).mono hb.size; clear hb)
        | (go_at_call_of 15 (Value.slice A M.length c); (with_reducible refine (HdM.out _ hb4).mono ?_); rintro e w5 ⟨rfl, hb⟩; have hb5 := hb4.trans (hb.mono hb4.size); have hc5 := (hc4.below hb).mono hb.size; clear hb)
        | (go_at_call_of 15 (Value.slice A2 N.length c2); (with_reducible refine (HdN.out _ hb5).mono ?_); rintro e w6 ⟨rfl, hb⟩; have hb6 := hb5.trans (hb.mono hb5.size); have hc6 := (hc5.below hb).mono hb.size; clear hb)
        | (go_at_call 15; (with_reducible refine (HdC2.out _ _ hc6 hb6).mono ?_); rintro e w7 ⟨rfl, hb⟩; have hb7 := hb6.trans (hb.mono hb6.size); clear hb)
        | (go_at_call 12; (with_reducible refine (Haw.out _ hb7).mono ?_); rintro e w8 ⟨rfl, hb⟩; have hb8 := hb7.trans (hb.mono hb7.size); clear hb))
      go_ret
      exact ⟨rfl, hb8⟩
    · have Hdet := Lib.hid hdet
      clear hdet
      go_enter Tryd.func8, Tryd.ntmps8
      go_wp2_with (first
        | (go_at_call 33; (with_reducible refine hmul.out.mono ?_); rintro e w1 ⟨A1, rfl, hc1, hb1⟩)
        | (go_at_call 11; (with_reducible refine (Hn.out _ _).mono ?_); rintro e w1 ⟨rfl, rfl⟩)
        | (go_at_call_of 24 (Value.slice A M.length c); (with_reducible refine (HrM.out _ hb1).mono ?_); rintro e w2 ⟨rfl, hb⟩; have hb2 := hb1.trans (hb.mono hb1.size); have hc2 := (hc1.below hb).mono hb.size; clear hb)
        | (go_at_call_of 24 (Value.slice A2 N.length c2); (with_reducible refine (HrN.out _ hb2).mono ?_); rintro e w3 ⟨rfl, hb⟩; have hb3 := hb2.trans (hb.mono hb2.size); have hc3 := (hc2.below hb).mono hb.size; clear hb)
        | (go_at_call 24; (with_reducible refine (HrC.out _ _ hc3 hb3).mono ?_); rintro e w4 ⟨rfl, hb⟩; have hb4 := hb3.trans (hb.mono hb3.size); have hc4 := (hc3.below hb).mono hb.size; clear hb))
      obtain ⟨a, b, xx, yy, hab, q1, q2⟩ := Hdet.out _ hb4
      have Q1 := Lib.hid q1
      have Q2 := Lib.hid q2
      clear q1 q2
      go_wp2_with (first
        | (go_at_call_of 15 (Value.slice A M.length c); (with_reducible refine Q1.out.mono ?_); rintro e w5 ⟨rfl, hb⟩; have hb5 := hb4.trans (hb.mono hb4.size); have hc5 := (hc4.below hb).mono hb.size; clear hb)
        | (go_at_call_of 15 (Value.slice A2 N.length c2); (with_reducible refine (Q2.out _ hb5).mono ?_); rintro e w6 ⟨rfl, hb⟩; have hb6 := hb5.trans (hb.mono hb5.size); have hc6 := (hc5.below hb).mono hb.size; clear hb; obtain ⟨v9, k9, hdc⟩ := HdC.out _ _ hc6 hb6; have Hdc := Lib.hid hdc; clear hdc))
      go_wp2_with (go_at_call 15; (with_reducible refine Hdc.out.mono ?_); rintro e w7 ⟨rfl, hb⟩; have hb7 := hb6.trans (hb.mono hb6.size); clear hb)
      rcases hab with hab | hab
      · have hab := hab
        go_wp2_with (first
          | (go_at_call 11; (with_reducible refine (Hn.out _ _).mono ?_); rintro e w8 ⟨rfl, rfl⟩)
          | (go_at_call 12; (with_reducible refine (Haw.out _ hb7).mono ?_); rintro e w8 ⟨rfl, hb⟩; have hb8 := hb7.trans (hb.mono hb7.size); clear hb))
        go_ret
        exact ⟨rfl, hb8⟩
      · rcases hq : (a != 0) with _ | _
        · go_wp2_with (first
            | (go_at_call 11; (with_reducible refine (Hn.out _ _).mono ?_); rintro e w8 ⟨rfl, rfl⟩)
            | (go_at_call 12; (with_reducible refine (Haw.out _ hb7).mono ?_); rintro e w8 ⟨rfl, hb⟩; have hb8 := hb7.trans (hb.mono hb7.size); clear hb))
          go_ret
          exact ⟨rfl, hb8⟩
        · go_wp2_with (first
            | (go_at_call 11; (with_reducible refine (Hn.out _ _).mono ?_); rintro e w8 ⟨rfl, rfl⟩)
            | (go_at_call 12; (with_reducible refine (Haw.out _ hb7).mono ?_); rintro e w8 ⟨rfl, hb⟩; have hb8 := hb7.trans (hb.mono hb7.size); clear hb))
          go_ret
          exact ⟨rfl, hb8⟩
end
section

end
end Go.Proofs.YtecdjanopiibcaaDoor
