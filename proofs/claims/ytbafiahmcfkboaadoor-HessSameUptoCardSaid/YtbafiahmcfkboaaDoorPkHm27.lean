/- The contract of shear. Conditions: as it states. -/
import Derived.Test.YtbafiahmcfkboaaDoorPkHm26
namespace Go.Proofs.YtbafiahmcfkboaaDoor
open Go.RowKit

theorem WK.pw {w : World} {B gw p n : Nat} {q : Bool} {H S R : Nat → Nat → Nat} (h : WK w B gw p n q H S R) : Pw w gw p := by
  obtain ⟨_, _, _, _, _, _, h⟩ := h
  exact h.pw
theorem WK.dr {w w' : World} {B gw p n : Nat} {q : Bool} {H S R : Nat → Nat → Nat} (h : WK w B gw p n q H S R) (hd : Dr w w') : WK w' B gw p n q H S R := by
  obtain ⟨_, _, _, _, _, _, h⟩ := h
  obtain ⟨m, rfl⟩ := hd
  exact ⟨_, _, _, _, _, _, h.drewN m⟩
theorem Wk.dr {w w' : World} {B gw p n gh gs gr : Nat} {q : Bool} {bh bs br : List Nat} {H S R : Nat → Nat → Nat} (h : Wk w B gw p n q gh gs gr bh bs br H S R) (hd : Dr w w') : Wk w' B gw p n q gh gs gr bh bs br H S R := by
  obtain ⟨m, rfl⟩ := hd
  exact h.drewN m

set_option maxRecDepth 20000 in
set_option maxHeartbeats 3200000 in
theorem shear_any (w : World) (B gw p n : Nat) (q : Bool) (H S R : Nat → Nat → Nat) (i k c : Nat) (h : WK w B gw p n q H S R) (hB : B ≤ w.heap.size) (hp0 : 0 < p) (hp : p < 4294967296) (hc : c < p) (hi : i < n) (hk : k < n) (hik : i ≠ k) (hn : n ≤ 1000) :
    Calls Tryd.prog 36 #[.pointer (some ⟨gw, 0, none⟩), .int .i64 (i : Int), .int .i64 (k : Int), .int .u32 (c : Int)] w fun e w' => e = .returned (.tuple #[]) ∧ WK w' B gw p n q (acN p k i c (arN p i k (ngN p c) H)) (acN p k i c S) (arN p i k (ngN p c) R) ∧ Below B w w' := by
  obtain ⟨gh, gs, gr, bh, bs, br, h⟩ := h
  have hgw := h.blk.lt
  have hng : ngN p c < 4294967296 := by have := ngN_lt hc; omega
  have HNG : Hid (∀ (W : World) bh bs br H S R, Wk W B gw p n q gh gs gr bh bs br H S R → Calls Tryd.prog 40 #[.pointer (some ⟨gw, 0, none⟩), .int .u32 (c : Int)] W fun e w' => e = .returned (.int .u32 (ngN p c : Int)) ∧ W = w') := fun W bh bs br H S R h => hneg_any gw p c W hp hc h.pw
  obtain ⟨d, hd⟩ : ∃ d, d = ngN p c := ⟨_, rfl⟩
  rw [← hd] at hng HNG ⊢
  have HA1 : Hid (∀ (W : World) bh H S R, Wk W B gw p n q gh gs gr bh bs br H S R → Calls Tryd.prog 63 #[.pointer (some ⟨gw, 0, none⟩), .slice (some ⟨gh, 0, none⟩) n n, .int .i64 (i : Int), .int .i64 (k : Int), .int .u32 (d : Int)] W fun e w' => e = .returned (.tuple #[]) ∧ Wk w' B gw p n q gh gs gr bh bs br (arN p i k d H) S R ∧ Below B W w') := fun W bh H S R h => by
    have hBW : B ≤ W.heap.size := Nat.le_trans h.low (Nat.le_of_lt h.blk.lt)
    have hl := h.hl
    refine (addRow_any gh gw p n i k n d n bh H W h.h h.pw (fun e => h.d1 (List.mem_cons_of_mem _ e)) hp0 hp hng h.bH hi hk hik h.hl hn hn).mono ?_
    rintro _ _ ⟨rfl, h1, h2⟩
    exact ⟨rfl, h.setH h2 (fun x hx => List.mem_cons_of_mem _ hx) (fun x hx => hx) hl h1 (h.bH.ar hp0), h2.below (fun x hx => h.loh x (List.mem_cons_of_mem _ hx)) hBW⟩
  have HC1 : Hid (∀ (W : World) bh bs br H S R, Wk W B gw p n q gh gs gr bh bs br H S R → Calls Tryd.prog 64 #[.pointer (some ⟨gw, 0, none⟩), .slice (some ⟨gh, 0, none⟩) n n, .int .i64 (k : Int), .int .i64 (i : Int), .int .u32 (c : Int)] W fun e w' => e = .returned (.tuple #[]) ∧ Wk w' B gw p n q gh gs gr bh bs br (acN p k i c H) S R ∧ Below B W w') := fun W bh bs br H S R h => by
    have hBW : B ≤ W.heap.size := Nat.le_trans h.low (Nat.le_of_lt h.blk.lt)
    have hl := h.hl
    refine (addCol_any _ gh gw p n k i n c n bh H W (.inr ⟨rfl, h.h⟩) h.pw (fun _ e => h.d1 (List.mem_cons_of_mem _ e)) hp0 hp (by omega) h.bH hk hi h.hl hn hn).mono ?_
    rintro _ _ ⟨rfl, h1, h2⟩
    exact ⟨rfl, h.setH h2 (fun x hx => List.mem_cons_of_mem _ hx) (fun x hx => hx) hl (h1.mt (i := i) (by omega)).2 (h.bH.ac hp0), h2.below (fun x hx => h.loh x (List.mem_cons_of_mem _ hx)) hBW⟩
  have H0 := Lib.hid h
  have hq : q = true ∨ q = false := by cases q <;> simp
  rcases hq with rfl | rfl
  · have HA2 : Hid (∀ (W : World) bh H S R, Wk W B gw p n true gh gs gr bh bs br H S R → Calls Tryd.prog 63 #[.pointer (some ⟨gw, 0, none⟩), .slice (some ⟨gr, 0, none⟩) n n, .int .i64 (i : Int), .int .i64 (k : Int), .int .u32 (d : Int)] W fun e w' => e = .returned (.tuple #[]) ∧ Wk w' B gw p n true gh gs gr bh bs br H S (arN p i k d R) ∧ Below B W w') := fun W bh H S R h => by
      have hBW : B ≤ W.heap.size := Nat.le_trans h.low (Nat.le_of_lt h.blk.lt)
      have hl : br.length = n := h.rl
      refine (addRow_any gr gw p n i k n d n br R W (h.r.mt (i := i) (by omega)).2 h.pw (fun e => h.d3 (List.mem_cons_of_mem _ e)) hp0 hp hng h.bR hi hk hik hl hn hn).mono ?_
      rintro _ _ ⟨rfl, h1, h2⟩
      exact ⟨rfl, h.setR h2 (fun x hx => List.mem_cons_of_mem _ hx) (fun x hx => hx) hl h1 (h.bR.ar hp0), h2.below (fun x hx => h.lor x (List.mem_cons_of_mem _ hx)) hBW⟩
    have HC2 : Hid (∀ (W : World) bh H S R, Wk W B gw p n true gh gs gr bh bs br H S R → Calls Tryd.prog 64 #[.pointer (some ⟨gw, 0, none⟩), .slice (some ⟨gs, 0, none⟩) n n, .int .i64 (k : Int), .int .i64 (i : Int), .int .u32 (c : Int)] W fun e w' => e = .returned (.tuple #[]) ∧ WK w' B gw p n true H (acN p k i c S) R ∧ Below B W w') := fun W bh H S R h => by
      have hBW : B ≤ W.heap.size := Nat.le_trans h.low (Nat.le_of_lt h.blk.lt)
      have hl : bs.length = n := h.sl
      refine (addCol_any _ gs gw p n k i n c n bs S W h.s h.pw (fun _ e => h.d2 (List.mem_cons_of_mem _ e)) hp0 hp (by omega) h.bS hk hi hl hn hn).mono ?_
      rintro _ _ ⟨rfl, h1, h2⟩
      exact ⟨rfl, ⟨_, _, _, _, _, _, h.setS h2 (fun x hx => List.mem_cons_of_mem _ hx) h1 (h.bS.ac hp0)⟩, h2.below (fun x hx => h.los x (List.mem_cons_of_mem _ hx)) hBW⟩
    have xN : ∀ (W : World), Sem.run Tryd.prog (binOp BinOp.neq 23 (.slice (some ⟨gr, 0, none⟩) n n) (.slice none 0 0)) W = .ok (.bool true) W := fun _ => by kernel_rfl
    obtain ⟨c0, c1, c2, c3⟩ := h.cellsT
    clear h hd hc hng
    go_enter Tryd.func36, Tryd.ntmps36
    go_upto_region 1 with (fail)
    go_region_with (first
      | (go_at_call 40; (with_reducible refine (HNG.out _ _ _ _ _ _ _ (H0.out.dr (by first | exact Dr.refl _ | exact (Dr.refl _).drew))).mono ?_); rintro _ _ ⟨rfl, rfl⟩)
      | (go_at_call 63; (with_reducible refine (HA1.out _ _ _ _ _ (H0.out.dr (by first | exact Dr.refl _ | exact (Dr.refl _).drew))).mono ?_); rintro _ w1 ⟨rfl, h1, hb1⟩; have H1 := Lib.hid h1; have Hb1 : Hid (Below B w w1) := (by first | exact hb1 | exact ((Dr.refl _).drew.below B).trans hb1); have hs1 : B ≤ w1.heap.size := Nat.le_trans hB hb1.size; obtain ⟨a1_0, a1_1, a1_2, a1_3⟩ := h1.cellsT; have hg1 := h1.blk.lt; clear h1 hb1))
    all_goals go_upto_region 3 with (fail)
    all_goals go_region_with (first
      | (go_at_call 40; (with_reducible refine (HNG.out _ _ _ _ _ _ _ (H1.out.dr (by first | exact Dr.refl _ | exact (Dr.refl _).drew))).mono ?_); rintro _ _ ⟨rfl, rfl⟩)
      | (go_at_call 63; (with_reducible refine (HA2.out _ _ _ _ _ (H1.out.dr (by first | exact Dr.refl _ | exact (Dr.refl _).drew))).mono ?_); rintro _ w2 ⟨rfl, h2, hb2⟩; have H2 := Lib.hid h2; have Hb2 : Hid (Below B w1 w2) := (by first | exact hb2 | exact ((Dr.refl _).drew.below B).trans hb2); have hs2 : B ≤ w2.heap.size := Nat.le_trans hs1 hb2.size; obtain ⟨a2_0, a2_1, a2_2, a2_3⟩ := h2.cellsT; have hg2 := h2.blk.lt; clear h2 hb2))
    all_goals go_wp2_with (first
      | (go_at_call 64; (with_reducible refine (HC1.out _ _ _ _ _ _ _ H2.out).mono ?_); rintro _ w3 ⟨rfl, h3, hb3⟩; have H3 := Lib.hid h3; have Hb3 := Lib.hid hb3; have hs3 : B ≤ w3.heap.size := Nat.le_trans hs2 hb3.size; obtain ⟨a3_0, a3_1, a3_2, a3_3⟩ := h3.cellsT; have hg3 := h3.blk.lt; clear h3 hb3)
      | (go_at_call 64; (with_reducible refine (HC2.out _ _ _ _ _ H3.out).mono ?_); rintro _ w4 ⟨rfl, h4, hb4⟩; have H4 := Lib.hid h4; have Hb4 := Lib.hid hb4; clear h4 hb4))
    all_goals go_end0
    all_goals exact ⟨rfl, H4.out, ((Hb1.out.trans Hb2.out).trans Hb3.out).trans Hb4.out⟩
  · have HC2 : Hid (∀ (W : World) bh bs br H S R, Wk W B gw p n false gh gs gr bh bs br H S R → Calls Tryd.prog 64 #[.pointer (some ⟨gw, 0, none⟩), .slice none 0 0, .int .i64 (k : Int), .int .i64 (i : Int), .int .u32 (c : Int)] W fun e w' => e = .returned (.tuple #[]) ∧ WK w' B gw p n false H (acN p k i c S) (arN p i k d R) ∧ Below B W w') := fun W bh bs br H S R h => by
      have hBW : B ≤ W.heap.size := Nat.le_trans h.low (Nat.le_of_lt h.blk.lt)
      have e1 : bs = [] := List.eq_nil_of_length_eq_zero h.sl
      have e2 : br = [] := List.eq_nil_of_length_eq_zero h.rl
      subst e1 e2
      refine (addCol_any none gs gw p n k i 0 c 0 [] S W (.inl rfl) h.pw (fun e => absurd rfl e) hp0 hp (by omega) (fun a b ha => absurd ha (Nat.not_lt_zero _)) hk hi rfl (by omega) hn).mono ?_
      rintro _ _ ⟨rfl, h1, h2⟩
      have h3 := h.setS (S' := acN p k i c S) h2 (fun x hx => absurd hx List.not_mem_nil) (.inl rfl) (h.bS.ac hp0)
      exact ⟨rfl, ⟨_, _, _, _, _, _, h3.blk, h3.h, h3.hl, h3.s, h3.sl, .inl rfl, rfl, h3.low, h3.loh, h3.los, h3.lor, h3.d1, h3.d2, h3.d3, h3.d4, h3.d5, h3.d6, h3.bH, h3.bS, Lt.ar (i := i) (k := k) (c := d) h3.bR hp0⟩, h2.below (fun x hx => absurd hx List.not_mem_nil) hBW⟩
    have xN : ∀ (W : World), Sem.run Tryd.prog (binOp BinOp.neq 23 (.slice none 0 0) (.slice none 0 0)) W = .ok (.bool false) W := fun _ => by kernel_rfl
    obtain ⟨c0, c1, c2, c3⟩ := h.cellsF
    clear h hd hc hng
    go_enter Tryd.func36, Tryd.ntmps36
    go_upto_region 1 with (fail)
    go_region_with (first
      | (go_at_call 40; (with_reducible refine (HNG.out _ _ _ _ _ _ _ (H0.out.dr (by first | exact Dr.refl _ | exact (Dr.refl _).drew))).mono ?_); rintro _ _ ⟨rfl, rfl⟩)
      | (go_at_call 63; (with_reducible refine (HA1.out _ _ _ _ _ (H0.out.dr (by first | exact Dr.refl _ | exact (Dr.refl _).drew))).mono ?_); rintro _ w1 ⟨rfl, h1, hb1⟩; have H1 := Lib.hid h1; have Hb1 : Hid (Below B w w1) := (by first | exact hb1 | exact ((Dr.refl _).drew.below B).trans hb1); have hs1 : B ≤ w1.heap.size := Nat.le_trans hB hb1.size; obtain ⟨a1_0, a1_1, a1_2, a1_3⟩ := h1.cellsF; have hg1 := h1.blk.lt; clear h1 hb1))
    all_goals go_wp2_with (first
      | (go_at_call 64; (with_reducible refine (HC1.out _ _ _ _ _ _ _ H1.out).mono ?_); rintro _ w3 ⟨rfl, h3, hb3⟩; have H3 := Lib.hid h3; have Hb3 := Lib.hid hb3; have hs3 : B ≤ w3.heap.size := Nat.le_trans hs1 hb3.size; obtain ⟨a3_0, a3_1, a3_2, a3_3⟩ := h3.cellsF; have hg3 := h3.blk.lt; clear h3 hb3)
      | (go_at_call 64; (with_reducible refine (HC2.out _ _ _ _ _ _ _ H3.out).mono ?_); rintro _ w4 ⟨rfl, h4, hb4⟩; have H4 := Lib.hid h4; have Hb4 := Lib.hid hb4; clear h4 hb4))
    all_goals go_end0
    all_goals exact ⟨rfl, H4.out, (Hb1.out.trans Hb3.out).trans Hb4.out⟩
end Go.Proofs.YtbafiahmcfkboaaDoor
