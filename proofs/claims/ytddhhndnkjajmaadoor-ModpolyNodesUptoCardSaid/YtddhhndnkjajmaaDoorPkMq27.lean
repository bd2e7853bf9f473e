/- modpoly's calls modulo a prime: Degree, Shift, Div, Free, Pow. Conditions: p a prime below 2^32; bases reads 2, 7, 61; fewer than 2^40 coefficients. modpoly's Bezout modulo a prime. Conditions: p a prime below 2^32; bases reads 2, 7, 61; fewer than 2^40 coefficients. Rows that grow by append, elements of one cell. No conditions beyond the law's. The reference's Norm, at, Add, Scale, Same on polynomials modulo a number. Conditions: it is above 0 and below 2^32. -/
import Derived.Test.YtddhhndnkjajmaaDoorPkMq26
import Derived.Test.YtddhhndnkjajmaaDoorPkMq22
import Derived.Maps.AppendAt
import Derived.OwnWalk
import Derived.OneCell
namespace Go.Proofs.YtddhhndnkjajmaaDoor
section
open Go.RowKit

set_option maxHeartbeats 3200000 in
theorem pDegree_yes (Aa : Option Addr) (capa : Nat) (a : List Nat) (p : Nat) (w : World) (B : Nat) (hpr : Pr p) (hp : p < 4294967296) (hw : Bases w) (hB : B ≤ w.heap.size) (hr_a : Rd w B Aa (u32s a)) (hm_a : a.length ≤ Sm) (hd_a : ∀ x ∈ a, x < 4294967296) :
    Calls Tryd.prog 14 #[.slice Aa a.length capa, .int .u32 (p : Int)] w (fun e w' => e = .returned (.tuple #[.int .i64 (((mnP p a).length : Int) - 1), .int .i64 0]) ∧ Below w.heap.size w w') := by
  have hp0 := hpr.pos
  obtain ⟨sp, hsp⟩ : ∃ sp, sp = spN p := ⟨_, rfl⟩
  have HF := Lib.hid (fieldOf_yes p w hpr hp hw)
  rw [← hsp] at HF
  obtain ⟨R, hR⟩ : ∃ R : Ending → World → Prop, R = (fun e w' => e = .returned (.tuple #[.int .i64 (((mnP p a).length : Int) - 1), .int .i64 0]) ∧ Below w.heap.size w w') := ⟨_, rfl⟩
  show Calls _ _ _ _ (fun e w' => e = .returned (.tuple #[.int .i64 (((mnP p a).length : Int) - 1), .int .i64 0]) ∧ Below w.heap.size w w')
  rw [← hR]
  have HR := Lib.hid hR
  have lm_a : a.length ≤ 1099511627776 := hm_a
  obtain ⟨na, hna⟩ : ∃ na, na = mnP p a := ⟨_, rfl⟩
  have Nna : Hid (Nf p na) := by rw [hna]; exact mnP_nf hp0 a
  have Cna : Hid (Cg p (zo na) (zo a)) := by rw [hna]; exact mnP_cg p a
  have lna : na.length ≤ 1099511627776 := by have := mnP_len p a; rw [← hna] at this; omega
  have HNa : Hid (∀ (W : World) A c, Rd W W.heap.size A (u32s a) → Calls Tryd.prog 51 #[fieldV p sp, .slice A a.length c] W (PR1 W na)) := by
    rw [hna]; exact fun W A c h1 => fnormal_any p sp A c a W _ hp0 hp h1 (Nat.le_refl _) (by unfold Big; omega) hd_a
  have Ena := Lib.hid hna
  have Hr_a := Lib.hid hr_a
  clear hR hr_a hd_a hm_a hna hpr hw hsp
  go_enter Tryd.func14, Tryd.ntmps14
  go_upto_region 4 with (go_at_call 50; (with_reducible refine HF.out.mono ?_); rintro _ w0 ⟨rfl, hb0⟩)
  obtain ⟨W1, hW1⟩ : ∃ W1, W1 = w0.alloc (.cells #[.int .u64 (p : Int), .int .u64 (sp : Int)] 77 (0, 0)) := ⟨_, rfl⟩
  have hb01 : Below w0.heap.size w0 W1 := by rw [hW1]; exact (Below.refl _ _).alloc (Nat.le_refl _) _
  have hbf : Blk W1 w0.heap.size 77 [.int .u64 (p : Int), .int .u64 (sp : Int)] := by rw [hW1]; exact Blk.new_ rfl
  have hzb := hbf.lt
  have f0 := hbf.cell 0
  have f1 := hbf.cell 1
  simp only [List.getElem?_cons_zero, List.getElem?_cons_succ] at f0 f1
  have Hb1 := Lib.hid (hb0.trans (hb01.mono hb0.size))
  have R0_a := Lib.hid ((Hr_a.out.below (Hb1.out.mono hB)).mono (Nat.le_trans hB Hb1.out.size))
  rw [← hW1]
  obtain ⟨gb, hgb⟩ : ∃ gb, gb = w0.heap.size := ⟨_, rfl⟩
  rw [← hgb] at f0 f1 hzb ⊢
  clear hW1 hb01 hbf hgb hb0
  go_wp2_with (first
    | (go_at_call 51; (with_reducible refine (HNa.out _ _ _ (by first | exact R0_a.out | exact R0_a.out.drewS)).mono ?_); rintro _ w1 ⟨_, rfl, ⟨A1, c1, rfl, hr1, hb1⟩⟩; have hx1 : Below W1.heap.size W1 w1 := (by first | exact hb1 | exact (Below.refl _ _).drew.trans hb1); have Hx1 := Lib.hid hx1; have HB1 := Lib.hid (Hb1.out.trans (hx1.mono Hb1.out.size)); have zc1 := (hx1.cell (p := ⟨gb, 0, none⟩) hzb).trans f0; have zd1 := (hx1.cell (p := ⟨gb, 1, none⟩) hzb).trans f1; have zz1 : gb < w1.heap.size := (by have := Hx1.out.size; omega); have zR1_a := Lib.hid ((R0_a.out.below hx1).mono hx1.size); have Hr1 := Lib.hid hr1; have zR1_na := Lib.hid hr1.rd; clear hr1; clear hb1 hx1))
  rw [HR.out]
  exact ⟨by rw [← Ena.out]; rfl, HB1.out⟩

set_option maxHeartbeats 3200000 in
theorem pShift_yes (Aa : Option Addr) (capa : Nat) (a : List Nat) (k : Nat) (p : Nat) (w : World) (B : Nat) (hpr : Pr p) (hp : p < 4294967296) (hw : Bases w) (hB : B ≤ w.heap.size) (hr_a : Rd w B Aa (u32s a)) (hm_a : a.length ≤ Sm) (hd_a : ∀ x ∈ a, x < 4294967296) (hk : k ≤ 10000) :
    Calls Tryd.prog 31 #[.slice Aa a.length capa, .int .i64 (k : Int), .int .u32 (p : Int)] w (OkT (fun e w' => ∃ r, PR1 w r e w' ∧ Nf p r ∧ Cg p (zo r) (zo (mnP p a) * Z.X.pow k) ∧ r.length ≤ k + a.length)) := by
  have hp0 := hpr.pos
  obtain ⟨sp, hsp⟩ : ∃ sp, sp = spN p := ⟨_, rfl⟩
  have HF := Lib.hid (fieldOf_yes p w hpr hp hw)
  rw [← hsp] at HF
  obtain ⟨R, hR⟩ : ∃ R : Ending → World → Prop, R = (OkT (fun e w' => ∃ r, PR1 w r e w' ∧ Nf p r ∧ Cg p (zo r) (zo (mnP p a) * Z.X.pow k) ∧ r.length ≤ k + a.length)) := ⟨_, rfl⟩
  show Calls _ _ _ _ (OkT (fun e w' => ∃ r, PR1 w r e w' ∧ Nf p r ∧ Cg p (zo r) (zo (mnP p a) * Z.X.pow k) ∧ r.length ≤ k + a.length))
  rw [← hR]
  have HR := Lib.hid hR
  have lm_a : a.length ≤ 1099511627776 := hm_a
  obtain ⟨na, hna⟩ : ∃ na, na = mnP p a := ⟨_, rfl⟩
  have Nna : Hid (Nf p na) := by rw [hna]; exact mnP_nf hp0 a
  have Cna : Hid (Cg p (zo na) (zo a)) := by rw [hna]; exact mnP_cg p a
  have lna : na.length ≤ 1099511627776 := by have := mnP_len p a; rw [← hna] at this; omega
  have HNa : Hid (∀ (W : World) A c, Rd W W.heap.size A (u32s a) → Calls Tryd.prog 51 #[fieldV p sp, .slice A a.length c] W (PR1 W na)) := by
    rw [hna]; exact fun W A c h1 => fnormal_any p sp A c a W _ hp0 hp h1 (Nat.le_refl _) (by unfold Big; omega) hd_a
  have Ena := Lib.hid hna
  have Hr_a := Lib.hid hr_a
  have HSH : Hid (∀ (W : World) A c (k : Nat) (a : List Nat), Rd W W.heap.size A (u32s a) → a.length ≤ 1099511627776 → k ≤ 10000 → Nf p a → Calls Tryd.prog 61 #[.slice A a.length c, .int .i64 (k : Int)] W fun e w' => ∃ r, PR1 W r e w' ∧ Nf p r ∧ Cg p (zo r) (zo a * Z.X.pow k) ∧ r.length ≤ k + a.length) := fun W A c k a h1 h2 h3 h4 => fshifted_any p A c k a W _ h1 (Nat.le_refl _) (by unfold Big; omega) (by unfold Big; omega) h4
  have y1 : ¬ ((k : Int) < 0) := by omega
  have y2 : ¬ ((10000 : Int) < (k : Int)) := by omega
  clear hR hr_a hd_a hm_a hna hpr hw hsp
  go_enter Tryd.func31, Tryd.ntmps31
  go_upto_region 4 with (go_at_call 50; (with_reducible refine HF.out.mono ?_); rintro _ w0 ⟨rfl, hb0⟩)
  obtain ⟨W1, hW1⟩ : ∃ W1, W1 = w0.alloc (.cells #[.int .u64 (p : Int), .int .u64 (sp : Int)] 77 (0, 0)) := ⟨_, rfl⟩
  have hb01 : Below w0.heap.size w0 W1 := by rw [hW1]; exact (Below.refl _ _).alloc (Nat.le_refl _) _
  have hbf : Blk W1 w0.heap.size 77 [.int .u64 (p : Int), .int .u64 (sp : Int)] := by rw [hW1]; exact Blk.new_ rfl
  have hzb := hbf.lt
  have f0 := hbf.cell 0
  have f1 := hbf.cell 1
  simp only [List.getElem?_cons_zero, List.getElem?_cons_succ] at f0 f1
  have Hb1 := Lib.hid (hb0.trans (hb01.mono hb0.size))
  have R0_a := Lib.hid ((Hr_a.out.below (Hb1.out.mono hB)).mono (Nat.le_trans hB Hb1.out.size))
  rw [← hW1]
  obtain ⟨gb, hgb⟩ : ∃ gb, gb = w0.heap.size := ⟨_, rfl⟩
  rw [← hgb] at f0 f1 hzb ⊢
  clear hW1 hb01 hbf hgb hb0
  go_wp2_with (first
    | (go_at_call 51; (with_reducible refine (HNa.out _ _ _ (by first | exact R0_a.out | exact R0_a.out.drewS)).mono ?_); rintro _ w1 ⟨_, rfl, ⟨A1, c1, rfl, hr1, hb1⟩⟩; have hx1 : Below W1.heap.size W1 w1 := (by first | exact hb1 | exact (Below.refl _ _).drew.trans hb1); have Hx1 := Lib.hid hx1; have HB1 := Lib.hid (Hb1.out.trans (hx1.mono Hb1.out.size)); have zc1 := (hx1.cell (p := ⟨gb, 0, none⟩) hzb).trans f0; have zd1 := (hx1.cell (p := ⟨gb, 1, none⟩) hzb).trans f1; have zz1 : gb < w1.heap.size := (by have := Hx1.out.size; omega); have zR1_a := Lib.hid ((R0_a.out.below hx1).mono hx1.size); have Hr1 := Lib.hid hr1; have zR1_na := Lib.hid hr1.rd; clear hr1; clear hb1 hx1)
    | (go_at_call 61; (with_reducible refine (HSH.out _ _ _ _ _ (by first | exact zR1_na.out | exact zR1_na.out.drewS) lna hk Nna.out).mono ?_); rintro _ w2 ⟨r, ⟨_, rfl, ⟨A2, c2, rfl, hr2, hb2⟩⟩, hm2⟩; have hx2 : Below w1.heap.size w1 w2 := (by first | exact hb2 | exact (Below.refl _ _).drew.trans hb2); have Hx2 := Lib.hid hx2; have HB2 := Lib.hid (HB1.out.trans (hx2.mono HB1.out.size)); have zc2 := (hx2.cell (p := ⟨gb, 0, none⟩) zz1).trans zc1; have zd2 := (hx2.cell (p := ⟨gb, 1, none⟩) zz1).trans zd1; have zz2 : gb < w2.heap.size := (by have := Hx2.out.size; omega); have zR2_a := Lib.hid ((zR1_a.out.below hx2).mono hx2.size); have zR2_na := Lib.hid ((zR1_na.out.below hx2).mono hx2.size); have Hr2 := Lib.hid hr2; have zR2_r := Lib.hid hr2.rd; clear hr2; have Hm2 := Lib.hid hm2; clear hm2; clear hb2 hx2))
  rw [HR.out]
  exact ⟨_, rfl, r, ⟨_, rfl, ⟨A2, c2, rfl, Hr2.out.mono HB1.out.size, HB2.out⟩⟩, Hm2.out.1, Ena.out ▸ Hm2.out.2.1, Nat.le_trans Hm2.out.2.2 (by have := mnP_len p a; rw [← Ena.out] at this; omega)⟩

set_option maxHeartbeats 800000 in
theorem pShift_far (A : Option Addr) (m cap : Nat) (k : Int) (p : Nat) (w : World) (hpr : Pr p) (hp : p < 4294967296) (hw : Bases w) (hk : k < 0 ∨ 10000 < k) :
    Calls Tryd.prog 31 #[.slice A m cap, .int .i64 k, .int .u32 (p : Int)] w fun e w' => e = .returned (.tuple #[.slice none 0 0, .int .i64 1]) ∧ Below w.heap.size w w' := by
  have HF := Lib.hid (fieldOf_yes p w hpr hp hw)
  clear hpr hw
  rcases hk with hk | hk
  all_goals
    first | (have y1 : ¬ (k < 0) := by omega) | skip
    go_enter Tryd.func31, Tryd.ntmps31
    go_wp2_with (go_at_call 50; (with_reducible refine HF.out.mono ?_); rintro _ w1 ⟨rfl, hb⟩)
    refine bodyPost_ret (v := .tuple #[.slice none 0 0, .int .i64 1]) (by simp [results, Tryd.results31, go_sem, *]) rfl ⟨rfl, ?_⟩
    exact hb.trans ((Below.refl _ _).alloc hb.size _)

set_option maxHeartbeats 3200000 in
theorem pDiv_yes (Aa : Option Addr) (capa : Nat) (a : List Nat) (Ab : Option Addr) (capb : Nat) (b : List Nat) (p : Nat) (w : World) (B : Nat) (hpr : Pr p) (hp : p < 4294967296) (hw : Bases w) (hB : B ≤ w.heap.size) (hr_a : Rd w B Aa (u32s a)) (hm_a : a.length ≤ Sm) (hd_a : ∀ x ∈ a, x < 4294967296) (hr_b : Rd w B Ab (u32s b)) (hm_b : b.length ≤ Sm) (hd_b : ∀ x ∈ b, x < 4294967296) (nz : mnP p b ≠ []) :
    Calls Tryd.prog 44 #[.slice Aa a.length capa, .slice Ab b.length capb, .int .u32 (p : Int)] w (fun e w' => ∃ q r vq vr, e = .returned (.tuple #[vq, vr, .int .i64 0]) ∧ PR w w' vq q ∧ PR w w' vr r ∧ Dv p (zo (mnP p a)) (zo (mnP p b)) (mnP p b).length q r) := by
  have hp0 := hpr.pos
  obtain ⟨sp, hsp⟩ : ∃ sp, sp = spN p := ⟨_, rfl⟩
  have HF := Lib.hid (fieldOf_yes p w hpr hp hw)
  rw [← hsp] at HF
  obtain ⟨R, hR⟩ : ∃ R : Ending → World → Prop, R = (fun e w' => ∃ q r vq vr, e = .returned (.tuple #[vq, vr, .int .i64 0]) ∧ PR w w' vq q ∧ PR w w' vr r ∧ Dv p (zo (mnP p a)) (zo (mnP p b)) (mnP p b).length q r) := ⟨_, rfl⟩
  show Calls _ _ _ _ (fun e w' => ∃ q r vq vr, e = .returned (.tuple #[vq, vr, .int .i64 0]) ∧ PR w w' vq q ∧ PR w w' vr r ∧ Dv p (zo (mnP p a)) (zo (mnP p b)) (mnP p b).length q r)
  rw [← hR]
  have HR := Lib.hid hR
  have lm_a : a.length ≤ 1099511627776 := hm_a
  obtain ⟨na, hna⟩ : ∃ na, na = mnP p a := ⟨_, rfl⟩
  have Nna : Hid (Nf p na) := by rw [hna]; exact mnP_nf hp0 a
  have Cna : Hid (Cg p (zo na) (zo a)) := by rw [hna]; exact mnP_cg p a
  have lna : na.length ≤ 1099511627776 := by have := mnP_len p a; rw [← hna] at this; omega
  have HNa : Hid (∀ (W : World) A c, Rd W W.heap.size A (u32s a) → Calls Tryd.prog 51 #[fieldV p sp, .slice A a.length c] W (PR1 W na)) := by
    rw [hna]; exact fun W A c h1 => fnormal_any p sp A c a W _ hp0 hp h1 (Nat.le_refl _) (by unfold Big; omega) hd_a
  have Ena := Lib.hid hna
  have Hr_a := Lib.hid hr_a
  have lm_b : b.length ≤ 1099511627776 := hm_b
  obtain ⟨nb, hnb⟩ : ∃ nb, nb = mnP p b := ⟨_, rfl⟩
  have Nnb : Hid (Nf p nb) := by rw [hnb]; exact mnP_nf hp0 b
  have Cnb : Hid (Cg p (zo nb) (zo b)) := by rw [hnb]; exact mnP_cg p b
  have lnb : nb.length ≤ 1099511627776 := by have := mnP_len p b; rw [← hnb] at this; omega
  have HNb : Hid (∀ (W : World) A c, Rd W W.heap.size A (u32s b) → Calls Tryd.prog 51 #[fieldV p sp, .slice A b.length c] W (PR1 W nb)) := by
    rw [hnb]; exact fun W A c h1 => fnormal_any p sp A c b W _ hp0 hp h1 (Nat.le_refl _) (by unfold Big; omega) hd_b
  have Enb := Lib.hid hnb
  have Hr_b := Lib.hid hr_b
  have HDV : Hid (∀ (W : World) A A' c c' (a b : List Nat), Below w.heap.size w W → Rd W W.heap.size A (u32s a) → Rd W W.heap.size A' (u32s b) → a.length ≤ 8796093022208 → Nf p a → Nf p b → b ≠ [] → Calls Tryd.prog 69 #[fieldV p sp, .slice A a.length c, .slice A' b.length c'] W (PD p W a b)) := fun W A A' c c' a b hW h1 h2 h3 h4 h5 h6 => fdivide_any p sp A A' c c' a b W _ hpr hp (hw.later hW) h1 h2 (Nat.le_refl _) (by unfold Big; omega) h4 h5 h6
  have hnz : nb ≠ [] := by rw [hnb]; exact nz
  have z2 : ((nb.length : Int) == 0) = false := bz (len_pos hnz)
  have Hnz := Lib.hid hnz
  clear hnz nz
  clear hR hr_a hd_a hm_a hna hr_b hd_b hm_b hnb hpr hw hsp
  have lna2 : na.length ≤ 8796093022208 := by omega
  go_enter Tryd.func44, Tryd.ntmps44
  go_upto_region 4 with (go_at_call 50; (with_reducible refine HF.out.mono ?_); rintro _ w0 ⟨rfl, hb0⟩)
  obtain ⟨W1, hW1⟩ : ∃ W1, W1 = w0.alloc (.cells #[.int .u64 (p : Int), .int .u64 (sp : Int)] 77 (0, 0)) := ⟨_, rfl⟩
  have hb01 : Below w0.heap.size w0 W1 := by rw [hW1]; exact (Below.refl _ _).alloc (Nat.le_refl _) _
  have hbf : Blk W1 w0.heap.size 77 [.int .u64 (p : Int), .int .u64 (sp : Int)] := by rw [hW1]; exact Blk.new_ rfl
  have hzb := hbf.lt
  have f0 := hbf.cell 0
  have f1 := hbf.cell 1
  simp only [List.getElem?_cons_zero, List.getElem?_cons_succ] at f0 f1
  have Hb1 := Lib.hid (hb0.trans (hb01.mono hb0.size))
  have R0_a := Lib.hid ((Hr_a.out.below (Hb1.out.mono hB)).mono (Nat.le_trans hB Hb1.out.size))
  have R0_b := Lib.hid ((Hr_b.out.below (Hb1.out.mono hB)).mono (Nat.le_trans hB Hb1.out.size))
  rw [← hW1]
  obtain ⟨gb, hgb⟩ : ∃ gb, gb = w0.heap.size := ⟨_, rfl⟩
  rw [← hgb] at f0 f1 hzb ⊢
  clear hW1 hb01 hbf hgb hb0
  go_region_held3 (fun W => W.cell? ⟨gb, 0, none⟩ = some (.int .u64 (p : Int)) ∧ W.cell? ⟨gb, 1, none⟩ = some (.int .u64 (sp : Int))) (go_keep) (first
    | (go_at_call 51; (with_reducible refine (HNa.out _ _ _ (by first | exact R0_a.out | exact R0_a.out.drewS)).mono ?_); rintro _ w1 ⟨_, rfl, ⟨A1, c1, rfl, hr1, hb1⟩⟩; have hx1 : Below W1.heap.size W1 w1 := (by first | exact hb1 | exact (Below.refl _ _).drew.trans hb1); have Hx1 := Lib.hid hx1; have HB1 := Lib.hid (Hb1.out.trans (hx1.mono Hb1.out.size)); have zc1 := (hx1.cell (p := ⟨gb, 0, none⟩) hzb).trans f0; have zd1 := (hx1.cell (p := ⟨gb, 1, none⟩) hzb).trans f1; have zz1 : gb < w1.heap.size := (by have := Hx1.out.size; omega); have zR1_a := Lib.hid ((R0_a.out.below hx1).mono hx1.size); have zR1_b := Lib.hid ((R0_b.out.below hx1).mono hx1.size); have Hr1 := Lib.hid hr1; have zR1_na := Lib.hid hr1.rd; clear hr1; clear hb1 hx1)
    | (go_at_call 51; (with_reducible refine (HNb.out _ _ _ (by first | exact zR1_b.out | exact zR1_b.out.drewS)).mono ?_); rintro _ w2 ⟨_, rfl, ⟨A2, c2, rfl, hr2, hb2⟩⟩; have hx2 : Below w1.heap.size w1 w2 := (by first | exact hb2 | exact (Below.refl _ _).drew.trans hb2); have Hx2 := Lib.hid hx2; have HB2 := Lib.hid (HB1.out.trans (hx2.mono HB1.out.size)); have zc2 := (hx2.cell (p := ⟨gb, 0, none⟩) zz1).trans zc1; have zd2 := (hx2.cell (p := ⟨gb, 1, none⟩) zz1).trans zd1; have zz2 : gb < w2.heap.size := (by have := Hx2.out.size; omega); have zR2_a := Lib.hid ((zR1_a.out.below hx2).mono hx2.size); have zR2_b := Lib.hid ((zR1_b.out.below hx2).mono hx2.size); have zR2_na := Lib.hid ((zR1_na.out.below hx2).mono hx2.size); have Hr2 := Lib.hid hr2; have zR2_nb := Lib.hid hr2.rd; clear hr2; clear hb2 hx2))
  all_goals
    go_wp2_with (first
      | (go_at_call 69; (with_reducible refine (HDV.out _ _ _ _ _ _ _ (by first | exact HB2.out | exact HB2.out.drew) (by first | exact zR2_na.out | exact zR2_na.out.drewS) (by first | exact zR2_nb.out | exact zR2_nb.out.drewS) lna2 Nna.out Nnb.out Hnz.out).mono ?_); rintro _ w3 ⟨q3, r, _, _, rfl, ⟨Aq3, cq3, rfl, hrq3, _⟩, ⟨A3, c3, rfl, hr3, hb3⟩, hm3⟩; have hx3 : Below w2.heap.size w2 w3 := (by first | exact hb3 | exact (Below.refl _ _).drew.trans hb3); have Hx3 := Lib.hid hx3; have HB3 := Lib.hid (HB2.out.trans (hx3.mono HB2.out.size)); have yc3 := (hx3.cell (p := ⟨gb, 0, none⟩) zz2).trans zc2; have yd3 := (hx3.cell (p := ⟨gb, 1, none⟩) zz2).trans zd2; have yz3 : gb < w3.heap.size := (by have := Hx3.out.size; omega); have yR3_a := Lib.hid ((zR2_a.out.below hx3).mono hx3.size); have yR3_b := Lib.hid ((zR2_b.out.below hx3).mono hx3.size); have yR3_na := Lib.hid ((zR2_na.out.below hx3).mono hx3.size); have yR3_nb := Lib.hid ((zR2_nb.out.below hx3).mono hx3.size); have Hr3 := Lib.hid hr3; have yR3_r := Lib.hid hr3.rd; clear hr3; have Hm3 := Lib.hid hm3; clear hm3; have Hrq3 := Lib.hid hrq3; have yR3_q3 := Lib.hid hrq3.rd; clear hrq3; clear hb3 hx3))
    refine bodyPost_ret (v := .tuple #[.slice Aq3 q3.length cq3, .slice A3 r.length c3, .int .i64 0]) (by simp [results, Tryd.results44, go_sem]) rfl ?_
    rw [HR.out]
    exact ⟨q3, r, _, _, rfl, ⟨Aq3, cq3, rfl, Hrq3.out.mono HB2.out.size, HB3.out⟩, ⟨A3, c3, rfl, Hr3.out.mono HB2.out.size, HB3.out⟩, Ena.out ▸ Enb.out ▸ Hm3.out⟩

set_option maxHeartbeats 3200000 in
theorem pDivZ_yes (Aa : Option Addr) (capa : Nat) (a : List Nat) (Ab : Option Addr) (capb : Nat) (b : List Nat) (p : Nat) (w : World) (B : Nat) (hpr : Pr p) (hp : p < 4294967296) (hw : Bases w) (hB : B ≤ w.heap.size) (hr_a : Rd w B Aa (u32s a)) (hm_a : a.length ≤ Sm) (hd_a : ∀ x ∈ a, x < 4294967296) (hr_b : Rd w B Ab (u32s b)) (hm_b : b.length ≤ Sm) (hd_b : ∀ x ∈ b, x < 4294967296) (nz : mnP p b = []) :
    Calls Tryd.prog 44 #[.slice Aa a.length capa, .slice Ab b.length capb, .int .u32 (p : Int)] w (fun e w' => e = .returned (.tuple #[.slice none 0 0, .slice none 0 0, .int .i64 70]) ∧ Below w.heap.size w w') := by
  have hp0 := hpr.pos
  obtain ⟨sp, hsp⟩ : ∃ sp, sp = spN p := ⟨_, rfl⟩
  have HF := Lib.hid (fieldOf_yes p w hpr hp hw)
  rw [← hsp] at HF
  obtain ⟨R, hR⟩ : ∃ R : Ending → World → Prop, R = (fun e w' => e = .returned (.tuple #[.slice none 0 0, .slice none 0 0, .int .i64 70]) ∧ Below w.heap.size w w') := ⟨_, rfl⟩
  show Calls _ _ _ _ (fun e w' => e = .returned (.tuple #[.slice none 0 0, .slice none 0 0, .int .i64 70]) ∧ Below w.heap.size w w')
  rw [← hR]
  have HR := Lib.hid hR
  have lm_a : a.length ≤ 1099511627776 := hm_a
  obtain ⟨na, hna⟩ : ∃ na, na = mnP p a := ⟨_, rfl⟩
  have Nna : Hid (Nf p na) := by rw [hna]; exact mnP_nf hp0 a
  have Cna : Hid (Cg p (zo na) (zo a)) := by rw [hna]; exact mnP_cg p a
  have lna : na.length ≤ 1099511627776 := by have := mnP_len p a; rw [← hna] at this; omega
  have HNa : Hid (∀ (W : World) A c, Rd W W.heap.size A (u32s a) → Calls Tryd.prog 51 #[fieldV p sp, .slice A a.length c] W (PR1 W na)) := by
    rw [hna]; exact fun W A c h1 => fnormal_any p sp A c a W _ hp0 hp h1 (Nat.le_refl _) (by unfold Big; omega) hd_a
  have Ena := Lib.hid hna
  have Hr_a := Lib.hid hr_a
  have lm_b : b.length ≤ 1099511627776 := hm_b
  obtain ⟨nb, hnb⟩ : ∃ nb, nb = mnP p b := ⟨_, rfl⟩
  have Nnb : Hid (Nf p nb) := by rw [hnb]; exact mnP_nf hp0 b
  have Cnb : Hid (Cg p (zo nb) (zo b)) := by rw [hnb]; exact mnP_cg p b
  have lnb : nb.length ≤ 1099511627776 := by have := mnP_len p b; rw [← hnb] at this; omega
  have HNb : Hid (∀ (W : World) A c, Rd W W.heap.size A (u32s b) → Calls Tryd.prog 51 #[fieldV p sp, .slice A b.length c] W (PR1 W nb)) := by
    rw [hnb]; exact fun W A c h1 => fnormal_any p sp A c b W _ hp0 hp h1 (Nat.le_refl _) (by unfold Big; omega) hd_b
  have Enb := Lib.hid hnb
  have Hr_b := Lib.hid hr_b
  have z2 : ((nb.length : Int) == 0) = true := by rw [hnb, nz]; rfl
  clear nz
  clear hR hr_a hd_a hm_a hna hr_b hd_b hm_b hnb hpr hw hsp
  go_enter Tryd.func44, Tryd.ntmps44
  go_upto_region 4 with (go_at_call 50; (with_reducible refine HF.out.mono ?_); rintro _ w0 ⟨rfl, hb0⟩)
  obtain ⟨W1, hW1⟩ : ∃ W1, W1 = w0.alloc (.cells #[.int .u64 (p : Int), .int .u64 (sp : Int)] 77 (0, 0)) := ⟨_, rfl⟩
  have hb01 : Below w0.heap.size w0 W1 := by rw [hW1]; exact (Below.refl _ _).alloc (Nat.le_refl _) _
  have hbf : Blk W1 w0.heap.size 77 [.int .u64 (p : Int), .int .u64 (sp : Int)] := by rw [hW1]; exact Blk.new_ rfl
  have hzb := hbf.lt
  have f0 := hbf.cell 0
  have f1 := hbf.cell 1
  simp only [List.getElem?_cons_zero, List.getElem?_cons_succ] at f0 f1
  have Hb1 := Lib.hid (hb0.trans (hb01.mono hb0.size))
  have R0_a := Lib.hid ((Hr_a.out.below (Hb1.out.mono hB)).mono (Nat.le_trans hB Hb1.out.size))
  have R0_b := Lib.hid ((Hr_b.out.below (Hb1.out.mono hB)).mono (Nat.le_trans hB Hb1.out.size))
  rw [← hW1]
  obtain ⟨gb, hgb⟩ : ∃ gb, gb = w0.heap.size := ⟨_, rfl⟩
  rw [← hgb] at f0 f1 hzb ⊢
  clear hW1 hb01 hbf hgb hb0
  go_region_held3 (fun W => W.cell? ⟨gb, 0, none⟩ = some (.int .u64 (p : Int)) ∧ W.cell? ⟨gb, 1, none⟩ = some (.int .u64 (sp : Int))) (go_keep) (first
    | (go_at_call 51; (with_reducible refine (HNa.out _ _ _ (by first | exact R0_a.out | exact R0_a.out.drewS)).mono ?_); rintro _ w1 ⟨_, rfl, ⟨A1, c1, rfl, hr1, hb1⟩⟩; have hx1 : Below W1.heap.size W1 w1 := (by first | exact hb1 | exact (Below.refl _ _).drew.trans hb1); have Hx1 := Lib.hid hx1; have HB1 := Lib.hid (Hb1.out.trans (hx1.mono Hb1.out.size)); have zc1 := (hx1.cell (p := ⟨gb, 0, none⟩) hzb).trans f0; have zd1 := (hx1.cell (p := ⟨gb, 1, none⟩) hzb).trans f1; have zz1 : gb < w1.heap.size := (by have := Hx1.out.size; omega); have zR1_a := Lib.hid ((R0_a.out.below hx1).mono hx1.size); have zR1_b := Lib.hid ((R0_b.out.below hx1).mono hx1.size); have Hr1 := Lib.hid hr1; have zR1_na := Lib.hid hr1.rd; clear hr1; clear hb1 hx1)
    | (go_at_call 51; (with_reducible refine (HNb.out _ _ _ (by first | exact zR1_b.out | exact zR1_b.out.drewS)).mono ?_); rintro _ w2 ⟨_, rfl, ⟨A2, c2, rfl, hr2, hb2⟩⟩; have hx2 : Below w1.heap.size w1 w2 := (by first | exact hb2 | exact (Below.refl _ _).drew.trans hb2); have Hx2 := Lib.hid hx2; have HB2 := Lib.hid (HB1.out.trans (hx2.mono HB1.out.size)); have zc2 := (hx2.cell (p := ⟨gb, 0, none⟩) zz1).trans zc1; have zd2 := (hx2.cell (p := ⟨gb, 1, none⟩) zz1).trans zd1; have zz2 : gb < w2.heap.size := (by have := Hx2.out.size; omega); have zR2_a := Lib.hid ((zR1_a.out.below hx2).mono hx2.size); have zR2_b := Lib.hid ((zR1_b.out.below hx2).mono hx2.size); have zR2_na := Lib.hid ((zR1_na.out.below hx2).mono hx2.size); have Hr2 := Lib.hid hr2; have zR2_nb := Lib.hid hr2.rd; clear hr2; clear hb2 hx2))
  all_goals
    go_wp2_with fail
    refine bodyPost_ret (v := .tuple #[.slice none 0 0, .slice none 0 0, .int .i64 70]) (by simp [results, Tryd.results44, go_sem]) rfl ?_
    rw [HR.out]
    exact ⟨rfl, HB2.out⟩

set_option maxHeartbeats 3200000 in
theorem pFree_yes (Aa : Option Addr) (capa : Nat) (a : List Nat) (p : Nat) (w : World) (B : Nat) (hpr : Pr p) (hp : p < 4294967296) (hw : Bases w) (hB : B ≤ w.heap.size) (hr_a : Rd w B Aa (u32s a)) (hm_a : a.length ≤ Sm) (hd_a : ∀ x ∈ a, x < 4294967296) (nz : mnP p a ≠ []) :
    Calls Tryd.prog 35 #[.slice Aa a.length capa, .int .u32 (p : Int)] w (fun e w' => ∃ g : List Nat, e = .returned (.tuple #[.bool ((g.length : Int) == 1), .int .i64 0]) ∧ Gc p (zo (mnP p a)) (zo (derP p (mnP p a))) g ∧ Below w.heap.size w w') := by
  have hp0 := hpr.pos
  obtain ⟨sp, hsp⟩ : ∃ sp, sp = spN p := ⟨_, rfl⟩
  have HF := Lib.hid (fieldOf_yes p w hpr hp hw)
  rw [← hsp] at HF
  obtain ⟨R, hR⟩ : ∃ R : Ending → World → Prop, R = (fun e w' => ∃ g : List Nat, e = .returned (.tuple #[.bool ((g.length : Int) == 1), .int .i64 0]) ∧ Gc p (zo (mnP p a)) (zo (derP p (mnP p a))) g ∧ Below w.heap.size w w') := ⟨_, rfl⟩
  show Calls _ _ _ _ (fun e w' => ∃ g : List Nat, e = .returned (.tuple #[.bool ((g.length : Int) == 1), .int .i64 0]) ∧ Gc p (zo (mnP p a)) (zo (derP p (mnP p a))) g ∧ Below w.heap.size w w')
  rw [← hR]
  have HR := Lib.hid hR
  have lm_a : a.length ≤ 1099511627776 := hm_a
  obtain ⟨na, hna⟩ : ∃ na, na = mnP p a := ⟨_, rfl⟩
  have Nna : Hid (Nf p na) := by rw [hna]; exact mnP_nf hp0 a
  have Cna : Hid (Cg p (zo na) (zo a)) := by rw [hna]; exact mnP_cg p a
  have lna : na.length ≤ 1099511627776 := by have := mnP_len p a; rw [← hna] at this; omega
  have HNa : Hid (∀ (W : World) A c, Rd W W.heap.size A (u32s a) → Calls Tryd.prog 51 #[fieldV p sp, .slice A a.length c] W (PR1 W na)) := by
    rw [hna]; exact fun W A c h1 => fnormal_any p sp A c a W _ hp0 hp h1 (Nat.le_refl _) (by unfold Big; omega) hd_a
  have Ena := Lib.hid hna
  have Hr_a := Lib.hid hr_a
  have HDR : Hid (∀ (W : World) A c (a : List Nat), Rd W W.heap.size A (u32s a) → a.length ≤ 1099511627776 → Nf p a → Calls Tryd.prog 63 #[fieldV p sp, .slice A a.length c] W (PR1 W (derP p a))) := fun W A c a h1 h2 h3 => fderiv_any p sp A c a W _ hp0 hp h1 (Nat.le_refl _) (by unfold Big; omega) (fun x hx => by have := h3.1 x hx; omega)
  have HGC : Hid (∀ (W : World) A A' c c' (a b : List Nat), Below w.heap.size w W → Rd W W.heap.size A (u32s a) → Rd W W.heap.size A' (u32s b) → a.length ≤ 1099511627776 → b.length ≤ 1099511627776 → Nf p a → Nf p b → Calls Tryd.prog 64 #[fieldV p sp, .slice A a.length c, .slice A' b.length c'] W (PG p W (zo a) (zo b))) := fun W A A' c c' a b hW h1 h2 h3 h4 h5 h6 => fgcd_any p sp A A' c c' a b W _ hpr hp (hw.later hW) h1 h2 (Nat.le_refl _) (by unfold Big; omega) (by unfold Big; omega) h5 h6
  have hnz : na ≠ [] := by rw [hna]; exact nz
  have z2 : ((na.length : Int) == 0) = false := bz (len_pos hnz)
  obtain ⟨da, hda⟩ : ∃ da, da = derP p na := ⟨_, rfl⟩
  have Hda := Lib.hid hda
  have Nda : Hid (Nf p da) := by rw [hda]; exact derP_nf hp0 na
  have lda : da.length ≤ 1099511627776 := by
    have h9 := trimL_length_le ((List.range (na.length - 1)).map (derN p na))
    rw [List.length_map, List.length_range] at h9
    have : da.length ≤ na.length - 1 := by rw [hda]; exact h9
    omega
  have HDRa : Hid (∀ W A c, Rd W W.heap.size A (u32s na) → Calls Tryd.prog 63 #[fieldV p sp, .slice A na.length c] W (PR1 W da)) := by rw [hda]; exact fun W A c h => HDR.out W A c na h lna Nna.out
  clear hnz nz hda
  clear hR hr_a hd_a hm_a hna hpr hw hsp
  go_enter Tryd.func35, Tryd.ntmps35
  go_upto_region 4 with (go_at_call 50; (with_reducible refine HF.out.mono ?_); rintro _ w0 ⟨rfl, hb0⟩)
  obtain ⟨W1, hW1⟩ : ∃ W1, W1 = w0.alloc (.cells #[.int .u64 (p : Int), .int .u64 (sp : Int)] 77 (0, 0)) := ⟨_, rfl⟩
  have hb01 : Below w0.heap.size w0 W1 := by rw [hW1]; exact (Below.refl _ _).alloc (Nat.le_refl _) _
  have hbf : Blk W1 w0.heap.size 77 [.int .u64 (p : Int), .int .u64 (sp : Int)] := by rw [hW1]; exact Blk.new_ rfl
  have hzb := hbf.lt
  have f0 := hbf.cell 0
  have f1 := hbf.cell 1
  simp only [List.getElem?_cons_zero, List.getElem?_cons_succ] at f0 f1
  have Hb1 := Lib.hid (hb0.trans (hb01.mono hb0.size))
  have R0_a := Lib.hid ((Hr_a.out.below (Hb1.out.mono hB)).mono (Nat.le_trans hB Hb1.out.size))
  rw [← hW1]
  obtain ⟨gb, hgb⟩ : ∃ gb, gb = w0.heap.size := ⟨_, rfl⟩
  rw [← hgb] at f0 f1 hzb ⊢
  clear hW1 hb01 hbf hgb hb0
  go_upto_region 7 with (first
    | (go_at_call 51; (with_reducible refine (HNa.out _ _ _ (by first | exact R0_a.out | exact R0_a.out.drewS)).mono ?_); rintro _ w1 ⟨_, rfl, ⟨A1, c1, rfl, hr1, hb1⟩⟩; have hx1 : Below W1.heap.size W1 w1 := (by first | exact hb1 | exact (Below.refl _ _).drew.trans hb1); have Hx1 := Lib.hid hx1; have HB1 := Lib.hid (Hb1.out.trans (hx1.mono Hb1.out.size)); have zc1 := (hx1.cell (p := ⟨gb, 0, none⟩) hzb).trans f0; have zd1 := (hx1.cell (p := ⟨gb, 1, none⟩) hzb).trans f1; have zz1 : gb < w1.heap.size := (by have := Hx1.out.size; omega); have zR1_a := Lib.hid ((R0_a.out.below hx1).mono hx1.size); have Hr1 := Lib.hid hr1; have zR1_na := Lib.hid hr1.rd; clear hr1; clear hb1 hx1))
  go_region_held3 (fun W => W.cell? ⟨gb, 0, none⟩ = some (.int .u64 (p : Int)) ∧ W.cell? ⟨gb, 1, none⟩ = some (.int .u64 (sp : Int))) (go_keep) (first
    | (go_at_call 63; (with_reducible refine (HDRa.out _ _ _ (by first | exact zR1_na.out | exact zR1_na.out.drewS)).mono ?_); rintro _ w2 ⟨_, rfl, ⟨A2, c2, rfl, hr2, hb2⟩⟩; have hx2 : Below w1.heap.size w1 w2 := (by first | exact hb2 | exact (Below.refl _ _).drew.trans hb2); have Hx2 := Lib.hid hx2; have HB2 := Lib.hid (HB1.out.trans (hx2.mono HB1.out.size)); have yc2 := (hx2.cell (p := ⟨gb, 0, none⟩) zz1).trans zc1; have yd2 := (hx2.cell (p := ⟨gb, 1, none⟩) zz1).trans zd1; have yz2 : gb < w2.heap.size := (by have := Hx2.out.size; omega); have yR2_a := Lib.hid ((zR1_a.out.below hx2).mono hx2.size); have yR2_na := Lib.hid ((zR1_na.out.below hx2).mono hx2.size); have Hr2 := Lib.hid hr2; have yR2_da := Lib.hid hr2.rd; clear hr2; clear hb2 hx2)
    | (go_at_call 64; (with_reducible refine (HGC.out _ _ _ _ _ _ _ (by first | exact HB2.out | exact HB2.out.drew) (by first | exact yR2_na.out | exact yR2_na.out.drewS) (by first | exact yR2_da.out | exact yR2_da.out.drewS) lna lda Nna.out Nda.out).mono ?_); rintro _ w3 ⟨g, ⟨_, rfl, ⟨A3, c3, rfl, hr3, hb3⟩⟩, hm3⟩; have hx3 : Below w2.heap.size w2 w3 := (by first | exact hb3 | exact (Below.refl _ _).drew.trans hb3); have Hx3 := Lib.hid hx3; have HB3 := Lib.hid (HB2.out.trans (hx3.mono HB2.out.size)); have yc3 := (hx3.cell (p := ⟨gb, 0, none⟩) yz2).trans yc2; have yd3 := (hx3.cell (p := ⟨gb, 1, none⟩) yz2).trans yd2; have yz3 : gb < w3.heap.size := (by have := Hx3.out.size; omega); have yR3_a := Lib.hid ((yR2_a.out.below hx3).mono hx3.size); have yR3_na := Lib.hid ((yR2_na.out.below hx3).mono hx3.size); have yR3_da := Lib.hid ((yR2_da.out.below hx3).mono hx3.size); have Hr3 := Lib.hid hr3; have yR3_g := Lib.hid hr3.rd; clear hr3; have Hm3 := Lib.hid hm3; clear hm3; clear hb3 hx3))
  all_goals
    go_wp2_with fail
    rw [HR.out]
    refine ⟨g, rfl, ?_, HB3.out⟩
    have h9 := Hm3.out
    rw [Hda.out, Ena.out] at h9
    exact h9

set_option maxHeartbeats 3200000 in
theorem pFreeZ_yes (Aa : Option Addr) (capa : Nat) (a : List Nat) (p : Nat) (w : World) (B : Nat) (hpr : Pr p) (hp : p < 4294967296) (hw : Bases w) (hB : B ≤ w.heap.size) (hr_a : Rd w B Aa (u32s a)) (hm_a : a.length ≤ Sm) (hd_a : ∀ x ∈ a, x < 4294967296) (nz : mnP p a = []) :
    Calls Tryd.prog 35 #[.slice Aa a.length capa, .int .u32 (p : Int)] w (fun e w' => e = .returned (.tuple #[.bool false, .int .i64 70]) ∧ Below w.heap.size w w') := by
  have hp0 := hpr.pos
  obtain ⟨sp, hsp⟩ : ∃ sp, sp = spN p := ⟨_, rfl⟩
  have HF := Lib.hid (fieldOf_yes p w hpr hp hw)
  rw [← hsp] at HF
  obtain ⟨R, hR⟩ : ∃ R : Ending → World → Prop, R = (fun e w' => e = .returned (.tuple #[.bool false, .int .i64 70]) ∧ Below w.heap.size w w') := ⟨_, rfl⟩
  show Calls _ _ _ _ (fun e w' => e = .returned (.tuple #[.bool false, .int .i64 70]) ∧ Below w.heap.size w w')
  rw [← hR]
  have HR := Lib.hid hR
  have lm_a : a.length ≤ 1099511627776 := hm_a
  obtain ⟨na, hna⟩ : ∃ na, na = mnP p a := ⟨_, rfl⟩
  have Nna : Hid (Nf p na) := by rw [hna]; exact mnP_nf hp0 a
  have Cna : Hid (Cg p (zo na) (zo a)) := by rw [hna]; exact mnP_cg p a
  have lna : na.length ≤ 1099511627776 := by have := mnP_len p a; rw [← hna] at this; omega
  have HNa : Hid (∀ (W : World) A c, Rd W W.heap.size A (u32s a) → Calls Tryd.prog 51 #[fieldV p sp, .slice A a.length c] W (PR1 W na)) := by
    rw [hna]; exact fun W A c h1 => fnormal_any p sp A c a W _ hp0 hp h1 (Nat.le_refl _) (by unfold Big; omega) hd_a
  have Ena := Lib.hid hna
  have Hr_a := Lib.hid hr_a
  have z2 : ((na.length : Int) == 0) = true := by rw [hna, nz]; rfl
  clear nz
  clear hR hr_a hd_a hm_a hna hpr hw hsp
  go_enter Tryd.func35, Tryd.ntmps35
  go_upto_region 4 with (go_at_call 50; (with_reducible refine HF.out.mono ?_); rintro _ w0 ⟨rfl, hb0⟩)
  obtain ⟨W1, hW1⟩ : ∃ W1, W1 = w0.alloc (.cells #[.int .u64 (p : Int), .int .u64 (sp : Int)] 77 (0, 0)) := ⟨_, rfl⟩
  have hb01 : Below w0.heap.size w0 W1 := by rw [hW1]; exact (Below.refl _ _).alloc (Nat.le_refl _) _
  have hbf : Blk W1 w0.heap.size 77 [.int .u64 (p : Int), .int .u64 (sp : Int)] := by rw [hW1]; exact Blk.new_ rfl
  have hzb := hbf.lt
  have f0 := hbf.cell 0
  have f1 := hbf.cell 1
  simp only [List.getElem?_cons_zero, List.getElem?_cons_succ] at f0 f1
  have Hb1 := Lib.hid (hb0.trans (hb01.mono hb0.size))
  have R0_a := Lib.hid ((Hr_a.out.below (Hb1.out.mono hB)).mono (Nat.le_trans hB Hb1.out.size))
  rw [← hW1]
  obtain ⟨gb, hgb⟩ : ∃ gb, gb = w0.heap.size := ⟨_, rfl⟩
  rw [← hgb] at f0 f1 hzb ⊢
  clear hW1 hb01 hbf hgb hb0
  go_wp2_with (first
    | (go_at_call 51; (with_reducible refine (HNa.out _ _ _ (by first | exact R0_a.out | exact R0_a.out.drewS)).mono ?_); rintro _ w1 ⟨_, rfl, ⟨A1, c1, rfl, hr1, hb1⟩⟩; have hx1 : Below W1.heap.size W1 w1 := (by first | exact hb1 | exact (Below.refl _ _).drew.trans hb1); have Hx1 := Lib.hid hx1; have HB1 := Lib.hid (Hb1.out.trans (hx1.mono Hb1.out.size)); have zc1 := (hx1.cell (p := ⟨gb, 0, none⟩) hzb).trans f0; have zd1 := (hx1.cell (p := ⟨gb, 1, none⟩) hzb).trans f1; have zz1 : gb < w1.heap.size := (by have := Hx1.out.size; omega); have zR1_a := Lib.hid ((R0_a.out.below hx1).mono hx1.size); have Hr1 := Lib.hid hr1; have zR1_na := Lib.hid hr1.rd; clear hr1; clear hb1 hx1))
  rw [HR.out]
  exact ⟨rfl, HB1.out⟩

set_option maxHeartbeats 3200000 in
theorem pPow_yes (Aa : Option Addr) (capa : Nat) (a : List Nat) (ex : Nat) (Am : Option Addr) (capm : Nat) (m : List Nat) (p : Nat) (w : World) (B : Nat) (hpr : Pr p) (hp : p < 4294967296) (hw : Bases w) (hB : B ≤ w.heap.size) (hr_a : Rd w B Aa (u32s a)) (hm_a : a.length ≤ Sm) (hd_a : ∀ x ∈ a, x < 4294967296) (h_ex : ex < 18446744073709551616) (hr_m : Rd w B Am (u32s m)) (hm_m : m.length ≤ Sm) (hd_m : ∀ x ∈ m, x < 4294967296) (nz : mnP p m ≠ []) :
    Calls Tryd.prog 48 #[.slice Aa a.length capa, .int .u64 (ex : Int), .slice Am m.length capm, .int .u32 (p : Int)] w (OkT (fun e w' => ∃ r, PR1 w r e w' ∧ Rs p (mnP p m) ((zo (mnP p a)).pow ex) r)) := by
  have hp0 := hpr.pos
  obtain ⟨sp, hsp⟩ : ∃ sp, sp = spN p := ⟨_, rfl⟩
  have HF := Lib.hid (fieldOf_yes p w hpr hp hw)
  rw [← hsp] at HF
  obtain ⟨R, hR⟩ : ∃ R : Ending → World → Prop, R = (OkT (fun e w' => ∃ r, PR1 w r e w' ∧ Rs p (mnP p m) ((zo (mnP p a)).pow ex) r)) := ⟨_, rfl⟩
  show Calls _ _ _ _ (OkT (fun e w' => ∃ r, PR1 w r e w' ∧ Rs p (mnP p m) ((zo (mnP p a)).pow ex) r))
  rw [← hR]
  have HR := Lib.hid hR
  have lm_a : a.length ≤ 1099511627776 := hm_a
  obtain ⟨na, hna⟩ : ∃ na, na = mnP p a := ⟨_, rfl⟩
  have Nna : Hid (Nf p na) := by rw [hna]; exact mnP_nf hp0 a
  have Cna : Hid (Cg p (zo na) (zo a)) := by rw [hna]; exact mnP_cg p a
  have lna : na.length ≤ 1099511627776 := by have := mnP_len p a; rw [← hna] at this; omega
  have HNa : Hid (∀ (W : World) A c, Rd W W.heap.size A (u32s a) → Calls Tryd.prog 51 #[fieldV p sp, .slice A a.length c] W (PR1 W na)) := by
    rw [hna]; exact fun W A c h1 => fnormal_any p sp A c a W _ hp0 hp h1 (Nat.le_refl _) (by unfold Big; omega) hd_a
  have Ena := Lib.hid hna
  have Hr_a := Lib.hid hr_a
  have lm_m : m.length ≤ 1099511627776 := hm_m
  obtain ⟨nm, hnm⟩ : ∃ nm, nm = mnP p m := ⟨_, rfl⟩
  have Nnm : Hid (Nf p nm) := by rw [hnm]; exact mnP_nf hp0 m
  have Cnm : Hid (Cg p (zo nm) (zo m)) := by rw [hnm]; exact mnP_cg p m
  have lnm : nm.length ≤ 1099511627776 := by have := mnP_len p m; rw [← hnm] at this; omega
  have HNm : Hid (∀ (W : World) A c, Rd W W.heap.size A (u32s m) → Calls Tryd.prog 51 #[fieldV p sp, .slice A m.length c] W (PR1 W nm)) := by
    rw [hnm]; exact fun W A c h1 => fnormal_any p sp A c m W _ hp0 hp h1 (Nat.le_refl _) (by unfold Big; omega) hd_m
  have Enm := Lib.hid hnm
  have Hr_m := Lib.hid hr_m
  have HPW : Hid (∀ (W : World) A A' c c' (ex : Nat) (a b : List Nat), Below w.heap.size w W → Rd W W.heap.size A (u32s a) → Rd W W.heap.size A' (u32s b) → a.length ≤ 1099511627776 → b.length ≤ 1099511627776 → Nf p a → Nf p b → b ≠ [] → ex < 18446744073709551616 → Calls Tryd.prog 73 #[fieldV p sp, .slice A a.length c, .int .u64 (ex : Int), .slice A' b.length c'] W fun e w' => ∃ r, PR1 W r e w' ∧ Rs p b ((zo a).pow ex) r) := fun W A A' c c' ex a b hW h1 h2 h3 h4 h5 h6 h7 h8 => fpower_any p sp A A' c c' ex a b W _ hpr hp hsp (hw.later hW) h1 h2 (Nat.le_refl _) (by unfold Big; omega) (by unfold Sm; omega) h5 h6 h7 h8
  have hnz : nm ≠ [] := by rw [hnm]; exact nz
  have z2 : ((nm.length : Int) == 0) = false := bz (len_pos hnz)
  have Hnz := Lib.hid hnz
  clear hnz nz
  clear hR hr_a hd_a hm_a hna hr_m hd_m hm_m hnm hpr hw hsp
  go_enter Tryd.func48, Tryd.ntmps48
  go_upto_region 4 with (go_at_call 50; (with_reducible refine HF.out.mono ?_); rintro _ w0 ⟨rfl, hb0⟩)
  obtain ⟨W1, hW1⟩ : ∃ W1, W1 = w0.alloc (.cells #[.int .u64 (p : Int), .int .u64 (sp : Int)] 77 (0, 0)) := ⟨_, rfl⟩
  have hb01 : Below w0.heap.size w0 W1 := by rw [hW1]; exact (Below.refl _ _).alloc (Nat.le_refl _) _
  have hbf : Blk W1 w0.heap.size 77 [.int .u64 (p : Int), .int .u64 (sp : Int)] := by rw [hW1]; exact Blk.new_ rfl
  have hzb := hbf.lt
  have f0 := hbf.cell 0
  have f1 := hbf.cell 1
  simp only [List.getElem?_cons_zero, List.getElem?_cons_succ] at f0 f1
  have Hb1 := Lib.hid (hb0.trans (hb01.mono hb0.size))
  have R0_a := Lib.hid ((Hr_a.out.below (Hb1.out.mono hB)).mono (Nat.le_trans hB Hb1.out.size))
  have R0_m := Lib.hid ((Hr_m.out.below (Hb1.out.mono hB)).mono (Nat.le_trans hB Hb1.out.size))
  rw [← hW1]
  obtain ⟨gb, hgb⟩ : ∃ gb, gb = w0.heap.size := ⟨_, rfl⟩
  rw [← hgb] at f0 f1 hzb ⊢
  clear hW1 hb01 hbf hgb hb0
  go_upto_region 7 with (first
    | (go_at_call 51; (with_reducible refine (HNm.out _ _ _ (by first | exact R0_m.out | exact R0_m.out.drewS)).mono ?_); rintro _ w1 ⟨_, rfl, ⟨A1, c1, rfl, hr1, hb1⟩⟩; have hx1 : Below W1.heap.size W1 w1 := (by first | exact hb1 | exact (Below.refl _ _).drew.trans hb1); have Hx1 := Lib.hid hx1; have HB1 := Lib.hid (Hb1.out.trans (hx1.mono Hb1.out.size)); have zc1 := (hx1.cell (p := ⟨gb, 0, none⟩) hzb).trans f0; have zd1 := (hx1.cell (p := ⟨gb, 1, none⟩) hzb).trans f1; have zz1 : gb < w1.heap.size := (by have := Hx1.out.size; omega); have zR1_a := Lib.hid ((R0_a.out.below hx1).mono hx1.size); have zR1_m := Lib.hid ((R0_m.out.below hx1).mono hx1.size); have Hr1 := Lib.hid hr1; have zR1_nm := Lib.hid hr1.rd; clear hr1; clear hb1 hx1))
  go_region_held3 (fun W => W.cell? ⟨gb, 0, none⟩ = some (.int .u64 (p : Int)) ∧ W.cell? ⟨gb, 1, none⟩ = some (.int .u64 (sp : Int))) (go_keep) (first
    | (go_at_call 51; (with_reducible refine (HNa.out _ _ _ (by first | exact zR1_a.out | exact zR1_a.out.drewS)).mono ?_); rintro _ w2 ⟨_, rfl, ⟨A2, c2, rfl, hr2, hb2⟩⟩; have hx2 : Below w1.heap.size w1 w2 := (by first | exact hb2 | exact (Below.refl _ _).drew.trans hb2); have Hx2 := Lib.hid hx2; have HB2 := Lib.hid (HB1.out.trans (hx2.mono HB1.out.size)); have yc2 := (hx2.cell (p := ⟨gb, 0, none⟩) zz1).trans zc1; have yd2 := (hx2.cell (p := ⟨gb, 1, none⟩) zz1).trans zd1; have yz2 : gb < w2.heap.size := (by have := Hx2.out.size; omega); have yR2_a := Lib.hid ((zR1_a.out.below hx2).mono hx2.size); have yR2_m := Lib.hid ((zR1_m.out.below hx2).mono hx2.size); have yR2_nm := Lib.hid ((zR1_nm.out.below hx2).mono hx2.size); have Hr2 := Lib.hid hr2; have yR2_na := Lib.hid hr2.rd; clear hr2; clear hb2 hx2)
    | (go_at_call 73; (with_reducible refine (HPW.out _ _ _ _ _ _ _ _ (by first | exact HB2.out | exact HB2.out.drew) (by first | exact yR2_na.out | exact yR2_na.out.drewS) (by first | exact yR2_nm.out | exact yR2_nm.out.drewS) lna lnm Nna.out Nnm.out Hnz.out h_ex).mono ?_); rintro _ w3 ⟨r, ⟨_, rfl, ⟨A3, c3, rfl, hr3, hb3⟩⟩, hm3⟩; have hx3 : Below w2.heap.size w2 w3 := (by first | exact hb3 | exact (Below.refl _ _).drew.trans hb3); have Hx3 := Lib.hid hx3; have HB3 := Lib.hid (HB2.out.trans (hx3.mono HB2.out.size)); have yc3 := (hx3.cell (p := ⟨gb, 0, none⟩) yz2).trans yc2; have yd3 := (hx3.cell (p := ⟨gb, 1, none⟩) yz2).trans yd2; have yz3 : gb < w3.heap.size := (by have := Hx3.out.size; omega); have yR3_a := Lib.hid ((yR2_a.out.below hx3).mono hx3.size); have yR3_m := Lib.hid ((yR2_m.out.below hx3).mono hx3.size); have yR3_nm := Lib.hid ((yR2_nm.out.below hx3).mono hx3.size); have yR3_na := Lib.hid ((yR2_na.out.below hx3).mono hx3.size); have Hr3 := Lib.hid hr3; have yR3_r := Lib.hid hr3.rd; clear hr3; have Hm3 := Lib.hid hm3; clear hm3; clear hb3 hx3))
  all_goals
    go_wp2_with fail
    rw [HR.out]
    exact ⟨_, rfl, r, ⟨_, rfl, ⟨A3, c3, rfl, Hr3.out.mono HB2.out.size, HB3.out⟩⟩, Ena.out ▸ Enm.out ▸ Hm3.out⟩

set_option maxHeartbeats 3200000 in
theorem pPowZ_yes (Aa : Option Addr) (capa : Nat) (a : List Nat) (ex : Nat) (Am : Option Addr) (capm : Nat) (m : List Nat) (p : Nat) (w : World) (B : Nat) (hpr : Pr p) (hp : p < 4294967296) (hw : Bases w) (hB : B ≤ w.heap.size) (hr_a : Rd w B Aa (u32s a)) (hm_a : a.length ≤ Sm) (hd_a : ∀ x ∈ a, x < 4294967296) (_ : ex < 18446744073709551616) (hr_m : Rd w B Am (u32s m)) (hm_m : m.length ≤ Sm) (hd_m : ∀ x ∈ m, x < 4294967296) (nz : mnP p m = []) :
    Calls Tryd.prog 48 #[.slice Aa a.length capa, .int .u64 (ex : Int), .slice Am m.length capm, .int .u32 (p : Int)] w (fun e w' => e = .returned (.tuple #[.slice none 0 0, .int .i64 70]) ∧ Below w.heap.size w w') := by
  have hp0 := hpr.pos
  obtain ⟨sp, hsp⟩ : ∃ sp, sp = spN p := ⟨_, rfl⟩
  have HF := Lib.hid (fieldOf_yes p w hpr hp hw)
  rw [← hsp] at HF
  obtain ⟨R, hR⟩ : ∃ R : Ending → World → Prop, R = (fun e w' => e = .returned (.tuple #[.slice none 0 0, .int .i64 70]) ∧ Below w.heap.size w w') := ⟨_, rfl⟩
  show Calls _ _ _ _ (fun e w' => e = .returned (.tuple #[.slice none 0 0, .int .i64 70]) ∧ Below w.heap.size w w')
  rw [← hR]
  have HR := Lib.hid hR
  have lm_a : a.length ≤ 1099511627776 := hm_a
  obtain ⟨na, hna⟩ : ∃ na, na = mnP p a := ⟨_, rfl⟩
  have Nna : Hid (Nf p na) := by rw [hna]; exact mnP_nf hp0 a
  have Cna : Hid (Cg p (zo na) (zo a)) := by rw [hna]; exact mnP_cg p a
  have lna : na.length ≤ 1099511627776 := by have := mnP_len p a; rw [← hna] at this; omega
  have HNa : Hid (∀ (W : World) A c, Rd W W.heap.size A (u32s a) → Calls Tryd.prog 51 #[fieldV p sp, .slice A a.length c] W (PR1 W na)) := by
    rw [hna]; exact fun W A c h1 => fnormal_any p sp A c a W _ hp0 hp h1 (Nat.le_refl _) (by unfold Big; omega) hd_a
  have Ena := Lib.hid hna
  have Hr_a := Lib.hid hr_a
  have lm_m : m.length ≤ 1099511627776 := hm_m
  obtain ⟨nm, hnm⟩ : ∃ nm, nm = mnP p m := ⟨_, rfl⟩
  have Nnm : Hid (Nf p nm) := by rw [hnm]; exact mnP_nf hp0 m
  have Cnm : Hid (Cg p (zo nm) (zo m)) := by rw [hnm]; exact mnP_cg p m
  have lnm : nm.length ≤ 1099511627776 := by have := mnP_len p m; rw [← hnm] at this; omega
  have HNm : Hid (∀ (W : World) A c, Rd W W.heap.size A (u32s m) → Calls Tryd.prog 51 #[fieldV p sp, .slice A m.length c] W (PR1 W nm)) := by
    rw [hnm]; exact fun W A c h1 => fnormal_any p sp A c m W _ hp0 hp h1 (Nat.le_refl _) (by unfold Big; omega) hd_m
  have Enm := Lib.hid hnm
  have Hr_m := Lib.hid hr_m
  have z2 : ((nm.length : Int) == 0) = true := by rw [hnm, nz]; rfl
  clear nz
  clear hR hr_a hd_a hm_a hna hr_m hd_m hm_m hnm hpr hw hsp
  go_enter Tryd.func48, Tryd.ntmps48
  go_upto_region 4 with (go_at_call 50; (with_reducible refine HF.out.mono ?_); rintro _ w0 ⟨rfl, hb0⟩)
  obtain ⟨W1, hW1⟩ : ∃ W1, W1 = w0.alloc (.cells #[.int .u64 (p : Int), .int .u64 (sp : Int)] 77 (0, 0)) := ⟨_, rfl⟩
  have hb01 : Below w0.heap.size w0 W1 := by rw [hW1]; exact (Below.refl _ _).alloc (Nat.le_refl _) _
  have hbf : Blk W1 w0.heap.size 77 [.int .u64 (p : Int), .int .u64 (sp : Int)] := by rw [hW1]; exact Blk.new_ rfl
  have hzb := hbf.lt
  have f0 := hbf.cell 0
  have f1 := hbf.cell 1
  simp only [List.getElem?_cons_zero, List.getElem?_cons_succ] at f0 f1
  have Hb1 := Lib.hid (hb0.trans (hb01.mono hb0.size))
  have R0_a := Lib.hid ((Hr_a.out.below (Hb1.out.mono hB)).mono (Nat.le_trans hB Hb1.out.size))
  have R0_m := Lib.hid ((Hr_m.out.below (Hb1.out.mono hB)).mono (Nat.le_trans hB Hb1.out.size))
  rw [← hW1]
  obtain ⟨gb, hgb⟩ : ∃ gb, gb = w0.heap.size := ⟨_, rfl⟩
  rw [← hgb] at f0 f1 hzb ⊢
  clear hW1 hb01 hbf hgb hb0
  go_wp2_with (first
    | (go_at_call 51; (with_reducible refine (HNm.out _ _ _ (by first | exact R0_m.out | exact R0_m.out.drewS)).mono ?_); rintro _ w1 ⟨_, rfl, ⟨A1, c1, rfl, hr1, hb1⟩⟩; have hx1 : Below W1.heap.size W1 w1 := (by first | exact hb1 | exact (Below.refl _ _).drew.trans hb1); have Hx1 := Lib.hid hx1; have HB1 := Lib.hid (Hb1.out.trans (hx1.mono Hb1.out.size)); have zc1 := (hx1.cell (p := ⟨gb, 0, none⟩) hzb).trans f0; have zd1 := (hx1.cell (p := ⟨gb, 1, none⟩) hzb).trans f1; have zz1 : gb < w1.heap.size := (by have := Hx1.out.size; omega); have zR1_a := Lib.hid ((R0_a.out.below hx1).mono hx1.size); have zR1_m := Lib.hid ((R0_m.out.below hx1).mono hx1.size); have Hr1 := Lib.hid hr1; have zR1_nm := Lib.hid hr1.rd; clear hr1; clear hb1 hx1))
  rw [HR.out]
  exact ⟨rfl, HB1.out⟩
end
section
open Go.RowKit

/-- g: the greatest common divisor of a and b; s a + t b is it. -/
structure Bzt (p : Nat) (a b g s t : List Nat) : Prop where
  gc : Gc p (zo a) (zo b) g
  ns : Nf p s
  nt : Nf p t
  eq : Cg p (zo s * zo a + zo t * zo b) (zo g)
  ls : s.length ≤ a.length + b.length + 1
  lt : t.length ≤ 2 * a.length + 2 * b.length + 3
theorem Bzt.of_none {p K : Nat} {a b g s : List Nat} (h : Bz p (zo a) (zo b) K g s) (hb : b = []) (hK : K = a.length + b.length + 1 := by rfl) : Bzt p a b g s [] := by
  subst hb hK
  obtain ⟨t, ht⟩ := h.lin
  exact ⟨h.gc, h.ns, Nf.nil_ p, ht.lin1 (.c (-1)) (fun x => by simp only [Z.v_add, Z.v_mul, Z.v_c, zo_nil]; grind), h.len, by simp⟩
theorem diff_len {p : Nat} (hp : 0 < p) {a b d : List Nat} (hd : Nf p d) (h : Cg p (zo d) (zo a - zo b)) : d.length ≤ a.length + b.length := hd.len_le hp h fun i hi => by
  rw [Z.co_sub, zo_far (by omega), zo_far (by omega)]; exact Int.dvd_zero _
theorem Bzt.of_div {p K : Nat} (hp : Pr p) {a b g s sa d q r : List Nat} (h : Bz p (zo a) (zo b) K g s) (ha : Nf p a) (hb : Nf p b) (nb : b ≠ []) (hsa : Cg p (zo sa) (zo s * zo a)) (hd : Cg p (zo d) (zo g - zo sa)) (hdv : Dv p (zo d) (zo b) b.length q r) (n4 : Nf p sa) (n5 : Nf p d) (hK : K = a.length + b.length + 1 := by rfl) : Bzt p a b g s q := by
  subst hK
  obtain ⟨t, ht⟩ := h.lin
  obtain ⟨t', nt, ht'⟩ := nf_of hp.pos t
  have e1 : Cg p (zo d) (zo t' * zo b + zo []) := by
    have e2 : Cg p (zo d) (t * zo b) := by
      obtain ⟨c1, h1⟩ := ht
      obtain ⟨c2, h2⟩ := hsa
      obtain ⟨c3, h3⟩ := hd
      refine ⟨c3 + c1 - c2, fun x => ?_⟩
      have h1 := h1 x
      have h2 := h2 x
      have h3 := h3 x
      simp only [Z.v_add, Z.v_sub, Z.v_mul] at h1 h2 h3 ⊢
      rw [h3, h1, h2]; grind
    exact e2.lin2 ht' (.c 1) (.c (-1) * zo b) fun x => by simp only [Z.v_add, Z.v_mul, Z.v_c, zo_nil]; grind
  obtain ⟨rfl, rfl⟩ := Dv.unique hp hb hdv ⟨nt, Nf.nil_ p, len_pos nb, e1⟩ (Cg.refl _)
  have hl := h.len
  have l1 := prod_len hp h.ns ha n4 hsa
  have l2 := diff_len hp.pos n5 hd
  have l3 := hdv.len_q hp n5 hb
  have l4 := (Dd.len hp hb h.gc.nf h.gc.right nb).2
  refine ⟨h.gc, h.ns, hdv.nq, ?_, by omega, by omega⟩
  obtain ⟨c1, h1⟩ := ht
  obtain ⟨c2, h2⟩ := ht'
  refine ⟨c2 * zo b - c1, fun x => ?_⟩
  have h1 := h1 x
  have h2 := h2 x
  simp only [Z.v_add, Z.v_sub, Z.v_mul] at h1 h2 ⊢
  rw [h1, h2]; grind

set_option maxHeartbeats 3200000 in
theorem pBezoutZ_yes (Aa : Option Addr) (capa : Nat) (a : List Nat) (Ab : Option Addr) (capb : Nat) (b : List Nat) (p : Nat) (w : World) (B : Nat) (hpr : Pr p) (hp : p < 4294967296) (hw : Bases w) (hB : B ≤ w.heap.size) (hr_a : Rd w B Aa (u32s a)) (hm_a : a.length ≤ Sm) (hd_a : ∀ x ∈ a, x < 4294967296) (hr_b : Rd w B Ab (u32s b)) (hm_b : b.length ≤ Sm) (hd_b : ∀ x ∈ b, x < 4294967296) (nz : mnP p b = []) :
    Calls Tryd.prog 42 #[.slice Aa a.length capa, .slice Ab b.length capb, .int .u32 (p : Int)] w (fun e w' => ∃ g s t vg vs vt, e = .returned (.tuple #[vg, vs, vt, .int .i64 0]) ∧ PR w w' vg g ∧ PR w w' vs s ∧ PR w w' vt t ∧ Bzt p (mnP p a) (mnP p b) g s t) := by
  have hp0 := hpr.pos
  have Hpr := Lib.hid hpr
  obtain ⟨sp, hsp⟩ : ∃ sp, sp = spN p := ⟨_, rfl⟩
  have HF := Lib.hid (fieldOf_yes p w hpr hp hw)
  rw [← hsp] at HF
  obtain ⟨R, hR⟩ : ∃ R : Ending → World → Prop, R = (fun e w' => ∃ g s t vg vs vt, e = .returned (.tuple #[vg, vs, vt, .int .i64 0]) ∧ PR w w' vg g ∧ PR w w' vs s ∧ PR w w' vt t ∧ Bzt p (mnP p a) (mnP p b) g s t) := ⟨_, rfl⟩
  show Calls _ _ _ _ (fun e w' => ∃ g s t vg vs vt, e = .returned (.tuple #[vg, vs, vt, .int .i64 0]) ∧ PR w w' vg g ∧ PR w w' vs s ∧ PR w w' vt t ∧ Bzt p (mnP p a) (mnP p b) g s t)
  rw [← hR]
  have HR := Lib.hid hR
  have lm_a : a.length ≤ 1099511627776 := hm_a
  obtain ⟨na, hna⟩ : ∃ na, na = mnP p a := ⟨_, rfl⟩
  have Nna : Hid (Nf p na) := by rw [hna]; exact mnP_nf hp0 a
  have Cna : Hid (Cg p (zo na) (zo a)) := by rw [hna]; exact mnP_cg p a
  have lna : na.length ≤ 1099511627776 := by have := mnP_len p a; rw [← hna] at this; omega
  have HNa : Hid (∀ (W : World) A c, Rd W W.heap.size A (u32s a) → Calls Tryd.prog 51 #[fieldV p sp, .slice A a.length c] W (PR1 W na)) := by
    rw [hna]; exact fun W A c h1 => fnormal_any p sp A c a W _ hp0 hp h1 (Nat.le_refl _) (by unfold Big; omega) hd_a
  have Ena := Lib.hid hna
  have Hr_a := Lib.hid hr_a
  have lm_b : b.length ≤ 1099511627776 := hm_b
  obtain ⟨nb, hnb⟩ : ∃ nb, nb = mnP p b := ⟨_, rfl⟩
  have Nnb : Hid (Nf p nb) := by rw [hnb]; exact mnP_nf hp0 b
  have Cnb : Hid (Cg p (zo nb) (zo b)) := by rw [hnb]; exact mnP_cg p b
  have lnb : nb.length ≤ 1099511627776 := by have := mnP_len p b; rw [← hnb] at this; omega
  have HNb : Hid (∀ (W : World) A c, Rd W W.heap.size A (u32s b) → Calls Tryd.prog 51 #[fieldV p sp, .slice A b.length c] W (PR1 W nb)) := by
    rw [hnb]; exact fun W A c h1 => fnormal_any p sp A c b W _ hp0 hp h1 (Nat.le_refl _) (by unfold Big; omega) hd_b
  have Enb := Lib.hid hnb
  have Hr_b := Lib.hid hr_b
  have HBZ : Hid (∀ (W : World) A A' c c' (a b : List Nat), Below w.heap.size w W → Rd W W.heap.size A (u32s a) → Rd W W.heap.size A' (u32s b) → a.length ≤ 1099511627776 → b.length ≤ 1099511627776 → Nf p a → Nf p b → Calls Tryd.prog 68 #[fieldV p sp, .slice A a.length c, .slice A' b.length c'] W (PB p W (zo a) (zo b) (a.length + b.length + 1))) := fun W A A' c c' a b hW h1 h2 h3 h4 h5 h6 => fbezout_any p sp A A' c c' a b W _ hpr hp hsp (hw.later hW) h1 h2 (Nat.le_refl _) (by unfold Sm; omega) (by unfold Sm; omega) h5 h6
  have z2 : ((nb.length : Int) == 0) = true := by rw [hnb, nz]; rfl
  have Hnz : Hid (nb = []) := by rw [hnb]; exact nz
  clear nz
  clear hR hr_a hd_a hm_a hna hr_b hd_b hm_b hnb hpr hw hsp
  go_enter Tryd.func42, Tryd.ntmps42
  go_upto_region 4 with (go_at_call 50; (with_reducible refine HF.out.mono ?_); rintro _ w0 ⟨rfl, hb0⟩)
  obtain ⟨W1, hW1⟩ : ∃ W1, W1 = w0.alloc (.cells #[.int .u64 (p : Int), .int .u64 (sp : Int)] 77 (0, 0)) := ⟨_, rfl⟩
  have hb01 : Below w0.heap.size w0 W1 := by rw [hW1]; exact (Below.refl _ _).alloc (Nat.le_refl _) _
  have hbf : Blk W1 w0.heap.size 77 [.int .u64 (p : Int), .int .u64 (sp : Int)] := by rw [hW1]; exact Blk.new_ rfl
  have hzb := hbf.lt
  have f0 := hbf.cell 0
  have f1 := hbf.cell 1
  simp only [List.getElem?_cons_zero, List.getElem?_cons_succ] at f0 f1
  have Hb1 := Lib.hid (hb0.trans (hb01.mono hb0.size))
  have R0_a := Lib.hid ((Hr_a.out.below (Hb1.out.mono hB)).mono (Nat.le_trans hB Hb1.out.size))
  have R0_b := Lib.hid ((Hr_b.out.below (Hb1.out.mono hB)).mono (Nat.le_trans hB Hb1.out.size))
  rw [← hW1]
  obtain ⟨gb, hgb⟩ : ∃ gb, gb = w0.heap.size := ⟨_, rfl⟩
  rw [← hgb] at f0 f1 hzb ⊢
  clear hW1 hb01 hbf hgb hb0
  go_region_held3 (fun W => W.cell? ⟨gb, 0, none⟩ = some (.int .u64 (p : Int)) ∧ W.cell? ⟨gb, 1, none⟩ = some (.int .u64 (sp : Int))) (go_keep) (first
    | (go_at_call 51; (with_reducible refine (HNa.out _ _ _ (by first | exact R0_a.out | exact R0_a.out.drewS)).mono ?_); rintro _ w1 ⟨_, rfl, ⟨A1, c1, rfl, hr1, hb1⟩⟩; have hx1 : Below W1.heap.size W1 w1 := (by first | exact hb1 | exact (Below.refl _ _).drew.trans hb1); have Hx1 := Lib.hid hx1; have HB1 := Lib.hid (Hb1.out.trans (hx1.mono Hb1.out.size)); have zc1 := (hx1.cell (p := ⟨gb, 0, none⟩) hzb).trans f0; have zd1 := (hx1.cell (p := ⟨gb, 1, none⟩) hzb).trans f1; have zz1 : gb < w1.heap.size := (by have := Hx1.out.size; omega); have zR1_a := Lib.hid ((R0_a.out.below hx1).mono hx1.size); have zR1_b := Lib.hid ((R0_b.out.below hx1).mono hx1.size); have Hr1 := Lib.hid hr1; have zR1_na := Lib.hid hr1.rd; clear hr1; clear hb1 hx1)
    | (go_at_call 51; (with_reducible refine (HNb.out _ _ _ (by first | exact zR1_b.out | exact zR1_b.out.drewS)).mono ?_); rintro _ w2 ⟨_, rfl, ⟨A2, c2, rfl, hr2, hb2⟩⟩; have hx2 : Below w1.heap.size w1 w2 := (by first | exact hb2 | exact (Below.refl _ _).drew.trans hb2); have Hx2 := Lib.hid hx2; have HB2 := Lib.hid (HB1.out.trans (hx2.mono HB1.out.size)); have zc2 := (hx2.cell (p := ⟨gb, 0, none⟩) zz1).trans zc1; have zd2 := (hx2.cell (p := ⟨gb, 1, none⟩) zz1).trans zd1; have zz2 : gb < w2.heap.size := (by have := Hx2.out.size; omega); have zR2_a := Lib.hid ((zR1_a.out.below hx2).mono hx2.size); have zR2_b := Lib.hid ((zR1_b.out.below hx2).mono hx2.size); have zR2_na := Lib.hid ((zR1_na.out.below hx2).mono hx2.size); have Hr2 := Lib.hid hr2; have zR2_nb := Lib.hid hr2.rd; clear hr2; clear hb2 hx2))
  all_goals
    go_wp2_with (first
      | (go_at_call 68; (with_reducible refine (HBZ.out _ _ _ _ _ _ _ (by first | exact HB2.out | exact HB2.out.drew) (by first | exact zR2_na.out | exact zR2_na.out.drewS) (by first | exact zR2_nb.out | exact zR2_nb.out.drewS) lna lnb Nna.out Nnb.out).mono ?_); rintro _ w3 ⟨g, s3, _, _, rfl, ⟨A3, c3, rfl, hr3, hb3⟩, ⟨As3, cs3, rfl, hs3, _⟩, hm3⟩; have hx3 : Below w2.heap.size w2 w3 := (by first | exact hb3 | exact (Below.refl _ _).drew.trans hb3); have Hx3 := Lib.hid hx3; have HB3 := Lib.hid (HB2.out.trans (hx3.mono HB2.out.size)); have yc3 := (hx3.cell (p := ⟨gb, 0, none⟩) zz2).trans zc2; have yd3 := (hx3.cell (p := ⟨gb, 1, none⟩) zz2).trans zd2; have yz3 : gb < w3.heap.size := (by have := Hx3.out.size; omega); have yR3_a := Lib.hid ((zR2_a.out.below hx3).mono hx3.size); have yR3_b := Lib.hid ((zR2_b.out.below hx3).mono hx3.size); have yR3_na := Lib.hid ((zR2_na.out.below hx3).mono hx3.size); have yR3_nb := Lib.hid ((zR2_nb.out.below hx3).mono hx3.size); have Hr3 := Lib.hid hr3; have yR3_g := Lib.hid hr3.rd; clear hr3; have Hm3 := Lib.hid hm3; clear hm3; have Hs3 := Lib.hid hs3; have yR3_s3 := Lib.hid hs3.rd; clear hs3; clear hb3 hx3))
    refine bodyPost_ret (v := .tuple #[.slice A3 g.length c3, .slice As3 s3.length cs3, .slice none 0 0, .int .i64 0]) (by simp [results, Tryd.results42, go_sem]) rfl ?_
    rw [HR.out]
    exact ⟨g, s3, [], _, _, _, rfl, ⟨A3, c3, rfl, Hr3.out.mono HB2.out.size, HB3.out⟩, ⟨As3, cs3, rfl, Hs3.out.mono HB2.out.size, HB3.out⟩, PR.none_ HB3.out, Ena.out ▸ Enb.out ▸ Bzt.of_none Hm3.out Hnz.out⟩

set_option maxHeartbeats 3200000 in
theorem pBezout_yes (Aa : Option Addr) (capa : Nat) (a : List Nat) (Ab : Option Addr) (capb : Nat) (b : List Nat) (p : Nat) (w : World) (B : Nat) (hpr : Pr p) (hp : p < 4294967296) (hw : Bases w) (hB : B ≤ w.heap.size) (hr_a : Rd w B Aa (u32s a)) (hm_a : a.length ≤ Sm) (hd_a : ∀ x ∈ a, x < 4294967296) (hr_b : Rd w B Ab (u32s b)) (hm_b : b.length ≤ Sm) (hd_b : ∀ x ∈ b, x < 4294967296) (nz : mnP p b ≠ []) :
    Calls Tryd.prog 42 #[.slice Aa a.length capa, .slice Ab b.length capb, .int .u32 (p : Int)] w (fun e w' => ∃ g s t vg vs vt, e = .returned (.tuple #[vg, vs, vt, .int .i64 0]) ∧ PR w w' vg g ∧ PR w w' vs s ∧ PR w w' vt t ∧ Bzt p (mnP p a) (mnP p b) g s t) := by
  have hp0 := hpr.pos
  have Hpr := Lib.hid hpr
  obtain ⟨sp, hsp⟩ : ∃ sp, sp = spN p := ⟨_, rfl⟩
  have HF := Lib.hid (fieldOf_yes p w hpr hp hw)
  rw [← hsp] at HF
  obtain ⟨R, hR⟩ : ∃ R : Ending → World → Prop, R = (fun e w' => ∃ g s t vg vs vt, e = .returned (.tuple #[vg, vs, vt, .int .i64 0]) ∧ PR w w' vg g ∧ PR w w' vs s ∧ PR w w' vt t ∧ Bzt p (mnP p a) (mnP p b) g s t) := ⟨_, rfl⟩
  show Calls _ _ _ _ (fun e w' => ∃ g s t vg vs vt, e = .returned (.tuple #[vg, vs, vt, .int .i64 0]) ∧ PR w w' vg g ∧ PR w w' vs s ∧ PR w w' vt t ∧ Bzt p (mnP p a) (mnP p b) g s t)
  rw [← hR]
  have HR := Lib.hid hR
  have lm_a : a.length ≤ 1099511627776 := hm_a
  obtain ⟨na, hna⟩ : ∃ na, na = mnP p a := ⟨_, rfl⟩
  have Nna : Hid (Nf p na) := by rw [hna]; exact mnP_nf hp0 a
  have Cna : Hid (Cg p (zo na) (zo a)) := by rw [hna]; exact mnP_cg p a
  have lna : na.length ≤ 1099511627776 := by have := mnP_len p a; rw [← hna] at this; omega
  have HNa : Hid (∀ (W : World) A c, Rd W W.heap.size A (u32s a) → Calls Tryd.prog 51 #[fieldV p sp, .slice A a.length c] W (PR1 W na)) := by
    rw [hna]; exact fun W A c h1 => fnormal_any p sp A c a W _ hp0 hp h1 (Nat.le_refl _) (by unfold Big; omega) hd_a
  have Ena := Lib.hid hna
  have Hr_a := Lib.hid hr_a
  have lm_b : b.length ≤ 1099511627776 := hm_b
  obtain ⟨nb, hnb⟩ : ∃ nb, nb = mnP p b := ⟨_, rfl⟩
  have Nnb : Hid (Nf p nb) := by rw [hnb]; exact mnP_nf hp0 b
  have Cnb : Hid (Cg p (zo nb) (zo b)) := by rw [hnb]; exact mnP_cg p b
  have lnb : nb.length ≤ 1099511627776 := by have := mnP_len p b; rw [← hnb] at this; omega
  have HNb : Hid (∀ (W : World) A c, Rd W W.heap.size A (u32s b) → Calls Tryd.prog 51 #[fieldV p sp, .slice A b.length c] W (PR1 W nb)) := by
    rw [hnb]; exact fun W A c h1 => fnormal_any p sp A c b W _ hp0 hp h1 (Nat.le_refl _) (by unfold Big; omega) hd_b
  have Enb := Lib.hid hnb
  have Hr_b := Lib.hid hr_b
  have HBZ : Hid (∀ (W : World) A A' c c' (a b : List Nat), Below w.heap.size w W → Rd W W.heap.size A (u32s a) → Rd W W.heap.size A' (u32s b) → a.length ≤ 1099511627776 → b.length ≤ 1099511627776 → Nf p a → Nf p b → Calls Tryd.prog 68 #[fieldV p sp, .slice A a.length c, .slice A' b.length c'] W (PB p W (zo a) (zo b) (a.length + b.length + 1))) := fun W A A' c c' a b hW h1 h2 h3 h4 h5 h6 => fbezout_any p sp A A' c c' a b W _ hpr hp hsp (hw.later hW) h1 h2 (Nat.le_refl _) (by unfold Sm; omega) (by unfold Sm; omega) h5 h6
  have HPR2 : Hid (∀ (W : World) A A' c c' (a b : List Nat), Rd W W.heap.size A (u32s a) → Rd W W.heap.size A' (u32s b) → a.length ≤ 2199023255553 → b.length ≤ 1099511627776 → Nf p a → Nf p b → Calls Tryd.prog 55 #[fieldV p sp, .slice A a.length c, .slice A' b.length c'] W (PS p W (zo a * zo b))) := fun W A A' c c' a b h1 h2 h3 h4 h5 h6 => fproduct_any p sp A A' c c' a b W _ hpr hp hsp h1 h2 (Nat.le_refl _) (by unfold Big; omega) (by unfold Big; omega) h5 h6
  have HDF2 : Hid (∀ (W : World) A A' c c' (a b : List Nat), Rd W W.heap.size A (u32s a) → Rd W W.heap.size A' (u32s b) → a.length ≤ 4398046511104 → b.length ≤ 4398046511104 → Nf p a → Nf p b → Calls Tryd.prog 54 #[fieldV p sp, .slice A a.length c, .slice A' b.length c'] W (PS p W (zo a - zo b))) := fun W A A' c c' a b h1 h2 h3 h4 h5 h6 => fdiff_any p sp A A' c c' a b W _ hp0 hp h1 h2 (Nat.le_refl _) (by unfold Big; omega) (by unfold Big; omega) h5.1 h6.1
  have HDV : Hid (∀ (W : World) A A' c c' (a b : List Nat), Below w.heap.size w W → Rd W W.heap.size A (u32s a) → Rd W W.heap.size A' (u32s b) → a.length ≤ 8796093022208 → Nf p a → Nf p b → b ≠ [] → Calls Tryd.prog 69 #[fieldV p sp, .slice A a.length c, .slice A' b.length c'] W (PD p W a b)) := fun W A A' c c' a b hW h1 h2 h3 h4 h5 h6 => fdivide_any p sp A A' c c' a b W _ hpr hp (hw.later hW) h1 h2 (Nat.le_refl _) (by unfold Big; omega) h4 h5 h6
  have hnz : nb ≠ [] := by rw [hnb]; exact nz
  have z2 : ((nb.length : Int) == 0) = false := bz (len_pos hnz)
  have Hnz := Lib.hid hnz
  clear hnz nz
  clear hR hr_a hd_a hm_a hna hr_b hd_b hm_b hnb hpr hw hsp
  go_enter Tryd.func42, Tryd.ntmps42
  go_upto_region 4 with (go_at_call 50; (with_reducible refine HF.out.mono ?_); rintro _ w0 ⟨rfl, hb0⟩)
  obtain ⟨W1, hW1⟩ : ∃ W1, W1 = w0.alloc (.cells #[.int .u64 (p : Int), .int .u64 (sp : Int)] 77 (0, 0)) := ⟨_, rfl⟩
  have hb01 : Below w0.heap.size w0 W1 := by rw [hW1]; exact (Below.refl _ _).alloc (Nat.le_refl _) _
  have hbf : Blk W1 w0.heap.size 77 [.int .u64 (p : Int), .int .u64 (sp : Int)] := by rw [hW1]; exact Blk.new_ rfl
  have hzb := hbf.lt
  have f0 := hbf.cell 0
  have f1 := hbf.cell 1
  simp only [List.getElem?_cons_zero, List.getElem?_cons_succ] at f0 f1
  have Hb1 := Lib.hid (hb0.trans (hb01.mono hb0.size))
  have R0_a := Lib.hid ((Hr_a.out.below (Hb1.out.mono hB)).mono (Nat.le_trans hB Hb1.out.size))
  have R0_b := Lib.hid ((Hr_b.out.below (Hb1.out.mono hB)).mono (Nat.le_trans hB Hb1.out.size))
  rw [← hW1]
  obtain ⟨gb, hgb⟩ : ∃ gb, gb = w0.heap.size := ⟨_, rfl⟩
  rw [← hgb] at f0 f1 hzb ⊢
  clear hW1 hb01 hbf hgb hb0
  go_region_held3 (fun W => W.cell? ⟨gb, 0, none⟩ = some (.int .u64 (p : Int)) ∧ W.cell? ⟨gb, 1, none⟩ = some (.int .u64 (sp : Int))) (go_keep) (first
    | (go_at_call 51; (with_reducible refine (HNa.out _ _ _ (by first | exact R0_a.out | exact R0_a.out.drewS)).mono ?_); rintro _ w1 ⟨_, rfl, ⟨A1, c1, rfl, hr1, hb1⟩⟩; have hx1 : Below W1.heap.size W1 w1 := (by first | exact hb1 | exact (Below.refl _ _).drew.trans hb1); have Hx1 := Lib.hid hx1; have HB1 := Lib.hid (Hb1.out.trans (hx1.mono Hb1.out.size)); have zc1 := (hx1.cell (p := ⟨gb, 0, none⟩) hzb).trans f0; have zd1 := (hx1.cell (p := ⟨gb, 1, none⟩) hzb).trans f1; have zz1 : gb < w1.heap.size := (by have := Hx1.out.size; omega); have zR1_a := Lib.hid ((R0_a.out.below hx1).mono hx1.size); have zR1_b := Lib.hid ((R0_b.out.below hx1).mono hx1.size); have Hr1 := Lib.hid hr1; have zR1_na := Lib.hid hr1.rd; clear hr1; clear hb1 hx1)
    | (go_at_call 51; (with_reducible refine (HNb.out _ _ _ (by first | exact zR1_b.out | exact zR1_b.out.drewS)).mono ?_); rintro _ w2 ⟨_, rfl, ⟨A2, c2, rfl, hr2, hb2⟩⟩; have hx2 : Below w1.heap.size w1 w2 := (by first | exact hb2 | exact (Below.refl _ _).drew.trans hb2); have Hx2 := Lib.hid hx2; have HB2 := Lib.hid (HB1.out.trans (hx2.mono HB1.out.size)); have zc2 := (hx2.cell (p := ⟨gb, 0, none⟩) zz1).trans zc1; have zd2 := (hx2.cell (p := ⟨gb, 1, none⟩) zz1).trans zd1; have zz2 : gb < w2.heap.size := (by have := Hx2.out.size; omega); have zR2_a := Lib.hid ((zR1_a.out.below hx2).mono hx2.size); have zR2_b := Lib.hid ((zR1_b.out.below hx2).mono hx2.size); have zR2_na := Lib.hid ((zR1_na.out.below hx2).mono hx2.size); have Hr2 := Lib.hid hr2; have zR2_nb := Lib.hid hr2.rd; clear hr2; clear hb2 hx2))
  all_goals
    go_upto_region 8 with (first
      | (go_at_call 68; (with_reducible refine (HBZ.out _ _ _ _ _ _ _ (by first | exact HB2.out | exact HB2.out.drew) (by first | exact zR2_na.out | exact zR2_na.out.drewS) (by first | exact zR2_nb.out | exact zR2_nb.out.drewS) lna lnb Nna.out Nnb.out).mono ?_); rintro _ w3 ⟨g, s3, _, _, rfl, ⟨A3, c3, rfl, hr3, hb3⟩, ⟨As3, cs3, rfl, hs3, _⟩, hm3⟩; have hx3 : Below w2.heap.size w2 w3 := (by first | exact hb3 | exact (Below.refl _ _).drew.trans hb3); have Hx3 := Lib.hid hx3; have HB3 := Lib.hid (HB2.out.trans (hx3.mono HB2.out.size)); have yc3 := (hx3.cell (p := ⟨gb, 0, none⟩) zz2).trans zc2; have yd3 := (hx3.cell (p := ⟨gb, 1, none⟩) zz2).trans zd2; have yz3 : gb < w3.heap.size := (by have := Hx3.out.size; omega); have yR3_a := Lib.hid ((zR2_a.out.below hx3).mono hx3.size); have yR3_b := Lib.hid ((zR2_b.out.below hx3).mono hx3.size); have yR3_na := Lib.hid ((zR2_na.out.below hx3).mono hx3.size); have yR3_nb := Lib.hid ((zR2_nb.out.below hx3).mono hx3.size); have Hr3 := Lib.hid hr3; have yR3_g := Lib.hid hr3.rd; clear hr3; have Hm3 := Lib.hid hm3; clear hm3; have Hs3 := Lib.hid hs3; have yR3_s3 := Lib.hid hs3.rd; clear hs3; clear hb3 hx3))
    have hl1 := Hm3.out.len
    have hls : s3.length ≤ 2199023255553 := by omega
    have hlg : g.length ≤ 4398046511104 := by
      have h9 := Hm3.out.gc
      have : g.length ≤ nb.length := (Dd.len Hpr.out Nnb.out h9.nf h9.right Hnz.out).2
      omega
    have Hng := Lib.hid Hm3.out.gc.nf
    have Hns := Lib.hid Hm3.out.ns
    go_region_held3 (fun W => W.cell? ⟨gb, 0, none⟩ = some (.int .u64 (p : Int)) ∧ W.cell? ⟨gb, 1, none⟩ = some (.int .u64 (sp : Int))) (go_keep) (first
      | (go_at_call 55; (with_reducible refine (HPR2.out _ _ _ _ _ _ _ (by first | exact yR3_s3.out | exact yR3_s3.out.drewS) (by first | exact yR3_na.out | exact yR3_na.out.drewS) hls lna Hns.out Nna.out).mono ?_); rintro _ w4 ⟨sa, ⟨_, rfl, ⟨A4, c4, rfl, hr4, hb4⟩⟩, hn4, hc4⟩; have hx4 : Below w3.heap.size w3 w4 := (by first | exact hb4 | exact (Below.refl _ _).drew.trans hb4); have Hx4 := Lib.hid hx4; have HB4 := Lib.hid (HB3.out.trans (hx4.mono HB3.out.size)); have xc4 := (hx4.cell (p := ⟨gb, 0, none⟩) yz3).trans yc3; have xd4 := (hx4.cell (p := ⟨gb, 1, none⟩) yz3).trans yd3; have xz4 : gb < w4.heap.size := (by have := Hx4.out.size; omega); have xR4_a := Lib.hid ((yR3_a.out.below hx4).mono hx4.size); have xR4_b := Lib.hid ((yR3_b.out.below hx4).mono hx4.size); have xR4_na := Lib.hid ((yR3_na.out.below hx4).mono hx4.size); have xR4_nb := Lib.hid ((yR3_nb.out.below hx4).mono hx4.size); have xR4_g := Lib.hid ((yR3_g.out.below hx4).mono hx4.size); have xR4_s3 := Lib.hid ((yR3_s3.out.below hx4).mono hx4.size); have Hr4 := Lib.hid hr4; have xR4_sa := Lib.hid hr4.rd; clear hr4; have Hn4 := Lib.hid hn4; have Hc4 := Lib.hid hc4; clear hn4 hc4; have lsa : sa.length ≤ 4398046511104 := (by have := prod_len Hpr.out Hns.out Nna.out Hn4.out Hc4.out; omega); clear hb4 hx4)
      | (go_at_call 54; (with_reducible refine (HDF2.out _ _ _ _ _ _ _ (by first | exact xR4_g.out | exact xR4_g.out.drewS) (by first | exact xR4_sa.out | exact xR4_sa.out.drewS) hlg lsa Hng.out Hn4.out).mono ?_); rintro _ w5 ⟨d, ⟨_, rfl, ⟨A5, c5, rfl, hr5, hb5⟩⟩, hn5, hc5⟩; have hx5 : Below w4.heap.size w4 w5 := (by first | exact hb5 | exact (Below.refl _ _).drew.trans hb5); have Hx5 := Lib.hid hx5; have HB5 := Lib.hid (HB4.out.trans (hx5.mono HB4.out.size)); have xc5 := (hx5.cell (p := ⟨gb, 0, none⟩) xz4).trans xc4; have xd5 := (hx5.cell (p := ⟨gb, 1, none⟩) xz4).trans xd4; have xz5 : gb < w5.heap.size := (by have := Hx5.out.size; omega); have xR5_a := Lib.hid ((xR4_a.out.below hx5).mono hx5.size); have xR5_b := Lib.hid ((xR4_b.out.below hx5).mono hx5.size); have xR5_na := Lib.hid ((xR4_na.out.below hx5).mono hx5.size); have xR5_nb := Lib.hid ((xR4_nb.out.below hx5).mono hx5.size); have xR5_g := Lib.hid ((xR4_g.out.below hx5).mono hx5.size); have xR5_s3 := Lib.hid ((xR4_s3.out.below hx5).mono hx5.size); have xR5_sa := Lib.hid ((xR4_sa.out.below hx5).mono hx5.size); have Hr5 := Lib.hid hr5; have xR5_d := Lib.hid hr5.rd; clear hr5; have Hn5 := Lib.hid hn5; have Hc5 := Lib.hid hc5; clear hn5 hc5; have ld : d.length ≤ 8796093022208 := (by have := diff_len hp0 Hn5.out Hc5.out; omega); clear hb5 hx5)
      | (go_at_call 69; (with_reducible refine (HDV.out _ _ _ _ _ _ _ (by first | exact HB5.out | exact HB5.out.drew) (by first | exact xR5_d.out | exact xR5_d.out.drewS) (by first | exact xR5_nb.out | exact xR5_nb.out.drewS) ld Hn5.out Nnb.out Hnz.out).mono ?_); rintro _ w6 ⟨q6, r, _, _, rfl, ⟨Aq6, cq6, rfl, hrq6, _⟩, ⟨A6, c6, rfl, hr6, hb6⟩, hm6⟩; have hx6 : Below w5.heap.size w5 w6 := (by first | exact hb6 | exact (Below.refl _ _).drew.trans hb6); have Hx6 := Lib.hid hx6; have HB6 := Lib.hid (HB5.out.trans (hx6.mono HB5.out.size)); have xc6 := (hx6.cell (p := ⟨gb, 0, none⟩) xz5).trans xc5; have xd6 := (hx6.cell (p := ⟨gb, 1, none⟩) xz5).trans xd5; have xz6 : gb < w6.heap.size := (by have := Hx6.out.size; omega); have xR6_a := Lib.hid ((xR5_a.out.below hx6).mono hx6.size); have xR6_b := Lib.hid ((xR5_b.out.below hx6).mono hx6.size); have xR6_na := Lib.hid ((xR5_na.out.below hx6).mono hx6.size); have xR6_nb := Lib.hid ((xR5_nb.out.below hx6).mono hx6.size); have xR6_g := Lib.hid ((xR5_g.out.below hx6).mono hx6.size); have xR6_s3 := Lib.hid ((xR5_s3.out.below hx6).mono hx6.size); have xR6_sa := Lib.hid ((xR5_sa.out.below hx6).mono hx6.size); have xR6_d := Lib.hid ((xR5_d.out.below hx6).mono hx6.size); have Hr6 := Lib.hid hr6; have xR6_r := Lib.hid hr6.rd; clear hr6; have Hm6 := Lib.hid hm6; clear hm6; have Hrq6 := Lib.hid hrq6; have xR6_q6 := Lib.hid hrq6.rd; clear hrq6; clear hb6 hx6))
    all_goals go_wp2_with fail
    all_goals
      refine bodyPost_ret (v := .tuple #[.slice A3 g.length c3, .slice As3 s3.length cs3, .slice Aq6 q6.length cq6, .int .i64 0]) (by simp [results, Tryd.results42, go_sem]) rfl ?_
      rw [HR.out]
      have hb36 : Below w3.heap.size w3 w6 := (Hx4.out.trans (Hx5.out.mono Hx4.out.size)).trans (Hx6.out.mono (by have := Hx4.out.size; have := Hx5.out.size; omega))
      have pg : PR w w3 (.slice A3 g.length c3) g := ⟨A3, c3, rfl, Hr3.out.mono HB2.out.size, HB3.out⟩
      have ps : PR w w3 (.slice As3 s3.length cs3) s3 := ⟨As3, cs3, rfl, Hs3.out.mono HB2.out.size, HB3.out⟩
      exact ⟨g, s3, q6, _, _, _, rfl, pg.later hb36, ps.later hb36, ⟨Aq6, cq6, rfl, Hrq6.out.mono HB5.out.size, HB6.out⟩, Ena.out ▸ Enb.out ▸ Bzt.of_div Hpr.out Hm3.out Nna.out Nnb.out Hnz.out Hc4.out Hc5.out Hm6.out Hn4.out Hn5.out⟩
end
section
open Go.RowKit

/-- v is a slice at the head of a row of one's own, from block B on, or nil; it holds xs. -/
def Ro (w : World) (B : Nat) (e : TypeId) (v : Value) (xs : List Value) : Prop := w.ownsRow B e 1 v xs.length xs
theorem Ro.nil_ (w : World) (B : Nat) (e : TypeId) : Ro w B e (.slice none 0 0) [] := ⟨rfl, .inl ⟨rfl, rfl⟩⟩
theorem addr_add (b off j : Nat) : (⟨b, off, none⟩ : Addr).add j = ⟨b, off + j, none⟩ := by unfold Addr.add; split <;> simp_all
theorem Ro.form {w : World} {B : Nat} {e : TypeId} {v : Value} {xs : List Value} (h : Ro w B e v xs) (hm : xs.length ≤ 281474976710656) : ∃ A c, v = .slice A xs.length c ∧ Res w B e A c xs ∧ (∀ a, A = some a → a.block < w.heap.size) := by
  obtain ⟨hl, h1 | ⟨g, cap, cur, rfl, hg, hh, hnc, hcm, hsz, ht⟩⟩ := h
  · obtain ⟨rfl, h0⟩ := h1
    have : xs = [] := List.eq_nil_of_length_eq_zero h0
    subst this
    exact ⟨none, 0, rfl, Res.none_, fun a h => by cases h⟩
  · have hb : Blk w g e cur.toList := by simpa [Blk] using hh
    refine ⟨_, cap, rfl, ⟨hnc, hm, fun _ => ⟨g, cur.toList.drop (xs.length), rfl, hg, ?_, ?_⟩⟩, fun a h => ?_⟩
    · have h9 : cur.toList.take xs.length = xs := by simpa using ht
      have h8 : xs ++ cur.toList.drop xs.length = cur.toList := by
        conv => lhs; lhs; rw [← h9]
        exact List.take_append_drop _ _
      rw [h8]; exact hb
    · rw [List.length_drop]; simp at hsz; simp [hsz]; omega
    · obtain rfl : (⟨g, 0, none⟩ : Addr) = a := by simpa using h
      exact hb.lt
theorem Ro.capLe {w : World} {B : Nat} {e : TypeId} {A : Option Addr} {n c : Nat} {xs : List Value} (h : Ro w B e (.slice A n c) xs) : c ≤ maxLen := by
  obtain ⟨hl, h1 | ⟨g, cap, cur, hv, hg, hh, hnc, hcm, hsz, ht⟩⟩ := h
  · obtain ⟨h1, _⟩ := h1
    injection h1 with _ _ h3
    subst h3; unfold maxLen; omega
  · injection hv with _ _ h3
    subst h3; exact hcm
/-- A row of which the header is written out. -/
theorem Ro.res {w : World} {B : Nat} {e : TypeId} {A : Option Addr} {n c : Nat} {xs : List Value} (h : Ro w B e (.slice A n c) xs) (hm : xs.length ≤ 281474976710656) : n = xs.length ∧ Res w B e A c xs ∧ (∀ a, A = some a → a.block < w.heap.size) := by
  obtain ⟨A', c', h1, h2, h3⟩ := h.form hm
  injection h1 with e1 e2 e3
  subst e1 e2 e3
  exact ⟨rfl, h2, h3⟩
theorem Ro.rd {w : World} {B : Nat} {e : TypeId} {A : Option Addr} {n c : Nat} {xs : List Value} (h : Ro w B e (.slice A n c) xs) : n = xs.length ∧ xs.length ≤ c ∧ Rd w w.heap.size A xs := by
  obtain ⟨hl, ⟨h1, h0⟩ | ⟨g, cap, cur, hv, hg, hh, hnc, hcm, hsz, ht⟩⟩ := h
  · injection h1 with e1 e2 e3
    subst e1 e2 e3
    have : xs = [] := List.eq_nil_of_length_eq_zero h0
    subst this
    exact ⟨rfl, Nat.le_refl _, Rd.nil_⟩
  · injection hv with e1 e2 e3
    subst e1 e2 e3
    have hb : Blk w g e cur.toList := by simpa [Blk] using hh
    have h9 : cur.toList.take xs.length = xs := by simpa using ht
    exact ⟨rfl, hnc, Rd.of_blk hb hb.lt 0 (fun k v hv => by
      rw [Nat.zero_add]
      rw [← h9, List.getElem?_take] at hv
      split at hv
      · exact hv
      · cases hv)⟩
theorem Ro.below {w w' : World} {B B' : Nat} {e : TypeId} {v : Value} {xs : List Value} (h : Ro w B e v xs) (hb : Below B' w w') (hB : w.heap.size ≤ B') : Ro w' B e v xs := by
  obtain ⟨hl, h1 | ⟨g, cap, cur, hv, hg, hh, r⟩⟩ := h
  · exact ⟨hl, .inl h1⟩
  · have hlt : g < w.heap.size := (Array.getElem?_eq_some_iff.1 hh).1
    exact ⟨hl, .inr ⟨g, cap, cur, hv, hg, (hb.block g (by omega)).trans hh, r⟩⟩
theorem Ro.tn {w w' : World} {B k : Nat} {e : TypeId} {v : Value} {xs : List Value} (h : Ro w B e v xs) (ht : Tn k w w') (hk : k < B) : Ro w' B e v xs := by
  obtain ⟨hl, h1 | ⟨g, cap, cur, hv, hg, hh, r⟩⟩ := h
  · exact ⟨hl, .inl h1⟩
  · have hlt : g < w.heap.size := (Array.getElem?_eq_some_iff.1 hh).1
    exact ⟨hl, .inr ⟨g, cap, cur, hv, hg, (ht.block g hlt (by omega)).trans hh, r⟩⟩
theorem Ro.drewN {w : World} {B : Nat} {e : TypeId} {v : Value} {xs : List Value} (h : Ro w B e v xs) (n : Nat) : Ro (w.drewN n) B e v xs := h
theorem Ro.mono {w : World} {B B' : Nat} {e : TypeId} {v : Value} {xs : List Value} (h : Ro w B e v xs) (hB : B' ≤ B) : Ro w B' e v xs := by
  obtain ⟨hl, h1 | ⟨g, cap, cur, hv, hg, r⟩⟩ := h
  · exact ⟨hl, .inl h1⟩
  · exact ⟨hl, .inr ⟨g, cap, cur, hv, by omega, r⟩⟩
theorem Ro.of_blk {w : World} {B g : Nat} {e : TypeId} {xs : List Value} (h : Blk w g e xs) (hg : B ≤ g) (hm : xs.length ≤ maxLen) : Ro w B e (.slice (some ⟨g, 0, none⟩) xs.length xs.length) xs :=
  ⟨by simp, .inr ⟨g, xs.length, xs.toArray, rfl, hg, h, Nat.le_refl _, hm, by simp, by simp⟩⟩

/-- What an append to a row has turned: the row's block at most; new ones may lie behind. -/
theorem below_grown' {w w' : World} {row : Option Nat} (h : w.grownBy w' row) {B : Nat} (hB : ∀ k, row = some k → B ≤ k) (hw : B ≤ w.heap.size) : Below B w w' := (Below.refl B w).grown h hw hB
theorem Ro.block {w : World} {B : Nat} {e : TypeId} {v : Value} {xs : List Value} (h : Ro w B e v xs) : ∀ k, v.ownBlock = some k → B ≤ k := fun k hk => by
  obtain ⟨hl, ⟨rfl, _⟩ | ⟨g, cap, cur, rfl, hg, _⟩⟩ := h
  · simp [Value.ownBlock] at hk
  · simp [Value.ownBlock] at hk; omega

/-- Appending what a slice reads as to a row of one's own. -/
theorem ro_app {P : Program} (w : World) (B : Nat) (t ty e : TypeId) (i : TypeInfo) (z : Value) (bytes : Nat) (ht : P.underlying t = some (.slice e)) (hi : P.info? e = some i) (hz : i.zero = some z)
    (hsize : i.size = 1) (hby : i.bytes = bytes) (hzs : z.cells.size = 1) (v : Value) (xs : List Value) (hown : Ro w B e v xs)
    (A : Option Addr) (m c B2 : Nat) (news : List Value) (hr : Rd w B2 A news) (hm : news.length = m) (h1 : ∀ u ∈ news, u.oneCell' = true) (h63 : xs.length + m ≤ maxLen) (hbytes : (xs.length + m) * bytes ≤ 140737488355328) (hbase : B ≤ w.heap.size) :
    ∃ A' c' w', (Builtin.append_ #[t, t] ty #[v, .slice A m c]).run P w = .ok (.slice A' (xs ++ news).length c') w' ∧ Ro w' B e (.slice A' (xs ++ news).length c') (xs ++ news) ∧ w.grownBy w' v.ownBlock := by
  have fin : ∀ v' w', (Builtin.append_ #[t, t] ty #[v, .slice A m c]).run P w = .ok v' w' → w'.ownsRow B e 1 v' (xs.length + m) (xs ++ news) → w.grownBy w' v.ownBlock → ∃ A' c' w', (Builtin.append_ #[t, t] ty #[v, .slice A m c]).run P w = .ok (.slice A' (xs ++ news).length c') w' ∧ Ro w' B e (.slice A' (xs ++ news).length c') (xs ++ news) ∧ w.grownBy w' v.ownBlock := fun v' w' hrun h2 h3 => by
    have hl : (xs ++ news).length = xs.length + m := by rw [List.length_append, hm]
    rw [← hl] at h2
    have h4 : Ro w' B e v' (xs ++ news) := h2
    obtain ⟨hl2, ⟨rfl, h0⟩ | ⟨g, cap, cur, rfl, r⟩⟩ := h2
    · rw [h0]
      exact ⟨none, 0, w', hrun, h4, h3⟩
    · exact ⟨_, _, w', hrun, h4, h3⟩
  rcases A with _ | ad
  · have h0 : news = [] := by
      by_cases h : news = []
      · exact h
      · obtain ⟨_, _, h2, _⟩ := hr h
        cases h2
    subst h0
    obtain rfl : m = 0 := by simpa using hm.symm
    refine fin v w ?_ (by rw [List.append_nil, Nat.add_zero]; exact hown) (World.grownBy.refl w _)
    obtain ⟨hl, ⟨rfl, h0⟩ | ⟨g', cap', cur, rfl, hg, hh, hnc, hcm, hsz, htk⟩⟩ := hown
    · simp [Builtin.append_, run_underlying ht, sizeOf, typeInfo, hi, Builtin.lenOf, Builtin.firstCells]
    · simp [Builtin.append_, run_underlying ht, sizeOf, typeInfo, hi, Builtin.lenOf, Builtin.firstCells, hnc, storeCells]
  · have hcells : ∀ j u, news[j]? = some u → w.cell? (ad.add j) = some u := fun j u hu => by
      obtain ⟨b, off, h2, _, hc⟩ := hr (by rintro rfl; simp at hu)
      injection h2 with h2
      subst h2
      rw [addr_add]
      exact hc j u hu
    obtain ⟨v', w', hrun, h2, h3, _, _⟩ := run_append_own_at (P := P) w B t ty e i z 1 bytes ht hi hz hsize hby hzs (by omega) _ xs.length xs hown ad m c news (by rw [hm]; omega) hcells h1 h63 hbytes hbase
    exact fin v' w' hrun h2 h3

/-- The walk's step at an append whose run is known. -/
theorem wpList_append_run {P : Program} {w : World} {ops : Array Oper} {rest : List Oper} {o : Oper} {a : Act} {Q : Exit → Act → World → Prop} (hgd : o.guard = none) (d s : Operand) (dT sT : TypeId)
    (ho : o.op = .call { callee := .builtin .append, args := #[d, s], argTypes := #[dT, sT] }) (dv sv : Value) (hd : a.eval d = dv) (hs : a.eval s = sv) (v' : Value) (w' : World)
    (hrun : (Builtin.append_ #[dT, sT] o.type #[dv, sv]).run P w = .ok v' w') (h : wpList P ops Q rest (a.put o.dst v') w') : wpList P ops Q (o :: rest) a w := by
  refine wpList_plain hgd fun K hK => ?_
  unfold Oper.wp
  simp [execOp, ho, resolve, invoke, builtin, hd, hs, hrun, Result.andThen]
  exact hK _ _ h
end
section
open Go.RowKit

/-- One number more on a row of one's own. -/
theorem app_mp (w : World) (B : Nat) (v : Value) (l : List Nat) (x : Nat) (h : Ro w B 24 v (u32s l)) (hB : B ≤ w.heap.size) (hl : l.length ≤ 17592186044416) :
    ∃ A' c' w', (Builtin.append_ #[23, 23] 23 #[v, .slice (some ⟨w.heap.size, 0, none⟩) 1 1]).run Tryd.prog (w.alloc (.cells #[.int .u32 (x : Int)] 24)) = .ok (.slice A' (l.length + 1) c') w' ∧
      Ro w' B 24 (.slice A' (l.length + 1) c') (u32s (l ++ [x])) ∧ Below B w w' := by
  obtain ⟨i0, hi, hz0, hz1, hz2⟩ := info_parts Tryd.info32
  have hb : Below w.heap.size w (w.alloc (.cells #[.int .u32 (x : Int)] 24)) := (Below.refl _ _).alloc (Nat.le_refl _) _
  have h2 : Ro (w.alloc (.cells #[.int .u32 (x : Int)] 24)) B 24 v (u32s l) := h.below hb (Nat.le_refl _)
  have hbk : Blk (w.alloc (.cells #[.int .u32 (x : Int)] 24)) w.heap.size 24 [.int .u32 (x : Int)] := Blk.new_ rfl
  have hrd : Rd (w.alloc (.cells #[.int .u32 (x : Int)] 24)) (w.heap.size + 1) (some ⟨w.heap.size, 0, none⟩) [.int .u32 (x : Int)] := Rd.of_blk hbk (by omega) 0 (fun k u hu => by rw [Nat.zero_add]; exact hu)
  obtain ⟨A', c', w', hrun, h3, h4⟩ := ro_app (P := Tryd.prog) _ B 23 23 24 i0 (.int .u32 0) 4 Tryd.underlying23 hi hz0 hz1 hz2 rfl v (u32s l) h2 (some ⟨w.heap.size, 0, none⟩) 1 1 _ [.int .u32 (x : Int)] hrd rfl (by simp [Value.oneCell']) (by rw [u32s_length]; unfold maxLen; omega) (by rw [u32s_length]; omega) (by simp; omega)
  have hl2 : (u32s l ++ [Value.int .u32 (x : Int)]).length = l.length + 1 := by simp [u32s]
  rw [hl2] at hrun h3
  refine ⟨A', c', w', hrun, ?_, (hb.mono hB).trans (below_grown' h4 h.block (by simp; omega))⟩
  rw [u32s_snoc]; exact h3
theorem PR.of_ro {w w' : World} {A : Option Addr} {n c : Nat} {l : List Nat} (h : Ro w' w.heap.size 24 (.slice A n c) (u32s l)) (hl : l.length ≤ 281474976710656) (hb : Below w.heap.size w w') : PR w w' (.slice A l.length c) l := by
  obtain ⟨_, h2, _⟩ := h.res (by rw [u32s_length]; exact hl)
  exact ⟨A, c, rfl, h2, hb⟩
theorem Res.trim {w : World} {B : Nat} {A : Option Addr} {c : Nat} {l : List Nat} (h : Res w B 24 A c (u32s l)) : Res w B 24 A c (u32s (trimL l)) := by
  rw [u32s_trim]; exact h.take _
theorem take_snoc {l : List Nat} {k : Nat} (h : k < l.length) : l.take (k + 1) = l.take k ++ [l[k]] := List.take_succ_eq_append_getElem h

set_option maxHeartbeats 1600000 in
theorem rnorm_any (p : Nat) (A : Option Addr) (c : Nat) (xs : List Nat) (w : World) (B : Nat) (hp0 : 0 < p) (hp : p < 4294967296) (hr : Rd w B A (u32s xs)) (hB : B ≤ w.heap.size) (hm : xs.length ≤ Big) :
    Calls Tryd.prog 19 #[.slice A xs.length c, .int .u32 (p : Int)] w (PR1 w (mnP p xs)) := by
  unfold Big at hm
  have t4 : ((p : Int) == 0) = false := bz hp0
  obtain ⟨R, hR⟩ : ∃ R : Ending → World → Prop, R = PR1 w (mnP p xs) := ⟨_, rfl⟩
  rw [← hR]
  have HR := Lib.hid hR
  have Hr := Lib.hid hr
  clear hR hr
  go_enter Tryd.func19, Tryd.ntmps19
  go_wp2
  go_loopw [5, 7, 10] (fun rv _ jv wq => ∃ (j : Nat) (Ar : Option Addr) (cr : Nat), j ≤ xs.length ∧ jv = .int .i64 (j : Int) ∧ rv = .slice Ar j cr ∧ Hid (Ro wq w.heap.size 24 (.slice Ar j cr) (u32s ((xs.take j).map (· % p)))) ∧ Below w.heap.size w wq) (fun _ _ jv _ => xs.length - (intOf jv).toNat)
  case atStart => exact ⟨0, none, 0, by omega, rfl, rfl, Ro.nil_ _ _ _, Below.refl _ _⟩
  case round =>
    obtain ⟨j, Ar, cr, hj, rfl, rfl, hro, hbq⟩ := hrel
    by_cases hjl : j < xs.length
    · obtain ⟨b5, off5, rfl, hb5, hx5⟩ := (Hr.out.below (hbq.mono hB)).at32 hjl
      have hsn : (xs.take (j + 1)).map (· % p) = (xs.take j).map (· % p) ++ [xs[j] % p] := by rw [take_snoc hjl, List.map_append]; rfl
      have hrl : ((xs.take j).map (· % p)).length = j := by simp; omega
      obtain ⟨x, hx9⟩ : ∃ x, x = xs[j] := ⟨_, rfl⟩
      rw [← hx9] at hx5 hsn
      obtain ⟨A9, c9, w9, hrun, hro9, hb9⟩ := app_mp wr w.heap.size (.slice Ar j cr) _ (x % p) hro.out hbq.size (by rw [hrl]; omega)
      rw [← hsn, hrl] at hro9
      rw [hrl] at hrun
      have t5 : (x : Int) % (p : Int) = ((x % p : Nat) : Int) := cast_mod x p
      obtain ⟨y, hy⟩ : ∃ y, y = x % p := ⟨_, rfl⟩
      rw [← hy] at hrun t5
      have Hrun := Lib.hid hrun
      clear hx9 hsn hrl hrun hy hro
      go_wp2_with (first | (at_builtin; refine wpList_append_run rfl _ _ _ _ rfl _ _ rfl rfl _ _ Hrun.out ?_))
      go_roundw
      case rel => exact ⟨j + 1, A9, c9, by omega, by go_num, by go_num, hro9, hbq.trans hb9⟩
      case measure => simp [intOf]; omega
    · obtain rfl : j = xs.length := by omega
      obtain ⟨ys, hys⟩ : ∃ ys, ys = xs.map (· % p) := ⟨_, rfl⟩
      have hyl : ys.length = xs.length := by rw [hys]; simp
      rw [List.take_length, ← hys] at hro
      have hrd := (hro.out.rd).2.2
      have hcap := (hro.out.rd).2.1
      rw [u32s_length, hyl] at hcap
      have Hys : Hid (mnP p xs = trimL ys) := by show _ = _; rw [hys]; rfl
      have Hres := Lib.hid ((hro.out.res (by rw [u32s_length]; omega)).2.1)
      obtain ⟨n, hn⟩ : ∃ n, n = xs.length := ⟨_, rfl⟩
      rw [← hn]
      rw [← hn] at hyl hcap
      have Hyl := Lib.hid hyl
      have Hn := Lib.hid hn
      clear hys hyl hro hn
      go_wp2_with fail
      go_loop [5] (fun v => ∃ m : Nat, m ≤ ys.length ∧ v = .slice Ar m cr ∧ Hid (trimL (ys.take m) = trimL ys)) (fun v => match v with | .slice _ m _ => m | _ => 0)
      case atStart => exact ⟨n, Nat.le_of_eq Hyl.out.symm, rfl, by rw [← Hyl.out, List.take_length]; exact rfl⟩
      case round =>
        obtain ⟨m, hm1, rfl, Ht⟩ := hrel
        rcases m with _ | m
        · go_wp2
          rw [HR.out]
          have h0 : (trimL ys).length = 0 := by rw [← Ht.out]; rfl
          refine ⟨_, rfl, Ar, cr, ?_, Hys.out ▸ Hres.out.trim, hbq⟩
          rw [Hys.out, h0]
        · obtain ⟨b, off, rfl, hb, hcl⟩ := hrd.at32 (show m < ys.length by omega)
          by_cases h0 : ys[m] = 0
          · have hz := trimL_take_zero ys m (by omega) h0
            rw [h0] at hcl
            have Hz := Lib.hid hz
            have hmb : m < 281474976710656 := by have := Hyl.out; have := Hn.out; omega
            have hmc : m ≤ cr := by have := Hyl.out; omega
            clear hz h0
            go_wp2
            go_round
            case rel => exact ⟨m, by omega, rfl, by rw [← Hz.out]; exact Ht⟩
            case measure => simp
          · have hz := trimL_take_pos ys m (by omega) h0
            have Hz := Lib.hid hz
            have hne : ((ys[m] : Int) == 0) = false := bz (by omega)
            have hmb : m < 281474976710656 := by have := Hyl.out; have := Hn.out; omega
            have hmc : m ≤ cr := by have := Hyl.out; omega
            clear hz
            go_wp2
            rw [HR.out]
            have h9 : (trimL ys).length = m + 1 := by rw [← Ht.out, Hz.out]
            refine ⟨_, rfl, _, cr, ?_, Hys.out ▸ Hres.out.trim, hbq⟩
            rw [Hys.out, h9]
end
end Go.Proofs.YtddhhndnkjajmaaDoor
