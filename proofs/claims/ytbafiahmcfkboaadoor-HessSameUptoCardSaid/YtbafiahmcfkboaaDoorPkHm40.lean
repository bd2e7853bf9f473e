/- modpoly's calls modulo a prime: Normal, Monic, Add, Sub, Mul, Scale, Eval, Deriv. Conditions: p a prime below 2^32; bases reads 2, 7, 61; fewer than 2^40 coefficients. The contract of hess.Char: the polynomial of the reduced matrix. Conditions: bases reads 2, 7, 61; the sizes. Plain numbers: what the reduction makes of H does not hang on the transform. No conditions. HessReduces answers true. Conditions: bases is as the program lays it; the sizes. -/
import Derived.Test.YtbafiahmcfkboaaDoorPkHm39
import Derived.Test.YtbafiahmcfkboaaDoorPkHm31
import Derived.Test.YtbafiahmcfkboaaDoorPkHm35
import Derived.Test.YtbafiahmcfkboaaDoorPkHm33
import Derived.Test.YtbafiahmcfkboaaDoorPkHm22
namespace Go.Proofs.YtbafiahmcfkboaaDoor
section
open Go.RowKit

set_option maxHeartbeats 3200000 in
theorem pNormal_yes (Aa : Option Addr) (capa : Nat) (a : List Nat) (p : Nat) (w : World) (B : Nat) (hpr : Pr p) (hp : p < 4294967296) (hw : Bases w) (hB : B ≤ w.heap.size) (hr_a : Rd w B Aa (u32s a)) (hm_a : a.length ≤ Sm) (hd_a : ∀ x ∈ a, x < 4294967296) :
    Calls Tryd.prog 24 #[.slice Aa a.length capa, .int .u32 (p : Int)] w (OkT (PR1 w (mnP p a))) := by
  have hp0 := hpr.pos
  obtain ⟨sp, hsp⟩ : ∃ sp, sp = spN p := ⟨_, rfl⟩
  have HF := Lib.hid (fieldOf_yes p w hpr hp hw)
  rw [← hsp] at HF
  obtain ⟨R, hR⟩ : ∃ R, R = (OkT (PR1 w (mnP p a))) := ⟨_, rfl⟩
  show Calls _ _ _ _ (OkT (PR1 w (mnP p a)))
  rw [← hR]
  have HR := Lib.hid hR
  have lm_a : a.length ≤ 1099511627776 := hm_a
  obtain ⟨na, hna⟩ : ∃ na, na = mnP p a := ⟨_, rfl⟩
  have Nna : Hid (Nf p na) := by rw [hna]; exact mnP_nf hp0 a
  have Cna : Hid (Cg p (zo na) (zo a)) := by rw [hna]; exact mnP_cg p a
  have lna : na.length ≤ 1099511627776 := by have := mnP_len p a; rw [← hna] at this; omega
  have HNa : Hid (∀ (W : World) A c, Rd W W.heap.size A (u32s a) → Calls Tryd.prog 39 #[fieldV p sp, .slice A a.length c] W (PR1 W na)) := by
    rw [hna]; exact fun W A c h1 => fnormal_any p sp A c a W _ hp0 hp h1 (Nat.le_refl _) (by unfold Big; omega) hd_a
  have Ena := Lib.hid hna
  have Hr_a := Lib.hid hr_a
  clear hR hr_a hd_a hm_a hna hpr hw hsp
  go_enter Tryd.func24, Tryd.ntmps24
  go_upto_region 4 with (go_at_call 38; (with_reducible refine HF.out.mono ?_); rintro _ w0 ⟨rfl, hb0⟩)
  obtain ⟨W1, hW1⟩ : ∃ W1, W1 = w0.alloc (.cells #[.int .u64 (p : Int), .int .u64 (sp : Int)] 80 (0, 0)) := ⟨_, rfl⟩
  have hb01 : Below w0.heap.size w0 W1 := by rw [hW1]; exact (Below.refl _ _).alloc (Nat.le_refl _) _
  have hbf : Blk W1 w0.heap.size 80 [.int .u64 (p : Int), .int .u64 (sp : Int)] := by rw [hW1]; exact Blk.new_ rfl
  have hzb := hbf.lt
  have f0 := hbf.cell 0
  have f1 := hbf.cell 1
  simp only [List.getElem?_cons_zero, List.getElem?_cons_succ] at f0 f1
  have Hb1 := Lib.hid (hb0.trans (hb01.mono hb0.size))
  have R0_a := Lib.hid ((Hr_a.out.below (Hb1.out.mono hB)).mono (Nat.le_trans hB Hb1.out.size))
  rw [← hW1]
  obtain ⟨gb, hgb⟩ : ∃ gb, gb = w0.heap.size := ⟨_, rfl⟩
  rw [← hgb] at f0 f1 hzb ⊢
  clear hW1 hb01 hbf hgb hb0
  go_wp2_with (first
    | (go_at_call 39; (with_reducible refine (HNa.out _ _ _ (by first | exact R0_a.out | exact R0_a.out.drewS)).mono ?_); rintro _ w1 ⟨_, rfl, ⟨A1, c1, rfl, hr1, hb1⟩⟩; have hx1 : Below W1.heap.size W1 w1 := (by first | exact hb1 | exact (Below.refl _ _).drew.trans hb1); have Hx1 := Lib.hid hx1; have HB1 := Lib.hid (Hb1.out.trans (hx1.mono Hb1.out.size)); have zc1 := (hx1.cell (p := ⟨gb, 0, none⟩) hzb).trans f0; have zd1 := (hx1.cell (p := ⟨gb, 1, none⟩) hzb).trans f1; have zz1 : gb < w1.heap.size := (by have := Hx1.out.size; omega); have zR1_a := Lib.hid ((R0_a.out.below hx1).mono hx1.size); have Hr1 := Lib.hid hr1; have zR1_na := Lib.hid hr1.rd; clear hr1; clear hb1 hx1))
  rw [HR.out]
  exact ⟨_, rfl, ⟨_, rfl, Ena.out ▸ ⟨A1, c1, rfl, Hr1.out.mono Hb1.out.size, HB1.out⟩⟩⟩
end
section
open Go.RowKit

theorem trimL_of_end {l : List Nat} (h : l.getD (l.length - 1) 0 ≠ 0) : trimL l = l := by
  rcases List.eq_nil_or_concat l with rfl | ⟨l', x, rfl⟩
  · rfl
  · rw [List.concat_eq_append] at h ⊢
    exact trimL_snoc_pos _ _ (by simpa using h)
theorem mnP_polR {p : Nat} (hp : 1 < p) (H : Mf) (n : Nat) : mnP p (polR (chT p H n) n) = polR (chT p H n) n := by
  unfold mnP
  have e : (polR (chT p H n) n).map (· % p) = polR (chT p H n) n := by
    refine List.ext_getElem (by simp) fun i h1 h2 => ?_
    rw [List.getElem_map, polR_at h2]
    exact Nat.mod_eq_of_lt (chT_lt hp H n n i)
  rw [e]
  apply trimL_of_end
  rw [polR_length, Nat.add_sub_cancel, List.getD_eq_getElem?_getD, List.getElem?_eq_getElem (by rw [polR_length]; omega), Option.getD_some, polR_at, chT_top]
  omega

theorem hChar_yes (A : Option Addr) (c p : Nat) (M : List (List Nat)) (w : World) (hp : p < 4294967296) (hw : Bases w) (hG : 0 < w.heap.size) (hr : RdM w w.heap.size A M) (hm : M.length ≤ 1048576) (hd : DigM 4294967296 M) (hk : Ft p M 0) :
    Calls Tryd.prog 9 #[.slice A M.length c, .int .u32 (p : Int)] w fun e w' => ∃ A2 c2, e = .returned (.tuple #[.slice A2 (M.length + 1) c2, .int .i64 0]) ∧ Res w' w.heap.size 24 A2 c2 (u32s (polR (chT p (rdS p M.length (M.length - 1) 0 ⟨inN p M, zrN, zrN⟩).h M.length) M.length)) ∧ Below w.heap.size w w' := by
  obtain ⟨hpr, _, _, _, hn24⟩ := hk.some
  have h := hChar_ok A c p M w hp hw hG hr hm hd hk (polR (chT p (rdS p M.length (M.length - 1) 0 ⟨inN p M, zrN, zrN⟩).h M.length) M.length) fun W A' c' hW hR => ?_
  · rw [polR_length] at h
    exact h
  · have h := pNormal_yes A' c' _ p W W.heap.size hpr hp hW (Nat.le_refl _) hR (by rw [polR_length]; unfold Sm; omega) (fun x hx => by
      obtain ⟨j, _, rfl⟩ := List.mem_map.1 hx
      have := chT_lt hpr.two (rdS p M.length (M.length - 1) 0 ⟨inN p M, zrN, zrN⟩).h M.length M.length j
      omega)
    rw [polR_length, mnP_polR hpr.two] at h
    refine h.mono ?_
    rintro _ w' ⟨v, rfl, v', hv, A2, c2, rfl, h1, h2⟩
    injection hv with hv
    subst hv
    exact ⟨A2, c2, rfl, h1, h2⟩
end
section
open Go.RowKit

theorem exS_h {i k : Nat} {x y : St} (e : x.h = y.h) : (exS i k x).h = (exS i k y).h := by
  show (fun a b => x.h (tr i k a) (tr i k b)) = fun a b => y.h (tr i k a) (tr i k b)
  rw [e]
theorem shS_h {p i k c : Nat} {x y : St} (e : x.h = y.h) : (shS p i k c x).h = (shS p i k c y).h := by
  show acN p k i c (arN p i k (ngN p c) x.h) = acN p k i c (arN p i k (ngN p c) y.h)
  rw [e]
theorem colS_h {p k u : Nat} : ∀ m i (x y : St), x.h = y.h → (colS p k u m i x).h = (colS p k u m i y).h
  | 0, _, _, _, e => e
  | m + 1, i, x, y, e => by
    unfold colS
    refine colS_h m (i + 1) _ _ ?_
    rw [e]
    by_cases h : y.h i k = 0
    · rw [if_pos h, if_pos h]; exact e
    · rw [if_neg h, if_neg h]; exact shS_h e
theorem stS_h {p n k : Nat} {x y : St} (e : x.h = y.h) : (stS p n k x).h = (stS p n k y).h := by
  unfold stS
  rw [exS_h (i := pvS x.h k (n - (k + 1)) (k + 1)) (k := k + 1) e, e]
  by_cases h : pvS y.h k (n - (k + 1)) (k + 1) = n
  · rw [if_pos h, if_pos h]; exact e
  · rw [if_neg h, if_neg h]; exact colS_h _ _ _ _ (exS_h e)
theorem rdS_h {p n : Nat} : ∀ m k (x y : St), x.h = y.h → (rdS p n m k x).h = (rdS p n m k y).h
  | 0, _, _, _, e => e
  | m + 1, k, x, y, e => by
    unfold rdS
    exact rdS_h m (k + 1) _ _ (stS_h e)
end
section
open Go.RowKit

theorem Mt.rdm {w : World} {g n : Nat} {bs : List Nat} {E : Mf} (h : Mt w g bs n E) (hb : bs.length = n) (hn : n ≤ 1000) : RdM w w.heap.size (some ⟨g, 0, none⟩) (mtab n n E) := by
  have := h.reads (by omega)
  rw [hb] at this
  exact this
theorem mtab_rows {n : Nat} {E : Mf} : ∀ r ∈ mtab n n E, r.length = n := fun r hr => by
  obtain ⟨i, hi, rfl⟩ := List.mem_iff_getElem.1 hr
  rw [mtab_at]; simp
theorem mtab_lt {p n : Nat} {E : Mf} (h : Lt p n n E) : ∀ r ∈ mtab n n E, ∀ x ∈ r, x < p := fun r hr x hx => by
  obtain ⟨i, hi, rfl⟩ := List.mem_map.1 hr
  obtain ⟨k, hk, rfl⟩ := List.mem_map.1 hx
  exact h i k (by simpa using hi) (by simpa using hk)
theorem mtab_cols {n : Nat} {E : Mf} (hn : 0 < n) : cols (mtab n n E) = n := by
  rw [cols_eq _ (by rw [mtab_length]; exact hn)]
  exact mtab_rows _ (List.getElem_mem _)
theorem Ft.mtab {p n : Nat} {E : Mf} (hp : Pr p) (hn : 0 < n) (h24 : n ≤ 24) : Ft p (mtab n n E) 0 :=
  .inr ⟨hp, .inr ⟨fun r hr => by rw [mtab_cols hn]; exact mtab_rows r hr, .inr ⟨by rw [mtab_length]; exact hn, by rw [mtab_length, mtab_cols hn], .inr ⟨rfl, by rw [mtab_length]; exact h24⟩⟩⟩⟩
theorem RdM.drewS {w : World} {A : Option Addr} {M : List (List Nat)} (h : RdM w w.heap.size A M) : RdM w.drew w.drew.heap.size A M := h.dr (Dr.refl w).drew
end
end Go.Proofs.YtbafiahmcfkboaaDoor
