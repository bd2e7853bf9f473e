/- The contracts of Trace, Det and Pow. Conditions: bases reads 2, 7, 61. The contracts of Reduce, Rank, Transpose and Mul. Conditions: bases reads 2, 7, 61. What elimination modulo a prime leaves: the reduced echelon form. Conditions: p a prime. Matrices and rows that grow by append. No conditions beyond the law's. -/
import Derived.Test.YtecdjanopiibcaaDoorPkD13
import Derived.Test.YtecdjanopiibcaaDoorPkD12
import Derived.Test.YtecdjanopiibcaaDoorPkD0
namespace Go.Proofs.YtecdjanopiibcaaDoor
section
open Go.RowKit

/-- What readSquare answers of what it does not take. -/
def SqErr (p : Nat) (A : Option Addr) (n c : Nat) (w : World) (code : Int) : Prop := ∀ W, Below w.heap.size w W → Calls Tryd.prog 38 #[.slice A n c, .int .u32 (p : Int)] W (ErrOf W code)
/-- The sum of the diagonal's first numbers. -/
def trcN (p : Nat) (M : List (List Nat)) : Nat → Nat
  | 0 => 0
  | k + 1 => plusN p (trcN p M k) (ent M k k) 1

set_option maxHeartbeats 800000 in
theorem trace_err (p : Nat) (A : Option Addr) (n c : Nat) (w : World) (code : Int) (hc : (code != 0) = true) (hr : SqErr p A n c w code) :
    Calls Tryd.prog 14 #[.slice A n c, .int .u32 (p : Int)] w fun e w' => e = .returned (.tuple #[.int .u32 0, .int .i64 code]) ∧ Below w.heap.size w w' := by
  have Hr := Lib.hid (hr w (Below.refl _ _))
  clear hr
  go_enter Tryd.func14, Tryd.ntmps14
  go_wp2_with (go_at_call 38; (with_reducible refine Hr.out.mono ?_); rintro e w1 ⟨rfl, hq⟩)
  go_ret2
  exact ⟨rfl, hq.alloc hq.size _⟩
set_option maxHeartbeats 800000 in
theorem det_err (p : Nat) (A : Option Addr) (n c : Nat) (w : World) (code : Int) (hc : (code != 0) = true) (hr : SqErr p A n c w code) :
    Calls Tryd.prog 15 #[.slice A n c, .int .u32 (p : Int)] w fun e w' => e = .returned (.tuple #[.int .u32 0, .int .i64 code]) ∧ Below w.heap.size w w' := by
  have Hr := Lib.hid (hr w (Below.refl _ _))
  clear hr
  go_enter Tryd.func15, Tryd.ntmps15
  go_wp2_with (go_at_call 38; (with_reducible refine Hr.out.mono ?_); rintro e w1 ⟨rfl, hq⟩)
  go_ret2
  exact ⟨rfl, hq.alloc hq.size _⟩
set_option maxHeartbeats 800000 in
theorem pow_err (p x : Nat) (A : Option Addr) (n c : Nat) (w : World) (code : Int) (hc : (code != 0) = true) (hr : SqErr p A n c w code) :
    Calls Tryd.prog 13 #[.slice A n c, .int .u64 (x : Int), .int .u32 (p : Int)] w fun e w' => e = .returned (.tuple #[.slice none 0 0, .int .i64 code]) ∧ Below w.heap.size w w' := by
  have Hr := Lib.hid (hr w (Below.refl _ _))
  clear hr
  go_enter Tryd.func13, Tryd.ntmps13
  go_wp2_with (go_at_call 38; (with_reducible refine Hr.out.mono ?_); rintro e w1 ⟨rfl, hq⟩)
  go_ret2
  exact ⟨rfl, hq.alloc hq.size _⟩

/-- What a call needs that takes one matrix. -/
structure Takes (p : Nat) (A : Option Addr) (c : Nat) (M : List (List Nat)) (w : World) (B : Nat) : Prop where
  pr : Pr p
  lt : p < 4294967296
  bas : Bases w
  rd : RdM w B A M
  le : B ≤ w.heap.size
  cap : M.length ≤ c
  sz : Sized M
  rect : Rect M
theorem Takes.below {p : Nat} {A : Option Addr} {c : Nat} {M : List (List Nat)} {w w' : World} {B : Nat} (h : Takes p A c M w B) (hb : Below w.heap.size w w') : Takes p A c M w' B :=
  ⟨h.pr, h.lt, h.bas.below hb h.bas.lt, h.rd.below (hb.mono h.le), Nat.le_trans h.le hb.size, h.cap, h.sz, h.rect⟩
theorem Takes.sq {p : Nat} {A : Option Addr} {c : Nat} {M : List (List Nat)} {w : World} {B : Nat} (h : Takes p A c M w B) (hs : Sq M) :
    Calls Tryd.prog 38 #[.slice A M.length c, .int .u32 (p : Int)] w fun e w' => ∃ g hs, e = .returned (.tuple #[fieldV p (spN p), .slice (some ⟨g, 0, none⟩) M.length M.length, .int .i64 0]) ∧ Own w' w.heap.size g hs (modN p M) ∧ UB w'.heap.size hs ∧ Below w.heap.size w w' :=
  readSquare_ok p A c M w B h.pr h.lt h.bas h.rd h.le h.cap h.sz h.rect hs

set_option maxHeartbeats 800000 in
theorem det_ok (p : Nat) (A : Option Addr) (c : Nat) (M : List (List Nat)) (w : World) (B : Nat) (h : Takes p A c M w B) (hs : Sq M) :
    Calls Tryd.prog 15 #[.slice A M.length c, .int .u32 (p : Int)] w fun e w' => e = .returned (.tuple #[.int .u32 (detN p (modN p M) : Int), .int .i64 0]) ∧ Below w.heap.size w w' := by
  have Hr := Lib.hid (h.sq hs)
  have hgd : Good p (modN p M).length (modN p M) := by rw [modN_length, hs.2]; exact modN_good h.pr.pos M
  have hml := modN_length p M
  have hrows := h.sz.rows
  obtain ⟨N, hN⟩ : ∃ N, N = modN p M := ⟨_, rfl⟩
  rw [← hN] at hgd hml Hr ⊢
  have H := Lib.hid h
  have Hml := Lib.hid hml
  have hnl : N.length ≤ 1099511627776 := by omega
  clear h hs hN hml
  go_enter Tryd.func15, Tryd.ntmps15
  go_wp2_with (go_at_call 38; (with_reducible refine Hr.out.mono ?_); rintro e w1 ⟨g, hs, rfl, ho, hu, hq⟩; rw [← Hml.out])
  have ho2 := ho.below ((Below.refl w1.heap.size w1).alloc (Nat.le_refl _) (.cells #[.int .u64 (p : Int), .int .u64 (spN p : Int)] 63)) (Nat.le_refl _)
  have hd := determinant_any p (spN p) (w1.alloc (.cells #[.int .u64 (p : Int), .int .u64 (spN p : Int)] 63)) _ w.heap.size g N.length hs N H.out.pr H.out.lt (H.out.bas.below (hq.alloc hq.size _) H.out.bas.lt) H.out.bas.lt ho2 (hu.mono (by simp)) (Nat.le_trans hq.size (by simp)) rfl hgd hnl (Nat.le_refl _)
  refine hd.mono ?_
  rintro e w2 ⟨rfl, hq2⟩
  go_wp2_with fail
  go_ret2
  exact ⟨rfl, (hq.alloc hq.size _).trans hq2⟩

set_option maxHeartbeats 1600000 in
theorem trace_ok (p : Nat) (A : Option Addr) (c : Nat) (M : List (List Nat)) (w : World) (B : Nat) (h : Takes p A c M w B) (hs : Sq M) :
    Calls Tryd.prog 14 #[.slice A M.length c, .int .u32 (p : Int)] w fun e w' => e = .returned (.tuple #[.int .u32 (trcN p (modN p M) M.length : Int), .int .i64 0]) ∧ Below w.heap.size w w' := by
  have Hr := Lib.hid (h.sq hs)
  have hgd : Good p M.length (modN p M) := by rw [hs.2]; exact modN_good h.pr.pos M
  have hml := modN_length p M
  have hrows := h.sz.rows
  have hp0 := h.pr.pos
  have hp1 := h.pr.1
  have hplt := h.lt
  obtain ⟨N, hN⟩ : ∃ N, N = modN p M := ⟨_, rfl⟩
  rw [← hN] at hgd hml Hr ⊢
  have Hml := Lib.hid hml
  obtain ⟨R, hR⟩ : ∃ R, R = trcN p N M.length := ⟨_, rfl⟩
  rw [← hR]
  have HR := Lib.hid hR
  have hlt : ∀ k, trcN p N k < p := fun k => by
    cases k with
    | zero => exact hp0
    | succ k => exact plusN_lt hp0 _ _ _
  have Hlt : Hid (∀ k, trcN p N k < p) := hlt
  obtain ⟨n, hn⟩ : ∃ n, n = M.length := ⟨_, rfl⟩
  rw [← hn] at Hr hgd Hml hrows HR ⊢
  obtain ⟨sp, hsp⟩ : ∃ sp, sp = spN p := ⟨_, rfl⟩
  rw [← hsp] at Hr
  clear h hs hN hml hR hlt hn hsp
  go_enter Tryd.func14, Tryd.ntmps14
  go_wp2_with (go_at_call 38; (with_reducible refine Hr.out.mono ?_); rintro e w1 ⟨g, hs, rfl, ho, hu, hq⟩)
  obtain ⟨W0, hW0⟩ : ∃ W0, W0 = w1.alloc (.cells #[.int .u64 (p : Int), .int .u64 (sp : Int)] 63) := ⟨_, rfl⟩
  rw [← hW0]
  obtain ⟨U, hU⟩ : ∃ U, U = w1.heap.size := ⟨_, rfl⟩
  rw [← hU]
  have hb01 : Below w1.heap.size w1 W0 := by rw [hW0]; exact (Below.refl _ _).alloc (Nat.le_refl _) _
  have hbf : Blk W0 U 63 [.int .u64 (p : Int), .int .u64 (sp : Int)] := by rw [hW0, hU]; exact Blk.new_ rfl
  have ho0 := ho.below hb01 (Nat.le_refl _)
  have hbel0 : Below w.heap.size w W0 := hq.trans (hb01.mono hq.size)
  have hqs := hq.size
  clear hW0 hb01 ho hu hq hU
  go_loopw [8, 22] (fun sv iv wr => ∃ k : Nat, k ≤ n ∧ iv = .int .i64 (k : Int) ∧ sv = .int .u32 (trcN p N k : Int) ∧ Below W0.heap.size W0 wr) (fun _ iv _ => n - (intOf iv).toNat)
  case atStart => exact ⟨0, by omega, rfl, rfl, Below.refl _ _⟩
  case round =>
    obtain ⟨k, hk, rfl, rfl, hbel⟩ := hrel
    by_cases hkn : k < n
    · have hkN : k < N.length := by rw [Hml.out]; exact hkn
      have how := ho0.below hbel (Nat.le_refl _)
      have hbw := hbf.below hbel hbf.lt
      obtain ⟨hhd, _⟩ := how.head hkN
      have hkk : k < N[k].length := by rw [hgd.len hkN]; exact hkn
      obtain ⟨gi, rest, e1, h2, h3, h4, h5⟩ := how.at_ hkN hkk
      rw [e1, hgd.len hkN] at hhd
      have hue := ent_at hkN hkk
      have c4 : wr.cell? ⟨gi, k, none⟩ = some (.int .u32 (ent N k k : Int)) := by
        rw [h4.cell, List.getElem?_append_left (by rw [u32s_length]; exact hkk), u32s_at hkk, ← hue]
      have hul := hgd.ent_lt hp0 k k
      have htl := Hlt.out k
      have hst : trcN p N (k + 1) = plusN p (trcN p N k) (ent N k k) 1 := rfl
      have hpl : Hid (∀ W, Calls Tryd.prog 41 #[fieldV p sp, .int .u32 (trcN p N k : Int), .int .u32 (ent N k k : Int), .int .u32 1] W fun e w' => e = .returned (.int .u32 (trcN p N (k + 1) : Int)) ∧ Below W.heap.size W w') := fun W => by
        rw [hst]; exact plus_any p sp (trcN p N k) (ent N k k) 1 W hp0 hplt (by omega) (by omega) (by omega)
      obtain ⟨t1, ht1⟩ : ∃ t1, t1 = trcN p N k := ⟨_, rfl⟩
      obtain ⟨t2, ht2⟩ : ∃ t2, t2 = trcN p N (k + 1) := ⟨_, rfl⟩
      obtain ⟨x, hx⟩ : ∃ x, x = ent N k k := ⟨_, rfl⟩
      rw [← hx] at c4 hul hpl
      rw [← ht1, ← ht2] at hpl
      rw [← ht1] at htl ⊢
      have Ht2 := Lib.hid ht2
      have c5 := hbw.cell 0
      have c6 := hbw.cell 1
      clear hst ht1 ht2 hx hue e1 h4 h5
      go_upto_region 8 with (fail)
      go_still_tail 9, (by kernel_rfl)
      change wpList _ _ _ _ _ wr.drew
      go_wp2_with (go_at_call 41; (with_reducible refine (hpl.out _).mono ?_); rintro e w2 ⟨rfl, hq⟩)
      go_roundw
      case rel => exact ⟨k + 1, by omega, by go_num, by rw [Ht2.out], hbel.drew.trans (hq.mono (by have := hbel.size; simpa using this))⟩
      case measure => simp [intOf]; omega
    · have hkn2 : k = n := by omega
      have HR2 : Hid (trcN p N k = R) := by show _ = _; rw [HR.out, hkn2]
      have hge : n ≤ k := by omega
      clear hkn2
      go_wp2_with fail
      go_ret2
      exact ⟨by rw [← HR2.out]; rfl, hbel0.trans (hbel.mono hbel0.size)⟩

/-- The power by squaring. -/
def powN (p : Nat) (o m : List (List Nat)) (e : Nat) : List (List Nat) := if e = 0 then o else powN p (if e % 2 = 1 then mulN p o m else o) (mulN p m m) (e / 2)
termination_by e
decreasing_by omega
theorem powN_zero (p : Nat) (o m : List (List Nat)) : powN p o m 0 = o := by rw [powN]; simp
theorem powN_step (p : Nat) (o m : List (List Nat)) {e : Nat} (h : e ≠ 0) : powN p o m e = powN p (if e % 2 = 1 then mulN p o m else o) (mulN p m m) (e / 2) := by
  conv => lhs; rw [powN]
  rw [if_neg h]
theorem mulN_length (p : Nat) (A B : List (List Nat)) : (mulN p A B).length = A.length := mtab_length _ _ _
theorem mulN_good {p : Nat} (hp : 0 < p) (A B : List (List Nat)) : Good p (cols B) (mulN p A B) := mtab_good fun _ _ _ _ => Nat.mod_lt _ hp
/-- A square one of n rows below p. -/
structure Sqr (p n : Nat) (M : List (List Nat)) : Prop where
  good : Good p n M
  len : M.length = n
theorem Sqr.cols {p n : Nat} {M : List (List Nat)} (h : Sqr p n M) (hn : 0 < n) : cols M = n := by
  rw [cols_eq M (by rw [h.len]; exact hn)]; exact h.good.len _
theorem Sqr.rect {p n : Nat} {M : List (List Nat)} (h : Sqr p n M) (hn : 0 < n) : Rect M := fun r hr => by rw [h.cols hn]; exact h.good.wid r hr
theorem Sqr.dig {p n : Nat} {M : List (List Nat)} (h : Sqr p n M) (hp : p < 4294967296) : DigM 4294967296 M := fun r hr x hx => Nat.lt_trans (h.good.dig r hr x hx) hp
theorem Sqr.mul_ {p n : Nat} {A B : List (List Nat)} (ha : Sqr p n A) (hb : Sqr p n B) (hn : 0 < n) (hp : 0 < p) : Sqr p n (mulN p A B) :=
  ⟨by have := mulN_good hp A B; rwa [hb.cols hn] at this, by rw [mulN_length, ha.len]⟩
theorem idN_sqr {p n : Nat} (hp : 1 < p) : Sqr p n (idN n) := ⟨mtab_good fun i k _ _ => by split <;> omega, mtab_length _ _ _⟩
theorem modN_sqr {p : Nat} (hp : 0 < p) {M : List (List Nat)} (hs : Sq M) : Sqr p M.length (modN p M) := ⟨by rw [hs.2]; exact modN_good hp M, modN_length p M⟩

set_option maxHeartbeats 1600000 in
theorem pow_ok (p x : Nat) (A : Option Addr) (c : Nat) (M : List (List Nat)) (w : World) (B : Nat) (h : Takes p A c M w B) (hs : Sq M) (hx : x < 18446744073709551616) :
    Calls Tryd.prog 13 #[.slice A M.length c, .int .u64 (x : Int), .int .u32 (p : Int)] w fun e w' => ∃ A', e = .returned (.tuple #[.slice A' M.length M.length, .int .i64 0]) ∧ RdM w' w'.heap.size A' (powN p (idN M.length) (modN p M) x) ∧ (powN p (idN M.length) (modN p M) x).length = M.length ∧ Below w.heap.size w w' := by
  have Hr := Lib.hid (h.sq hs)
  have hsq := modN_sqr h.pr.pos hs
  have hrows := h.sz.rows
  have hp0 := h.pr.pos
  have hp1 := h.pr.1
  have hplt := h.lt
  have hnn := hs.1
  obtain ⟨N, hN⟩ : ∃ N, N = modN p M := ⟨_, rfl⟩
  rw [← hN] at hsq Hr ⊢
  obtain ⟨n, hn⟩ : ∃ n, n = M.length := ⟨_, rfl⟩
  rw [← hn] at Hr hsq hrows hnn ⊢
  obtain ⟨R, hR⟩ : ∃ R, R = powN p (idN n) N x := ⟨_, rfl⟩
  rw [← hR]
  have HR := Lib.hid hR
  have Hsp : Hid (spN p = 18446744073709551616 % p) := rfl
  obtain ⟨sp, hsp⟩ : ∃ sp, sp = spN p := ⟨_, rfl⟩
  rw [← hsp] at Hr Hsp
  clear h hs hN hR hn hsp
  go_enter Tryd.func13, Tryd.ntmps13
  go_wp2_with (first | (go_at_call 38; (with_reducible refine Hr.out.mono ?_); rintro e w1 ⟨g, hs, rfl, ho, hu, hq⟩) | (go_at_call 39; (with_reducible refine (identity_any n _ (by omega)).mono ?_); rintro e w2 ⟨g2, hs2, rfl, ho2, hu2, hq2⟩))
  have hb01 := bel1 hq2
  have hbf : Blk w2 w1.heap.size 63 [.int .u64 (p : Int), .int .u64 (sp : Int)] := by
    have h1 : Blk (w1.alloc (.cells #[.int .u64 (p : Int), .int .u64 (sp : Int)] 63)) w1.heap.size 63 [.int .u64 (p : Int), .int .u64 (sp : Int)] := Blk.new_ rfl
    exact h1.below hq2 (by simp)
  have hrN : RdM w2 w2.heap.size (some ⟨g, 0, none⟩) N := (ho.below hb01 (Nat.le_refl _)).rd
  have hrI : RdM w2 w2.heap.size (some ⟨g2, 0, none⟩) (idN n) := ho2.rd
  have hbel0 : Below w.heap.size w w2 := hq.trans (hb01.mono hq.size)
  have hid := idN_sqr (p := p) (n := n) hp1
  obtain ⟨U, hU⟩ : ∃ U, U = w1.heap.size := ⟨_, rfl⟩
  rw [← hU] at hbf ⊢
  clear hq ho hu hq2 ho2 hu2 hb01 hU
  go_loopw [0, 1, 10] (fun mv ev ov wr => ∃ (m o : List (List Nat)) (y : Nat) (Am Ao : Option Addr), y < 18446744073709551616 ∧ mv = .slice Am n n ∧ ev = .int .u64 (y : Int) ∧ ov = .slice Ao n n ∧ Sqr p n m ∧ Sqr p n o ∧ RdM wr wr.heap.size Am m ∧ RdM wr wr.heap.size Ao o ∧ Hid (powN p o m y = R) ∧ Below w2.heap.size w2 wr) (fun _ ev _ _ => (intOf ev).toNat)
  case atStart => exact ⟨N, idN n, x, _, _, hx, rfl, rfl, rfl, hsq, hid, hrN, hrI, by show _ = _; rw [HR.out], Below.refl _ _⟩
  case round =>
    clear hrN hrI hid hsq
    obtain ⟨m, o, y, Am, Ao, hy, rfl, rfl, rfl, hm, ho, hrm, hro, Hrel, hbel⟩ := hrel
    by_cases hy0 : y = 0
    · have hRo : Hid (o = R) := by show _ = _; rw [← Hrel.out, hy0, powN_zero]
      have t0 : ¬ (0 < y) := by omega
      clear hy0
      go_wp2_with fail
      go_ret2
      exact ⟨Ao, rfl, by rw [← hRo.out]; exact hro, by rw [← hRo.out]; exact ho.len, hbel0.trans (hbel.mono hbel0.size)⟩
    · have hbw := hbf.below hbel hbf.lt
      have hst := powN_step p o m hy0
      rw [Hrel.out] at hst
      have Hst := Lib.hid hst
      obtain ⟨z, hz⟩ : ∃ z, z = y / 2 := ⟨_, rfl⟩
      rw [← hz] at Hst
      have t1 : (y : Int) / 2 = (z : Int) := by omega
      have hzl : z < y := by omega
      have c5 := hbw.cell 0
      have c6 := hbw.cell 1
      have hUl := hbw.lt
      have Hm2 : Hid (∀ W, Below wr.heap.size wr W → Calls Tryd.prog 40 #[fieldV p sp, .slice Am n n, .slice Am n n] W fun e w' => ∃ g hs, e = .returned (.slice (some ⟨g, 0, none⟩) n n) ∧ Own w' W.heap.size g hs (mulN p m m) ∧ UB w'.heap.size hs ∧ Below W.heap.size W w') := fun W hW => by
        have h9 := product_any p sp Am Am n n m m W wr.heap.size hp0 hplt Hsp.out (hrm.below hW) (hrm.below hW) hW.size (by rw [hm.cols hnn, hm.len]) (hm.rect hnn) (hm.rect hnn) (hm.dig hplt) (hm.dig hplt) (by rw [hm.len]; exact Nat.le_refl _) (by rw [hm.len]; exact Nat.le_refl _) (by rw [hm.len]; omega) (by rw [hm.len]; omega) (by rw [hm.cols hnn]; omega)
        rw [hm.len] at h9
        exact h9
      have hm2 := hm.mul_ hm hnn hp0
      by_cases hc : y % 2 = 1
      · rw [if_pos hc] at Hst
        have t2 : ((y : Int) % 2 == 1) = true := by simp; omega
        have Ho2 : Hid (∀ W, Below wr.heap.size wr W → Calls Tryd.prog 40 #[fieldV p sp, .slice Ao n n, .slice Am n n] W fun e w' => ∃ g hs, e = .returned (.slice (some ⟨g, 0, none⟩) n n) ∧ Own w' W.heap.size g hs (mulN p o m) ∧ UB w'.heap.size hs ∧ Below W.heap.size W w') := fun W hW => by
          have h9 := product_any p sp Ao Am n n o m W wr.heap.size hp0 hplt Hsp.out (hro.below hW) (hrm.below hW) hW.size (by rw [ho.cols hnn, hm.len]) (ho.rect hnn) (hm.rect hnn) (ho.dig hplt) (hm.dig hplt) (by rw [ho.len]; exact Nat.le_refl _) (by rw [hm.len]; exact Nat.le_refl _) (by rw [ho.len]; omega) (by rw [hm.len]; omega) (by rw [hm.cols hnn]; omega)
          rw [hm.len, ho.len] at h9
          exact h9
        have ho2 := ho.mul_ hm hnn hp0
        clear hc hst hz hm hrm hro ho
        go_upto_region 9 with (go_at_call 40; (with_reducible refine (Ho2.out _ (Below.refl _ _)).mono ?_); rintro e w3 ⟨g3, hs3, rfl, hw3, hu3, hq3⟩)
        have c53 := (hq3.cell (p := ⟨U, 0, none⟩) hUl).trans c5
        have c63 := (hq3.cell (p := ⟨U, 1, none⟩) hUl).trans c6
        go_wp2_with (go_at_call 40; (with_reducible refine (Hm2.out _ hq3).mono ?_); rintro e w4 ⟨g4, hs4, rfl, hw4, hu4, hq4⟩)
        go_roundw
        case rel => exact ⟨mulN p m m, mulN p o m, z, _, _, by omega, rfl, rfl, rfl, hm2, ho2, hw4.rd, (hw3.below hq4 (Nat.le_refl _)).rd, Hst.out.symm, hbel.trans ((hq3.trans (hq4.mono hq3.size)).mono hbel.size)⟩
        case measure => simp [intOf]; omega
      · rw [if_neg hc] at Hst
        have t2 : ((y : Int) % 2 == 1) = false := by simp; omega
        clear hc hst hz
        go_wp2_with (go_at_call 40; (with_reducible refine (Hm2.out _ (Below.refl _ _)).mono ?_); rintro e w4 ⟨g4, hs4, rfl, hw4, hu4, hq4⟩)
        go_roundw
        case rel => exact ⟨mulN p m m, o, z, _, _, by omega, rfl, rfl, rfl, hm2, ho, hw4.rd, (hro.below hq4).mono hq4.size, Hst.out.symm, hbel.trans (hq4.mono hbel.size)⟩
        case measure => simp [intOf]; omega
end
section
open Go.RowKit

/-- What read answers of one that it does not take. -/
def RdErr (p : Nat) (A : Option Addr) (n c : Nat) (w : World) (code : Int) : Prop := ∀ W q, Blk W q 26 [.slice A n c] → Below w.heap.size w W → Calls Tryd.prog 49 #[.int .u32 (p : Int), .slice (some ⟨q, 0, none⟩) 1 1] W (ErrOf W code)
theorem rdErr_prime {p : Nat} {A : Option Addr} {n c : Nat} {w : World} (hpr : ¬ Pr p) (hp : p < 4294967296) (hw : Bases w) : RdErr p A n c w 40 := fun W _ _ hW => read_prime p _ 1 1 W hpr hp (hw.below hW hw.lt)
theorem rdErr_shape {p : Nat} {A : Option Addr} {c : Nat} {M : List (List Nat)} {w : World} {B : Nat} (hpr : Pr p) (hp : p < 4294967296) (hw : Bases w) (hr : RdM w B A M) (hB : B ≤ w.heap.size) (hc : M.length ≤ c) (hs : Sized M) (hrect : ¬ Rect M) : RdErr p A M.length c w 2 :=
  fun W q hb hW => read_one_bad p A c q M W B hpr hp (hw.below hW hw.lt) hb (hr.below (hW.mono hB)) (Nat.le_trans hB hW.size) hc hs hrect
theorem sqErr_prime {p : Nat} {A : Option Addr} {n c : Nat} {w : World} (hpr : ¬ Pr p) (hp : p < 4294967296) (hw : Bases w) : SqErr p A n c w 40 := fun W hW => readSquare_prime p A n c W hpr hp (hw.below hW hw.lt)
theorem sqErr_shape {p : Nat} {A : Option Addr} {c : Nat} {M : List (List Nat)} {w : World} {B : Nat} (hpr : Pr p) (hp : p < 4294967296) (hw : Bases w) (hr : RdM w B A M) (hB : B ≤ w.heap.size) (hc : M.length ≤ c) (hs : Sized M) (hrect : ¬ Rect M) : SqErr p A M.length c w 2 :=
  fun W hW => readSquare_shape p A c M W B hpr hp (hw.below hW hw.lt) (hr.below (hW.mono hB)) (Nat.le_trans hB hW.size) hc hs hrect
theorem sqErr_not {p : Nat} {A : Option Addr} {c : Nat} {M : List (List Nat)} {w : World} {B : Nat} (h : Takes p A c M w B) (hsq : ¬ Sq M) : SqErr p A M.length c w 3 :=
  fun W hW => by have h2 := h.below hW; exact readSquare_not p A c M W B h2.pr h2.lt h2.bas h2.rd h2.le h2.cap h2.sz h2.rect hsq

theorem RdErr.list {p : Nat} {A : Option Addr} {n c : Nat} {w : World} {code : Int} (h : RdErr p A n c w code) : Calls Tryd.prog 49 #[.int .u32 (p : Int), .slice (some ⟨w.heap.size, 0, none⟩) 1 1] (w.alloc (.cells #[.slice A n c] 26)) fun e w' => e = .returned (.tuple #[.agg #[.int .u64 0, .int .u64 0], .slice none 0 0, .int .i64 code]) ∧ Below w.heap.size w w' :=
  (h _ _ (Blk.new_ rfl) ((Below.refl _ _).alloc (Nat.le_refl _) _)).mono fun _ _ ⟨h1, h2⟩ => ⟨h1, bel1 h2⟩
/-- read of one matrix, as the callers call it. -/
theorem Takes.list {p : Nat} {A : Option Addr} {c : Nat} {M : List (List Nat)} {w : World} {B : Nat} (h : Takes p A c M w B) :
    Calls Tryd.prog 49 #[.int .u32 (p : Int), .slice (some ⟨w.heap.size, 0, none⟩) 1 1] (w.alloc (.cells #[.slice A M.length c] 26)) fun e w' => ∃ gl g hs, e = .returned (.tuple #[fieldV p (spN p), .slice (some ⟨gl, 0, none⟩) 1 1, .int .i64 0]) ∧ w.heap.size < gl ∧ Blk w' gl 26 [hdrM g M] ∧ Own w' (gl + 1) g hs (modN p M) ∧ UB w'.heap.size hs ∧ Below w.heap.size w w' := by
  have hb : Below w.heap.size w (w.alloc (.cells #[.slice A M.length c] 26)) := (Below.refl _ _).alloc (Nat.le_refl _) _
  have h2 := h.below hb
  refine (read_one_ok p A c w.heap.size M _ B h2.pr h2.lt h2.bas (Blk.new_ rfl) h2.rd h2.le h2.cap h2.sz h2.rect).mono ?_
  rintro e w' ⟨gl, g, hs, h1, h3, h4, h5, h6, h7⟩
  exact ⟨gl, g, hs, h1, by simp at h3; omega, h4, h5, h6, bel1 h7⟩

set_option maxHeartbeats 800000 in
theorem reduceA_err (p : Nat) (A : Option Addr) (n c : Nat) (w : World) (code : Int) (hc : (code != 0) = true) (hr : RdErr p A n c w code) :
    Calls Tryd.prog 23 #[.slice A n c, .int .u32 (p : Int)] w fun e w' => e = .returned (.tuple #[.slice none 0 0, .slice none 0 0, .int .i64 code]) ∧ Below w.heap.size w w' := by
  have Hr := Lib.hid hr.list
  clear hr
  go_enter Tryd.func23, Tryd.ntmps23
  go_wp2_with (go_at_call 49; (with_reducible refine Hr.out.mono ?_); rintro e w1 ⟨rfl, hq⟩)
  go_ret3
  exact ⟨rfl, hq.alloc hq.size _⟩
set_option maxHeartbeats 800000 in
theorem rank_err (p : Nat) (A : Option Addr) (n c : Nat) (w : World) (code : Int) (hc : (code != 0) = true) (hr : RdErr p A n c w code) :
    Calls Tryd.prog 24 #[.slice A n c, .int .u32 (p : Int)] w fun e w' => e = .returned (.tuple #[.int .i64 0, .int .i64 code]) ∧ Below w.heap.size w w' := by
  have Hr := Lib.hid hr.list
  clear hr
  go_enter Tryd.func24, Tryd.ntmps24
  go_wp2_with (go_at_call 49; (with_reducible refine Hr.out.mono ?_); rintro e w1 ⟨rfl, hq⟩)
  go_ret2
  exact ⟨rfl, hq.alloc hq.size _⟩
set_option maxHeartbeats 800000 in
theorem transposeA_err (p : Nat) (A : Option Addr) (n c : Nat) (w : World) (code : Int) (hc : (code != 0) = true) (hr : RdErr p A n c w code) :
    Calls Tryd.prog 35 #[.slice A n c, .int .u32 (p : Int)] w fun e w' => e = .returned (.tuple #[.slice none 0 0, .int .i64 code]) ∧ Below w.heap.size w w' := by
  have Hr := Lib.hid hr.list
  clear hr
  go_enter Tryd.func35, Tryd.ntmps35
  go_wp2_with (go_at_call 49; (with_reducible refine Hr.out.mono ?_); rintro e w1 ⟨rfl, hq⟩)
  go_ret2
  exact ⟨rfl, hq.alloc hq.size _⟩
set_option maxHeartbeats 800000 in
theorem kernelA_err (p : Nat) (A : Option Addr) (n c : Nat) (w : World) (code : Int) (hc : (code != 0) = true) (hr : RdErr p A n c w code) :
    Calls Tryd.prog 25 #[.slice A n c, .int .u32 (p : Int)] w fun e w' => e = .returned (.tuple #[.slice none 0 0, .int .i64 code]) ∧ Below w.heap.size w w' := by
  have Hr := Lib.hid hr.list
  clear hr
  go_enter Tryd.func25, Tryd.ntmps25
  go_wp2_with (go_at_call 49; (with_reducible refine Hr.out.mono ?_); rintro e w1 ⟨rfl, hq⟩)
  go_ret2
  exact ⟨rfl, hq.alloc hq.size _⟩

theorem redN_ok {p : Nat} {M : List (List Nat)} (hp : 0 < p) : RedOk p (cols M) M.length (redN p (modN p M)) := by
  have h := redTo_ok (M := modN p M) (modN_good hp M) hp (cols (modN p M))
  rw [modN_length] at h
  exact h

set_option maxHeartbeats 1600000 in
theorem reduceA_ok (p : Nat) (A : Option Addr) (c : Nat) (M : List (List Nat)) (w : World) (B : Nat) (h : Takes p A c M w B) :
    Calls Tryd.prog 23 #[.slice A M.length c, .int .u32 (p : Int)] w fun e w' => ∃ A1 A2 c2, e = .returned (.tuple #[.slice A1 M.length M.length, .slice A2 (redN p (modN p M)).2.length c2, .int .i64 0]) ∧ RdM w' w'.heap.size A1 (redN p (modN p M)).1 ∧ Rd w' w'.heap.size A2 (ints (redN p (modN p M)).2) ∧ (redN p (modN p M)).2.length ≤ c2 ∧ Below w.heap.size w w' := by
  have Hr := Lib.hid h.list
  have hok := redN_ok (M := M) h.pr.pos
  have hgd := modN_good h.pr.pos M
  have hml := modN_length p M
  have hmc := modN_cols p M
  rw [← hmc] at hgd
  have H := Lib.hid h
  have hrows := h.sz.rows
  have hwid := h.sz.wid
  have hNl : (modN p M).length ≤ 1099511627776 := by omega
  have hNc : cols (modN p M) ≤ 70368744177664 := by omega
  unfold hdrM at Hr
  obtain ⟨N, hN⟩ : ∃ N, N = modN p M := ⟨_, rfl⟩
  rw [← hN] at Hr hok hgd hml hNl hNc ⊢
  have Hml := Lib.hid hml
  obtain ⟨sp, hsp⟩ : ∃ sp, sp = spN p := ⟨_, rfl⟩
  rw [← hsp] at Hr
  have hwl := h.bas.lt
  clear h hN hml hmc hsp
  go_enter Tryd.func23, Tryd.ntmps23
  go_wp2_with (go_at_call 49; (with_reducible refine Hr.out.mono ?_); rintro e w1 ⟨gl, g, hs, rfl, hgl, hbl, ho, hu, hq⟩)
  obtain ⟨W0, hW0⟩ : ∃ W0, W0 = w1.alloc (.cells #[.int .u64 (p : Int), .int .u64 (sp : Int)] 63) := ⟨_, rfl⟩
  rw [← hW0]
  obtain ⟨U, hU⟩ : ∃ U, U = w1.heap.size := ⟨_, rfl⟩
  rw [← hU]
  have hb01 : Below w1.heap.size w1 W0 := by rw [hW0]; exact (Below.refl _ _).alloc (Nat.le_refl _) _
  have hbf : Blk W0 U 63 [.int .u64 (p : Int), .int .u64 (sp : Int)] := by rw [hW0, hU]; exact Blk.new_ rfl
  have ho0 := ho.below hb01 (Nat.le_refl _)
  have hbl0 := hbl.below hb01 hbl.lt
  have hbel0 : Below w.heap.size w W0 := hq.trans (hb01.mono hq.size)
  have hu0 : UB U hs := by rw [hU]; exact hu
  have hgU : g < U := by rw [hU]; exact ho.lt
  have hUW : U < W0.heap.size := hbf.lt
  have hgl0 := hbl0.lt
  have c0 := hbl0.cell0
  have c5 := hbf.cell 0
  have c6 := hbf.cell 1
  have Hred : Hid (∀ W, Dr W0 W → Calls Tryd.prog 50 #[fieldV p sp, .slice (some ⟨g, 0, none⟩) M.length M.length] W fun e w' => ∃ A' c' hs', e = .returned (.slice A' (redN p N).2.length c') ∧ Ro w' (W0.heap.size + 1) 3 (.slice A' (redN p N).2.length c') (ints (redN p N).2) ∧ Own w' (gl + 1) g hs' (redN p N).1 ∧ UB U hs' ∧ Below (gl + 1) W0 w' ∧ Mid U W0.heap.size W0 w') := fun W hW => by
    have hWs : W.heap.size = W0.heap.size := by rw [hW.heap]
    have h9 := reduce_any p sp W U W0.heap.size (gl + 1) g M.length hs N H.out.pr H.out.lt ((H.out.bas.below hbel0 hwl).dr hW) (by omega) (ho0.dr hW) hu0 hgU (by rw [hWs]; exact Nat.le_of_lt hUW) (by omega) hWs.symm hgd hNl (by rw [Hml.out]; exact Nat.le_refl _) hNc
    rw [Hml.out] at h9
    refine h9.mono ?_
    rintro e w' ⟨A', c', hs', h1, h2, h3, h4, h5, h6⟩
    refine ⟨A', c', hs', h1, h2, h3, h4, (hW.below _).trans h5, fun k a b => ?_⟩
    rw [h6 k a b, hW.heap]
  have Hok := Lib.hid hok
  obtain ⟨R1, hR1⟩ : ∃ R1, R1 = (redN p N).1 := ⟨_, rfl⟩
  obtain ⟨R2, hR2⟩ : ∃ R2, R2 = (redN p N).2 := ⟨_, rfl⟩
  rw [← hR2, ← hR1] at Hred
  clear hb01 ho hbl hu hq hW0 hU hok hgd ho0 hbf
  go_upto_region 4 with (fail)
  go_still_tail 4, (by kernel_rfl)
  change wpList _ _ _ _ _ W0.drew
  go_upto_region 5 with (go_at_call 50; (with_reducible refine (Hred.out W0.drew (Dr.refl _).drew).mono ?_); rintro e w2 ⟨A2, c2, hs2, rfl, hro, ho2, hu2, hq2, hmd2⟩)
  have c02 := (hq2.cell (p := ⟨gl, 0, none⟩) (show gl < gl + 1 by omega)).trans c0
  go_wp2_with fail
  go_ret3
  obtain ⟨h1, h2, h3⟩ := hro.rd
  refine ⟨_, A2, c2, by rw [← hR2]; rfl, by rw [← hR1]; exact ho2.rd, by rw [← hR2]; exact h3, ?_, hbel0.trans (hq2.mono (by omega))⟩
  rw [← hR2]
  rw [ints_length] at h2; exact h2

set_option maxHeartbeats 1600000 in
theorem rank_ok (p : Nat) (A : Option Addr) (c : Nat) (M : List (List Nat)) (w : World) (B : Nat) (h : Takes p A c M w B) :
    Calls Tryd.prog 24 #[.slice A M.length c, .int .u32 (p : Int)] w fun e w' => e = .returned (.tuple #[.int .i64 ((redN p (modN p M)).2.length : Int), .int .i64 0]) ∧ Below w.heap.size w w' := by
  have Hr := Lib.hid h.list
  have hok := redN_ok (M := M) h.pr.pos
  have hgd := modN_good h.pr.pos M
  have hml := modN_length p M
  have hmc := modN_cols p M
  rw [← hmc] at hgd
  have H := Lib.hid h
  have hrows := h.sz.rows
  have hwid := h.sz.wid
  have hNl : (modN p M).length ≤ 1099511627776 := by omega
  have hNc : cols (modN p M) ≤ 70368744177664 := by omega
  unfold hdrM at Hr
  obtain ⟨N, hN⟩ : ∃ N, N = modN p M := ⟨_, rfl⟩
  rw [← hN] at Hr hok hgd hml hNl hNc ⊢
  have Hml := Lib.hid hml
  obtain ⟨sp, hsp⟩ : ∃ sp, sp = spN p := ⟨_, rfl⟩
  rw [← hsp] at Hr
  have hwl := h.bas.lt
  clear h hN hml hmc hsp
  go_enter Tryd.func24, Tryd.ntmps24
  go_wp2_with (go_at_call 49; (with_reducible refine Hr.out.mono ?_); rintro e w1 ⟨gl, g, hs, rfl, hgl, hbl, ho, hu, hq⟩)
  obtain ⟨W0, hW0⟩ : ∃ W0, W0 = w1.alloc (.cells #[.int .u64 (p : Int), .int .u64 (sp : Int)] 63) := ⟨_, rfl⟩
  rw [← hW0]
  obtain ⟨U, hU⟩ : ∃ U, U = w1.heap.size := ⟨_, rfl⟩
  rw [← hU]
  have hb01 : Below w1.heap.size w1 W0 := by rw [hW0]; exact (Below.refl _ _).alloc (Nat.le_refl _) _
  have hbf : Blk W0 U 63 [.int .u64 (p : Int), .int .u64 (sp : Int)] := by rw [hW0, hU]; exact Blk.new_ rfl
  have ho0 := ho.below hb01 (Nat.le_refl _)
  have hbl0 := hbl.below hb01 hbl.lt
  have hbel0 : Below w.heap.size w W0 := hq.trans (hb01.mono hq.size)
  have hu0 : UB U hs := by rw [hU]; exact hu
  have hgU : g < U := by rw [hU]; exact ho.lt
  have hUW : U < W0.heap.size := hbf.lt
  have hgl0 := hbl0.lt
  have c0 := hbl0.cell0
  have c5 := hbf.cell 0
  have c6 := hbf.cell 1
  have Hred : Hid (∀ W, Dr W0 W → Calls Tryd.prog 50 #[fieldV p sp, .slice (some ⟨g, 0, none⟩) M.length M.length] W fun e w' => ∃ A' c' hs', e = .returned (.slice A' (redN p N).2.length c') ∧ Ro w' (W0.heap.size + 1) 3 (.slice A' (redN p N).2.length c') (ints (redN p N).2) ∧ Own w' (gl + 1) g hs' (redN p N).1 ∧ UB U hs' ∧ Below (gl + 1) W0 w' ∧ Mid U W0.heap.size W0 w') := fun W hW => by
    have hWs : W.heap.size = W0.heap.size := by rw [hW.heap]
    have h9 := reduce_any p sp W U W0.heap.size (gl + 1) g M.length hs N H.out.pr H.out.lt ((H.out.bas.below hbel0 hwl).dr hW) (by omega) (ho0.dr hW) hu0 hgU (by rw [hWs]; exact Nat.le_of_lt hUW) (by omega) hWs.symm hgd hNl (by rw [Hml.out]; exact Nat.le_refl _) hNc
    rw [Hml.out] at h9
    refine h9.mono ?_
    rintro e w' ⟨A', c', hs', h1, h2, h3, h4, h5, h6⟩
    refine ⟨A', c', hs', h1, h2, h3, h4, (hW.below _).trans h5, fun k a b => ?_⟩
    rw [h6 k a b, hW.heap]
  have Hok := Lib.hid hok
  obtain ⟨R1, hR1⟩ : ∃ R1, R1 = (redN p N).1 := ⟨_, rfl⟩
  obtain ⟨R2, hR2⟩ : ∃ R2, R2 = (redN p N).2 := ⟨_, rfl⟩
  rw [← hR2, ← hR1] at Hred
  clear hb01 ho hbl hu hq hW0 hU hok hgd ho0 hbf
  go_upto_region 4 with (fail)
  go_still_tail 4, (by kernel_rfl)
  change wpList _ _ _ _ _ W0.drew
  go_wp2_with (go_at_call 50; (with_reducible refine (Hred.out W0.drew (Dr.refl _).drew).mono ?_); rintro e w2 ⟨A2, c2, hs2, rfl, hro, ho2, hu2, hq2, hmd2⟩)
  go_ret2
  exact ⟨by rw [← hR2]; rfl, hbel0.trans (hq2.mono (by omega))⟩
end
section
theorem ent_out {M : List (List Nat)} {i : Nat} (h : M.length ≤ i) (j : Nat) : ent M i j = 0 := by
  simp [ent, List.getD_eq_getElem?_getD, List.getElem?_eq_none h]
theorem ent_row {M : List (List Nat)} {i : Nat} (h : i < M.length) (j : Nat) : ent M i j = M[i].getD j 0 := by
  unfold ent; rw [getD_at h]
theorem ent_sw {N : List (List Nat)} {i0 k : Nat} (h0 : i0 < N.length) (hk : k < N.length) (i j : Nat) (hi : i < N.length) : ent (sw [] N i0 k) i j = ent N (if i = k then i0 else if i = i0 then k else i) j := by
  have h1 : i < (sw [] N i0 k).length := by rw [sw_length]; exact hi
  rw [ent_row h1, sw_at [] N i0 k i h0 hk hi h1]
  by_cases a : i = k
  · rw [if_pos a, if_pos a, ent_row h0]
  · rw [if_neg a, if_neg a]
    by_cases b : i = i0
    · rw [if_pos b, if_pos b, ent_row hk]
    · rw [if_neg b, if_neg b, ent_row hi]
theorem plusN_zero (p u : Nat) : plusN p 0 0 u = 0 := by simp [plusN]
theorem ent_unit {p : Nat} {N : List (List Nat)} {k : Nat} (hk : k < N.length) (c i j : Nat) : ent (unitN p N k c) i j = if i = k then plusN p 0 (ent N k j) (invN p (ent N k c)) else ent N i j := by
  unfold unitN
  by_cases a : i = k
  · subst a
    rw [if_pos rfl, ent_row (by rw [List.length_set]; exact hk), List.getElem_set_self, getD_at hk, ent_row hk j]
    generalize invN p (ent N i c) = u
    unfold scaleR
    simp only [List.getD_eq_getElem?_getD, List.getElem?_map]
    cases N[i][j]? with
    | none => simp [plusN]
    | some v => simp
  · rw [if_neg a]
    simp [ent, List.getD_eq_getElem?_getD, List.getElem?_set_ne (Ne.symm a)]
theorem getD_zip {f : Nat → Nat → Nat} (h0 : f 0 0 = 0) {xs ys : List Nat} (h : xs.length = ys.length) (j : Nat) : (List.zipWith f xs ys).getD j 0 = f (xs.getD j 0) (ys.getD j 0) := by
  simp only [List.getD_eq_getElem?_getD, List.getElem?_zipWith]
  by_cases hj : j < xs.length
  · rw [List.getElem?_eq_getElem hj, List.getElem?_eq_getElem (h ▸ hj)]; rfl
  · rw [List.getElem?_eq_none (Nat.le_of_not_lt hj), List.getElem?_eq_none (by omega)]; simp [h0]
theorem plusN_self {p x y : Nat} (hx : x < p) : plusN p x y p = x := by
  unfold plusN; rw [Nat.add_mul_mod_self_right, Nat.mod_eq_of_lt hx]
theorem ent_sub {p c : Nat} {xs ys : List Nat} (h : xs.length = ys.length) (hx : ∀ x ∈ xs, x < p) (hp : 0 < p) (j : Nat) : (subN p c xs ys).getD j 0 = plusN p (xs.getD j 0) (ys.getD j 0) (p - c) := by
  have hxj : xs.getD j 0 < p := by
    rw [List.getD_eq_getElem?_getD]
    by_cases hj : j < xs.length
    · rw [List.getElem?_eq_getElem hj]; exact hx _ (List.getElem_mem hj)
    · rw [List.getElem?_eq_none (by omega)]; exact hp
  unfold subN
  split
  · rename_i h0; subst h0
    rw [Nat.sub_zero, plusN_self hxj]
  · exact getD_zip (f := fun x y => plusN p x y (p - c)) (plusN_zero p _) h j
theorem ent_clear {p n : Nat} {N : List (List Nat)} (hg : Good p n N) (hp : 0 < p) {k : Nat} (hk : k < N.length) (c i j : Nat) (hi : i < N.length) : ent (clearN p N k c) i j = if i = k then ent N k j else plusN p (ent N i j) (ent N k j) (p - ent N i c) := by
  have h1 : i < (clearN p N k c).length := by rw [clearN_length]; exact hi
  rw [ent_row h1, clearN_at hi hk h1]
  by_cases a : i = k
  · rw [if_pos a, if_pos a, ent_row hk]
  · rw [if_neg a, if_neg a, ent_sub (by rw [hg.len hi, hg.len hk]) (hg.dig _ (List.getElem_mem hi)) hp, ent_row hi c, ent_row hi j, ent_row hk j]

theorem inv_mul {p x : Nat} (hp : Pr p) (hx : x % p ≠ 0) : plusN p 0 x (invN p x) = 1 := by
  unfold plusN invN
  rw [Nat.zero_add]
  exact hp.inv_right (mod_dvd_not hx)

/-- The first c columns are gone through: their pivots' columns are P. -/
structure Ech (N : List (List Nat)) (P : List Nat) (c : Nat) : Prop where
  low : ∀ i j, P.length ≤ i → j < c → ent N i j = 0
  left : ∀ i (h : i < P.length) j, j < P[i] → ent N i j = 0
  one : ∀ i (h : i < P.length), ent N i P[i] = 1
  zero : ∀ i (h : i < P.length) i', i' ≠ i → ent N i' P[i] = 0
  rise : ∀ i j (hi : i < P.length) (hj : j < P.length), i < j → P[i] < P[j]
  lt : ∀ i (h : i < P.length), P[i] < c
theorem seekN_none {M : List (List Nat)} {c : Nat} : ∀ {n i : Nat}, seekN M c n i = none → ∀ j, i ≤ j → j < i + n → ent M j c = 0
  | 0, _, _, j, h1, h2 => by omega
  | n + 1, i, h, j, h1, h2 => by
    rw [seekN] at h
    split at h
    · rename_i h0
      by_cases hj : j = i
      · subst hj; exact h0
      · exact seekN_none h j (by omega) (by omega)
    · cases h
theorem piv_none {M : List (List Nat)} {c k : Nat} (h : piv M c k = none) (j : Nat) (hj : k ≤ j) : ent M j c = 0 := by
  by_cases hl : j < M.length
  · exact seekN_none h j hj (by omega)
  · exact ent_out (by omega) c

theorem Ech.step {p n c : Nat} {s : List (List Nat) × List Nat} (hpr : Pr p) (hg : Good p n s.1) (h : Ech s.1 s.2 c) : Ech (colStep p c s).1 (colStep p c s).2 (c + 1) := by
  have hp := hpr.pos
  cases e : piv s.1 c s.2.length with
  | none =>
    rw [colStep_none e]
    refine ⟨fun i j hi hj => ?_, h.left, h.one, h.zero, h.rise, fun i hi => by have := h.lt i hi; omega⟩
    by_cases hjc : j = c
    · subst hjc; exact piv_none e i hi
    · exact h.low i j hi (by omega)
  | some i0 =>
    obtain ⟨h1, h2, h3⟩ := piv_some e
    rw [colStep_some e]
    obtain ⟨N, P⟩ := s
    simp only [] at h h1 h2 h3 hg e ⊢
    obtain ⟨k, hk⟩ : ∃ k, k = P.length := ⟨_, rfl⟩
    have hkN : k < N.length := by omega
    rw [← hk] at h1 ⊢
    obtain ⟨N1, hN1⟩ : ∃ N1, N1 = sw [] N i0 k := ⟨_, rfl⟩
    have g1 : Good p n N1 := by rw [hN1]; exact hg.sw_ h2 hkN
    have l1 : N1.length = N.length := by rw [hN1, sw_length]
    have e1 : ∀ i j, i < N.length → ent N1 i j = ent N (if i = k then i0 else if i = i0 then k else i) j := fun i j hi => by rw [hN1]; exact ent_sw h2 hkN i j hi
    rw [← hN1]
    obtain ⟨u, hu⟩ : ∃ u, u = invN p (ent N1 k c) := ⟨_, rfl⟩
    obtain ⟨N2, hN2⟩ : ∃ N2, N2 = unitN p N1 k c := ⟨_, rfl⟩
    have g2 : Good p n N2 := by rw [hN2]; exact g1.unit_ hp (by omega) c
    have l2 : N2.length = N.length := by rw [hN2, unitN_length, l1]
    have e2 : ∀ i j, ent N2 i j = if i = k then plusN p 0 (ent N1 k j) u else ent N1 i j := fun i j => by rw [hN2, hu]; exact ent_unit (by omega) c i j
    rw [← hN2]
    have e3 : ∀ i j, i < N.length → ent (clearN p N2 k c) i j = if i = k then ent N2 k j else plusN p (ent N2 i j) (ent N2 k j) (p - ent N2 i c) := fun i j hi => ent_clear g2 hp (by omega) c i j (by omega)
    have l3 : (clearN p N2 k c).length = N.length := by rw [clearN_length, l2]
    -- row k of N1 is nought left of c
    have z1 : ∀ j, j < c → ent N1 k j = 0 := fun j hj => by rw [e1 k j hkN, if_pos rfl]; exact h.low i0 j (by omega) hj
    have hx : ent N1 k c ≠ 0 := by rw [e1 k c hkN, if_pos rfl]; exact h3
    have hxl := g1.ent_lt hp k c
    have z2 : ∀ j, j < c → ent N2 k j = 0 := fun j hj => by rw [e2, if_pos rfl, z1 j hj, plusN_zero]
    have o2 : ent N2 k c = 1 := by rw [e2, if_pos rfl, hu]; exact inv_mul hpr (by rw [Nat.mod_eq_of_lt hxl]; exact hx)
    -- entries left of c stay but for the exchange
    have s3 : ∀ i j, i < N.length → j < c → ent (clearN p N2 k c) i j = if i = k then 0 else ent N (if i = i0 then k else i) j := fun i j hi hj => by
      rw [e3 i j hi, z2 j hj]
      by_cases a : i = k
      · rw [if_pos a, if_pos a]
      · rw [if_neg a, if_neg a, e2, if_neg a, e1 i j hi, if_neg a]
        unfold plusN
        rw [Nat.zero_mul, Nat.add_zero, Nat.mod_eq_of_lt (hg.ent_lt hp _ _)]
    -- column c
    have c3 : ∀ i, i < N.length → i ≠ k → ent (clearN p N2 k c) i c = 0 := fun i hi a => by
      rw [e3 i c hi, if_neg a, o2]
      have hl := g2.ent_lt hp i c
      unfold plusN
      rw [Nat.one_mul, show ent N2 i c + (p - ent N2 i c) = p from by omega, Nat.mod_self]
    have k3 : ∀ j, ent (clearN p N2 k c) k j = ent N2 k j := fun j => by rw [e3 k j hkN, if_pos rfl]
    have hPl : (P ++ [c]).length = k + 1 := by rw [List.length_append, ← hk]; rfl
    have pat : ∀ i (h : i < (P ++ [c]).length), (i < k ∧ ∃ h2 : i < P.length, (P ++ [c])[i] = P[i]) ∨ (i = k ∧ (P ++ [c])[i] = c) := fun i h => by
      by_cases hi : i < P.length
      · exact Or.inl ⟨by omega, hi, List.getElem_append_left hi⟩
      · have hik : i = P.length := by rw [hPl] at h; omega
        subst hik
        exact Or.inr ⟨by omega, by rw [List.getElem_append_right (by omega)]; simp⟩
    have mv : ∀ i, i < N.length → i ≠ k → ∀ j, j < c → ent (clearN p N2 k c) i j = ent N (if i = i0 then k else i) j := fun i hi a j hj => by rw [s3 i j hi hj, if_neg a]
    refine ⟨fun i j hi hj => ?_, fun i hi j hj => ?_, fun i hi => ?_, fun i hi i' hne => ?_, fun i j hi hj hij => ?_, fun i hi => ?_⟩
    · rw [hPl] at hi
      by_cases hl : i < N.length
      · have a : i ≠ k := by omega
        by_cases hjc : j = c
        · subst hjc; exact c3 i hl a
        · rw [mv i hl a j (by omega)]
          split
          · exact h.low k j (by omega) (by omega)
          · exact h.low i j (by omega) (by omega)
      · exact ent_out (by omega) j
    · rcases pat i hi with ⟨hik, hi2, e⟩ | ⟨hik, e⟩
      · rw [e] at hj
        have hlt := h.lt i hi2
        have hni : i ≠ i0 := by omega
        rw [mv i (by omega) (by omega) j (by omega), if_neg hni]
        exact h.left i hi2 j hj
      · rw [e] at hj
        rw [hik, k3]; exact z2 j hj
    · rcases pat i hi with ⟨hik, hi2, e⟩ | ⟨hik, e⟩
      · rw [e]
        have hlt := h.lt i hi2
        rw [mv i (by omega) (by omega) _ hlt, if_neg (by omega : i ≠ i0)]
        exact h.one i hi2
      · rw [e, hik, k3]; exact o2
    · rcases pat i hi with ⟨hik, hi2, e⟩ | ⟨hik, e⟩
      · rw [e]
        have hlt := h.lt i hi2
        by_cases hl : i' < N.length
        · rw [s3 i' _ hl hlt]
          split
          · rfl
          · split
            · exact h.zero i hi2 k (by omega)
            · exact h.zero i hi2 i' hne
        · exact ent_out (by omega) _
      · rw [e]
        by_cases hl : i' < N.length
        · exact c3 i' hl (by omega)
        · exact ent_out (by omega) _
    · rcases pat i hi with ⟨hik, hi2, e⟩ | ⟨hik, e⟩
      · rcases pat j hj with ⟨hjk, hj2, e'⟩ | ⟨hjk, e'⟩
        · rw [e, e']; exact h.rise i j hi2 hj2 hij
        · rw [e, e']; exact h.lt i hi2
      · rcases pat j hj with ⟨hjk, hj2, e'⟩ | ⟨hjk, e'⟩ <;> omega
    · rcases pat i hi with ⟨hik, hi2, e⟩ | ⟨hik, e⟩
      · rw [e]; have := h.lt i hi2; omega
      · rw [e]; omega

theorem redTo_ech {p n : Nat} {M : List (List Nat)} (hpr : Pr p) (h : Good p n M) : ∀ c, Ech (redTo p M c).1 (redTo p M c).2 c
  | 0 => ⟨(fun _ _ _ h => absurd h (Nat.not_lt_zero _)), (fun _ h => absurd h (Nat.not_lt_zero _)), (fun _ h => absurd h (Nat.not_lt_zero _)), (fun _ h => absurd h (Nat.not_lt_zero _)), (fun _ _ h => absurd h (Nat.not_lt_zero _)), (fun _ h => absurd h (Nat.not_lt_zero _))⟩
  | c + 1 => (redTo_ech hpr h c).step hpr (redTo_ok h hpr.pos c).good
end
section
open Go.RowKit

theorem one_u32s (xs : List Nat) : ∀ u ∈ u32s xs, u.oneCell' = true := fun u hu => by
  obtain ⟨x, _, rfl⟩ := List.mem_map.1 hu; rfl
/-- One number more on a row of one's own. -/
theorem app_u32 (w : World) (B : Nat) (v : Value) (l : List Nat) (x : Nat) (h : Ro w B 28 v (u32s l)) (hB : B ≤ w.heap.size) (hl : l.length ≤ 17592186044416) :
    ∃ A' c' w', (Builtin.append_ #[37, 37] 37 #[v, .slice (some ⟨w.heap.size, 0, none⟩) 1 1]).run Tryd.prog (w.alloc (.cells #[.int .u32 (x : Int)] 28)) = .ok (.slice A' (l.length + 1) c') w' ∧
      Ro w' B 28 (.slice A' (l.length + 1) c') (u32s (l ++ [x])) ∧ Below B w w' := by
  obtain ⟨i0, hi, hz0, hz1, hz2⟩ := info_parts Tryd.info32
  have hb : Below w.heap.size w (w.alloc (.cells #[.int .u32 (x : Int)] 28)) := (Below.refl _ _).alloc (Nat.le_refl _) _
  have h2 : Ro (w.alloc (.cells #[.int .u32 (x : Int)] 28)) B 28 v (u32s l) := h.below hb (Nat.le_refl _)
  have hbk : Blk (w.alloc (.cells #[.int .u32 (x : Int)] 28)) w.heap.size 28 [.int .u32 (x : Int)] := Blk.new_ rfl
  have hrd : Rd (w.alloc (.cells #[.int .u32 (x : Int)] 28)) (w.heap.size + 1) (some ⟨w.heap.size, 0, none⟩) [.int .u32 (x : Int)] := Rd.of_blk hbk (by omega) 0 (fun k u hu => by rw [Nat.zero_add]; exact hu)
  obtain ⟨A', c', w', hrun, h3, h4⟩ := ro_app (P := Tryd.prog) _ B 37 37 28 i0 (.int .u32 0) 4 Tryd.underlying37 hi hz0 hz1 hz2 rfl v (u32s l) h2 (some ⟨w.heap.size, 0, none⟩) 1 1 _ [.int .u32 (x : Int)] hrd rfl (one_u32s [x]) (by rw [u32s_length]; unfold maxLen; omega) (by rw [u32s_length]; omega) (by simp; omega)
  have hl2 : (u32s l ++ [Value.int .u32 (x : Int)]).length = l.length + 1 := by simp [u32s]
  rw [hl2] at hrun h3
  refine ⟨A', c', w', hrun, ?_, (hb.mono hB).trans (below_grown' h4 h.block (by simp; omega))⟩
  rw [u32s_snoc]; exact h3
/-- A slice that is read, appended to a row of one's own. -/
theorem app_u32s (w : World) (B : Nat) (v : Value) (l news : List Nat) (h : Ro w B 28 v (u32s l)) (hB : B ≤ w.heap.size) (A : Option Addr) (c B2 : Nat) (hr : Rd w B2 A (u32s news)) (hl : l.length + news.length ≤ 35184372088832) :
    ∃ A' c' w', (Builtin.append_ #[37, 37] 37 #[v, .slice A news.length c]).run Tryd.prog w = .ok (.slice A' (l ++ news).length c') w' ∧
      Ro w' B 28 (.slice A' (l ++ news).length c') (u32s (l ++ news)) ∧ w.grownBy w' v.ownBlock := by
  obtain ⟨i0, hi, hz0, hz1, hz2⟩ := info_parts Tryd.info32
  obtain ⟨A', c', w', hrun, h3, h4⟩ := ro_app (P := Tryd.prog) w B 37 37 28 i0 (.int .u32 0) 4 Tryd.underlying37 hi hz0 hz1 hz2 rfl v (u32s l) h A news.length c B2 (u32s news) hr (u32s_length _) (one_u32s news) (by rw [u32s_length]; unfold maxLen; omega) (by rw [u32s_length]; omega) hB
  have e : u32s l ++ u32s news = u32s (l ++ news) := (u32s_append l news).symm
  rw [e, u32s_length] at hrun h3
  exact ⟨A', c', w', hrun, h3, h4⟩

/-- A block of another element type is another block. -/
theorem Res.grown {w w' : World} {B : Nat} {t t2 : TypeId} {A : Option Addr} {c : Nat} {vs : List Value} {row : Option Nat} (h : Res w B t A c vs) (hg : w.grownBy w' row) (hrow : ∀ k, row = some k → ∃ us, Blk w k t2 us) (hne : t ≠ t2) : Res w' B t A c vs := ⟨h.1, h.2.1, fun hn => by
  obtain ⟨g, rest, e, hB, hb, hc⟩ := h.2.2 hn
  refine ⟨g, rest, e, hB, (hg.block g hb.lt (fun e2 => ?_)).trans hb, hc⟩
  obtain ⟨us, hu⟩ := hrow g e2.symm
  unfold Blk at hb hu
  rw [hb] at hu
  injection hu with hu
  injection hu with _ hu _
  exact hne hu⟩
theorem Ro.rowBlk {w : World} {B : Nat} {e : TypeId} {v : Value} {xs : List Value} (h : Ro w B e v xs) : ∀ k, v.ownBlock = some k → ∃ us, Blk w k e us := fun k hk => by
  obtain ⟨hl, ⟨rfl, _⟩ | ⟨g, cap, cur, rfl, hg, hh, _⟩⟩ := h
  · simp [Value.ownBlock] at hk
  · obtain rfl : g = k := by simpa [Value.ownBlock] using hk
    exact ⟨cur.toList, by simpa [Blk] using hh⟩

/-- A matrix that grows by append: the headers' row is v, from block B on, all rows below block U. -/
def OwA (w : World) (B U : Nat) (v : Value) (M : List (List Nat)) : Prop :=
  ∃ hs : List (Option Addr × Nat), ∃ hl : hs.length = M.length, Ro w B 37 v (hdrs hs M) ∧ (∀ i (h : i < M.length), Res w B 28 (hs[i]'(hl ▸ h)).1 (hs[i]'(hl ▸ h)).2 (u32s M[i])) ∧ UB U hs ∧
    (∀ i j (hi : i < M.length) (hj : j < M.length), i ≠ j → M[i] ≠ [] → M[j] ≠ [] → (hs[i]'(hl ▸ hi)).1 ≠ (hs[j]'(hl ▸ hj)).1)
theorem OwA.nil_ (w : World) (B U : Nat) : OwA w B U (.slice none 0 0) [] :=
  ⟨[], rfl, Ro.nil_ _ _ _, (fun i h => absurd h (Nat.not_lt_zero _)), (fun _ h => by cases h), (fun i j hi => absurd hi (Nat.not_lt_zero _))⟩
theorem OwA.mono {w : World} {B U U' : Nat} {v : Value} {M : List (List Nat)} (h : OwA w B U v M) (hU : U ≤ U') : OwA w B U' v M := by
  obtain ⟨hs, hl, h1, h2, h3, h4⟩ := h
  exact ⟨hs, hl, h1, h2, h3.mono hU, h4⟩
theorem OwA.below {w w' : World} {B B' U : Nat} {v : Value} {M : List (List Nat)} (h : OwA w B U v M) (hb : Below B' w w') (hB : w.heap.size ≤ B') : OwA w' B U v M := by
  obtain ⟨hs, hl, h1, h2, h3, h4⟩ := h
  exact ⟨hs, hl, h1.below hb hB, fun i hi => (h2 i hi).below hb hB, h3, h4⟩
theorem OwA.lowB {w : World} {B B' U : Nat} {v : Value} {M : List (List Nat)} (h : OwA w B U v M) (hB : B' ≤ B) : OwA w B' U v M := by
  obtain ⟨hs, hl, h1, h2, h3, h4⟩ := h
  exact ⟨hs, hl, h1.mono hB, fun i hi => (h2 i hi).mono hB, h3, h4⟩
theorem hdrs_one {hs : List (Option Addr × Nat)} {M : List (List Nat)} : ∀ u ∈ hdrs hs M, u.oneCell' = true := fun u hu => by
  obtain ⟨i, hi, rfl⟩ := List.mem_iff_getElem.1 hu
  simp only [hdrs, List.getElem_zipWith]; rfl
/-- One row more: it lies at U or behind. -/
theorem app_row (w : World) (B U : Nat) (v : Value) (M : List (List Nat)) (h : OwA w B U v M) (A : Option Addr) (c : Nat) (r : List Nat) (hr : Res w U 28 A c (u32s r)) (hBU : B ≤ U) (hB : B ≤ w.heap.size) (hA : ∀ a, A = some a → a.block < w.heap.size) (hUw : U ≤ w.heap.size) (hcap : c ≤ maxLen) (hm : M.length ≤ 1099511627776) :
    ∃ A' c' w', (Builtin.append_ #[26, 26] 26 #[v, .slice (some ⟨w.heap.size, 0, none⟩) 1 1]).run Tryd.prog (w.alloc (.cells #[.slice A r.length c] 37)) = .ok (.slice A' (M.length + 1) c') w' ∧
      OwA w' B w'.heap.size (.slice A' (M.length + 1) c') (M ++ [r]) ∧ Below B w w' := by
  obtain ⟨hs, hl, h1, h2, h3, h4⟩ := h
  obtain ⟨i0, hi, hz0, hz1, hz2⟩ := info_parts Tryd.infoRow
  have hb : Below w.heap.size w (w.alloc (.cells #[.slice A r.length c] 37)) := (Below.refl _ _).alloc (Nat.le_refl _) _
  have h1' := h1.below hb (Nat.le_refl _)
  have hbk : Blk (w.alloc (.cells #[.slice A r.length c] 37)) w.heap.size 37 [.slice A r.length c] := Blk.new_ rfl
  have hrd : Rd (w.alloc (.cells #[.slice A r.length c] 37)) (w.heap.size + 1) (some ⟨w.heap.size, 0, none⟩) [.slice A r.length c] := Rd.of_blk hbk (by omega) 0 (fun k u hu => by rw [Nat.zero_add]; exact hu)
  have hdl := hdrs_length hl
  obtain ⟨A', c', w', hrun, g3, g4⟩ := ro_app (P := Tryd.prog) _ B 26 26 37 i0 (.slice none 0 0) 24 Tryd.underlying26 hi hz0 hz1 hz2 rfl v (hdrs hs M) h1' (some ⟨w.heap.size, 0, none⟩) 1 1 _ [.slice A r.length c] hrd rfl (by simp [Value.oneCell']) (by rw [hdl]; unfold maxLen; omega) (by rw [hdl]; omega) (by simp; omega)
  have hl2 : (hdrs hs M ++ [Value.slice A r.length c]).length = M.length + 1 := by rw [List.length_append, hdl]; rfl
  rw [hl2] at hrun g3
  have e9 : hdrs hs M ++ [Value.slice A r.length c] = hdrs (hs ++ [(A, c)]) (M ++ [r]) := (hdrs_snoc hl (A, c) r).symm
  rw [e9] at g3
  have hsz := g4.size
  refine ⟨A', c', w', hrun, ⟨hs ++ [(A, c)], by simp [hl], by simpa using g3, fun i hi => ?_, ?_, fun i j hi hj hij ni nj => ?_⟩, (hb.mono hB).trans (below_grown' g4 h1'.block (by simp; omega))⟩
  · have hrow : ∀ k, v.ownBlock = some k → ∃ us, Blk (w.alloc (.cells #[.slice A r.length c] 37)) k 37 us := h1'.rowBlk
    by_cases hi2 : i < M.length
    · have hih : i < hs.length := hl ▸ hi2
      simp only [List.getElem_append_left hi2, List.getElem_append_left hih]
      exact ((h2 i hi2).below hb (Nat.le_refl _)).grown g4 hrow (by decide)
    · have hie : i = M.length := by rw [List.length_append] at hi; simp at hi; omega
      subst hie
      have e1 : (M ++ [r])[M.length] = r := by simp
      have e2 : (hs ++ [(A, c)])[M.length]'(by simp [hl]) = (A, c) := by
        rw [List.getElem_append_right (by omega)]; simp [hl]
      simp only [e1, e2]
      exact ((hr.mono hBU).below hb (Nat.le_refl _)).grown g4 hrow (by decide)
  · have hw1 : w.heap.size ≤ w'.heap.size := by simp at hsz; omega
    intro x hx
    rcases List.mem_append.1 hx with hx | hx
    · exact ⟨fun a ha => Nat.lt_of_lt_of_le ((h3 x hx).1 a ha) (by omega), (h3 x hx).2⟩
    · rw [List.mem_singleton] at hx
      subst hx
      exact ⟨fun a ha => Nat.lt_of_lt_of_le (hA a ha) hw1, hcap⟩
  · have key : ∀ i (hi2 : i < M.length), M[i] ≠ [] → r ≠ [] → (hs[i]'(hl ▸ hi2)).1 ≠ A := fun i hi2 n1 n2 e => by
      obtain ⟨g1, _, e1, _, _, _⟩ := (h2 i hi2).2.2 (fun e => n1 (u32s_nil_iff.1 e))
      obtain ⟨g2, _, e2, hlo, _, _⟩ := hr.2.2 (fun e => n2 (u32s_nil_iff.1 e))
      have hlt := h3.at_ (hl ▸ hi2) e1
      rw [e1, e2] at e
      simp only [Option.some.injEq, Addr.mk.injEq, and_true] at e
      omega
    have hend : ∀ i, i < (M ++ [r]).length → ¬ i < M.length → i = M.length := fun i h1 h2 => by rw [List.length_append] at h1; simp at h1; omega
    have e1 : (M ++ [r])[M.length]'(by simp) = r := by simp
    have e2 : (hs ++ [(A, c)])[M.length]'(by simp [hl]) = (A, c) := by
      rw [List.getElem_append_right (by omega)]; simp [hl]
    by_cases hi2 : i < M.length
    · have hih : i < hs.length := hl ▸ hi2
      simp only [List.getElem_append_left hi2] at ni
      by_cases hj2 : j < M.length
      · have hjh : j < hs.length := hl ▸ hj2
        simp only [List.getElem_append_left hj2] at nj
        simp only [List.getElem_append_left hih, List.getElem_append_left hjh]
        exact h4 i j hi2 hj2 hij ni nj
      · obtain rfl := hend j hj hj2
        rw [e1] at nj
        simp only [List.getElem_append_left hih, e2]
        exact key i hi2 ni nj
    · obtain rfl := hend i hi hi2
      rw [e1] at ni
      by_cases hj2 : j < M.length
      · have hjh : j < hs.length := hl ▸ hj2
        simp only [List.getElem_append_left hj2] at nj
        simp only [List.getElem_append_left hjh, e2]
        exact fun e => key j hj2 nj ni e.symm
      · obtain rfl := hend j hj hj2
        exact absurd rfl hij
/-- It reads as its rows. -/
theorem OwA.rd {w : World} {B U : Nat} {A : Option Addr} {n c : Nat} {M : List (List Nat)} (h : OwA w B U (.slice A n c) M) (_ : U ≤ w.heap.size) : n = M.length ∧ M.length ≤ c ∧ RdM w w.heap.size A M := by
  obtain ⟨hs, hl, h1, h2, h3, h4⟩ := h
  obtain ⟨e1, e2, e3⟩ := h1.rd
  rw [hdrs_length hl] at e1 e2
  refine ⟨e1, e2, fun hn => ?_⟩
  obtain ⟨b, off, e4, e5, e6⟩ := e3 (fun e => hn (List.eq_nil_of_length_eq_zero (by rw [← hdrs_length hl, e]; rfl)))
  refine ⟨b, off, e4, e5, fun i hi => ⟨_, _, e6 i _ (hdrs_at (hl ▸ hi) hi), ?_, ?_, (h2 i hi).rd⟩⟩
  · have := (h2 i hi).1; rw [u32s_length] at this; exact this
  · have := (h2 i hi).2.1; rw [u32s_length] at this; exact this
/-- It is a matrix of one's own. -/
theorem OwA.own {w : World} {B U : Nat} {A : Option Addr} {n c : Nat} {M : List (List Nat)} (h : OwA w B U (.slice A n c) M) (hn : M ≠ []) : ∃ g hs, A = some ⟨g, 0, none⟩ ∧ Own w B g hs M ∧ UB U hs ∧ g < w.heap.size := by
  obtain ⟨hs, hl, h1, h2, h3, h4⟩ := h
  obtain ⟨hl1, ⟨hv, h0⟩ | ⟨g, cap, cur, hv, hg, hh, hnc, hcm, hsz, ht⟩⟩ := h1
  · rw [hdrs_length hl] at h0
    exact absurd (List.eq_nil_of_length_eq_zero h0) hn
  · injection hv with e1 e2 e3
    subst e1 e2 e3
    have hb : Blk w g 37 cur.toList := by simpa [Blk] using hh
    have h9 : cur.toList.take (hdrs hs M).length = hdrs hs M := by simpa using ht
    refine ⟨g, hs, rfl, ⟨hl, ⟨cur.toList.drop (hdrs hs M).length, ?_⟩, hg, h2, fun i hi hne e => ?_, h4⟩, h3, hb.lt⟩
    · have h8 : hdrs hs M ++ cur.toList.drop (hdrs hs M).length = cur.toList := by
        conv => lhs; lhs; rw [← h9]
        exact List.take_append_drop _ _
      rw [h8]; exact hb
    · obtain ⟨g1, rest, e1, _, hb1, _⟩ := (h2 i hi).2.2 (fun e => hne (u32s_nil_iff.1 e))
      rw [e] at e1
      obtain rfl : g = g1 := by simpa using e1
      unfold Blk at hb hb1
      rw [hb] at hb1
      injection hb1 with hb1
      injection hb1 with _ hb1 _
      exact absurd hb1 (by decide)
end
end Go.Proofs.YtecdjanopiibcaaDoor
