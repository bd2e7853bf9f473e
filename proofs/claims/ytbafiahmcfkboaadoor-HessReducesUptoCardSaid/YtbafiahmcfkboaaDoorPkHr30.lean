/- HessReduces answers true. Conditions: bases is as the program lays it; the sizes. -/
import Derived.Test.YtbafiahmcfkboaaDoorPkHr29
import Derived.Test.YtbafiahmcfkboaaDoorPkHr21
namespace Go.Proofs.YtbafiahmcfkboaaDoor
open Go.RowKit

theorem mtab_of {M : List (List Nat)} {n : Nat} (h : M.length = n) (hr : ∀ r ∈ M, r.length = n) : mtab n n (en M) = M := by
  unfold mtab
  apply List.ext_getElem
  · simp [h]
  · intro i h1 h2
    have hl : M[i].length = n := hr _ (List.getElem_mem h2)
    rw [List.getElem_map, List.getElem_range]
    apply List.ext_getElem
    · simp [hl]
    · intro k h3 h4
      rw [List.getElem_map, List.getElem_range, en_at h2 h4]
theorem mtab_congr {n : Nat} {E F : Mf} (h : ∀ i k, i < n → k < n → E i k = F i k) : mtab n n E = mtab n n F := by
  unfold mtab
  refine List.map_congr_left fun i hi => List.map_congr_left fun k hk => h i k (by simpa using hi) (by simpa using hk)
theorem Mt.rdm {w : World} {g n : Nat} {bs : List Nat} {E : Mf} (h : Mt w g bs n E) (hb : bs.length = n) (hn : n ≤ 1000) : RdM w w.heap.size (some ⟨g, 0, none⟩) (mtab n n E) := by
  have := h.reads (by omega)
  rw [hb] at this
  exact this
theorem mtab_rows {n : Nat} {E : Mf} : ∀ r ∈ mtab n n E, r.length = n := fun r hr => by
  obtain ⟨i, hi, rfl⟩ := List.mem_iff_getElem.1 hr
  rw [mtab_at]; simp
theorem mtab_lt {p n : Nat} {E : Mf} (h : Lt p n n E) : ∀ r ∈ mtab n n E, ∀ x ∈ r, x < p := fun r hr x hx => by
  obtain ⟨i, hi, rfl⟩ := List.mem_map.1 hr
  obtain ⟨k, hk, rfl⟩ := List.mem_map.1 hx
  exact h i k (by simpa using hi) (by simpa using hk)
theorem mtab_cols {n : Nat} {E : Mf} (hn : 0 < n) : cols (mtab n n E) = n := by
  rw [cols_eq _ (by rw [mtab_length]; exact hn)]
  exact mtab_rows _ (List.getElem_mem _)
theorem Ft.mtab {p n : Nat} {E : Mf} (hp : Pr p) (hn : 0 < n) (h24 : n ≤ 24) : Ft p (mtab n n E) 0 :=
  .inr ⟨hp, .inr ⟨fun r hr => by rw [mtab_cols hn]; exact mtab_rows r hr, .inr ⟨by rw [mtab_length]; exact hn, by rw [mtab_length, mtab_cols hn], .inr ⟨rfl, by rw [mtab_length]; exact h24⟩⟩⟩⟩
/-- What the law looks at: all holds. -/
theorem reduce_says {p n : Nat} {M : List (List Nat)} (hp : Pr p) (hl : M.length = n) (_ : Rect M) (hc : M.length = cols M) (hn : 0 < n) : ∃ x, x = rdS p n (n - 1) 0 ⟨inN p M, idN, idN⟩ ∧ Lt p n n x.h ∧ Lt p n n x.s ∧ Lt p n n x.r ∧ (∀ i k, i < n → k < n → mlN p n x.s x.r i k = if i = k then 1 else 0) ∧ (∀ i k, i < n → k < n → mlN p n (mlN p n x.r (en M)) x.s i k = x.h i k) ∧ (∀ i k, i < n → k + 1 < i → x.h i k = 0) := by
  haveI : NeZero p := ⟨by have := hp.pos; omega⟩
  refine ⟨_, rfl, ?_⟩
  obtain ⟨x, hx⟩ : ∃ x, x = rdS p n (n - 1) 0 ⟨inN p M, idN, idN⟩ := ⟨_, rfl⟩
  rw [← hx]
  have h0 : Kp p n (inN p M) ⟨inN p M, idN, idN⟩ := ⟨In.start n _, fun _ _ _ _ => Nat.mod_lt _ hp.pos, .idN hp.two, .idN hp.two⟩
  obtain ⟨h1, h2⟩ := rdS_ok hp (n - 1) 0 _ (by omega) h0 fun a b hb _ _ => absurd hb (Nat.not_lt_zero _)
  rw [← hx] at h1 h2
  refine ⟨h1.bh, h1.bs, h1.br, fun i k hi hk => ?_, fun i k hi hk => ?_, fun i k hi hk => h2 i k (by omega) hk hi⟩
  · refine fz_inj (p := p) (dtN_lt hp.pos _ _ _ _ _) (by split; exact hp.two; exact hp.pos) ?_
    show fz p (dtN p x.s x.r i k n) = _
    rw [fz_dt, h1.inn.one i k hi hk]
    split <;> rfl
  · refine fz_inj (p := p) (dtN_lt hp.pos _ _ _ _ _) (h1.bh i k hi hk) ?_
    show fz p (dtN p (mlN p n x.r (en M)) x.s i k n) = _
    rw [fz_dt, ← h1.inn.sim i k hi hk]
    refine sm_congr _ fun l _ => ?_
    congr 1
    show fz p (dtN p x.r (en M) i l n) = _
    rw [fz_dt]
    refine sm_congr _ fun j _ => ?_
    unfold inN
    rw [fz_mod]

theorem RdM.drewS {w : World} {A : Option Addr} {M : List (List Nat)} (h : RdM w w.heap.size A M) : RdM w.drew w.drew.heap.size A M := h.dr (Dr.refl w).drew

set_option maxRecDepth 20000 in
set_option maxHeartbeats 6400000 in
theorem hessReduces_bad (A : Option Addr) (c p : Nat) (M : List (List Nat)) (w : World) (hx : Bx w) (hp : p < 4294967296) (hr : RdM w w.heap.size A M) (hm : M.length ≤ 1048576) (hwid : ∀ r ∈ M, r.length ≤ 1048576) (hd : DigM 4294967296 M) (k : Nat) (hk : Ft p M k) (h0 : k ≠ 0) :
    Calls Tryd.prog 4 #[.slice A M.length c, .int .u32 (p : Int)] w fun e w' => e = .returned (.bool true) ∧ Below w.heap.size w w' := by
  have HX : Hid (∀ W, Below w.heap.size w W → Bx W) := fun W hW => hx.below hW (Nat.le_refl _)
  have HAW : Hid (∀ W, Below w.heap.size w W → Calls Tryd.prog 12 #[] W fun e w' => e = .returned (.bool true) ∧ Below W.heap.size W w') := fun W hW => lawake_any W (HX.out W hW)
  have hgl := hx.lt
  have HCP : Hid (∀ W, RdM W W.heap.size A M → Calls Tryd.prog 7 #[.slice A M.length c] W fun e w' => ∃ A' c', e = .returned (.slice A' M.length c') ∧ RdM w' w'.heap.size A' M ∧ Below W.heap.size W w') := fun W h => (copied_any A c M W h hm hwid).mono fun _ _ ⟨A', c', h1, h2, h3⟩ => ⟨A', c', h1, (h2.rd (Nat.le_refl _)).2.2, h3⟩
  have HSA : Hid (∀ W A1 c1 A2 c2 (N : List (List Nat)), N.length ≤ 1048576 → RdM W W.heap.size A1 N → RdM W W.heap.size A2 N → Calls Tryd.prog 11 #[.slice A1 N.length c1, .slice A2 N.length c2] W fun e w' => e = .returned (.bool true) ∧ Below W.heap.size W w') := fun W A1 c1 A2 c2 N hN h1 h2 => (same_any A1 A2 c1 c2 N W _ h1 h2 (by omega)).mono fun _ _ h => ⟨h.1, h.2.below _⟩
  have hmi := hm
  have HRE : Hid (∀ W A' c', Below w.heap.size w W → RdM W W.heap.size A' M → Calls Tryd.prog 16 #[.slice A' M.length c', .int .u32 (p : Int)] W fun e w' => e = .returned (.tuple #[.slice none 0 0, .slice none 0 0, .slice none 0 0, .int .i64 (k : Int)]) ∧ Below W.heap.size W w') := fun W A' c' hW h => hReduce_bad A' c' p M W hp (HX.out W hW).bases (Nat.lt_of_lt_of_le hgl hW.size) h hm hd k hk h0
  have HFI : Hid (∀ W, RdM W W.heap.size A M → Calls Tryd.prog 10 #[.slice A M.length c, .int .u32 (p : Int)] W fun e w' => e = .returned (.int .i64 (k : Int)) ∧ Below W.heap.size W w') := fun W h => (fits_any A c p M W _ hp h hm k hk).mono fun _ _ h => ⟨h.1, h.2 ▸ Below.refl _ _⟩
  have t1 : ((k : Int) != 0) = true := by simp; omega
  have t2 : ((k : Int) == (k : Int)) = true := by simp
  obtain ⟨n, hn⟩ : ∃ n, n = M.length := ⟨_, rfl⟩
  have HSM : Hid (∀ W A1 c1 A2 c2, RdM W W.heap.size A1 M → RdM W W.heap.size A2 M → Calls Tryd.prog 11 #[.slice A1 n c1, .slice A2 n c2] W fun e w' => e = .returned (.bool true) ∧ Below W.heap.size W w') := fun W A1 c1 A2 c2 h1 h2 => by rw [hn]; exact HSA.out W A1 c1 A2 c2 M hm h1 h2
  rw [← hn] at HCP HRE HFI hmi ⊢
  clear HSA hn
  have Rm := Lib.hid hr
  have HB0 : Hid (Below w.heap.size w w) := Below.refl _ _
  clear hr hx hm hwid hd hk h0
  go_enter Tryd.func4, Tryd.ntmps4
  go_wp2_with (first
    | (go_at_call 7; (with_reducible refine (HCP.out _ (by first | exact Rm.out | exact Rm.out.drewS)).mono ?_); rintro _ w1z ⟨A5, c5, rfl, hr5, hb1⟩; have hx1 : Below w.heap.size w w1z := (by first | exact hb1 | exact (Below.refl _ _).drew.trans hb1); have HB1 := Lib.hid (HB0.out.trans (hx1.mono HB0.out.size)); have zR1_m := Lib.hid ((Rm.out.below hx1).mono hx1.size); have zR_g := Lib.hid hr5; clear hr5; clear hx1; clear Rm)
    | (go_at_call 16; (with_reducible refine (HRE.out _ _ _ (by first | exact HB1.out | exact HB1.out.drew) (by first | exact zR_g.out | exact zR_g.out.drewS)).mono ?_); rintro _ w2z ⟨rfl, hb2⟩; have hx2 : Below w1z.heap.size w1z w2z := (by first | exact hb2 | exact (Below.refl _ _).drew.trans hb2); have HB2 := Lib.hid (HB1.out.trans (hx2.mono HB1.out.size)); have zR2_m := Lib.hid ((zR1_m.out.below hx2).mono hx2.size); have zR2_g := Lib.hid ((zR_g.out.below hx2).mono hx2.size); clear hx2; clear zR1_m zR_g)
    | (go_at_call 11; (with_reducible refine (HSM.out _ _ _ _ _ (by first | exact zR2_g.out | exact zR2_g.out.drewS) (by first | exact zR2_m.out | exact zR2_m.out.drewS)).mono ?_); rintro _ w3z ⟨rfl, hb3⟩; have hx3 : Below w2z.heap.size w2z w3z := (by first | exact hb3 | exact (Below.refl _ _).drew.trans hb3); have HB3 := Lib.hid (HB2.out.trans (hx3.mono HB2.out.size)); have zR3_m := Lib.hid ((zR2_m.out.below hx3).mono hx3.size); have zR3_g := Lib.hid ((zR2_g.out.below hx3).mono hx3.size); clear hx3; clear zR2_m zR2_g)
    | (go_at_call 10; (with_reducible refine (HFI.out _ (by first | exact zR3_m.out | exact zR3_m.out.drewS)).mono ?_); rintro _ w4z ⟨rfl, hb4⟩; have hx4 : Below w3z.heap.size w3z w4z := (by first | exact hb4 | exact (Below.refl _ _).drew.trans hb4); have HB4 := Lib.hid (HB3.out.trans (hx4.mono HB3.out.size)); have zR4_m := Lib.hid ((zR3_m.out.below hx4).mono hx4.size); clear hx4; clear zR3_m)
    | (go_at_call 12; (with_reducible refine (HAW.out _ (by first | exact HB4.out | exact HB4.out.drew)).mono ?_); rintro _ w5z ⟨rfl, hb5⟩; have hx5 : Below w4z.heap.size w4z w5z := (by first | exact hb5 | exact (Below.refl _ _).drew.trans hb5); have HB5 := Lib.hid (HB4.out.trans (hx5.mono HB4.out.size)); clear hx5))
  go_ret
  exact ⟨rfl, HB5.out⟩

set_option maxRecDepth 20000 in
set_option maxHeartbeats 6400000 in
theorem hessReduces_ok (A : Option Addr) (c p : Nat) (M : List (List Nat)) (w : World) (hx : Bx w) (hp : p < 4294967296) (hr : RdM w w.heap.size A M) (hm : M.length ≤ 1048576) (hwid : ∀ r ∈ M, r.length ≤ 1048576) (hd : DigM 4294967296 M) (hk : Ft p M 0) :
    Calls Tryd.prog 4 #[.slice A M.length c, .int .u32 (p : Int)] w fun e w' => e = .returned (.bool true) ∧ Below w.heap.size w w' := by
  have HX : Hid (∀ W, Below w.heap.size w W → Bx W) := fun W hW => hx.below hW (Nat.le_refl _)
  have HAW : Hid (∀ W, Below w.heap.size w W → Calls Tryd.prog 12 #[] W fun e w' => e = .returned (.bool true) ∧ Below W.heap.size W w') := fun W hW => lawake_any W (HX.out W hW)
  have hgl := hx.lt
  have HCP : Hid (∀ W, RdM W W.heap.size A M → Calls Tryd.prog 7 #[.slice A M.length c] W fun e w' => ∃ A' c', e = .returned (.slice A' M.length c') ∧ RdM w' w'.heap.size A' M ∧ Below W.heap.size W w') := fun W h => (copied_any A c M W h hm hwid).mono fun _ _ ⟨A', c', h1, h2, h3⟩ => ⟨A', c', h1, (h2.rd (Nat.le_refl _)).2.2, h3⟩
  have HSA : Hid (∀ W A1 c1 A2 c2 (N : List (List Nat)), N.length ≤ 1048576 → RdM W W.heap.size A1 N → RdM W W.heap.size A2 N → Calls Tryd.prog 11 #[.slice A1 N.length c1, .slice A2 N.length c2] W fun e w' => e = .returned (.bool true) ∧ Below W.heap.size W w') := fun W A1 c1 A2 c2 N hN h1 h2 => (same_any A1 A2 c1 c2 N W _ h1 h2 (by omega)).mono fun _ _ h => ⟨h.1, h.2.below _⟩
  have hmi := hm
  obtain ⟨hpr, hrect, hn0, hcs, hn24⟩ := hk.some
  obtain ⟨n, hn⟩ : ∃ n, n = M.length := ⟨_, rfl⟩
  obtain ⟨x, hxe, bH, bS, bR, s1, s2, s3⟩ := reduce_says hpr hn.symm hrect hcs (by omega)
  have hw2 : ∀ r ∈ M, r.length = n := fun r hr => by rw [hrect r hr, ← hcs, hn]
  have hMe : mtab n n (en M) = M := mtab_of hn.symm hw2
  have HRE : Hid (∀ W A' c', Below w.heap.size w W → RdM W W.heap.size A' M → Calls Tryd.prog 16 #[.slice A' n c', .int .u32 (p : Int)] W fun e w' => ∃ gh gs gr, e = .returned (.tuple #[.slice (some ⟨gh, 0, none⟩) n n, .slice (some ⟨gs, 0, none⟩) n n, .slice (some ⟨gr, 0, none⟩) n n, .int .i64 0]) ∧ RdM w' w'.heap.size (some ⟨gh, 0, none⟩) (mtab n n x.h) ∧ RdM w' w'.heap.size (some ⟨gs, 0, none⟩) (mtab n n x.s) ∧ RdM w' w'.heap.size (some ⟨gr, 0, none⟩) (mtab n n x.r) ∧ Below W.heap.size W w') := fun W A' c' hW h => by
    have h9 := hReduce_ok A' c' p M W hp (HX.out W hW).bases (Nat.lt_of_lt_of_le hgl hW.size) h hm hd hk
    rw [← hn, ← hxe] at h9
    refine h9.mono ?_
    rintro _ _ ⟨gh, gs, gr, bh, bs, br, h1, h2, h3, h4, h5, h6, h7, h8⟩
    exact ⟨gh, gs, gr, h1, h2.rdm h3 (by omega), h4.rdm h5 (by omega), h6.rdm h7 (by omega), h8⟩
  have HFI : Hid (∀ W, RdM W W.heap.size A M → Calls Tryd.prog 10 #[.slice A n c, .int .u32 (p : Int)] W fun e w' => e = .returned (.int .i64 0) ∧ Below W.heap.size W w') := fun W h => by rw [hn]; exact (fits_any A c p M W _ hp h hm 0 hk).mono fun _ _ h => ⟨h.1, h.2 ▸ Below.refl _ _⟩
  have HFJ : Hid (∀ W g (E : Mf), RdM W W.heap.size (some ⟨g, 0, none⟩) (mtab n n E) → Calls Tryd.prog 10 #[.slice (some ⟨g, 0, none⟩) n n, .int .u32 (p : Int)] W fun e w' => e = .returned (.int .i64 0) ∧ Below W.heap.size W w') := fun W g E h => by
    have h9 := fits_any (some ⟨g, 0, none⟩) n p (mtab n n E) W _ hp h (by rw [mtab_length]; omega) 0 (Ft.mtab hpr (by omega) (by omega))
    rw [mtab_length] at h9
    exact h9.mono fun _ _ h => ⟨h.1, h.2 ▸ Below.refl _ _⟩
  have HSM : Hid (∀ W A1 c1 A2 c2, RdM W W.heap.size A1 M → RdM W W.heap.size A2 M → Calls Tryd.prog 11 #[.slice A1 n c1, .slice A2 n c2] W fun e w' => e = .returned (.bool true) ∧ Below W.heap.size W w') := fun W A1 c1 A2 c2 h1 h2 => by rw [hn]; exact HSA.out W A1 c1 A2 c2 M hm h1 h2
  have HSJ : Hid (∀ W A1 c1 A2 c2 (E : Mf), RdM W W.heap.size A1 (mtab n n E) → RdM W W.heap.size A2 (mtab n n E) → Calls Tryd.prog 11 #[.slice A1 n c1, .slice A2 n c2] W fun e w' => e = .returned (.bool true) ∧ Below W.heap.size W w') := fun W A1 c1 A2 c2 E h1 h2 => by
    have h9 := HSA.out W A1 c1 A2 c2 (mtab n n E) (by rw [mtab_length]; omega) h1 h2
    rw [mtab_length] at h9
    exact h9
  have HNO : Hid (∀ W g (E : Mf), Lt p n n E → RdM W W.heap.size (some ⟨g, 0, none⟩) (mtab n n E) → Calls Tryd.prog 17 #[.slice (some ⟨g, 0, none⟩) n n, .int .u32 (p : Int)] W fun e w' => ∃ A' c', e = .returned (.slice A' n c') ∧ RdM w' w'.heap.size A' (mtab n n E) ∧ Below W.heap.size W w') := fun W g E hE h => by
    have h9 := rnorm_any p (some ⟨g, 0, none⟩) n (mtab n n E) W _ hpr.pos hp h (Nat.le_refl _) (by rw [mtab_length]; omega) (fun r hr => by rw [mtab_rows r hr]; omega) (mtab_lt hE)
    rw [mtab_length] at h9
    exact h9.mono fun _ _ ⟨A', c', h1, h2, h3⟩ => ⟨A', c', h1, (h2.rd (Nat.le_refl _)).2.2, h3⟩
  have HMU : Hid (∀ W A1 c1 A2 c2 (E F : Mf), RdM W W.heap.size A1 (mtab n n E) → RdM W W.heap.size A2 (mtab n n F) → Calls Tryd.prog 18 #[.slice A1 n c1, .slice A2 n c2, .int .u32 (p : Int)] W fun e w' => ∃ A' c', e = .returned (.slice A' n c') ∧ RdM w' w'.heap.size A' (mtab n n (mlN p n E F)) ∧ Below W.heap.size W w') := fun W A1 c1 A2 c2 E F h1 h2 => (rmul_any p n A1 A2 c1 c2 E F W hpr.pos hp (by omega) h1 h2).mono fun _ _ ⟨A', c', h1, h2, h3⟩ => ⟨A', c', h1, (h2.rd (Nat.le_refl _)).2.2, h3⟩
  have HIS : Hid (∀ W g, RdM W W.heap.size (some ⟨g, 0, none⟩) (mtab n n x.h) → Calls Tryd.prog 13 #[.slice (some ⟨g, 0, none⟩) n n, .int .u32 (p : Int)] W fun e w' => e = .returned (.bool true) ∧ Below W.heap.size W w') := fun W g h => by
    refine (ris_any (some ⟨g, 0, none⟩) n p n (mtab n n x.h) W _ hpr.pos h (mtab_length _ _ _) (fun i hi => mtab_rows _ (List.getElem_mem hi)) (fun i k hi hk2 hki => ?_) (by omega)).mono fun _ _ h => ⟨h.1, h.2 ▸ Below.refl _ _⟩
    have hin : i < n := by rw [mtab_length] at hi; exact hi
    have hkn : k < n := by rw [mtab_rows _ (List.getElem_mem hi)] at hk2; exact hk2
    have e : (mtab n n x.h)[i][k] = x.h i k := by simp [mtab]
    rw [e]; exact s3 i k hin hki
  have HMm : Hid (∀ W A1, RdM W W.heap.size A1 M → RdM W W.heap.size A1 (mtab n n (en M))) := fun W A1 h => by rw [hMe]; exact h
  have HMh : Hid (∀ W A1, RdM W W.heap.size A1 (mtab n n (mlN p n (mlN p n x.r (en M)) x.s)) → RdM W W.heap.size A1 (mtab n n x.h)) := fun W A1 h => by rw [mtab_congr s2] at h; exact h
  have S1 : Hid (∀ i k, i < n → k < n → mlN p n x.s x.r i k = if i = k then 1 else 0) := s1
  have BH := Lib.hid bH
  have BS := Lib.hid bS
  have BR := Lib.hid bR
  have hp1 : 1 < p := hpr.two
  rw [← hn] at HCP hmi hn24 hn0 ⊢
  clear HSA hn hpr hrect hcs hxe bH bS bR s1 s2 s3 hw2 hMe
  have Rm := Lib.hid hr
  have HB0 : Hid (Below w.heap.size w w) := Below.refl _ _
  clear hr hx hm hwid hd hk
  go_enter Tryd.func4, Tryd.ntmps4
  go_upto_region 10 with (first
    | (go_at_call 7; (with_reducible refine (HCP.out _ (by first | exact Rm.out | exact Rm.out.drewS)).mono ?_); rintro _ w1z ⟨A5, c5, rfl, hr5, hb1⟩; have hx1 : Below w.heap.size w w1z := (by first | exact hb1 | exact (Below.refl _ _).drew.trans hb1); have HB1 := Lib.hid (HB0.out.trans (hx1.mono HB0.out.size)); have zR1_m := Lib.hid ((Rm.out.below hx1).mono hx1.size); have zR_g := Lib.hid hr5; clear hr5; clear hx1; clear Rm)
    | (go_at_call 16; (with_reducible refine (HRE.out _ _ _ (by first | exact HB1.out | exact HB1.out.drew) (by first | exact zR_g.out | exact zR_g.out.drewS)).mono ?_); rintro _ w2z ⟨gh, gs, gr, rfl, hrh, hrs, hrr, hb2⟩; have hx2 : Below w1z.heap.size w1z w2z := (by first | exact hb2 | exact (Below.refl _ _).drew.trans hb2); have HB2 := Lib.hid (HB1.out.trans (hx2.mono HB1.out.size)); have zR2_m := Lib.hid ((zR1_m.out.below hx2).mono hx2.size); have zR2_g := Lib.hid ((zR_g.out.below hx2).mono hx2.size); have zR_h := Lib.hid hrh; have zR_s := Lib.hid hrs; have zR_r := Lib.hid hrr; clear hrh hrs hrr; clear hx2; clear zR1_m zR_g)
    | (go_at_call 11; (with_reducible refine (HSM.out _ _ _ _ _ (by first | exact zR2_g.out | exact zR2_g.out.drewS) (by first | exact zR2_m.out | exact zR2_m.out.drewS)).mono ?_); rintro _ w3z ⟨rfl, hb3⟩; have hx3 : Below w2z.heap.size w2z w3z := (by first | exact hb3 | exact (Below.refl _ _).drew.trans hb3); have HB3 := Lib.hid (HB2.out.trans (hx3.mono HB2.out.size)); have zR3_m := Lib.hid ((zR2_m.out.below hx3).mono hx3.size); have zR3_g := Lib.hid ((zR2_g.out.below hx3).mono hx3.size); have zR3_h := Lib.hid ((zR_h.out.below hx3).mono hx3.size); have zR3_s := Lib.hid ((zR_s.out.below hx3).mono hx3.size); have zR3_r := Lib.hid ((zR_r.out.below hx3).mono hx3.size); clear hx3; clear zR2_m zR2_g zR_h zR_s zR_r)
    | (go_at_call 10; (with_reducible refine (HFI.out _ (by first | exact zR3_m.out | exact zR3_m.out.drewS)).mono ?_); rintro _ w4z ⟨rfl, hb4⟩; have hx4 : Below w3z.heap.size w3z w4z := (by first | exact hb4 | exact (Below.refl _ _).drew.trans hb4); have HB4 := Lib.hid (HB3.out.trans (hx4.mono HB3.out.size)); have zR4_m := Lib.hid ((zR3_m.out.below hx4).mono hx4.size); have zR4_g := Lib.hid ((zR3_g.out.below hx4).mono hx4.size); have zR4_h := Lib.hid ((zR3_h.out.below hx4).mono hx4.size); have zR4_s := Lib.hid ((zR3_s.out.below hx4).mono hx4.size); have zR4_r := Lib.hid ((zR3_r.out.below hx4).mono hx4.size); clear hx4; clear zR3_m zR3_g zR3_h zR3_s zR3_r))
  have HIX : Hid (∀ j : Nat, j < 3 → ∃ (gj : Nat) (E : Mf), (∀ W : World, (Instr.index 41 (.agg #[.slice (some ⟨gh, 0, none⟩) n n, .slice (some ⟨gs, 0, none⟩) n n, .slice (some ⟨gr, 0, none⟩) n n]) (.int .i64 (j : Int))).run Tryd.prog W = .ok (.slice (some ⟨gj, 0, none⟩) n n) W) ∧ RdM w4z w4z.heap.size (some ⟨gj, 0, none⟩) (mtab n n E) ∧ Lt p n n E) := fun j hj => by
    rcases j with _ | _ | _ | j
    · exact ⟨gh, x.h, fun W => by kernel_rfl, zR4_h.out, BH.out⟩
    · exact ⟨gs, x.s, fun W => by kernel_rfl, zR4_s.out, BS.out⟩
    · exact ⟨gr, x.r, fun W => by kernel_rfl, zR4_r.out, BR.out⟩
    · omega
  go_loopw [69] (fun jv wr => ∃ j : Nat, j ≤ 3 ∧ jv = .int .i64 (j : Int) ∧ Hid (Below w4z.heap.size w4z wr)) (fun jv _ => 3 - (intOf jv).toNat)
  case atStart => exact ⟨0, by omega, rfl, Below.refl _ _⟩
  case round =>
    obtain ⟨j, hj, rfl, hbj⟩ := hrel
    have HBJ := Lib.hid (HB4.out.trans (hbj.out.mono HB4.out.size))
    by_cases hj3 : j < 3
    · obtain ⟨gj, E, hix, hrj, hlj⟩ := HIX.out j hj3
      have Rj := Lib.hid ((hrj.below hbj.out).mono hbj.out.size)
      have HLJ := Lib.hid hlj
      have hq0 : Hid (Below wr.heap.size wr wr) := Below.refl _ _
      clear hrj hlj
      go_wp2_with (first
        | (go_at_call 10; (with_reducible refine (HFJ.out _ _ _ (by first | exact Rj.out | exact Rj.out.drewS)).mono ?_); rintro _ w30y ⟨rfl, hb30⟩; have hx30 : Below wr.heap.size wr w30y := (by first | exact hb30 | exact (Below.refl _ _).drew.trans hb30); have HB30 := Lib.hid (HBJ.out.trans (hx30.mono HBJ.out.size)); have yR30_j := Lib.hid ((Rj.out.below hx30).mono hx30.size); have Q30 : Hid (Below wr.heap.size wr w30y) := hq0.out.trans (hx30.mono hq0.out.size); clear hx30; clear Rj)
        | (go_at_call 17; (with_reducible refine (HNO.out _ _ _ HLJ.out (by first | exact yR30_j.out | exact yR30_j.out.drewS)).mono ?_); rintro _ w31y ⟨A31, c31, rfl, hr31, hb31⟩; have hx31 : Below w30y.heap.size w30y w31y := (by first | exact hb31 | exact (Below.refl _ _).drew.trans hb31); have HB31 := Lib.hid (HB30.out.trans (hx31.mono HB30.out.size)); have yR31_j := Lib.hid ((yR30_j.out.below hx31).mono hx31.size); have zR_n := Lib.hid hr31; clear hr31; have Q31 : Hid (Below wr.heap.size wr w31y) := Q30.out.trans (hx31.mono Q30.out.size); clear hx31; clear yR30_j)
        | (go_at_call 11; (with_reducible refine (HSJ.out _ _ _ _ _ _ (by first | exact yR31_j.out | exact yR31_j.out.drewS) (by first | exact zR_n.out | exact zR_n.out.drewS)).mono ?_); rintro _ w32y ⟨rfl, hb32⟩; have hx32 : Below w31y.heap.size w31y w32y := (by first | exact hb32 | exact (Below.refl _ _).drew.trans hb32); have HB32 := Lib.hid (HB31.out.trans (hx32.mono HB31.out.size)); have Q32 : Hid (Below wr.heap.size wr w32y) := Q31.out.trans (hx32.mono Q31.out.size); clear hx32))
      go_roundw
      case rel => exact ⟨j + 1, by omega, by go_num, hbj.out.trans (Q32.out.mono hbj.out.size)⟩
      case measure => simp [intOf]; omega
    · obtain rfl : j = 3 := by omega
      have Rm2 := Lib.hid ((zR4_m.out.below hbj.out).mono hbj.out.size)
      have Rg2 := Lib.hid ((zR4_g.out.below hbj.out).mono hbj.out.size)
      have Rh2 := Lib.hid ((zR4_h.out.below hbj.out).mono hbj.out.size)
      have Rs2 := Lib.hid ((zR4_s.out.below hbj.out).mono hbj.out.size)
      have Rr2 := Lib.hid ((zR4_r.out.below hbj.out).mono hbj.out.size)
      go_upto_region 17 with (go_at_call 18; (with_reducible refine (HMU.out _ _ _ _ _ _ _ (by first | exact Rs2.out | exact Rs2.out.drewS) (by first | exact Rr2.out | exact Rr2.out.drewS)).mono ?_); rintro _ w50v ⟨A50, c50, rfl, hr50, hb50⟩; have hx50 : Below wr.heap.size wr w50v := (by first | exact hb50 | exact (Below.refl _ _).drew.trans hb50); have HB50 := Lib.hid (HBJ.out.trans (hx50.mono HBJ.out.size)); have vR50_m := Lib.hid ((Rm2.out.below hx50).mono hx50.size); have vR50_g := Lib.hid ((Rg2.out.below hx50).mono hx50.size); have vR50_h := Lib.hid ((Rh2.out.below hx50).mono hx50.size); have vR50_s := Lib.hid ((Rs2.out.below hx50).mono hx50.size); have vR50_r := Lib.hid ((Rr2.out.below hx50).mono hx50.size); have zR_o := Lib.hid hr50; clear hr50; clear hx50; clear Rm2 Rg2 Rh2 Rs2 Rr2)
      go_loop [97] (fun iv => ∃ i : Nat, i ≤ n ∧ iv = .int .i64 (i : Int)) (fun iv => n - (intOf iv).toNat)
      case atStart => exact ⟨0, by omega, rfl⟩
      case round =>
        obtain ⟨i, hi, rfl⟩ := hrel
        by_cases hin : i < n
        · obtain ⟨b1, o1, Ai, ci, rfl, hb1, e1, _, _, r1⟩ := zR_o.out.at_ (i := i) (by rw [mtab_length]; exact hin)
          rw [mtab_get hin] at e1 r1
          rw [List.length_map, List.length_range] at e1
          have R1 := Lib.hid r1
          clear r1
          go_upto_region 20 with (fail)
          go_loop [105] (fun kv => ∃ k : Nat, k ≤ n ∧ kv = .int .i64 (k : Int)) (fun kv => n - (intOf kv).toNat)
          case atStart => exact ⟨0, by omega, rfl⟩
          case round =>
            obtain ⟨k, hk, rfl⟩ := hrel
            by_cases hkn : k < n
            · obtain ⟨b2, o2, rfl, hb2, e2⟩ := R1.out.at32 (k := k) (by simpa using hkn)
              have hv : ((List.range n).map (mlN p n x.s x.r i))[k]'(by simpa using hkn) = if i = k then 1 else 0 := by
                rw [List.getElem_map, List.getElem_range]; exact S1.out i k hin hkn
              rw [hv] at e2
              have t3 : (1 : Int) % (p : Int) = 1 := Int.emod_eq_of_lt (by omega) (by omega)
              have t4 : ((p : Int) == 0) = false := by simp; omega
              clear hv
              by_cases hik : i = k
              · subst hik
                rw [if_pos rfl] at e2
                have e2' : w50v.cell? ⟨b2, o2 + i, none⟩ = some (.int .u32 1) := e2
                have t1 : ((i : Int) == (i : Int)) = true := by simp
                have t2 : ((i : Int) != (i : Int)) = false := by simp
                clear e2
                go_wp2
                go_round
                case rel => exact ⟨i + 1, by omega, by go_num⟩
                case measure => simp [intOf]; omega
              · rw [if_neg hik] at e2
                have e2' : w50v.cell? ⟨b2, o2 + k, none⟩ = some (.int .u32 0) := e2
                have t1 : ((i : Int) == (k : Int)) = false := by simp; omega
                have t2 : ((i : Int) != (k : Int)) = true := by simp; omega
                clear e2
                go_wp2
                go_round
                case rel => exact ⟨k + 1, by omega, by go_num⟩
                case measure => simp [intOf]; omega
            · obtain rfl : k = n := by omega
              go_wp2
              go_round
              case rel => exact ⟨i + 1, by omega, by go_num⟩
              case measure => simp [intOf]; omega
        · obtain rfl : i = n := by omega
          go_wp2_with (first
            | (go_at_call 16; (with_reducible refine (HRE.out _ _ _ (by first | exact HB50.out | exact HB50.out.drew) (by first | exact vR50_g.out | exact vR50_g.out.drewS)).mono ?_); rintro _ w60u ⟨gh2, gs2, gr2, rfl, hrh, hrs, hrr, hb60⟩; have hx60 : Below w50v.heap.size w50v w60u := (by first | exact hb60 | exact (Below.refl _ _).drew.trans hb60); have HB60 := Lib.hid (HB50.out.trans (hx60.mono HB50.out.size)); have uR60_m := Lib.hid ((vR50_m.out.below hx60).mono hx60.size); have uR60_g := Lib.hid ((vR50_g.out.below hx60).mono hx60.size); have uR60_h := Lib.hid ((vR50_h.out.below hx60).mono hx60.size); have uR60_s := Lib.hid ((vR50_s.out.below hx60).mono hx60.size); have uR60_r := Lib.hid ((vR50_r.out.below hx60).mono hx60.size); have zR_h2 := Lib.hid hrh; have zR_s2 := Lib.hid hrs; have zR_r2 := Lib.hid hrr; clear hrh hrs hrr; clear hx60; clear vR50_m vR50_g vR50_h vR50_s vR50_r)
            | (go_at_call 11; (with_reducible refine (HSJ.out _ _ _ _ _ _ (by first | exact zR_h2.out | exact zR_h2.out.drewS) (by first | exact uR60_h.out | exact uR60_h.out.drewS)).mono ?_); rintro _ w61u ⟨rfl, hb61⟩; have hx61 : Below w60u.heap.size w60u w61u := (by first | exact hb61 | exact (Below.refl _ _).drew.trans hb61); have HB61 := Lib.hid (HB60.out.trans (hx61.mono HB60.out.size)); have uR61_m := Lib.hid ((uR60_m.out.below hx61).mono hx61.size); have uR61_g := Lib.hid ((uR60_g.out.below hx61).mono hx61.size); have uR61_h := Lib.hid ((uR60_h.out.below hx61).mono hx61.size); have uR61_s := Lib.hid ((uR60_s.out.below hx61).mono hx61.size); have uR61_r := Lib.hid ((uR60_r.out.below hx61).mono hx61.size); have uR61_h2 := Lib.hid ((zR_h2.out.below hx61).mono hx61.size); have uR61_s2 := Lib.hid ((zR_s2.out.below hx61).mono hx61.size); have uR61_r2 := Lib.hid ((zR_r2.out.below hx61).mono hx61.size); clear hx61; clear uR60_m uR60_g uR60_h uR60_s uR60_r zR_h2 zR_s2 zR_r2)
            | (go_at_call 11; (with_reducible refine (HSJ.out _ _ _ _ _ _ (by first | exact uR61_s2.out | exact uR61_s2.out.drewS) (by first | exact uR61_s.out | exact uR61_s.out.drewS)).mono ?_); rintro _ w62u ⟨rfl, hb62⟩; have hx62 : Below w61u.heap.size w61u w62u := (by first | exact hb62 | exact (Below.refl _ _).drew.trans hb62); have HB62 := Lib.hid (HB61.out.trans (hx62.mono HB61.out.size)); have uR62_m := Lib.hid ((uR61_m.out.below hx62).mono hx62.size); have uR62_g := Lib.hid ((uR61_g.out.below hx62).mono hx62.size); have uR62_h := Lib.hid ((uR61_h.out.below hx62).mono hx62.size); have uR62_s := Lib.hid ((uR61_s.out.below hx62).mono hx62.size); have uR62_r := Lib.hid ((uR61_r.out.below hx62).mono hx62.size); have uR62_h2 := Lib.hid ((uR61_h2.out.below hx62).mono hx62.size); have uR62_s2 := Lib.hid ((uR61_s2.out.below hx62).mono hx62.size); have uR62_r2 := Lib.hid ((uR61_r2.out.below hx62).mono hx62.size); clear hx62; clear uR61_m uR61_g uR61_h uR61_s uR61_r uR61_h2 uR61_s2 uR61_r2)
            | (go_at_call 11; (with_reducible refine (HSJ.out _ _ _ _ _ _ (by first | exact uR62_r2.out | exact uR62_r2.out.drewS) (by first | exact uR62_r.out | exact uR62_r.out.drewS)).mono ?_); rintro _ w63u ⟨rfl, hb63⟩; have hx63 : Below w62u.heap.size w62u w63u := (by first | exact hb63 | exact (Below.refl _ _).drew.trans hb63); have HB63 := Lib.hid (HB62.out.trans (hx63.mono HB62.out.size)); have uR63_m := Lib.hid ((uR62_m.out.below hx63).mono hx63.size); have uR63_g := Lib.hid ((uR62_g.out.below hx63).mono hx63.size); have uR63_h := Lib.hid ((uR62_h.out.below hx63).mono hx63.size); have uR63_s := Lib.hid ((uR62_s.out.below hx63).mono hx63.size); have uR63_r := Lib.hid ((uR62_r.out.below hx63).mono hx63.size); clear hx63; clear uR62_m uR62_g uR62_h uR62_s uR62_r)
            | (go_at_call 13; (with_reducible refine (HIS.out _ _ (by first | exact uR63_h.out | exact uR63_h.out.drewS)).mono ?_); rintro _ w64u ⟨rfl, hb64⟩; have hx64 : Below w63u.heap.size w63u w64u := (by first | exact hb64 | exact (Below.refl _ _).drew.trans hb64); have HB64 := Lib.hid (HB63.out.trans (hx64.mono HB63.out.size)); have uR64_m := Lib.hid ((uR63_m.out.below hx64).mono hx64.size); have uR64_g := Lib.hid ((uR63_g.out.below hx64).mono hx64.size); have uR64_h := Lib.hid ((uR63_h.out.below hx64).mono hx64.size); have uR64_s := Lib.hid ((uR63_s.out.below hx64).mono hx64.size); have uR64_r := Lib.hid ((uR63_r.out.below hx64).mono hx64.size); clear hx64; clear uR63_m uR63_g uR63_h uR63_s uR63_r)
            | (go_at_call 18; (with_reducible refine (HMU.out _ _ _ _ _ _ _ (by first | exact uR64_r.out | exact uR64_r.out.drewS) (HMm.out _ _ (by first | exact uR64_m.out | exact uR64_m.out.drewS))).mono ?_); rintro _ w65u ⟨A60, c60, rfl, hr60, hb65⟩; have hx65 : Below w64u.heap.size w64u w65u := (by first | exact hb65 | exact (Below.refl _ _).drew.trans hb65); have HB65 := Lib.hid (HB64.out.trans (hx65.mono HB64.out.size)); have uR65_m := Lib.hid ((uR64_m.out.below hx65).mono hx65.size); have uR65_g := Lib.hid ((uR64_g.out.below hx65).mono hx65.size); have uR65_h := Lib.hid ((uR64_h.out.below hx65).mono hx65.size); have uR65_s := Lib.hid ((uR64_s.out.below hx65).mono hx65.size); have uR65_r := Lib.hid ((uR64_r.out.below hx65).mono hx65.size); have zR_a := Lib.hid hr60; clear hr60; clear hx65; clear uR64_m uR64_g uR64_h uR64_s uR64_r)
            | (go_at_call 18; (with_reducible refine (HMU.out _ _ _ _ _ _ _ (by first | exact zR_a.out | exact zR_a.out.drewS) (by first | exact uR65_s.out | exact uR65_s.out.drewS)).mono ?_); rintro _ w66u ⟨A61, c61, rfl, hr61, hb66⟩; have hx66 : Below w65u.heap.size w65u w66u := (by first | exact hb66 | exact (Below.refl _ _).drew.trans hb66); have HB66 := Lib.hid (HB65.out.trans (hx66.mono HB65.out.size)); have uR66_m := Lib.hid ((uR65_m.out.below hx66).mono hx66.size); have uR66_g := Lib.hid ((uR65_g.out.below hx66).mono hx66.size); have uR66_h := Lib.hid ((uR65_h.out.below hx66).mono hx66.size); have uR66_s := Lib.hid ((uR65_s.out.below hx66).mono hx66.size); have uR66_r := Lib.hid ((uR65_r.out.below hx66).mono hx66.size); have uR66_a := Lib.hid ((zR_a.out.below hx66).mono hx66.size); have zR_b := Lib.hid (HMh.out _ _ hr61); clear hr61; clear hx66; clear uR65_m uR65_g uR65_h uR65_s uR65_r zR_a)
            | (go_at_call 11; (with_reducible refine (HSJ.out _ _ _ _ _ _ (by first | exact zR_b.out | exact zR_b.out.drewS) (by first | exact uR66_h.out | exact uR66_h.out.drewS)).mono ?_); rintro _ w67u ⟨rfl, hb67⟩; have hx67 : Below w66u.heap.size w66u w67u := (by first | exact hb67 | exact (Below.refl _ _).drew.trans hb67); have HB67 := Lib.hid (HB66.out.trans (hx67.mono HB66.out.size)); have uR67_m := Lib.hid ((uR66_m.out.below hx67).mono hx67.size); have uR67_g := Lib.hid ((uR66_g.out.below hx67).mono hx67.size); have uR67_h := Lib.hid ((uR66_h.out.below hx67).mono hx67.size); have uR67_s := Lib.hid ((uR66_s.out.below hx67).mono hx67.size); have uR67_r := Lib.hid ((uR66_r.out.below hx67).mono hx67.size); clear hx67; clear uR66_m uR66_g uR66_h uR66_s uR66_r)
            | (go_at_call 12; (with_reducible refine (HAW.out _ (by first | exact HB67.out | exact HB67.out.drew)).mono ?_); rintro _ w68u ⟨rfl, hb68⟩; have hx68 : Below w67u.heap.size w67u w68u := (by first | exact hb68 | exact (Below.refl _ _).drew.trans hb68); have HB68 := Lib.hid (HB67.out.trans (hx68.mono HB67.out.size)); clear hx68))
          go_ret
          exact ⟨rfl, HB68.out⟩

theorem hessReduces_walk (A : Option Addr) (c p : Nat) (M : List (List Nat)) (w : World) (hx : Bx w) (hp : p < 4294967296) (hr : RdM w w.heap.size A M) (hm : M.length ≤ 1048576) (hwid : ∀ r ∈ M, r.length ≤ 1048576) (hd : DigM 4294967296 M) :
    Calls Tryd.prog 4 #[.slice A M.length c, .int .u32 (p : Int)] w fun e w' => e = .returned (.bool true) ∧ Below w.heap.size w w' := by
  obtain ⟨k, hk⟩ := Ft.ex p M
  by_cases h0 : k = 0
  · subst h0; exact hessReduces_ok A c p M w hx hp hr hm hwid hd hk
  · exact hessReduces_bad A c p M w hx hp hr hm hwid hd k hk h0
end Go.Proofs.YtbafiahmcfkboaaDoor
