/- ModmatKernels and ModmatStays answer true. Conditions: bases reads 2, 7, 61; the sizes. Determinants over Z modulo a number: by the first column; linear and alternating in the rows. No conditions. The determinant that elimination tells is the one by the first column; it is multiplicative; when a matrix has an inverse. Conditions: p a prime. Inverses from both sides, and determinants of products, as numbers. Conditions: p a prime. -/
import Derived.Test.YtecdjanopiibcaaDoorPkD21
import Derived.Test.YtecdjanopiibcaaDoorPkD18
import Derived.Test.YtecdjanopiibcaaDoorPkD13
namespace Go.Proofs.YtecdjanopiibcaaDoor
section
open Go.RowKit

/-- The rows of one matrix of one's own put behind those of another. -/
theorem app_mats (w : World) (B U B2 U2 : Nat) (v : Value) (A2 : Option Addr) (c2 : Nat) (M R : List (List Nat)) (h1 : OwA w B U v M) (h2 : OwA w B2 U2 (.slice A2 R.length c2) R) (hB : B ≤ w.heap.size) (hM : M.length ≤ 1099511627776) (hR : R.length ≤ 1099511627776) :
    ∃ A' c' w', (Builtin.append_ #[26, 26] 26 #[v, .slice A2 R.length c2]).run Tryd.prog w = .ok (.slice A' (M.length + R.length) c') w' ∧ RdM w' w'.heap.size A' (M ++ R) ∧ M.length + R.length ≤ c' ∧ Below B w w' := by
  obtain ⟨hs1, hl1, r1, q1, u1, _⟩ := h1
  obtain ⟨hs2, hl2, r2, q2, u2, _⟩ := h2
  obtain ⟨i0, hi, hz0, hz1, hz2⟩ := info_parts Tryd.infoRow
  have hd1 := hdrs_length hl1
  have hd2 := hdrs_length hl2
  obtain ⟨_, _, hrd2⟩ := r2.rd
  obtain ⟨A', c', w', hrun, g3, g4⟩ := ro_app (P := Tryd.prog) w B 26 26 37 i0 (.slice none 0 0) 24 Tryd.underlying26 hi hz0 hz1 hz2 rfl v (hdrs hs1 M) r1 A2 R.length c2 _ (hdrs hs2 R) hrd2 hd2 hdrs_one (by rw [hd1]; unfold maxLen; omega) (by rw [hd1]; omega) hB
  have e1 : hdrs hs1 M ++ hdrs hs2 R = hdrs (hs1 ++ hs2) (M ++ R) := by
    unfold hdrs
    rw [List.zipWith_append hl1]
  have hl2' : (hdrs hs1 M ++ hdrs hs2 R).length = M.length + R.length := by rw [List.length_append, hd1, hd2]
  rw [hl2'] at hrun g3
  rw [e1] at g3
  have hll : (hs1 ++ hs2).length = (M ++ R).length := by rw [List.length_append, List.length_append, hl1, hl2]
  have hrow : ∀ k, v.ownBlock = some k → ∃ us, Blk w k 37 us := r1.rowBlk
  have hf := RdM.ofRo hll g3 (fun i h => by
    by_cases hiM : i < M.length
    · have hih : i < hs1.length := hl1 ▸ hiM
      simp only [List.getElem_append_left hiM, List.getElem_append_left hih]
      have hq := q1 i hiM
      have a1 := hq.1
      have a2 := hq.2.1
      rw [u32s_length] at a1 a2
      exact ⟨a1, a2, (hq.grown g4 hrow (by decide)).rd⟩
    · have hiR : i - M.length < R.length := by rw [List.length_append] at h; omega
      have hih : i - hs1.length < hs2.length := by rw [hl1, hl2]; exact hiR
      have e2 : (M ++ R)[i] = R[i - M.length] := List.getElem_append_right (by omega)
      have e3 : (hs1 ++ hs2)[i]'(hll ▸ h) = hs2[i - hs1.length] := List.getElem_append_right (by omega)
      have e4 : hs2[i - hs1.length] = hs2[i - M.length]'(by rw [hl2]; exact hiR) := by congr 1; omega
      have hq := q2 (i - M.length) hiR
      have a1 := hq.1
      have a2 := hq.2.1
      rw [u32s_length] at a1 a2
      rw [e2, e3, e4]
      exact ⟨a1, a2, (hq.grown g4 hrow (by decide)).rd⟩)
  obtain ⟨_, k2, k3⟩ := hf
  rw [List.length_append] at k2
  exact ⟨A', c', w', hrun, k3, k2, below_grown' g4 r1.block hB⟩

theorem RdM.drS {w w' : World} {A : Option Addr} {M : List (List Nat)} (h : RdM w w.heap.size A M) (hd : Dr w w') : RdM w' w'.heap.size A M := (h.dr hd).mono (Nat.le_of_eq (by rw [hd.heap]))
theorem Rd.drS {w w' : World} {A : Option Addr} {l : List Value} (h : Rd w w.heap.size A l) (hd : Dr w w') : Rd w' w'.heap.size A l := (h.dr hd).mono (Nat.le_of_eq (by rw [hd.heap]))
theorem comes_rows {p : Nat} {A : Option Addr} {c : Nat} {M : List (List Nat)} {w : World} {n : Nat} (hp : p < 4294967296) (hb : Bases w) (hc : M.length ≤ c) (hr : RdM w w.heap.size A M) (hg : Good p n M) (hm : M.length ≤ 1099511627776) (hn : n ≤ 1099511627776) : Comes p A c M w :=
  ⟨hp, hb, hr, hc, ⟨fun r h x hx => Nat.lt_trans (hg.dig r h x hx) hp, hm, by
    by_cases h : 0 < M.length
    · rw [good_cols hg h]; omega
    · have : M = [] := List.eq_nil_of_length_eq_zero (by omega)
      subst this; simp [cols]⟩, fun r h => by rw [hg.wid r h]; exact hn⟩
theorem Comes.wid {p : Nat} {A : Option Addr} {c : Nat} {M : List (List Nat)} {w : World} (h : Comes p A c M w) : cols M ≤ 1099511627776 := by
  cases M with
  | nil => simp [cols]
  | cons r rs => exact h.row r (by simp)

set_option maxHeartbeats 3200000 in
set_option maxRecDepth 100000 in
theorem modmatStays_walk (p : Nat) (A : Option Addr) (c : Nat) (M : List (List Nat)) (w : World) (h : Comes p A c M w) (hm1 : M.length ≤ 549755813888) :
    Calls Tryd.prog 10 #[.slice A M.length c, .int .u32 (p : Int)] w fun r w' => r = .returned (.bool true) ∧ Below w.heap.size w w' := by
  have Haw : Hid (∀ W, Below w.heap.size w W → Calls Tryd.prog 12 #[] W fun r w' => r = .returned (.bool true) ∧ Below W.heap.size W w') := fun W hW => lawake_any W (h.bas.below hW h.bas.lt)
  have Hn := Lib.hid (fun k W => lnum_any k W)
  rcases h.rdCases with ⟨code, hc, hf, herr⟩ | ⟨hf, hT⟩
  · have Hre := Lib.hid (reduceA_err p A M.length c w code hc herr)
    have t1 : (code != 0) = true := hc
    clear hf h herr hc
    go_enter Tryd.func10, Tryd.ntmps10
    go_wp2_with (first
      | (go_at_call 23; (with_reducible refine Hre.out.mono ?_); rintro e w1 ⟨rfl, hb1⟩)
      | (go_at_call 11; (with_reducible refine (Hn.out _ _).mono ?_); rintro e w1 ⟨rfl, rfl⟩)
      | (go_at_call 12; (with_reducible refine (Haw.out _ hb1).mono ?_); rintro e w7 ⟨rfl, hb⟩; have hb7 := hb1.trans (hb.mono hb1.size); clear hb))
    go_ret
    exact ⟨rfl, hb7⟩
  · have hpr := hT.pr
    have hrect := hT.rect
    have hlt := h.lt
    have hwid := h.wid
    haveI : NeZero p := ⟨by have := hpr.pos; omega⟩
    have hrd := rdc_mod hpr M
    have hst := redN_stays hpr M
    have hbelow := rank_below hpr hrect
    have hRl : (redN p (modN p M)).1.length = M.length := by rw [hrd.len, modN_length]
    have hPl : (redN p (modN p M)).2.length ≤ M.length := by have := hrd.few; rw [modN_length] at this; exact this
    have hgR := hrd.good
    have hrank : rankN p M = (redN p (modN p M)).2.length := rfl
    rw [hrank] at hbelow
    have Hre := Lib.hid (reduceA_ok p A c M w w.heap.size hT)
    obtain ⟨R, hR⟩ : ∃ R, R = (redN p (modN p M)).1 := ⟨_, rfl⟩
    obtain ⟨P, hP⟩ : ∃ P, P = (redN p (modN p M)).2 := ⟨_, rfl⟩
    rw [← hR, ← hP] at Hre hst
    rw [← hR] at hRl hgR hbelow
    rw [← hP] at hPl hbelow
    have Hre2 : Hid (∀ A' c' W, RdM W W.heap.size A' R → M.length ≤ c' → Below w.heap.size w W → Calls Tryd.prog 23 #[.slice A' M.length c', .int .u32 (p : Int)] W fun e w' => ∃ A1 A2 c2, e = .returned (.tuple #[.slice A1 M.length M.length, .slice A2 P.length c2, .int .i64 0]) ∧ RdM w' w'.heap.size A1 R ∧ Rd w' w'.heap.size A2 (ints P) ∧ Below W.heap.size W w') := fun A' c' W k1 k2 k3 => by
      have hC : Comes p A' c' R W := comes_rows hlt (h.bas.below k3 h.bas.lt) (by rw [hRl]; exact k2) k1 hgR (by rw [hRl]; omega) hwid
      have h9 := reduceA_ok p A' c' R W W.heap.size (hC.takes hpr (good_rect hgR))
      rw [hst, hRl] at h9
      exact h9.mono fun e w' ⟨A1, A2, c2, q1, q2, q3, _, q4⟩ => ⟨A1, A2, c2, q1, q2, q3, q4⟩
    have Hra : Hid (∀ A' c' W, RdM W W.heap.size A' (M ++ R) → M.length + M.length ≤ c' → Below w.heap.size w W → Calls Tryd.prog 24 #[.slice A' (M.length + M.length) c', .int .u32 (p : Int)] W fun e w' => e = .returned (.tuple #[.int .i64 (P.length : Int), .int .i64 0]) ∧ Below W.heap.size W w') := fun A' c' W k1 k2 k3 => by
      have hwM : ∀ r ∈ M ++ R, r.length = cols M := fun r hr => by
        rcases List.mem_append.1 hr with hr | hr
        · exact hrect r hr
        · exact hgR.wid r hr
      have hdM : DigM 4294967296 (M ++ R) := fun r hr x hx => by
        rcases List.mem_append.1 hr with hr | hr
        · exact h.sz.dig r hr x hx
        · exact Nat.lt_trans (hgR.dig r hr x hx) hlt
      have hg : Good 4294967296 (cols M) (M ++ R) := ⟨hwM, hdM⟩
      have hl : (M ++ R).length = M.length + M.length := by rw [List.length_append, hRl]
      have hC : Comes p A' c' (M ++ R) W := ⟨hlt, h.bas.below k3 h.bas.lt, k1, by rw [hl]; exact k2, ⟨hdM, by rw [hl]; omega, by
        by_cases h0 : 0 < (M ++ R).length
        · rw [good_cols hg h0]; omega
        · have : M ++ R = [] := List.eq_nil_of_length_eq_zero (by omega)
          rw [this]; simp [cols]⟩, fun r hr => by rw [hwM r hr]; exact hwid⟩
      have h9 := rank_ok p A' c' (M ++ R) W W.heap.size (hC.takes hpr (good_rect hg))
      have e9 : (redN p (modN p (M ++ R))).2.length = P.length := hbelow
      rw [e9, hl] at h9
      exact h9
    have Hown : Hid (∀ A' c' W (X : List (List Nat)), RdM W W.heap.size A' X → X.length ≤ 1099511627776 → (∀ r ∈ X, r.length ≤ 1099511627776) → Calls Tryd.prog 22 #[.slice A' X.length c'] W fun e w' => ∃ A1 c1, e = .returned (.slice A1 X.length c1) ∧ OwA w' W.heap.size w'.heap.size (.slice A1 X.length c1) X ∧ Below W.heap.size W w') := fun A' c' W X k1 k2 k3 => own_any A' c' X W W.heap.size k1 (Nat.le_refl _) k2 (fun r hr => by have := k3 r hr; omega)
    have Hme : Hid (∀ W, Below w.heap.size w W → RdM W W.heap.size A M) := fun W hW => (h.below hW).rd
    have hMr := h.row
    have hRr : ∀ r ∈ R, r.length ≤ 1099511627776 := fun r hr => by rw [hgR.wid r hr]; exact hwid
    have hPm : P.length ≤ 281474976710656 := by omega
    have hRm : R.length ≤ 281474976710656 := by omega
    have HownM : Hid (∀ W, Below w.heap.size w W → Calls Tryd.prog 22 #[.slice A M.length c] W fun e w' => ∃ A1 c1, e = .returned (.slice A1 M.length c1) ∧ OwA w' W.heap.size w'.heap.size (.slice A1 M.length c1) M ∧ Below W.heap.size W w') := fun W hW => Hown.out A c W M (Hme.out W hW) (by omega) hMr
    have HownR : Hid (∀ A' W, RdM W W.heap.size A' R → Calls Tryd.prog 22 #[.slice A' M.length M.length] W fun e w' => ∃ A1 c1, e = .returned (.slice A1 M.length c1) ∧ OwA w' W.heap.size w'.heap.size (.slice A1 M.length c1) R ∧ Below W.heap.size W w') := fun A' W k1 => by
      have h9 := Hown.out A' M.length W R k1 (by rw [hRl]; omega) hRr
      rw [hRl] at h9
      exact h9
    have Happ : Hid (∀ W A1 c1 A2 c2 B B2 U U2, OwA W B U (.slice A1 M.length c1) M → OwA W B2 U2 (.slice A2 M.length c2) R → B ≤ W.heap.size → ∃ A' c' w', (Builtin.append_ #[26, 26] 26 #[.slice A1 M.length c1, .slice A2 M.length c2]).run Tryd.prog W = .ok (.slice A' (M.length + M.length) c') w' ∧ RdM w' w'.heap.size A' (M ++ R) ∧ M.length + M.length ≤ c' ∧ Below B W w') := fun W A1 c1 A2 c2 B B2 U U2 k1 k2 k3 => by
      have h9 := app_mats W B U B2 U2 (.slice A1 M.length c1) A2 c2 M R k1 (by rw [hRl]; exact k2) k3 (by omega) (by omega)
      rw [hRl] at h9
      exact h9
    have HRl := Lib.hid hRl
    have t5 : ((M.length : Int) != (M.length : Int)) = false := by simp
    have t6 : ((P.length : Int) == (P.length : Int)) = true := by simp
    clear hf h hT hrect hR hP hrd hst hbelow hgR hMr hRr Hown hrank hRl
    go_enter Tryd.func10, Tryd.ntmps10
    go_wp2_with (first
      | (go_at_call_of 23 (Value.slice A M.length c); (with_reducible refine Hre.out.mono ?_); rintro e w1 ⟨A1, A2, c2, rfl, hr1, hr2, hc2, hb1⟩; have Hre3 := Lib.hid (Hre2.out A1 M.length w1 hr1 (Nat.le_refl _) hb1))
      | (go_at_call 11; (with_reducible refine (Hn.out _ _).mono ?_); rintro e w9 ⟨rfl, rfl⟩)
      | (go_at_call 23; (with_reducible refine Hre3.out.mono ?_); rintro e w2 ⟨A3, A4, c4, rfl, hr3, hr4, hb⟩; have hb2 := hb1.trans (hb.mono hb1.size); have hr1 := (hr1.below hb).mono hb.size; have hr2 := (hr2.below hb).mono hb.size; clear hb; have Hsa := Lib.hid (lsame_any A1 A3 M.length M.length R R w2 _ _ hr1 hr3 hRm hRm true (by simp)); rw [HRl.out] at Hsa)
      | (go_at_call 30; (with_reducible refine Hsa.out.mono ?_); rintro e w3 ⟨rfl, hd⟩; have hb3 := hb2.trans (hd.below _); have hr1 := hr1.drS hd; have Hin := Lib.hid (ints_same A2 A4 c2 c4 P w3 _ _ (hr2.dr hd) (hr4.dr hd) hPm); clear hd)
      | (go_at_call 28; (with_reducible refine Hin.out.mono ?_); rintro e w4 ⟨rfl, hd⟩; have hb4 := hb3.trans (hd.below _); have hr1 := hr1.drS hd; clear hd)
      | (go_at_call_of 22 (Value.slice A M.length c); (with_reducible refine (HownM.out _ hb4).mono ?_); rintro e w5 ⟨A5, c5, rfl, ho5, hb⟩; have hb5 := hb4.trans (hb.mono hb4.size); have hr1 := (hr1.below hb).mono hb.size; have hB5 := hb.size; clear hb)
      | (go_at_call 22; (with_reducible refine (HownR.out _ _ hr1).mono ?_); rintro e w6 ⟨A6, c6, rfl, ho6, hb⟩; have hb6 := hb5.trans (hb.mono hb5.size); obtain ⟨A7, c7, w7, hrun7, hr7, hc7, hb7⟩ := Happ.out _ _ _ _ _ _ _ _ _ (ho5.below hb (Nat.le_refl _)) ho6 (Nat.le_trans hB5 hb.size); have Hrun := Lib.hid hrun7; clear hrun7; have hb8 := hb6.trans (hb7.mono hb4.size); have Hrk := Lib.hid (Hra.out _ _ _ hr7 hc7 hb8); clear hb)
      | (at_builtin; refine wpList_append_run rfl _ _ _ _ rfl _ _ rfl rfl _ _ Hrun.out ?_)
      | (go_at_call 24; (with_reducible refine Hrk.out.mono ?_); rintro e w9 ⟨rfl, hb⟩; have hb9 := hb8.trans (hb.mono hb8.size); clear hb)
      | (go_at_call 12; (with_reducible refine (Haw.out _ hb9).mono ?_); rintro e w12 ⟨rfl, hb⟩; have hb12 := hb9.trans (hb.mono hb9.size); clear hb))
    go_ret
    exact ⟨rfl, hb12⟩

theorem kerUp_dig {p : Nat} (hp : 1 < p) (R : List (List Nat)) (P : List Nat) (n : Nat) : ∀ c, ∀ r ∈ kerUp p R P n c, ∀ x ∈ r, x < p
  | 0, r, h => by cases h
  | c + 1, r, h => by
    rw [kerUp] at h
    split at h
    · exact kerUp_dig hp R P n c r h
    · rcases List.mem_append.1 h with h | h
      · exact kerUp_dig hp R P n c r h
      · rw [List.mem_singleton.1 h]
        exact kerTo_lt hp R P c n _

set_option maxHeartbeats 3200000 in
set_option maxRecDepth 100000 in
theorem modmatKernels_walk (p : Nat) (A : Option Addr) (c : Nat) (M : List (List Nat)) (w : World) (h : Comes p A c M w) :
    Calls Tryd.prog 9 #[.slice A M.length c, .int .u32 (p : Int)] w fun r w' => r = .returned (.bool true) ∧ Below w.heap.size w w' := by
  have Haw : Hid (∀ W, Below w.heap.size w W → Calls Tryd.prog 12 #[] W fun r w' => r = .returned (.bool true) ∧ Below W.heap.size W w') := fun W hW => lawake_any W (h.bas.below hW h.bas.lt)
  have Hn := Lib.hid (fun k W => lnum_any k W)
  rcases h.rdCases with ⟨code, hc, hf, herr⟩ | ⟨hf, hT⟩
  · have Hke := Lib.hid (kernelA_err p A M.length c w code hc herr)
    have Hra : Hid (∀ W, Below w.heap.size w W → Calls Tryd.prog 24 #[.slice A M.length c, .int .u32 (p : Int)] W fun e w' => e = .returned (.tuple #[.int .i64 0, .int .i64 code]) ∧ Below W.heap.size W w') := fun W hW => rank_err p A M.length c W code hc (herr.at_ hW)
    have t1 : (code != 0) = true := hc
    have t2 : (code == code) = true := by simp
    clear hf h herr hc
    go_enter Tryd.func9, Tryd.ntmps9
    go_wp2_with (first
      | (go_at_call 25; (with_reducible refine Hke.out.mono ?_); rintro e w1 ⟨rfl, hb1⟩)
      | (go_at_call 24; (with_reducible refine (Hra.out _ hb1).mono ?_); rintro e w2 ⟨rfl, hb⟩; have hb2 := hb1.trans (hb.mono hb1.size); clear hb)
      | (go_at_call 11; (with_reducible refine (Hn.out _ _).mono ?_); rintro e w2 ⟨rfl, rfl⟩)
      | (go_at_call 12; (with_reducible refine (Haw.out _ hb2).mono ?_); rintro e w7 ⟨rfl, hb⟩; have hb7 := hb2.trans (hb.mono hb2.size); clear hb))
    go_ret
    exact ⟨rfl, hb7⟩
  · have hpr := hT.pr
    have hrect := hT.rect
    have hlt := h.lt
    have hwid := h.wid
    have hrows := h.sz.rows
    have hm : M.length ≤ 281474976710656 := by omega
    haveI : NeZero p := ⟨by have := hpr.pos; omega⟩
    have hrd := rdc_mod hpr M
    have htr := rank_tr hpr hrect
    have hPl : (redN p (modN p M)).2.length ≤ cols M := by
      have he := hrd.ech
      refine Nat.le_of_not_lt fun hgt => ?_
      have h1 : cols M < (redN p (modN p M)).2.length := hgt
      have up : ∀ d (h : d < (redN p (modN p M)).2.length), d ≤ (redN p (modN p M)).2[d] := by
        intro d
        induction d with
        | zero => intro _; exact Nat.zero_le _
        | succ d ih =>
          intro hd
          have h2 := ih (by omega)
          have h3 := he.rise d (d + 1) (by omega) hd (by omega)
          omega
      have h2 := up (cols M) h1
      have h3 := he.lt (cols M) h1
      omega
    have hcount := kerUp_count (p := p) hrd.ech
    have hkdot : ∀ x ∈ kerUp p (redN p (modN p M)).1 (redN p (modN p M)).2 (cols M) (cols M), ∀ r ∈ M, x.length = cols M ∧ dotS r x % p = 0 := fun x hx r hr => kernel_dot hpr hrect hx hr
    have hklen : ∀ x ∈ kerUp p (redN p (modN p M)).1 (redN p (modN p M)).2 (cols M) (cols M), x.length = cols M := by
      have key : ∀ c, ∀ x ∈ kerUp p (redN p (modN p M)).1 (redN p (modN p M)).2 (cols M) c, x.length = cols M := by
        intro c
        induction c with
        | zero => intro x hx; cases hx
        | succ c ih =>
          intro x hx
          rw [kerUp] at hx
          split at hx
          · exact ih x hx
          · rcases List.mem_append.1 hx with hx | hx
            · exact ih x hx
            · rw [List.mem_singleton.1 hx]; exact kerTo_length _ _ _ _ _ _
      exact key _
    have hkdig := kerUp_dig hpr.1 (redN p (modN p M)).1 (redN p (modN p M)).2 (cols M) (cols M)
    have Hke := Lib.hid (kernelA_ok p A c M w w.heap.size hT hwid)
    have Hra : Hid (∀ W, Below w.heap.size w W → Calls Tryd.prog 24 #[.slice A M.length c, .int .u32 (p : Int)] W fun e w' => e = .returned (.tuple #[.int .i64 ((redN p (modN p M)).2.length : Int), .int .i64 0]) ∧ Below W.heap.size W w') := fun W hW => rank_ok p A c M W w.heap.size (hT.below hW)
    have Htp : Hid (∀ W, Below w.heap.size w W → Calls Tryd.prog 35 #[.slice A M.length c, .int .u32 (p : Int)] W fun e w' => ∃ A', e = .returned (.tuple #[.slice A' (cols M) (cols M), .int .i64 0]) ∧ RdM w' w'.heap.size A' (trN (modN p M)) ∧ Below W.heap.size W w') := fun W hW => transposeA_ok p A c M W w.heap.size (hT.below hW)
    have hgT : Good p M.length (trN (modN p M)) := by
      unfold trN
      rw [modN_length]
      exact mtab_good fun i k _ _ => (modN_good hpr.pos M).ent_lt hpr.pos _ _
    have hTl : (trN (modN p M)).length = cols M := by unfold trN; rw [mtab_length, modN_cols]
    have Hra2 : Hid (∀ A' W, RdM W W.heap.size A' (trN (modN p M)) → Below w.heap.size w W → Calls Tryd.prog 24 #[.slice A' (cols M) (cols M), .int .u32 (p : Int)] W fun e w' => e = .returned (.tuple #[.int .i64 ((redN p (modN p M)).2.length : Int), .int .i64 0]) ∧ Below W.heap.size W w') := fun A' W k1 k2 => by
      have hC : Comes p A' (cols M) (trN (modN p M)) W := comes_rows hlt (h.bas.below k2 h.bas.lt) (by rw [hTl]; exact Nat.le_refl _) k1 hgT (by rw [hTl]; exact hwid) hrows
      have h9 := rank_ok p A' (cols M) (trN (modN p M)) W W.heap.size (hC.takes hpr (good_rect hgT))
      have e9 : (redN p (modN p (trN (modN p M)))).2.length = (redN p (modN p M)).2.length := htr
      rw [e9, hTl] at h9
      exact h9
    have Hcols : Hid (∀ W, Below w.heap.size w W → Calls Tryd.prog 36 #[.slice A M.length c] W fun e w' => e = .returned (.int .i64 (cols M : Int)) ∧ w' = W) := fun W hW => rcols_any A c M W W.heap.size (h.below hW).rd hm
    have Hme : Hid (∀ W, Below w.heap.size w W → RdM W W.heap.size A M) := fun W hW => (h.below hW).rd
    have Hdig : Hid (DigM 4294967296 M) := h.sz.dig
    have Hmrow : Hid (∀ i (hi : i < M.length), M[i].length = cols M) := hrect.at_
    obtain ⟨K, hK⟩ : ∃ K, K = kerUp p (redN p (modN p M)).1 (redN p (modN p M)).2 (cols M) (cols M) := ⟨_, rfl⟩
    rw [← hK] at Hke hcount hkdot hklen hkdig
    obtain ⟨r0, hr0⟩ : ∃ r0, r0 = (redN p (modN p M)).2.length := ⟨_, rfl⟩
    rw [← hr0] at hcount hPl
    simp only [← hr0] at Hra Hra2
    have t6 : (cols M : Int) - (r0 : Int) = (K.length : Int) := by omega
    have t9 : ((K.length : Int) != (K.length : Int)) = false := by simp
    have hKm : K.length ≤ 281474976710656 := by omega
    have t7 : ((r0 : Int) != (r0 : Int)) = false := by simp
    have Hkdot : Hid (∀ x ∈ K, ∀ r ∈ M, x.length = cols M ∧ dotS r x % p = 0) := hkdot
    have Hkdig : Hid (∀ r ∈ K, ∀ x ∈ r, x < p) := hkdig
    have Hklen : Hid (∀ x ∈ K, x.length = cols M) := hklen
    obtain ⟨q, hq⟩ : ∃ q, q = cols M := ⟨_, rfl⟩
    rw [← hq] at t6 hwid hPl
    simp only [← hq] at Htp Hra2 Hcols Hmrow Hkdot Hklen
    have t8 : ((q : Int) != (q : Int)) = false := by simp
    have hp0 := hpr.pos
    have Hdt : Hid (∀ (Ar Ax : Option Addr) (cr cx : Nat) (r x : List Nat) (W : World) (B B2 : Nat), Rd W B Ar (u32s r) → Rd W B2 Ax (u32s x) → r.length = q → x.length = q → (∀ y ∈ r, y < 4294967296) → (∀ y ∈ x, y < p) → dotS r x % p = 0 → Calls Tryd.prog 37 #[.slice Ar q cr, .slice Ax q cx, .int .u32 (p : Int)] W fun e w' => e = .returned (.int .u32 0) ∧ Dr W w') := fun Ar Ax cr cx r x W B B2 k1 k2 k3 k4 k5 k6 k7 => by
      have h9 := rdot_any p Ar Ax cr cx r x W B B2 hp0 hlt k1 k2 (by omega) k5 (fun y hy => Nat.lt_trans (k6 y hy) hlt) (by omega)
      rw [k7, k3, k4] at h9
      exact h9
    clear hf h hT hrect hrd htr hcount hkdot hkdig hklen hK hr0 hgT hTl hq
    go_enter Tryd.func9, Tryd.ntmps9
    go_wp2_with (first
      | (go_at_call 25; (with_reducible refine Hke.out.mono ?_); rintro e w1 ⟨A1, c1, rfl, hr1, hc1, hb1⟩)
      | (go_at_call_of 24 (Value.slice A M.length c); (with_reducible refine (Hra.out _ hb1).mono ?_); rintro e w2 ⟨rfl, hb⟩; have hb2 := hb1.trans (hb.mono hb1.size); have hr1 := (hr1.below hb).mono hb.size; clear hb)
      | (go_at_call 11; (with_reducible refine (Hn.out _ _).mono ?_); rintro e w9 ⟨rfl, rfl⟩)
      | (go_at_call 35; (with_reducible refine (Htp.out _ hb2).mono ?_); rintro e w3 ⟨A3, rfl, hr3, hb⟩; have hb3 := hb2.trans (hb.mono hb2.size); have hr1 := (hr1.below hb).mono hb.size; clear hb)
      | (go_at_call 24; (with_reducible refine (Hra2.out _ _ hr3 hb3).mono ?_); rintro e w4 ⟨rfl, hb⟩; have hb4 := hb3.trans (hb.mono hb3.size); have hr1 := (hr1.below hb).mono hb.size; clear hb)
      | (go_at_call 36; (with_reducible refine (Hcols.out _ hb4).mono ?_); rintro e w9 ⟨rfl, rfl⟩))
    obtain ⟨wa, hwa⟩ : ∃ wa, wa = w9 := ⟨_, rfl⟩
    have hda : Dr wa w9 := by rw [hwa]; exact Dr.refl _
    have hb5 : Below w.heap.size w wa := by rw [hwa]; exact hb4
    have hrK : RdM wa wa.heap.size A1 K := by rw [hwa]; exact hr1
    have hrM := Hme.out wa hb5
    clear hwa hb4 hr1
    go_loopw [81] (fun iv wr => ∃ i : Nat, i ≤ K.length ∧ iv = .int .i64 (i : Int) ∧ Dr wa wr) (fun iv _ => K.length - (intOf iv).toNat)
    case atStart => exact ⟨0, by omega, rfl, hda⟩
    case round =>
      clear hda
      obtain ⟨i, hi, rfl, hd⟩ := hrel
      by_cases hil : i < K.length
      · obtain ⟨b, off, Ax, cx, rfl, _, hx1, hl2, _, hrx⟩ := (hrK.dr hd).at_ hil
        have wx := Hklen.out _ (List.getElem_mem hil)
        have hdx := Hkdig.out _ (List.getElem_mem hil)
        have hkd := Hkdot.out _ (List.getElem_mem hil)
        obtain ⟨x, hx9⟩ : ∃ x, x = K[i] := ⟨_, rfl⟩
        rw [← hx9] at hx1 hrx wx hdx hkd
        rw [wx] at hx1
        have hrx := hrx
        have Hc2 := Hcols.out wr (hb5.trans (hd.below _))
        have Hc2 := Lib.hid Hc2
        have Hdx : Hid (∀ y ∈ x, y < p) := hdx
        have Hkd : Hid (∀ r ∈ M, x.length = q ∧ dotS r x % p = 0) := hkd
        have Hwx := Lib.hid wx
        obtain ⟨wb, hwb⟩ : ∃ wb, wb = wr := ⟨_, rfl⟩
        have hrx2 : Rd wb wa.heap.size Ax (u32s x) := by rw [hwb]; exact hrx
        have hdb : Dr wb wr := by rw [hwb]; exact Dr.refl _
        have hab : Dr wa wb := by rw [hwb]; exact hd
        clear hx9 hl2 wx hdx hkd hrx hwb hd
        go_wp2_with (go_at_call 36; (with_reducible refine Hc2.out.mono ?_); rintro e wr ⟨rfl, rfl⟩)
        go_loopw [92] (fun jv wq => ∃ j : Nat, j ≤ M.length ∧ jv = .int .i64 (j : Int) ∧ Dr wb wq) (fun jv _ => M.length - (intOf jv).toNat)
        case atStart => exact ⟨0, by omega, rfl, hdb⟩
        case round =>
          clear hdb
          obtain ⟨j, hj, rfl, hd⟩ := hrel
          by_cases hjl : j < M.length
          · obtain ⟨b2, off2, Ar, cr, rfl, _, hx2, _, _, hrr⟩ := ((hrM.dr hab).dr hd).at_ hjl
            have wr2 := Hmrow.out j hjl
            have hdr := Hdig.out _ (List.getElem_mem hjl)
            have hk0 := (Hkd.out _ (List.getElem_mem hjl)).2
            obtain ⟨r, hr9⟩ : ∃ r, r = M[j] := ⟨_, rfl⟩
            rw [← hr9] at hx2 hrr wr2 hdr hk0
            rw [wr2] at hx2
            have Hd0 := Lib.hid (Hdt.out Ar Ax cr cx r x wr _ _ hrr (hrx2.dr hd) wr2 Hwx.out hdr Hdx.out hk0)
            clear hr9 wr2 hdr hk0 hrr
            go_wp2_with (go_at_call 37; (with_reducible refine Hd0.out.mono ?_); rintro e w11 ⟨rfl, hd2⟩; have hd3 := hd.trans hd2)
            go_roundw
            case rel => exact ⟨j + 1, by omega, by go_num, hd3⟩
            case measure => simp [intOf]; omega
          · have hge : M.length ≤ j := by omega
            have hd4 := hab.trans hd
            go_wp2_with fail
            go_roundw
            case rel => exact ⟨i + 1, by omega, by go_num, hd4⟩
            case measure => simp [intOf]; omega
      · have hge : K.length ≤ i := by omega
        have hb6 := hb5.trans (hd.below _)
        have Ha := Lib.hid (Haw.out _ hb6)
        go_wp2_with (go_at_call 12; (with_reducible refine Ha.out.mono ?_); rintro e w12 ⟨rfl, hb⟩; have hb7 := hb6.trans (hb.mono hb6.size); clear hb)
        go_ret
        exact ⟨rfl, hb7⟩
end
section
section Det
variable {z9 : Nat} [NeZero z9]

def sg : Nat → Fin z9
  | 0 => 1
  | i + 1 => - sg i
def Dt : Nat → (Nat → Nat → Fin z9) → Fin z9
  | 0, _ => 1
  | n + 1, M => sm (fun i => sg i * M i 0 * Dt n (fun a b => M (skip i a) (b + 1))) (n + 1)
theorem Dt_congr : ∀ (n : Nat) (M N : Nat → Nat → Fin z9), (∀ i j, i < n → j < n → M i j = N i j) → Dt n M = Dt n N
  | 0, _, _, _ => rfl
  | n + 1, M, N, h => by
    unfold Dt
    refine sm_congr _ fun i hi => ?_
    rw [h i 0 hi (by omega), Dt_congr n _ _ fun a b ha hb => h (skip i a) (b + 1) (skip_lt ha) (by omega)]

/-- The matrix with another row r. -/
def upd (M : Nat → Nat → Fin z9) (r : Nat) (u : Nat → Fin z9) : Nat → Nat → Fin z9 := fun i j => if i = r then u j else M i j
/-- Where row r stands once row i is struck. -/
def unskip (i r : Nat) : Nat := if r < i then r else r - 1
theorem skip_iff {i r : Nat} (h : r ≠ i) (a : Nat) : skip i a = r ↔ a = unskip i r := by
  unfold skip unskip
  split <;> split <;> omega
theorem unskip_lt {i r n : Nat} (h : r ≠ i) (hi : i < n + 1) (hr : r < n + 1) : unskip i r < n := by unfold unskip; split <;> omega
omit [NeZero z9] in
theorem minor_upd (M : Nat → Nat → Fin z9) (u : Nat → Fin z9) {i r : Nat} (h : r ≠ i) : (fun a b => upd M r u (skip i a) (b + 1)) = upd (fun a b => M (skip i a) (b + 1)) (unskip i r) (fun b => u (b + 1)) := by
  funext a b
  unfold upd
  by_cases e : skip i a = r
  · rw [if_pos e, if_pos ((skip_iff h a).1 e)]
  · rw [if_neg e, if_neg fun e2 => e ((skip_iff h a).2 e2)]
omit [NeZero z9] in
theorem minor_same (M : Nat → Nat → Fin z9) (u : Nat → Fin z9) (r : Nat) : (fun a b => upd M r u (skip r a) (b + 1)) = fun a b => M (skip r a) (b + 1) := by
  funext a b
  unfold upd
  rw [if_neg (skip_ne r a)]

theorem Dt_lin : ∀ (n : Nat) (M : Nat → Nat → Fin z9) (r : Nat) (u v : Nat → Fin z9) (c d : Fin z9), r < n → Dt n (upd M r (fun j => c * u j + d * v j)) = c * Dt n (upd M r u) + d * Dt n (upd M r v)
  | 0, _, _, _, _, _, _, h => absurd h (Nat.not_lt_zero _)
  | n + 1, M, r, u, v, c, d, hr => by
    show sm (fun i => sg i * upd M r (fun j => c * u j + d * v j) i 0 * Dt n (fun a b => upd M r (fun j => c * u j + d * v j) (skip i a) (b + 1))) (n + 1) = c * sm (fun i => sg i * upd M r u i 0 * Dt n (fun a b => upd M r u (skip i a) (b + 1))) (n + 1) + d * sm (fun i => sg i * upd M r v i 0 * Dt n (fun a b => upd M r v (skip i a) (b + 1))) (n + 1)
    rw [← sm_mul, ← sm_mul, ← sm_add]
    refine sm_congr _ fun i hi => ?_
    by_cases e : r = i
    · subst e
      rw [minor_same, minor_same, minor_same]
      simp only [upd, if_true]
      grind
    · rw [minor_upd _ _ e, minor_upd _ _ e, minor_upd _ _ e]
      have ih := Dt_lin n (fun a b => M (skip i a) (b + 1)) (unskip i r) (fun b => u (b + 1)) (fun b => v (b + 1)) c d (unskip_lt e hi hr)
      rw [ih]
      simp only [upd, if_neg (fun e2 : i = r => e e2.symm)]
      grind
omit [NeZero z9] in
theorem upd_self (M : Nat → Nat → Fin z9) (r : Nat) : upd M r (M r) = M := by
  funext i j; unfold upd; split
  · rename_i e; rw [e]
  · rfl
omit [NeZero z9] in
theorem upd_upd (M : Nat → Nat → Fin z9) (r : Nat) (u v : Nat → Fin z9) : upd (upd M r u) r v = upd M r v := by
  funext i j; unfold upd; split
  · rfl
  · rfl
omit [NeZero z9] in
theorem upd_comm (M : Nat → Nat → Fin z9) {r s : Nat} (h : r ≠ s) (u v : Nat → Fin z9) : upd (upd M r u) s v = upd (upd M s v) r u := by
  funext i j; unfold upd
  by_cases h1 : i = s
  · subst h1; rw [if_pos rfl, if_neg (fun e => h e.symm), if_pos rfl]
  · rw [if_neg h1]
    by_cases h2 : i = r
    · rw [if_pos h2, if_pos h2]
    · rw [if_neg h2, if_neg h2, if_neg h1]

theorem sm_two {f : Nat → Fin z9} {n k : Nat} (hk : k + 1 < n) (h : ∀ i, i < n → i ≠ k → i ≠ k + 1 → f i = 0) : sm f n = f k + f (k + 1) := by
  have e : sm f n = sm (fun i => if i = k then f k else 0) n + sm (fun i => if i = k + 1 then f (k + 1) else 0) n := by
    rw [← sm_add]
    refine sm_congr _ fun i hi => ?_
    by_cases h1 : i = k
    · subst h1; simp only [if_true, if_neg (show ¬ i = i + 1 by omega)]; grind
    · by_cases h2 : i = k + 1
      · subst h2; simp only [if_true, if_neg (show ¬ k + 1 = k by omega)]; grind
      · rw [if_neg h1, if_neg h2, h i hi h1 h2]; grind
  rw [e, sm_one (show k < n by omega) (fun i _ hne => if_neg hne), sm_one hk (fun i _ hne => if_neg hne), if_pos rfl, if_pos rfl]
/-- Two rows beside each other that are the same. -/
theorem Dt_adj : ∀ (n : Nat) (M : Nat → Nat → Fin z9) (k : Nat), k + 1 < n → (∀ j, M k j = M (k + 1) j) → Dt n M = 0
  | 0, _, _, h, _ => absurd h (Nat.not_lt_zero _)
  | n + 1, M, k, hk, h => by
    show sm (fun i => sg i * M i 0 * Dt n (fun a b => M (skip i a) (b + 1))) (n + 1) = 0
    rw [sm_two hk fun i hi h1 h2 => ?_]
    · have e : (fun a b => M (skip (k + 1) a) (b + 1)) = fun a b => M (skip k a) (b + 1) := by
        funext a b
        by_cases e1 : a = k
        · subst e1
          have e2 : skip (a + 1) a = a := by unfold skip; rw [if_pos (by omega)]
          have e3 : skip a a = a + 1 := by unfold skip; rw [if_neg (by omega)]
          rw [e2, e3]; exact h _
        · have e2 : skip (k + 1) a = skip k a := by unfold skip; split <;> split <;> omega
          rw [e2]
      rw [e, ← h 0]
      simp only [sg]
      grind
    · have hz : Dt n (fun a b => M (skip i a) (b + 1)) = 0 := by
        refine Dt_adj n _ (unskip i k) ?_ fun j => ?_
        · unfold unskip; split <;> omega
        · have e1 : skip i (unskip i k) = k := (skip_iff (Ne.symm h1) _).2 rfl
          have e2 : skip i (unskip i k + 1) = k + 1 := (skip_iff (Ne.symm h2) _).2 (by unfold unskip; split <;> split <;> omega)
          rw [e1, e2]; exact h _
      rw [hz]; grind

/-- Where two equal rows make nought, an exchange turns the sign. -/
theorem Dt_turn {n : Nat} {M : Nat → Nat → Fin z9} {k l : Nat} (hk : k < n) (hl : l < n) (hne : k ≠ l) (h0 : ∀ u : Nat → Fin z9, Dt n (upd (upd M k u) l u) = 0) (u v : Nat → Fin z9) : Dt n (upd (upd M k u) l v) = - Dt n (upd (upd M k v) l u) := by
  have e1 : ∀ u v w : Nat → Fin z9, Dt n (upd (upd M k (fun j => 1 * u j + 1 * v j)) l w) = Dt n (upd (upd M k u) l w) + Dt n (upd (upd M k v) l w) := fun u v w => by
    rw [upd_comm _ hne, upd_comm _ hne, upd_comm _ hne, Dt_lin n _ k u v 1 1 hk]; grind
  have e2 : ∀ u v w : Nat → Fin z9, Dt n (upd (upd M k w) l (fun j => 1 * u j + 1 * v j)) = Dt n (upd (upd M k w) l u) + Dt n (upd (upd M k w) l v) := fun u v w => by
    rw [Dt_lin n _ l u v 1 1 hl]; grind
  have h := h0 (fun j => 1 * u j + 1 * v j)
  rw [e1, e2, e2, h0 u, h0 v] at h
  grind
/-- Two rows that are the same. -/
theorem Dt_same {n : Nat} : ∀ (d : Nat) (M : Nat → Nat → Fin z9) (k : Nat), k + d + 1 < n → (∀ j, M k j = M (k + d + 1) j) → Dt n M = 0
  | 0, M, k, hk, h => Dt_adj n M k hk h
  | d + 1, M, k, hk, h => by
    have h1 : ∀ u : Nat → Fin z9, Dt n (upd (upd M (k + d + 1) u) (k + d + 2) u) = 0 := fun u => Dt_adj n _ (k + d + 1) (by omega) fun j => by
      simp [upd]
    have h2 := Dt_turn (n := n) (M := M) (k := k + d + 1) (l := k + d + 2) (by omega) (by omega) (by omega) h1 (M (k + d + 1)) (M (k + d + 2))
    have e : upd (upd M (k + d + 1) (M (k + d + 1))) (k + d + 2) (M (k + d + 2)) = M := by rw [upd_self, upd_self]
    rw [e] at h2
    rw [h2, Dt_same d _ k (by omega) fun j => ?_]
    · grind
    · have e1 : ¬ k = k + d + 1 := by omega
      have e2 : ¬ k = k + d + 2 := by omega
      have e3 : ¬ k + d + 1 = k + d + 2 := by omega
      simp only [upd, if_neg e1, if_neg e2, if_neg e3, if_true]
      exact h j
theorem Dt_eq {n : Nat} {M : Nat → Nat → Fin z9} {k l : Nat} (hk : k < n) (hl : l < n) (hne : k ≠ l) (h : ∀ j, M k j = M l j) : Dt n M = 0 := by
  rcases Nat.lt_or_gt_of_ne hne with h1 | h1
  · exact Dt_same (l - k - 1) M k (by omega) fun j => by rw [show k + (l - k - 1) + 1 = l from by omega]; exact h j
  · exact Dt_same (k - l - 1) M l (by omega) fun j => by rw [show l + (k - l - 1) + 1 = k from by omega]; exact (h j).symm
theorem Dt_swap {n : Nat} {M : Nat → Nat → Fin z9} {k l : Nat} (hk : k < n) (hl : l < n) (hne : k ≠ l) : Dt n (upd (upd M k (M l)) l (M k)) = - Dt n M := by
  have h := Dt_turn (n := n) (M := M) hk hl hne (fun u => Dt_eq hk hl hne fun j => by simp [upd]) (M l) (M k)
  rw [h, upd_self, upd_self]
theorem Dt_scale {n : Nat} {M : Nat → Nat → Fin z9} {r : Nat} (hr : r < n) (c : Fin z9) : Dt n (upd M r (fun j => c * M r j)) = c * Dt n M := by
  have h := Dt_lin n M r (M r) (M r) c 0 hr
  rw [upd_self] at h
  have e : (fun j => c * M r j + 0 * M r j) = fun j => c * M r j := by funext j; grind
  rw [e] at h
  rw [h]; grind
theorem Dt_zero {n : Nat} {M : Nat → Nat → Fin z9} {r : Nat} (hr : r < n) (h : ∀ j, M r j = 0) : Dt n M = 0 := by
  have h1 := Dt_scale (M := M) hr 0
  have e : upd M r (fun j => 0 * M r j) = M := by
    funext i j; unfold upd; split
    · rename_i e; rw [e, h j]; grind
    · rfl
  rw [e] at h1
  rw [h1]; grind
theorem Dt_addRow {n : Nat} {M : Nat → Nat → Fin z9} {r k : Nat} (hr : r < n) (hk : k < n) (hne : r ≠ k) (c : Fin z9) : Dt n (upd M r (fun j => M r j + c * M k j)) = Dt n M := by
  have h := Dt_lin n M r (M r) (M k) 1 c hr
  rw [upd_self, Dt_eq (M := upd M r (M k)) hr hk hne (fun j => by simp only [upd, if_true, if_neg (fun e : k = r => hne e.symm)])] at h
  have e : (fun j => 1 * M r j + c * M k j) = fun j => M r j + c * M k j := by funext j; grind
  rw [e] at h
  rw [h]; grind
/-- Multiples of one row added to all others. -/
theorem Dt_elim {n : Nat} {M : Nat → Nat → Fin z9} {k : Nat} (hk : k < n) (f : Nat → Fin z9) (hf : f k = 0) : Dt n (fun i j => M i j + f i * M k j) = Dt n M := by
  have key : ∀ m, m ≤ n → Dt n (fun i j => M i j + (if i < m then f i else 0) * M k j) = Dt n M := by
    intro m
    induction m with
    | zero => intro _; exact Dt_congr n _ _ fun i j _ _ => by simp only [Nat.not_lt_zero, if_false]; grind
    | succ m ih =>
      intro hm
      rw [← ih (by omega)]
      by_cases e : m = k
      · subst e
        refine Dt_congr n _ _ fun i j _ _ => ?_
        by_cases h1 : i < m
        · rw [if_pos h1, if_pos (show i < m + 1 by omega)]
        · by_cases h2 : i = m
          · subst h2; rw [if_neg h1, if_pos (show i < i + 1 by omega), hf]
          · rw [if_neg h1, if_neg (show ¬ i < m + 1 by omega)]
      · have h1 := Dt_addRow (n := n) (M := fun i j => M i j + (if i < m then f i else 0) * M k j) (r := m) (k := k) (by omega) hk e (f m)
        rw [← h1]
        refine Dt_congr n _ _ fun i j _ _ => ?_
        have hkk : M k j + (if k < m then f k else 0) * M k j = M k j := by rw [hf]; split <;> grind
        unfold upd
        by_cases h2 : i = m
        · subst h2
          simp only [if_true, if_pos (show i < i + 1 by omega), if_neg (Nat.lt_irrefl i), hkk]
          grind
        · rw [if_neg h2]
          by_cases h3 : i < m
          · simp only [if_pos h3, if_pos (show i < m + 1 by omega)]
          · simp only [if_neg h3, if_neg (show ¬ i < m + 1 by omega)]
  rw [← key n (Nat.le_refl _)]
  exact Dt_congr n _ _ fun i j hi _ => by rw [if_pos hi]
/-- Only the first row's entry stands in the first column. -/
theorem Dt_first {n : Nat} {M : Nat → Nat → Fin z9} (h : ∀ i, 0 < i → i < n + 1 → M i 0 = 0) : Dt (n + 1) M = M 0 0 * Dt n (fun a b => M (a + 1) (b + 1)) := by
  show sm (fun i => sg i * M i 0 * Dt n (fun a b => M (skip i a) (b + 1))) (n + 1) = _
  rw [sm_one (show 0 < n + 1 by omega) fun i hi hne => by rw [h i (by omega) hi]; grind]
  have e : (fun a b => M (skip 0 a) (b + 1)) = fun a b => M (a + 1) (b + 1) := by
    funext a b; unfold skip; rw [if_neg (Nat.not_lt_zero _)]
  rw [e]
  simp only [sg]
  grind
theorem Dt_one : ∀ n : Nat, Dt n (fun i j => if i = j then (1 : Fin z9) else 0) = 1
  | 0 => rfl
  | n + 1 => by
    rw [Dt_first fun i hi _ => by rw [if_neg (by omega)], if_pos rfl]
    have e : (fun a b => if a + 1 = b + 1 then (1 : Fin z9) else 0) = fun a b => if a = b then 1 else 0 := by
      funext a b
      by_cases h : a = b
      · rw [if_pos h, if_pos (by omega)]
      · rw [if_neg h, if_neg (by omega)]
    rw [e, Dt_one n]; grind
/-- A product of numbers. -/
def pr (f : Nat → Fin z9) : Nat → Fin z9
  | 0 => 1
  | n + 1 => pr f n * f n
theorem pr_shift (f : Nat → Fin z9) (n : Nat) : pr f (n + 1) = f 0 * pr (fun i => f (i + 1)) n := by
  induction n with
  | zero => simp only [pr]; grind
  | succ n ih => rw [pr, ih]; simp only [pr]; grind
theorem pr_congr {f g : Nat → Fin z9} (n : Nat) (h : ∀ i, i < n → f i = g i) : pr f n = pr g n := by
  induction n with
  | zero => rfl
  | succ n ih => rw [pr, pr, ih fun i hi => h i (by omega), h n (by omega)]
/-- A triangle's determinant. -/
theorem Dt_tri : ∀ (n : Nat) (M : Nat → Nat → Fin z9), (∀ i j, j < i → i < n → M i j = 0) → Dt n M = pr (fun i => M i i) n
  | 0, _, _ => rfl
  | n + 1, M, h => by
    rw [Dt_first fun i hi hi2 => h i 0 hi hi2, Dt_tri n _ fun i j hij hi => h (i + 1) (j + 1) (by omega) (by omega), pr_shift]
/-- No pivot in column k. -/
theorem Dt_gap : ∀ (k n : Nat) (M : Nat → Nat → Fin z9), k < n → (∀ j, j < k → ∀ i, j < i → i < n → M i j = 0) → (∀ i, k ≤ i → i < n → M i k = 0) → Dt n M = 0
  | 0, 0, _, h, _, _ => absurd h (Nat.not_lt_zero _)
  | 0, n + 1, M, _, _, h0 => by
    show sm (fun i => sg i * M i 0 * Dt n (fun a b => M (skip i a) (b + 1))) (n + 1) = 0
    exact sm_none _ fun i hi => by rw [h0 i (Nat.zero_le _) hi]; grind
  | k + 1, 0, _, h, _, _ => absurd h (Nat.not_lt_zero _)
  | k + 1, n + 1, M, hk, h, h0 => by
    rw [Dt_first fun i hi hi2 => h 0 (by omega) i hi hi2, Dt_gap k n _ (by omega) (fun j hj i hij hi => h (j + 1) (by omega) (i + 1) (by omega) (by omega)) fun i hi hi2 => h0 (i + 1) (by omega) (by omega)]
    grind
/-- A product of matrices. -/
def mm (n : Nat) (A B : Nat → Nat → Fin z9) : Nat → Nat → Fin z9 := fun i j => sm (fun t => A i t * B t j) n
end Det
end
section
section
variable {p : Nat} [NeZero p]

theorem Dt_sw {n : Nat} {T : List (List Nat)} {i k : Nat} (hl : T.length = n) (hi : i < n) (hk : k < n) : Dt n (fm p (sw [] T i k)) = (if i = k then 1 else -1) * Dt n (fm p T) := by
  by_cases e : i = k
  · subst e; rw [sw_self, if_pos rfl]; grind
  · rw [if_neg e]
    have h := Dt_swap (M := fm p T) hk hi (Ne.symm e)
    rw [show -1 * Dt n (fm p T) = - Dt n (fm p T) from by grind, ← h]
    refine Dt_congr n _ _ fun a j ha _ => ?_
    unfold fm
    rw [ent_sw3 (by omega) (by omega) a j (by omega)]
    unfold upd
    by_cases h1 : a = i
    · subst h1; rw [if_neg e, if_pos rfl, if_pos rfl]
    · rw [if_neg h1]
      by_cases h2 : a = k
      · rw [if_pos h2, if_neg h1, if_pos h2]
      · rw [if_neg h2, if_neg h1, if_neg h2]
theorem fm_elim {n : Nat} {N : List (List Nat)} (hg : Good p n N) (hp : 0 < p) {k : Nat} (hk : k < N.length) (i j : Nat) (hi : i < N.length) : fm p (elimN p N k) i j = fm p N i j + (if k < i then - (fm p N i k * fz p (invN p (ent N k k))) else 0) * fm p N k j := by
  have h1 : i < (elimN p N k).length := by rw [elimN_length]; exact hi
  unfold fm
  rw [ent_row h1, elimN_at hi hk h1]
  by_cases h : k < i
  · rw [if_pos h, if_pos h, ent_sub (by rw [hg.len hi, hg.len hk]) (fun x hx => hg.dig _ (List.getElem_mem hi) x hx) hp, fz_plus, fz_neg (Nat.le_of_lt (plusN_lt hp _ _ _)), fz_plus, fz_zero, ← ent_row hi, ← ent_row hk]
    grind
  · rw [if_neg h, if_neg h, ← ent_row hi]; grind

/-- What stays through elimination. -/
theorem detTo_says {n : Nat} {N : List (List Nat)} (hp : Pr p) (hg : Good p n N) (hl : N.length = n) : ∀ k, k ≤ n →
    (∀ T o, detTo p N k = some (T, o) → ∃ s : Fin p, Dt n (fm p N) = s * Dt n (fm p T) ∧ fz p o = s * pr (fun t => fm p T t t) k ∧ (∀ t, t < k → ent T t t ≠ 0) ∧ ∀ j, j < k → ∀ i, j < i → i < n → fm p T i j = 0) ∧ (detTo p N k = none → Dt n (fm p N) = 0)
  | 0, _ => ⟨fun T o h => by
    obtain ⟨rfl, rfl⟩ : N = T ∧ 1 = o := by simpa [detTo] using h
    exact ⟨1, by grind, by rw [fz_one]; simp only [pr]; grind, fun t ht => absurd ht (Nat.not_lt_zero _), fun j hj => absurd hj (Nat.not_lt_zero _)⟩, fun h => by cases h⟩
  | k + 1, hk => by
    obtain ⟨ih1, ih2⟩ := detTo_says hp hg hl k (by omega)
    cases e : detTo p N k with
    | none =>
      refine ⟨fun T o h => ?_, fun _ => ih2 e⟩
      rw [detTo, e] at h
      cases h
    | some st =>
      obtain ⟨T, o⟩ := st
      obtain ⟨s, h1, h2, h3, h4⟩ := ih1 T o e
      obtain ⟨hgT, hlT, hoT⟩ := detTo_ok hg hp.1 k (T, o) (by omega) e
      simp only [] at hgT hlT hoT
      have hkT : k < T.length := by omega
      cases hpv : piv T k k with
      | none =>
        refine ⟨fun T' o' h => ?_, fun _ => ?_⟩
        · rw [detTo, e] at h; simp only [hpv] at h; cases h
        · rw [h1, Dt_gap k n (fm p T) (by omega) h4 fun i hi _ => by unfold fm; rw [piv_none hpv i hi]; rfl]; grind
      | some i =>
        obtain ⟨g1, g2, g3⟩ := piv_some hpv
        refine ⟨fun T' o' h => ?_, fun h => ?_⟩
        · rw [detTo, e] at h
          simp only [hpv, Option.some.injEq, Prod.mk.injEq] at h
          obtain ⟨rfl, rfl⟩ := h
          obtain ⟨N1, hN1⟩ : ∃ N1, N1 = sw [] T i k := ⟨_, rfl⟩
          have hl1 : N1.length = n := by rw [hN1, sw_length, hlT, hl]
          have hg1 : Good p n N1 := by rw [hN1]; exact hgT.sw_ g2 hkT
          have he1 : ∀ a j, a < n → ent N1 a j = if a = k then ent T i j else if a = i then ent T k j else ent T a j := fun a j ha => by rw [hN1]; exact ent_sw3 g2 hkT a j (by omega)
          have hd1 := Dt_sw (p := p) (T := T) (n := n) (i := i) (k := k) (by omega) (by omega) (by omega)
          rw [← hN1] at hd1 ⊢
          have hx0 : ent N1 k k ≠ 0 := by rw [he1 k k (by omega), if_pos rfl]; exact g3
          have hxl := hg1.ent_lt hp.pos k k
          have hinv := fz_inv hp (x := ent N1 k k) (by rw [Nat.mod_eq_of_lt hxl]; exact hx0)
          have hz1 : ∀ j, j < k → ∀ a, j < a → a < n → fm p N1 a j = 0 := fun j hj a ha han => by
            unfold fm
            rw [he1 a j han]
            split
            · exact h4 j hj i (by omega) (by omega)
            · split
              · exact h4 j hj k (by omega) (by omega)
              · exact h4 j hj a ha han
          have hfe : ∀ a j, a < n → fm p (elimN p N1 k) a j = fm p N1 a j + (if k < a then - (fm p N1 a k * fz p (invN p (ent N1 k k))) else 0) * fm p N1 k j := fun a j ha => fm_elim hg1 hp.pos (by omega) a j (by omega)
          have hde : Dt n (fm p (elimN p N1 k)) = Dt n (fm p N1) := by
            rw [← Dt_elim (n := n) (M := fm p N1) (k := k) (by omega) (fun a => if k < a then - (fm p N1 a k * fz p (invN p (ent N1 k k))) else 0) (by simp)]
            exact Dt_congr n _ _ fun a j ha _ => hfe a j ha
          have hdiag : ∀ t, t < k + 1 → fm p (elimN p N1 k) t t = fm p N1 t t := fun t ht => by
            rw [hfe t t (by omega), if_neg (by omega)]; grind
          have hdT : ∀ t, t < k → fm p N1 t t = fm p T t t := fun t ht => by
            unfold fm; rw [he1 t t (by omega), if_neg (by omega), if_neg (by omega)]
          refine ⟨s * (if i = k then 1 else -1), ?_, ?_, fun t ht => ?_, fun j hj a ha han => ?_⟩
          · rw [h1, hde, hd1]
            split <;> grind
          · have e3 : pr (fun t => fm p (elimN p N1 k) t t) (k + 1) = pr (fun t => fm p T t t) k * fm p N1 k k := by
              rw [pr, hdiag k (by omega), pr_congr k fun t ht => by rw [hdiag t (by omega), hdT t ht]]
            rw [e3]
            unfold detMul
            rw [fz_plus, fz_zero]
            have e4 : fz p (p - 1) = -1 := by rw [fz_neg (by have := hp.1; omega), fz_one]
            have e5 : fz p (ent N1 k k) = fm p N1 k k := rfl
            rw [e5]
            split
            · rw [h2]; grind
            · rw [fz_plus, fz_zero, e4, h2]; grind
          · intro h0
            by_cases htk : t < k
            · refine h3 t htk ?_
              have h5 := hdiag t ht
              rw [hdT t htk] at h5
              have h6 : fz p (ent (elimN p N1 k) t t) = fz p (ent T t t) := h5
              rw [h0] at h6
              exact (fz_inj (by have := hp.pos; omega) (hgT.ent_lt hp.pos t t) h6).symm
            · obtain rfl : t = k := by omega
              have h5 := hdiag t ht
              have h6 : fz p (ent (elimN p N1 t) t t) = fz p (ent N1 t t) := h5
              rw [h0] at h6
              exact hx0 (fz_inj (by have := hp.pos; omega) hxl h6).symm
          · rw [hfe a j han]
            by_cases hjk : j < k
            · rw [hz1 j hjk a ha han, hz1 j hjk k hjk (by omega)]; grind
            · obtain rfl : j = k := by omega
              rw [if_pos ha]
              have e6 : fz p (ent N1 j j) = fm p N1 j j := rfl
              rw [e6] at hinv
              grind
        · rw [detTo, e] at h; simp only [hpv] at h; cases h

/-- The determinant. -/
theorem det_says {n : Nat} {N : List (List Nat)} (hp : Pr p) (hg : Good p n N) (hl : N.length = n) : fz p (detN p N) = Dt n (fm p N) ∧ detN p N < p := by
  obtain ⟨h1, h2⟩ := detTo_says hp hg hl n (Nat.le_refl _)
  unfold detN
  rw [hl]
  cases e : detTo p N n with
  | none => exact ⟨(h2 e).symm, by have := hp.pos; omega⟩
  | some st =>
    obtain ⟨T, o⟩ := st
    obtain ⟨s, k1, k2, _, k3⟩ := h1 T o e
    obtain ⟨_, _, hoT⟩ := detTo_ok hg hp.1 n (T, o) (by omega) e
    refine ⟨?_, hoT⟩
    show fz p o = _
    rw [k2, k1, Dt_tri n _ fun i j hji hi => k3 j (by omega) i hji hi]

/-- The same determinants, but for a number, of all products. -/
def Rel (n : Nat) (A B : Nat → Nat → Fin p) : Prop := ∃ d : Fin p, ∀ C, Dt n (mm n A C) = d * Dt n (mm n B C)
theorem Rel.refl (n : Nat) (A : Nat → Nat → Fin p) : Rel n A A := ⟨1, fun C => by grind⟩
theorem Rel.trans {n : Nat} {A B C : Nat → Nat → Fin p} (h : Rel n A B) (k : Rel n B C) : Rel n A C := by
  obtain ⟨d, hd⟩ := h
  obtain ⟨e, he⟩ := k
  exact ⟨d * e, fun X => by rw [hd, he]; grind⟩
theorem rel_sw {n : Nat} {T : List (List Nat)} {i k : Nat} (hl : T.length = n) (hi : i < n) (hk : k < n) : Rel n (fm p T) (fm p (sw [] T i k)) := by
  by_cases e : i = k
  · subst e; rw [sw_self]; exact Rel.refl _ _
  · refine ⟨-1, fun C => ?_⟩
    have h := Dt_swap (M := mm n (fm p T) C) hk hi (Ne.symm e)
    have h2 : Dt n (mm n (fm p (sw [] T i k)) C) = - Dt n (mm n (fm p T) C) := by
      rw [← h]
      refine Dt_congr n _ _ fun a j ha _ => ?_
      have hrow : ∀ t, fm p (sw [] T i k) a t = if a = k then fm p T i t else if a = i then fm p T k t else fm p T a t := fun t => by
        unfold fm; rw [ent_sw3 (by omega) (by omega) a t (by omega)]
        split
        · rfl
        · split <;> rfl
      unfold upd mm
      by_cases h1 : a = i
      · subst h1; rw [if_pos rfl]
        exact sm_congr n fun t _ => by rw [hrow, if_neg e, if_pos rfl]
      · rw [if_neg h1]
        by_cases h2 : a = k
        · rw [if_pos h2]; exact sm_congr n fun t _ => by rw [hrow, if_pos h2]
        · rw [if_neg h2]; exact sm_congr n fun t _ => by rw [hrow, if_neg h2, if_neg h1]
    rw [h2]; grind
theorem rel_unit {n : Nat} {T : List (List Nat)} {k c : Nat} (hp : Pr p) (hk : k < T.length) (hkn : k < n) (h0 : ent T k c % p ≠ 0) : Rel n (fm p T) (fm p (unitN p T k c)) := by
  have hi := fz_inv hp h0
  refine ⟨fz p (ent T k c), fun C => ?_⟩
  have h := Dt_scale (M := mm n (fm p T) C) hkn (fz p (invN p (ent T k c)))
  have h2 : Dt n (mm n (fm p (unitN p T k c)) C) = fz p (invN p (ent T k c)) * Dt n (mm n (fm p T) C) := by
    rw [← h]
    refine Dt_congr n _ _ fun a j _ _ => ?_
    have hrow : ∀ t, fm p (unitN p T k c) a t = if a = k then fz p (invN p (ent T k c)) * fm p T k t else fm p T a t := fun t => by
      unfold fm; rw [ent_unit hk c a t]
      split
      · rw [fz_plus, fz_zero]; grind
      · rfl
    unfold upd mm
    by_cases h1 : a = k
    · rw [if_pos h1]
      show _ = fz p (invN p (ent T k c)) * sm (fun t => fm p T k t * C t j) n
      rw [← sm_mul]
      exact sm_congr n fun t _ => by rw [hrow, if_pos h1]; grind
    · rw [if_neg h1]; exact sm_congr n fun t _ => by rw [hrow, if_neg h1]
  rw [h2]; grind
theorem rel_clear {n q : Nat} {T : List (List Nat)} {k c : Nat} (hp : 0 < p) (hg : Good p q T) (hl : T.length = n) (hk : k < n) : Rel n (fm p T) (fm p (clearN p T k c)) := by
  refine ⟨1, fun C => ?_⟩
  have h := Dt_elim (n := n) (M := mm n (fm p T) C) hk (fun a => if a = k then 0 else - fm p T a c) (by simp)
  have h2 : Dt n (mm n (fm p (clearN p T k c)) C) = Dt n (mm n (fm p T) C) := by
    rw [← h]
    refine Dt_congr n _ _ fun a j ha _ => ?_
    have hrow : ∀ t, fm p (clearN p T k c) a t = fm p T a t + (if a = k then 0 else - fm p T a c) * fm p T k t := fun t => by
      unfold fm; rw [ent_clear hg hp (by omega) c a t (by omega)]
      by_cases h1 : a = k
      · subst h1; rw [if_pos rfl, if_pos rfl]; grind
      · rw [if_neg h1, if_neg h1, fz_plus, fz_neg (Nat.le_of_lt (hg.ent_lt hp a c))]; grind
    unfold mm
    rw [← sm_mul, ← sm_add]
    exact sm_congr n fun t _ => by rw [hrow]; grind
  rw [h2]; grind
theorem rel_colStep {n q c : Nat} {s : List (List Nat) × List Nat} (hp : Pr p) (hg : Good p q s.1) (hl : s.1.length = n) : Rel n (fm p s.1) (fm p (colStep p c s).1) := by
  cases e : piv s.1 c s.2.length with
  | none => rw [colStep_none e]; exact Rel.refl _ _
  | some i =>
    obtain ⟨h1, h2, h3⟩ := piv_some e
    have hk : s.2.length < s.1.length := by omega
    rw [colStep_some e]
    have l1 : (sw [] s.1 i s.2.length).length = n := by rw [sw_length, hl]
    have g1 := hg.sw_ h2 hk
    have hk1 : s.2.length < (sw [] s.1 i s.2.length).length := by rw [l1]; omega
    have l2 : (unitN p (sw [] s.1 i s.2.length) s.2.length c).length = n := by rw [unitN_length, l1]
    have g2 := g1.unit_ hp.pos hk1 c
    have e0 : ent (sw [] s.1 i s.2.length) s.2.length c = ent s.1 i c := by rw [ent_sw3 h2 hk _ _ hk, if_pos rfl]
    exact ((rel_sw hl (by omega) (by omega)).trans (rel_unit hp hk1 (by omega) (by rw [e0, Nat.mod_eq_of_lt (hg.ent_lt hp.pos _ _)]; exact h3))).trans (rel_clear hp.pos g2 l2 (by omega))
theorem rel_redTo {n q : Nat} {M : List (List Nat)} (hp : Pr p) (hg : Good p q M) (hl : M.length = n) : ∀ c, Rel n (fm p M) (fm p (redTo p M c).1)
  | 0 => Rel.refl _ _
  | c + 1 => by
    have hok := redTo_ok hg hp.pos c
    exact (rel_redTo hp hg hl c).trans (rel_colStep hp hok.good (by rw [hok.len]; exact hl))
theorem mm_one {n : Nat} (C : Nat → Nat → Fin p) {A : Nat → Nat → Fin p} (hA : ∀ i j, i < n → j < n → A i j = if i = j then 1 else 0) : Dt n (mm n A C) = Dt n C := by
  refine Dt_congr n _ _ fun i j hi _ => ?_
  unfold mm
  rw [sm_one hi fun t ht hne => by rw [hA i t hi ht, if_neg (Ne.symm hne)]; grind, hA i i hi hi, if_pos rfl]; grind
theorem one_mm {n : Nat} (A : Nat → Nat → Fin p) {C : Nat → Nat → Fin p} (hC : ∀ i j, i < n → j < n → C i j = if i = j then 1 else 0) : Dt n (mm n A C) = Dt n A := by
  refine Dt_congr n _ _ fun i j _ hj => ?_
  unfold mm
  rw [sm_one hj fun t ht hne => by rw [hC t j ht hj, if_neg hne]; grind, hC j j hj hj, if_pos rfl]; grind
theorem piv_id {R : List (List Nat)} {P : List Nat} {n : Nat} (he : Ech R P n) (hl : P.length = n) : ∀ i (h : i < P.length), P[i] = i := by
  have low : ∀ i (h : i < P.length), i ≤ P[i] := by
    intro i
    induction i with
    | zero => intro _; exact Nat.zero_le _
    | succ i ih =>
      intro h
      have h1 := ih (by omega)
      have h2 := he.rise i (i + 1) (by omega) h (by omega)
      omega
  have up : ∀ d i (h : i + d < P.length), P[i]'(by omega) + d ≤ P[i + d] := by
    intro d
    induction d with
    | zero => intro i h; simp
    | succ d ih =>
      intro i h
      have h1 := ih i (by omega)
      have h2 := he.rise (i + d) (i + (d + 1)) (by omega) h (by omega)
      omega
  intro i h
  have h1 := low i h
  have h2 := up (P.length - 1 - i) i (by omega)
  have h3 := he.lt (i + (P.length - 1 - i)) (by omega)
  omega
/-- Determinants of products. -/
theorem Dt_mul {n : Nat} {M : List (List Nat)} (hp : Pr p) (hg : Good p n M) (hl : M.length = n) (C : Nat → Nat → Fin p) : Dt n (mm n (fm p M) C) = Dt n (fm p M) * Dt n C := by
  have h := rdc_of hp hg
  obtain ⟨d, hd⟩ := rel_redTo hp hg hl n
  have hI : Dt n (fm p M) = d * Dt n (mm n (fm p (redTo p M n).1) (fun i j => if i = j then 1 else 0)) := by
    rw [← hd]; exact (one_mm _ fun i j _ _ => rfl).symm
  by_cases hP : (redTo p M n).2.length = n
  · have hR : ∀ i j, i < n → j < n → fm p (redTo p M n).1 i j = if i = j then 1 else 0 := fun i j hi hj => by
      have h1 := h.one i j (by omega) (by omega)
      rw [getD_at (show j < (redTo p M n).2.length by omega), piv_id h.ech hP j (by omega)] at h1
      exact h1
    rw [hd, hI, mm_one C hR, mm_one _ hR, Dt_one]; grind
  · have hlt : (redTo p M n).2.length < n := by have := h.few; omega
    have hz : ∀ C, Dt n (mm n (fm p (redTo p M n).1) C) = 0 := fun C => Dt_zero (r := n - 1) (by omega) fun j => by
      unfold mm
      exact sm_none n fun t _ => by rw [h.low (show (redTo p M n).2.length ≤ n - 1 by omega) t]; grind
    rw [hd, hI, hz, hz]; grind
end
end
section
section
variable {p : Nat} [NeZero p]
theorem Dt_list {n : Nat} {A B : List (List Nat)} (hp : Pr p) (hA : Good p n A) (hB : Good p n B) (hlA : A.length = n) (hlB : B.length = n) (hn : 0 < n) : Dt n (fm p (mulN p A B)) = Dt n (fm p A) * Dt n (fm p B) := by
  rw [← Dt_mul hp hA hlA]
  refine Dt_congr n _ _ fun i j hi hj => ?_
  rw [fm_mul (good_rect hA) (by rw [good_cols hA (by omega)]; exact hlB.symm) (by omega) (by rw [good_cols hB (by omega)]; exact hj), good_cols hA (by omega)]
  rfl
theorem det_mul (hp : Pr p) {M N : List (List Nat)} (hM : Sq M) (hN : Sq N) (hfit : cols M = N.length) : detN p (modN p M) * detN p (modN p N) % p = detN p (modN p (mulN p (modN p M) (modN p N))) := by
  have hn : N.length = M.length := by rw [← hfit, ← hM.2]
  have g1 := modN_good hp.pos M
  rw [← hM.2] at g1
  have g2 := modN_good hp.pos N
  rw [← hN.2, hn] at g2
  have l1 := modN_length p M
  have l2 : (modN p N).length = M.length := by rw [modN_length, hn]
  have g3 : Good p M.length (mulN p (modN p M) (modN p N)) := by
    have h := mulN_good hp.pos (modN p M) (modN p N)
    rwa [modN_cols, ← hN.2, hn] at h
  have l3 : (mulN p (modN p M) (modN p N)).length = M.length := by rw [mulN_len, l1]
  rw [modN_id hp.pos g3]
  obtain ⟨a1, a2⟩ := det_says hp g1 l1
  obtain ⟨b1, b2⟩ := det_says hp g2 l2
  obtain ⟨c1, c2⟩ := det_says hp g3 l3
  refine fz_inj (Nat.mod_lt _ hp.pos) c2 ?_
  rw [fz_mod, fz_mul, a1, b1, c1, Dt_list hp g1 g2 l1 l2 hM.1]

/-- The reduced form of a square matrix beside the identity: F times it is it, and its right half times the matrix is its left half. -/
theorem aug_says (_ : Pr p) {N : List (List Nat)} {n : Nat} (hg : Good p n N) (hl : N.length = n) {R : List (List Nat)} {P : List Nat} (h : Rdc p (n + n) (augN N) R P) (hfull : P.length = n) :
    ∃ F : Nat → Nat → Fin p, (∀ k, k < n → ∀ j, j < n → fm p N k j = sm (fun t => F k t * fm p R t j) n) ∧ (∀ k, k < n → ∀ j, j < n → (if k = j then (1 : Fin p) else 0) = sm (fun t => F k t * fm p R t (n + j)) n) ∧
      (∀ i, i < n → ∀ j, j < n → fm p R i j = sm (fun t => fm p R i (n + t) * fm p N t j) n) := by
  have hXl : (augN N).length = n := by rw [augN_length, hl]
  have hX1 : ∀ k, k < n → ∀ j, j < n → fm p (augN N) k j = fm p N k j := fun k hk j hj => by
    unfold fm; rw [ent_aug hg.wid (by omega), if_pos hj]
  have hX2 : ∀ k, k < n → ∀ j, j < n → fm p (augN N) k (n + j) = if k = j then 1 else 0 := fun k hk j hj => by
    unfold fm
    rw [ent_aug hg.wid (by omega), if_neg (by omega), show n + j - n = j from by omega]
    by_cases e : k = j
    · rw [if_pos ⟨e.symm, by omega⟩, if_pos e]; rfl
    · rw [if_neg fun h => e h.1.symm, if_neg e]; rfl
  obtain ⟨F, hF⟩ := LC.all (fun k hk => h.comb hk)
  obtain ⟨G, hG⟩ := LC.all (A := fm p R) (n := (augN N).length) (fun k hk => h.row.1 k hk)
  rw [hXl, hfull] at hF
  rw [hXl] at hG
  refine ⟨F, fun k hk j hj => by rw [← hX1 k hk j hj]; exact hF k hk j, fun k hk j hj => by rw [← hX2 k hk j hj]; exact hF k hk (n + j), fun i hi j hj => ?_⟩
  have e1 : ∀ t, t < n → fm p R i (n + t) = G i t := fun t ht => by
    rw [hG i hi (n + t), sm_one ht fun s hs hne => by rw [hX2 s hs t ht, if_neg hne]; grind, hX2 t ht t ht, if_pos rfl]; grind
  rw [hG i hi j]
  exact sm_congr n fun t ht => by rw [e1 t ht, hX1 t ht j hj]

theorem fm_drop {R : List (List Nat)} {n : Nat} (_ : Good p (n + n) R) (hl : R.length = n) {i : Nat} (hi : i < n) (j : Nat) : fm p (R.map (List.drop n)) i j = fm p R i (n + j) := by
  unfold fm; congr 1
  rw [ent_row (by simp; omega), ent_row (by omega)]
  simp [List.getD_eq_getElem?_getD, List.getElem?_drop]
omit [NeZero p] in
theorem drop_good {R : List (List Nat)} {n : Nat} (hg : Good p (n + n) R) : Good p n (R.map (List.drop n)) :=
  ⟨fun r hr => by
    obtain ⟨x, hx, rfl⟩ := List.mem_map.1 hr
    rw [List.length_drop, hg.wid x hx]; omega, fun r hr y hy => by
    obtain ⟨x, hx, rfl⟩ := List.mem_map.1 hr
    exact hg.dig x hx y (List.mem_of_mem_drop hy)⟩
omit [NeZero p] in
theorem idN_good {n : Nat} (hp : 1 < p) : Good p n (idN n) := mtab_good fun i k _ _ => by split <;> omega
theorem fm_idN {n i j : Nat} (hi : i < n) (hj : j < n) : fm p (idN n) i j = if i = j then 1 else 0 := by
  unfold fm idN
  rw [ent_mtab, if_pos ⟨hi, hj⟩]
  split <;> rfl
/-- A list that is the product, entry by entry. -/
theorem mul_is {n : Nat} {A B C : List (List Nat)} (hp : Pr p) (hA : Good p n A) (hB : Good p n B) (hC : Good p n C) (hlA : A.length = n) (hlB : B.length = n) (hlC : C.length = n) (hn : 0 < n)
    (h : ∀ i j, i < n → j < n → fm p C i j = sm (fun t => fm p A i t * fm p B t j) n) : mulN p A B = C := by
  have g := mulN_good hp.pos A B
  rw [good_cols hB (by omega)] at g
  refine ent_ext g hC (by rw [mulN_len, hlA, hlC]) fun i hi j hj => ?_
  rw [mulN_len, hlA] at hi
  refine fz_inj (g.ent_lt hp.pos i j) (hC.ent_lt hp.pos i j) ?_
  show fm p (mulN p A B) i j = fm p C i j
  rw [h i j hi hj, fm_mul (good_rect hA) (by rw [good_cols hA (by omega)]; exact hlB.symm) (by omega) (by rw [good_cols hB (by omega)]; exact hj), good_cols hA (by omega)]

/-- With an inverse: both products are the identity, and the determinant is not 0. -/
theorem inv_both (hp : Pr p) {M : List (List Nat)} (hs : Sq M) (hpl : ∀ j, j < M.length → (redN p (augN (modN p M))).2.getD j M.length = j) :
    mulN p (modN p M) (modN p ((redN p (augN (modN p M))).1.map (List.drop M.length))) = idN M.length ∧ mulN p (modN p ((redN p (augN (modN p M))).1.map (List.drop M.length))) (modN p M) = idN M.length ∧ detN p (modN p M) ≠ 0 := by
  have hg := modN_good hp.pos M
  rw [← hs.2] at hg
  have hl := modN_length p M
  have hfull := inv_full hp hs
  obtain ⟨hech, hgR, hlR⟩ := inv_ech hp hs
  rw [← hs.2] at hech hgR
  have hc : cols (augN (modN p M)) = M.length + M.length := by
    rw [cols_eq _ (by rw [augN_length, hl]; exact hs.1)]
    exact ((aug_good hp.1 hg).wid _ (List.getElem_mem _)).trans (by rw [hl])
  have hR : Rdc p (M.length + M.length) (augN (modN p M)) (redN p (augN (modN p M))).1 (redN p (augN (modN p M))).2 := by
    have h9 := rdc_of hp (aug_good hp.1 hg)
    rw [hl] at h9
    show Rdc p (M.length + M.length) (augN (modN p M)) (redTo p (augN (modN p M)) (cols (augN (modN p M)))).1 (redTo p (augN (modN p M)) (cols (augN (modN p M)))).2
    rw [hc]; exact h9
  obtain ⟨R, hRe⟩ : ∃ R, R = (redN p (augN (modN p M))).1 := ⟨_, rfl⟩
  obtain ⟨P, hPe⟩ : ∃ P, P = (redN p (augN (modN p M))).2 := ⟨_, rfl⟩
  rw [← hRe, ← hPe] at hR
  rw [← hPe] at hfull hpl
  rw [← hRe] at hgR hlR ⊢
  obtain ⟨F, f1, f2, f3⟩ := aug_says hp hg hl hR hfull
  have hone : ∀ i j, i < M.length → j < M.length → fm p R i j = if i = j then 1 else 0 := fun i j hi hj => by
    have h1 := hR.one i j (by omega) (by omega)
    have h2 := hpl j hj
    rw [getD_at (show j < P.length by omega)] at h1 h2
    rw [h2] at h1
    exact h1
  have hgE := drop_good hgR
  have hlE : (R.map (List.drop M.length)).length = M.length := by rw [List.length_map, hlR]
  rw [modN_id hp.pos hgE]
  have e1 : mulN p (modN p M) (R.map (List.drop M.length)) = idN M.length := by
    refine mul_is hp hg hgE (idN_good hp.1) hl hlE (idN_length _) hs.1 fun i j hi hj => ?_
    rw [fm_idN hi hj, f2 i hi j hj]
    refine sm_congr _ fun t ht => ?_
    have e2 : fm p (modN p M) i t = F i t := by
      rw [f1 i hi t ht, sm_one ht fun s hs hne => by rw [hone s t hs ht, if_neg hne]; grind, hone t t ht ht, if_pos rfl]; grind
    rw [e2, fm_drop hgR hlR ht]
  refine ⟨e1, ?_, fun h0 => ?_⟩
  · refine mul_is hp hgE hg (idN_good hp.1) hlE hl (idN_length _) hs.1 fun i j hi hj => ?_
    rw [fm_idN hi hj, ← hone i j hi hj, f3 i hi j hj]
    exact sm_congr _ fun t _ => by rw [fm_drop hgR hlR hi]
  · have h1 := Dt_list hp hg hgE hl hlE hs.1
    rw [e1] at h1
    obtain ⟨d1, _⟩ := det_says hp hg hl
    rw [h0, fz_zero] at d1
    have h2 : Dt M.length (fm p (idN M.length)) = 1 := by
      rw [← Dt_one (z9 := p) M.length]
      exact Dt_congr _ _ _ fun i j hi hj => fm_idN hi hj
    rw [h2, ← d1] at h1
    exact fz_one_ne hp.1 (h1.trans (by grind))
/-- Without: the determinant is 0. -/
theorem inv_none (hp : Pr p) {M : List (List Nat)} (hs : Sq M) (hpl : ¬ ∀ j, j < M.length → (redN p (augN (modN p M))).2.getD j M.length = j) : detN p (modN p M) = 0 := by
  have hg := modN_good hp.pos M
  rw [← hs.2] at hg
  have hl := modN_length p M
  have hfull := inv_full hp hs
  obtain ⟨hech, hgR, hlR⟩ := inv_ech hp hs
  rw [← hs.2] at hech hgR
  have hplace := piv_place hech hfull hs.1
  have hc : cols (augN (modN p M)) = M.length + M.length := by
    rw [cols_eq _ (by rw [augN_length, hl]; exact hs.1)]
    exact ((aug_good hp.1 hg).wid _ (List.getElem_mem _)).trans (by rw [hl])
  have hR : Rdc p (M.length + M.length) (augN (modN p M)) (redN p (augN (modN p M))).1 (redN p (augN (modN p M))).2 := by
    have h9 := rdc_of hp (aug_good hp.1 hg)
    rw [hl] at h9
    show Rdc p (M.length + M.length) (augN (modN p M)) (redTo p (augN (modN p M)) (cols (augN (modN p M)))).1 (redTo p (augN (modN p M)) (cols (augN (modN p M)))).2
    rw [hc]; exact h9
  obtain ⟨R, hRe⟩ : ∃ R, R = (redN p (augN (modN p M))).1 := ⟨_, rfl⟩
  obtain ⟨P, hPe⟩ : ∃ P, P = (redN p (augN (modN p M))).2 := ⟨_, rfl⟩
  rw [← hRe, ← hPe] at hR
  rw [← hPe] at hfull hpl hplace
  rw [← hRe] at hgR hlR
  obtain ⟨F, f1, f2, f3⟩ := aug_says hp hg hl hR hfull
  have hn := hs.1
  have hlast : M.length - 1 < P.length := by omega
  -- the last pivot stands in the right half
  have hge : M.length ≤ P[M.length - 1] := by
    refine Nat.le_of_not_lt fun hlt => hpl (hplace.1 ?_)
    rw [getD_at hlast]
    have low : ∀ i (h : i < P.length), i ≤ P[i] := by
      intro i
      induction i with
      | zero => intro _; exact Nat.zero_le _
      | succ i ih =>
        intro h
        have h1 := ih (by omega)
        have h2 := hR.ech.rise i (i + 1) (by omega) h (by omega)
        omega
    have := low (M.length - 1) hlast
    omega
  have hz : ∀ j, j < M.length → fm p R (M.length - 1) j = 0 := fun j hj => by
    unfold fm; rw [hR.ech.left (M.length - 1) hlast j (by omega)]; rfl
  have hgE := drop_good hgR
  have hlE : (R.map (List.drop M.length)).length = M.length := by rw [List.length_map, hlR]
  -- the right half times the matrix is the left half
  have d1 : Dt M.length (fm p (R.map (List.drop M.length))) * Dt M.length (fm p (modN p M)) = 0 := by
    rw [← Dt_mul hp hgE hlE]
    have e : Dt M.length (mm M.length (fm p (R.map (List.drop M.length))) (fm p (modN p M))) = Dt M.length (fun i j => if j < M.length then fm p R i j else 0) := Dt_congr _ _ _ fun i j hi hj => by
      rw [if_pos hj, f3 i hi j hj]
      unfold mm
      exact sm_congr _ fun t _ => by rw [fm_drop hgR hlR hi]
    rw [e]
    exact Dt_zero (r := M.length - 1) (by omega) fun j => by
      by_cases hj : j < M.length
      · rw [if_pos hj]; exact hz j hj
      · rw [if_neg hj]
  -- F is a list too
  obtain ⟨Fl, hFl⟩ : ∃ Fl, Fl = mtab M.length M.length fun i k => (F i k).val := ⟨_, rfl⟩
  have gF : Good p M.length Fl := by rw [hFl]; exact mtab_good fun i k _ _ => (F i k).isLt
  have lF : Fl.length = M.length := by rw [hFl]; exact mtab_length _ _ _
  have eF : ∀ i j, i < M.length → j < M.length → fm p Fl i j = F i j := fun i j hi hj => by
    unfold fm; rw [hFl, ent_mtab, if_pos ⟨hi, hj⟩, fz_val]
  have d2 : Dt M.length (fm p Fl) * Dt M.length (fm p (R.map (List.drop M.length))) = 1 := by
    rw [← Dt_mul hp gF lF, ← Dt_one (z9 := p) M.length]
    refine Dt_congr _ _ _ fun i j hi hj => ?_
    rw [f2 i hi j hj]
    unfold mm
    exact sm_congr _ fun t ht => by rw [eF i t hi ht, fm_drop hgR hlR ht]
  have d3 : Dt M.length (fm p (modN p M)) = 0 := by
    have h1 : Dt M.length (fm p (modN p M)) = (Dt M.length (fm p Fl) * Dt M.length (fm p (R.map (List.drop M.length)))) * Dt M.length (fm p (modN p M)) := by rw [d2]; grind
    rw [h1]
    have h2 : (Dt M.length (fm p Fl) * Dt M.length (fm p (R.map (List.drop M.length)))) * Dt M.length (fm p (modN p M)) = Dt M.length (fm p Fl) * (Dt M.length (fm p (R.map (List.drop M.length))) * Dt M.length (fm p (modN p M))) := by grind
    rw [h2, d1]; grind
  obtain ⟨e1, e2⟩ := det_says hp hg hl
  rw [d3] at e1
  exact fz_inj e2 hp.pos (e1.trans fz_zero.symm)
end
end
end Go.Proofs.YtecdjanopiibcaaDoor
