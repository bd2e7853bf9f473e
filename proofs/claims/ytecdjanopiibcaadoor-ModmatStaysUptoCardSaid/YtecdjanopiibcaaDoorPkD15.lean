/- Kernels: the rows that are told, as lists; the contract of Kernel. Conditions: bases reads 2, 7, 61. The reference's Cols, May, Square, Same and Norm. No conditions beyond the sizes. The reference's Norm, Transpose and Identity. No conditions beyond the sizes. The reference's Same. No conditions beyond the sizes. -/
import Derived.Test.YtecdjanopiibcaaDoorPkD14
namespace Go.Proofs.YtecdjanopiibcaaDoor
section
open Go.RowKit

def negN (p x : Nat) : Nat := plusN p 0 x (p - 1)
theorem negN_lt {p : Nat} (hp : 0 < p) (x : Nat) : negN p x < p := plusN_lt hp _ _ _
theorem negN_zero (p : Nat) : negN p 0 = 0 := plusN_zero p _
/-- The row for column c: the first k pivots laid. -/
def kerTo (p : Nat) (R : List (List Nat)) (P : List Nat) (c n : Nat) : Nat → List Nat
  | 0 => (List.replicate n 0).set c 1
  | k + 1 => (kerTo p R P c n k).set (P.getD k 0) (negN p (ent R k c))
theorem kerTo_length (p : Nat) (R : List (List Nat)) (P : List Nat) (c n : Nat) : ∀ k, (kerTo p R P c n k).length = n
  | 0 => by simp [kerTo]
  | k + 1 => by rw [kerTo, List.length_set, kerTo_length]
theorem kerTo_lt {p : Nat} (hp : 1 < p) (R : List (List Nat)) (P : List Nat) (c n : Nat) : ∀ k, ∀ x ∈ kerTo p R P c n k, x < p
  | 0, x, h => by
    rcases List.mem_or_eq_of_mem_set h with h | rfl
    · rw [(List.mem_replicate.1 h).2]; omega
    · exact hp
  | k + 1, x, h => by
    rcases List.mem_or_eq_of_mem_set h with h | rfl
    · exact kerTo_lt hp R P c n k x h
    · exact negN_lt (by omega) _
/-- The rows for the first columns that are no pivots. -/
def kerUp (p : Nat) (R : List (List Nat)) (P : List Nat) (n : Nat) : Nat → List (List Nat)
  | 0 => []
  | c + 1 => if c ∈ P then kerUp p R P n c else kerUp p R P n c ++ [kerTo p R P c n P.length]
theorem kerUp_length_le (p : Nat) (R : List (List Nat)) (P : List Nat) (n : Nat) : ∀ c, (kerUp p R P n c).length ≤ c
  | 0 => by simp [kerUp]
  | c + 1 => by
    have := kerUp_length_le p R P n c
    rw [kerUp]; split
    · omega
    · rw [List.length_append]; simp; omega
/-- Places other than the pivots' and c hold nought. -/
theorem kerTo_at (p : Nat) (R : List (List Nat)) (P : List Nat) (c n j : Nat) (hj : j < n) (hjc : j ≠ c) : ∀ k, k ≤ P.length → (∀ i (h : i < P.length), i < k → P[i] ≠ j) → (kerTo p R P c n k).getD j 0 = 0
  | 0, _, _ => by
    simp only [kerTo, List.getD_eq_getElem?_getD]
    rw [List.getElem?_set_ne (Ne.symm hjc)]
    simp [hj]
  | k + 1, hk, h => by
    have ih := kerTo_at p R P c n j hj hjc k (by omega) fun i h1 h2 => h i h1 (by omega)
    have hk2 : k < P.length := by omega
    simp only [kerTo, List.getD_eq_getElem?_getD, List.getElem?_eq_getElem hk2, Option.getD_some]
    rw [List.getElem?_set_ne (h k hk2 (by omega)), ← List.getD_eq_getElem?_getD]
    exact ih
/-- The pivots behind column c lay nothing. -/
theorem kerTo_more {p n c0 : Nat} {R : List (List Nat)} {P : List Nat} {c : Nat} (he : Ech R P c0) (h0 : c0 ≤ n) (k : Nat) (hk : ∀ i (h : i < P.length), k ≤ i → c < P[i]) : ∀ d, k + d ≤ P.length → kerTo p R P c n (k + d) = kerTo p R P c n k
  | 0, _ => rfl
  | d + 1, hd => by
    have ih := kerTo_more (p := p) (n := n) he h0 k hk d (by omega)
    have hi : k + d < P.length := by omega
    show kerTo p R P c n (k + d + 1) = _
    rw [kerTo, ih, getD_at hi, he.left (k + d) hi c (hk _ hi (by omega)), negN_zero]
    have hlt := he.lt (k + d) hi
    have hz : (kerTo p R P c n k)[P[k + d]]? = some 0 := by
      have h1 := kerTo_at p R P c n P[k + d] (by omega) (by have := hk _ hi (by omega); omega) k (by omega) fun i h1 h2 => by
        have := he.rise i (k + d) h1 hi (by omega); omega
      rw [List.getD_eq_getElem?_getD] at h1
      have hl : P[k + d] < (kerTo p R P c n k).length := by rw [kerTo_length]; omega
      rw [List.getElem?_eq_getElem hl] at h1 ⊢
      simpa using h1
    obtain ⟨hl, e⟩ := List.getElem?_eq_some_iff.1 hz
    conv => lhs; rw [← e]
    exact List.set_getElem_self hl

/-- k pivots stand ahead of column c. -/
def AtN (P : List Nat) (c k : Nat) : Prop := k ≤ P.length ∧ ∀ i (h : i < P.length), i < k ↔ P[i] < c
theorem AtN.zero (P : List Nat) : AtN P 0 0 := ⟨Nat.zero_le _, fun i h => by omega⟩
theorem AtN.is {R : List (List Nat)} {P : List Nat} {c0 c k : Nat} (he : Ech R P c0) (h : AtN P c k) : c ∈ P ↔ ∃ h : k < P.length, P[k] = c := by
  constructor
  · intro hm
    obtain ⟨i, hi, rfl⟩ := List.mem_iff_getElem.1 hm
    have h1 : ¬ i < k := fun e => by have := (h.2 i hi).1 e; omega
    have h2 : ¬ k < i := fun e => by
      have := he.rise k i (by omega) hi e
      have h3 := (h.2 k (by omega)).2 this
      omega
    have : i = k := by omega
    subst this
    exact ⟨hi, rfl⟩
  · rintro ⟨hk, rfl⟩
    exact List.getElem_mem hk
theorem AtN.yes {R : List (List Nat)} {P : List Nat} {c0 c k : Nat} (he : Ech R P c0) (h : AtN P c k) (hk : k < P.length) (e : P[k] = c) : AtN P (c + 1) (k + 1) := ⟨hk, fun i hi => by
  constructor
  · intro hlt
    by_cases hik : i = k
    · subst hik; omega
    · have := (h.2 i hi).1 (by omega); omega
  · intro hlt
    by_cases hik : k < i
    · have := he.rise k i hk hi hik; omega
    · omega⟩
theorem AtN.no {P : List Nat} {c k : Nat} (h : AtN P c k) (hn : c ∉ P) : AtN P (c + 1) k := ⟨h.1, fun i hi => by
  have hne : P[i] ≠ c := fun e => hn (e ▸ List.getElem_mem hi)
  rw [h.2 i hi]; omega⟩
theorem AtN.more {p n c0 : Nat} {R : List (List Nat)} {P : List Nat} {c k : Nat} (he : Ech R P c0) (h0 : c0 ≤ n) (h : AtN P c k) (hn : c ∉ P) : kerTo p R P c n k = kerTo p R P c n P.length := by
  have := kerTo_more (p := p) (n := n) (c := c) he h0 k (fun i hi hk => by
    have hne : P[i] ≠ c := fun e => hn (e ▸ List.getElem_mem hi)
    have h1 : ¬ P[i] < c := fun e => by have := (h.2 i hi).2 e; omega
    omega) (P.length - k) (by have := h.1; omega)
  rw [show k + (P.length - k) = P.length from by have := h.1; omega] at this
  exact this.symm

set_option maxHeartbeats 3200000 in
set_option maxRecDepth 100000 in
theorem kernelA_ok (p : Nat) (A : Option Addr) (c : Nat) (M : List (List Nat)) (w : World) (B : Nat) (h : Takes p A c M w B) (hcl : cols M ≤ 1099511627776) :
    Calls Tryd.prog 25 #[.slice A M.length c, .int .u32 (p : Int)] w fun e w' => ∃ A1 c1, e = .returned (.tuple #[.slice A1 (kerUp p (redN p (modN p M)).1 (redN p (modN p M)).2 (cols M) (cols M)).length c1, .int .i64 0]) ∧ RdM w' w'.heap.size A1 (kerUp p (redN p (modN p M)).1 (redN p (modN p M)).2 (cols M) (cols M)) ∧ (kerUp p (redN p (modN p M)).1 (redN p (modN p M)).2 (cols M) (cols M)).length ≤ c1 ∧ Below w.heap.size w w' := by
  have Hr := Lib.hid h.list
  have hok := redN_ok (M := M) h.pr.pos
  have hgd := modN_good h.pr.pos M
  have hml := modN_length p M
  have hmc := modN_cols p M
  rw [← hmc] at hgd
  have H := Lib.hid h
  have hrows := h.sz.rows
  have hwid := h.sz.wid
  have hp1 := h.pr.1
  have hp0 := h.pr.pos
  have hplt := h.lt
  have hNl : (modN p M).length ≤ 1099511627776 := by omega
  have hNc : cols (modN p M) ≤ 70368744177664 := by omega
  have hech : Ech (redN p (modN p M)).1 (redN p (modN p M)).2 (cols M) := by
    have h9 := redTo_ech h.pr hgd (cols (modN p M))
    rw [hmc] at h9
    show Ech (redTo p (modN p M) (cols (modN p M))).1 (redTo p (modN p M) (cols (modN p M))).2 (cols M)
    rw [hmc]; exact h9
  unfold hdrM at Hr
  obtain ⟨N, hN⟩ : ∃ N, N = modN p M := ⟨_, rfl⟩
  rw [← hN] at Hr hok hgd hml hNl hNc hech ⊢
  have Hml := Lib.hid hml
  obtain ⟨sp, hsp⟩ : ∃ sp, sp = spN p := ⟨_, rfl⟩
  rw [← hsp] at Hr
  have hwl := h.bas.lt
  obtain ⟨R, hR⟩ : ∃ R, R = (redN p N).1 := ⟨_, rfl⟩
  obtain ⟨P, hP⟩ : ∃ P, P = (redN p N).2 := ⟨_, rfl⟩
  have hokg := hok.good
  have hokl := hok.len
  have hokf := hok.few
  rw [← hR] at hech hokg hokl ⊢
  rw [← hP] at hech hokf ⊢
  obtain ⟨n, hn⟩ : ∃ n, n = cols M := ⟨_, rfl⟩
  rw [← hn] at hcl hwid hech hokg ⊢
  obtain ⟨Kr, hKr⟩ : ∃ Kr, Kr = kerUp p R P n n := ⟨_, rfl⟩
  rw [← hKr]
  have HKr := Lib.hid hKr
  have HR := Lib.hid hR
  have HP := Lib.hid hP
  have Hn := Lib.hid hn
  have Hech := Lib.hid hech
  have Hokg := Lib.hid hokg
  have Hokl := Lib.hid hokl
  clear h hN hml hmc hsp hR hP hn hKr hech hokg hokl hok
  go_enter Tryd.func25, Tryd.ntmps25
  go_wp2_with (go_at_call 49; (with_reducible refine Hr.out.mono ?_); rintro e w1 ⟨gl, g, hs, rfl, hgl, hbl, ho, hu, hq⟩; have cl := hbl.cell0; have hglt := hbl.lt)
  obtain ⟨W0, hW0⟩ : ∃ W0, W0 = w1.alloc (.cells #[.int .u64 (p : Int), .int .u64 (sp : Int)] 63) := ⟨_, rfl⟩
  rw [← hW0]
  obtain ⟨U, hU⟩ : ∃ U, U = w1.heap.size := ⟨_, rfl⟩
  have hb01 : Below w1.heap.size w1 W0 := by rw [hW0]; exact (Below.refl _ _).alloc (Nat.le_refl _) _
  have hbf : Blk W0 U 63 [.int .u64 (p : Int), .int .u64 (sp : Int)] := by rw [hW0, hU]; exact Blk.new_ rfl
  have ho0 := ho.below hb01 (Nat.le_refl _)
  have hbel0 : Below w.heap.size w W0 := hq.trans (hb01.mono hq.size)
  have hu0 : UB U hs := by rw [hU]; exact hu
  have hgU : g < U := by rw [hU]; exact ho.lt
  have hUW : U < W0.heap.size := hbf.lt
  have hlo := ho.lo
  have hred := reduce_any p sp W0 U W0.heap.size (gl + 1) g M.length hs N H.out.pr hplt (H.out.bas.below hbel0 hwl) (by omega) ho0 hu0 hgU (Nat.le_of_lt hUW) (by omega) rfl hgd hNl (by rw [Hml.out]; exact Nat.le_refl _) hNc
  rw [Hml.out, ← HR.out, ← HP.out] at hred
  refine hred.mono ?_
  rintro e w2 ⟨A2, c2, hs2, rfl, hro, ho2, hu2, hq2, hmd2⟩
  have hbf2 := hbf.mid hmd2 (Nat.le_refl _) hUW
  have hbel2 : Below w.heap.size w w2 := hbel0.trans (hq2.mono (by omega))
  have hPc := hro.rd.2.1
  have hrP := hro.rd.2.2
  rw [ints_length] at hPc
  have hrR := ho2.rd
  rw [← hU]
  have hokl := Hokl.out
  have hRcol : M.length ≠ 0 → cols R = n := fun h0 => by
    rw [cols_eq R (by rw [hokl]; omega)]
    exact Hokg.out.len _
  have Hcolv : Hid (∀ W, Below w2.heap.size w2 W → Calls Tryd.prog 51 #[.slice (some ⟨g, 0, none⟩) M.length M.length] W fun e w' => e = .returned (.int .i64 (n : Int)) ∧ w' = W) := fun W hW => by
    have h9 := columns_any (some ⟨g, 0, none⟩) M.length R W w2.heap.size (hrR.below hW) (by rw [hokl]; exact Nat.le_refl _) (by rw [hokl]; omega)
    have hc9 : cols R = n := by
      by_cases h0 : M.length = 0
      · have h1 : R = [] := List.eq_nil_of_length_eq_zero (by rw [hokl, h0])
        have h2 : M = [] := List.eq_nil_of_length_eq_zero h0
        rw [h1, Hn.out, h2]
      · exact hRcol h0
    rw [hokl, hc9] at h9
    exact h9
  clear hW0 hb01 ho hbl hu hq hbf ho0 hu0 hred hgd hro ho2 hokl hRcol hmd2 hU cl
  go_wp2_with (go_at_call 51; (with_reducible refine (Hcolv.out _ (Below.refl _ _)).mono ?_); rintro e w3 ⟨rfl, rfl⟩)
  have hws := hbel2.size
  have hUw3 : U < w3.heap.size := hbf2.lt
  go_loopw [10, 11, 35] (fun ov kv cv wr => ∃ (c0 k : Nat) (Ao : Option Addr) (co : Nat) (O : List (List Nat)), c0 ≤ n ∧ cv = .int .i64 (c0 : Int) ∧ kv = .int .i64 (k : Int) ∧ ov = .slice Ao O.length co ∧ Hid (O = kerUp p R P n c0) ∧ AtN P c0 k ∧ OwA wr w3.heap.size wr.heap.size (.slice Ao O.length co) O ∧ Below w3.heap.size w3 wr) (fun _ _ cv _ => n - (intOf cv).toNat)
  case atStart => exact ⟨0, 0, none, 0, [], by omega, rfl, rfl, rfl, rfl, AtN.zero P, OwA.nil_ _ _ _, Below.refl _ _⟩
  case round =>
    obtain ⟨c0, k, Ao, co, O, hc0, rfl, rfl, rfl, HO, hat, hoA, hbel⟩ := hrel
    by_cases hlt : c0 < n
    · have hkP := hat.1
      have his := hat.is Hech.out
      have hrPw := hrP.below hbel
      by_cases hmem : c0 ∈ P
      · obtain ⟨hk, hpk⟩ := his.1 hmem
        have hat2 := hat.yes Hech.out hk hpk
        have HO2 : Hid (O = kerUp p R P n (c0 + 1)) := by show O = _; rw [kerUp, if_pos hmem]; exact HO.out
        obtain ⟨b, off, eA, hb, hc⟩ := hrPw (fun e => by have := ints_length P; rw [e] at this; simp at this; omega)
        subst eA
        have hcl := hc k (.int .i64 (P[k] : Nat)) (by simp [ints, List.getElem?_eq_getElem hk])
        rw [hpk] at hcl
        have t1 : decide ((k : Int) < (P.length : Int)) = true := by simp; exact hk
        clear hc hpk hmem his hat
        go_wp2_with fail
        go_roundw
        case rel => exact ⟨c0 + 1, k + 1, Ao, co, O, by omega, by go_num, by go_num, rfl, HO2, hat2, hoA, hbel⟩
        case measure => simp [intOf]; omega
      · have hat2 := hat.no hmem
        have hmore := hat.more (p := p) Hech.out (Nat.le_refl n) hmem
        have HO2 : Hid (kerUp p R P n (c0 + 1) = O ++ [kerTo p R P c0 n k]) := by show _ = _; rw [kerUp, if_neg hmem, hmore, ← HO.out]
        have hOl : O.length ≤ n := by rw [HO.out]; exact Nat.le_trans (kerUp_length_le _ _ _ _ _) hc0
        have htest : (decide (k < P.length) = false) ∨ (decide (k < P.length) = true ∧ ∃ b off x, A2 = some ⟨b, off, none⟩ ∧ wr.cell? ⟨b, off + k, none⟩ = some (.int .i64 (x : Int)) ∧ ((x : Int) == (c0 : Int)) = false ∧ k < P.length) := by
          by_cases hk : k < P.length
          · obtain ⟨b, off, eA, hb, hc⟩ := hrPw (fun e => by have := ints_length P; rw [e] at this; simp at this; omega)
            refine Or.inr ⟨by simp; exact hk, b, off, (P[k] : Nat), eA, hc k _ (by simp [ints, List.getElem?_eq_getElem hk]), ?_, hk⟩
            have hne : P[k] ≠ c0 := fun e => hmem (e ▸ List.getElem_mem hk)
            simp; omega
          · exact Or.inl (by simp; omega)
        have hmk := fun W => mkRow n (by omega) W
        have hkc2 : k ≤ c2 := by omega
        have Hat2 := Lib.hid hat2
        have Hcol2 : Hid (Calls Tryd.prog 51 #[.slice (some ⟨g, 0, none⟩) M.length M.length] wr fun e w' => e = .returned (.int .i64 (n : Int)) ∧ w' = wr) := Hcolv.out wr hbel
        have HrP := Lib.hid hrPw
        obtain ⟨X, hX⟩ : ∃ X, X = wr.heap.size := ⟨_, rfl⟩
        obtain ⟨W1, hW1⟩ : ∃ W1, W1 = wr.alloc (.cells ((Array.replicate n (Value.int .u32 0)).setIfInBounds c0 (.int .u32 1)) 28) := ⟨_, rfl⟩
        have hbW1 : Below wr.heap.size wr W1 := by rw [hW1]; exact (Below.refl _ _).alloc (Nat.le_refl _) _
        have hkz : Blk W1 X 28 (u32s (kerTo p R P c0 n 0)) := by
          rw [hW1, hX]
          refine Blk.new_ ?_
          apply Array.ext'
          simp [kerTo, u32s, List.map_set]
        have HX := Lib.hid hX
        have hXW : X < W1.heap.size := hkz.lt
        have HW1 := Lib.hid hW1
        have hwrX : wr.heap.size ≤ X := by omega
        have hwX : w3.heap.size ≤ X := by have := hbel.size; omega
        have HoA := Lib.hid hoA
        have Hhmore := Lib.hid hmore
        clear hmem his hat hat2 hmore hrPw hX hW1 hoA
        rcases htest with t1 | ⟨t1, b1, off1, x1, eA2, cA2, t2, hkl⟩
        all_goals (try subst eA2)
        all_goals
          go_upto_region 16 with (go_at_call 51; (with_reducible refine Hcol2.out.mono ?_); rintro e w4 ⟨rfl, hw4⟩; obtain rfl : wr = w4 := hw4.symm)
          rw [← HW1.out, ← HX.out]
          have hbelW1 : Below w3.heap.size w3 W1 := hbel.trans (hbW1.mono hbel.size)
          obtain ⟨wo, hwo⟩ : ∃ wo, wo = wr := ⟨_, rfl⟩
          have Hwo := Lib.hid hwo
          clear hwo
          go_loopw [62] (fun iv wq => ∃ i : Nat, i ≤ k ∧ iv = .int .i64 (i : Int) ∧ Blk wq X 28 (u32s (kerTo p R P c0 n i)) ∧ Tn X W1 wq) (fun iv _ => k - (intOf iv).toNat)
          case atStart => exact ⟨0, by omega, rfl, hkz, Tn.refl _ _⟩
          case round =>
            obtain ⟨i, hik, rfl, hbX, htn⟩ := hrel
            have hbq : Below w3.heap.size w3 wr := hbelW1.trans (htn.below hwX (by omega))
            have hXr : X < wr.heap.size := hbX.lt
            by_cases hikl : i < k
            · have hiP : i < P.length := by omega
              have hiM : i < M.length := by omega
              have hiR : i < R.length := by rw [Hokl.out]; omega
              have hcR : c0 < R[i].length := by rw [Hokg.out.len hiR]; exact hlt
              obtain ⟨b5, off5, eA5, hb5, hc5⟩ := (hrP.below hbq) (fun e => by have := ints_length P; rw [e] at this; simp at this; omega)
              cases eA5
              have hcp := hc5 i (.int .i64 (P[i] : Nat)) (by simp [ints, List.getElem?_eq_getElem hiP])
              obtain ⟨b6, off6, Ai, ci, eG, hb6, hx6, hl6, hm6, hr6⟩ := (hrR.below hbq).at_ hiR
              cases eG
              rw [Nat.zero_add] at hx6
              obtain ⟨b7, off7, eA7, hb7, hy7⟩ := hr6.at32 hcR
              subst eA7
              rw [Hokg.out.len hiR] at hx6 hl6
              have hue := ent_at hiR hcR
              rw [← hue] at hy7
              have hul := Hokg.out.ent_lt hp0 i c0
              have hPn := Hech.out.lt i hiP
              have hbfq := hbf2.below hbq hUw3
              have c5 := hbfq.cell 0
              have c6 := hbfq.cell 1
              have hlen := kerTo_length p R P c0 n i
              have hPl : P[i] < (kerTo p R P c0 n i).length := by rw [hlen]; exact hPn
              have hst : kerTo p R P c0 n (i + 1) = (kerTo p R P c0 n i).set P[i] (negN p (ent R i c0)) := by rw [kerTo, getD_at hiP]
              have Hst := Lib.hid hst
              have Hpl : Hid (∀ W, Calls Tryd.prog 41 #[fieldV p sp, .int .u32 0, .int .u32 (ent R i c0 : Int), .int .u32 ((p - 1 : Nat) : Int)] W fun e w' => e = .returned (.int .u32 (negN p (ent R i c0) : Int)) ∧ Below W.heap.size W w') := fun W => plus0_any p sp (ent R i c0) (p - 1) W hp0 hplt (by omega) (by omega)
              have dX := hbX.cell P[i]
              obtain ⟨u0, hu0⟩ : ∃ u0, wr.cell? ⟨X, P[i], none⟩ = some u0 := ⟨_, by rw [dX, u32s_at hPl]⟩
              have fX := hbX.frozen P[i]
              obtain ⟨pi, hpi⟩ : ∃ pi, pi = P[i] := ⟨_, rfl⟩
              obtain ⟨x0, hx0⟩ : ∃ x0, x0 = ent R i c0 := ⟨_, rfl⟩
              obtain ⟨v0, hv0⟩ : ∃ v0, v0 = negN p x0 := ⟨_, rfl⟩
              obtain ⟨pm, hpm⟩ : ∃ pm, pm = p - 1 := ⟨_, rfl⟩
              rw [← hpm] at Hpl
              rw [← hx0] at Hpl Hst hy7 hul
              rw [← hv0] at Hpl Hst
              rw [← hpi] at Hst hcp hPn hu0 fX
              have t8 : (p : Int) - 1 = (pm : Int) := by omega
              have t9 : IntKind.u32.wrap (pm : Int) = (pm : Int) := by rw [IntKind.wrap_u32]; omega
              clear hue hst hlen hpi hx0 hv0 hpm dX hPl hc5
              go_upto_region 18 with (fail)
              have hgr : g < wr.heap.size := by omega
              have hUr : U < wr.heap.size := by omega
              have hb7r : b7 < wr.heap.size := by have := hbq.size; omega
              have hne1 : ¬ (X = g) := by omega
              have hne2 : ¬ (X = U) := by omega
              have hne3 : ¬ (X = b7) := by omega
              have hne4 : ¬ (g = X) := by omega
              have hne5 : ¬ (U = X) := by omega
              have hne6 : ¬ (b7 = X) := by omega
              go_region_held3 (fun W => W.cell? ⟨g, i, none⟩ = some (.slice (some ⟨b7, off7, none⟩) n ci) ∧ W.cell? ⟨b7, off7 + c0, none⟩ = some (.int .u32 (x0 : Int)) ∧ W.cell? ⟨U, 0, none⟩ = some (.int .u64 (p : Int)) ∧ W.cell? ⟨U, 1, none⟩ = some (.int .u64 (sp : Int))) (first | exact ⟨hx6, hy7, c5, c6⟩ | exact ⟨x65.out, y75.out, c55.out, c65.out⟩ | go_keep) (first
                | (go_at_call 41; (with_reducible refine (Hpl.out _).mono ?_); rintro e w5 ⟨rfl, hq⟩; have hq5 : Below wr.heap.size wr w5 := (by first | exact hq | exact (Below.refl _ _).drew.trans hq); clear hq; have hu5 := (hq5.cell (p := ⟨X, pi, none⟩) hXr).trans hu0; have hf5 := (hq5.frozen (p := ⟨X, pi, none⟩) hXr).trans fX; have x65 := Lib.hid ((hq5.cell (p := ⟨g, i, none⟩) hgr).trans hx6); have y75 := Lib.hid ((hq5.cell (p := ⟨b7, off7 + c0, none⟩) hb7r).trans hy7); have c55 := Lib.hid ((hq5.cell (p := ⟨U, 0, none⟩) hUr).trans c5); have c65 := Lib.hid ((hq5.cell (p := ⟨U, 1, none⟩) hUr).trans c6)))
              all_goals go_wp2_with fail
              all_goals go_roundw
              case rel =>
                have hb9 := (hbX.below hq5 hXr).set_ pi (.int .u32 (v0 : Int))
                rw [u32s_set, ← Hst.out] at hb9
                exact ⟨i + 1, by omega, by go_num, hb9, (htn.trans (Tn.of_below hq5 (Nat.le_refl _))).setCell pi _⟩
              case measure => simp [intOf]; omega
            · have hie : i = k := by omega
              rw [hie] at hbX
              have hbo : Below wo.heap.size wo wr := by rw [Hwo.out]; exact hbW1.trans (htn.below hwrX (by have := hbW1.size; omega))
              have hoA2 : OwA wr w3.heap.size wo.heap.size (.slice Ao O.length co) O := by rw [Hwo.out] at hbo ⊢; exact HoA.out.below hbo (Nat.le_refl _)
              have hwoX : wo.heap.size ≤ X := by rw [Hwo.out]; exact hwrX
              have hlen := kerTo_length p R P c0 n k
              have hres : Res wr wo.heap.size 28 (some ⟨X, 0, none⟩) n (u32s (kerTo p R P c0 n k)) := by
                have h1 := Res.of_blk0 hbX hwoX (by rw [u32s_length, hlen]; omega)
                rw [u32s_length, hlen] at h1; exact h1
              obtain ⟨A9, c9, w9, hrun, hoA9, hb9⟩ := app_row wr w3.heap.size wo.heap.size (.slice Ao O.length co) O hoA2 (some ⟨X, 0, none⟩) n (kerTo p R P c0 n k) hres (by rw [Hwo.out]; exact hbel.size) hbq.size (fun a ha => by cases ha; exact hXr) hbo.size (by unfold maxLen; omega) (by omega)
              rw [hlen] at hrun
              rw [← HO2.out] at hoA9
              have Hrun := Lib.hid hrun
              have hge : k ≤ i := by omega
              have Hl9 : Hid ((kerUp p R P n (c0 + 1)).length = O.length + 1) := by show _ = _; rw [HO2.out, List.length_append]; rfl
              rw [← Hl9.out] at hoA9
              clear hie hlen hres hoA2 hrun hbX
              go_wp2_with (first | (at_builtin; refine wpList_append_run rfl _ _ _ _ rfl _ _ rfl rfl _ _ Hrun.out ?_))
              go_roundw
              case rel => exact ⟨c0 + 1, k, A9, c9, kerUp p R P n (c0 + 1), by omega, by go_num, rfl, by rw [Hl9.out], rfl, Hat2.out, hoA9, hbq.trans hb9⟩
              case measure => simp [intOf]; omega
    · have hce : c0 = n := by omega
      have HKO : Hid (O = Kr) := by show _ = _; rw [HKr.out, HO.out, hce]
      obtain ⟨_, hco, hrd⟩ := hoA.rd (Nat.le_refl _)
      have hge : n ≤ c0 := by omega
      clear hce
      go_wp2_with fail
      go_ret2
      refine ⟨Ao, co, by rw [← HKO.out]; rfl, by rw [← HKO.out]; exact hrd, by rw [← HKO.out]; exact hco, hbel2.trans (hbel.mono hws)⟩
end
section
open Go.RowKit

theorem rcols_any (A : Option Addr) (c : Nat) (M : List (List Nat)) (w : World) (B : Nat) (hr : RdM w B A M) (hm : M.length ≤ 281474976710656) :
    Calls Tryd.prog 36 #[.slice A M.length c] w fun e w' => e = .returned (.int .i64 (cols M : Int)) ∧ w' = w := by
  by_cases h0 : M = []
  · subst h0
    go_enter Tryd.func36, Tryd.ntmps36
    go_wp2
    go_ret
    exact ⟨rfl, rfl⟩
  · have h0' : 0 < M.length := List.length_pos_iff.2 h0
    have t1 : ((M.length : Int) == 0) = false := beq_eq_false_iff_ne.2 (by omega)
    obtain ⟨b, off, Ai, ci, rfl, hb, hx, hl, hm1, hrd⟩ := hr.at_ h0'
    rw [Nat.add_zero] at hx
    rw [cols_eq M h0']
    obtain ⟨n, hn⟩ : ∃ n, n = M[0].length := ⟨_, rfl⟩
    rw [← hn] at hx ⊢
    clear hn h0 hrd hr hl hm1
    go_enter Tryd.func36, Tryd.ntmps36
    go_wp2
    go_ret
    exact ⟨rfl, rfl⟩

theorem rect_iff (M : List (List Nat)) : Rect M ↔ ∀ i (h : i < M.length), M[i].length = cols M := ⟨fun h i hi => h.at_ i hi, fun h r hr => by obtain ⟨i, hi, rfl⟩ := List.mem_iff_getElem.1 hr; exact h i hi⟩

theorem rmay_any (A : Option Addr) (c : Nat) (M : List (List Nat)) (w : World) (B : Nat) (hr : RdM w B A M) (hm : M.length ≤ 281474976710656) (b : Bool) (hb : b = true ↔ Rect M) :
    Calls Tryd.prog 53 #[.slice A M.length c] w fun e w' => e = .returned (.bool b) ∧ w' = w := by
  have Hb := Lib.hid hb
  clear hb
  go_enter Tryd.func53, Tryd.ntmps53
  go_wp2
  go_loopw [7] (fun iv wr => ∃ (i : Nat), i ≤ M.length ∧ iv = .int .i64 (i : Int) ∧ Hid (∀ j (h : j < M.length), j < i → M[j].length = cols M) ∧ wr = w) (fun iv _ => M.length - (intOf iv).toNat)
  case atStart => exact ⟨0, by omega, rfl, fun _ _ h => absurd h (Nat.not_lt_zero _), rfl⟩
  case round =>
    obtain ⟨i, hi, rfl, hall, hw⟩ := hrel
    obtain rfl : w = wr := hw.symm
    clear hw
    by_cases hlt : i < M.length
    · have h0 : 0 < M.length := by omega
      obtain ⟨b1, off, A0, c0, rfl, hb1, hx0, _, _, _⟩ := hr.at_ h0
      obtain ⟨b2, off2, Ai, ci, e2, hb2, hxi, _, _, _⟩ := hr.at_ hlt
      cases e2
      rw [Nat.add_zero] at hx0
      have hcl := cols_eq M h0
      obtain ⟨n0, hn0⟩ : ∃ n0, n0 = M[0].length := ⟨_, rfl⟩
      obtain ⟨n1, hn1⟩ : ∃ n1, n1 = M[i].length := ⟨_, rfl⟩
      rw [← hn0] at hx0 hcl
      rw [← hn1] at hxi
      have Hn1 := Lib.hid hn1
      have Hcl := Lib.hid hcl
      clear hn0 hn1 hcl
      by_cases heq : n1 = n0
      · have t1 : ((n1 : Int) != (n0 : Int)) = false := by rw [heq]; simp
        have Heq := Lib.hid heq
        clear heq
        go_wp2
        go_roundw
        case rel => exact ⟨i + 1, by omega, by go_num, fun j hj hji => by
          by_cases hji2 : j < i
          · exact hall.out j hj hji2
          · obtain rfl : j = i := by omega
            rw [← Hn1.out, Hcl.out, Heq.out], trivial⟩
        case measure => simp [intOf]; omega
      · have t1 : ((n1 : Int) != (n0 : Int)) = true := by rw [bne_iff_ne]; omega
        have hbf : b = false := by
          cases hb9 : b with
          | false => rfl
          | true => exact absurd (((rect_iff M).1 (Hb.out.1 hb9) i hlt)) (by rw [← Hn1.out, Hcl.out]; exact heq)
        clear heq
        go_wp2
        go_ret
        exact ⟨by rw [hbf]; rfl, rfl⟩
    · have hbt : b = true := Hb.out.2 ((rect_iff M).2 fun j hj => hall.out j hj (by omega))
      have hge : M.length ≤ i := by omega
      go_wp2
      go_ret
      exact ⟨by rw [hbt]; rfl, rfl⟩

theorem rsquare_any (A : Option Addr) (c : Nat) (M : List (List Nat)) (w : World) (B : Nat) (hr : RdM w B A M) (hm : M.length ≤ 281474976710656) (b : Bool) (hb : b = true ↔ Sq M) :
    Calls Tryd.prog 43 #[.slice A M.length c] w fun e w' => e = .returned (.bool b) ∧ w' = w := by
  by_cases h0 : M = []
  · subst h0
    have hbf : b = false := by
      cases hb9 : b with
      | false => rfl
      | true => exact absurd (hb.1 hb9).1 (by simp)
    subst hbf
    clear hb
    go_enter Tryd.func43, Tryd.ntmps43
    go_wp2
    go_ret
    exact ⟨rfl, rfl⟩
  · have h0' : 0 < M.length := List.length_pos_iff.2 h0
    obtain ⟨b1, off, Ai, ci, rfl, hb1, hx, hl, hm1, hrd⟩ := hr.at_ h0'
    rw [Nat.add_zero] at hx
    have hcl := cols_eq M h0'
    obtain ⟨n, hn⟩ : ∃ n, n = M[0].length := ⟨_, rfl⟩
    rw [← hn] at hx hcl
    have t1 : decide ((0 : Int) < (M.length : Int)) = true := by simp; omega
    have t2 : ((n : Int) == (M.length : Int)) = b := by
      rw [Bool.eq_iff_iff, beq_iff_eq, hb]
      unfold Sq
      rw [hcl]
      omega
    clear hn h0 hrd hr hl hm1 hb hcl
    go_enter Tryd.func43, Tryd.ntmps43
    go_wp2
    go_ret
    exact ⟨by simp, rfl⟩
end
section
open Go.RowKit

theorem take_snoc {α : Type} {l : List α} {i : Nat} (h : i < l.length) : l.take (i + 1) = l.take i ++ [l[i]] := by
  rw [List.take_add_one, List.getElem?_eq_getElem h]; rfl
/-- The remainders, row by row. -/
def nrm (p : Nat) (r : List Nat) : List Nat := r.map (· % p)
def rnormN (p : Nat) (M : List (List Nat)) : List (List Nat) := M.map (nrm p)
theorem rnormN_length (p : Nat) (M : List (List Nat)) : (rnormN p M).length = M.length := by simp [rnormN]

/-- A row made in a new row: how it is put behind a matrix that grows. -/
theorem app_new {ws w' : World} {B : Nat} {v : Value} {M : List (List Nat)} {A : Option Addr} {n c : Nat} {r : List Nat} (h : OwA ws B ws.heap.size v M) (hb : Below ws.heap.size ws w') (hB : B ≤ ws.heap.size) (hr : Ro w' ws.heap.size 28 (.slice A n c) (u32s r)) (hl : r.length ≤ 281474976710656) (hm : M.length ≤ 1099511627776) :
    ∃ A' c' w2, (Builtin.append_ #[26, 26] 26 #[v, .slice (some ⟨w'.heap.size, 0, none⟩) 1 1]).run Tryd.prog (w'.alloc (.cells #[.slice A n c] 37)) = .ok (.slice A' (M.length + 1) c') w2 ∧
      OwA w2 B w2.heap.size (.slice A' (M.length + 1) c') (M ++ [r]) ∧ Below B ws w2 := by
  obtain ⟨e1, hres, hA⟩ := hr.res (by rw [u32s_length]; exact hl)
  rw [u32s_length] at e1
  subst e1
  have hcap := hr.capLe
  obtain ⟨A', c', w2, h1, h2, h3⟩ := app_row w' B ws.heap.size v M (h.below hb (Nat.le_refl _)) A c r hres hB (Nat.le_trans hB hb.size) hA hb.size hcap hm
  exact ⟨A', c', w2, h1, h2, (hb.mono hB).trans h3⟩

set_option maxHeartbeats 1600000 in
theorem rnorm_any (p : Nat) (A : Option Addr) (c : Nat) (M : List (List Nat)) (w : World) (B : Nat) (hp0 : 0 < p) (hp : p < 4294967296) (hr : RdM w B A M) (hB : B ≤ w.heap.size) (hm : M.length ≤ 1099511627776) (hwid : ∀ r ∈ M, r.length ≤ 17592186044416) :
    Calls Tryd.prog 44 #[.slice A M.length c, .int .u32 (p : Int)] w fun e w' => ∃ A' c', e = .returned (.slice A' M.length c') ∧ OwA w' w.heap.size w'.heap.size (.slice A' M.length c') (rnormN p M) ∧ Below w.heap.size w w' := by
  have t0 : ((p : Int) == 0) = false := beq_eq_false_iff_ne.2 (by omega)
  have Hwid := Lib.hid hwid
  clear hwid
  go_enter Tryd.func44, Tryd.ntmps44
  go_wp2
  go_loopw [5, 13] (fun ov iv wr => ∃ (i : Nat) (Ao : Option Addr) (co : Nat), i ≤ M.length ∧ iv = .int .i64 (i : Int) ∧ ov = .slice Ao i co ∧ OwA wr w.heap.size wr.heap.size (.slice Ao i co) (rnormN p (M.take i)) ∧ Below w.heap.size w wr) (fun _ iv _ => M.length - (intOf iv).toNat)
  case atStart => exact ⟨0, none, 0, by omega, rfl, rfl, OwA.nil_ _ _ _, Below.refl _ _⟩
  case round =>
    obtain ⟨i, Ao, co, hi, rfl, rfl, hoA, hbel⟩ := hrel
    by_cases hlt : i < M.length
    · obtain ⟨b, off, Ai, ci, rfl, hb, hx, hl, hm1, hrd⟩ := (hr.below (hbel.mono hB)).at_ hlt
      have hwi := Hwid.out _ (List.getElem_mem hlt)
      have hsn : rnormN p (M.take (i + 1)) = rnormN p (M.take i) ++ [nrm p M[i]] := by unfold rnormN; rw [take_snoc hlt, List.map_append]; rfl
      have htl : (rnormN p (M.take i)).length = i := by rw [rnormN_length, List.length_take]; omega
      obtain ⟨xs, hxs⟩ : ∃ xs, xs = M[i] := ⟨_, rfl⟩
      rw [← hxs] at hx hrd hl hm1 hwi hsn
      have Hsn := Lib.hid hsn
      have Htl := Lib.hid htl
      obtain ⟨ws, hws⟩ : ∃ ws, ws = wr := ⟨_, rfl⟩
      have Hws := Lib.hid hws
      have HoA := Lib.hid hoA
      have hBs : B ≤ ws.heap.size := by rw [hws]; exact Nat.le_trans hB hbel.size
      have hrd : Rd ws ws.heap.size Ai (u32s xs) := by rw [hws] at hBs ⊢; exact hrd.mono hBs
      have Hbel := Lib.hid hbel
      clear hxs hsn htl hoA hbel
      go_wp2_with fail
      have hb0 : Below ws.heap.size ws wr := by rw [hws]; exact Below.refl _ _
      clear hws
      go_loopw [8, 19] (fun rv jv wq => ∃ (j : Nat) (Ar : Option Addr) (cr : Nat), j ≤ xs.length ∧ jv = .int .i64 (j : Int) ∧ rv = .slice Ar j cr ∧ Ro wq ws.heap.size 28 (.slice Ar j cr) (u32s (nrm p (xs.take j))) ∧ Below ws.heap.size ws wq) (fun _ jv _ => xs.length - (intOf jv).toNat)
      case atStart => exact ⟨0, none, 0, by omega, rfl, rfl, Ro.nil_ _ _ _, hb0⟩
      case round =>
        clear hb0
        obtain ⟨j, Ar, cr, hj, rfl, rfl, hro, hbq⟩ := hrel
        by_cases hjl : j < xs.length
        · obtain ⟨b5, off5, rfl, hb5, hx5⟩ := (hrd.below hbq).at32 hjl
          have hsn : nrm p (xs.take (j + 1)) = nrm p (xs.take j) ++ [xs[j] % p] := by unfold nrm; rw [take_snoc hjl, List.map_append]; rfl
          have hrl : (nrm p (xs.take j)).length = j := by simp [nrm]; omega
          obtain ⟨x, hx9⟩ : ∃ x, x = xs[j] := ⟨_, rfl⟩
          rw [← hx9] at hx5 hsn
          obtain ⟨A9, c9, w9, hrun, hro9, hb9⟩ := app_u32 wr ws.heap.size (.slice Ar j cr) (nrm p (xs.take j)) (x % p) hro hbq.size (by omega)
          rw [← hsn, hrl] at hro9
          rw [hrl] at hrun
          have t5 : (x : Int) % (p : Int) = ((x % p : Nat) : Int) := cast_mod x p
          obtain ⟨y, hy⟩ : ∃ y, y = x % p := ⟨_, rfl⟩
          rw [← hy] at hrun t5
          have Hrun := Lib.hid hrun
          clear hx9 hsn hrl hrun hy hro
          go_wp2_with (first | (at_builtin; refine wpList_append_run rfl _ _ _ _ rfl _ _ rfl rfl _ _ Hrun.out ?_))
          go_roundw
          case rel => exact ⟨j + 1, A9, c9, by omega, by go_num, by go_num, hro9, hbq.trans hb9⟩
          case measure => simp [intOf]; omega
        · have hje : j = xs.length := by omega
          have hro9 : Ro wr ws.heap.size 28 (.slice Ar j cr) (u32s (nrm p xs)) := by rw [hje, List.take_length] at hro; rw [hje]; exact hro
          rw [← Hws.out] at HoA Hbel
          obtain ⟨A9, c9, w9, hrun, hoA9, hb9⟩ := app_new HoA.out hbq Hbel.out.size hro9 (by simp [nrm]; omega) (by rw [Htl.out]; omega)
          rw [← Hsn.out, Htl.out] at hoA9
          rw [Htl.out] at hrun
          have Hrun := Lib.hid hrun
          have hge : xs.length ≤ j := by omega
          clear hje hrun hro
          go_wp2_with (first | (at_builtin; refine wpList_append_run rfl _ _ _ _ rfl _ _ rfl rfl _ _ Hrun.out ?_))
          go_roundw
          case rel => exact ⟨i + 1, A9, c9, by omega, by go_num, by go_num, hoA9, Hbel.out.trans hb9⟩
          case measure => simp [intOf]; omega
    · have hie : i = M.length := by omega
      have hoA9 : OwA wr w.heap.size wr.heap.size (.slice Ao i co) (rnormN p M) := by rw [hie, List.take_length] at hoA; rw [hie]; exact hoA
      have hge : M.length ≤ i := by omega
      have Hie := Lib.hid hie
      clear hoA hie
      go_wp2
      go_ret
      rw [← Hie.out]
      exact ⟨Ao, co, rfl, hoA9, hbel⟩

theorem mtab_snoc (k c : Nat) (E : Nat → Nat → Nat) : mtab (k + 1) c E = mtab k c E ++ [(List.range c).map (E k)] := by
  unfold mtab; rw [List.range_succ, List.map_append]; rfl
/-- What the reference's Transpose makes. -/
def rtrN (p : Nat) (M : List (List Nat)) : List (List Nat) := mtab (cols M) M.length fun k i => ent M i k % p

set_option maxHeartbeats 1600000 in
theorem rtrans_any (p : Nat) (A : Option Addr) (c : Nat) (M : List (List Nat)) (w : World) (B : Nat) (hp0 : 0 < p) (hp : p < 4294967296) (hr : RdM w B A M) (hB : B ≤ w.heap.size) (hm : M.length ≤ 17592186044416) (hn : cols M ≤ 1099511627776) (hrect : Rect M) :
    Calls Tryd.prog 64 #[.slice A M.length c, .int .u32 (p : Int)] w fun e w' => ∃ A' c', e = .returned (.slice A' (cols M) c') ∧ OwA w' w.heap.size w'.heap.size (.slice A' (cols M) c') (rtrN p M) ∧ Below w.heap.size w w' := by
  have t0 : ((p : Int) == 0) = false := beq_eq_false_iff_ne.2 (by omega)
  have Hrect := Lib.hid hrect
  have Hcol := Lib.hid (rcols_any A c M w B hr (by omega))
  obtain ⟨E, hE⟩ : ∃ E : Nat → Nat → Nat, E = fun k i => ent M i k % p := ⟨_, rfl⟩
  have HE : Hid (E = fun k i => ent M i k % p) := hE
  unfold rtrN
  rw [← hE]
  clear hrect hE
  go_enter Tryd.func64, Tryd.ntmps64
  go_wp2_with (go_at_call 36; (with_reducible refine Hcol.out.mono ?_); rintro e w1 ⟨rfl, hw1⟩; obtain rfl : w = w1 := hw1.symm)
  obtain ⟨n, hnn⟩ : ∃ n, n = cols M := ⟨_, rfl⟩
  rw [← hnn] at hn ⊢
  have Hnn := Lib.hid hnn
  clear hnn
  go_loopw [5, 11] (fun ov kv wr => ∃ (k : Nat) (Ao : Option Addr) (co : Nat), k ≤ n ∧ kv = .int .i64 (k : Int) ∧ ov = .slice Ao k co ∧ OwA wr w.heap.size wr.heap.size (.slice Ao k co) (mtab k M.length E) ∧ Below w.heap.size w wr) (fun _ kv _ => n - (intOf kv).toNat)
  case atStart => exact ⟨0, none, 0, by omega, rfl, rfl, OwA.nil_ _ _ _, Below.refl _ _⟩
  case round =>
    obtain ⟨k, Ao, co, hk, rfl, rfl, hoA, hbel⟩ := hrel
    by_cases hlt : k < n
    · have hrw := hr.below (hbel.mono hB)
      obtain ⟨ws, hws⟩ : ∃ ws, ws = wr := ⟨_, rfl⟩
      have Hws := Lib.hid hws
      have HoA := Lib.hid hoA
      have hBs : B ≤ ws.heap.size := by rw [hws]; exact Nat.le_trans hB hbel.size
      have hrd : RdM ws ws.heap.size A M := by rw [hws] at hBs ⊢; exact hrw.mono hBs
      have Hbel := Lib.hid hbel
      clear hoA hbel hrw
      go_wp2_with fail
      have hb0 : Below ws.heap.size ws wr := by rw [hws]; exact Below.refl _ _
      clear hws
      go_loopw [7, 16] (fun rv iv wq => ∃ (i : Nat) (Ar : Option Addr) (cr : Nat), i ≤ M.length ∧ iv = .int .i64 (i : Int) ∧ rv = .slice Ar i cr ∧ Ro wq ws.heap.size 28 (.slice Ar i cr) (u32s ((List.range i).map (E k))) ∧ Below ws.heap.size ws wq) (fun _ iv _ => M.length - (intOf iv).toNat)
      case atStart => exact ⟨0, none, 0, by omega, rfl, rfl, Ro.nil_ _ _ _, hb0⟩
      case round =>
        clear hb0
        obtain ⟨i, Ar, cr, hi, rfl, rfl, hro, hbq⟩ := hrel
        by_cases hil : i < M.length
        · obtain ⟨b, off, Ai, ci, rfl, hb, hx, hl, hm1, hrdi⟩ := (hrd.below hbq).at_ hil
          have hwi : M[i].length = n := by rw [Hnn.out]; exact Hrect.out.at_ i hil
          obtain ⟨b5, off5, rfl, hb5, hx5⟩ := hrdi.at32 (k := k) (by rw [hwi]; exact hlt)
          rw [hwi] at hx hl
          have hsn : (List.range (i + 1)).map (E k) = (List.range i).map (E k) ++ [E k i] := by rw [List.range_succ, List.map_append]; rfl
          have hrl : ((List.range i).map (E k)).length = i := by simp
          have hEk : E k i = M[i][k]'(by rw [hwi]; exact hlt) % p := by rw [HE.out, ← ent_at hil (by rw [hwi]; exact hlt)]
          obtain ⟨x, hx9⟩ : ∃ x, x = M[i][k]'(by rw [hwi]; exact hlt) := ⟨_, rfl⟩
          rw [← hx9] at hx5 hEk
          obtain ⟨y, hy⟩ : ∃ y, y = E k i := ⟨_, rfl⟩
          rw [← hy] at hsn hEk
          obtain ⟨A9, c9, w9, hrun, hro9, hb9⟩ := app_u32 wr ws.heap.size (.slice Ar i cr) ((List.range i).map (E k)) y hro hbq.size (by omega)
          rw [← hsn, hrl] at hro9
          rw [hrl] at hrun
          have t5 : (x : Int) % (p : Int) = (y : Int) := by rw [hEk]; exact cast_mod x p
          have Hrun := Lib.hid hrun
          clear hx9 hsn hrl hrun hy hro hEk hwi
          go_wp2_with (first | (at_builtin; refine wpList_append_run rfl _ _ _ _ rfl _ _ rfl rfl _ _ Hrun.out ?_))
          go_roundw
          case rel => exact ⟨i + 1, A9, c9, by omega, by go_num, by go_num, hro9, hbq.trans hb9⟩
          case measure => simp [intOf]; omega
        · have hie : i = M.length := by omega
          rw [← Hws.out] at HoA Hbel
          have htl : (mtab k M.length E).length = k := mtab_length _ _ _
          obtain ⟨A9, c9, w9, hrun, hoA9, hb9⟩ := app_new HoA.out hbq Hbel.out.size hro (by simp; omega) (by rw [htl]; omega)
          rw [htl] at hrun hoA9
          have hoA9 : OwA w9 w.heap.size w9.heap.size (.slice A9 (k + 1) c9) (mtab (k + 1) M.length E) := by rw [mtab_snoc, ← hie]; rw [← hie] at hoA9; exact hoA9
          have Hrun := Lib.hid hrun
          have hge : M.length ≤ i := by omega
          clear hie hrun hro htl
          go_wp2_with (first | (at_builtin; refine wpList_append_run rfl _ _ _ _ rfl _ _ rfl rfl _ _ Hrun.out ?_))
          go_roundw
          case rel => exact ⟨k + 1, A9, c9, by omega, by go_num, by go_num, hoA9, Hbel.out.trans hb9⟩
          case measure => simp [intOf]; omega
    · have hke : k = n := by omega
      have hge : n ≤ k := by omega
      have Hke := Lib.hid hke
      have HoA : Hid (OwA wr w.heap.size wr.heap.size (.slice Ao k co) (mtab n M.length E)) := by show OwA _ _ _ _ _; rw [hke] at hoA ⊢; exact hoA
      clear hke hoA
      go_wp2
      go_ret
      refine ⟨Ao, co, ?_, ?_, hbel⟩
      · rw [← Hnn.out, ← Hke.out]; rfl
      · rw [← Hnn.out, ← Hke.out]
        have := HoA.out
        rw [← Hke.out] at this
        exact this
end
section
open Go.RowKit

theorem ext_rows {M N : List (List Nat)} (hl : M.length = N.length) (h : ∀ i (h1 : i < M.length) (h2 : i < N.length), M[i] = N[i]) : M = N := List.ext_getElem hl h

theorem Dr.cell {w w' : World} (h : Dr w w') (p : Addr) : w'.cell? p = w.cell? p := by
  obtain ⟨k, rfl⟩ := h
  rfl

set_option maxHeartbeats 800000 in
theorem rsame_any (A A2 : Option Addr) (c c2 : Nat) (M N : List (List Nat)) (w : World) (B B2 : Nat) (hr : RdM w B A M) (hr2 : RdM w B2 A2 N) (hm : M.length ≤ 281474976710656) (hm2 : N.length ≤ 281474976710656) (b : Bool) (hb : b = true ↔ M = N) :
    Calls Tryd.prog 54 #[.slice A M.length c, .slice A2 N.length c2] w fun e w' => e = .returned (.bool b) ∧ Dr w w' := by
  have Hb := Lib.hid hb
  by_cases hl : M.length = N.length
  · have t1 : ((M.length : Int) != (N.length : Int)) = false := by rw [hl]; simp
    have Hl := Lib.hid hl
    clear hb hl
    go_enter Tryd.func54, Tryd.ntmps54
    go_wp2
    go_loopw [14] (fun iv wr => ∃ (i : Nat), i ≤ M.length ∧ iv = .int .i64 (i : Int) ∧ Hid (∀ j (h : j < M.length) (h2 : j < N.length), j < i → M[j] = N[j]) ∧ Dr w wr) (fun iv _ => M.length - (intOf iv).toNat)
    case atStart => exact ⟨0, by omega, rfl, fun _ _ _ h => absurd h (Nat.not_lt_zero _), Dr.refl _⟩
    case round =>
      obtain ⟨i, hi, rfl, hall, hdr⟩ := hrel
      by_cases hlt : i < M.length
      · have hlt2 : i < N.length := by have := Hl.out; omega
        obtain ⟨b1, off, Ai, ci, rfl, hb1, hx0, hl1, hm1, hrd⟩ := hr.at_ hlt
        obtain ⟨b2, off2, Ak, ck, rfl, hb2, hy0, hl2, hm2', hrd2⟩ := hr2.at_ hlt2
        obtain ⟨xs, hxs⟩ : ∃ xs, xs = M[i] := ⟨_, rfl⟩
        obtain ⟨ys, hys⟩ : ∃ ys, ys = N[i] := ⟨_, rfl⟩
        rw [← hxs] at hx0 hrd hl1 hm1
        rw [← hys] at hy0 hrd2 hl2 hm2'
        have Hxs : Hid (xs = M[i]) := hxs
        have Hys : Hid (ys = N[i]) := hys
        have Hx0 := Lib.hid hx0
        have Hy0 := Lib.hid hy0
        have hx := (hdr.cell ⟨b1, off + i, none⟩).trans hx0
        have hy := (hdr.cell ⟨b2, off2 + i, none⟩).trans hy0
        clear hxs hys hx0 hy0
        by_cases heq : xs.length = ys.length
        · have t2 : ((xs.length : Int) != (ys.length : Int)) = false := by rw [heq]; simp
          have Heq := Lib.hid heq
          clear heq
          go_wp2_with fail
          go_quiet (fail)
          go_wp2_with fail
          go_loopw [33] (fun jv wr => ∃ (j : Nat), j ≤ xs.length ∧ jv = .int .i64 (j : Int) ∧ Hid (∀ k (h : k < xs.length) (h2 : k < ys.length), k < j → xs[k] = ys[k]) ∧ Dr w wr) (fun jv _ => xs.length - (intOf jv).toNat)
          case atStart => exact ⟨0, by omega, rfl, fun _ _ _ h => absurd h (Nat.not_lt_zero _), hdr.step _⟩
          case round =>
            clear hx hy hdr
            obtain ⟨j, hj, rfl, hall2, hdr⟩ := hrel
            by_cases hjl : j < xs.length
            · have hjl2 : j < ys.length := by have := Heq.out; omega
              obtain ⟨b3, off3, rfl, hb3, hx3⟩ := hrd.at32 hjl
              obtain ⟨b4, off4, rfl, hb4, hy4⟩ := hrd2.at32 hjl2
              have hx := (hdr.cell ⟨b1, off + i, none⟩).trans Hx0.out
              have hy := (hdr.cell ⟨b2, off2 + i, none⟩).trans Hy0.out
              have hx5 := (hdr.cell ⟨b3, off3 + j, none⟩).trans hx3
              have hy5 := (hdr.cell ⟨b4, off4 + j, none⟩).trans hy4
              obtain ⟨x, hx9⟩ : ∃ x, x = xs[j] := ⟨_, rfl⟩
              obtain ⟨y, hy9⟩ : ∃ y, y = ys[j] := ⟨_, rfl⟩
              rw [← hx9] at hx5
              rw [← hy9] at hy5
              have Hx9 : Hid (x = xs[j]) := hx9
              have Hy9 : Hid (y = ys[j]) := hy9
              clear hx9 hy9 hx3 hy4
              by_cases hxy : x = y
              · have t3 : ((x : Int) != (y : Int)) = false := by rw [hxy]; simp
                have Hxy := Lib.hid hxy
                clear hxy
                go_wp2_with fail
                go_quiet (fail)
                go_wp2_with fail
                go_roundw
                case rel => exact ⟨j + 1, by omega, by go_num, fun k h h2 hk => by
                  by_cases hkj : k < j
                  · exact hall2.out k h h2 hkj
                  · obtain rfl : k = j := by omega
                    rw [← Hx9.out, ← Hy9.out, Hxy.out], hdr.step _⟩
                case measure => simp [intOf]; omega
              · have t3 : ((x : Int) != (y : Int)) = true := by rw [bne_iff_ne]; omega
                have hbf : b = false := by
                  cases hb9 : b with
                  | false => rfl
                  | true =>
                    have e := Hb.out.1 hb9
                    subst e
                    exact absurd (by rw [Hx9.out, Hy9.out]; simp only [Hxs.out, Hys.out]) hxy
                clear hxy
                go_wp2_with fail
                go_quiet (fail)
                go_wp2_with fail
                go_ret
                exact ⟨by rw [hbf]; rfl, hdr.step _⟩
            · have hxye : xs = ys := List.ext_getElem Heq.out fun k h h2 => hall2.out k h h2 (by omega)
              have Hxye := Lib.hid hxye
              have hge : xs.length ≤ j := by omega
              clear hxye
              go_wp2_with fail
              go_roundw
              case rel => exact ⟨i + 1, by omega, by go_num, fun k h h2 hk => by
                by_cases hki : k < i
                · exact hall.out k h h2 hki
                · obtain rfl : k = i := by omega
                  rw [← Hxs.out, ← Hys.out, Hxye.out], hdr⟩
              case measure => simp [intOf]; omega
        · have t2 : ((xs.length : Int) != (ys.length : Int)) = true := by rw [bne_iff_ne]; omega
          have hbf : b = false := by
            cases hb9 : b with
            | false => rfl
            | true =>
              have e := Hb.out.1 hb9
              subst e
              exact absurd (by rw [Hxs.out, Hys.out]) heq
          clear heq
          go_wp2_with fail
          go_quiet (fail)
          go_wp2_with fail
          go_ret
          exact ⟨by rw [hbf]; rfl, hdr.step _⟩
      · have hbt : b = true := Hb.out.2 (ext_rows Hl.out fun k h h2 => hall.out k h h2 (by omega))
        have hge : M.length ≤ i := by omega
        go_wp2
        go_ret
        exact ⟨by rw [hbt]; rfl, hdr⟩
  · have t1 : ((M.length : Int) != (N.length : Int)) = true := by rw [bne_iff_ne]; omega
    have hbf : b = false := by
      cases hb9 : b with
      | false => rfl
      | true => exact absurd (by rw [Hb.out.1 hb9]) hl
    clear hb hl
    go_enter Tryd.func54, Tryd.ntmps54
    go_wp2
    go_ret
    exact ⟨by rw [hbf]; rfl, Dr.refl _⟩
end
end Go.Proofs.YtecdjanopiibcaaDoor
