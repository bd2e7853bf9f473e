/- What comes in, as the walks of layer 10 want it. Conditions: the sizes. The contracts of Transpose and Mul. Conditions: bases reads 2, 7, 61. Ranks modulo a prime: of the transpose, of a product, of what is put below; kernels; what is reduced stays. Conditions: p a prime. What is reduced stays; ranks of what is put below and of products; the inverse from both sides. Conditions: p a prime. -/
import Derived.Test.YtecdjanopiibcaaDoorPkD19
import Derived.Test.YtecdjanopiibcaaDoorPkD20
namespace Go.Proofs.YtecdjanopiibcaaDoor
section
open Go.RowKit
theorem comes_of {p : Nat} {A : Option Addr} {c : Nat} {M : List (List Nat)} {W : World} (hp : p < 4294967296) (hb : Bases W) (hc : M.length ≤ c) (hd : DigM 4294967296 M) (hr : RdM W W.heap.size A M) (hm : M.length ≤ 1048576) (hw : ∀ x ∈ M, x.length ≤ 1048576) : Comes p A c M W :=
  ⟨hp, hb, hr, hc, ⟨hd, by omega, by
    cases M with
    | nil => simp [cols]
    | cons r rs => have := hw r (by simp); simp only [cols]; omega⟩, fun r h => by have := hw r h; omega⟩
end
section
open Go.RowKit

theorem rdl_two {w : World} {B q : Nat} {A A2 : Option Addr} {c c2 : Nat} {M N : List (List Nat)} (hb : Blk w q 26 [.slice A M.length c, .slice A2 N.length c2]) (hq : q < B) (hr : RdM w B A M) (hr2 : RdM w B A2 N) (hc : M.length ≤ c) (hc2 : N.length ≤ c2) : RdL w B (some ⟨q, 0, none⟩) [M, N] := fun _ =>
  ⟨q, 0, rfl, hq, fun j hj => by
    have hj2 : j = 0 ∨ j = 1 := by simp at hj; omega
    rcases hj2 with rfl | rfl
    · exact ⟨A, c, hb.cell 0, hc, hr⟩
    · exact ⟨A2, c2, hb.cell 1, hc2, hr2⟩⟩

set_option maxHeartbeats 1600000 in
theorem transposeA_ok (p : Nat) (A : Option Addr) (c : Nat) (M : List (List Nat)) (w : World) (B : Nat) (h : Takes p A c M w B) :
    Calls Tryd.prog 35 #[.slice A M.length c, .int .u32 (p : Int)] w fun e w' => ∃ A', e = .returned (.tuple #[.slice A' (cols M) (cols M), .int .i64 0]) ∧ RdM w' w'.heap.size A' (trN (modN p M)) ∧ Below w.heap.size w w' := by
  have Hr := Lib.hid h.list
  have hgd := modN_good h.pr.pos M
  have hml := modN_length p M
  have hmc := modN_cols p M
  have hlt := h.lt
  have hrows := h.sz.rows
  have hwid := h.sz.wid
  have hrect : Rect (modN p M) := fun r hr => by rw [hmc]; exact hgd.wid r hr
  have hdig : DigM 4294967296 (modN p M) := fun r hr x hx => Nat.lt_trans (hgd.dig r hr x hx) hlt
  unfold hdrM at Hr
  obtain ⟨N, hN⟩ : ∃ N, N = modN p M := ⟨_, rfl⟩
  rw [← hN] at Hr hgd hml hmc hrect hdig ⊢
  have Htr : Hid (∀ W g hs B2, Own W B2 g hs N → Calls Tryd.prog 57 #[.slice (some ⟨g, 0, none⟩) M.length M.length] W fun e w' => ∃ g2 hs2, e = .returned (.slice (some ⟨g2, 0, none⟩) (cols M) (cols M)) ∧ Own w' W.heap.size g2 hs2 (trN N) ∧ Below W.heap.size W w') := fun W g hs B2 ho => by
    have h9 := transposed_any (some ⟨g, 0, none⟩) M.length N W W.heap.size ho.rd (Nat.le_refl _) hrect hdig (by rw [hml]; exact Nat.le_refl _) (by rw [hml]; omega) (by rw [hmc]; omega)
    rw [hml, hmc] at h9
    exact h9.mono fun e w' ⟨g2, hs2, h1, h2, _, h3⟩ => ⟨g2, hs2, h1, h2, h3⟩
  obtain ⟨sp, hsp⟩ : ∃ sp, sp = spN p := ⟨_, rfl⟩
  rw [← hsp] at Hr
  clear h hN hml hmc hsp hgd hrect hdig
  go_enter Tryd.func35, Tryd.ntmps35
  go_wp2_with (go_at_call 49; (with_reducible refine Hr.out.mono ?_); rintro e w1 ⟨gl, g, hs, rfl, hgl, hbl, ho, hu, hq⟩; have hbl2 := hbl.heapAlloc (.cells #[.int .u64 (p : Int), .int .u64 (sp : Int)] 63); have hho := ho.below ((Below.refl w1.heap.size w1).alloc (Nat.le_refl _) (.cells #[.int .u64 (p : Int), .int .u64 (sp : Int)] 63)) (Nat.le_refl _); have c0 := hbl2.cell0)
  have hba : Below w1.heap.size w1 (w1.alloc (.cells #[.int .u64 (p : Int), .int .u64 (sp : Int)] 63)) := (Below.refl _ _).alloc (Nat.le_refl _) _
  have hbel := hq.trans (hba.mono hq.size)
  have Ht := Lib.hid (Htr.out _ _ _ _ hho)
  clear hho hba
  go_wp2_with (go_at_call 57; (with_reducible refine Ht.out.mono ?_); rintro e w2 ⟨g2, hs2, rfl, ho2, hb2⟩)
  go_ret2
  exact ⟨_, rfl, ho2.rd, hbel.trans (hb2.mono hbel.size)⟩

/-- What Mul answers of two that it does not take. -/
theorem mulA_err (p : Nat) (A A2 : Option Addr) (n n2 c c2 : Nat) (w : World) (code : Int) (hc : (code != 0) = true) (hr : ∀ W q, Blk W q 26 [.slice A n c, .slice A2 n2 c2] → Below w.heap.size w W → Calls Tryd.prog 49 #[.int .u32 (p : Int), .slice (some ⟨q, 0, none⟩) 2 2] W (ErrOf W code)) :
    Calls Tryd.prog 33 #[.slice A n c, .slice A2 n2 c2, .int .u32 (p : Int)] w fun e w' => e = .returned (.tuple #[.slice none 0 0, .int .i64 code]) ∧ Below w.heap.size w w' := by
  have hba : Below w.heap.size w (w.alloc (.cells #[.slice A n c, .slice A2 n2 c2] 26)) := (Below.refl _ _).alloc (Nat.le_refl _) _
  have Hr := Lib.hid (hr _ _ (Blk.new_ rfl) hba)
  clear hr
  go_enter Tryd.func33, Tryd.ntmps33
  go_wp2_with (go_at_call 49; (with_reducible refine Hr.out.mono ?_); rintro e w1 ⟨rfl, hb⟩; have hb1 := hba.trans (hb.mono hba.size); clear hb)
  go_ret2
  exact ⟨rfl, hb1.alloc hb1.size _⟩

/-- Two matrices of one prime, both rectangles. -/
structure Pair (p : Nat) (A A2 : Option Addr) (c c2 : Nat) (M N : List (List Nat)) (w : World) : Prop where
  one : Takes p A c M w w.heap.size
  two : Takes p A2 c2 N w w.heap.size

theorem Pair.read {p : Nat} {A A2 : Option Addr} {c c2 : Nat} {M N : List (List Nat)} {w : World} (h : Pair p A A2 c c2 M N w) :
    Calls Tryd.prog 49 #[.int .u32 (p : Int), .slice (some ⟨w.heap.size, 0, none⟩) 2 2] (w.alloc (.cells #[.slice A M.length c, .slice A2 N.length c2] 26)) fun e w' => ∃ gl g1 g2 hs1 hs2, e = .returned (.tuple #[fieldV p (spN p), .slice (some ⟨gl, 0, none⟩) 2 2, .int .i64 0]) ∧ Blk w' gl 26 [hdrM g1 M, hdrM g2 N] ∧ Own w' (gl + 1) g1 hs1 (modN p M) ∧ Own w' (gl + 1) g2 hs2 (modN p N) ∧ w.heap.size ≤ gl ∧ Below w.heap.size w w' := by
  have hba : Below w.heap.size w (w.alloc (.cells #[.slice A M.length c, .slice A2 N.length c2] 26)) := (Below.refl _ _).alloc (Nat.le_refl _) _
  have h1 := h.one.below hba
  have h2 := h.two.below hba
  refine (read_any p (spN p) (some ⟨w.heap.size, 0, none⟩) 2 [M, N] _ (w.heap.size + 1) h1.pr h1.lt rfl h1.bas (rdl_two (Blk.new_ rfl) (by omega) (h1.rd.mono (by omega)) (h2.rd.mono (by omega)) h1.cap h2.cap) (by simp) (by simp) (fun X hX => ?_) (fun X hX => ?_)).mono ?_
  · simp only [List.mem_cons, List.not_mem_nil, or_false] at hX
    rcases hX with rfl | rfl
    · exact h1.sz.dig
    · exact h2.sz.dig
  · simp only [List.mem_cons, List.not_mem_nil, or_false] at hX
    rcases hX with rfl | rfl
    · exact ⟨by have := h1.sz.rows; omega, by have := h1.sz.wid; omega⟩
    · exact ⟨by have := h2.sz.rows; omega, by have := h2.sz.wid; omega⟩
  · rintro e w' (⟨_, gl, gs, k1, k2, k3, k4, k5, k6⟩ | ⟨k1, _⟩)
    · obtain ⟨g1, g2, rfl⟩ : ∃ g1 g2, gs = [g1, g2] := by
        match gs, k2 with
        | [g1, g2], _ => exact ⟨g1, g2, rfl⟩
      obtain ⟨hs1, h6, _⟩ := k5 0 (by simp) (by simp)
      obtain ⟨hs2, h7, _⟩ := k5 1 (by simp) (by simp)
      exact ⟨gl, g1, g2, hs1, hs2, k1, k4, h6, h7, Nat.le_trans hba.size k3, hba.trans (k6.mono hba.size)⟩
    · exact absurd (fun X hX => by
        simp only [List.mem_cons, List.not_mem_nil, or_false] at hX
        rcases hX with rfl | rfl
        · exact h1.rect
        · exact h2.rect) k1

/-- read of two that are not both rectangles. -/
theorem read_two_bad {p : Nat} {A A2 : Option Addr} {c c2 : Nat} {M N : List (List Nat)} {w : World} (h1 : Comes p A c M w) (h2 : Comes p A2 c2 N w) (hpr : Pr p) (hne : ¬ (Rect M ∧ Rect N)) (W : World) (q : Nat) (hb : Blk W q 26 [.slice A M.length c, .slice A2 N.length c2]) (hW : Below w.heap.size w W) :
    Calls Tryd.prog 49 #[.int .u32 (p : Int), .slice (some ⟨q, 0, none⟩) 2 2] W (ErrOf W 2) := by
  have k1 := h1.below hW
  have k2 := h2.below hW
  refine (read_any p (spN p) (some ⟨q, 0, none⟩) 2 [M, N] W W.heap.size hpr h1.lt rfl k1.bas (rdl_two hb hb.lt k1.rd k2.rd h1.cap h2.cap) (Nat.le_refl _) (by simp) (fun X hX => ?_) (fun X hX => ?_)).mono ?_
  · simp only [List.mem_cons, List.not_mem_nil, or_false] at hX
    rcases hX with rfl | rfl
    · exact h1.sz.dig
    · exact h2.sz.dig
  · simp only [List.mem_cons, List.not_mem_nil, or_false] at hX
    rcases hX with rfl | rfl
    · exact ⟨by have := h1.sz.rows; omega, by have := h1.sz.wid; omega⟩
    · exact ⟨by have := h2.sz.rows; omega, by have := h2.sz.wid; omega⟩
  · rintro e w' (⟨k1, _⟩ | ⟨_, k3, k4⟩)
    · exact absurd ⟨k1 M (by simp), k1 N (by simp)⟩ hne
    · exact ⟨k3, k4⟩

set_option maxHeartbeats 1600000 in
theorem mulA_shape {p : Nat} {A A2 : Option Addr} {c c2 : Nat} {M N : List (List Nat)} {w : World} (h : Pair p A A2 c c2 M N w) (hne : cols M ≠ N.length) :
    Calls Tryd.prog 33 #[.slice A M.length c, .slice A2 N.length c2, .int .u32 (p : Int)] w fun e w' => e = .returned (.tuple #[.slice none 0 0, .int .i64 2]) ∧ Below w.heap.size w w' := by
  have Hr := Lib.hid h.read
  have Hc : Hid (∀ W, Below w.heap.size w W → Calls Tryd.prog 51 #[.slice A M.length c] W fun e w' => e = .returned (.int .i64 (cols M : Int)) ∧ w' = W) := fun W hW => columns_any A c M W _ (h.one.below hW).rd h.one.cap (by have := h.one.sz.rows; omega)
  have t : ((cols M : Int) != (N.length : Int)) = true := by simp; omega
  obtain ⟨q, hq⟩ : ∃ q, q = cols M := ⟨_, rfl⟩
  rw [← hq] at t Hc
  clear h hne hq
  go_enter Tryd.func33, Tryd.ntmps33
  go_wp2_with (first
    | (go_at_call 49; (with_reducible refine Hr.out.mono ?_); rintro e w1 ⟨gl, g1, g2, hs1, hs2, rfl, hbl, ho1, ho2, hgl, hb1⟩; have hb2 := hb1.alloc hb1.size (.cells #[.int .u64 (p : Int), .int .u64 (spN p : Int)] 63))
    | (go_at_call 51; (with_reducible refine (Hc.out _ hb2).mono ?_); rintro e w2 ⟨rfl, rfl⟩))
  go_ret2
  exact ⟨rfl, hb2⟩

set_option maxHeartbeats 1600000 in
theorem mulA_ok {p : Nat} {A A2 : Option Addr} {c c2 : Nat} {M N : List (List Nat)} {w : World} (h : Pair p A A2 c c2 M N w) (hfit : cols M = N.length) :
    Calls Tryd.prog 33 #[.slice A M.length c, .slice A2 N.length c2, .int .u32 (p : Int)] w fun e w' => ∃ A', e = .returned (.tuple #[.slice A' M.length M.length, .int .i64 0]) ∧ RdM w' w'.heap.size A' (mulN p (modN p M) (modN p N)) ∧ Below w.heap.size w w' := by
  have hpr := h.one.pr
  have hlt := h.one.lt
  have Hr := Lib.hid h.read
  have Hc : Hid (∀ W, Below w.heap.size w W → Calls Tryd.prog 51 #[.slice A M.length c] W fun e w' => e = .returned (.int .i64 (N.length : Int)) ∧ w' = W) := fun W hW => by
    rw [← hfit]
    exact columns_any A c M W _ (h.one.below hW).rd h.one.cap (by have := h.one.sz.rows; omega)
  have t : ((N.length : Int) != (N.length : Int)) = false := by simp
  have hr1 := h.one.sz.rows
  have hr2 := h.two.sz.rows
  have hw2 := h.two.sz.wid
  have hg1 := modN_good hpr.pos M
  have hg2 := modN_good hpr.pos N
  have hl1 := modN_length p M
  have hl2 := modN_length p N
  have hc1 := modN_cols p M
  have hc2 := modN_cols p N
  have Hp : Hid (∀ W g1 g2 hs1 hs2 B2, Own W B2 g1 hs1 (modN p M) → Own W B2 g2 hs2 (modN p N) → Calls Tryd.prog 40 #[fieldV p (spN p), .slice (some ⟨g1, 0, none⟩) M.length M.length, .slice (some ⟨g2, 0, none⟩) N.length N.length] W fun e w' => ∃ g hs, e = .returned (.slice (some ⟨g, 0, none⟩) M.length M.length) ∧ Own w' W.heap.size g hs (mulN p (modN p M) (modN p N)) ∧ Below W.heap.size W w') := fun W g1 g2 hs1 hs2 B2 o1 o2 => by
    have h9 := product_any p (spN p) (some ⟨g1, 0, none⟩) (some ⟨g2, 0, none⟩) M.length N.length (modN p M) (modN p N) W W.heap.size hpr.pos hlt rfl o1.rd o2.rd (Nat.le_refl _) (by rw [hc1, hl2, hfit]) (fun r hr => by rw [hc1]; exact hg1.wid r hr) (fun r hr => by rw [hc2]; exact hg2.wid r hr) (fun r hr x hx => Nat.lt_trans (hg1.dig r hr x hx) hlt) (fun r hr x hx => Nat.lt_trans (hg2.dig r hr x hx) hlt) (by rw [hl1]; exact Nat.le_refl _) (by rw [hl2]; exact Nat.le_refl _) (by rw [hl1]; omega) (by rw [hl2]; omega) (by rw [hc2]; omega)
    rw [hl1, hl2] at h9
    exact h9.mono fun e w' ⟨g, hs, k1, k2, _, k3⟩ => ⟨g, hs, k1, k2, k3⟩
  obtain ⟨sp, hsp⟩ : ∃ sp, sp = spN p := ⟨_, rfl⟩
  rw [← hsp] at Hr
  simp only [← hsp] at Hp
  obtain ⟨Q, hQ⟩ : ∃ Q, Q = mulN p (modN p M) (modN p N) := ⟨_, rfl⟩
  simp only [← hQ] at Hp
  rw [← hQ]
  clear h hfit hg1 hg2 hl1 hl2 hc1 hc2 hsp hQ hr1 hr2 hw2
  go_enter Tryd.func33, Tryd.ntmps33
  go_wp2_with (first
    | (go_at_call 49; (with_reducible refine Hr.out.mono ?_); rintro e w1 ⟨gl, g1, g2, hs1, hs2, rfl, hbl, ho1, ho2, hgl, hb1⟩; have hba : Below w1.heap.size w1 (w1.alloc (.cells #[.int .u64 (p : Int), .int .u64 (sp : Int)] 63)) := (Below.refl _ _).alloc (Nat.le_refl _) _; have hb2 := hb1.trans (hba.mono hb1.size); have k1 := ho1.below hba (Nat.le_refl _); have k2 := ho2.below hba (Nat.le_refl _); have hbl2 := hbl.heapAlloc (.cells #[.int .u64 (p : Int), .int .u64 (sp : Int)] 63); have hbf : Blk (w1.alloc (.cells #[.int .u64 (p : Int), .int .u64 (sp : Int)] 63)) w1.heap.size 63 [.int .u64 (p : Int), .int .u64 (sp : Int)] := Blk.new_ rfl)
    | (go_at_call 51; (with_reducible refine (Hc.out _ hb2).mono ?_); rintro e w2 ⟨rfl, rfl⟩))
  obtain ⟨W0, hW0⟩ : ∃ W0, W0 = w1.alloc (.cells #[.int .u64 (p : Int), .int .u64 (sp : Int)] 63) := ⟨_, rfl⟩
  rw [← hW0] at k1 k2 hb2 hbl2 hbf ⊢
  unfold hdrM at hbl2
  have c0 := hbl2.cell 0
  have c1 := hbl2.cell 1
  have c5 := hbf.cell 0
  have c6 := hbf.cell 1
  have Hpr : Hid (Calls Tryd.prog 40 #[fieldV p sp, .slice (some ⟨g1, 0, none⟩) M.length M.length, .slice (some ⟨g2, 0, none⟩) N.length N.length] W0.drew fun e w' => ∃ g hs, e = .returned (.slice (some ⟨g, 0, none⟩) M.length M.length) ∧ Own w' W0.heap.size g hs Q ∧ Below W0.heap.size W0 w') :=
    (Hp.out W0.drew g1 g2 hs1 hs2 _ k1.drew k2.drew).mono fun e w' ⟨g, hs, q1, q2, q3⟩ => ⟨g, hs, q1, q2, (Below.refl _ _).drew.trans q3⟩
  obtain ⟨f0, hf0⟩ : ∃ f0, f0 = w1.heap.size := ⟨_, rfl⟩
  rw [← hf0] at c5 c6 ⊢
  clear k1 k2 hbl hbl2 hbf hba hb1 ho1 ho2 hW0 hf0 Hp
  go_upto_region 6 with (fail)
  go_still_tail 7, (by kernel_rfl)
  change wpList _ _ _ _ _ W0.drew
  go_wp2_with (go_at_call 40; (with_reducible refine Hpr.out.mono ?_); rintro e w3 ⟨g3, hs3, rfl, ho3, hb3⟩)
  go_ret2
  exact ⟨_, rfl, ho3.rd, hb2.trans (hb3.mono hb2.size)⟩
end
section
def rankN (p : Nat) (M : List (List Nat)) : Nat := (redN p (modN p M)).2.length
theorem rdc_mod {p : Nat} [NeZero p] (hp : Pr p) (M : List (List Nat)) : Rdc p (cols M) (modN p M) (redN p (modN p M)).1 (redN p (modN p M)).2 := by
  have h := rdc_of hp (modN_good hp.pos M)
  show Rdc p (cols M) (modN p M) (redTo p (modN p M) (cols (modN p M))).1 (redTo p (modN p M) (cols (modN p M))).2
  rw [modN_cols]
  exact h

theorem ent_mtab {r c : Nat} {E : Nat → Nat → Nat} (i k : Nat) : ent (mtab r c E) i k = if i < r ∧ k < c then E i k else 0 := by
  by_cases hi : i < r
  · by_cases hk : k < c
    · simp [ent, mtab, List.getD_eq_getElem?_getD, hi, hk]
    · simp [ent, mtab, List.getD_eq_getElem?_getD, hi, hk]
  · simp [ent, mtab, List.getD_eq_getElem?_getD, hi]
theorem mtab_rect {r c : Nat} {E : Nat → Nat → Nat} : Rect (mtab r c E) := fun x hx => by
  have h1 := mtab_row x hx
  rw [h1]
  have hr : 0 < r := by
    rcases Nat.eq_zero_or_pos r with h | h
    · subst h; simp [mtab] at hx
    · exact h
  exact (mtab_cols hr).symm
theorem modN_rect (p : Nat) (M : List (List Nat)) : Rect (modN p M) := mtab_rect

section
variable {p : Nat} [NeZero p]
theorem fm_modN {M : List (List Nat)} (h : Rect M) (i j : Nat) : fm p (modN p M) i j = fm p M i j := by
  unfold fm; rw [ent_modN h, fz_mod]
theorem fm_out {M : List (List Nat)} {i : Nat} (h : M.length ≤ i) (j : Nat) : fm p M i j = 0 := by unfold fm; rw [ent_out h]; rfl
theorem fm_wide {M : List (List Nat)} (h : Rect M) (i : Nat) {j : Nat} (hj : cols M ≤ j) : fm p M i j = 0 := by unfold fm; rw [ent_wide h i hj]; rfl
/-- Rows that are combinations of s others: the rank is at most s. -/
theorem rank_le (hp : Pr p) {M : List (List Nat)} (hr : Rect M) {s : Nat} {D : Nat → Nat → Fin p} (h : ∀ k, k < M.length → LC s D (fm p M k)) : rankN p M ≤ s :=
  (rdc_mod hp M).least hp (D := D) fun k hk => by
    rw [modN_length] at hk
    exact (h k hk).congr fun j => fm_modN hr k j
/-- Each row is a combination of rankN others. -/
theorem rank_comb (hp : Pr p) {M : List (List Nat)} (hr : Rect M) : ∃ G : Nat → Nat → Fin p, ∀ k, k < M.length → ∀ j, fm p M k j = sm (fun t => G k t * fm p (redN p (modN p M)).1 t j) (rankN p M) := by
  have h := rdc_mod hp M
  obtain ⟨G, hG⟩ := LC.all (A := fm p (modN p M)) (fun k hk => h.comb hk)
  rw [modN_length] at hG
  exact ⟨G, fun k hk j => by rw [← fm_modN hr]; exact hG k hk j⟩
/-- The rank of what holds the columns as rows. -/
theorem rank_cols (hp : Pr p) {A B : List (List Nat)} (hA : Rect A) (hB : Rect B) (h : ∀ i, i < B.length → ∀ j, fm p B i j = if j < A.length then fm p A j i else 0) : rankN p B ≤ rankN p A := by
  obtain ⟨G, hG⟩ := rank_comb hp hA
  refine rank_le hp hB (D := fun t j => if j < A.length then G j t else 0) fun i hi => ⟨fun t => fm p (redN p (modN p A)).1 t i, fun j => ?_⟩
  rw [h i hi j]
  by_cases hj : j < A.length
  · rw [if_pos hj, hG j hj]
    exact sm_congr _ fun t _ => by simp only [if_pos hj]; grind
  · rw [if_neg hj]
    exact (sm_none _ fun t _ => by simp only [if_neg hj]; grind).symm
theorem rank_tr (hp : Pr p) {M : List (List Nat)} (hr : Rect M) : rankN p (trN (modN p M)) = rankN p M := by
  have e : ∀ i, i < cols M → ∀ j, fm p (trN (modN p M)) i j = if j < M.length then fm p M j i else 0 := fun i hi j => by
    have h1 : ent (trN (modN p M)) i j = if j < M.length then ent (modN p M) j i else 0 := by
      unfold trN
      rw [ent_mtab, modN_cols, modN_length]
      by_cases hj : j < M.length
      · rw [if_pos ⟨hi, hj⟩, if_pos hj]
      · rw [if_neg (fun h => hj h.2), if_neg hj]
    show fz p (ent (trN (modN p M)) i j) = _
    rw [h1]
    split
    · exact fm_modN hr j i
    · rfl
  have hl : (trN (modN p M)).length = cols M := by unfold trN; rw [mtab_length, modN_cols]
  refine Nat.le_antisymm (rank_cols hp hr mtab_rect fun i hi => e i (by rw [hl] at hi; exact hi)) (rank_cols hp mtab_rect hr fun i hi j => ?_)
  rw [hl]
  by_cases hj : j < cols M
  · rw [if_pos hj, e j hj i, if_pos hi]
  · rw [if_neg hj]; exact fm_wide hr i (by omega)

/-- What is 0 but at one place less than another: the sum differs there alone. -/
theorem sm_set {f g : Nat → Fin p} {n k : Nat} (hk : k < n) (h : ∀ i, i ≠ k → g i = f i) : sm g n = sm f n + (g k - f k) := by
  have h1 : sm (fun i => g i - f i) n = g k - f k := sm_one hk fun i _ hne => by rw [h i hne]; grind
  rw [sm_sub] at h1
  rw [← h1]; grind

/-- A row that kills what is reduced: for each column that is no pivot. -/
theorem ker_kills {M R : List (List Nat)} {P : List Nat} {n c : Nat} (hp : Pr p) (h : Rdc p n M R P) (hc : c < n) (hcP : c ∉ P) (t : Nat) (ht : t < P.length) : sm (fun j => fm p R t j * fz p ((kerTo p R P c n P.length).getD j 0)) n = 0 := by
  have key : ∀ k, k ≤ P.length → sm (fun j => fm p R t j * fz p ((kerTo p R P c n k).getD j 0)) n = if t < k then 0 else fm p R t c := by
    intro k
    induction k with
    | zero =>
      intro _
      have e : ∀ j, j < n → ((kerTo p R P c n 0).getD j 0) = if j = c then 1 else 0 := fun j hj => by
        simp only [kerTo, List.getD_eq_getElem?_getD, List.getElem?_set]
        by_cases hjc : c = j
        · subst hjc; simp [hc]
        · rw [if_neg hjc, if_neg (Ne.symm hjc)]; simp [hj]
      rw [if_neg (by omega), sm_one hc (fun j hj hne => by rw [e j hj, if_neg hne, fz_zero]; grind), e c hc, if_pos rfl, fz_one]; grind
    | succ k ih =>
      intro hk
      have hk2 : k < P.length := by omega
      have hlt := h.ech.lt k hk2
      have hz := kerTo_at p R P c n P[k] hlt (fun e => hcP (e ▸ List.getElem_mem hk2)) k (by omega) (fun i h1 h2 => h.ech.inj h1 hk2 (by omega))
      have e : ∀ j, j ≠ P[k] → (kerTo p R P c n (k + 1)).getD j 0 = (kerTo p R P c n k).getD j 0 := fun j hne => by
        rw [kerTo, getD_at hk2, List.getD_eq_getElem?_getD, List.getElem?_set_ne (Ne.symm hne), ← List.getD_eq_getElem?_getD]
      have e2 : (kerTo p R P c n (k + 1)).getD P[k] 0 = negN p (ent R k c) := by
        rw [kerTo, getD_at hk2, List.getD_eq_getElem?_getD, List.getElem?_set_self (by rw [kerTo_length]; exact hlt)]; rfl
      rw [sm_set hlt (fun j hne => by rw [e j hne]), ih (by omega), e2, hz, fz_zero]
      have e3 : fz p (negN p (ent R k c)) = - fm p R k c := by
        have h1 : fz p (p - 1) = - 1 := by rw [fz_neg (by have := hp.1; omega), fz_one]
        unfold negN; rw [fz_plus, fz_zero, h1]; unfold fm; grind
      have e4 := h.one t k ht hk2
      rw [getD_at hk2] at e4
      rw [e3, e4]
      by_cases htk : t < k
      · rw [if_pos htk, if_pos (show t < k + 1 by omega), if_neg (show ¬ t = k by omega)]; grind
      · by_cases htk2 : t = k
        · subst htk2; rw [if_neg htk, if_pos rfl, if_pos (show t < t + 1 by omega)]; grind
        · rw [if_neg htk, if_neg htk2, if_neg (show ¬ t < k + 1 by omega)]; grind
  rw [key P.length (Nat.le_refl _), if_pos ht]

theorem fz_dot (a b : List Nat) (n : Nat) (ha : a.length = n) (hb : b.length = n) : fz p (dotS a b) = sm (fun j => fz p (a.getD j 0) * fz p (b.getD j 0)) n := by
  subst ha
  induction a generalizing b with
  | nil => rfl
  | cons x a ih =>
    cases b with
    | nil => simp at hb
    | cons y b =>
      have h1 : dotS (x :: a) (y :: b) = x * y + dotS a b := by simp [dotS]
      rw [h1, fz_add, fz_mul, ih b (by simpa using hb), List.length_cons, sm_shift]
      simp
/-- Each row of the matrix kills each row of its kernel. -/
theorem kernel_dot (hp : Pr p) {M : List (List Nat)} (hr : Rect M) {x : List Nat} (hx : x ∈ kerUp p (redN p (modN p M)).1 (redN p (modN p M)).2 (cols M) (cols M)) {r : List Nat} (hrM : r ∈ M) : x.length = cols M ∧ dotS r x % p = 0 := by
  have h := rdc_mod hp M
  obtain ⟨R, hR⟩ : ∃ R, R = (redN p (modN p M)).1 := ⟨_, rfl⟩
  obtain ⟨P, hP⟩ : ∃ P, P = (redN p (modN p M)).2 := ⟨_, rfl⟩
  rw [← hR, ← hP] at h hx
  have key : ∀ c, c ≤ cols M → x ∈ kerUp p R P (cols M) c → ∃ c', c' < cols M ∧ c' ∉ P ∧ x = kerTo p R P c' (cols M) P.length := by
    intro c
    induction c with
    | zero => intro _ h; cases h
    | succ c ih =>
      intro hc hx
      rw [kerUp] at hx
      split at hx
      · exact ih (by omega) hx
      · rename_i hcP
        rcases List.mem_append.1 hx with hx | hx
        · exact ih (by omega) hx
        · exact ⟨c, by omega, hcP, List.mem_singleton.1 hx⟩
  obtain ⟨c, hc, hcP, rfl⟩ := key _ (Nat.le_refl _) hx
  refine ⟨kerTo_length _ _ _ _ _ _, ?_⟩
  obtain ⟨k, hk, rfl⟩ := List.mem_iff_getElem.1 hrM
  have h0 : fz p (dotS M[k] (kerTo p R P c (cols M) P.length)) = 0 := by
    rw [fz_dot _ _ (cols M) (hr.at_ k hk) (kerTo_length _ _ _ _ _ _)]
    obtain ⟨G, hG⟩ := LC.all (A := fm p (modN p M)) (fun k hk => h.comb hk)
    rw [modN_length] at hG
    have e1 : ∀ j, fz p (M[k].getD j 0) = sm (fun t => G k t * fm p R t j) P.length := fun j => by
      rw [← hG k hk j, fm_modN hr]; unfold fm; rw [ent_row hk]
    have e2 : sm (fun j => fz p (M[k].getD j 0) * fz p ((kerTo p R P c (cols M) P.length).getD j 0)) (cols M) = sm (fun j => sm (fun t => G k t * (fm p R t j * fz p ((kerTo p R P c (cols M) P.length).getD j 0))) P.length) (cols M) := sm_congr _ fun j _ => by
      rw [e1, ← sm_mulr]
      exact sm_congr _ fun t _ => by grind
    rw [e2, sm_comm]
    exact sm_none _ fun t ht => by rw [sm_mul, ker_kills hp h hc hcP t ht]; grind
  have := fz_eq.1 (h0.trans fz_zero.symm)
  rwa [Nat.zero_mod] at this
end

/-- How many rows the kernel has. -/
theorem kerUp_count {p n : Nat} {R : List (List Nat)} {P : List Nat} (he : Ech R P n) : (kerUp p R P n n).length = n - P.length := by
  have key : ∀ c k, AtN P c k → c ≤ n → (kerUp p R P n c).length + k = c := by
    intro c
    induction c with
    | zero =>
      intro k hk _
      have : k = 0 := by
        rcases Nat.eq_zero_or_pos k with h | h
        · exact h
        · have := (hk.2 0 (by have := hk.1; omega)).1 h
          omega
      subst this; rfl
    | succ c ih =>
      intro k hk hc
      -- the pivots before c
      by_cases hm : c ∈ P
      · obtain ⟨i, hi, e⟩ := List.mem_iff_getElem.1 hm
        have h1 : AtN P c i := ⟨by omega, fun j hj => by
          constructor
          · intro h; rw [← e]; exact he.rise j i hj hi h
          · intro h
            refine Nat.lt_of_not_le fun h2 => ?_
            rcases Nat.eq_or_lt_of_le h2 with h3 | h3
            · subst h3; omega
            · have := he.rise i j hi hj h3; omega⟩
        have h2 := h1.yes he hi e
        have hki : k = i + 1 := by
          refine Nat.le_antisymm (Nat.le_of_not_lt fun hlt => ?_) (Nat.le_of_not_lt fun hlt => ?_)
          · have hh := (hk.2 (i + 1) (by have := hk.1; omega)).1 hlt
            have := (h2.2 (i + 1) (by have := hk.1; omega)).2 hh
            omega
          · have hh := (h2.2 k (by omega)).1 (by omega)
            have := (hk.2 k (by omega)).2 hh
            omega
        rw [kerUp, if_pos hm, hki]
        have := ih i h1 (by omega)
        omega
      · have h1 : AtN P c k := ⟨hk.1, fun j hj => by
          rw [hk.2 j hj]
          have hne : P[j] ≠ c := fun e => hm (e ▸ List.getElem_mem hj)
          omega⟩
        rw [kerUp, if_neg hm, List.length_append, List.length_singleton]
        have := ih k h1 (by omega)
        omega
  have h := key n P.length ⟨Nat.le_refl _, fun i hi => ⟨fun _ => he.lt i hi, fun _ => hi⟩⟩ (Nat.le_refl _)
  omega
end
section
theorem ent_ext {p n : Nat} {A B : List (List Nat)} (hA : Good p n A) (hB : Good p n B) (hl : A.length = B.length) (h : ∀ i, i < A.length → ∀ j, j < n → ent A i j = ent B i j) : A = B := by
  apply List.ext_getElem hl
  intro i h1 h2
  apply List.ext_getElem (by rw [hA.len h1, hB.len h2])
  intro j k1 k2
  have h3 := h i h1 j (by rw [hA.len h1] at k1; exact k1)
  rwa [ent_at h1 k1, ent_at h2 k2] at h3
theorem good_rect {p n : Nat} {A : List (List Nat)} (hA : Good p n A) : Rect A := fun r hr => by
  obtain ⟨i, hi, rfl⟩ := List.mem_iff_getElem.1 hr
  have h0 : 0 < A.length := by omega
  rw [cols_eq A h0, hA.len h0, hA.len hi]
theorem good_cols {p n : Nat} {A : List (List Nat)} (hA : Good p n A) (h : 0 < A.length) : cols A = n := by rw [cols_eq A h]; exact hA.len h
theorem modN_id {p n : Nat} {A : List (List Nat)} (hp : 0 < p) (hA : Good p n A) : modN p A = A := by
  by_cases h : 0 < A.length
  · have hc := good_cols hA h
    have hg := modN_good hp A
    rw [hc] at hg
    refine ent_ext hg hA (modN_length p A) fun i hi j hj => ?_
    rw [ent_modN (good_rect hA), Nat.mod_eq_of_lt (hA.ent_lt hp i j)]
  · have : A = [] := List.eq_nil_of_length_eq_zero (by omega)
    subst this; rfl

theorem seekN_nought {M : List (List Nat)} {c : Nat} : ∀ n i, (∀ j, i ≤ j → j < i + n → ent M j c = 0) → seekN M c n i = none
  | 0, _, _ => rfl
  | n + 1, i, h => by
    rw [seekN_step (by omega) (h i (Nat.le_refl _) (by omega)), Nat.add_sub_cancel]
    exact seekN_nought n (i + 1) fun j h1 h2 => h j (by omega) (by omega)

section
variable {p n : Nat} {R : List (List Nat)} {P : List Nat}
theorem unit_stays (hp : 1 < p) (hg : Good p n R) {k c : Nat} (hk : k < R.length) (h1 : ent R k c = 1) : unitN p R k c = R := by
  have e : invN p 1 = 1 := by unfold invN; rw [Nat.one_pow, Nat.mod_eq_of_lt hp]
  unfold unitN
  rw [h1, e, getD_at hk]
  have e2 : scaleR p 1 R[k] = R[k] := by
    unfold scaleR
    conv => rhs; rw [← List.map_id R[k]]
    refine List.map_congr_left fun x hx => ?_
    have := hg.dig _ (List.getElem_mem hk) x hx
    simp [plusN, Nat.mod_eq_of_lt this]
  rw [e2, List.set_getElem_self]
theorem clear_stays {k c : Nat} (hk : k < R.length) (h0 : ∀ i, i ≠ k → ent R i c = 0) : clearN p R k c = R := by
  apply List.ext_getElem (clearN_length _ _ _ _)
  intro i h1 h2
  rw [clearN_at h2 hk h1]
  by_cases e : i = k
  · subst e; rw [if_pos rfl]
  · rw [if_neg e, h0 i e]; rfl
theorem redTo_stays (hp : 1 < p) (hg : Good p n R) (he : Ech R P n) (hl : P.length ≤ R.length) : ∀ c k, c ≤ n → AtN P c k → redTo p R c = (R, P.take k)
  | 0, k, _, hk => by
    have : k = 0 := by
      rcases Nat.eq_zero_or_pos k with h | h
      · exact h
      · have := (hk.2 0 (by have := hk.1; omega)).1 h; omega
    subst this; rfl
  | c + 1, k, hc, hk => by
    have key : ∀ i, AtN P c i → redTo p R (c + 1) = (R, if c ∈ P then P.take i ++ [c] else P.take i) := fun i hi => by
      have ih := redTo_stays hp hg he hl c i (by omega) hi
      have hlen : (P.take i).length = i := by rw [List.length_take]; have := hi.1; omega
      show colStep p c (redTo p R c) = _
      rw [ih]
      by_cases hm : c ∈ P
      · obtain ⟨hil, e⟩ := (hi.is he).1 hm
        have hiR : i < R.length := by omega
        have h1 : ent R i c = 1 := by rw [← e]; exact he.one i hil
        have hpv : piv R c i = some i := by unfold piv; exact seekN_here (by omega) (by rw [h1]; omega)
        rw [if_pos hm, colStep_some (i := i) (by rw [hlen]; exact hpv), hlen, sw_self, unit_stays hp hg hiR h1, clear_stays hiR fun j hj => by rw [← e]; exact he.zero i hil j hj]
      · have hpv : piv R c i = none := by
          unfold piv
          refine seekN_nought _ _ fun j h1 _ => ?_
          by_cases hj : j < P.length
          · refine he.left j hj c ?_
            have hne : P[j] ≠ c := fun e => hm (e ▸ List.getElem_mem hj)
            have : ¬ P[j] < c := fun h => by have := (hi.2 j hj).2 h; omega
            omega
          · exact he.low j c (by omega) (by omega)
        rw [if_neg hm, colStep_none (by rw [hlen]; exact hpv)]
    by_cases hm : c ∈ P
    · obtain ⟨i, hi, e⟩ := List.mem_iff_getElem.1 hm
      have h1 : AtN P c i := ⟨by omega, fun j hj => by
        constructor
        · intro h; rw [← e]; exact he.rise j i hj hi h
        · intro h
          refine Nat.lt_of_not_le fun h2 => ?_
          rcases Nat.eq_or_lt_of_le h2 with h3 | h3
          · subst h3; omega
          · have := he.rise i j hi hj h3; omega⟩
      have h2 := h1.yes he hi e
      have hki : k = i + 1 := by
        refine Nat.le_antisymm (Nat.le_of_not_lt fun hlt => ?_) (Nat.le_of_not_lt fun hlt => ?_)
        · have hh := (hk.2 (i + 1) (by have := hk.1; omega)).1 hlt
          have := (h2.2 (i + 1) (by have := hk.1; omega)).2 hh
          omega
        · have hh := (h2.2 k (by omega)).1 (by omega)
          have := (hk.2 k (by omega)).2 hh
          omega
      rw [key i h1, if_pos hm, hki, take_snoc hi, e]
    · have h1 : AtN P c k := ⟨hk.1, fun j hj => by
        rw [hk.2 j hj]
        have hne : P[j] ≠ c := fun e => hm (e ▸ List.getElem_mem hj)
        omega⟩
      rw [key k h1, if_neg hm]
end
theorem atN_all {R : List (List Nat)} {P : List Nat} {n : Nat} (he : Ech R P n) : AtN P n P.length := ⟨Nat.le_refl _, fun i hi => ⟨fun _ => he.lt i hi, fun _ => hi⟩⟩
/-- What is reduced stays. -/
theorem redN_stays {p : Nat} (hp : Pr p) (M : List (List Nat)) : redN p (modN p (redN p (modN p M)).1) = ((redN p (modN p M)).1, (redN p (modN p M)).2) := by
  haveI : NeZero p := ⟨by have := hp.pos; omega⟩
  have h := rdc_mod hp M
  rw [modN_id hp.pos h.good]
  by_cases h0 : 0 < (redN p (modN p M)).1.length
  · have hc := good_cols h.good h0
    show redTo p (redN p (modN p M)).1 (cols (redN p (modN p M)).1) = _
    rw [hc, redTo_stays hp.1 h.good h.ech (by have := h.few; rw [h.len]; exact this) (cols M) _ (Nat.le_refl _) (atN_all h.ech), List.take_length]
  · have e1 : (redN p (modN p M)).1 = [] := List.eq_nil_of_length_eq_zero (by omega)
    have e2 : (redN p (modN p M)).2 = [] := List.eq_nil_of_length_eq_zero (by have := h.few; have := h.len; rw [e1] at this; simp at this; omega)
    rw [e1, e2]; rfl

section
variable {p : Nat} [NeZero p]
/-- The rank of a matrix with its reduced form below it. -/
theorem rank_below (hp : Pr p) {M : List (List Nat)} (hr : Rect M) : rankN p (M ++ (redN p (modN p M)).1) = rankN p M := by
  have h := rdc_mod hp M
  have hw : ∀ r ∈ M ++ (redN p (modN p M)).1, r.length = cols M := fun r hm => by
    rcases List.mem_append.1 hm with hm | hm
    · exact hr r hm
    · exact h.good.wid r hm
  have hR : Rect (M ++ (redN p (modN p M)).1) := fun r hm => by
    have h1 : 0 < (M ++ (redN p (modN p M)).1).length := by
      obtain ⟨i, hi, _⟩ := List.mem_iff_getElem.1 hm; omega
    rw [hw r hm, cols_eq _ h1, hw _ (List.getElem_mem h1)]
  have e1 : ∀ k, k < M.length → ∀ j, fm p (M ++ (redN p (modN p M)).1) k j = fm p M k j := fun k hk j => by
    unfold fm; congr 1
    rw [ent_row (by rw [List.length_append]; omega), List.getElem_append_left hk, ent_row hk]
  refine Nat.le_antisymm (rank_le hp hR (D := fm p (redN p (modN p M)).1) fun k hk => ?_) ?_
  · by_cases hkM : k < M.length
    · exact ((h.comb (by rw [modN_length]; exact hkM)).congr fun j => by rw [e1 k hkM, fm_modN hr])
    · have hk2 : k - M.length < (redN p (modN p M)).1.length := by rw [List.length_append] at hk; omega
      have e2 : ∀ j, fm p (M ++ (redN p (modN p M)).1) k j = fm p (redN p (modN p M)).1 (k - M.length) j := fun j => by
        unfold fm; congr 1
        rw [ent_row hk, List.getElem_append_right (by omega), ent_row hk2]
      have h3 := LC.row (fm p (redN p (modN p M)).1) hk2
      refine (h3.cut (by rw [h.len]; exact h.few) fun i hi j => h.low hi j).congr e2
  · obtain ⟨G, hG⟩ := rank_comb hp hR
    exact rank_le hp hr fun k hk => ⟨G k, fun j => by rw [← e1 k hk j]; exact hG k (by rw [List.length_append]; omega) j⟩

/-- An entry of a product. -/
theorem fm_mul {A B : List (List Nat)} (hA : Rect A) (hfit : cols A = B.length) {i k : Nat} (hi : i < A.length) (hk : k < cols B) : fm p (mulN p A B) i k = sm (fun t => fm p A i t * fm p B t k) (cols A) := by
  have e : ent (mulN p A B) i k = dotS (A.getD i []) ((trN B).getD k []) % p := by unfold mulN; rw [ent_mtab, if_pos ⟨hi, hk⟩]
  have hk2 : k < (trN B).length := by unfold trN; rw [mtab_length]; exact hk
  show fz p (ent (mulN p A B) i k) = _
  rw [e, fz_mod, getD_at hi, getD_at hk2, fz_dot _ _ (cols A) (hA.at_ i hi) (by rw [trN_at]; exact hfit.symm)]
  refine sm_congr _ fun t ht => ?_
  have e1 : A[i].getD t 0 = ent A i t := (ent_row hi t).symm
  have e2 : (trN B)[k].getD t 0 = ent B t k := by
    rw [← ent_row hk2]; unfold trN; rw [ent_mtab, if_pos ⟨hk, by omega⟩]
  rw [e1, e2]; rfl
omit [NeZero p] in
theorem mulN_len (A B : List (List Nat)) : (mulN p A B).length = A.length := mtab_length _ _ _
/-- The rank of a product is no greater than that of either. -/
theorem rank_mul (hp : Pr p) {M N : List (List Nat)} (hM : Rect M) (hN : Rect N) (hfit : cols M = N.length) : rankN p (mulN p (modN p M) (modN p N)) ≤ rankN p M ∧ rankN p (mulN p (modN p M) (modN p N)) ≤ rankN p N := by
  have hr : Rect (mulN p (modN p M) (modN p N)) := good_rect (mulN_good hp.pos _ _)
  have hl : (mulN p (modN p M) (modN p N)).length = M.length := by rw [mulN_len, modN_length]
  have hc2 := modN_cols p N
  have e : ∀ i, i < M.length → ∀ j, fm p (mulN p (modN p M) (modN p N)) i j = sm (fun t => fm p M i t * fm p N t j) (cols M) := fun i hi j => by
    by_cases hj : j < cols N
    · rw [fm_mul (modN_rect p M) (by rw [modN_cols, modN_length, hfit]) (by rw [modN_length]; exact hi) (by rw [hc2]; exact hj), modN_cols]
      exact sm_congr _ fun t _ => by rw [fm_modN hM, fm_modN hN]
    · have h0 : fm p (mulN p (modN p M) (modN p N)) i j = 0 := by
        unfold fm; rw [ent_wide (mulN_good hp.pos (modN p M) (modN p N)).wid i (by rw [hc2]; omega)]; rfl
      rw [h0]
      exact (sm_none _ fun t _ => by rw [fm_wide hN t (by omega)]; grind).symm
  constructor
  · obtain ⟨G, hG⟩ := rank_comb hp hM
    refine rank_le hp hr (D := fun s j => sm (fun t => fm p (redN p (modN p M)).1 s t * fm p N t j) (cols M)) fun k hk => ?_
    rw [hl] at hk
    refine ⟨G k, fun j => ?_⟩
    rw [e k hk j]
    have e2 : sm (fun t => fm p M k t * fm p N t j) (cols M) = sm (fun t => sm (fun s => G k s * (fm p (redN p (modN p M)).1 s t * fm p N t j)) (rankN p M)) (cols M) := sm_congr _ fun t _ => by
      rw [hG k hk t, ← sm_mulr]
      exact sm_congr _ fun s _ => by grind
    rw [e2, sm_comm]
    exact sm_congr _ fun s _ => by rw [sm_mul]
  · obtain ⟨G, hG⟩ := rank_comb hp hN
    refine rank_le hp hr (D := fm p (redN p (modN p N)).1) fun k hk => ?_
    rw [hl] at hk
    refine ⟨fun s => sm (fun t => fm p M k t * G t s) (cols M), fun j => ?_⟩
    rw [e k hk j]
    have e2 : sm (fun t => fm p M k t * fm p N t j) (cols M) = sm (fun t => sm (fun s => fm p M k t * G t s * fm p (redN p (modN p N)).1 s j) (rankN p N)) (cols M) := sm_congr _ fun t ht => by
      rw [hG t (by omega) j, ← sm_mul]
      exact sm_congr _ fun s _ => by grind
    rw [e2, sm_comm]
    exact sm_congr _ fun s _ => by rw [← sm_mulr]
end
end
end Go.Proofs.YtecdjanopiibcaaDoor
