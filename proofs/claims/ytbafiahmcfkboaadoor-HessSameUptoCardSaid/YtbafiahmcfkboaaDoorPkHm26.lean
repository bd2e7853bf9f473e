/- The matrix on its way with its transform; the contracts of exchange and shear. Conditions: as each states. -/
import Derived.Test.YtbafiahmcfkboaaDoorPkHm25
namespace Go.Proofs.YtbafiahmcfkboaaDoor
open Go.RowKit

def mv (q : Bool) (g n : Nat) : Value := if q then .slice (some ⟨g, 0, none⟩) n n else .slice none 0 0
def bl (q : Bool) (g : Nat) (bs : List Nat) : List Nat := if q then g :: bs else []
def ma (q : Bool) (g : Nat) : Option Addr := if q then some ⟨g, 0, none⟩ else none
/-- H on its way, with the transform S and its inverse R if q; all from block B on. -/
structure Wk (w : World) (B gw p n : Nat) (q : Bool) (gh gs gr : Nat) (bh bs br : List Nat) (H S R : Nat → Nat → Nat) : Prop where
  blk : Blk w gw 59 [.int .u64 (p : Int), .slice (some ⟨gh, 0, none⟩) n n, mv q gs n, mv q gr n]
  h : Mt w gh bh n H
  hl : bh.length = n
  s : Mo w (ma q gs) gs bs n S
  sl : bs.length = if q then n else 0
  r : Mo w (ma q gr) gr br n R
  rl : br.length = if q then n else 0
  low : B ≤ gw
  loh : ∀ x ∈ gh :: bh, B ≤ x
  los : ∀ x ∈ bl q gs bs, B ≤ x
  lor : ∀ x ∈ bl q gr br, B ≤ x
  d1 : gw ∉ gh :: bh
  d2 : gw ∉ bl q gs bs
  d3 : gw ∉ bl q gr br
  d4 : ∀ x ∈ gh :: bh, x ∉ bl q gs bs
  d5 : ∀ x ∈ gh :: bh, x ∉ bl q gr br
  d6 : ∀ x ∈ bl q gs bs, x ∉ bl q gr br
  bH : Lt p n n H
  bS : Lt p n n S
  bR : Lt p n n R
def WK (w : World) (B gw p n : Nat) (q : Bool) (H S R : Nat → Nat → Nat) : Prop := ∃ gh gs gr bh bs br, Wk w B gw p n q gh gs gr bh bs br H S R

section
variable {w w' : World} {B gw p n gh gs gr : Nat} {q : Bool} {bh bs br : List Nat} {H S R : Nat → Nat → Nat}
theorem bl_mem {x g : Nat} {bs : List Nat} (h : bs ≠ [] → q = true) (hx : bs ≠ []) (hm : x = g ∨ x ∈ bs) : x ∈ bl q g bs := by
  rw [h hx]; simpa [bl] using hm
theorem len_q {bs : List Nat} (h : bs.length = if q then n else 0) (hx : bs ≠ []) : q = true := by
  cases q
  · rw [if_neg (by decide)] at h; exact absurd (List.eq_nil_of_length_eq_zero h) hx
  · rfl
theorem Wk.pw (h : Wk w B gw p n q gh gs gr bh bs br H S R) : Pw w gw p := (h.blk.cell 0).trans rfl
/-- What turned is a part of H. -/
theorem Wk.setH {L bh' : List Nat} {H' : Nat → Nat → Nat} (h : Wk w B gw p n q gh gs gr bh bs br H S R) (hm : Md L w w') (hL : ∀ x ∈ L, x ∈ gh :: bh) (hb : ∀ x ∈ bh', x ∈ bh) (hbl : bh'.length = n) (hM : Mt w' gh bh' n H') (bH' : Lt p n n H') : Wk w' B gw p n q gh gs gr bh' bs br H' S R := by
  have hb2 : ∀ x ∈ gh :: bh', x ∈ gh :: bh := fun x hx => by
    rcases List.mem_cons.1 hx with rfl | hx
    · exact List.mem_cons_self
    · exact List.mem_cons_of_mem _ (hb x hx)
  exact ⟨h.blk.md hm fun e => h.d1 (hL _ e), hM, hbl, h.s.md hm fun hx k hk e => h.d4 k (hL k e) (bl_mem (fun _ => len_q h.sl hx) hx hk), h.sl, h.r.md hm fun hx k hk e => h.d5 k (hL k e) (bl_mem (fun _ => len_q h.rl hx) hx hk), h.rl, h.low,
    fun x hx => h.loh x (hb2 x hx), h.los, h.lor, fun e => h.d1 (hb2 _ e), h.d2, h.d3, fun x hx => h.d4 x (hb2 x hx), fun x hx => h.d5 x (hb2 x hx), h.d6, bH', h.bS, h.bR⟩
/-- What turned is a part of S. -/
theorem Wk.setS {L : List Nat} {S' : Nat → Nat → Nat} (h : Wk w B gw p n q gh gs gr bh bs br H S R) (hm : Md L w w') (hL : ∀ x ∈ L, x ∈ bl q gs bs) (hM : Mo w' (ma q gs) gs bs n S') (bS' : Lt p n n S') : Wk w' B gw p n q gh gs gr bh bs br H S' R :=
  ⟨h.blk.md hm fun e => h.d2 (hL _ e), h.h.md hm fun k hk e => h.d4 k (by simpa using hk) (hL k e), h.hl, hM, h.sl, h.r.md hm fun hx k hk e => h.d6 k (hL k e) (bl_mem (fun _ => len_q h.rl hx) hx hk), h.rl, h.low,
    h.loh, h.los, h.lor, h.d1, h.d2, h.d3, h.d4, h.d5, h.d6, h.bH, bS', h.bR⟩
/-- What turned is a part of R. -/
theorem Wk.setR {L br' : List Nat} {R' : Nat → Nat → Nat} (h : Wk w B gw p n true gh gs gr bh bs br H S R) (hm : Md L w w') (hL : ∀ x ∈ L, x ∈ gr :: br) (hb : ∀ x ∈ br', x ∈ br) (hbl : br'.length = n) (hM : Mt w' gr br' n R') (bR' : Lt p n n R') : Wk w' B gw p n true gh gs gr bh bs br' H S R' := by
  have hb2 : ∀ x ∈ gr :: br', x ∈ gr :: br := fun x hx => by
    rcases List.mem_cons.1 hx with rfl | hx
    · exact List.mem_cons_self
    · exact List.mem_cons_of_mem _ (hb x hx)
  exact ⟨h.blk.md hm fun e => h.d3 (hL _ e), h.h.md hm fun k hk e => h.d5 k (by simpa using hk) (hL k e), h.hl, h.s.md hm fun hx k hk e => h.d6 k (bl_mem (fun _ => rfl) hx hk) (hL k e), h.sl, .inr ⟨rfl, hM⟩, hbl, h.low,
    h.loh, h.los, fun x hx => h.lor x (hb2 x hx), h.d1, h.d2, fun e => h.d3 (hb2 _ e), h.d4, fun x hx e => h.d5 x hx (hb2 x e), fun x hx e => h.d6 x hx (hb2 x e), h.bH, h.bS, bR'⟩
theorem Wk.drewN (h : Wk w B gw p n q gh gs gr bh bs br H S R) (m : Nat) : Wk (w.drewN m) B gw p n q gh gs gr bh bs br H S R :=
  ⟨h.blk, h.h.drewN m, h.hl, h.s.md (Md.refl [] w |>.drewN m) fun _ _ _ e => List.not_mem_nil e, h.sl, h.r.md (Md.refl [] w |>.drewN m) fun _ _ _ e => List.not_mem_nil e, h.rl, h.low, h.loh, h.los, h.lor, h.d1, h.d2, h.d3, h.d4, h.d5, h.d6, h.bH, h.bS, h.bR⟩
theorem Wk.below (h : Wk w B gw p n q gh gs gr bh bs br H S R) (hb : Below w.heap.size w w') : Wk w' B gw p n q gh gs gr bh bs br H S R :=
  ⟨h.blk.below hb h.blk.lt, h.h.below hb, h.hl, h.s.md (Md.of_below (L := []) hb) fun _ _ _ e => List.not_mem_nil e, h.sl, h.r.md (Md.of_below (L := []) hb) fun _ _ _ e => List.not_mem_nil e, h.rl, h.low, h.loh, h.los, h.lor, h.d1, h.d2, h.d3, h.d4, h.d5, h.d6, h.bH, h.bS, h.bR⟩
theorem tr_lt {i k a n : Nat} (hi : i < n) (hk : k < n) (ha : a < n) : tr i k a < n := by unfold tr; split <;> (try split) <;> omega
theorem Lt.trR {m n i k : Nat} {E : Nat → Nat → Nat} (h : Lt p m n E) (hi : i < m) (hk : k < m) : Lt p m n fun a => E (tr i k a) := fun _ _ ha hb => h _ _ (tr_lt hi hk ha) hb
theorem Lt.trC {m n i k : Nat} {E : Nat → Nat → Nat} (h : Lt p m n E) (hi : i < n) (hk : k < n) : Lt p m n fun a b => E a (tr i k b) := fun _ _ ha hb => h _ _ ha (tr_lt hi hk hb)
theorem Lt.ac {m n i k c : Nat} {E : Nat → Nat → Nat} (h : Lt p m n E) (hp : 0 < p) : Lt p m n (acN p i k c E) := fun a b ha hb => by
  unfold acN; split
  · exact plN_lt hp _ _ _
  · exact h a b ha hb
theorem Lt.ar {m n i k c : Nat} {E : Nat → Nat → Nat} (h : Lt p m n E) (hp : 0 < p) : Lt p m n (arN p i k c E) := fun a b ha hb => by
  unfold arN; split
  · exact plN_lt hp _ _ _
  · exact h a b ha hb
/-- The four cells. -/
theorem Wk.cells (h : Wk w B gw p n q gh gs gr bh bs br H S R) : w.cell? ⟨gw, 0, none⟩ = some (.int .u64 (p : Int)) ∧ w.cell? ⟨gw, 1, none⟩ = some (.slice (some ⟨gh, 0, none⟩) n n) ∧ w.cell? ⟨gw, 2, none⟩ = some (mv q gs n) ∧ w.cell? ⟨gw, 3, none⟩ = some (mv q gr n) :=
  ⟨h.blk.cell 0, h.blk.cell 1, h.blk.cell 2, h.blk.cell 3⟩
theorem Wk.cellsT (h : Wk w B gw p n true gh gs gr bh bs br H S R) : w.cell? ⟨gw, 0, none⟩ = some (.int .u64 (p : Int)) ∧ w.cell? ⟨gw, 1, none⟩ = some (.slice (some ⟨gh, 0, none⟩) n n) ∧ w.cell? ⟨gw, 2, none⟩ = some (.slice (some ⟨gs, 0, none⟩) n n) ∧ w.cell? ⟨gw, 3, none⟩ = some (.slice (some ⟨gr, 0, none⟩) n n) := h.cells
theorem Wk.cellsF (h : Wk w B gw p n false gh gs gr bh bs br H S R) : w.cell? ⟨gw, 0, none⟩ = some (.int .u64 (p : Int)) ∧ w.cell? ⟨gw, 1, none⟩ = some (.slice (some ⟨gh, 0, none⟩) n n) ∧ w.cell? ⟨gw, 2, none⟩ = some (.slice none 0 0) ∧ w.cell? ⟨gw, 3, none⟩ = some (.slice none 0 0) := h.cells
/-- An exchange. -/
theorem xH (h : Lt p n n H) {i k : Nat} (hi : i < n) (hk : k < n) : Lt p n n fun a b => H (tr i k a) (tr i k b) := (h.trR hi hk).trC hi hk
end

set_option maxRecDepth 20000 in
set_option maxHeartbeats 1600000 in
theorem exchange_any (w : World) (B gw p n : Nat) (q : Bool) (H S R : Nat → Nat → Nat) (i k : Nat) (h : WK w B gw p n q H S R) (hB : B ≤ w.heap.size) (hi : i < n) (hk : k < n) (hn : n ≤ 1000) :
    Calls Tryd.prog 34 #[.pointer (some ⟨gw, 0, none⟩), .int .i64 (i : Int), .int .i64 (k : Int)] w fun e w' => e = .returned (.tuple #[]) ∧ WK w' B gw p n q (fun a b => H (tr i k a) (tr i k b)) (fun a b => S a (tr i k b)) (fun a => R (tr i k a)) ∧ Below B w w' := by
  obtain ⟨gh, gs, gr, bh, bs, br, h⟩ := h
  have hgw := h.blk.lt
  obtain ⟨c0, c1, c2, c3⟩ := h.cells
  have H0 := Lib.hid h
  clear h
  -- the calls
  have HR1 : Hid (∀ W, Dr w W → Calls Tryd.prog 60 #[.slice (some ⟨gh, 0, none⟩) n n, .int .i64 (i : Int), .int .i64 (k : Int)] W fun e w' => e = .returned (.tuple #[]) ∧ Wk w' B gw p n q gh gs gr (sx 0 bh i k) bs br (fun a => H (tr i k a)) S R ∧ Below B w w') := fun W hW => by
    obtain ⟨m, rfl⟩ := hW
    have h := H0.out.drewN m
    have hl := h.hl
    refine (swapRows_any gh n i k n n bh H _ h.h (by omega) (by omega) h.hl hn).mono ?_
    rintro _ _ ⟨rfl, h1, h2⟩
    exact ⟨rfl, h.setH h2 (fun x hx => by rw [List.mem_singleton.1 hx]; exact List.mem_cons_self) (fun x hx => sx_mem (by omega) (by omega) hx) (by rw [sx_length]; exact hl) h1 (h.bH.trR hi hk), ((Dr.refl w).step m |>.below B).trans (h2.below (fun x hx => h.loh x (by rw [List.mem_singleton.1 hx]; exact List.mem_cons_self)) hB)⟩
  have HC1 : Hid (∀ (W : World) bh H S R, Wk W B gw p n q gh gs gr bh bs br H S R → B ≤ W.heap.size → Calls Tryd.prog 61 #[.slice (some ⟨gh, 0, none⟩) n n, .int .i64 (i : Int), .int .i64 (k : Int)] W fun e w' => e = .returned (.tuple #[]) ∧ Wk w' B gw p n q gh gs gr bh bs br (fun a b => H a (tr i k b)) S R ∧ Below B W w') := fun W bh H S R h hBW => by
    have hl := h.hl
    refine (swapCols_any _ gh n i k n n bh H W (.inr ⟨rfl, h.h⟩) hi hk h.hl hn hn).mono ?_
    rintro _ _ ⟨rfl, h1, h2⟩
    exact ⟨rfl, h.setH h2 (fun x hx => List.mem_cons_of_mem _ hx) (fun x hx => hx) hl (h1.mt (i := i) (by omega)).2 (h.bH.trC hi hk), h2.below (fun x hx => h.loh x (List.mem_cons_of_mem _ hx)) hBW⟩
  have hq : q = true ∨ q = false := by cases q <;> simp
  rcases hq with rfl | rfl
  · have HC2 : Hid (∀ (W : World) bh H S R, Wk W B gw p n true gh gs gr bh bs br H S R → B ≤ W.heap.size → Calls Tryd.prog 61 #[.slice (some ⟨gs, 0, none⟩) n n, .int .i64 (i : Int), .int .i64 (k : Int)] W fun e w' => e = .returned (.tuple #[]) ∧ Wk w' B gw p n true gh gs gr bh bs br H (fun a b => S a (tr i k b)) R ∧ Below B W w') := fun W bh H S R h hBW => by
      have hl : bs.length = n := h.sl
      refine (swapCols_any _ gs n i k n n bs S W h.s hi hk hl hn hn).mono ?_
      rintro _ _ ⟨rfl, h1, h2⟩
      exact ⟨rfl, h.setS h2 (fun x hx => List.mem_cons_of_mem _ hx) h1 (h.bS.trC hi hk), h2.below (fun x hx => h.los x (List.mem_cons_of_mem _ hx)) hBW⟩
    have HR2 : Hid (∀ (W : World) bh H S, Wk W B gw p n true gh gs gr bh bs br H S R → B ≤ W.heap.size → Calls Tryd.prog 60 #[.slice (some ⟨gr, 0, none⟩) n n, .int .i64 (i : Int), .int .i64 (k : Int)] W fun e w' => e = .returned (.tuple #[]) ∧ WK w' B gw p n true H S (fun a => R (tr i k a)) ∧ Below B W w') := fun W bh H S h hBW => by
      have hl : br.length = n := h.rl
      refine (swapRows_any gr n i k n n br R W (h.r.mt (i := i) (by omega)).2 (by omega) (by omega) hl hn).mono ?_
      rintro _ _ ⟨rfl, h1, h2⟩
      exact ⟨rfl, ⟨_, _, _, _, _, _, h.setR h2 (fun x hx => by rw [List.mem_singleton.1 hx]; exact List.mem_cons_self) (fun x hx => sx_mem (by omega) (by omega) hx) (by rw [sx_length]; exact hl) h1 (h.bR.trR hi hk)⟩, h2.below (fun x hx => h.lor x (by rw [List.mem_singleton.1 hx]; exact List.mem_cons_self)) hBW⟩
    have c2' : w.cell? ⟨gw, 2, none⟩ = some (.slice (some ⟨gs, 0, none⟩) n n) := c2
    have c3' : w.cell? ⟨gw, 3, none⟩ = some (.slice (some ⟨gr, 0, none⟩) n n) := c3
    have xN : ∀ (W : World), Sem.run Tryd.prog (binOp BinOp.neq 23 (.slice (some ⟨gr, 0, none⟩) n n) (.slice none 0 0)) W = .ok (.bool true) W := fun _ => by kernel_rfl
    clear c2 c3
    go_enter Tryd.func34, Tryd.ntmps34
    go_wp2_with (first
      | (go_at_call 60; (with_reducible refine (HR1.out w (Dr.refl _)).mono ?_); rintro _ w1 ⟨rfl, h1, hb1⟩; have H1 := Lib.hid h1; have Hb1 := Lib.hid hb1; have hs1 : B ≤ w1.heap.size := Nat.le_trans hB hb1.size; obtain ⟨a0, a1, a2, a3⟩ := h1.cellsT; have hgw1 := h1.blk.lt; clear h1 hb1)
      | (go_at_call 61; (with_reducible refine (HC1.out w1 _ _ _ _ H1.out hs1).mono ?_); rintro _ w2 ⟨rfl, h2, hb2⟩; have H2 := Lib.hid h2; have Hb2 := Lib.hid hb2; have hs2 : B ≤ w2.heap.size := Nat.le_trans hs1 hb2.size; obtain ⟨b0, b1, b2, b3⟩ := h2.cellsT; have hgw2 := h2.blk.lt; clear h2 hb2)
      | (go_at_call 61; (with_reducible refine (HC2.out w2 _ _ _ _ H2.out hs2).mono ?_); rintro _ w3 ⟨rfl, h3, hb3⟩; have H3 := Lib.hid h3; have Hb3 := Lib.hid hb3; have hs3 : B ≤ w3.heap.size := Nat.le_trans hs2 hb3.size; obtain ⟨d0, d1, d2, d3⟩ := h3.cellsT; have hgw3 := h3.blk.lt; clear h3 hb3)
      | (go_at_call 60; (with_reducible refine (HR2.out w3 _ _ _ H3.out hs3).mono ?_); rintro _ w4 ⟨rfl, h4, hb4⟩; have H4 := Lib.hid h4; have Hb4 := Lib.hid hb4; clear h4 hb4))
    go_end0
    exact ⟨rfl, H4.out, ((Hb1.out.trans Hb2.out).trans Hb3.out).trans Hb4.out⟩
  · have HC2 : Hid (∀ (W : World) bh H S R, Wk W B gw p n false gh gs gr bh bs br H S R → B ≤ W.heap.size → Calls Tryd.prog 61 #[.slice none 0 0, .int .i64 (i : Int), .int .i64 (k : Int)] W fun e w' => e = .returned (.tuple #[]) ∧ WK w' B gw p n false H (fun a b => S a (tr i k b)) (fun a => R (tr i k a)) ∧ Below B W w') := fun W bh H S R h hBW => by
      have e1 : bs = [] := List.eq_nil_of_length_eq_zero h.sl
      subst e1
      refine (swapCols_any none gs n i k 0 0 [] S W (.inl rfl) hi hk rfl (by omega) hn).mono ?_
      rintro _ _ ⟨rfl, h1, h2⟩
      have e2 : br = [] := List.eq_nil_of_length_eq_zero h.rl
      subst e2
      have h3 := h.setS h2 (fun x hx => absurd hx List.not_mem_nil) (.inl rfl) (h.bS.trC hi hk)
      exact ⟨rfl, ⟨_, _, _, _, _, _, h3.blk, h3.h, h3.hl, h3.s, h3.sl, .inl rfl, rfl, h3.low, h3.loh, h3.los, h3.lor, h3.d1, h3.d2, h3.d3, h3.d4, h3.d5, h3.d6, h3.bH, h3.bS, h3.bR.trR hi hk⟩, h2.below (fun x hx => absurd hx List.not_mem_nil) hBW⟩
    have c2' : w.cell? ⟨gw, 2, none⟩ = some (.slice none 0 0) := c2
    have c3' : w.cell? ⟨gw, 3, none⟩ = some (.slice none 0 0) := c3
    have xN : ∀ (W : World), Sem.run Tryd.prog (binOp BinOp.neq 23 (.slice none 0 0) (.slice none 0 0)) W = .ok (.bool false) W := fun _ => by kernel_rfl
    clear c2 c3
    go_enter Tryd.func34, Tryd.ntmps34
    go_wp2_with (first
      | (go_at_call 60; (with_reducible refine (HR1.out w (Dr.refl _)).mono ?_); rintro _ w1 ⟨rfl, h1, hb1⟩; have H1 := Lib.hid h1; have Hb1 := Lib.hid hb1; have hs1 : B ≤ w1.heap.size := Nat.le_trans hB hb1.size; obtain ⟨a0, a1, a2, a3⟩ := h1.cellsF; have hgw1 := h1.blk.lt; clear h1 hb1)
      | (go_at_call 61; (with_reducible refine (HC1.out w1 _ _ _ _ H1.out hs1).mono ?_); rintro _ w2 ⟨rfl, h2, hb2⟩; have H2 := Lib.hid h2; have Hb2 := Lib.hid hb2; have hs2 : B ≤ w2.heap.size := Nat.le_trans hs1 hb2.size; obtain ⟨b0, b1, b2, b3⟩ := h2.cellsF; have hgw2 := h2.blk.lt; clear h2 hb2)
      | (go_at_call 61; (with_reducible refine (HC2.out w2 _ _ _ _ H2.out hs2).mono ?_); rintro _ w3 ⟨rfl, h3, hb3⟩; have H3 := Lib.hid h3; have Hb3 := Lib.hid hb3; obtain ⟨_, _, _, _, _, _, h3⟩ := h3; obtain ⟨d0, d1, d2, d3⟩ := h3.cellsF; have hgw3 := h3.blk.lt; clear h3 hb3))
    go_end0
    exact ⟨rfl, H3.out, (Hb1.out.trans Hb2.out).trans Hb3.out⟩
end Go.Proofs.YtbafiahmcfkboaaDoor
