/- The contracts of hess's addColumn and addRow. Conditions: as each states. The matrix on its way with its transform; the contracts of exchange and shear. Conditions: as each states. The contract of shear. Conditions: as it states. The reduction as a function of entries; the contract of reduce. Conditions: p a prime below 2^32; bases reads 2, 7, 61. A matrix that is being made, row by row; the contract of identity. Conditions: as each states. -/
import Derived.Test.YtbafiahmcfkboaaDoorPkHo17
import Derived.Deep.RegionWith
namespace Go.Proofs.YtbafiahmcfkboaaDoor
section
open Go.RowKit

/-- Entries below p. -/
def Lt (p m n : Nat) (E : Nat → Nat → Nat) : Prop := ∀ a b, a < m → b < n → E a b < p
end
section
open Go.RowKit

def mv (q : Bool) (g n : Nat) : Value := if q then .slice (some ⟨g, 0, none⟩) n n else .slice none 0 0
def bl (q : Bool) (g : Nat) (bs : List Nat) : List Nat := if q then g :: bs else []
def ma (q : Bool) (g : Nat) : Option Addr := if q then some ⟨g, 0, none⟩ else none
/-- H on its way, with the transform S and its inverse R if q; all from block B on. -/
structure Wk (w : World) (B gw p n : Nat) (q : Bool) (gh gs gr : Nat) (bh bs br : List Nat) (H S R : Nat → Nat → Nat) : Prop where
  blk : Blk w gw 59 [.int .u64 (p : Int), .slice (some ⟨gh, 0, none⟩) n n, mv q gs n, mv q gr n]
  h : Mt w gh bh n H
  hl : bh.length = n
  s : Mo w (ma q gs) gs bs n S
  sl : bs.length = if q then n else 0
  r : Mo w (ma q gr) gr br n R
  rl : br.length = if q then n else 0
  low : B ≤ gw
  loh : ∀ x ∈ gh :: bh, B ≤ x
  los : ∀ x ∈ bl q gs bs, B ≤ x
  lor : ∀ x ∈ bl q gr br, B ≤ x
  d1 : gw ∉ gh :: bh
  d2 : gw ∉ bl q gs bs
  d3 : gw ∉ bl q gr br
  d4 : ∀ x ∈ gh :: bh, x ∉ bl q gs bs
  d5 : ∀ x ∈ gh :: bh, x ∉ bl q gr br
  d6 : ∀ x ∈ bl q gs bs, x ∉ bl q gr br
  bH : Lt p n n H
  bS : Lt p n n S
  bR : Lt p n n R
def WK (w : World) (B gw p n : Nat) (q : Bool) (H S R : Nat → Nat → Nat) : Prop := ∃ gh gs gr bh bs br, Wk w B gw p n q gh gs gr bh bs br H S R

section
variable {w w' : World} {B gw p n gh gs gr : Nat} {q : Bool} {bh bs br : List Nat} {H S R : Nat → Nat → Nat}
theorem Wk.drewN (h : Wk w B gw p n q gh gs gr bh bs br H S R) (m : Nat) : Wk (w.drewN m) B gw p n q gh gs gr bh bs br H S R :=
  ⟨h.blk, h.h.drewN m, h.hl, h.s.md (Md.refl [] w |>.drewN m) fun _ _ _ e => List.not_mem_nil e, h.sl, h.r.md (Md.refl [] w |>.drewN m) fun _ _ _ e => List.not_mem_nil e, h.rl, h.low, h.loh, h.los, h.lor, h.d1, h.d2, h.d3, h.d4, h.d5, h.d6, h.bH, h.bS, h.bR⟩
theorem Wk.below (h : Wk w B gw p n q gh gs gr bh bs br H S R) (hb : Below w.heap.size w w') : Wk w' B gw p n q gh gs gr bh bs br H S R :=
  ⟨h.blk.below hb h.blk.lt, h.h.below hb, h.hl, h.s.md (Md.of_below (L := []) hb) fun _ _ _ e => List.not_mem_nil e, h.sl, h.r.md (Md.of_below (L := []) hb) fun _ _ _ e => List.not_mem_nil e, h.rl, h.low, h.loh, h.los, h.lor, h.d1, h.d2, h.d3, h.d4, h.d5, h.d6, h.bH, h.bS, h.bR⟩
/-- The four cells. -/
theorem Wk.cells (h : Wk w B gw p n q gh gs gr bh bs br H S R) : w.cell? ⟨gw, 0, none⟩ = some (.int .u64 (p : Int)) ∧ w.cell? ⟨gw, 1, none⟩ = some (.slice (some ⟨gh, 0, none⟩) n n) ∧ w.cell? ⟨gw, 2, none⟩ = some (mv q gs n) ∧ w.cell? ⟨gw, 3, none⟩ = some (mv q gr n) :=
  ⟨h.blk.cell 0, h.blk.cell 1, h.blk.cell 2, h.blk.cell 3⟩
end
end
section
open Go.RowKit

theorem WK.dr {w w' : World} {B gw p n : Nat} {q : Bool} {H S R : Nat → Nat → Nat} (h : WK w B gw p n q H S R) (hd : Dr w w') : WK w' B gw p n q H S R := by
  obtain ⟨_, _, _, _, _, _, h⟩ := h
  obtain ⟨m, rfl⟩ := hd
  exact ⟨_, _, _, _, _, _, h.drewN m⟩
theorem Wk.dr {w w' : World} {B gw p n gh gs gr : Nat} {q : Bool} {bh bs br : List Nat} {H S R : Nat → Nat → Nat} (h : Wk w B gw p n q gh gs gr bh bs br H S R) (hd : Dr w w') : Wk w' B gw p n q gh gs gr bh bs br H S R := by
  obtain ⟨m, rfl⟩ := hd
  exact h.drewN m
end
section
open Go.RowKit

abbrev Mf := Nat → Nat → Nat
structure St where
  h : Mf
  s : Mf
  r : Mf
def WS (w : World) (B gw p n : Nat) (q : Bool) (x : St) : Prop := WK w B gw p n q x.h x.s x.r
theorem WS.lt {w : World} {B gw p n : Nat} {q : Bool} {x : St} (h : WS w B gw p n q x) : B ≤ gw ∧ gw < w.heap.size ∧ Lt p n n x.h := by
  obtain ⟨_, _, _, _, _, _, h⟩ := h
  exact ⟨h.low, h.blk.lt, h.bH⟩
/-- What is read of H. -/
theorem WS.at_ {w : World} {B gw p n : Nat} {q : Bool} {x : St} (h : WS w B gw p n q x) : ∃ gh, gh < w.heap.size ∧ w.cell? ⟨gw, 1, none⟩ = some (.slice (some ⟨gh, 0, none⟩) n n) ∧ ∀ i, i < n → ∃ b, b < w.heap.size ∧ w.cell? ⟨gh, i, none⟩ = some (.slice (some ⟨b, 0, none⟩) n n) ∧ ∀ k, k < n → w.cell? ⟨b, k, none⟩ = some (.int .u32 (x.h i k : Int)) := by
  obtain ⟨gh, gs, gr, bh, bs, br, h⟩ := h
  refine ⟨gh, h.h.top.lt, h.cells.2.1, fun i hi => ?_⟩
  have hi2 : i < bh.length := by rw [h.hl]; exact hi
  exact ⟨bh[i], h.h.lt _ (.inr (List.getElem_mem hi2)), (h.h.head hi2).1, fun k hk => (h.h.cell hi2 hk).1⟩
theorem WS.dr {w w' : World} {B gw p n : Nat} {q : Bool} {x : St} (h : WS w B gw p n q x) (hd : Dr w w') : WS w' B gw p n q x := WK.dr h hd
end
section
open Go.RowKit

/-- The first rows of a matrix of N rows are made. -/
structure Mp (w : World) (g : Nat) (bs : List Nat) (n N : Nat) (E : Nat → Nat → Nat) : Prop where
  top : Blk w g 29 (hdN bs n ++ List.replicate (N - bs.length) (.slice none 0 0))
  row : ∀ i (h : i < bs.length), Blk w bs[i] 24 (rowN n (E i))
  nd : bs.Nodup
  ng : g ∉ bs
  le : bs.length ≤ N
section
variable {w w' : World} {g n N : Nat} {bs : List Nat} {E : Nat → Nat → Nat}
theorem Mp.lt (h : Mp w g bs n N E) : ∀ k, k = g ∨ k ∈ bs → k < w.heap.size := fun k hk => by
  rcases hk with rfl | hk
  · exact h.top.lt
  · obtain ⟨i, hi, rfl⟩ := List.mem_iff_getElem.1 hk
    exact (h.row i hi).lt
theorem Mp.keep (h : Mp w g bs n N E) (hk : ∀ k, k = g ∨ k ∈ bs → w'.heap[k]? = w.heap[k]?) : Mp w' g bs n N E :=
  ⟨(hk g (.inl rfl)).trans h.top, fun i hi => (hk _ (.inr (List.getElem_mem hi))).trans (h.row i hi), h.nd, h.ng, h.le⟩
theorem Mp.below (h : Mp w g bs n N E) (hb : Below w.heap.size w w') : Mp w' g bs n N E := h.keep fun k hk => hb.block k (h.lt k hk)
theorem Mp.drewN (h : Mp w g bs n N E) (m : Nat) : Mp (w.drewN m) g bs n N E := ⟨h.top, h.row, h.nd, h.ng, h.le⟩
theorem Mp.dr (h : Mp w g bs n N E) (hd : Dr w w') : Mp w' g bs n N E := by
  obtain ⟨m, rfl⟩ := hd
  exact h.drewN m
theorem Mp.congr {F : Nat → Nat → Nat} (h : Mp w g bs n N E) (he : ∀ i k, i < bs.length → k < n → E i k = F i k) : Mp w g bs n N F :=
  ⟨h.top, fun i hi => by rw [← rowN_congr fun k hk => he i k hi hk]; exact h.row i hi, h.nd, h.ng, h.le⟩
theorem Mp.head (h : Mp w g bs n N E) {i : Nat} (hi : i < bs.length) : w.cell? ⟨g, i, none⟩ = some (.slice (some ⟨bs[i], 0, none⟩) n n) ∧ w.frozen? ⟨g, i, none⟩ = false := by
  refine ⟨?_, h.top.frozen i⟩
  rw [h.top.cell, List.getElem?_append_left (by simpa [hdN] using hi), hdN_at hi]
theorem Mp.next (h : Mp w g bs n N E) (hl : bs.length < N) : w.cell? ⟨g, bs.length, none⟩ = some (.slice none 0 0) ∧ w.frozen? ⟨g, bs.length, none⟩ = false := by
  refine ⟨?_, h.top.frozen _⟩
  have e : bs.length - (hdN bs n).length = 0 := by simp [hdN]
  rw [h.top.cell, List.getElem?_append_right (by simp [hdN]), e, List.getElem?_replicate, if_pos (by omega)]
theorem Mp.cell (h : Mp w g bs n N E) {i k : Nat} (hi : i < bs.length) (hk : k < n) : w.cell? ⟨bs[i], k, none⟩ = some (.int .u32 (E i k : Int)) ∧ w.frozen? ⟨bs[i], k, none⟩ = false := ⟨by rw [(h.row i hi).cell, rowN_at _ hk], (h.row i hi).frozen k⟩
theorem Mp.put (h : Mp w g bs n N E) {i k : Nat} (hi : i < bs.length) (x : Nat) : Mp (w.setCell ⟨bs[i], k, none⟩ (.int .u32 (x : Int))) g bs n N fun a b => if a = i ∧ b = k then x else E a b := by
  refine ⟨h.top.far (fun e => h.ng (e ▸ List.getElem_mem hi)) _, fun j hj => ?_, h.nd, h.ng, h.le⟩
  by_cases e : j = i
  · subst e
    have := (h.row j hj).set_ k (.int .u32 (x : Int))
    rw [rowN_set] at this
    rw [rowN_congr (g := fun b => if b = k then x else E j b) fun b _ => by simp]
    exact this
  · rw [rowN_congr (g := E j) fun b _ => by rw [if_neg fun e2 => e e2.1]]
    exact (h.row j hj).far (fun e2 => e ((List.getElem_inj h.nd).1 e2)) _
/-- A new row in block b. -/
theorem Mp.push (h : Mp w g bs n N E) {b : Nat} (hl : bs.length < N) (hb : Blk w b 24 (rowN n fun _ => 0)) (hg : b ≠ g) (hn : b ∉ bs) : Mp (w.setCell ⟨g, bs.length, none⟩ (.slice (some ⟨b, 0, none⟩) n n)) g (bs ++ [b]) n N fun i k => if i < bs.length then E i k else 0 := by
  have hlen : (bs ++ [b]).length = bs.length + 1 := by simp
  refine ⟨?_, fun i hi => ?_, ?_, ?_, by omega⟩
  · have := h.top.set_ bs.length (.slice (some ⟨b, 0, none⟩) n n)
    rw [List.set_append_right _ _ (by simp [hdN])] at this
    have e : bs.length - (hdN bs n).length = 0 := by simp [hdN]
    rw [e] at this
    obtain ⟨m, hm⟩ : ∃ m, N - bs.length = m + 1 := ⟨N - bs.length - 1, by omega⟩
    rw [hm, List.replicate_succ, List.set_cons_zero] at this
    rw [hlen, show N - (bs.length + 1) = m by omega]
    have e2 : hdN (bs ++ [b]) n = hdN bs n ++ [.slice (some ⟨b, 0, none⟩) n n] := by simp [hdN]
    rw [e2, List.append_assoc]; exact this
  · by_cases hi2 : i < bs.length
    · rw [List.getElem_append_left hi2, rowN_congr (g := E i) fun k _ => if_pos hi2]
      exact (h.row i hi2).far (p := ⟨g, bs.length, none⟩) (fun e => h.ng ((show bs[i] = g from e) ▸ List.getElem_mem hi2)) _
    · obtain rfl : i = bs.length := by omega
      rw [List.getElem_append_right (Nat.le_refl _), rowN_congr (g := fun _ => 0) fun k _ => if_neg (Nat.lt_irrefl _)]
      simp only [Nat.sub_self, List.getElem_cons_zero]
      exact hb.far (p := ⟨g, bs.length, none⟩) hg _
  · rw [List.nodup_append]
    exact ⟨h.nd, by simp, fun x hx y hy e => hn (by rw [List.mem_singleton.1 hy] at e; exact e ▸ hx)⟩
  · rw [List.mem_append, List.mem_singleton]
    rintro (h1 | h1)
    · exact h.ng h1
    · exact hg h1.symm
theorem Mp.done (h : Mp w g bs n N E) (hl : bs.length = N) : Mt w g bs n E := ⟨by have := h.top; rw [hl, Nat.sub_self] at this; simpa using this, h.row, h.nd, h.ng⟩
theorem Mp.start (w : World) (n N : Nat) (E : Nat → Nat → Nat) : Mp (w.alloc (.cells (Array.replicate N (Value.slice none 0 0)) 29)) w.heap.size [] n N E :=
  ⟨by rw [show N - ([] : List Nat).length = N from rfl]; exact Blk.new_ (by simp [hdN]), fun i h => absurd h (Nat.not_lt_zero _), List.nodup_nil, List.not_mem_nil, Nat.zero_le _⟩
theorem rowN_zero (n : Nat) : (List.replicate n (Value.int .u32 0)) = rowN n fun _ => 0 := by
  unfold rowN u32s
  rw [List.map_map]
  apply List.ext_getElem?
  intro i
  by_cases hi : i < n <;> simp [hi]
end

def idN : Mf := fun i k => if i = k then 1 else 0
end
end Go.Proofs.YtbafiahmcfkboaaDoor
