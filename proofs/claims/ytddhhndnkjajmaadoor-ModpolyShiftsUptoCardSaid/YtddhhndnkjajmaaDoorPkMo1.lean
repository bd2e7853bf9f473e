/- Values and roots of polynomials modulo a prime. Conditions: p a prime. Matrices in memory: rows that are read, rows of one's own. No conditions. Words for the calls of modpoly; the contracts of trim and normal. Conditions: as each states. The contracts of normal, times, negative. Conditions: p above 0 and below 2^32. -/
import Derived.Test.YtddhhndnkjajmaaDoorPkMo0
import Derived.Test.YtddhhndnkjajmaaDoorRows
import Derived.Laws.CopyOwn
import Derived.OwnWalk
import Derived.OneCell
import Derived.Deep.CutBlock
import Derived.RegionTactic
import Derived.WalkMore
namespace Go.Proofs.YtddhhndnkjajmaaDoor
section
/-- A value, modulo p. -/
theorem Cg.val {p : Nat} {a b : Z} (h : Cg p a b) (x : Int) : (p : Int) ∣ a.v x - b.v x := by
  obtain ⟨c, hc⟩ := h
  exact ⟨c.v x, by rw [hc x]; omega⟩
theorem ev_root (a : List Int) (r : Int) : ∃ q : List Int, ∀ x, ev a x = (x - r) * ev q x + ev a r := by
  induction a with
  | nil => exact ⟨[], fun x => by simp [ev]⟩
  | cons c a ih =>
    obtain ⟨q, hq⟩ := ih
    refine ⟨addI (0 :: q) [ev a r], fun x => ?_⟩
    simp only [ev_addI, ev]
    rw [hq x]
    grind
theorem Z.root (a : Z) (r : Int) : ∃ q : Z, ∀ x, a.v x = (x - r) * q.v x + a.v r := by
  obtain ⟨q, hq⟩ := ev_root a.l r
  exact ⟨⟨q⟩, hq⟩
theorem Nf.len_le {p : Nat} (hp : 0 < p) {r : List Nat} {z : Z} {n : Nat} (hr : Nf p r) (h : Cg p (zo r) z) (hz : ∀ i, n ≤ i → (p : Int) ∣ z.co i) : r.length ≤ n := by
  rcases Nat.lt_or_ge n r.length with h1 | h1
  · exfalso
    have h2 := h.co (r.length - 1)
    rw [zo_co] at h2
    have h3 := hz (r.length - 1) (by omega)
    refine hr.top hp (by rintro rfl; simp at h1) ?_
    have := Int.dvd_add h2 h3
    rwa [Int.sub_add_cancel] at this
  · exact h1
theorem zo_far {a : List Nat} {i : Nat} (h : a.length ≤ i) : (zo a).co i = 0 := by rw [zo_co, getD_nat h]; rfl
end
section
open Go.RowKit

/-- Among the blocks that are there, block g alone has turned; new ones may lie behind. -/
structure Tn (g : Nat) (w w' : World) : Prop where
  os : w'.os = w.os
  tape : w'.tape = w.tape
  output : w'.output = w.output
  size : w.heap.size ≤ w'.heap.size
  block : ∀ k, k < w.heap.size → k ≠ g → w'.heap[k]? = w.heap[k]?
theorem Tn.refl (g : Nat) (w : World) : Tn g w w := ⟨rfl, rfl, rfl, Nat.le_refl _, fun _ _ _ => rfl⟩
theorem Tn.trans {g : Nat} {a b c : World} (h : Tn g a b) (k : Tn g b c) : Tn g a c :=
  ⟨k.os.trans h.os, k.tape.trans h.tape, k.output.trans h.output, Nat.le_trans h.size k.size, fun i hi hg => (k.block i (Nat.lt_of_lt_of_le hi h.size) hg).trans (h.block i hi hg)⟩
theorem Tn.of_ch {g : Nat} {w w' : World} (h : Ch g w w') : Tn g w w' := ⟨h.os, h.tape, h.output, Nat.le_of_eq h.size.symm, fun k _ hg => h.block k hg⟩
theorem Tn.drewN {g : Nat} {a w : World} (h : Tn g a w) (n : Nat) : Tn g a (w.drewN n) := ⟨h.os, h.tape, h.output, h.size, h.block⟩
theorem Tn.drew {g : Nat} {a w : World} (h : Tn g a w) : Tn g a w.drew := ⟨h.os, h.tape, h.output, h.size, h.block⟩
theorem Tn.setCell {g : Nat} {a w : World} (h : Tn g a w) (i : Nat) (u : Value) : Tn g a (w.setCell ⟨g, i, none⟩ u) :=
  h.trans ⟨rfl, rfl, rfl, by simp [World.setCell], fun k _ hk => Below.heap_setCell _ _ _ _ hk⟩
theorem Tn.below {g B : Nat} {w w' : World} (h : Tn g w w') (hB : B ≤ g) (hs : B ≤ w.heap.size) : Below B w w' := ⟨h.os, h.tape, h.output, h.size, fun k hk => h.block k (by omega) (by omega)⟩
theorem Tn.cell {g : Nat} {w w' : World} (h : Tn g w w') {p : Addr} (hp : p.block < w.heap.size) (hne : p.block ≠ g) : w'.cell? p = w.cell? p := World.cell?_of_block (h.block p.block hp hne)
theorem Blk.tn {w w' : World} {g h : Nat} {t : TypeId} {vs : List Value} (hb : Blk w g t vs) (hc : Tn h w w') (hne : g ≠ h) : Blk w' g t vs := (hc.block g hb.lt hne).trans hb
/-- What a call hands back: a slice at the head of a row of its own, from block B on, whose first cells are vs. -/
def Res (w : World) (B : Nat) (t : TypeId) (A : Option Addr) (c : Nat) (vs : List Value) : Prop :=
  vs.length ≤ c ∧ vs.length ≤ 281474976710656 ∧ (vs ≠ [] → ∃ g rest, A = some ⟨g, 0, none⟩ ∧ B ≤ g ∧ Blk w g t (vs ++ rest) ∧ vs.length + rest.length = c)

section
variable {w w' : World} {B B' : Nat} {t : TypeId} {A : Option Addr} {c : Nat} {vs : List Value}
theorem Res.rd (h : Res w B t A c vs) : Rd w w.heap.size A vs := fun hn => by
  obtain ⟨g, rest, rfl, _, hb, _⟩ := h.2.2 hn
  exact Rd.of_blk hb hb.lt 0 (fun k v hv => by
    rw [Nat.zero_add, List.getElem?_append_left (List.getElem?_eq_some_iff.1 hv).1]; exact hv) hn
theorem Res.none_ : Res w B t none 0 [] := ⟨by simp, by simp, fun h => absurd rfl h⟩
theorem Res.below (h : Res w B t A c vs) (hb : Below B' w w') (hB : w.heap.size ≤ B') : Res w' B t A c vs := ⟨h.1, h.2.1, fun hn => by
  obtain ⟨g, rest, e, hg, hk, hc⟩ := h.2.2 hn
  exact ⟨g, rest, e, hg, hk.below hb (by have := hk.lt; omega), hc⟩⟩
theorem Res.keepBut (h : Res w B t A c vs) {g : Nat} (hc : Tn g w w') (hne : vs ≠ [] → A ≠ some ⟨g, 0, none⟩) : Res w' B t A c vs := ⟨h.1, h.2.1, fun hn => by
  obtain ⟨k, rest, e, hg, hk, hcc⟩ := h.2.2 hn
  exact ⟨k, rest, e, hg, hk.tn hc (fun e2 => hne hn (by rw [e, e2])), hcc⟩⟩
theorem Res.mono (h : Res w B t A c vs) (hB : B' ≤ B) : Res w B' t A c vs := ⟨h.1, h.2.1, fun hn => by
  obtain ⟨g, rest, e, hg, hk, hc⟩ := h.2.2 hn
  exact ⟨g, rest, e, by omega, hk, hc⟩⟩
theorem Res.take (h : Res w B t A c vs) (n : Nat) : Res w B t A c (vs.take n) := ⟨by rw [List.length_take]; have := h.1; omega, by rw [List.length_take]; have := h.2.1; omega, fun hn => by
  obtain ⟨g, rest, e, hg, hk, hc⟩ := h.2.2 (by rintro rfl; simp at hn)
  exact ⟨g, vs.drop n ++ rest, e, hg, by rw [← List.append_assoc, List.take_append_drop]; exact hk, by rw [List.length_append, List.length_take, List.length_drop]; omega⟩⟩
theorem Res.of_blk {g : Nat} {rest : List Value} (h : Blk w g t (vs ++ rest)) (hg : B ≤ g) (hc : vs.length + rest.length = c) (hm : vs.length ≤ 281474976710656) : Res w B t (some ⟨g, 0, none⟩) c vs :=
  ⟨by omega, hm, fun _ => ⟨g, rest, rfl, hg, h, hc⟩⟩
theorem Res.of_blk0 {g : Nat} (h : Blk w g t vs) (hg : B ≤ g) (hm : vs.length ≤ 281474976710656) : Res w B t (some ⟨g, 0, none⟩) vs.length vs :=
  Res.of_blk (rest := []) (by simpa using h) hg (by simp) hm
end

/-- The blocks from V on, below U, are as they were. -/
def Mid (V U : Nat) (w w' : World) : Prop := ∀ k, V ≤ k → k < U → w'.heap[k]? = w.heap[k]?
theorem Mid.refl (V U : Nat) (w : World) : Mid V U w w := fun _ _ _ => rfl
theorem Mid.tn {V U k : Nat} {a w w' : World} (h : Mid V U a w) (ht : Tn k w w') (hk : k < V) (hU : U ≤ w.heap.size) : Mid V U a w' := fun i h1 h2 => (ht.block i (by omega) (by omega)).trans (h i h1 h2)
theorem Mid.below {V U B : Nat} {a w w' : World} (h : Mid V U a w) (hb : Below B w w') (hU : U ≤ B) : Mid V U a w' := fun i h1 h2 => (hb.block i (by omega)).trans (h i h1 h2)
theorem Blk.mid {V U : Nat} {w w' : World} {g : Nat} {t : TypeId} {vs : List Value} (hb : Blk w g t vs) (h : Mid V U w w') (h1 : V ≤ g) (h2 : g < U) : Blk w' g t vs := (h g h1 h2).trans hb
theorem u32s_ne {xs : List Nat} {k : Nat} (h : k < xs.length) : u32s xs ≠ [] := by intro e; have := u32s_length xs; rw [e] at this; simp at this; omega
theorem u32s_nil_iff {xs : List Nat} : u32s xs = [] ↔ xs = [] := by simp [u32s]
theorem u32s_set (xs : List Nat) (i x : Nat) : (u32s xs).set i (Value.int .u32 (x : Int)) = u32s (xs.set i x) := by simp [u32s, List.map_set]
theorem u32s_append (xs ys : List Nat) : u32s (xs ++ ys) = u32s xs ++ u32s ys := by simp [u32s]
theorem u32s_snoc (xs : List Nat) (x : Nat) : u32s (xs ++ [x]) = u32s xs ++ [Value.int .u32 (x : Int)] := by simp [u32s]
theorem Rd.at32 {w : World} {B : Nat} {A : Option Addr} {xs : List Nat} (h : Rd w B A (u32s xs)) {k : Nat} (hk : k < xs.length) : ∃ b off, A = some ⟨b, off, none⟩ ∧ b < B ∧ w.cell? ⟨b, off + k, none⟩ = some (.int .u32 (xs[k] : Nat)) := by
  obtain ⟨b, off, e, hb, hc⟩ := h (u32s_ne hk)
  exact ⟨b, off, e, hb, hc k _ (u32s_at hk)⟩

/-- How many columns. -/
def cols : List (List Nat) → Nat
  | [] => 0
  | r :: _ => r.length
/-- Every row is as long as the first. -/
def Rect (M : List (List Nat)) : Prop := ∀ r ∈ M, r.length = cols M
theorem Rect.at_ {M : List (List Nat)} (h : Rect M) (i : Nat) (hi : i < M.length) : M[i].length = cols M := h _ (List.getElem_mem hi)
def DigM (b : Nat) (M : List (List Nat)) : Prop := ∀ r ∈ M, ∀ x ∈ r, x < b
theorem DigM.at_ {b : Nat} {M : List (List Nat)} (h : DigM b M) {i k : Nat} (hi : i < M.length) (hk : k < M[i].length) : M[i][k] < b := h _ (List.getElem_mem hi) _ (List.getElem_mem hk)
/-- A slice of rows reads as these, all of it below block B; rows no longer than any slice can be. -/
def RdM (w : World) (B : Nat) (A : Option Addr) (M : List (List Nat)) : Prop :=
  M ≠ [] → ∃ b off, A = some ⟨b, off, none⟩ ∧ b < B ∧ ∀ i (h : i < M.length), ∃ Ai ci, w.cell? ⟨b, off + i, none⟩ = some (.slice Ai M[i].length ci) ∧ M[i].length ≤ ci ∧ M[i].length ≤ 281474976710656 ∧ Rd w B Ai (u32s M[i])
section
variable {w w' : World} {B B' : Nat} {A : Option Addr} {M : List (List Nat)}
theorem RdM.nil_ : RdM w B A [] := fun h => absurd rfl h
theorem RdM.mono (h : RdM w B A M) (hB : B ≤ B') : RdM w B' A M := fun hn => by
  obtain ⟨b, off, e, hb, hc⟩ := h hn
  exact ⟨b, off, e, by omega, fun i hi => by obtain ⟨Ai, ci, a1, a2, a3, a4⟩ := hc i hi; exact ⟨Ai, ci, a1, a2, a3, a4.mono hB⟩⟩
theorem RdM.keep (h : RdM w B A M) (hk : ∀ p : Addr, p.block < B → w'.cell? p = w.cell? p) : RdM w' B A M := fun hn => by
  obtain ⟨b, off, e, hb, hc⟩ := h hn
  exact ⟨b, off, e, hb, fun i hi => by obtain ⟨Ai, ci, a1, a2, a3, a4⟩ := hc i hi; exact ⟨Ai, ci, (hk _ hb).trans a1, a2, a3, a4.keep hk⟩⟩
theorem RdM.below (h : RdM w B A M) (hb : Below B w w') : RdM w' B A M := h.keep fun _ hp => hb.cell hp
theorem RdM.dr (h : RdM w B A M) (k : Dr w w') : RdM w' B A M := h.below (k.below B)
theorem RdM.at_ (h : RdM w B A M) {i : Nat} (hi : i < M.length) : ∃ b off Ai ci, A = some ⟨b, off, none⟩ ∧ b < B ∧ w.cell? ⟨b, off + i, none⟩ = some (.slice Ai M[i].length ci) ∧ M[i].length ≤ ci ∧ M[i].length ≤ 281474976710656 ∧ Rd w B Ai (u32s M[i]) := by
  obtain ⟨b, off, e, hb, hc⟩ := h (by rintro rfl; simp at hi)
  obtain ⟨Ai, ci, a1, a2, a3, a4⟩ := hc i hi
  exact ⟨b, off, Ai, ci, e, hb, a1, a2, a3, a4⟩
end

/-- The headers of rows. -/
def hdrs (hs : List (Option Addr × Nat)) (M : List (List Nat)) : List Value := List.zipWith (fun h r => Value.slice h.1 r.length h.2) hs M
theorem hdrs_length {hs : List (Option Addr × Nat)} {M : List (List Nat)} (h : hs.length = M.length) : (hdrs hs M).length = M.length := by simp [hdrs, h]
theorem hdrs_at {hs : List (Option Addr × Nat)} {M : List (List Nat)} {i : Nat} (h1 : i < hs.length) (h2 : i < M.length) : (hdrs hs M)[i]? = some (.slice hs[i].1 M[i].length hs[i].2) := by
  simp [hdrs, List.getElem?_zipWith, List.getElem?_eq_getElem h1, List.getElem?_eq_getElem h2]
theorem hdrs_set (hs : List (Option Addr × Nat)) (M : List (List Nat)) (i : Nat) (h : Option Addr × Nat) (r : List Nat) :
    (hdrs hs M).set i (.slice h.1 r.length h.2) = hdrs (hs.set i h) (M.set i r) := by
  apply List.ext_getElem?
  intro k
  simp only [hdrs, List.getElem?_set, List.getElem?_zipWith, List.length_zipWith]
  by_cases hk : i = k
  · subst hk
    simp only [if_true]
    by_cases h1 : i < hs.length
    · by_cases h2 : i < M.length
      · simp [h1, h2, Nat.lt_min]
      · simp [h1, h2]; omega
    · simp [h1]; omega
  · simp [hk]
/-- All rows lie below block U. -/
def UB (U : Nat) (hs : List (Option Addr × Nat)) : Prop := ∀ h ∈ hs, (∀ a, h.1 = some a → a.block < U) ∧ h.2 ≤ maxLen
theorem UB.mono {U U' : Nat} {hs : List (Option Addr × Nat)} (h : UB U hs) (hU : U ≤ U') : UB U' hs := fun x hx => ⟨fun a ha => Nat.lt_of_lt_of_le ((h x hx).1 a ha) hU, (h x hx).2⟩
theorem UB.none_ (r U : Nat) : UB U (List.replicate r (none, 0)) := fun x hx => by
  rw [(List.mem_replicate.1 hx).2]; exact ⟨(fun a ha => by cases ha), Nat.zero_le _⟩
theorem UB.set_ {U : Nat} {hs : List (Option Addr × Nat)} (h : UB U hs) (i : Nat) {b : Nat} (o : Nat) (hb : b < U) {c : Nat} (hc : c ≤ maxLen) : UB U (hs.set i (some ⟨b, o, none⟩, c)) := fun x hx => by
  rcases List.mem_or_eq_of_mem_set hx with hx | rfl
  · exact h x hx
  · refine ⟨fun a ha => ?_, hc⟩
    obtain rfl : (⟨b, o, none⟩ : Addr) = a := by simpa using ha
    exact hb
theorem UB.at_ {U : Nat} {hs : List (Option Addr × Nat)} (h : UB U hs) {i : Nat} (hi : i < hs.length) {b o : Nat} (e : hs[i].1 = some ⟨b, o, none⟩) : b < U := (h _ (List.getElem_mem hi)).1 _ e
theorem UB.cap {U : Nat} {hs : List (Option Addr × Nat)} (h : UB U hs) {i : Nat} (hi : i < hs.length) : hs[i].2 ≤ maxLen := (h _ (List.getElem_mem hi)).2

/-- A matrix in memory of one's own, from block B on: block g holds the headers, each row that is not empty lies alone in a block. -/
structure Own (w : World) (B g : Nat) (hs : List (Option Addr × Nat)) (M : List (List Nat)) : Prop where
  len : hs.length = M.length
  top : ∃ rest, Blk w g 22 (hdrs hs M ++ rest)
  lo : B ≤ g
  row : ∀ i (h : i < M.length), Res w B 24 (hs[i]'(len ▸ h)).1 (hs[i]'(len ▸ h)).2 (u32s M[i])
  ne : ∀ i (h : i < M.length), M[i] ≠ [] → (hs[i]'(len ▸ h)).1 ≠ some ⟨g, 0, none⟩
  nd : ∀ i j (hi : i < M.length) (hj : j < M.length), i ≠ j → M[i] ≠ [] → M[j] ≠ [] → (hs[i]'(len ▸ hi)).1 ≠ (hs[j]'(len ▸ hj)).1

section
variable {w w' : World} {B B' g : Nat} {hs : List (Option Addr × Nat)} {M : List (List Nat)}
theorem Own.lt (h : Own w B g hs M) : g < w.heap.size := by obtain ⟨rest, hb⟩ := h.top; exact hb.lt
theorem Own.below (h : Own w B g hs M) (hb : Below B' w w') (hB : w.heap.size ≤ B') : Own w' B g hs M :=
  ⟨h.len, by obtain ⟨rest, ht⟩ := h.top; exact ⟨rest, ht.below hb (by have := ht.lt; omega)⟩, h.lo, fun i hi => (h.row i hi).below hb hB, h.ne, h.nd⟩
theorem Own.dr (h : Own w B g hs M) (hd : Dr w w') : Own w' B g hs M := h.below (hd.below w.heap.size) (Nat.le_refl _)
theorem Own.drew (h : Own w B g hs M) : Own w.drew B g hs M := h.dr (Dr.refl w).drew
theorem Own.drewN (h : Own w B g hs M) (n : Nat) : Own (w.drewN n) B g hs M := h.dr ((Dr.refl w).step n)
theorem Own.mono (h : Own w B g hs M) (hB : B' ≤ B) : Own w B' g hs M :=
  ⟨h.len, h.top, Nat.le_trans hB h.lo, fun i hi => (h.row i hi).mono hB, h.ne, h.nd⟩
theorem Own.head (h : Own w B g hs M) {i : Nat} (hi : i < M.length) : w.cell? ⟨g, i, none⟩ = some (.slice (hs[i]'(h.len ▸ hi)).1 M[i].length (hs[i]'(h.len ▸ hi)).2) ∧ w.frozen? ⟨g, i, none⟩ = false := by
  obtain ⟨rest, ht⟩ := h.top
  refine ⟨?_, ht.frozen i⟩
  rw [ht.cell, List.getElem?_append_left (by rw [hdrs_length h.len]; exact hi), hdrs_at (h.len ▸ hi) hi]
theorem Own.rd (h : Own w B g hs M) : RdM w w.heap.size (some ⟨g, 0, none⟩) M := fun _ =>
  ⟨g, 0, rfl, h.lt, fun i hi => ⟨_, _, by rw [Nat.zero_add]; exact (h.head hi).1, by have := (h.row i hi).1; rw [u32s_length] at this; exact this, (by have := (h.row i hi).2.1; rw [u32s_length] at this; exact this), (h.row i hi).rd⟩⟩
theorem Own.at_ (h : Own w B g hs M) {i k : Nat} (hi : i < M.length) (hk : k < M[i].length) :
    ∃ gi rest, (hs[i]'(h.len ▸ hi)).1 = some ⟨gi, 0, none⟩ ∧ gi ≠ g ∧ B ≤ gi ∧ Blk w gi 24 (u32s M[i] ++ rest) ∧ M[i].length + rest.length = (hs[i]'(h.len ▸ hi)).2 := by
  obtain ⟨gi, rest, e, hB, hb, hc⟩ := (h.row i hi).2.2 (u32s_ne hk)
  refine ⟨gi, rest, e, fun e2 => ?_, hB, hb, by rw [u32s_length] at hc; exact hc⟩
  refine h.ne i hi (fun e3 => by rw [e3] at hk; simp at hk) ?_
  rw [e, e2]
/-- Row i's block alone has turned. -/
theorem Own.setRow (h : Own w B g hs M) {i gi : Nat} (hi : i < M.length) {r : List Nat} {rest : List Value} (e : (hs[i]'(h.len ▸ hi)).1 = some ⟨gi, 0, none⟩) (hc : Tn gi w w') (hb : Blk w' gi 24 (u32s r ++ rest)) (hr : r.length = M[i].length) (hg : gi ≠ g) (hB : B ≤ gi) (hcap : M[i].length + rest.length = (hs[i]'(h.len ▸ hi)).2) (hn : M[i] ≠ []) : Own w' B g hs (M.set i r) := by
  have hlen : hs.length = (M.set i r).length := by rw [List.length_set]; exact h.len
  have hnil : ∀ j (hj : j < (M.set i r).length), (M.set i r)[j] ≠ [] → M[j]'(by simpa using hj) ≠ [] := fun j hj hne => by
    rw [List.getElem_set] at hne
    split at hne
    · rename_i e; subst e; exact hn
    · exact hne
  refine ⟨hlen, ?_, h.lo, fun j hj => ?_, fun j hj hne => h.ne j (by simpa using hj) (hnil j hj hne), fun j k hj hk hjk h1 h2 => h.nd j k (by simpa using hj) (by simpa using hk) hjk (hnil j hj h1) (hnil k hk h2)⟩
  · obtain ⟨rest2, ht⟩ := h.top
    refine ⟨rest2, ?_⟩
    have e1 : hdrs hs (M.set i r) = hdrs hs M := by
      have := hdrs_set hs M i (hs[i]'(h.len ▸ hi)) r
      rw [List.set_getElem_self] at this
      rw [← this, hr]
      have h3 := hdrs_at (hs := hs) (M := M) (h.len ▸ hi) hi
      obtain ⟨h4, h5⟩ := List.getElem?_eq_some_iff.1 h3
      rw [← h5, List.set_getElem_self]
    rw [e1]
    exact ht.tn hc hg.symm
  · have hj' : j < M.length := by simpa using hj
    by_cases hij : i = j
    · subst hij
      simp only [List.getElem_set_self]
      refine ⟨by rw [u32s_length, hr]; omega, by have := (h.row i hi).2.1; rw [u32s_length] at this; rw [u32s_length, hr]; exact this, fun _ => ⟨gi, rest, e, hB, hb, by rw [u32s_length, hr]; exact hcap⟩⟩
    · rw [List.getElem_set_ne hij]
      refine (h.row j hj').keepBut hc fun hne e2 => ?_
      refine h.nd i j hi hj' hij hn (fun e3 => hne (by rw [e3]; rfl)) ?_
      rw [e, e2]
end
end
section
open Go.RowKit

theorem one_u32s (xs : List Nat) : ∀ u ∈ u32s xs, u.oneCell' = true := fun u hu => by
  obtain ⟨x, _, rfl⟩ := List.mem_map.1 hu; rfl
theorem made_one (z : Value) (n : Nat) (hz : z.cells = #[z]) : madeCells z.cells (n * 1) = (List.replicate n z).toArray := by
  rw [hz, Nat.mul_one]
  apply Array.ext'
  simp only [madeCells, List.size_toArray, List.length_singleton, Nat.mod_one]
  simp [Array.toList_map, List.map_const']
theorem Tryd.info32 : (Tryd.prog.info? 24).map (fun i => (i.zero, i.size, i.bytes)) = some (some (.int .u32 0), 1, 4) := by kernel_rfl
theorem mkP (n : Nat) (h : n ≤ 70368744177664) (w : World) : (Instr.makeSlice 23 (.int .i64 (n : Int)) (.int .i64 (n : Int))).run Tryd.prog w = .ok (.slice (some ⟨w.heap.size, 0, none⟩) n n) (w.alloc (.cells (List.replicate n (Value.int .u32 0)).toArray 24)) := by
  obtain ⟨i0, hi, hz0, hz1, hz2⟩ := info_parts Tryd.info32
  have hr := run_make (P := Tryd.prog) w 23 24 i0 (.int .u32 0) Tryd.underlying23 hi hz0 .i64 .i64 n n (by omega) (by omega) (by rw [hz2]; omega) (by omega)
  rw [hz1, Int.toNat_natCast, made_one _ _ rfl] at hr
  exact hr
/-- The field modulo p, by value. -/
abbrev fieldV (p sp : Nat) : Value := .agg #[.int .u64 (p : Int), .int .u64 (sp : Int)]
/-- What a call hands back: a polynomial in memory of its own. -/
def PR (w w' : World) (v : Value) (r : List Nat) : Prop := ∃ A c, v = .slice A r.length c ∧ Res w' w.heap.size 24 A c (u32s r) ∧ Below w.heap.size w w'
/-- A polynomial is the only answer. -/
def PR1 (w : World) (r : List Nat) (e : Ending) (w' : World) : Prop := ∃ v, e = .returned v ∧ PR w w' v r
/-- A list as it is read. -/
def Big : Nat := 17592186044416

theorem trimL_take_zero (xs : List Nat) (m : Nat) (h : m < xs.length) (h0 : xs[m] = 0) : trimL (xs.take (m + 1)) = trimL (xs.take m) := by
  rw [List.take_succ_eq_append_getElem h, h0, trimL_snoc_zero]
theorem trimL_take_pos (xs : List Nat) (m : Nat) (h : m < xs.length) (h0 : xs[m] ≠ 0) : (trimL (xs.take (m + 1))).length = m + 1 := by
  rw [List.take_succ_eq_append_getElem h, trimL_snoc_pos _ _ h0]; simp; omega
theorem u32s_trim (xs : List Nat) : u32s (trimL xs) = (u32s xs).take (trimL xs).length := by
  unfold u32s; rw [← List.map_take, trimL_take]

set_option maxHeartbeats 400000 in
theorem trim_any (A : Option Addr) (c : Nat) (xs : List Nat) (w : World) (B : Nat) (hr : Rd w B A (u32s xs)) (hc : xs.length ≤ c) (hm : xs.length ≤ 281474976710656) :
    Calls Tryd.prog 76 #[.slice A xs.length c] w fun e w' => e = .returned (.slice A (trimL xs).length c) ∧ w = w' := by
  go_enter Tryd.func76, Tryd.ntmps76
  go_wp2
  go_loop [0] (fun v => ∃ m : Nat, m ≤ xs.length ∧ v = .slice A m c ∧ trimL (xs.take m) = trimL xs) (fun v => match v with | .slice _ m _ => m | _ => 0)
  case atStart => exact ⟨xs.length, Nat.le_refl _, rfl, by simp⟩
  case round =>
    obtain ⟨m, hm1, rfl, ht⟩ := hrel
    have Ht := Lib.hid ht; clear ht
    rcases m with _ | m
    · go_wp2
      go_ret
      have h0 : (trimL xs).length = 0 := by rw [← Ht.out]; rfl
      exact ⟨by rw [h0]; rfl, rfl⟩
    · obtain ⟨b, off, rfl, hb, hcell⟩ := hr (by intro e; have := u32s_length xs; rw [e] at this; simp at this; omega)
      have hcl := hcell m _ (u32s_at (by omega))
      clear hcell
      by_cases h0 : xs[m] = 0
      · have hz := trimL_take_zero xs m (by omega) h0
        rw [h0] at hcl
        have Hz := Lib.hid hz
        clear hz h0
        go_wp2
        go_round
        case rel => exact ⟨m, by omega, rfl, by rw [← Hz.out]; exact Ht.out⟩
        case measure => simp
      · have hz := trimL_take_pos xs m (by omega) h0
        have Hz := Lib.hid hz
        have hne : ((xs[m] : Int) == 0) = false := by simp; omega
        clear hz
        go_wp2
        go_ret
        exact ⟨by rw [← Hz.out, Ht.out]; rfl, rfl⟩

theorem trim_own (W : World) (g n : Nat) (ys : List Nat) (hy : ys.length = n) (hb : Blk W g 24 (u32s ys)) (hn : n ≤ 281474976710656) :
    Calls Tryd.prog 76 #[.slice (some ⟨g, 0, none⟩) n n] W fun e w' => e = .returned (.slice (some ⟨g, 0, none⟩) (trimL ys).length n) ∧ W = w' := by
  subst hy
  exact trim_any _ _ ys W (g + 1) (Rd.of_blk hb (by omega) 0 (fun k v hv => by rw [Nat.zero_add]; exact hv)) (Nat.le_refl _) hn

/-- What trim hands back of a row of one's own. -/
theorem PR.of_trim {w w' : World} {g : Nat} {xs : List Nat} (hb : Blk w' g 24 (u32s xs)) (hg : w.heap.size ≤ g) (hm : xs.length ≤ 281474976710656) (hw : Below w.heap.size w w') : PR w w' (.slice (some ⟨g, 0, none⟩) (trimL xs).length xs.length) (trimL xs) := by
  refine ⟨_, _, rfl, ?_, hw⟩
  rw [u32s_trim]
  have := (Res.of_blk0 (B := w.heap.size) hb hg (by rw [u32s_length]; exact hm)).take (trimL xs).length
  rwa [u32s_length] at this
theorem PR.of_blk {w w' : World} {g : Nat} {xs : List Nat} (hb : Blk w' g 24 (u32s xs)) (hg : w.heap.size ≤ g) (hm : xs.length ≤ 281474976710656) (hw : Below w.heap.size w w') : PR w w' (.slice (some ⟨g, 0, none⟩) xs.length xs.length) xs := by
  refine ⟨_, _, rfl, ?_, hw⟩
  have := Res.of_blk0 (B := w.heap.size) hb hg (by rw [u32s_length]; exact hm)
  rwa [u32s_length] at this
theorem PR1.of_trim {w w' : World} {g n : Nat} {ys r : List Nat} (hb : Blk w' g 24 (u32s ys)) (hy : ys.length = n) (hr : r = trimL ys) (hg : w.heap.size ≤ g) (hm : n ≤ 281474976710656) (hw : Below w.heap.size w w') : PR1 w r (.returned (.slice (some ⟨g, 0, none⟩) (trimL ys).length n)) w' := by
  subst hy hr
  exact ⟨_, rfl, PR.of_trim hb hg hm hw⟩
theorem PR.none_ {w w' : World} (hw : Below w.heap.size w w') : PR w w' (.slice none 0 0) [] := ⟨none, 0, rfl, Res.none_, hw⟩
theorem PR.mono {w w1 w' : World} {v : Value} {r : List Nat} (h : PR w1 w' v r) (hb : Below w.heap.size w w1) : PR w w' v r := by
  obtain ⟨A, c, e, hr, hw⟩ := h
  exact ⟨A, c, e, hr.mono hb.size, hb.trans (hw.mono hb.size)⟩
theorem PR.later {w w1 w' : World} {v : Value} {r : List Nat} (h : PR w w1 v r) (hb : Below w1.heap.size w1 w') : PR w w' v r := by
  obtain ⟨A, c, e, hr, hw⟩ := h
  exact ⟨A, c, e, hr.below hb (Nat.le_refl _), hw.trans (hb.mono hw.size)⟩

theorem Blk.new2 {w : World} {o : Obj} {t : TypeId} {cs : Array Value} {vs : List Value} (e : cs = vs.toArray) : Blk ((w.alloc o).alloc (.cells cs t (0, 0))) (w.heap.size + 1) t vs := by
  have h := Blk.new_ (w := w.alloc o) (t := t) e
  rwa [show (w.alloc o).heap.size = w.heap.size + 1 by simp] at h
theorem repl_u32 (n : Nat) : Array.replicate n (Value.int .u32 0) = (u32s (List.replicate n 0)).toArray := by simp [u32s]
theorem Rd.alloc {w : World} {B : Nat} {A : Option Addr} {vs : List Value} (h : Rd w B A vs) (hB : B ≤ w.heap.size) (o : Obj) : Rd (w.alloc o) B A vs := h.below ((Below.refl _ _).alloc hB _)
/-- copy into a row of one's own. -/
theorem wpList_copyP {P : Program} {w : World} {ops : Array Oper} {rest : List Oper} {o : Oper} {a : Act} {Q : Exit → Act → World → Prop} (hgd : o.guard = none) (d s : Operand) (dT sT : TypeId)
    (ho : o.op = .call { callee := .builtin .copy, args := #[d, s], argTypes := #[dT, sT] }) (elem : TypeId) (hu : P.underlying dT = some (.slice elem)) (hsz : (P.info? elem).map (·.size) = some 1)
    (sp : Option Addr) (g off dLen dCap sLen sCap : Nat) (hd : a.eval d = .slice (some ⟨g, off, none⟩) dLen dCap) (hs : a.eval s = .slice sp sLen sCap) (t : TypeId) (zs xs : List Nat) (B C : Nat) (w0 : World)
    (hg : Blk w g t (u32s zs)) (hr : Rd w B sp (u32s xs)) (hn : xs.length = Nat.min sLen dLen) (hfit : off + xs.length ≤ zs.length) (hb : Below C w0 w) (hC : C ≤ g)
    (h : ∀ w', Blk w' g t (u32s (zs.take off ++ (xs ++ zs.drop (off + xs.length)))) → Below C w0 w' → wpList P ops Q rest (a.put o.dst (goInt (u32s xs).length)) w') :
    wpList P ops Q (o :: rest) a w := by
  refine wpList_copy_splice hgd d s dT sT ho elem hu hsz _ _ _ _ _ _ hd hs g off (u32s zs) t hg (u32s xs) (by rw [u32s_length]; exact hn) (fun h0 => ⟨rfl, ?_⟩) (by rw [u32s_length, u32s_length]; exact hfit) (one_u32s xs) C w0 hb hC (fun w' h1 h2 => h w' ?_ h2)
  · obtain ⟨b, o2, e, _, hc⟩ := hr (by intro e; rw [e] at h0; simp at h0)
    exact ⟨_, e, fun j v hv => by rw [show (⟨b, o2, none⟩ : Addr).add j = ⟨b, o2 + j, none⟩ by unfold Addr.add; split <;> simp_all]; exact hc j v hv⟩
  · have h9 := h1.out
    have e : splice (u32s zs) off (u32s xs) = u32s (zs.take off ++ (xs ++ zs.drop (off + xs.length))) := by
      simp [splice, u32s]
    rw [e] at h9
    exact h9
theorem copy_all (n : Nat) (xs : List Nat) (h : xs.length = n) : (List.replicate n 0).take 0 ++ (xs ++ (List.replicate n 0).drop (0 + xs.length)) = xs := by subst h; simp

/-! A row of which the first k are turned. -/
def half (f : Nat → Nat) (xs : List Nat) (k : Nat) : List Nat := (xs.take k).map f ++ xs.drop k
theorem half_length (f : Nat → Nat) (xs : List Nat) (k : Nat) : (half f xs k).length = xs.length := by unfold half; simp; omega
theorem half_zero (f : Nat → Nat) (xs : List Nat) : half f xs 0 = xs := by simp [half]
theorem half_all (f : Nat → Nat) (xs : List Nat) : half f xs xs.length = xs.map f := by simp [half]
theorem half_at {f : Nat → Nat} {xs : List Nat} {k : Nat} (h : k < xs.length) : (half f xs k)[k]'(by rw [half_length]; exact h) = xs[k] := by
  unfold half
  rw [List.getElem_append_right (by simp; omega)]
  simp [Nat.min_eq_left (Nat.le_of_lt h)]
theorem half_set {f : Nat → Nat} {xs : List Nat} {k : Nat} (h : k < xs.length) : (half f xs k).set k (f xs[k]) = half f xs (k + 1) := by
  unfold half
  have h0 : k - ((xs.take k).map f).length = 0 := by simp; omega
  rw [List.set_append_right _ _ (by simp; omega), h0, List.drop_eq_getElem_cons h, List.set_cons_zero, List.take_succ_eq_append_getElem h, List.map_append, List.append_assoc]
  rfl
/-! A row of noughts of which the first k are laid. -/
def fill (g : Nat → Nat) (n k : Nat) : List Nat := (List.range k).map g ++ List.replicate (n - k) 0
theorem fill_length {g : Nat → Nat} {n k : Nat} (h : k ≤ n) : (fill g n k).length = n := by unfold fill; simp; omega
theorem fill_zero (g : Nat → Nat) (n : Nat) : fill g n 0 = List.replicate n 0 := by simp [fill]
theorem fill_all (g : Nat → Nat) (n : Nat) : fill g n n = (List.range n).map g := by simp [fill]
theorem fill_set {g : Nat → Nat} {n k : Nat} (h : k < n) : (fill g n k).set k (g k) = fill g n (k + 1) := by
  unfold fill
  obtain ⟨m, hm⟩ : ∃ m, n - k = m + 1 := ⟨n - k - 1, by omega⟩
  rw [List.set_append_right _ _ (by simp), List.range_succ, List.map_append, hm, show n - (k + 1) = m by omega]
  simp [List.replicate_succ]
theorem fill_getD (g : Nat → Nat) (n i : Nat) : ((List.range n).map g).getD i 0 = if i < n then g i else 0 := by
  simp only [List.getD_eq_getElem?_getD, List.getElem?_map]
  by_cases h : i < n <;> simp [h]
theorem fill_cell {w : World} {b : Nat} {t : TypeId} {g : Nat → Nat} {n k : Nat} (h : Blk w b t (u32s (fill g n k))) (hk : k < n) : w.cell? ⟨b, k, none⟩ = some (.int .u32 0) := by
  rw [h.cell]
  simp [u32s, fill]
  rw [List.getElem?_append_right (by simp)]
  simp [List.getElem?_replicate]
  omega
theorem u32s_getD {xs : List Nat} {k : Nat} (h : k < xs.length) : (u32s xs)[k]? = some (.int .u32 ((xs.getD k 0 : Nat) : Int)) := by
  rw [u32s_at h, List.getD_eq_getElem?_getD, List.getElem?_eq_getElem h]; rfl
theorem bz {n : Nat} (h : 0 < n) : ((n : Int) == 0) = false := by rw [beq_eq_false_iff_ne]; omega
theorem w64 {n : Nat} (h : n < 18446744073709551616) : IntKind.u64.wrap (n : Int) = n := by rw [IntKind.wrap_u64]; omega
theorem w32 {n : Nat} (h : n < 4294967296) : IntKind.u32.wrap (n : Int) = n := by rw [IntKind.wrap_u32]; omega
theorem tmodN (a b : Nat) : (a : Int).tmod (b : Int) = ((a % b : Nat) : Int) := by rw [Int.tmod_eq_emod_of_nonneg (by omega)]; exact (Int.natCast_emod _ _).symm
theorem mod_dvd (a p : Nat) : (p : Int) ∣ ((a % p : Nat) : Int) - (a : Int) := by
  have h := Nat.div_add_mod a p
  exact ⟨-((a / p : Nat) : Int), by
    have h2 : ((p * (a / p) + a % p : Nat) : Int) = (a : Nat) := by rw [h]
    rw [Int.natCast_add, Int.natCast_mul] at h2
    rw [Int.mul_neg]; omega⟩
theorem Dr.cellOf {w w' : World} (h : Dr w w') {p : Addr} {v : Option Value} (hc : w.cell? p = v) : w'.cell? p = v := by
  obtain ⟨n, rfl⟩ := h
  exact hc
end
section
open Go.RowKit

set_option maxHeartbeats 1600000 in
theorem fnormal_any (p sp : Nat) (A : Option Addr) (c : Nat) (xs : List Nat) (w : World) (B : Nat) (hp0 : 0 < p) (hp : p < 4294967296) (hr : Rd w B A (u32s xs)) (hB : B ≤ w.heap.size) (hm : xs.length ≤ Big) (hd : ∀ x ∈ xs, x < 4294967296) :
    Calls Tryd.prog 51 #[fieldV p sp, .slice A xs.length c] w (PR1 w (mnP p xs)) := by
  unfold Big at hm
  have hmk := fun W => mkP xs.length (by omega) W
  have t4 : ((p : Int) == 0) = false := by simp; omega
  have hdx : Hid (∀ k (h : k < xs.length), xs[k] < 4294967296) := fun k h => hd _ (List.getElem_mem h)
  have hb0 : Below w.heap.size w (w.alloc (.cells #[.int .u64 (p : Int), .int .u64 (sp : Int)] 77 (0, 0))) := (Below.refl _ _).alloc (Nat.le_refl _) _
  have hra := Lib.hid (hr.below (hb0.mono hB))
  have htr : Hid (∀ W B A c ys, Rd W B A (u32s ys) → ys.length ≤ c → ys.length ≤ 281474976710656 → Calls Tryd.prog 76 #[.slice A ys.length c] W fun e w' => e = .returned (.slice A (trimL ys).length c) ∧ W = w') := fun W B A c ys h1 h2 h3 => trim_any A c ys W B h1 h2 h3
  have E0 : Hid (mnP p xs = trimL (half (· % p) xs xs.length)) := by show _ = _; rw [half_all]; rfl
  obtain ⟨R, hR⟩ : ∃ R, R = PR1 w (mnP p xs) := ⟨_, rfl⟩
  rw [← hR]
  have HR := Lib.hid hR
  clear hd hr hR
  go_enter Tryd.func51, Tryd.ntmps51
  go_wp2_with ((with_reducible refine wpList_copyP (o := ⟨some 13, _, _, _, _, _⟩) rfl _ _ _ _ rfl 24 Tryd.underlying23 ?u1 A (w.heap.size + 1) 0 _ _ _ _ rfl rfl 24 (List.replicate xs.length 0) xs B (w.heap.size + 1) (w.alloc (.cells #[.int .u64 (p : Int), .int .u64 (sp : Int)] 77 (0, 0))) ?c1 ?c2 ?c3 ?c4 ?c5 (Nat.le_refl _) ?_); rotate_right; intro w2 hg2 hb2)
  case u1 => kernel_rfl
  case c1 => exact Blk.new2 (repl_u32 _)
  case c2 => exact hra.out.alloc (by simp; omega) _
  case c3 => simp
  case c4 => simp
  case c5 => exact (Below.refl _ _).alloc (by simp) _
  rw [copy_all _ _ rfl] at hg2
  have f0 := hb2.cell (p := ⟨w.heap.size, 0, none⟩) (by simp)
  have f1 : (w.alloc (.cells #[.int .u64 (p : Int), .int .u64 (sp : Int)] 77 (0, 0))).cell? ⟨w.heap.size, 0, none⟩ = some (.int .u64 (p : Int)) := (Blk.new_ (vs := [.int .u64 (p : Int), .int .u64 (sp : Int)]) rfl).cell 0
  have HF := Lib.hid (f0.trans f1)
  have Hb2 := Lib.hid hb2
  clear f0 f1 hmk hb2
  go_loopw [6, 7, 16] (fun _ _ iv wr => ∃ k : Nat, k ≤ xs.length ∧ iv = .int .i64 (k : Int) ∧ Blk wr (w.heap.size + 1) 24 (u32s (half (· % p) xs k)) ∧ Ch (w.heap.size + 1) w2 wr) (fun _ _ iv _ => xs.length - (intOf iv).toNat)
  case atStart => exact ⟨0, by omega, rfl, by rw [half_zero]; exact hg2, Ch.refl _ _⟩
  case round =>
    clear hg2
    obtain ⟨k, hk, rfl, hblk, hch⟩ := hrel
    have f2 := (hch.below (Nat.le_refl _)).cell (p := ⟨w.heap.size, 0, none⟩) (by simp)
    have f3 := f2.trans HF.out
    clear f2
    by_cases hlt : k < xs.length
    · have hcl := (hblk.cell k).trans (u32s_at (by rw [half_length]; exact hlt))
      rw [half_at hlt] at hcl
      have hfz := hblk.frozen k
      have hx := hdx.out k hlt
      have hset := hblk.set_ k (.int .u32 ((xs[k] % p : Nat) : Int))
      rw [u32s_set, half_set hlt] at hset
      have t5 : (xs[k] : Int) % (p : Int) = ((xs[k] % p : Nat) : Int) := (Int.natCast_emod _ _).symm
      have t6 : xs[k] % p < 4294967296 := by have := Nat.mod_lt xs[k] hp0; omega
      obtain ⟨r, hre⟩ : ∃ r, r = xs[k] % p := ⟨_, rfl⟩
      rw [← hre] at t5 t6 hset
      have Hset := Lib.hid hset
      clear hset hre
      go_wp2
      go_roundw
      case rel => exact ⟨k + 1, by omega, by go_num, Hset.out, hch.setCell _ _⟩
      case measure => simp [intOf]; omega
    · obtain rfl : k = xs.length := by omega
      have HB := Lib.hid hblk
      clear hblk
      go_wp2_with (go_at_call 76; (with_reducible refine (trim_own _ _ _ _ (half_length _ _ _) HB.out (by omega)).mono ?_); rintro _ _ ⟨rfl, rfl⟩)
      rw [HR.out]
      exact PR1.of_trim HB.out (half_length _ _ _) E0.out (by omega) (by omega) (hb0.trans ((Hb2.out.trans (hch.below (Nat.le_refl _))).mono (by omega)))

def timesN (p x y : Nat) : Nat := x * y % p
set_option maxHeartbeats 800000 in
theorem ftimes_any (p sp x y : Nat) (w : World) (hp0 : 0 < p) (hp : p < 4294967296) (hx : x < 4294967296) (hy : y < 4294967296) :
    Calls Tryd.prog 80 #[fieldV p sp, .int .u32 (x : Int), .int .u32 (y : Int)] w fun e w' => e = .returned (.int .u32 ((timesN p x y : Nat) : Int)) ∧ Below w.heap.size w w' := by
  have hyc : x * y ≤ 4294967295 * 4294967295 := Nat.mul_le_mul (by omega) (by omega)
  obtain ⟨m, hm⟩ : ∃ m, m = x * y := ⟨_, rfl⟩
  have hr : timesN p x y = m % p := by unfold timesN; rw [← hm]
  have hrl : timesN p x y < p := Nat.mod_lt _ hp0
  obtain ⟨r, hre⟩ : ∃ r, r = timesN p x y := ⟨_, rfl⟩
  rw [← hre] at hr hrl ⊢
  rw [← hm] at hyc
  have t1 : (x : Int) * (y : Int) = (m : Int) := by rw [hm]; simp
  have t3 : (m : Int) % (p : Int) = (r : Int) := by rw [hr]; simp
  have t4 : ((p : Int) == 0) = false := by simp; omega
  have hsb : m < 18446744073709551616 := by omega
  clear hm hr hre
  go_enter Tryd.func80, Tryd.ntmps80
  go_wp2
  go_ret
  exact ⟨rfl, (Below.refl _ _).alloc (Nat.le_refl _) _⟩

def negN (p x : Nat) : Nat := if x = 0 then 0 else p - x
set_option maxHeartbeats 800000 in
theorem fnegative_any (p sp x : Nat) (w : World) (hp : p < 4294967296) (hx : x < p) :
    Calls Tryd.prog 84 #[fieldV p sp, .int .u32 (x : Int)] w fun e w' => e = .returned (.int .u32 ((negN p x : Nat) : Int)) ∧ Below w.heap.size w w' := by
  by_cases h : x = 0
  · subst h
    go_enter Tryd.func84, Tryd.ntmps84
    go_wp2
    go_ret
    exact ⟨rfl, (Below.refl _ _).alloc (Nat.le_refl _) _⟩
  · have e : negN p x = p - x := by unfold negN; rw [if_neg h]
    rw [e]
    have t1 : ((x : Int) == 0) = false := by simp; omega
    have t2 : (p : Int) - (x : Int) = ((p - x : Nat) : Int) := by omega
    obtain ⟨r, hr⟩ : ∃ r, r = p - x := ⟨_, rfl⟩
    rw [← hr] at t2 ⊢
    have t3 : r < 4294967296 := by omega
    clear e h hr
    go_enter Tryd.func84, Tryd.ntmps84
    go_wp2
    go_ret
    exact ⟨rfl, (Below.refl _ _).alloc (Nat.le_refl _) _⟩
theorem negN_cg {p x : Nat} (h : x < p) : (p : Int) ∣ (negN p x : Int) - -(x : Int) := by
  unfold negN
  split
  · subst x; exact ⟨0, by simp⟩
  · exact ⟨1, by omega⟩
theorem negN_lt {p x : Nat} (h : x < p) : negN p x < p := by unfold negN; split <;> omega
end
end Go.Proofs.YtddhhndnkjajmaaDoor
