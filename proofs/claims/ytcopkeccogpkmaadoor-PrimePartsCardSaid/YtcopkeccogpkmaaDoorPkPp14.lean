/- The primes one by one: the contracts of rising's and falling's closures, for whatever loop over them. Conditions: bases reads 2, 7, 61 in memory that the rounds keep. The contracts of prime's Next and Last. Conditions: bases reads 2, 7, 61. The contract of prime's List. Conditions: bases reads 2, 7, 61. For the two Divisors: a row that grows while an older slice of it is read. No conditions. -/
import Derived.RangeFuncFrom
import Derived.RangeFuncKeeps
import Derived.RangeFuncLeaves
import Derived.Shelf.Abstract
import Derived.WalkKit
import Derived.OwnWalkIn
import Derived.TacticsInMore
import Derived.LoopNIn
import Derived.LoopIn
import Derived.Test.YtcopkeccogpkmaaDoorPkPp13
import Derived.Deep.RegionHeld
import Derived.RangeFuncBox
import Derived.Maps.AppendAt
import Derived.Test.YtcopkeccogpkmaaDoorPkPp3
import Derived.Test.YtcopkeccogpkmaaDoorPkPp4
import Derived.Test.YtcopkeccogpkmaaDoorPkPp2
namespace Go.Proofs.YtcopkeccogpkmaaDoor
section
open Go.RowKit Go.Shelf

attribute [local go_sem] Oper.semAt_some

/-- A number of 32 bits. -/
abbrev U32 := { x : Nat // x < 4294967296 }
/-- The primes from a on below b, rising. -/
noncomputable def up (a b : Nat) : List Nat := ((List.range (b - a)).map (a + ·)).filter isP
/-- The primes from a down, above k. -/
noncomputable def down (a k : Nat) : List Nat := (up (k + 1) (a + 1)).reverse
end
section
open Go.RowKit Go.Shelf

attribute [local go_sem] Oper.semAt_some

theorem cell_set {w : World} {a : Addr} {u : Value} (h : w.cell? a = some u) (v : Value) : (w.setCell a v).cell? a = some v := World.cell?_setCell_same' _ _ _ (by rw [h]; rfl)
/-- What Next answers. -/
def NextIs (n r : Nat) (ok : Bool) : Prop := (ok = true ∧ Pr r ∧ n < r ∧ r < 4294967296 ∧ ∀ m, n < m → m < r → ¬ Pr m) ∨ (ok = false ∧ r = 0 ∧ ∀ m, n < m → m < 4294967296 → ¬ Pr m)
/-- Between two rounds; and when a round has left. -/
def NI (w : World) (pre : List U32) (W : World) : Prop := (pre = [] ∧ W.cell? ⟨w.heap.size, 0, none⟩ = some (.int .u32 0) ∧ W.cell? ⟨w.heap.size + 1, 0, none⟩ = some (.bool false) ∧ W.frozen? ⟨w.heap.size, 0, none⟩ = false ∧ W.frozen? ⟨w.heap.size + 1, 0, none⟩ = false) ∧ Below w.heap.size w W
def NX (w : World) (c : Code) (pre : List U32) (W : World) : Prop := (c = .ret ∧ ∃ x : U32, pre = [x] ∧ W.cell? ⟨w.heap.size, 0, none⟩ = some (.int .u32 (x.1 : Int)) ∧ W.cell? ⟨w.heap.size + 1, 0, none⟩ = some (.bool true)) ∧ Below w.heap.size w W
theorem NI.own (w : World) (B : Nat) (hB : w.heap.size ≤ B) : OwnFrom B (NI w) :=
  OwnFrom.and (Own.from (fun _ _ _ _ hs hg hr => ⟨hs.1, cell_kept hs.2.1 hg hr, cell_kept hs.2.2.1 hg hr, (frozen_kept hs.2.1 hg hr).trans hs.2.2.2.1, (frozen_kept hs.2.2.1 hg hr).trans hs.2.2.2.2⟩) _) (ownFrom_below (Nat.le_refl _) hB)
theorem NX.own (w : World) (B : Nat) (hB : w.heap.size ≤ B) (c : Code) : OwnFrom B (NX w c) :=
  OwnFrom.and (Own.from (fun _ _ _ _ hs hg hr => ⟨hs.1, hs.2.imp fun _ hx => ⟨hx.1, cell_kept hx.2.1 hg hr, cell_kept hx.2.2 hg hr⟩⟩) _) (ownFrom_below (Nat.le_refl _) hB)
theorem NI.round {w W : World} {pre : List U32} (h : NI w pre W) (x : U32) : NX w .ret (pre ++ [x]) ((W.setCell ⟨w.heap.size, 0, none⟩ (.int .u32 (x.1 : Int))).setCell ⟨w.heap.size + 1, 0, none⟩ (.bool true)) := by
  obtain ⟨⟨rfl, hc0, hc1, hf0, hf1⟩, hB⟩ := h
  refine ⟨⟨rfl, x, rfl, ?_, ?_⟩, (hB.setCell (p := ⟨w.heap.size, 0, none⟩) (Nat.le_refl _) _).setCell (p := ⟨w.heap.size + 1, 0, none⟩) (by simp) _⟩
  · rw [World.cell?_setCell_far _ _ _ _ (by simp)]
    exact cell_set hc0 _
  · exact cell_set (by rw [World.cell?_setCell_far _ _ _ _ (by simp)]; exact hc1) _

/-- What Last answers. -/
def LastIs (n r : Nat) (ok : Bool) : Prop := (ok = true ∧ Pr r ∧ r < n ∧ ∀ m, r < m → m < n → ¬ Pr m) ∨ (ok = false ∧ r = 0 ∧ ∀ m, m < n → ¬ Pr m)
theorem NextIs.unique {n r r' : Nat} {ok ok' : Bool} (h : NextIs n r ok) (h' : NextIs n r' ok') : r = r' ∧ ok = ok' := by
  rcases h with ⟨rfl, h1, h2, h3, h4⟩ | ⟨rfl, rfl, h4⟩
  · rcases h' with ⟨rfl, k1, k2, k3, k4⟩ | ⟨rfl, rfl, k4⟩
    · refine ⟨?_, rfl⟩
      rcases Nat.lt_trichotomy r r' with hlt | he | hgt
      · exact absurd h1 (k4 r h2 hlt)
      · exact he
      · exact absurd k1 (h4 r' k2 hgt)
    · exact absurd h1 (k4 r h2 h3)
  · rcases h' with ⟨rfl, k1, k2, k3, k4⟩ | ⟨rfl, rfl, k4⟩
    · exact absurd k1 (h4 r' k2 k3)
    · exact ⟨rfl, rfl⟩
theorem LastIs.unique {n r r' : Nat} {ok ok' : Bool} (h : LastIs n r ok) (h' : LastIs n r' ok') : r = r' ∧ ok = ok' := by
  rcases h with ⟨rfl, h1, h2, h4⟩ | ⟨rfl, rfl, h4⟩
  · rcases h' with ⟨rfl, k1, k2, k4⟩ | ⟨rfl, rfl, k4⟩
    · refine ⟨?_, rfl⟩
      rcases Nat.lt_trichotomy r r' with hlt | he | hgt
      · exact absurd k1 (h4 r' hlt k2)
      · exact he
      · exact absurd h1 (k4 r hgt h2)
    · exact absurd h1 (k4 r h2)
  · rcases h' with ⟨rfl, k1, k2, k4⟩ | ⟨rfl, rfl, k4⟩
    · exact absurd k1 (h4 r' k2)
    · exact ⟨rfl, rfl⟩
end
section
open Go.RowKit Go.Shelf

attribute [local go_sem] Oper.semAt_some

theorem Tryd.infoU : (Tryd.prog.info? 22).map (fun i => (i.zero, i.size, i.bytes)) = some (some (.int .u32 0), 1, 4) := by kernel_rfl

def encV (x : U32) : Value := .int .u32 (x.1 : Int)
theorem encV_map (l : List U32) : l.map encV = u32s (l.map (·.1)) := by
  unfold u32s
  rw [List.map_map]
  rfl
/-- Between two rounds; and when a round has broken off. -/
def LI (n₀ Bk Bo k : Nat) (w : World) (pre : List U32) (W : World) : Prop :=
  (∃ v, Boxed W Bo 25 v ∧ W.ownsRow n₀ 22 1 v pre.length (pre.map encV) ∧ True) ∧ (Boxed W Bk 3 (.int .i64 (k : Int)) ∧ pre.length ≤ k) ∧ Below n₀ w W
def LX (n₀ Bo k : Nat) (w : World) (c : Code) (ys : List U32) (W : World) : Prop :=
  (∃ v, Boxed W Bo 25 v ∧ W.ownsRow n₀ 22 1 v ys.dropLast.length (ys.dropLast.map encV) ∧ True) ∧ (c = .exit 0 ∧ ys.dropLast.length = k) ∧ Below n₀ w W
theorem LX.own {n₀ Bo k B : Nat} {w : World} (h0 : n₀ ≤ w.heap.size) (hB : n₀ ≤ B) (c : Code) : OwnFrom B (LX n₀ Bo k w c) := by
  refine OwnFrom.and (Own.from (holdsRow_own n₀ Bo 25 22 1 (fun ys : List U32 => ys.dropLast.length) (fun ys : List U32 => ys.dropLast.map encV) (fun _ _ => True)) _) (OwnFrom.and (Own.from (fun _ _ _ _ hs _ _ => hs) _) (ownFrom_below h0 hB))
theorem LI.own {n₀ Bk Bo k B : Nat} {w : World} (h0 : n₀ ≤ w.heap.size) (hB : n₀ ≤ B) : OwnFrom B (LI n₀ Bk Bo k w) := by
  refine OwnFrom.and (Own.from (holdsRow_own n₀ Bo 25 22 1 List.length (fun pre => pre.map encV) (fun _ _ => True)) _) (OwnFrom.and (Own.from (fun _ _ _ _ hs hg hr => ⟨hs.1.kept hg (fun e => by
    obtain ⟨o, ho, hc⟩ := hr _ e.symm
    rw [show _ = _ from hs.1] at ho; cases ho; cases hc), hs.2⟩) _) (ownFrom_below h0 hB))

def ListPost (L : List Nat) (w : World) (e : Ending) (W' : World) : Prop := ∃ v, e = .returned (.tuple #[v, .int .i64 0]) ∧ W'.ownsRow w.heap.size 22 1 v L.length (u32s L) ∧ Below w.heap.size w W'
theorem ListPost.of {w : World} {D : Nat} {W : World} {v : Value} {ys : List U32} {L : List Nat} (hL : ys.map (·.1) = L) (hrow : W.ownsRow w.heap.size 22 1 v ys.length (ys.map encV)) (hB : Below w.heap.size w W) (hK : W.heap[D]? = some (.deferred (some []))) (hD : w.heap.size ≤ D) :
    ListPost L w (.returned (.tuple #[v, .int .i64 0])) (W.putObj D (.deferred none)) := by
  refine ⟨v, rfl, ?_, hB.trans (belowK_b (w := w) (Nat.le_refl _) W D _ _ hD hK rfl rfl)⟩
  have h := ownsRow_putObj hrow (.deferred none) hK rfl
  rw [encV_map, hL] at h
  rwa [← hL, List.length_map, hL]
end
section
open Go.RowKit

/-- From W0, where the row lay in block g0, to W, where it lies in g: nothing else has turned. -/
structure Grow (W0 : World) (g0 : Nat) (W : World) (g : Nat) : Prop where
  os : W.os = W0.os
  tape : W.tape = W0.tape
  output : W.output = W0.output
  size : W0.heap.size ≤ W.heap.size
  block : ∀ b, b < W0.heap.size → b ≠ g0 → W.heap[b]? = W0.heap[b]?
  at_ : g = g0 ∨ W0.heap.size ≤ g
theorem Grow.refl (W : World) (g : Nat) : Grow W g W g := ⟨rfl, rfl, rfl, Nat.le_refl _, fun _ _ _ => rfl, Or.inl rfl⟩
theorem Grow.trans {A B C : World} {a b c : Nat} (h : Grow A a B b) (k : Grow B b C c) : Grow A a C c := by
  have hs := h.size
  have ks := k.size
  refine ⟨k.os.trans h.os, k.tape.trans h.tape, k.output.trans h.output, by omega, fun x hx hn => ?_, ?_⟩
  · exact (k.block x (by omega) (by rcases h.at_ with e | e <;> omega)).trans (h.block x hx hn)
  · rcases k.at_ with e | e
    · rcases h.at_ with e2 | e2
      · exact Or.inl (e.trans e2)
      · exact Or.inr (by omega)
    · exact Or.inr (by omega)
theorem Grow.alloc {A B : World} {a b : Nat} (h : Grow A a B b) (o : Obj) : Grow A a (B.alloc o) b := by
  have hs := h.size
  refine ⟨h.os, h.tape, h.output, by rw [World.size_alloc]; omega, fun x hx hn => ?_, h.at_⟩
  exact (Below.heap_alloc B o x (by omega)).trans (h.block x hx hn)
theorem Grow.below {A B : World} {a b base : Nat} (h : Grow A a B b) (ha : base ≤ a) (hb : base ≤ A.heap.size) : Below base A B :=
  ⟨h.os, h.tape, h.output, h.size, fun x hx => h.block x (by omega) (by omega)⟩

theorem u32s_get {R : List Nat} {t : Nat} (h : t < R.length) : (u32s R)[t]? = some (.int .u32 ((R.getD t 0 : Nat) : Int)) := by
  simp [u32s, List.getD_eq_getElem?_getD, List.getElem?_eq_getElem h]

/-- One more number on a row of one's own that is not empty. -/
theorem app_one (w : World) (base g cap : Nat) (R : List Nat) (x : Nat) (hown : w.ownsRow base 22 1 (.slice (some ⟨g, 0, none⟩) R.length cap) R.length (u32s R)) (hL : R.length ≤ 4294967296) (hbase : base ≤ w.heap.size) :
    ∃ g' cap' w', (Builtin.append_ #[25, 25] 25 #[.slice (some ⟨g, 0, none⟩) R.length cap, .slice (some ⟨w.heap.size, 0, none⟩) 1 1]).run Tryd.prog (w.alloc (.cells #[.int .u32 (x : Int)] 22)) = .ok (.slice (some ⟨g', 0, none⟩) (R.length + 1) cap') w' ∧
      w'.ownsRow base 22 1 (.slice (some ⟨g', 0, none⟩) (R.length + 1) cap') (R ++ [x]).length (u32s (R ++ [x])) ∧ Grow w g w' g' ∧ g' < w'.heap.size ∧ (∀ t, t < R.length → w'.cell? ⟨g, t, none⟩ = some (.int .u32 ((R.getD t 0 : Nat) : Int))) := by
  obtain ⟨i0, hi, hz0, hz1, hz2⟩ := info_parts Tryd.infoU
  have hown2 := hown.alloc (.cells #[.int .u32 (x : Int)] 22)
  have hcn : ∀ j u, [Value.int .u32 (x : Int)][j]? = some u → (w.alloc (.cells #[.int .u32 (x : Int)] 22)).cell? ((⟨w.heap.size, 0, none⟩ : Addr).add j) = some u := cell_one_new _ _ _
  have hone : ∀ u ∈ [Value.int .u32 (x : Int)], u.oneCell' = true := by simp [Value.oneCell']
  have hsz : base ≤ (w.alloc (.cells #[.int .u32 (x : Int)] 22)).heap.size := by rw [World.size_alloc]; omega
  obtain ⟨v', w', hrun, ho, hgr, hk⟩ := app_keep (P := Tryd.prog) _ base 25 25 22 i0 (.int .u32 0) 1 4 Tryd.underlying25 hi hz0 hz1 hz2 rfl (by decide) g R.length cap (u32s R) hown2 ⟨w.heap.size, 0, none⟩ 1 1 [.int .u32 (x : Int)] rfl hcn hone (by unfold maxLen; omega) (by omega) hsz
  obtain ⟨v2, w2, hrun2, _, _, _, hblk⟩ := run_append_own_at (P := Tryd.prog) (w := w.alloc (.cells #[.int .u32 (x : Int)] 22)) base 25 25 22 i0 (.int .u32 0) 1 4 Tryd.underlying25 hi hz0 hz1 hz2 rfl (by decide) _ R.length (u32s R) hown2 ⟨w.heap.size, 0, none⟩ 1 1 [.int .u32 (x : Int)] rfl hcn hone (by unfold maxLen; omega) (by omega) hsz
  rw [hrun] at hrun2
  injection hrun2 with e1 e2
  subst e1
  subst e2
  obtain ⟨g', cap', rfl⟩ := ownsRow_succ ho
  have hlen : (R ++ [x]).length = R.length + 1 := by simp
  have hus : u32s R ++ [.int .u32 (x : Int)] = u32s (R ++ [x]) := by simp [u32s]
  rw [hus] at ho
  have hg' : g' < w'.heap.size := by
    obtain ⟨_, ⟨h, _⟩ | ⟨g2, _, _, hv, _, hh, _⟩⟩ := ho
    · cases h
    · injection hv with h1 _ _
      injection h1 with h1
      injection h1 with h1
      subst h1
      exact (Array.getElem?_eq_some_iff.1 hh).1
  refine ⟨g', cap', w', hrun, by rw [hlen]; exact ho, ⟨hgr.os, hgr.tape, hgr.output, by have := hgr.size; rw [World.size_alloc] at this; omega, fun b hb hn => ?_, ?_⟩, hg', fun t ht => hk t _ (u32s_get ht)⟩
  · exact (hgr.block b (by rw [World.size_alloc]; omega) (by intro e; injection e with e; exact hn e)).trans (Below.heap_alloc w _ b hb)
  · rcases hblk with e | e
    · left
      simpa [Value.ownBlock] using e
    · right
      have : g' = w.heap.size + 1 := by simpa [Value.ownBlock] using e
      omega
theorem fac_row {W : World} {base c : Nat} {A : Option Addr} {L : List (Nat × Nat)} (h : W.ownsRow base 29 2 (.slice A L.length c) L.length (facCells L)) :
    ∃ gf, L.length ≤ c ∧ (L.length ≠ 0 → A = some ⟨gf, 0, none⟩ ∧ base ≤ gf ∧ gf < W.heap.size) ∧ ∀ j u, (facCells L)[j]? = some u → W.cell? ⟨gf, j, none⟩ = some u := by
  obtain ⟨hl, ⟨h, h0⟩ | ⟨g, cap, cur, hv, hg, hh, hnc, hcm, hsz, htk⟩⟩ := h
  · injection h with e1 e2 e3
    refine ⟨0, by omega, fun h => absurd h0 h, fun j u hj => ?_⟩
    rw [List.getElem?_eq_none (by rw [hl]; omega)] at hj
    cases hj
  · injection hv with e1 e2 e3
    subst e3
    have hb : Blk W g 29 cur.toList := by simpa [Blk] using hh
    refine ⟨g, hnc, fun _ => ⟨e1, hg, hb.lt⟩, fun j u hj => ?_⟩
    have hj2 := (List.getElem?_eq_some_iff.1 hj).1
    rw [hb.cell]
    rw [← htk, List.getElem?_take] at hj
    split at hj
    · exact hj
    · cases hj
theorem divL_snoc (p t : Nat) : ∀ (D : List (Nat × Nat)) (out : List Nat), divL out (D ++ [(p, t)]) = divRow (divL out D) p t
  | [], _ => rfl
  | (q, s) :: D, out => divL_snoc p t D (divRow out q s)
theorem divRow_get {out : List Nat} {p k t : Nat} (h : t < out.length) : (divRow out p k).getD t 0 = out.getD t 0 := by
  induction k with
  | zero => rfl
  | succ k ih =>
    rw [divRow, List.getD_eq_getElem?_getD, List.getElem?_append_left (by rw [divRow_length]; exact Nat.lt_of_lt_of_le h (Nat.le_mul_of_pos_right _ (by omega))), ← List.getD_eq_getElem?_getD, ih]
/-- Where the three loops stand. -/
def DvO (n gf : Nat) (L : List (Nat × Nat)) (w w1 : World) (s3 s16 : Value) (W : World) : Prop :=
  ∃ (D R : List (Nat × Nat)) (m g cap : Nat), L = D ++ R ∧ s16 = .int .i64 (D.length : Int) ∧ s3 = .slice (some ⟨g, 0, none⟩) (divL [1] D).length cap ∧ Fac m R ∧ DivOk n m (divL [1] D) ∧
    W.ownsRow w.heap.size 22 1 s3 (divL [1] D).length (u32s (divL [1] D)) ∧ Grow w1 w.heap.size W g ∧ g < W.heap.size ∧ gf ≠ w.heap.size
def DvM (O : List Nat) (p t : Nat) (w W5 : World) (g5 : Nat) (s3 s7 s24 : Value) (W : World) : Prop :=
  ∃ (k g cap : Nat), s24 = .int .i64 (k : Int) ∧ k ≤ t ∧ s7 = .int .u32 ((p ^ k : Nat) : Int) ∧ s3 = .slice (some ⟨g, 0, none⟩) (divRow O p k).length cap ∧
    W.ownsRow w.heap.size 22 1 s3 (divRow O p k).length (u32s (divRow O p k)) ∧ Grow W5 g5 W g ∧ g < W.heap.size
def DvI (O B : List Nat) (q : Nat) (w W6 : World) (g6 : Nat) (s3 s34 : Value) (W : World) : Prop :=
  ∃ (j g cap : Nat), s34 = .int .i64 (j : Int) ∧ j ≤ O.length ∧ s3 = .slice (some ⟨g, 0, none⟩) (B ++ (O.take j).map (· * q)).length cap ∧
    W.ownsRow w.heap.size 22 1 s3 (B ++ (O.take j).map (· * q)).length (u32s (B ++ (O.take j).map (· * q))) ∧ Grow W6 g6 W g ∧ g < W.heap.size ∧ ∀ t, t < O.length → W.cell? ⟨g6, t, none⟩ = some (.int .u32 ((O.getD t 0 : Nat) : Int))
theorem divL_pos : ∀ (D : List (Nat × Nat)) (out : List Nat), 0 < out.length → 0 < (divL out D).length
  | [], _, h => h
  | (p, t) :: D, out, h => divL_pos D (divRow out p t) (by rw [divRow_length]; exact Nat.mul_pos h (by omega))
theorem div_mem {O : List Nat} {p k j : Nat} (hj : j < O.length) : O.getD j 0 * p ^ (k + 1) ∈ divRow O p (k + 1) := by
  rw [divRow, List.mem_append]
  right
  refine List.mem_map.2 ⟨O[j], List.getElem_mem hj, ?_⟩
  rw [List.getD_eq_getElem?_getD, List.getElem?_eq_getElem hj]
  rfl
theorem take_more {O : List Nat} {j : Nat} (q : Nat) (hj : j < O.length) : (O.take (j + 1)).map (· * q) = (O.take j).map (· * q) ++ [O.getD j 0 * q] := by
  rw [List.take_add_one, List.map_append, List.getElem?_eq_getElem hj, List.getD_eq_getElem?_getD, List.getElem?_eq_getElem hj]
  rfl
theorem row_cells2 {W : World} {base g p : Nat} {L : List Nat} (h : W.ownsRow base 22 1 (.slice (some ⟨g, 0, none⟩) L.length p) L.length (u32s L)) :
    L.length ≤ p ∧ ∀ t, t < L.length → W.cell? ⟨g, t, none⟩ = some (.int .u32 ((L.getD t 0 : Nat) : Int)) := by
  obtain ⟨hl, ⟨h, h0⟩ | ⟨g2, cap, cur, hv, hg, hh, hnc, hcm, hsz, htk⟩⟩ := h
  · cases h
  · injection hv with e1 e2 e3
    injection e1 with e1
    injection e1 with e1
    subst e3
    subst e1
    have hb : Blk W g 22 cur.toList := by simpa [Blk] using hh
    refine ⟨hnc, fun t ht => ?_⟩
    rw [hb.cell]
    have : (cur.toList.take (L.length * 1))[t]? = (u32s L)[t]? := by rw [htk]
    rw [List.getElem?_take, if_pos (by omega)] at this
    rw [this]
    exact u32s_get ht
end
end Go.Proofs.YtcopkeccogpkmaaDoor
