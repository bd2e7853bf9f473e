/- For the walk of PrimeLists: prime's List and Between in one contract each. Conditions: bases reads 2, 7, 61. -/
import Derived.Test.YtnjhppdcpjgfmaaDoorLMath
import Derived.Test.YtnjhppdcpjgfmaaDoorBetw
import Derived.Test.YtnjhppdcpjgfmaaDoorPrimeIsW
import Derived.Sort.CutIn
import Derived.Sort.QuietIn
import Derived.LoopIn
import Derived.Deep.RegionHeld3
namespace Go.Proofs.YtnjhppdcpjgfmaaDoor
open Go.RowKit Go.Shelf

/-- The whole list, and the step in it. -/
noncomputable def Full (dn : Bool) (a : Nat) : List Nat := bif dn then down a 1 else up a 4294967296
def Nx (dn : Bool) : Nat → Nat → Bool → Prop := bif dn then LastIs else NextIs
theorem full_chain (dn : Bool) (a : Nat) (ha : a < 4294967296) : Chain (Nx dn) (Full dn a) := by
  cases dn
  · exact up_chain (4294967296 - a) a (by omega)
  · exact down_chain a
theorem full_begins (dn : Bool) (a : Nat) (ha : a < 4294967296) : Begins (Nx dn) a (Full dn a) := by
  cases dn
  · exact up_begins ha
  · exact down_begins a
theorem full_lt (dn : Bool) (a : Nat) (ha : a < 4294967296) : ∀ y ∈ Full dn a, y < 4294967296 := by
  intro y hy
  cases dn
  · exact (mem_up.1 hy).2.1
  · have := mem_up.1 (List.mem_reverse.1 (show y ∈ (up (1 + 1) (a + 1)).reverse from hy))
    omega

def ListOut (a : Nat) (k : Int) (dn : Bool) (w : World) (v : Value) (c : Int) (W' : World) : Prop :=
  ((k < 0 ∨ 10000 < k) ∧ c = 1 ∧ v = .slice none 0 0) ∨ (∃ j : Nat, k = j ∧ j ≤ 10000 ∧ c = 0 ∧ W'.ownsRow w.heap.size 22 1 v ((Full dn a).take j).length (u32s ((Full dn a).take j)))
theorem list_every (m a : Nat) (k : Int) (dn : Bool) (hm : 3 ≤ m) (ha : a < 4294967296) (hk : -9223372036854775808 ≤ k ∧ k ≤ 9223372036854775807) (w : World) (hw : Bases w) :
    CallsIn Fence.wide m Tryd.prog 21 #[.int .u32 (a : Int), .int .i64 k, .bool dn] w fun e W' => ∃ v c, e = .returned (.tuple #[v, .int .i64 c]) ∧ ListOut a k dn w v c W' ∧ Below w.heap.size w W' := by
  by_cases h : k < 0 ∨ 10000 < k
  · refine (callsIn_wide.2 (list_bad a k dn hk h w)).mono ?_
    rintro e W' ⟨rfl, hb⟩
    exact ⟨_, _, rfl, Or.inl ⟨h, rfl, rfl⟩, hb⟩
  · obtain ⟨j, rfl⟩ : ∃ j : Nat, k = j := ⟨k.toNat, by omega⟩
    have hj : j ≤ 10000 := by omega
    cases dn
    · refine (list_up m a j hm ha hj w hw).mono ?_
      rintro e W' ⟨v, rfl, hr, hb⟩
      exact ⟨_, _, rfl, Or.inr ⟨j, rfl, hj, rfl, hr⟩, hb⟩
    · refine (list_down m a j hm ha hj w hw).mono ?_
      rintro e W' ⟨v, rfl, hr, hb⟩
      exact ⟨_, _, rfl, Or.inr ⟨j, rfl, hj, rfl, hr⟩, hb⟩

theorem between_any (lo hi : Nat) (w : World) : Calls Tryd.prog 23 #[.int .u32 (lo : Int), .int .u32 (hi : Int)] w fun e w' => e = .returned (.func (.func 52) #[] #[.pointer (some ⟨w.heap.size, 0, none⟩), .pointer (some ⟨w.heap.size + 1, 0, none⟩)]) ∧ w' = (w.alloc (.cells #[.int .u32 (lo : Int)] 22)).alloc (.cells #[.int .u32 (hi : Int)] 22) := by
  go_enter Tryd.func23, Tryd.ntmps23
  go_wp2
  go_ret
  exact ⟨by simp, rfl⟩

/-- What the law holds all along: its argument's block, the result's box, the bases, what lay below. -/
def LP (dn : Bool) (lo hi : Nat) (w W : World) : Prop :=
  W.heap[w.heap.size]? = some (.cells #[.bool dn, .int .u32 (lo : Int), .int .u32 (hi : Int)] 28 (0, 0)) ∧ (∃ v, Boxed W (w.heap.size + 1) 4 v) ∧ Bases W ∧ Below w.heap.size w W
theorem LP.c0 {dn : Bool} {lo hi : Nat} {w W : World} (h : LP dn lo hi w W) : W.cell? ⟨w.heap.size, 0, none⟩ = some (.bool dn) := by simp [World.cell?, h.1]
theorem LP.c1 {dn : Bool} {lo hi : Nat} {w W : World} (h : LP dn lo hi w W) : W.cell? ⟨w.heap.size, 1, none⟩ = some (.int .u32 (lo : Int)) := by simp [World.cell?, h.1]
theorem LP.c2 {dn : Bool} {lo hi : Nat} {w W : World} (h : LP dn lo hi w W) : W.cell? ⟨w.heap.size, 2, none⟩ = some (.int .u32 (hi : Int)) := by simp [World.cell?, h.1]
theorem LP.c6 {dn : Bool} {lo hi : Nat} {w W : World} (h : LP dn lo hi w W) : ∃ v, W.cell? ⟨w.heap.size + 1, 0, none⟩ = some v ∧ W.frozen? ⟨w.heap.size + 1, 0, none⟩ = false := by
  obtain ⟨v, hv⟩ := h.2.1
  exact ⟨v, cell_of_box hv⟩
theorem LP.size {dn : Bool} {lo hi : Nat} {w W : World} (h : LP dn lo hi w W) : w.heap.size + 2 ≤ W.heap.size := by
  obtain ⟨v, hv⟩ := h.2.1
  have := hv.lt
  omega
theorem LP.keep {dn : Bool} {lo hi n : Nat} {w W W' : World} (h : LP dn lo hi w W) (hw : Bases w) (hb : Below n W W') (hn : w.heap.size + 2 ≤ n) : LP dn lo hi w W' := by
  obtain ⟨v, hv⟩ := h.2.1
  exact ⟨(hb.block _ (by omega)).trans h.1, ⟨v, (hb.block _ (by omega)).trans hv⟩, h.2.2.1.keep hb (by have := hw.lt; omega), h.2.2.2.trans (hb.mono (by omega))⟩
theorem LP.start (dn : Bool) (lo hi : Nat) (w : World) (hw : Bases w) (u : Value) : LP dn lo hi w ((w.alloc (.cells #[.bool dn, .int .u32 (lo : Int), .int .u32 (hi : Int)] 28)).alloc (.cells #[u] 4)) := by
  refine ⟨?_, ⟨u, ?_⟩, (hw.alloc _).alloc _, ((Below.refl _ w).alloc (Nat.le_refl _) _).alloc (by simp) _⟩
  · exact (Below.heap_alloc _ _ _ (by simp)).trans (World.alloc_heap_new w _)
  · have := Boxed.new (w.alloc (.cells #[.bool dn, .int .u32 (lo : Int), .int .u32 (hi : Int)] 28)) 4 u
    simpa using this

/-- A row of one's own by its cells. -/
theorem row_cells {W : World} {base : Nat} {A : Option Addr} {p : Nat} {L : List Nat} (h : W.ownsRow base 22 1 (.slice A L.length p) L.length (u32s L)) :
    ∃ g, L.length ≤ p ∧ p ≤ maxLen ∧ (L.length ≠ 0 → A = some ⟨g, 0, none⟩ ∧ base ≤ g ∧ g < W.heap.size) ∧ ∀ t, t < L.length → W.cell? ⟨g, t, none⟩ = some (.int .u32 ((L.getD t 0 : Nat) : Int)) ∧ W.frozen? ⟨g, t, none⟩ = false := by
  obtain ⟨hl, ⟨h, h0⟩ | ⟨g, cap, cur, hv, hg, hh, hnc, hcm, hsz, htk⟩⟩ := h
  · injection h with e1 e2 e3
    refine ⟨0, by omega, by omega, fun h => absurd h0 h, fun t ht => by omega⟩
  · injection hv with e1 e2 e3
    subst e3
    have hb : Blk W g 22 cur.toList := by simpa [Blk] using hh
    refine ⟨g, hnc, hcm, fun _ => ⟨e1, hg, hb.lt⟩, fun t ht => ⟨?_, hb.frozen _⟩⟩
    rw [hb.cell]
    have : (cur.toList.take (L.length * 1))[t]? = (u32s L)[t]? := by rw [htk]
    rw [List.getElem?_take, if_pos (by omega)] at this
    rw [this]
    simp [u32s, List.getD_eq_getElem?_getD, List.getElem?_eq_getElem ht]

/-- Where the law's first loop stands. -/
def LR (dn : Bool) (lo hi a j : Nat) (L : List Nat) (g1 g2 : Nat) (w : World) (s11 s12 s13 : Value) (W : World) : Prop :=
  ∃ (i at' : Nat) (mo : Bool), s11 = .int .u32 (at' : Int) ∧ s12 = .bool mo ∧ s13 = .int .i64 (i : Int) ∧ i ≤ j ∧ i ≤ L.length ∧ at' < 4294967296 ∧ (i = 0 → at' = a ∧ mo = isP a) ∧ (0 < i → at' = L.getD (i - 1) 0 ∧ mo = true) ∧
    LP dn lo hi w W ∧ (∀ t, i ≤ t → t < L.length → W.cell? ⟨g1, t, none⟩ = some (.int .u32 ((L.getD t 0 : Nat) : Int)) ∧ W.frozen? ⟨g1, t, none⟩ = false) ∧ (∀ t, t < L.length → W.cell? ⟨g2, t, none⟩ = some (.int .u32 ((L.getD t 0 : Nat) : Int)))

theorem take_getD {F : List Nat} {j t : Nat} (h : t < j) : (F.take j).getD t 0 = F.getD t 0 := by
  simp [List.getD_eq_getElem?_getD, h]
theorem pos_step {dn : Bool} {a j i at' : Nat} {mo : Bool} {F : List Nat} (ha : a < 4294967296) (hF : F = Full dn a) (hij : i < j) (hi : i ≤ (F.take j).length) (h0 : i = 0 → at' = a ∧ mo = isP a) (h1 : 0 < i → at' = (F.take j).getD (i - 1) 0 ∧ mo = true) :
    ((decide (0 < i) || !mo) = false → F.getD i 0 = at' ∧ decide (i < F.length) = true ∧ mo = true) ∧ ((decide (0 < i) || !mo) = true → Nx dn at' (F.getD i 0) (decide (i < F.length))) := by
  have hb := full_begins dn a ha
  have hc := full_chain dn a ha
  rw [← hF] at hb hc
  rw [List.length_take] at hi
  rcases Nat.eq_zero_or_pos i with rfl | hpos
  · obtain ⟨rfl, rfl⟩ := h0 rfl
    rcases isP_cases at' with ⟨hp, e⟩ | ⟨hp, e⟩
    · refine ⟨fun _ => ⟨(hb.1 hp).2, by simpa using (hb.1 hp).1, e⟩, fun h => ?_⟩
      rw [e] at h; simp at h
    · refine ⟨fun h => ?_, fun _ => hb.2 hp⟩
      rw [e] at h; simp at h
  · obtain ⟨rfl, rfl⟩ := h1 hpos
    refine ⟨fun h => ?_, fun _ => ?_⟩
    · simp at h; omega
    · rw [take_getD (by omega)]
      have := hc (i - 1) (by omega)
      rwa [show i - 1 + 1 = i from by omega] at this
theorem full_getD_lt {dn : Bool} {a : Nat} (ha : a < 4294967296) (i : Nat) : (Full dn a).getD i 0 < 4294967296 := by
  rw [List.getD_eq_getElem?_getD]
  rcases Nat.lt_or_ge i (Full dn a).length with h | h
  · rw [List.getElem?_eq_getElem h]
    exact full_lt dn a ha _ (List.getElem_mem h)
  · rw [List.getElem?_eq_none h]; decide
theorem rstep_any (dn : Bool) (n r : Nat) (ok : Bool) (hn : n < 4294967296) (h : Nx dn n r ok) (w : World) :
    Calls Tryd.prog (bif dn then 17 else 15) #[.int .u32 (n : Int)] w fun e w' => e = .returned (.tuple #[.int .u32 (r : Int), .bool ok]) ∧ w' = w := by
  cases dn
  · exact rnext_any n r ok hn h w
  · exact rlast_any n r ok hn h w
theorem lr_next {dn : Bool} {lo hi a j i x g1 g2 : Nat} {L : List Nat} {w W : World} (hw : Bases w) (hP : LP dn lo hi w W)
    (hc1 : ∀ t, i ≤ t → t < L.length → W.cell? ⟨g1, t, none⟩ = some (.int .u32 ((L.getD t 0 : Nat) : Int)) ∧ W.frozen? ⟨g1, t, none⟩ = false) (hc2 : ∀ t, t < L.length → W.cell? ⟨g2, t, none⟩ = some (.int .u32 ((L.getD t 0 : Nat) : Int)))
    (_ : i ≤ j) (hiL : i < L.length) (hj : i < j) (hx : x < 4294967296) (hxL : x = L.getD i 0) (hg : w.heap.size + 1 + 1 ≤ g1) (hne : g2 ≠ g1) :
    LR dn lo hi a j L g1 g2 w (.int .u32 (x : Int)) (.bool true) (.int .i64 ((i : Int) + 1)) (W.setCell ⟨g1, i, none⟩ (.int .u32 0)) := by
  refine ⟨i + 1, x, true, rfl, rfl, by simp, by omega, by omega, hx, fun h => by omega, fun _ => ⟨by simpa using hxL, rfl⟩, hP.keep hw ((Below.refl _ W).setCell (B := w.heap.size + 2) (p := ⟨g1, i, none⟩) (show w.heap.size + 2 ≤ g1 by omega) _) (Nat.le_refl _), fun t h1 h2 => ?_, fun t h2 => ?_⟩
  · have hh := hc1 t (by omega) h2
    refine ⟨(World.cell?_setCell_other _ _ _ _ (by intro h; injection h with h1 h2; omega)).trans hh.1, ?_⟩
    rw [World.frozen?_setCell]
    exact hh.2
  · have e := Below.heap_setCell W ⟨g1, i, none⟩ (.int .u32 0) g2 hne
    have : (W.setCell ⟨g1, i, none⟩ (.int .u32 0)).cell? ⟨g2, t, none⟩ = W.cell? ⟨g2, t, none⟩ := by simp only [World.cell?]; rw [e]
    exact this.trans (hc2 t h2)

/-- Behind the region that makes the boxes of 'at' and 'more'. -/
def L23 (lo : Nat) (V : World) (s15 s16 : Value) (W : World) : Prop :=
  ∃ b15 b16, s15 = .pointer (some ⟨b15, 0, none⟩) ∧ s16 = .pointer (some ⟨b16, 0, none⟩) ∧ b15 ≠ b16 ∧ V.heap.size ≤ b15 ∧ V.heap.size ≤ b16 ∧ Boxed W b15 22 (.int .u32 (lo : Int)) ∧ Boxed W b16 4 (.bool (isP lo)) ∧ Below V.heap.size V W
theorem l23_a (lo : Nat) (V : World) : L23 lo V (.pointer (some ⟨V.heap.size, 0, none⟩)) (.pointer (some ⟨V.heap.size + 1, 0, none⟩)) ((V.alloc (.cells #[.int .u32 (lo : Int)] 22)).alloc (.cells #[.bool (isP lo)] 4)).drew := by
  refine ⟨_, _, rfl, rfl, by omega, by omega, by omega, (Boxed.new V _ _).alloc _, ?_, (((Below.refl _ V).alloc (Nat.le_refl _) _).alloc (by simp) _).drew⟩
  have := Boxed.new (V.alloc (.cells #[.int .u32 (lo : Int)] 22)) 4 (.bool (isP lo))
  rw [World.size_alloc] at this
  exact this
theorem l23_b (lo : Nat) (V : World) : L23 lo V (.pointer (some ⟨V.heap.size + 1, 0, none⟩)) (.pointer (some ⟨V.heap.size, 0, none⟩)) ((V.alloc (.cells #[.bool (isP lo)] 4)).alloc (.cells #[.int .u32 (lo : Int)] 22)).drew := by
  refine ⟨_, _, rfl, rfl, by omega, by omega, by omega, ?_, (Boxed.new V _ _).alloc _, (((Below.refl _ V).alloc (Nat.le_refl _) _).alloc (by simp) _).drew⟩
  have := Boxed.new (V.alloc (.cells #[.bool (isP lo)] 4)) 22 (.int .u32 (lo : Int))
  rw [World.size_alloc] at this
  exact this

theorem boxed_far {W : World} {b b' : Nat} {t : TypeId} {v : Value} (h : Boxed W b t v) (hne : b ≠ b') (u : Value) : Boxed (W.setCell ⟨b', 0, none⟩ u) b t v := (Below.heap_setCell W ⟨b', 0, none⟩ u b hne).trans h
theorem LP.set {dn : Bool} {lo hi b : Nat} {w W : World} (h : LP dn lo hi w W) (hw : Bases w) (hb : w.heap.size + 2 ≤ b) (u : Value) : LP dn lo hi w (W.setCell ⟨b, 0, none⟩ u) :=
  h.keep hw ((Below.refl _ W).setCell (B := w.heap.size + 2) (p := ⟨b, 0, none⟩) hb u) (Nat.le_refl _)
/-- The second part's boxes: how many, what is to come, whether it comes. -/
def L2 (dn : Bool) (lo hi b14 b15 b16 : Nat) (w : World) (i at' : Nat) (mo : Bool) (W : World) : Prop :=
  LP dn lo hi w W ∧ Boxed W b14 3 (.int .i64 (i : Int)) ∧ Boxed W b15 22 (.int .u32 (at' : Int)) ∧ Boxed W b16 4 (.bool mo)
def Apart3 (w : World) (b14 b15 b16 : Nat) : Prop := w.heap.size + 2 ≤ b14 ∧ b14 < b15 ∧ b14 < b16 ∧ b15 ≠ b16
theorem L2.put {dn : Bool} {lo hi b14 b15 b16 i at' : Nat} {mo : Bool} {w W : World} (h : L2 dn lo hi b14 b15 b16 w i at' mo W) (hw : Bases w) (hA : Apart3 w b14 b15 b16) (r : Nat) (ok : Bool) :
    L2 dn lo hi b14 b15 b16 w i r ok ((W.setCell ⟨b15, 0, none⟩ (.int .u32 (r : Int))).setCell ⟨b16, 0, none⟩ (.bool ok)) := by
  obtain ⟨h1, h2, h3, h4⟩ := h
  obtain ⟨a1, a2, a3, a4⟩ := hA
  exact ⟨(h1.set hw (by omega) _).set hw (by omega) _, boxed_far (boxed_far h2 (by omega) _) (by omega) _, boxed_far (Boxed.set _ h3) a4 _, Boxed.set _ (boxed_far h4 (Ne.symm a4) _)⟩
theorem L2.inc {dn : Bool} {lo hi b14 b15 b16 i at' : Nat} {mo : Bool} {w W : World} (h : L2 dn lo hi b14 b15 b16 w i at' mo W) (hw : Bases w) (hA : Apart3 w b14 b15 b16) (i' : Nat) :
    L2 dn lo hi b14 b15 b16 w i' at' mo (W.setCell ⟨b14, 0, none⟩ (.int .i64 (i' : Int))) := by
  obtain ⟨h1, h2, h3, h4⟩ := h
  obtain ⟨a1, a2, a3, a4⟩ := hA
  exact ⟨h1.set hw (by omega) _, Boxed.set _ h2, boxed_far h3 (by omega) _, boxed_far h4 (by omega) _⟩
theorem L2.below {dn : Bool} {lo hi b14 b15 b16 i at' n : Nat} {mo : Bool} {w W W' : World} (h : L2 dn lo hi b14 b15 b16 w i at' mo W) (hw : Bases w) (hA : Apart3 w b14 b15 b16) (hb : Below n W W') (hn : b15 < n ∧ b16 < n) : L2 dn lo hi b14 b15 b16 w i at' mo W' := by
  obtain ⟨h1, h2, h3, h4⟩ := h
  obtain ⟨a1, a2, a3, a4⟩ := hA
  exact ⟨h1.keep hw hb (by omega), (hb.block _ (by omega)).trans h2, (hb.block _ (by omega)).trans h3, (hb.block _ (by omega)).trans h4⟩
theorem boxed_own {A C : World} {B b : Nat} {t : TypeId} {v : Value} {row : Option Nat} (h : Boxed A b t v) (hg : A.grownBy C row) (hr : ∀ r, row = some r → B ≤ r ∧ ∃ o : Obj, A.heap[r]? = some o ∧ o.isCells = false) : Boxed C b t v := h.kept hg fun e => by
  obtain ⟨_, o, ho, hc⟩ := hr _ e.symm
  rw [show _ = _ from h] at ho; cases ho; cases hc
theorem LP.own {dn : Bool} {lo hi B : Nat} {w A C : World} {row : Option Nat} (h : LP dn lo hi w A) (hw : Bases w) (hB : w.heap.size + 2 ≤ B) (hg : A.grownBy C row) (hr : ∀ r, row = some r → B ≤ r ∧ ∃ o : Obj, A.heap[r]? = some o ∧ o.isCells = false) : LP dn lo hi w C := by
  have hs := h.size
  exact h.keep hw (n := w.heap.size + 2) ⟨hg.os, hg.tape, hg.output, hg.size, fun k hk => hg.block k (by omega) fun e => by have := (hr k e.symm).1; omega⟩ (Nat.le_refl _)
theorem L2.own {dn : Bool} {lo hi b14 b15 b16 i at' B : Nat} {mo : Bool} {w A C : World} {row : Option Nat} (h : L2 dn lo hi b14 b15 b16 w i at' mo A) (hw : Bases w) (hB : w.heap.size + 2 ≤ B) (hg : A.grownBy C row) (hr : ∀ r, row = some r → B ≤ r ∧ ∃ o : Obj, A.heap[r]? = some o ∧ o.isCells = false) : L2 dn lo hi b14 b15 b16 w i at' mo C :=
  ⟨h.1.own hw hB hg hr, boxed_own h.2.1 hg hr, boxed_own h.2.2.1 hg hr, boxed_own h.2.2.2 hg hr⟩

/-- What is to come after so many primes from lo on. -/
noncomputable def At (lo i : Nat) : Nat := (up lo 4294967296).getD i 0
noncomputable def Mo (lo i : Nat) : Bool := decide (i < (up lo 4294967296).length)
theorem at_lt (lo i : Nat) : At lo i < 4294967296 := by
  unfold At
  rw [List.getD_eq_getElem?_getD]
  rcases Nat.lt_or_ge i (up lo 4294967296).length with h | h
  · rw [List.getElem?_eq_getElem h]
    exact (mem_up.1 (List.getElem_mem h)).2.1
  · rw [List.getElem?_eq_none h]; decide
theorem at_zero {lo : Nat} (hlo : lo < 4294967296) : (isP lo = true → At lo 0 = lo ∧ Mo lo 0 = true) ∧ (isP lo = false → NextIs lo (At lo 0) (Mo lo 0)) := by
  have h := up_begins hlo
  rcases isP_cases lo with ⟨hp, e⟩ | ⟨hp, e⟩
  · exact ⟨fun _ => ⟨(h.1 hp).2, by unfold Mo; simpa using (h.1 hp).1⟩, fun h2 => by rw [e] at h2; cases h2⟩
  · exact ⟨fun h2 => (by rw [e] at h2; cases h2), fun _ => h.2 hp⟩
theorem at_next {lo i : Nat} (hlo : lo < 4294967296) (h : Mo lo i = true) : NextIs (At lo i) (At lo (i + 1)) (Mo lo (i + 1)) :=
  up_chain (4294967296 - lo) lo (by omega) i (of_decide_eq_true h)

/-- Between two rounds over the primes; and when one has left. -/
def J30 (dn : Bool) (lo hi b14 b15 b16 b17 : Nat) (w : World) (pre : List U32) (W : World) : Prop :=
  L2 dn lo hi b14 b15 b16 w pre.length (At lo pre.length) (Mo lo pre.length) W ∧ Boxed W b17 4 (.bool true) ∧ pre.length < 30
def JX (dn : Bool) (lo hi b17 : Nat) (w : World) (c : Code) (pre : List U32) (W : World) : Prop :=
  (c = .ret ∧ ∃ p x, pre = p ++ [x] ∧ ¬ (Mo lo p.length = true ∧ x.1 = At lo p.length ∧ x.1 ≤ hi)) ∨ (c = .exit 2 ∧ LP dn lo hi w W ∧ Boxed W b17 4 (.bool false))
theorem J30.own {dn : Bool} {lo hi b14 b15 b16 b17 B : Nat} {w : World} (hw : Bases w) (hB : w.heap.size + 2 ≤ B) : OwnFrom B (J30 dn lo hi b14 b15 b16 b17 w) :=
  fun _ _ _ _ h hg hr => ⟨h.1.own hw hB hg hr, boxed_own h.2.1 hg hr, h.2.2⟩
theorem JX.own {dn : Bool} {lo hi b17 B : Nat} {w : World} (hw : Bases w) (hB : w.heap.size + 2 ≤ B) (c : Code) : OwnFrom B (JX dn lo hi b17 w c) :=
  fun _ _ _ _ h hg hr => h.imp id fun ⟨h1, h2, h3⟩ => ⟨h1, h2.own hw hB hg hr, boxed_own h3 hg hr⟩
/-- The right one comes. -/
theorem betw_right {lo hi : Nat} {p q : List U32} {x m : U32} (he : p ++ [x] = q ++ [m]) (h1 : lo ≤ m.1) (h2 : m.1 ≤ hi) (h3 : Pr m.1) (h4 : q.map (·.1) = up lo m.1) : Mo lo p.length = true ∧ x.1 = At lo p.length ∧ x.1 ≤ hi := by
  obtain ⟨rfl, hx⟩ := List.append_inj' he rfl
  obtain rfl : x = m := by simpa using hx
  have hm := x.2
  have hl : p.length = (up lo x.1).length := by rw [← h4, List.length_map]
  have e : up lo 4294967296 = up lo x.1 ++ (x.1 :: up (x.1 + 1) 4294967296) := by
    rw [up_append h1 (show x.1 ≤ 4294967296 by omega), up_cons hm, if_pos (isP_true h3)]
  refine ⟨?_, ?_, h2⟩
  · unfold Mo
    rw [e, hl, List.length_append, List.length_cons]
    exact decide_eq_true (by omega)
  · unfold At
    rw [e, hl, List.getD_eq_getElem?_getD, List.getElem?_append_right (Nat.le_refl _)]
    simp
/-- When all have come, what is to come lies above. -/
theorem betw_all {lo hi : Nat} {xs : List U32} (hhi : hi < 4294967296) (h : xs.map (·.1) = up lo (hi + 1)) (hm : Mo lo xs.length = true) : hi < At lo xs.length := by
  have hi1 := of_decide_eq_true hm
  have hl : xs.length = (up lo (hi + 1)).length := by rw [← h, List.length_map]
  rcases Nat.lt_or_ge (hi + 1) lo with h1 | h1
  · unfold At
    rw [List.getD_eq_getElem?_getD, List.getElem?_eq_getElem hi1]
    have := (mem_up.1 (List.getElem_mem hi1)).1
    simp only [Option.getD_some]
    omega
  · have e : up lo 4294967296 = up lo (hi + 1) ++ up (hi + 1) 4294967296 := up_append h1 (by omega)
    unfold At
    have hi2 : 0 < (up (hi + 1) 4294967296).length := by
      rw [e, List.length_append] at hi1
      omega
    rw [e, hl, List.getD_eq_getElem?_getD, List.getElem?_append_right (Nat.le_refl _), Nat.sub_self, List.getElem?_eq_getElem hi2]
    have := (mem_up.1 (List.getElem_mem hi2)).1
    simp only [Option.getD_some]
    omega
theorem kb_set {n₀ n₁ b : Nat} {W W1 : World} (h : KB n₀ n₁ W W1) (h0 : n₀ ≤ b) (h1 : b < n₁) (u : Value) : KB n₀ n₁ W (W1.setCell ⟨b, 0, none⟩ u) :=
  ⟨h.1.setCell (p := ⟨b, 0, none⟩) h0 u, fun c t v hc hx => boxed_far (h.2 c t v hc hx) (by omega) u⟩
theorem kb_refl (n₀ n₁ : Nat) (W : World) : KB n₀ n₁ W W := ⟨Below.refl _ _, fun _ _ _ _ h => h⟩
theorem lists_end {dn : Bool} {lo hi D : Nat} {w W : World} (h : LP dn lo hi w W) (hD : w.heap.size + 2 ≤ D) (hK : W.heap[D]? = some (.deferred (some []))) :
    (W.setCell ⟨w.heap.size + 1, 0, none⟩ (.bool true)).heap[D]? = some (.deferred (some [])) ∧ ((W.setCell ⟨w.heap.size + 1, 0, none⟩ (.bool true)).putObj D (.deferred none)).cell? ⟨w.heap.size + 1, 0, none⟩ = some (.bool true) ∧
      Below w.heap.size w ((W.setCell ⟨w.heap.size + 1, 0, none⟩ (.bool true)).putObj D (.deferred none)) := by
  obtain ⟨v, hc, _⟩ := h.c6
  have hK1 := (KeepsOthers.setCell W ⟨w.heap.size + 1, 0, none⟩ (.bool true)).same D _ hK rfl
  refine ⟨hK1, cell_kept (cell_set hc _) (grownBy_putObj' _ D (.deferred none)) (fun r e => by cases e; exact ⟨_, hK1, rfl⟩), ?_⟩
  exact (h.2.2.2.setCell (p := ⟨w.heap.size + 1, 0, none⟩) (by simp) (.bool true)).trans (belowK_b (w := w) (Nat.le_refl _) _ D _ _ (by omega) hK1 rfl rfl)
end Go.Proofs.YtnjhppdcpjgfmaaDoor
