/- The contracts of prime's Next and Last. Conditions: bases reads 2, 7, 61. -/
import Derived.Deep.RegionHeld
import Derived.Test.YtnjhppdcpjgfmaaDoorRise
namespace Go.Proofs.YtnjhppdcpjgfmaaDoor
open Go.RowKit Go.Shelf

attribute [local go_sem] Oper.semAt_some

theorem cell_set {w : World} {a : Addr} {u : Value} (h : w.cell? a = some u) (v : Value) : (w.setCell a v).cell? a = some v := World.cell?_setCell_same' _ _ _ (by rw [h]; rfl)
theorem cell_of_box {W : World} {B : Nat} {v : Value} {t : TypeId} (h : W.heap[B]? = some (.cells #[v] t (0, 0))) : W.cell? ⟨B, 0, none⟩ = some v ∧ W.frozen? ⟨B, 0, none⟩ = false := by
  constructor <;> simp [World.cell?, World.frozen?, h]
theorem cell_new_l (W : World) (v : Value) (t : TypeId) : (W.alloc (.cells #[v] t)).cell? ⟨W.heap.size, 0, none⟩ = some v ∧ (W.alloc (.cells #[v] t)).frozen? ⟨W.heap.size, 0, none⟩ = false :=
  cell_of_box (World.alloc_heap_new W _)
theorem cell_alloc_l {W : World} {a : Addr} {v : Value} (o : Obj) (h : W.cell? a = some v) : (W.alloc o).cell? a = some v := cell_kept h (World.grownBy_alloc W o none) (fun r e => by cases e)
theorem frozen_alloc_l {W : World} {a : Addr} {v : Value} (o : Obj) (h : W.cell? a = some v) (hf : W.frozen? a = false) : (W.alloc o).frozen? a = false := (frozen_kept h (World.grownBy_alloc W o none) (fun r e => by cases e)).trans hf

def RiseAll (a : Nat) (ys : List U32) : Prop := ys.map (·.1) = up a 4294967296
def RisePart (a : Nat) (pre : List U32) : Prop := ∃ (p : List U32) (m : U32), pre = p ++ [m] ∧ a ≤ m.1 ∧ Pr m.1 ∧ p.map (·.1) = up a m.1
theorem rising_stops (n : Nat) (hn : 1 ≤ n) (Bn n₀ a : Nat) (ha : a < 4294967296) (w : World) (hBn : Bn < w.heap.size) (_hn₀ : n₀ ≤ w.heap.size) (hc : w.cell? ⟨Bn, 0, none⟩ = some (.int .u32 (a : Int))) (hw : Bases w) (hlt : 0 < n₀) :
    SeqStopsK Fence.wide n Tryd.prog 63 #[.pointer (some ⟨Bn, 0, none⟩)] encU (Below n₀) (RiseAll a) (RisePart a) 4294967296 w := fun l J Jx W hW _ _ hY h0 =>
  (rising1_in n hn l Bn n₀ a ha J Jx hY W ((hW.cell (p := ⟨Bn, 0, none⟩) hBn).trans hc) (hw.keep hW (by omega)) hlt h0).mono fun e W' ⟨h1, h2⟩ => ⟨h1, h2.elim (fun ⟨ys, a1, a2⟩ => Or.inl ⟨ys, a1, a2⟩) fun ⟨p, m, a1, a2, a3, a4⟩ => Or.inr ⟨p ++ [m], ⟨p, m, rfl, a1, a2, a3⟩, a4⟩⟩
def FallAll (a : Nat) (ys : List U32) : Prop := ys.map (·.1) = down a 1
def FallPart (a : Nat) (pre : List U32) : Prop := ∃ (p : List U32) (m : U32), pre = p ++ [m] ∧ m.1 ≤ a ∧ Pr m.1 ∧ p.map (·.1) = down a m.1
theorem falling_stops (n : Nat) (hn : 1 ≤ n) (Bn n₀ a : Nat) (ha : a < 4294967296) (w : World) (hBn : Bn < w.heap.size) (_hn₀ : n₀ ≤ w.heap.size) (hc : w.cell? ⟨Bn, 0, none⟩ = some (.int .u32 (a : Int))) (hw : Bases w) (hlt : 0 < n₀) :
    SeqStopsK Fence.wide n Tryd.prog 64 #[.pointer (some ⟨Bn, 0, none⟩)] encU (Below n₀) (FallAll a) (FallPart a) 4294967296 w := fun l J Jx W hW _ _ hY h0 =>
  (falling1_in n hn l Bn n₀ a ha J Jx hY W ((hW.cell (p := ⟨Bn, 0, none⟩) hBn).trans hc) (hw.keep hW (by omega)) hlt h0).mono fun e W' ⟨h1, h2⟩ => ⟨h1, h2.elim (fun ⟨ys, a1, a2⟩ => Or.inl ⟨ys, a1, a2⟩) fun ⟨p, m, a1, a2, a3, a4⟩ => Or.inr ⟨p ++ [m], ⟨p, m, rfl, a1, a2, a3⟩, a4⟩⟩

theorem rising_any (a : Nat) (w : World) : Calls Tryd.prog 47 #[.int .u32 (a : Int)] w fun e w' => e = .returned (.func (.func 63) #[] #[.pointer (some ⟨w.heap.size, 0, none⟩)]) ∧ w' = w.alloc (.cells #[.int .u32 (a : Int)] 22) := by
  go_enter Tryd.func47, Tryd.ntmps47
  go_wp2
  go_ret
  exact ⟨rfl, rfl⟩
theorem falling_any (a : Nat) (w : World) : Calls Tryd.prog 48 #[.int .u32 (a : Int)] w fun e w' => e = .returned (.func (.func 64) #[] #[.pointer (some ⟨w.heap.size, 0, none⟩)]) ∧ w' = w.alloc (.cells #[.int .u32 (a : Int)] 22) := by
  go_enter Tryd.func48, Tryd.ntmps48
  go_wp2
  go_ret
  exact ⟨rfl, rfl⟩

/-- What Next answers. -/
def NextIs (n r : Nat) (ok : Bool) : Prop := (ok = true ∧ Pr r ∧ n < r ∧ r < 4294967296 ∧ ∀ m, n < m → m < r → ¬ Pr m) ∨ (ok = false ∧ r = 0 ∧ ∀ m, n < m → m < 4294967296 → ¬ Pr m)
def NextPost (k : Nat) (w : World) (e : Ending) (W' : World) : Prop := (∃ (r : Nat) (ok : Bool), e = .returned (.tuple #[.int .u32 (r : Int), .bool ok]) ∧ NextIs k r ok) ∧ Below w.heap.size w W'

/-- Between two rounds; and when a round has left. -/
def NI (w : World) (pre : List U32) (W : World) : Prop := (pre = [] ∧ W.cell? ⟨w.heap.size, 0, none⟩ = some (.int .u32 0) ∧ W.cell? ⟨w.heap.size + 1, 0, none⟩ = some (.bool false) ∧ W.frozen? ⟨w.heap.size, 0, none⟩ = false ∧ W.frozen? ⟨w.heap.size + 1, 0, none⟩ = false) ∧ Below w.heap.size w W
def NX (w : World) (c : Code) (pre : List U32) (W : World) : Prop := (c = .ret ∧ ∃ x : U32, pre = [x] ∧ W.cell? ⟨w.heap.size, 0, none⟩ = some (.int .u32 (x.1 : Int)) ∧ W.cell? ⟨w.heap.size + 1, 0, none⟩ = some (.bool true)) ∧ Below w.heap.size w W
theorem NI.own (w : World) (B : Nat) (hB : w.heap.size ≤ B) : OwnFrom B (NI w) :=
  OwnFrom.and (Own.from (fun _ _ _ _ hs hg hr => ⟨hs.1, cell_kept hs.2.1 hg hr, cell_kept hs.2.2.1 hg hr, (frozen_kept hs.2.1 hg hr).trans hs.2.2.2.1, (frozen_kept hs.2.2.1 hg hr).trans hs.2.2.2.2⟩) _) (ownFrom_below (Nat.le_refl _) hB)
theorem NX.own (w : World) (B : Nat) (hB : w.heap.size ≤ B) (c : Code) : OwnFrom B (NX w c) :=
  OwnFrom.and (Own.from (fun _ _ _ _ hs hg hr => ⟨hs.1, hs.2.imp fun _ hx => ⟨hx.1, cell_kept hx.2.1 hg hr, cell_kept hx.2.2 hg hr⟩⟩) _) (ownFrom_below (Nat.le_refl _) hB)
theorem NI.round {w W : World} {pre : List U32} (h : NI w pre W) (x : U32) : NX w .ret (pre ++ [x]) ((W.setCell ⟨w.heap.size, 0, none⟩ (.int .u32 (x.1 : Int))).setCell ⟨w.heap.size + 1, 0, none⟩ (.bool true)) := by
  obtain ⟨⟨rfl, hc0, hc1, hf0, hf1⟩, hB⟩ := h
  refine ⟨⟨rfl, x, rfl, ?_, ?_⟩, (hB.setCell (p := ⟨w.heap.size, 0, none⟩) (Nat.le_refl _) _).setCell (p := ⟨w.heap.size + 1, 0, none⟩) (by simp) _⟩
  · rw [World.cell?_setCell_far _ _ _ _ (by simp)]
    exact cell_set hc0 _
  · exact cell_set (by rw [World.cell?_setCell_far _ _ _ _ (by simp)]; exact hc1) _

set_option maxRecDepth 100000 in
set_option maxHeartbeats 2000000 in
theorem next_in (m k : Nat) (hm : 3 ≤ m) (hk : k < 4294967295) (w : World) (hw : Bases w) :
    CallsIn Fence.wide m Tryd.prog 14 #[.int .u32 (k : Int)] w (NextPost k w) := by
  have hb0 := hw.lt
  have Hw := Lib.hid hw
  have h1 : 1 ≤ m := by omega
  have HR := Lib.hid (fun W => rising_any (k + 1) W)
  rw [show ((k + 1 : Nat) : Int) = (k : Int) + 1 from by go_num] at HR
  have tk : (k : Int) < 4294967295 := by omega
  have Hk := Lib.hid hk
  clear hw hk
  refine callsIn_of_wp_marks Tryd.func14 rfl trivial ?_ rfl
  simp only [Tryd.ntmps14, List.size_toArray, List.length_cons, List.length_nil, Nat.reduceAdd, Nat.reduceSub, Array.replicate_succ, Array.replicate_zero, List.push_toArray, List.append_toArray, List.nil_append, List.cons_append]
  gi_wp2_with fail
  refine ⟨trivial, (callsIn_wide.2 (HR.out _)).mono ?_⟩
  rintro e _ ⟨rfl, rfl⟩
  gi_wp2_with fail
  have c0 := cell_new_l w (.int .u32 0) 22
  have c1 := cell_new_l (w.alloc (.cells #[.int .u32 0] 22)) (.bool false) 4
  have c2 := cell_new_l ((w.alloc (.cells #[.int .u32 0] 22)).alloc (.cells #[.bool false] 4)) (.int .u32 ((k : Int) + 1)) 22
  simp only [World.size_alloc] at c1 c2
  have hB0 : Below w.heap.size w (((w.alloc (.cells #[.int .u32 0] 22)).alloc (.cells #[.bool false] 4)).alloc (.cells #[.int .u32 ((k : Int) + 1)] 22)) := (((Below.refl _ w).alloc (Nat.le_refl _) _).alloc (by simp) _).alloc (by simp; omega) _
  have c2n := c2.1
  rw [show (k : Int) + 1 = ((k + 1 : Nat) : Int) from by go_num] at c2n
  refine wpIn_rangeFunc_ownF rfl h1 (gf := 63) (lb := #[.pointer (some ⟨w.heap.size + 1 + 1, 0, none⟩)]) rfl trivial (enters_of Tryd.func63 (by kernel_rfl) rfl)
    (rising_stops (m - 1) (by omega) (w.heap.size + 1 + 1) w.heap.size (k + 1) (by have := Hk.out; omega) _ (by simp) (by simp; omega) c2n (Hw.out.keep hB0 hb0) hb0) belowK_t (belowK_b (by simp; omega)) (Below.refl _ _) (fun _ => rfl)
    (NI w) (NX w) (NI.own w _ (by simp; omega)) (NX.own w _ (by simp; omega))
    ⟨⟨rfl, cell_alloc_l _ (cell_alloc_l _ c0.1), cell_alloc_l _ c1.1, frozen_alloc_l _ (cell_alloc_l _ c0.1) (frozen_alloc_l _ c0.1 c0.2), frozen_alloc_l _ c1.1 c1.2⟩, hB0⟩
    ?act ?assign ?body ?done ?stop
  case assign =>
    intro l x W K hK
    gi_wp2
    exact hK
  case body =>
    intro l pre x W hI hlen
    clear hlen
    have HN := Lib.hid (hI.round x)
    obtain ⟨⟨hpre, hc0, hc1, hf0, hf1⟩, hB⟩ := hI
    clear hpre hB c0 c1 c2 c2n hB0
    gi_wp2
    exact ⟨(KeepsOthers.setCell _ _ _).trans (KeepsOthers.setCell _ _ _), HN.out⟩
  case done =>
    rintro D ys W hD hys ⟨⟨rfl, hc0, hc1, hf0, hf1⟩, hB⟩ hK
    gi_wp2
    have hK1 := (KeepsOthers.setCell W ⟨w.heap.size, 0, none⟩ (.int .u32 0)).same D _ hK rfl
    have hK' := (KeepsOthers.setCell (W.setCell ⟨w.heap.size, 0, none⟩ (.int .u32 0)) ⟨w.heap.size + 1, 0, none⟩ (.bool false)).same D _ hK1 rfl
    have hB2 := (hB.setCell (p := ⟨w.heap.size, 0, none⟩) (Nat.le_refl _) (.int .u32 0)).setCell (p := ⟨w.heap.size + 1, 0, none⟩) (by simp) (.bool false)
    have hd0 : ((W.setCell ⟨w.heap.size, 0, none⟩ (.int .u32 0)).setCell ⟨w.heap.size + 1, 0, none⟩ (.bool false)).cell? ⟨w.heap.size, 0, none⟩ = some (.int .u32 0) := by
      rw [World.cell?_setCell_far _ _ _ _ (by simp)]; exact cell_set hc0 _
    have hd1 : ((W.setCell ⟨w.heap.size, 0, none⟩ (.int .u32 0)).setCell ⟨w.heap.size + 1, 0, none⟩ (.bool false)).cell? ⟨w.heap.size + 1, 0, none⟩ = some (.bool false) :=
      cell_set (by rw [World.cell?_setCell_far _ _ _ _ (by simp)]; exact hc1) _
    refine ⟨by simp, .inl ⟨_, _, rfl, run_takeDeferred hK', ?_⟩⟩
    have e0 := cell_kept hd0 (grownBy_putObj' _ D (.deferred none)) (fun r e => by cases e; exact ⟨_, hK', rfl⟩)
    have e1 := cell_kept hd1 (grownBy_putObj' _ D (.deferred none)) (fun r e => by cases e; exact ⟨_, hK', rfl⟩)
    refine ⟨.tuple #[.int .u32 0, .bool false], ?_, ⟨0, false, rfl, Or.inr ⟨rfl, rfl, fun q hq1 hq2 => up_nil (show up (k + 1) 4294967296 = [] from hys.symm) q hq1 hq2⟩⟩, hB2.trans (belowK_b (w := w) (Nat.le_refl _) _ D _ _ (by simp at hD; omega) hK' rfl rfl)⟩
    simp [results, Tryd.f14, go_sem, e0, e1]
  case stop =>
    rintro D c pre W hD ⟨p, q, hpq, hq1, hq2, hq3⟩ ⟨⟨rfl, x, rfl, hc0, hc1⟩, hB⟩ hK
    obtain ⟨rfl, rfl⟩ : p = [] ∧ q = x := by
      cases p with
      | nil => simp at hpq; exact ⟨rfl, hpq.symm⟩
      | cons a b => simp at hpq
    gi_wp2
    refine ⟨by simp, .inl ⟨_, _, rfl, run_takeDeferred hK, ?_⟩⟩
    have e0 := cell_kept hc0 (grownBy_putObj' _ D (.deferred none)) (fun r e => by cases e; exact ⟨_, hK, rfl⟩)
    have e1 := cell_kept hc1 (grownBy_putObj' _ D (.deferred none)) (fun r e => by cases e; exact ⟨_, hK, rfl⟩)
    refine ⟨.tuple #[.int .u32 (q.1 : Int), .bool true], ?_, ⟨q.1, true, rfl, Or.inl ⟨rfl, hq2, hq1, q.2, fun j hj1 hj2 => up_nil (show up (k + 1) q.1 = [] from hq3.symm) j hj1 hj2⟩⟩, hB.trans (belowK_b (w := w) (Nat.le_refl _) _ D _ _ (by simp at hD; omega) hK rfl rfl)⟩
    simp [results, Tryd.f14, go_sem, e0, e1]
/-- What Last answers. -/
def LastIs (n r : Nat) (ok : Bool) : Prop := (ok = true ∧ Pr r ∧ r < n ∧ ∀ m, r < m → m < n → ¬ Pr m) ∨ (ok = false ∧ r = 0 ∧ ∀ m, m < n → ¬ Pr m)
def LastPost (k : Nat) (w : World) (e : Ending) (W' : World) : Prop := (∃ (r : Nat) (ok : Bool), e = .returned (.tuple #[.int .u32 (r : Int), .bool ok]) ∧ LastIs k r ok) ∧ Below w.heap.size w W'

set_option maxRecDepth 100000 in
set_option maxHeartbeats 2000000 in
theorem last_in (m n k : Nat) (hm : 3 ≤ m) (hk : k < 4294967296) (hn : n = k + 1) (hn2 : n < 4294967296) (w : World) (hw : Bases w) :
    CallsIn Fence.wide m Tryd.prog 16 #[.int .u32 (n : Int)] w (LastPost n w) := by
  have hb0 := hw.lt
  have Hw := Lib.hid hw
  have h1 : 1 ≤ m := by omega
  have HR := Lib.hid (fun W => falling_any k W)
  have tk : (n : Int) - 1 = (k : Int) := by omega
  have hn0 : 0 < n := by omega
  have Hk := Lib.hid hk
  have Hn := Lib.hid hn
  clear hw hk hn
  refine callsIn_of_wp_marks Tryd.func16 rfl trivial ?_ rfl
  simp only [Tryd.ntmps16, List.size_toArray, List.length_cons, List.length_nil, Nat.reduceAdd, Nat.reduceSub, Array.replicate_succ, Array.replicate_zero, List.push_toArray, List.append_toArray, List.nil_append, List.cons_append]
  gi_wp2_with fail
  refine ⟨trivial, (callsIn_wide.2 (HR.out _)).mono ?_⟩
  rintro e _ ⟨rfl, rfl⟩
  gi_wp2_with fail
  have c0 := cell_new_l w (.int .u32 0) 22
  have c1 := cell_new_l (w.alloc (.cells #[.int .u32 0] 22)) (.bool false) 4
  have c2 := cell_new_l ((w.alloc (.cells #[.int .u32 0] 22)).alloc (.cells #[.bool false] 4)) (.int .u32 (k : Int)) 22
  simp only [World.size_alloc] at c1 c2
  have hB0 : Below w.heap.size w (((w.alloc (.cells #[.int .u32 0] 22)).alloc (.cells #[.bool false] 4)).alloc (.cells #[.int .u32 (k : Int)] 22)) := (((Below.refl _ w).alloc (Nat.le_refl _) _).alloc (by simp) _).alloc (by simp; omega) _
  have c2n := c2.1
  refine wpIn_rangeFunc_ownF rfl h1 (gf := 64) (lb := #[.pointer (some ⟨w.heap.size + 1 + 1, 0, none⟩)]) rfl trivial (enters_of Tryd.func64 (by kernel_rfl) rfl)
    (falling_stops (m - 1) (by omega) (w.heap.size + 1 + 1) w.heap.size k Hk.out _ (by simp) (by simp; omega) c2n (Hw.out.keep hB0 hb0) hb0) belowK_t (belowK_b (by simp; omega)) (Below.refl _ _) (fun _ => rfl)
    (NI w) (NX w) (NI.own w _ (by simp; omega)) (NX.own w _ (by simp; omega))
    ⟨⟨rfl, cell_alloc_l _ (cell_alloc_l _ c0.1), cell_alloc_l _ c1.1, frozen_alloc_l _ (cell_alloc_l _ c0.1) (frozen_alloc_l _ c0.1 c0.2), frozen_alloc_l _ c1.1 c1.2⟩, hB0⟩
    ?act ?assign ?body ?done ?stop
  case assign =>
    intro l x W K hK
    gi_wp2
    exact hK
  case body =>
    intro l pre x W hI hlen
    clear hlen
    have HN := Lib.hid (hI.round x)
    obtain ⟨⟨hpre, hc0, hc1, hf0, hf1⟩, hB⟩ := hI
    clear hpre hB c0 c1 c2 c2n hB0
    gi_wp2
    exact ⟨(KeepsOthers.setCell _ _ _).trans (KeepsOthers.setCell _ _ _), HN.out⟩
  case done =>
    rintro D ys W hD hys ⟨⟨rfl, hc0, hc1, hf0, hf1⟩, hB⟩ hK
    gi_wp2
    have hK1 := (KeepsOthers.setCell W ⟨w.heap.size, 0, none⟩ (.int .u32 0)).same D _ hK rfl
    have hK' := (KeepsOthers.setCell (W.setCell ⟨w.heap.size, 0, none⟩ (.int .u32 0)) ⟨w.heap.size + 1, 0, none⟩ (.bool false)).same D _ hK1 rfl
    have hB2 := (hB.setCell (p := ⟨w.heap.size, 0, none⟩) (Nat.le_refl _) (.int .u32 0)).setCell (p := ⟨w.heap.size + 1, 0, none⟩) (by simp) (.bool false)
    have hd0 : ((W.setCell ⟨w.heap.size, 0, none⟩ (.int .u32 0)).setCell ⟨w.heap.size + 1, 0, none⟩ (.bool false)).cell? ⟨w.heap.size, 0, none⟩ = some (.int .u32 0) := by
      rw [World.cell?_setCell_far _ _ _ _ (by simp)]; exact cell_set hc0 _
    have hd1 : ((W.setCell ⟨w.heap.size, 0, none⟩ (.int .u32 0)).setCell ⟨w.heap.size + 1, 0, none⟩ (.bool false)).cell? ⟨w.heap.size + 1, 0, none⟩ = some (.bool false) :=
      cell_set (by rw [World.cell?_setCell_far _ _ _ _ (by simp)]; exact hc1) _
    refine ⟨by simp, .inl ⟨_, _, rfl, run_takeDeferred hK', ?_⟩⟩
    have e0 := cell_kept hd0 (grownBy_putObj' _ D (.deferred none)) (fun r e => by cases e; exact ⟨_, hK', rfl⟩)
    have e1 := cell_kept hd1 (grownBy_putObj' _ D (.deferred none)) (fun r e => by cases e; exact ⟨_, hK', rfl⟩)
    refine ⟨.tuple #[.int .u32 0, .bool false], ?_, ⟨0, false, rfl, Or.inr ⟨rfl, rfl, fun q hq1 hp => up_nil (List.reverse_eq_nil_iff.1 (show (up (1 + 1) (k + 1)).reverse = [] from hys.symm)) q (by have := hp.1; omega) (by have := Hn.out; omega) hp⟩⟩, hB2.trans (belowK_b (w := w) (Nat.le_refl _) _ D _ _ (by simp at hD; omega) hK' rfl rfl)⟩
    simp [results, Tryd.f16, go_sem, e0, e1]
  case stop =>
    rintro D c pre W hD ⟨p, q, hpq, hq1, hq2, hq3⟩ ⟨⟨rfl, x, rfl, hc0, hc1⟩, hB⟩ hK
    obtain ⟨rfl, rfl⟩ : p = [] ∧ q = x := by
      cases p with
      | nil => simp at hpq; exact ⟨rfl, hpq.symm⟩
      | cons a b => simp at hpq
    gi_wp2
    refine ⟨by simp, .inl ⟨_, _, rfl, run_takeDeferred hK, ?_⟩⟩
    have e0 := cell_kept hc0 (grownBy_putObj' _ D (.deferred none)) (fun r e => by cases e; exact ⟨_, hK, rfl⟩)
    have e1 := cell_kept hc1 (grownBy_putObj' _ D (.deferred none)) (fun r e => by cases e; exact ⟨_, hK, rfl⟩)
    refine ⟨.tuple #[.int .u32 (q.1 : Int), .bool true], ?_, ⟨q.1, true, rfl, Or.inl ⟨rfl, hq2, by have := Hn.out; omega, fun j hj1 hj2 => up_nil (List.reverse_eq_nil_iff.1 (show (up (q.1 + 1) (k + 1)).reverse = [] from hq3.symm)) j (by omega) (by have := Hn.out; omega)⟩⟩, hB.trans (belowK_b (w := w) (Nat.le_refl _) _ D _ _ (by simp at hD; omega) hK rfl rfl)⟩
    simp [results, Tryd.f16, go_sem, e0, e1]

set_option maxHeartbeats 800000 in
theorem next_top (w : World) : Calls Tryd.prog 14 #[.int .u32 4294967295] w fun e w' => e = .returned (.tuple #[.int .u32 0, .bool false]) ∧ Below w.heap.size w w' := by
  go_enter Tryd.func14, Tryd.ntmps14
  go_wp2
  exact bodyPost_ret (v := .tuple #[.int .u32 0, .bool false]) (by simp [results, Tryd.f14, go_sem]) rfl ⟨rfl, by first | exact ((Below.refl _ _).alloc (Nat.le_refl _) _).alloc (by simp) _ | exact ((((Below.refl _ _).alloc (Nat.le_refl _) _).alloc (by simp) _).setCell (p := ⟨w.heap.size, 0, none⟩) (Nat.le_refl _) _).setCell (p := ⟨w.heap.size + 1, 0, none⟩) (Nat.le_succ _) _⟩
set_option maxHeartbeats 800000 in
theorem last_zero (w : World) : Calls Tryd.prog 16 #[.int .u32 0] w fun e w' => e = .returned (.tuple #[.int .u32 0, .bool false]) ∧ Below w.heap.size w w' := by
  go_enter Tryd.func16, Tryd.ntmps16
  go_wp2
  exact bodyPost_ret (v := .tuple #[.int .u32 0, .bool false]) (by simp [results, Tryd.f16, go_sem]) rfl ⟨rfl, by first | exact ((Below.refl _ _).alloc (Nat.le_refl _) _).alloc (by simp) _ | exact ((((Below.refl _ _).alloc (Nat.le_refl _) _).alloc (by simp) _).setCell (p := ⟨w.heap.size, 0, none⟩) (Nat.le_refl _) _).setCell (p := ⟨w.heap.size + 1, 0, none⟩) (Nat.le_succ _) _⟩

theorem NextIs.unique {n r r' : Nat} {ok ok' : Bool} (h : NextIs n r ok) (h' : NextIs n r' ok') : r = r' ∧ ok = ok' := by
  rcases h with ⟨rfl, h1, h2, h3, h4⟩ | ⟨rfl, rfl, h4⟩
  · rcases h' with ⟨rfl, k1, k2, k3, k4⟩ | ⟨rfl, rfl, k4⟩
    · refine ⟨?_, rfl⟩
      rcases Nat.lt_trichotomy r r' with hlt | he | hgt
      · exact absurd h1 (k4 r h2 hlt)
      · exact he
      · exact absurd k1 (h4 r' k2 hgt)
    · exact absurd h1 (k4 r h2 h3)
  · rcases h' with ⟨rfl, k1, k2, k3, k4⟩ | ⟨rfl, rfl, k4⟩
    · exact absurd k1 (h4 r' k2 k3)
    · exact ⟨rfl, rfl⟩
theorem LastIs.unique {n r r' : Nat} {ok ok' : Bool} (h : LastIs n r ok) (h' : LastIs n r' ok') : r = r' ∧ ok = ok' := by
  rcases h with ⟨rfl, h1, h2, h4⟩ | ⟨rfl, rfl, h4⟩
  · rcases h' with ⟨rfl, k1, k2, k4⟩ | ⟨rfl, rfl, k4⟩
    · refine ⟨?_, rfl⟩
      rcases Nat.lt_trichotomy r r' with hlt | he | hgt
      · exact absurd k1 (h4 r' hlt k2)
      · exact he
      · exact absurd h1 (k4 r hgt h2)
    · exact absurd h1 (k4 r h2)
  · rcases h' with ⟨rfl, k1, k2, k4⟩ | ⟨rfl, rfl, k4⟩
    · exact absurd k1 (h4 r' k2)
    · exact ⟨rfl, rfl⟩
theorem next_exists (n : Nat) : ∃ r ok, NextIs n r ok := by
  by_cases h : ∃ r, n < r ∧ r < 4294967296 ∧ Pr r
  · obtain ⟨r, h1, h2, h3⟩ := h
    have key : ∀ c r, r ≤ c → n < r → r < 4294967296 → Pr r → ∃ r ok, NextIs n r ok := by
      intro c
      induction c with
      | zero => intro r k1 k2; omega
      | succ c ih =>
        intro r k1 k2 k3 k4
        by_cases hx : ∃ m, n < m ∧ m < r ∧ Pr m
        · obtain ⟨m, m1, m2, m3⟩ := hx
          exact ih m (by omega) m1 (by omega) m3
        · exact ⟨r, true, Or.inl ⟨rfl, k4, k2, k3, fun m m1 m2 m3 => hx ⟨m, m1, m2, m3⟩⟩⟩
    exact key r r (Nat.le_refl _) h1 h2 h3
  · exact ⟨0, false, Or.inr ⟨rfl, rfl, fun m m1 m2 m3 => h ⟨m, m1, m2, m3⟩⟩⟩
theorem last_exists : ∀ n : Nat, ∃ r ok, LastIs n r ok
  | 0 => ⟨0, false, Or.inr ⟨rfl, rfl, fun m hm => by omega⟩⟩
  | n + 1 => by
    by_cases hp : Pr n
    · exact ⟨n, true, Or.inl ⟨rfl, hp, by omega, fun m h1 h2 => by omega⟩⟩
    · obtain ⟨r, ok, h⟩ := last_exists n
      refine ⟨r, ok, h.imp (fun ⟨a, b, c, d⟩ => ⟨a, b, by omega, fun m h1 h2 => ?_⟩) fun ⟨a, b, d⟩ => ⟨a, b, fun m h2 => ?_⟩⟩
      · rcases Nat.lt_or_ge m n with h3 | h3
        · exact d m h1 h3
        · obtain rfl : m = n := by omega
          exact hp
      · rcases Nat.lt_or_ge m n with h3 | h3
        · exact d m h3
        · obtain rfl : m = n := by omega
          exact hp

theorem next_any (n r : Nat) (ok : Bool) (hn : n < 4294967296) (h : NextIs n r ok) (w : World) (hw : Bases w) :
    Calls Tryd.prog 14 #[.int .u32 (n : Int)] w fun e w' => e = .returned (.tuple #[.int .u32 (r : Int), .bool ok]) ∧ Below w.heap.size w w' := by
  rcases Nat.lt_or_ge n 4294967295 with h1 | h1
  · refine (callsIn_wide.1 (next_in 3 n (Nat.le_refl _) h1 w hw)).mono ?_
    rintro e w' ⟨⟨r', ok', e1, e2⟩, hb⟩
    obtain ⟨rfl, rfl⟩ := e2.unique h
    exact ⟨e1, hb⟩
  · obtain rfl : n = 4294967295 := by omega
    obtain ⟨rfl, rfl⟩ := h.unique (Or.inr ⟨rfl, rfl, fun m h1 h2 => by omega⟩ : NextIs 4294967295 0 false)
    exact next_top w
theorem last_any (n r : Nat) (ok : Bool) (hn : n < 4294967296) (h : LastIs n r ok) (w : World) (hw : Bases w) :
    Calls Tryd.prog 16 #[.int .u32 (n : Int)] w fun e w' => e = .returned (.tuple #[.int .u32 (r : Int), .bool ok]) ∧ Below w.heap.size w w' := by
  rcases Nat.eq_zero_or_pos n with h1 | h1
  · subst h1
    obtain ⟨rfl, rfl⟩ := h.unique (Or.inr ⟨rfl, rfl, fun m h1 => by omega⟩ : LastIs 0 0 false)
    exact last_zero w
  · refine (callsIn_wide.1 (last_in 3 n (n - 1) (Nat.le_refl _) (by omega) (by omega) hn w hw)).mono ?_
    rintro e w' ⟨⟨r', ok', e1, e2⟩, hb⟩
    obtain ⟨rfl, rfl⟩ := e2.unique h
    exact ⟨e1, hb⟩
end Go.Proofs.YtnjhppdcpjgfmaaDoor
