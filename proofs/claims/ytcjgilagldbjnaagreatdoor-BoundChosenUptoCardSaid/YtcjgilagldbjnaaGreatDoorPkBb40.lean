/- The primes one by one: the contracts of rising's and falling. The contracts of prime's Next and Last. The primes that do not divide a number, from the greatest on. A loop over an iterator that itself goes by a loop over an i. Limbs lie apart from variables that hold integers: their blo. -/
import Derived.RangeFuncFrom
import Derived.RangeFuncKeeps
import Derived.RangeFuncLeaves
import Derived.Shelf.Abstract
import Derived.WalkKit
import Derived.OwnWalkIn
import Derived.TacticsInMore
import Derived.LoopNIn
import Derived.LoopIn
import Derived.Test.YtcjgilagldbjnaaGreatDoorPkBb39
import Derived.Deep.RegionHeld
import Derived.Test.YtcjgilagldbjnaaGreatDoorPkBb12
import Derived.RangeFuncNested
import Derived.RangeFuncBox
import Derived.RangeFuncWrites
import Derived.Test.YtcjgilagldbjnaaGreatDoorPkBb13
import Derived.Test.YtcjgilagldbjnaaGreatDoorPkBb27
namespace Go.Proofs.YtcjgilagldbjnaaGreatDoor
section
open Go.RowKit Go.Shelf
attribute [local go_sem] Oper.semAt_some
abbrev U32 := { x : Nat // x < 4294967296 }
abbrev encU (x : U32) : Array Value := #[.int .u32 (x.1 : Int)]
noncomputable def up (a b : Nat) : List Nat := ((List.range (b - a)).map (a + ·)).filter isP
theorem up_length (a b : Nat) : (up a b).length ≤ b - a := by
 unfold up
 exact Nat.le_trans (List.length_filter_le _ _) (by simp)
theorem up_nil {a b : Nat} (h : up a b = []) (m : Nat) (h1 : a ≤ m) (h2 : m < b) : ¬ Pr m := fun hp => by
 have : m ∈ up a b := List.mem_filter.2 ⟨List.mem_map.2 ⟨m - a, List.mem_range.2 (by omega), by omega⟩, isP_true hp⟩
 rw [h] at this
 cases this
theorem up_cons {a b : Nat} (h : a < b) : up a b = if isP a = true then a :: up (a + 1) b else up (a + 1) b := by
 unfold up
 rw [show b - a = (b - (a + 1)) + 1 from by omega, List.range_succ_eq_map, List.map_cons, List.filter_cons, List.map_map, Nat.add_zero,
  show (List.map ((a + ·) ∘ Nat.succ) (List.range (b - (a + 1)))) = List.map (a + 1 + ·) (List.range (b - (a + 1))) from List.map_congr_left fun x _ => by simp; omega]
noncomputable def down (a k : Nat) : List Nat := (up (k + 1) (a + 1)).reverse
theorem down_self (a : Nat) : down a a = [] := by simp [down, up]
theorem down_yes {a k : Nat} (h : k + 1 ≤ a) (hp : Pr (k + 1)) : down a k = down a (k + 1) ++ [k + 1] := by
 unfold down
 rw [up_cons (show k + 1 < a + 1 by omega), if_pos (isP_true hp), List.reverse_cons]
theorem down_no {a k : Nat} (h : k + 1 ≤ a) (hp : ¬ Pr (k + 1)) : down a k = down a (k + 1) := by
 unfold down
 rw [up_cons (show k + 1 < a + 1 by omega), if_neg (by rw [isP_false hp]; simp)]
theorem down_length (a k : Nat) : (down a k).length ≤ a - k := by
 unfold down
 rw [List.length_reverse]
 have := up_length (k + 1) (a + 1)
 omega
set_option maxRecDepth 100000 in
set_option maxHeartbeats 2000000 in
theorem falling1_in (n : Nat) (hn : 1 ≤ n) (l Bn n₀ a : Nat) (ha : a < 4294967296) (J Jx : List U32 → World → Prop)
  (hY : ∀ pre x W, J pre W → pre.length < 4294967296 → YieldAt Fence.wide (n - 1) Tryz.prog l (encU x) W fun e W' =>
   (e = .returned (.bool true) ∧ J (pre ++ [x]) W' ∧ Below n₀ W W') ∨ (e = .returned (.bool false) ∧ Jx (pre ++ [x]) W'))
  (W : World) (hBn : W.cell? ⟨Bn, 0, none⟩ = some (.int .u32 (a : Int))) (hw : Bases W) (hlt : 0 < n₀) (h0 : J [] W) :
  CallsIn Fence.wide n Tryz.prog 78 #[.func (.yield l) #[] #[], .pointer (some ⟨Bn, 0, none⟩)] W fun e W' => (∃ v, e = .returned v) ∧
   ((∃ ys : List U32, ys.map (·.1) = down a 1 ∧ J ys W') ∨ (∃ (pre : List U32) (m : U32), m.1 ≤ a ∧ Pr m.1 ∧ pre.map (·.1) = down a m.1 ∧ Jx (pre ++ [m]) W')) := by
 refine callsIn_of_wp Tryz.func78 rfl trivial ?_ rfl
 simp only [Tryz.ntmps78, List.size_toArray, List.length_cons, List.length_nil, Nat.reduceAdd, Nat.reduceSub, Array.replicate_succ, Array.replicate_zero, List.push_toArray, List.append_toArray, List.nil_append, List.cons_append]
 gi_wp2
 gi_loopw [3] (fun nv wr => ∃ (k : Nat) (pre : List U32), nv = .int .u32 (k : Int) ∧ k ≤ a ∧ (1 ≤ k ∨ k = a) ∧ pre.map (·.1) = down a k ∧ J pre wr ∧ Bases wr)
  (fun nv _ => (intOf nv).toNat)
 case atStart => exact ⟨a, [], rfl, Nat.le_refl _, Or.inr rfl, by rw [down_self]; rfl, h0, hw⟩
 case round =>
  obtain ⟨k, pre, rfl, hak, hk, hpre, hJs, hb⟩ := hrel
  rcases Nat.lt_or_ge 1 k with hk1 | hk1
  ·obtain ⟨j, rfl⟩ : ∃ j, k = j + 1 := ⟨k - 1, by omega⟩
   have hlt2 : j + 1 < 4294967296 := by omega
   have hlen : pre.length < 4294967296 := by
    have h1 := down_length a (j + 1)
    rw [← hpre, List.length_map] at h1
    omega
   by_cases hp : Pr (j + 1)
   ·obtain ⟨fn, tmps, assign, body, hy, hR⟩ := hY pre ⟨j + 1, hlt2⟩ wr hJs hlen
    dsimp only [encU] at hy
    rw [show ((j + 1 : Nat) : Int) = (j : Int) + 1 from by go_num] at hy
    have HI := hi9 (fun W hW => is_yes (j + 1) hp hlt2 W hW)
    have Hup := hi9 (down_yes hak hp)
    have Hpre := hi9 hpre
    have Hp := hi9 hp
    have Hb := hi9 hb
    have ec : ((j + 1 : Nat) : Int) = (j : Int) + 1 := by go_num
    rw [ec] at HI
    clear hpre hp hb ec
    gi_wp2_with fail
    refine ⟨trivial, (callsIn_wide.2 (HI.out _ Hb.out)).mono ?_⟩
    rintro e _ ⟨rfl, rfl⟩
    gi_wp2_with fail
    refine hR.mono ?_
    rintro e W3 (⟨rfl, hJ3, hk3⟩ | ⟨rfl, hJx3⟩)
    ·gi_wp2
     go_roundw
     case rel => exact ⟨j, pre ++ [⟨j + 1, hlt2⟩], by go_num, by omega, by omega, by rw [List.map_append, Hpre.out, Hup.out]; rfl, hJ3, Hb.out.keep hk3 hlt⟩
     case measure => simp [intOf]
    ·gi_wp2
     refine bodyPost_ret (results_none rfl _ _ _) rfl ?_
     exact ⟨⟨_, rfl⟩, .inr ⟨pre, ⟨j + 1, hlt2⟩, hak, Hp.out, Hpre.out, hJx3⟩⟩
   ·have HI := hi9 (fun W hW => is_no (j + 1) hp hlt2 W hW)
    have Hup := hi9 (down_no hak hp)
    have Hpre := hi9 hpre
    have Hb := hi9 hb
    have ec : ((j + 1 : Nat) : Int) = (j : Int) + 1 := by go_num
    rw [ec] at HI
    clear hpre hp hb ec
    gi_wp2_with fail
    refine ⟨trivial, (callsIn_wide.2 (HI.out _ Hb.out)).mono ?_⟩
    rintro e _ ⟨rfl, rfl⟩
    gi_wp2
    refine ⟨fun _ h => (by cases h), ?_⟩
    gi_wp2
    go_roundw
    case rel => exact ⟨j, pre, by go_num, by omega, by omega, by rw [Hup.out]; exact Hpre.out, hJs, Hb.out⟩
    case measure => simp [intOf]
  ·have hS : pre.map (·.1) = down a 1 := by
    rcases Nat.eq_zero_or_pos k with h | h
    ·subst h
     obtain rfl : a = 0 := by omega
     rw [hpre]; simp [down, up]
    ·obtain rfl : k = 1 := by omega
     exact hpre
   have HS := hi9 hS
   clear hpre hS
   gi_wp2
   go_end0
   exact ⟨⟨_, rfl⟩, .inl ⟨pre, HS.out, hJs⟩⟩
end
section
open Go.RowKit Go.Shelf
attribute [local go_sem] Oper.semAt_some
theorem cell_set {w : World} {a : Addr} {u : Value} (h : w.cell? a = some u) (v : Value) : (w.setCell a v).cell? a = some v := World.cell?_setCell_same' _ _ _ (by rw [h]; rfl)
theorem cell_of_box {W : World} {B : Nat} {v : Value} {t : TypeId} (h : W.heap[B]? = some (.cells #[v] t (0, 0))) : W.cell? ⟨B, 0, none⟩ = some v ∧ W.frozen? ⟨B, 0, none⟩ = false := by
 constructor <;> simp [World.cell?, World.frozen?, h]
theorem cell_new_l (W : World) (v : Value) (t : TypeId) : (W.alloc (.cells #[v] t)).cell? ⟨W.heap.size, 0, none⟩ = some v ∧ (W.alloc (.cells #[v] t)).frozen? ⟨W.heap.size, 0, none⟩ = false :=
 cell_of_box (World.alloc_heap_new W _)
theorem cell_alloc_l {W : World} {a : Addr} {v : Value} (o : Obj) (h : W.cell? a = some v) : (W.alloc o).cell? a = some v := cell_kept h (World.grownBy_alloc W o none) (fun r e => by cases e)
theorem frozen_alloc_l {W : World} {a : Addr} {v : Value} (o : Obj) (h : W.cell? a = some v) (hf : W.frozen? a = false) : (W.alloc o).frozen? a = false := (frozen_kept h (World.grownBy_alloc W o none) (fun r e => by cases e)).trans hf
def FallAll (a : Nat) (ys : List U32) : Prop := ys.map (·.1) = down a 1
def FallPart (a : Nat) (pre : List U32) : Prop := ∃ (p : List U32) (m : U32), pre = p ++ [m] ∧ m.1 ≤ a ∧ Pr m.1 ∧ p.map (·.1) = down a m.1
theorem falling_stops (n : Nat) (hn : 1 ≤ n) (Bn n₀ a : Nat) (ha : a < 4294967296) (w : World) (hBn : Bn < w.heap.size) (_hn₀ : n₀ ≤ w.heap.size) (hc : w.cell? ⟨Bn, 0, none⟩ = some (.int .u32 (a : Int))) (hw : Bases w) (hlt : 0 < n₀) :
  SeqStopsK Fence.wide n Tryz.prog 78 #[.pointer (some ⟨Bn, 0, none⟩)] encU (Below n₀) (FallAll a) (FallPart a) 4294967296 w := fun l J Jx W hW _ _ hY h0 =>
 (falling1_in n hn l Bn n₀ a ha J Jx hY W ((hW.cell (p := ⟨Bn, 0, none⟩) hBn).trans hc) (hw.keep hW (by omega)) hlt h0).mono fun e W' ⟨h1, h2⟩ => ⟨h1, h2.elim (fun ⟨ys, a1, a2⟩ => Or.inl ⟨ys, a1, a2⟩) fun ⟨p, m, a1, a2, a3, a4⟩ => Or.inr ⟨p ++ [m], ⟨p, m, rfl, a1, a2, a3⟩, a4⟩⟩
theorem falling_any (a : Nat) (w : World) : Calls Tryz.prog 65 #[.int .u32 (a : Int)] w fun e w' => e = .returned (.func (.func 78) #[] #[.pointer (some ⟨w.heap.size, 0, none⟩)]) ∧ w' = w.alloc (.cells #[.int .u32 (a : Int)] 34) := by
 go_enter Tryz.func65, Tryz.ntmps65
 go_wp2
 go_ret
 exact ⟨rfl, rfl⟩
def NextIs (n r : Nat) (ok : Bool) : Prop := (ok = true ∧ Pr r ∧ n < r ∧ r < 4294967296 ∧ ∀ m, n < m → m < r → ¬ Pr m) ∨ (ok = false ∧ r = 0 ∧ ∀ m, n < m → m < 4294967296 → ¬ Pr m)
def NI (w : World) (pre : List U32) (W : World) : Prop := (pre = [] ∧ W.cell? ⟨w.heap.size, 0, none⟩ = some (.int .u32 0) ∧ W.cell? ⟨w.heap.size + 1, 0, none⟩ = some (.bool false) ∧ W.frozen? ⟨w.heap.size, 0, none⟩ = false ∧ W.frozen? ⟨w.heap.size + 1, 0, none⟩ = false) ∧ Below w.heap.size w W
def NX (w : World) (c : Code) (pre : List U32) (W : World) : Prop := (c = .ret ∧ ∃ x : U32, pre = [x] ∧ W.cell? ⟨w.heap.size, 0, none⟩ = some (.int .u32 (x.1 : Int)) ∧ W.cell? ⟨w.heap.size + 1, 0, none⟩ = some (.bool true)) ∧ Below w.heap.size w W
theorem NI.own (w : World) (B : Nat) (hB : w.heap.size ≤ B) : OwnFrom B (NI w) :=
 OwnFrom.and (Own.from (fun _ _ _ _ hs hg hr => ⟨hs.1, cell_kept hs.2.1 hg hr, cell_kept hs.2.2.1 hg hr, (frozen_kept hs.2.1 hg hr).trans hs.2.2.2.1, (frozen_kept hs.2.2.1 hg hr).trans hs.2.2.2.2⟩) _) (ownFrom_below nl9 hB)
theorem NX.own (w : World) (B : Nat) (hB : w.heap.size ≤ B) (c : Code) : OwnFrom B (NX w c) :=
 OwnFrom.and (Own.from (fun _ _ _ _ hs hg hr => ⟨hs.1, hs.2.imp fun _ hx => ⟨hx.1, cell_kept hx.2.1 hg hr, cell_kept hx.2.2 hg hr⟩⟩) _) (ownFrom_below nl9 hB)
theorem NI.round {w W : World} {pre : List U32} (h : NI w pre W) (x : U32) : NX w .ret (pre ++ [x]) ((W.setCell ⟨w.heap.size, 0, none⟩ (.int .u32 (x.1 : Int))).setCell ⟨w.heap.size + 1, 0, none⟩ (.bool true)) := by
 obtain ⟨⟨rfl, hc0, hc1, hf0, hf1⟩, hB⟩ := h
 refine ⟨⟨rfl, x, rfl, ?_, ?_⟩, (hB.setCell (p := ⟨w.heap.size, 0, none⟩) nl9 _).setCell (p := ⟨w.heap.size + 1, 0, none⟩) (by simp) _⟩
 ·rw [World.cell?_setCell_far _ _ _ _ (by simp)]
  exact cell_set hc0 _
 ·exact cell_set (by rw [World.cell?_setCell_far _ _ _ _ (by simp)]; exact hc1) _
def LastIs (n r : Nat) (ok : Bool) : Prop := (ok = true ∧ Pr r ∧ r < n ∧ ∀ m, r < m → m < n → ¬ Pr m) ∨ (ok = false ∧ r = 0 ∧ ∀ m, m < n → ¬ Pr m)
def LastPost (k : Nat) (w : World) (e : Ending) (W' : World) : Prop := (∃ (r : Nat) (ok : Bool), e = .returned (.tuple #[.int .u32 (r : Int), .bool ok]) ∧ LastIs k r ok) ∧ Below w.heap.size w W'
set_option maxRecDepth 100000 in
set_option maxHeartbeats 2000000 in
theorem last_in (m n k : Nat) (hm : 3 ≤ m) (hk : k < 4294967296) (hn : n = k + 1) (hn2 : n < 4294967296) (w : World) (hw : Bases w) :
  CallsIn Fence.wide m Tryz.prog 41 #[.int .u32 (n : Int)] w (LastPost n w) := by
 have hb0 := hw.lt
 have Hw := hi9 hw
 have h1 : 1 ≤ m := by omega
 have HR := hi9 (fun W => falling_any k W)
 have tk : (n : Int) - 1 = (k : Int) := by omega
 have hn0 : 0 < n := by omega
 have Hk := hi9 hk
 have Hn := hi9 hn
 clear hw hk hn
 refine callsIn_of_wp_marks Tryz.func41 rfl trivial ?_ rfl
 simp only [Tryz.ntmps41, List.size_toArray, List.length_cons, List.length_nil, Nat.reduceAdd, Nat.reduceSub, Array.replicate_succ, Array.replicate_zero, List.push_toArray, List.append_toArray, List.nil_append, List.cons_append]
 gi_wp2_with fail
 refine ⟨trivial, (callsIn_wide.2 (HR.out _)).mono ?_⟩
 rintro e _ ⟨rfl, rfl⟩
 gi_wp2_with fail
 have c0 := cell_new_l w (.int .u32 0) 34
 have c1 := cell_new_l (w.alloc (.cells #[.int .u32 0] 34)) (.bool false) 4
 have c2 := cell_new_l ((w.alloc (.cells #[.int .u32 0] 34)).alloc (.cells #[.bool false] 4)) (.int .u32 (k : Int)) 34
 simp only [World.size_alloc] at c1 c2
 have hB0 : Below w.heap.size w (((w.alloc (.cells #[.int .u32 0] 34)).alloc (.cells #[.bool false] 4)).alloc (.cells #[.int .u32 (k : Int)] 34)) := (((Below.refl _ w).alloc nl9 _).alloc (by simp) _).alloc (by simp; omega) _
 have c2n := c2.1
 refine wpIn_rangeFunc_ownF rfl h1 (gf := 78) (lb := #[.pointer (some ⟨w.heap.size + 1 + 1, 0, none⟩)]) rfl trivial (enters_of Tryz.func78 (by kernel_rfl) rfl)
  (falling_stops (m - 1) (by omega) (w.heap.size + 1 + 1) w.heap.size k Hk.out _ (by simp) (by simp; omega) c2n (Hw.out.keep hB0 hb0) hb0) belowK_t (belowK_b (by simp; omega)) br9 (fun _ => rfl)
  (NI w) (NX w) (NI.own w _ (by simp; omega)) (NX.own w _ (by simp; omega))
  ⟨⟨rfl, cell_alloc_l _ (cell_alloc_l _ c0.1), cell_alloc_l _ c1.1, frozen_alloc_l _ (cell_alloc_l _ c0.1) (frozen_alloc_l _ c0.1 c0.2), frozen_alloc_l _ c1.1 c1.2⟩, hB0⟩
  ?act ?assign ?body ?done ?stop
 case assign =>
  intro l x W K hK
  gi_wp2
  exact hK
 case body =>
  intro l pre x W hI hlen
  clear hlen
  have HN := hi9 (hI.round x)
  obtain ⟨⟨hpre, hc0, hc1, hf0, hf1⟩, hB⟩ := hI
  clear hpre hB c0 c1 c2 c2n hB0
  gi_wp2
  exact ⟨(KeepsOthers.setCell _ _ _).trans (KeepsOthers.setCell _ _ _), HN.out⟩
 case done =>
  rintro D ys W hD hys ⟨⟨rfl, hc0, hc1, hf0, hf1⟩, hB⟩ hK
  gi_wp2
  have hK1 := (KeepsOthers.setCell W ⟨w.heap.size, 0, none⟩ (.int .u32 0)).same D _ hK rfl
  have hK' := (KeepsOthers.setCell (W.setCell ⟨w.heap.size, 0, none⟩ (.int .u32 0)) ⟨w.heap.size + 1, 0, none⟩ (.bool false)).same D _ hK1 rfl
  have hB2 := (hB.setCell (p := ⟨w.heap.size, 0, none⟩) nl9 (.int .u32 0)).setCell (p := ⟨w.heap.size + 1, 0, none⟩) (by simp) (.bool false)
  have hd0 : ((W.setCell ⟨w.heap.size, 0, none⟩ (.int .u32 0)).setCell ⟨w.heap.size + 1, 0, none⟩ (.bool false)).cell? ⟨w.heap.size, 0, none⟩ = some (.int .u32 0) := by
   rw [World.cell?_setCell_far _ _ _ _ (by simp)]; exact cell_set hc0 _
  have hd1 : ((W.setCell ⟨w.heap.size, 0, none⟩ (.int .u32 0)).setCell ⟨w.heap.size + 1, 0, none⟩ (.bool false)).cell? ⟨w.heap.size + 1, 0, none⟩ = some (.bool false) :=
   cell_set (by rw [World.cell?_setCell_far _ _ _ _ (by simp)]; exact hc1) _
  refine ⟨by simp, .inl ⟨_, _, rfl, run_takeDeferred hK', ?_⟩⟩
  have e0 := cell_kept hd0 (grownBy_putObj' _ D (.deferred none)) (fun r e => by cases e; exact ⟨_, hK', rfl⟩)
  have e1 := cell_kept hd1 (grownBy_putObj' _ D (.deferred none)) (fun r e => by cases e; exact ⟨_, hK', rfl⟩)
  refine ⟨.tuple #[.int .u32 0, .bool false], ?_, ⟨0, false, rfl, Or.inr ⟨rfl, rfl, fun q hq1 hp => up_nil (List.reverse_eq_nil_iff.1 (show (up (1 + 1) (k + 1)).reverse = [] from hys.symm)) q (by have := hp.1; omega) (by have := Hn.out; omega) hp⟩⟩, hB2.trans (belowK_b (w := w) nl9 _ D _ _ (by simp at hD; omega) hK' rfl rfl)⟩
  simp [results, Tryz.f41, go_sem, e0, e1]
 case stop =>
  rintro D c pre W hD ⟨p, q, hpq, hq1, hq2, hq3⟩ ⟨⟨rfl, x, rfl, hc0, hc1⟩, hB⟩ hK
  obtain ⟨rfl, rfl⟩ : p = [] ∧ q = x := by
   cases p with
   | nil => simp at hpq; exact ⟨rfl, hpq.symm⟩
   | cons a b => simp at hpq
  gi_wp2
  refine ⟨by simp, .inl ⟨_, _, rfl, run_takeDeferred hK, ?_⟩⟩
  have e0 := cell_kept hc0 (grownBy_putObj' _ D (.deferred none)) (fun r e => by cases e; exact ⟨_, hK, rfl⟩)
  have e1 := cell_kept hc1 (grownBy_putObj' _ D (.deferred none)) (fun r e => by cases e; exact ⟨_, hK, rfl⟩)
  refine ⟨.tuple #[.int .u32 (q.1 : Int), .bool true], ?_, ⟨q.1, true, rfl, Or.inl ⟨rfl, hq2, by have := Hn.out; omega, fun j hj1 hj2 => up_nil (List.reverse_eq_nil_iff.1 (show (up (q.1 + 1) (k + 1)).reverse = [] from hq3.symm)) j (by omega) (by have := Hn.out; omega)⟩⟩, hB.trans (belowK_b (w := w) nl9 _ D _ _ (by simp at hD; omega) hK rfl rfl)⟩
  simp [results, Tryz.f41, go_sem, e0, e1]
set_option maxHeartbeats 800000 in
theorem last_zero (w : World) : Calls Tryz.prog 41 #[.int .u32 0] w fun e w' => e = .returned (.tuple #[.int .u32 0, .bool false]) ∧ Below w.heap.size w w' := by
 go_enter Tryz.func41, Tryz.ntmps41
 go_wp2
 exact bodyPost_ret (v := .tuple #[.int .u32 0, .bool false]) (by simp [results, Tryz.f41, go_sem]) rfl ⟨rfl, by first | exact (br9.alloc nl9 _).alloc (by simp) _ | exact (((br9.alloc nl9 _).alloc (by simp) _).setCell (p := ⟨w.heap.size, 0, none⟩) nl9 _).setCell (p := ⟨w.heap.size + 1, 0, none⟩) (Nat.le_succ _) _⟩
theorem NextIs.unique {n r r' : Nat} {ok ok' : Bool} (h : NextIs n r ok) (h' : NextIs n r' ok') : r = r' ∧ ok = ok' := by
 rcases h with ⟨rfl, h1, h2, h3, h4⟩ | ⟨rfl, rfl, h4⟩
 ·rcases h' with ⟨rfl, k1, k2, k3, k4⟩ | ⟨rfl, rfl, k4⟩
  ·refine ⟨?_, rfl⟩
   rcases Nat.lt_trichotomy r r' with hlt | he | hgt
   ·exact absurd h1 (k4 r h2 hlt)
   ·exact he
   ·exact absurd k1 (h4 r' k2 hgt)
  ·exact absurd h1 (k4 r h2 h3)
 ·rcases h' with ⟨rfl, k1, k2, k3, k4⟩ | ⟨rfl, rfl, k4⟩
  ·exact absurd k1 (h4 r' k2 k3)
  ·exact ⟨rfl, rfl⟩
theorem LastIs.unique {n r r' : Nat} {ok ok' : Bool} (h : LastIs n r ok) (h' : LastIs n r' ok') : r = r' ∧ ok = ok' := by
 rcases h with ⟨rfl, h1, h2, h4⟩ | ⟨rfl, rfl, h4⟩
 ·rcases h' with ⟨rfl, k1, k2, k4⟩ | ⟨rfl, rfl, k4⟩
  ·refine ⟨?_, rfl⟩
   rcases Nat.lt_trichotomy r r' with hlt | he | hgt
   ·exact absurd k1 (h4 r' hlt k2)
   ·exact he
   ·exact absurd h1 (k4 r hgt h2)
  ·exact absurd h1 (k4 r h2)
 ·rcases h' with ⟨rfl, k1, k2, k4⟩ | ⟨rfl, rfl, k4⟩
  ·exact absurd k1 (h4 r' k2)
  ·exact ⟨rfl, rfl⟩
theorem last_exists : ∀ n : Nat, ∃ r ok, LastIs n r ok
 | 0 => ⟨0, false, Or.inr ⟨rfl, rfl, fun m hm => by omega⟩⟩
 | n + 1 => by
  by_cases hp : Pr n
  ·exact ⟨n, true, Or.inl ⟨rfl, hp, by omega, fun m h1 h2 => by omega⟩⟩
  ·obtain ⟨r, ok, h⟩ := last_exists n
   refine ⟨r, ok, h.imp (fun ⟨a, b, c, d⟩ => ⟨a, b, by omega, fun m h1 h2 => ?_⟩) fun ⟨a, b, d⟩ => ⟨a, b, fun m h2 => ?_⟩⟩
   ·rcases Nat.lt_or_ge m n with h3 | h3
    ·exact d m h1 h3
    ·obtain rfl : m = n := by omega
     exact hp
   ·rcases Nat.lt_or_ge m n with h3 | h3
    ·exact d m h3
    ·obtain rfl : m = n := by omega
     exact hp
theorem last_any (n r : Nat) (ok : Bool) (hn : n < 4294967296) (h : LastIs n r ok) (w : World) (hw : Bases w) :
  Calls Tryz.prog 41 #[.int .u32 (n : Int)] w fun e w' => e = .returned (.tuple #[.int .u32 (r : Int), .bool ok]) ∧ Below w.heap.size w w' := by
 rcases Nat.eq_zero_or_pos n with h1 | h1
 ·subst h1
  obtain ⟨rfl, rfl⟩ := h.unique (Or.inr ⟨rfl, rfl, fun m h1 => by omega⟩ : LastIs 0 0 false)
  exact last_zero w
 ·refine (callsIn_wide.1 (last_in 3 n (n - 1) nl9 (by omega) (by omega) hn w hw)).mono ?_
  rintro e w' ⟨⟨r', ok', e1, e2⟩, hb⟩
  obtain ⟨rfl, rfl⟩ := e2.unique h
  exact ⟨e1, hb⟩
end
section
open Go.RowKit
def ndB (d : Int) (q : Nat) : Bool := decide (d % (q : Int) ≠ 0)
noncomputable def Cs (d : Int) (m : Nat) : List Nat := (down 4294967294 m).filter (ndB d)
theorem down_none {a r : Nat} : ∀ k, r + k ≤ a → (∀ q, r < q → q ≤ r + k → ¬ Pr q) → down a r = down a (r + k)
 | 0, _, _ => rfl
 | k + 1, h, hn => by
  rw [down_none k (by omega) (fun q h1 h2 => hn q h1 (by omega)), down_no (a := a) (k := r + k) (by omega) (hn _ (by omega) (by omega))]
  rfl
theorem down_last {m r : Nat} (hm : m ≤ 4294967294) (h : LastIs (m + 1) r true) : down 4294967294 (r - 1) = down 4294967294 m ++ [r] ∧ Pr r ∧ r ≤ m := by
 rcases h with ⟨_, hp, hlt, hno⟩ | ⟨h, _⟩
 ·have h2 := hp.1
  obtain ⟨s, rfl⟩ : ∃ s, r = s + 1 := ⟨r - 1, by omega⟩
  obtain ⟨k, rfl⟩ : ∃ k, m = s + 1 + k := ⟨m - (s + 1), by omega⟩
  refine ⟨?_, hp, by omega⟩
  rw [Nat.add_sub_cancel, down_yes (by omega) hp, down_none k (by omega) (fun q h1 h2 => hno q h1 (by omega))]
 ·cases h
theorem down_end {m r : Nat} (hm : m ≤ 4294967294) (h : LastIs (m + 1) r false) : down 4294967294 0 = down 4294967294 m := by
 rcases h with ⟨h, _⟩ | ⟨_, _, hno⟩
 ·cases h
 ·have := down_none (a := 4294967294) (r := 0) m (by omega) (fun q _ h2 => hno q (by omega))
  rwa [Nat.zero_add] at this
theorem Cs_top (d : Int) : Cs d 4294967294 = [] := by simp [Cs, down_self]
theorem Cs_last {d : Int} {m r : Nat} (hm : m ≤ 4294967294) (h : LastIs (m + 1) r true) : Cs d (r - 1) = Cs d m ++ (if ndB d r = true then [r] else []) := by
 rw [Cs, (down_last hm h).1, List.filter_append, ← Cs]
 congr 1
 by_cases hr : ndB d r = true <;> simp [hr]
theorem Cs_end {d : Int} {m r : Nat} (hm : m ≤ 4294967294) (h : LastIs (m + 1) r false) : Cs d 0 = Cs d m := by rw [Cs, down_end hm h, ← Cs]
theorem down_prefix {a : Nat} : ∀ m j, m + j ≤ a → ∃ l, down a m = down a (m + j) ++ l
 | m, 0, _ => ⟨[], by simp⟩
 | m, j + 1, h => by
  obtain ⟨l, hl⟩ := down_prefix (a := a) m j (by omega)
  by_cases hp : Pr (m + j + 1)
  ·exact ⟨(m + j + 1) :: l, by rw [hl, down_yes (by omega) hp]; simp [Nat.add_assoc]⟩
  ·exact ⟨l, by rw [hl, down_no (by omega) hp]; simp [Nat.add_assoc]⟩
theorem Cs_prefix (d : Int) {m : Nat} (hm : m ≤ 4294967294) : ∃ l, Cs d 0 = Cs d m ++ l := by
 obtain ⟨l, hl⟩ := down_prefix (a := 4294967294) 0 m (by omega)
 rw [Nat.zero_add] at hl
 exact ⟨l.filter (ndB d), by rw [Cs, hl, List.filter_append, ← Cs]⟩
theorem Cs_take {d : Int} {m : Nat} (hm : m ≤ 4294967294) : Cs d m = (Cs d 0).take (Cs d m).length := by
 obtain ⟨l, hl⟩ := Cs_prefix d hm
 rw [hl]; simp
theorem mem_down {a m q : Nat} : q ∈ down a m ↔ m < q ∧ q ≤ a ∧ Pr q := by
 rw [down, List.mem_reverse, up, List.mem_filter, List.mem_map]
 constructor
 ·rintro ⟨⟨k, hk, rfl⟩, hp⟩
  rw [List.mem_range] at hk
  rcases isP_cases (m + 1 + k) with ⟨h, _⟩ | ⟨_, h⟩
  ·exact ⟨by omega, by omega, h⟩
  ·rw [h] at hp; cases hp
 ·rintro ⟨h1, h2, h3⟩
  exact ⟨⟨q - (m + 1), List.mem_range.2 (by omega), by omega⟩, isP_true h3⟩
theorem down_falls (a m : Nat) : (down a m).Pairwise (fun x y => y < x) := by
 rw [down, List.pairwise_reverse]
 exact (List.Pairwise.map (R := fun x y => x < y) _ (fun x y h => by omega) List.pairwise_lt_range).filter _
theorem mem_Cs {d : Int} {m q : Nat} : q ∈ Cs d m ↔ (m < q ∧ q ≤ 4294967294 ∧ Pr q) ∧ d % (q : Int) ≠ 0 := by
 rw [Cs, List.mem_filter, mem_down, ndB, decide_eq_true_eq]
theorem Cs_falls (d : Int) (m : Nat) : (Cs d m).Pairwise (fun x y => y < x) := (down_falls _ _).filter _
theorem two_32_9 : (2 : Nat) ^ 32 = 4294967296 := by decide
theorem Cs_many {d : Int} (hd : d ≠ 0) {M : Nat} (h : d.natAbs < 2 ^ M) (hM : M ≤ 33554432) : 10000 < (Cs d 0).length := by
 have h0 : 0 < d.natAbs := Int.natAbs_pos.2 hd
 have h1 := primes_left9 d.natAbs h0 (Cs d 0) (down 4294967294 0) 2147483647 M h (fun p hp => (mem_down.1 hp).2.2) (fun p hp hle => mem_down.2 ⟨by have := hp.1; omega, by omega, hp⟩)
  ((down_falls _ _).imp fun h => by omega) (fun p hp => by
    by_cases hq : d % (p : Int) = 0
    ·exact .inr (Int.ofNat_dvd_left.1 (Int.dvd_of_emod_eq_zero hq))
    ·exact .inl (mem_Cs.2 ⟨mem_down.1 hp, hq⟩)) (by rw [two_32_9]; omega)
 omega
def ChIs (C : List Nat) (t : Nat) (out : List Nat) (code : Nat) : Prop :=
 (code = 0 ∧ ∃ j, j ≤ 10000 ∧ out = C.take j ∧ (∀ i, i < j → prodL9 (C.take i) ≤ t) ∧ t < prodL9 (C.take j)) ∨
 (code = 4 ∧ out = [] ∧ ∀ i, i ≤ 10000 → prodL9 (C.take i) ≤ t)
theorem ch_exists (C : List Nat) (t : Nat) : ∃ out code, ChIs C t out code := by
 have h : ∀ k, (∀ i, i < k → prodL9 (C.take i) ≤ t) ∨ ∃ j, j < k ∧ (∀ i, i < j → prodL9 (C.take i) ≤ t) ∧ t < prodL9 (C.take j) := by
  intro k
  induction k with
  | zero => exact .inl fun i h => absurd h (by omega)
  | succ k ih =>
   rcases ih with h | ⟨j, h1, h2⟩
   ·by_cases hk : prodL9 (C.take k) ≤ t
    ·exact .inl fun i hi => by
      by_cases e : i = k
      ·subst e; exact hk
      ·exact h i (by omega)
    ·exact .inr ⟨k, by omega, h, by omega⟩
   ·exact .inr ⟨j, by omega, h2⟩
 rcases h 10001 with h | ⟨j, h1, h2, h3⟩
 ·exact ⟨[], 4, .inr ⟨rfl, rfl, fun i hi => h i (by omega)⟩⟩
 ·exact ⟨_, 0, .inl ⟨rfl, j, by omega, rfl, h2, h3⟩⟩
section
variable {C out : List Nat} {t code k : Nat}
theorem ChIs.stop (h : ChIs C t out code) (hk : k ≤ 10000) (h1 : ∀ i, i < k → prodL9 (C.take i) ≤ t) (h2 : t < prodL9 (C.take k)) : code = 0 ∧ out = C.take k := by
 rcases h with ⟨h0, j, h3, h4, h5, h6⟩ | ⟨_, _, h3⟩
 ·have e : j = k := by
   rcases Nat.lt_trichotomy j k with e | e | e
   ·have := h1 j e; omega
   ·exact e
   ·have := h5 k e; omega
  subst e
  exact ⟨h0, h4⟩
 ·have := h3 k hk; omega
theorem ChIs.much (h : ChIs C t out code) (h1 : ∀ i, i ≤ 10000 → prodL9 (C.take i) ≤ t) : code = 4 ∧ out = [] := by
 rcases h with ⟨_, j, h3, _, _, h6⟩ | ⟨h0, h2, _⟩
 ·have := h1 j h3; omega
 ·exact ⟨h0, h2⟩
end
theorem prodL9_snoc (l : List Nat) (q : Nat) : prodL9 (l ++ [q]) = prodL9 l * q := by
 induction l with
 | nil => simp [prodL9]
 | cons x l ih => rw [List.cons_append, prodL9, ih, prodL9, Nat.mul_assoc]
theorem prodL9_lt {l : List Nat} (h : ∀ x ∈ l, x < 4294967296) : prodL9 l < 4294967296 ^ (l.length + 1) := by
 induction l with
 | nil => simp [prodL9]
 | cons x l ih =>
  have h1 := ih fun y hy => h y (List.mem_cons_of_mem _ hy)
  rw [prodL9, List.length_cons, Nat.pow_succ, Nat.mul_comm]
  exact Nat.mul_lt_mul'' h1 (h x (List.mem_cons_self ..))
end
section
open Go.RowKit Go.Shelf
def SeqOwn {α : Type} (n : Nat) (P : Program) (g : Nat) (lb : Array Value) (encs : α → Array Value) (Kp : World → World → Prop) (S Sp : List α → Prop) (N : Nat) (w : World) : Prop :=
 ∀ (l : Nat) (J Jx : List α → World → Prop) (W : World), Below w.heap.size w W → OwnFrom W.heap.size J → OwnFrom W.heap.size Jx →
  (∀ pre x W1, J pre W1 → pre.length < N → YieldAt Fence.wide (n - 1) P l (encs x) W1 fun e W' => KeepsFrom W.heap.size W1 W' ∧ ((e = .returned (.bool true) ∧ J (pre ++ [x]) W' ∧ Kp W1 W') ∨ (e = .returned (.bool false) ∧ Jx (pre ++ [x]) W'))) →
  J [] W → CallsIn Fence.wide n P g (#[.func (.yield l) #[] #[]] ++ lb) W fun e W' => (∃ v, e = .returned v) ∧ ((∃ xs, S xs ∧ J xs W') ∨ (∃ pre, Sp pre ∧ Jx pre W'))
theorem keeps_far {A B : World} {row : Option Nat} {k l : Nat} {o : Obj} (hg : A.grownBy B row) (hr : ∀ r, row = some r → k ≤ r) (hl : l < k) (h : A.heap[l]? = some o) : B.heap[l]? = some o :=
 (hg.block l (Array.getElem?_eq_some_iff.1 h).1 (fun e => by have := hr l e.symm; omega)).trans h
theorem range_own {P : Program} {n : Nat} {α : Type} {g : Operand} {ps : Array Tmp} {assign body : Code} {Q : Exit → Act → World → Prop} {a : Act} {w : World} (h1 : 1 ≤ n) {gf : Nat} {lb : Array Value} (hg : a.eval g = .func (.func gf) #[] lb)
  (eg : ∀ args w, (callFunc gf args).run P w = .ok (.enter gf args) w) {encs : α → Array Value} {Kp : World → World → Prop} {S Sp : List α → Prop} {N : Nat} (hseq : SeqOwn (n - 1) P gf lb encs Kp S Sp N w)
  (hKt : ∀ {A B C : World}, Kp A B → Kp B C → Kp A C) (hKb : ∀ (W : World) (l : Nat) (o o' : Obj), w.heap.size ≤ l → W.heap[l]? = some o → o.isCells = false → o.isWalk = false → Kp W (W.putObj l o')) (hps : ∀ x, (encs x).size = ps.size)
  (I : List α → World → Prop) (Ix : Code → List α → World → Prop) (hI : OwnFrom w.heap.size I) (hIx : ∀ c, OwnFrom w.heap.size (Ix c)) (h0 : I [] w) (a₁ : α → Act)
  (hassign : ∀ (l : Nat) (x : α) (W : World) (K : Act → World → Prop), K (a₁ x) W →
   assign.wpIn (Fence.wide.inRound l) (n - 1 - 1) P (Exit.then K (fun _ _ _ => False)) { tmps := (ps.zip (encs x)).foldl (fun t (p, v) => t.setIfInBounds p v) a.tmps, defers := [] } W)
  (hbody : ∀ (l : Nat) (pre : List α) (x : α) (W : World), I pre W → pre.length < N → body.wpIn (Fence.wide.inRound l) (n - 1 - 1) P (ownPostK Kp I Ix (pre ++ [x]) W) (a₁ x) W)
  (hdone : ∀ (D : Nat) (xs : List α) (W : World), w.heap.size ≤ D → S xs → I xs W → W.heap[D]? = some (.deferred (some [])) → Q .normal { a with defers := { target := .collected D, args := #[] } :: a.defers } W)
  (hstop : ∀ (D : Nat) (c : Code) (pre : List α) (W : World), w.heap.size ≤ D → Sp pre → Ix c pre W → W.heap[D]? = some (.deferred (some [])) → c.wpIn Fence.wide n P Q { a with defers := { target := .collected D, args := #[] } :: a.defers } W) :
  (Code.rangeFunc g ps assign body).wpIn Fence.wide n P Q a w := by
 refine wpIn_rangeFunc fun fn hfn => ?_
 -- the loop's record, by its state and what is pending
 obtain ⟨R, hR⟩ : ∃ R : LoopState → Option Code → Loop, ∀ s c, R s c = { state := s, pending := c, fn, tmps := a.tmps, params := ps, assign, body, defers := w.heap.size } := ⟨fun s c => _, fun _ _ => rfl⟩
 obtain ⟨V, hV⟩ : ∃ V, V = (w.alloc (.deferred (some []))).alloc (.loop (R .ready none)) := ⟨_, rfl⟩
 have hVs : V.heap.size = w.heap.size + 1 + 1 := by rw [hV]; simp
 have hVL : V.heap[w.heap.size + 1]? = some (.loop (R .ready none)) := by
  have h := World.alloc_heap_new (w.alloc (.deferred (some []))) (.loop (R .ready none))
  rw [World.size_alloc] at h
  rw [hV]; exact h
 have hVD : V.heap[w.heap.size]? = some (.deferred (some [])) := by
  rw [hV]; exact (Below.heap_alloc _ _ _ (by simp)).trans (World.alloc_heap_new w _)
 have hVB : Below w.heap.size w V := by rw [hV]; exact ((Below.refl _ w).alloc nl9 _).alloc (by simp) _
 refine ⟨w.heap.size + 1, [{ target := .collected w.heap.size, args := #[] }], V, { target := .fn (.func gf) lb, args := #[.func (.yield (w.heap.size + 1)) #[] #[]] }, V, gf, #[.func (.yield (w.heap.size + 1)) #[] #[]] ++ lb, V, ?_, ?_, fun _ _ => trivial, ?_, fun _ => h1, ?_⟩
 ·rw [hV, hR]; exact run_enterLoop_outer _ _ _ _ _
 ·simp only [resolve, hg]; simp [go_sem]
 ·simp [invoke, go_sem, eg]
 ·refine (hseq (w.heap.size + 1) (fun pre W => I pre W ∧ W.heap[w.heap.size + 1]? = some (.loop (R .ready none)) ∧ W.heap[w.heap.size]? = some (.deferred (some [])))
   (fun pre W => ∃ c, Ix c pre W ∧ W.heap[w.heap.size + 1]? = some (.loop (R .done (some c))) ∧ W.heap[w.heap.size]? = some (.deferred (some []))) V hVB ?_ ?_ ?_ ⟨by rw [hV]; exact hI.alloc _ (hI.alloc _ h0), hVL, hVD⟩).mono ?_
  ·exact fun s A B row hs hgr hr => ⟨hI s A B row hs.1 hgr (fun r e => ⟨by have := (hr r e).1; omega, (hr r e).2⟩), keeps_far hgr (fun r e => (hr r e).1) (by omega) hs.2.1, keeps_far hgr (fun r e => (hr r e).1) (by omega) hs.2.2⟩
  ·rintro s A B row ⟨c, hc, hl, hd⟩ hgr hr
   exact ⟨c, hIx c s A B row hc hgr (fun r e => ⟨by have := (hr r e).1; omega, (hr r e).2⟩), keeps_far hgr (fun r e => (hr r e).1) (by omega) hl, keeps_far hgr (fun r e => (hr r e).1) (by omega) hd⟩
  ·rintro pre x W ⟨hi, hl, hd⟩ hlen
   have hlt := (Array.getElem?_eq_some_iff.1 hl).1
   have hy := run_yield (P := P) (args := encs x) hl (by rw [hR]; exact hps x)
   rw [hR] at hy
   refine ⟨fn, _, assign, body, hy, roundIn_of_wpIn hfn (hassign _ x W _ ⟨_, run_beginRound hl (by rw [hR]), ?_⟩)⟩
   obtain ⟨U, hU⟩ : ∃ U, U = W.putObj (w.heap.size + 1) (.loop { R .ready none with state := .busy }) := ⟨_, rfl⟩
   rw [← hU]
   have hUL : U.heap[w.heap.size + 1]? = some (.loop { R .ready none with state := .busy }) := by rw [hU]; exact World.putObj_heap_same hlt
   have hUD : U.heap[w.heap.size]? = some (.deferred (some [])) := by rw [hU]; exact (World.putObj_heap_other (by omega)).trans hd
   have hUK : Kp W U := by rw [hU]; exact hKb _ _ _ _ (by omega) hl rfl rfl
   have hUI : I pre U := by rw [hU]; exact hI.putObj _ hi (by omega) hl rfl
   refine wpIn_mono (hbody _ pre x U hUI hlen) ?_
   have out : ∀ (j : Option Code) (X : World), KeepsOthers U X → X.heap[w.heap.size + 1]? = some (.loop { R .ready none with state := .busy }) ∧
     (Instr.endRound (w.heap.size + 1) j).run P X = .ok (.bool j.isNone) (X.putObj (w.heap.size + 1) (.loop (R (if j.isNone then .ready else .done) j))) ∧
     (X.putObj (w.heap.size + 1) (.loop (R (if j.isNone then .ready else .done) j))).heap[w.heap.size + 1]? = some (.loop (R (if j.isNone then .ready else .done) j)) ∧
     (X.putObj (w.heap.size + 1) (.loop (R (if j.isNone then .ready else .done) j))).heap[w.heap.size]? = some (.deferred (some [])) := fun j X hX => by
    have e1 := hX.same _ _ hUL rfl
    have e2 := run_endRound (P := P) j e1
    refine ⟨e1, ?_, World.putObj_heap_same (Array.getElem?_eq_some_iff.1 e1).1, (World.putObj_heap_other (by omega)).trans (hX.same _ _ hUD rfl)⟩
    rw [e2]; simp only [hR]
   have far : ∀ (X : World) (o' : Obj), KeepsOthers U X → KeepsFrom V.heap.size W (X.putObj (w.heap.size + 1) o') := fun X o' hX => by
    refine ⟨?_, fun k o hk1 hk2 hk3 => ?_⟩
    ·have := hX.size
     rw [hU] at this
     simpa [World.putObj] using this
    ·have e1 : U.heap[k]? = some o := by rw [hU]; exact (World.putObj_heap_other (by omega)).trans hk2
     exact (World.putObj_heap_other (by omega)).trans (hX.same k o e1 hk3)
   rintro e a3 X hp
   cases e with
   | normal =>
    obtain ⟨k1, k2, k3⟩ := hp
    obtain ⟨o1, o2, o3, o4⟩ := out none X k1
    exact ⟨_, _, o2, far X _ k1, .inl ⟨rfl, ⟨hI.putObj _ k3 (by omega) o1 rfl, o3, o4⟩, hKt (hKt hUK k2) (hKb _ _ _ _ (by omega) o1 rfl rfl)⟩⟩
   | ret =>
    obtain ⟨o1, o2, o3, o4⟩ := out (some .ret) X hp.1
    exact ⟨_, _, o2, far X _ hp.1, .inr ⟨rfl, .ret, (hIx _).putObj _ hp.2 (by omega) o1 rfl, o3, o4⟩⟩
   | exit id =>
    obtain ⟨o1, o2, o3, o4⟩ := out (some (.exit id)) X hp.1
    exact ⟨_, _, o2, far X _ hp.1, .inr ⟨rfl, .exit id, (hIx _).putObj _ hp.2 (by omega) o1 rfl, o3, o4⟩⟩
   | goto t =>
    obtain ⟨o1, o2, o3, o4⟩ := out (some (.goto t)) X hp.1
    exact ⟨_, _, o2, far X _ hp.1, .inr ⟨rfl, .goto t, (hIx _).putObj _ hp.2 (by omega) o1 rfl, o3, o4⟩⟩
   | panic ch => exact hp.elim
   | outgrown => exact hp.elim
  ·rintro e X ⟨⟨v, rfl⟩, ⟨xs, hS, hi, hl, hd⟩ | ⟨pre, hS, c, hi, hl, hd⟩⟩
   ·refine ⟨none, _, by have := run_endLoop (P := P) hl (by rw [hR]; simp); rw [hR] at this; exact this, hdone _ xs _ nl9 hS (hI.putObj _ hi (by omega) hl rfl) ((World.putObj_heap_other (by omega)).trans hd)⟩
   ·refine ⟨some c, _, by have := run_endLoop (P := P) hl (by rw [hR]; simp); rw [hR] at this; exact this, hstop _ c pre _ nl9 hS ((hIx c).putObj _ hi (by omega) hl rfl) ((World.putObj_heap_other (by omega)).trans hd)⟩
end
section
open Go.RowKit
theorem type_ne : 34 ≠ 25 := by decide
theorem res_var {W : World} {B g i : Nat} {A : Option Addr} {c : Nat} {vs L : List Value} (h : Res W B 34 A c vs) (hB : Blk W g 25 L) (u : Value) : Res (W.setCell ⟨g, i, none⟩ u) B 34 A c vs :=
 ⟨h.1, h.2.1, fun hn => by
  obtain ⟨b, rest, e, hb, hk, hc⟩ := h.2.2 hn
  refine ⟨b, rest, e, hb, hk.far (p := ⟨g, i, none⟩) ?_ _, hc⟩
  rintro rfl
  unfold Blk at hk hB
  rw [hk] at hB
  have hB2 := Option.some.inj hB
  injection hB2 with _ e2 _
  exact type_ne e2⟩
theorem res_var2 {W : World} {B g : Nat} {A : Option Addr} {c : Nat} {vs : List Value} {x y : Value} (h : Res W B 34 A c vs) (hB : Blk W g 25 [x, y]) (u v : Value) : Res ((W.setCell ⟨g, 0, none⟩ u).setCell ⟨g, 1, none⟩ v) B 34 A c vs :=
 res_var (res_var h hB u) (hB.set_ 0 u) v
theorem bel_four (w : World) (o o2 o3 o4 : Obj) : Below w.heap.size w ((((w.alloc o).alloc o2).alloc o3).alloc o4) := bal (bel_three w o o2 o3) nl9 o4
theorem blk_four (w : World) (x0 y0 x1 y1 x2 y2 x3 y3 : Value) :
  Blk ((((w.alloc (.cells #[x0, y0] 25)).alloc (.cells #[x1, y1] 25)).alloc (.cells #[x2, y2] 25)).alloc (.cells #[x3, y3] 25)) w.heap.size 25 [x0, y0] ∧
  Blk ((((w.alloc (.cells #[x0, y0] 25)).alloc (.cells #[x1, y1] 25)).alloc (.cells #[x2, y2] 25)).alloc (.cells #[x3, y3] 25)) (w.heap.size + 1) 25 [x1, y1] ∧
  Blk ((((w.alloc (.cells #[x0, y0] 25)).alloc (.cells #[x1, y1] 25)).alloc (.cells #[x2, y2] 25)).alloc (.cells #[x3, y3] 25)) (w.heap.size + 2) 25 [x2, y2] ∧
  Blk ((((w.alloc (.cells #[x0, y0] 25)).alloc (.cells #[x1, y1] 25)).alloc (.cells #[x2, y2] 25)).alloc (.cells #[x3, y3] 25)) (w.heap.size + 3) 25 [x3, y3] := by
 refine ⟨((((Blk.new_ (cs := #[x0, y0]) (vs := [x0, y0]) rfl).heapAlloc _).heapAlloc _).heapAlloc _), ((blk_res1 w _ x1 y1).heapAlloc _).heapAlloc _, (blk_res2 w _ _ x2 y2).heapAlloc _, ?_⟩
 have h := Blk.new_ (w := ((w.alloc (.cells #[x0, y0] 25)).alloc (.cells #[x1, y1] 25)).alloc (.cells #[x2, y2] 25)) (t := 25) (cs := #[x3, y3]) (vs := [x3, y3]) rfl
 simpa using h
theorem blk_three (w : World) (x0 y0 x1 y1 x2 y2 : Value) :
  Blk (((w.alloc (.cells #[x0, y0] 25)).alloc (.cells #[x1, y1] 25)).alloc (.cells #[x2, y2] 25)) w.heap.size 25 [x0, y0] ∧
  Blk (((w.alloc (.cells #[x0, y0] 25)).alloc (.cells #[x1, y1] 25)).alloc (.cells #[x2, y2] 25)) (w.heap.size + 1) 25 [x1, y1] ∧
  Blk (((w.alloc (.cells #[x0, y0] 25)).alloc (.cells #[x1, y1] 25)).alloc (.cells #[x2, y2] 25)) (w.heap.size + 2) 25 [x2, y2] :=
 ⟨(((Blk.new_ (cs := #[x0, y0]) (vs := [x0, y0]) rfl).heapAlloc _).heapAlloc _), (blk_res1 w _ x1 y1).heapAlloc _, blk_res2 w _ _ x2 y2⟩
theorem blk_pair2 (w : World) (x0 y0 x1 y1 : Value) :
  Blk ((w.alloc (.cells #[x0, y0] 25)).alloc (.cells #[x1, y1] 25)) w.heap.size 25 [x0, y0] ∧
  Blk ((w.alloc (.cells #[x0, y0] 25)).alloc (.cells #[x1, y1] 25)) (w.heap.size + 1) 25 [x1, y1] :=
 ⟨(Blk.new_ (cs := #[x0, y0]) (vs := [x0, y0]) rfl).heapAlloc _, blk_res1 w _ x1 y1⟩
theorem blk_one (w : World) (x0 y0 : Value) : Blk (w.alloc (.cells #[x0, y0] 25)) w.heap.size 25 [x0, y0] := Blk.new_ (cs := #[x0, y0]) (vs := [x0, y0]) rfl
theorem zretT {fn : Func} {a : Act} {w W : World} {p : Tmp} {r : Nat} {b : Bool} {x y : Value} {z : Int} {zs : List Nat} {A : Option Addr} {c : Nat} (hbel : Below w.heap.size w W) (hB : Blk W r 25 [x, y]) (hr : w.heap.size ≤ r)
  (hz : Num 4294967296 zs z.natAbs) (hres : Res W w.heap.size 34 A c (u32s zs)) (hb : b = isNeg z) (hres0 : fn.results = #[.cell p 25]) (hp : a.tmps.getD p undef = .pointer (some ⟨r, 0, none⟩)) (hd : a.defers = []) :
  bodyPost Tryz.prog fn (fun e w' => ZOut w w' z e) .ret a ((W.setCell ⟨r, 0, none⟩ (.bool b)).setCell ⟨r, 1, none⟩ (.slice A zs.length c)) := by
 subst hb
 exact bodyPost_ret (results_cell_row hres0 _ _ r 25 _ (0, 0) _ hp (blk_pair hB _ _) Tryz.underlying25 rfl (by kernel_rfl)) hd
  ⟨zs, A, c, rfl, hz, res_var2 hres hB _ _, bsc (bsc hbel hr _) hr _⟩
def Vr (B : Nat) (w : World) (g : Nat) (z : Int) (K : Nat) : Prop :=
 ∃ A c zs, Blk w g 25 [.bool (isNeg z), .slice A zs.length c] ∧ Num 4294967296 zs z.natAbs ∧ Res w B 34 A c (u32s zs) ∧ zs.length ≤ K
theorem Vr.next {B g K : Nat} {w w' : World} {z : Int} (v : Vr B w g z K) (hb : Below w.heap.size w w') : Vr B w' g z K := by
 obtain ⟨A, c, zs, hk, hz, hr, hl⟩ := v
 exact ⟨A, c, zs, hk.below hb hk.lt, hz, hr.below hb nl9, hl⟩
theorem Vr.lt {B g K : Nat} {w : World} {z : Int} (v : Vr B w g z K) : g < w.heap.size := by
 obtain ⟨A, c, zs, hk, _⟩ := v
 exact hk.lt
theorem Vr.other {B g h K : Nat} {w : World} {z : Int} {x y : Value} (v : Vr B w g z K) (hh : Blk w h 25 [x, y]) (hne : g ≠ h) (x' y' : Value) : Vr B ((w.setCell ⟨h, 0, none⟩ x').setCell ⟨h, 1, none⟩ y') g z K := by
 obtain ⟨A, c, zs, hk, hz, hr, hl⟩ := v
 exact ⟨A, c, zs, (hk.far (p := ⟨h, 0, none⟩) hne _).far (p := ⟨h, 1, none⟩) hne _, hz, res_var2 hr hh _ _, hl⟩
theorem Vr.put {B g K : Nat} {w : World} {z : Int} {x y : Value} {A : Option Addr} {c : Nat} {zs : List Nat} (hk : Blk w g 25 [x, y]) (hz : Num 4294967296 zs z.natAbs) (hr : Res w B 34 A c (u32s zs)) (hl : zs.length ≤ K) :
  Vr B ((w.setCell ⟨g, 0, none⟩ (.bool (isNeg z))).setCell ⟨g, 1, none⟩ (.slice A zs.length c)) g z K := ⟨A, c, zs, blk_pair hk _ _, hz, res_var2 hr hk _ _, hl⟩
end
end Go.Proofs.YtcjgilagldbjnaaGreatDoor
