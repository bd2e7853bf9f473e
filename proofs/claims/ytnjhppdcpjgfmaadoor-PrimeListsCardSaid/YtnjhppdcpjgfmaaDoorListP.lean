/- The contract of prime's List. Conditions: bases reads 2, 7, 61. -/
import Derived.RangeFuncBox
import Derived.Maps.AppendAt
import Derived.Test.YtnjhppdcpjgfmaaDoorNextP
import Derived.Test.YtnjhppdcpjgfmaaDoorPrimeI
namespace Go.Proofs.YtnjhppdcpjgfmaaDoor
open Go.RowKit Go.Shelf

attribute [local go_sem] Oper.semAt_some

theorem Tryd.infoU : (Tryd.prog.info? 22).map (fun i => (i.zero, i.size, i.bytes)) = some (some (.int .u32 0), 1, 4) := by kernel_rfl

def encV (x : U32) : Value := .int .u32 (x.1 : Int)
theorem encV_map (l : List U32) : l.map encV = u32s (l.map (·.1)) := by
  unfold u32s
  rw [List.map_map]
  rfl
theorem up_append {a b c : Nat} (h1 : a ≤ b) (h2 : b ≤ c) : up a c = up a b ++ up b c := by
  obtain ⟨d, rfl⟩ : ∃ d, c = b + d := ⟨c - b, by omega⟩
  clear h2
  induction d with
  | zero => rw [Nat.add_zero, up_self, List.append_nil]
  | succ d ih =>
    by_cases hp : Pr (b + d)
    · rw [show b + (d + 1) = b + d + 1 from rfl, up_yes (by omega) hp, up_yes (by omega) hp, ih, List.append_assoc]
    · rw [show b + (d + 1) = b + d + 1 from rfl, up_no (by omega) hp, up_no (by omega) hp, ih]
theorem down_append {a k j : Nat} (h1 : j ≤ k) (h2 : k ≤ a) : down a j = down a k ++ down k j := by
  unfold down
  rw [up_append (show j + 1 ≤ k + 1 by omega) (show k + 1 ≤ a + 1 by omega), List.reverse_append]

/-- Between two rounds; and when a round has broken off. -/
def LI (n₀ Bk Bo k : Nat) (w : World) (pre : List U32) (W : World) : Prop :=
  (∃ v, Boxed W Bo 29 v ∧ W.ownsRow n₀ 22 1 v pre.length (pre.map encV) ∧ True) ∧ (Boxed W Bk 3 (.int .i64 (k : Int)) ∧ pre.length ≤ k) ∧ Below n₀ w W
def LX (n₀ Bo k : Nat) (w : World) (c : Code) (ys : List U32) (W : World) : Prop :=
  (∃ v, Boxed W Bo 29 v ∧ W.ownsRow n₀ 22 1 v ys.dropLast.length (ys.dropLast.map encV) ∧ True) ∧ (c = .exit 0 ∧ ys.dropLast.length = k) ∧ Below n₀ w W
theorem LX.own {n₀ Bo k B : Nat} {w : World} (h0 : n₀ ≤ w.heap.size) (hB : n₀ ≤ B) (c : Code) : OwnFrom B (LX n₀ Bo k w c) := by
  refine OwnFrom.and (Own.from (holdsRow_own n₀ Bo 29 22 1 (fun ys : List U32 => ys.dropLast.length) (fun ys : List U32 => ys.dropLast.map encV) (fun _ _ => True)) _) (OwnFrom.and (Own.from (fun _ _ _ _ hs _ _ => hs) _) (ownFrom_below h0 hB))
theorem LI.own {n₀ Bk Bo k B : Nat} {w : World} (h0 : n₀ ≤ w.heap.size) (hB : n₀ ≤ B) : OwnFrom B (LI n₀ Bk Bo k w) := by
  refine OwnFrom.and (Own.from (holdsRow_own n₀ Bo 29 22 1 List.length (fun pre => pre.map encV) (fun _ _ => True)) _) (OwnFrom.and (Own.from (fun _ _ _ _ hs hg hr => ⟨hs.1.kept hg (fun e => by
    obtain ⟨o, ho, hc⟩ := hr _ e.symm
    rw [show _ = _ from hs.1] at ho; cases ho; cases hc), hs.2⟩) _) (ownFrom_below h0 hB))

def ListPost (L : List Nat) (w : World) (e : Ending) (W' : World) : Prop := ∃ v, e = .returned (.tuple #[v, .int .i64 0]) ∧ W'.ownsRow w.heap.size 22 1 v L.length (u32s L) ∧ Below w.heap.size w W'
theorem ListPost.of {w : World} {D : Nat} {W : World} {v : Value} {ys : List U32} {L : List Nat} (hL : ys.map (·.1) = L) (hrow : W.ownsRow w.heap.size 22 1 v ys.length (ys.map encV)) (hB : Below w.heap.size w W) (hK : W.heap[D]? = some (.deferred (some []))) (hD : w.heap.size ≤ D) :
    ListPost L w (.returned (.tuple #[v, .int .i64 0])) (W.putObj D (.deferred none)) := by
  refine ⟨v, rfl, ?_, hB.trans (belowK_b (w := w) (Nat.le_refl _) W D _ _ hD hK rfl rfl)⟩
  have h := ownsRow_putObj hrow (.deferred none) hK rfl
  rw [encV_map, hL] at h
  rwa [← hL, List.length_map, hL]

set_option maxRecDepth 100000 in
set_option maxHeartbeats 4000000 in
theorem list_up (m a k : Nat) (hm : 3 ≤ m) (ha : a < 4294967296) (hk : k ≤ 10000) (w : World) (hw : Bases w) :
    CallsIn Fence.wide m Tryd.prog 21 #[.int .u32 (a : Int), .int .i64 (k : Int), .bool false] w (ListPost ((up a 4294967296).take k) w) := by
  have hb0 := hw.lt
  have Hw := Lib.hid hw
  have h1 : 1 ≤ m := by omega
  obtain ⟨i0, hi, hz0, hz1, hz2⟩ := info_parts Tryd.infoU
  clear hw
  refine callsIn_of_wp_marks Tryd.func21 rfl trivial ?_ rfl
  simp only [Tryd.ntmps21, List.size_toArray, List.length_cons, List.length_nil, Nat.reduceAdd, Nat.reduceSub, Array.replicate_succ, Array.replicate_zero, List.push_toArray, List.append_toArray, List.nil_append, List.cons_append]
  gi_wp2_with fail
  refine ⟨trivial, (callsIn_wide.2 (rising_any a _)).mono ?_⟩
  rintro e _ ⟨rfl, rfl⟩
  gi_wp2_with fail
  have bK := Boxed.new w 3 (.int .i64 (k : Int))
  have bF := Boxed.new (w.alloc (.cells #[.int .i64 (k : Int)] 3)) 22 (.int .u32 (a : Int))
  have bO := Boxed.new ((w.alloc (.cells #[.int .i64 (k : Int)] 3)).alloc (.cells #[.int .u32 (a : Int)] 22)) 29 (.slice none 0 0)
  simp only [World.size_alloc] at bF bO
  have hB0 : Below w.heap.size w (((w.alloc (.cells #[.int .i64 (k : Int)] 3)).alloc (.cells #[.int .u32 (a : Int)] 22)).alloc (.cells #[.slice none 0 0] 29)) := (((Below.refl _ w).alloc (Nat.le_refl _) _).alloc (by simp) _).alloc (by simp; omega) _
  refine wpIn_rangeFunc_ownF rfl h1 (gf := 63) (lb := #[.pointer (some ⟨w.heap.size + 1, 0, none⟩)]) rfl trivial (enters_of Tryd.func63 (by kernel_rfl) rfl)
    (rising_stops (m - 1) (by omega) (w.heap.size + 1) w.heap.size a ha _ (by simp) (by simp; omega) (bF.alloc _).cell (Hw.out.keep hB0 hb0) hb0) belowK_t (belowK_b (by simp; omega)) (Below.refl _ _) (fun _ => rfl)
    (LI w.heap.size w.heap.size (w.heap.size + 1 + 1) k w) (LX w.heap.size (w.heap.size + 1 + 1) k w) (LI.own (Nat.le_refl _) (by simp; omega)) (LX.own (Nat.le_refl _) (by simp; omega))
    ⟨⟨_, bO, World.ownsRow_nil _ _ _ _, trivial⟩, ⟨(bK.alloc _).alloc _, Nat.zero_le _⟩, hB0⟩
    ?act ?assign ?body ?done ?stop
  case assign =>
    intro l x W K hK
    gi_wp2
    exact hK
  case body =>
    intro l pre x W hI hlen
    clear hlen bK bF bO hB0
    obtain ⟨⟨v, hv, hrow, _⟩, ⟨hbk, hlk⟩, hB⟩ := hI
    have hc := hv.cell
    have hck := hbk.cell
    obtain ⟨A, c, rfl⟩ := own_slice hrow
    by_cases hke : pre.length = k
    · have t1 : ((pre.length : Int) == (k : Int)) = true := by simp [hke]
      have HX := Lib.hid (show LX w.heap.size (w.heap.size + 1 + 1) k w (.exit 0) (pre ++ [x]) W from ⟨⟨_, hv, by rw [List.dropLast_concat]; exact hrow, trivial⟩, ⟨rfl, by rw [List.dropLast_concat]; exact hke⟩, hB⟩)
      clear hke
      gi_wp2
      exact ⟨KeepsOthers.refl _, HX.out⟩
    · have t1 : ((pre.length : Int) == (k : Int)) = false := by simp; omega
      have hlk2 : pre.length + 1 ≤ k := by omega
      clear hke
      gi_wp2_with (gi_at_builtin; refine wpListIn_append_own _ rfl _ _ 29 rfl w.heap.size 22 i0 (.int .u32 0) 1 4 Tryd.underlying29 hi hz0 hz1 hz2 rfl (by decide) _ _ _ rfl (hrow.alloc _) ⟨W.heap.size, 0, none⟩ 1 1 [.int .u32 (x.1 : Int)] rfl rfl (cell_one_new _ _ _) (by simp [Value.oneCell']) (by unfold maxLen; omega) (by omega) (by have := hB.size; simp; omega) ?_; intro v' w1 hown' hgrow _; obtain ⟨g', cap', rfl⟩ := ownsRow_succ hown'; obtain ⟨hv1, hv2, hr2, hk2, hb2⟩ := hv.appended (by decide) hrow hB.size (by omega) hown' hgrow; have hc1 := hv1.cell; have hf1 := hv1.frozen)
      have hbk1 := (hbk.alloc _).kept hgrow (hbk.not_row (by decide) hrow)
      exact ⟨hk2, hb2, ⟨_, hv2, by simpa [encV] using hr2, trivial⟩, ⟨(Below.heap_setCell _ _ _ _ (by simp; omega)).trans hbk1, by simp; omega⟩, hB.trans hb2⟩
  case done =>
    rintro D ys W hD hys ⟨⟨v, hv, hrow, _⟩, ⟨hbk, hlk⟩, hB⟩ hK
    have hc := hv.cell
    have HL := Lib.hid (show ys.map (·.1) = (up a 4294967296).take k from by
      rw [List.take_of_length_le (by rw [← hys, List.length_map]; exact hlk)]; exact hys)
    clear bK bF bO hB0 hys
    gi_wp2
    refine ⟨by simp, .inl ⟨_, _, rfl, run_takeDeferred hK, ?_⟩⟩
    refine ⟨_, results_tmp2 (t := 6) (u := 7) rfl _ _ _, ?_⟩
    exact ListPost.of HL.out hrow hB hK (by simp at hD; omega)
  case stop =>
    rintro D c ys W hD ⟨p, q, rfl, hq1, hq2, hq3⟩ ⟨⟨v, hv, hrow, _⟩, ⟨rfl, hlk⟩, hB⟩ hK
    rw [List.dropLast_concat] at hrow hlk
    have hc := hv.cell
    have HL := Lib.hid (show p.map (·.1) = (up a 4294967296).take k from by
      rw [up_append hq1 (show q.1 ≤ 4294967296 by have := q.2; omega), ← hq3, List.take_left' (by rw [List.length_map]; exact hlk)])
    clear bK bF bO hB0 hq3
    gi_wp2
    refine ⟨by simp, .inl ⟨_, _, rfl, run_takeDeferred hK, ?_⟩⟩
    refine ⟨_, results_tmp2 (t := 6) (u := 7) rfl _ _ _, ?_⟩
    exact ListPost.of HL.out hrow hB hK (by simp at hD; omega)

set_option maxRecDepth 100000 in
set_option maxHeartbeats 4000000 in
theorem list_down (m a k : Nat) (hm : 3 ≤ m) (ha : a < 4294967296) (hk : k ≤ 10000) (w : World) (hw : Bases w) :
    CallsIn Fence.wide m Tryd.prog 21 #[.int .u32 (a : Int), .int .i64 (k : Int), .bool true] w (ListPost ((down a 1).take k) w) := by
  have hb0 := hw.lt
  have Hw := Lib.hid hw
  have h1 : 1 ≤ m := by omega
  obtain ⟨i0, hi, hz0, hz1, hz2⟩ := info_parts Tryd.infoU
  clear hw
  refine callsIn_of_wp_marks Tryd.func21 rfl trivial ?_ rfl
  simp only [Tryd.ntmps21, List.size_toArray, List.length_cons, List.length_nil, Nat.reduceAdd, Nat.reduceSub, Array.replicate_succ, Array.replicate_zero, List.push_toArray, List.append_toArray, List.nil_append, List.cons_append]
  gi_wp2_with fail
  refine ⟨trivial, (callsIn_wide.2 (rising_any a _)).mono ?_⟩
  rintro e _ ⟨rfl, rfl⟩
  gi_wp2_with fail
  refine ⟨trivial, (callsIn_wide.2 (falling_any a _)).mono ?_⟩
  rintro e _ ⟨rfl, rfl⟩
  gi_wp2_with fail
  have bK := Boxed.new w 3 (.int .i64 (k : Int))
  have bF := Boxed.new ((w.alloc (.cells #[.int .i64 (k : Int)] 3)).alloc (.cells #[.int .u32 (a : Int)] 22)) 22 (.int .u32 (a : Int))
  have bO := Boxed.new (((w.alloc (.cells #[.int .i64 (k : Int)] 3)).alloc (.cells #[.int .u32 (a : Int)] 22)).alloc (.cells #[.int .u32 (a : Int)] 22)) 29 (.slice none 0 0)
  simp only [World.size_alloc] at bF bO
  have hB0 : Below w.heap.size w ((((w.alloc (.cells #[.int .i64 (k : Int)] 3)).alloc (.cells #[.int .u32 (a : Int)] 22)).alloc (.cells #[.int .u32 (a : Int)] 22)).alloc (.cells #[.slice none 0 0] 29)) := ((((Below.refl _ w).alloc (Nat.le_refl _) _).alloc (by simp) _).alloc (by simp; omega) _).alloc (by simp; omega) _
  refine wpIn_rangeFunc_ownF rfl h1 (gf := 64) (lb := #[.pointer (some ⟨w.heap.size + 1 + 1, 0, none⟩)]) rfl trivial (enters_of Tryd.func64 (by kernel_rfl) rfl)
    (falling_stops (m - 1) (by omega) (w.heap.size + 1 + 1) w.heap.size a ha _ (by simp) (by simp; omega) (bF.alloc _).cell (Hw.out.keep hB0 hb0) hb0) belowK_t (belowK_b (by simp; omega)) (Below.refl _ _) (fun _ => rfl)
    (LI w.heap.size w.heap.size (w.heap.size + 1 + 1 + 1) k w) (LX w.heap.size (w.heap.size + 1 + 1 + 1) k w) (LI.own (Nat.le_refl _) (by simp; omega)) (LX.own (Nat.le_refl _) (by simp; omega))
    ⟨⟨_, bO, World.ownsRow_nil _ _ _ _, trivial⟩, ⟨((bK.alloc _).alloc _).alloc _, Nat.zero_le _⟩, hB0⟩
    ?act ?assign ?body ?done ?stop
  case assign =>
    intro l x W K hK
    gi_wp2
    exact hK
  case body =>
    intro l pre x W hI hlen
    clear hlen bK bF bO hB0
    obtain ⟨⟨v, hv, hrow, _⟩, ⟨hbk, hlk⟩, hB⟩ := hI
    have hc := hv.cell
    have hck := hbk.cell
    obtain ⟨A, c, rfl⟩ := own_slice hrow
    by_cases hke : pre.length = k
    · have t1 : ((pre.length : Int) == (k : Int)) = true := by simp [hke]
      have HX := Lib.hid (show LX w.heap.size (w.heap.size + 1 + 1 + 1) k w (.exit 0) (pre ++ [x]) W from ⟨⟨_, hv, by rw [List.dropLast_concat]; exact hrow, trivial⟩, ⟨rfl, by rw [List.dropLast_concat]; exact hke⟩, hB⟩)
      clear hke
      gi_wp2
      exact ⟨KeepsOthers.refl _, HX.out⟩
    · have t1 : ((pre.length : Int) == (k : Int)) = false := by simp; omega
      have hlk2 : pre.length + 1 ≤ k := by omega
      clear hke
      gi_wp2_with (gi_at_builtin; refine wpListIn_append_own _ rfl _ _ 29 rfl w.heap.size 22 i0 (.int .u32 0) 1 4 Tryd.underlying29 hi hz0 hz1 hz2 rfl (by decide) _ _ _ rfl (hrow.alloc _) ⟨W.heap.size, 0, none⟩ 1 1 [.int .u32 (x.1 : Int)] rfl rfl (cell_one_new _ _ _) (by simp [Value.oneCell']) (by unfold maxLen; omega) (by omega) (by have := hB.size; simp; omega) ?_; intro v' w1 hown' hgrow _; obtain ⟨g', cap', rfl⟩ := ownsRow_succ hown'; obtain ⟨hv1, hv2, hr2, hk2, hb2⟩ := hv.appended (by decide) hrow hB.size (by omega) hown' hgrow; have hc1 := hv1.cell; have hf1 := hv1.frozen)
      have hbk1 := (hbk.alloc _).kept hgrow (hbk.not_row (by decide) hrow)
      exact ⟨hk2, hb2, ⟨_, hv2, by simpa [encV] using hr2, trivial⟩, ⟨(Below.heap_setCell _ _ _ _ (by simp; omega)).trans hbk1, by simp; omega⟩, hB.trans hb2⟩
  case done =>
    rintro D ys W hD hys ⟨⟨v, hv, hrow, _⟩, ⟨hbk, hlk⟩, hB⟩ hK
    have hc := hv.cell
    have HL := Lib.hid (show ys.map (·.1) = (down a 1).take k from by
      rw [List.take_of_length_le (by rw [← hys, List.length_map]; exact hlk)]; exact hys)
    clear bK bF bO hB0 hys
    gi_wp2
    refine ⟨by simp, .inl ⟨_, _, rfl, run_takeDeferred hK, ?_⟩⟩
    refine ⟨_, results_tmp2 (t := 6) (u := 7) rfl _ _ _, ?_⟩
    exact ListPost.of HL.out hrow hB hK (by simp at hD; omega)
  case stop =>
    rintro D c ys W hD ⟨p, q, rfl, hq1, hq2, hq3⟩ ⟨⟨v, hv, hrow, _⟩, ⟨rfl, hlk⟩, hB⟩ hK
    rw [List.dropLast_concat] at hrow hlk
    have hc := hv.cell
    have HL := Lib.hid (show p.map (·.1) = (down a 1).take k from by
      rw [down_append (show 1 ≤ q.1 by have := hq2.1; omega) hq1, ← hq3, List.take_left' (by rw [List.length_map]; exact hlk)])
    clear bK bF bO hB0 hq3
    gi_wp2
    refine ⟨by simp, .inl ⟨_, _, rfl, run_takeDeferred hK, ?_⟩⟩
    refine ⟨_, results_tmp2 (t := 6) (u := 7) rfl _ _ _, ?_⟩
    exact ListPost.of HL.out hrow hB hK (by simp at hD; omega)

set_option maxHeartbeats 800000 in
theorem list_bad (a : Nat) (k : Int) (dn : Bool) (hk : -9223372036854775808 ≤ k ∧ k ≤ 9223372036854775807) (h : k < 0 ∨ 10000 < k) (w : World) :
    Calls Tryd.prog 21 #[.int .u32 (a : Int), .int .i64 k, .bool dn] w fun e w' => e = .returned (.tuple #[.slice none 0 0, .int .i64 1]) ∧ Below w.heap.size w w' := by
  by_cases h0 : k < 0
  · go_enter Tryd.func21, Tryd.ntmps21
    go_wp2
    go_ret2
    exact ⟨rfl, (Below.refl _ _).alloc (Nat.le_refl _) _⟩
  · have h2 : 10000 < k := by omega
    go_enter Tryd.func21, Tryd.ntmps21
    go_wp2
    go_ret2
    exact ⟨rfl, (Below.refl _ _).alloc (Nat.le_refl _) _⟩
end Go.Proofs.YtnjhppdcpjgfmaaDoor
