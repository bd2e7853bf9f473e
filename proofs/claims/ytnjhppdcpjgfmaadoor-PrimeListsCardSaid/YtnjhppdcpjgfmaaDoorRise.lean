/- The primes one by one: the contracts of rising's and falling's closures, for whatever loop over them. Conditions: bases reads 2, 7, 61 in memory that the rounds keep. -/
import Derived.RangeFuncFrom
import Derived.RangeFuncKeeps
import Derived.RangeFuncLeaves
import Derived.Shelf.Abstract
import Derived.WalkKit
import Derived.OwnWalkIn
import Derived.TacticsInMore
import Derived.LoopNIn
import Derived.LoopIn
import Derived.Test.YtnjhppdcpjgfmaaDoorPrimeT
namespace Go.Proofs.YtnjhppdcpjgfmaaDoor
open Go.RowKit Go.Shelf

attribute [local go_sem] Oper.semAt_some

/-- A number of 32 bits. -/
abbrev U32 := { x : Nat // x < 4294967296 }
abbrev encU (x : U32) : Array Value := #[.int .u32 (x.1 : Int)]
/-- The primes from a on below b, rising. -/
noncomputable def up (a b : Nat) : List Nat := ((List.range (b - a)).map (a + ·)).filter isP
theorem up_self (a : Nat) : up a a = [] := by simp [up]
theorem up_yes {a b : Nat} (h : a ≤ b) (hp : Pr b) : up a (b + 1) = up a b ++ [b] := by
  unfold up
  rw [show b + 1 - a = (b - a) + 1 from by omega, List.range_succ, List.map_append, List.filter_append]
  simp only [List.map_cons, List.map_nil, show a + (b - a) = b from by omega, List.filter_cons, isP_true hp, if_true, List.filter_nil]
theorem up_no {a b : Nat} (h : a ≤ b) (hp : ¬ Pr b) : up a (b + 1) = up a b := by
  unfold up
  rw [show b + 1 - a = (b - a) + 1 from by omega, List.range_succ, List.map_append, List.filter_append]
  simp [show a + (b - a) = b from by omega, isP_false hp]
theorem up_length (a b : Nat) : (up a b).length ≤ b - a := by
  unfold up
  exact Nat.le_trans (List.length_filter_le _ _) (by simp)
theorem up_nil {a b : Nat} (h : up a b = []) (m : Nat) (h1 : a ≤ m) (h2 : m < b) : ¬ Pr m := fun hp => by
  have : m ∈ up a b := List.mem_filter.2 ⟨List.mem_map.2 ⟨m - a, List.mem_range.2 (by omega), by omega⟩, isP_true hp⟩
  rw [h] at this
  cases this
theorem up_cons {a b : Nat} (h : a < b) : up a b = if isP a = true then a :: up (a + 1) b else up (a + 1) b := by
  unfold up
  rw [show b - a = (b - (a + 1)) + 1 from by omega, List.range_succ_eq_map, List.map_cons, List.filter_cons, List.map_map, Nat.add_zero,
    show (List.map ((a + ·) ∘ Nat.succ) (List.range (b - (a + 1)))) = List.map (a + 1 + ·) (List.range (b - (a + 1))) from List.map_congr_left fun x _ => by simp; omega]
/-- The primes from a down, above k. -/
noncomputable def down (a k : Nat) : List Nat := (up (k + 1) (a + 1)).reverse
theorem down_self (a : Nat) : down a a = [] := by simp [down, up]
theorem down_yes {a k : Nat} (h : k + 1 ≤ a) (hp : Pr (k + 1)) : down a k = down a (k + 1) ++ [k + 1] := by
  unfold down
  rw [up_cons (show k + 1 < a + 1 by omega), if_pos (isP_true hp), List.reverse_cons]
theorem down_no {a k : Nat} (h : k + 1 ≤ a) (hp : ¬ Pr (k + 1)) : down a k = down a (k + 1) := by
  unfold down
  rw [up_cons (show k + 1 < a + 1 by omega), if_neg (by rw [isP_false hp]; simp)]
theorem down_length (a k : Nat) : (down a k).length ≤ a - k := by
  unfold down
  rw [List.length_reverse]
  have := up_length (k + 1) (a + 1)
  omega

set_option maxRecDepth 100000 in
set_option maxHeartbeats 2000000 in
theorem rising1_in (n : Nat) (hn : 1 ≤ n) (l Bn n₀ a : Nat) (ha : a < 4294967296) (J Jx : List U32 → World → Prop)
    (hY : ∀ pre x W, J pre W → pre.length < 4294967296 → YieldAt Fence.wide (n - 1) Tryd.prog l (encU x) W fun e W' =>
      (e = .returned (.bool true) ∧ J (pre ++ [x]) W' ∧ Below n₀ W W') ∨ (e = .returned (.bool false) ∧ Jx (pre ++ [x]) W'))
    (W : World) (hBn : W.cell? ⟨Bn, 0, none⟩ = some (.int .u32 (a : Int))) (hw : Bases W) (hlt : 0 < n₀) (h0 : J [] W) :
    CallsIn Fence.wide n Tryd.prog 63 #[.func (.yield l) #[] #[], .pointer (some ⟨Bn, 0, none⟩)] W fun e W' => (∃ v, e = .returned v) ∧
      ((∃ ys : List U32, ys.map (·.1) = up a 4294967296 ∧ J ys W') ∨ (∃ (pre : List U32) (m : U32), a ≤ m.1 ∧ Pr m.1 ∧ pre.map (·.1) = up a m.1 ∧ Jx (pre ++ [m]) W')) := by
  refine callsIn_of_wp Tryd.func63 rfl trivial ?_ rfl
  simp only [Tryd.ntmps63, List.size_toArray, List.length_cons, List.length_nil, Nat.reduceAdd, Nat.reduceSub, Array.replicate_succ, Array.replicate_zero, List.push_toArray, List.append_toArray, List.nil_append, List.cons_append]
  gi_wp2
  gi_loopw [3] (fun nv wr => ∃ (k : Nat) (pre : List U32), nv = .int .u64 (k : Int) ∧ a ≤ k ∧ k ≤ 4294967296 ∧ pre.map (·.1) = up a k ∧ J pre wr ∧ Bases wr)
    (fun nv _ => 4294967296 - (intOf nv).toNat)
  case atStart => exact ⟨a, [], rfl, Nat.le_refl _, by omega, by rw [up_self]; rfl, h0, hw⟩
  case round =>
    obtain ⟨k, pre, rfl, hak, hk, hpre, hJs, hb⟩ := hrel
    rcases Nat.lt_or_ge k 4294967296 with hlt2 | hge
    · have hlen : pre.length < 4294967296 := by
        have h1 := up_length a k
        rw [← hpre, List.length_map] at h1
        omega
      by_cases hp : Pr k
      · obtain ⟨fn, tmps, assign, body, hy, hR⟩ := hY pre ⟨k, hlt2⟩ wr hJs hlen
        dsimp only [encU] at hy
        have HI := Lib.hid (fun W hW => is_yes k hp hlt2 W hW)
        have Hup := Lib.hid (up_yes hak hp)
        have Hpre := Lib.hid hpre
        have Hp := Lib.hid hp
        have Hb := Lib.hid hb
        clear hpre hp hb
        gi_wp2_with fail
        refine ⟨trivial, (callsIn_wide.2 (HI.out _ Hb.out)).mono ?_⟩
        rintro e _ ⟨rfl, rfl⟩
        gi_wp2_with fail
        refine hR.mono ?_
        rintro e W3 (⟨rfl, hJ3, hk3⟩ | ⟨rfl, hJx3⟩)
        · gi_wp2
          go_roundw
          case rel => exact ⟨k + 1, pre ++ [⟨k, hlt2⟩], by go_num, by omega, by omega, by rw [List.map_append, Hpre.out, Hup.out]; rfl, hJ3, Hb.out.keep hk3 hlt⟩
          case measure => simp [intOf]; omega
        · gi_wp2
          refine bodyPost_ret (results_none rfl _ _ _) rfl ?_
          exact ⟨⟨_, rfl⟩, .inr ⟨pre, ⟨k, hlt2⟩, hak, Hp.out, Hpre.out, hJx3⟩⟩
      · have HI := Lib.hid (fun W hW => is_no k hp hlt2 W hW)
        have Hup := Lib.hid (up_no hak hp)
        have Hpre := Lib.hid hpre
        have Hb := Lib.hid hb
        clear hpre hp hb
        gi_wp2_with fail
        refine ⟨trivial, (callsIn_wide.2 (HI.out _ Hb.out)).mono ?_⟩
        rintro e _ ⟨rfl, rfl⟩
        gi_wp2
        refine ⟨fun _ h => (by cases h), ?_⟩
        gi_wp2
        go_roundw
        case rel => exact ⟨k + 1, pre, by go_num, by omega, by omega, by rw [Hup.out]; exact Hpre.out, hJs, Hb.out⟩
        case measure => simp [intOf]; omega
    · obtain rfl : k = 4294967296 := by omega
      have Hpre := Lib.hid hpre
      clear hpre
      gi_wp2
      go_end0
      exact ⟨⟨_, rfl⟩, .inl ⟨pre, Hpre.out, hJs⟩⟩
set_option maxRecDepth 100000 in
set_option maxHeartbeats 2000000 in
theorem falling1_in (n : Nat) (hn : 1 ≤ n) (l Bn n₀ a : Nat) (ha : a < 4294967296) (J Jx : List U32 → World → Prop)
    (hY : ∀ pre x W, J pre W → pre.length < 4294967296 → YieldAt Fence.wide (n - 1) Tryd.prog l (encU x) W fun e W' =>
      (e = .returned (.bool true) ∧ J (pre ++ [x]) W' ∧ Below n₀ W W') ∨ (e = .returned (.bool false) ∧ Jx (pre ++ [x]) W'))
    (W : World) (hBn : W.cell? ⟨Bn, 0, none⟩ = some (.int .u32 (a : Int))) (hw : Bases W) (hlt : 0 < n₀) (h0 : J [] W) :
    CallsIn Fence.wide n Tryd.prog 64 #[.func (.yield l) #[] #[], .pointer (some ⟨Bn, 0, none⟩)] W fun e W' => (∃ v, e = .returned v) ∧
      ((∃ ys : List U32, ys.map (·.1) = down a 1 ∧ J ys W') ∨ (∃ (pre : List U32) (m : U32), m.1 ≤ a ∧ Pr m.1 ∧ pre.map (·.1) = down a m.1 ∧ Jx (pre ++ [m]) W')) := by
  refine callsIn_of_wp Tryd.func64 rfl trivial ?_ rfl
  simp only [Tryd.ntmps64, List.size_toArray, List.length_cons, List.length_nil, Nat.reduceAdd, Nat.reduceSub, Array.replicate_succ, Array.replicate_zero, List.push_toArray, List.append_toArray, List.nil_append, List.cons_append]
  gi_wp2
  gi_loopw [3] (fun nv wr => ∃ (k : Nat) (pre : List U32), nv = .int .u32 (k : Int) ∧ k ≤ a ∧ (1 ≤ k ∨ k = a) ∧ pre.map (·.1) = down a k ∧ J pre wr ∧ Bases wr)
    (fun nv _ => (intOf nv).toNat)
  case atStart => exact ⟨a, [], rfl, Nat.le_refl _, Or.inr rfl, by rw [down_self]; rfl, h0, hw⟩
  case round =>
    obtain ⟨k, pre, rfl, hak, hk, hpre, hJs, hb⟩ := hrel
    rcases Nat.lt_or_ge 1 k with hk1 | hk1
    · obtain ⟨j, rfl⟩ : ∃ j, k = j + 1 := ⟨k - 1, by omega⟩
      have hlt2 : j + 1 < 4294967296 := by omega
      have hlen : pre.length < 4294967296 := by
        have h1 := down_length a (j + 1)
        rw [← hpre, List.length_map] at h1
        omega
      by_cases hp : Pr (j + 1)
      · obtain ⟨fn, tmps, assign, body, hy, hR⟩ := hY pre ⟨j + 1, hlt2⟩ wr hJs hlen
        dsimp only [encU] at hy
        rw [show ((j + 1 : Nat) : Int) = (j : Int) + 1 from by go_num] at hy
        have HI := Lib.hid (fun W hW => is_yes (j + 1) hp hlt2 W hW)
        have Hup := Lib.hid (down_yes hak hp)
        have Hpre := Lib.hid hpre
        have Hp := Lib.hid hp
        have Hb := Lib.hid hb
        have ec : ((j + 1 : Nat) : Int) = (j : Int) + 1 := by go_num
        rw [ec] at HI
        clear hpre hp hb ec
        gi_wp2_with fail
        refine ⟨trivial, (callsIn_wide.2 (HI.out _ Hb.out)).mono ?_⟩
        rintro e _ ⟨rfl, rfl⟩
        gi_wp2_with fail
        refine hR.mono ?_
        rintro e W3 (⟨rfl, hJ3, hk3⟩ | ⟨rfl, hJx3⟩)
        · gi_wp2
          go_roundw
          case rel => exact ⟨j, pre ++ [⟨j + 1, hlt2⟩], by go_num, by omega, by omega, by rw [List.map_append, Hpre.out, Hup.out]; rfl, hJ3, Hb.out.keep hk3 hlt⟩
          case measure => simp [intOf]
        · gi_wp2
          refine bodyPost_ret (results_none rfl _ _ _) rfl ?_
          exact ⟨⟨_, rfl⟩, .inr ⟨pre, ⟨j + 1, hlt2⟩, hak, Hp.out, Hpre.out, hJx3⟩⟩
      · have HI := Lib.hid (fun W hW => is_no (j + 1) hp hlt2 W hW)
        have Hup := Lib.hid (down_no hak hp)
        have Hpre := Lib.hid hpre
        have Hb := Lib.hid hb
        have ec : ((j + 1 : Nat) : Int) = (j : Int) + 1 := by go_num
        rw [ec] at HI
        clear hpre hp hb ec
        gi_wp2_with fail
        refine ⟨trivial, (callsIn_wide.2 (HI.out _ Hb.out)).mono ?_⟩
        rintro e _ ⟨rfl, rfl⟩
        gi_wp2
        refine ⟨fun _ h => (by cases h), ?_⟩
        gi_wp2
        go_roundw
        case rel => exact ⟨j, pre, by go_num, by omega, by omega, by rw [Hup.out]; exact Hpre.out, hJs, Hb.out⟩
        case measure => simp [intOf]
    · have hS : pre.map (·.1) = down a 1 := by
        rcases Nat.eq_zero_or_pos k with h | h
        · subst h
          obtain rfl : a = 0 := by omega
          rw [hpre]; simp [down, up]
        · obtain rfl : k = 1 := by omega
          exact hpre
      have HS := Lib.hid hS
      clear hpre hS
      gi_wp2
      go_end0
      exact ⟨⟨_, rfl⟩, .inl ⟨pre, HS.out, hJs⟩⟩
end Go.Proofs.YtnjhppdcpjgfmaaDoor
