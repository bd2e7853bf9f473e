/- The contracts of trim and trimWords, and of what makes rows. -/
import Derived.Test.YtogkfpbapjjgfaaDoorNum
import Derived.Test.YtogkfpbapjjgfaaDoorRows
namespace Go.Proofs.YtogkfpbapjjgfaaDoor
open Go.RowKit

theorem trimL_take_zero (xs : List Nat) (m : Nat) (h : m < xs.length) (h0 : xs[m] = 0) : trimL (xs.take (m + 1)) = trimL (xs.take m) := by
  rw [List.take_succ_eq_append_getElem h, h0, trimL_snoc_zero]
theorem trimL_take_pos (xs : List Nat) (m : Nat) (h : m < xs.length) (h0 : xs[m] ≠ 0) : (trimL (xs.take (m + 1))).length = m + 1 := by
  rw [List.take_succ_eq_append_getElem h, trimL_snoc_pos _ _ h0]; simp; omega

/-- What a call hands back: a slice at the head of a row of its own, from block B on, whose first cells are vs. -/
def Res (w : World) (B : Nat) (t : TypeId) (A : Option Addr) (c : Nat) (vs : List Value) : Prop :=
  vs.length ≤ c ∧ c ≤ 281474976710656 ∧ (vs ≠ [] → ∃ g rest, A = some ⟨g, 0, none⟩ ∧ B ≤ g ∧ Blk w g t (vs ++ rest) ∧ vs.length + rest.length = c)

section
variable {w w' : World} {B B' : Nat} {t : TypeId} {A : Option Addr} {c : Nat} {vs : List Value}
theorem Res.rd (h : Res w B t A c vs) : Rd w w.heap.size A vs := fun hn => by
  obtain ⟨g, rest, rfl, _, hb, _⟩ := h.2.2 hn
  exact Rd.of_blk hb hb.lt 0 (fun k v hv => by
    rw [Nat.zero_add, List.getElem?_append_left (List.getElem?_eq_some_iff.1 hv).1]; exact hv) hn
theorem Res.none_ : Res w B t none 0 [] := ⟨by simp, by omega, fun h => absurd rfl h⟩
theorem Res.below (h : Res w B t A c vs) (hb : Below B' w w') (hB : w.heap.size ≤ B') : Res w' B t A c vs := ⟨h.1, h.2.1, fun hn => by
  obtain ⟨g, rest, e, hg, hk, hc⟩ := h.2.2 hn
  exact ⟨g, rest, e, hg, hk.below hb (by have := hk.lt; omega), hc⟩⟩
theorem Res.mono (h : Res w B t A c vs) (hB : B' ≤ B) : Res w B' t A c vs := ⟨h.1, h.2.1, fun hn => by
  obtain ⟨g, rest, e, hg, hk, hc⟩ := h.2.2 hn
  exact ⟨g, rest, e, by omega, hk, hc⟩⟩
theorem Res.take (h : Res w B t A c vs) (n : Nat) : Res w B t A c (vs.take n) := ⟨by rw [List.length_take]; have := h.1; omega, h.2.1, fun hn => by
  obtain ⟨g, rest, e, hg, hk, hc⟩ := h.2.2 (by rintro rfl; simp at hn)
  exact ⟨g, vs.drop n ++ rest, e, hg, by rw [← List.append_assoc, List.take_append_drop]; exact hk, by rw [List.length_append, List.length_take, List.length_drop]; omega⟩⟩
theorem Res.of_blk {g : Nat} {rest : List Value} (h : Blk w g t (vs ++ rest)) (hg : B ≤ g) (hc : vs.length + rest.length = c) (hm : c ≤ 281474976710656) : Res w B t (some ⟨g, 0, none⟩) c vs :=
  ⟨by omega, hm, fun _ => ⟨g, rest, rfl, hg, h, hc⟩⟩
theorem Res.of_blk0 {g : Nat} (h : Blk w g t vs) (hg : B ≤ g) (hm : vs.length ≤ 281474976710656) : Res w B t (some ⟨g, 0, none⟩) vs.length vs :=
  Res.of_blk (rest := []) (by simpa using h) hg (by simp) hm
end

theorem u32s_trim (xs : List Nat) : u32s (trimL xs) = (u32s xs).take (trimL xs).length := by
  unfold u32s; rw [← List.map_take, trimL_take]
theorem u64s_trim (xs : List Nat) : u64s (trimL xs) = (u64s xs).take (trimL xs).length := by
  unfold u64s; rw [← List.map_take, trimL_take]

theorem bcell {W w1 : World} (hb : Below W.heap.size W w1) : (∀ b o, b < W.heap.size → w1.cell? ⟨b, o, none⟩ = W.cell? ⟨b, o, none⟩) ∧ (∀ b o, b < W.heap.size → w1.frozen? ⟨b, o, none⟩ = W.frozen? ⟨b, o, none⟩) :=
  ⟨fun b o h => hb.cell (p := ⟨b, o, none⟩) h, fun b o h => hb.frozen (p := ⟨b, o, none⟩) h⟩

theorem made_one (z : Value) (n : Nat) (hz : z.cells = #[z]) : madeCells z.cells (n * 1) = (List.replicate n z).toArray := by
  rw [hz, Nat.mul_one]
  apply Array.ext'
  simp only [madeCells, List.size_toArray, List.length_singleton, Nat.mod_one]
  simp [Array.toList_map, List.map_const']

theorem Tryd.info32 : (Tryd.prog.info? 31).map (fun i => (i.zero, i.size, i.bytes)) = some (some (.int .u32 0), 1, 4) := by kernel_rfl
theorem Tryd.info64 : (Tryd.prog.info? 24).map (fun i => (i.zero, i.size, i.bytes)) = some (some (.int .u64 0), 1, 8) := by kernel_rfl

theorem mk32 (n : Nat) (h : n ≤ 70368744177664) (w : World) : (Instr.makeSlice 23 (.int .i64 (n : Int)) (.int .i64 (n : Int))).run Tryd.prog w = .ok (.slice (some ⟨w.heap.size, 0, none⟩) n n) (w.alloc (.cells (List.replicate n (Value.int .u32 0)).toArray 31)) := by
  obtain ⟨i0, hi, hz0, hz1, hz2⟩ := info_parts Tryd.info32
  have hr := run_make (P := Tryd.prog) w 23 31 i0 (.int .u32 0) Tryd.underlying23 hi hz0 .i64 .i64 n n (by omega) (by omega) (by rw [hz2]; omega) (by omega)
  rw [hz1, Int.toNat_natCast, made_one _ _ rfl] at hr
  exact hr
theorem mk64 (n : Nat) (h : n ≤ 35184372088832) (w : World) : (Instr.makeSlice 57 (.int .i64 (n : Int)) (.int .i64 (n : Int))).run Tryd.prog w = .ok (.slice (some ⟨w.heap.size, 0, none⟩) n n) (w.alloc (.cells (List.replicate n (Value.int .u64 0)).toArray 24)) := by
  obtain ⟨i0, hi, hz0, hz1, hz2⟩ := info_parts Tryd.info64
  have hr := run_make (P := Tryd.prog) w 57 24 i0 (.int .u64 0) Tryd.underlying57 hi hz0 .i64 .i64 n n (by omega) (by omega) (by rw [hz2]; omega) (by omega)
  rw [hz1, Int.toNat_natCast, made_one _ _ rfl] at hr
  exact hr

set_option maxHeartbeats 400000 in
theorem trim_any (A : Option Addr) (c : Nat) (xs : List Nat) (w : World) (B : Nat) (hr : Rd w B A (u32s xs)) (hc : xs.length ≤ c) (hm : xs.length ≤ 281474976710656) :
    Calls Tryd.prog 37 #[.slice A xs.length c] w fun e w' => e = .returned (.slice A (trimL xs).length c) ∧ w = w' := by
  go_enter Tryd.func37, Tryd.ntmps37
  go_wp2
  go_loop [0] (fun v => ∃ m : Nat, m ≤ xs.length ∧ v = .slice A m c ∧ trimL (xs.take m) = trimL xs) (fun v => match v with | .slice _ m _ => m | _ => 0)
  case atStart => exact ⟨xs.length, Nat.le_refl _, rfl, by simp⟩
  case round =>
    obtain ⟨m, hm1, rfl, ht⟩ := hrel
    have Ht := Lib.hid ht; clear ht
    rcases m with _ | m
    · go_wp2
      go_ret
      have h0 : (trimL xs).length = 0 := by rw [← Ht.out]; rfl
      exact ⟨by rw [h0]; rfl, rfl⟩
    · obtain ⟨b, off, rfl, hb, hcell⟩ := hr (by intro e; have := u32s_length xs; rw [e] at this; simp at this; omega)
      have hcl := hcell m _ (u32s_at (by omega))
      clear hcell
      by_cases h0 : xs[m] = 0
      · have hz := trimL_take_zero xs m (by omega) h0
        rw [h0] at hcl
        have Hz := Lib.hid hz
        clear hz h0
        go_wp2
        go_round
        case rel => exact ⟨m, by omega, rfl, by rw [← Hz.out]; exact Ht.out⟩
        case measure => simp
      · have hz := trimL_take_pos xs m (by omega) h0
        have Hz := Lib.hid hz
        have hne : ((xs[m] : Int) == 0) = false := by simp; omega
        clear hz
        go_wp2
        go_ret
        exact ⟨by rw [← Hz.out, Ht.out]; rfl, rfl⟩

set_option maxHeartbeats 400000 in
theorem trimWords_any (A : Option Addr) (c : Nat) (xs : List Nat) (w : World) (B : Nat) (hr : Rd w B A (u64s xs)) (hc : xs.length ≤ c) (hm : xs.length ≤ 281474976710656) :
    Calls Tryd.prog 66 #[.slice A xs.length c] w fun e w' => e = .returned (.slice A (trimL xs).length c) ∧ w = w' := by
  go_enter Tryd.func66, Tryd.ntmps66
  go_wp2
  go_loop [0] (fun v => ∃ m : Nat, m ≤ xs.length ∧ v = .slice A m c ∧ trimL (xs.take m) = trimL xs) (fun v => match v with | .slice _ m _ => m | _ => 0)
  case atStart => exact ⟨xs.length, Nat.le_refl _, rfl, by simp⟩
  case round =>
    obtain ⟨m, hm1, rfl, ht⟩ := hrel
    have Ht := Lib.hid ht; clear ht
    rcases m with _ | m
    · go_wp2
      go_ret
      have h0 : (trimL xs).length = 0 := by rw [← Ht.out]; rfl
      exact ⟨by rw [h0]; rfl, rfl⟩
    · obtain ⟨b, off, rfl, hb, hcell⟩ := hr (by intro e; have := u64s_length xs; rw [e] at this; simp at this; omega)
      have hcl := hcell m _ (u64s_at (by omega))
      clear hcell
      by_cases h0 : xs[m] = 0
      · have hz := trimL_take_zero xs m (by omega) h0
        rw [h0] at hcl
        have Hz := Lib.hid hz
        clear hz h0
        go_wp2
        go_round
        case rel => exact ⟨m, by omega, rfl, by rw [← Hz.out]; exact Ht.out⟩
        case measure => simp
      · have hz := trimL_take_pos xs m (by omega) h0
        have Hz := Lib.hid hz
        have hne : ((xs[m] : Int) == 0) = false := by simp; omega
        clear hz
        go_wp2
        go_ret
        exact ⟨by rw [← Hz.out, Ht.out]; rfl, rfl⟩
end Go.Proofs.YtogkfpbapjjgfaaDoor
