/- A matrix that comes in as a slice of rows: what its reading says, and its sizes where what comes in is of small bulk. Condition: the bulk. -/
import Derived.Test.YtbafiahmcfkboaaDoorPkHm43
import Derived.ProofKit
import Derived.SizedLaws
import Derived.Test.YtbafiahmcfkboaaDoorPkHm23
import Derived.Deep.Matrix
namespace Go.Proofs.YtbafiahmcfkboaaDoor
open Go.ChangeShapes Go.WideShapes Go.ChangeAt Go.RowKit

theorem Tryd.cellsM32 : Tryd.prog.cellsOf 24 = 1 := by kernel_rfl
theorem wfm_u32 {n : Int} (h : (Lit.int .u32 n).wf = true) : 0 ≤ n ∧ n < 4294967296 := by
  have h1 : IntKind.u32.min = 0 := rfl
  have h2 : IntKind.u32.max = 4294967295 := rfl
  simp only [Lit.wf, Bool.and_eq_true, decide_eq_true_eq] at h
  omega
theorem Tryd.cellsRow : Tryd.prog.cellsOf 29 = 1 := by kernel_rfl
theorem bulk_row {H : Type} {k : IntKind} {A : Option Addr} {L : Nat} {Z : List Int} (hA : A ≠ none) (hL : L ≤ Z.length) : L ≤ Rows.uptoBulk (Deep.intRow (H := H) k A L Z) := by
  cases A with
  | none => exact absurd rfl hA
  | some a =>
    have h1 := bulk_len (lits (H := H) k (Z.take L))
    have h2 : (lits (H := H) k (Z.take L)).length = L := by simp [lits]; omega
    simp only [Deep.intRow, Rows.uptoBulk]
    omega

set_option maxRecDepth 100000 in
set_option maxHeartbeats 800000 in
theorem open_mat {H : Type} {enc : TypeId × Value → H} {W : World} {r : Reach} {b0 : Nat} {v : Value} {d : DataW H} {p : List MemPlace} {l : List (DataW H)} (hval : Value.okWide Tryd.prog W r b0 23 v) (h : DataW.Trod enc Tryd.prog W 0 (fun _ => true) true 23 v d p)
    (hlt : ∀ x ∈ p, x.block < W.heap.size) (hk : Rows.uptoSmall H l = true) (hd : d ∈ l) :
    ∃ (A : Option Addr) (c : Nat) (M : List (List Nat)), v = .slice A M.length c ∧ M.length ≤ c ∧ DigM 4294967296 M ∧ RdM W W.heap.size A M ∧ M.length ≤ 1048576 ∧ ∀ x ∈ M, x.length ≤ 1048576 := by
  obtain ⟨a0, len, cap, rfl⟩ := okWide_slice Tryd.underlying23 hval
  obtain ⟨fuel, hf⟩ := h
  rcases Deep.open_int_rows Tryd.underlying23 Tryd.underlying29 Tryd.underlying24 Tryd.cellsRow Tryd.cellsM32 hf with ⟨hcs, hx⟩ | ⟨a, len', cap', A, L, C, Z, hcs, _, hl, hm, hx, hrow⟩
  · simp [Value.cells] at hcs
    obtain ⟨rfl, rfl, rfl⟩ := hcs
    exact ⟨none, 0, [], rfl, Nat.le_refl _, (fun _ h => by cases h), RdM.nil_, by simp, fun _ h => by cases h⟩
  · simp [Value.cells] at hcs
    obtain ⟨rfl, rfl, rfl⟩ := hcs
    simp only [Prod.mk.injEq] at hx
    obtain ⟨rfl, rfl⟩ := hx
    have hsz := small_slice hk hd _ _ rfl
    simp only [List.length_map, List.length_range] at hsz
    have hrl : ∀ i, i < len → (((Z i).take (L i)).map Int.toNat).length = L i := fun i hi => by
      obtain ⟨_, h1, _, h2, _⟩ := hrow i (by omega)
      rw [List.length_map, List.length_take]; omega
    have hbulk : ∀ i, i < len → L i ≤ 1048576 := fun i hi => by
      obtain ⟨_, h1, _, h2, _, h3, _⟩ := hrow i (by omega)
      by_cases hA : A i = none
      · have := h3 hA; omega
      · have h4 : Rows.uptoBulkAll l ≤ 1048576 := of_decide_eq_true hk
        have h5 := bulk_part hd
        have h6 : Deep.intRow (H := H) .u32 (A i) (L i) (Z i) ∈ (List.range len).map fun r => Deep.intRow (H := H) .u32 (A r) (L r) (Z r) := List.mem_map.2 ⟨i, List.mem_range.2 hi, rfl⟩
        have h7 := bulk_part h6
        have h8 := bulk_row (H := H) (k := .u32) (Z := Z i) hA (by omega : L i ≤ (Z i).length)
        simp only [Rows.uptoBulk] at h5
        omega
    have hlen : ((List.range len).map fun i => ((Z i).take (L i)).map Int.toNat).length = len := by simp
    have hget : ∀ i (h : i < ((List.range len).map fun i => ((Z i).take (L i)).map Int.toNat).length), ((List.range len).map fun i => ((Z i).take (L i)).map Int.toNat)[i] = ((Z i).take (L i)).map Int.toNat := fun i h => by simp
    refine ⟨some a, cap, (List.range len).map fun i => ((Z i).take (L i)).map Int.toNat, by rw [hlen], by rw [hlen]; exact hl, fun x hx y hy => ?_, fun hn => ?_, by rw [hlen]; omega, fun x hx => ?_⟩
    · obtain ⟨i, hi, rfl⟩ := List.mem_map.1 hx
      obtain ⟨z, hz, rfl⟩ := List.mem_map.1 hy
      have hi : i < len := List.mem_range.1 hi
      obtain ⟨_, _, _, _, h4, _⟩ := hrow i (by omega)
      have := wfm_u32 (h4 z (List.mem_of_mem_take hz))
      omega
    · have hl0 : 0 < len := by
        rcases Nat.eq_zero_or_pos len with h0 | h0
        · subst h0; simp at hn
        · exact h0
      obtain ⟨b, off, spot⟩ := a
      have hspot : spot = none := by simpa [Addr.add] using World.cell?_spot (hrow 0 (by omega)).1
      subst hspot
      have hbW : b < W.heap.size := hlt (.cell b off) (List.mem_append_left _ (MemPlace.mem_row.2 ⟨0, by omega, by simp⟩))
      refine ⟨b, off, rfl, hbW, fun i hi => ?_⟩
      have hi2 : i < len := by rw [hlen] at hi; exact hi
      obtain ⟨h1, h2, h3, h4, h5, h6, h7⟩ := hrow i (by omega)
      rw [show (⟨b, off, none⟩ : Addr).add i = ⟨b, off + i, none⟩ from by unfold Addr.add; split <;> simp_all] at h1
      refine ⟨A i, C i, by rw [hget i hi, hrl i hi2]; exact h1, by rw [hget i hi, hrl i hi2]; exact h2, by rw [hget i hi, hrl i hi2]; have := hbulk i hi2; omega, ?_⟩
      rw [hget i hi]
      intro hn2
      have hLi : 0 < L i := by
        rcases Nat.eq_zero_or_pos (L i) with h0 | h0
        · rw [h0] at hn2; simp [u32s] at hn2
        · exact h0
      cases hA : A i with
      | none => have := h6 hA; omega
      | some a' =>
        obtain ⟨_, h8⟩ := h7 a' hA
        obtain ⟨b2, off2, spot2⟩ := a'
        have hspot2 : spot2 = none := by simpa [Addr.add] using World.cell?_spot (h8 0 (by omega))
        subst hspot2
        have hb2 : b2 < W.heap.size := hlt (.cell b2 off2) (List.mem_append_right _ (List.mem_flatMap.2 ⟨i, List.mem_range.2 (by omega), by
          rw [hA]; exact MemPlace.mem_row.2 ⟨0, by omega, by simp⟩⟩))
        refine ⟨b2, off2, rfl, hb2, fun k u hu => ?_⟩
        have hk2 : k < L i := by
          have := (List.getElem?_eq_some_iff.1 hu).1
          rw [u32s_length, hrl i hi2] at this
          exact this
        have h9 := h8 k (by omega)
        rw [show (⟨b2, off2, none⟩ : Addr).add k = ⟨b2, off2 + k, none⟩ from by unfold Addr.add; split <;> simp_all] at h9
        rw [h9, ← hu, u32s_at (by rw [hrl i hi2]; exact hk2)]
        have hkz : k < (Z i).length := by omega
        have := wfm_u32 (h5 (Z i)[k] (List.getElem_mem hkz))
        simp [List.getD, List.getElem?_eq_getElem hkz]
        omega
    · obtain ⟨i, hi, rfl⟩ := List.mem_map.1 hx
      have hi : i < len := List.mem_range.1 hi
      rw [hrl i hi]
      exact hbulk i hi
end Go.Proofs.YtbafiahmcfkboaaDoor
