/- An integer that comes in. Condition: the bulk. -/
import Derived.Test.YtanlejlmckdeiaaGreatDoorPkZg16
import Derived.Test.YtanlejlmckdeiaaGreatDoorPkZg42
import Derived.Lib.SmallJoins
namespace Go.Proofs.YtanlejlmckdeiaaGreatDoor
open Go.ChangeShapes Go.WideShapes Go.ChangeAt Go.RowKit

set_option maxRecDepth 100000 in
theorem open_nat_t {H : Type} {enc : TypeId × Value → H} {W : World} {fuel : Nat} {a0 : Option Addr} {len cap : Nat} {d : DataW H} {p : List MemPlace} (hf : DataW.trod enc Tryz.prog W 0 (fun _ => true) true fuel 26 [.slice a0 len cap] = some (d, p))
    (hlt : ∀ x ∈ p, x.block < W.heap.size) (N : Nat) (hN : N ≤ 35184372087808) (hsz : ∀ elems spare, d = .slice elems spare → elems.length + spare.length ≤ N) :
    ∃ xs : List Nat, xs.length = len ∧ len ≤ cap ∧ Dig 4294967296 xs ∧ Rd W W.heap.size a0 (u32s xs) ∧ len ≤ N := by
  rcases open_ints Tryz.underlying26 Tryz.underlying61 Tryz.cells32 hf with ⟨hcs, hx⟩ | ⟨a, len', cap', zs, hcs, _, hl, hm, hz, hx, hcell, hwz⟩
  · simp at hcs
    obtain ⟨rfl, rfl, rfl⟩ := hcs
    exact ⟨[], rfl, Nat.le_refl _, Dig.nil_ _, Rd.nil_, by omega⟩
  · simp at hcs
    obtain ⟨rfl, rfl, rfl⟩ := hcs
    simp only [Prod.mk.injEq] at hx
    obtain ⟨rfl, rfl⟩ := hx
    simp only [if_true] at hz
    have hreach := hsz _ _ rfl
    simp only [lits, List.length_map, List.length_take, List.length_drop] at hreach
    have hlen : ((zs.take len).map Int.toNat).length = len := by rw [List.length_map, List.length_take]; omega
    refine ⟨(zs.take len).map Int.toNat, hlen, hl, fun x hx => ?_, fun hn => ?_, by omega⟩
    · obtain ⟨z, hz1, rfl⟩ := List.mem_map.1 hx
      have := wf_u32 (hwz z (List.mem_of_mem_take hz1))
      omega
    · have hl0 : 0 < len := by
        rcases Nat.eq_zero_or_pos len with h0 | h0
        · subst h0; simp [u32s] at hn
        · exact h0
      obtain ⟨b, off, spot⟩ := a
      have hspot : spot = none := by simpa [Addr.add] using World.cell?_spot (hcell 0 (by omega))
      subst hspot
      have hbW : b < W.heap.size := hlt (.cell b off) (MemPlace.mem_row.2 ⟨0, by omega, by simp⟩)
      refine ⟨b, off, rfl, hbW, fun k u hu => ?_⟩
      have hk : k < len := by
        have := (List.getElem?_eq_some_iff.1 hu).1
        rw [u32s_length, hlen] at this
        exact this
      have h1 := hcell k (by omega)
      rw [show (⟨b, off, none⟩ : Addr).add k = ⟨b, off + k, none⟩ from by unfold Addr.add; split <;> simp_all] at h1
      rw [h1, ← hu, u32s_at (by rw [hlen]; exact hk)]
      have hkz : k < zs.length := by omega
      have := wf_u32 (hwz zs[k] (List.getElem_mem hkz))
      simp [List.getD, List.getElem?_eq_getElem hkz]
      omega

set_option maxRecDepth 100000 in
theorem open_zint {H : Type} {enc : TypeId × Value → H} {W : World} {r : Reach} {b0 : Nat} {v : Value} {d : DataW H} {p : List MemPlace} {l : List (DataW H)} (hval : Value.okWide Tryz.prog W r b0 28 v) (h : DataW.Trod enc Tryz.prog W 0 (fun _ => true) true 28 v d p)
    (hlt : ∀ x ∈ p, x.block < W.heap.size) (hk : Rows.uptoSmall H l = true) (hd : d ∈ l) :
    ∃ (g : Bool) (A : Option Addr) (c : Nat) (xs : List Nat) (z : Int), v = .agg #[.bool g, .slice A xs.length c] ∧ Zh W g A c xs z 1048576 := by
  obtain ⟨w0, w1, y0, y1, n, rfl, rfl, rfl, g0, g1⟩ := Go.Joins.open_agg2 Tryz.underlying28 (by kernel_rfl) (by kernel_rfl) hval h
  obtain ⟨b, c0, rfl⟩ := DataW.trod_bool Tryz.underlying4 g0
  obtain rfl := (List.cons.inj c0).1
  obtain ⟨a0, len, cap, c1⟩ := Go.Joins.slice_form Tryz.underlying26 g1
  obtain rfl := (List.cons.inj c1).1
  obtain ⟨xs, rfl, hc, hdg, hr, hl⟩ := open_nat_t g1 (fun x hx => hlt x (List.mem_append_right _ hx)) 1048576 (by omega) (fun elems spare e => by
    have h1 : Rows.uptoBulkAll l ≤ 1048576 := of_decide_eq_true hk
    have h2 := bulk_part hd
    have h3 := bulk_len elems
    have h4 := bulk_len spare
    simp only [Rows.uptoBulk, Rows.uptoBulkAll, e] at h2
    omega)
  exact ⟨b, a0, cap, xs, ivalN b (val 4294967296 xs), rfl, ⟨⟨hdg, (abs_ival _ _).symm, hr, hc, hl⟩, by rw [abs_ival]⟩⟩
end Go.Proofs.YtanlejlmckdeiaaGreatDoor
