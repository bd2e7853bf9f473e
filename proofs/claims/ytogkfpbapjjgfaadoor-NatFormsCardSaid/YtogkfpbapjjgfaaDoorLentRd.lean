/- Rows that Lend handed out, as slices. No conditions. -/
import Derived.Test.YtogkfpbapjjgfaaDoorLend
namespace Go.Proofs.YtogkfpbapjjgfaaDoor
open Go.RowKit

/-- A slice that Lend handed out reads as the limbs. -/
theorem lent_rd {w : World} {g B : Nat} {t : TypeId} {xs : List Nat} (h : Blk w g t (u32s (lentL xs))) (hg : g < B) : Rd w B (some ⟨g, 1, none⟩) (u32s xs) :=
  Rd.of_blk h hg 1 (fun k v hv => by
    rw [Nat.add_comm]
    have hk : k < xs.length := by
      have := (List.getElem?_eq_some_iff.1 hv).1
      rwa [u32s_length] at this
    rw [u32s_at hk] at hv
    rw [u32s_at (by rw [lentL_length]; omega), ← hv]
    simp [lentL, List.getElem_append_left hk])
theorem lent_rd0 {w : World} {g B : Nat} {t : TypeId} {xs : List Nat} (h : Blk w g t (u32s (lentL xs))) (hg : g < B) : Rd w B (some ⟨g, 0, none⟩) (u32s (lentL xs)) :=
  Rd.of_blk h hg 0 (fun k v hv => by rw [Nat.zero_add]; exact hv)
end Go.Proofs.YtogkfpbapjjgfaaDoor
