/- What comes in, as the walks of layer 10 want it. Conditions: the sizes. -/
import Derived.Test.YtecdjanopiibcaaDoorPkT19
import Derived.Test.YtecdjanopiibcaaDoorPkT20
namespace Go.Proofs.YtecdjanopiibcaaDoor
open Go.RowKit
theorem comes_of {p : Nat} {A : Option Addr} {c : Nat} {M : List (List Nat)} {W : World} (hp : p < 4294967296) (hb : Bases W) (hc : M.length ≤ c) (hd : DigM 4294967296 M) (hr : RdM W W.heap.size A M) (hm : M.length ≤ 1048576) (hw : ∀ x ∈ M, x.length ≤ 1048576) : Comes p A c M W :=
  ⟨hp, hb, hr, hc, ⟨hd, by omega, by
    cases M with
    | nil => simp [cols]
    | cons r rs => have := hw r (by simp); simp only [cols]; omega⟩, fun r h => by have := hw r h; omega⟩
end Go.Proofs.YtecdjanopiibcaaDoor
