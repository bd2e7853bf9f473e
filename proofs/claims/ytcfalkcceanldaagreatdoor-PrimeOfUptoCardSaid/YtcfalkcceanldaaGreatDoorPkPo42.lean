/- Variables behind new blocks. No conditions. -/
import Derived.Test.YtcfalkcceanldaaGreatDoorPkPo30
namespace Go.Proofs.YtcfalkcceanldaaGreatDoor
open Go.RowKit

theorem two_al {w : World} {g : Nat} {t : TypeId} {x y : Value} (h : Blk w g t [x, y]) : (∀ o : Obj, (w.alloc o).cell? ⟨g, 0, none⟩ = some x) ∧ (∀ o : Obj, (w.alloc o).cell? ⟨g, 1, none⟩ = some y) ∧ (∀ o : Obj, (w.alloc o).frozen? ⟨g, 0, none⟩ = false) ∧ (∀ o : Obj, (w.alloc o).frozen? ⟨g, 1, none⟩ = false) :=
  ⟨fun o => (h.heapAlloc o).c0, fun o => (h.heapAlloc o).c1, fun o => (h.heapAlloc o).frozen 0, fun o => (h.heapAlloc o).frozen 1⟩
theorem two_al2 {w : World} {g : Nat} {t : TypeId} {x y : Value} (h : Blk w g t [x, y]) : (∀ o o2 : Obj, ((w.alloc o).alloc o2).cell? ⟨g, 0, none⟩ = some x) ∧ (∀ o o2 : Obj, ((w.alloc o).alloc o2).cell? ⟨g, 1, none⟩ = some y) ∧ (∀ o o2 : Obj, ((w.alloc o).alloc o2).frozen? ⟨g, 0, none⟩ = false) ∧ (∀ o o2 : Obj, ((w.alloc o).alloc o2).frozen? ⟨g, 1, none⟩ = false) :=
  ⟨fun o o2 => ((h.heapAlloc o).heapAlloc o2).c0, fun o o2 => ((h.heapAlloc o).heapAlloc o2).c1, fun o o2 => ((h.heapAlloc o).heapAlloc o2).frozen 0, fun o o2 => ((h.heapAlloc o).heapAlloc o2).frozen 1⟩
theorem res_al9 {w : World} {B : Nat} {t : TypeId} {A : Option Addr} {c : Nat} {vs : List Value} (h : Res w B t A c vs) (o : Obj) : Res (w.alloc o) B t A c vs := h.below ((Below.refl _ _).alloc (Nat.le_refl _) o) (Nat.le_refl _)
/-- What a call leaves, off an earlier world. -/
theorem bel_pre {w0 w w' : World} (hb : Below w.heap.size w w') (h : Below w0.heap.size w0 w) : Below w0.heap.size w0 w' := bst h hb (Nat.le_refl _)
end Go.Proofs.YtcfalkcceanldaaGreatDoor
