/- The contracts of zint's Of and Near. Conditions: at most 2^26 limbs. The contract of zint's Near. Conditions: at most 2^26 limbs. The contracts of the laws' own of, same and lives. No conditions beyond the sizes. The contract of the reference's Copy; an append that is known whole; steps that keep limbs. No conditions beyond the sizes. Variables behind new blocks. No conditions. -/
import Derived.Test.YtbafiahmcfkboaaDoorPkHo35
import Derived.Test.YtbafiahmcfkboaaDoorPkHo34
import Derived.Test.YtbafiahmcfkboaaDoorPkHo31
namespace Go.Proofs.YtbafiahmcfkboaaDoor
section
open Go.RowKit
end
section
open Go.RowKit
end
section
open Go.RowKit

end
section
open Go.RowKit

/-- A slice at the head of a row of limbs of the call's own, whatever its room. -/
def Rs (w : World) (B : Nat) (A : Option Addr) (vs : List Value) : Prop := vs ≠ [] → ∃ g rest, A = some ⟨g, 0, none⟩ ∧ B ≤ g ∧ Blk w g 24 (vs ++ rest)
section
variable {w w' : World} {B B2 g : Nat} {A : Option Addr} {vs : List Value} {x y : Value}
theorem Res9z.rs {c : Nat} (h : Res9z w B 24 A c vs) : Rs w B A vs := fun hn => by
  obtain ⟨g, rest, e, hg, hk, _⟩ := h.2.2 hn
  exact ⟨g, rest, e, hg, hk⟩
theorem Rs.rd (h : Rs w B A vs) : Rd w w.heap.size A vs := fun hn => by
  obtain ⟨g, rest, rfl, _, hb⟩ := h hn
  exact Rd.of_blk hb hb.lt 0 (fun k v hv => by
    rw [Nat.zero_add, List.getElem?_append_left (List.getElem?_eq_some_iff.1 hv).1]; exact hv) hn
theorem Rs.next (h : Rs w B A vs) (hb : Below w.heap.size w w') : Rs w' B A vs := fun hn => by
  obtain ⟨g, rest, e, hg, hk⟩ := h hn
  exact ⟨g, rest, e, hg, hk.below hb hk.lt⟩
theorem Rs.mono (h : Rs w B A vs) (hB : B2 ≤ B) : Rs w B2 A vs := fun hn => by
  obtain ⟨g, rest, e, hg, hk⟩ := h hn
  exact ⟨g, rest, e, by omega, hk⟩
theorem Rs.al (h : Rs w B A vs) (o : Obj) : Rs (w.alloc o) B A vs := h.next ((Below.refl _ _).alloc (Nat.le_refl _) o)
theorem Rs.var2 (h : Rs w B A vs) (hB : Blk w g 51 [x, y]) (u v : Value) : Rs ((w.setCell ⟨g, 0, none⟩ u).setCell ⟨g, 1, none⟩ v) B A vs := fun hn => by
  obtain ⟨b, rest, e, hb, hk⟩ := h hn
  have hne : b ≠ g := by
    rintro rfl
    unfold Blk at hk hB
    rw [hk] at hB
    have hB2 := Option.some.inj hB
    injection hB2 with _ e2 _
    exact type_ne e2
  exact ⟨b, rest, e, hb, (hk.far (p := ⟨g, 0, none⟩) hne _).far (p := ⟨g, 1, none⟩) hne _⟩
end
end
section
open Go.RowKit

theorem two_al {w : World} {g : Nat} {t : TypeId} {x y : Value} (h : Blk w g t [x, y]) : (∀ o : Obj, (w.alloc o).cell? ⟨g, 0, none⟩ = some x) ∧ (∀ o : Obj, (w.alloc o).cell? ⟨g, 1, none⟩ = some y) ∧ (∀ o : Obj, (w.alloc o).frozen? ⟨g, 0, none⟩ = false) ∧ (∀ o : Obj, (w.alloc o).frozen? ⟨g, 1, none⟩ = false) :=
  ⟨fun o => (h.heapAlloc o).c0, fun o => (h.heapAlloc o).c1, fun o => (h.heapAlloc o).frozen 0, fun o => (h.heapAlloc o).frozen 1⟩
theorem two_al2 {w : World} {g : Nat} {t : TypeId} {x y : Value} (h : Blk w g t [x, y]) : (∀ o o2 : Obj, ((w.alloc o).alloc o2).cell? ⟨g, 0, none⟩ = some x) ∧ (∀ o o2 : Obj, ((w.alloc o).alloc o2).cell? ⟨g, 1, none⟩ = some y) ∧ (∀ o o2 : Obj, ((w.alloc o).alloc o2).frozen? ⟨g, 0, none⟩ = false) ∧ (∀ o o2 : Obj, ((w.alloc o).alloc o2).frozen? ⟨g, 1, none⟩ = false) :=
  ⟨fun o o2 => ((h.heapAlloc o).heapAlloc o2).c0, fun o o2 => ((h.heapAlloc o).heapAlloc o2).c1, fun o o2 => ((h.heapAlloc o).heapAlloc o2).frozen 0, fun o o2 => ((h.heapAlloc o).heapAlloc o2).frozen 1⟩
theorem res_al9 {w : World} {B : Nat} {t : TypeId} {A : Option Addr} {c : Nat} {vs : List Value} (h : Res9z w B t A c vs) (o : Obj) : Res9z (w.alloc o) B t A c vs := h.below ((Below.refl _ _).alloc (Nat.le_refl _) o) (Nat.le_refl _)
/-- What a call leaves, off an earlier world. -/
theorem bel_pre {w0 w w' : World} (hb : Below w.heap.size w w') (h : Below w0.heap.size w0 w) : Below w0.heap.size w0 w' := bst h hb (Nat.le_refl _)
end
end Go.Proofs.YtbafiahmcfkboaaDoor
