/- The contracts of zint's smallest functions; an integer as it is answered, as it is held. No conditions beyond the sizes. -/
import Derived.Test.YtbafiahmcfkboaaDoorPkHo28
import Derived.Laws.EntriesVeiled
namespace Go.Proofs.YtbafiahmcfkboaaDoor
open Go.RowKit

theorem blk_pair {w : World} {g : Nat} {t : TypeId} {x y : Value} (h : Blk w g t [x, y]) (u v : Value) : Blk ((w.setCell ⟨g, 0, none⟩ u).setCell ⟨g, 1, none⟩ v) g t [u, v] := by
  have k := (h.set_ 0 u).set_ 1 v
  simpa using k
theorem bel_one (w : World) (o : Obj) : Below w.heap.size w (w.alloc o) := (Below.refl _ _).alloc (Nat.le_refl _) _
theorem bel_two (w : World) (o o2 : Obj) : Below w.heap.size w ((w.alloc o).alloc o2) := ((Below.refl _ _).alloc (Nat.le_refl _) _).alloc (by simp) _
theorem bel_three (w : World) (o o2 o3 : Obj) : Below w.heap.size w (((w.alloc o).alloc o2).alloc o3) := (bel_two w o o2).alloc (by simp; omega) _
theorem blk_res1 (w : World) (o : Obj) (x y : Value) : Blk ((w.alloc o).alloc (.cells #[x, y] 51)) (w.heap.size + 1) 51 [x, y] := by
  have h := Blk.new_ (w := w.alloc o) (t := 51) (cs := #[x, y]) (vs := [x, y]) rfl
  simpa using h
theorem blk_res2 (w : World) (o o2 : Obj) (x y : Value) : Blk (((w.alloc o).alloc o2).alloc (.cells #[x, y] 51)) (w.heap.size + 2) 51 [x, y] := by
  have h := Blk.new_ (w := (w.alloc o).alloc o2) (t := 51) (cs := #[x, y]) (vs := [x, y]) rfl
  simpa using h
theorem Res9z.set_ {w : World} {B : Nat} {t : TypeId} {A : Option Addr} {c : Nat} {vs : List Value} (h : Res9z w B t A c vs) {p : Addr} (hp : p.block < B) (u : Value) : Res9z (w.setCell p u) B t A c vs :=
  ⟨h.1, h.2.1, fun hn => by
    obtain ⟨g, rest, e, hg, hk, hc⟩ := h.2.2 hn
    exact ⟨g, rest, e, hg, hk.far (by omega) u, hc⟩⟩

/-- What an operation on sizes answers. -/
def NOut (w w' : World) (n : Nat) (e : Ending) : Prop := ∃ zs A' c', e = .returned (.slice A' zs.length c') ∧ Num 4294967296 zs n ∧ Res9z w' w.heap.size 24 A' c' (u32s zs) ∧ Below w.heap.size w w'
/-- What an operation on integers answers: in normal form, in memory of its own. -/
def ZOut (w w' : World) (z : Int) (e : Ending) : Prop := ∃ zs A' c', e = .returned (.agg #[.bool (isNeg z), .slice A' zs.length c']) ∧ Num 4294967296 zs z.natAbs ∧ Res9z w' w.heap.size 24 A' c' (u32s zs) ∧ Below w.heap.size w w'
/-- An integer that is held, in whatever form. -/
structure Zh (w : World) (g : Bool) (A : Option Addr) (c : Nat) (xs : List Nat) (z : Int) (K : Nat) : Prop where
  hv : Hv w A c xs z.natAbs K
  sg : ivalN g z.natAbs = z
theorem Zh.next {w w' : World} {g : Bool} {A : Option Addr} {c K : Nat} {xs : List Nat} {z : Int} (h : Zh w g A c xs z K) (hb : Below w.heap.size w w') : Zh w' g A c xs z K := ⟨h.hv.next hb, h.sg⟩
theorem Zh.of {w : World} {B : Nat} {A : Option Addr} {c K : Nat} {zs : List Nat} {z : Int} (h : Num 4294967296 zs z.natAbs) (hr : Res9z w B 24 A c (u32s zs)) (hK : z.natAbs < 4294967296 ^ K) : Zh w (isNeg z) A c zs z K := ⟨Hv.of h hr hK, ival_abs z⟩
theorem res_len {w : World} {B : Nat} {t : TypeId} {A : Option Addr} {c : Nat} {xs : List Nat} (h : Res9z w B t A c (u32s xs)) : xs.length ≤ 281474976710656 := by
  have h1 := h.1
  have h2 := h.2.1
  rw [u32s_length] at h1
  omega


theorem num_pos {zs : List Nat} {n : Nat} (h : Num 4294967296 zs n) : decide (0 < zs.length) = decide (0 < n) := by
  have := h.nil_iff (by omega)
  rcases zs with _ | ⟨z, zs⟩
  · have : n = 0 := this.1 rfl
    subst this; rfl
  · have h0 : n ≠ 0 := fun e => by cases this.2 e
    have : 0 < n := by omega
    simp [this]
end Go.Proofs.YtbafiahmcfkboaaDoor
