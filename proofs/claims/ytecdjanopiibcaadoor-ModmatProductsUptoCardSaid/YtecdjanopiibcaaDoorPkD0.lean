/- Words for memory that the walks of this seat share: a block known whole, a slice that reads as a list. No conditions. Matrices in memory: rows that are read, rows of one's own. No conditions. The contracts of columns and made, and of what makes rows. Conditions: made: the entries come from a function that only draws. The contract of made. Conditions: the entries come from a function that only draws. -/
import Derived.WalkKit
import Derived.WalkSpells
import Derived.Deep.Draws
import Derived.Lib.Hide
import Derived.Test.YtecdjanopiibcaaDoorRows
import Derived.Deep.CutBlock
import Derived.RegionTactic
import Derived.Deep.RegionHeld3
namespace Go.Proofs.YtecdjanopiibcaaDoor
section
open Go.RowKit

/-- Block g holds just these cells, of element type t, none frozen. -/
def Blk (w : World) (g : Nat) (t : TypeId) (vs : List Value) : Prop := w.heap[g]? = some (.cells vs.toArray t (0, 0))

/-- A slice's place reads as these values, and lies below block B. -/
def Rd (w : World) (B : Nat) (A : Option Addr) (vs : List Value) : Prop :=
  vs ≠ [] → ∃ b off, A = some ⟨b, off, none⟩ ∧ b < B ∧ ∀ k v, vs[k]? = some v → w.cell? ⟨b, off + k, none⟩ = some v

def u32s (xs : List Nat) : List Value := xs.map fun x : Nat => Value.int .u32 (x : Int)
def u64s (xs : List Nat) : List Value := xs.map fun x : Nat => Value.int .u64 (x : Int)

theorem u32s_length (xs : List Nat) : (u32s xs).length = xs.length := by simp [u32s]
theorem u64s_length (xs : List Nat) : (u64s xs).length = xs.length := by simp [u64s]
theorem u32s_at {xs : List Nat} {k : Nat} (h : k < xs.length) : (u32s xs)[k]? = some (.int .u32 (xs[k] : Nat)) := by simp [u32s, List.getElem?_eq_getElem h]
theorem u64s_at {xs : List Nat} {k : Nat} (h : k < xs.length) : (u64s xs)[k]? = some (.int .u64 (xs[k] : Nat)) := by simp [u64s, List.getElem?_eq_getElem h]

theorem Blk.lt {w : World} {g : Nat} {t : TypeId} {vs : List Value} (h : Blk w g t vs) : g < w.heap.size := by
  rcases Nat.lt_or_ge g w.heap.size with hlt | hge
  · exact hlt
  · unfold Blk at h; rw [Array.getElem?_eq_none hge] at h; cases h
theorem Blk.cell {w : World} {g : Nat} {t : TypeId} {vs : List Value} (h : Blk w g t vs) (i : Nat) : w.cell? ⟨g, i, none⟩ = vs[i]? := by
  unfold Blk at h
  simp [World.cell?, h]
theorem Blk.frozen {w : World} {g : Nat} {t : TypeId} {vs : List Value} (h : Blk w g t vs) (i : Nat) : w.frozen? ⟨g, i, none⟩ = false := by
  unfold Blk at h
  simp [World.frozen?, h]
theorem Blk.heapAlloc {w : World} {g : Nat} {t : TypeId} {vs : List Value} (h : Blk w g t vs) (o : Obj) : Blk (w.alloc o) g t vs := (Below.heap_alloc w o g h.lt).trans h
theorem Blk.drewN {w : World} {g : Nat} {t : TypeId} {vs : List Value} (h : Blk w g t vs) (n : Nat) : Blk (w.drewN n) g t vs := h
theorem Blk.drew {w : World} {g : Nat} {t : TypeId} {vs : List Value} (h : Blk w g t vs) : Blk w.drew g t vs := h
theorem Blk.new (w : World) (t : TypeId) (vs : List Value) : Blk (w.alloc (.cells vs.toArray t (0, 0))) w.heap.size t vs := by
  unfold Blk World.alloc
  simp
theorem Blk.new_ {w : World} {t : TypeId} {cs : Array Value} {vs : List Value} (e : cs = vs.toArray) : Blk (w.alloc (.cells cs t (0, 0))) w.heap.size t vs := by
  subst e; exact Blk.new w t vs
theorem Blk.set_ {w : World} {g : Nat} {t : TypeId} {vs : List Value} (h : Blk w g t vs) (i : Nat) (u : Value) : Blk (w.setCell ⟨g, i, none⟩ u) g t (vs.set i u) := by
  unfold Blk at h ⊢
  simp [World.setCell, Array.getElem?_modify, h]
theorem Blk.far {w : World} {g : Nat} {t : TypeId} {vs : List Value} (h : Blk w g t vs) {p : Addr} (hp : g ≠ p.block) (u : Value) : Blk (w.setCell p u) g t vs := (Below.heap_setCell w p u g hp).trans h
theorem Blk.below {w w' : World} {g B : Nat} {t : TypeId} {vs : List Value} (h : Blk w g t vs) (hb : Below B w w') (hg : g < B) : Blk w' g t vs := (hb.block g hg).trans h

section
variable {w w' : World} {B B' : Nat} {A : Option Addr} {vs : List Value}
theorem Rd.nil_ : Rd w B A [] := fun h => absurd rfl h
theorem Rd.mono (h : Rd w B A vs) (hB : B ≤ B') : Rd w B' A vs := fun hn => by
  obtain ⟨b, off, e, hb, hc⟩ := h hn
  exact ⟨b, off, e, by omega, hc⟩
theorem Rd.keep (h : Rd w B A vs) (hk : ∀ p : Addr, p.block < B → w'.cell? p = w.cell? p) : Rd w' B A vs := fun hn => by
  obtain ⟨b, off, e, hb, hc⟩ := h hn
  exact ⟨b, off, e, hb, fun k v hv => (hk _ hb).trans (hc k v hv)⟩
theorem Rd.below (h : Rd w B A vs) (hb : Below B w w') : Rd w' B A vs := h.keep fun _ hp => hb.cell hp
theorem Rd.take (h : Rd w B A vs) (n : Nat) : Rd w B A (vs.take n) := fun hn => by
  obtain ⟨b, off, e, hb, hc⟩ := h (by rintro rfl; simp at hn)
  exact ⟨b, off, e, hb, fun k v hv => hc k v (by
    rw [List.getElem?_take] at hv
    split at hv
    · exact hv
    · cases hv)⟩
theorem Rd.of_blk {g : Nat} {t : TypeId} {ys : List Value} (h : Blk w g t ys) (hg : g < B) (off : Nat) (hv : ∀ k v, vs[k]? = some v → ys[off + k]? = some v) : Rd w B (some ⟨g, off, none⟩) vs := fun _ =>
  ⟨g, off, rfl, hg, fun k v hk => (h.cell _).trans (hv k v hk)⟩
end

/-- Block g alone has turned. -/
structure Ch (g : Nat) (w w' : World) : Prop where
  os : w'.os = w.os
  tape : w'.tape = w.tape
  output : w'.output = w.output
  size : w'.heap.size = w.heap.size
  block : ∀ k, k ≠ g → w'.heap[k]? = w.heap[k]?
theorem Ch.refl (g : Nat) (w : World) : Ch g w w := ⟨rfl, rfl, rfl, rfl, fun _ _ => rfl⟩
theorem Ch.trans {g : Nat} {a b c : World} (h : Ch g a b) (k : Ch g b c) : Ch g a c :=
  ⟨k.os.trans h.os, k.tape.trans h.tape, k.output.trans h.output, k.size.trans h.size, fun i hi => (k.block i hi).trans (h.block i hi)⟩
theorem Ch.drewN {g : Nat} {a w : World} (h : Ch g a w) (n : Nat) : Ch g a (w.drewN n) := ⟨h.os, h.tape, h.output, h.size, h.block⟩
theorem Ch.drew {g : Nat} {a w : World} (h : Ch g a w) : Ch g a w.drew := ⟨h.os, h.tape, h.output, h.size, h.block⟩
theorem Ch.setCell {g : Nat} {a w : World} (h : Ch g a w) (i : Nat) (u : Value) : Ch g a (w.setCell ⟨g, i, none⟩ u) :=
  h.trans ⟨rfl, rfl, rfl, by simp [World.setCell], fun k hk => Below.heap_setCell _ _ _ _ hk⟩
theorem Ch.below {g B : Nat} {w w' : World} (h : Ch g w w') (hB : B ≤ g) : Below B w w' := ⟨h.os, h.tape, h.output, Nat.le_of_eq h.size.symm, fun k hk => h.block k (by omega)⟩
theorem Blk.ch {w w' : World} {g h : Nat} {t : TypeId} {vs : List Value} (hb : Blk w g t vs) (hc : Ch h w w') (hne : g ≠ h) : Blk w' g t vs := (hc.block g hne).trans hb
theorem Rd.ch {w w' : World} {B g : Nat} {A : Option Addr} {vs : List Value} (h : Rd w B A vs) (hc : Ch g w w') (hB : B ≤ g) : Rd w' B A vs := h.below (hc.below hB)
theorem Blk.cell0 {w : World} {g : Nat} {t : TypeId} {v : Value} (h : Blk w g t [v]) : w.cell? ⟨g, 0, none⟩ = some v := h.cell 0

/-- Only draws lie between the two worlds. -/
def Dr (w w' : World) : Prop := ∃ n, w' = w.drewN n
theorem Dr.refl (w : World) : Dr w w := ⟨0, rfl⟩
theorem Dr.step {w w' : World} (h : Dr w w') (n : Nat) : Dr w (w'.drewN n) := by
  obtain ⟨k, rfl⟩ := h
  exact ⟨k + n, World.drewN_drewN ..⟩
theorem Dr.drew {w w' : World} (h : Dr w w') : Dr w w'.drew := h.step 1
theorem Dr.trans {a b c : World} (h : Dr a b) (k : Dr b c) : Dr a c := by
  obtain ⟨n, rfl⟩ := k
  exact h.step n
theorem Dr.below {w w' : World} (h : Dr w w') (B : Nat) : Below B w w' := by
  obtain ⟨k, rfl⟩ := h
  exact ⟨rfl, rfl, rfl, Nat.le_refl _, fun _ _ => rfl⟩
theorem Dr.heap {w w' : World} (h : Dr w w') : w'.heap = w.heap := by
  obtain ⟨k, rfl⟩ := h
  rfl
theorem Rd.dr {w w' : World} {B : Nat} {A : Option Addr} {vs : List Value} (h : Rd w B A vs) (k : Dr w w') : Rd w' B A vs := h.below (k.below B)
theorem quietL {P : Program} {f : FuncId} {args : Array Value} {w : World} {n : Nat} {v : Value} (h : Calls P f args (w.drewN n) fun e w' => e = .returned v ∧ w.drewN n = w') :
    Calls P f args (w.drewN n) fun e w'' => e = .returned v ∧ ∃ m, w'' = w.drewN m := h.mono fun _ _ ⟨he, hm⟩ => ⟨he, n, hm.symm⟩
theorem quietAddL {P : Program} {f : FuncId} {args : Array Value} {w : World} {a n : Nat} {v : Value} (h : Calls P f args (w.drewN (a + n)) fun e w' => e = .returned v ∧ w.drewN (a + n) = w') :
    Calls P f args (w.drewN (a + n)) fun e w'' => e = .returned v ∧ ∃ m, w'' = w.drewN (a + m) := h.mono fun _ _ ⟨he, hm⟩ => ⟨he, n, hm.symm⟩
theorem quietD {P : Program} {f : FuncId} {args : Array Value} {w : World} {n : Nat} {v : Value} (h : Calls P f args (w.drewN n) fun e w' => e = .returned v ∧ Dr (w.drewN n) w') :
    Calls P f args (w.drewN n) fun e w'' => e = .returned v ∧ ∃ m, w'' = w.drewN m := h.mono fun _ _ ⟨he, m, hm⟩ => ⟨he, n + m, by rw [hm, World.drewN_drewN]⟩
theorem quietAddD {P : Program} {f : FuncId} {args : Array Value} {w : World} {a n : Nat} {v : Value} (h : Calls P f args (w.drewN (a + n)) fun e w' => e = .returned v ∧ Dr (w.drewN (a + n)) w') :
    Calls P f args (w.drewN (a + n)) fun e w'' => e = .returned v ∧ ∃ m, w'' = w.drewN (a + m) := h.mono fun _ _ ⟨he, m, hm⟩ => ⟨he, n + m, by rw [hm, World.drewN_drewN, Nat.add_assoc]⟩

/-- The list without the noughts at its end. -/
def trimL : List Nat → List Nat
  | [] => []
  | x :: xs => match trimL xs with
    | [] => if x = 0 then [] else [x]
    | y :: ys => x :: y :: ys

theorem trimL_snoc_zero (xs : List Nat) : trimL (xs ++ [0]) = trimL xs := by
  induction xs with
  | nil => rfl
  | cons a xs ih => simp only [List.cons_append, trimL, ih]
theorem trimL_snoc_pos (xs : List Nat) (x : Nat) (h : x ≠ 0) : trimL (xs ++ [x]) = xs ++ [x] := by
  induction xs with
  | nil => simp [trimL, h]
  | cons a xs ih =>
    simp only [List.cons_append, trimL, ih]
    cases xs with
    | nil => rfl
    | cons b xs => rfl
theorem trimL_length_le (xs : List Nat) : (trimL xs).length ≤ xs.length := by
  induction xs with
  | nil => simp [trimL]
  | cons a xs ih =>
    simp only [trimL]
    split
    · split <;> simp
    · rename_i y ys e; rw [e] at ih; simp at ih ⊢; omega
theorem trimL_take (xs : List Nat) : xs.take (trimL xs).length = trimL xs := by
  induction xs with
  | nil => rfl
  | cons a xs ih =>
    simp only [trimL]
    split
    · rename_i e
      split <;> simp
    · rename_i y ys e
      rw [e] at ih
      simpa using ih
end
section
open Go.RowKit

/-- Among the blocks that are there, block g alone has turned; new ones may lie behind. -/
structure Tn (g : Nat) (w w' : World) : Prop where
  os : w'.os = w.os
  tape : w'.tape = w.tape
  output : w'.output = w.output
  size : w.heap.size ≤ w'.heap.size
  block : ∀ k, k < w.heap.size → k ≠ g → w'.heap[k]? = w.heap[k]?
theorem Tn.refl (g : Nat) (w : World) : Tn g w w := ⟨rfl, rfl, rfl, Nat.le_refl _, fun _ _ _ => rfl⟩
theorem Tn.trans {g : Nat} {a b c : World} (h : Tn g a b) (k : Tn g b c) : Tn g a c :=
  ⟨k.os.trans h.os, k.tape.trans h.tape, k.output.trans h.output, Nat.le_trans h.size k.size, fun i hi hg => (k.block i (Nat.lt_of_lt_of_le hi h.size) hg).trans (h.block i hi hg)⟩
theorem Tn.of_below {g B : Nat} {w w' : World} (h : Below B w w') (hB : w.heap.size ≤ B) : Tn g w w' := ⟨h.os, h.tape, h.output, h.size, fun k hk _ => h.block k (by omega)⟩
theorem Tn.of_ch {g : Nat} {w w' : World} (h : Ch g w w') : Tn g w w' := ⟨h.os, h.tape, h.output, Nat.le_of_eq h.size.symm, fun k _ hg => h.block k hg⟩
/-- A block behind all that was there at a may turn, too. -/
theorem Tn.chNew {g g2 : Nat} {a b c : World} (h : Tn g a b) (k : Ch g2 b c) (hg : a.heap.size ≤ g2) : Tn g a c :=
  ⟨k.os.trans h.os, k.tape.trans h.tape, k.output.trans h.output, by rw [k.size]; exact h.size, fun i hi hg2 => (k.block i (by omega)).trans (h.block i hi hg2)⟩
theorem Tn.drewN {g : Nat} {a w : World} (h : Tn g a w) (n : Nat) : Tn g a (w.drewN n) := ⟨h.os, h.tape, h.output, h.size, h.block⟩
theorem Tn.drew {g : Nat} {a w : World} (h : Tn g a w) : Tn g a w.drew := ⟨h.os, h.tape, h.output, h.size, h.block⟩
theorem Tn.setCell {g : Nat} {a w : World} (h : Tn g a w) (i : Nat) (u : Value) : Tn g a (w.setCell ⟨g, i, none⟩ u) :=
  h.trans ⟨rfl, rfl, rfl, by simp [World.setCell], fun k _ hk => Below.heap_setCell _ _ _ _ hk⟩
theorem Tn.below {g B : Nat} {w w' : World} (h : Tn g w w') (hB : B ≤ g) (hs : B ≤ w.heap.size) : Below B w w' := ⟨h.os, h.tape, h.output, h.size, fun k hk => h.block k (by omega) (by omega)⟩
theorem Tn.cell {g : Nat} {w w' : World} (h : Tn g w w') {p : Addr} (hp : p.block < w.heap.size) (hne : p.block ≠ g) : w'.cell? p = w.cell? p := World.cell?_of_block (h.block p.block hp hne)
theorem Blk.tn {w w' : World} {g h : Nat} {t : TypeId} {vs : List Value} (hb : Blk w g t vs) (hc : Tn h w w') (hne : g ≠ h) : Blk w' g t vs := (hc.block g hb.lt hne).trans hb
theorem Tn.belowAll {g B : Nat} {w w1 w' : World} (h : Below B w w1) (k : Tn g w1 w') (hB : B ≤ g) (hs : B ≤ w1.heap.size) : Below B w w' := h.trans (k.below hB hs)


/-- What a call hands back: a slice at the head of a row of its own, from block B on, whose first cells are vs. -/
def Res (w : World) (B : Nat) (t : TypeId) (A : Option Addr) (c : Nat) (vs : List Value) : Prop :=
  vs.length ≤ c ∧ vs.length ≤ 281474976710656 ∧ (vs ≠ [] → ∃ g rest, A = some ⟨g, 0, none⟩ ∧ B ≤ g ∧ Blk w g t (vs ++ rest) ∧ vs.length + rest.length = c)

section
variable {w w' : World} {B B' : Nat} {t : TypeId} {A : Option Addr} {c : Nat} {vs : List Value}
theorem Res.rd (h : Res w B t A c vs) : Rd w w.heap.size A vs := fun hn => by
  obtain ⟨g, rest, rfl, _, hb, _⟩ := h.2.2 hn
  exact Rd.of_blk hb hb.lt 0 (fun k v hv => by
    rw [Nat.zero_add, List.getElem?_append_left (List.getElem?_eq_some_iff.1 hv).1]; exact hv) hn
theorem Res.none_ : Res w B t none 0 [] := ⟨by simp, by simp, fun h => absurd rfl h⟩
theorem Res.empty_ : Res w B t A c [] := ⟨by simp, by simp, fun h => absurd rfl h⟩
theorem Res.below (h : Res w B t A c vs) (hb : Below B' w w') (hB : w.heap.size ≤ B') : Res w' B t A c vs := ⟨h.1, h.2.1, fun hn => by
  obtain ⟨g, rest, e, hg, hk, hc⟩ := h.2.2 hn
  exact ⟨g, rest, e, hg, hk.below hb (by have := hk.lt; omega), hc⟩⟩
theorem Res.keepBut (h : Res w B t A c vs) {g : Nat} (hc : Tn g w w') (hne : vs ≠ [] → A ≠ some ⟨g, 0, none⟩) : Res w' B t A c vs := ⟨h.1, h.2.1, fun hn => by
  obtain ⟨k, rest, e, hg, hk, hcc⟩ := h.2.2 hn
  exact ⟨k, rest, e, hg, hk.tn hc (fun e2 => hne hn (by rw [e, e2])), hcc⟩⟩
theorem Res.mono (h : Res w B t A c vs) (hB : B' ≤ B) : Res w B' t A c vs := ⟨h.1, h.2.1, fun hn => by
  obtain ⟨g, rest, e, hg, hk, hc⟩ := h.2.2 hn
  exact ⟨g, rest, e, by omega, hk, hc⟩⟩
theorem Res.take (h : Res w B t A c vs) (n : Nat) : Res w B t A c (vs.take n) := ⟨by rw [List.length_take]; have := h.1; omega, by rw [List.length_take]; have := h.2.1; omega, fun hn => by
  obtain ⟨g, rest, e, hg, hk, hc⟩ := h.2.2 (by rintro rfl; simp at hn)
  exact ⟨g, vs.drop n ++ rest, e, hg, by rw [← List.append_assoc, List.take_append_drop]; exact hk, by rw [List.length_append, List.length_take, List.length_drop]; omega⟩⟩
theorem Res.of_blk {g : Nat} {rest : List Value} (h : Blk w g t (vs ++ rest)) (hg : B ≤ g) (hc : vs.length + rest.length = c) (hm : vs.length ≤ 281474976710656) : Res w B t (some ⟨g, 0, none⟩) c vs :=
  ⟨by omega, hm, fun _ => ⟨g, rest, rfl, hg, h, hc⟩⟩
theorem Res.of_blk0 {g : Nat} (h : Blk w g t vs) (hg : B ≤ g) (hm : vs.length ≤ 281474976710656) : Res w B t (some ⟨g, 0, none⟩) vs.length vs :=
  Res.of_blk (rest := []) (by simpa using h) hg (by simp) hm
end

theorem bcell {W w1 : World} (hb : Below W.heap.size W w1) : (∀ b o, b < W.heap.size → w1.cell? ⟨b, o, none⟩ = W.cell? ⟨b, o, none⟩) ∧ (∀ b o, b < W.heap.size → w1.frozen? ⟨b, o, none⟩ = W.frozen? ⟨b, o, none⟩) :=
  ⟨fun b o h => hb.cell (p := ⟨b, o, none⟩) h, fun b o h => hb.frozen (p := ⟨b, o, none⟩) h⟩
theorem bdrewN {B : Nat} {a w : World} (h : Below B a w) (n : Nat) : Below B a (w.drewN n) := h.trans (((Dr.refl w).step n).below B)
/-- The blocks from V on, below U, are as they were. -/
def Mid (V U : Nat) (w w' : World) : Prop := ∀ k, V ≤ k → k < U → w'.heap[k]? = w.heap[k]?
theorem Mid.refl (V U : Nat) (w : World) : Mid V U w w := fun _ _ _ => rfl
theorem Mid.tn {V U k : Nat} {a w w' : World} (h : Mid V U a w) (ht : Tn k w w') (hk : k < V) (hU : U ≤ w.heap.size) : Mid V U a w' := fun i h1 h2 => (ht.block i (by omega) (by omega)).trans (h i h1 h2)
theorem Mid.below {V U B : Nat} {a w w' : World} (h : Mid V U a w) (hb : Below B w w') (hU : U ≤ B) : Mid V U a w' := fun i h1 h2 => (hb.block i (by omega)).trans (h i h1 h2)
theorem Blk.mid {V U : Nat} {w w' : World} {g : Nat} {t : TypeId} {vs : List Value} (hb : Blk w g t vs) (h : Mid V U w w') (h1 : V ≤ g) (h2 : g < U) : Blk w' g t vs := (h g h1 h2).trans hb
theorem bel1 {w w1 : World} {o : Obj} (h : Below (w.alloc o).heap.size (w.alloc o) w1) : Below w.heap.size w w1 := ((Below.refl _ _).alloc (Nat.le_refl _) _).trans (h.mono (by simp))
theorem bel2 {w w1 : World} {o o2 : Obj} (h : Below ((w.alloc o).alloc o2).heap.size ((w.alloc o).alloc o2) w1) : Below w.heap.size w w1 := (((Below.refl _ _).alloc (Nat.le_refl _) _).alloc (by simp) _).trans (h.mono (by simp; omega))
theorem bel3 {w w1 : World} {o o2 o3 : Obj} (h : Below (((w.alloc o).alloc o2).alloc o3).heap.size (((w.alloc o).alloc o2).alloc o3) w1) : Below w.heap.size w w1 := ((((Below.refl _ _).alloc (Nat.le_refl _) _).alloc (by simp) _).alloc (by simp; omega) _).trans (h.mono (by simp; omega))
theorem u32s_ne {xs : List Nat} {k : Nat} (h : k < xs.length) : u32s xs ≠ [] := by intro e; have := u32s_length xs; rw [e] at this; simp at this; omega
theorem u32s_nil_iff {xs : List Nat} : u32s xs = [] ↔ xs = [] := by simp [u32s]
theorem u32s_set (xs : List Nat) (i x : Nat) : (u32s xs).set i (Value.int .u32 (x : Int)) = u32s (xs.set i x) := by simp [u32s, List.map_set]
theorem u32s_append (xs ys : List Nat) : u32s (xs ++ ys) = u32s xs ++ u32s ys := by simp [u32s]
theorem u32s_snoc (xs : List Nat) (x : Nat) : u32s (xs ++ [x]) = u32s xs ++ [Value.int .u32 (x : Int)] := by simp [u32s]
theorem Rd.at32 {w : World} {B : Nat} {A : Option Addr} {xs : List Nat} (h : Rd w B A (u32s xs)) {k : Nat} (hk : k < xs.length) : ∃ b off, A = some ⟨b, off, none⟩ ∧ b < B ∧ w.cell? ⟨b, off + k, none⟩ = some (.int .u32 (xs[k] : Nat)) := by
  obtain ⟨b, off, e, hb, hc⟩ := h (u32s_ne hk)
  exact ⟨b, off, e, hb, hc k _ (u32s_at hk)⟩

/-- How many columns. -/
def cols : List (List Nat) → Nat
  | [] => 0
  | r :: _ => r.length
/-- Every row is as long as the first. -/
def Rect (M : List (List Nat)) : Prop := ∀ r ∈ M, r.length = cols M
theorem Rect.at_ {M : List (List Nat)} (h : Rect M) (i : Nat) (hi : i < M.length) : M[i].length = cols M := h _ (List.getElem_mem hi)
def DigM (b : Nat) (M : List (List Nat)) : Prop := ∀ r ∈ M, ∀ x ∈ r, x < b
theorem DigM.at_ {b : Nat} {M : List (List Nat)} (h : DigM b M) {i k : Nat} (hi : i < M.length) (hk : k < M[i].length) : M[i][k] < b := h _ (List.getElem_mem hi) _ (List.getElem_mem hk)
theorem cols_eq (M : List (List Nat)) (h : 0 < M.length) : cols M = M[0].length := by
  cases M with
  | nil => simp at h
  | cons _ _ => rfl

/-- A slice of rows reads as these, all of it below block B; rows no longer than any slice can be. -/
def RdM (w : World) (B : Nat) (A : Option Addr) (M : List (List Nat)) : Prop :=
  M ≠ [] → ∃ b off, A = some ⟨b, off, none⟩ ∧ b < B ∧ ∀ i (h : i < M.length), ∃ Ai ci, w.cell? ⟨b, off + i, none⟩ = some (.slice Ai M[i].length ci) ∧ M[i].length ≤ ci ∧ M[i].length ≤ 281474976710656 ∧ Rd w B Ai (u32s M[i])
section
variable {w w' : World} {B B' : Nat} {A : Option Addr} {M : List (List Nat)}
theorem RdM.nil_ : RdM w B A [] := fun h => absurd rfl h
theorem RdM.mono (h : RdM w B A M) (hB : B ≤ B') : RdM w B' A M := fun hn => by
  obtain ⟨b, off, e, hb, hc⟩ := h hn
  exact ⟨b, off, e, by omega, fun i hi => by obtain ⟨Ai, ci, a1, a2, a3, a4⟩ := hc i hi; exact ⟨Ai, ci, a1, a2, a3, a4.mono hB⟩⟩
theorem RdM.keep (h : RdM w B A M) (hk : ∀ p : Addr, p.block < B → w'.cell? p = w.cell? p) : RdM w' B A M := fun hn => by
  obtain ⟨b, off, e, hb, hc⟩ := h hn
  exact ⟨b, off, e, hb, fun i hi => by obtain ⟨Ai, ci, a1, a2, a3, a4⟩ := hc i hi; exact ⟨Ai, ci, (hk _ hb).trans a1, a2, a3, a4.keep hk⟩⟩
theorem RdM.below (h : RdM w B A M) (hb : Below B w w') : RdM w' B A M := h.keep fun _ hp => hb.cell hp
theorem RdM.dr (h : RdM w B A M) (k : Dr w w') : RdM w' B A M := h.below (k.below B)
theorem RdM.at_ (h : RdM w B A M) {i : Nat} (hi : i < M.length) : ∃ b off Ai ci, A = some ⟨b, off, none⟩ ∧ b < B ∧ w.cell? ⟨b, off + i, none⟩ = some (.slice Ai M[i].length ci) ∧ M[i].length ≤ ci ∧ M[i].length ≤ 281474976710656 ∧ Rd w B Ai (u32s M[i]) := by
  obtain ⟨b, off, e, hb, hc⟩ := h (by rintro rfl; simp at hi)
  obtain ⟨Ai, ci, a1, a2, a3, a4⟩ := hc i hi
  exact ⟨b, off, Ai, ci, e, hb, a1, a2, a3, a4⟩
end

/-- The headers of rows. -/
def hdrs (hs : List (Option Addr × Nat)) (M : List (List Nat)) : List Value := List.zipWith (fun h r => Value.slice h.1 r.length h.2) hs M
theorem hdrs_length {hs : List (Option Addr × Nat)} {M : List (List Nat)} (h : hs.length = M.length) : (hdrs hs M).length = M.length := by simp [hdrs, h]
theorem hdrs_at {hs : List (Option Addr × Nat)} {M : List (List Nat)} {i : Nat} (h1 : i < hs.length) (h2 : i < M.length) : (hdrs hs M)[i]? = some (.slice hs[i].1 M[i].length hs[i].2) := by
  simp [hdrs, List.getElem?_zipWith, List.getElem?_eq_getElem h1, List.getElem?_eq_getElem h2]
theorem hdrs_set (hs : List (Option Addr × Nat)) (M : List (List Nat)) (i : Nat) (h : Option Addr × Nat) (r : List Nat) :
    (hdrs hs M).set i (.slice h.1 r.length h.2) = hdrs (hs.set i h) (M.set i r) := by
  apply List.ext_getElem?
  intro k
  simp only [hdrs, List.getElem?_set, List.getElem?_zipWith, List.length_zipWith]
  by_cases hk : i = k
  · subst hk
    simp only [if_true]
    by_cases h1 : i < hs.length
    · by_cases h2 : i < M.length
      · simp [h1, h2, Nat.lt_min]
      · simp [h1, h2]; omega
    · simp [h1]; omega
  · simp [hk]
theorem hdrs_snoc {hs : List (Option Addr × Nat)} {M : List (List Nat)} (e : hs.length = M.length) (h : Option Addr × Nat) (r : List Nat) :
    hdrs (hs ++ [h]) (M ++ [r]) = hdrs hs M ++ [.slice h.1 r.length h.2] := by
  unfold hdrs
  rw [List.zipWith_append e]
  rfl

/-- All rows lie below block U. -/
def UB (U : Nat) (hs : List (Option Addr × Nat)) : Prop := ∀ h ∈ hs, (∀ a, h.1 = some a → a.block < U) ∧ h.2 ≤ maxLen
theorem UB.mono {U U' : Nat} {hs : List (Option Addr × Nat)} (h : UB U hs) (hU : U ≤ U') : UB U' hs := fun x hx => ⟨fun a ha => Nat.lt_of_lt_of_le ((h x hx).1 a ha) hU, (h x hx).2⟩
theorem UB.none_ (r U : Nat) : UB U (List.replicate r (none, 0)) := fun x hx => by
  rw [(List.mem_replicate.1 hx).2]; exact ⟨(fun a ha => by cases ha), Nat.zero_le _⟩
theorem UB.set_ {U : Nat} {hs : List (Option Addr × Nat)} (h : UB U hs) (i : Nat) {b : Nat} (o : Nat) (hb : b < U) {c : Nat} (hc : c ≤ maxLen) : UB U (hs.set i (some ⟨b, o, none⟩, c)) := fun x hx => by
  rcases List.mem_or_eq_of_mem_set hx with hx | rfl
  · exact h x hx
  · refine ⟨fun a ha => ?_, hc⟩
    obtain rfl : (⟨b, o, none⟩ : Addr) = a := by simpa using ha
    exact hb
theorem UB.at_ {U : Nat} {hs : List (Option Addr × Nat)} (h : UB U hs) {i : Nat} (hi : i < hs.length) {b o : Nat} (e : hs[i].1 = some ⟨b, o, none⟩) : b < U := (h _ (List.getElem_mem hi)).1 _ e
theorem UB.cap {U : Nat} {hs : List (Option Addr × Nat)} (h : UB U hs) {i : Nat} (hi : i < hs.length) : hs[i].2 ≤ maxLen := (h _ (List.getElem_mem hi)).2

/-- A matrix in memory of one's own, from block B on: block g holds the headers, each row that is not empty lies alone in a block. -/
structure Own (w : World) (B g : Nat) (hs : List (Option Addr × Nat)) (M : List (List Nat)) : Prop where
  len : hs.length = M.length
  top : ∃ rest, Blk w g 37 (hdrs hs M ++ rest)
  lo : B ≤ g
  row : ∀ i (h : i < M.length), Res w B 28 (hs[i]'(len ▸ h)).1 (hs[i]'(len ▸ h)).2 (u32s M[i])
  ne : ∀ i (h : i < M.length), M[i] ≠ [] → (hs[i]'(len ▸ h)).1 ≠ some ⟨g, 0, none⟩
  nd : ∀ i j (hi : i < M.length) (hj : j < M.length), i ≠ j → M[i] ≠ [] → M[j] ≠ [] → (hs[i]'(len ▸ hi)).1 ≠ (hs[j]'(len ▸ hj)).1

section
variable {w w' : World} {B B' g : Nat} {hs : List (Option Addr × Nat)} {M : List (List Nat)}
theorem Own.lt (h : Own w B g hs M) : g < w.heap.size := by obtain ⟨rest, hb⟩ := h.top; exact hb.lt
theorem Own.below (h : Own w B g hs M) (hb : Below B' w w') (hB : w.heap.size ≤ B') : Own w' B g hs M :=
  ⟨h.len, by obtain ⟨rest, ht⟩ := h.top; exact ⟨rest, ht.below hb (by have := ht.lt; omega)⟩, h.lo, fun i hi => (h.row i hi).below hb hB, h.ne, h.nd⟩
theorem Own.belowU {U : Nat} (h : Own w B g hs M) (hu : UB U hs) (hg : g < U) (hb : Below U w w') : Own w' B g hs M :=
  ⟨h.len, by obtain ⟨rest, ht⟩ := h.top; exact ⟨rest, ht.below hb hg⟩, h.lo, fun i hi => ⟨(h.row i hi).1, (h.row i hi).2.1, fun hn => by
    obtain ⟨k, rest, e, hk, hbk, hc⟩ := (h.row i hi).2.2 hn
    exact ⟨k, rest, e, hk, hbk.below hb (hu.at_ (h.len ▸ hi) e), hc⟩⟩, h.ne, h.nd⟩
theorem Own.tnLow {k : Nat} (h : Own w B g hs M) (ht : Tn k w w') (hk : k < B) : Own w' B g hs M :=
  ⟨h.len, by obtain ⟨rest, hb⟩ := h.top; exact ⟨rest, hb.tn ht (by have := h.lo; omega)⟩, h.lo, fun i hi => ⟨(h.row i hi).1, (h.row i hi).2.1, fun hn => by
    obtain ⟨j, rest, e, hj, hbk, hc⟩ := (h.row i hi).2.2 hn
    exact ⟨j, rest, e, hj, hbk.tn ht (by omega), hc⟩⟩, h.ne, h.nd⟩
theorem Own.dr (h : Own w B g hs M) (hd : Dr w w') : Own w' B g hs M := h.below (hd.below w.heap.size) (Nat.le_refl _)
theorem Own.drew (h : Own w B g hs M) : Own w.drew B g hs M := h.dr (Dr.refl w).drew
theorem Own.drewN (h : Own w B g hs M) (n : Nat) : Own (w.drewN n) B g hs M := h.dr ((Dr.refl w).step n)
theorem Own.mono (h : Own w B g hs M) (hB : B' ≤ B) : Own w B' g hs M :=
  ⟨h.len, h.top, Nat.le_trans hB h.lo, fun i hi => (h.row i hi).mono hB, h.ne, h.nd⟩
theorem Own.head (h : Own w B g hs M) {i : Nat} (hi : i < M.length) : w.cell? ⟨g, i, none⟩ = some (.slice (hs[i]'(h.len ▸ hi)).1 M[i].length (hs[i]'(h.len ▸ hi)).2) ∧ w.frozen? ⟨g, i, none⟩ = false := by
  obtain ⟨rest, ht⟩ := h.top
  refine ⟨?_, ht.frozen i⟩
  rw [ht.cell, List.getElem?_append_left (by rw [hdrs_length h.len]; exact hi), hdrs_at (h.len ▸ hi) hi]
theorem Own.rd (h : Own w B g hs M) : RdM w w.heap.size (some ⟨g, 0, none⟩) M := fun _ =>
  ⟨g, 0, rfl, h.lt, fun i hi => ⟨_, _, by rw [Nat.zero_add]; exact (h.head hi).1, by have := (h.row i hi).1; rw [u32s_length] at this; exact this, (by have := (h.row i hi).2.1; rw [u32s_length] at this; exact this), (h.row i hi).rd⟩⟩
theorem Own.at_ (h : Own w B g hs M) {i k : Nat} (hi : i < M.length) (hk : k < M[i].length) :
    ∃ gi rest, (hs[i]'(h.len ▸ hi)).1 = some ⟨gi, 0, none⟩ ∧ gi ≠ g ∧ B ≤ gi ∧ Blk w gi 28 (u32s M[i] ++ rest) ∧ M[i].length + rest.length = (hs[i]'(h.len ▸ hi)).2 := by
  obtain ⟨gi, rest, e, hB, hb, hc⟩ := (h.row i hi).2.2 (u32s_ne hk)
  refine ⟨gi, rest, e, fun e2 => ?_, hB, hb, by rw [u32s_length] at hc; exact hc⟩
  refine h.ne i hi (fun e3 => by rw [e3] at hk; simp at hk) ?_
  rw [e, e2]
/-- Row i's block alone has turned. -/
theorem Own.setRow (h : Own w B g hs M) {i gi : Nat} (hi : i < M.length) {r : List Nat} {rest : List Value} (e : (hs[i]'(h.len ▸ hi)).1 = some ⟨gi, 0, none⟩) (hc : Tn gi w w') (hb : Blk w' gi 28 (u32s r ++ rest)) (hr : r.length = M[i].length) (hg : gi ≠ g) (hB : B ≤ gi) (hcap : M[i].length + rest.length = (hs[i]'(h.len ▸ hi)).2) (hn : M[i] ≠ []) : Own w' B g hs (M.set i r) := by
  have hlen : hs.length = (M.set i r).length := by rw [List.length_set]; exact h.len
  have hnil : ∀ j (hj : j < (M.set i r).length), (M.set i r)[j] ≠ [] → M[j]'(by simpa using hj) ≠ [] := fun j hj hne => by
    rw [List.getElem_set] at hne
    split at hne
    · rename_i e; subst e; exact hn
    · exact hne
  refine ⟨hlen, ?_, h.lo, fun j hj => ?_, fun j hj hne => h.ne j (by simpa using hj) (hnil j hj hne), fun j k hj hk hjk h1 h2 => h.nd j k (by simpa using hj) (by simpa using hk) hjk (hnil j hj h1) (hnil k hk h2)⟩
  · obtain ⟨rest2, ht⟩ := h.top
    refine ⟨rest2, ?_⟩
    have e1 : hdrs hs (M.set i r) = hdrs hs M := by
      have := hdrs_set hs M i (hs[i]'(h.len ▸ hi)) r
      rw [List.set_getElem_self] at this
      rw [← this, hr]
      have h3 := hdrs_at (hs := hs) (M := M) (h.len ▸ hi) hi
      obtain ⟨h4, h5⟩ := List.getElem?_eq_some_iff.1 h3
      rw [← h5, List.set_getElem_self]
    rw [e1]
    exact ht.tn hc hg.symm
  · have hj' : j < M.length := by simpa using hj
    by_cases hij : i = j
    · subst hij
      simp only [List.getElem_set_self]
      refine ⟨by rw [u32s_length, hr]; omega, by have := (h.row i hi).2.1; rw [u32s_length] at this; rw [u32s_length, hr]; exact this, fun _ => ⟨gi, rest, e, hB, hb, by rw [u32s_length, hr]; exact hcap⟩⟩
    · rw [List.getElem_set_ne hij]
      refine (h.row j hj').keepBut hc fun hne e2 => ?_
      refine h.nd i j hi hj' hij hn (fun e3 => hne (by rw [e3]; rfl)) ?_
      rw [e, e2]
/-- A header is stored: row i is another one. -/
theorem Own.setHead (h : Own w B g hs M) {i : Nat} (hi : i < M.length) {A' : Option Addr} {c' n' : Nat} {r' : List Nat} (hn' : n' = r'.length) (hres : Res w B 28 A' c' (u32s r'))
    (hg : r' ≠ [] → A' ≠ some ⟨g, 0, none⟩) (hd : r' ≠ [] → ∀ j (hj : j < M.length), j ≠ i → M[j] ≠ [] → A' ≠ (hs[j]'(h.len ▸ hj)).1) :
    Own (w.setCell ⟨g, i, none⟩ (.slice A' n' c')) B g (hs.set i (A', c')) (M.set i r') := by
  subst hn'
  have hch := Tn.of_ch ((Ch.refl g w).setCell i (.slice A' r'.length c'))
  have hlen : (hs.set i (A', c')).length = (M.set i r').length := by rw [List.length_set, List.length_set]; exact h.len
  have hsl : i < hs.length := h.len ▸ hi
  refine ⟨hlen, ?_, h.lo, fun j hj => ?_, fun j hj hne => ?_, fun j k hj hk hjk h1 h2 => ?_⟩
  · obtain ⟨rest, ht⟩ := h.top
    refine ⟨rest, ?_⟩
    have h1 := ht.set_ i (.slice A' r'.length c')
    rw [List.set_append_left _ _ (by rw [hdrs_length h.len]; exact hi)] at h1
    rw [← hdrs_set]; exact h1
  · have hj' : j < M.length := by simpa using hj
    by_cases hij : i = j
    · subst hij
      simp only [List.getElem_set_self]
      exact hres.keepBut hch fun hne => hg (fun e => hne (by rw [e]; rfl))
    · simp only [List.getElem_set_ne hij]
      exact (h.row j hj').keepBut hch fun hne => h.ne j hj' (fun e => hne (by rw [e]; rfl))
  · have hj' : j < M.length := by simpa using hj
    by_cases hij : i = j
    · subst hij
      simp only [List.getElem_set_self] at hne ⊢
      exact hg hne
    · simp only [List.getElem_set_ne hij] at hne ⊢
      exact h.ne j hj' hne
  · have hj' : j < M.length := by simpa using hj
    have hk' : k < M.length := by simpa using hk
    by_cases hij : i = j
    · subst hij
      have hik : i ≠ k := hjk
      simp only [List.getElem_set_self] at h1 ⊢
      simp only [List.getElem_set_ne hik] at h2 ⊢
      exact hd h1 k hk' hik.symm h2
    · by_cases hik : i = k
      · subst hik
        simp only [List.getElem_set_self] at h2 ⊢
        simp only [List.getElem_set_ne hij] at h1 ⊢
        exact fun e => hd h2 j hj' (Ne.symm hij) h1 e.symm
      · simp only [List.getElem_set_ne hij] at h1 ⊢
        simp only [List.getElem_set_ne hik] at h2 ⊢
        exact h.nd j k hj' hk' hjk h1 h2
/-- Each row's block was there. -/
theorem Own.rowLt (h : Own w B g hs M) {i : Nat} (hi : i < M.length) (hn : M[i] ≠ []) {gi : Nat} (e : (hs[i]'(h.len ▸ hi)).1 = some ⟨gi, 0, none⟩) : gi < w.heap.size := by
  obtain ⟨gj, rest, e2, _, hb, _⟩ := (h.row i hi).2.2 (fun e3 => hn (u32s_nil_iff.1 e3))
  rw [e] at e2
  obtain rfl : gi = gj := by simpa using e2
  exact hb.lt
/-- A header of a row in a new block is stored. -/
theorem Own.setNew (h : Own w B g hs M) (hB : B ≤ w.heap.size) {i : Nat} (hi : i < M.length) {w1 : World} (hb : Below w.heap.size w w1) {gi c' n' : Nat} {r' : List Nat} {rest : List Value} (hgi : w.heap.size ≤ gi) (hn' : n' = r'.length) (hblk : Blk w1 gi 28 (u32s r' ++ rest)) (hc : r'.length + rest.length = c') (hm : r'.length ≤ 281474976710656) :
    Own (w1.setCell ⟨g, i, none⟩ (.slice (some ⟨gi, 0, none⟩) n' c')) B g (hs.set i (some ⟨gi, 0, none⟩, c')) (M.set i r') := by
  have hg := h.lt
  refine (h.below hb (Nat.le_refl _)).setHead hi hn' (Res.of_blk hblk (by omega) (by rw [u32s_length]; exact hc) (by rw [u32s_length]; exact hm)) (fun _ e => ?_) (fun _ j hj hji hne e => ?_)
  · simp only [Option.some.injEq, Addr.mk.injEq, and_true] at e
    omega
  · have := h.rowLt hj hne e.symm
    omega
end
end
section
open Go.RowKit

theorem made_one (z : Value) (n : Nat) (hz : z.cells = #[z]) : madeCells z.cells (n * 1) = (List.replicate n z).toArray := by
  rw [hz, Nat.mul_one]
  apply Array.ext'
  simp only [madeCells, List.size_toArray, List.length_singleton, Nat.mod_one]
  simp [Array.toList_map, List.map_const']

theorem Tryd.info32 : (Tryd.prog.info? 28).map (fun i => (i.zero, i.size, i.bytes)) = some (some (.int .u32 0), 1, 4) := by kernel_rfl
theorem Tryd.infoRow : (Tryd.prog.info? 37).map (fun i => (i.zero, i.size, i.bytes)) = some (some (.slice none 0 0), 1, 24) := by kernel_rfl

theorem mkRow (n : Nat) (h : n ≤ 70368744177664) (w : World) : (Instr.makeSlice 37 (.int .i64 (n : Int)) (.int .i64 (n : Int))).run Tryd.prog w = .ok (.slice (some ⟨w.heap.size, 0, none⟩) n n) (w.alloc (.cells (List.replicate n (Value.int .u32 0)).toArray 28)) := by
  obtain ⟨i0, hi, hz0, hz1, hz2⟩ := info_parts Tryd.info32
  have hr := run_make (P := Tryd.prog) w 37 28 i0 (.int .u32 0) Tryd.underlying37 hi hz0 .i64 .i64 n n (by omega) (by omega) (by rw [hz2]; omega) (by omega)
  rw [hz1, Int.toNat_natCast, made_one _ _ rfl] at hr
  exact hr
theorem mkTop (n : Nat) (h : n ≤ 11728124029610) (w : World) : (Instr.makeSlice 26 (.int .i64 (n : Int)) (.int .i64 (n : Int))).run Tryd.prog w = .ok (.slice (some ⟨w.heap.size, 0, none⟩) n n) (w.alloc (.cells (List.replicate n (Value.slice none 0 0)).toArray 37)) := by
  obtain ⟨i0, hi, hz0, hz1, hz2⟩ := info_parts Tryd.infoRow
  have hr := run_make (P := Tryd.prog) w 26 37 i0 (.slice none 0 0) Tryd.underlying26 hi hz0 .i64 .i64 n n (by omega) (by omega) (by rw [hz2]; omega) (by omega)
  rw [hz1, Int.toNat_natCast, made_one _ _ rfl] at hr
  exact hr

theorem columns_any (A : Option Addr) (c : Nat) (M : List (List Nat)) (w : World) (B : Nat) (hr : RdM w B A M) (hc : M.length ≤ c) (hm : M.length ≤ 281474976710656) :
    Calls Tryd.prog 51 #[.slice A M.length c] w fun e w' => e = .returned (.int .i64 (cols M : Int)) ∧ w' = w := by
  cases M with
  | nil =>
    go_enter Tryd.func51, Tryd.ntmps51
    go_wp2
    go_ret
    exact ⟨rfl, rfl⟩
  | cons r rs =>
    obtain ⟨b, off, Ai, ci, rfl, hb, hx, _, _, _⟩ := hr.at_ (i := 0) (by simp)
    simp only [List.getElem_cons_zero, Nat.add_zero] at hx
    have t1 : (((r :: rs).length : Int) == 0) = false := by simp; omega
    have t2 : 0 < (r :: rs).length := by simp
    obtain ⟨n, hn⟩ : ∃ n, n = (r :: rs).length := ⟨_, rfl⟩
    rw [← hn] at t1 t2 ⊢
    have t3 : cols (r :: rs) = r.length := rfl
    rw [t3]
    clear hn hr t3 hc hm
    go_enter Tryd.func51, Tryd.ntmps51
    go_wp2
    go_ret
    exact ⟨rfl, rfl⟩
end
section
open Go.RowKit

/-- A matrix by its entries. -/
def mtab (r c : Nat) (E : Nat → Nat → Nat) : List (List Nat) := (List.range r).map fun i => (List.range c).map (E i)
theorem mtab_length (r c : Nat) (E : Nat → Nat → Nat) : (mtab r c E).length = r := by simp [mtab]
theorem mtab_at {r c : Nat} {E : Nat → Nat → Nat} {i : Nat} (h : i < (mtab r c E).length) : (mtab r c E)[i] = (List.range c).map (E i) := by simp [mtab]
/-- The first rows of it, the others empty. -/
def tabTo (r c : Nat) (E : Nat → Nat → Nat) (k : Nat) : List (List Nat) := mtab k c E ++ List.replicate (r - k) []
theorem tabTo_length {r c : Nat} {E : Nat → Nat → Nat} {k : Nat} (h : k ≤ r) : (tabTo r c E k).length = r := by simp [tabTo, mtab]; omega
theorem tabTo_all (r c : Nat) (E : Nat → Nat → Nat) : tabTo r c E r = mtab r c E := by simp [tabTo]
theorem tabTo_set {r c : Nat} {E : Nat → Nat → Nat} {k : Nat} (h : k < r) : (tabTo r c E k).set k ((List.range c).map (E k)) = tabTo r c E (k + 1) := by
  unfold tabTo mtab
  rw [List.set_append_right _ _ (by simp), List.range_succ, List.map_append, List.length_map, List.length_range, Nat.sub_self]
  obtain ⟨m, hm⟩ : ∃ m, r - k = m + 1 := ⟨r - k - 1, by omega⟩
  rw [hm, show r - (k + 1) = m from by omega, List.replicate_succ]
  simp
theorem tabTo_at {r c : Nat} {E : Nat → Nat → Nat} {k : Nat} (h : k < (tabTo r c E k).length) : (tabTo r c E k)[k] = [] := by
  unfold tabTo at h ⊢
  rw [List.getElem_append_right (by simp [mtab])]
  simp
/-- A row's first entries, the others nought. -/
def rowTo (c : Nat) (f : Nat → Nat) (k : Nat) : List Nat := (List.range k).map f ++ List.replicate (c - k) 0
theorem rowTo_length {c : Nat} {f : Nat → Nat} {k : Nat} (h : k ≤ c) : (rowTo c f k).length = c := by simp [rowTo]; omega
theorem rowTo_all (c : Nat) (f : Nat → Nat) : rowTo c f c = (List.range c).map f := by simp [rowTo]
theorem rowTo_zero (c : Nat) (f : Nat → Nat) : rowTo c f 0 = List.replicate c 0 := by simp [rowTo]
theorem rowTo_set {c : Nat} {f : Nat → Nat} {k : Nat} (h : k < c) : (rowTo c f k).set k (f k) = rowTo c f (k + 1) := by
  unfold rowTo
  rw [List.set_append_right _ _ (by simp), List.range_succ, List.map_append, List.length_map, List.length_range, Nat.sub_self]
  obtain ⟨m, hm⟩ : ∃ m, c - k = m + 1 := ⟨c - k - 1, by omega⟩
  rw [hm, show c - (k + 1) = m from by omega, List.replicate_succ]
  simp

theorem own_start (w : World) (r c : Nat) (E : Nat → Nat → Nat) (_ : r ≤ 281474976710656) : Own (w.alloc (.cells (List.replicate r (Value.slice none 0 0)).toArray 37 (0, 0))) w.heap.size w.heap.size (List.replicate r (none, 0)) (tabTo r c E 0) := by
  have e : tabTo r c E 0 = List.replicate r [] := by simp [tabTo, mtab]
  rw [e]
  refine ⟨by simp, ⟨[], ?_⟩, Nat.le_refl _, fun i hi => ?_, fun i hi hne => absurd (by simp) hne, fun i j hi hj _ hne => absurd (by simp) hne⟩
  · rw [List.append_nil]
    have e2 : hdrs (List.replicate r (none, 0)) (List.replicate r []) = List.replicate r (Value.slice none 0 0) := by
      simp [hdrs]
    rw [e2]; exact Blk.new _ _ _
  · simp only [List.getElem_replicate]
    exact Res.none_

set_option maxHeartbeats 1600000 in
theorem made_any (F : Nat) (hF : ∀ (args : Array Value) (W : World), Sem.run Tryd.prog (callFunc F args) W = .ok (.enter F args) W) (caps : Array Value) (r c : Nat) (E : Nat → Nat → Nat) (w : World) (hr : r ≤ 11728124029610) (hc : c ≤ 70368744177664)
    (hf : ∀ W, Below w.heap.size w W → ∀ i k : Nat, i < r → k < c → E i k < 4294967296 ∧ Calls Tryd.prog F (#[.int .i64 (i : Int), .int .i64 (k : Int)] ++ caps) W fun e w' => e = .returned (.int .u32 (E i k : Int)) ∧ Below W.heap.size W w') :
    Calls Tryd.prog 55 #[.int .i64 (r : Int), .int .i64 (c : Int), .func (.func F) #[] caps] w fun e w' => ∃ g hs, e = .returned (.slice (some ⟨g, 0, none⟩) r r) ∧ Own w' w.heap.size g hs (mtab r c E) ∧ UB w'.heap.size hs ∧ Below w.heap.size w w' := by
  have hmk := fun W => mkTop r hr W
  have hmr := fun W => mkRow c hc W
  have Hf := Lib.hid hf
  clear hf
  have ho := own_start w r c E (by omega)
  have hb0 : Below w.heap.size w (w.alloc (.cells (List.replicate r (Value.slice none 0 0)).toArray 37 (0, 0))) := (Below.refl _ _).alloc (Nat.le_refl _) _
  go_enter Tryd.func55, Tryd.ntmps55
  go_wp2
  go_loopw [14] (fun iv wr => ∃ (i : Nat) (hs : List (Option Addr × Nat)), i ≤ r ∧ iv = .int .i64 (i : Int) ∧ Own wr w.heap.size w.heap.size hs (tabTo r c E i) ∧ UB wr.heap.size hs ∧ Below w.heap.size w wr) (fun iv _ => r - (intOf iv).toNat)
  case atStart => exact ⟨0, _, by omega, rfl, ho, UB.none_ r _, hb0⟩
  case round =>
    clear ho hb0
    obtain ⟨i, hs, hi, rfl, hown, hub, hbel⟩ := hrel
    by_cases hlt : i < r
    · have hil : i < (tabTo r c E i).length := by rw [tabTo_length (by omega)]; exact hlt
      obtain ⟨hhd, hfz⟩ := hown.head hil
      have hgs := hown.lt
      have hb1 : Below wr.heap.size wr (wr.alloc (.cells (List.replicate c (Value.int .u32 0)).toArray 28 (0, 0))) := (Below.refl _ _).alloc (Nat.le_refl _) _
      have hbk := Blk.new wr 28 (u32s (rowTo c (E i) 0) ++ [])
      rw [List.append_nil, rowTo_zero, show u32s (List.replicate c 0) = List.replicate c (Value.int .u32 0) from by simp [u32s]] at hbk
      have hset := hown.setNew hbel.size hil hb1 (gi := wr.heap.size) (c' := c) (n' := c) (r' := rowTo c (E i) 0) (rest := []) (Nat.le_refl _) (rowTo_length (by omega)).symm (by rw [List.append_nil, rowTo_zero, show u32s (List.replicate c 0) = List.replicate c (Value.int .u32 0) from by simp [u32s]]; exact hbk) (by rw [rowTo_length (by omega)]; simp) (by rw [rowTo_length (by omega)]; omega)
      have hbel1 := (hbel.trans (hb1.mono hbel.size)).setCell (p := ⟨w.heap.size, i, none⟩) (Nat.le_refl _) (.slice (some ⟨wr.heap.size, 0, none⟩) c c)
      have hc1 := (hset.head (i := i) (by simpa using hil)).1
      simp only [List.getElem_set_self] at hc1
      rw [rowTo_length (by omega)] at hc1
      rw [World.setCell_alloc_past _ _ _ _ hgs] at hset hbel1 hc1
      have ha1 : Own ((wr.setCell ⟨w.heap.size, i, none⟩ (.slice (some ⟨wr.heap.size, 0, none⟩) c c)).alloc (.cells (Array.replicate c (Value.int .u32 0)) 28)) w.heap.size w.heap.size (hs.set i (some ⟨wr.heap.size, 0, none⟩, c)) ((tabTo r c E i).set i (rowTo c (E i) 0)) := hset
      have ha2 : Below w.heap.size w ((wr.setCell ⟨w.heap.size, i, none⟩ (.slice (some ⟨wr.heap.size, 0, none⟩) c c)).alloc (.cells (Array.replicate c (Value.int .u32 0)) 28)) := hbel1
      clear hb1 hbk hset hbel1 hc1
      have hB := hbel.size
      clear hbel
      obtain ⟨hs2, hhs2⟩ : ∃ hs2, hs2 = hs.set i (some ⟨wr.heap.size, 0, none⟩, c) := ⟨_, rfl⟩
      obtain ⟨gi, hgi⟩ : ∃ gi, gi = wr.heap.size := ⟨_, rfl⟩
      have hub2 : UB (wr.heap.size + 1) hs2 := by rw [hhs2]; exact (hub.mono (by omega)).set_ i 0 (by omega) (by unfold maxLen; omega)
      have hsl : i < hs2.length := by have := ha1.len; rw [← hhs2] at this; rw [this]; simpa using hil
      have Hhs : Hid (hs2[i] = (some ⟨gi, 0, none⟩, c)) := by show hs2[i] = _; subst hhs2 hgi; simp
      rw [← hhs2] at ha1
      rw [← hgi] at ha1 ha2
      clear hhs2
      go_wp2
      rw [← hgi]
      obtain ⟨T, hT⟩ : ∃ T, T = tabTo r c E i := ⟨_, rfl⟩
      have HT := Lib.hid hT
      rw [← hT] at ha1
      have hTl : i < T.length := by rw [hT]; exact hil
      have Hgi := Lib.hid hgi
      obtain ⟨wz, hwz⟩ : ∃ wz, wz = wr.heap.size + 1 := ⟨_, rfl⟩
      have Hwz := Lib.hid hwz
      rw [← hwz] at hub2
      clear hwz hub
      clear hT hil hhd hown hgi
      go_loopw [27] (fun kv wq => ∃ (k : Nat), k ≤ c ∧ kv = .int .i64 (k : Int) ∧ Own wq w.heap.size w.heap.size hs2 (T.set i (rowTo c (E i) k)) ∧ wz ≤ wq.heap.size ∧ Below w.heap.size w wq) (fun kv _ => c - (intOf kv).toNat)
      case atStart => exact ⟨0, by omega, rfl, ha1, by rw [Hwz.out]; simp, ha2⟩
      case round =>
        clear ha1 ha2
        obtain ⟨k, hk, rfl, hown, hwz, hbel⟩ := hrel
        have hil2 : i < (T.set i (rowTo c (E i) k)).length := by simpa using hTl
        by_cases hkc : k < c
        · obtain ⟨hhd, hfz2⟩ := hown.head hil2
          obtain ⟨hb1, hcl⟩ := Hf.out wr hbel i k hlt hkc
          have hil3 : (rowTo c (E i) k).length = c := rowTo_length hk
          have e0 : (T.set i (rowTo c (E i) k))[i] = rowTo c (E i) k := by simp
          obtain ⟨gi2, rest, e1, h2, h3, h4, h5⟩ := hown.at_ hil2 (k := k) (by rw [e0, hil3]; exact hkc)
          have h6 := Hhs.out
          rw [h6] at e1 h5 hhd
          obtain rfl : gi = gi2 := by simpa using e1
          rw [e0] at hhd h4 h5
          rw [hil3] at hhd
          have c4 : wr.cell? ⟨gi, k, none⟩ = some (.int .u32 (((rowTo c (E i) k)[k]'(by rw [hil3]; exact hkc) : Nat) : Int)) := by
            rw [h4.cell, List.getElem?_append_left (by rw [u32s_length, hil3]; exact hkc), u32s_at]
          have f4 := h4.frozen k
          have HC : Hid (∀ W, Below wr.heap.size wr W → Calls Tryd.prog F (#[.int .i64 (i : Int), .int .i64 (k : Int)] ++ caps) W fun e w' => e = .returned (.int .u32 (E i k : Int)) ∧ Below W.heap.size W w') := fun W hW => (Hf.out W (hbel.trans (hW.mono hbel.size)) i k hlt hkc).2
          have hgl := h4.lt
          obtain ⟨v, hv⟩ : ∃ v, v = E i k := ⟨_, rfl⟩
          rw [← hv] at HC hb1
          have Hv := Lib.hid hv
          clear hcl h6 e1 hv
          go_upto_region 9 with (fail)
          go_region_held3 (fun W => W.cell? ⟨w.heap.size, i, none⟩ = some (.slice (some ⟨gi, 0, none⟩) c c)) (first | go_keep | exact hhd | exact hhd1.out) (((with_reducible refine (HC.out _ (by first | exact Below.refl _ _ | exact (Below.refl _ _).drew)).mono ?_); rintro e w1 ⟨rfl, hq⟩; have hq1 : Below wr.heap.size wr w1 := (by first | exact hq | exact (Below.refl _ _).drew.trans hq); clear hq; have hhd1 := Lib.hid ((hq1.cell (p := ⟨w.heap.size, i, none⟩) (show w.heap.size < _ by omega)).trans hhd); have hc1 := (hq1.cell (p := ⟨gi, k, none⟩) hgl).trans c4; have hf1 := (hq1.frozen (p := ⟨gi, k, none⟩) hgl).trans f4))
          go_wp2_with fail
          go_roundw
          case rel =>
            have h4' := h4.below hq1 hgl
            have hch := (Ch.refl gi w1).setCell k (.int .u32 (v : Int))
            have hbk : Blk (w1.setCell ⟨gi, k, none⟩ (.int .u32 (v : Int))) gi 28 (u32s (rowTo c (E i) (k + 1)) ++ rest) := by
              have h7 := h4'.set_ k (.int .u32 (v : Int))
              rw [List.set_append_left _ _ (by rw [u32s_length, hil3]; exact hkc), u32s_set] at h7
              rw [← rowTo_set hkc, ← Hv.out]; exact h7
            have hn2 := (hown.below hq1 (Nat.le_refl _)).setRow hil2 (gi := gi) (r := rowTo c (E i) (k + 1)) (rest := rest) (by rw [Hhs.out]) (Tn.of_ch hch) hbk (by rw [e0, hil3]; exact rowTo_length (by omega)) h2 h3 (by rw [e0, Hhs.out]; exact h5) (by rw [e0]; intro e; rw [e] at hil3; simp at hil3; omega)
            rw [List.set_set] at hn2
            exact ⟨k + 1, by omega, by go_num, hn2, by have := hq1.size; simp; omega, (hbel.trans (hq1.mono hbel.size)).setCell (p := ⟨gi, k, none⟩) h3 _⟩
          case measure => simp [intOf]; omega
        · have hke : k = c := by omega
          subst hke
          go_wp2_with fail
          go_roundw
          case rel =>
            refine ⟨i + 1, hs2, by omega, by go_num, ?_, hub2.mono (by have := Hwz.out; omega), hbel⟩
            rw [rowTo_all, HT.out, tabTo_set hlt] at hown
            exact hown
          case measure => simp [intOf]; omega
    · have hie : i = r := by omega
      subst hie
      go_wp2_with fail
      go_ret
      exact ⟨w.heap.size, hs, rfl, by rw [tabTo_all] at hown; exact hown, hub, hbel⟩
end
end Go.Proofs.YtecdjanopiibcaaDoor
