/- Words for memory that the walks of this seat share: a block . Plain numbers: lists of digits in a base, their value, norma. The contracts of trim and trimWords, and of what makes rows. Rows of digits that are added to or taken from in place, dig. -/
import Derived.WalkKit
import Derived.WalkSpells
import Derived.Deep.Draws
import Derived.Lib.Hide
import Derived.Test.YtbcphifjcaobfaaGreatDoorRows
namespace Go.Proofs.YtbcphifjcaobfaaGreatDoor
section
open Go.RowKit
def Blk (w : World) (g : Nat) (t : TypeId) (vs : List Value) : Prop := w.heap[g]? = some (.cells vs.toArray t (0, 0))
def Rd (w : World) (B : Nat) (A : Option Addr) (vs : List Value) : Prop :=
 vs ≠ [] → ∃ b off, A = some ⟨b, off, none⟩ ∧ b < B ∧ ∀ k v, vs[k]? = some v → w.cell? ⟨b, off + k, none⟩ = some v
def u32s (xs : List Nat) : List Value := xs.map fun x : Nat => Value.int .u32 (x : Int)
def u64s (xs : List Nat) : List Value := xs.map fun x : Nat => Value.int .u64 (x : Int)
theorem u32s_length (xs : List Nat) : (u32s xs).length = xs.length := by simp [u32s]
theorem u64s_length (xs : List Nat) : (u64s xs).length = xs.length := by simp [u64s]
theorem u32s_at {xs : List Nat} {k : Nat} (h : k < xs.length) : (u32s xs)[k]? = some (.int .u32 (xs[k] : Nat)) := by simp [u32s, List.getElem?_eq_getElem h]
theorem u64s_at {xs : List Nat} {k : Nat} (h : k < xs.length) : (u64s xs)[k]? = some (.int .u64 (xs[k] : Nat)) := by simp [u64s, List.getElem?_eq_getElem h]
theorem Blk.lt {w : World} {g : Nat} {t : TypeId} {vs : List Value} (h : Blk w g t vs) : g < w.heap.size := by
 rcases Nat.lt_or_ge g w.heap.size with hlt | hge
 ·exact hlt
 ·unfold Blk at h; rw [Array.getElem?_eq_none hge] at h; cases h
theorem Blk.cell {w : World} {g : Nat} {t : TypeId} {vs : List Value} (h : Blk w g t vs) (i : Nat) : w.cell? ⟨g, i, none⟩ = vs[i]? := by
 unfold Blk at h
 simp [World.cell?, h]
theorem Blk.frozen {w : World} {g : Nat} {t : TypeId} {vs : List Value} (h : Blk w g t vs) (i : Nat) : w.frozen? ⟨g, i, none⟩ = false := by
 unfold Blk at h
 simp [World.frozen?, h]
theorem Blk.heapAlloc {w : World} {g : Nat} {t : TypeId} {vs : List Value} (h : Blk w g t vs) (o : Obj) : Blk (w.alloc o) g t vs := (Below.heap_alloc w o g h.lt).trans h
theorem Blk.drewN {w : World} {g : Nat} {t : TypeId} {vs : List Value} (h : Blk w g t vs) (n : Nat) : Blk (w.drewN n) g t vs := h
theorem Blk.drew {w : World} {g : Nat} {t : TypeId} {vs : List Value} (h : Blk w g t vs) : Blk w.drew g t vs := h
theorem Blk.new (w : World) (t : TypeId) (vs : List Value) : Blk (w.alloc (.cells vs.toArray t (0, 0))) w.heap.size t vs := by
 unfold Blk World.alloc
 simp
theorem Blk.new_ {w : World} {t : TypeId} {cs : Array Value} {vs : List Value} (e : cs = vs.toArray) : Blk (w.alloc (.cells cs t (0, 0))) w.heap.size t vs := by
 subst e; exact Blk.new w t vs
theorem Blk.set_ {w : World} {g : Nat} {t : TypeId} {vs : List Value} (h : Blk w g t vs) (i : Nat) (u : Value) : Blk (w.setCell ⟨g, i, none⟩ u) g t (vs.set i u) := by
 unfold Blk at h ⊢
 simp [World.setCell, Array.getElem?_modify, h]
theorem Blk.far {w : World} {g : Nat} {t : TypeId} {vs : List Value} (h : Blk w g t vs) {p : Addr} (hp : g ≠ p.block) (u : Value) : Blk (w.setCell p u) g t vs := (Below.heap_setCell w p u g hp).trans h
theorem Blk.below {w w' : World} {g B : Nat} {t : TypeId} {vs : List Value} (h : Blk w g t vs) (hb : Below B w w') (hg : g < B) : Blk w' g t vs := (hb.block g hg).trans h
section
variable {w w' : World} {B B' : Nat} {A : Option Addr} {vs : List Value}
theorem Rd.nil_ : Rd w B A [] := fun h => absurd rfl h
theorem Rd.mono (h : Rd w B A vs) (hB : B ≤ B') : Rd w B' A vs := fun hn => by
 obtain ⟨b, off, e, hb, hc⟩ := h hn
 exact ⟨b, off, e, by omega, hc⟩
theorem Rd.keep (h : Rd w B A vs) (hk : ∀ p : Addr, p.block < B → w'.cell? p = w.cell? p) : Rd w' B A vs := fun hn => by
 obtain ⟨b, off, e, hb, hc⟩ := h hn
 exact ⟨b, off, e, hb, fun k v hv => (hk _ hb).trans (hc k v hv)⟩
theorem Rd.below (h : Rd w B A vs) (hb : Below B w w') : Rd w' B A vs := h.keep fun _ hp => hb.cell hp
theorem Rd.take (h : Rd w B A vs) (n : Nat) : Rd w B A (vs.take n) := fun hn => by
 obtain ⟨b, off, e, hb, hc⟩ := h (by rintro rfl; simp at hn)
 exact ⟨b, off, e, hb, fun k v hv => hc k v (by
  rw [List.getElem?_take] at hv
  split at hv
  ·exact hv
  ·cases hv)⟩
theorem Rd.of_blk {g : Nat} {t : TypeId} {ys : List Value} (h : Blk w g t ys) (hg : g < B) (off : Nat) (hv : ∀ k v, vs[k]? = some v → ys[off + k]? = some v) : Rd w B (some ⟨g, off, none⟩) vs := fun _ =>
 ⟨g, off, rfl, hg, fun k v hk => (h.cell _).trans (hv k v hk)⟩
end
structure Ch (g : Nat) (w w' : World) : Prop where
 os : w'.os = w.os
 tape : w'.tape = w.tape
 output : w'.output = w.output
 size : w'.heap.size = w.heap.size
 block : ∀ k, k ≠ g → w'.heap[k]? = w.heap[k]?
theorem Ch.refl (g : Nat) (w : World) : Ch g w w := ⟨rfl, rfl, rfl, rfl, fun _ _ => rfl⟩
theorem Ch.trans {g : Nat} {a b c : World} (h : Ch g a b) (k : Ch g b c) : Ch g a c :=
 ⟨k.os.trans h.os, k.tape.trans h.tape, k.output.trans h.output, k.size.trans h.size, fun i hi => (k.block i hi).trans (h.block i hi)⟩
theorem Ch.drewN {g : Nat} {a w : World} (h : Ch g a w) (n : Nat) : Ch g a (w.drewN n) := ⟨h.os, h.tape, h.output, h.size, h.block⟩
theorem Ch.drew {g : Nat} {a w : World} (h : Ch g a w) : Ch g a w.drew := ⟨h.os, h.tape, h.output, h.size, h.block⟩
theorem Ch.setCell {g : Nat} {a w : World} (h : Ch g a w) (i : Nat) (u : Value) : Ch g a (w.setCell ⟨g, i, none⟩ u) :=
 h.trans ⟨rfl, rfl, rfl, by simp [World.setCell], fun k hk => Below.heap_setCell _ _ _ _ hk⟩
theorem Ch.below {g B : Nat} {w w' : World} (h : Ch g w w') (hB : B ≤ g) : Below B w w' := ⟨h.os, h.tape, h.output, Nat.le_of_eq h.size.symm, fun k hk => h.block k (by omega)⟩
theorem Blk.ch {w w' : World} {g h : Nat} {t : TypeId} {vs : List Value} (hb : Blk w g t vs) (hc : Ch h w w') (hne : g ≠ h) : Blk w' g t vs := (hc.block g hne).trans hb
theorem Rd.ch {w w' : World} {B g : Nat} {A : Option Addr} {vs : List Value} (h : Rd w B A vs) (hc : Ch g w w') (hB : B ≤ g) : Rd w' B A vs := h.below (hc.below hB)
theorem Blk.cell0 {w : World} {g : Nat} {t : TypeId} {v : Value} (h : Blk w g t [v]) : w.cell? ⟨g, 0, none⟩ = some v := h.cell 0
def Dr (w w' : World) : Prop := ∃ n, w' = w.drewN n
theorem Dr.refl (w : World) : Dr w w := ⟨0, rfl⟩
theorem Dr.step {w w' : World} (h : Dr w w') (n : Nat) : Dr w (w'.drewN n) := by
 obtain ⟨k, rfl⟩ := h
 exact ⟨k + n, World.drewN_drewN ..⟩
theorem Dr.drew {w w' : World} (h : Dr w w') : Dr w w'.drew := h.step 1
theorem Dr.trans {a b c : World} (h : Dr a b) (k : Dr b c) : Dr a c := by
 obtain ⟨n, rfl⟩ := k
 exact h.step n
theorem Dr.below {w w' : World} (h : Dr w w') (B : Nat) : Below B w w' := by
 obtain ⟨k, rfl⟩ := h
 exact ⟨rfl, rfl, rfl, Nat.le_refl _, fun _ _ => rfl⟩
theorem Dr.heap {w w' : World} (h : Dr w w') : w'.heap = w.heap := by
 obtain ⟨k, rfl⟩ := h
 rfl
theorem Rd.dr {w w' : World} {B : Nat} {A : Option Addr} {vs : List Value} (h : Rd w B A vs) (k : Dr w w') : Rd w' B A vs := h.below (k.below B)
theorem quietL {P : Program} {f : FuncId} {args : Array Value} {w : World} {n : Nat} {v : Value} (h : Calls P f args (w.drewN n) fun e w' => e = .returned v ∧ w.drewN n = w') :
  Calls P f args (w.drewN n) fun e w'' => e = .returned v ∧ ∃ m, w'' = w.drewN m := h.mono fun _ _ ⟨he, hm⟩ => ⟨he, n, hm.symm⟩
theorem quietAddL {P : Program} {f : FuncId} {args : Array Value} {w : World} {a n : Nat} {v : Value} (h : Calls P f args (w.drewN (a + n)) fun e w' => e = .returned v ∧ w.drewN (a + n) = w') :
  Calls P f args (w.drewN (a + n)) fun e w'' => e = .returned v ∧ ∃ m, w'' = w.drewN (a + m) := h.mono fun _ _ ⟨he, hm⟩ => ⟨he, n, hm.symm⟩
theorem quietD {P : Program} {f : FuncId} {args : Array Value} {w : World} {n : Nat} {v : Value} (h : Calls P f args (w.drewN n) fun e w' => e = .returned v ∧ Dr (w.drewN n) w') :
  Calls P f args (w.drewN n) fun e w'' => e = .returned v ∧ ∃ m, w'' = w.drewN m := h.mono fun _ _ ⟨he, m, hm⟩ => ⟨he, n + m, by rw [hm, World.drewN_drewN]⟩
theorem quietAddD {P : Program} {f : FuncId} {args : Array Value} {w : World} {a n : Nat} {v : Value} (h : Calls P f args (w.drewN (a + n)) fun e w' => e = .returned v ∧ Dr (w.drewN (a + n)) w') :
  Calls P f args (w.drewN (a + n)) fun e w'' => e = .returned v ∧ ∃ m, w'' = w.drewN (a + m) := h.mono fun _ _ ⟨he, m, hm⟩ => ⟨he, n + m, by rw [hm, World.drewN_drewN, Nat.add_assoc]⟩
def trimL : List Nat → List Nat
 | [] => []
 | x :: xs => match trimL xs with
  | [] => if x = 0 then [] else [x]
  | y :: ys => x :: y :: ys
theorem trimL_snoc_zero (xs : List Nat) : trimL (xs ++ [0]) = trimL xs := by
 induction xs with
 | nil => rfl
 | cons a xs ih => simp only [List.cons_append, trimL, ih]
theorem trimL_snoc_pos (xs : List Nat) (x : Nat) (h : x ≠ 0) : trimL (xs ++ [x]) = xs ++ [x] := by
 induction xs with
 | nil => simp [trimL, h]
 | cons a xs ih =>
  simp only [List.cons_append, trimL, ih]
  cases xs with
  | nil => rfl
  | cons b xs => rfl
theorem trimL_length_le (xs : List Nat) : (trimL xs).length ≤ xs.length := by
 induction xs with
 | nil => simp [trimL]
 | cons a xs ih =>
  simp only [trimL]
  split
  ·split <;> simp
  ·rename_i y ys e; rw [e] at ih; simp at ih ⊢; omega
theorem trimL_take (xs : List Nat) : xs.take (trimL xs).length = trimL xs := by
 induction xs with
 | nil => rfl
 | cons a xs ih =>
  simp only [trimL]
  split
  ·rename_i e
   split <;> simp
  ·rename_i y ys e
   rw [e] at ih
   simpa using ih
theorem nl9 {n : Nat} : n ≤ n := Nat.le_refl n
theorem br9 {n : Nat} {w : World} : Below n w w := Below.refl n w
theorem hi9 {p : Prop} (h : p) : Hid p := Lib.hid h
end
section
def val (b : Nat) : List Nat → Nat
 | [] => 0
 | x :: xs => x + b * val b xs
def Dig (b : Nat) (xs : List Nat) : Prop := ∀ x ∈ xs, x < b
theorem Dig.nil_ (b : Nat) : Dig b [] := fun _ h => by cases h
theorem Dig.cons_ {b x : Nat} {xs : List Nat} (h : x < b) (hs : Dig b xs) : Dig b (x :: xs) := fun y hy => by
 rcases List.mem_cons.1 hy with rfl | hy
 ·exact h
 ·exact hs y hy
theorem Dig.tail_ {b x : Nat} {xs : List Nat} (h : Dig b (x :: xs)) : Dig b xs := fun y hy => h y (List.mem_cons_of_mem _ hy)
theorem Dig.head_ {b x : Nat} {xs : List Nat} (h : Dig b (x :: xs)) : x < b := h x (List.mem_cons_self)
theorem Dig.at_ {b : Nat} {xs : List Nat} (h : Dig b xs) (k : Nat) (hk : k < xs.length) : xs[k] < b := h _ (List.getElem_mem hk)
theorem Dig.append_ {b : Nat} {xs ys : List Nat} (h : Dig b xs) (k : Dig b ys) : Dig b (xs ++ ys) := fun y hy => by
 rcases List.mem_append.1 hy with hy | hy
 ·exact h y hy
 ·exact k y hy
theorem Dig.take_ {b : Nat} {xs : List Nat} (h : Dig b xs) (n : Nat) : Dig b (xs.take n) := fun y hy => h y (List.mem_of_mem_take hy)
theorem Dig.drop_ {b : Nat} {xs : List Nat} (h : Dig b xs) (n : Nat) : Dig b (xs.drop n) := fun y hy => h y (List.mem_of_mem_drop hy)
theorem Dig.trim_ {b : Nat} {xs : List Nat} (h : Dig b xs) : Dig b (trimL xs) := by rw [← trimL_take]; exact h.take_ _
theorem Dig.zeros_ {b : Nat} (hb : 0 < b) (n : Nat) : Dig b (List.replicate n 0) := fun y hy => by rw [(List.mem_replicate.1 hy).2]; exact hb
theorem Dig.set_ {b : Nat} {xs : List Nat} (h : Dig b xs) (k x : Nat) (hx : x < b) : Dig b (xs.set k x) := fun y hy => by
 rcases List.mem_or_eq_of_mem_set hy with hy | rfl
 ·exact h y hy
 ·exact hx
theorem val_append (b : Nat) (xs ys : List Nat) : val b (xs ++ ys) = val b xs + b ^ xs.length * val b ys := by
 induction xs with
 | nil => simp [val]
 | cons x xs ih =>
  simp only [List.cons_append, val, ih, List.length_cons, Nat.pow_succ]
  rw [Nat.mul_add, Nat.mul_comm (b ^ xs.length) b, Nat.mul_assoc]; omega
theorem val_snoc (b : Nat) (xs : List Nat) (x : Nat) : val b (xs ++ [x]) = val b xs + b ^ xs.length * x := by
 rw [val_append]; simp [val]
theorem val_zeros (b n : Nat) : val b (List.replicate n 0) = 0 := by
 induction n with
 | zero => rfl
 | succ n ih => simp [List.replicate_succ, val, ih]
theorem val_lt (b : Nat) (xs : List Nat) (h : Dig b xs) : val b xs < b ^ xs.length := by
 induction xs with
 | nil => simp [val]
 | cons x xs ih =>
  have h1 := ih h.tail_
  have h2 := h.head_
  simp only [val, List.length_cons, Nat.pow_succ]
  have h3 : b * (val b xs + 1) ≤ b * b ^ xs.length := Nat.mul_le_mul_left _ h1
  rw [Nat.mul_comm (b ^ xs.length) b]
  rw [Nat.mul_add] at h3; omega
theorem val_set (b : Nat) (xs : List Nat) (i v : Nat) (h : i < xs.length) : val b (xs.set i v) + b ^ i * xs[i] = val b xs + b ^ i * v := by
 induction xs generalizing i with
 | nil => simp at h
 | cons x xs ih =>
  cases i with
  | zero => simp [val]; omega
  | succ i =>
   have := ih i (by simpa using h)
   simp only [List.set_cons_succ, val, List.getElem_cons_succ, Nat.pow_succ]
   have e := congrArg (b * ·) this
   simp only [Nat.mul_add] at e
   rw [Nat.mul_comm (b ^ i) b, Nat.mul_assoc, Nat.mul_assoc]
   omega
theorem val_take_succ (b : Nat) (xs : List Nat) (k : Nat) (h : k < xs.length) : val b (xs.take (k + 1)) = val b (xs.take k) + b ^ k * xs[k] := by
 rw [List.take_succ_eq_append_getElem h, val_snoc, List.length_take, Nat.min_eq_left (by omega)]
theorem val_trim (b : Nat) (xs : List Nat) : val b (trimL xs) = val b xs := by
 induction xs with
 | nil => rfl
 | cons x xs ih =>
  simp only [trimL]
  split
  ·rename_i e
   rw [e] at ih
   simp only [val] at ih
   split
   ·rename_i h0; subst h0; simp [val, ← ih]
   ·simp [val, ← ih]
  ·rename_i y ys e
   rw [e] at ih
   simp only [val] at ih ⊢; rw [ih]
theorem trimL_idem (xs : List Nat) : trimL (trimL xs) = trimL xs := by
 induction xs with
 | nil => rfl
 | cons x xs ih =>
  have e0 : trimL (x :: xs) = match trimL xs with
   | [] => if x = 0 then [] else [x]
   | y :: ys => x :: y :: ys := rfl
  rw [e0]
  cases e : trimL xs with
  | nil =>
   simp only []
   by_cases h : x = 0
   ·simp [h, trimL]
   ·simp [h, trimL]
  | cons y ys =>
   rw [e] at ih
   show trimL (x :: y :: ys) = x :: y :: ys
   have : trimL (x :: y :: ys) = match trimL (y :: ys) with
    | [] => if x = 0 then [] else [x]
    | y :: ys => x :: y :: ys := rfl
   rw [this, ih]
def Num (b : Nat) (zs : List Nat) (n : Nat) : Prop := Dig b zs ∧ trimL zs = zs ∧ val b zs = n
theorem Num.of_trim {b : Nat} {xs : List Nat} (h : Dig b xs) : Num b (trimL xs) (val b xs) := ⟨h.trim_, trimL_idem _, val_trim _ _⟩
theorem trimL_nil_of_val {b : Nat} (hb : 0 < b) {xs : List Nat} (h : val b xs = 0) : trimL xs = [] := by
 induction xs with
 | nil => rfl
 | cons x xs ih =>
  simp only [val] at h
  have h1 : b * val b xs = 0 := by omega
  rcases Nat.mul_eq_zero.1 h1 with h1 | h1
  ·omega
  ·have hx : x = 0 := by omega
   simp only [trimL, ih h1, hx, if_true]
theorem trimL_unique {b : Nat} (hb : 0 < b) {xs ys : List Nat} (hx : Dig b xs) (hy : Dig b ys) (h : val b xs = val b ys) : trimL xs = trimL ys := by
 induction xs generalizing ys with
 | nil => rw [trimL_nil_of_val hb (xs := ys) (by rw [← h]; rfl)]; rfl
 | cons x xs ih =>
  cases ys with
  | nil => rw [trimL_nil_of_val hb (xs := x :: xs) (by rw [h]; rfl)]; rfl
  | cons y ys =>
   simp only [val] at h
   have hx1 := hx.head_
   have hy1 := hy.head_
   have e1 : x = y := by
    have a : (x + b * val b xs) % b = x := by rw [Nat.add_mul_mod_self_left, Nat.mod_eq_of_lt hx1]
    have c : (y + b * val b ys) % b = y := by rw [Nat.add_mul_mod_self_left, Nat.mod_eq_of_lt hy1]
    rw [← a, ← c, h]
   subst e1
   have e2 : val b xs = val b ys := Nat.eq_of_mul_eq_mul_left hb (by omega)
   simp only [trimL, ih hx.tail_ hy.tail_ e2]
theorem Num.unique {b : Nat} (hb : 0 < b) {xs ys : List Nat} {n : Nat} (h : Num b xs n) (k : Num b ys n) : xs = ys := by
 rw [← h.2.1, ← k.2.1]; exact trimL_unique hb h.1 k.1 (h.2.2.trans k.2.2.symm)
theorem Num.zero_ (b : Nat) : Num b [] 0 := ⟨Dig.nil_ b, rfl, rfl⟩
theorem Num.nil_iff {b : Nat} (hb : 0 < b) {zs : List Nat} {n : Nat} (h : Num b zs n) : zs = [] ↔ n = 0 := by
 constructor
 ·rintro rfl; exact h.2.2.symm
 ·intro e; subst e; exact Num.unique hb h (Num.zero_ b)
theorem trimL_last {xs : List Nat} (h : trimL xs = xs) (hn : xs ≠ []) : xs[xs.length - 1]'(by cases xs with | nil => exact absurd rfl hn | cons _ _ => simp) ≠ 0 := by
 have hl : 0 < xs.length := by cases xs with | nil => exact absurd rfl hn | cons _ _ => simp
 intro h0
 have e : xs = xs.take (xs.length - 1) ++ [xs[xs.length - 1]] := by
  rw [← List.take_succ_eq_append_getElem (by omega), show xs.length - 1 + 1 = xs.length from by omega, List.take_length]
 rw [h0] at e
 have : trimL xs = trimL (xs.take (xs.length - 1)) := by
  conv => lhs; rw [e]
  rw [trimL_snoc_zero]
 have hle := trimL_length_le (xs.take (xs.length - 1))
 rw [← this, h, List.length_take] at hle
 omega
theorem Num.ge {b : Nat} {zs : List Nat} {n : Nat} (h : Num b zs n) (hn : zs ≠ []) : b ^ (zs.length - 1) ≤ n := by
 have hl : 0 < zs.length := by cases zs with | nil => exact absurd rfl hn | cons _ _ => simp
 have h0 := trimL_last h.2.1 hn
 have e : zs = zs.take (zs.length - 1) ++ [zs[zs.length - 1]] := by
  rw [← List.take_succ_eq_append_getElem (by omega), show zs.length - 1 + 1 = zs.length from by omega, List.take_length]
 rw [← h.2.2]
 conv => rhs; rw [e]
 rw [val_snoc, List.length_take, Nat.min_eq_left (by omega)]
 have : b ^ (zs.length - 1) * 1 ≤ b ^ (zs.length - 1) * zs[zs.length - 1] := Nat.mul_le_mul_left _ (by omega)
 omega
theorem Num.lt {b : Nat} {zs : List Nat} {n : Nat} (h : Num b zs n) : n < b ^ zs.length := by rw [← h.2.2]; exact val_lt b zs h.1
end
section
open Go.RowKit
theorem trimL_take_zero (xs : List Nat) (m : Nat) (h : m < xs.length) (h0 : xs[m] = 0) : trimL (xs.take (m + 1)) = trimL (xs.take m) := by
 rw [List.take_succ_eq_append_getElem h, h0, trimL_snoc_zero]
theorem trimL_take_pos (xs : List Nat) (m : Nat) (h : m < xs.length) (h0 : xs[m] ≠ 0) : (trimL (xs.take (m + 1))).length = m + 1 := by
 rw [List.take_succ_eq_append_getElem h, trimL_snoc_pos _ _ h0]; simp; omega
def Res (w : World) (B : Nat) (t : TypeId) (A : Option Addr) (c : Nat) (vs : List Value) : Prop :=
 vs.length ≤ c ∧ c ≤ 281474976710656 ∧ (vs ≠ [] → ∃ g rest, A = some ⟨g, 0, none⟩ ∧ B ≤ g ∧ Blk w g t (vs ++ rest) ∧ vs.length + rest.length = c)
section
variable {w w' : World} {B B' : Nat} {t : TypeId} {A : Option Addr} {c : Nat} {vs : List Value}
theorem Res.rd (h : Res w B t A c vs) : Rd w w.heap.size A vs := fun hn => by
 obtain ⟨g, rest, rfl, _, hb, _⟩ := h.2.2 hn
 exact Rd.of_blk hb hb.lt 0 (fun k v hv => by
  rw [Nat.zero_add, List.getElem?_append_left (List.getElem?_eq_some_iff.1 hv).1]; exact hv) hn
theorem Res.none_ : Res w B t none 0 [] := ⟨by simp, by omega, fun h => absurd rfl h⟩
theorem Res.below (h : Res w B t A c vs) (hb : Below B' w w') (hB : w.heap.size ≤ B') : Res w' B t A c vs := ⟨h.1, h.2.1, fun hn => by
 obtain ⟨g, rest, e, hg, hk, hc⟩ := h.2.2 hn
 exact ⟨g, rest, e, hg, hk.below hb (by have := hk.lt; omega), hc⟩⟩
theorem Res.mono (h : Res w B t A c vs) (hB : B' ≤ B) : Res w B' t A c vs := ⟨h.1, h.2.1, fun hn => by
 obtain ⟨g, rest, e, hg, hk, hc⟩ := h.2.2 hn
 exact ⟨g, rest, e, by omega, hk, hc⟩⟩
theorem Res.take (h : Res w B t A c vs) (n : Nat) : Res w B t A c (vs.take n) := ⟨by rw [List.length_take]; have := h.1; omega, h.2.1, fun hn => by
 obtain ⟨g, rest, e, hg, hk, hc⟩ := h.2.2 (by rintro rfl; simp at hn)
 exact ⟨g, vs.drop n ++ rest, e, hg, by rw [← List.append_assoc, List.take_append_drop]; exact hk, by rw [List.length_append, List.length_take, List.length_drop]; omega⟩⟩
theorem Res.of_blk {g : Nat} {rest : List Value} (h : Blk w g t (vs ++ rest)) (hg : B ≤ g) (hc : vs.length + rest.length = c) (hm : c ≤ 281474976710656) : Res w B t (some ⟨g, 0, none⟩) c vs :=
 ⟨by omega, hm, fun _ => ⟨g, rest, rfl, hg, h, hc⟩⟩
theorem Res.of_blk0 {g : Nat} (h : Blk w g t vs) (hg : B ≤ g) (hm : vs.length ≤ 281474976710656) : Res w B t (some ⟨g, 0, none⟩) vs.length vs :=
 Res.of_blk (rest := []) (by simpa using h) hg (by simp) hm
end
theorem u32s_trim (xs : List Nat) : u32s (trimL xs) = (u32s xs).take (trimL xs).length := by
 unfold u32s; rw [← List.map_take, trimL_take]
theorem u64s_trim (xs : List Nat) : u64s (trimL xs) = (u64s xs).take (trimL xs).length := by
 unfold u64s; rw [← List.map_take, trimL_take]
theorem bcell {W w1 : World} (hb : Below W.heap.size W w1) : (∀ b o, b < W.heap.size → w1.cell? ⟨b, o, none⟩ = W.cell? ⟨b, o, none⟩) ∧ (∀ b o, b < W.heap.size → w1.frozen? ⟨b, o, none⟩ = W.frozen? ⟨b, o, none⟩) :=
 ⟨fun b o h => hb.cell (p := ⟨b, o, none⟩) h, fun b o h => hb.frozen (p := ⟨b, o, none⟩) h⟩
theorem made_one (z : Value) (n : Nat) (hz : z.cells = #[z]) : madeCells z.cells (n * 1) = (List.replicate n z).toArray := by
 rw [hz, Nat.mul_one]
 apply Array.ext'
 simp only [madeCells, List.size_toArray, List.length_singleton, Nat.mod_one]
 simp [Array.toList_map, List.map_const']
theorem Tryz.info32 : (Tryz.prog.info? 50).map (fun i => (i.zero, i.size, i.bytes)) = some (some (.int .u32 0), 1, 4) := by kernel_rfl
theorem Tryz.info64 : (Tryz.prog.info? 116).map (fun i => (i.zero, i.size, i.bytes)) = some (some (.int .u64 0), 1, 8) := by kernel_rfl
theorem mk32 (n : Nat) (h : n ≤ 70368744177664) (w : World) : (Instr.makeSlice 23 (.int .i64 (n : Int)) (.int .i64 (n : Int))).run Tryz.prog w = .ok (.slice (some ⟨w.heap.size, 0, none⟩) n n) (w.alloc (.cells (List.replicate n (Value.int .u32 0)).toArray 50)) := by
 obtain ⟨i0, hi, hz0, hz1, hz2⟩ := info_parts Tryz.info32
 have hr := run_make (P := Tryz.prog) w 23 50 i0 (.int .u32 0) Tryz.underlying23 hi hz0 .i64 .i64 n n (by omega) (by omega) (by rw [hz2]; omega) (by omega)
 rw [hz1, Int.toNat_natCast, made_one _ _ rfl] at hr
 exact hr
theorem mk64 (n : Nat) (h : n ≤ 35184372088832) (w : World) : (Instr.makeSlice 132 (.int .i64 (n : Int)) (.int .i64 (n : Int))).run Tryz.prog w = .ok (.slice (some ⟨w.heap.size, 0, none⟩) n n) (w.alloc (.cells (List.replicate n (Value.int .u64 0)).toArray 116)) := by
 obtain ⟨i0, hi, hz0, hz1, hz2⟩ := info_parts Tryz.info64
 have hr := run_make (P := Tryz.prog) w 132 116 i0 (.int .u64 0) Tryz.underlying132 hi hz0 .i64 .i64 n n (by omega) (by omega) (by rw [hz2]; omega) (by omega)
 rw [hz1, Int.toNat_natCast, made_one _ _ rfl] at hr
 exact hr
set_option maxHeartbeats 400000 in
theorem trim_any (A : Option Addr) (c : Nat) (xs : List Nat) (w : World) (B : Nat) (hr : Rd w B A (u32s xs)) (hc : xs.length ≤ c) (hm : xs.length ≤ 281474976710656) :
  Calls Tryz.prog 128 #[.slice A xs.length c] w fun e w' => e = .returned (.slice A (trimL xs).length c) ∧ w = w' := by
 go_enter Tryz.func128, Tryz.ntmps128
 go_wp2
 go_loop [0] (fun v => ∃ m : Nat, m ≤ xs.length ∧ v = .slice A m c ∧ trimL (xs.take m) = trimL xs) (fun v => match v with | .slice _ m _ => m | _ => 0)
 case atStart => exact ⟨xs.length, Nat.le_refl _, rfl, by simp⟩
 case round =>
  obtain ⟨m, hm1, rfl, ht⟩ := hrel
  have Ht := hi9 ht; clear ht
  rcases m with _ | m
  ·go_wp2
   go_ret
   have h0 : (trimL xs).length = 0 := by rw [← Ht.out]; rfl
   exact ⟨by rw [h0]; rfl, rfl⟩
  ·obtain ⟨b, off, rfl, hb, hcell⟩ := hr (by intro e; have := u32s_length xs; rw [e] at this; simp at this; omega)
   have hcl := hcell m _ (u32s_at (by omega))
   clear hcell
   by_cases h0 : xs[m] = 0
   ·have hz := trimL_take_zero xs m (by omega) h0
    rw [h0] at hcl
    have Hz := hi9 hz
    clear hz h0
    go_wp2
    go_round
    case rel => exact ⟨m, by omega, rfl, by rw [← Hz.out]; exact Ht.out⟩
    case measure => simp
   ·have hz := trimL_take_pos xs m (by omega) h0
    have Hz := hi9 hz
    have hne : ((xs[m] : Int) == 0) = false := by simp; omega
    clear hz
    go_wp2
    go_ret
    exact ⟨by rw [← Hz.out, Ht.out]; rfl, rfl⟩
set_option maxHeartbeats 400000 in
theorem trimWords_any (A : Option Addr) (c : Nat) (xs : List Nat) (w : World) (B : Nat) (hr : Rd w B A (u64s xs)) (hc : xs.length ≤ c) (hm : xs.length ≤ 281474976710656) :
  Calls Tryz.prog 157 #[.slice A xs.length c] w fun e w' => e = .returned (.slice A (trimL xs).length c) ∧ w = w' := by
 go_enter Tryz.func157, Tryz.ntmps157
 go_wp2
 go_loop [0] (fun v => ∃ m : Nat, m ≤ xs.length ∧ v = .slice A m c ∧ trimL (xs.take m) = trimL xs) (fun v => match v with | .slice _ m _ => m | _ => 0)
 case atStart => exact ⟨xs.length, Nat.le_refl _, rfl, by simp⟩
 case round =>
  obtain ⟨m, hm1, rfl, ht⟩ := hrel
  have Ht := hi9 ht; clear ht
  rcases m with _ | m
  ·go_wp2
   go_ret
   have h0 : (trimL xs).length = 0 := by rw [← Ht.out]; rfl
   exact ⟨by rw [h0]; rfl, rfl⟩
  ·obtain ⟨b, off, rfl, hb, hcell⟩ := hr (by intro e; have := u64s_length xs; rw [e] at this; simp at this; omega)
   have hcl := hcell m _ (u64s_at (by omega))
   clear hcell
   by_cases h0 : xs[m] = 0
   ·have hz := trimL_take_zero xs m (by omega) h0
    rw [h0] at hcl
    have Hz := hi9 hz
    clear hz h0
    go_wp2
    go_round
    case rel => exact ⟨m, by omega, rfl, by rw [← Hz.out]; exact Ht.out⟩
    case measure => simp
   ·have hz := trimL_take_pos xs m (by omega) h0
    have Hz := hi9 hz
    have hne : ((xs[m] : Int) == 0) = false := by simp; omega
    clear hz
    go_wp2
    go_ret
    exact ⟨by rw [← Hz.out, Ht.out]; rfl, rfl⟩
end
section
open Go.RowKit
def Acc (b : Nat) (os : List Nat) (T k : Nat) (zs : List Nat) (c : Nat) : Prop :=
 Dig b zs ∧ zs.length = os.length ∧ val b zs + b ^ k * c = val b os + T ∧ ∀ j (h : j < zs.length) (h2 : j < os.length), k ≤ j → zs[j] = os[j]
theorem Acc.start {b : Nat} {os : List Nat} (h : Dig b os) : Acc b os 0 0 os 0 := ⟨h, rfl, by simp, fun _ _ _ _ => rfl⟩
theorem Acc.step {b : Nat} {os zs : List Nat} {T k c d r q : Nat} (h : Acc b os T k zs c) (hk : k < os.length) (hr : r < b) (e : r + b * q = os[k] + d + c) : Acc b os (T + b ^ k * d) (k + 1) (zs.set k r) q := by
 obtain ⟨h1, h2, h3, h4⟩ := h
 have hz : k < zs.length := by omega
 refine ⟨h1.set_ _ _ hr, by simpa using h2, ?_, fun j hj hj2 hkj => ?_⟩
 ·have e1 := val_set b zs k r hz
  rw [h4 k hz hk nl9] at e1
  rw [Nat.pow_succ]
  have e2 : b ^ k * r + b ^ k * b * q = b ^ k * os[k] + b ^ k * d + b ^ k * c := by
   rw [Nat.mul_assoc, ← Nat.mul_add, ← Nat.mul_add, ← Nat.mul_add, e]
  omega
 ·rw [List.getElem_set, if_neg (by omega)]
  exact h4 j (by simpa using hj) hj2 (by omega)
def Dec (b : Nat) (os : List Nat) (T k : Nat) (zs : List Nat) (c : Nat) : Prop :=
 Dig b zs ∧ zs.length = os.length ∧ val b zs + T = val b os + b ^ k * c ∧ ∀ j (h : j < zs.length) (h2 : j < os.length), k ≤ j → zs[j] = os[j]
theorem Dec.start {b : Nat} {os : List Nat} (h : Dig b os) : Dec b os 0 0 os 0 := ⟨h, rfl, by simp, fun _ _ _ _ => rfl⟩
theorem Dec.step {b : Nat} {os zs : List Nat} {T k c d r q : Nat} (h : Dec b os T k zs c) (hk : k < os.length) (hr : r < b) (e : r + d + c = os[k] + b * q) : Dec b os (T + b ^ k * d) (k + 1) (zs.set k r) q := by
 obtain ⟨h1, h2, h3, h4⟩ := h
 have hz : k < zs.length := by omega
 refine ⟨h1.set_ _ _ hr, by simpa using h2, ?_, fun j hj hj2 hkj => ?_⟩
 ·have e1 := val_set b zs k r hz
  rw [h4 k hz hk nl9] at e1
  rw [Nat.pow_succ]
  have e2 : b ^ k * r + b ^ k * d + b ^ k * c = b ^ k * os[k] + b ^ k * b * q := by
   rw [Nat.mul_assoc, ← Nat.mul_add, ← Nat.mul_add, ← Nat.mul_add, e]
  omega
 ·rw [List.getElem_set, if_neg (by omega)]
  exact h4 j (by simpa using hj) hj2 (by omega)
structure Tn (g : Nat) (w w' : World) : Prop where
 os : w'.os = w.os
 tape : w'.tape = w.tape
 output : w'.output = w.output
 size : w.heap.size ≤ w'.heap.size
 block : ∀ k, k < w.heap.size → k ≠ g → w'.heap[k]? = w.heap[k]?
theorem Tn.refl (g : Nat) (w : World) : Tn g w w := ⟨rfl, rfl, rfl, Nat.le_refl _, fun _ _ _ => rfl⟩
theorem Tn.trans {g : Nat} {a b c : World} (h : Tn g a b) (k : Tn g b c) : Tn g a c :=
 ⟨k.os.trans h.os, k.tape.trans h.tape, k.output.trans h.output, Nat.le_trans h.size k.size, fun i hi hg => (k.block i (Nat.lt_of_lt_of_le hi h.size) hg).trans (h.block i hi hg)⟩
theorem Tn.of_below {g B : Nat} {w w' : World} (h : Below B w w') (hB : w.heap.size ≤ B) : Tn g w w' := ⟨h.os, h.tape, h.output, h.size, fun k hk _ => h.block k (by omega)⟩
theorem Tn.of_ch {g : Nat} {w w' : World} (h : Ch g w w') : Tn g w w' := ⟨h.os, h.tape, h.output, Nat.le_of_eq h.size.symm, fun k _ hg => h.block k hg⟩
theorem Tn.chNew {g g2 : Nat} {a b c : World} (h : Tn g a b) (k : Ch g2 b c) (hg : a.heap.size ≤ g2) : Tn g a c :=
 ⟨k.os.trans h.os, k.tape.trans h.tape, k.output.trans h.output, by rw [k.size]; exact h.size, fun i hi hg2 => (k.block i (by omega)).trans (h.block i hi hg2)⟩
theorem Tn.drewN {g : Nat} {a w : World} (h : Tn g a w) (n : Nat) : Tn g a (w.drewN n) := ⟨h.os, h.tape, h.output, h.size, h.block⟩
theorem Tn.drew {g : Nat} {a w : World} (h : Tn g a w) : Tn g a w.drew := ⟨h.os, h.tape, h.output, h.size, h.block⟩
theorem Tn.setCell {g : Nat} {a w : World} (h : Tn g a w) (i : Nat) (u : Value) : Tn g a (w.setCell ⟨g, i, none⟩ u) :=
 h.trans ⟨rfl, rfl, rfl, by simp [World.setCell], fun k _ hk => Below.heap_setCell _ _ _ _ hk⟩
theorem Tn.below {g B : Nat} {w w' : World} (h : Tn g w w') (hB : B ≤ g) (hs : B ≤ w.heap.size) : Below B w w' := ⟨h.os, h.tape, h.output, h.size, fun k hk => h.block k (by omega) (by omega)⟩
theorem Blk.tn {w w' : World} {g h : Nat} {t : TypeId} {vs : List Value} (hb : Blk w g t vs) (hc : Tn h w w') (hne : g ≠ h) : Blk w' g t vs := (hc.block g hb.lt hne).trans hb
def Rx (w : World) (g : Nat) (A : Option Addr) (vs : List Value) : Prop :=
 vs ≠ [] → ∃ b off, A = some ⟨b, off, none⟩ ∧ b < w.heap.size ∧ b ≠ g ∧ ∀ k v, vs[k]? = some v → w.cell? ⟨b, off + k, none⟩ = some v
theorem Rd.rx {w : World} {B g : Nat} {A : Option Addr} {vs : List Value} (h : Rd w B A vs) (hB : B ≤ g) (hs : B ≤ w.heap.size) : Rx w g A vs := fun hn => by
 obtain ⟨b, off, e, hb, hc⟩ := h hn
 exact ⟨b, off, e, by omega, by omega, hc⟩
theorem Rx.tn {w w' : World} {g : Nat} {A : Option Addr} {vs : List Value} (h : Rx w g A vs) (k : Tn g w w') : Rx w' g A vs := fun hn => by
 obtain ⟨b, off, e, hb, hg, hc⟩ := h hn
 refine ⟨b, off, e, Nat.lt_of_lt_of_le hb k.size, hg, fun i v hv => ?_⟩
 rw [← hc i v hv]
 unfold World.cell?
 rw [k.block b hb hg]
theorem Rx.of_blk {w : World} {g b : Nat} {t : TypeId} {ys vs : List Value} (h : Blk w b t ys) (hg : b ≠ g) (off : Nat) (hv : ∀ k v, vs[k]? = some v → ys[off + k]? = some v) : Rx w g (some ⟨b, off, none⟩) vs := fun _ =>
 ⟨b, off, rfl, h.lt, hg, fun k v hk => (h.cell _).trans (hv k v hk)⟩
theorem Rx.rd {w : World} {g : Nat} {A : Option Addr} {vs : List Value} (h : Rx w g A vs) : Rd w w.heap.size A vs := fun hn => by
 obtain ⟨b, off, e, hb, _, hc⟩ := h hn
 exact ⟨b, off, e, hb, hc⟩
theorem Rx.keep {w w' : World} {g B : Nat} {A : Option Addr} {vs : List Value} (h : Rx w g A vs) (k : Below B w w') (hB : w.heap.size ≤ B) : Rx w' g A vs := h.tn (Tn.of_below k hB)
def patch (L : List Nat) (o : Nat) (zs : List Nat) : List Nat := L.take o ++ zs ++ L.drop (o + zs.length)
theorem patch_length {L : List Nat} {o : Nat} {zs : List Nat} (h : o + zs.length ≤ L.length) : (patch L o zs).length = L.length := by
 simp [patch]; omega
theorem patch_dig {b : Nat} {L : List Nat} {o : Nat} {zs : List Nat} (h : Dig b L) (k : Dig b zs) : Dig b (patch L o zs) := ((h.take_ _).append_ k).append_ (h.drop_ _)
theorem patch_self {L : List Nat} {o n : Nat} (h : o + n ≤ L.length) : patch L o ((L.drop o).take n) = L := by
 unfold patch
 rw [List.length_take, List.length_drop, show o + min n (L.length - o) = o + n from by omega, List.append_assoc, ← List.drop_drop, List.take_append_drop, List.take_append_drop]
theorem patch_set {L : List Nat} {o k v : Nat} {zs : List Nat} (hk : k < zs.length) (h : o + zs.length ≤ L.length) : (patch L o zs).set (o + k) v = patch L o (zs.set k v) := by
 unfold patch
 rw [List.length_set, List.append_assoc, List.set_append_right _ _ (by simp; omega), List.length_take, Nat.min_eq_left (by omega), show o + k - o = k from by omega, List.set_append_left _ _ hk, List.append_assoc]
theorem patch_get {L : List Nat} {o k : Nat} {zs : List Nat} (hk : k < zs.length) (h : o + zs.length ≤ L.length) : (patch L o zs)[o + k]'(by rw [patch_length h]; omega) = zs[k] := by
 unfold patch
 simp only [List.append_assoc]
 rw [List.getElem_append_right (by simp; omega), List.getElem_append_left (by simp; omega)]
 congr 1
 simp; omega
theorem patch_val (b : Nat) {L : List Nat} {o : Nat} {zs : List Nat} (h : o + zs.length ≤ L.length) : val b (patch L o zs) + b ^ o * val b ((L.drop o).take zs.length) = val b L + b ^ o * val b zs := by
 have e1 : val b (patch L o zs) = val b (L.take o) + b ^ o * (val b zs + b ^ zs.length * val b (L.drop (o + zs.length))) := by
  unfold patch
  rw [List.append_assoc, val_append, val_append, List.length_take, Nat.min_eq_left (by omega)]
 have e2 : val b L = val b (L.take o) + b ^ o * (val b ((L.drop o).take zs.length) + b ^ zs.length * val b (L.drop (o + zs.length))) := by
  conv => lhs; rw [← List.take_append_drop o L, ← List.take_append_drop zs.length (L.drop o)]
  rw [val_append, val_append, List.length_take, Nat.min_eq_left (by omega), List.length_take, List.length_drop, Nat.min_eq_left (by omega), List.drop_drop]
 rw [e1, e2, Nat.mul_add, Nat.mul_add]
 omega
end
end Go.Proofs.YtbcphifjcaobfaaGreatDoor
