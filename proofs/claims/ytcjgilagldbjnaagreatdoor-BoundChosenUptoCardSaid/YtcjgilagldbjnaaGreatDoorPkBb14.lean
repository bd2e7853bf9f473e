/- Plain numbers: lists of digits in a base, their value, norma. The contracts of trim and trimWords, and of what makes rows. Rows of digits that are added to or taken from in place, dig. The contracts of word, wide, narrow, Norm, Of. The contracts of order and Cmp. -/
import Derived.Test.YtcjgilagldbjnaaGreatDoorPkBb13
import Derived.Test.YtcjgilagldbjnaaGreatDoorRows
import Derived.RegionTactic
import Derived.Laws.CopyOwn
import Derived.Deep.QuietTactic
import Derived.BigQuiet
import Derived.Test.YtcjgilagldbjnaaGreatDoorShelf
namespace Go.Proofs.YtcjgilagldbjnaaGreatDoor
section
def val (b : Nat) : List Nat → Nat
 | [] => 0
 | x :: xs => x + b * val b xs
def Dig (b : Nat) (xs : List Nat) : Prop := ∀ x ∈ xs, x < b
theorem Dig.nil_ (b : Nat) : Dig b [] := fun _ h => by cases h
theorem Dig.cons_ {b x : Nat} {xs : List Nat} (h : x < b) (hs : Dig b xs) : Dig b (x :: xs) := fun y hy => by
 rcases List.mem_cons.1 hy with rfl | hy
 ·exact h
 ·exact hs y hy
theorem Dig.tail_ {b x : Nat} {xs : List Nat} (h : Dig b (x :: xs)) : Dig b xs := fun y hy => h y (List.mem_cons_of_mem _ hy)
theorem Dig.head_ {b x : Nat} {xs : List Nat} (h : Dig b (x :: xs)) : x < b := h x (List.mem_cons_self)
theorem Dig.at_ {b : Nat} {xs : List Nat} (h : Dig b xs) (k : Nat) (hk : k < xs.length) : xs[k] < b := h _ (List.getElem_mem hk)
theorem Dig.append_ {b : Nat} {xs ys : List Nat} (h : Dig b xs) (k : Dig b ys) : Dig b (xs ++ ys) := fun y hy => by
 rcases List.mem_append.1 hy with hy | hy
 ·exact h y hy
 ·exact k y hy
theorem Dig.take_ {b : Nat} {xs : List Nat} (h : Dig b xs) (n : Nat) : Dig b (xs.take n) := fun y hy => h y (List.mem_of_mem_take hy)
theorem Dig.drop_ {b : Nat} {xs : List Nat} (h : Dig b xs) (n : Nat) : Dig b (xs.drop n) := fun y hy => h y (List.mem_of_mem_drop hy)
theorem Dig.trim_ {b : Nat} {xs : List Nat} (h : Dig b xs) : Dig b (trimL xs) := by rw [← trimL_take]; exact h.take_ _
theorem Dig.zeros_ {b : Nat} (hb : 0 < b) (n : Nat) : Dig b (List.replicate n 0) := fun y hy => by rw [(List.mem_replicate.1 hy).2]; exact hb
theorem Dig.set_ {b : Nat} {xs : List Nat} (h : Dig b xs) (k x : Nat) (hx : x < b) : Dig b (xs.set k x) := fun y hy => by
 rcases List.mem_or_eq_of_mem_set hy with hy | rfl
 ·exact h y hy
 ·exact hx
theorem val_append (b : Nat) (xs ys : List Nat) : val b (xs ++ ys) = val b xs + b ^ xs.length * val b ys := by
 induction xs with
 | nil => simp [val]
 | cons x xs ih =>
  simp only [List.cons_append, val, ih, List.length_cons, Nat.pow_succ]
  rw [Nat.mul_add, Nat.mul_comm (b ^ xs.length) b, Nat.mul_assoc]; omega
theorem val_snoc (b : Nat) (xs : List Nat) (x : Nat) : val b (xs ++ [x]) = val b xs + b ^ xs.length * x := by
 rw [val_append]; simp [val]
theorem val_zeros (b n : Nat) : val b (List.replicate n 0) = 0 := by
 induction n with
 | zero => rfl
 | succ n ih => simp [List.replicate_succ, val, ih]
theorem val_lt (b : Nat) (xs : List Nat) (h : Dig b xs) : val b xs < b ^ xs.length := by
 induction xs with
 | nil => simp [val]
 | cons x xs ih =>
  have h1 := ih h.tail_
  have h2 := h.head_
  simp only [val, List.length_cons, Nat.pow_succ]
  have h3 : b * (val b xs + 1) ≤ b * b ^ xs.length := Nat.mul_le_mul_left _ h1
  rw [Nat.mul_comm (b ^ xs.length) b]
  rw [Nat.mul_add] at h3; omega
theorem val_set (b : Nat) (xs : List Nat) (i v : Nat) (h : i < xs.length) : val b (xs.set i v) + b ^ i * xs[i] = val b xs + b ^ i * v := by
 induction xs generalizing i with
 | nil => simp at h
 | cons x xs ih =>
  cases i with
  | zero => simp [val]; omega
  | succ i =>
   have := ih i (by simpa using h)
   simp only [List.set_cons_succ, val, List.getElem_cons_succ, Nat.pow_succ]
   have e := congrArg (b * ·) this
   simp only [Nat.mul_add] at e
   rw [Nat.mul_comm (b ^ i) b, Nat.mul_assoc, Nat.mul_assoc]
   omega
theorem val_take_succ (b : Nat) (xs : List Nat) (k : Nat) (h : k < xs.length) : val b (xs.take (k + 1)) = val b (xs.take k) + b ^ k * xs[k] := by
 rw [List.take_succ_eq_append_getElem h, val_snoc, List.length_take, Nat.min_eq_left (by omega)]
theorem val_trim (b : Nat) (xs : List Nat) : val b (trimL xs) = val b xs := by
 induction xs with
 | nil => rfl
 | cons x xs ih =>
  simp only [trimL]
  split
  ·rename_i e
   rw [e] at ih
   simp only [val] at ih
   split
   ·rename_i h0; subst h0; simp [val, ← ih]
   ·simp [val, ← ih]
  ·rename_i y ys e
   rw [e] at ih
   simp only [val] at ih ⊢; rw [ih]
theorem trimL_idem (xs : List Nat) : trimL (trimL xs) = trimL xs := by
 induction xs with
 | nil => rfl
 | cons x xs ih =>
  have e0 : trimL (x :: xs) = match trimL xs with
   | [] => if x = 0 then [] else [x]
   | y :: ys => x :: y :: ys := rfl
  rw [e0]
  cases e : trimL xs with
  | nil =>
   simp only []
   by_cases h : x = 0
   ·simp [h, trimL]
   ·simp [h, trimL]
  | cons y ys =>
   rw [e] at ih
   show trimL (x :: y :: ys) = x :: y :: ys
   have : trimL (x :: y :: ys) = match trimL (y :: ys) with
    | [] => if x = 0 then [] else [x]
    | y :: ys => x :: y :: ys := rfl
   rw [this, ih]
def Num (b : Nat) (zs : List Nat) (n : Nat) : Prop := Dig b zs ∧ trimL zs = zs ∧ val b zs = n
theorem Num.of_trim {b : Nat} {xs : List Nat} (h : Dig b xs) : Num b (trimL xs) (val b xs) := ⟨h.trim_, trimL_idem _, val_trim _ _⟩
theorem trimL_nil_of_val {b : Nat} (hb : 0 < b) {xs : List Nat} (h : val b xs = 0) : trimL xs = [] := by
 induction xs with
 | nil => rfl
 | cons x xs ih =>
  simp only [val] at h
  have h1 : b * val b xs = 0 := by omega
  rcases Nat.mul_eq_zero.1 h1 with h1 | h1
  ·omega
  ·have hx : x = 0 := by omega
   simp only [trimL, ih h1, hx, if_true]
theorem trimL_unique {b : Nat} (hb : 0 < b) {xs ys : List Nat} (hx : Dig b xs) (hy : Dig b ys) (h : val b xs = val b ys) : trimL xs = trimL ys := by
 induction xs generalizing ys with
 | nil => rw [trimL_nil_of_val hb (xs := ys) (by rw [← h]; rfl)]; rfl
 | cons x xs ih =>
  cases ys with
  | nil => rw [trimL_nil_of_val hb (xs := x :: xs) (by rw [h]; rfl)]; rfl
  | cons y ys =>
   simp only [val] at h
   have hx1 := hx.head_
   have hy1 := hy.head_
   have e1 : x = y := by
    have a : (x + b * val b xs) % b = x := by rw [Nat.add_mul_mod_self_left, Nat.mod_eq_of_lt hx1]
    have c : (y + b * val b ys) % b = y := by rw [Nat.add_mul_mod_self_left, Nat.mod_eq_of_lt hy1]
    rw [← a, ← c, h]
   subst e1
   have e2 : val b xs = val b ys := Nat.eq_of_mul_eq_mul_left hb (by omega)
   simp only [trimL, ih hx.tail_ hy.tail_ e2]
theorem Num.unique {b : Nat} (hb : 0 < b) {xs ys : List Nat} {n : Nat} (h : Num b xs n) (k : Num b ys n) : xs = ys := by
 rw [← h.2.1, ← k.2.1]; exact trimL_unique hb h.1 k.1 (h.2.2.trans k.2.2.symm)
theorem Num.zero_ (b : Nat) : Num b [] 0 := ⟨Dig.nil_ b, rfl, rfl⟩
theorem Num.nil_iff {b : Nat} (hb : 0 < b) {zs : List Nat} {n : Nat} (h : Num b zs n) : zs = [] ↔ n = 0 := by
 constructor
 ·rintro rfl; exact h.2.2.symm
 ·intro e; subst e; exact Num.unique hb h (Num.zero_ b)
theorem trimL_last {xs : List Nat} (h : trimL xs = xs) (hn : xs ≠ []) : xs[xs.length - 1]'(by cases xs with | nil => exact absurd rfl hn | cons _ _ => simp) ≠ 0 := by
 have hl : 0 < xs.length := by cases xs with | nil => exact absurd rfl hn | cons _ _ => simp
 intro h0
 have e : xs = xs.take (xs.length - 1) ++ [xs[xs.length - 1]] := by
  rw [← List.take_succ_eq_append_getElem (by omega), show xs.length - 1 + 1 = xs.length from by omega, List.take_length]
 rw [h0] at e
 have : trimL xs = trimL (xs.take (xs.length - 1)) := by
  conv => lhs; rw [e]
  rw [trimL_snoc_zero]
 have hle := trimL_length_le (xs.take (xs.length - 1))
 rw [← this, h, List.length_take] at hle
 omega
theorem Num.ge {b : Nat} {zs : List Nat} {n : Nat} (h : Num b zs n) (hn : zs ≠ []) : b ^ (zs.length - 1) ≤ n := by
 have hl : 0 < zs.length := by cases zs with | nil => exact absurd rfl hn | cons _ _ => simp
 have h0 := trimL_last h.2.1 hn
 have e : zs = zs.take (zs.length - 1) ++ [zs[zs.length - 1]] := by
  rw [← List.take_succ_eq_append_getElem (by omega), show zs.length - 1 + 1 = zs.length from by omega, List.take_length]
 rw [← h.2.2]
 conv => rhs; rw [e]
 rw [val_snoc, List.length_take, Nat.min_eq_left (by omega)]
 have : b ^ (zs.length - 1) * 1 ≤ b ^ (zs.length - 1) * zs[zs.length - 1] := Nat.mul_le_mul_left _ (by omega)
 omega
theorem Num.lt {b : Nat} {zs : List Nat} {n : Nat} (h : Num b zs n) : n < b ^ zs.length := by rw [← h.2.2]; exact val_lt b zs h.1
end
section
open Go.RowKit
theorem trimL_take_zero (xs : List Nat) (m : Nat) (h : m < xs.length) (h0 : xs[m] = 0) : trimL (xs.take (m + 1)) = trimL (xs.take m) := by
 rw [List.take_succ_eq_append_getElem h, h0, trimL_snoc_zero]
theorem trimL_take_pos (xs : List Nat) (m : Nat) (h : m < xs.length) (h0 : xs[m] ≠ 0) : (trimL (xs.take (m + 1))).length = m + 1 := by
 rw [List.take_succ_eq_append_getElem h, trimL_snoc_pos _ _ h0]; simp; omega
def Res (w : World) (B : Nat) (t : TypeId) (A : Option Addr) (c : Nat) (vs : List Value) : Prop :=
 vs.length ≤ c ∧ c ≤ 281474976710656 ∧ (vs ≠ [] → ∃ g rest, A = some ⟨g, 0, none⟩ ∧ B ≤ g ∧ Blk w g t (vs ++ rest) ∧ vs.length + rest.length = c)
section
variable {w w' : World} {B B' : Nat} {t : TypeId} {A : Option Addr} {c : Nat} {vs : List Value}
theorem Res.rd (h : Res w B t A c vs) : Rd w w.heap.size A vs := fun hn => by
 obtain ⟨g, rest, rfl, _, hb, _⟩ := h.2.2 hn
 exact Rd.of_blk hb hb.lt 0 (fun k v hv => by
  rw [Nat.zero_add, List.getElem?_append_left (List.getElem?_eq_some_iff.1 hv).1]; exact hv) hn
theorem Res.none_ : Res w B t none 0 [] := ⟨by simp, by omega, fun h => absurd rfl h⟩
theorem Res.below (h : Res w B t A c vs) (hb : Below B' w w') (hB : w.heap.size ≤ B') : Res w' B t A c vs := ⟨h.1, h.2.1, fun hn => by
 obtain ⟨g, rest, e, hg, hk, hc⟩ := h.2.2 hn
 exact ⟨g, rest, e, hg, hk.below hb (by have := hk.lt; omega), hc⟩⟩
theorem Res.mono (h : Res w B t A c vs) (hB : B' ≤ B) : Res w B' t A c vs := ⟨h.1, h.2.1, fun hn => by
 obtain ⟨g, rest, e, hg, hk, hc⟩ := h.2.2 hn
 exact ⟨g, rest, e, by omega, hk, hc⟩⟩
theorem Res.take (h : Res w B t A c vs) (n : Nat) : Res w B t A c (vs.take n) := ⟨by rw [List.length_take]; have := h.1; omega, h.2.1, fun hn => by
 obtain ⟨g, rest, e, hg, hk, hc⟩ := h.2.2 (by rintro rfl; simp at hn)
 exact ⟨g, vs.drop n ++ rest, e, hg, by rw [← List.append_assoc, List.take_append_drop]; exact hk, by rw [List.length_append, List.length_take, List.length_drop]; omega⟩⟩
theorem Res.of_blk {g : Nat} {rest : List Value} (h : Blk w g t (vs ++ rest)) (hg : B ≤ g) (hc : vs.length + rest.length = c) (hm : c ≤ 281474976710656) : Res w B t (some ⟨g, 0, none⟩) c vs :=
 ⟨by omega, hm, fun _ => ⟨g, rest, rfl, hg, h, hc⟩⟩
theorem Res.of_blk0 {g : Nat} (h : Blk w g t vs) (hg : B ≤ g) (hm : vs.length ≤ 281474976710656) : Res w B t (some ⟨g, 0, none⟩) vs.length vs :=
 Res.of_blk (rest := []) (by simpa using h) hg (by simp) hm
end
theorem u32s_trim (xs : List Nat) : u32s (trimL xs) = (u32s xs).take (trimL xs).length := by
 unfold u32s; rw [← List.map_take, trimL_take]
theorem u64s_trim (xs : List Nat) : u64s (trimL xs) = (u64s xs).take (trimL xs).length := by
 unfold u64s; rw [← List.map_take, trimL_take]
theorem bcell {W w1 : World} (hb : Below W.heap.size W w1) : (∀ b o, b < W.heap.size → w1.cell? ⟨b, o, none⟩ = W.cell? ⟨b, o, none⟩) ∧ (∀ b o, b < W.heap.size → w1.frozen? ⟨b, o, none⟩ = W.frozen? ⟨b, o, none⟩) :=
 ⟨fun b o h => hb.cell (p := ⟨b, o, none⟩) h, fun b o h => hb.frozen (p := ⟨b, o, none⟩) h⟩
theorem made_one (z : Value) (n : Nat) (hz : z.cells = #[z]) : madeCells z.cells (n * 1) = (List.replicate n z).toArray := by
 rw [hz, Nat.mul_one]
 apply Array.ext'
 simp only [madeCells, List.size_toArray, List.length_singleton, Nat.mod_one]
 simp [Array.toList_map, List.map_const']
theorem Tryz.info32 : (Tryz.prog.info? 34).map (fun i => (i.zero, i.size, i.bytes)) = some (some (.int .u32 0), 1, 4) := by kernel_rfl
theorem Tryz.info64 : (Tryz.prog.info? 53).map (fun i => (i.zero, i.size, i.bytes)) = some (some (.int .u64 0), 1, 8) := by kernel_rfl
theorem mk32 (n : Nat) (h : n ≤ 70368744177664) (w : World) : (Instr.makeSlice 23 (.int .i64 (n : Int)) (.int .i64 (n : Int))).run Tryz.prog w = .ok (.slice (some ⟨w.heap.size, 0, none⟩) n n) (w.alloc (.cells (List.replicate n (Value.int .u32 0)).toArray 34)) := by
 obtain ⟨i0, hi, hz0, hz1, hz2⟩ := info_parts Tryz.info32
 have hr := run_make (P := Tryz.prog) w 23 34 i0 (.int .u32 0) Tryz.underlying23 hi hz0 .i64 .i64 n n (by omega) (by omega) (by rw [hz2]; omega) (by omega)
 rw [hz1, Int.toNat_natCast, made_one _ _ rfl] at hr
 exact hr
theorem mk64 (n : Nat) (h : n ≤ 35184372088832) (w : World) : (Instr.makeSlice 76 (.int .i64 (n : Int)) (.int .i64 (n : Int))).run Tryz.prog w = .ok (.slice (some ⟨w.heap.size, 0, none⟩) n n) (w.alloc (.cells (List.replicate n (Value.int .u64 0)).toArray 53)) := by
 obtain ⟨i0, hi, hz0, hz1, hz2⟩ := info_parts Tryz.info64
 have hr := run_make (P := Tryz.prog) w 76 53 i0 (.int .u64 0) Tryz.underlying76 hi hz0 .i64 .i64 n n (by omega) (by omega) (by rw [hz2]; omega) (by omega)
 rw [hz1, Int.toNat_natCast, made_one _ _ rfl] at hr
 exact hr
set_option maxHeartbeats 400000 in
theorem trim_any (A : Option Addr) (c : Nat) (xs : List Nat) (w : World) (B : Nat) (hr : Rd w B A (u32s xs)) (hc : xs.length ≤ c) (hm : xs.length ≤ 281474976710656) :
  Calls Tryz.prog 37 #[.slice A xs.length c] w fun e w' => e = .returned (.slice A (trimL xs).length c) ∧ w = w' := by
 go_enter Tryz.func37, Tryz.ntmps37
 go_wp2
 go_loop [0] (fun v => ∃ m : Nat, m ≤ xs.length ∧ v = .slice A m c ∧ trimL (xs.take m) = trimL xs) (fun v => match v with | .slice _ m _ => m | _ => 0)
 case atStart => exact ⟨xs.length, Nat.le_refl _, rfl, by simp⟩
 case round =>
  obtain ⟨m, hm1, rfl, ht⟩ := hrel
  have Ht := hi9 ht; clear ht
  rcases m with _ | m
  ·go_wp2
   go_ret
   have h0 : (trimL xs).length = 0 := by rw [← Ht.out]; rfl
   exact ⟨by rw [h0]; rfl, rfl⟩
  ·obtain ⟨b, off, rfl, hb, hcell⟩ := hr (by intro e; have := u32s_length xs; rw [e] at this; simp at this; omega)
   have hcl := hcell m _ (u32s_at (by omega))
   clear hcell
   by_cases h0 : xs[m] = 0
   ·have hz := trimL_take_zero xs m (by omega) h0
    rw [h0] at hcl
    have Hz := hi9 hz
    clear hz h0
    go_wp2
    go_round
    case rel => exact ⟨m, by omega, rfl, by rw [← Hz.out]; exact Ht.out⟩
    case measure => simp
   ·have hz := trimL_take_pos xs m (by omega) h0
    have Hz := hi9 hz
    have hne : ((xs[m] : Int) == 0) = false := by simp; omega
    clear hz
    go_wp2
    go_ret
    exact ⟨by rw [← Hz.out, Ht.out]; rfl, rfl⟩
set_option maxHeartbeats 400000 in
theorem trimWords_any (A : Option Addr) (c : Nat) (xs : List Nat) (w : World) (B : Nat) (hr : Rd w B A (u64s xs)) (hc : xs.length ≤ c) (hm : xs.length ≤ 281474976710656) :
  Calls Tryz.prog 64 #[.slice A xs.length c] w fun e w' => e = .returned (.slice A (trimL xs).length c) ∧ w = w' := by
 go_enter Tryz.func64, Tryz.ntmps64
 go_wp2
 go_loop [0] (fun v => ∃ m : Nat, m ≤ xs.length ∧ v = .slice A m c ∧ trimL (xs.take m) = trimL xs) (fun v => match v with | .slice _ m _ => m | _ => 0)
 case atStart => exact ⟨xs.length, Nat.le_refl _, rfl, by simp⟩
 case round =>
  obtain ⟨m, hm1, rfl, ht⟩ := hrel
  have Ht := hi9 ht; clear ht
  rcases m with _ | m
  ·go_wp2
   go_ret
   have h0 : (trimL xs).length = 0 := by rw [← Ht.out]; rfl
   exact ⟨by rw [h0]; rfl, rfl⟩
  ·obtain ⟨b, off, rfl, hb, hcell⟩ := hr (by intro e; have := u64s_length xs; rw [e] at this; simp at this; omega)
   have hcl := hcell m _ (u64s_at (by omega))
   clear hcell
   by_cases h0 : xs[m] = 0
   ·have hz := trimL_take_zero xs m (by omega) h0
    rw [h0] at hcl
    have Hz := hi9 hz
    clear hz h0
    go_wp2
    go_round
    case rel => exact ⟨m, by omega, rfl, by rw [← Hz.out]; exact Ht.out⟩
    case measure => simp
   ·have hz := trimL_take_pos xs m (by omega) h0
    have Hz := hi9 hz
    have hne : ((xs[m] : Int) == 0) = false := by simp; omega
    clear hz
    go_wp2
    go_ret
    exact ⟨by rw [← Hz.out, Ht.out]; rfl, rfl⟩
end
section
open Go.RowKit
def Acc (b : Nat) (os : List Nat) (T k : Nat) (zs : List Nat) (c : Nat) : Prop :=
 Dig b zs ∧ zs.length = os.length ∧ val b zs + b ^ k * c = val b os + T ∧ ∀ j (h : j < zs.length) (h2 : j < os.length), k ≤ j → zs[j] = os[j]
theorem Acc.start {b : Nat} {os : List Nat} (h : Dig b os) : Acc b os 0 0 os 0 := ⟨h, rfl, by simp, fun _ _ _ _ => rfl⟩
theorem Acc.step {b : Nat} {os zs : List Nat} {T k c d r q : Nat} (h : Acc b os T k zs c) (hk : k < os.length) (hr : r < b) (e : r + b * q = os[k] + d + c) : Acc b os (T + b ^ k * d) (k + 1) (zs.set k r) q := by
 obtain ⟨h1, h2, h3, h4⟩ := h
 have hz : k < zs.length := by omega
 refine ⟨h1.set_ _ _ hr, by simpa using h2, ?_, fun j hj hj2 hkj => ?_⟩
 ·have e1 := val_set b zs k r hz
  rw [h4 k hz hk nl9] at e1
  rw [Nat.pow_succ]
  have e2 : b ^ k * r + b ^ k * b * q = b ^ k * os[k] + b ^ k * d + b ^ k * c := by
   rw [Nat.mul_assoc, ← Nat.mul_add, ← Nat.mul_add, ← Nat.mul_add, e]
  omega
 ·rw [List.getElem_set, if_neg (by omega)]
  exact h4 j (by simpa using hj) hj2 (by omega)
def Dec (b : Nat) (os : List Nat) (T k : Nat) (zs : List Nat) (c : Nat) : Prop :=
 Dig b zs ∧ zs.length = os.length ∧ val b zs + T = val b os + b ^ k * c ∧ ∀ j (h : j < zs.length) (h2 : j < os.length), k ≤ j → zs[j] = os[j]
theorem Dec.start {b : Nat} {os : List Nat} (h : Dig b os) : Dec b os 0 0 os 0 := ⟨h, rfl, by simp, fun _ _ _ _ => rfl⟩
theorem Dec.step {b : Nat} {os zs : List Nat} {T k c d r q : Nat} (h : Dec b os T k zs c) (hk : k < os.length) (hr : r < b) (e : r + d + c = os[k] + b * q) : Dec b os (T + b ^ k * d) (k + 1) (zs.set k r) q := by
 obtain ⟨h1, h2, h3, h4⟩ := h
 have hz : k < zs.length := by omega
 refine ⟨h1.set_ _ _ hr, by simpa using h2, ?_, fun j hj hj2 hkj => ?_⟩
 ·have e1 := val_set b zs k r hz
  rw [h4 k hz hk nl9] at e1
  rw [Nat.pow_succ]
  have e2 : b ^ k * r + b ^ k * d + b ^ k * c = b ^ k * os[k] + b ^ k * b * q := by
   rw [Nat.mul_assoc, ← Nat.mul_add, ← Nat.mul_add, ← Nat.mul_add, e]
  omega
 ·rw [List.getElem_set, if_neg (by omega)]
  exact h4 j (by simpa using hj) hj2 (by omega)
structure Tn (g : Nat) (w w' : World) : Prop where
 os : w'.os = w.os
 tape : w'.tape = w.tape
 output : w'.output = w.output
 size : w.heap.size ≤ w'.heap.size
 block : ∀ k, k < w.heap.size → k ≠ g → w'.heap[k]? = w.heap[k]?
theorem Tn.refl (g : Nat) (w : World) : Tn g w w := ⟨rfl, rfl, rfl, Nat.le_refl _, fun _ _ _ => rfl⟩
theorem Tn.trans {g : Nat} {a b c : World} (h : Tn g a b) (k : Tn g b c) : Tn g a c :=
 ⟨k.os.trans h.os, k.tape.trans h.tape, k.output.trans h.output, Nat.le_trans h.size k.size, fun i hi hg => (k.block i (Nat.lt_of_lt_of_le hi h.size) hg).trans (h.block i hi hg)⟩
theorem Tn.of_below {g B : Nat} {w w' : World} (h : Below B w w') (hB : w.heap.size ≤ B) : Tn g w w' := ⟨h.os, h.tape, h.output, h.size, fun k hk _ => h.block k (by omega)⟩
theorem Tn.chNew {g g2 : Nat} {a b c : World} (h : Tn g a b) (k : Ch g2 b c) (hg : a.heap.size ≤ g2) : Tn g a c :=
 ⟨k.os.trans h.os, k.tape.trans h.tape, k.output.trans h.output, by rw [k.size]; exact h.size, fun i hi hg2 => (k.block i (by omega)).trans (h.block i hi hg2)⟩
theorem Tn.drewN {g : Nat} {a w : World} (h : Tn g a w) (n : Nat) : Tn g a (w.drewN n) := ⟨h.os, h.tape, h.output, h.size, h.block⟩
theorem Tn.drew {g : Nat} {a w : World} (h : Tn g a w) : Tn g a w.drew := ⟨h.os, h.tape, h.output, h.size, h.block⟩
theorem Tn.setCell {g : Nat} {a w : World} (h : Tn g a w) (i : Nat) (u : Value) : Tn g a (w.setCell ⟨g, i, none⟩ u) :=
 h.trans ⟨rfl, rfl, rfl, by simp [World.setCell], fun k _ hk => Below.heap_setCell _ _ _ _ hk⟩
theorem Tn.below {g B : Nat} {w w' : World} (h : Tn g w w') (hB : B ≤ g) (hs : B ≤ w.heap.size) : Below B w w' := ⟨h.os, h.tape, h.output, h.size, fun k hk => h.block k (by omega) (by omega)⟩
theorem Blk.tn {w w' : World} {g h : Nat} {t : TypeId} {vs : List Value} (hb : Blk w g t vs) (hc : Tn h w w') (hne : g ≠ h) : Blk w' g t vs := (hc.block g hb.lt hne).trans hb
def Rx (w : World) (g : Nat) (A : Option Addr) (vs : List Value) : Prop :=
 vs ≠ [] → ∃ b off, A = some ⟨b, off, none⟩ ∧ b < w.heap.size ∧ b ≠ g ∧ ∀ k v, vs[k]? = some v → w.cell? ⟨b, off + k, none⟩ = some v
theorem Rd.rx {w : World} {B g : Nat} {A : Option Addr} {vs : List Value} (h : Rd w B A vs) (hB : B ≤ g) (hs : B ≤ w.heap.size) : Rx w g A vs := fun hn => by
 obtain ⟨b, off, e, hb, hc⟩ := h hn
 exact ⟨b, off, e, by omega, by omega, hc⟩
theorem Rx.tn {w w' : World} {g : Nat} {A : Option Addr} {vs : List Value} (h : Rx w g A vs) (k : Tn g w w') : Rx w' g A vs := fun hn => by
 obtain ⟨b, off, e, hb, hg, hc⟩ := h hn
 refine ⟨b, off, e, Nat.lt_of_lt_of_le hb k.size, hg, fun i v hv => ?_⟩
 rw [← hc i v hv]
 unfold World.cell?
 rw [k.block b hb hg]
theorem Rx.of_blk {w : World} {g b : Nat} {t : TypeId} {ys vs : List Value} (h : Blk w b t ys) (hg : b ≠ g) (off : Nat) (hv : ∀ k v, vs[k]? = some v → ys[off + k]? = some v) : Rx w g (some ⟨b, off, none⟩) vs := fun _ =>
 ⟨b, off, rfl, h.lt, hg, fun k v hk => (h.cell _).trans (hv k v hk)⟩
theorem Rx.rd {w : World} {g : Nat} {A : Option Addr} {vs : List Value} (h : Rx w g A vs) : Rd w w.heap.size A vs := fun hn => by
 obtain ⟨b, off, e, hb, _, hc⟩ := h hn
 exact ⟨b, off, e, hb, hc⟩
theorem Rx.keep {w w' : World} {g B : Nat} {A : Option Addr} {vs : List Value} (h : Rx w g A vs) (k : Below B w w') (hB : w.heap.size ≤ B) : Rx w' g A vs := h.tn (Tn.of_below k hB)
def patch (L : List Nat) (o : Nat) (zs : List Nat) : List Nat := L.take o ++ zs ++ L.drop (o + zs.length)
theorem patch_length {L : List Nat} {o : Nat} {zs : List Nat} (h : o + zs.length ≤ L.length) : (patch L o zs).length = L.length := by
 simp [patch]; omega
theorem patch_dig {b : Nat} {L : List Nat} {o : Nat} {zs : List Nat} (h : Dig b L) (k : Dig b zs) : Dig b (patch L o zs) := ((h.take_ _).append_ k).append_ (h.drop_ _)
theorem patch_self {L : List Nat} {o n : Nat} (h : o + n ≤ L.length) : patch L o ((L.drop o).take n) = L := by
 unfold patch
 rw [List.length_take, List.length_drop, show o + min n (L.length - o) = o + n from by omega, List.append_assoc, ← List.drop_drop, List.take_append_drop, List.take_append_drop]
theorem patch_set {L : List Nat} {o k v : Nat} {zs : List Nat} (hk : k < zs.length) (h : o + zs.length ≤ L.length) : (patch L o zs).set (o + k) v = patch L o (zs.set k v) := by
 unfold patch
 rw [List.length_set, List.append_assoc, List.set_append_right _ _ (by simp; omega), List.length_take, Nat.min_eq_left (by omega), show o + k - o = k from by omega, List.set_append_left _ _ hk, List.append_assoc]
theorem patch_get {L : List Nat} {o k : Nat} {zs : List Nat} (hk : k < zs.length) (h : o + zs.length ≤ L.length) : (patch L o zs)[o + k]'(by rw [patch_length h]; omega) = zs[k] := by
 unfold patch
 simp only [List.append_assoc]
 rw [List.getElem_append_right (by simp; omega), List.getElem_append_left (by simp; omega)]
 congr 1
 simp; omega
theorem patch_val (b : Nat) {L : List Nat} {o : Nat} {zs : List Nat} (h : o + zs.length ≤ L.length) : val b (patch L o zs) + b ^ o * val b ((L.drop o).take zs.length) = val b L + b ^ o * val b zs := by
 have e1 : val b (patch L o zs) = val b (L.take o) + b ^ o * (val b zs + b ^ zs.length * val b (L.drop (o + zs.length))) := by
  unfold patch
  rw [List.append_assoc, val_append, val_append, List.length_take, Nat.min_eq_left (by omega)]
 have e2 : val b L = val b (L.take o) + b ^ o * (val b ((L.drop o).take zs.length) + b ^ zs.length * val b (L.drop (o + zs.length))) := by
  conv => lhs; rw [← List.take_append_drop o L, ← List.take_append_drop zs.length (L.drop o)]
  rw [val_append, val_append, List.length_take, Nat.min_eq_left (by omega), List.length_take, List.length_drop, Nat.min_eq_left (by omega), List.drop_drop]
 rw [e1, e2, Nat.mul_add, Nat.mul_add]
 omega
end
section
open Go.RowKit
theorem one_u32s (xs : List Nat) : ∀ v ∈ u32s xs, v.oneCell' = true := by
 intro v hv; obtain ⟨x, _, rfl⟩ := List.mem_map.1 hv; rfl
theorem one_u64s (xs : List Nat) : ∀ v ∈ u64s xs, v.oneCell' = true := by
 intro v hv; obtain ⟨x, _, rfl⟩ := List.mem_map.1 hv; rfl
set_option maxHeartbeats 400000 in
theorem norm_any (A : Option Addr) (c : Nat) (xs : List Nat) (w : World) (B : Nat) (hr : Rd w B A (u32s xs)) (hB : B ≤ w.heap.size) (hc : xs.length ≤ c) (hm : xs.length ≤ 70368744177664) :
  Calls Tryz.prog 76 #[.slice A xs.length c] w fun e w' => ∃ A' c', e = .returned (.slice A' (trimL xs).length c') ∧ Res w' w.heap.size 34 A' c' (u32s (trimL xs)) ∧ Below w.heap.size w w' := by
 have hl := trimL_length_le xs
 have hmk := fun W => mk32 (trimL xs).length (by omega) W
 by_cases h0 : trimL xs = []
 ·have hl0 : ((trimL xs).length : Int) = 0 := by rw [h0]; rfl
  have hl1 : (trimL xs).length = 0 := by rw [h0]; rfl
  have H0 := hi9 h0; clear h0
  have Hl := hi9 hl1; clear hl1
  clear hmk
  go_enter Tryz.func76, Tryz.ntmps76
  go_wp2_with (go_at_call 37; refine (trim_any A c xs w B hr hc (by omega)).mono ?_; rintro e w' ⟨rfl, rfl⟩)
  go_ret
  exact ⟨none, 0, by rw [Hl.out]; rfl, by rw [H0.out]; exact Res.none_, br9⟩
 ·have hne : ((trimL xs).length : Int) ≠ 0 := by intro e; exact h0 (List.eq_nil_of_length_eq_zero (by omega))
  have hb : (((trimL xs).length : Int) == 0) = false := by simpa using hne
  have hpos : 0 < (trimL xs).length := by omega
  clear hne h0
  obtain ⟨b, off, rfl, hbB, hcell⟩ := hr (by intro e; have := u32s_length xs; rw [e] at this; simp at this; omega)
  go_enter Tryz.func76, Tryz.ntmps76
  go_wp2_with (first
   | (go_at_call 37; refine (trim_any _ c xs w B hr hc (by omega)).mono ?_; rintro e w' ⟨rfl, rfl⟩)
   | ((with_reducible refine wpList_copy_splice (o := ⟨some 14, _, _, _, _, _⟩) rfl _ _ _ _ rfl 34 Tryz.underlying23 ?u1 _ _ _ _ _ _ rfl rfl w.heap.size 0 (List.replicate (trimL xs).length (Value.int .u32 0)) 34 ?c1 ((u32s xs).take (trimL xs).length) ?c2 ?c3 ?c4 ?c5 w.heap.size w ?c6 nl9 ?_); rotate_right; intro w2 hg2 hb2))
  case u1 => kernel_rfl
  case c1 => exact Blk.new_ (by simp)
  case c2 => rw [List.length_take, u32s_length]; simp; omega
  case c3 =>
   intro _ j v hv
   rw [World.cell?_alloc_past _ _ _ (by show b < _; omega)]
   refine hcell j v ?_
   rw [List.getElem?_take] at hv
   split at hv
   ·exact hv
   ·cases hv
  case c4 => rw [List.length_take, u32s_length, List.length_replicate]; omega
  case c5 => exact fun v hv => one_u32s xs v (List.mem_of_mem_take hv)
  case c6 => exact br9.alloc nl9 _
  go_ret
  refine ⟨_, _, rfl, ?_, hb2⟩
  have e : splice (List.replicate (trimL xs).length (Value.int .u32 0)) 0 ((u32s xs).take (trimL xs).length) = u32s (trimL xs) := by
   rw [u32s_trim]
   simp [splice, u32s_length]
   omega
  have h2 : Blk w2 w.heap.size 34 (u32s (trimL xs)) := by rw [← e]; exact hg2.out
  have hr2 := Res.of_blk0 h2 nl9 (by rw [u32s_length]; omega)
  rw [u32s_length] at hr2
  exact hr2
theorem or_shift (x y i : Nat) (hx : x < 2 ^ i) : y * 2 ^ i ||| x = x + 2 ^ i * y := by
 rw [Nat.mul_comm, ← Nat.two_pow_add_eq_or_of_lt hx]; omega
theorem word_or (x y : Nat) (hx : x < 4294967296) (hy : y < 4294967296) : bits .or .u64 ((y : Int) * 4294967296) (x : Int) = ((x + 4294967296 * y : Nat) : Int) := by
 have e := u64_or_nat (y * 4294967296) x (by omega) (by omega)
 rw [show ((y : Int) * 4294967296) = ((y * 4294967296 : Nat) : Int) from by omega, e]
 have := or_shift x y 32 (by omega)
 rw [show (2 : Nat) ^ 32 = 4294967296 from rfl] at this
 rw [this]
theorem len_two {xs : List Nat} (h : xs.length = 2) : ∃ x y, xs = [x, y] := by
 match xs, h with
 | [x, y], _ => exact ⟨x, y, rfl⟩
theorem len_one {xs : List Nat} (h : xs.length = 1) : ∃ x, xs = [x] := by
 match xs, h with
 | [x], _ => exact ⟨x, rfl⟩
set_option maxHeartbeats 400000 in
theorem word_any (A : Option Addr) (c : Nat) (xs : List Nat) (w : World) (B : Nat) (hr : Rd w B A (u32s xs)) (hd : Dig 4294967296 xs) (hm : xs.length ≤ 2) :
  Calls Tryz.prog 68 #[.slice A xs.length c] w fun e w' => e = .returned (.int .u64 (val 4294967296 xs : Nat)) ∧ Dr w w' := by
 rcases Nat.lt_or_ge xs.length 1 with h0 | h0
 ·obtain rfl : xs = [] := List.eq_nil_of_length_eq_zero (by omega)
  go_enter Tryz.func68, Tryz.ntmps68
  go_wp2
  go_ret
  exact ⟨rfl, Dr.refl _⟩
 rcases Nat.lt_or_ge xs.length 2 with h1 | h1
 ·obtain ⟨x, rfl⟩ := len_one (xs := xs) (by omega)
  obtain ⟨b, off, rfl, hb, hcell⟩ := hr (by simp [u32s])
  have c0 := hcell 0 _ rfl
  simp only [Nat.add_zero] at c0
  have hx : x < 4294967296 := hd.head_
  clear hcell hr
  go_enter Tryz.func68, Tryz.ntmps68
  go_wp2
  go_ret
  exact ⟨by simp [val], Dr.refl _⟩
 ·obtain ⟨x, y, rfl⟩ := len_two (xs := xs) (by omega)
  obtain ⟨b, off, rfl, hb, hcell⟩ := hr (by simp [u32s])
  have c0 := hcell 0 _ rfl
  have c1 := hcell 1 _ rfl
  simp only [Nat.add_zero] at c0
  have hx : x < 4294967296 := hd.head_
  have hy : y < 4294967296 := hd.tail_.head_
  clear hcell hr
  go_enter Tryz.func68, Tryz.ntmps68
  go_wp2
  go_quiet (fail)
  go_wp2
  go_ret
  refine ⟨?_, (Dr.refl _).step _⟩
  show Ending.returned (.int .u64 (bits .or .u64 ((y : Int) * 4294967296) (x : Int))) = _
  rw [word_or x y hx hy]
  simp [val]
theorem or_zero_wrap (x : Nat) (h : x < 4294967296) : bits BinOp.or IntKind.u64 0 (IntKind.u64.wrap (IntKind.u64.wrap (x : Int))) = (x : Int) := by
 have e := u64_or_nat 0 x (by omega) (by omega)
 rw [IntKind.wrap_u64, IntKind.wrap_u64, show ((x : Int) % 18446744073709551616 % 18446744073709551616) = (x : Int) from by omega]
 simpa using e
theorem or_shift_wrap (y x : Nat) (hy : y < 4294967296) (hx : x < 4294967296) : bits BinOp.or IntKind.u64 (y : Int) (IntKind.u64.wrap (IntKind.u64.wrap (x : Int) * 4294967296)) = ((y + 4294967296 * x : Nat) : Int) := by
 rw [IntKind.wrap_u64, IntKind.wrap_u64, show ((x : Int) % 18446744073709551616 * 4294967296 % 18446744073709551616) = ((x * 4294967296 : Nat) : Int) from by omega, u64_or_nat y (x * 4294967296) (by omega) (by omega), Nat.or_comm]
 have := or_shift y x 32 (by omega)
 rw [show (2 : Nat) ^ 32 = 4294967296 from rfl] at this
 rw [this]
theorem u64s_set (xs : List Nat) (i v : Nat) : (u64s xs).set i (Value.int .u64 (v : Int)) = u64s (xs.set i v) := by simp [u64s, List.map_set]
theorem u32s_set (xs : List Nat) (i v : Nat) : (u32s xs).set i (Value.int .u32 (v : Int)) = u32s (xs.set i v) := by simp [u32s, List.map_set]
theorem pack_even {ys xs : List Nat} {j : Nat} (hk : 2 * j < xs.length) (hj : j < ys.length) (h0 : ys[j] = 0) (hv : val 18446744073709551616 ys = val 4294967296 (xs.take (2 * j))) :
  val 18446744073709551616 (ys.set j xs[2 * j]) = val 4294967296 (xs.take (2 * j + 1)) := by
 have h1 := val_set 18446744073709551616 ys j xs[2 * j] hj
 have h2 := val_take_succ 4294967296 xs (2 * j) hk
 rw [h0] at h1
 rw [h2, ← hv, Nat.pow_mul, show (4294967296 : Nat) ^ 2 = 18446744073709551616 from rfl]
 omega
theorem pack_odd {ys xs : List Nat} {j : Nat} (hk : 2 * j + 1 < xs.length) (hj : j < ys.length) (hv : val 18446744073709551616 ys = val 4294967296 (xs.take (2 * j + 1))) :
  val 18446744073709551616 (ys.set j (ys[j] + 4294967296 * xs[2 * j + 1])) = val 4294967296 (xs.take (2 * j + 1 + 1)) := by
 have h1 := val_set 18446744073709551616 ys j (ys[j] + 4294967296 * xs[2 * j + 1]) hj
 have h2 := val_take_succ 4294967296 xs (2 * j + 1) hk
 rw [h2, ← hv, Nat.pow_succ, Nat.pow_mul, show (4294967296 : Nat) ^ 2 = 18446744073709551616 from rfl, Nat.mul_assoc]
 rw [Nat.mul_add] at h1
 omega
def Packed (xs : List Nat) (k : Nat) (ys : List Nat) : Prop :=
 Dig 18446744073709551616 ys ∧ val 18446744073709551616 ys = val 4294967296 (xs.take k) ∧ (∀ j (h : j < ys.length), k ≤ 2 * j → ys[j] = 0) ∧ ∀ j (h : j < ys.length), k = 2 * j + 1 → ys[j] < 4294967296
theorem Packed.even {xs ys : List Nat} {j : Nat} (h : Packed xs (2 * j) ys) (hk : 2 * j < xs.length) (hj : j < ys.length) (hd : Dig 4294967296 xs) : Packed xs (2 * j + 1) (ys.set j xs[2 * j]) := by
 have hx := hd.at_ (2 * j) hk
 refine ⟨h.1.set_ _ _ (by omega), pack_even hk hj (h.2.2.1 j hj (by omega)) h.2.1, fun i hi hki => ?_, fun i hi hki => ?_⟩
 ·rw [List.getElem_set]
  rw [if_neg (by omega)]
  exact h.2.2.1 i (by simpa using hi) (by omega)
 ·obtain rfl : i = j := by omega
  simpa using hx
theorem Packed.odd {xs ys : List Nat} {j : Nat} (h : Packed xs (2 * j + 1) ys) (hk : 2 * j + 1 < xs.length) (hj : j < ys.length) (hd : Dig 4294967296 xs) : Packed xs (2 * j + 1 + 1) (ys.set j (ys[j] + 4294967296 * xs[2 * j + 1])) := by
 have hx := hd.at_ (2 * j + 1) hk
 have hy := h.2.2.2 j hj rfl
 refine ⟨h.1.set_ _ _ (by omega), pack_odd hk hj h.2.1, fun i hi hki => ?_, fun i hi hki => by omega⟩
 rw [List.getElem_set]
 rw [if_neg (by omega)]
 exact h.2.2.1 i (by simpa using hi) (by omega)
theorem Packed.start (xs : List Nat) (N : Nat) : Packed xs 0 (List.replicate N 0) :=
 ⟨Dig.zeros_ (by omega) _, by rw [val_zeros]; rfl, fun j h _ => by simp, fun j h e => by omega⟩
set_option maxHeartbeats 400000 in
theorem wide_any (A : Option Addr) (c : Nat) (xs : List Nat) (w : World) (B : Nat) (hr : Rd w B A (u32s xs)) (hB : B ≤ w.heap.size) (hd : Dig 4294967296 xs) (_ : xs.length ≤ c) (hm : xs.length ≤ 70368744177000) :
  Calls Tryz.prog 71 #[.slice A xs.length c] w fun e w' => ∃ ys A' c', e = .returned (.slice A' ys.length c') ∧ ys.length = (xs.length + 1) / 2 ∧ Dig 18446744073709551616 ys ∧ val 18446744073709551616 ys = val 4294967296 xs ∧ Res w' w.heap.size 53 A' c' (u64s ys) ∧ Below w.heap.size w w' := by
 obtain ⟨N, hN⟩ : ∃ N, N = (xs.length + 1) / 2 := ⟨_, rfl⟩
 have hmk := fun W => mk64 N (by omega) W
 have hq1 : ((xs.length : Int) + 1) / 2 = (N : Int) := by omega
 have hq2 : ((xs.length : Int) + 1).tdiv 2 = (N : Int) := by rw [Int.tdiv_eq_ediv_of_nonneg (by omega)]; omega
 have HN := hi9 hN; clear hN
 go_enter Tryz.func71, Tryz.ntmps71
 go_wp2
 go_loopw [4, 5, 13] (fun _ _ i wr => ∃ (k : Nat) (ys : List Nat), k ≤ xs.length ∧ i = .int .i64 k ∧ ys.length = N ∧ Blk wr w.heap.size 53 (u64s ys) ∧ Packed xs k ys ∧ Below w.heap.size w wr) (fun _ _ i _ => xs.length - (intOf i).toNat)
 case atStart => exact ⟨0, List.replicate N 0, by omega, rfl, by simp, Blk.new_ (by simp [u64s]), Packed.start _ _, br9.alloc nl9 _⟩
 case round =>
  obtain ⟨k, ys, hk, rfl, hyl, hblk, hpk, hbel⟩ := hrel
  by_cases hlt : k < xs.length
  ·obtain ⟨b, off, rfl, hb, hcell⟩ := hr (by intro e; have := u32s_length xs; rw [e] at this; simp at this; omega)
   have hx := (hbel.cell (p := ⟨b, off + k, none⟩) (show b < _ by omega)).trans (hcell k _ (u32s_at hlt))
   clear hcell
   rcases Nat.mod_two_eq_zero_or_one k with h2 | h2
   ·obtain ⟨j, rfl⟩ : ∃ j, k = 2 * j := ⟨k / 2, by omega⟩
    have HN' := HN.out
    have hj : j < ys.length := by omega
    have hcj := (hblk.cell j).trans (u64s_at hj)
    have hfj := hblk.frozen j
    have hz : ys[j] = 0 := hpk.2.2.1 j hj (by omega)
    rw [hz] at hcj
    clear h2 hz HN'
    go_wp2
    go_region
    all_goals
     go_wp2
     go_roundw
     case rel =>
      refine ⟨2 * j + 1, ys.set j xs[2 * j], by omega, by go_num, by simpa using hyl, ?_, hpk.even hlt hj hd, (hbel.setCell (p := ⟨w.heap.size, j, none⟩) nl9 _).drew⟩
      have hb2 := (hblk.set_ j (Value.int IntKind.u64 (bits BinOp.or IntKind.u64 0 (IntKind.u64.wrap (IntKind.u64.wrap ↑xs[2 * j]))))).drew
      rw [or_zero_wrap _ (hd.at_ _ hlt), u64s_set] at hb2
      rw [or_zero_wrap _ (hd.at_ _ hlt)]
      exact hb2
     case measure => simp [intOf]; omega
   ·obtain ⟨j, rfl⟩ : ∃ j, k = 2 * j + 1 := ⟨k / 2, by omega⟩
    have HN' := HN.out
    have hj : j < ys.length := by omega
    have hcj := (hblk.cell j).trans (u64s_at hj)
    have hfj := hblk.frozen j
    have e1 : (2 * j + 1) / 2 = j := by omega
    clear h2 HN'
    go_wp2
    go_region
    all_goals
     go_wp2
     go_roundw
     case rel =>
      refine ⟨2 * j + 1 + 1, ys.set j (ys[j] + 4294967296 * xs[2 * j + 1]), by omega, by go_num, by simpa using hyl, ?_, hpk.odd hlt hj hd, (hbel.setCell (p := ⟨w.heap.size, j, none⟩) nl9 _).drew⟩
      have hb2 := (hblk.set_ j (Value.int IntKind.u64 (bits BinOp.or IntKind.u64 (↑ys[j]) (IntKind.u64.wrap (IntKind.u64.wrap ↑xs[2 * j + 1] * 4294967296))))).drew
      rw [or_shift_wrap _ _ (hpk.2.2.2 j hj rfl) (hd.at_ _ hlt), u64s_set] at hb2
      rw [or_shift_wrap _ _ (hpk.2.2.2 j hj rfl) (hd.at_ _ hlt)]
      exact hb2
     case measure => simp [intOf]; omega
  ·go_wp2
   go_ret
   obtain rfl : k = xs.length := by omega
   refine ⟨ys, _, N, by rw [hyl]; rfl, by rw [hyl]; exact HN.out, hpk.1, by rw [hpk.2.1, List.take_length], ?_, hbel⟩
   have hN := HN.out
   have := Res.of_blk0 hblk nl9 (by rw [u64s_length]; omega)
   rw [u64s_length, hyl] at this
   exact this
def Unpacked (ws : List Nat) (k : Nat) (zs : List Nat) : Prop :=
 Dig 4294967296 zs ∧ val 4294967296 zs = val 18446744073709551616 (ws.take k) ∧ ∀ j (h : j < zs.length), 2 * k ≤ j → zs[j] = 0
theorem Unpacked.start (ws : List Nat) (n : Nat) : Unpacked ws 0 (List.replicate n 0) :=
 ⟨Dig.zeros_ (by omega) _, by rw [val_zeros]; rfl, fun j h _ => by simp⟩
theorem Unpacked.step {ws zs : List Nat} {k : Nat} (h : Unpacked ws k zs) (hk : k < ws.length) (hz : 2 * k + 1 < zs.length) (hx : ws[k] < 18446744073709551616) :
  Unpacked ws (k + 1) ((zs.set (2 * k) (ws[k] % 4294967296)).set (2 * k + 1) (ws[k] / 4294967296)) := by
 refine ⟨(h.1.set_ _ _ (by omega)).set_ _ _ (by omega), ?_, fun i hi hki => ?_⟩
 ·have h1 := val_set 4294967296 zs (2 * k) (ws[k] % 4294967296) (by omega)
  have h2 := val_set 4294967296 (zs.set (2 * k) (ws[k] % 4294967296)) (2 * k + 1) (ws[k] / 4294967296) (by simpa using hz)
  rw [h.2.2 (2 * k) (by omega) (by omega)] at h1
  rw [List.getElem_set, if_neg (by omega), h.2.2 (2 * k + 1) (by omega) (by omega)] at h2
  rw [val_take_succ _ _ _ hk, ← h.2.1]
  rw [Nat.pow_succ, Nat.pow_mul, show (4294967296 : Nat) ^ 2 = 18446744073709551616 from rfl] at h2
  rw [Nat.pow_mul, show (4294967296 : Nat) ^ 2 = 18446744073709551616 from rfl] at h1
  have e : 18446744073709551616 ^ k * ws[k] = 18446744073709551616 ^ k * (ws[k] % 4294967296) + 18446744073709551616 ^ k * 4294967296 * (ws[k] / 4294967296) := by
   rw [Nat.mul_assoc, ← Nat.mul_add, Nat.mod_add_div]
  omega
 ·rw [List.getElem_set, if_neg (by omega), List.getElem_set, if_neg (by omega)]
  exact h.2.2 i (by simpa using hi) (by omega)
set_option maxHeartbeats 400000 in
theorem narrow_any (A : Option Addr) (c : Nat) (ws : List Nat) (w : World) (B : Nat) (hr : Rd w B A (u64s ws)) (hB : B ≤ w.heap.size) (hd : Dig 18446744073709551616 ws) (hc : ws.length ≤ c) (hm : ws.length ≤ 35184372088832) :
  Calls Tryz.prog 39 #[.slice A ws.length c] w fun e w' => ∃ zs A' c', e = .returned (.slice A' zs.length c') ∧ Num 4294967296 zs (val 18446744073709551616 ws) ∧ Res w' w.heap.size 34 A' c' (u32s zs) ∧ Below w.heap.size w w' := by
 have hl := trimL_length_le ws
 by_cases h0 : trimL ws = []
 ·have hl0 : ((trimL ws).length : Int) = 0 := by rw [h0]; rfl
  have hv : val 18446744073709551616 ws = 0 := by rw [← val_trim, h0]; rfl
  have Hv := hi9 hv; clear hv h0
  go_enter Tryz.func39, Tryz.ntmps39
  go_wp2_with (go_at_call 64; refine (trimWords_any A c ws w B hr hc (by omega)).mono ?_; rintro e w' ⟨rfl, rfl⟩)
  go_ret
  exact ⟨[], none, 0, rfl, by rw [Hv.out]; exact Num.zero_ _, Res.none_, br9⟩
 ·have hne : ((trimL ws).length : Int) ≠ 0 := by intro e; exact h0 (List.eq_nil_of_length_eq_zero (by omega))
  have hb : (((trimL ws).length : Int) == 0) = false := by simpa using hne
  have hpos : 0 < (trimL ws).length := by omega
  clear hne h0
  obtain ⟨b, off, rfl, hbB, hcell⟩ := hr (by intro e; have := u64s_length ws; rw [e] at this; simp at this; omega)
  obtain ⟨ts, hts⟩ : ∃ ts, ts = trimL ws := ⟨_, rfl⟩
  have hd2 : Dig 18446744073709551616 ts := by rw [hts]; exact hd.trim_
  have hv2 : val 18446744073709551616 ts = val 18446744073709551616 ws := by rw [hts]; exact val_trim _ _
  have hcell2 : ∀ k (h : k < ts.length), w.cell? ⟨b, off + k, none⟩ = some (.int .u64 (ts[k] : Nat)) := fun k h => by
   refine hcell k _ ?_
   have e1 : (u64s ts)[k]? = (u64s ws)[k]? := by
    rw [hts, u64s_trim, List.getElem?_take, if_pos (by rw [← hts]; exact h)]
   rw [← e1]; exact u64s_at h
  rw [← hts] at hl hb hpos
  have Hts := hi9 hts
  have Hv2 := hi9 hv2
  have hmk : ∀ W : World, (Instr.makeSlice 23 (.int .i64 (2 * (ts.length : Int))) (.int .i64 (2 * (ts.length : Int)))).run Tryz.prog W = .ok (.slice (some ⟨W.heap.size, 0, none⟩) (2 * ts.length) (2 * ts.length)) (W.alloc (.cells (List.replicate (2 * ts.length) (Value.int .u32 0)).toArray 34)) := fun W => by
   have := mk32 (2 * ts.length) (by omega) W
   rwa [show ((2 * ts.length : Nat) : Int) = 2 * (ts.length : Int) from by omega] at this
  clear hcell hts hv2
  go_enter Tryz.func39, Tryz.ntmps39
  go_wp2_with (go_at_call 64; refine (trimWords_any _ c ws w B hr hc (by omega)).mono ?_; rintro e w' ⟨rfl, rfl⟩; rw [← Hts.out])
  go_loopw [4, 5, 17] (fun _ _ i wr => ∃ (k : Nat) (zs : List Nat), k ≤ ts.length ∧ i = .int .i64 k ∧ zs.length = 2 * ts.length ∧ Blk wr w.heap.size 34 (u32s zs) ∧ Unpacked ts k zs ∧ Below w.heap.size w wr) (fun _ _ i _ => ts.length - (intOf i).toNat)
  case atStart => exact ⟨0, List.replicate (2 * ts.length) 0, by omega, rfl, by simp, Blk.new_ (by simp [u32s]), Unpacked.start _ _, br9.alloc nl9 _⟩
  case round =>
   obtain ⟨k, zs, hk, rfl, hzl, hblk, hpk, hbel⟩ := hrel
   by_cases hlt : k < ts.length
   ·have hx := (hbel.cell (p := ⟨b, off + k, none⟩) (show b < _ by omega)).trans (hcell2 k hlt)
    clear hcell2
    have hz1 : 2 * k + 1 < zs.length := by omega
    have Hzl := hi9 hzl
    clear hzl
    have hc0 := (hblk.cell (2 * k)).trans (u32s_at (by omega))
    have hc1 := (hblk.cell (2 * k + 1)).trans (u32s_at (by omega))
    have hf0 := hblk.frozen (2 * k)
    have hf1 := hblk.frozen (2 * k + 1)
    have hxd := hd2.at_ k hlt
    go_wp2
    go_roundw
    case rel =>
     refine ⟨k + 1, (zs.set (2 * k) (ts[k] % 4294967296)).set (2 * k + 1) (ts[k] / 4294967296), by omega, by go_num, by simpa using Hzl.out, ?_, hpk.step hlt hz1 hxd, (hbel.setCell (p := ⟨w.heap.size, 2 * k, none⟩) nl9 _).setCell (p := ⟨w.heap.size, 2 * k + 1, none⟩) nl9 _⟩
     have hb2 := (hblk.set_ (2 * k) (Value.int IntKind.u32 ((ts[k] % 4294967296 : Nat) : Int))).set_ (2 * k + 1) (Value.int IntKind.u32 ((ts[k] / 4294967296 : Nat) : Int))
     rw [u32s_set, u32s_set] at hb2
     exact hb2
    case measure => simp [intOf]; omega
   ·obtain rfl : k = ts.length := by omega
    have Hzl := hi9 hzl
    have hrd : Rd wr wr.heap.size (some ⟨w.heap.size, 0, none⟩) (u32s zs) := (Res.of_blk0 hblk nl9 (by rw [u32s_length]; omega)).rd
    have hzm : zs.length ≤ 281474976710656 := by omega
    clear hzl hcell2
    go_wp2_with (go_at_call 37; rw [← Hzl.out]; refine (trim_any _ _ zs wr _ hrd nl9 hzm).mono ?_; rintro e w' ⟨rfl, rfl⟩)
    go_ret
    refine ⟨trimL zs, _, _, rfl, ?_, ?_, hbel⟩
    ·have e : val 4294967296 zs = val 18446744073709551616 ws := by rw [hpk.2.1, List.take_length]; exact Hv2.out
     rw [← e]
     exact Num.of_trim hpk.1
    ·have h3 := (Res.of_blk0 hblk nl9 (by rw [u32s_length]; exact hzm)).take (trimL zs).length
     rw [← u32s_trim, u32s_length] at h3
     exact h3
end
section
open Go.RowKit
def cmpN (a b : Nat) : Int := if a < b then -1 else if b < a then 1 else 0
set_option maxHeartbeats 400000 in
theorem order_any (b : Bool) (w : World) : Calls Tryz.prog 67 #[.bool b] w fun e w' => e = .returned (.int .i64 (if b then -1 else 1)) ∧ w = w' := by
 cases b
 all_goals
  go_enter Tryz.func67, Tryz.ntmps67
  go_wp2
  go_ret
  exact ⟨rfl, rfl⟩
theorem val_cmp_top (b : Nat) (xs ys : List Nat) (hx : Dig b xs) (hl : xs.length = ys.length) (j : Nat) (hj : j < xs.length) (hsame : ∀ i (h : i < xs.length), j < i → xs[i] = ys[i]'(by omega)) (hlt : xs[j] < ys[j]'(by omega)) : val b xs < val b ys := by
 induction xs generalizing ys j with
 | nil => simp at hj
 | cons x xs ih =>
  cases ys with
  | nil => simp at hl
  | cons y ys =>
   cases j with
   | zero =>
    have e : xs = ys := by
     apply List.ext_getElem (by simpa using hl)
     intro i h1 h2
     have := hsame (i + 1) (by simpa using h1) (by omega)
     simpa using this
    subst e
    simp only [val]
    simp at hlt
    omega
   | succ j =>
    have h1 := ih ys hx.tail_ (by simpa using hl) j (by simpa using hj) (fun i h hji => by
     have := hsame (i + 1) (by simpa using h) (by omega)
     simpa using this) (by simpa using hlt)
    have h2 := hx.head_
    simp only [val]
    have : b * (val b xs + 1) ≤ b * val b ys := Nat.mul_le_mul_left _ h1
    rw [Nat.mul_add] at this
    omega
theorem val_lt_len {b : Nat} {xs ys : List Nat} {m n : Nat} (hb : 0 < b) (hx : Num b xs m) (hy : Num b ys n) (h : xs.length < ys.length) : m < n := by
 have h1 := hx.lt
 have h2 := hy.ge (by rintro rfl; simp at h)
 have : b ^ xs.length ≤ b ^ (ys.length - 1) := Nat.pow_le_pow_right hb (by omega)
 omega
set_option maxHeartbeats 400000 in
theorem cmp_any (A A2 : Option Addr) (c c2 : Nat) (xs ys : List Nat) (w : World) (B : Nat) (hr : Rd w B A (u32s xs)) (hr2 : Rd w B A2 (u32s ys)) (hd : Dig 4294967296 xs) (hd2 : Dig 4294967296 ys) (hc : xs.length ≤ c) (hc2 : ys.length ≤ c2) (hm : xs.length ≤ 281474976710656) (hm2 : ys.length ≤ 281474976710656) :
  Calls Tryz.prog 43 #[.slice A xs.length c, .slice A2 ys.length c2] w fun e w' => e = .returned (.int .i64 (cmpN (val 4294967296 xs) (val 4294967296 ys))) ∧ Dr w w' := by
 obtain ⟨m, hmv⟩ : ∃ m, m = val 4294967296 xs := ⟨_, rfl⟩
 obtain ⟨n, hnv⟩ : ∃ n, n = val 4294967296 ys := ⟨_, rfl⟩
 have hn1 : Num 4294967296 (trimL xs) m := by rw [hmv]; exact Num.of_trim hd
 have hn2 : Num 4294967296 (trimL ys) n := by rw [hnv]; exact Num.of_trim hd2
 have hl1 := trimL_length_le xs
 have hl2 := trimL_length_le ys
 rw [← hmv, ← hnv]
 have hrt : Rd w B A (u32s (trimL xs)) := by rw [u32s_trim]; exact hr.take _
 have hrt2 : Rd w B A2 (u32s (trimL ys)) := by rw [u32s_trim]; exact hr2.take _
 obtain ⟨ps, has⟩ : ∃ ps, ps = trimL xs := ⟨_, rfl⟩
 obtain ⟨qs, hbs⟩ : ∃ qs, qs = trimL ys := ⟨_, rfl⟩
 rw [← has] at hn1 hrt hl1
 rw [← hbs] at hn2 hrt2 hl2
 have Has := hi9 has
 have Hbs := hi9 hbs
 clear has hbs hmv hnv
 rcases Nat.lt_trichotomy ps.length qs.length with hlt | heq | hgt
 ·have hv : m < n := val_lt_len (by omega) hn1 hn2 hlt
  have e1 : cmpN m n = -1 := by simp [cmpN, hv]
  have He1 := hi9 e1
  have t1 : ((ps.length : Int) != (qs.length : Int)) = true := by rw [bne_iff_ne]; omega
  clear e1 hv
  go_enter Tryz.func43, Tryz.ntmps43
  go_wp2_with (first
   | (go_at_call 37; (with_reducible refine (trim_any A c xs _ B hr hc hm).mono ?_); rintro e w' ⟨rfl, rfl⟩; rw [← Has.out])
   | (go_at_call 37; (with_reducible refine (trim_any A2 c2 ys _ B hr2 hc2 hm2).mono ?_); rintro e w' ⟨rfl, rfl⟩; rw [← Hbs.out])
   | (go_at_call 67; (with_reducible refine (order_any _ _).mono ?_); rintro e w' ⟨rfl, rfl⟩))
  go_ret
  exact ⟨by rw [He1.out]; rfl, Dr.refl _⟩
 ·have t1 : ((ps.length : Int) != (qs.length : Int)) = false := by rw [bne_eq_false_iff_eq]; omega
  have Heq := hi9 heq
  clear heq
  go_enter Tryz.func43, Tryz.ntmps43
  go_wp2_with (first
   | (go_at_call 37; (with_reducible refine (trim_any A c xs _ B hr hc hm).mono ?_); rintro e w' ⟨rfl, rfl⟩; rw [← Has.out])
   | (go_at_call 37; (with_reducible refine (trim_any A2 c2 ys _ B hr2 hc2 hm2).mono ?_); rintro e w' ⟨rfl, rfl⟩; rw [← Hbs.out])
   | (go_at_call 67; (with_reducible refine (order_any _ _).mono ?_); rintro e w' ⟨rfl, rfl⟩))
  go_loopw [5] (fun i wr => ∃ k : Nat, k ≤ ps.length ∧ i = .int .i64 ((k : Int) - 1) ∧ (∀ j (h : j < ps.length) (h2 : j < qs.length), k ≤ j → ps[j] = qs[j]) ∧ Dr w wr) (fun i _ => (intOf i + 1).toNat)
  case atStart => exact ⟨ps.length, Nat.le_refl _, rfl, fun j h _ hj => by omega, Dr.refl _⟩
  case round =>
   obtain ⟨k, hk, rfl, hs, hdr⟩ := hrel
   rcases k with _ | k
   ·go_wp2
    go_ret
    have e : ps = qs := List.ext_getElem Heq.out (fun j h1 h2 => hs j h1 h2 (Nat.zero_le _))
    have e2 : m = n := by rw [← hn1.2.2, ← hn2.2.2, e]
    exact ⟨by rw [e2]; simp [cmpN], hdr⟩
   ·have hk2 : k < qs.length := by have := Heq.out; omega
    obtain ⟨b, off, rfl, hb, hcell⟩ := hrt (by intro e; have := u32s_length ps; rw [e] at this; simp at this; omega)
    obtain ⟨b2, off2, rfl, hb2, hcell2⟩ := hrt2 (by intro e; have := u32s_length qs; rw [e] at this; simp at this; omega)
    have hx := hcell k _ (u32s_at (by omega))
    have hy := hcell2 k _ (u32s_at hk2)
    rw [show ((k + 1 : Nat) : Int) - 1 = (k : Int) from by omega]
    have hx := ((hdr.below B).cell (p := ⟨b, off + k, none⟩) hb).trans hx
    have hy := ((hdr.below B).cell (p := ⟨b2, off2 + k, none⟩) hb2).trans hy
    clear hcell hcell2 hr hr2 hrt hrt2
    rcases Nat.lt_trichotomy ps[k] qs[k] with hlt | he | hgt
    ·have hv : m < n := by
      rw [← hn1.2.2, ← hn2.2.2]
      exact val_cmp_top _ ps qs hn1.1 Heq.out k (by omega) (fun i h hki => hs i h (by have := Heq.out; omega) hki) hlt
     have e1 : cmpN m n = -1 := by simp [cmpN, hv]
     have He1 := hi9 e1
     have t2 : ((ps[k] : Int) != (qs[k] : Int)) = true := by rw [bne_iff_ne]; omega
     have t3 : decide (ps[k] < qs[k]) = true := by simp; omega
     clear e1 hv hs
     go_wp2
     go_quiet (fail)
     go_wp2
     go_quiet ((go_at_call 67; first | exact quietL (order_any _ _) | exact quietAddL (order_any _ _)))
     go_wp2
     go_ret
     exact ⟨by rw [He1.out]; rfl, by first | exact hdr.step _ | exact (hdr.step _).step _⟩
    ·have t2 : ((ps[k] : Int) != (qs[k] : Int)) = false := by rw [bne_eq_false_iff_eq]; omega
     have Hs : Hid (∀ j (h : j < ps.length) (h2 : j < qs.length), k ≤ j → ps[j] = qs[j]) := fun j h h2 hkj => by
      by_cases e : k = j
      ·subst e; exact he
      ·exact hs j h h2 (by omega)
     clear hs he
     go_wp2
     go_quiet (fail)
     go_wp2
     go_roundw
     case rel => exact ⟨k, by omega, by go_num, Hs.out, hdr.step _⟩
     case measure => simp [intOf]
    ·have hv : n < m := by
      rw [← hn1.2.2, ← hn2.2.2]
      exact val_cmp_top _ qs ps hn2.1 Heq.out.symm k hk2 (fun i h hki => (hs i (by have := Heq.out; omega) h hki).symm) hgt
     have e1 : cmpN m n = 1 := by simp [cmpN, hv]; omega
     have He1 := hi9 e1
     have t2 : ((ps[k] : Int) != (qs[k] : Int)) = true := by rw [bne_iff_ne]; omega
     have t3 : decide (ps[k] < qs[k]) = false := by simp; omega
     clear e1 hv hs
     go_wp2
     go_quiet (fail)
     go_wp2
     go_quiet ((go_at_call 67; first | exact quietL (order_any _ _) | exact quietAddL (order_any _ _)))
     go_wp2
     go_ret
     exact ⟨by rw [He1.out]; rfl, by first | exact hdr.step _ | exact (hdr.step _).step _⟩
 ·have hv : n < m := val_lt_len (by omega) hn2 hn1 hgt
  have e1 : cmpN m n = 1 := by simp [cmpN, hv]; omega
  have He1 := hi9 e1
  have t1 : ((ps.length : Int) != (qs.length : Int)) = true := by rw [bne_iff_ne]; omega
  clear e1 hv
  go_enter Tryz.func43, Tryz.ntmps43
  go_wp2_with (first
   | (go_at_call 37; (with_reducible refine (trim_any A c xs _ B hr hc hm).mono ?_); rintro e w' ⟨rfl, rfl⟩; rw [← Has.out])
   | (go_at_call 37; (with_reducible refine (trim_any A2 c2 ys _ B hr2 hc2 hm2).mono ?_); rintro e w' ⟨rfl, rfl⟩; rw [← Hbs.out])
   | (go_at_call 67; (with_reducible refine (order_any _ _).mono ?_); rintro e w' ⟨rfl, rfl⟩))
  go_ret
  exact ⟨by rw [He1.out]; rfl, Dr.refl _⟩
end
end Go.Proofs.YtcjgilagldbjnaaGreatDoor
