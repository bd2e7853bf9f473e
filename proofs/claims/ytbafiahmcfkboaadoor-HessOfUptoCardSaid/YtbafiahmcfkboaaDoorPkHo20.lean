/- The contract of begun. Conditions: bases reads 2, 7, 61; the sizes. The contract of Reduce. Conditions: bases reads 2, 7, 61; the sizes. The reference's Prime, Fits, Words, Same, Is of layer 21. Conditions: the sizes. The contract of made. Conditions: the entries come from a function that only draws. Plain numbers: lists of digits in a base, their value, normal lists. No conditions. A word's rest by a product with (2^64 - 1) / p, as zint.Mod takes it: less than 2 p is left. The contracts of trim and trimWords, and of what makes rows. -/
import Derived.Test.YtbafiahmcfkboaaDoorPkHo18
import Derived.Test.YtbafiahmcfkboaaDoorPkHo17
import Derived.Deep.CutBlock
import Derived.RegionTactic
import Derived.Deep.RegionHeld3
import Derived.Test.YtbafiahmcfkboaaDoorPkHo7
import Derived.Test.YtbafiahmcfkboaaDoorRows
namespace Go.Proofs.YtbafiahmcfkboaaDoor
section
open Go.RowKit

/-- An entry; nought where there is none. -/
def en (M : List (List Nat)) (i k : Nat) : Nat := (M.getD i []).getD k 0
/-- The error's number of a matrix and a prime; 0: it fits. -/
def Ft (p : Nat) (M : List (List Nat)) (k : Nat) : Prop := (k = 40 ∧ ¬ Pr p) ∨ (Pr p ∧ ((k = 2 ∧ ¬ Rect M) ∨ (Rect M ∧ ((k = 3 ∧ (M.length = 0 ∨ M.length ≠ cols M)) ∨ (0 < M.length ∧ M.length = cols M ∧ ((k = 4 ∧ 24 < M.length) ∨ (k = 0 ∧ M.length ≤ 24)))))))
theorem Ft.ex (p : Nat) (M : List (List Nat)) : ∃ k, Ft p M k := by
  by_cases h1 : Pr p
  · by_cases h2 : Rect M
    · by_cases h3 : M.length = 0 ∨ M.length ≠ cols M
      · exact ⟨3, .inr ⟨h1, .inr ⟨h2, .inl ⟨rfl, h3⟩⟩⟩⟩
      · have h4 : 0 < M.length ∧ M.length = cols M := by omega
        by_cases h5 : 24 < M.length
        · exact ⟨4, .inr ⟨h1, .inr ⟨h2, .inr ⟨h4.1, h4.2, .inl ⟨rfl, h5⟩⟩⟩⟩⟩
        · exact ⟨0, .inr ⟨h1, .inr ⟨h2, .inr ⟨h4.1, h4.2, .inr ⟨rfl, by omega⟩⟩⟩⟩⟩
    · exact ⟨2, .inr ⟨h1, .inl ⟨rfl, h2⟩⟩⟩
  · exact ⟨40, .inl ⟨rfl, h1⟩⟩
theorem Ft.unique {p : Nat} {M : List (List Nat)} {k l : Nat} (h : Ft p M k) (h2 : Ft p M l) : k = l := by
  rcases h with ⟨rfl, a⟩ | ⟨a, h⟩
  · rcases h2 with ⟨rfl, _⟩ | ⟨b, _⟩
    · rfl
    · exact absurd b a
  · rcases h2 with ⟨_, b⟩ | ⟨_, h2⟩
    · exact absurd a b
    · rcases h with ⟨rfl, c⟩ | ⟨c, h⟩
      · rcases h2 with ⟨rfl, _⟩ | ⟨d, _⟩
        · rfl
        · exact absurd d c
      · rcases h2 with ⟨_, d⟩ | ⟨_, h2⟩
        · exact absurd c d
        · omega
end
section
open Go.RowKit

theorem Ft.some {p : Nat} {M : List (List Nat)} (h : Ft p M 0) : Pr p ∧ Rect M ∧ 0 < M.length ∧ M.length = cols M ∧ M.length ≤ 24 := by
  rcases h with ⟨h, _⟩ | ⟨h1, ⟨h, _⟩ | ⟨h2, ⟨h, _⟩ | ⟨h3, h4, ⟨h, _⟩ | ⟨_, h5⟩⟩⟩⟩
  · omega
  · omega
  · omega
  · omega
  · exact ⟨h1, h2, h3, h4, h5⟩
theorem Lt.idN {p m n : Nat} (hp : 1 < p) : Lt p m n idN := fun a b _ _ => by unfold Go.Proofs.YtbafiahmcfkboaaDoor.idN; split <;> omega
/-- The transform begun. -/
theorem WS.up {w0 w2 : World} {B gw p n gs gr : Nat} {bs br : List Nat} {H S0 R0 : Mf} (hp : 1 < p) (h : WS w0 B gw p n false ⟨H, S0, R0⟩) (hB : B ≤ w0.heap.size) (hb : Below w0.heap.size w0 w2) (hs : Mt w2 gs bs n idN) (ls : bs.length = n) (hr : Mt w2 gr br n idN) (lr : br.length = n) {U : Nat} (hU : w0.heap.size ≤ U) (h1 : ∀ x ∈ gs :: bs, w0.heap.size ≤ x ∧ x < U) (h2 : ∀ x ∈ gr :: br, U ≤ x) :
    WS ((w2.setCell ⟨gw, 2, none⟩ (.slice (some ⟨gs, 0, none⟩) n n)).setCell ⟨gw, 3, none⟩ (.slice (some ⟨gr, 0, none⟩) n n)) B gw p n true ⟨H, idN, idN⟩ := by
  obtain ⟨gh, gs0, gr0, bh, bs0, br0, h⟩ := h
  have hgw := h.blk.lt
  have hlt : ∀ x ∈ gh :: bh, x < w0.heap.size := fun x hx => h.h.lt x (by simpa using hx)
  have far : ∀ {g2 n2 : Nat} {b2 : List Nat} {E2 : Mf}, Mt w2 g2 b2 n2 E2 → gw ∉ g2 :: b2 → Mt ((w2.setCell ⟨gw, 2, none⟩ (.slice (some ⟨gs, 0, none⟩) n n)).setCell ⟨gw, 3, none⟩ (.slice (some ⟨gr, 0, none⟩) n n)) g2 b2 n2 E2 := fun h2 hn =>
    h2.md (L := [gw]) (((Md.refl _ _).setCell List.mem_cons_self _ _).setCell List.mem_cons_self _ _) fun k hk e => hn (by rw [List.mem_singleton.1 e] at hk; simpa using hk)
  have n1 : gw ∉ gs :: bs := fun hm => by have := (h1 _ hm).1; omega
  have n2 : gw ∉ gr :: br := fun hm => by have := h2 _ hm; omega
  refine ⟨gh, gs, gr, bh, bs, br, ?_, far (h.h.below hb) h.d1, h.hl, .inr ⟨rfl, far hs n1⟩, ls, .inr ⟨rfl, far hr n2⟩, lr, h.low, h.loh, fun x hx => ?_, fun x hx => ?_, h.d1, n1, n2, fun x hx hm => ?_, fun x hx hm => ?_, fun x hx hm => ?_, h.bH, .idN hp, .idN hp⟩
  · have hk := ((h.blk.below hb hgw).set_ 2 (.slice (some ⟨gs, 0, none⟩) n n)).set_ 3 (.slice (some ⟨gr, 0, none⟩) n n)
    exact hk
  · have := (h1 x hx).1; omega
  · have := h2 x hx; omega
  · have := hlt x hx; have := (h1 x hm).1; omega
  · have := hlt x hx; have := h2 x hm; omega
  · have := (h1 x hx).2; have := h2 x hm; omega
end
section
open Go.RowKit

set_option maxHeartbeats 1600000 in
theorem rprime_any (p : Nat) (b : Bool) (hb : b = true ↔ Pr p) (hp : p < 4294967296) (w : World) :
    Calls Tryd.prog 20 #[.int .u32 (p : Int)] w fun e w' => e = .returned (.bool b) ∧ w = w' := by
  have Hb := Lib.hid hb
  clear hb
  by_cases h2 : p < 2
  · have hbf : b = false := by
      cases b
      · rfl
      · have := (Hb.out.1 rfl).two; omega
    subst hbf
    go_enter Tryd.func20, Tryd.ntmps20
    go_wp2
    go_ret
    exact ⟨rfl, rfl⟩
  · go_enter Tryd.func20, Tryd.ntmps20
    go_wp2
    go_loop [3] (fun v => ∃ d : Nat, v = .int .u64 (d : Int) ∧ 2 ≤ d ∧ d ≤ 65537 ∧ Hid (NoDiv p d)) (fun v => 65538 - (intOf v).toNat)
    case atStart => exact ⟨2, rfl, by omega, by omega, NoDiv.two p⟩
    case round =>
      obtain ⟨d, rfl, hd2, hd, hno⟩ := hrel
      obtain ⟨s, hs⟩ : ∃ s, s = d * d := ⟨_, rfl⟩
      have hsl : s ≤ 65537 * 65537 := by rw [hs]; exact Nat.mul_le_mul hd hd
      have t1 : (d : Int) * (d : Int) = (s : Int) := by rw [hs]; simp
      have Hs := Lib.hid hs
      clear hs
      by_cases hsp : s ≤ p
      · have hdp : d < p := by
          have h := Hs.out
          rcases Nat.lt_or_ge d p with h3 | h3
          · exact h3
          · have h4 := Nat.mul_le_mul_left d hd2
            omega
        have hd3 : d ≤ 65536 := by
          rcases Nat.lt_or_ge 65536 d with h3 | h3
          · obtain rfl : d = 65537 := by omega
            have := Hs.out
            omega
          · exact h3
        have t3 : ((d : Int) == 0) = false := by simp; omega
        by_cases h0 : p % d = 0
        · have t2 : (p : Int) % (d : Int) = 0 := by rw [show (p : Int) % (d : Int) = ((p % d : Nat) : Int) from by simp, h0]; rfl
          have hbf : b = false := by
            cases b
            · rfl
            · exact absurd h0 ((Hb.out.1 rfl).none d hd2 hdp)
          subst hbf
          clear h0
          go_wp2
          go_ret
          exact ⟨rfl, rfl⟩
        · obtain ⟨r, hr⟩ : ∃ r, r = p % d := ⟨_, rfl⟩
          have t2 : (p : Int) % (d : Int) = (r : Int) := by rw [hr]; simp
          have t4 : ((r : Int) == 0) = false := by simp; omega
          have hno2 : Hid (NoDiv p (d + 1)) := hno.out.succ h0
          clear h0 hr
          go_wp2
          go_round
          case rel => exact ⟨d + 1, by go_num, by omega, by omega, hno2⟩
          case measure => simp [intOf]; omega
      · have hbt : b = true := Hb.out.2 (pr_iff_least.2 (hno.out.ends (by have := Hs.out; omega) (by omega)))
        subst hbt
        go_wp2
        go_ret
        exact ⟨rfl, rfl⟩
end
section
open Go.RowKit

/-- A matrix by its entries. -/
def mtab (r c : Nat) (E : Nat → Nat → Nat) : List (List Nat) := (List.range r).map fun i => (List.range c).map (E i)
theorem mtab_length (r c : Nat) (E : Nat → Nat → Nat) : (mtab r c E).length = r := by simp [mtab]
theorem mtab_at {r c : Nat} {E : Nat → Nat → Nat} {i : Nat} (h : i < (mtab r c E).length) : (mtab r c E)[i] = (List.range c).map (E i) := by simp [mtab]
end
section
/-- The value of a list of digits in base b, the lowest first. -/
def val (b : Nat) : List Nat → Nat
  | [] => 0
  | x :: xs => x + b * val b xs

def Dig (b : Nat) (xs : List Nat) : Prop := ∀ x ∈ xs, x < b

theorem Dig.nil_ (b : Nat) : Dig b [] := fun _ h => by cases h
theorem Dig.cons_ {b x : Nat} {xs : List Nat} (h : x < b) (hs : Dig b xs) : Dig b (x :: xs) := fun y hy => by
  rcases List.mem_cons.1 hy with rfl | hy
  · exact h
  · exact hs y hy
theorem Dig.tail_ {b x : Nat} {xs : List Nat} (h : Dig b (x :: xs)) : Dig b xs := fun y hy => h y (List.mem_cons_of_mem _ hy)
theorem Dig.head_ {b x : Nat} {xs : List Nat} (h : Dig b (x :: xs)) : x < b := h x (List.mem_cons_self)
theorem Dig.at_ {b : Nat} {xs : List Nat} (h : Dig b xs) (k : Nat) (hk : k < xs.length) : xs[k] < b := h _ (List.getElem_mem hk)
theorem Dig.append_ {b : Nat} {xs ys : List Nat} (h : Dig b xs) (k : Dig b ys) : Dig b (xs ++ ys) := fun y hy => by
  rcases List.mem_append.1 hy with hy | hy
  · exact h y hy
  · exact k y hy
theorem Dig.take_ {b : Nat} {xs : List Nat} (h : Dig b xs) (n : Nat) : Dig b (xs.take n) := fun y hy => h y (List.mem_of_mem_take hy)
theorem Dig.drop_ {b : Nat} {xs : List Nat} (h : Dig b xs) (n : Nat) : Dig b (xs.drop n) := fun y hy => h y (List.mem_of_mem_drop hy)
theorem Dig.trim_ {b : Nat} {xs : List Nat} (h : Dig b xs) : Dig b (trimL xs) := by rw [← trimL_take]; exact h.take_ _
theorem Dig.zeros_ {b : Nat} (hb : 0 < b) (n : Nat) : Dig b (List.replicate n 0) := fun y hy => by rw [(List.mem_replicate.1 hy).2]; exact hb
theorem Dig.set_ {b : Nat} {xs : List Nat} (h : Dig b xs) (k x : Nat) (hx : x < b) : Dig b (xs.set k x) := fun y hy => by
  rcases List.mem_or_eq_of_mem_set hy with hy | rfl
  · exact h y hy
  · exact hx

theorem val_append (b : Nat) (xs ys : List Nat) : val b (xs ++ ys) = val b xs + b ^ xs.length * val b ys := by
  induction xs with
  | nil => simp [val]
  | cons x xs ih =>
    simp only [List.cons_append, val, ih, List.length_cons, Nat.pow_succ]
    rw [Nat.mul_add, Nat.mul_comm (b ^ xs.length) b, Nat.mul_assoc]; omega
theorem val_snoc (b : Nat) (xs : List Nat) (x : Nat) : val b (xs ++ [x]) = val b xs + b ^ xs.length * x := by
  rw [val_append]; simp [val]
theorem val_zeros (b n : Nat) : val b (List.replicate n 0) = 0 := by
  induction n with
  | zero => rfl
  | succ n ih => simp [List.replicate_succ, val, ih]
theorem val_lt (b : Nat) (xs : List Nat) (h : Dig b xs) : val b xs < b ^ xs.length := by
  induction xs with
  | nil => simp [val]
  | cons x xs ih =>
    have h1 := ih h.tail_
    have h2 := h.head_
    simp only [val, List.length_cons, Nat.pow_succ]
    have h3 : b * (val b xs + 1) ≤ b * b ^ xs.length := Nat.mul_le_mul_left _ h1
    rw [Nat.mul_comm (b ^ xs.length) b]
    rw [Nat.mul_add] at h3; omega
theorem val_set (b : Nat) (xs : List Nat) (i v : Nat) (h : i < xs.length) : val b (xs.set i v) + b ^ i * xs[i] = val b xs + b ^ i * v := by
  induction xs generalizing i with
  | nil => simp at h
  | cons x xs ih =>
    cases i with
    | zero => simp [val]; omega
    | succ i =>
      have := ih i (by simpa using h)
      simp only [List.set_cons_succ, val, List.getElem_cons_succ, Nat.pow_succ]
      have e := congrArg (b * ·) this
      simp only [Nat.mul_add] at e
      rw [Nat.mul_comm (b ^ i) b, Nat.mul_assoc, Nat.mul_assoc]
      omega
theorem val_take_succ (b : Nat) (xs : List Nat) (k : Nat) (h : k < xs.length) : val b (xs.take (k + 1)) = val b (xs.take k) + b ^ k * xs[k] := by
  rw [List.take_succ_eq_append_getElem h, val_snoc, List.length_take, Nat.min_eq_left (by omega)]
theorem val_trim (b : Nat) (xs : List Nat) : val b (trimL xs) = val b xs := by
  induction xs with
  | nil => rfl
  | cons x xs ih =>
    simp only [trimL]
    split
    · rename_i e
      rw [e] at ih
      simp only [val] at ih
      split
      · rename_i h0; subst h0; simp [val, ← ih]
      · simp [val, ← ih]
    · rename_i y ys e
      rw [e] at ih
      simp only [val] at ih ⊢; rw [ih]
theorem trimL_idem (xs : List Nat) : trimL (trimL xs) = trimL xs := by
  induction xs with
  | nil => rfl
  | cons x xs ih =>
    have e0 : trimL (x :: xs) = match trimL xs with
      | [] => if x = 0 then [] else [x]
      | y :: ys => x :: y :: ys := rfl
    rw [e0]
    cases e : trimL xs with
    | nil =>
      simp only []
      by_cases h : x = 0
      · simp [h, trimL]
      · simp [h, trimL]
    | cons y ys =>
      rw [e] at ih
      show trimL (x :: y :: ys) = x :: y :: ys
      have : trimL (x :: y :: ys) = match trimL (y :: ys) with
        | [] => if x = 0 then [] else [x]
        | y :: ys => x :: y :: ys := rfl
      rw [this, ih]

/-- zs is the normal list of digits of n. -/
def Num (b : Nat) (zs : List Nat) (n : Nat) : Prop := Dig b zs ∧ trimL zs = zs ∧ val b zs = n

theorem Num.of_trim {b : Nat} {xs : List Nat} (h : Dig b xs) : Num b (trimL xs) (val b xs) := ⟨h.trim_, trimL_idem _, val_trim _ _⟩

theorem trimL_nil_of_val {b : Nat} (hb : 0 < b) {xs : List Nat} (h : val b xs = 0) : trimL xs = [] := by
  induction xs with
  | nil => rfl
  | cons x xs ih =>
    simp only [val] at h
    have h1 : b * val b xs = 0 := by omega
    rcases Nat.mul_eq_zero.1 h1 with h1 | h1
    · omega
    · have hx : x = 0 := by omega
      simp only [trimL, ih h1, hx, if_true]
theorem trimL_unique {b : Nat} (hb : 0 < b) {xs ys : List Nat} (hx : Dig b xs) (hy : Dig b ys) (h : val b xs = val b ys) : trimL xs = trimL ys := by
  induction xs generalizing ys with
  | nil => rw [trimL_nil_of_val hb (xs := ys) (by rw [← h]; rfl)]; rfl
  | cons x xs ih =>
    cases ys with
    | nil => rw [trimL_nil_of_val hb (xs := x :: xs) (by rw [h]; rfl)]; rfl
    | cons y ys =>
      simp only [val] at h
      have hx1 := hx.head_
      have hy1 := hy.head_
      have e1 : x = y := by
        have a : (x + b * val b xs) % b = x := by rw [Nat.add_mul_mod_self_left, Nat.mod_eq_of_lt hx1]
        have c : (y + b * val b ys) % b = y := by rw [Nat.add_mul_mod_self_left, Nat.mod_eq_of_lt hy1]
        rw [← a, ← c, h]
      subst e1
      have e2 : val b xs = val b ys := Nat.eq_of_mul_eq_mul_left hb (by omega)
      simp only [trimL, ih hx.tail_ hy.tail_ e2]
theorem Num.unique {b : Nat} (hb : 0 < b) {xs ys : List Nat} {n : Nat} (h : Num b xs n) (k : Num b ys n) : xs = ys := by
  rw [← h.2.1, ← k.2.1]; exact trimL_unique hb h.1 k.1 (h.2.2.trans k.2.2.symm)
theorem Num.zero_ (b : Nat) : Num b [] 0 := ⟨Dig.nil_ b, rfl, rfl⟩
theorem Num.nil_iff {b : Nat} (hb : 0 < b) {zs : List Nat} {n : Nat} (h : Num b zs n) : zs = [] ↔ n = 0 := by
  constructor
  · rintro rfl; exact h.2.2.symm
  · intro e; subst e; exact Num.unique hb h (Num.zero_ b)
theorem trimL_last {xs : List Nat} (h : trimL xs = xs) (hn : xs ≠ []) : xs[xs.length - 1]'(by cases xs with | nil => exact absurd rfl hn | cons _ _ => simp) ≠ 0 := by
  have hl : 0 < xs.length := by cases xs with | nil => exact absurd rfl hn | cons _ _ => simp
  intro h0
  have e : xs = xs.take (xs.length - 1) ++ [xs[xs.length - 1]] := by
    rw [← List.take_succ_eq_append_getElem (by omega), show xs.length - 1 + 1 = xs.length from by omega, List.take_length]
  rw [h0] at e
  have : trimL xs = trimL (xs.take (xs.length - 1)) := by
    conv => lhs; rw [e]
    rw [trimL_snoc_zero]
  have hle := trimL_length_le (xs.take (xs.length - 1))
  rw [← this, h, List.length_take] at hle
  omega
theorem Num.ge {b : Nat} {zs : List Nat} {n : Nat} (h : Num b zs n) (hn : zs ≠ []) : b ^ (zs.length - 1) ≤ n := by
  have hl : 0 < zs.length := by cases zs with | nil => exact absurd rfl hn | cons _ _ => simp
  have h0 := trimL_last h.2.1 hn
  have e : zs = zs.take (zs.length - 1) ++ [zs[zs.length - 1]] := by
    rw [← List.take_succ_eq_append_getElem (by omega), show zs.length - 1 + 1 = zs.length from by omega, List.take_length]
  rw [← h.2.2]
  conv => rhs; rw [e]
  rw [val_snoc, List.length_take, Nat.min_eq_left (by omega)]
  have : b ^ (zs.length - 1) * 1 ≤ b ^ (zs.length - 1) * zs[zs.length - 1] := Nat.mul_le_mul_left _ (by omega)
  omega
theorem Num.lt {b : Nat} {zs : List Nat} {n : Nat} (h : Num b zs n) : n < b ^ zs.length := by rw [← h.2.2]; exact val_lt b zs h.1
end
section
theorem mod_near {x p o q : Nat} (hx : x < 18446744073709551616) (hp : 0 < p) (ho : o = 18446744073709551615 / p) (hq : q = x * o / 18446744073709551616) :
    q * p ≤ x ∧ x < q * p + 2 * p := by
  have h1 : o * p ≤ 18446744073709551615 := by rw [ho]; exact Nat.div_mul_le_self _ _
  have h2 : 18446744073709551615 < o * p + p := by rw [ho]; exact Nat.lt_div_mul_add hp
  have h3 : q * 18446744073709551616 ≤ x * o := by rw [hq]; exact Nat.div_mul_le_self _ _
  have h4 : x * o < q * 18446744073709551616 + 18446744073709551616 := by rw [hq]; exact Nat.lt_div_mul_add (by decide)
  have e1 := Nat.mul_le_mul_right p h3
  have e2 := (Nat.mul_lt_mul_right hp).2 h4
  have e3 := Nat.mul_le_mul_left x h1
  have e4 := Nat.mul_le_mul_left x (show 18446744073709551616 ≤ o * p + p from h2)
  have e5 := (Nat.mul_lt_mul_right hp).2 hx
  rw [Nat.mul_right_comm, Nat.mul_assoc x o p] at e1
  rw [Nat.add_mul, Nat.mul_right_comm q, Nat.mul_assoc x o p] at e2
  rw [Nat.mul_add] at e4
  generalize x * (o * p) = X at e1 e2 e3 e4
  generalize q * p = Y at e1 e2
  generalize x * p = Z at e4 e5
  omega

theorem mod_rest {x p o q : Nat} (hx : x < 18446744073709551616) (hp : 0 < p) (ho : o = 18446744073709551615 / p) (hq : q = x * o / 18446744073709551616) :
    (x - q * p < p → x - q * p = x % p) ∧ (p ≤ x - q * p → x - q * p - p = x % p ∧ x - q * p - p < p) := by
  obtain ⟨a, b⟩ := mod_near hx hp ho hq
  have s : (x - q * p) % p = x % p := by
    rw [Nat.mul_comm q p] at a ⊢
    exact Nat.sub_mul_mod a
  refine ⟨fun h => by rw [← s, Nat.mod_eq_of_lt h], fun h => ?_⟩
  have l : x - q * p - p < p := by omega
  exact ⟨by rw [← s, Nat.mod_eq_sub_mod h, Nat.mod_eq_of_lt l], l⟩

theorem mod_digit (v d p W : Nat) : ((v % p) * W + d) % p = (d + W * v) % p := by
  rw [Nat.add_comm d, Nat.mul_comm W, Nat.add_mod, Nat.mul_mod, Nat.mod_mod, ← Nat.mul_mod, ← Nat.add_mod]
end
section
open Go.RowKit

theorem trimL_take_zero (xs : List Nat) (m : Nat) (h : m < xs.length) (h0 : xs[m] = 0) : trimL (xs.take (m + 1)) = trimL (xs.take m) := by
  rw [List.take_succ_eq_append_getElem h, h0, trimL_snoc_zero]
theorem trimL_take_pos (xs : List Nat) (m : Nat) (h : m < xs.length) (h0 : xs[m] ≠ 0) : (trimL (xs.take (m + 1))).length = m + 1 := by
  rw [List.take_succ_eq_append_getElem h, trimL_snoc_pos _ _ h0]; simp; omega

/-- What a call hands back: a slice at the head of a row of its own, from block B on, whose first cells are vs. -/
def Res9z (w : World) (B : Nat) (t : TypeId) (A : Option Addr) (c : Nat) (vs : List Value) : Prop :=
  vs.length ≤ c ∧ c ≤ 281474976710656 ∧ (vs ≠ [] → ∃ g rest, A = some ⟨g, 0, none⟩ ∧ B ≤ g ∧ Blk w g t (vs ++ rest) ∧ vs.length + rest.length = c)

section
variable {w w' : World} {B B' : Nat} {t : TypeId} {A : Option Addr} {c : Nat} {vs : List Value}
theorem Res9z.rd (h : Res9z w B t A c vs) : Rd w w.heap.size A vs := fun hn => by
  obtain ⟨g, rest, rfl, _, hb, _⟩ := h.2.2 hn
  exact Rd.of_blk hb hb.lt 0 (fun k v hv => by
    rw [Nat.zero_add, List.getElem?_append_left (List.getElem?_eq_some_iff.1 hv).1]; exact hv) hn
theorem Res9z.none_ : Res9z w B t none 0 [] := ⟨by simp, by omega, fun h => absurd rfl h⟩
theorem Res9z.below (h : Res9z w B t A c vs) (hb : Below B' w w') (hB : w.heap.size ≤ B') : Res9z w' B t A c vs := ⟨h.1, h.2.1, fun hn => by
  obtain ⟨g, rest, e, hg, hk, hc⟩ := h.2.2 hn
  exact ⟨g, rest, e, hg, hk.below hb (by have := hk.lt; omega), hc⟩⟩
theorem Res9z.mono (h : Res9z w B t A c vs) (hB : B' ≤ B) : Res9z w B' t A c vs := ⟨h.1, h.2.1, fun hn => by
  obtain ⟨g, rest, e, hg, hk, hc⟩ := h.2.2 hn
  exact ⟨g, rest, e, by omega, hk, hc⟩⟩
theorem Res9z.take (h : Res9z w B t A c vs) (n : Nat) : Res9z w B t A c (vs.take n) := ⟨by rw [List.length_take]; have := h.1; omega, h.2.1, fun hn => by
  obtain ⟨g, rest, e, hg, hk, hc⟩ := h.2.2 (by rintro rfl; simp at hn)
  exact ⟨g, vs.drop n ++ rest, e, hg, by rw [← List.append_assoc, List.take_append_drop]; exact hk, by rw [List.length_append, List.length_take, List.length_drop]; omega⟩⟩
theorem Res9z.of_blk {g : Nat} {rest : List Value} (h : Blk w g t (vs ++ rest)) (hg : B ≤ g) (hc : vs.length + rest.length = c) (hm : c ≤ 281474976710656) : Res9z w B t (some ⟨g, 0, none⟩) c vs :=
  ⟨by omega, hm, fun _ => ⟨g, rest, rfl, hg, h, hc⟩⟩
theorem Res9z.of_blk0 {g : Nat} (h : Blk w g t vs) (hg : B ≤ g) (hm : vs.length ≤ 281474976710656) : Res9z w B t (some ⟨g, 0, none⟩) vs.length vs :=
  Res9z.of_blk (rest := []) (by simpa using h) hg (by simp) hm
end

theorem u32s_trim (xs : List Nat) : u32s (trimL xs) = (u32s xs).take (trimL xs).length := by
  unfold u32s; rw [← List.map_take, trimL_take]
theorem u64s_trim (xs : List Nat) : u64s (trimL xs) = (u64s xs).take (trimL xs).length := by
  unfold u64s; rw [← List.map_take, trimL_take]

theorem made_one9z (z : Value) (n : Nat) (hz : z.cells = #[z]) : madeCells z.cells (n * 1) = (List.replicate n z).toArray := by
  rw [hz, Nat.mul_one]
  apply Array.ext'
  simp only [madeCells, List.size_toArray, List.length_singleton, Nat.mod_one]
  simp [Array.toList_map, List.map_const']

theorem Tryd.info329z : (Tryd.prog.info? 24).map (fun i => (i.zero, i.size, i.bytes)) = some (some (.int .u32 0), 1, 4) := by kernel_rfl
theorem mk32 (n : Nat) (h : n ≤ 70368744177664) (w : World) : (Instr.makeSlice 49 (.int .i64 (n : Int)) (.int .i64 (n : Int))).run Tryd.prog w = .ok (.slice (some ⟨w.heap.size, 0, none⟩) n n) (w.alloc (.cells (List.replicate n (Value.int .u32 0)).toArray 24)) := by
  obtain ⟨i0, hi, hz0, hz1, hz2⟩ := info_parts Tryd.info329z
  have hr := run_make (P := Tryd.prog) w 49 24 i0 (.int .u32 0) Tryd.underlying49 hi hz0 .i64 .i64 n n (by omega) (by omega) (by rw [hz2]; omega) (by omega)
  rw [hz1, Int.toNat_natCast, made_one9z _ _ rfl] at hr
  exact hr
end
end Go.Proofs.YtbafiahmcfkboaaDoor
