/- Words for memory that the walks of this seat share: a block known whole, a slice that reads as a list. No conditions. The contracts of prime's times and power: a b modulo p; a^e modulo p. Conditions: p above 0 (times), above 1 (power). Numbers: primes, Fermat's little theorem, orders. No conditions. Orders of numbers modulo a prime, and what a number that passes for a prime says of its divisors. No conditions. -/
import Derived.WalkKit
import Derived.WalkSpells
import Derived.Deep.Draws
import Derived.Lib.Hide
import Derived.Test.YtcopkeccogpkmaaDoorRows
namespace Go.Proofs.YtcopkeccogpkmaaDoor
section
open Go.RowKit

/-- Block g holds just these cells, of element type t, none frozen. -/
def Blk (w : World) (g : Nat) (t : TypeId) (vs : List Value) : Prop := w.heap[g]? = some (.cells vs.toArray t (0, 0))

/-- A slice's place reads as these values, and lies below block B. -/
def Rd (w : World) (B : Nat) (A : Option Addr) (vs : List Value) : Prop :=
  vs ≠ [] → ∃ b off, A = some ⟨b, off, none⟩ ∧ b < B ∧ ∀ k v, vs[k]? = some v → w.cell? ⟨b, off + k, none⟩ = some v

def u32s (xs : List Nat) : List Value := xs.map fun x : Nat => Value.int .u32 (x : Int)
theorem u32s_length (xs : List Nat) : (u32s xs).length = xs.length := by simp [u32s]
theorem u32s_at {xs : List Nat} {k : Nat} (h : k < xs.length) : (u32s xs)[k]? = some (.int .u32 (xs[k] : Nat)) := by simp [u32s, List.getElem?_eq_getElem h]
theorem Blk.lt {w : World} {g : Nat} {t : TypeId} {vs : List Value} (h : Blk w g t vs) : g < w.heap.size := by
  rcases Nat.lt_or_ge g w.heap.size with hlt | hge
  · exact hlt
  · unfold Blk at h; rw [Array.getElem?_eq_none hge] at h; cases h
theorem Blk.cell {w : World} {g : Nat} {t : TypeId} {vs : List Value} (h : Blk w g t vs) (i : Nat) : w.cell? ⟨g, i, none⟩ = vs[i]? := by
  unfold Blk at h
  simp [World.cell?, h]
theorem Blk.frozen {w : World} {g : Nat} {t : TypeId} {vs : List Value} (h : Blk w g t vs) (i : Nat) : w.frozen? ⟨g, i, none⟩ = false := by
  unfold Blk at h
  simp [World.frozen?, h]
theorem Blk.heapAlloc {w : World} {g : Nat} {t : TypeId} {vs : List Value} (h : Blk w g t vs) (o : Obj) : Blk (w.alloc o) g t vs := (Below.heap_alloc w o g h.lt).trans h
theorem Blk.drewN {w : World} {g : Nat} {t : TypeId} {vs : List Value} (h : Blk w g t vs) (n : Nat) : Blk (w.drewN n) g t vs := h
theorem Blk.drew {w : World} {g : Nat} {t : TypeId} {vs : List Value} (h : Blk w g t vs) : Blk w.drew g t vs := h
theorem Blk.new (w : World) (t : TypeId) (vs : List Value) : Blk (w.alloc (.cells vs.toArray t (0, 0))) w.heap.size t vs := by
  unfold Blk World.alloc
  simp
theorem Blk.new_ {w : World} {t : TypeId} {cs : Array Value} {vs : List Value} (e : cs = vs.toArray) : Blk (w.alloc (.cells cs t (0, 0))) w.heap.size t vs := by
  subst e; exact Blk.new w t vs
theorem Blk.set_ {w : World} {g : Nat} {t : TypeId} {vs : List Value} (h : Blk w g t vs) (i : Nat) (u : Value) : Blk (w.setCell ⟨g, i, none⟩ u) g t (vs.set i u) := by
  unfold Blk at h ⊢
  simp [World.setCell, Array.getElem?_modify, h]
theorem Blk.far {w : World} {g : Nat} {t : TypeId} {vs : List Value} (h : Blk w g t vs) {p : Addr} (hp : g ≠ p.block) (u : Value) : Blk (w.setCell p u) g t vs := (Below.heap_setCell w p u g hp).trans h
theorem Blk.below {w w' : World} {g B : Nat} {t : TypeId} {vs : List Value} (h : Blk w g t vs) (hb : Below B w w') (hg : g < B) : Blk w' g t vs := (hb.block g hg).trans h

section
variable {w w' : World} {B B' : Nat} {A : Option Addr} {vs : List Value}
theorem Rd.nil_ : Rd w B A [] := fun h => absurd rfl h
theorem Rd.mono (h : Rd w B A vs) (hB : B ≤ B') : Rd w B' A vs := fun hn => by
  obtain ⟨b, off, e, hb, hc⟩ := h hn
  exact ⟨b, off, e, by omega, hc⟩
theorem Rd.keep (h : Rd w B A vs) (hk : ∀ p : Addr, p.block < B → w'.cell? p = w.cell? p) : Rd w' B A vs := fun hn => by
  obtain ⟨b, off, e, hb, hc⟩ := h hn
  exact ⟨b, off, e, hb, fun k v hv => (hk _ hb).trans (hc k v hv)⟩
theorem Rd.below (h : Rd w B A vs) (hb : Below B w w') : Rd w' B A vs := h.keep fun _ hp => hb.cell hp
theorem Rd.take (h : Rd w B A vs) (n : Nat) : Rd w B A (vs.take n) := fun hn => by
  obtain ⟨b, off, e, hb, hc⟩ := h (by rintro rfl; simp at hn)
  exact ⟨b, off, e, hb, fun k v hv => hc k v (by
    rw [List.getElem?_take] at hv
    split at hv
    · exact hv
    · cases hv)⟩
end

/-- Block g alone has turned. -/
structure Ch (g : Nat) (w w' : World) : Prop where
  os : w'.os = w.os
  tape : w'.tape = w.tape
  output : w'.output = w.output
  size : w'.heap.size = w.heap.size
  block : ∀ k, k ≠ g → w'.heap[k]? = w.heap[k]?
theorem Ch.refl (g : Nat) (w : World) : Ch g w w := ⟨rfl, rfl, rfl, rfl, fun _ _ => rfl⟩
theorem Ch.trans {g : Nat} {a b c : World} (h : Ch g a b) (k : Ch g b c) : Ch g a c :=
  ⟨k.os.trans h.os, k.tape.trans h.tape, k.output.trans h.output, k.size.trans h.size, fun i hi => (k.block i hi).trans (h.block i hi)⟩
theorem Ch.drewN {g : Nat} {a w : World} (h : Ch g a w) (n : Nat) : Ch g a (w.drewN n) := ⟨h.os, h.tape, h.output, h.size, h.block⟩
theorem Ch.drew {g : Nat} {a w : World} (h : Ch g a w) : Ch g a w.drew := ⟨h.os, h.tape, h.output, h.size, h.block⟩
theorem Ch.setCell {g : Nat} {a w : World} (h : Ch g a w) (i : Nat) (u : Value) : Ch g a (w.setCell ⟨g, i, none⟩ u) :=
  h.trans ⟨rfl, rfl, rfl, by simp [World.setCell], fun k hk => Below.heap_setCell _ _ _ _ hk⟩
theorem Ch.below {g B : Nat} {w w' : World} (h : Ch g w w') (hB : B ≤ g) : Below B w w' := ⟨h.os, h.tape, h.output, Nat.le_of_eq h.size.symm, fun k hk => h.block k (by omega)⟩
theorem Blk.ch {w w' : World} {g h : Nat} {t : TypeId} {vs : List Value} (hb : Blk w g t vs) (hc : Ch h w w') (hne : g ≠ h) : Blk w' g t vs := (hc.block g hne).trans hb
theorem Rd.ch {w w' : World} {B g : Nat} {A : Option Addr} {vs : List Value} (h : Rd w B A vs) (hc : Ch g w w') (hB : B ≤ g) : Rd w' B A vs := h.below (hc.below hB)
/-- Only draws lie between the two worlds. -/
def Dr (w w' : World) : Prop := ∃ n, w' = w.drewN n
theorem Dr.refl (w : World) : Dr w w := ⟨0, rfl⟩
theorem Dr.step {w w' : World} (h : Dr w w') (n : Nat) : Dr w (w'.drewN n) := by
  obtain ⟨k, rfl⟩ := h
  exact ⟨k + n, World.drewN_drewN ..⟩
theorem Dr.drew {w w' : World} (h : Dr w w') : Dr w w'.drew := h.step 1
theorem Dr.trans {a b c : World} (h : Dr a b) (k : Dr b c) : Dr a c := by
  obtain ⟨n, rfl⟩ := k
  exact h.step n
theorem Dr.below {w w' : World} (h : Dr w w') (B : Nat) : Below B w w' := by
  obtain ⟨k, rfl⟩ := h
  exact ⟨rfl, rfl, rfl, Nat.le_refl _, fun _ _ => rfl⟩
theorem Dr.heap {w w' : World} (h : Dr w w') : w'.heap = w.heap := by
  obtain ⟨k, rfl⟩ := h
  rfl
end
section
open Go.RowKit

set_option maxHeartbeats 400000 in
theorem times_any (a b p : Nat) (w : World) (ha : a < 4294967296) (hb : b < 4294967296) (hp : p < 4294967296) (hp0 : 0 < p) :
    Calls Tryd.prog 36 #[.int .u32 (a : Int), .int .u32 (b : Int), .int .u32 (p : Int)] w fun e w' => e = .returned (.int .u32 ((a * b % p : Nat) : Int)) ∧ w' = w := by
  have hab : a * b ≤ 4294967295 * 4294967295 := Nat.mul_le_mul (by omega) (by omega)
  have hm : a * b % p < p := Nat.mod_lt _ hp0
  obtain ⟨m, hme⟩ : ∃ m, m = a * b := ⟨_, rfl⟩
  have t1 : IntKind.u64.wrap ((a : Int) * (b : Int)) = (m : Int) := by
    rw [IntKind.wrap_u64, ← Int.natCast_mul, ← hme]; omega
  have t2 : ((p : Int) == 0) = false := by simp; omega
  have t3 : IntKind.u32.wrap ((m : Int) % (p : Int)) = ((m % p : Nat) : Int) := by
    rw [IntKind.wrap_u32, hme]; omega
  rw [← hme]
  clear hme
  go_enter Tryd.func36, Tryd.ntmps36
  go_wp2
  go_ret
  exact ⟨by simp, rfl⟩

theorem pow_half (a e p : Nat) : a ^ e % p = (if e % 2 = 1 then ((a ^ (e / 2) % p) * (a ^ (e / 2) % p) % p) * a % p else (a ^ (e / 2) % p) * (a ^ (e / 2) % p) % p) := by
  have h : a ^ (e / 2) * a ^ (e / 2) = a ^ (e / 2 + e / 2) := (Nat.pow_add a _ _).symm
  by_cases hc : e % 2 = 1
  · rw [if_pos hc, ← Nat.mul_mod, h, Nat.mod_mul_mod, ← Nat.pow_succ, show (e / 2 + e / 2).succ = e from by omega]
  · rw [if_neg hc, ← Nat.mul_mod, h, show e / 2 + e / 2 = e from by omega]

set_option maxHeartbeats 400000 in
theorem power_any (a p : Nat) (ha : a < 4294967296) (hp : p < 4294967296) (hp1 : 1 < p) : ∀ (k e : Nat), e < 2 ^ k → e < 18446744073709551616 → ∀ w : World,
    Calls Tryd.prog 38 #[.int .u32 (a : Int), .int .u64 (e : Int), .int .u32 (p : Int)] w fun r w' => r = .returned (.int .u32 ((a ^ e % p : Nat) : Int)) ∧ w' = w := by
  intro k
  induction k with
  | zero =>
    intro e he _ w
    obtain rfl : e = 0 := by simpa using he
    have h1 : a ^ 0 % p = 1 := by rw [Nat.pow_zero, Nat.mod_eq_of_lt hp1]
    rw [h1]
    go_enter Tryd.func38, Tryd.ntmps38
    go_wp2
    go_ret
    exact ⟨rfl, rfl⟩
  | succ k ih =>
    intro e he hlt w
    by_cases h0 : e = 0
    · subst h0
      have h1 : a ^ 0 % p = 1 := by rw [Nat.pow_zero, Nat.mod_eq_of_lt hp1]
      rw [h1]
      go_enter Tryd.func38, Tryd.ntmps38
      go_wp2
      go_ret
      exact ⟨rfl, rfl⟩
    · have hh : e / 2 < 2 ^ k := by rw [Nat.pow_succ] at he; omega
      have hi := ih (e / 2) hh (by omega)
      have hv := pow_half a e p
      have hq : a ^ (e / 2) % p < p := Nat.mod_lt _ (by omega)
      obtain ⟨r, hr⟩ : ∃ r, r = a ^ e % p := ⟨_, rfl⟩
      obtain ⟨q, hqe⟩ : ∃ q, q = a ^ (e / 2) % p := ⟨_, rfl⟩
      have hs : q * q % p < p := Nat.mod_lt _ (by omega)
      rw [← hr]
      rw [← hr, ← hqe] at hv
      rw [← hqe] at hq hi
      obtain ⟨s, hse⟩ : ∃ s, s = q * q % p := ⟨_, rfl⟩
      rw [← hse] at hv hs
      have Hse := Lib.hid hse
      have t0 : ((e : Int) == 0) = false := by simp; omega
      obtain ⟨d, hde⟩ : ∃ d, d = e / 2 := ⟨_, rfl⟩
      rw [← hde] at hi
      have t1 : (e : Int) / 2 = (d : Int) := by omega
      clear hse hr hqe ih he hh hde
      by_cases hc : e % 2 = 1
      · rw [if_pos hc] at hv
        have t2 : ((e : Int) % 2 == 1) = true := by simp; omega
        have Hv := Lib.hid hv
        clear hv hc
        go_enter Tryd.func38, Tryd.ntmps38
        go_wp2_with fail
        refine (hi _).mono ?_
        rintro _ _ ⟨rfl, rfl⟩
        go_wp2_with fail
        refine (times_any q q p _ (by omega) (by omega) hp (by omega)).mono ?_
        rintro _ _ ⟨rfl, rfl⟩
        rw [← Hse.out]
        go_wp2_with fail
        refine (times_any s a p _ (by omega) ha hp (by omega)).mono ?_
        rintro _ _ ⟨rfl, rfl⟩
        rw [← Hv.out]
        go_wp2
        go_ret
        exact ⟨rfl, rfl⟩
      · rw [if_neg hc] at hv
        have t2 : ((e : Int) % 2 == 1) = false := by simp; omega
        have Hv := Lib.hid hv
        clear hv hc
        go_enter Tryd.func38, Tryd.ntmps38
        go_wp2_with fail
        refine (hi _).mono ?_
        rintro _ _ ⟨rfl, rfl⟩
        go_wp2_with fail
        refine (times_any q q p _ (by omega) (by omega) hp (by omega)).mono ?_
        rintro _ _ ⟨rfl, rfl⟩
        rw [← Hse.out, ← Hv.out]
        go_wp2
        go_ret
        exact ⟨rfl, rfl⟩
end
section
/-- A prime. -/
def Pr (p : Nat) : Prop := 2 ≤ p ∧ ∀ e, e ∣ p → e = 1 ∨ e = p
theorem Pr.two {p : Nat} (h : Pr p) : 2 ≤ p := h.1
theorem Pr.pos {p : Nat} (h : Pr p) : 0 < p := by have := h.1; omega
theorem Pr.gcd {p : Nat} (h : Pr p) {a : Nat} (ha : ¬ p ∣ a) : Nat.gcd p a = 1 := by
  rcases h.2 _ (Nat.gcd_dvd_left p a) with e | e
  · exact e
  · exact absurd (e ▸ Nat.gcd_dvd_right p a) ha
theorem Pr.dvd_mul {p : Nat} (h : Pr p) {a b : Nat} (hab : p ∣ a * b) : p ∣ a ∨ p ∣ b := by
  by_cases ha : p ∣ a
  · exact Or.inl ha
  · exact Or.inr (Nat.Coprime.dvd_of_dvd_mul_left (h.gcd ha) hab)
theorem Pr.dvd_pow {p : Nat} (h : Pr p) {a : Nat} : ∀ {k : Nat}, p ∣ a ^ k → p ∣ a
  | 0, hk => by
    have := Nat.le_of_dvd (by omega) (by simpa using hk : p ∣ 1)
    have := h.1
    omega
  | k + 1, hk => by
    rw [Nat.pow_succ] at hk
    rcases h.dvd_mul hk with h1 | h1
    · exact h.dvd_pow h1
    · exact h1
theorem Pr.not_dvd_one {p : Nat} (h : Pr p) : ¬ p ∣ 1 := fun hd => by
  have := Nat.le_of_dvd (by omega) hd
  have := h.1
  omega
theorem Pr.not_dvd_lt {p a : Nat} (_h : Pr p) (ha : 0 < a) (hlt : a < p) : ¬ p ∣ a := fun hd => by
  have := Nat.le_of_dvd ha hd
  omega

theorem exists_pr : ∀ (n : Nat), 2 ≤ n → ∃ p, Pr p ∧ p ∣ n := by
  intro n
  induction n using Nat.strongRecOn with
  | _ n ih =>
    intro h
    by_cases hp : Pr n
    · exact ⟨n, hp, Nat.dvd_refl n⟩
    · have hx : ∃ e, e ∣ n ∧ e ≠ 1 ∧ e ≠ n := by
        refine Classical.byContradiction fun hn => hp ⟨h, fun e he => ?_⟩
        by_cases h1 : e = 1
        · exact Or.inl h1
        · by_cases h2 : e = n
          · exact Or.inr h2
          · exact absurd ⟨e, he, h1, h2⟩ hn
      obtain ⟨e, he, h1, h2⟩ := hx
      have hle := Nat.le_of_dvd (by omega) he
      have h0 : e ≠ 0 := fun h0 => by subst h0; have := Nat.eq_zero_of_zero_dvd he; omega
      obtain ⟨p, hp1, hp2⟩ := ih e (by omega) (by omega)
      exact ⟨p, hp1, Nat.dvd_trans hp2 he⟩

theorem exists_greatest (n : Nat) (h : 2 ≤ n) : ∃ q, Pr q ∧ q ∣ n ∧ ∀ p, Pr p → p ∣ n → p ≤ q := by
  have key : ∀ k, k ≤ n → (∀ p, Pr p → p ∣ n → p ≤ k) → ∃ q, Pr q ∧ q ∣ n ∧ ∀ p, Pr p → p ∣ n → p ≤ q := by
    intro k
    induction k with
    | zero =>
      intro _ hk
      obtain ⟨p, hp, hd⟩ := exists_pr n h
      have := hk p hp hd
      have := hp.1
      omega
    | succ k ih =>
      intro hkn hk
      by_cases hq : Pr (k + 1) ∧ (k + 1) ∣ n
      · exact ⟨k + 1, hq.1, hq.2, hk⟩
      · refine ih (by omega) fun p hp hd => ?_
        have h1 := hk p hp hd
        rcases Nat.lt_or_ge p (k + 1) with h2 | h2
        · omega
        · obtain rfl : p = k + 1 := by omega
          exact absurd ⟨hp, hd⟩ hq
  exact key n (Nat.le_refl _) fun p _ hd => Nat.le_of_dvd (by omega) hd

/-! Fermat's little theorem -/
def ch : Nat → Nat → Nat
  | _, 0 => 1
  | 0, _ + 1 => 0
  | n + 1, k + 1 => ch n k + ch n (k + 1)
theorem ch_zero (n : Nat) : ch n 0 = 1 := by cases n <;> rfl
theorem ch_over : ∀ (n k : Nat), n < k → ch n k = 0
  | 0, 0, h => by omega
  | 0, k + 1, _ => rfl
  | n + 1, 0, h => by omega
  | n + 1, k + 1, h => by rw [ch, ch_over n k (by omega), ch_over n (k + 1) (by omega)]
theorem ch_self : ∀ n, ch n n = 1
  | 0 => rfl
  | n + 1 => by rw [ch, ch_self n, ch_over n (n + 1) (by omega)]
theorem ch_one : ∀ n, ch n 1 = n
  | 0 => rfl
  | n + 1 => by rw [ch, ch_one n, ch_zero]; omega
theorem ch_mul : ∀ (n k : Nat), (n + 1) * ch n k = ch (n + 1) (k + 1) * (k + 1)
  | 0, 0 => rfl
  | 0, k + 1 => by simp [ch]
  | n + 1, 0 => by rw [ch_zero, ch_one]
  | n + 1, k + 1 => by
    have h1 := ch_mul n k
    have h2 := ch_mul n (k + 1)
    have e1 : ch (n + 1) (k + 1) = ch n k + ch n (k + 1) := rfl
    have e2 : ch (n + 2) (k + 2) = ch (n + 1) (k + 1) + ch (n + 1) (k + 2) := rfl
    show (n + 2) * ch (n + 1) (k + 1) = ch (n + 2) (k + 2) * (k + 2)
    have h3 : (n + 1) * ch n k + (n + 1) * ch n (k + 1) = (n + 1) * ch (n + 1) (k + 1) := by rw [e1, Nat.mul_add]
    have h4 : ch (n + 1) (k + 1) * (k + 2) = ch (n + 1) (k + 1) * (k + 1) + ch (n + 1) (k + 1) := Nat.mul_succ _ _
    have h5 : (n + 2) * ch (n + 1) (k + 1) = (n + 1) * ch (n + 1) (k + 1) + ch (n + 1) (k + 1) := Nat.succ_mul _ _
    have h6 : (n + 1) * ch n (k + 1) = ch (n + 1) (k + 2) * (k + 2) := h2
    have h7 : ch (n + 2) (k + 2) * (k + 2) = ch (n + 1) (k + 1) * (k + 2) + ch (n + 1) (k + 2) * (k + 2) := by rw [e2, Nat.add_mul]
    omega
theorem Pr.dvd_ch {p k : Nat} (h : Pr p) (h0 : 0 < k) (hk : k < p) : p ∣ ch p k := by
  obtain ⟨n, rfl⟩ : ∃ n, p = n + 1 := ⟨p - 1, by have := h.1; omega⟩
  obtain ⟨j, rfl⟩ : ∃ j, k = j + 1 := ⟨k - 1, by omega⟩
  have hm := ch_mul n j
  rcases h.dvd_mul (show (n + 1) ∣ ch (n + 1) (j + 1) * (j + 1) from hm ▸ Nat.dvd_mul_right _ _) with h1 | h1
  · exact h1
  · exact absurd h1 (h.not_dvd_lt (by omega) hk)
def bs (a n : Nat) : Nat → Nat
  | 0 => 1
  | k + 1 => bs a n k + ch n (k + 1) * a ^ (k + 1)
theorem bs_succ (a n : Nat) : ∀ k, bs a (n + 1) (k + 1) = bs a n (k + 1) + a * bs a n k
  | 0 => by simp [bs, ch, ch_zero, Nat.add_mul]; omega
  | k + 1 => by
    rw [bs, bs_succ a n k, bs]
    rw [show bs a n (k + 1 + 1) = bs a n k + ch n (k + 1) * a ^ (k + 1) + ch n (k + 1 + 1) * a ^ (k + 1 + 1) from rfl, show ch (n + 1) (k + 1 + 1) = ch n (k + 1) + ch n (k + 1 + 1) from rfl, Nat.add_mul, Nat.mul_add, show a * (ch n (k + 1) * a ^ (k + 1)) = ch n (k + 1) * a ^ (k + 1 + 1) from by rw [Nat.pow_succ a (k + 1)]; ac_rfl]
    omega
theorem bs_all (a : Nat) : ∀ n, (a + 1) ^ n = bs a n n
  | 0 => rfl
  | n + 1 => by
    rw [bs_succ, bs, ch_over n (n + 1) (by omega), Nat.zero_mul, Nat.add_zero, ← bs_all a n, Nat.pow_succ, Nat.mul_add, Nat.mul_one, Nat.mul_comm]
    omega
theorem Pr.bs_mod {p : Nat} (h : Pr p) (a : Nat) : ∀ k, k < p → bs a p k % p = 1
  | 0, _ => Nat.mod_eq_of_lt h.1
  | k + 1, hk => by
    obtain ⟨c, hc⟩ := h.dvd_ch (show 0 < k + 1 by omega) hk
    rw [bs, hc, Nat.mul_assoc, Nat.add_mul_mod_self_left, h.bs_mod a k (by omega)]
theorem Pr.fermat' {p : Nat} (h : Pr p) : ∀ a : Nat, a ^ p % p = a % p
  | 0 => by
    have := h.1
    rw [Nat.zero_pow (by omega)]
  | a + 1 => by
    have h2 := h.1
    obtain ⟨n, hn⟩ : ∃ n, p = n + 1 := ⟨p - 1, by omega⟩
    have e : bs a p p = bs a p n + a ^ p := by
      have : bs a p (n + 1) = bs a p n + ch p (n + 1) * a ^ (n + 1) := rfl
      rw [← hn, ch_self, Nat.one_mul] at this
      exact this
    rw [bs_all, e, Nat.add_mod, h.bs_mod a n (by omega), h.fermat' a, ← Nat.add_mod_mod 1 (a % p) p, Nat.mod_mod, Nat.add_mod_mod, Nat.add_comm]
theorem Pr.fermat {p a : Nat} (h : Pr p) (ha : ¬ p ∣ a) : a ^ (p - 1) % p = 1 := by
  have h2 := h.1
  have hf := h.fermat' a
  have ha0 : 0 < a := Nat.pos_of_ne_zero fun h0 => ha (h0 ▸ Nat.dvd_zero p)
  have hpos : 0 < a ^ (p - 1) := Nat.pow_pos ha0
  have e : a ^ p = a * a ^ (p - 1) := by
    obtain ⟨n, rfl⟩ : ∃ n, p = n + 1 := ⟨p - 1, by omega⟩
    rw [Nat.add_sub_cancel, Nat.pow_succ, Nat.mul_comm]
  have hd : p ∣ a * (a ^ (p - 1) - 1) := by
    rw [Nat.mul_sub, ← e, Nat.mul_one]
    exact (Nat.dvd_of_mod_eq_zero (Nat.sub_mod_eq_zero_of_mod_eq hf))
  rcases h.dvd_mul hd with h1 | h1
  · exact absurd h1 ha
  · obtain ⟨c, hc⟩ := h1
    have : a ^ (p - 1) = 1 + p * c := by omega
    rw [this, Nat.add_mul_mod_self_left, Nat.mod_eq_of_lt h2]
end
section
theorem pow_one_mod {q : Nat} (h : 1 < q) (k : Nat) {x : Nat} (hx : x % q = 1) : x ^ k % q = 1 := by
  rw [Nat.pow_mod, hx, Nat.one_pow, Nat.mod_eq_of_lt h]
theorem pow_mul_one {q b i : Nat} (h : 1 < q) (hi : b ^ i % q = 1) (j : Nat) : b ^ (i * j) % q = 1 := by
  rw [Nat.pow_mul]; exact pow_one_mod h j hi
theorem pow_of_dvd {q b i j : Nat} (h : 1 < q) (hi : b ^ i % q = 1) (hd : i ∣ j) : b ^ j % q = 1 := by
  obtain ⟨c, rfl⟩ := hd
  exact pow_mul_one h hi c
theorem pow_add_one {q b i : Nat} (hi : b ^ i % q = 1) (j : Nat) : b ^ (i + j) % q = b ^ j % q := by
  rw [Nat.pow_add, Nat.mul_mod, hi, Nat.one_mul, Nat.mod_mod]
theorem pow_gcd {q b : Nat} (h : 1 < q) : ∀ i j, b ^ i % q = 1 → b ^ j % q = 1 → b ^ (Nat.gcd i j) % q = 1 := by
  intro i j
  induction i, j using Nat.gcd.induction with
  | H0 n => intro _ hn; rwa [Nat.gcd_zero_left]
  | H1 m n hm ih =>
    intro h1 h2
    rw [Nat.gcd_rec]
    refine ih ?_ h1
    have e : n = m * (n / m) + n % m := (Nat.div_add_mod n m).symm
    rw [e, pow_add_one (pow_mul_one h h1 _)] at h2
    exact h2

/-- 2^k, 7^k, 61^k are 1 modulo q. -/
def B3 (q k : Nat) : Prop := 2 ^ k % q = 1 ∧ 7 ^ k % q = 1 ∧ 61 ^ k % q = 1
theorem B3.of_dvd {q i j : Nat} (hq : 1 < q) (h : B3 q i) (hd : i ∣ j) : B3 q j := ⟨pow_of_dvd hq h.1 hd, pow_of_dvd hq h.2.1 hd, pow_of_dvd hq h.2.2 hd⟩
theorem B3.gcd {q i j : Nat} (hq : 1 < q) (h : B3 q i) (k : B3 q j) : B3 q (Nat.gcd i j) := ⟨pow_gcd hq _ _ h.1 k.1, pow_gcd hq _ _ h.2.1 k.2.1, pow_gcd hq _ _ h.2.2 k.2.2⟩
/-- d / f will not do. -/
def Min3 (q f d : Nat) : Prop := f ∣ d → ¬ B3 q (d / f)
theorem Min3.of_dvd {q f d d' : Nat} (hq : 1 < q) (hf : 0 < f) (h : Min3 q f d) (hd : d' ∣ d) : Min3 q f d' := fun hfd hb => by
  refine h (Nat.dvd_trans hfd hd) (hb.of_dvd hq ?_)
  obtain ⟨a, rfl⟩ := hfd
  obtain ⟨c, rfl⟩ := hd
  rw [Nat.mul_div_cancel_left _ hf, Nat.mul_assoc, Nat.mul_div_cancel_left _ hf]
  exact Nat.dvd_mul_right _ _
/-- A number that will do, and none of its parts by a prime: it divides all that will do. -/
theorem order_dvd {q d k : Nat} (hq : 1 < q) (hd0 : 0 < d) (hd : B3 q d) (hm : ∀ f, Pr f → Min3 q f d) (hk : B3 q k) : d ∣ k := by
  have hg := hk.gcd hq hd
  have hgd : Nat.gcd k d ∣ d := Nat.gcd_dvd_right k d
  have hgk : Nat.gcd k d ∣ k := Nat.gcd_dvd_left k d
  obtain ⟨c, hc⟩ := hgd
  generalize Nat.gcd k d = g at hg hgk hc
  rcases Nat.lt_or_ge c 2 with h2 | h2
  · rcases Nat.eq_zero_or_pos c with h0 | h0
    · subst h0; omega
    · obtain rfl : c = 1 := by omega
      rw [hc, Nat.mul_one]; exact hgk
  · obtain ⟨f, hf, hfc⟩ := exists_pr c h2
    refine absurd (hg.of_dvd hq ?_) (hm f hf (Nat.dvd_trans hfc ⟨g, by rw [hc, Nat.mul_comm]⟩))
    obtain ⟨e, rfl⟩ := hfc
    rw [hc, show g * (f * e) = f * (g * e) from by ac_rfl, Nat.mul_div_cancel_left _ hf.pos]
    exact Nat.dvd_mul_right _ _

/-- What n says that passes Fermat's test to the three bases. -/
def Psp (n : Nat) : Prop := B3 n (n - 1)
theorem B3.down {n q k : Nat} (h : B3 n k) (hq : 1 < q) (hd : q ∣ n) : B3 q k := by
  have key : ∀ x, x % n = 1 → x % q = 1 := fun x hx => by
    have := Nat.mod_mod_of_dvd x hd
    rw [hx, Nat.mod_eq_of_lt hq] at this
    exact this.symm
  exact ⟨key _ h.1, key _ h.2.1, key _ h.2.2⟩
theorem not_dvd_of_pow {q b k : Nat} (_hq : 1 < q) (hk : 0 < k) (h : b ^ k % q = 1) : ¬ q ∣ b := fun hd => by
  have : q ∣ b ^ k := Nat.dvd_trans hd (by
    obtain ⟨j, rfl⟩ : ∃ j, k = j + 1 := ⟨k - 1, by omega⟩
    exact ⟨b ^ j, by rw [Nat.pow_succ, Nat.mul_comm]⟩)
  rw [Nat.mod_eq_zero_of_dvd this] at h
  omega
/-- A prime q: all three bases will do at q - 1. -/
theorem B3.fermat {q k : Nat} (hp : Pr q) (hk : 0 < k) (h : B3 q k) : B3 q (q - 1) :=
  ⟨hp.fermat (not_dvd_of_pow hp.1 hk h.1), hp.fermat (not_dvd_of_pow hp.1 hk h.2.1), hp.fermat (not_dvd_of_pow hp.1 hk h.2.2)⟩
/-- n = q m: m - 1 will do. -/
theorem B3.rest {n q m : Nat} (hp : Pr q) (hn : n = q * m) (hm : 1 < m) (h : Psp n) : B3 q (m - 1) := by
  have hq := hp.1
  have h2 : 2 * 2 ≤ q * m := Nat.mul_le_mul hq hm
  have hd : B3 q (n - 1) := B3.down h hq ⟨m, hn⟩
  have hf := B3.fermat hp (by omega) hd
  have e : n - 1 = (q - 1) * m + (m - 1) := by
    rw [Nat.sub_mul, Nat.one_mul, hn]
    have : m ≤ q * m := Nat.le_mul_of_pos_left m (by omega)
    omega
  rw [e] at hd
  refine ⟨?_, ?_, ?_⟩
  · have := hd.1; rwa [pow_add_one (pow_mul_one hq hf.1 _)] at this
  · have := hd.2.1; rwa [pow_add_one (pow_mul_one hq hf.2.1 _)] at this
  · have := hd.2.2; rwa [pow_add_one (pow_mul_one hq hf.2.2 _)] at this
/-- (1 + k q)^j, modulo q q. -/
theorem pow_first (q k : Nat) : ∀ j, ∃ c, (1 + k * q) ^ j = 1 + j * k * q + c * (q * q)
  | 0 => ⟨0, by simp⟩
  | j + 1 => by
    obtain ⟨c, hc⟩ := pow_first q k j
    refine ⟨j * k * k + c * (1 + k * q), ?_⟩
    rw [Nat.pow_succ, hc]
    simp only [Nat.add_mul, Nat.mul_add, Nat.one_mul, Nat.mul_one]
    have e1 : j * k * q * (k * q) = j * k * k * (q * q) := by ac_rfl
    have e2 : c * (q * q) * (k * q) = c * (k * q) * (q * q) := by ac_rfl
    rw [e1, e2]
    omega
/-- A prime whose square divides n. -/
theorem square_says {n q b : Nat} (hp : Pr q) (hn : q * q ∣ n) (hn0 : 0 < n) (h : b ^ (n - 1) % n = 1) : b ^ (q - 1) % (q * q) = 1 := by
  have hq := hp.1
  have hqq : 2 * 2 ≤ q * q := Nat.mul_le_mul hq hq
  have hqn : q ∣ n := Nat.dvd_trans ⟨q, rfl⟩ hn
  have hn4 := Nat.le_of_dvd hn0 hn
  have hx : b ^ (n - 1) % (q * q) = 1 := by
    have := Nat.mod_mod_of_dvd (b ^ (n - 1)) hn
    rw [h, Nat.mod_eq_of_lt (by omega)] at this
    exact this.symm
  have hxq : b ^ (n - 1) % q = 1 := by
    have := Nat.mod_mod_of_dvd (b ^ (n - 1)) hqn
    rw [h, Nat.mod_eq_of_lt (by omega)] at this
    exact this.symm
  have hf := hp.fermat (not_dvd_of_pow hq (by omega) hxq)
  -- y = b^(q-1) = 1 + k q
  obtain ⟨k, hk⟩ : ∃ k, b ^ (q - 1) = 1 + k * q := ⟨b ^ (q - 1) / q, by have := Nat.div_add_mod (b ^ (q - 1)) q; rw [hf, Nat.mul_comm] at this; omega⟩
  have h1 : b ^ ((n - 1) * (q - 1)) % (q * q) = 1 := pow_mul_one (by omega) hx _
  obtain ⟨c, hc⟩ := pow_first q k (n - 1)
  rw [Nat.mul_comm, Nat.pow_mul, hk, hc] at h1
  rw [Nat.add_mul_mod_self_right] at h1
  have h2 : q * q ∣ (n - 1) * k * q := by
    have h3 : (1 + (n - 1) * k * q) % (q * q) = 1 % (q * q) := by rw [h1, Nat.mod_eq_of_lt (by omega)]
    have h4 := Nat.dvd_of_mod_eq_zero (Nat.sub_mod_eq_zero_of_mod_eq h3)
    rwa [Nat.add_sub_cancel_left] at h4
  have h5 : q ∣ (n - 1) * k := Nat.dvd_of_mul_dvd_mul_right hp.pos h2
  rcases hp.dvd_mul h5 with h6 | h6
  · exfalso
    obtain ⟨u, hu⟩ := hqn
    obtain ⟨v, hv⟩ := h6
    have : q ∣ 1 := (Nat.dvd_add_right (show q ∣ q * v from ⟨v, rfl⟩)).1 (by rw [← hv, show n - 1 + 1 = n from by omega]; exact ⟨u, hu⟩)
    exact hp.not_dvd_one this
  · obtain ⟨u, rfl⟩ := h6
    rw [hk, show q * u * q = u * (q * q) from by ac_rfl, Nat.add_mul_mod_self_right, Nat.mod_eq_of_lt (by omega)]
end
end Go.Proofs.YtcopkeccogpkmaaDoor
