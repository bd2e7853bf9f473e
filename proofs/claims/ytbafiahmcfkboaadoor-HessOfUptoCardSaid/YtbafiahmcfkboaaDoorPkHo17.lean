/- Is is right: what prime's Is and the reference's Is answer of every number below 2^32. Conditions: bases reads 2, 7, 61 (prime's). prime.Inv modulo a prime or none, and what the reference answers of sums, differences, products, powers, inverses. Conditions: p a prime, or none; bases reads 2, 7, 61. The examples of layer 8 come out as the document says: reckoned. Condition: bases is as the program lays it. Matrices in memory: rows that are read, rows of one's own. No conditions. The contracts of columns and made, and of what makes rows. Conditions: made: the entries come from a function that only draws. Square matrices in memory of one's own, given by their entries; what may turn. No conditions. The contracts of hess's plus, negative, swapRows, swapColumns, addRow, addColumn. Conditions: as each states. -/
import Derived.Test.YtbafiahmcfkboaaDoorPkHo8
import Derived.Test.YtbafiahmcfkboaaDoorPkHo16
import Derived.Deep.CutBlock
import Derived.RegionTactic
import Derived.Deep.QuietTactic
import Derived.BigQuiet
import Derived.WalkMore
import Derived.IntWalk
import Derived.Deep.DeepCutAuto
import Derived.Test.YtbafiahmcfkboaaDoorPkHo6
import Derived.Test.YtbafiahmcfkboaaDoorPkHo7
import Derived.Test.YtbafiahmcfkboaaDoorRows
import Derived.Deep.RegionHeld3
namespace Go.Proofs.YtbafiahmcfkboaaDoor
section
open Go.RowKit

theorem Bases.drewN {w : World} (h : Bases w) (n : Nat) : Bases (w.drewN n) := h

/-- Is n a prime? -/
noncomputable def isP (n : Nat) : Bool := @decide (Pr n) (Classical.propDecidable _)
theorem isP_true {n : Nat} (h : Pr n) : isP n = true := by unfold isP; exact @decide_eq_true _ (Classical.propDecidable _) h
theorem isP_false {n : Nat} (h : ¬ Pr n) : isP n = false := by unfold isP; exact @decide_eq_false _ (Classical.propDecidable _) h
theorem isP_cases (n : Nat) : (Pr n ∧ isP n = true) ∨ (¬ Pr n ∧ isP n = false) := by
  by_cases h : Pr n
  · exact Or.inl ⟨h, isP_true h⟩
  · exact Or.inr ⟨h, isP_false h⟩

theorem Pr.of_none {n : Nat} (h2 : 2 ≤ n) (h : ∀ e, 2 ≤ e → e < n → n % e ≠ 0) : Pr n := ⟨h2, fun e he => by
  have hle := Nat.le_of_dvd (by omega) he
  have h0 : e ≠ 0 := fun h0 => by subst h0; have := Nat.eq_zero_of_zero_dvd he; omega
  rcases Nat.lt_or_ge e 2 with h3 | h3
  · exact Or.inl (by omega)
  · rcases Nat.lt_or_ge e n with h4 | h4
    · exact absurd (Nat.mod_eq_zero_of_dvd he) (h e h3 h4)
    · exact Or.inr (by omega)⟩
theorem Pr.none {n : Nat} (h : Pr n) (e : Nat) (h2 : 2 ≤ e) (hlt : e < n) : n % e ≠ 0 := fun h0 => by
  rcases h.2 e (Nat.dvd_of_mod_eq_zero h0) with h1 | h1 <;> omega
theorem pr_iff_least {n : Nat} : Pr n ↔ Least n n := ⟨fun h => ⟨h.1, Nat.mod_self n, fun e h1 h2 => h.none e h1 h2⟩, fun h => Pr.of_none h.1 fun e h1 h2 => h.2.2 e h1 h2⟩
theorem pr_two : Pr 2 := Pr.of_none (by omega) fun e h1 h2 => by omega
theorem pr_three : Pr 3 := Pr.of_none (by omega) fun e h1 h2 => by
  obtain rfl : e = 2 := by omega
  decide
theorem pr_seven : Pr 7 := Pr.of_none (by omega) fun e h1 h2 => (show ∀ e < 7, 2 ≤ e → 7 % e ≠ 0 by decide) e h2 h1
theorem pr_61 : Pr 61 := Pr.of_none (by omega) fun e h1 h2 => (show ∀ e < 61, 2 ≤ e → 61 % e ≠ 0 by decide) e h2 h1
theorem Pr.odd {n : Nat} (h : Pr n) (h2 : 2 < n) : n % 2 = 1 := by
  have := h.none 2 (by omega) h2
  omega

/-- What passes answers is right. -/
theorem isN_isP (n d s : Nat) (hn : n < 4294967296) (h : 4 ≤ n → n % 2 = 1 → n - 1 = d * 2 ^ s ∧ d % 2 = 1) : isN n d s = isP n := by
  unfold isN
  by_cases h4 : n < 4
  · rw [if_pos h4]
    rcases isP_cases n with ⟨hp, e⟩ | ⟨hp, e⟩
    · rw [e]; exact decide_eq_true hp.1
    · rw [e]
      refine decide_eq_false fun h1 => hp ?_
      rcases (show n = 2 ∨ n = 3 by omega) with rfl | rfl
      · exact pr_two
      · exact pr_three
  · rw [if_neg h4]
    by_cases h2 : n % 2 = 1
    · rw [if_pos h2]
      obtain ⟨hd, ho⟩ := h (by omega) h2
      rcases isP_cases n with ⟨hp, e⟩ | ⟨hp, e⟩
      · rw [e]
        have key : ∀ b, base1 n d s b = true := fun b => by
          unfold base1
          by_cases hb : b % n = 0
          · rw [if_pos hb]
          · rw [if_neg hb]
            exact hp.mr_passes (fun hx => hb (Nat.mod_eq_zero_of_dvd hx)) hd
        unfold passAll
        rw [key 2, key 7, key 61]; rfl
      · rw [e]
        refine Bool.eq_false_iff.2 fun hx => hp ?_
        unfold passAll at hx
        have h7 : n ≠ 7 := fun h7 => hp (h7 ▸ pr_seven)
        have h61 : n ≠ 61 := fun h61 => hp (h61 ▸ pr_61)
        have key : ∀ b, Pr b → n ≠ b → base1 n d s b = true → mr b n d s = true := fun b hb hne hx => by
          unfold base1 at hx
          rwa [if_neg] at hx
          intro h0
          rcases hb.2 n (Nat.dvd_of_mod_eq_zero h0) with e | e
          · omega
          · exact hne e
        cases e2 : base1 n d s 2 with
        | false => rw [e2] at hx; simp at hx
        | true =>
          cases e7 : base1 n d s 7 with
          | false => rw [e2, e7] at hx; simp at hx
          | true =>
            rw [e2, e7] at hx
            have e61 : base1 n d s 61 = true := by simpa using hx
            refine Passes.prime (fun d' s' hd' ho' => ?_) (by omega) h2 hn
            obtain ⟨rfl, rfl⟩ := split_unique ho' ho (hd'.symm.trans hd)
            exact ⟨key 2 pr_two (by omega) e2, key 7 pr_seven h7 e7, key 61 pr_61 h61 e61⟩
    · rw [if_neg h2, isP_false]
      intro hp
      exact h2 (hp.odd (by omega))

theorem is_all (n : Nat) (hn : n < 4294967296) (w : World) (hw : Bases w) :
    Calls Tryd.prog 30 #[.int .u32 (n : Int)] w fun e w' => e = .returned (.bool (isP n)) ∧ w' = w := by
  by_cases h : 4 ≤ n ∧ n % 2 = 1
  · obtain ⟨d, s, hd, ho⟩ := split_exists (n - 1) (by omega)
    have hs : s ≤ 32 := by
      rcases Nat.lt_or_ge s 33 with h1 | h1
      · omega
      · exfalso
        have h2 : 2 ^ 33 ≤ 2 ^ s := Nat.pow_le_pow_right (by omega) h1
        have h3 : 2 ^ s ≤ d * 2 ^ s := Nat.le_mul_of_pos_left _ (by omega)
        have h4 : (2 : Nat) ^ 33 = 8589934592 := by decide
        omega
    have := is_any n d s hn (fun _ _ => ⟨hd, ho, hs⟩) w hw
    rwa [isN_isP n d s hn fun _ _ => ⟨hd, ho⟩] at this
  · have := is_any n 0 0 hn (fun h1 h2 => absurd ⟨h1, h2⟩ h) w hw
    rwa [isN_isP n 0 0 hn fun h1 h2 => absurd ⟨h1, h2⟩ h] at this
theorem is_yes (n : Nat) (hp : Pr n) (hn : n < 4294967296) (w : World) (hw : Bases w) :
    Calls Tryd.prog 30 #[.int .u32 (n : Int)] w fun e w' => e = .returned (.bool true) ∧ w' = w := by
  have := is_all n hn w hw
  rwa [isP_true hp] at this
theorem is_no (n : Nat) (hp : ¬ Pr n) (hn : n < 4294967296) (w : World) (hw : Bases w) :
    Calls Tryd.prog 30 #[.int .u32 (n : Int)] w fun e w' => e = .returned (.bool false) ∧ w' = w := by
  have := is_all n hn w hw
  rwa [isP_false hp] at this
end
section
open Go.RowKit

theorem add_lt (a b p : Nat) (hp : 0 < p) : (a + b) % p < p := Nat.mod_lt _ hp
theorem cast_mod (a p : Nat) : ((a : Int) % (p : Int)) = ((a % p : Nat) : Int) := (Int.natCast_emod a p).symm
theorem sub_alike (a b p : Nat) (hp0 : 0 < p) : (a % p + p - b % p) % p = (a + (p - b % p)) % p := by
  have hb : b % p < p := Nat.mod_lt _ hp0
  rw [show a % p + p - b % p = a % p + (p - b % p) from by omega, Nat.mod_add_mod]
theorem Pr.inv_right {p a : Nat} (hp : Pr p) (ha : ¬ p ∣ a) : a * (a ^ (p - 2) % p) % p = 1 := by
  have h2 := hp.1
  rw [Nat.mul_mod_mod, ← hp.fermat ha]
  congr 1
  rw [Nat.mul_comm, ← Nat.pow_succ]
  congr 1; omega
theorem inv_unique {p a u v : Nat} (hu : a * u % p = 1) (hv : a * v % p = 1) (hlt : v < p) (hul : u < p) : v = u := by
  have h1 : v * (a * u) % p = v := by rw [Nat.mul_mod, hu, Nat.mul_one, Nat.mod_mod, Nat.mod_eq_of_lt hlt]
  have h2 : u * (a * v) % p = u := by rw [Nat.mul_mod, hv, Nat.mul_one, Nat.mod_mod, Nat.mod_eq_of_lt hul]
  exact h1.symm.trans ((congrArg (· % p) (show v * (a * u) = u * (a * v) from by ac_rfl)).trans h2)

/-- What Euclid's steps keep. -/
def Eu (a p r s X Y : Nat) (x y : Int) : Prop :=
  s < r ∧ 1 ≤ s ∧ Nat.gcd r s = 1 ∧ Y * r + X * s = p ∧ ((x = -(X : Int) ∧ y = (Y : Int)) ∨ (x = (X : Int) ∧ y = -(Y : Int))) ∧ (∃ k : Int, (a : Int) * x = r + k * p) ∧ (∃ k : Int, (a : Int) * y = s + k * p)
theorem Eu.start {a p : Nat} (hp : Pr p) (ha : 0 < a) (hap : a < p) : Eu a p p a 0 1 0 1 :=
  ⟨hap, ha, hp.gcd (hp.not_dvd_lt ha hap), by simp, Or.inl ⟨rfl, rfl⟩, ⟨-1, by omega⟩, ⟨0, by omega⟩⟩
theorem Eu.step {a p r s X Y : Nat} {x y : Int} (h : Eu a p r s X Y x y) (hs : s ≠ 1) : Eu a p s (r % s) Y (X + r / s * Y) y (x - ((r / s : Nat) : Int) * y) := by
  obtain ⟨h1, h2, h3, h4, h5, ⟨k, h6⟩, ⟨j, h7⟩⟩ := h
  have hdm := Nat.div_add_mod r s
  have hg : Nat.gcd s (r % s) = 1 := by rw [Nat.gcd_comm, ← Nat.gcd_rec, Nat.gcd_comm]; exact h3
  have hm0 : r % s ≠ 0 := fun h0 => by rw [h0, Nat.gcd_zero_right] at hg; exact hs hg
  have hrI : (r : Int) = s * ((r / s : Nat) : Int) + ((r % s : Nat) : Int) := by rw [← Int.natCast_mul, ← Int.natCast_add, hdm]
  refine ⟨Nat.mod_lt _ (by omega), by omega, hg, ?_, ?_, ⟨j, h7⟩, ⟨k - ((r / s : Nat) : Int) * j, ?_⟩⟩
  · generalize r / s = q at hdm
    generalize r % s = m at hdm
    rw [← h4, ← hdm, Nat.add_mul, Nat.mul_add]
    rw [show q * Y * s = Y * (s * q) from by ac_rfl]
    omega
  · rcases h5 with ⟨rfl, rfl⟩ | ⟨rfl, rfl⟩
    · refine Or.inr ⟨rfl, ?_⟩
      rw [Int.natCast_add, Int.natCast_mul]; omega
    · refine Or.inl ⟨rfl, ?_⟩
      rw [Int.natCast_add, Int.natCast_mul, Int.mul_neg]; omega
  · generalize ((r / s : Nat) : Int) = q at hrI
    generalize ((r % s : Nat) : Int) = m at hrI
    rw [Int.mul_sub, h6, show (a : Int) * (q * y) = q * (a * y) from by ac_rfl, h7, hrI, Int.sub_mul, Int.mul_add, show q * (s : Int) = s * q from Int.mul_comm _ _, Int.mul_assoc]
    omega
theorem Eu.bounds {a p r s X Y : Nat} {x y : Int} (h : Eu a p r s X Y x y) : -(p : Int) ≤ x ∧ x ≤ p ∧ -(p : Int) ≤ y ∧ y ≤ p ∧ r ≤ p + r := by
  obtain ⟨h1, h2, h3, h4, h5, _, _⟩ := h
  have a1 : Y ≤ Y * r := Nat.le_mul_of_pos_right _ (by omega)
  have a2 : X ≤ X * s := Nat.le_mul_of_pos_right _ (by omega)
  rcases h5 with ⟨rfl, rfl⟩ | ⟨rfl, rfl⟩ <;> omega
theorem Eu.last {a p r X Y : Nat} {x y : Int} (h : Eu a p r 1 X Y x y) (hp : Pr p) (ha : ¬ p ∣ a) :
    (0 ≤ y → y = ((a ^ (p - 2) % p : Nat) : Int)) ∧ (y < 0 → y + p = ((a ^ (p - 2) % p : Nat) : Int)) := by
  have h2 := hp.1
  obtain ⟨h1, _, h3, h4, h5, _, ⟨j, h7⟩⟩ := h
  have hY : Y * 2 ≤ Y * r := Nat.mul_le_mul_left _ (by omega)
  have hYp : Y < p := by omega
  have hl : a ^ (p - 2) % p < p := Nat.mod_lt _ hp.pos
  have key : ∀ (v : Nat) (c : Int), (v : Int) = y + c * p → v < p → v = a ^ (p - 2) % p := fun v c hv hvp => by
    refine inv_unique (hp.inv_right ha) ?_ hvp hl
    have : ((a * v : Nat) : Int) = 1 + (j + a * c) * p := by
      rw [Int.natCast_mul, hv, Int.mul_add, h7, Int.add_mul, Int.mul_assoc]; omega
    have h8 : ((a * v % p : Nat) : Int) = 1 := by
      rw [Int.natCast_emod, this, Int.add_mul_emod_self_right, Int.emod_eq_of_lt (by omega) (by omega)]
    omega
  refine ⟨fun hy => ?_, fun hy => ?_⟩
  · have : y.toNat = a ^ (p - 2) % p := key y.toNat 0 (by omega) (by omega)
    omega
  · have : (y + p).toNat = a ^ (p - 2) % p := key (y + p).toNat 1 (by omega) (by omega)
    omega
end
section
open Go.RowKit

/-- The bases, the block whole. -/
def Bx (w : World) : Prop := ∃ e, w.heap[0]? = some (.cells ⟨[.int .u32 2, .int .u32 7, .int .u32 61]⟩ e (0, 0))
theorem Bx.lt {w : World} (h : Bx w) : 0 < w.heap.size := by
  obtain ⟨e, h⟩ := h
  exact (Array.getElem?_eq_some_iff.1 h).1
theorem Bx.below {w w' : World} {B : Nat} (h : Bx w) (hb : Below B w w') (hB : w.heap.size ≤ B) : Bx w' := by
  have h1 := h.lt
  obtain ⟨e, h⟩ := h
  exact ⟨e, (hb.block _ (by omega)).trans h⟩
theorem Bx.bases {w : World} (h : Bx w) : Bases w := by
  obtain ⟨e, h⟩ := h
  exact ⟨by simp [World.cell?, h], by simp [World.cell?, h], by simp [World.cell?, h]⟩

set_option maxRecDepth 100000 in
theorem awake_true (e0 : TypeId) : Ev.yesB ((Ev.mach Tryd.prog 1 Ev.okT 300).call 12 [] (Ev.tabH [(0, .cells false e0 [.int .u32 2, .int .u32 7, .int .u32 61])]) 1) = true := by kernel_rfl
theorem ev_mix : Tryd.prog.follows .mixedOrders = true := by kernel_rfl
theorem ev_names : (Tryd.prog.funcs.toList.all fun fn => !(fn.name == "runtime.NumGoroutine")) = true := by kernel_rfl
set_option maxRecDepth 100000 in
theorem lawake_any (w : World) (hw : Bx w) : Calls Tryd.prog 12 #[] w fun r w' => r = .returned (.bool true) ∧ Below w.heap.size w w' := by
  obtain ⟨e0, he0⟩ := hw
  refine (callsIn_wide (n := 0)).1 (Ev.reckoned (G := 1) ev_mix (Ev.names_of ev_names) (l := [(0, .cells false e0 [.int .u32 2, .int .u32 7, .int .u32 61])]) (show 1 ≤ _ from Ev.size_of he0) (fun p hp => ?_) (by kernel_rfl) 300 (awake_true e0) 0)
  obtain rfl := List.mem_singleton.1 hp
  exact ⟨(by decide : (0 : Nat) < 1), he0, rfl⟩
end
section
open Go.RowKit

/-- Among the blocks that are there, block g alone has turned; new ones may lie behind. -/
structure Tn (g : Nat) (w w' : World) : Prop where
  os : w'.os = w.os
  tape : w'.tape = w.tape
  output : w'.output = w.output
  size : w.heap.size ≤ w'.heap.size
  block : ∀ k, k < w.heap.size → k ≠ g → w'.heap[k]? = w.heap[k]?
theorem Tn.refl (g : Nat) (w : World) : Tn g w w := ⟨rfl, rfl, rfl, Nat.le_refl _, fun _ _ _ => rfl⟩
theorem Tn.trans {g : Nat} {a b c : World} (h : Tn g a b) (k : Tn g b c) : Tn g a c :=
  ⟨k.os.trans h.os, k.tape.trans h.tape, k.output.trans h.output, Nat.le_trans h.size k.size, fun i hi hg => (k.block i (Nat.lt_of_lt_of_le hi h.size) hg).trans (h.block i hi hg)⟩
theorem Tn.of_below {g B : Nat} {w w' : World} (h : Below B w w') (hB : w.heap.size ≤ B) : Tn g w w' := ⟨h.os, h.tape, h.output, h.size, fun k hk _ => h.block k (by omega)⟩
theorem Tn.drewN {g : Nat} {a w : World} (h : Tn g a w) (n : Nat) : Tn g a (w.drewN n) := ⟨h.os, h.tape, h.output, h.size, h.block⟩
theorem Tn.drew {g : Nat} {a w : World} (h : Tn g a w) : Tn g a w.drew := ⟨h.os, h.tape, h.output, h.size, h.block⟩
theorem Tn.setCell {g : Nat} {a w : World} (h : Tn g a w) (i : Nat) (u : Value) : Tn g a (w.setCell ⟨g, i, none⟩ u) :=
  h.trans ⟨rfl, rfl, rfl, by simp [World.setCell], fun k _ hk => Below.heap_setCell _ _ _ _ hk⟩
theorem Tn.below {g B : Nat} {w w' : World} (h : Tn g w w') (hB : B ≤ g) (hs : B ≤ w.heap.size) : Below B w w' := ⟨h.os, h.tape, h.output, h.size, fun k hk => h.block k (by omega) (by omega)⟩
theorem Tn.cell {g : Nat} {w w' : World} (h : Tn g w w') {p : Addr} (hp : p.block < w.heap.size) (hne : p.block ≠ g) : w'.cell? p = w.cell? p := World.cell?_of_block (h.block p.block hp hne)
theorem Blk.tn {w w' : World} {g h : Nat} {t : TypeId} {vs : List Value} (hb : Blk w g t vs) (hc : Tn h w w') (hne : g ≠ h) : Blk w' g t vs := (hc.block g hb.lt hne).trans hb
/-- What a call hands back: a slice at the head of a row of its own, from block B on, whose first cells are vs. -/
def Res (w : World) (B : Nat) (t : TypeId) (A : Option Addr) (c : Nat) (vs : List Value) : Prop :=
  vs.length ≤ c ∧ vs.length ≤ 281474976710656 ∧ (vs ≠ [] → ∃ g rest, A = some ⟨g, 0, none⟩ ∧ B ≤ g ∧ Blk w g t (vs ++ rest) ∧ vs.length + rest.length = c)

section
variable {w w' : World} {B B' : Nat} {t : TypeId} {A : Option Addr} {c : Nat} {vs : List Value}
theorem Res.rd (h : Res w B t A c vs) : Rd w w.heap.size A vs := fun hn => by
  obtain ⟨g, rest, rfl, _, hb, _⟩ := h.2.2 hn
  exact Rd.of_blk hb hb.lt 0 (fun k v hv => by
    rw [Nat.zero_add, List.getElem?_append_left (List.getElem?_eq_some_iff.1 hv).1]; exact hv) hn
theorem Res.none_ : Res w B t none 0 [] := ⟨by simp, by simp, fun h => absurd rfl h⟩
theorem Res.below (h : Res w B t A c vs) (hb : Below B' w w') (hB : w.heap.size ≤ B') : Res w' B t A c vs := ⟨h.1, h.2.1, fun hn => by
  obtain ⟨g, rest, e, hg, hk, hc⟩ := h.2.2 hn
  exact ⟨g, rest, e, hg, hk.below hb (by have := hk.lt; omega), hc⟩⟩
theorem Res.keepBut (h : Res w B t A c vs) {g : Nat} (hc : Tn g w w') (hne : vs ≠ [] → A ≠ some ⟨g, 0, none⟩) : Res w' B t A c vs := ⟨h.1, h.2.1, fun hn => by
  obtain ⟨k, rest, e, hg, hk, hcc⟩ := h.2.2 hn
  exact ⟨k, rest, e, hg, hk.tn hc (fun e2 => hne hn (by rw [e, e2])), hcc⟩⟩
theorem Res.mono (h : Res w B t A c vs) (hB : B' ≤ B) : Res w B' t A c vs := ⟨h.1, h.2.1, fun hn => by
  obtain ⟨g, rest, e, hg, hk, hc⟩ := h.2.2 hn
  exact ⟨g, rest, e, by omega, hk, hc⟩⟩
theorem Res.take (h : Res w B t A c vs) (n : Nat) : Res w B t A c (vs.take n) := ⟨by rw [List.length_take]; have := h.1; omega, by rw [List.length_take]; have := h.2.1; omega, fun hn => by
  obtain ⟨g, rest, e, hg, hk, hc⟩ := h.2.2 (by rintro rfl; simp at hn)
  exact ⟨g, vs.drop n ++ rest, e, hg, by rw [← List.append_assoc, List.take_append_drop]; exact hk, by rw [List.length_append, List.length_take, List.length_drop]; omega⟩⟩
theorem Res.of_blk {g : Nat} {rest : List Value} (h : Blk w g t (vs ++ rest)) (hg : B ≤ g) (hc : vs.length + rest.length = c) (hm : vs.length ≤ 281474976710656) : Res w B t (some ⟨g, 0, none⟩) c vs :=
  ⟨by omega, hm, fun _ => ⟨g, rest, rfl, hg, h, hc⟩⟩
theorem Res.of_blk0 {g : Nat} (h : Blk w g t vs) (hg : B ≤ g) (hm : vs.length ≤ 281474976710656) : Res w B t (some ⟨g, 0, none⟩) vs.length vs :=
  Res.of_blk (rest := []) (by simpa using h) hg (by simp) hm
end

/-- The blocks from V on, below U, are as they were. -/
def Mid (V U : Nat) (w w' : World) : Prop := ∀ k, V ≤ k → k < U → w'.heap[k]? = w.heap[k]?
theorem Mid.refl (V U : Nat) (w : World) : Mid V U w w := fun _ _ _ => rfl
theorem Mid.tn {V U k : Nat} {a w w' : World} (h : Mid V U a w) (ht : Tn k w w') (hk : k < V) (hU : U ≤ w.heap.size) : Mid V U a w' := fun i h1 h2 => (ht.block i (by omega) (by omega)).trans (h i h1 h2)
theorem Mid.below {V U B : Nat} {a w w' : World} (h : Mid V U a w) (hb : Below B w w') (hU : U ≤ B) : Mid V U a w' := fun i h1 h2 => (hb.block i (by omega)).trans (h i h1 h2)
theorem Blk.mid {V U : Nat} {w w' : World} {g : Nat} {t : TypeId} {vs : List Value} (hb : Blk w g t vs) (h : Mid V U w w') (h1 : V ≤ g) (h2 : g < U) : Blk w' g t vs := (h g h1 h2).trans hb
theorem u32s_ne {xs : List Nat} {k : Nat} (h : k < xs.length) : u32s xs ≠ [] := by intro e; have := u32s_length xs; rw [e] at this; simp at this; omega
theorem u32s_set (xs : List Nat) (i x : Nat) : (u32s xs).set i (Value.int .u32 (x : Int)) = u32s (xs.set i x) := by simp [u32s, List.map_set]
theorem Rd.at32 {w : World} {B : Nat} {A : Option Addr} {xs : List Nat} (h : Rd w B A (u32s xs)) {k : Nat} (hk : k < xs.length) : ∃ b off, A = some ⟨b, off, none⟩ ∧ b < B ∧ w.cell? ⟨b, off + k, none⟩ = some (.int .u32 (xs[k] : Nat)) := by
  obtain ⟨b, off, e, hb, hc⟩ := h (u32s_ne hk)
  exact ⟨b, off, e, hb, hc k _ (u32s_at hk)⟩

/-- How many columns. -/
def cols : List (List Nat) → Nat
  | [] => 0
  | r :: _ => r.length
/-- Every row is as long as the first. -/
def Rect (M : List (List Nat)) : Prop := ∀ r ∈ M, r.length = cols M
theorem Rect.at_ {M : List (List Nat)} (h : Rect M) (i : Nat) (hi : i < M.length) : M[i].length = cols M := h _ (List.getElem_mem hi)
def DigM (b : Nat) (M : List (List Nat)) : Prop := ∀ r ∈ M, ∀ x ∈ r, x < b
theorem DigM.at_ {b : Nat} {M : List (List Nat)} (h : DigM b M) {i k : Nat} (hi : i < M.length) (hk : k < M[i].length) : M[i][k] < b := h _ (List.getElem_mem hi) _ (List.getElem_mem hk)
/-- A slice of rows reads as these, all of it below block B; rows no longer than any slice can be. -/
def RdM (w : World) (B : Nat) (A : Option Addr) (M : List (List Nat)) : Prop :=
  M ≠ [] → ∃ b off, A = some ⟨b, off, none⟩ ∧ b < B ∧ ∀ i (h : i < M.length), ∃ Ai ci, w.cell? ⟨b, off + i, none⟩ = some (.slice Ai M[i].length ci) ∧ M[i].length ≤ ci ∧ M[i].length ≤ 281474976710656 ∧ Rd w B Ai (u32s M[i])
section
variable {w w' : World} {B B' : Nat} {A : Option Addr} {M : List (List Nat)}
theorem RdM.nil_ : RdM w B A [] := fun h => absurd rfl h
theorem RdM.mono (h : RdM w B A M) (hB : B ≤ B') : RdM w B' A M := fun hn => by
  obtain ⟨b, off, e, hb, hc⟩ := h hn
  exact ⟨b, off, e, by omega, fun i hi => by obtain ⟨Ai, ci, a1, a2, a3, a4⟩ := hc i hi; exact ⟨Ai, ci, a1, a2, a3, a4.mono hB⟩⟩
theorem RdM.keep (h : RdM w B A M) (hk : ∀ p : Addr, p.block < B → w'.cell? p = w.cell? p) : RdM w' B A M := fun hn => by
  obtain ⟨b, off, e, hb, hc⟩ := h hn
  exact ⟨b, off, e, hb, fun i hi => by obtain ⟨Ai, ci, a1, a2, a3, a4⟩ := hc i hi; exact ⟨Ai, ci, (hk _ hb).trans a1, a2, a3, a4.keep hk⟩⟩
theorem RdM.below (h : RdM w B A M) (hb : Below B w w') : RdM w' B A M := h.keep fun _ hp => hb.cell hp
theorem RdM.dr (h : RdM w B A M) (k : Dr w w') : RdM w' B A M := h.below (k.below B)
theorem RdM.at_ (h : RdM w B A M) {i : Nat} (hi : i < M.length) : ∃ b off Ai ci, A = some ⟨b, off, none⟩ ∧ b < B ∧ w.cell? ⟨b, off + i, none⟩ = some (.slice Ai M[i].length ci) ∧ M[i].length ≤ ci ∧ M[i].length ≤ 281474976710656 ∧ Rd w B Ai (u32s M[i]) := by
  obtain ⟨b, off, e, hb, hc⟩ := h (by rintro rfl; simp at hi)
  obtain ⟨Ai, ci, a1, a2, a3, a4⟩ := hc i hi
  exact ⟨b, off, Ai, ci, e, hb, a1, a2, a3, a4⟩
end

/-- The headers of rows. -/
def hdrs (hs : List (Option Addr × Nat)) (M : List (List Nat)) : List Value := List.zipWith (fun h r => Value.slice h.1 r.length h.2) hs M
theorem hdrs_length {hs : List (Option Addr × Nat)} {M : List (List Nat)} (h : hs.length = M.length) : (hdrs hs M).length = M.length := by simp [hdrs, h]
theorem hdrs_at {hs : List (Option Addr × Nat)} {M : List (List Nat)} {i : Nat} (h1 : i < hs.length) (h2 : i < M.length) : (hdrs hs M)[i]? = some (.slice hs[i].1 M[i].length hs[i].2) := by
  simp [hdrs, List.getElem?_zipWith, List.getElem?_eq_getElem h1, List.getElem?_eq_getElem h2]
theorem hdrs_set (hs : List (Option Addr × Nat)) (M : List (List Nat)) (i : Nat) (h : Option Addr × Nat) (r : List Nat) :
    (hdrs hs M).set i (.slice h.1 r.length h.2) = hdrs (hs.set i h) (M.set i r) := by
  apply List.ext_getElem?
  intro k
  simp only [hdrs, List.getElem?_set, List.getElem?_zipWith, List.length_zipWith]
  by_cases hk : i = k
  · subst hk
    simp only [if_true]
    by_cases h1 : i < hs.length
    · by_cases h2 : i < M.length
      · simp [h1, h2, Nat.lt_min]
      · simp [h1, h2]; omega
    · simp [h1]; omega
  · simp [hk]
/-- All rows lie below block U. -/
def UB (U : Nat) (hs : List (Option Addr × Nat)) : Prop := ∀ h ∈ hs, (∀ a, h.1 = some a → a.block < U) ∧ h.2 ≤ maxLen
theorem UB.mono {U U' : Nat} {hs : List (Option Addr × Nat)} (h : UB U hs) (hU : U ≤ U') : UB U' hs := fun x hx => ⟨fun a ha => Nat.lt_of_lt_of_le ((h x hx).1 a ha) hU, (h x hx).2⟩
theorem UB.none_ (r U : Nat) : UB U (List.replicate r (none, 0)) := fun x hx => by
  rw [(List.mem_replicate.1 hx).2]; exact ⟨(fun a ha => by cases ha), Nat.zero_le _⟩
theorem UB.set_ {U : Nat} {hs : List (Option Addr × Nat)} (h : UB U hs) (i : Nat) {b : Nat} (o : Nat) (hb : b < U) {c : Nat} (hc : c ≤ maxLen) : UB U (hs.set i (some ⟨b, o, none⟩, c)) := fun x hx => by
  rcases List.mem_or_eq_of_mem_set hx with hx | rfl
  · exact h x hx
  · refine ⟨fun a ha => ?_, hc⟩
    obtain rfl : (⟨b, o, none⟩ : Addr) = a := by simpa using ha
    exact hb
theorem UB.at_ {U : Nat} {hs : List (Option Addr × Nat)} (h : UB U hs) {i : Nat} (hi : i < hs.length) {b o : Nat} (e : hs[i].1 = some ⟨b, o, none⟩) : b < U := (h _ (List.getElem_mem hi)).1 _ e
theorem UB.cap {U : Nat} {hs : List (Option Addr × Nat)} (h : UB U hs) {i : Nat} (hi : i < hs.length) : hs[i].2 ≤ maxLen := (h _ (List.getElem_mem hi)).2

/-- A matrix in memory of one's own, from block B on: block g holds the headers, each row that is not empty lies alone in a block. -/
structure Own (w : World) (B g : Nat) (hs : List (Option Addr × Nat)) (M : List (List Nat)) : Prop where
  len : hs.length = M.length
  top : ∃ rest, Blk w g 29 (hdrs hs M ++ rest)
  lo : B ≤ g
  row : ∀ i (h : i < M.length), Res w B 24 (hs[i]'(len ▸ h)).1 (hs[i]'(len ▸ h)).2 (u32s M[i])
  ne : ∀ i (h : i < M.length), M[i] ≠ [] → (hs[i]'(len ▸ h)).1 ≠ some ⟨g, 0, none⟩
  nd : ∀ i j (hi : i < M.length) (hj : j < M.length), i ≠ j → M[i] ≠ [] → M[j] ≠ [] → (hs[i]'(len ▸ hi)).1 ≠ (hs[j]'(len ▸ hj)).1

section
variable {w w' : World} {B B' g : Nat} {hs : List (Option Addr × Nat)} {M : List (List Nat)}
theorem Own.lt (h : Own w B g hs M) : g < w.heap.size := by obtain ⟨rest, hb⟩ := h.top; exact hb.lt
theorem Own.below (h : Own w B g hs M) (hb : Below B' w w') (hB : w.heap.size ≤ B') : Own w' B g hs M :=
  ⟨h.len, by obtain ⟨rest, ht⟩ := h.top; exact ⟨rest, ht.below hb (by have := ht.lt; omega)⟩, h.lo, fun i hi => (h.row i hi).below hb hB, h.ne, h.nd⟩
theorem Own.dr (h : Own w B g hs M) (hd : Dr w w') : Own w' B g hs M := h.below (hd.below w.heap.size) (Nat.le_refl _)
theorem Own.drew (h : Own w B g hs M) : Own w.drew B g hs M := h.dr (Dr.refl w).drew
theorem Own.drewN (h : Own w B g hs M) (n : Nat) : Own (w.drewN n) B g hs M := h.dr ((Dr.refl w).step n)
theorem Own.mono (h : Own w B g hs M) (hB : B' ≤ B) : Own w B' g hs M :=
  ⟨h.len, h.top, Nat.le_trans hB h.lo, fun i hi => (h.row i hi).mono hB, h.ne, h.nd⟩
theorem Own.head (h : Own w B g hs M) {i : Nat} (hi : i < M.length) : w.cell? ⟨g, i, none⟩ = some (.slice (hs[i]'(h.len ▸ hi)).1 M[i].length (hs[i]'(h.len ▸ hi)).2) ∧ w.frozen? ⟨g, i, none⟩ = false := by
  obtain ⟨rest, ht⟩ := h.top
  refine ⟨?_, ht.frozen i⟩
  rw [ht.cell, List.getElem?_append_left (by rw [hdrs_length h.len]; exact hi), hdrs_at (h.len ▸ hi) hi]
theorem Own.rd (h : Own w B g hs M) : RdM w w.heap.size (some ⟨g, 0, none⟩) M := fun _ =>
  ⟨g, 0, rfl, h.lt, fun i hi => ⟨_, _, by rw [Nat.zero_add]; exact (h.head hi).1, by have := (h.row i hi).1; rw [u32s_length] at this; exact this, (by have := (h.row i hi).2.1; rw [u32s_length] at this; exact this), (h.row i hi).rd⟩⟩
theorem Own.at_ (h : Own w B g hs M) {i k : Nat} (hi : i < M.length) (hk : k < M[i].length) :
    ∃ gi rest, (hs[i]'(h.len ▸ hi)).1 = some ⟨gi, 0, none⟩ ∧ gi ≠ g ∧ B ≤ gi ∧ Blk w gi 24 (u32s M[i] ++ rest) ∧ M[i].length + rest.length = (hs[i]'(h.len ▸ hi)).2 := by
  obtain ⟨gi, rest, e, hB, hb, hc⟩ := (h.row i hi).2.2 (u32s_ne hk)
  refine ⟨gi, rest, e, fun e2 => ?_, hB, hb, by rw [u32s_length] at hc; exact hc⟩
  refine h.ne i hi (fun e3 => by rw [e3] at hk; simp at hk) ?_
  rw [e, e2]
/-- Row i's block alone has turned. -/
theorem Own.setRow (h : Own w B g hs M) {i gi : Nat} (hi : i < M.length) {r : List Nat} {rest : List Value} (e : (hs[i]'(h.len ▸ hi)).1 = some ⟨gi, 0, none⟩) (hc : Tn gi w w') (hb : Blk w' gi 24 (u32s r ++ rest)) (hr : r.length = M[i].length) (hg : gi ≠ g) (hB : B ≤ gi) (hcap : M[i].length + rest.length = (hs[i]'(h.len ▸ hi)).2) (hn : M[i] ≠ []) : Own w' B g hs (M.set i r) := by
  have hlen : hs.length = (M.set i r).length := by rw [List.length_set]; exact h.len
  have hnil : ∀ j (hj : j < (M.set i r).length), (M.set i r)[j] ≠ [] → M[j]'(by simpa using hj) ≠ [] := fun j hj hne => by
    rw [List.getElem_set] at hne
    split at hne
    · rename_i e; subst e; exact hn
    · exact hne
  refine ⟨hlen, ?_, h.lo, fun j hj => ?_, fun j hj hne => h.ne j (by simpa using hj) (hnil j hj hne), fun j k hj hk hjk h1 h2 => h.nd j k (by simpa using hj) (by simpa using hk) hjk (hnil j hj h1) (hnil k hk h2)⟩
  · obtain ⟨rest2, ht⟩ := h.top
    refine ⟨rest2, ?_⟩
    have e1 : hdrs hs (M.set i r) = hdrs hs M := by
      have := hdrs_set hs M i (hs[i]'(h.len ▸ hi)) r
      rw [List.set_getElem_self] at this
      rw [← this, hr]
      have h3 := hdrs_at (hs := hs) (M := M) (h.len ▸ hi) hi
      obtain ⟨h4, h5⟩ := List.getElem?_eq_some_iff.1 h3
      rw [← h5, List.set_getElem_self]
    rw [e1]
    exact ht.tn hc hg.symm
  · have hj' : j < M.length := by simpa using hj
    by_cases hij : i = j
    · subst hij
      simp only [List.getElem_set_self]
      refine ⟨by rw [u32s_length, hr]; omega, by have := (h.row i hi).2.1; rw [u32s_length] at this; rw [u32s_length, hr]; exact this, fun _ => ⟨gi, rest, e, hB, hb, by rw [u32s_length, hr]; exact hcap⟩⟩
    · rw [List.getElem_set_ne hij]
      refine (h.row j hj').keepBut hc fun hne e2 => ?_
      refine h.nd i j hi hj' hij hn (fun e3 => hne (by rw [e3]; rfl)) ?_
      rw [e, e2]
end
end
section
open Go.RowKit

theorem made_one (z : Value) (n : Nat) (hz : z.cells = #[z]) : madeCells z.cells (n * 1) = (List.replicate n z).toArray := by
  rw [hz, Nat.mul_one]
  apply Array.ext'
  simp only [madeCells, List.size_toArray, List.length_singleton, Nat.mod_one]
  simp [Array.toList_map, List.map_const']

theorem Tryd.info32 : (Tryd.prog.info? 24).map (fun i => (i.zero, i.size, i.bytes)) = some (some (.int .u32 0), 1, 4) := by kernel_rfl
theorem Tryd.infoRow : (Tryd.prog.info? 29).map (fun i => (i.zero, i.size, i.bytes)) = some (some (.slice none 0 0), 1, 24) := by kernel_rfl

theorem mkRow (n : Nat) (h : n ≤ 70368744177664) (w : World) : (Instr.makeSlice 29 (.int .i64 (n : Int)) (.int .i64 (n : Int))).run Tryd.prog w = .ok (.slice (some ⟨w.heap.size, 0, none⟩) n n) (w.alloc (.cells (List.replicate n (Value.int .u32 0)).toArray 24)) := by
  obtain ⟨i0, hi, hz0, hz1, hz2⟩ := info_parts Tryd.info32
  have hr := run_make (P := Tryd.prog) w 29 24 i0 (.int .u32 0) Tryd.underlying29 hi hz0 .i64 .i64 n n (by omega) (by omega) (by rw [hz2]; omega) (by omega)
  rw [hz1, Int.toNat_natCast, made_one _ _ rfl] at hr
  exact hr
theorem mkTop (n : Nat) (h : n ≤ 11728124029610) (w : World) : (Instr.makeSlice 23 (.int .i64 (n : Int)) (.int .i64 (n : Int))).run Tryd.prog w = .ok (.slice (some ⟨w.heap.size, 0, none⟩) n n) (w.alloc (.cells (List.replicate n (Value.slice none 0 0)).toArray 29)) := by
  obtain ⟨i0, hi, hz0, hz1, hz2⟩ := info_parts Tryd.infoRow
  have hr := run_make (P := Tryd.prog) w 23 29 i0 (.slice none 0 0) Tryd.underlying23 hi hz0 .i64 .i64 n n (by omega) (by omega) (by rw [hz2]; omega) (by omega)
  rw [hz1, Int.toNat_natCast, made_one _ _ rfl] at hr
  exact hr
end
section
open Go.RowKit

/-- Of the blocks that are there, those of L alone may have turned; new ones may lie behind. -/
structure Md (L : List Nat) (w w' : World) : Prop where
  os : w'.os = w.os
  tape : w'.tape = w.tape
  output : w'.output = w.output
  size : w.heap.size ≤ w'.heap.size
  block : ∀ k, k < w.heap.size → k ∉ L → w'.heap[k]? = w.heap[k]?
theorem Md.refl (L : List Nat) (w : World) : Md L w w := ⟨rfl, rfl, rfl, Nat.le_refl _, fun _ _ _ => rfl⟩
theorem Md.trans {L : List Nat} {a b c : World} (h : Md L a b) (k : Md L b c) : Md L a c :=
  ⟨k.os.trans h.os, k.tape.trans h.tape, k.output.trans h.output, Nat.le_trans h.size k.size, fun i hi hg => (k.block i (Nat.lt_of_lt_of_le hi h.size) hg).trans (h.block i hi hg)⟩
theorem Md.mono {L L' : List Nat} {a b : World} (h : Md L a b) (hl : ∀ x ∈ L, x ∈ L') : Md L' a b := ⟨h.os, h.tape, h.output, h.size, fun k hk hn => h.block k hk fun hm => hn (hl k hm)⟩
theorem Md.of_below {L : List Nat} {w w' : World} (h : Below w.heap.size w w') : Md L w w' := ⟨h.os, h.tape, h.output, h.size, fun k hk _ => h.block k hk⟩
theorem Md.drewN {L : List Nat} {a w : World} (h : Md L a w) (n : Nat) : Md L a (w.drewN n) := ⟨h.os, h.tape, h.output, h.size, h.block⟩
theorem Md.drew {L : List Nat} {a w : World} (h : Md L a w) : Md L a w.drew := ⟨h.os, h.tape, h.output, h.size, h.block⟩
theorem Md.dr {L : List Nat} {a w w' : World} (h : Md L a w) (hd : Dr w w') : Md L a w' := by
  obtain ⟨n, rfl⟩ := hd
  exact h.drewN n
theorem Md.setCell {L : List Nat} {a w : World} {g : Nat} (h : Md L a w) (hg : g ∈ L) (i : Nat) (u : Value) : Md L a (w.setCell ⟨g, i, none⟩ u) :=
  h.trans ⟨rfl, rfl, rfl, by simp [World.setCell], fun k _ hk => Below.heap_setCell _ _ _ _ fun e => hk (e ▸ hg)⟩
theorem Md.below {L : List Nat} {B : Nat} {w w' : World} (h : Md L w w') (hL : ∀ x ∈ L, B ≤ x) (hB : B ≤ w.heap.size) : Below B w w' :=
  ⟨h.os, h.tape, h.output, h.size, fun k hk => h.block k (by omega) fun hm => by have := hL k hm; omega⟩
theorem Blk.md {L : List Nat} {w w' : World} {g : Nat} {t : TypeId} {vs : List Value} (hb : Blk w g t vs) (h : Md L w w') (hg : g ∉ L) : Blk w' g t vs := (h.block g hb.lt hg).trans hb

/-- A row by its entries. -/
def rowN (n : Nat) (f : Nat → Nat) : List Value := u32s ((List.range n).map f)
theorem rowN_at {n k : Nat} (f : Nat → Nat) (h : k < n) : (rowN n f)[k]? = some (.int .u32 (f k : Int)) := by
  unfold rowN
  rw [u32s_at (by simpa using h)]; simp
theorem rowN_length (n : Nat) (f : Nat → Nat) : (rowN n f).length = n := by simp [rowN, u32s]
theorem rowN_congr {n : Nat} {f g : Nat → Nat} (h : ∀ k, k < n → f k = g k) : rowN n f = rowN n g := by
  unfold rowN
  rw [List.map_congr_left (g := g) fun k hk => h k (by simpa using hk)]
theorem rowN_set {n : Nat} (f : Nat → Nat) (k x : Nat) : (rowN n f).set k (.int .u32 (x : Int)) = rowN n fun j => if j = k then x else f j := by
  apply List.ext_getElem?
  intro i
  by_cases hi : i < n
  · rw [rowN_at _ hi, List.getElem?_set]
    by_cases e : k = i
    · subst e; rw [if_pos rfl, if_pos (by rw [rowN_length]; exact hi), if_pos rfl]
    · rw [if_neg e, rowN_at _ hi, if_neg (Ne.symm e)]
  · rw [List.getElem?_eq_none (by rw [List.length_set, rowN_length]; omega), List.getElem?_eq_none (by rw [rowN_length]; omega)]
/-- The headers. -/
def hdN (bs : List Nat) (n : Nat) : List Value := bs.map fun b => .slice (some ⟨b, 0, none⟩) n n
theorem hdN_at {bs : List Nat} {n i : Nat} (h : i < bs.length) : (hdN bs n)[i]? = some (.slice (some ⟨bs[i], 0, none⟩) n n) := by simp [hdN, List.getElem?_eq_getElem h]
/-- A matrix: block g holds the headers, each row lies in a block of its own. -/
structure Mt (w : World) (g : Nat) (bs : List Nat) (n : Nat) (E : Nat → Nat → Nat) : Prop where
  top : Blk w g 29 (hdN bs n)
  row : ∀ i (h : i < bs.length), Blk w bs[i] 24 (rowN n (E i))
  nd : bs.Nodup
  ng : g ∉ bs
section
variable {w w' : World} {g n : Nat} {bs : List Nat} {E : Nat → Nat → Nat}
theorem Mt.keep (h : Mt w g bs n E) (hk : ∀ k, k = g ∨ k ∈ bs → w'.heap[k]? = w.heap[k]?) : Mt w' g bs n E :=
  ⟨(hk g (.inl rfl)).trans h.top, fun i hi => (hk _ (.inr (List.getElem_mem hi))).trans (h.row i hi), h.nd, h.ng⟩
theorem Mt.lt (h : Mt w g bs n E) : ∀ k, k = g ∨ k ∈ bs → k < w.heap.size := fun k hk => by
  rcases hk with rfl | hk
  · exact h.top.lt
  · obtain ⟨i, hi, rfl⟩ := List.mem_iff_getElem.1 hk
    exact (h.row i hi).lt
theorem Mt.md {L : List Nat} (h : Mt w g bs n E) (hm : Md L w w') (hL : ∀ k, k = g ∨ k ∈ bs → k ∉ L) : Mt w' g bs n E := h.keep fun k hk => hm.block k (h.lt k hk) (hL k hk)
theorem Mt.below (h : Mt w g bs n E) (hb : Below w.heap.size w w') : Mt w' g bs n E := h.keep fun k hk => hb.block k (h.lt k hk)
theorem Mt.drewN (h : Mt w g bs n E) (m : Nat) : Mt (w.drewN m) g bs n E := ⟨h.top, h.row, h.nd, h.ng⟩
theorem Mt.dr (h : Mt w g bs n E) (hd : Dr w w') : Mt w' g bs n E := by
  obtain ⟨m, rfl⟩ := hd
  exact h.drewN m
theorem Mt.congr {F : Nat → Nat → Nat} (h : Mt w g bs n E) (he : ∀ i k, i < bs.length → k < n → E i k = F i k) : Mt w g bs n F :=
  ⟨h.top, fun i hi => by rw [← rowN_congr fun k hk => he i k hi hk]; exact h.row i hi, h.nd, h.ng⟩
theorem Mt.head (h : Mt w g bs n E) {i : Nat} (hi : i < bs.length) : w.cell? ⟨g, i, none⟩ = some (.slice (some ⟨bs[i], 0, none⟩) n n) ∧ w.frozen? ⟨g, i, none⟩ = false := ⟨by rw [h.top.cell, hdN_at hi], h.top.frozen i⟩
theorem Mt.cell (h : Mt w g bs n E) {i k : Nat} (hi : i < bs.length) (hk : k < n) : w.cell? ⟨bs[i], k, none⟩ = some (.int .u32 (E i k : Int)) ∧ w.frozen? ⟨bs[i], k, none⟩ = false := ⟨by rw [(h.row i hi).cell, rowN_at _ hk], (h.row i hi).frozen k⟩
/-- One entry stored. -/
theorem Mt.put (h : Mt w g bs n E) {i k : Nat} (hi : i < bs.length) (x : Nat) : Mt (w.setCell ⟨bs[i], k, none⟩ (.int .u32 (x : Int))) g bs n fun a b => if a = i ∧ b = k then x else E a b := by
  refine ⟨h.top.far (fun e => h.ng (e ▸ List.getElem_mem hi)) _, fun j hj => ?_, h.nd, h.ng⟩
  by_cases e : j = i
  · subst e
    have := (h.row j hj).set_ k (.int .u32 (x : Int))
    rw [rowN_set] at this
    rw [rowN_congr (g := fun b => if b = k then x else E j b) fun b _ => by simp]
    exact this
  · rw [rowN_congr (g := E j) fun b _ => by rw [if_neg fun e2 => e e2.1]]
    exact (h.row j hj).far (fun e2 => e ((List.getElem_inj h.nd).1 e2)) _
theorem Mt.reads (h : Mt w g bs n E) (hn : n ≤ 281474976710656) : RdM w w.heap.size (some ⟨g, 0, none⟩) ((List.range bs.length).map fun i => (List.range n).map (E i)) := fun _ =>
  ⟨g, 0, rfl, h.top.lt, fun i hi => by
    have hi2 : i < bs.length := by simpa using hi
    refine ⟨some ⟨bs[i], 0, none⟩, n, ?_, by simp, by simpa using hn, ?_⟩
    · rw [Nat.zero_add, (h.head hi2).1]; simp
    · simp only [List.getElem_map, List.getElem_range]
      exact Rd.of_blk (h.row i hi2) (h.row i hi2).lt 0 fun k v hv => by rw [Nat.zero_add]; exact hv⟩
end
end
section
open Go.RowKit

/-- Where the matrix on its way stands: its prime. -/
def Pw (w : World) (gw p : Nat) : Prop := w.cell? ⟨gw, 0, none⟩ = some (.int .u64 (p : Int))
theorem Pw.keep {w w' : World} {gw p : Nat} (h : Pw w gw p) (hk : w'.heap[gw]? = w.heap[gw]?) : Pw w' gw p := (World.cell?_of_block (a := ⟨gw, 0, none⟩) hk).trans h
theorem Pw.lt {w : World} {gw p : Nat} (h : Pw w gw p) : gw < w.heap.size := by
  rcases Nat.lt_or_ge gw w.heap.size with hlt | hge
  · exact hlt
  · unfold Pw World.cell? at h
    rw [Array.getElem?_eq_none hge] at h; cases h
theorem Pw.md {L : List Nat} {w w' : World} {gw p : Nat} (h : Pw w gw p) (hm : Md L w w') (hg : gw ∉ L) : Pw w' gw p := h.keep (hm.block gw h.lt hg)
theorem Pw.dr {w w' : World} {gw p : Nat} (h : Pw w gw p) (hd : Dr w w') : Pw w' gw p := by
  obtain ⟨n, rfl⟩ := hd
  exact h

/-- Places i and k exchanged. -/
def tr (i k a : Nat) : Nat := if a = k then i else if a = i then k else a
/-- A matrix that may be nil. -/
def Mo (w : World) (A : Option Addr) (g : Nat) (bs : List Nat) (n : Nat) (E : Nat → Nat → Nat) : Prop := bs = [] ∨ (A = some ⟨g, 0, none⟩ ∧ Mt w g bs n E)
theorem Mo.md {w w' : World} {A : Option Addr} {g n : Nat} {bs L : List Nat} {E : Nat → Nat → Nat} (h : Mo w A g bs n E) (hm : Md L w w') (hL : bs ≠ [] → ∀ k, k = g ∨ k ∈ bs → k ∉ L) : Mo w' A g bs n E := by
  rcases h with h | ⟨h1, h2⟩
  · exact .inl h
  · by_cases hb : bs = []
    · exact .inl hb
    · exact .inr ⟨h1, h2.md hm (hL hb)⟩
theorem Mo.congr {w : World} {A : Option Addr} {g n : Nat} {bs : List Nat} {E F : Nat → Nat → Nat} (h : Mo w A g bs n E) (he : ∀ i k, i < bs.length → k < n → E i k = F i k) : Mo w A g bs n F := by
  rcases h with h | ⟨h1, h2⟩
  · exact .inl h
  · exact .inr ⟨h1, h2.congr he⟩
/-- The first j rows done. -/
def upto (j : Nat) (E F : Nat → Nat → Nat) : Nat → Nat → Nat := fun a b => if a < j then F a b else E a b
end
end Go.Proofs.YtbafiahmcfkboaaDoor
