/- Is is right: what prime's Is and the reference's Is answer o. A map of numbers of 32 bits that the call made, as a list of. prime's Add, Sub, Mul, Neg, Pow and what the reference answe. prime's inverse, Quo and Inv modulo a prime: by Fermat's pow. The walk of PrimeLaws: true. -/
import Derived.Test.YtcjgilagldbjnaaGreatDoorPkBb30
import Derived.Test.YtcjgilagldbjnaaGreatDoorPkBb38
import Derived.Test.YtcjgilagldbjnaaGreatDoorPkBb29
import Derived.Maps.OwnSet
import Derived.Maps.Views
import Derived.Deep.QuietTactic
import Derived.BigQuiet
import Derived.Deep.CutBlock
import Derived.RegionTactic
import Derived.WalkMore
import Derived.IntWalk
import Derived.Deep.DeepCutAuto
namespace Go.Proofs.YtcjgilagldbjnaaGreatDoor
section
open Go.RowKit
theorem Bases.drewN {w : World} (h : Bases w) (n : Nat) : Bases (w.drewN n) := h
noncomputable def isP (n : Nat) : Bool := @decide (Pr n) (Classical.propDecidable _)
theorem isP_true {n : Nat} (h : Pr n) : isP n = true := by unfold isP; exact @decide_eq_true _ (Classical.propDecidable _) h
theorem isP_false {n : Nat} (h : ¬ Pr n) : isP n = false := by unfold isP; exact @decide_eq_false _ (Classical.propDecidable _) h
theorem isP_cases (n : Nat) : (Pr n ∧ isP n = true) ∨ (¬ Pr n ∧ isP n = false) := by
 by_cases h : Pr n
 ·exact Or.inl ⟨h, isP_true h⟩
 ·exact Or.inr ⟨h, isP_false h⟩
theorem Pr.of_none {n : Nat} (h2 : 2 ≤ n) (h : ∀ e, 2 ≤ e → e < n → n % e ≠ 0) : Pr n := ⟨h2, fun e he => by
 have hle := Nat.le_of_dvd (by omega) he
 have h0 : e ≠ 0 := fun h0 => by subst h0; have := Nat.eq_zero_of_zero_dvd he; omega
 rcases Nat.lt_or_ge e 2 with h3 | h3
 ·exact Or.inl (by omega)
 ·rcases Nat.lt_or_ge e n with h4 | h4
  ·exact absurd (Nat.mod_eq_zero_of_dvd he) (h e h3 h4)
  ·exact Or.inr (by omega)⟩
theorem Pr.none {n : Nat} (h : Pr n) (e : Nat) (h2 : 2 ≤ e) (hlt : e < n) : n % e ≠ 0 := fun h0 => by
 rcases h.2 e (Nat.dvd_of_mod_eq_zero h0) with h1 | h1 <;> omega
theorem pr_iff_least {n : Nat} : Pr n ↔ Least n n := ⟨fun h => ⟨h.1, Nat.mod_self n, fun e h1 h2 => h.none e h1 h2⟩, fun h => Pr.of_none h.1 fun e h1 h2 => h.2.2 e h1 h2⟩
theorem pr_two : Pr 2 := Pr.of_none (by omega) fun e h1 h2 => by omega
theorem pr_three : Pr 3 := Pr.of_none (by omega) fun e h1 h2 => by
 obtain rfl : e = 2 := by omega
 decide
theorem pr_seven : Pr 7 := Pr.of_none (by omega) fun e h1 h2 => (show ∀ e < 7, 2 ≤ e → 7 % e ≠ 0 by decide) e h2 h1
theorem pr_61 : Pr 61 := Pr.of_none (by omega) fun e h1 h2 => (show ∀ e < 61, 2 ≤ e → 61 % e ≠ 0 by decide) e h2 h1
theorem Pr.odd {n : Nat} (h : Pr n) (h2 : 2 < n) : n % 2 = 1 := by
 have := h.none 2 (by omega) h2
 omega
theorem isN_isP (n d s : Nat) (hn : n < 4294967296) (h : 4 ≤ n → n % 2 = 1 → n - 1 = d * 2 ^ s ∧ d % 2 = 1) : isN n d s = isP n := by
 unfold isN
 by_cases h4 : n < 4
 ·rw [if_pos h4]
  rcases isP_cases n with ⟨hp, e⟩ | ⟨hp, e⟩
  ·rw [e]; exact decide_eq_true hp.1
  ·rw [e]
   refine decide_eq_false fun h1 => hp ?_
   rcases (show n = 2 ∨ n = 3 by omega) with rfl | rfl
   ·exact pr_two
   ·exact pr_three
 ·rw [if_neg h4]
  by_cases h2 : n % 2 = 1
  ·rw [if_pos h2]
   obtain ⟨hd, ho⟩ := h (by omega) h2
   rcases isP_cases n with ⟨hp, e⟩ | ⟨hp, e⟩
   ·rw [e]
    have key : ∀ b, base1 n d s b = true := fun b => by
     unfold base1
     by_cases hb : b % n = 0
     ·rw [if_pos hb]
     ·rw [if_neg hb]
      exact hp.mr_passes (fun hx => hb (Nat.mod_eq_zero_of_dvd hx)) hd
    unfold passAll
    rw [key 2, key 7, key 61]; rfl
   ·rw [e]
    refine Bool.eq_false_iff.2 fun hx => hp ?_
    unfold passAll at hx
    have h7 : n ≠ 7 := fun h7 => hp (h7 ▸ pr_seven)
    have h61 : n ≠ 61 := fun h61 => hp (h61 ▸ pr_61)
    have key : ∀ b, Pr b → n ≠ b → base1 n d s b = true → mr b n d s = true := fun b hb hne hx => by
     unfold base1 at hx
     rwa [if_neg] at hx
     intro h0
     rcases hb.2 n (Nat.dvd_of_mod_eq_zero h0) with e | e
     ·omega
     ·exact hne e
    cases e2 : base1 n d s 2 with
    | false => rw [e2] at hx; simp at hx
    | true =>
     cases e7 : base1 n d s 7 with
     | false => rw [e2, e7] at hx; simp at hx
     | true =>
      rw [e2, e7] at hx
      have e61 : base1 n d s 61 = true := by simpa using hx
      refine Passes.prime (fun d' s' hd' ho' => ?_) (by omega) h2 hn
      obtain ⟨rfl, rfl⟩ := split_unique ho' ho (hd'.symm.trans hd)
      exact ⟨key 2 pr_two (by omega) e2, key 7 pr_seven h7 e7, key 61 pr_61 h61 e61⟩
  ·rw [if_neg h2, isP_false]
   intro hp
   exact h2 (hp.odd (by omega))
theorem is_all (n : Nat) (hn : n < 4294967296) (w : World) (hw : Bases w) :
  Calls Tryz.prog 30 #[.int .u32 (n : Int)] w fun e w' => e = .returned (.bool (isP n)) ∧ w' = w := by
 by_cases h : 4 ≤ n ∧ n % 2 = 1
 ·obtain ⟨d, s, hd, ho⟩ := split_exists (n - 1) (by omega)
  have hs : s ≤ 32 := by
   rcases Nat.lt_or_ge s 33 with h1 | h1
   ·omega
   ·exfalso
    have h2 : 2 ^ 33 ≤ 2 ^ s := Nat.pow_le_pow_right (by omega) h1
    have h3 : 2 ^ s ≤ d * 2 ^ s := Nat.le_mul_of_pos_left _ (by omega)
    have h4 : (2 : Nat) ^ 33 = 8589934592 := by decide
    omega
  have := is_any n d s hn (fun _ _ => ⟨hd, ho, hs⟩) w hw
  rwa [isN_isP n d s hn fun _ _ => ⟨hd, ho⟩] at this
 ·have := is_any n 0 0 hn (fun h1 h2 => absurd ⟨h1, h2⟩ h) w hw
  rwa [isN_isP n 0 0 hn fun h1 h2 => absurd ⟨h1, h2⟩ h] at this
theorem is_yes (n : Nat) (hp : Pr n) (hn : n < 4294967296) (w : World) (hw : Bases w) :
  Calls Tryz.prog 30 #[.int .u32 (n : Int)] w fun e w' => e = .returned (.bool true) ∧ w' = w := by
 have := is_all n hn w hw
 rwa [isP_true hp] at this
theorem is_no (n : Nat) (hp : ¬ Pr n) (hn : n < 4294967296) (w : World) (hw : Bases w) :
  Calls Tryz.prog 30 #[.int .u32 (n : Int)] w fun e w' => e = .returned (.bool false) ∧ w' = w := by
 have := is_all n hn w hw
 rwa [isP_false hp] at this
set_option maxHeartbeats 400000 in
theorem ris_all (n : Nat) (hn : n < 4294967296) (w : World) :
  Calls Tryz.prog 11 #[.int .u32 (n : Int)] w fun e w' => e = .returned (.bool (isP n)) ∧ w' = w := by
 by_cases h2 : 2 ≤ n
 ·obtain ⟨m, hm⟩ := least_exists n h2
  have hl := fun W => least_any n m hn h2 hm W
  by_cases hmn : m = n
  ·subst hmn
   have E := hi9 (isP_true (pr_iff_least.2 hm))
   have Hl := hi9 hl
   clear hl hm
   go_enter Tryz.func11, Tryz.ntmps11
   go_wp2_with fail
   refine (Hl.out _).mono ?_
   rintro _ _ ⟨rfl, rfl⟩
   go_wp2
   go_ret
   exact ⟨by rw [E.out]; simp, rfl⟩
  ·have E := hi9 (isP_false fun h => hmn (hm.unique (pr_iff_least.1 h)))
   have Hl := hi9 hl
   have t1 : ((m : Int) == (n : Int)) = false := by simp; omega
   clear hl hm
   go_enter Tryz.func11, Tryz.ntmps11
   go_wp2_with fail
   refine (Hl.out _).mono ?_
   rintro _ _ ⟨rfl, rfl⟩
   go_wp2
   go_ret
   exact ⟨by rw [E.out]; rfl, rfl⟩
 ·have E := hi9 (isP_false fun h : Pr n => h2 h.1)
  go_enter Tryz.func11, Tryz.ntmps11
  go_wp2
  go_ret
  exact ⟨by rw [E.out]; simp, rfl⟩
theorem ris_yes (n : Nat) (hp : Pr n) (hn : n < 4294967296) (w : World) :
  Calls Tryz.prog 11 #[.int .u32 (n : Int)] w fun e w' => e = .returned (.bool true) ∧ w' = w := by
 have := ris_all n hn w
 rwa [isP_true hp] at this
theorem ris_no (n : Nat) (hp : ¬ Pr n) (hn : n < 4294967296) (w : World) :
  Calls Tryz.prog 11 #[.int .u32 (n : Int)] w fun e w' => e = .returned (.bool false) ∧ w' = w := by
 have := ris_all n hn w
 rwa [isP_false hp] at this
end
section
open Go.RowKit Go.Maps
def Mp (w : World) (g : Nat) (S : List Nat) : Prop := ∃ D : DataW Unit, w.ownsMap Tryz.prog 34 (plainElem Tryz.prog 3) g S.length D ∧ IsMap D ∧ ∀ x : Nat, x < 4294967296 → Maps.has D (.int .u32 (x : Int)) = decide (x ∈ S)
theorem mp_law : Keyed Tryz.prog 34 := int_keyed Tryz.underlying34
theorem mp_zero (w : World) : (zeroValue 3).run Tryz.prog w = .ok (.int .i64 0) w := by kernel_rfl
theorem mp_wf {x : Nat} (h : x < 4294967296) : (Lit.int .u32 (x : Int)).wf = true := WalkArith.wf_u32 ⟨by omega, by omega⟩
section
variable {w w' : World} {g : Nat} {S : List Nat}
theorem Mp.made (w : World) : Mp (w.alloc (.map #[] 0)) w.heap.size [] := ⟨_, World.ownsMap_made w _ _ _, isMap_empty, fun x _ => by simp [has_eq]⟩
theorem Mp.lt (h : Mp w g S) : g < w.heap.size := by obtain ⟨_, h, _⟩ := h; exact h.lt
theorem Mp.same (h : Mp w g S) (hb : w'.heap[g]? = w.heap[g]?) : Mp w' g S := by
 obtain ⟨D, ⟨es, clock, h1, h2⟩, h3⟩ := h
 exact ⟨D, ⟨es, clock, hb.trans h1, h2⟩, h3⟩
theorem Mp.look (h : Mp w g S) {x : Nat} (hx : x < 4294967296) : ∃ c : Int, (Instr.lookup 64 (.map (some g)) (.int .u32 (x : Int)) true).run Tryz.prog w = .ok (.tuple #[.int .i64 c, .bool (decide (x ∈ S))]) w := by
 obtain ⟨D, h1, _, h3⟩ := h
 obtain ⟨v, ps, hrun, hv⟩ := h1.look_ok mp_law Tryz.underlying64 (mp_zero w) (plainElem_int (q := .i64) Tryz.underlying3 (by decide)) (keyOf_int_mk Tryz.underlying34 (mp_wf hx))
 obtain ⟨c, rfl, _⟩ := plainElem_int_inv Tryz.underlying3 hv
 exact ⟨c, by rw [hrun, h3 x hx]⟩
theorem Mp.put (h : Mp w g S) (hS : S.length ≤ 4294967296) {x : Nat} (hx : x < 4294967296) {v : Int} (hv : -9223372036854775808 ≤ v ∧ v ≤ 9223372036854775807) :
  ∃ w', (Instr.mapUpdate 64 (.map (some g)) (.int .u32 (x : Int)) (.int .i64 v)).run Tryz.prog w = .ok () w' ∧ Mp w' g (S ++ [x]) ∧ w.grownBy w' (some g) := by
 obtain ⟨D, h1, h2, h3⟩ := h
 obtain ⟨w', hrun, h4, h5⟩ := h1.update mp_law Tryz.underlying64 (by unfold maxLen; omega) (keyOf_int_mk Tryz.underlying34 (mp_wf hx)) (plainElem_int Tryz.underlying3 (WalkArith.wf_i64 hv))
 refine ⟨w', hrun, ⟨_, by rw [List.length_append]; exact h4, h2.put _ _, fun y hy => ?_⟩, h5⟩
 by_cases e : y = x
 ·subst e
  rw [has_put_same h2 (by trivial)]
  simp
 ·rw [has_put_other (by intro e2; injection e2 with _ e3; omega), h3 y hy]
  simp [e]
end
theorem wpList_mp_look {P : Program} {w : World} {ops : Array Oper} {rest : List Oper} {o : Oper} {a : Act} {Q : Exit → Act → World → Prop} (hgd : o.guard = none) (m x : Operand) (t : TypeId) (c : Bool)
  (ho : o.op = Op.lookup t m x c) (mv xv : Value) (hm : a.eval m = mv) (hx : a.eval x = xv) (v' : Value)
  (hrun : (Instr.lookup t mv xv c).run P w = .ok v' w) (h : wpList P ops Q rest (a.put o.dst v') w) : wpList P ops Q (o :: rest) a w := by
 refine wpList_plain hgd fun K hK => ?_
 unfold Oper.wp
 simp [execOp, ho, hm, hx, hrun, Result.andThen]
 exact hK _ _ h
theorem wpList_mp_put {P : Program} {w : World} {ops : Array Oper} {rest : List Oper} {o : Oper} {a : Act} {Q : Exit → Act → World → Prop} (hgd : o.guard = none) (m x v : Operand) (t : TypeId)
  (ho : o.op = Op.mapUpdate t m x v) (mv xv vv : Value) (hm : a.eval m = mv) (hx : a.eval x = xv) (hv : a.eval v = vv) (w' : World)
  (hrun : (Instr.mapUpdate t mv xv vv).run P w = .ok () w') (h : wpList P ops Q rest (a.put o.dst undef) w') : wpList P ops Q (o :: rest) a w := by
 refine wpList_plain hgd fun K hK => ?_
 unfold Oper.wp
 simp [execOp, ho, hm, hx, hv, hrun, Result.andThen]
 exact hK _ _ h
def prodTo9 (ps : List Nat) : Nat → Nat
 | 0 => 1
 | k + 1 => prodTo9 ps k * ps.getD k 1
def En (ps : List Nat) (k : Nat) : Prop := (∀ i (h : i < ps.length), i < k → Pr ps[i]) ∧ (ps.take k).Nodup
theorem En.zero (ps : List Nat) : En ps 0 := ⟨fun _ _ h => absurd h (by omega), by simp⟩
theorem En.next {ps : List Nat} {k : Nat} (h : En ps k) (hk : k < ps.length) (hp : Pr ps[k]) (hn : ps[k] ∉ ps.take k) : En ps (k + 1) := by
 refine ⟨fun i hi hik => ?_, ?_⟩
 ·by_cases e : i = k
  ·subst e; exact hp
  ·exact h.1 i hi (by omega)
 ·rw [List.take_succ_eq_append_getElem hk]
  exact List.nodup_append.2 ⟨h.2, by simp, fun a ha b hb e => hn (by rw [List.mem_singleton] at hb; rw [← hb, ← e]; exact ha)⟩
theorem En.back {ps : List Nat} {k j : Nat} (h : En ps k) (hj : j ≤ k) : En ps j := ⟨fun i hi hij => h.1 i hi (by omega), by
 have := h.2
 rw [show ps.take j = (ps.take k).take j by rw [List.take_take, Nat.min_eq_left hj]]
 exact this.sublist (List.take_sublist _ _)⟩
theorem En.here {ps : List Nat} {k : Nat} (h : En ps (k + 1)) (hk : k < ps.length) : Pr ps[k] ∧ ps[k] ∉ ps.take k := by
 refine ⟨h.1 k hk (by omega), fun hm => ?_⟩
 have h2 := h.2
 rw [List.take_succ_eq_append_getElem hk] at h2
 exact (List.nodup_append.1 h2).2.2 _ hm _ (List.mem_singleton.2 rfl) rfl
def EnIs (ps : List Nat) (t c : Nat) (x y : Bool) : Prop :=
 (c = 40 ∧ x = false ∧ y = false ∧ ∃ k, ∃ h : k < ps.length, En ps k ∧ ¬ Pr ps[k]) ∨
 (c = 60 ∧ x = false ∧ y = false ∧ ∃ k, ∃ h : k < ps.length, En ps k ∧ Pr ps[k] ∧ ps[k] ∈ ps.take k) ∨
 (c = 0 ∧ En ps ps.length ∧ x = decide (t < prodTo9 ps ps.length) ∧ y = (decide (ps.length = 0) || decide (prodTo9 ps (ps.length - 1) ≤ t)))
theorem en_bad {ps : List Nat} {j k : Nat} (h : En ps j) (hk : k < ps.length) (h2 : ¬ Pr ps[k] ∨ ps[k] ∈ ps.take k) : j ≤ k := by
 refine Nat.le_of_not_lt fun hlt => ?_
 have h3 := (h.back (j := k + 1) (by omega)).here hk
 rcases h2 with h2 | h2
 ·exact h2 h3.1
 ·exact h3.2 h2
section
variable {ps : List Nat} {t c k : Nat} {x y : Bool}
theorem EnIs.none (h : EnIs ps t c x y) (hk : k < ps.length) (he : En ps k) (hp : ¬ Pr ps[k]) : c = 40 ∧ x = false ∧ y = false := by
 rcases h with ⟨a, b, d, _⟩ | ⟨_, _, _, j, hj, h1, h2, h3⟩ | ⟨_, h1, _⟩
 ·exact ⟨a, b, d⟩
 ·have e1 := en_bad h1 hk (.inl hp)
  have e2 := en_bad he hj (.inr h3)
  obtain rfl : j = k := by omega
  exact absurd h2 hp
 ·exact absurd (en_bad h1 hk (.inl hp)) (by omega)
theorem EnIs.twice (h : EnIs ps t c x y) (hk : k < ps.length) (he : En ps k) (hp : Pr ps[k]) (hm : ps[k] ∈ ps.take k) : c = 60 ∧ x = false ∧ y = false := by
 rcases h with ⟨_, _, _, j, hj, h1, h2⟩ | ⟨a, b, d, _⟩ | ⟨_, h1, _⟩
 ·have e1 := en_bad h1 hk (.inr hm)
  have e2 := en_bad he hj (.inl h2)
  obtain rfl : j = k := by omega
  exact absurd hp h2
 ·exact ⟨a, b, d⟩
 ·exact absurd (en_bad h1 hk (.inr hm)) (by omega)
theorem EnIs.fine (h : EnIs ps t c x y) (he : En ps ps.length) : c = 0 ∧ x = decide (t < prodTo9 ps ps.length) ∧ y = (decide (ps.length = 0) || decide (prodTo9 ps (ps.length - 1) ≤ t)) := by
 rcases h with ⟨_, _, _, j, hj, h1, h2⟩ | ⟨_, _, _, j, hj, h1, h2, h3⟩ | ⟨a, _, b, d⟩
 ·exact absurd (en_bad he hj (.inl h2)) (by omega)
 ·exact absurd (en_bad he hj (.inr h3)) (by omega)
 ·exact ⟨a, b, d⟩
end
theorem prodTo9_lt (ps : List Nat) (hd : ∀ x ∈ ps, x < 4294967296) : ∀ k, k ≤ ps.length → prodTo9 ps k < 4294967296 ^ (k + 1)
 | 0, _ => by simp [prodTo9]
 | k + 1, hk => by
  have h1 := prodTo9_lt ps hd k (by omega)
  have h2 : ps.getD k 1 < 4294967296 := by
   rw [List.getD_eq_getElem?_getD, List.getElem?_eq_getElem hk]
   exact hd _ (List.getElem_mem hk)
  rw [prodTo9, Nat.pow_succ]
  exact Nat.mul_lt_mul'' h1 h2
end
section
open Go.RowKit
end
section
open Go.RowKit
theorem Pr.inv_right {p a : Nat} (hp : Pr p) (ha : ¬ p ∣ a) : a * (a ^ (p - 2) % p) % p = 1 := by
 have h2 := hp.1
 rw [Nat.mul_mod_mod, ← hp.fermat ha]
 congr 1
 rw [Nat.mul_comm, ← Nat.pow_succ]
 congr 1; omega
theorem inv_unique {p a u v : Nat} (hu : a * u % p = 1) (hv : a * v % p = 1) (hlt : v < p) (hul : u < p) : v = u := by
 have h1 : v * (a * u) % p = v := by rw [Nat.mul_mod, hu, Nat.mul_one, Nat.mod_mod, Nat.mod_eq_of_lt hlt]
 have h2 : u * (a * v) % p = u := by rw [Nat.mul_mod, hv, Nat.mul_one, Nat.mod_mod, Nat.mod_eq_of_lt hul]
 exact h1.symm.trans ((congrArg (· % p) (show v * (a * u) = u * (a * v) from by ac_rfl)).trans h2)
def Eu (a p r s X Y : Nat) (x y : Int) : Prop :=
 s < r ∧ 1 ≤ s ∧ Nat.gcd r s = 1 ∧ Y * r + X * s = p ∧ ((x = -(X : Int) ∧ y = (Y : Int)) ∨ (x = (X : Int) ∧ y = -(Y : Int))) ∧ (∃ k : Int, (a : Int) * x = r + k * p) ∧ (∃ k : Int, (a : Int) * y = s + k * p)
theorem Eu.start {a p : Nat} (hp : Pr p) (ha : 0 < a) (hap : a < p) : Eu a p p a 0 1 0 1 :=
 ⟨hap, ha, hp.gcd (hp.not_dvd_lt ha hap), by simp, Or.inl ⟨rfl, rfl⟩, ⟨-1, by omega⟩, ⟨0, by omega⟩⟩
theorem Eu.step {a p r s X Y : Nat} {x y : Int} (h : Eu a p r s X Y x y) (hs : s ≠ 1) : Eu a p s (r % s) Y (X + r / s * Y) y (x - ((r / s : Nat) : Int) * y) := by
 obtain ⟨h1, h2, h3, h4, h5, ⟨k, h6⟩, ⟨j, h7⟩⟩ := h
 have hdm := Nat.div_add_mod r s
 have hg : Nat.gcd s (r % s) = 1 := by rw [Nat.gcd_comm, ← Nat.gcd_rec, Nat.gcd_comm]; exact h3
 have hm0 : r % s ≠ 0 := fun h0 => by rw [h0, Nat.gcd_zero_right] at hg; exact hs hg
 have hrI : (r : Int) = s * ((r / s : Nat) : Int) + ((r % s : Nat) : Int) := by rw [← Int.natCast_mul, ← Int.natCast_add, hdm]
 refine ⟨Nat.mod_lt _ (by omega), by omega, hg, ?_, ?_, ⟨j, h7⟩, ⟨k - ((r / s : Nat) : Int) * j, ?_⟩⟩
 ·generalize r / s = q at hdm
  generalize r % s = m at hdm
  rw [← h4, ← hdm, Nat.add_mul, Nat.mul_add]
  rw [show q * Y * s = Y * (s * q) from by ac_rfl]
  omega
 ·rcases h5 with ⟨rfl, rfl⟩ | ⟨rfl, rfl⟩
  ·refine Or.inr ⟨rfl, ?_⟩
   rw [Int.natCast_add, Int.natCast_mul]; omega
  ·refine Or.inl ⟨rfl, ?_⟩
   rw [Int.natCast_add, Int.natCast_mul, Int.mul_neg]; omega
 ·generalize ((r / s : Nat) : Int) = q at hrI
  generalize ((r % s : Nat) : Int) = m at hrI
  rw [Int.mul_sub, h6, show (a : Int) * (q * y) = q * (a * y) from by ac_rfl, h7, hrI, Int.sub_mul, Int.mul_add, show q * (s : Int) = s * q from Int.mul_comm _ _, Int.mul_assoc]
  omega
theorem Eu.bounds {a p r s X Y : Nat} {x y : Int} (h : Eu a p r s X Y x y) : -(p : Int) ≤ x ∧ x ≤ p ∧ -(p : Int) ≤ y ∧ y ≤ p ∧ r ≤ p + r := by
 obtain ⟨h1, h2, h3, h4, h5, _, _⟩ := h
 have a1 : Y ≤ Y * r := Nat.le_mul_of_pos_right _ (by omega)
 have a2 : X ≤ X * s := Nat.le_mul_of_pos_right _ (by omega)
 rcases h5 with ⟨rfl, rfl⟩ | ⟨rfl, rfl⟩ <;> omega
theorem Eu.last {a p r X Y : Nat} {x y : Int} (h : Eu a p r 1 X Y x y) (hp : Pr p) (ha : ¬ p ∣ a) :
  (0 ≤ y → y = ((a ^ (p - 2) % p : Nat) : Int)) ∧ (y < 0 → y + p = ((a ^ (p - 2) % p : Nat) : Int)) := by
 have h2 := hp.1
 obtain ⟨h1, _, h3, h4, h5, _, ⟨j, h7⟩⟩ := h
 have hY : Y * 2 ≤ Y * r := Nat.mul_le_mul_left _ (by omega)
 have hYp : Y < p := by omega
 have hl : a ^ (p - 2) % p < p := Nat.mod_lt _ hp.pos
 have key : ∀ (v : Nat) (c : Int), (v : Int) = y + c * p → v < p → v = a ^ (p - 2) % p := fun v c hv hvp => by
  refine inv_unique (hp.inv_right ha) ?_ hvp hl
  have : ((a * v : Nat) : Int) = 1 + (j + a * c) * p := by
   rw [Int.natCast_mul, hv, Int.mul_add, h7, Int.add_mul, Int.mul_assoc]; omega
  have h8 : ((a * v % p : Nat) : Int) = 1 := by
   rw [Int.natCast_emod, this, Int.add_mul_emod_self_right, Int.emod_eq_of_lt (by omega) (by omega)]
  omega
 refine ⟨fun hy => ?_, fun hy => ?_⟩
 ·have : y.toNat = a ^ (p - 2) % p := key y.toNat 0 (by omega) (by omega)
  omega
 ·have : (y + p).toNat = a ^ (p - 2) % p := key (y + p).toNat 1 (by omega) (by omega)
  omega
end
section
open Go.RowKit
theorem Bases.lt {w : World} (h : Bases w) : 0 < w.heap.size := by
 rcases Nat.lt_or_ge 0 w.heap.size with h1 | h1
 ·exact h1
 ·exfalso
  have h2 := h.1
  simp [World.cell?, Array.getElem?_eq_none h1] at h2
theorem Bases.keep {w w' : World} (h : Bases w) {B : Nat} (hb : Below B w w') (hB : 0 < B) : Bases w' :=
 ⟨(hb.cell (p := ⟨_, 0, none⟩) hB).trans h.1, (hb.cell (p := ⟨_, 1, none⟩) hB).trans h.2.1, (hb.cell (p := ⟨_, 2, none⟩) hB).trans h.2.2⟩
theorem Bases.alloc {w : World} (h : Bases w) (o : Obj) : Bases (w.alloc o) := h.keep ((Below.refl w.heap.size w).alloc nl9 o) h.lt
end
end Go.Proofs.YtcjgilagldbjnaaGreatDoor
