/- Is is right: what prime's Is and the reference's Is answer of every number below 2^32. Conditions: bases reads 2, 7, 61 (prime's). A map of numbers of 32 bits that the call made, as a list of its keys; what both calls of Enough look for among numbers. Conditions: as each states. The contracts of zint's Sign, Cmp, Of and of what a division does with its remainder. Conditions: at most 2^26 limbs. Limbs lie apart from variables that hold integers: their blocks are of another type; the blocks of a call's own variables. No conditions. prime's Add, Sub, Mul, Neg, Pow and what the reference answers. Conditions: p a prime, or none; bases reads 2, 7, 61. -/
import Derived.Test.YtcjgilagldbjnaaDoorPkBe29
import Derived.Test.YtcjgilagldbjnaaDoorPkBe37
import Derived.Test.YtcjgilagldbjnaaDoorPkBe28
import Derived.Maps.OwnSet
import Derived.Maps.Views
import Derived.Test.YtcjgilagldbjnaaDoorPkBe27
import Derived.Test.YtcjgilagldbjnaaDoorPkBe13
import Derived.Test.YtcjgilagldbjnaaDoorPkBe26
import Derived.Deep.QuietTactic
import Derived.BigQuiet
namespace Go.Proofs.YtcjgilagldbjnaaDoor
section
open Go.RowKit

theorem Bases.drewN {w : World} (h : Bases w) (n : Nat) : Bases (w.drewN n) := h

/-- Is n a prime? -/
noncomputable def isP (n : Nat) : Bool := @decide (Pr n) (Classical.propDecidable _)
theorem isP_true {n : Nat} (h : Pr n) : isP n = true := by unfold isP; exact @decide_eq_true _ (Classical.propDecidable _) h
theorem isP_false {n : Nat} (h : ¬ Pr n) : isP n = false := by unfold isP; exact @decide_eq_false _ (Classical.propDecidable _) h
theorem isP_cases (n : Nat) : (Pr n ∧ isP n = true) ∨ (¬ Pr n ∧ isP n = false) := by
  by_cases h : Pr n
  · exact Or.inl ⟨h, isP_true h⟩
  · exact Or.inr ⟨h, isP_false h⟩

theorem Pr.of_none {n : Nat} (h2 : 2 ≤ n) (h : ∀ e, 2 ≤ e → e < n → n % e ≠ 0) : Pr n := ⟨h2, fun e he => by
  have hle := Nat.le_of_dvd (by omega) he
  have h0 : e ≠ 0 := fun h0 => by subst h0; have := Nat.eq_zero_of_zero_dvd he; omega
  rcases Nat.lt_or_ge e 2 with h3 | h3
  · exact Or.inl (by omega)
  · rcases Nat.lt_or_ge e n with h4 | h4
    · exact absurd (Nat.mod_eq_zero_of_dvd he) (h e h3 h4)
    · exact Or.inr (by omega)⟩
theorem Pr.none {n : Nat} (h : Pr n) (e : Nat) (h2 : 2 ≤ e) (hlt : e < n) : n % e ≠ 0 := fun h0 => by
  rcases h.2 e (Nat.dvd_of_mod_eq_zero h0) with h1 | h1 <;> omega
theorem pr_iff_least {n : Nat} : Pr n ↔ Least n n := ⟨fun h => ⟨h.1, Nat.mod_self n, fun e h1 h2 => h.none e h1 h2⟩, fun h => Pr.of_none h.1 fun e h1 h2 => h.2.2 e h1 h2⟩
theorem pr_two : Pr 2 := Pr.of_none (by omega) fun e h1 h2 => by omega
theorem pr_three : Pr 3 := Pr.of_none (by omega) fun e h1 h2 => by
  obtain rfl : e = 2 := by omega
  decide
theorem pr_seven : Pr 7 := Pr.of_none (by omega) fun e h1 h2 => (show ∀ e < 7, 2 ≤ e → 7 % e ≠ 0 by decide) e h2 h1
theorem pr_61 : Pr 61 := Pr.of_none (by omega) fun e h1 h2 => (show ∀ e < 61, 2 ≤ e → 61 % e ≠ 0 by decide) e h2 h1
theorem Pr.odd {n : Nat} (h : Pr n) (h2 : 2 < n) : n % 2 = 1 := by
  have := h.none 2 (by omega) h2
  omega

/-- What passes answers is right. -/
theorem isN_isP (n d s : Nat) (hn : n < 4294967296) (h : 4 ≤ n → n % 2 = 1 → n - 1 = d * 2 ^ s ∧ d % 2 = 1) : isN n d s = isP n := by
  unfold isN
  by_cases h4 : n < 4
  · rw [if_pos h4]
    rcases isP_cases n with ⟨hp, e⟩ | ⟨hp, e⟩
    · rw [e]; exact decide_eq_true hp.1
    · rw [e]
      refine decide_eq_false fun h1 => hp ?_
      rcases (show n = 2 ∨ n = 3 by omega) with rfl | rfl
      · exact pr_two
      · exact pr_three
  · rw [if_neg h4]
    by_cases h2 : n % 2 = 1
    · rw [if_pos h2]
      obtain ⟨hd, ho⟩ := h (by omega) h2
      rcases isP_cases n with ⟨hp, e⟩ | ⟨hp, e⟩
      · rw [e]
        have key : ∀ b, base1 n d s b = true := fun b => by
          unfold base1
          by_cases hb : b % n = 0
          · rw [if_pos hb]
          · rw [if_neg hb]
            exact hp.mr_passes (fun hx => hb (Nat.mod_eq_zero_of_dvd hx)) hd
        unfold passAll
        rw [key 2, key 7, key 61]; rfl
      · rw [e]
        refine Bool.eq_false_iff.2 fun hx => hp ?_
        unfold passAll at hx
        have h7 : n ≠ 7 := fun h7 => hp (h7 ▸ pr_seven)
        have h61 : n ≠ 61 := fun h61 => hp (h61 ▸ pr_61)
        have key : ∀ b, Pr b → n ≠ b → base1 n d s b = true → mr b n d s = true := fun b hb hne hx => by
          unfold base1 at hx
          rwa [if_neg] at hx
          intro h0
          rcases hb.2 n (Nat.dvd_of_mod_eq_zero h0) with e | e
          · omega
          · exact hne e
        cases e2 : base1 n d s 2 with
        | false => rw [e2] at hx; simp at hx
        | true =>
          cases e7 : base1 n d s 7 with
          | false => rw [e2, e7] at hx; simp at hx
          | true =>
            rw [e2, e7] at hx
            have e61 : base1 n d s 61 = true := by simpa using hx
            refine Passes.prime (fun d' s' hd' ho' => ?_) (by omega) h2 hn
            obtain ⟨rfl, rfl⟩ := split_unique ho' ho (hd'.symm.trans hd)
            exact ⟨key 2 pr_two (by omega) e2, key 7 pr_seven h7 e7, key 61 pr_61 h61 e61⟩
    · rw [if_neg h2, isP_false]
      intro hp
      exact h2 (hp.odd (by omega))

theorem is_all (n : Nat) (hn : n < 4294967296) (w : World) (hw : Bases w) :
    Calls Tryd.prog 11 #[.int .u32 (n : Int)] w fun e w' => e = .returned (.bool (isP n)) ∧ w' = w := by
  by_cases h : 4 ≤ n ∧ n % 2 = 1
  · obtain ⟨d, s, hd, ho⟩ := split_exists (n - 1) (by omega)
    have hs : s ≤ 32 := by
      rcases Nat.lt_or_ge s 33 with h1 | h1
      · omega
      · exfalso
        have h2 : 2 ^ 33 ≤ 2 ^ s := Nat.pow_le_pow_right (by omega) h1
        have h3 : 2 ^ s ≤ d * 2 ^ s := Nat.le_mul_of_pos_left _ (by omega)
        have h4 : (2 : Nat) ^ 33 = 8589934592 := by decide
        omega
    have := is_any n d s hn (fun _ _ => ⟨hd, ho, hs⟩) w hw
    rwa [isN_isP n d s hn fun _ _ => ⟨hd, ho⟩] at this
  · have := is_any n 0 0 hn (fun h1 h2 => absurd ⟨h1, h2⟩ h) w hw
    rwa [isN_isP n 0 0 hn fun h1 h2 => absurd ⟨h1, h2⟩ h] at this
set_option maxHeartbeats 400000 in
theorem ris_all (n : Nat) (hn : n < 4294967296) (w : World) :
    Calls Tryd.prog 15 #[.int .u32 (n : Int)] w fun e w' => e = .returned (.bool (isP n)) ∧ w' = w := by
  by_cases h2 : 2 ≤ n
  · obtain ⟨m, hm⟩ := least_exists n h2
    have hl := fun W => least_any n m hn h2 hm W
    by_cases hmn : m = n
    · subst hmn
      have E := Lib.hid (isP_true (pr_iff_least.2 hm))
      have Hl := Lib.hid hl
      clear hl hm
      go_enter Tryd.func15, Tryd.ntmps15
      go_wp2_with fail
      refine (Hl.out _).mono ?_
      rintro _ _ ⟨rfl, rfl⟩
      go_wp2
      go_ret
      exact ⟨by rw [E.out]; simp, rfl⟩
    · have E := Lib.hid (isP_false fun h => hmn (hm.unique (pr_iff_least.1 h)))
      have Hl := Lib.hid hl
      have t1 : ((m : Int) == (n : Int)) = false := by simp; omega
      clear hl hm
      go_enter Tryd.func15, Tryd.ntmps15
      go_wp2_with fail
      refine (Hl.out _).mono ?_
      rintro _ _ ⟨rfl, rfl⟩
      go_wp2
      go_ret
      exact ⟨by rw [E.out]; rfl, rfl⟩
  · have E := Lib.hid (isP_false fun h : Pr n => h2 h.1)
    go_enter Tryd.func15, Tryd.ntmps15
    go_wp2
    go_ret
    exact ⟨by rw [E.out]; simp, rfl⟩
end
section
open Go.RowKit Go.Maps

/-- Block g is a map whose keys are those of S. -/
def Mp (w : World) (g : Nat) (S : List Nat) : Prop := ∃ D : DataW Unit, w.ownsMap Tryd.prog 43 (plainElem Tryd.prog 3) g S.length D ∧ IsMap D ∧ ∀ x : Nat, x < 4294967296 → Maps.has D (.int .u32 (x : Int)) = decide (x ∈ S)
theorem mp_law : Keyed Tryd.prog 43 := int_keyed Tryd.underlying43
theorem mp_zero (w : World) : (zeroValue 3).run Tryd.prog w = .ok (.int .i64 0) w := by kernel_rfl
theorem mp_wf {x : Nat} (h : x < 4294967296) : (Lit.int .u32 (x : Int)).wf = true := WalkArith.wf_u32 ⟨by omega, by omega⟩
section
variable {w w' : World} {g : Nat} {S : List Nat}
theorem Mp.made (w : World) : Mp (w.alloc (.map #[] 0)) w.heap.size [] := ⟨_, World.ownsMap_made w _ _ _, isMap_empty, fun x _ => by simp [has_eq]⟩
theorem Mp.lt (h : Mp w g S) : g < w.heap.size := by obtain ⟨_, h, _⟩ := h; exact h.lt
theorem Mp.same (h : Mp w g S) (hb : w'.heap[g]? = w.heap[g]?) : Mp w' g S := by
  obtain ⟨D, ⟨es, clock, h1, h2⟩, h3⟩ := h
  exact ⟨D, ⟨es, clock, hb.trans h1, h2⟩, h3⟩
theorem Mp.look (h : Mp w g S) {x : Nat} (hx : x < 4294967296) : ∃ c : Int, (Instr.lookup 38 (.map (some g)) (.int .u32 (x : Int)) true).run Tryd.prog w = .ok (.tuple #[.int .i64 c, .bool (decide (x ∈ S))]) w := by
  obtain ⟨D, h1, _, h3⟩ := h
  obtain ⟨v, ps, hrun, hv⟩ := h1.look_ok mp_law Tryd.underlying38 (mp_zero w) (plainElem_int (q := .i64) Tryd.underlying3 (by decide)) (keyOf_int_mk Tryd.underlying43 (mp_wf hx))
  obtain ⟨c, rfl, _⟩ := plainElem_int_inv Tryd.underlying3 hv
  exact ⟨c, by rw [hrun, h3 x hx]⟩
theorem Mp.put (h : Mp w g S) (hS : S.length ≤ 4294967296) {x : Nat} (hx : x < 4294967296) {v : Int} (hv : -9223372036854775808 ≤ v ∧ v ≤ 9223372036854775807) :
    ∃ w', (Instr.mapUpdate 38 (.map (some g)) (.int .u32 (x : Int)) (.int .i64 v)).run Tryd.prog w = .ok () w' ∧ Mp w' g (S ++ [x]) ∧ w.grownBy w' (some g) := by
  obtain ⟨D, h1, h2, h3⟩ := h
  obtain ⟨w', hrun, h4, h5⟩ := h1.update mp_law Tryd.underlying38 (by unfold maxLen; omega) (keyOf_int_mk Tryd.underlying43 (mp_wf hx)) (plainElem_int Tryd.underlying3 (WalkArith.wf_i64 hv))
  refine ⟨w', hrun, ⟨_, by rw [List.length_append]; exact h4, h2.put _ _, fun y hy => ?_⟩, h5⟩
  by_cases e : y = x
  · subst e
    rw [has_put_same h2 (by trivial)]
    simp
  · rw [has_put_other (by intro e2; injection e2 with _ e3; omega), h3 y hy]
    simp [e]
end
theorem wpList_mp_look {P : Program} {w : World} {ops : Array Oper} {rest : List Oper} {o : Oper} {a : Act} {Q : Exit → Act → World → Prop} (hgd : o.guard = none) (m x : Operand) (t : TypeId) (c : Bool)
    (ho : o.op = Op.lookup t m x c) (mv xv : Value) (hm : a.eval m = mv) (hx : a.eval x = xv) (v' : Value)
    (hrun : (Instr.lookup t mv xv c).run P w = .ok v' w) (h : wpList P ops Q rest (a.put o.dst v') w) : wpList P ops Q (o :: rest) a w := by
  refine wpList_plain hgd fun K hK => ?_
  unfold Oper.wp
  simp [execOp, ho, hm, hx, hrun, Result.andThen]
  exact hK _ _ h
theorem wpList_mp_put {P : Program} {w : World} {ops : Array Oper} {rest : List Oper} {o : Oper} {a : Act} {Q : Exit → Act → World → Prop} (hgd : o.guard = none) (m x v : Operand) (t : TypeId)
    (ho : o.op = Op.mapUpdate t m x v) (mv xv vv : Value) (hm : a.eval m = mv) (hx : a.eval x = xv) (hv : a.eval v = vv) (w' : World)
    (hrun : (Instr.mapUpdate t mv xv vv).run P w = .ok () w') (h : wpList P ops Q rest (a.put o.dst undef) w') : wpList P ops Q (o :: rest) a w := by
  refine wpList_plain hgd fun K hK => ?_
  unfold Oper.wp
  simp [execOp, ho, hm, hx, hv, hrun, Result.andThen]
  exact hK _ _ h

/-- The product of the first k. -/
def prodTo9 (ps : List Nat) : Nat → Nat
  | 0 => 1
  | k + 1 => prodTo9 ps k * ps.getD k 1
/-- The first k are unlike primes. -/
def En (ps : List Nat) (k : Nat) : Prop := (∀ i (h : i < ps.length), i < k → Pr ps[i]) ∧ (ps.take k).Nodup
theorem En.zero (ps : List Nat) : En ps 0 := ⟨fun _ _ h => absurd h (by omega), by simp⟩
theorem En.next {ps : List Nat} {k : Nat} (h : En ps k) (hk : k < ps.length) (hp : Pr ps[k]) (hn : ps[k] ∉ ps.take k) : En ps (k + 1) := by
  refine ⟨fun i hi hik => ?_, ?_⟩
  · by_cases e : i = k
    · subst e; exact hp
    · exact h.1 i hi (by omega)
  · rw [List.take_succ_eq_append_getElem hk]
    exact List.nodup_append.2 ⟨h.2, by simp, fun a ha b hb e => hn (by rw [List.mem_singleton] at hb; rw [← hb, ← e]; exact ha)⟩
theorem En.back {ps : List Nat} {k j : Nat} (h : En ps k) (hj : j ≤ k) : En ps j := ⟨fun i hi hij => h.1 i hi (by omega), by
  have := h.2
  rw [show ps.take j = (ps.take k).take j by rw [List.take_take, Nat.min_eq_left hj]]
  exact this.sublist (List.take_sublist _ _)⟩
theorem En.here {ps : List Nat} {k : Nat} (h : En ps (k + 1)) (hk : k < ps.length) : Pr ps[k] ∧ ps[k] ∉ ps.take k := by
  refine ⟨h.1 k hk (by omega), fun hm => ?_⟩
  have h2 := h.2
  rw [List.take_succ_eq_append_getElem hk] at h2
  exact (List.nodup_append.1 h2).2.2 _ hm _ (List.mem_singleton.2 rfl) rfl
/-- What Enough answers about t, twice the bound: error, above, not above without the last one. -/
def EnIs (ps : List Nat) (t c : Nat) (x y : Bool) : Prop :=
  (c = 40 ∧ x = false ∧ y = false ∧ ∃ k, ∃ h : k < ps.length, En ps k ∧ ¬ Pr ps[k]) ∨
  (c = 60 ∧ x = false ∧ y = false ∧ ∃ k, ∃ h : k < ps.length, En ps k ∧ Pr ps[k] ∧ ps[k] ∈ ps.take k) ∨
  (c = 0 ∧ En ps ps.length ∧ x = decide (t < prodTo9 ps ps.length) ∧ y = (decide (ps.length = 0) || decide (prodTo9 ps (ps.length - 1) ≤ t)))
theorem en_cases (ps : List Nat) : ∀ k, k ≤ ps.length → En ps k ∨ (∃ j, ∃ h : j < ps.length, En ps j ∧ ¬ Pr ps[j]) ∨ (∃ j, ∃ h : j < ps.length, En ps j ∧ Pr ps[j] ∧ ps[j] ∈ ps.take j)
  | 0, _ => .inl (En.zero ps)
  | k + 1, hk => by
    rcases en_cases ps k (by omega) with h | h
    · by_cases hp : Pr ps[k]
      · by_cases hm : ps[k] ∈ ps.take k
        · exact .inr (.inr ⟨k, hk, h, hp, hm⟩)
        · exact .inl (h.next hk hp hm)
      · exact .inr (.inl ⟨k, hk, h, hp⟩)
    · exact .inr h
theorem en_exists (ps : List Nat) (t : Nat) : ∃ c x y, EnIs ps t c x y := by
  rcases en_cases ps ps.length (Nat.le_refl _) with h | h | h
  · exact ⟨0, _, _, .inr (.inr ⟨rfl, h, rfl, rfl⟩)⟩
  · exact ⟨40, _, _, .inl ⟨rfl, rfl, rfl, h⟩⟩
  · exact ⟨60, _, _, .inr (.inl ⟨rfl, rfl, rfl, h⟩)⟩
theorem en_bad {ps : List Nat} {j k : Nat} (h : En ps j) (hk : k < ps.length) (h2 : ¬ Pr ps[k] ∨ ps[k] ∈ ps.take k) : j ≤ k := by
  refine Nat.le_of_not_lt fun hlt => ?_
  have h3 := (h.back (j := k + 1) (by omega)).here hk
  rcases h2 with h2 | h2
  · exact h2 h3.1
  · exact h3.2 h2
section
variable {ps : List Nat} {t c k : Nat} {x y : Bool}
theorem EnIs.none (h : EnIs ps t c x y) (hk : k < ps.length) (he : En ps k) (hp : ¬ Pr ps[k]) : c = 40 ∧ x = false ∧ y = false := by
  rcases h with ⟨a, b, d, _⟩ | ⟨_, _, _, j, hj, h1, h2, h3⟩ | ⟨_, h1, _⟩
  · exact ⟨a, b, d⟩
  · have e1 := en_bad h1 hk (.inl hp)
    have e2 := en_bad he hj (.inr h3)
    obtain rfl : j = k := by omega
    exact absurd h2 hp
  · exact absurd (en_bad h1 hk (.inl hp)) (by omega)
theorem EnIs.twice (h : EnIs ps t c x y) (hk : k < ps.length) (he : En ps k) (hp : Pr ps[k]) (hm : ps[k] ∈ ps.take k) : c = 60 ∧ x = false ∧ y = false := by
  rcases h with ⟨_, _, _, j, hj, h1, h2⟩ | ⟨a, b, d, _⟩ | ⟨_, h1, _⟩
  · have e1 := en_bad h1 hk (.inr hm)
    have e2 := en_bad he hj (.inl h2)
    obtain rfl : j = k := by omega
    exact absurd hp h2
  · exact ⟨a, b, d⟩
  · exact absurd (en_bad h1 hk (.inr hm)) (by omega)
theorem EnIs.fine (h : EnIs ps t c x y) (he : En ps ps.length) : c = 0 ∧ x = decide (t < prodTo9 ps ps.length) ∧ y = (decide (ps.length = 0) || decide (prodTo9 ps (ps.length - 1) ≤ t)) := by
  rcases h with ⟨_, _, _, j, hj, h1, h2⟩ | ⟨_, _, _, j, hj, h1, h2, h3⟩ | ⟨a, _, b, d⟩
  · exact absurd (en_bad he hj (.inl h2)) (by omega)
  · exact absurd (en_bad he hj (.inr h3)) (by omega)
  · exact ⟨a, b, d⟩
end
theorem prodTo9_lt (ps : List Nat) (hd : ∀ x ∈ ps, x < 4294967296) : ∀ k, k ≤ ps.length → prodTo9 ps k < 4294967296 ^ (k + 1)
  | 0, _ => by simp [prodTo9]
  | k + 1, hk => by
    have h1 := prodTo9_lt ps hd k (by omega)
    have h2 : ps.getD k 1 < 4294967296 := by
      rw [List.getD_eq_getElem?_getD, List.getElem?_eq_getElem hk]
      exact hd _ (List.getElem_mem hk)
    rw [prodTo9, Nat.pow_succ]
    exact Nat.mul_lt_mul'' h1 h2
end
section
open Go.RowKit

theorem sg_neg {g : Bool} {z : Int} (h : ivalN g z.natAbs = z) (h0 : z ≠ 0) : g = isNeg z := by
  have h1 := isNeg_ival g z.natAbs
  rw [h] at h1
  have : decide (0 < z.natAbs) = true := decide_eq_true (by omega)
  rw [this, Bool.and_true] at h1
  exact h1.symm
section
variable {w w' : World} {g g2 : Bool} {A A2 : Option Addr} {c c2 K J : Nat} {xs ys : List Nat} {z y : Int}
set_option maxHeartbeats 1600000 in
theorem Zh.sign (h : Zh w g A c xs z K) (hK : K ≤ 67108864) : Calls Tryd.prog 8 #[.agg #[.bool g, .slice A xs.length c]] w fun e w' => e = .returned (.int .i64 z.sign) ∧ Below w.heap.size w w' := by
  have Z1 : Hid (∀ W (_ : Below w.heap.size w W), Calls Tryd.prog 25 #[.agg #[.bool g, .slice A xs.length c]] W fun e w' => e = .returned (.bool (decide (z = 0))) ∧ Below W.heap.size W w') := fun W hW => (h.next hW).isZero hK
  have hs := h.sg
  clear h
  by_cases h0 : z = 0
  · rw [decide_eq_true h0] at Z1
    rw [h0, show Int.sign 0 = 0 from rfl]
    clear hs h0
    go_enter Tryd.func8, Tryd.ntmps8
    go_wp2_with fail
    refine (Z1.out _ (bel_one _ _)).mono ?_
    rintro e w1 ⟨rfl, hb⟩
    go_wp2_with fail
    go_ret
    exact ⟨rfl, bst (bel_one _ _) hb (Nat.le_refl _)⟩
  · have hg := sg_neg hs h0
    rw [decide_eq_false h0] at Z1
    cases g
    · have e1 : z.sign = 1 := Int.sign_eq_one_of_pos (by simp [isNeg] at hg; omega)
      rw [e1]
      clear hs h0 hg e1
      go_enter Tryd.func8, Tryd.ntmps8
      go_wp2_with fail
      refine (Z1.out _ (bel_one _ _)).mono ?_
      rintro e w1 ⟨rfl, hb⟩
      obtain ⟨q0, q1, q2, q3⟩ := ((Blk.new_ (w := w) (t := 25) (cs := #[.bool false, .slice A xs.length c]) (vs := [.bool false, .slice A xs.length c]) rfl).below hb (by simp)).two
      go_wp2_with fail
      go_ret
      exact ⟨rfl, bst (bel_one _ _) hb (Nat.le_refl _)⟩
    · have e1 : z.sign = -1 := Int.sign_eq_neg_one_of_neg (by simp [isNeg] at hg; omega)
      rw [e1]
      clear hs h0 hg e1
      go_enter Tryd.func8, Tryd.ntmps8
      go_wp2_with fail
      refine (Z1.out _ (bel_one _ _)).mono ?_
      rintro e w1 ⟨rfl, hb⟩
      obtain ⟨q0, q1, q2, q3⟩ := ((Blk.new_ (w := w) (t := 25) (cs := #[.bool true, .slice A xs.length c]) (vs := [.bool true, .slice A xs.length c]) rfl).below hb (by simp)).two
      go_wp2_with fail
      go_ret
      exact ⟨rfl, bst (bel_one _ _) hb (Nat.le_refl _)⟩
end
end
section
open Go.RowKit

theorem type_ne : 43 ≠ 25 := by decide
/-- A store into a variable that holds an integer leaves the limbs alone: they lie in blocks of another type. -/
theorem res_var {W : World} {B g i : Nat} {A : Option Addr} {c : Nat} {vs L : List Value} (h : Res W B 43 A c vs) (hB : Blk W g 25 L) (u : Value) : Res (W.setCell ⟨g, i, none⟩ u) B 43 A c vs :=
  ⟨h.1, h.2.1, fun hn => by
    obtain ⟨b, rest, e, hb, hk, hc⟩ := h.2.2 hn
    refine ⟨b, rest, e, hb, hk.far (p := ⟨g, i, none⟩) ?_ _, hc⟩
    rintro rfl
    unfold Blk at hk hB
    rw [hk] at hB
    have hB2 := Option.some.inj hB
    injection hB2 with _ e2 _
    exact type_ne e2⟩
theorem res_var2 {W : World} {B g : Nat} {A : Option Addr} {c : Nat} {vs : List Value} {x y : Value} (h : Res W B 43 A c vs) (hB : Blk W g 25 [x, y]) (u v : Value) : Res ((W.setCell ⟨g, 0, none⟩ u).setCell ⟨g, 1, none⟩ v) B 43 A c vs :=
  res_var (res_var h hB u) (hB.set_ 0 u) v
theorem blk_one (w : World) (x0 y0 : Value) : Blk (w.alloc (.cells #[x0, y0] 25)) w.heap.size 25 [x0, y0] := Blk.new_ (cs := #[x0, y0]) (vs := [x0, y0]) rfl

/-- A variable that holds an integer, in memory from block B on. -/
def Vr (B : Nat) (w : World) (g : Nat) (z : Int) (K : Nat) : Prop :=
  ∃ A c zs, Blk w g 25 [.bool (isNeg z), .slice A zs.length c] ∧ Num 4294967296 zs z.natAbs ∧ Res w B 43 A c (u32s zs) ∧ zs.length ≤ K
theorem Vr.next {B g K : Nat} {w w' : World} {z : Int} (v : Vr B w g z K) (hb : Below w.heap.size w w') : Vr B w' g z K := by
  obtain ⟨A, c, zs, hk, hz, hr, hl⟩ := v
  exact ⟨A, c, zs, hk.below hb hk.lt, hz, hr.below hb (Nat.le_refl _), hl⟩
theorem Vr.lt {B g K : Nat} {w : World} {z : Int} (v : Vr B w g z K) : g < w.heap.size := by
  obtain ⟨A, c, zs, hk, _⟩ := v
  exact hk.lt
theorem Vr.other {B g h K : Nat} {w : World} {z : Int} {x y : Value} (v : Vr B w g z K) (hh : Blk w h 25 [x, y]) (hne : g ≠ h) (x' y' : Value) : Vr B ((w.setCell ⟨h, 0, none⟩ x').setCell ⟨h, 1, none⟩ y') g z K := by
  obtain ⟨A, c, zs, hk, hz, hr, hl⟩ := v
  exact ⟨A, c, zs, (hk.far (p := ⟨h, 0, none⟩) hne _).far (p := ⟨h, 1, none⟩) hne _, hz, res_var2 hr hh _ _, hl⟩
theorem Vr.put {B g K : Nat} {w : World} {z : Int} {x y : Value} {A : Option Addr} {c : Nat} {zs : List Nat} (hk : Blk w g 25 [x, y]) (hz : Num 4294967296 zs z.natAbs) (hr : Res w B 43 A c (u32s zs)) (hl : zs.length ≤ K) :
    Vr B ((w.setCell ⟨g, 0, none⟩ (.bool (isNeg z))).setCell ⟨g, 1, none⟩ (.slice A zs.length c)) g z K := ⟨A, c, zs, blk_pair hk _ _, hz, res_var2 hr hk _ _, hl⟩
end
section
open Go.RowKit
end
end Go.Proofs.YtcjgilagldbjnaaDoor
