/- What the kernel reckons: tests of single numbers, of primes with a range of cofactors, of products; and what each says. No conditions. The contracts of prime's passesWith, passes and Is: what they answer, as functions of numbers. Conditions: passesWith, passes: n odd, above 1, n - 1 split as d 2^s; passes, Is: bases reads 2, 7, 61. The contracts of prime's Is and isSquare, and of inverse, root, Quo, Inv, Sqrt at the document's examples. Conditions: as each states; bases reads 2, 7, 61. prime's root, Quo, Inv and Sqrt at the document's examples; Is at the two numbers; awake. Conditions: bases reads 2, 7, 61. -/
import Derived.Test.YtcopkeccogpkmaaDoorPkPp0
import Derived.Deep.CutBlock
import Derived.RegionTactic
import Derived.Deep.QuietTactic
import Derived.BigQuiet
import Derived.WalkMore
import Derived.Deep.DeepCutAuto
namespace Go.Proofs.YtcopkeccogpkmaaDoor
section
/-! Miller's and Rabin's way -/
/-- The second part. -/
def mrLoop (n : Nat) : Nat → Nat → Bool
  | 0, _ => false
  | s + 1, x => if x = n - 1 then true else mrLoop n s (x * x % n)
/-- Does n pass with the base b, n - 1 being d 2^s? -/
def mr (b n d s : Nat) : Bool := if b ^ d % n = 1 then true else mrLoop n s (b ^ d % n)

theorem pow_square {b n e : Nat} : b ^ e % n * (b ^ e % n) % n = b ^ (e * 2) % n := by
  rw [← Nat.mul_mod, Nat.pow_mul, Nat.pow_two]
theorem minus_square {n : Nat} (hn : 1 < n) : (n - 1) * (n - 1) % n = 1 := by
  obtain ⟨m, rfl⟩ : ∃ m, n = m + 1 := ⟨n - 1, by omega⟩
  obtain ⟨k, rfl⟩ : ∃ k, m = k + 1 := ⟨m - 1, by omega⟩
  have : (k + 1) * (k + 1) = 1 + (k + 1 + 1) * k := by
    rw [Nat.add_mul, Nat.mul_add, Nat.add_mul, Nat.add_mul]; omega
  rw [Nat.add_sub_cancel, this, Nat.add_mul_mod_self_left, Nat.mod_eq_of_lt (by omega)]
theorem mrLoop_says {b n : Nat} (hn : 1 < n) : ∀ (s e : Nat), mrLoop n s (b ^ e % n) = true → b ^ (e * 2 ^ s) % n = 1
  | 0, e, h => by simp [mrLoop] at h
  | s + 1, e, h => by
    rw [mrLoop] at h
    by_cases hx : b ^ e % n = n - 1
    · have h2 : b ^ (e * 2) % n = 1 := by rw [← pow_square, hx, minus_square hn]
      rw [Nat.pow_succ, Nat.mul_comm (2 ^ s), ← Nat.mul_assoc]
      exact pow_mul_one hn h2 _
    · rw [if_neg hx, pow_square] at h
      have := mrLoop_says hn s (e * 2) h
      rwa [Nat.mul_assoc, ← Nat.pow_succ'] at this
theorem mr_says {b n d s : Nat} (hn : 1 < n) (h : mr b n d s = true) : b ^ (d * 2 ^ s) % n = 1 := by
  unfold mr at h
  by_cases h1 : b ^ d % n = 1
  · exact pow_mul_one hn h1 _
  · rw [if_neg h1] at h
    exact mrLoop_says hn s d h

/-! Strict evaluation -/
noncomputable def strict (n : Nat) (f : Nat → Bool) : Bool := Nat.rec (f (nat_lit 0)) (fun k _ => f (Nat.succ k)) n
theorem strict_eq (n : Nat) (f : Nat → Bool) : strict n f = f n := by cases n <;> rfl
noncomputable def ite3 (c a b : Bool) : Bool := Bool.rec b a c
theorem ite3_eq (c a b : Bool) : ite3 c a b = if c = true then a else b := by cases c <;> rfl
theorem and3 {c a : Bool} (h : ite3 c a false = true) : c = true ∧ a = true := by cases c <;> simp_all [ite3]

/-- b^e modulo n, in three steps. -/
noncomputable def pow3 (b e n : Nat) : Nat := Nat.mod (Nat.mul (Nat.pow (Nat.mod (Nat.mul (Nat.pow (Nat.mod (Nat.pow b (Nat.div e (nat_lit 65536))) n) (nat_lit 256)) (Nat.pow b (Nat.div (Nat.mod e (nat_lit 65536)) (nat_lit 256)))) n) (nat_lit 256)) (Nat.pow b (Nat.mod e (nat_lit 256)))) n
theorem pow3_eq (b e n : Nat) : pow3 b e n = b ^ e % n := by
  show ((((b ^ (e / 65536) % n) ^ 256 * b ^ (e % 65536 / 256)) % n) ^ 256 * b ^ (e % 256)) % n = b ^ e % n
  have s1 : ((b ^ (e / 65536) % n) ^ 256 * b ^ (e % 65536 / 256)) % n = b ^ (e / 256) % n := by
    rw [Nat.mul_mod, ← Nat.pow_mod, ← Nat.mul_mod, ← Nat.pow_mul, ← Nat.pow_add]
    congr 2; omega
  rw [s1, Nat.mul_mod, ← Nat.pow_mod, ← Nat.mul_mod, ← Nat.pow_mul, ← Nat.pow_add]
  congr 2; omega

/-! The tests with powers by steps, for the few that pass Fermat's test -/
noncomputable def loopK (k : Nat) (s : Nat) : Nat → Bool := Nat.rec (fun _ => false) (fun _ ih x => strict x fun x => ite3 (Nat.beq x k) true (ih (Nat.mod (Nat.mul x x) (Nat.succ k)))) s
theorem loopK_eq (k : Nat) : ∀ s x, loopK k s x = mrLoop (k + 1) s x
  | 0, _ => rfl
  | s + 1, x => by
    show strict x (fun x => ite3 (Nat.beq x k) true (loopK k s (Nat.mod (Nat.mul x x) (Nat.succ k)))) = _
    rw [strict_eq, ite3_eq, mrLoop, loopK_eq k s]
    by_cases h : x = k
    · simp [h]
    · have : Nat.beq x k = false := Bool.eq_false_iff.2 fun e => h (Nat.eq_of_beq_eq_true e)
      rw [this, if_neg (by simp), if_neg (by omega)]; rfl
noncomputable def mrK (b k d s : Nat) : Bool := strict (pow3 b d (Nat.succ k)) fun x => ite3 (Nat.beq x (nat_lit 1)) true (loopK k s x)
theorem mrK_eq (b k d s : Nat) : mrK b k d s = mr b (k + 1) d s := by
  unfold mrK mr
  rw [strict_eq, pow3_eq, ite3_eq, loopK_eq]
  by_cases h : b ^ d % (k + 1) = 1
  · rw [show b ^ d % Nat.succ k = 1 from h]; simp
  · have : Nat.beq (b ^ d % Nat.succ k) 1 = false := Bool.eq_false_iff.2 fun e => h (Nat.eq_of_beq_eq_true e)
    rw [this, if_neg h]; rfl
/-- Is some base against n = k + 1? -/
noncomputable def slowK (k : Nat) : Bool := strict (Nat.gcd k (nat_lit 4294967296)) fun g => strict (Nat.div k g) fun d => strict (Nat.log2 g) fun s =>
  ite3 (Nat.beq (Nat.mul d (Nat.pow (nat_lit 2) s)) k) (ite3 (Nat.beq (Nat.mod d (nat_lit 2)) (nat_lit 1)) (ite3 (mrK (nat_lit 2) k d s) (ite3 (mrK (nat_lit 7) k d s) (ite3 (mrK (nat_lit 61) k d s) false true) true) true) false) false
noncomputable def bad (n : Nat) : Bool := Nat.rec false (fun k _ => ite3 (Nat.beq (pow3 (nat_lit 2) k (Nat.succ k)) (nat_lit 1)) (slowK k) true) n

/-- n passes: to each of the bases, however n - 1 is split. -/
def Passes (n : Nat) : Prop := ∀ d s, n - 1 = d * 2 ^ s → d % 2 = 1 → mr 2 n d s = true ∧ mr 7 n d s = true ∧ mr 61 n d s = true
theorem split_unique {a b s t : Nat} (ha : a % 2 = 1) (hb : b % 2 = 1) (h : a * 2 ^ s = b * 2 ^ t) : a = b ∧ s = t := by
  have key : ∀ (s t a b : Nat), a % 2 = 1 → b % 2 = 1 → a * 2 ^ s = b * 2 ^ t → s ≤ t → a = b ∧ s = t := by
    intro s
    induction s with
    | zero =>
      intro t a b ha hb h _
      cases t with
      | zero => simp at h; exact ⟨h, rfl⟩
      | succ t => rw [Nat.pow_succ, ← Nat.mul_assoc, Nat.pow_zero] at h; omega
    | succ s ih =>
      intro t a b ha hb h hle
      cases t with
      | zero => omega
      | succ t =>
        rw [Nat.pow_succ, Nat.pow_succ, ← Nat.mul_assoc, ← Nat.mul_assoc] at h
        obtain ⟨h1, h2⟩ := ih t a b ha hb (by omega) (by omega)
        exact ⟨h1, by omega⟩
  rcases Nat.le_total s t with hle | hle
  · exact key s t a b ha hb h hle
  · obtain ⟨h1, h2⟩ := key t s b a hb ha h.symm hle
    exact ⟨h1.symm, h2.symm⟩
theorem split_exists : ∀ n, 0 < n → ∃ d s, n = d * 2 ^ s ∧ d % 2 = 1 := by
  intro n
  induction n using Nat.strongRecOn with
  | _ n ih =>
    intro h
    by_cases h2 : n % 2 = 1
    · exact ⟨n, 0, by simp, h2⟩
    · obtain ⟨d, s, hd, ho⟩ := ih (n / 2) (by omega) (by omega)
      exact ⟨d, s + 1, by rw [Nat.pow_succ, ← Nat.mul_assoc, ← hd]; omega, ho⟩
theorem Passes.psp {n : Nat} (hn : 1 < n) (h : Passes n) : Psp n := by
  obtain ⟨d, s, hd, ho⟩ := split_exists (n - 1) (by omega)
  obtain ⟨h1, h2, h3⟩ := h d s hd ho
  unfold Psp
  rw [hd]
  exact ⟨mr_says hn h1, mr_says hn h2, mr_says hn h3⟩
/-- Who is found bad does not pass. -/
theorem bad_says {n : Nat} (hn : 1 < n) (h : bad n = true) (hp : Passes n) : False := by
  cases n with
  | zero => omega
  | succ k =>
    have h : ite3 (Nat.beq (pow3 2 k (Nat.succ k)) 1) (slowK k) true = true := h
    rw [ite3_eq, pow3_eq] at h
    by_cases h1 : 2 ^ k % (k + 1) = 1
    · have : Nat.beq (2 ^ k % Nat.succ k) 1 = true := by rw [show 2 ^ k % Nat.succ k = 1 from h1]; rfl
      rw [if_pos this] at h
      unfold slowK at h
      rw [strict_eq, strict_eq, strict_eq] at h
      obtain ⟨hs, h⟩ := and3 h
      obtain ⟨ho, h⟩ := and3 h
      have hs : k / Nat.gcd k 4294967296 * 2 ^ Nat.log2 (Nat.gcd k 4294967296) = k := Nat.eq_of_beq_eq_true hs
      have ho : k / Nat.gcd k 4294967296 % 2 = 1 := Nat.eq_of_beq_eq_true ho
      change ite3 (mrK 2 k (k / Nat.gcd k 4294967296) (Nat.log2 (Nat.gcd k 4294967296))) (ite3 (mrK 7 k (k / Nat.gcd k 4294967296) (Nat.log2 (Nat.gcd k 4294967296))) (ite3 (mrK 61 k (k / Nat.gcd k 4294967296) (Nat.log2 (Nat.gcd k 4294967296))) false true) true) true = true at h
      generalize k / Nat.gcd k 4294967296 = d at hs h ho
      generalize Nat.log2 (Nat.gcd k 4294967296) = s at hs h
      obtain ⟨p2, p7, p61⟩ := hp d s (by omega) ho
      rw [mrK_eq, mrK_eq, mrK_eq, p2, p7, p61] at h
      exact absurd h (by simp [ite3])
    · exact h1 (Passes.psp hn hp).1
end
section
open Go.RowKit

set_option maxHeartbeats 400000 in
theorem passesWith_any (b n d s : Nat) (hb : b < 4294967296) (hn : n < 4294967296) (hn1 : 1 < n) (hd : d % 2 = 1) (hs : s ≤ 32) (hsplit : n - 1 = d * 2 ^ s) (w : World) :
    Calls Tryd.prog 24 #[.int .u32 (b : Int), .int .u32 (n : Int)] w fun e w' => e = .returned (.bool (mr b n d s)) ∧ w' = w := by
  obtain ⟨m, hm⟩ : ∃ m, n = m + 1 := ⟨n - 1, by omega⟩
  subst hm
  have hm : m = d * 2 ^ s := by omega
  clear hsplit
  have hpow := fun W => power_any b (m + 1) hb hn hn1 64 d (by
    have : d ≤ d * 2 ^ s := Nat.le_mul_of_pos_right _ (Nat.two_pow_pos s)
    have : d < 18446744073709551616 := by omega
    simpa using this) (by
    have : d ≤ d * 2 ^ s := Nat.le_mul_of_pos_right _ (Nat.two_pow_pos s)
    omega) W
  have hdm : d < 4294967296 := by
    have : d ≤ d * 2 ^ s := Nat.le_mul_of_pos_right _ (Nat.two_pow_pos s)
    omega
  have hx : b ^ d % (m + 1) < m + 1 := Nat.mod_lt _ (by omega)
  have hmr : mr b (m + 1) d s = if b ^ d % (m + 1) = 1 then true else mrLoop (m + 1) s (b ^ d % (m + 1)) := rfl
  obtain ⟨x, hxe⟩ : ∃ x, x = b ^ d % (m + 1) := ⟨_, rfl⟩
  rw [← hxe] at hx hmr
  simp only [← hxe] at hpow
  clear hxe
  have Hm := Lib.hid hm
  have Hmr := Lib.hid hmr
  have hm2 : m < 4294967295 := by omega
  have hm0 : 0 < m := by omega
  clear hm hmr
  go_enter Tryd.func24, Tryd.ntmps24
  go_wp2
  go_loop [5, 6] (fun ov tv => ∃ (j i y : Nat), i + j = s ∧ y = d * 2 ^ j ∧ 0 < y ∧ y ≤ m ∧ ov = .int .u32 (y : Int) ∧ tv = .int .i64 (i : Int)) (fun ov _ => (intOf ov).toNat)
  case atStart => exact ⟨s, 0, m, by omega, Hm.out, hm0, by omega, rfl, rfl⟩
  case round =>
    obtain ⟨j, i, y, hij, hy, hy0, hym, rfl, rfl⟩ := hrel
    cases j with
    | succ j =>
      have hy2 : y = 2 * (d * 2 ^ j) := by rw [hy, Nat.pow_succ, ← Nat.mul_assoc, Nat.mul_comm]
      obtain ⟨z, hz⟩ : ∃ z, z = d * 2 ^ j := ⟨_, rfl⟩
      rw [← hz] at hy2
      have Hz := Lib.hid hz
      clear hy hz
      have t0 : ((y : Int) % 2 == 0) = true := by simp; omega
      have t1 : (y : Int) / 2 = (z : Int) := by omega
      have Hy2 := Lib.hid hy2
      have hi : i < 32 := by omega
      clear hy2
      go_wp2
      go_round
      case rel => exact ⟨j, i + 1, z, by omega, Hz.out, by have := Hy2.out; omega, by have := Hy2.out; omega, by go_num, by go_num⟩
      case measure => have := Hy2.out; simp [intOf]; omega
    | zero =>
      obtain rfl : y = d := by simpa using hy
      obtain rfl : i = s := by omega
      clear hy hij
      have t0 : ((y : Int) % 2 == 0) = false := by simp; omega
      go_wp2_with fail
      refine (hpow _).mono ?_
      rintro _ _ ⟨rfl, rfl⟩
      by_cases h1 : x = 1
      · have e1 := Hmr.out
        rw [if_pos h1] at e1
        have E1 := Lib.hid e1
        subst h1
        clear e1 Hmr hpow
        go_wp2
        go_ret
        exact ⟨by rw [E1.out]; rfl, rfl⟩
      · have e1 := Hmr.out
        rw [if_neg h1] at e1
        have E1 := Lib.hid e1
        have t1 : ((x : Int) == 1) = false := by simp; omega
        clear e1 Hmr hpow
        go_wp2
        go_loop [25, 7] (fun cv xv => ∃ (j c z : Nat), c + j = i ∧ z < m + 1 ∧ mrLoop (m + 1) i x = mrLoop (m + 1) j z ∧ cv = .int .i64 (c : Int) ∧ xv = .int .u32 (z : Int)) (fun cv _ => i - (intOf cv).toNat)
        case atStart => exact ⟨i, 0, x, by omega, hx, rfl, rfl, rfl⟩
        case round =>
          obtain ⟨j, c, z, hcj, hz, hmz, rfl, rfl⟩ := hrel
          cases j with
          | zero =>
            obtain rfl : c = i := by omega
            have Hmz := Lib.hid hmz
            clear hmz
            go_wp2
            go_ret
            exact ⟨by rw [E1.out, Hmz.out]; rfl, rfl⟩
          | succ j =>
            have hci : c < i := by omega
            by_cases hzm : z = m
            · subst hzm
              rw [mrLoop, if_pos (by omega)] at hmz
              have Hmz := Lib.hid hmz
              clear hmz
              have t2 : ((z : Int) == (z : Int)) = true := by simp
              go_wp2
              go_ret
              exact ⟨by rw [E1.out, Hmz.out]; rfl, rfl⟩
            · rw [mrLoop, if_neg (by omega)] at hmz
              have Hmz := Lib.hid hmz
              have t2 : ((z : Int) == (m : Int)) = false := by simp; omega
              clear hmz
              go_wp2_with fail
              refine (times_any z z (m + 1) _ (by omega) (by omega) hn (by omega)).mono ?_
              rintro _ _ ⟨rfl, rfl⟩
              have hq : z * z % (m + 1) < m + 1 := Nat.mod_lt _ (by omega)
              obtain ⟨q, hqe⟩ : ∃ q, q = z * z % (m + 1) := ⟨_, rfl⟩
              have Hqe := Lib.hid hqe
              rw [← hqe] at hq ⊢
              clear hqe
              go_wp2
              go_round
              case rel => exact ⟨j, c + 1, q, by omega, hq, by rw [Hmz.out, Hqe.out], by go_num, rfl⟩
              case measure => simp [intOf]; omega

/-- The package's list of bases, as it was laid. -/
def Bases (w : World) : Prop := w.cell? ⟨0, 0, none⟩ = some (.int .u32 2) ∧ w.cell? ⟨0, 1, none⟩ = some (.int .u32 7) ∧ w.cell? ⟨0, 2, none⟩ = some (.int .u32 61)

/-- One base in passes. -/
def base1 (n d s b : Nat) : Bool := if b % n = 0 then true else mr b n d s
/-- What passes answers. -/
def passAll (n d s : Nat) : Bool := if base1 n d s 2 = true then if base1 n d s 7 = true then base1 n d s 61 else false else false

set_option maxHeartbeats 1600000 in
theorem passes_any (n d s : Nat) (hn : n < 4294967296) (hn1 : 1 < n) (hd : d % 2 = 1) (hs : s ≤ 32) (hsplit : n - 1 = d * 2 ^ s) (w : World) (hw : Bases w) :
    Calls Tryd.prog 18 #[.int .u32 (n : Int)] w fun e w' => e = .returned (.bool (passAll n d s)) ∧ w' = w := by
  obtain ⟨h0, h1, h2⟩ := hw
  have hp := fun b hb W => passesWith_any b n d s hb hn hn1 hd hs hsplit W
  have e1 : ∀ b, base1 n d s b = if b % n = 0 then true else mr b n d s := fun _ => rfl
  have e2 : passAll n d s = if base1 n d s 2 = true then if base1 n d s 7 = true then base1 n d s 61 else false else false := rfl
  obtain ⟨F, hF⟩ : ∃ F, F = base1 n d s := ⟨_, rfl⟩
  obtain ⟨M, hM⟩ : ∃ M : Nat → Bool, M = fun b => mr b n d s := ⟨_, rfl⟩
  obtain ⟨R, hR⟩ : ∃ R, R = passAll n d s := ⟨_, rfl⟩
  have e3 : ∀ b, mr b n d s = M b := fun b => by rw [hM]
  simp only [e3, ← hF, ← hR] at e1 e2 hp ⊢
  have E1 := Lib.hid e1
  have E2 := Lib.hid e2
  have Hp := Lib.hid hp
  have t0 : ((n : Int) == 0) = false := by simp; omega
  clear hF hM hR e1 e2 e3 hp hd hs hsplit
  go_enter Tryd.func18, Tryd.ntmps18
  go_wp2
  go_loop [6] (fun iv => (iv = .int .i64 0) ∨ (iv = .int .i64 1 ∧ F 2 = true) ∨ (iv = .int .i64 2 ∧ F 2 = true ∧ F 7 = true) ∨ (iv = .int .i64 3 ∧ F 2 = true ∧ F 7 = true ∧ F 61 = true)) (fun iv => 3 - (intOf iv).toNat)
  case atStart => exact Or.inl rfl
  case round =>
    rcases hrel with rfl | ⟨rfl, f2⟩ | ⟨rfl, f2, f7⟩ | ⟨rfl, f2, f7, f61⟩
    · have eB := E1.out 2
      have xB : ∀ w : World, (Instr.index 45 (.agg #[.int .u32 2, .int .u32 7, .int .u32 61]) (.int .i64 0)).run Tryd.prog w = .ok (.int .u32 2) w := fun _ => by kernel_rfl
      have hpB := fun W => Hp.out 2 (by decide) W
      by_cases hz : 2 % n = 0
      · rw [if_pos hz] at eB
        have t1 : ((2 : Int) % (n : Int) != 0) = false := by rw [show (2 : Int) % (n : Int) = ((2 % n : Nat) : Int) from by norm_cast, hz]; rfl
        have EB := Lib.hid eB
        clear eB hz hpB
        go_wp2
        go_round
        case rel => exact Or.inr (Or.inl ⟨by go_num, EB.out⟩)
        case measure => simp [intOf]
      · rw [if_neg hz] at eB
        have t1 : ((2 : Int) % (n : Int) != 0) = true := by rw [show (2 : Int) % (n : Int) = ((2 % n : Nat) : Int) from by norm_cast, bne_iff_ne]; exact fun h => hz (Int.ofNat.inj h)
        obtain ⟨v, hv⟩ : ∃ v, v = M 2 := ⟨_, rfl⟩
        rw [← hv] at eB
        simp only [← hv] at hpB
        have EB := Lib.hid eB
        clear eB hz hv
        go_wp2_with fail
        refine (hpB _).mono ?_
        rintro _ _ ⟨rfl, rfl⟩
        clear hpB
        cases v with
        | false =>
          go_wp2
          go_ret
          exact ⟨by rw [E2.out, EB.out]; rfl, rfl⟩
        | true =>
          go_wp2
          go_round
          case rel => exact Or.inr (Or.inl ⟨by go_num, EB.out⟩)
          case measure => simp [intOf]
    · have eB := E1.out 7
      have xB : ∀ w : World, (Instr.index 45 (.agg #[.int .u32 2, .int .u32 7, .int .u32 61]) (.int .i64 1)).run Tryd.prog w = .ok (.int .u32 7) w := fun _ => by kernel_rfl
      replace f2 := Lib.hid f2
      have hpB := fun W => Hp.out 7 (by decide) W
      by_cases hz : 7 % n = 0
      · rw [if_pos hz] at eB
        have t1 : ((7 : Int) % (n : Int) != 0) = false := by rw [show (7 : Int) % (n : Int) = ((7 % n : Nat) : Int) from by norm_cast, hz]; rfl
        have EB := Lib.hid eB
        clear eB hz hpB
        go_wp2
        go_round
        case rel => exact Or.inr (Or.inr (Or.inl ⟨by go_num, f2.out, EB.out⟩))
        case measure => simp [intOf]
      · rw [if_neg hz] at eB
        have t1 : ((7 : Int) % (n : Int) != 0) = true := by rw [show (7 : Int) % (n : Int) = ((7 % n : Nat) : Int) from by norm_cast, bne_iff_ne]; exact fun h => hz (Int.ofNat.inj h)
        obtain ⟨v, hv⟩ : ∃ v, v = M 7 := ⟨_, rfl⟩
        rw [← hv] at eB
        simp only [← hv] at hpB
        have EB := Lib.hid eB
        clear eB hz hv
        go_wp2_with fail
        refine (hpB _).mono ?_
        rintro _ _ ⟨rfl, rfl⟩
        clear hpB
        cases v with
        | false =>
          go_wp2
          go_ret
          exact ⟨by rw [E2.out, f2.out, EB.out]; rfl, rfl⟩
        | true =>
          go_wp2
          go_round
          case rel => exact Or.inr (Or.inr (Or.inl ⟨by go_num, f2.out, EB.out⟩))
          case measure => simp [intOf]
    · have eB := E1.out 61
      have xB : ∀ w : World, (Instr.index 45 (.agg #[.int .u32 2, .int .u32 7, .int .u32 61]) (.int .i64 2)).run Tryd.prog w = .ok (.int .u32 61) w := fun _ => by kernel_rfl
      replace f2 := Lib.hid f2
      replace f7 := Lib.hid f7
      have hpB := fun W => Hp.out 61 (by decide) W
      by_cases hz : 61 % n = 0
      · rw [if_pos hz] at eB
        have t1 : ((61 : Int) % (n : Int) != 0) = false := by rw [show (61 : Int) % (n : Int) = ((61 % n : Nat) : Int) from by norm_cast, hz]; rfl
        have EB := Lib.hid eB
        clear eB hz hpB
        go_wp2
        go_round
        case rel => exact Or.inr (Or.inr (Or.inr ⟨by go_num, f2.out, f7.out, EB.out⟩))
        case measure => simp [intOf]
      · rw [if_neg hz] at eB
        have t1 : ((61 : Int) % (n : Int) != 0) = true := by rw [show (61 : Int) % (n : Int) = ((61 % n : Nat) : Int) from by norm_cast, bne_iff_ne]; exact fun h => hz (Int.ofNat.inj h)
        obtain ⟨v, hv⟩ : ∃ v, v = M 61 := ⟨_, rfl⟩
        rw [← hv] at eB
        simp only [← hv] at hpB
        have EB := Lib.hid eB
        clear eB hz hv
        go_wp2_with fail
        refine (hpB _).mono ?_
        rintro _ _ ⟨rfl, rfl⟩
        clear hpB
        cases v with
        | false =>
          go_wp2
          go_ret
          exact ⟨by rw [E2.out, f2.out, f7.out, EB.out]; rfl, rfl⟩
        | true =>
          go_wp2
          go_round
          case rel => exact Or.inr (Or.inr (Or.inr ⟨by go_num, f2.out, f7.out, EB.out⟩))
          case measure => simp [intOf]
    · have f2 := Lib.hid f2
      have f7 := Lib.hid f7
      have f61 := Lib.hid f61
      go_wp2
      go_ret
      exact ⟨by rw [E2.out, f2.out, f7.out, f61.out]; rfl, rfl⟩
end
section
open Go.RowKit

/-- What Is answers; n - 1 is d 2^s where n is odd and above 3. -/
def isN (n d s : Nat) : Bool := if n < 4 then decide (1 < n) else if n % 2 = 1 then passAll n d s else false

set_option maxHeartbeats 800000 in
theorem is_any (n d s : Nat) (hn : n < 4294967296) (h : 4 ≤ n → n % 2 = 1 → n - 1 = d * 2 ^ s ∧ d % 2 = 1 ∧ s ≤ 32) (w : World) (hw : Bases w) :
    Calls Tryd.prog 12 #[.int .u32 (n : Int)] w fun e w' => e = .returned (.bool (isN n d s)) ∧ w' = w := by
  have e1 : isN n d s = if n < 4 then decide (1 < n) else if n % 2 = 1 then passAll n d s else false := rfl
  by_cases h4 : n < 4
  · rw [if_pos h4] at e1
    have E1 := Lib.hid e1
    clear e1 h
    go_enter Tryd.func12, Tryd.ntmps12
    go_wp2
    go_ret
    refine ⟨?_, rfl⟩
    rw [E1.out]
    exact congrArg (fun b => Ending.returned (Value.bool b)) (decide_eq_decide.2 (by show (1 : Int) < (n : Int) ↔ 1 < n; omega))
  · rw [if_neg h4] at e1
    by_cases h2 : n % 2 = 1
    · obtain ⟨h5, h6, h7⟩ := h (by omega) h2
      rw [if_pos h2] at e1
      have hp := fun W hW => passes_any n d s hn (by omega) h6 h7 h5 W hW
      obtain ⟨r, hr⟩ : ∃ r, r = passAll n d s := ⟨_, rfl⟩
      rw [← hr] at e1
      simp only [← hr] at hp
      have t1 : ((n : Int) % 2 == 1) = true := by simp; omega
      have E1 := Lib.hid e1
      have Hw := Lib.hid hw
      clear e1 h h2 h5 h6 h7 hr hw
      go_enter Tryd.func12, Tryd.ntmps12
      go_wp2_with fail
      refine (hp _ Hw.out).mono ?_
      rintro _ _ ⟨rfl, rfl⟩
      go_wp2
      go_ret
      exact ⟨by rw [E1.out]; rfl, rfl⟩
    · rw [if_neg h2] at e1
      have t1 : ((n : Int) % 2 == 1) = false := by simp; omega
      have E1 := Lib.hid e1
      clear e1 h h2
      go_enter Tryd.func12, Tryd.ntmps12
      go_wp2
      go_ret
      exact ⟨by rw [E1.out]; rfl, rfl⟩

set_option maxHeartbeats 800000 in
theorem isSquare_any (a p e : Nat) (ha : a < 4294967296) (hp : p < 4294967296) (hp2 : 2 < p) (he : e = (p - 1) / 2) (w : World) :
    Calls Tryd.prog 22 #[.int .u32 (a : Int), .int .u32 (p : Int)] w fun r w' => r = .returned (.bool (decide (a ^ e % p = 1))) ∧ w' = w := by
  have hpow := fun W => power_any a p ha hp (by omega) 64 e (by
    have : e < 18446744073709551616 := by omega
    simpa using this) (by omega) W
  obtain ⟨m, hm⟩ : ∃ m, p = m + 1 := ⟨p - 1, by omega⟩
  subst hm
  have t1 : (m : Int) / 2 = (e : Int) := by omega
  have t2 : ((m : Int) + 1 == 2) = false := by simp; omega
  have hx : a ^ e % (m + 1) < m + 1 := Nat.mod_lt _ (by omega)
  obtain ⟨x, hxe⟩ : ∃ x, x = a ^ e % (m + 1) := ⟨_, rfl⟩
  rw [← hxe] at hx ⊢
  simp only [← hxe] at hpow
  clear he hxe
  go_enter Tryd.func22, Tryd.ntmps22
  go_wp2_with fail
  refine (hpow _).mono ?_
  rintro _ _ ⟨rfl, rfl⟩
  go_wp2
  go_ret
  refine ⟨?_, rfl⟩
  by_cases h : x = 1
  · simp [h]
  · simp [h]; omega

set_option maxHeartbeats 800000 in
theorem inverse_37 (w : World) : Calls Tryd.prog 37 #[.int .u32 3, .int .u32 7] w fun r w' => r = .returned (.int .u32 5) ∧ w' = w := by
  go_enter Tryd.func37, Tryd.ntmps37
  go_wp2
  go_step3
  go_wp2
  go_step3
  go_wp2
  go_loop [5, 6, 7, 8] (fun a b c d => (a = .int .i64 7 ∧ b = .int .i64 3 ∧ c = .int .i64 0 ∧ d = .int .i64 1) ∨ (a = .int .i64 3 ∧ b = .int .i64 1 ∧ c = .int .i64 1 ∧ d = .int .i64 (-2))) (fun _ b _ _ => (intOf b).toNat)
  case atStart => exact Or.inl ⟨rfl, rfl, rfl, rfl⟩
  case round =>
    rcases hrel with ⟨rfl, rfl, rfl, rfl⟩ | ⟨rfl, rfl, rfl, rfl⟩
    · go_wp2
      go_round
      case rel => exact Or.inr ⟨rfl, rfl, rfl, rfl⟩
      case measure => decide
    · go_wp2
      go_ret
      exact ⟨rfl, rfl⟩
end
section
open Go.RowKit

/-- a^e modulo p by squaring: what the kernel can reckon. -/
def pw (a p : Nat) : Nat → Nat → Nat
  | 0, _ => 1
  | k + 1, e => if e % 2 = 1 then (pw a p k (e / 2) * pw a p k (e / 2) % p) * a % p else pw a p k (e / 2) * pw a p k (e / 2) % p
theorem pw_eq (a p : Nat) (hp : 1 < p) : ∀ k e, e < 2 ^ k → a ^ e % p = pw a p k e
  | 0, e, h => by
    obtain rfl : e = 0 := by simpa using h
    rw [Nat.pow_zero, Nat.mod_eq_of_lt hp]; rfl
  | k + 1, e, h => by
    rw [pow_half, pw_eq a p hp k (e / 2) (by rw [Nat.pow_succ] at h; omega)]
    rfl

/-- isN, as the kernel can reckon it. -/
def mrC (b n d s : Nat) : Bool := if pw b n 32 d = 1 then true else mrLoop n s (pw b n 32 d)
def isC (n d s : Nat) : Bool := if n < 4 then decide (1 < n) else if n % 2 = 1 then
  (if (if 2 % n = 0 then true else mrC 2 n d s) = true then if (if 7 % n = 0 then true else mrC 7 n d s) = true then (if 61 % n = 0 then true else mrC 61 n d s) else false else false) else false
theorem mr_eq (b n d s : Nat) (hn : 1 < n) (hd : d < 4294967296) : mr b n d s = mrC b n d s := by
  unfold mr mrC
  rw [pw_eq b n hn 32 d (by simpa using hd)]
theorem isN_eq (n d s : Nat) (hn : 1 < n) (hd : d < 4294967296) : isN n d s = isC n d s := by
  unfold isN isC passAll base1
  rw [mr_eq 2 n d s hn hd, mr_eq 7 n d s hn hd, mr_eq 61 n d s hn hd]

theorem isSquare_27 (w : World) : Calls Tryd.prog 22 #[.int .u32 2, .int .u32 7] w fun r w' => r = .returned (.bool true) ∧ w' = w := isSquare_any 2 7 3 (by decide) (by decide) (by decide) (by decide) w
theorem isSquare_37 (w : World) : Calls Tryd.prog 22 #[.int .u32 3, .int .u32 7] w fun r w' => r = .returned (.bool false) ∧ w' = w := isSquare_any 3 7 3 (by decide) (by decide) (by decide) (by decide) w
theorem power_337 (w : World) : Calls Tryd.prog 38 #[.int .u32 3, .int .u64 3, .int .u32 7] w fun r w' => r = .returned (.int .u32 6) ∧ w' = w := power_any 3 7 (by decide) (by decide) (by decide) 64 3 (by decide) (by decide) w
theorem power_227 (w : World) : Calls Tryd.prog 38 #[.int .u32 2, .int .u64 2, .int .u32 7] w fun r w' => r = .returned (.int .u32 4) ∧ w' = w := power_any 2 7 (by decide) (by decide) (by decide) 64 2 (by decide) (by decide) w
theorem power_237 (w : World) : Calls Tryd.prog 38 #[.int .u32 2, .int .u64 3, .int .u32 7] w fun r w' => r = .returned (.int .u32 1) ∧ w' = w := power_any 2 7 (by decide) (by decide) (by decide) 64 3 (by decide) (by decide) w
theorem times_157 (w : World) : Calls Tryd.prog 36 #[.int .u32 1, .int .u32 5, .int .u32 7] w fun r w' => r = .returned (.int .u32 5) ∧ w' = w := times_any 1 5 7 w (by decide) (by decide) (by decide) (by decide)

theorem is_7 (w : World) (hw : Bases w) : Calls Tryd.prog 12 #[.int .u32 7] w fun r w' => r = .returned (.bool true) ∧ w' = w := by
  have h := is_any 7 3 1 (by decide) (fun _ _ => ⟨by decide, by decide, by decide⟩) w hw
  rw [show isN 7 3 1 = true from by decide +kernel] at h
  exact h
theorem is_561 (w : World) (hw : Bases w) : Calls Tryd.prog 12 #[.int .u32 561] w fun r w' => r = .returned (.bool false) ∧ w' = w := by
  have h := is_any 561 35 4 (by decide) (fun _ _ => ⟨by decide, by decide, by decide⟩) w hw
  rw [show isN 561 35 4 = false from by decide +kernel] at h
  exact h
theorem is_big (w : World) (hw : Bases w) : Calls Tryd.prog 12 #[.int .u32 4294967291] w fun r w' => r = .returned (.bool true) ∧ w' = w := by
  have h := is_any 4294967291 2147483645 1 (by decide) (fun _ _ => ⟨by decide, by decide, by decide⟩) w hw
  have e : isC 4294967291 2147483645 1 = true := by decide +kernel
  rw [isN_eq 4294967291 2147483645 1 (by decide) (by decide), e] at h
  exact h

set_option maxHeartbeats 1600000 in
theorem root_27 (w : World) : Calls Tryd.prog 23 #[.int .u32 2, .int .u32 7] w fun r w' => r = .returned (.int .u32 4) ∧ w' = w := by
  go_enter Tryd.func23, Tryd.ntmps23
  go_wp2
  go_loop [5, 6] (fun a b => (a = .int .u32 6 ∧ b = .int .i64 0) ∨ (a = .int .u32 3 ∧ b = .int .i64 1)) (fun a _ => (intOf a).toNat)
  case atStart => exact Or.inl ⟨rfl, rfl⟩
  case round =>
    rcases hrel with ⟨rfl, rfl⟩ | ⟨rfl, rfl⟩
    · go_wp2
      go_round
      case rel => exact Or.inr ⟨rfl, rfl⟩
      case measure => decide
    · go_wp2
      go_loop [7] (fun a => a = .int .u32 2 ∨ a = .int .u32 3) (fun a => 3 - (intOf a).toNat)
      case atStart => exact Or.inl rfl
      case round =>
        rcases hrel with rfl | rfl
        · go_wp2_with fail
          refine (isSquare_27 _).mono ?_
          rintro _ _ ⟨rfl, rfl⟩
          go_wp2
          go_round
          case rel => exact Or.inr rfl
          case measure => decide
        · go_wp2_with fail
          refine (isSquare_37 _).mono ?_
          rintro _ _ ⟨rfl, rfl⟩
          go_wp2_with fail
          refine (power_337 _).mono ?_
          rintro _ _ ⟨rfl, rfl⟩
          go_wp2_with fail
          refine (power_227 _).mono ?_
          rintro _ _ ⟨rfl, rfl⟩
          go_wp2_with fail
          refine (power_237 _).mono ?_
          rintro _ _ ⟨rfl, rfl⟩
          go_wp2
          go_loop [6, 8, 9, 10, 11, 12] (fun _ _ c d _ _ => c = .int .u32 4 ∧ d = .int .u32 1) (fun _ _ _ _ _ _ => 0)
          case atStart => exact ⟨rfl, rfl⟩
          case round =>
            obtain ⟨rfl, rfl⟩ := hrel
            go_wp2
            go_ret
            exact ⟨rfl, rfl⟩

set_option maxHeartbeats 800000 in
theorem quo_137 (w : World) (hw : Bases w) : Calls Tryd.prog 21 #[.int .u32 1, .int .u32 3, .int .u32 7] w fun r w' => r = .returned (.tuple #[.int .u32 5, .int .i64 0]) ∧ w' = w := by
  have Hw := Lib.hid hw
  clear hw
  go_enter Tryd.func21, Tryd.ntmps21
  go_wp2_with fail
  refine (is_7 _ Hw.out).mono ?_
  rintro _ _ ⟨rfl, rfl⟩
  go_wp2_with fail
  refine (inverse_37 _).mono ?_
  rintro _ _ ⟨rfl, rfl⟩
  go_wp2_with fail
  refine (times_157 _).mono ?_
  rintro _ _ ⟨rfl, rfl⟩
  go_wp2
  go_ret2
  exact ⟨rfl, rfl⟩

set_option maxHeartbeats 800000 in
theorem inv_37 (w : World) (hw : Bases w) : Calls Tryd.prog 15 #[.int .u32 3, .int .u32 7] w fun r w' => r = .returned (.tuple #[.int .u32 5, .int .i64 0]) ∧ w' = w := by
  go_enter Tryd.func15, Tryd.ntmps15
  go_wp2_with fail
  refine (quo_137 _ hw).mono ?_
  rintro _ _ ⟨rfl, rfl⟩
  go_wp2
  go_ret2
  exact ⟨rfl, rfl⟩

set_option maxHeartbeats 800000 in
theorem sqrt_27 (w : World) (hw : Bases w) : Calls Tryd.prog 16 #[.int .u32 2, .int .u32 7] w fun r w' => r = .returned (.tuple #[.int .u32 3, .int .i64 0]) ∧ w' = w := by
  have Hw := Lib.hid hw
  clear hw
  go_enter Tryd.func16, Tryd.ntmps16
  go_wp2_with fail
  refine (is_7 _ Hw.out).mono ?_
  rintro _ _ ⟨rfl, rfl⟩
  go_wp2_with fail
  refine (isSquare_27 _).mono ?_
  rintro _ _ ⟨rfl, rfl⟩
  go_wp2_with fail
  refine (root_27 _).mono ?_
  rintro _ _ ⟨rfl, rfl⟩
  go_wp2
  go_ret2
  exact ⟨rfl, rfl⟩

theorem num_any (k : Int) (w : World) : Calls Tryd.prog 17 #[.int .i64 k] w fun r w' => r = .returned (.int .i64 k) ∧ w' = w := by
  go_enter Tryd.func17, Tryd.ntmps17
  go_wp2
  go_ret
  exact ⟨rfl, rfl⟩

set_option maxHeartbeats 1600000 in
theorem awake_any (w : World) (hw : Bases w) : Calls Tryd.prog 11 #[] w fun r w' => r = .returned (.bool true) ∧ w' = w := by
  have Hw := Lib.hid hw
  clear hw
  go_enter Tryd.func11, Tryd.ntmps11
  go_wp2_with fail
  refine (inv_37 _ Hw.out).mono ?_
  rintro _ _ ⟨rfl, rfl⟩
  go_wp2_with fail
  refine (sqrt_27 _ Hw.out).mono ?_
  rintro _ _ ⟨rfl, rfl⟩
  go_wp2_with fail
  refine (num_any _ _).mono ?_
  rintro _ _ ⟨rfl, rfl⟩
  go_wp2_with fail
  refine (num_any _ _).mono ?_
  rintro _ _ ⟨rfl, rfl⟩
  go_wp2_with fail
  refine (is_big _ Hw.out).mono ?_
  rintro _ _ ⟨rfl, rfl⟩
  go_wp2_with fail
  refine (is_561 _ Hw.out).mono ?_
  rintro _ _ ⟨rfl, rfl⟩
  go_wp2
  go_ret
  exact ⟨rfl, rfl⟩
end
end Go.Proofs.YtcopkeccogpkmaaDoor
