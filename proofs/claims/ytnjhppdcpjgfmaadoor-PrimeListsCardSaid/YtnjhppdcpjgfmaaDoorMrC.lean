/- What the kernel reckons: tests of single numbers, of primes with a range of cofactors, of products; and what each says. No conditions. -/
import Derived.Test.YtnjhppdcpjgfmaaDoorMrB
namespace Go.Proofs.YtnjhppdcpjgfmaaDoor

/-! Miller's and Rabin's way -/
/-- The second part. -/
def mrLoop (n : Nat) : Nat → Nat → Bool
  | 0, _ => false
  | s + 1, x => if x = n - 1 then true else mrLoop n s (x * x % n)
/-- Does n pass with the base b, n - 1 being d 2^s? -/
def mr (b n d s : Nat) : Bool := if b ^ d % n = 1 then true else mrLoop n s (b ^ d % n)

theorem pow_square {b n e : Nat} : b ^ e % n * (b ^ e % n) % n = b ^ (e * 2) % n := by
  rw [← Nat.mul_mod, Nat.pow_mul, Nat.pow_two]
theorem minus_square {n : Nat} (hn : 1 < n) : (n - 1) * (n - 1) % n = 1 := by
  obtain ⟨m, rfl⟩ : ∃ m, n = m + 1 := ⟨n - 1, by omega⟩
  obtain ⟨k, rfl⟩ : ∃ k, m = k + 1 := ⟨m - 1, by omega⟩
  have : (k + 1) * (k + 1) = 1 + (k + 1 + 1) * k := by
    rw [Nat.add_mul, Nat.mul_add, Nat.add_mul, Nat.add_mul]; omega
  rw [Nat.add_sub_cancel, this, Nat.add_mul_mod_self_left, Nat.mod_eq_of_lt (by omega)]
theorem mrLoop_says {b n : Nat} (hn : 1 < n) : ∀ (s e : Nat), mrLoop n s (b ^ e % n) = true → b ^ (e * 2 ^ s) % n = 1
  | 0, e, h => by simp [mrLoop] at h
  | s + 1, e, h => by
    rw [mrLoop] at h
    by_cases hx : b ^ e % n = n - 1
    · have h2 : b ^ (e * 2) % n = 1 := by rw [← pow_square, hx, minus_square hn]
      rw [Nat.pow_succ, Nat.mul_comm (2 ^ s), ← Nat.mul_assoc]
      exact pow_mul_one hn h2 _
    · rw [if_neg hx, pow_square] at h
      have := mrLoop_says hn s (e * 2) h
      rwa [Nat.mul_assoc, ← Nat.pow_succ'] at this
theorem mr_says {b n d s : Nat} (hn : 1 < n) (h : mr b n d s = true) : b ^ (d * 2 ^ s) % n = 1 := by
  unfold mr at h
  by_cases h1 : b ^ d % n = 1
  · exact pow_mul_one hn h1 _
  · rw [if_neg h1] at h
    exact mrLoop_says hn s d h

/-! Strict evaluation -/
noncomputable def strict (n : Nat) (f : Nat → Bool) : Bool := Nat.rec (f (nat_lit 0)) (fun k _ => f (Nat.succ k)) n
theorem strict_eq (n : Nat) (f : Nat → Bool) : strict n f = f n := by cases n <;> rfl
noncomputable def ite3 (c a b : Bool) : Bool := Bool.rec b a c
theorem ite3_eq (c a b : Bool) : ite3 c a b = if c = true then a else b := by cases c <;> rfl
theorem and3 {c a : Bool} (h : ite3 c a false = true) : c = true ∧ a = true := by cases c <;> simp_all [ite3]

/-- b^e modulo n, in three steps. -/
noncomputable def pow3 (b e n : Nat) : Nat := Nat.mod (Nat.mul (Nat.pow (Nat.mod (Nat.mul (Nat.pow (Nat.mod (Nat.pow b (Nat.div e (nat_lit 65536))) n) (nat_lit 256)) (Nat.pow b (Nat.div (Nat.mod e (nat_lit 65536)) (nat_lit 256)))) n) (nat_lit 256)) (Nat.pow b (Nat.mod e (nat_lit 256)))) n
theorem pow3_eq (b e n : Nat) : pow3 b e n = b ^ e % n := by
  show ((((b ^ (e / 65536) % n) ^ 256 * b ^ (e % 65536 / 256)) % n) ^ 256 * b ^ (e % 256)) % n = b ^ e % n
  have s1 : ((b ^ (e / 65536) % n) ^ 256 * b ^ (e % 65536 / 256)) % n = b ^ (e / 256) % n := by
    rw [Nat.mul_mod, ← Nat.pow_mod, ← Nat.mul_mod, ← Nat.pow_mul, ← Nat.pow_add]
    congr 2; omega
  rw [s1, Nat.mul_mod, ← Nat.pow_mod, ← Nat.mul_mod, ← Nat.pow_mul, ← Nat.pow_add]
  congr 2; omega

/-! The tests with powers by steps, for the few that pass Fermat's test -/
noncomputable def loopK (k : Nat) (s : Nat) : Nat → Bool := Nat.rec (fun _ => false) (fun _ ih x => strict x fun x => ite3 (Nat.beq x k) true (ih (Nat.mod (Nat.mul x x) (Nat.succ k)))) s
theorem loopK_eq (k : Nat) : ∀ s x, loopK k s x = mrLoop (k + 1) s x
  | 0, _ => rfl
  | s + 1, x => by
    show strict x (fun x => ite3 (Nat.beq x k) true (loopK k s (Nat.mod (Nat.mul x x) (Nat.succ k)))) = _
    rw [strict_eq, ite3_eq, mrLoop, loopK_eq k s]
    by_cases h : x = k
    · simp [h]
    · have : Nat.beq x k = false := Bool.eq_false_iff.2 fun e => h (Nat.eq_of_beq_eq_true e)
      rw [this, if_neg (by simp), if_neg (by omega)]; rfl
noncomputable def mrK (b k d s : Nat) : Bool := strict (pow3 b d (Nat.succ k)) fun x => ite3 (Nat.beq x (nat_lit 1)) true (loopK k s x)
theorem mrK_eq (b k d s : Nat) : mrK b k d s = mr b (k + 1) d s := by
  unfold mrK mr
  rw [strict_eq, pow3_eq, ite3_eq, loopK_eq]
  by_cases h : b ^ d % (k + 1) = 1
  · rw [show b ^ d % Nat.succ k = 1 from h]; simp
  · have : Nat.beq (b ^ d % Nat.succ k) 1 = false := Bool.eq_false_iff.2 fun e => h (Nat.eq_of_beq_eq_true e)
    rw [this, if_neg h]; rfl
/-- Is some base against n = k + 1? -/
noncomputable def slowK (k : Nat) : Bool := strict (Nat.gcd k (nat_lit 4294967296)) fun g => strict (Nat.div k g) fun d => strict (Nat.log2 g) fun s =>
  ite3 (Nat.beq (Nat.mul d (Nat.pow (nat_lit 2) s)) k) (ite3 (Nat.beq (Nat.mod d (nat_lit 2)) (nat_lit 1)) (ite3 (mrK (nat_lit 2) k d s) (ite3 (mrK (nat_lit 7) k d s) (ite3 (mrK (nat_lit 61) k d s) false true) true) true) false) false
noncomputable def bad (n : Nat) : Bool := Nat.rec false (fun k _ => ite3 (Nat.beq (pow3 (nat_lit 2) k (Nat.succ k)) (nat_lit 1)) (slowK k) true) n

/-- n passes: to each of the bases, however n - 1 is split. -/
def Passes (n : Nat) : Prop := ∀ d s, n - 1 = d * 2 ^ s → d % 2 = 1 → mr 2 n d s = true ∧ mr 7 n d s = true ∧ mr 61 n d s = true
theorem split_unique {a b s t : Nat} (ha : a % 2 = 1) (hb : b % 2 = 1) (h : a * 2 ^ s = b * 2 ^ t) : a = b ∧ s = t := by
  have key : ∀ (s t a b : Nat), a % 2 = 1 → b % 2 = 1 → a * 2 ^ s = b * 2 ^ t → s ≤ t → a = b ∧ s = t := by
    intro s
    induction s with
    | zero =>
      intro t a b ha hb h _
      cases t with
      | zero => simp at h; exact ⟨h, rfl⟩
      | succ t => rw [Nat.pow_succ, ← Nat.mul_assoc, Nat.pow_zero] at h; omega
    | succ s ih =>
      intro t a b ha hb h hle
      cases t with
      | zero => omega
      | succ t =>
        rw [Nat.pow_succ, Nat.pow_succ, ← Nat.mul_assoc, ← Nat.mul_assoc] at h
        obtain ⟨h1, h2⟩ := ih t a b ha hb (by omega) (by omega)
        exact ⟨h1, by omega⟩
  rcases Nat.le_total s t with hle | hle
  · exact key s t a b ha hb h hle
  · obtain ⟨h1, h2⟩ := key t s b a hb ha h.symm hle
    exact ⟨h1.symm, h2.symm⟩
theorem split_exists : ∀ n, 0 < n → ∃ d s, n = d * 2 ^ s ∧ d % 2 = 1 := by
  intro n
  induction n using Nat.strongRecOn with
  | _ n ih =>
    intro h
    by_cases h2 : n % 2 = 1
    · exact ⟨n, 0, by simp, h2⟩
    · obtain ⟨d, s, hd, ho⟩ := ih (n / 2) (by omega) (by omega)
      exact ⟨d, s + 1, by rw [Nat.pow_succ, ← Nat.mul_assoc, ← hd]; omega, ho⟩
theorem Passes.psp {n : Nat} (hn : 1 < n) (h : Passes n) : Psp n := by
  obtain ⟨d, s, hd, ho⟩ := split_exists (n - 1) (by omega)
  obtain ⟨h1, h2, h3⟩ := h d s hd ho
  unfold Psp
  rw [hd]
  exact ⟨mr_says hn h1, mr_says hn h2, mr_says hn h3⟩
/-- Who is found bad does not pass. -/
theorem bad_says {n : Nat} (hn : 1 < n) (h : bad n = true) (hp : Passes n) : False := by
  cases n with
  | zero => omega
  | succ k =>
    have h : ite3 (Nat.beq (pow3 2 k (Nat.succ k)) 1) (slowK k) true = true := h
    rw [ite3_eq, pow3_eq] at h
    by_cases h1 : 2 ^ k % (k + 1) = 1
    · have : Nat.beq (2 ^ k % Nat.succ k) 1 = true := by rw [show 2 ^ k % Nat.succ k = 1 from h1]; rfl
      rw [if_pos this] at h
      unfold slowK at h
      rw [strict_eq, strict_eq, strict_eq] at h
      obtain ⟨hs, h⟩ := and3 h
      obtain ⟨ho, h⟩ := and3 h
      have hs : k / Nat.gcd k 4294967296 * 2 ^ Nat.log2 (Nat.gcd k 4294967296) = k := Nat.eq_of_beq_eq_true hs
      have ho : k / Nat.gcd k 4294967296 % 2 = 1 := Nat.eq_of_beq_eq_true ho
      change ite3 (mrK 2 k (k / Nat.gcd k 4294967296) (Nat.log2 (Nat.gcd k 4294967296))) (ite3 (mrK 7 k (k / Nat.gcd k 4294967296) (Nat.log2 (Nat.gcd k 4294967296))) (ite3 (mrK 61 k (k / Nat.gcd k 4294967296) (Nat.log2 (Nat.gcd k 4294967296))) false true) true) true = true at h
      generalize k / Nat.gcd k 4294967296 = d at hs h ho
      generalize Nat.log2 (Nat.gcd k 4294967296) = s at hs h
      obtain ⟨p2, p7, p61⟩ := hp d s (by omega) ho
      rw [mrK_eq, mrK_eq, mrK_eq, p2, p7, p61] at h
      exact absurd h (by simp [ite3])
    · exact h1 (Passes.psp hn hp).1
end Go.Proofs.YtnjhppdcpjgfmaaDoor
