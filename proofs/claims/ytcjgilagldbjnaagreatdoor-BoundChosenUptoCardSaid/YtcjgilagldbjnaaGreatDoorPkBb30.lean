/- The contracts of prime's Is and isSquare, and of inverse, ro. prime's root, Quo, Inv and Sqrt at the document's examples; . Least divisors, and the contract of the reference's least. -/
import Derived.Test.YtcjgilagldbjnaaGreatDoorPkBb29
import Derived.Deep.CutBlock
import Derived.RegionTactic
import Derived.Deep.QuietTactic
import Derived.BigQuiet
import Derived.WalkMore
import Derived.Deep.DeepCutAuto
namespace Go.Proofs.YtcjgilagldbjnaaGreatDoor
section
open Go.RowKit
def isN (n d s : Nat) : Bool := if n < 4 then decide (1 < n) else if n % 2 = 1 then passAll n d s else false
set_option maxHeartbeats 800000 in
theorem is_any (n d s : Nat) (hn : n < 4294967296) (h : 4 ≤ n → n % 2 = 1 → n - 1 = d * 2 ^ s ∧ d % 2 = 1 ∧ s ≤ 32) (w : World) (hw : Bases w) :
  Calls Tryz.prog 30 #[.int .u32 (n : Int)] w fun e w' => e = .returned (.bool (isN n d s)) ∧ w' = w := by
 have e1 : isN n d s = if n < 4 then decide (1 < n) else if n % 2 = 1 then passAll n d s else false := rfl
 by_cases h4 : n < 4
 ·rw [if_pos h4] at e1
  have E1 := hi9 e1
  clear e1 h
  go_enter Tryz.func30, Tryz.ntmps30
  go_wp2
  go_ret
  refine ⟨?_, rfl⟩
  rw [E1.out]
  exact congrArg (fun b => Ending.returned (Value.bool b)) (decide_eq_decide.2 (by show (1 : Int) < (n : Int) ↔ 1 < n; omega))
 ·rw [if_neg h4] at e1
  by_cases h2 : n % 2 = 1
  ·obtain ⟨h5, h6, h7⟩ := h (by omega) h2
   rw [if_pos h2] at e1
   have hp := fun W hW => passes_any n d s hn (by omega) h6 h7 h5 W hW
   obtain ⟨r, hr⟩ : ∃ r, r = passAll n d s := ⟨_, rfl⟩
   rw [← hr] at e1
   simp only [← hr] at hp
   have t1 : ((n : Int) % 2 == 1) = true := by simp; omega
   have E1 := hi9 e1
   have Hw := hi9 hw
   clear e1 h h2 h5 h6 h7 hr hw
   go_enter Tryz.func30, Tryz.ntmps30
   go_wp2_with fail
   refine (hp _ Hw.out).mono ?_
   rintro _ _ ⟨rfl, rfl⟩
   go_wp2
   go_ret
   exact ⟨by rw [E1.out]; rfl, rfl⟩
  ·rw [if_neg h2] at e1
   have t1 : ((n : Int) % 2 == 1) = false := by simp; omega
   have E1 := hi9 e1
   clear e1 h h2
   go_enter Tryz.func30, Tryz.ntmps30
   go_wp2
   go_ret
   exact ⟨by rw [E1.out]; rfl, rfl⟩
end
section
open Go.RowKit
end
section
open Go.RowKit
def NoDiv (n d : Nat) : Prop := ∀ e, 2 ≤ e → e < d → n % e ≠ 0
theorem NoDiv.two (n : Nat) : NoDiv n 2 := fun e h1 h2 => absurd h1 (by omega)
theorem NoDiv.succ {n d : Nat} (h : NoDiv n d) (hd : n % d ≠ 0) : NoDiv n (d + 1) := fun e h1 h2 => by
 rcases Nat.lt_or_ge e d with h3 | h3
 ·exact h e h1 h3
 ·obtain rfl : e = d := by omega
  exact hd
theorem NoDiv.mult {n d : Nat} (h : NoDiv n d) (c : Nat) (hc : 2 ≤ c) (hcd : c < d) (hdc : d % c = 0) : NoDiv n (d + 1) := h.succ fun h0 =>
 h c hc hcd (Nat.mod_eq_zero_of_dvd (Nat.dvd_trans (Nat.dvd_of_mod_eq_zero hdc) (Nat.dvd_of_mod_eq_zero h0)))
def Least (n m : Nat) : Prop := 2 ≤ m ∧ n % m = 0 ∧ NoDiv n m
theorem Least.unique {n a b : Nat} (h : Least n a) (k : Least n b) : a = b := by
 rcases Nat.lt_trichotomy a b with h1 | h1 | h1
 ·exact absurd h.2.1 (k.2.2 a h.1 h1)
 ·exact h1
 ·exact absurd k.2.1 (h.2.2 b k.1 h1)
theorem NoDiv.ends {n d : Nat} (h : NoDiv n d) (hn : n < d * d) (h2 : 2 ≤ n) : Least n n := by
 refine ⟨h2, Nat.mod_self n, fun e h1 he h0 => ?_⟩
 have hm := Nat.div_add_mod n e
 rw [h0, Nat.add_zero] at hm
 have hk : 2 ≤ n / e := by
  rcases Nat.lt_or_ge (n / e) 2 with h3 | h3
  ·have : e * (n / e) ≤ e * 1 := Nat.mul_le_mul_left _ (by omega)
   omega
  ·exact h3
 have h4 : d ≤ e := Nat.le_of_not_lt fun h5 => h e h1 h5 h0
 have h6 : n % (n / e) = 0 := by
  have := Nat.mul_mod_left e (n / e)
  rwa [hm] at this
 have h5 : d ≤ n / e := Nat.le_of_not_lt fun h7 => h _ hk h7 h6
 have : d * d ≤ e * (n / e) := Nat.mul_le_mul h4 h5
 omega
theorem NoDiv.le {n d m : Nat} (h : NoDiv n d) (hm : m ≤ d) : NoDiv n m := fun e h1 h2 => h e h1 (by omega)
theorem NoDiv.six {n d : Nat} (h : NoDiv n d) (hd : d % 6 = 5) (h0 : n % d ≠ 0) (h2 : n % (d + 2) ≠ 0) : NoDiv n (d + 6) := by
 have a1 := h.succ h0
 have a2 := a1.mult 2 (by omega) (by omega) (by omega)
 have a3 := a2.succ h2
 have a4 := a3.mult 2 (by omega) (by omega) (by omega)
 have a5 := a4.mult 3 (by omega) (by omega) (by omega)
 exact a5.mult 2 (by omega) (by omega) (by omega)
theorem least_exists (n : Nat) (h : 2 ≤ n) : ∃ m, Least n m := by
 have : ∀ k d, d + k = n → 2 ≤ d → NoDiv n d → ∃ m, Least n m := by
  intro k
  induction k with
  | zero =>
   intro d hd h2 hn
   obtain rfl : d = n := by omega
   exact ⟨d, h2, Nat.mod_self _, hn⟩
  | succ k ih =>
   intro d hd h2 hn
   by_cases h0 : n % d = 0
   ·exact ⟨d, h2, h0, hn⟩
   ·exact ih (d + 1) (by omega) (by omega) (hn.succ h0)
 exact this (n - 2) 2 (by omega) (by omega) (NoDiv.two n)
set_option maxHeartbeats 1600000 in
theorem least_any (n m : Nat) (hn : n < 4294967296) (h2 : 2 ≤ n) (hm : Least n m) (w : World) :
  Calls Tryz.prog 31 #[.int .u32 (n : Int)] w fun r w' => r = .returned (.int .u32 (m : Int)) ∧ w' = w := by
 have Hm := hi9 hm
 have x0 : ∀ w : World, (Instr.index 83 (.agg #[.int .u64 2, .int .u64 3]) (.int .i64 0)).run Tryz.prog w = .ok (.int .u64 2) w := fun _ => by kernel_rfl
 have x1 : ∀ w : World, (Instr.index 83 (.agg #[.int .u64 2, .int .u64 3]) (.int .i64 1)).run Tryz.prog w = .ok (.int .u64 3) w := fun _ => by kernel_rfl
 clear hm
 go_enter Tryz.func31, Tryz.ntmps31
 go_wp2
 go_loop [7] (fun i => i = .int .i64 0 ∨ (i = .int .i64 1 ∧ NoDiv n 3) ∨ (i = .int .i64 2 ∧ NoDiv n 5)) (fun i => 2 - (intOf i).toNat)
 case atStart => exact Or.inl rfl
 case round =>
  rcases hrel with rfl | ⟨rfl, hd⟩ | ⟨rfl, hd⟩
  ·by_cases h0 : n % 2 = 0
   ·have Hr := hi9 (Hm.out.unique (b := 2) ⟨by omega, h0, NoDiv.two n⟩)
    have t0 : ((n : Int) % 2 == 0) = true := by simp; omega
    clear h0
    go_wp2
    go_ret
    exact ⟨by rw [Hr.out]; rfl, rfl⟩
   ·have Hd := hi9 ((NoDiv.two n).succ h0)
    have t0 : ((n : Int) % 2 == 0) = false := by simp; omega
    clear h0
    go_wp2
    go_round
    case rel => exact Or.inr (Or.inl ⟨by go_num, Hd.out⟩)
    case measure => simp [intOf]
  ·by_cases h0 : n % 3 = 0
   ·have Hr := hi9 (Hm.out.unique (b := 3) ⟨by omega, h0, hd⟩)
    have t0 : ((n : Int) % 3 == 0) = true := by simp; omega
    clear h0 hd
    go_wp2
    go_ret
    exact ⟨by rw [Hr.out]; rfl, rfl⟩
   ·have Hd := hi9 ((hd.succ h0).mult 2 (by omega) (by omega) (by omega))
    have t0 : ((n : Int) % 3 == 0) = false := by simp; omega
    clear h0 hd
    go_wp2
    go_round
    case rel => exact Or.inr (Or.inr ⟨by go_num, Hd.out⟩)
    case measure => simp [intOf]
  ·have Hd := hi9 hd
   clear hd
   go_wp2
   go_loop [5] (fun v => ∃ d : Nat, v = .int .u64 (d : Int) ∧ NoDiv n d ∧ d % 6 = 5 ∧ d ≤ 65547) (fun v => 65548 - (intOf v).toNat)
   case atStart => exact ⟨5, rfl, Hd.out, by omega, by omega⟩
   case round =>
    obtain ⟨d, rfl, hd, hd6, hdm⟩ := hrel
    have hdd : d * d ≤ 65547 * 65547 := Nat.mul_le_mul hdm hdm
    obtain ⟨q, hq⟩ : ∃ q, q = d * d := ⟨_, rfl⟩
    have t0 : IntKind.u64.wrap ((d : Int) * (d : Int)) = (q : Int) := by
     rw [IntKind.wrap_u64, ← Int.natCast_mul, ← hq]; omega
    have Hd6 := hi9 hd6
    by_cases hle : q ≤ n
    ·have hd5 : d ≤ 65535 := by
      rcases Nat.lt_or_ge d 65536 with h | h
      ·omega
      ·have : 65536 * 65536 ≤ d * d := Nat.mul_le_mul h h
       omega
     have tz : ¬ (d = 0) := by omega
     by_cases h0 : n % d = 0
     ·have Hr := hi9 (Hm.out.unique (b := d) ⟨by omega, h0, hd⟩)
      have t1 : ((n : Int) % (d : Int) == 0) = true := by
       rw [show (n : Int) % (d : Int) = ((n % d : Nat) : Int) from by norm_cast, h0]; rfl
      clear h0 hd hq hd6 hdd
      go_wp2
      go_ret
      exact ⟨by rw [Hr.out]; rfl, rfl⟩
     ·have t1 : ((n : Int) % (d : Int) == 0) = false := by
       rw [show (n : Int) % (d : Int) = ((n % d : Nat) : Int) from by norm_cast, beq_eq_false_iff_ne]; exact fun h => h0 (Int.ofNat.inj h)
      have tz2 : ((d : Int) + 2 == 0) = false := by simp; omega
      by_cases h3 : n % (d + 2) = 0
      ·have Hr := hi9 (Hm.out.unique (b := d + 2) ⟨by omega, h3, (hd.succ h0).mult 2 (by omega) (by omega) (by omega)⟩)
       have t2 : ((n : Int) % ((d : Int) + 2) == 0) = true := by
        rw [show (n : Int) % ((d : Int) + 2) = ((n % (d + 2) : Nat) : Int) from by norm_cast, h3]; rfl
       clear h0 h3 hd hq hd6 hdd
       go_wp2
       go_ret
       exact ⟨by rw [Hr.out]; rfl, rfl⟩
      ·have t2 : ((n : Int) % ((d : Int) + 2) == 0) = false := by
        rw [show (n : Int) % ((d : Int) + 2) = ((n % (d + 2) : Nat) : Int) from by norm_cast, beq_eq_false_iff_ne]; exact fun h => h3 (Int.ofNat.inj h)
       have Hn := hi9 (hd.six hd6 h0 h3)
       clear h0 h3 hd hq hd6 hdd
       go_wp2
       go_round
       case rel => exact ⟨d + 6, by go_num, Hn.out, by have := Hd6.out; omega, by omega⟩
       case measure => simp [intOf]; omega
    ·have Hr := hi9 (Hm.out.unique (hd.ends (by omega) h2))
     clear hd hq hd6 hdd
     go_wp2
     go_ret
     exact ⟨by rw [Hr.out]; rfl, rfl⟩
end
end Go.Proofs.YtcjgilagldbjnaaGreatDoor
