/- A number that comes in as a slice of limbs: what its reading says. No conditions. A number that comes in as a slice of limbs, with a bound on how many; what the bound on the whole input gives. No conditions. The contract of wordRoot; the numbers behind the root. Conditions: a word. The contract of Right. Conditions: fewer limbs than any slice can have. -/
import Derived.Test.YtogkfpbapjjgfaaDoorPkDv0
import Derived.Test.YtogkfpbapjjgfaaDoorPkDv17
import Derived.Test.YtogkfpbapjjgfaaDoorRows
import Derived.Test.YtogkfpbapjjgfaaDoorPkDv13
import Derived.Deep.LoopGhost
import Derived.Test.YtogkfpbapjjgfaaDoorPkDv8
namespace Go.Proofs.YtogkfpbapjjgfaaDoor
section
open Go.ChangeShapes Go.WideShapes Go.ChangeAt Go.RowKit

theorem Tryd.cells32 : Tryd.prog.cellsOf 31 = 1 := by kernel_rfl
theorem Tryd.bytes32 : Tryd.prog.bytesOf 31 = 4 := by kernel_rfl

theorem wf_u32 {n : Int} (h : (Lit.int .u32 n).wf = true) : 0 ≤ n ∧ n < 4294967296 := by
  have h1 : IntKind.u32.min = 0 := rfl
  have h2 : IntKind.u32.max = 4294967295 := rfl
  simp only [Lit.wf, Bool.and_eq_true, decide_eq_true_eq] at h
  omega
theorem wf_i64 {n : Int} (h : (Lit.int .i64 n).wf = true) : -9223372036854775808 ≤ n ∧ n ≤ 9223372036854775807 := by
  have h1 : IntKind.i64.min = -9223372036854775808 := rfl
  have h2 : IntKind.i64.max = 9223372036854775807 := rfl
  simp only [Lit.wf, Bool.and_eq_true, decide_eq_true_eq] at h
  omega
theorem wf_u64 {n : Int} (h : (Lit.int .u64 n).wf = true) : 0 ≤ n ∧ n < 18446744073709551616 := by
  have h1 : IntKind.u64.min = 0 := rfl
  have h2 : IntKind.u64.max = 18446744073709551615 := rfl
  simp only [Lit.wf, Bool.and_eq_true, decide_eq_true_eq] at h
  omega

theorem open_nat {H : Type} {enc : TypeId × Value → H} {W : World} {r : Reach} {b0 : Nat} {v : Value} {d : DataW H} {p : List MemPlace} (hval : Value.okWide Tryd.prog W r b0 23 v) (h : DataW.Trod enc Tryd.prog W 0 (fun _ => true) true 23 v d p)
    (hlt : ∀ x ∈ p, x.block < W.heap.size) (hsz : ∀ elems spare, d = .slice elems spare → (elems.length + spare.length) * Tryd.prog.bytesOf 31 ≤ reachBytes) :
    ∃ (A : Option Addr) (c : Nat) (xs : List Nat), v = .slice A xs.length c ∧ xs.length ≤ c ∧ Dig 4294967296 xs ∧ Rd W W.heap.size A (u32s xs) ∧ xs.length ≤ 35184372087808 := by
  obtain ⟨a0, len, cap, rfl⟩ := okWide_slice Tryd.underlying23 hval
  obtain ⟨fuel, hf⟩ := h
  rcases open_ints Tryd.underlying23 Tryd.underlying31 Tryd.cells32 hf with ⟨hcs, hx⟩ | ⟨a, len', cap', zs, hcs, _, hl, hm, hz, hx, hcell, hwz⟩
  · simp [Value.cells] at hcs
    obtain ⟨rfl, rfl, rfl⟩ := hcs
    exact ⟨none, 0, [], rfl, Nat.le_refl _, Dig.nil_ _, Rd.nil_, by simp⟩
  · simp [Value.cells] at hcs
    obtain ⟨rfl, rfl, rfl⟩ := hcs
    simp only [Prod.mk.injEq] at hx
    obtain ⟨rfl, rfl⟩ := hx
    simp only [if_true] at hz
    have hreach := hsz _ _ rfl
    rw [Tryd.bytes32] at hreach
    simp only [lits, List.length_map, List.length_take, List.length_drop, reachBytes] at hreach
    have hlen : ((zs.take len).map Int.toNat).length = len := by rw [List.length_map, List.length_take]; omega
    refine ⟨some a, cap, (zs.take len).map Int.toNat, by rw [hlen], by rw [hlen]; exact hl, fun x hx => ?_, fun hn => ?_, by rw [hlen]; omega⟩
    · obtain ⟨z, hz1, rfl⟩ := List.mem_map.1 hx
      have := wf_u32 (hwz z (List.mem_of_mem_take hz1))
      omega
    · have hl0 : 0 < len := by
        rcases Nat.eq_zero_or_pos len with h0 | h0
        · subst h0; simp [u32s] at hn
        · exact h0
      obtain ⟨b, off, spot⟩ := a
      have hspot : spot = none := by simpa [Addr.add] using World.cell?_spot (hcell 0 (by omega))
      subst hspot
      have hbW : b < W.heap.size := hlt (.cell b off) (MemPlace.mem_row.2 ⟨0, by omega, by simp⟩)
      refine ⟨b, off, rfl, hbW, fun k u hu => ?_⟩
      have hk : k < len := by
        have := (List.getElem?_eq_some_iff.1 hu).1
        rw [u32s_length, hlen] at this
        exact this
      have h1 := hcell k (by omega)
      rw [show (⟨b, off, none⟩ : Addr).add k = ⟨b, off + k, none⟩ from by unfold Addr.add; split <;> simp_all] at h1
      rw [h1, ← hu, u32s_at (by rw [hlen]; exact hk)]
      have hkz : k < zs.length := by omega
      have := wf_u32 (hwz zs[k] (List.getElem_mem hkz))
      simp [List.getD, List.getElem?_eq_getElem hkz]
      omega
end
section
open Go.ChangeShapes Go.WideShapes Go.ChangeAt Go.RowKit

set_option maxRecDepth 100000 in
theorem open_nat_le {H : Type} {enc : TypeId × Value → H} {W : World} {r : Reach} {b0 : Nat} {v : Value} {d : DataW H} {p : List MemPlace} (hval : Value.okWide Tryd.prog W r b0 23 v) (h : DataW.Trod enc Tryd.prog W 0 (fun _ => true) true 23 v d p)
    (hlt : ∀ x ∈ p, x.block < W.heap.size) (N : Nat) (hN : N ≤ 35184372087808) (hsz : ∀ elems spare, d = .slice elems spare → elems.length + spare.length ≤ N) :
    ∃ (A : Option Addr) (c : Nat) (xs : List Nat), v = .slice A xs.length c ∧ xs.length ≤ c ∧ Dig 4294967296 xs ∧ Rd W W.heap.size A (u32s xs) ∧ xs.length ≤ N := by
  have h9 := open_nat hval h hlt (fun elems spare e => by
    have h1 := hsz elems spare e
    rw [Tryd.bytes32]; unfold reachBytes; omega)
  obtain ⟨A, c, xs, hv, hc, hd, hr, _⟩ := h9
  refine ⟨A, c, xs, hv, hc, hd, hr, ?_⟩
  obtain ⟨fuel, hf⟩ := h
  rcases open_ints Tryd.underlying23 Tryd.underlying31 Tryd.cells32 hf with ⟨hcs, hx⟩ | ⟨a, len', cap', zs, hcs, _, hl, hm, hz, hx, hcell, hwz⟩
  · subst hv
    simp [Value.cells] at hcs
    have := hcs.2.1
    omega
  · subst hv
    simp [Value.cells] at hcs
    simp only [Prod.mk.injEq] at hx
    obtain ⟨rfl, _⟩ := hx
    simp only [if_true] at hz
    have h2 := hsz _ _ rfl
    simp only [lits, List.length_map, List.length_take, List.length_drop] at h2
    omega

theorem bulk_one {H : Type} (d : DataW H) : 1 ≤ Rows.uptoBulk d := by
  cases d with
  | lit l => cases l <;> simp only [Rows.uptoBulk] <;> omega
  | _ => simp only [Rows.uptoBulk]; omega
theorem bulk_len {H : Type} (l : List (DataW H)) : l.length ≤ Rows.uptoBulkAll l := by
  induction l with
  | nil => simp only [List.length_nil]; omega
  | cons x l ih => have := bulk_one x; simp only [Rows.uptoBulkAll, List.length_cons]; omega
theorem bulk_part {H : Type} {d : DataW H} {l : List (DataW H)} (h : d ∈ l) : Rows.uptoBulk d ≤ Rows.uptoBulkAll l := by
  induction l with
  | nil => cases h
  | cons x l ih =>
    simp only [Rows.uptoBulkAll]
    rcases List.mem_cons.1 h with rfl | h
    · omega
    · have := ih h; omega
/-- A slice among data of small bulk has few places. -/
theorem small_slice {H : Type} {l : List (DataW H)} {d : DataW H} (hk : Rows.uptoSmall H l = true) (hd : d ∈ l) : ∀ elems spare, d = .slice elems spare → elems.length + spare.length ≤ 1048576 := fun elems spare e => by
  have h1 : Rows.uptoBulkAll l ≤ 1048576 := of_decide_eq_true hk
  have h2 := bulk_part hd
  subst e
  have h3 := bulk_len elems
  have h4 := bulk_len spare
  have h5 : Rows.uptoBulk (DataW.slice elems spare) = Rows.uptoBulkAll elems + Rows.uptoBulkAll spare + 1 := by simp only [Rows.uptoBulk]
  omega
end
section
open Go.RowKit

/-- The root, rounded down. -/
def IsRoot (a s : Nat) : Prop := s * s ≤ a ∧ a < (s + 1) * (s + 1)
theorem IsRoot.unique {a s t : Nat} (h : IsRoot a s) (k : IsRoot a t) : s = t := by
  rcases Nat.lt_trichotomy s t with hlt | he | hgt
  · have h1 : (s + 1) * (s + 1) ≤ t * t := Nat.mul_le_mul hlt hlt
    have := h.2; have := k.1; omega
  · exact he
  · have h1 : (t + 1) * (t + 1) ≤ s * s := Nat.mul_le_mul hgt hgt
    have := k.2; have := h.1; omega
theorem four_mul_le (x y : Nat) : 4 * (x * y) ≤ (x + y) * (x + y) := by
  rcases Nat.le_total x y with h | h
  · obtain ⟨d, rfl⟩ : ∃ d, y = x + d := ⟨y - x, by omega⟩
    have : (x + (x + d)) * (x + (x + d)) = 4 * (x * (x + d)) + d * d := by grind
    omega
  · obtain ⟨d, rfl⟩ : ∃ d, x = y + d := ⟨x - y, by omega⟩
    have : (y + d + y) * (y + d + y) = 4 * ((y + d) * y) + d * d := by grind
    omega
/-- A step of Newton's is not below the root. -/
theorem newton_ge {a x : Nat} (hx : 0 < x) : a < ((x + a / x) / 2 + 1) * ((x + a / x) / 2 + 1) := by
  have h1 : a < x * (a / x + 1) := by
    have := Nat.div_add_mod a x
    have := Nat.mod_lt a hx
    rw [Nat.mul_add, Nat.mul_one]
    omega
  have h2 := four_mul_le x (a / x + 1)
  obtain ⟨r, hr⟩ : ∃ r, r = (x + a / x) / 2 + 1 := ⟨_, rfl⟩
  rw [← hr]
  have h3 : x + (a / x + 1) ≤ 2 * r := by omega
  have h4 := Nat.mul_le_mul h3 h3
  have h5 : 2 * r * (2 * r) = 4 * (r * r) := by grind
  omega
theorem root_down {a r : Nat} (h : a < (r + 1) * (r + 1)) (h2 : a < r * r) : 0 < r ∧ a < (r - 1 + 1) * (r - 1 + 1) := by
  have h0 : 0 < r := by
    rcases Nat.eq_zero_or_pos r with h0 | h0
    · subst h0; omega
    · exact h0
  refine ⟨h0, ?_⟩
  rw [show r - 1 + 1 = r from by omega]
  exact h2
theorem or_bit {r k : Nat} (h : r % 2 ^ (k + 1) = 0) : r ||| 2 ^ k = r + 2 ^ k := by
  have e : r = 2 ^ (k + 1) * (r / 2 ^ (k + 1)) := by
    have := Nat.div_add_mod r (2 ^ (k + 1))
    omega
  have h1 : 2 ^ k < 2 ^ (k + 1) := Nat.pow_lt_pow_right (by omega) (by omega)
  have h2 := Nat.two_pow_add_eq_or_of_lt h1 (r / 2 ^ (k + 1))
  rw [← e] at h2
  exact h2.symm
theorem half_step {r k : Nat} (h : r % 2 ^ (k + 1) = 0) : r % 2 ^ k = 0 ∧ (r + 2 ^ k) % 2 ^ k = 0 := by
  have h1 : r % 2 ^ k = 0 := by
    have h3 : 2 ^ k ∣ 2 ^ (k + 1) := Nat.pow_dvd_pow 2 (by omega)
    exact Nat.mod_eq_zero_of_dvd (Nat.dvd_trans h3 (Nat.dvd_of_mod_eq_zero h))
  exact ⟨h1, by rw [Nat.add_mod_right]; exact h1⟩

/-- The state between two bits. -/
def Rooting (n k r : Nat) : Prop := r % 2 ^ k = 0 ∧ r * r ≤ n ∧ n < (r + 2 ^ k) * (r + 2 ^ k) ∧ r + 2 ^ k ≤ 4294967296
theorem Rooting.start {n : Nat} (hn : n < 18446744073709551616) : Rooting n 32 0 := ⟨rfl, by omega, by simpa using hn, by decide⟩
theorem Rooting.yes {n k r : Nat} (h : Rooting n (k + 1) r) (h2 : (r + 2 ^ k) * (r + 2 ^ k) ≤ n) : Rooting n k (r + 2 ^ k) := by
  obtain ⟨a1, a2, a3, a4⟩ := h
  have e : r + 2 ^ (k + 1) = r + 2 ^ k + 2 ^ k := by rw [Nat.pow_succ]; omega
  rw [e] at a3 a4
  exact ⟨(half_step a1).2, h2, a3, a4⟩
theorem Rooting.no {n k r : Nat} (h : Rooting n (k + 1) r) (h2 : n < (r + 2 ^ k) * (r + 2 ^ k)) : Rooting n k r := by
  obtain ⟨a1, a2, a3, a4⟩ := h
  have e : r + 2 ^ (k + 1) = r + 2 ^ k + 2 ^ k := by rw [Nat.pow_succ]; omega
  rw [e] at a4
  exact ⟨(half_step a1).1, a2, h2, by omega⟩
theorem Rooting.end_ {n r : Nat} (h : Rooting n 0 r) : IsRoot n r ∧ r < 4294967296 := by
  obtain ⟨_, a2, a3, a4⟩ := h
  rw [Nat.pow_zero] at a3 a4
  exact ⟨⟨a2, a3⟩, by omega⟩

set_option maxHeartbeats 800000 in
theorem wordRoot_any (n : Nat) (hn : n < 18446744073709551616) (w : World) :
    Calls Tryd.prog 54 #[.int .u64 (n : Int)] w fun e w' => (∃ s : Nat, e = .returned (.int .u64 (s : Int)) ∧ IsRoot n s ∧ s < 4294967296) ∧ w = w' := by
  go_enter Tryd.func54, Tryd.ntmps54
  go_wp2_with fail
  go_loopg [3, 4, 5] 32 (fun K rv bv _ wr => ∃ r b : Nat, rv = .int .u64 (r : Int) ∧ bv = .int .u64 (b : Int) ∧ b = 2 ^ K / 2 ∧ K ≤ 32 ∧ Rooting n K r ∧ wr = w)
  case atStart => exact ⟨0, 2147483648, rfl, rfl, by decide, Nat.le_refl _, Rooting.start hn, rfl⟩
  case round =>
    obtain ⟨r, b, rfl, rfl, hb, hK, hR, rfl⟩ := hrel
    have HR := Lib.hid hR
    have Hb := Lib.hid hb
    clear hR hb
    by_cases h0 : gk = 0
    · subst h0
      have hb0 : b = 0 := Hb.out
      subst hb0
      go_wp2_with fail
      go_ret
      obtain ⟨f1, f2⟩ := HR.out.end_
      exact ⟨⟨r, rfl, f1, f2⟩, rfl⟩
    · obtain ⟨k, rfl⟩ : ∃ k, gk = k + 1 := ⟨gk - 1, by omega⟩
      have hbk : b = 2 ^ k := by rw [Hb.out, Nat.pow_succ]; omega
      have hb1 : 0 < b := by rw [hbk]; exact Nat.two_pow_pos k
      have hrb : r + 2 * b ≤ 4294967296 := by
        have := HR.out.2.2.2
        rw [Nat.pow_succ, ← hbk] at this
        omega
      have ho : r ||| b = r + b := by rw [hbk]; exact or_bit HR.out.1
      have hor := bits_or_u64_nat r b (by omega) (by omega)
      rw [ho] at hor
      obtain ⟨t, ht⟩ : ∃ t, t = r + b := ⟨_, rfl⟩
      rw [← ht] at hor
      have htb : t < 4294967296 := by omega
      obtain ⟨sq, hsq⟩ : ∃ sq, sq = t * t := ⟨_, rfl⟩
      have hsqb : sq ≤ 18446744065119617025 := by
        rw [hsq]
        have : t * t ≤ 4294967295 * 4294967295 := Nat.mul_le_mul (by omega) (by omega)
        omega
      have E1 : Hid (IntKind.u64.wrap ((t : Int) * (t : Int)) = (sq : Int)) := by
        show IntKind.u64.wrap ((t : Int) * (t : Int)) = (sq : Int)
        rw [show (t : Int) * (t : Int) = (sq : Int) from by rw [hsq]; simp, IntKind.wrap_u64]; omega
      have Hor := Lib.hid hor
      have E2 : Hid ((b : Int) / 2 = ((b / 2 : Nat) : Int)) := by show (b : Int) / 2 = ((b / 2 : Nat) : Int); omega
      have t1 : decide (0 < b) = true := decide_eq_true hb1
      obtain ⟨h2, hh2⟩ : ∃ h2, h2 = b / 2 := ⟨_, rfl⟩
      rw [← hh2] at E2
      have Hh2 : Hid (h2 = 2 ^ k / 2) := by show _ = _; rw [hh2, hbk]
      have Hbk := Lib.hid hbk
      have Ht := Lib.hid ht
      have Hsq := Lib.hid hsq
      clear hbk ho hor ht hsq hh2
      by_cases hle : sq ≤ n
      · have t2 : decide (sq ≤ n) = true := decide_eq_true hle
        go_wp2_with (first | simp only [t1] | simp only [Hor.out] | simp only [E1.out] | simp only [t2] | simp only [E2.out])
        go_roundg k
        case measure => omega
        case rel => exact ⟨t, h2, rfl, rfl, Hh2.out, by omega, by
          have h9 := HR.out.yes (by rw [← Hbk.out, ← Ht.out, ← Hsq.out]; exact hle)
          rwa [← Hbk.out, ← Ht.out] at h9, rfl⟩
      · have t2 : decide (sq ≤ n) = false := decide_eq_false hle
        go_wp2_with (first | simp only [t1] | simp only [Hor.out] | simp only [E1.out] | simp only [t2] | simp only [E2.out])
        go_roundg k
        case measure => omega
        case rel => exact ⟨r, h2, rfl, rfl, Hh2.out, by omega, HR.out.no (by rw [← Hbk.out, ← Ht.out, ← Hsq.out]; omega), rfl⟩
end
section
open Go.RowKit

/-- What Right answers. -/
def RightOut (w w' : World) (m : Nat) (n : Int) (e : Ending) : Prop :=
  ∃ zs A' c', e = .returned (.tuple #[.slice A' zs.length c', .int .i64 (if n < 0 then 1 else 0)]) ∧ Num 4294967296 zs (if n < 0 then 0 else m / 2 ^ n.toNat) ∧ Res w' w.heap.size 31 A' c' (u32s zs) ∧ Below w.heap.size w w'
set_option maxHeartbeats 400000 in
theorem right_any (A : Option Addr) (c : Nat) (xs : List Nat) (n : Int) (w : World) (B : Nat) (hr : Rd w B A (u32s xs)) (hB : B ≤ w.heap.size) (hd : Dig 4294967296 xs) (hc : xs.length ≤ c) (hm : xs.length ≤ 70368744177664) (hn : n ≤ 9223372036854775807) :
    Calls Tryd.prog 55 #[.slice A xs.length c, .int .i64 n] w fun e w' => RightOut w w' (val 4294967296 xs) n e := by
  have hmm : xs.length ≤ 281474976710656 := by omega
  rcases Int.lt_or_le n 0 with h0 | h0
  · go_enter Tryd.func55, Tryd.ntmps55
    go_wp2_with (go_at_call 37; (with_reducible refine (trim_any A c xs _ B hr hc hmm).mono ?_); rintro e w' ⟨rfl, rfl⟩)
    go_ret2
    exact ⟨[], none, 0, by rw [if_pos h0]; rfl, by rw [if_pos h0]; exact Num.zero_ _, Res.none_, Below.refl _ _⟩
  · obtain ⟨k, rfl⟩ := Int.eq_ofNat_of_zero_le h0
    have hl := trimL_length_le xs
    rcases Nat.lt_or_ge (k / 32) (trimL xs).length with hlt | hge
    · refine (right_walk A c xs (trimL xs) k (k / 32) (k % 32) w B hr hB hc rfl hd.trim_ (by omega) (by omega) hlt hm).mono ?_
      rintro e w' ⟨zs, A', c', rfl, hz, hres, hb⟩
      exact ⟨zs, A', c', by rw [if_neg (by omega)], by rw [if_neg (by omega), Int.toNat_natCast, ← val_trim]; exact hz, hres, hb⟩
    · have t0 : (trimL xs).length ≤ k / 32 := hge
      have hz : val 4294967296 xs / 2 ^ k = 0 := by
        rw [← val_trim]
        refine Nat.div_eq_of_lt (Nat.lt_of_lt_of_le (val_lt _ _ hd.trim_) ?_)
        rw [show (4294967296 : Nat) = 2 ^ 32 from rfl, ← Nat.pow_mul]
        exact Nat.pow_le_pow_right (by omega) (by omega)
      have Hz := Lib.hid hz
      clear hz
      have kb : k ≤ 9223372036854775807 := by omega
      have t1 : decide (((trimL xs).length : Int) ≤ (k : Int) / 32) = true := by simp; omega
      go_enter Tryd.func55, Tryd.ntmps55
      go_wp2_with (go_at_call 37; (with_reducible refine (trim_any A c xs _ B hr hc hmm).mono ?_); rintro e w' ⟨rfl, rfl⟩)
      go_ret2
      exact ⟨[], none, 0, by rw [if_neg (by omega)]; rfl, by rw [if_neg (by omega), Int.toNat_natCast, Hz.out]; exact Num.zero_ _, Res.none_, Below.refl _ _⟩
end
end Go.Proofs.YtogkfpbapjjgfaaDoor
