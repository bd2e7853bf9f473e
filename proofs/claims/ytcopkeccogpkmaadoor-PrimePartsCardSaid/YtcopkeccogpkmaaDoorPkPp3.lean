/- The contract of the reference's Factors. No conditions. The contracts of both Totients. No conditions. The contract of the reference's Totient. No conditions. The reference's Factors and both Totients at 0; both Totients as one. No conditions. -/
import Derived.Test.YtcopkeccogpkmaaDoorPkPp2
namespace Go.Proofs.YtcopkeccogpkmaaDoor
section
open Go.RowKit

theorem own_slice {w : World} {base : Nat} {e : TypeId} {size : Nat} {v : Value} {n : Nat} {xs : List Value} (h : w.ownsRow base e size v n xs) : ∃ A c, v = .slice A n c := by
  obtain ⟨_, ⟨h, rfl⟩ | ⟨g, cap, cur, h, _⟩⟩ := h
  · exact ⟨_, _, h⟩
  · exact ⟨_, _, h⟩
end
section
open Go.RowKit

/-- What a list of factors makes of the totient. -/
def totL : List (Nat × Nat) → Nat
  | [] => 1
  | (p, t) :: l => p ^ (t - 1) * (p - 1) * totL l

/-- One factor's step: c m is what stands, p^t m2 is m. -/
theorem tot_step {c m p t m2 : Nat} (ht : 0 < t) (hm : m = p ^ t * m2) (hp : 2 ≤ p) : c * m / p = c * p ^ (t - 1) * m2 ∧ c * m - c * m / p = c * (p ^ (t - 1) * (p - 1)) * m2 ∧ c * m / p * (p - 1) = c * (p ^ (t - 1) * (p - 1)) * m2 := by
  obtain ⟨k, rfl⟩ : ∃ k, t = k + 1 := ⟨t - 1, by omega⟩
  obtain ⟨r, rfl⟩ : ∃ r, p = r + 1 := ⟨p - 1, by omega⟩
  rw [Nat.add_sub_cancel, Nat.add_sub_cancel]
  have e1 : c * m = (r + 1) * (c * (r + 1) ^ k * m2) := by
    rw [hm, Nat.pow_succ]; simp only [Nat.mul_comm, Nat.mul_left_comm]
  have e2 : c * m / (r + 1) = c * (r + 1) ^ k * m2 := by rw [e1, Nat.mul_div_cancel_left _ (by omega)]
  have e3 : c * ((r + 1) ^ k * r) * m2 = r * (c * (r + 1) ^ k * m2) := by simp only [Nat.mul_comm, Nat.mul_left_comm]
  refine ⟨e2, ?_, ?_⟩
  · rw [e2, e1, e3, Nat.succ_mul]; omega
  · rw [e2, e3, Nat.mul_comm]

theorem own_rd {w : World} {base : Nat} {v : Value} {e : TypeId} {n : Nat} {xs : List Value} (h : w.ownsRow base e 2 v n xs) : ∃ A c, v = .slice A n c ∧ Rd w w.heap.size A xs := by
  obtain ⟨hl, ⟨rfl, rfl⟩ | ⟨g, cap, cur, rfl, hg, hh, hnc, hcm, hsz, htk⟩⟩ := h
  · obtain rfl : xs = [] := List.eq_nil_of_length_eq_zero (by simpa using hl)
    exact ⟨_, _, rfl, Rd.nil_⟩
  · refine ⟨_, _, rfl, fun _ => ⟨g, 0, rfl, ?_, fun k u hu => ?_⟩⟩
    · have hb : Blk w g e cur.toList := by simpa [Blk] using hh
      exact hb.lt
    · have hb : Blk w g e cur.toList := by simpa [Blk] using hh
      rw [Nat.zero_add, hb.cell]
      rw [← htk, List.getElem?_take] at hu
      split at hu
      · exact hu
      · cases hu

theorem fac_cells_at (L0 l : List (Nat × Nat)) (p t : Nat) : (facCells (L0 ++ (p, t) :: l))[L0.length * 2]? = some (.int .u32 (p : Int)) ∧ (facCells (L0 ++ (p, t) :: l))[L0.length * 2 + 1]? = some (.int .i64 (t : Int)) := by
  have hfl := facCells_length L0
  have e : facCells (L0 ++ (p, t) :: l) = facCells L0 ++ (.int .u32 (p : Int) :: .int .i64 (t : Int) :: facCells l) := by simp [facCells]
  rw [e]
  constructor
  · rw [List.getElem?_append_right (by omega)]; simp [hfl]
  · rw [List.getElem?_append_right (by omega)]; simp [hfl]

theorem Fac.length_pow : ∀ {n : Nat} {l : List (Nat × Nat)}, Fac n l → 2 ^ l.length ≤ n
  | n, [], h => by
    obtain rfl : n = 1 := h
    simp
  | n, (p, t) :: l, h => by
    obtain ⟨m, ht, hm, hl, _, hf⟩ := h
    have h1 := hf.length_pow
    have h2 : p ^ 1 ≤ p ^ t := Nat.pow_le_pow_right (by have := hl.1; omega) ht
    have h3 : 2 * 2 ^ l.length ≤ p ^ t * m := Nat.mul_le_mul (by have := hl.1; rw [Nat.pow_one] at h2; omega) h1
    rw [List.length_cons, Nat.pow_succ, hm]; omega
theorem Fac.length_lt {n : Nat} {l : List (Nat × Nat)} (h : Fac n l) (hn : n < 4294967296) : l.length < 32 := by
  have h1 := h.length_pow
  have h2 : 2 ^ l.length < 2 ^ 32 := by
    have : (2 : Nat) ^ 32 = 4294967296 := by decide
    omega
  exact (Nat.pow_lt_pow_iff_right (by omega)).1 h2

set_option maxHeartbeats 1600000 in
theorem totient_any (n : Nat) (hn : n < 4294967296) (h0 : 0 < n) (w : World) :
    Calls Tryd.prog 9 #[.int .u32 (n : Int)] w fun r w' => ∃ L, Fac n L ∧ r = .returned (.int .u32 (totL L : Nat)) ∧ Below w.heap.size w w' := by
  go_enter Tryd.func9, Tryd.ntmps9
  go_wp2_with fail
  refine (factors_any n hn h0 _).mono ?_
  rintro _ w1 ⟨v, L, rfl, hF, hown, hb⟩
  obtain ⟨A, c, rfl, hrd⟩ := own_rd hown
  have hlen := hF.length_lt hn
  clear hown
  go_wp2
  go_loopw [0, 8] (fun nv iv wr => ∃ (k m : Nat) (D R : List (Nat × Nat)), L = D ++ R ∧ iv = .int .i64 (D.length : Int) ∧ nv = .int .u32 ((k * m : Nat) : Int) ∧ Fac m R ∧ k * totL R = totL L ∧ k * m ≤ n ∧ m ≤ n ∧ Below w1.heap.size w1 wr) (fun _ iv _ => L.length - (intOf iv).toNat)
  case atStart => exact ⟨1, n, [], L, rfl, rfl, by simp, hF, by simp, by simp, Nat.le_refl _, Below.refl _ _⟩
  case round =>
    obtain ⟨k, m, D, R, hL, rfl, rfl, hR, htot, hkm, hmn, hbw⟩ := hrel
    cases R with
    | nil =>
      have hDl : D.length = L.length := by rw [hL]; simp
      obtain rfl : m = 1 := hR
      have Htot := Lib.hid htot
      have HF := Lib.hid hF
      have hkm' : k * 1 = k := Nat.mul_one k
      rw [hkm'] at hkm ⊢
      clear htot hF hrd hL
      go_wp2
      go_ret
      first
        | exact ⟨L, HF.out, by rw [← Htot.out]; simp [totL], hb.trans (hbw.mono hb.size)⟩
        | exact ⟨L, HF.out, by rw [← Htot.out, totL, Nat.mul_one]; rfl, hb.trans (hbw.mono hb.size)⟩
    | cons x R =>
      obtain ⟨p, t⟩ := x
      obtain ⟨m2, ht, hm, hl, hmp, hR2⟩ := hR
      obtain ⟨s1, s2, s3⟩ := tot_step (c := k) ht hm hl.1
      obtain ⟨b, off, rfl, hbl, hcell⟩ := hrd (by rw [hL]; simp [facCells])
      have hc := fac_cells_at D R p t
      rw [← hL] at hc
      have hp := (hbw.cell (p := ⟨b, off + D.length * 2, none⟩) hbl).trans (hcell _ _ hc.1)
      have hq := (hbw.cell (p := ⟨b, off + (D.length * 2 + 1), none⟩) hbl).trans (hcell _ _ hc.2)
      rw [← Nat.add_assoc] at hq
      have hDl : D.length < L.length := by rw [hL]; simp
      have hp2 := hl.1
      obtain ⟨y, hy⟩ : ∃ y, y = k * m := ⟨_, rfl⟩
      obtain ⟨z, hz⟩ : ∃ z, z = y / p := ⟨_, rfl⟩
      obtain ⟨k2, hk2⟩ : ∃ k2, k2 = k * (p ^ (t - 1) * (p - 1)) := ⟨_, rfl⟩
      have hzy : z ≤ y := by rw [hz]; exact Nat.div_le_self _ _
      rw [← hy] at hkm s1 s2 s3 ⊢
      rw [← hz, ← hk2] at s2
      have hpm : p ≤ m := by
        have := hl.2.2
        rcases Nat.lt_or_ge m p with h | h
        · exfalso
          have h9 := hl.2.1
          rw [Nat.mod_eq_of_lt h] at h9
          subst h9
          have : 2 ^ 0 ≤ 0 := by
            have h8 : p ^ t * m2 = 0 := hm.symm
            rcases Nat.mul_eq_zero.1 h8 with h7 | h7
            · exact absurd h7 (by have := Nat.pow_pos (n := t) (show 0 < p by omega); omega)
            · subst h7; exact absurd (Nat.zero_mod p) hmp
          omega
        · exact h
      have hp32 : p < 4294967296 := by omega
      have hm2n : m2 ≤ n := by
        have : m2 ≤ p ^ t * m2 := Nat.le_mul_of_pos_left _ (Nat.pow_pos (by omega))
        omega
      have tp : ¬ (p = 0) := by omega
      have t1 : (y : Int) / (p : Int) = (z : Int) := by rw [hz]; norm_cast
      have t2 : IntKind.u32.wrap ((y : Int) - (z : Int)) = ((k2 * m2 : Nat) : Int) := by
        rw [IntKind.wrap_u32, ← s2]; omega
      have HF := Lib.hid hF
      have HL := Lib.hid hL
      have Hs2 := Lib.hid s2
      have Htot : Hid (k2 * totL R = totL L) := by
        show _ = _
        rw [← htot, hk2]; simp only [totL, Nat.mul_assoc]
      have HR2 := Lib.hid hR2
      clear hF hL s1 s2 s3 htot hR2 hc hcell hrd hy hz hk2 hm hl hmp hpm
      go_wp2
      go_roundw
      case rel => exact ⟨k2, m2, D ++ [(p, t)], R, by rw [HL.out]; simp, by simp, by simp, HR2.out, Htot.out, by have := Hs2.out; omega, hm2n, hbw.alloc hbw.size _⟩
      case measure => simp [intOf]; omega
end
section
open Go.RowKit
end
section
open Go.RowKit

set_option maxHeartbeats 400000 in
theorem totient_zero (w : World) : Calls Tryd.prog 9 #[.int .u32 0] w fun r w' => r = .returned (.int .u32 0) ∧ w' = w := by
  go_enter Tryd.func9, Tryd.ntmps9
  go_wp2_with fail
  refine (factors_zero _).mono ?_
  rintro _ _ ⟨rfl, rfl⟩
  go_wp2
  go_loop [0, 8] (fun nv iv => nv = .int .u32 0 ∧ iv = .int .i64 0) (fun _ _ => 0)
  case atStart => exact ⟨rfl, rfl⟩
  case round =>
    obtain ⟨rfl, rfl⟩ := hrel
    go_wp2
    go_ret
    exact ⟨rfl, rfl⟩

/-- The list of a number's factors, as one: none of 0. -/
def FacZ (n : Nat) (L : List (Nat × Nat)) : Prop := if n = 0 then L = [] else Fac n L
theorem FacZ.unique {n : Nat} {l k : List (Nat × Nat)} (h : FacZ n l) (h' : FacZ n k) : l = k := by
  unfold FacZ at h h'
  split at h
  · rename_i h0; rw [if_pos h0] at h'; rw [h, h']
  · rename_i h0; rw [if_neg h0] at h'; exact h.unique h'

theorem own_none (w : World) (base : Nat) (e : TypeId) : w.ownsRow base e 2 (.slice none 0 0) ([] : List (Nat × Nat)).length (facCells []) := ⟨rfl, .inl ⟨rfl, rfl⟩⟩

theorem factors_all (n : Nat) (hn : n < 4294967296) (w : World) :
    Calls Tryd.prog 5 #[.int .u32 (n : Int)] w fun r w' => ∃ v L, r = .returned v ∧ FacZ n L ∧ w'.ownsRow w.heap.size 29 2 v L.length (facCells L) ∧ Below w.heap.size w w' := by
  by_cases h0 : n = 0
  · subst h0
    refine (factors_zero w).mono ?_
    rintro _ _ ⟨rfl, rfl⟩
    exact ⟨_, [], rfl, rfl, own_none _ _ _, Below.refl _ _⟩
  · refine (factors_any n hn (by omega) w).mono ?_
    rintro _ _ ⟨v, L, rfl, hF, ho, hb⟩
    exact ⟨v, L, rfl, by unfold FacZ; rw [if_neg h0]; exact hF, ho, hb⟩
/-- The totient as a list of factors makes it: 0 of 0. -/
def totZ (n : Nat) (L : List (Nat × Nat)) : Nat := if n = 0 then 0 else totL L
theorem totient_all (n : Nat) (hn : n < 4294967296) (w : World) :
    Calls Tryd.prog 9 #[.int .u32 (n : Int)] w fun r w' => ∃ L, FacZ n L ∧ r = .returned (.int .u32 (totZ n L : Nat)) ∧ Below w.heap.size w w' := by
  by_cases h0 : n = 0
  · subst h0
    refine (totient_zero w).mono ?_
    rintro _ _ ⟨rfl, rfl⟩
    exact ⟨[], rfl, rfl, Below.refl _ _⟩
  · refine (totient_any n hn (by omega) w).mono ?_
    rintro _ _ ⟨L, hF, rfl, hb⟩
    exact ⟨L, by unfold FacZ; rw [if_neg h0]; exact hF, by unfold totZ; rw [if_neg h0], hb⟩
end
end Go.Proofs.YtcopkeccogpkmaaDoor
