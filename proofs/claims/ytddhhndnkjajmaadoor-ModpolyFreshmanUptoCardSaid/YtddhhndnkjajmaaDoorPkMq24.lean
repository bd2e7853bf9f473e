/- Coefficients of a product of polynomials. No conditions. The contract of product. Conditions: p above 0 and below 2^32; both normal. The contracts of shifted, eval, derivative. Conditions: p above 0 and below 2^32. One step of a long division of polynomials. No conditions. -/
import Derived.Test.YtddhhndnkjajmaaDoorPkMq21
import Derived.Test.YtddhhndnkjajmaaDoorPkMq23
import Derived.Shelf.Spec.BitsCarry
import Derived.Deep.DeepCutAuto
import Derived.Test.YtddhhndnkjajmaaDoorPkMq22
namespace Go.Proofs.YtddhhndnkjajmaaDoor
section
def cI (a b : List Int) (k : Nat) : Nat → Int
  | 0 => 0
  | n + 1 => cI a b k n + a.getD n 0 * b.getD (k - n) 0
theorem cI_shift (c : Int) (a b : List Int) (k n : Nat) : cI (c :: a) b (k + 1) (n + 1) = c * b.getD (k + 1) 0 + cI a b k n := by
  induction n with
  | zero => simp [cI]
  | succ n ih =>
    rw [cI, ih, cI, show k + 1 - (n + 1) = k - n by omega]
    simp only [List.getD_cons_succ]
    omega
theorem getD_mulI (a b : List Int) (k : Nat) : (mulI a b).getD k 0 = cI a b k (k + 1) := by
  induction a generalizing k with
  | nil =>
    have : ∀ n, cI [] b k n = 0 := fun n => by
      induction n with
      | zero => rfl
      | succ n ih => simp [cI, ih]
    rw [this]; simp [mulI]
  | cons c a ih =>
    rw [mulI, getD_addI, getD_sclI]
    cases k with
    | zero => simp [cI]
    | succ k =>
      rw [cI_shift, ← ih k]
      simp
def cN (a b : List Nat) (k : Nat) : Nat → Nat
  | 0 => 0
  | n + 1 => cN a b k n + a.getD n 0 * b.getD (k - n) 0
theorem cN_cast (a b : List Nat) (k n : Nat) : cI (zi a) (zi b) k n = ((cN a b k n : Nat) : Int) := by
  induction n with
  | zero => rfl
  | succ n ih => rw [cI, ih, zi_getD, zi_getD, cN, Int.natCast_add, Int.natCast_mul]
/-- Nothing stands below that place. -/
theorem cN_low {a b : List Nat} {k : Nat} : ∀ n, n + b.length ≤ k + 1 → cN a b k n = 0
  | 0, _ => rfl
  | n + 1, h => by
    rw [cN, cN_low n (by omega)]
    have : b.getD (k - n) 0 = 0 := by
      rw [List.getD_eq_getElem?_getD, List.getElem?_eq_none (by omega)]; rfl
    rw [this]; omega
/-- Nothing stands above that place. -/
theorem cN_high {a b : List Nat} {k m : Nat} (h : a.length ≤ m) : ∀ n, m ≤ n → cN a b k n = cN a b k m
  | 0, h2 => by rw [show m = 0 by omega]
  | n + 1, h2 => by
    by_cases e : m = n + 1
    · rw [e]
    · rw [cN, cN_high h n (by omega)]
      have : a.getD n 0 = 0 := by
        rw [List.getD_eq_getElem?_getD, List.getElem?_eq_none (by omega)]; rfl
      rw [this]; omega
theorem cN_low' {a b : List Nat} {k : Nat} (h : a.length + b.length ≤ k + 1) : cN a b k (k + 1) = 0 := by
  by_cases hl : a.length ≤ k + 1
  · rw [cN_high (m := a.length) (Nat.le_refl _) (k + 1) hl, cN_low _ h]
  · omega
/-- The coefficient. -/
theorem co_mul (a b : List Nat) (k : Nat) : (zo a * zo b).co k = ((cN a b k (k + 1) : Nat) : Int) := by
  show (mulI (zi a) (zi b)).getD k 0 = _
  rw [getD_mulI, cN_cast]
end
section
open Go.RowKit

theorem add64_run (x y c : Nat) (hc : c ≤ 1) (w : World) :
    (callFunc 78 #[.int .u64 (x : Int), .int .u64 (y : Int), .int .u64 (c : Int)]).run Tryd.prog w =
      .ok (.value (.tuple #[.int .u64 (((x + y + c) % 18446744073709551616 : Nat) : Int), .int .u64 (((x + y + c) / 18446744073709551616 : Nat) : Int)])) w := by
  rw [run_callFunc_extern Tryd.func78 (by kernel_rfl) (by kernel_rfl) (by kernel_rfl) (e := add64Entry) (by kernel_rfl), run_add64 x y c (by omega) (by omega) (by omega) (by omega)]
  simp only [Result.andThen]
  congr 5 <;> omega
theorem add64_run0 (x y : Nat) (w : World) :
    (callFunc 78 #[.int .u64 (x : Int), .int .u64 (y : Int), .int .u64 0]).run Tryd.prog w =
      .ok (.value (.tuple #[.int .u64 (((x + y) % 18446744073709551616 : Nat) : Int), .int .u64 (((x + y) / 18446744073709551616 : Nat) : Int)])) w := add64_run x y 0 (by omega) w
/-- A step of the sum modulo p, with what goes over 2^64. -/
theorem dot_step {p S D m sp : Nat} (hp0 : 0 < p) (hp : p < 4294967296) (hsp : sp = 18446744073709551616 % p) (hS : S < 18446744073709551616) (hm : m ≤ 4294967295 * 4294967295) (h : S % p = D % p) :
    ((S + m) / 18446744073709551616 = 0 → (S + m) % 18446744073709551616 % p = (D + m) % p) ∧
    ((S + m) / 18446744073709551616 ≠ 0 → (S + m) % 18446744073709551616 + sp < 18446744073709551616 ∧ ((S + m) % 18446744073709551616 + sp) % p = (D + m) % p) := by
  have hspl : sp < p := by rw [hsp]; exact Nat.mod_lt _ hp0
  have key : (S + m) % p = (D + m) % p := by rw [Nat.add_mod, h, ← Nat.add_mod]
  refine ⟨fun h0 => ?_, fun h1 => ⟨?_, ?_⟩⟩
  · rw [Nat.mod_eq_of_lt (show S + m < 18446744073709551616 by omega)]; exact key
  · omega
  · have hq : (S + m) / 18446744073709551616 = 1 := by omega
    rw [hsp, Nat.add_mod_mod, ← key]
    congr 1
    omega
/-- What stands for 2^64 modulo p. -/
def spN (p : Nat) : Nat := 18446744073709551616 % p
def prodN (p : Nat) (a b : List Nat) (k : Nat) : Nat := cN a b k (k + 1) % p

set_option maxHeartbeats 3200000 in
theorem fproduct_pos (p sp : Nat) (A1 A2 : Option Addr) (c1 c2 : Nat) (xs ys : List Nat) (w : World) (B : Nat) (hp0 : 0 < p) (hp : p < 4294967296) (hsp : sp = spN p) (hr1 : Rd w B A1 (u32s xs)) (hr2 : Rd w B A2 (u32s ys)) (hB : B ≤ w.heap.size) (hm1 : xs.length ≤ Big) (hm2 : ys.length ≤ Big) (d1 : ∀ x ∈ xs, x < p) (d2 : ∀ x ∈ ys, x < p) (n1 : 0 < xs.length) (n2 : 0 < ys.length) :
    Calls Tryd.prog 55 #[fieldV p sp, .slice A1 xs.length c1, .slice A2 ys.length c2] w fun e w' => ∃ g, e = .returned (.slice (some ⟨g, 0, none⟩) (xs.length + ys.length - 1) (xs.length + ys.length - 1)) ∧ w.heap.size ≤ g ∧ Blk w' g 24 (u32s ((List.range (xs.length + ys.length - 1)).map (prodN p xs ys))) ∧ Below w.heap.size w w' := by
  unfold Big at hm1 hm2
  obtain ⟨n, hn⟩ : ∃ n, n = xs.length + ys.length - 1 := ⟨_, rfl⟩
  rw [← hn]
  have hmk := fun W => mkP n (by omega) W
  have hdx : Hid (∀ k (h : k < xs.length), xs[k] < p) := fun k h => d1 _ (List.getElem_mem h)
  have hdy : Hid (∀ k (h : k < ys.length), ys[k] < p) := fun k h => d2 _ (List.getElem_mem h)
  obtain ⟨W1, hW1⟩ : ∃ W1, W1 = w.alloc (.cells #[.int .u64 (p : Int), .int .u64 (sp : Int)] 77 (0, 0)) := ⟨_, rfl⟩
  have hb0 : Below w.heap.size w W1 := by rw [hW1]; exact (Below.refl _ _).alloc (Nat.le_refl _) _
  have hs1 : W1.heap.size = w.heap.size + 1 := by rw [hW1]; simp
  have Hr1 := Lib.hid (hr1.below (hb0.mono hB))
  have Hr2 := Lib.hid (hr2.below (hb0.mono hB))
  have hbf : Blk W1 w.heap.size 77 [.int .u64 (p : Int), .int .u64 (sp : Int)] := by rw [hW1]; exact Blk.new_ rfl
  have HF0 := Lib.hid (hbf.cell 0)
  have HF1 := Lib.hid (hbf.cell 1)
  have Hs1 := Lib.hid hs1
  have Hb0 := Lib.hid hb0
  have Hsp := Lib.hid hsp
  have hspl : sp < p := by rw [hsp]; exact Nat.mod_lt _ hp0
  have z1 : ((xs.length : Int) == 0) = false := bz n1
  have z2 : ((ys.length : Int) == 0) = false := bz n2
  have z3 : (xs.length : Int) + (ys.length : Int) = ((n + 1 : Nat) : Int) := by omega
  have t4 : ((p : Int) == 0) = false := by simp; omega
  have HW1 := Lib.hid hW1
  have Hn := Lib.hid hn
  clear hbf hr1 hr2 d1 d2 hW1 hs1 hb0 hsp hn
  go_enter Tryd.func55, Tryd.ntmps55
  go_wp2
  rw [← HW1.out]
  go_loopw [8, 9, 10, 11, 12, 13, 31] (fun _ _ _ _ _ _ iv wr => ∃ k : Nat, k ≤ n ∧ iv = .int .i64 (k : Int) ∧ Blk wr (w.heap.size + 1) 24 (u32s (fill (prodN p xs ys) n k)) ∧ Ch (w.heap.size + 1) (W1.alloc (.cells (Array.replicate n (Value.int .u32 0)) 24)) wr) (fun _ _ _ _ _ _ iv _ => n - (intOf iv).toNat)
  case atStart =>
    refine ⟨0, by omega, rfl, ?_, Ch.refl _ _⟩
    rw [fill_zero]
    have := Blk.new_ (w := W1) (t := 24) (repl_u32 n)
    rwa [Hs1.out] at this
  case round =>
    obtain ⟨k, hk, rfl, hblk, hch⟩ := hrel
    have hbl : Below (w.heap.size + 1) W1 wr := ((Below.refl _ _).alloc (by rw [Hs1.out]; omega) _).trans (hch.below (Nat.le_refl _))
    have f0 := (hbl.cell (p := ⟨w.heap.size, 0, none⟩) (by simp)).trans HF0.out
    have f1 := (hbl.cell (p := ⟨w.heap.size, 1, none⟩) (by simp)).trans HF1.out
    simp only [List.getElem?_cons_zero, List.getElem?_cons_succ] at f0 f1
    by_cases hlt : k < n
    · have Hx := Lib.hid (Hr1.out.below (hbl.mono (by omega)))
      have Hy := Lib.hid (Hr2.out.below (hbl.mono (by omega)))
      have hc0 := fill_cell hblk hlt
      have hfz := hblk.frozen k
      have hset := hblk.set_ k (.int .u32 ((prodN p xs ys k : Nat) : Int))
      rw [u32s_set, fill_set hlt] at hset
      have Hset := Lib.hid hset
      obtain ⟨lo, hlo⟩ : ∃ lo, lo = k + 1 - ys.length := ⟨_, rfl⟩
      obtain ⟨hi, hhi⟩ : ∃ hi, hi = min k (xs.length - 1) := ⟨_, rfl⟩
      have HLO : Hid (lo + ys.length = k + 1 ∨ lo = 0) := by show _ ∨ _; omega
      have hlok : k + 1 ≤ lo + ys.length := by omega
      have hlh : lo ≤ hi := by have := Hn.out; omega
      have hhx : hi < xs.length := by omega
      have hhk : hi ≤ k := by omega
      have HHI : Hid (k = hi ∨ hi + 1 = xs.length) := by show _ ∨ _; omega
      have e1 : (if (0 : Int) < (k : Int) - (ys.length : Int) + 1 then (k : Int) - (ys.length : Int) + 1 else 0) = (lo : Int) := by split <;> omega
      have Hhi := Lib.hid hhi
      clear hset hblk hlo hhi
      go_upto_region 8 with (fail)
      go_cut [10] (fun tv W => tv = .int .i64 (hi : Int) ∧ wr = W)
      case first =>
        by_cases hq : (xs.length : Int) - 1 < (k : Int)
        all_goals
          go_wp2_with fail
          go_meet
          case rel => exact ⟨by have := Hhi.out; congr 1; omega, rfl⟩
      case rest =>
        obtain ⟨rfl, rfl⟩ := hcut
        go_wp2_with fail
        go_loopw [11, 12, 13] (fun sv iv _ W => ∃ S i : Nat, lo ≤ i ∧ i ≤ hi + 1 ∧ sv = .int .u64 (S : Int) ∧ iv = .int .i64 (i : Int) ∧ S < 18446744073709551616 ∧ Hid (S % p = cN xs ys k i % p) ∧ Dr wr W) (fun _ iv _ _ => hi + 1 - (intOf iv).toNat)
        case atStart =>
          refine ⟨0, lo, Nat.le_refl _, by omega, rfl, rfl, by omega, ?_, Dr.refl _⟩
          show 0 % p = _
          rcases HLO.out with h | h
          · rw [cN_low lo (by omega)]
          · rw [h]; rfl
        case round =>
          obtain ⟨S, i, hli, hih, rfl, rfl, hS, HS, hdr⟩ := hrel
          have g0 := hdr.cellOf f0
          have g1 := hdr.cellOf f1
          by_cases hlt2 : i ≤ hi
          · obtain ⟨b1, o1, rfl, hb1, hcx⟩ := (Hx.out.dr hdr).at32 (show i < xs.length by omega)
            obtain ⟨j, hj⟩ : ∃ j, j = k - i := ⟨_, rfl⟩
            obtain ⟨b2, o2, rfl, hb2, hcy⟩ := (Hy.out.dr hdr).at32 (show j < ys.length by omega)
            have hx := hdx.out i (by omega)
            have hy := hdy.out j (by omega)
            have hcN : Hid (cN xs ys k (i + 1) = cN xs ys k i + xs[i] * ys[j]) := by
              show _ = _
              rw [cN, ← hj, List.getD_eq_getElem?_getD, List.getD_eq_getElem?_getD, List.getElem?_eq_getElem, List.getElem?_eq_getElem]; rfl
            obtain ⟨x, hxe⟩ : ∃ x, x = xs[i] := ⟨_, rfl⟩
            obtain ⟨y, hye⟩ : ∃ y, y = ys[j] := ⟨_, rfl⟩
            rw [← hxe] at hx hcx hcN
            rw [← hye] at hy hcy hcN
            have hyc : x * y ≤ 4294967295 * 4294967295 := Nat.mul_le_mul (by omega) (by omega)
            obtain ⟨m, hme⟩ : ∃ m, m = x * y := ⟨_, rfl⟩
            rw [← hme] at hyc hcN
            obtain ⟨s1, s2⟩ := dot_step hp0 hp Hsp.out hS hyc HS.out
            have t1 : (x : Int) * (y : Int) = (m : Int) := by rw [hme]; simp
            have t2 : (k : Int) - (i : Int) = (j : Int) := by omega
            have a1 := fun W => add64_run0 S m W
            obtain ⟨l0, hl0⟩ : ∃ l0, l0 = (S + m) % 18446744073709551616 := ⟨_, rfl⟩
            obtain ⟨ov, hov⟩ : ∃ ov, ov = (S + m) / 18446744073709551616 := ⟨_, rfl⟩
            rw [← hl0, ← hov] at s1 s2 a1
            have hlob : l0 < 18446744073709551616 := by omega
            clear hme hl0 hov hxe hye HS
            by_cases h : ov = 0
            · have S1 : Hid _ := Lib.hid (s1 h)
              subst h
              clear s1 s2 hj
              go_upto_region 14 with (fail)
              have q1 := w64 (n := x) (by omega)
              have q2 := w64 (n := y) (by omega)
              have q3 := w64 (n := m) (by omega)
              have q4 : IntKind.i64.wrap (j : Int) = j := IntWalk.i64_in _ (by omega)
              have q5 : j < ys.length := by omega
              have q6 : i < xs.length := by omega
              go_quiet (simp only [a1])
              clear q1 q2 q3 q4 q5 q6
              go_wp2_with fail
              go_roundw
              case rel => exact ⟨l0, i + 1, by omega, by omega, rfl, by go_num, hlob, by rw [hcN.out]; exact S1.out, hdr.step _⟩
              case measure => simp [intOf]; omega
            · obtain ⟨u1, u2⟩ := s2 h
              obtain ⟨l2, hl2⟩ : ∃ l2, l2 = l0 + sp := ⟨_, rfl⟩
              rw [← hl2] at u1 u2
              have S1 := Lib.hid u2
              have t5 : (l0 : Int) + (sp : Int) = (l2 : Int) := by omega
              have t6 : ((ov : Int) != 0) = true := by simp; omega
              clear s1 s2 hl2 u2 hj
              go_upto_region 14 with (fail)
              have q1 := w64 (n := x) (by omega)
              have q2 := w64 (n := y) (by omega)
              have q3 := w64 (n := m) (by omega)
              have q4 : IntKind.i64.wrap (j : Int) = j := IntWalk.i64_in _ (by omega)
              have q5 : j < ys.length := by omega
              have q6 : i < xs.length := by omega
              go_quiet (simp only [a1])
              clear q1 q2 q3 q4 q5 q6
              have g2 : ∀ nq, (wr.drewN nq).cell? ⟨w.heap.size, 1, none⟩ = some (.int .u64 (sp : Int)) := fun nq => g1
              go_wp2_with fail
              go_roundw
              case rel => exact ⟨l2, i + 1, by omega, by omega, rfl, by go_num, u1, by rw [hcN.out]; exact S1.out, hdr.step _⟩
              case measure => simp [intOf]; omega
          · obtain ⟨nq, rfl⟩ := hdr
            have hie : i = hi + 1 := by omega
            have hS2 : Hid (S % p = prodN p xs ys k) := by
              show _ = _
              rw [HS.out, hie]
              unfold prodN
              rcases HHI.out with h | h
              · rw [h]
              · by_cases h9 : xs.length ≤ k + 1
                · rw [cN_high (a := xs) (b := ys) (k := k) (m := hi + 1) (by omega) (k + 1) (by omega)]
                · omega
            have hge : ¬ ((i : Int) ≤ (hi : Int)) := by omega
            have t7 : (S : Int) % (p : Int) = ((prodN p xs ys k : Nat) : Int) := by rw [← hS2.out]; exact (Int.natCast_emod _ _).symm
            have t8 : prodN p xs ys k < 4294967296 := by have := Nat.mod_lt (cN xs ys k (k + 1)) hp0; unfold prodN; omega
            obtain ⟨r, hre⟩ : ∃ r, r = prodN p xs ys k := ⟨_, rfl⟩
            rw [← hre] at t7 t8 Hset
            clear hre hie HS
            go_wp2_with fail
            go_roundw
            case rel => exact ⟨k + 1, by omega, by go_num, Hset.out, (hch.drewN nq).setCell _ _⟩
            case measure => simp [intOf]; omega
    · obtain rfl : k = n := by omega
      have HB := Lib.hid hblk
      clear hblk
      go_wp2_with fail
      go_ret
      exact ⟨_, rfl, by omega, by have := HB.out; rwa [fill_all] at this, Hb0.out.trans (hbl.mono (by omega))⟩

theorem trimL_of_top {l : List Nat} (h : l.getD (l.length - 1) 0 ≠ 0) : trimL l = l := by
  rcases List.eq_nil_or_concat l with rfl | ⟨l', x, rfl⟩
  · rfl
  · rw [List.concat_eq_append] at h ⊢
    exact trimL_snoc_pos _ _ (by simpa using h)
theorem prod_nf {p : Nat} (hp : Pr p) {xs ys : List Nat} (hx : Nf p xs) (hy : Nf p ys) (n1 : xs ≠ []) (n2 : ys ≠ []) : Nf p ((List.range (xs.length + ys.length - 1)).map (prodN p xs ys)) ∧ Cg p (zo ((List.range (xs.length + ys.length - 1)).map (prodN p xs ys))) (zo xs * zo ys) := by
  have l1 := len_pos n1
  have l2 := len_pos n2
  refine ⟨⟨fun x h => ?_, ?_⟩, Cg.of_co (b := mulI (zi xs) (zi ys)) fun i => ?_⟩
  · obtain ⟨i, _, rfl⟩ := List.mem_map.1 h
    exact Nat.mod_lt _ hp.pos
  · refine trimL_of_top ?_
    rw [List.length_map, List.length_range, fill_getD, if_pos (by omega)]
    intro h0
    refine Nf.top_mul hp hx hy n1 n2 ?_
    rw [show xs.length + ys.length - 2 = xs.length + ys.length - 1 - 1 by omega, co_mul]
    exact Int.natCast_dvd_natCast.2 (Nat.dvd_of_mod_eq_zero h0)
  · rw [zi_getD, fill_getD, getD_mulI, cN_cast]
    split
    · exact mod_dvd _ _
    · rw [cN_low' (by omega)]; exact ⟨0, by simp⟩

set_option maxHeartbeats 800000 in
theorem fproduct_none (p sp : Nat) (A1 A2 : Option Addr) (c1 c2 n1 n2 : Nat) (w : World) (h : n1 = 0 ∨ n2 = 0) :
    Calls Tryd.prog 55 #[fieldV p sp, .slice A1 n1 c1, .slice A2 n2 c2] w fun e w' => e = .returned (.slice none 0 0) ∧ Below w.heap.size w w' := by
  by_cases h1 : n1 = 0
  · subst h1
    go_enter Tryd.func55, Tryd.ntmps55
    go_wp2
    go_ret
    exact ⟨rfl, (Below.refl _ _).alloc (Nat.le_refl _) _⟩
  · obtain rfl : n2 = 0 := by omega
    have z1 : ((n1 : Int) == 0) = false := bz (by omega)
    clear h h1
    go_enter Tryd.func55, Tryd.ntmps55
    go_wp2
    go_ret
    exact ⟨rfl, (Below.refl _ _).alloc (Nat.le_refl _) _⟩
theorem fproduct_any (p sp : Nat) (A1 A2 : Option Addr) (c1 c2 : Nat) (xs ys : List Nat) (w : World) (B : Nat) (hpr : Pr p) (hp : p < 4294967296) (hsp : sp = spN p) (hr1 : Rd w B A1 (u32s xs)) (hr2 : Rd w B A2 (u32s ys)) (hB : B ≤ w.heap.size) (hm1 : xs.length ≤ Big) (hm2 : ys.length ≤ Big) (d1 : Nf p xs) (d2 : Nf p ys) :
    Calls Tryd.prog 55 #[fieldV p sp, .slice A1 xs.length c1, .slice A2 ys.length c2] w (PS p w (zo xs * zo ys)) := by
  by_cases n1 : xs = []
  · subst n1
    refine (fproduct_none p sp A1 A2 c1 c2 _ _ w (Or.inl rfl)).mono ?_
    rintro _ w' ⟨rfl, h⟩
    exact ⟨[], ⟨_, rfl, PR.none_ h⟩, Nf.nil_ p, Cg.of_eq fun x => by rw [Z.v_mul, zo_nil]; omega⟩
  by_cases n2 : ys = []
  · subst n2
    refine (fproduct_none p sp A1 A2 c1 c2 _ _ w (Or.inr rfl)).mono ?_
    rintro _ w' ⟨rfl, h⟩
    exact ⟨[], ⟨_, rfl, PR.none_ h⟩, Nf.nil_ p, Cg.of_eq fun x => by rw [Z.v_mul, zo_nil]; omega⟩
  refine (fproduct_pos p sp A1 A2 c1 c2 xs ys w B hpr.pos hp hsp hr1 hr2 hB hm1 hm2 d1.1 d2.1 (len_pos n1) (len_pos n2)).mono ?_
  rintro _ w' ⟨g, rfl, hg, hb, hw⟩
  obtain ⟨h1, h2⟩ := prod_nf hpr d1 d2 n1 n2
  refine ⟨_, ⟨_, rfl, ?_⟩, h1, h2⟩
  have := PR.of_blk hb hg (by rw [List.length_map, List.length_range]; unfold Big at hm1 hm2; omega) hw
  rwa [List.length_map, List.length_range] at this
theorem prod_len {p : Nat} (hp : Pr p) {xs ys r : List Nat} (_ : Nf p xs) (_ : Nf p ys) (hr : Nf p r) (h : Cg p (zo r) (zo xs * zo ys)) : r.length ≤ xs.length + ys.length := hr.len_le hp.pos h fun i hi => by
  have : (zo xs * zo ys).co i = 0 := far_mulI (zi xs) (zi ys) _ (by rw [zi_length, zi_length]; omega)
  rw [this]; exact Int.dvd_zero _
end
section
open Go.RowKit

set_option maxHeartbeats 1600000 in
theorem fshifted_any (p : Nat) (A : Option Addr) (c k : Nat) (xs : List Nat) (w : World) (B : Nat) (hr : Rd w B A (u32s xs)) (hB : B ≤ w.heap.size) (hm : xs.length ≤ Big) (hk : k ≤ Big) (hx : Nf p xs) :
    Calls Tryd.prog 61 #[.slice A xs.length c, .int .i64 (k : Int)] w fun e w' => ∃ r, PR1 w r e w' ∧ Nf p r ∧ Cg p (zo r) (zo xs * Z.X.pow k) ∧ r.length ≤ k + xs.length := by
  unfold Big at hm hk
  by_cases n1 : xs = []
  · subst n1
    have key : Calls Tryd.prog 61 #[.slice A 0 c, .int .i64 (k : Int)] w fun e w' => e = .returned (.slice none 0 0) ∧ w' = w := by
      clear hr hx hm
      go_enter Tryd.func61, Tryd.ntmps61
      go_wp2
      go_ret
      exact ⟨rfl, rfl⟩
    refine key.mono ?_
    rintro _ _ ⟨rfl, rfl⟩
    exact ⟨[], ⟨_, rfl, PR.none_ (Below.refl _ _)⟩, Nf.nil_ p, Cg.of_eq fun x => by rw [Z.v_mul, zo_nil]; omega, by simp⟩
  · have l1 := len_pos n1
    have hmk := fun W => mkP (k + xs.length) (by omega) W
    have z1 : ((xs.length : Int) == 0) = false := bz l1
    have z2 : (k : Int) + (xs.length : Int) = ((k + xs.length : Nat) : Int) := by omega
    have key : Calls Tryd.prog 61 #[.slice A xs.length c, .int .i64 (k : Int)] w fun e w' => ∃ g, e = .returned (.slice (some ⟨g, 0, none⟩) (k + xs.length) (k + xs.length)) ∧ w.heap.size ≤ g ∧ Blk w' g 24 (u32s (List.replicate k 0 ++ xs)) ∧ Below w.heap.size w w' := by
      have Hr := Lib.hid hr
      have z3 : ¬ (k + xs.length = k) := by omega
      have z4 : ¬ (xs.length = 0) := by omega
      obtain ⟨m, hme⟩ : ∃ m, m = k + xs.length := ⟨_, rfl⟩
      rw [← hme] at hmk z2 z3 ⊢
      have Hme := Lib.hid hme
      have z5 : k ≤ m := by omega
      have z6 : m - k = xs.length := by omega
      clear hr hme n1
      go_enter Tryd.func61, Tryd.ntmps61
      go_wp2_with ((with_reducible refine wpList_copyP (o := ⟨some 18, _, _, _, _, _⟩) rfl _ _ _ _ rfl 24 Tryd.underlying23 ?u1 A w.heap.size k _ _ _ _ rfl rfl 24 (List.replicate m 0) xs B w.heap.size w ?c1 ?c2 ?c3 ?c4 ?c5 (Nat.le_refl _) ?_); rotate_right; intro w2 hg2 hb2)
      case u1 => kernel_rfl
      case c1 => exact Blk.new_ (repl_u32 _)
      case c2 => exact Hr.out.alloc hB _
      case c3 => simp
      case c4 => simp; have := Hme.out; omega
      case c5 => exact (Below.refl _ _).alloc (Nat.le_refl _) _
      have e1 : (List.replicate m 0).take k ++ (xs ++ (List.replicate m 0).drop (k + xs.length)) = List.replicate k 0 ++ xs := by
        rw [Hme.out]; simp [List.take_replicate, List.drop_replicate]
      rw [e1] at hg2
      go_ret
      exact ⟨_, rfl, Nat.le_refl _, hg2, hb2⟩
    refine key.mono ?_
    rintro _ w' ⟨g, rfl, hg, hb, hw⟩
    have hl : (List.replicate k 0 ++ xs).length = k + xs.length := by simp
    refine ⟨List.replicate k 0 ++ xs, ⟨_, rfl, ?_⟩, ⟨fun x h => ?_, trimL_of_top ?_⟩, Cg.of_eq fun x => ?_, by rw [hl]; omega⟩
    · have := PR.of_blk hb hg (by rw [hl]; omega) hw
      rwa [hl] at this
    · rcases List.mem_append.1 h with h | h
      · rw [(List.mem_replicate.1 h).2]
        obtain ⟨y, hy⟩ := List.exists_mem_of_ne_nil _ n1
        have := hx.1 y hy; omega
      · exact hx.1 x h
    · rw [hl, List.getD_eq_getElem?_getD, List.getElem?_append_right (by simp; omega), List.length_replicate, show k + xs.length - 1 - k = xs.length - 1 by omega, ← List.getD_eq_getElem?_getD]
      exact trimL_top hx.2 n1
    · rw [Z.v_mul, Z.v_pow, Z.v_X]
      clear z1 z2 hmk hk hm key hb hl
      induction k with
      | zero => simp
      | succ k ih => rw [List.replicate_succ, List.cons_append, zo_cons, ih, Int.pow_succ]; grind

/-- A value, modulo p. -/
def evN (p : Nat) : List Nat → Nat → Nat
  | [], _ => 0
  | c :: a, x => (evN p a x * x + c) % p
theorem evN_lt {p : Nat} (hp : 0 < p) (a : List Nat) (x : Nat) : evN p a x < p := by
  cases a with
  | nil => exact hp
  | cons c a => exact Nat.mod_lt _ hp
theorem evN_cg (p : Nat) (a : List Nat) (x : Nat) : (p : Int) ∣ ((evN p a x : Nat) : Int) - (zo a).v x := by
  induction a with
  | nil => exact ⟨0, by simp [evN, zo_nil]⟩
  | cons c a ih =>
    obtain ⟨k, hk⟩ := ih
    obtain ⟨j, hj⟩ := mod_dvd (evN p a x * x + c) p
    rw [zo_cons]
    show (p : Int) ∣ (((evN p a x * x + c) % p : Nat) : Int) - _
    rw [Int.natCast_add, Int.natCast_mul] at hj
    exact ⟨j + x * k, by rw [Int.mul_add, ← hj]; grind⟩

set_option maxHeartbeats 1600000 in
theorem feval_any (p sp : Nat) (A : Option Addr) (c : Nat) (xs : List Nat) (x : Nat) (w : World) (B : Nat) (hp0 : 0 < p) (hp : p < 4294967296) (hr : Rd w B A (u32s xs)) (hB : B ≤ w.heap.size) (hm : xs.length ≤ Big) (d1 : ∀ x ∈ xs, x < 4294967296) (hx : x < p) :
    Calls Tryd.prog 62 #[fieldV p sp, .slice A xs.length c, .int .u32 (x : Int)] w fun e w' => e = .returned (.int .u32 ((evN p xs x : Nat) : Int)) ∧ Below w.heap.size w w' := by
  unfold Big at hm
  have hdx : Hid (∀ k (h : k < xs.length), xs[k] < 4294967296) := fun k h => d1 _ (List.getElem_mem h)
  have t4 : ((p : Int) == 0) = false := bz hp0
  have hb0 : Below w.heap.size w (w.alloc (.cells #[.int .u64 (p : Int), .int .u64 (sp : Int)] 77 (0, 0))) := (Below.refl _ _).alloc (Nat.le_refl _) _
  have Hr := Lib.hid (hr.below (hb0.mono hB))
  have f0 : (w.alloc (.cells #[.int .u64 (p : Int), .int .u64 (sp : Int)] 77 (0, 0))).cell? ⟨w.heap.size, 0, none⟩ = some (.int .u64 (p : Int)) := (Blk.new_ (vs := [.int .u64 (p : Int), .int .u64 (sp : Int)]) rfl).cell 0
  have HF0 := Lib.hid f0
  have Hb0 := Lib.hid hb0
  clear hr d1 f0 hb0
  go_enter Tryd.func62, Tryd.ntmps62
  go_wp2
  go_loopw [7, 8] (fun ov iv W => ∃ k : Nat, k ≤ xs.length ∧ ov = .int .u64 ((evN p (xs.drop k) x : Nat) : Int) ∧ iv = .int .i64 ((k : Int) - 1) ∧ Dr (w.alloc (.cells #[.int .u64 (p : Int), .int .u64 (sp : Int)] 77)) W) (fun _ iv _ => (intOf iv + 1).toNat)
  case atStart => exact ⟨xs.length, Nat.le_refl _, by simp [evN], rfl, Dr.refl _⟩
  case round =>
    obtain ⟨k, hk, rfl, rfl, hdr⟩ := hrel
    have g0 := hdr.cellOf HF0.out
    have ho := evN_lt hp0 (xs.drop k) x
    rcases k with _ | k
    · have e : (((0 : Nat) : Int) - 1) = -1 := rfl
      rw [e]
      rw [List.drop_zero] at ho ⊢
      obtain ⟨o, hoe⟩ : ∃ o, o = evN p xs x := ⟨_, rfl⟩
      rw [← hoe] at ho ⊢
      have ho2 : o < 4294967296 := by omega
      have Hdr := Lib.hid hdr
      have Hoe := Lib.hid hoe
      clear hoe
      go_wp2_with fail
      go_ret
      exact ⟨by rw [← Hoe.out]; rfl, Hb0.out.trans (Hdr.out.below _)⟩
    · have e : ((k + 1 : Nat) : Int) - 1 = (k : Int) := by omega
      rw [e]
      obtain ⟨b, o1, rfl, hb, hcx⟩ := (Hr.out.dr hdr).at32 (show k < xs.length by omega)
      have hcd := hdx.out k (by omega)
      have HE : Hid (evN p (xs.drop k) x = (evN p (xs.drop (k + 1)) x * x + xs[k]) % p) := by show _ = _; rw [List.drop_eq_getElem_cons (show k < xs.length by omega)]; rfl
      obtain ⟨o, hoe⟩ : ∃ o, o = evN p (xs.drop (k + 1)) x := ⟨_, rfl⟩
      obtain ⟨cf, hcf⟩ : ∃ cf, cf = xs[k] := ⟨_, rfl⟩
      rw [← hoe] at ho HE ⊢
      rw [← hcf] at hcx hcd HE
      have hoc : o * x ≤ 4294967295 * 4294967295 := Nat.mul_le_mul (by omega) (by omega)
      obtain ⟨m, hme⟩ : ∃ m, m = o * x := ⟨_, rfl⟩
      obtain ⟨s, hse⟩ : ∃ s, s = m + cf := ⟨_, rfl⟩
      obtain ⟨r, hre⟩ : ∃ r, r = s % p := ⟨_, rfl⟩
      have hrp : r < p := by rw [hre]; exact Nat.mod_lt _ hp0
      have HR2 : Hid (evN p (xs.drop k) x = r) := by show _ = _; rw [HE.out, hre, hse, hme]
      have t1 : (o : Int) * (x : Int) = (m : Int) := by rw [hme]; simp
      have t2 : (m : Int) + (cf : Int) = (s : Int) := by omega
      have t3 : (s : Int).tmod (p : Int) = (r : Int) := by rw [tmodN, hre]
      rw [← hme] at hoc
      have hsl : s < 18446744073709551616 := by omega
      have hkl : k < xs.length := by omega
      clear hme hse hre hoe hcf
      go_upto_region 5 with (fail)
      have q1 := w64 (n := x) (by omega)
      have q2 := w64 (n := cf) (by omega)
      have q3 := w64 (n := m) (by omega)
      have q4 := w64 (n := s) (by omega)
      have q5 := w64 (n := r) (by omega)
      have q7 : p ≠ 0 := by omega
      go_quiet (fail)
      clear q1 q2 q3 q4 q5 q7 t3
      go_wp2_with fail
      go_roundw
      case rel => exact ⟨k, by omega, by rw [HR2.out], rfl, hdr.step _⟩
      case measure => simp [intOf] <;> omega

def derN (p : Nat) (xs : List Nat) (i : Nat) : Nat := (i + 1) % p * xs.getD (i + 1) 0 % p
def derP (p : Nat) (xs : List Nat) : List Nat := trimL ((List.range (xs.length - 1)).map (derN p xs))
theorem derP_nf {p : Nat} (hp : 0 < p) (xs : List Nat) : Nf p (derP p xs) := Nf.trim fun x hx => by
  obtain ⟨i, _, rfl⟩ := List.mem_map.1 hx
  exact Nat.mod_lt _ hp

set_option maxHeartbeats 3200000 in
theorem fderiv_any (p sp : Nat) (A : Option Addr) (c : Nat) (xs : List Nat) (w : World) (B : Nat) (hp0 : 0 < p) (hp : p < 4294967296) (hr : Rd w B A (u32s xs)) (hB : B ≤ w.heap.size) (hm : xs.length ≤ Big) (d1 : ∀ x ∈ xs, x < 4294967296) :
    Calls Tryd.prog 63 #[fieldV p sp, .slice A xs.length c] w (PR1 w (derP p xs)) := by
  unfold Big at hm
  by_cases n1 : xs = []
  · subst n1
    have key : Calls Tryd.prog 63 #[fieldV p sp, .slice A 0 c] w fun e w' => e = .returned (.slice none 0 0) ∧ Below w.heap.size w w' := by
      clear hr d1 hm
      go_enter Tryd.func63, Tryd.ntmps63
      go_wp2
      go_ret
      exact ⟨rfl, (Below.refl _ _).alloc (Nat.le_refl _) _⟩
    refine key.mono ?_
    rintro _ _ ⟨rfl, h⟩
    exact ⟨_, rfl, PR.none_ h⟩
  · have l1 := len_pos n1
    obtain ⟨n, hn⟩ : ∃ n, xs.length = n + 1 := ⟨xs.length - 1, by omega⟩
    have hmk := fun W => mkP n (by omega) W
    have hdx : Hid (∀ k (h : k < xs.length), xs[k] < 4294967296) := fun k h => d1 _ (List.getElem_mem h)
    have t4 : ((p : Int) == 0) = false := bz hp0
    obtain ⟨W1, hW1⟩ : ∃ W1, W1 = w.alloc (.cells #[.int .u64 (p : Int), .int .u64 (sp : Int)] 77 (0, 0)) := ⟨_, rfl⟩
    have hb0 : Below w.heap.size w W1 := by rw [hW1]; exact (Below.refl _ _).alloc (Nat.le_refl _) _
    have hs1 : W1.heap.size = w.heap.size + 1 := by rw [hW1]; simp
    have hbf : Blk W1 w.heap.size 77 [.int .u64 (p : Int), .int .u64 (sp : Int)] := by rw [hW1]; exact Blk.new_ rfl
    have HF0 := Lib.hid (hbf.cell 0)
    have Hr := Lib.hid (hr.below (hb0.mono hB))
    have HW1 := Lib.hid hW1
    have Hs1 := Lib.hid hs1
    have Hb0 := Lib.hid hb0
    have E0 : Hid (derP p xs = trimL (fill (derN p xs) n n)) := by show _ = _; rw [fill_all]; unfold derP; rw [hn]; rfl
    obtain ⟨R, hR⟩ : ∃ R, R = PR1 w (derP p xs) := ⟨_, rfl⟩
    rw [← hR]
    have HR := Lib.hid hR
    have Hn := Lib.hid hn
    obtain ⟨L, hL⟩ : ∃ L, L = xs.length := ⟨_, rfl⟩
    rw [← hL]
    have z1 : ((L : Int) == 0) = false := bz (by omega)
    have z2 : (L : Int) - 1 = (n : Int) := by omega
    have hLn : n < L := by omega
    have hnb : n ≤ 17592186044416 := by omega
    have HL := Lib.hid (hL.trans hn)
    clear hL hW1 hb0 hbf hs1 hr d1 hR n1 hn
    go_enter Tryd.func63, Tryd.ntmps63
    go_wp2
    rw [← HW1.out]
    go_loopw [6, 16] (fun _ iv wr => ∃ k : Nat, k ≤ n ∧ iv = .int .i64 (k : Int) ∧ Blk wr (w.heap.size + 1) 24 (u32s (fill (derN p xs) n k)) ∧ Ch (w.heap.size + 1) (W1.alloc (.cells (Array.replicate n (Value.int .u32 0)) 24)) wr) (fun _ iv _ => n - (intOf iv).toNat)
    case atStart =>
      refine ⟨0, by omega, rfl, ?_, Ch.refl _ _⟩
      rw [fill_zero]
      have := Blk.new_ (w := W1) (t := 24) (repl_u32 n)
      rwa [Hs1.out] at this
    case round =>
      obtain ⟨k, hk, rfl, hblk, hch⟩ := hrel
      have hbl : Below (w.heap.size + 1) W1 wr := ((Below.refl _ _).alloc (by rw [Hs1.out]; omega) _).trans (hch.below (Nat.le_refl _))
      have f0 := (hbl.cell (p := ⟨w.heap.size, 0, none⟩) (by simp)).trans HF0.out
      simp only [List.getElem?_cons_zero] at f0
      by_cases hlt : k < n
      · have hk1 : k + 1 < xs.length := by have := Hn.out; omega
        obtain ⟨b, o1, rfl, hb, hcx⟩ := (Hr.out.below (hbl.mono (by omega))).at32 hk1
        have hcd := hdx.out (k + 1) hk1
        have hc0 := fill_cell hblk hlt
        have hfz := hblk.frozen k
        have hset := hblk.set_ k (.int .u32 ((derN p xs k : Nat) : Int))
        rw [u32s_set, fill_set hlt] at hset
        have HE : Hid (derN p xs k = (k + 1) % p * xs[k + 1] % p) := by show _ = _; unfold derN; rw [List.getD_eq_getElem?_getD, List.getElem?_eq_getElem hk1]; rfl
        obtain ⟨cf, hcf⟩ : ∃ cf, cf = xs[k + 1] := ⟨_, rfl⟩
        obtain ⟨u, hu⟩ : ∃ u, u = (k + 1) % p := ⟨_, rfl⟩
        rw [← hcf] at hcx hcd HE
        have hul : u < p := by rw [hu]; exact Nat.mod_lt _ hp0
        have huc : u * cf ≤ 4294967295 * 4294967295 := Nat.mul_le_mul (by omega) (by omega)
        obtain ⟨m, hme⟩ : ∃ m, m = u * cf := ⟨_, rfl⟩
        obtain ⟨r, hre⟩ : ∃ r, r = m % p := ⟨_, rfl⟩
        have hrp : r < p := by rw [hre]; exact Nat.mod_lt _ hp0
        rw [HE.out, ← hu, ← hme, ← hre] at hset
        have t1 : (u : Int) * (cf : Int) = (m : Int) := by rw [hme]; simp
        have t2 : (k : Int) + 1 = ((k + 1 : Nat) : Int) := by omega
        obtain ⟨k1, hk1e⟩ : ∃ k1, k1 = k + 1 := ⟨_, rfl⟩
        rw [← hk1e] at t2 hu hcx
        have t3 : (k1 : Int).tmod (p : Int) = (u : Int) := by rw [tmodN, hu]
        have t5 : (m : Int).tmod (p : Int) = (r : Int) := by rw [tmodN, hre]
        rw [← hme] at huc
        have hkn : k1 < L := by have := HL.out; omega
        have hkb : k1 < 18446744073709551616 := by omega
        have Hset := Lib.hid hset
        have Hk1 := Lib.hid hk1e
        clear hset hblk hme hre hcf hu hk1e
        go_upto_region 7 with (fail)
        have q1 := w64 (n := k1) (by omega)
        have q2 := w64 (n := cf) (by omega)
        have q3 := w64 (n := m) (by omega)
        have q4 := w64 (n := u) (by omega)
        have q5 := w64 (n := r) (by omega)
        have q6 := w32 (n := r) (by omega)
        have q8 : IntKind.i64.wrap (k1 : Int) = k1 := IntWalk.i64_in _ (by omega)
        have q7 : p ≠ 0 := by omega
        refine region_quiet_tail 20 (by kernel_rfl) (by kernel_rfl) ?_
        simp only [List.take_succ_cons, List.take_zero, List.drop_succ_cons, List.drop_zero]
        repeat (quiet_step (fail))
        refine wpQuiet_nil ?_
        rintro _ ⟨nq, rfl⟩
        clear q1 q2 q3 q4 q5 q6 q7 q8 t3 t5
        go_wp2_with fail
        go_roundw
        case rel => exact ⟨k + 1, by omega, by rw [← Hk1.out], Hset.out, (hch.drewN nq).setCell _ _⟩
        case measure => simp [intOf]; have := Hk1.out; omega
      · obtain rfl : k = n := by omega
        have HB := Lib.hid hblk
        clear hblk
        go_wp2_with (go_at_call 76; (with_reducible refine (trim_own _ _ _ _ (fill_length (Nat.le_refl _)) HB.out (by omega)).mono ?_); rintro _ _ ⟨rfl, rfl⟩)
        rw [HR.out]
        exact PR1.of_trim HB.out (fill_length (Nat.le_refl _)) E0.out (by omega) (by omega) (Hb0.out.trans (hbl.mono (by omega)))
end
section
theorem getD_set (l : List Nat) (i j x : Nat) (h : i < l.length) : (l.set i x).getD j 0 = if i = j then x else l.getD j 0 := by
  simp only [List.getD_eq_getElem?_getD, List.getElem?_set]
  split
  · subst i; simp
  · rfl
/-- The first i numbers of ys, times m, on those from k on. -/
def dstep (p m k : Nat) (ys : List Nat) (R : List Nat) : Nat → List Nat
  | 0 => R
  | i + 1 => (dstep p m k ys R i).set (k + i) (((dstep p m k ys R i).getD (k + i) 0 + m * ys.getD i 0) % p)
section
variable {p m k : Nat} {ys R : List Nat}
theorem dstep_length (i : Nat) : (dstep p m k ys R i).length = R.length := by
  induction i with
  | zero => rfl
  | succ i ih => rw [dstep, List.length_set, ih]
theorem dstep_getD (i : Nat) (h : k + i ≤ R.length) (j : Nat) : (dstep p m k ys R i).getD j 0 = if k ≤ j ∧ j < k + i then (R.getD j 0 + m * ys.getD (j - k) 0) % p else R.getD j 0 := by
  induction i generalizing j with
  | zero => rw [dstep, if_neg (by omega)]
  | succ i ih =>
    have e0 : (dstep p m k ys R i).getD (k + i) 0 = R.getD (k + i) 0 := by rw [ih (by omega), if_neg (by omega)]
    rw [dstep, getD_set _ _ _ _ (by rw [dstep_length]; omega), e0, ih (by omega) j]
    by_cases e : k + i = j
    · subst e
      rw [if_pos rfl, if_pos (by omega), Nat.add_sub_cancel_left]
    · rw [if_neg e]
      by_cases h2 : k ≤ j ∧ j < k + i
      · rw [if_pos h2, if_pos (by omega)]
      · rw [if_neg h2, if_neg (by omega)]
theorem dstep_lt (hp : 0 < p) (hR : ∀ x ∈ R, x < p) (i : Nat) : ∀ x ∈ dstep p m k ys R i, x < p := by
  induction i with
  | zero => exact hR
  | succ i ih =>
    intro x hx
    rw [dstep] at hx
    rcases List.mem_or_eq_of_mem_set hx with h | h
    · exact ih x h
    · rw [h]; exact Nat.mod_lt _ hp
theorem ev_shift (k : Nat) (a : List Int) (x : Int) : ev (List.replicate k 0 ++ a) x = x ^ k * ev a x := by
  induction k with
  | zero => simp
  | succ k ih => rw [List.replicate_succ, List.cons_append, ev, ih, Int.pow_succ]; grind
theorem getD_shift (k : Nat) (a : List Int) (j : Nat) : (List.replicate k (0 : Int) ++ a).getD j 0 = if k ≤ j then a.getD (j - k) 0 else 0 := by
  simp only [List.getD_eq_getElem?_getD]
  by_cases h : k ≤ j
  · rw [if_pos h, List.getElem?_append_right (by simpa using h), List.length_replicate]
  · rw [if_neg h, List.getElem?_append_left (by simpa using h), List.getElem?_replicate, if_pos (by omega)]; rfl
theorem dstep_cg (h : k + ys.length ≤ R.length) : Cg p (zo (dstep p m k ys R ys.length)) (zo R + .c m * Z.X.pow k * zo ys) := by
  refine (Cg.of_co (b := addI (zi R) (sclI m (List.replicate k 0 ++ zi ys))) fun j => ?_).trans (Cg.of_eq fun x => by
    rw [Z.v_add, Z.v_mul, Z.v_mul, Z.v_c, Z.v_pow, Z.v_X]
    show ev (addI _ _) x = _
    rw [ev_addI, ev_sclI, ev_shift]
    show ev (zi R) x + _ = ev (zi R) x + m * x ^ k * ev (zi ys) x
    grind)
  rw [zi_getD, getD_addI, getD_sclI, getD_shift, zi_getD, dstep_getD _ h]
  by_cases h1 : k ≤ j
  · rw [if_pos h1, zi_getD]
    by_cases h2 : j < k + ys.length
    · rw [if_pos ⟨h1, h2⟩]
      generalize R.getD j 0 = a
      generalize ys.getD (j - k) 0 = b
      obtain ⟨c, hc⟩ : (p : Int) ∣ (((a + m * b) % p : Nat) : Int) - ((a + m * b : Nat) : Int) := by
        have h := Nat.div_add_mod (a + m * b) p
        exact ⟨-(((a + m * b) / p : Nat) : Int), by
          have h2 : ((p * ((a + m * b) / p) + (a + m * b) % p : Nat) : Int) = (a + m * b : Nat) := by rw [h]
          rw [Int.natCast_add (p * _), Int.natCast_mul] at h2
          rw [Int.mul_neg]; omega⟩
      exact ⟨c, by rw [← hc, Int.natCast_add, Int.natCast_mul]⟩
    · rw [if_neg (by omega), getD_nat (a := ys) (by omega)]
      exact ⟨0, by simp⟩
  · rw [if_neg h1, if_neg (by omega)]
    exact ⟨0, by simp⟩
theorem set_cg {Q : List Nat} {d : Nat} (h : k < Q.length) (h0 : Q.getD k 0 = 0) : Cg p (zo (Q.set k d)) (zo Q + .c d * Z.X.pow k) := by
  refine (Cg.of_co (b := addI (zi Q) (sclI d (List.replicate k 0 ++ [1]))) fun j => ?_).trans (Cg.of_eq fun x => by
    rw [Z.v_add, Z.v_mul, Z.v_c, Z.v_pow, Z.v_X]
    show ev (addI _ _) x = _
    rw [ev_addI, ev_sclI, ev_shift]
    show ev (zi Q) x + _ = ev (zi Q) x + d * x ^ k
    simp [ev])
  rw [zi_getD, getD_addI, getD_sclI, getD_shift, zi_getD, getD_set _ _ _ _ h]
  by_cases e : k = j
  · subst e
    rw [if_pos rfl, if_pos (Nat.le_refl _), h0]
    exact ⟨0, by simp⟩
  · rw [if_neg e]
    by_cases h1 : k ≤ j
    · rw [if_pos h1, getD_none (by simp; omega)]
      exact ⟨0, by simp⟩
    · rw [if_neg h1]
      exact ⟨0, by simp⟩
end

theorem step_zero {p t u y ls d : Nat} (h1 : (p : Int) ∣ (ls : Int) - -(d : Int)) (h2 : (p : Int) ∣ (d : Int) - ((t * u : Nat) : Int)) (h3 : (p : Int) ∣ (1 : Int) - ((y * u : Nat) : Int)) : (t + ls * y) % p = 0 := by
  obtain ⟨c, hc⟩ := h1
  obtain ⟨c2, hc2⟩ := h2
  obtain ⟨c3, hc3⟩ := h3
  rw [Int.natCast_mul] at hc2 hc3
  refine Nat.mod_eq_zero_of_dvd (Int.natCast_dvd_natCast.1 ⟨c * y - c2 * y + t * c3, ?_⟩)
  rw [Int.natCast_add, Int.natCast_mul]
  have e3 : (ls : Int) = p * c - d := by omega
  have e4 : (d : Int) = p * c2 + t * u := by omega
  have e5 : (1 : Int) = p * c3 + y * u := by omega
  have e6 : (t : Int) = t * (p * c3 + y * u) := by rw [← e5]; omega
  rw [e3, e4]
  clear hc hc2 hc3 e3 e4 e5
  grind
/-- The quotient's length. -/
theorem Dv.len_q {p : Nat} (hp : Pr p) {a b q r : List Nat} (h : Dv p (zo a) (zo b) b.length q r) (_ : Nf p a) (hb : Nf p b) : q.length ≤ a.length + 1 := by
  by_cases nq : q = []
  · subst nq; simp
  have nb : b ≠ [] := by rintro rfl; have := h.lt; simp at this
  have h5 := Nf.top_mul hp h.nq hb nq nb
  have h6 := h.eq.co (q.length + b.length - 2)
  have h7 := len_pos nq
  have h8 := len_pos nb
  have h9 := h.lt
  rcases Nat.lt_or_ge (a.length + 1) (q.length + b.length) with h10 | h10
  · rw [Z.co_add, zo_co r, getD_nat (a := r) (by omega), zo_co a, getD_nat (a := a) (by omega)] at h6
    exact absurd (by simpa using h6) h5
  · omega
/-- The state of a long division: k places are left. -/
structure Dl (p : Nat) (a b Q R : List Nat) (k : Nat) : Prop where
  lenQ : Q.length + b.length = a.length + 1
  lenR : R.length = a.length
  dq : ∀ x ∈ Q, x < p
  dr : ∀ x ∈ R, x < p
  q0 : ∀ j, j < k → Q.getD j 0 = 0
  r0 : ∀ j, k + b.length ≤ j + 1 → R.getD j 0 = 0
  eq : Cg p (zo a) (zo Q * zo b + zo R)
theorem Dl.start {p : Nat} {a b : List Nat} (hp : 0 < p) (ha : ∀ x ∈ a, x < p) (hl : b.length ≤ a.length) : Dl p a b (List.replicate (a.length - b.length + 1) 0) a (a.length - b.length + 1) where
  lenQ := by simp; omega
  lenR := rfl
  dq := fun x h => by rw [(List.mem_replicate.1 h).2]; exact hp
  dr := ha
  q0 := fun j _ => by simp [List.getD_eq_getElem?_getD, List.getElem?_replicate]; split <;> rfl
  r0 := fun j hj => getD_nat (by omega)
  eq := Cg.of_eq fun x => by
    have : (zo (List.replicate (a.length - b.length + 1) 0)).v x = 0 := by
      generalize a.length - b.length + 1 = n
      induction n with
      | zero => rfl
      | succ n ih => rw [List.replicate_succ, zo_cons, ih]; simp
    rw [Z.v_add, Z.v_mul, this]; omega
/-- A digit that is 0. -/
theorem Dl.skip {p : Nat} {a b Q R : List Nat} {k : Nat} (h : Dl p a b Q R (k + 1)) (h0 : R.getD (k + b.length - 1) 0 = 0) (hb : 0 < b.length) : Dl p a b Q R k :=
  ⟨h.lenQ, h.lenR, h.dq, h.dr, fun j hj => h.q0 j (by omega), fun j hj => by
    by_cases e : j = k + b.length - 1
    · rw [e]; exact h0
    · exact h.r0 j (by omega), h.eq⟩
/-- A digit d that is not: m is minus it. -/
theorem Dl.step {p : Nat} {a b Q R : List Nat} {k d m : Nat} (h : Dl p a b Q R (k + 1)) (hb : 0 < b.length) (hp : 0 < p) (hk : k < Q.length) (hd : d < p) (hm : (p : Int) ∣ (m : Int) - -(d : Int)) (hz : (R.getD (k + b.length - 1) 0 + m * b.getD (b.length - 1) 0) % p = 0) :
    Dl p a b (Q.set k d) (dstep p m k b R b.length) k := by
  have h1 := h.lenQ
  have h2 := h.lenR
  refine ⟨by rw [List.length_set]; exact h1, by rw [dstep_length]; exact h2, fun x hx => ?_, dstep_lt hp h.dr _, fun j hj => ?_, fun j hj => ?_, ?_⟩
  · rcases List.mem_or_eq_of_mem_set hx with h3 | h3
    · exact h.dq x h3
    · rw [h3]; exact hd
  · rw [getD_set _ _ _ _ hk, if_neg (by omega)]; exact h.q0 j (by omega)
  · rw [dstep_getD _ (by omega)]
    by_cases e : j = k + b.length - 1
    · subst e
      rw [if_pos (by omega), show k + b.length - 1 - k = b.length - 1 by omega]; exact hz
    · rw [if_neg (by omega)]; exact h.r0 j (by omega)
  · obtain ⟨c, hc⟩ := hm
    have e1 := set_cg (p := p) (d := d) hk (h.q0 k (by omega))
    have e2 := dstep_cg (p := p) (m := m) (k := k) (ys := b) (R := R) (by omega)
    have e3 : Cg p (zo (Q.set k d) * zo b + zo (dstep p m k b R b.length)) (zo Q * zo b + zo R) := by
      obtain ⟨c1, h1⟩ := e1
      obtain ⟨c2, h2⟩ := e2
      refine ⟨c1 * zo b + c2 + .c c * Z.X.pow k * zo b, fun x => ?_⟩
      have h1 := h1 x
      have h2 := h2 x
      have hm : (m : Int) = -(d : Int) + p * c := by omega
      simp only [Z.v_add, Z.v_mul, Z.v_c] at h1 h2 ⊢
      rw [h1, h2, hm]
      grind
    exact h.eq.trans e3.symm
/-- The end. -/
theorem Dl.done {p : Nat} {a b Q R : List Nat} (hp : Pr p) (h : Dl p a b Q R 0) (ha : Nf p a) (_ : Nf p b) (nb : b ≠ []) (hl : b.length ≤ a.length) : Dv p (zo a) (zo b) b.length Q (trimL R) := by
  have l1 := len_pos nb
  have h1 := h.lenQ
  refine ⟨⟨h.dq, ?_⟩, Nf.trim h.dr, ?_, h.eq.trans ((Cg.refl _).add (Cg.trim R).symm)⟩
  · by_cases hq : Q.getD (Q.length - 1) 0 = 0
    · exfalso
      have na : a ≠ [] := by rintro rfl; simp at hl; exact nb hl
      refine ha.top hp.pos na ?_
      have h2 := h.eq.co (a.length - 1)
      have h3 := top_mulI (zi Q) (zi b) (Q.length - 1) (b.length - 1) (by rw [zi_length]; omega) (by rw [zi_length]; omega)
      rw [show Q.length - 1 + (b.length - 1) = a.length - 1 by omega, zi_getD, zi_getD, hq] at h3
      have h4 : (zo Q * zo b).co (a.length - 1) = 0 := by
        show (mulI (zi Q) (zi b)).getD (a.length - 1) 0 = 0
        rw [h3]; simp
      have h5 := h.r0 (a.length - 1) (by omega)
      rw [Z.co_add, h4, zo_co, zo_co, h5] at h2
      simpa using h2
    · rcases List.eq_nil_or_concat Q with rfl | ⟨l', x, rfl⟩
      · rfl
      · rw [List.concat_eq_append] at hq ⊢
        exact trimL_snoc_pos _ _ (by simpa using hq)
  · rcases Nat.lt_or_ge (trimL R).length b.length with h2 | h2
    · exact h2
    · exfalso
      have h3 := trimL_top (trimL_trimL R) (by intro e; rw [e, List.length_nil] at h2; omega)
      rw [trimL_getD] at h3
      exact h3 (h.r0 _ (by omega))
end
end Go.Proofs.YtddhhndnkjajmaaDoor
