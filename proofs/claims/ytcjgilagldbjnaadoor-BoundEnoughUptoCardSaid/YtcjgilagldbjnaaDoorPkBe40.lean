/- The contract of the reference's Left. The numbers behind the greatest common divisor. No conditions of its own. The contract of the reference's Gcd. Conditions: limbs; at most 2^28 of them. The contracts of the reference's Norm, Of, Sign, Neg, Abs, Mul, Gcd on integers. Conditions: at most 2^26 limbs. The reference's Enough. Conditions: at most 2^26 limbs, at most 2^20 primes. -/
import Derived.Test.YtcjgilagldbjnaaDoorPkBe39
import Derived.Test.YtcjgilagldbjnaaDoorPkBe18
import Derived.Deep.RegionLaw
import Derived.Deep.RegionHeld3
import Derived.Deep.DeepCutAuto
import Derived.Test.YtcjgilagldbjnaaDoorPkBe23
import Derived.Shelf.Spec.TrailingZeros
import Derived.Deep.LoopGhost
import Derived.Test.YtcjgilagldbjnaaDoorPkBe27
import Derived.Test.YtcjgilagldbjnaaDoorPkBe38
namespace Go.Proofs.YtcjgilagldbjnaaDoor
section
open Go.RowKit
end
section
open Go.RowKit

/-- The two numbers between two of Euclid's steps by the top words. -/
structure Leh (e : Bool) (x0 y0 x y u1 u2 v1 v2 : Nat) : Prop where
  le : y ≤ x
  comb : x0 = v2 * x + v1 * y
  uv : u2 ≤ v2
  sum : u1 + u2 ≤ v1 + v2
  v2p : 1 ≤ v2
  idx : if e then x + u1 * x0 = v1 * y0 else x + v1 * y0 = u1 * x0
  idy : if e then y + v2 * y0 = u2 * x0 else y + u2 * x0 = v2 * y0
  det : if e then u2 * v1 = u1 * v2 + 1 else u1 * v2 = u2 * v1 + 1
theorem Leh.start {x0 y0 : Nat} (h : y0 ≤ x0) : Leh false x0 y0 x0 y0 1 0 0 1 :=
  ⟨h, by omega, by omega, by omega, by omega, by simp, by simp, by simp⟩
theorem Leh.next {e : Bool} {x0 y0 x y u1 u2 v1 v2 : Nat} (h : Leh e x0 y0 x y u1 u2 v1 v2) (g1 : v2 ≤ y) : Leh (!e) x0 y0 y (x % y) u2 (u1 + x / y * u2) v2 (v1 + x / y * v2) := by
  have hy : 0 < y := Nat.lt_of_lt_of_le h.v2p g1
  have hq : 1 ≤ x / y := (Nat.le_div_iff_mul_le hy).2 (by rw [Nat.one_mul]; exact h.le)
  have hm := Nat.div_add_mod x y
  obtain ⟨le, comb, uv, sum, v2p, idx, idy, det⟩ := h
  generalize x / y = q at *
  obtain ⟨r, hr⟩ : ∃ r, r = x % y := ⟨_, rfl⟩
  have hrl : r < y := by rw [hr]; exact Nat.mod_lt _ hy
  rw [← hr] at hm ⊢
  clear hr
  obtain ⟨p, rfl⟩ : ∃ p, q = p + 1 := ⟨q - 1, by omega⟩
  have hpuv : p * u2 ≤ p * v2 := Nat.mul_le_mul_left _ uv
  refine ⟨Nat.le_of_lt hrl, ?_, ?_, ?_, ?_, ?_, ?_, ?_⟩
  · subst hm; grind
  · rw [Nat.add_mul, Nat.add_mul]; omega
  · rw [Nat.add_mul, Nat.add_mul]; omega
  · rw [Nat.add_mul]; omega
  · cases e <;> simp only [Bool.not_true, Bool.not_false, if_true, Bool.false_eq_true, if_false] at idy ⊢ <;> exact idy
  · subst hm
    cases e <;> simp only [Bool.not_true, Bool.not_false, if_true, Bool.false_eq_true, if_false] at idx idy ⊢ <;> grind
  · cases e <;> simp only [Bool.not_true, Bool.not_false, if_true, Bool.false_eq_true, if_false] at det ⊢ <;> grind
end
section
open Go.RowKit

/-- A number of the reference's. -/
def Lv (w : World) (A : Option Addr) (ps : List Nat) (p LL : Nat) : Prop := Num 4294967296 ps p ∧ Rd w w.heap.size A (u32s ps) ∧ p < 4294967296 ^ LL
section
variable {w w' : World} {A : Option Addr} {ps : List Nat} {p LL : Nat}
theorem Lv.next (h : Lv w A ps p LL) (hb : Below w.heap.size w w') : Lv w' A ps p LL := ⟨h.1, (h.2.1.below hb).mono hb.size, h.2.2⟩
theorem Lv.len (h : Lv w A ps p LL) : ps.length ≤ LL := by
  have := trimL_len_le (b := 4294967296) (by omega) h.1.1 (by rw [h.1.2.2]; exact h.2.2)
  rwa [h.1.2.1] at this
theorem Lv.pos (h : Lv w A ps p LL) (h0 : 0 < p) : 0 < ps.length := by
  refine List.length_pos_iff.2 (fun e => ?_)
  have := (h.1.nil_iff (by omega)).1 e
  omega
theorem Lv.zero (h : Lv w A ps p LL) (h0 : p = 0) : ps = [] := (h.1.nil_iff (by omega)).2 h0
theorem Lv.cell (h : Lv w A ps p LL) (h0 : 0 < p) : ∃ b off x, A = some ⟨b, off, none⟩ ∧ w.cell? ⟨b, off, none⟩ = some (.int .u32 (x : Nat)) ∧ x % 2 = p % 2 ∧ x < 4294967296 := by
  have hl := h.pos h0
  obtain ⟨b, off, rfl, hb, hc⟩ := h.2.1 (by intro e; have := congrArg List.length e; rw [u32s_length] at this; simp at this; rw [this] at hl; simp at hl)
  have h1 := hc 0 _ (u32s_at hl)
  refine ⟨b, off, ps[0], rfl, h1, ?_, h.1.1.at_ 0 hl⟩
  have hv := h.1.2.2
  obtain ⟨y, ys, rfl⟩ : ∃ y ys, ps = y :: ys := by
    cases ps with
    | nil => simp at hl
    | cons y ys => exact ⟨y, ys, rfl⟩
  rw [← hv]
  simp only [val, List.getElem_cons_zero]
  omega
end
end
section
open Go.RowKit

section
variable {w w' : World} {g g2 : Bool} {A A2 : Option Addr} {c c2 K J : Nat} {xs ys : List Nat} {z y : Int}
set_option maxHeartbeats 800000 in
theorem Zh.rsign (h : Zh w g A c xs z K) (hK : K ≤ 67108864) : Calls Tryd.prog 14 #[.agg #[.bool g, .slice A xs.length c]] w fun e w' => e = .returned (.int .i64 z.sign) ∧ Below w.heap.size w w' := by
  have Z1 : Hid (∀ W (_ : Below w.heap.size w W), Calls Tryd.prog 32 #[.slice A xs.length c] W fun e w' => e = .returned (.bool (decide (z.natAbs = 0))) ∧ W = w') := fun W hW => (h.next hW).hv.rzero hK
  have hs := h.sg
  have hd : decide (z.natAbs = 0) = decide (z = 0) := decide_eq_decide.2 (by omega)
  rw [hd] at Z1
  clear h hd
  have b0 := blk_one w (.bool g) (.slice A xs.length c)
  by_cases h0 : z = 0
  · rw [decide_eq_true h0] at Z1
    rw [h0, show Int.sign 0 = 0 from rfl]
    clear hs h0
    go_enter Tryd.func14, Tryd.ntmps14
    go_wp2_with fail
    refine (Z1.out _ (bel_one _ _)).mono ?_
    rintro e w1 ⟨rfl, rfl⟩
    go_wp2_with fail
    go_ret
    exact ⟨rfl, bel_one _ _⟩
  · have h1 := isNeg_ival g z.natAbs
    rw [hs, show decide (0 < z.natAbs) = true from decide_eq_true (by omega), Bool.and_true] at h1
    rw [decide_eq_false h0] at Z1
    cases g
    · have e1 : z.sign = 1 := Int.sign_eq_one_of_pos (by simp [isNeg] at h1; omega)
      rw [e1]
      clear hs h0 h1 e1
      go_enter Tryd.func14, Tryd.ntmps14
      go_wp2_with fail
      refine (Z1.out _ (bel_one _ _)).mono ?_
      rintro e w1 ⟨rfl, rfl⟩
      go_wp2_with fail
      go_ret
      exact ⟨rfl, bel_one _ _⟩
    · have e1 : z.sign = -1 := Int.sign_eq_neg_one_of_neg (by simp [isNeg] at h1; omega)
      rw [e1]
      clear hs h0 h1 e1
      go_enter Tryd.func14, Tryd.ntmps14
      go_wp2_with fail
      refine (Z1.out _ (bel_one _ _)).mono ?_
      rintro e w1 ⟨rfl, rfl⟩
      go_wp2_with fail
      go_ret
      exact ⟨rfl, bel_one _ _⟩
end
end
section
open Go.RowKit
section
variable {w w' : World} {A P : Option Addr} {c cP K ce : Nat} {xs ps : List Nat} {z : Int} {g x y : Bool}
set_option maxHeartbeats 1600000 in
theorem renough_neg (h : Zh w g A c xs z K) (hK : K ≤ 67108864) (hz : z < 0) :
    Calls Tryd.prog 5 #[.agg #[.bool g, .slice A xs.length c], .slice P ps.length cP] w fun e w' => e = .returned (.tuple #[.bool false, .bool false, .int .i64 1]) ∧ Below w.heap.size w w' := by
  have SG : Hid (∀ W (_ : Below w.heap.size w W), Calls Tryd.prog 14 #[.agg #[.bool g, .slice A xs.length c]] W fun e w' => e = .returned (.int .i64 z.sign) ∧ Below W.heap.size W w') := fun W hW => (h.next hW).rsign hK
  have k0 := bel_one w (.cells #[.bool g, .slice A xs.length c] 25)
  have b0 := blk_one w (.bool g) (.slice A xs.length c)
  have t1 : z.sign < 0 := Int.sign_neg_iff.2 hz
  clear h
  go_enter Tryd.func5, Tryd.ntmps5
  go_wp2_with fail
  refine (SG.out _ k0).mono ?_
  rintro e w1 ⟨rfl, hb⟩
  have k1 := bst k0 hb (Nat.le_refl _)
  have b1 := b0.below hb b0.lt
  clear hb k0 b0
  go_wp2_with fail
  refine bodyPost_ret (v := .tuple #[.bool false, .bool false, .int .i64 1]) (by simp [results, Tryd.f5]) rfl ?_
  exact ⟨rfl, k1⟩
set_option maxHeartbeats 6400000 in
theorem renough_any (h : Zh w g A c xs z K) (hK : K ≤ 67108862) (hz : 0 ≤ z) (hp : Rd w w.heap.size P (u32s ps)) (hcp : ps.length ≤ cP) (hd : ∀ x ∈ ps, x < 4294967296) (hl : ps.length ≤ 1048576) (hE : EnIs ps (z.natAbs + z.natAbs) ce x y) :
    Calls Tryd.prog 5 #[.agg #[.bool g, .slice A xs.length c], .slice P ps.length cP] w fun e w' => e = .returned (.tuple #[.bool x, .bool y, .int .i64 (ce : Int)]) ∧ Below w.heap.size w w' := by
  have SG : Hid (∀ W (_ : Below w.heap.size w W), Calls Tryd.prog 14 #[.agg #[.bool g, .slice A xs.length c]] W fun e w' => e = .returned (.int .i64 z.sign) ∧ Below W.heap.size W w') := fun W hW => (h.next hW).rsign (by omega)
  have AD : Hid (∀ W (_ : Below w.heap.size w W), Calls Tryd.prog 16 #[.slice A xs.length c, .slice A xs.length c] W fun e w' => NOut W w' (z.natAbs + z.natAbs) e) := fun W hW => (h.next hW).hv.radd (h.next hW).hv (by omega) (by omega)
  have OF : Hid (∀ W, Calls Tryd.prog 17 #[.int .u64 1] W fun e w' => NOut W w' 1 e) := fun W => rof_out 1 (by omega) W
  have HT : Hid (z.natAbs + z.natAbs < 4294967296 ^ (K + 1)) := twice_lt9 h.hv.lt
  have k0 := bel_one w (.cells #[.bool g, .slice A xs.length c] 25)
  have b0 := blk_one w (.bool g) (.slice A xs.length c)
  have t1 : ¬ z < 0 := by omega
  have t2 : ¬ z.sign < 0 := fun h => t1 (Int.sign_neg_iff.1 h)
  obtain ⟨t, ht⟩ : ∃ t, t = z.natAbs + z.natAbs := ⟨_, rfl⟩
  rw [← ht] at AD HT hE
  have HE := Lib.hid hE
  have HP := Lib.hid hp
  have HD := Lib.hid hd
  have HCP := Lib.hid hcp
  clear h ht hE hp hd hz hcp
  go_enter Tryd.func5, Tryd.ntmps5
  go_wp2_with fail
  refine (SG.out _ k0).mono ?_
  rintro e w1 ⟨rfl, hb⟩
  have k1 := bst k0 hb (Nat.le_refl _)
  have b1 := b0.below hb b0.lt
  clear hb k0 b0 SG
  have HB1 := Lib.hid b1
  have K1 := Lib.hid k1
  clear b1 k1
  go_wp2_with fail
  go_loop [7, 8, 10, 21] (fun _ _ _ iv => ∃ k : Nat, k ≤ ps.length ∧ iv = .int .i64 (k : Int) ∧ Hid (En ps k)) (fun _ _ _ iv => ps.length - (intOf iv).toNat)
  case atStart => exact ⟨0, Nat.zero_le _, rfl, Lib.hid (En.zero ps)⟩
  case round =>
    obtain ⟨k, hk, rfl, HEn⟩ := hrel
    by_cases hlt : k < ps.length
    · obtain ⟨b, off, rfl, hbw, hc0⟩ := HP.out (by intro h9; have := congrArg List.length h9; rw [u32s_length, List.length_nil] at this; omega)
      have HX : Hid (∀ j (h : j < ps.length), w1.cell? ⟨b, off + j, none⟩ = some (.int .u32 (ps[j] : Nat))) := fun j h => (K1.out.cell (p := ⟨b, off + j, none⟩) hbw).trans (hc0 j _ (u32s_at h))
      have hx := HX.out k hlt
      obtain ⟨q, hq⟩ : ∃ q, q = ps[k] := ⟨_, rfl⟩
      have HQ := Lib.hid hq
      have hq32 : q < 4294967296 := by rw [hq]; exact HD.out _ (List.getElem_mem hlt)
      rw [← hq] at hx
      have IQ : Hid (Calls Tryd.prog 15 #[.int .u32 (q : Int)] w1 fun e w' => e = .returned (.bool (isP q)) ∧ w' = w1) := ris_all q hq32 w1
      clear hc0 hq hq32
      by_cases hp : Pr q
      · have HPr := Lib.hid hp
        rw [isP_true hp] at IQ
        have hcp2 : k ≤ cP := by have := HCP.out; omega
        clear hp
        go_wp2_with fail
        refine IQ.out.mono ?_
        rintro e w5 ⟨rfl, rfl⟩
        go_wp2_with fail
        go_loop [10, 33] (fun _ jv => ∃ j : Nat, j ≤ k ∧ jv = .int .i64 (j : Int) ∧ Hid (∀ i (h : i < ps.length), i < j → ps[i] ≠ q)) (fun _ jv => k - (intOf jv).toNat)
        case atStart => exact ⟨0, Nat.zero_le _, rfl, Lib.hid fun i _ h => absurd h (Nat.not_lt_zero _)⟩
        case round =>
          obtain ⟨j, hj, rfl, HJ⟩ := hrel
          by_cases hjk : j < k
          · obtain ⟨v, hv⟩ : ∃ v, v = ps[j] := ⟨_, rfl⟩
            have hy := HX.out j (by omega)
            rw [← hv] at hy
            by_cases hvq : v = q
            · subst hvq
              have t3 : ((v : Int) == (v : Int)) = true := by simp
              obtain ⟨h40, hx9, hy9⟩ := HE.out.twice hlt HEn.out (HQ.out ▸ HPr.out) (by
                rw [← HQ.out, hv]
                exact List.mem_take_iff_getElem.2 ⟨j, by omega, rfl⟩)
              subst h40 hx9 hy9
              clear hv
              go_wp2_with fail
              refine bodyPost_ret (v := .tuple #[.bool false, .bool false, .int .i64 60]) (by simp [results, Tryd.f5]) rfl ?_
              exact ⟨rfl, K1.out⟩
            · have t3 : ((q : Int) == (v : Int)) = false := by simp; omega
              have HJ2 : Hid (∀ i (h : i < ps.length), i < j + 1 → ps[i] ≠ q) := fun i h h2 => by
                by_cases e : i = j
                · subst e; rw [← hv]; exact hvq
                · exact HJ.out i h (by omega)
              clear hv hvq
              go_wp2_with fail
              go_round
              case rel => exact ⟨j + 1, by omega, by go_num, HJ2⟩
              case measure => simp [intOf]; omega
          · obtain rfl : j = k := by omega
            have HE2 : Hid (En ps (j + 1)) := HEn.out.next hlt (HQ.out ▸ HPr.out) (fun hm => by
              obtain ⟨i, hi, he⟩ := List.mem_take_iff_getElem.1 hm
              exact HJ.out i (by omega) (by omega) (he.trans HQ.out.symm))
            go_wp2_with fail
            go_round
            case rel => exact ⟨j + 1, by omega, by go_num, HE2⟩
            case measure => simp [intOf]; omega
      · rw [isP_false hp] at IQ
        obtain ⟨h40, hx9, hy9⟩ := HE.out.none hlt HEn.out (HQ.out ▸ hp)
        subst h40 hx9 hy9
        clear hp HD HE
        go_wp2_with fail
        refine IQ.out.mono ?_
        rintro e w5 ⟨rfl, rfl⟩
        go_wp2_with fail
        refine bodyPost_ret (v := .tuple #[.bool false, .bool false, .int .i64 40]) (by simp [results, Tryd.f5]) rfl ?_
        exact ⟨rfl, K1.out⟩
    · obtain rfl : k = ps.length := by omega
      clear hlt hk
      obtain ⟨q0, q1, q2, q3⟩ := HB1.out.two
      go_wp2_with fail
      refine (AD.out _ K1.out).mono ?_
      rintro e w2 ⟨ts, At, ct, rfl, hts, hrt, hb⟩
      have k2 := bst K1.out hb (Nat.le_refl _)
      have hT : Hid (Hv w2 At ct ts t (K + 1)) := Hv.of hts hrt HT.out
      clear hb hts hrt q0 q1 q2 q3 AD
      go_wp2_with fail
      refine (OF.out _).mono ?_
      rintro e w3 ⟨os, Ao, co, rfl, hzo, hro, hb⟩
      have hT3 := Lib.hid (hT.out.next hb)
      have k3 := bst k2 hb (Nat.le_refl _)
      have hO : Hid (Hv w3 Ao co os (prodTo9 ps 0) (0 + 1)) := Hv.of hzo hro (by simp [prodTo9])
      clear hb hzo hro hT k2
      go_wp2_with fail
      refine (OF.out _).mono ?_
      rintro e w4 ⟨os2, Ao2, co2, rfl, hzo, hro, hb⟩
      have hT4 := hT3.out.next hb
      have k4 := bst k3 hb (Nat.le_refl _)
      have hO4 := hO.out.next hb
      have hO2 : Hv w4 Ao2 co2 os2 (prodTo9 ps (0 - 1)) (0 + 1) := Hv.of hzo hro (by simp [prodTo9])
      clear hb hzo hro hO k3 hT3 OF
      go_wp2_with fail
      go_loopw [12, 13, 15, 51] (fun av bv _ iv wr => ∃ (k : Nat) (zs ys : List Nat) (Az Ay : Option Addr) (cz cy : Nat), k ≤ ps.length ∧ av = .slice Az zs.length cz ∧ bv = .slice Ay ys.length cy ∧ iv = .int .i64 (k : Int) ∧ Hv wr Az cz zs (prodTo9 ps k) (k + 1) ∧ Hv wr Ay cy ys (prodTo9 ps (k - 1)) (k + 1) ∧ Hv wr At ct ts t (K + 1) ∧ Below w.heap.size w wr) (fun _ _ _ iv _ => ps.length - (intOf iv).toNat)
      case atStart => exact ⟨0, _, _, _, _, _, _, Nat.zero_le _, rfl, rfl, rfl, hO4, hO2, hT4, k4⟩
      case round =>
        obtain ⟨k, zs, ys, Az, Ay, cz, cy, hk, rfl, rfl, rfl, hz9, hy9, hT9, k9⟩ := hrel
        have HZ := Lib.hid hz9
        have HY := Lib.hid hy9
        have HTT := Lib.hid hT9
        have K9 := Lib.hid k9
        clear hz9 hy9 hT9 k9 hT4 hO4 hO2 k4
        by_cases hlt : k < ps.length
        · obtain ⟨b, off, rfl, hbw, hx0⟩ := HP.out.at32 hlt
          have hx := (K9.out.cell (p := ⟨b, off + k, none⟩) hbw).trans hx0
          obtain ⟨q, hq⟩ : ∃ q, q = ps[k] := ⟨_, rfl⟩
          have HQ := Lib.hid hq
          have hq32 : q < 4294967296 := by rw [hq]; exact HD.out _ (List.getElem_mem hlt)
          rw [← hq] at hx
          have ew : IntKind.u64.wrap (q : Int) = (q : Int) := by show IntKind.u64.wrap (q : Int) = _; have h0 : IntKind.u64.wrap (q : Int) = (q : Int) % 18446744073709551616 := rfl; omega
          have OQ : Hid (Calls Tryd.prog 17 #[.int .u64 (IntKind.u64.wrap (q : Int))] wr fun e w' => NOut wr w' q e) := by show Calls _ _ _ _ _; rw [ew]; exact rof_out q (by omega) wr
          have T2 : Hid (prodTo9 ps (k + 1) = prodTo9 ps k * q) := by show _ = _; rw [prodTo9, hq, List.getD_eq_getElem?_getD, List.getElem?_eq_getElem hlt]; rfl
          have T4 : Hid (prodTo9 ps k * q < 4294967296 ^ (k + 1 + 1)) := T2.out ▸ prodTo9_lt ps HD.out (k + 1) (by omega)
          have ML : Hid (∀ (us : List Nat) (A' : Option Addr) (c' B : Nat) (W : World), Below wr.heap.size wr W → Num 4294967296 us q → Res W B 43 A' c' (u32s us) → Calls Tryd.prog 18 #[.slice Az zs.length cz, .slice A' us.length c'] W fun e w' => NOut W w' (prodTo9 ps k * q) e) := fun us A' c' B W hW hu hr => (HZ.out.next hW).rmul (Hv.of (K := 1) hu hr (by simpa using hq32)) (by omega) (by omega)
          clear hx0 hq hq32 ew
          go_wp2_with fail
          refine OQ.out.mono ?_
          rintro e w5 ⟨us, Au, cu, rfl, hu, hru, h5⟩
          go_wp2_with fail
          refine (ML.out _ _ _ _ _ h5 hu hru).mono ?_
          rintro e w6 ⟨vs, Av, cv, rfl, hv, hrv, h6⟩
          have j6 := bst h5 h6 (Nat.le_refl _)
          have X1 : Hid (Hv w6 Av cv vs (prodTo9 ps (k + 1)) (k + 1 + 1)) := by show Hv _ _ _ _ _ _; rw [T2.out]; exact Hv.of hv hrv T4.out
          have X2 : Hid (Hv w6 Az cz zs (prodTo9 ps (k + 1 - 1)) (k + 1 + 1)) := by have h9 := HZ.out.next j6; exact ⟨h9.dig, h9.val_, h9.rd, h9.cap, Nat.le_succ_of_le h9.len⟩
          have X3 := Lib.hid (HTT.out.next j6)
          have X4 := Lib.hid (bst K9.out j6 (Nat.le_refl _))
          clear h5 hu hru hv hrv h6 j6 T2 T4
          go_wp2_with fail
          go_roundw
          case rel => exact ⟨k + 1, _, _, _, _, _, _, by omega, rfl, rfl, by go_num, X1.out, X2.out, X3.out, X4.out⟩
          case measure => simp [intOf]; omega
        · obtain rfl : k = ps.length := by omega
          obtain ⟨h0, hx9, hy9⟩ := HE.out.fine HEn.out
          obtain ⟨n, hn⟩ : ∃ n, n = prodTo9 ps ps.length := ⟨_, rfl⟩
          obtain ⟨m, hm⟩ : ∃ m, m = prodTo9 ps (ps.length - 1) := ⟨_, rfl⟩
          rw [← hn] at HZ hx9
          rw [← hm] at HY hy9
          subst h0
          have C1 : Hid (Calls Tryd.prog 19 #[.slice Az zs.length cz, .slice At ts.length ct] wr fun e w' => e = .returned (.int .i64 (cmpN n t)) ∧ wr = w') := HZ.out.rcmp HTT.out (by omega) (by omega)
          have C2 : Hid (Calls Tryd.prog 19 #[.slice Ay ys.length cy, .slice At ts.length ct] wr fun e w' => e = .returned (.int .i64 (cmpN m t)) ∧ wr = w') := HY.out.rcmp HTT.out (by omega) (by omega)
          have D1 : Hid (decide (0 < cmpN n t) = x) := by
            show _ = _
            rw [hx9]
            exact decide_eq_decide.2 ⟨fun h => Decidable.byContradiction fun h2 => cmpN_le h2 h, cmpN_gt⟩
          have D2 : Hid (decide (cmpN m t ≤ 0) = decide (m ≤ t)) := by
            show _ = _
            refine decide_eq_decide.2 ⟨fun h => Decidable.byContradiction fun h2 => ?_, fun h => ?_⟩
            · have := cmpN_gt (n := m) (k := t) (by omega)
              omega
            · have := cmpN_le (n := m) (k := t) (by omega)
              omega
          clear hx9 hn hm HE HD HEn HZ HY HTT hk hlt
          by_cases hnil : ps.length = 0
          · have e9 : y = true := by rw [hy9, hnil]; rfl
            subst e9
            obtain rfl : ps = [] := List.length_eq_zero_iff.1 hnil
            clear hy9 hnil D2
            go_wp2_with fail
            refine C1.out.mono ?_
            rintro e w5 ⟨rfl, rfl⟩
            go_wp2_with fail
            refine bodyPost_ret (v := .tuple #[.bool x, .bool true, .int .i64 0]) (by simp [results, Tryd.f5, ← D1.out]) rfl ?_
            exact ⟨rfl, K9.out⟩
          · have e9 : y = decide (m ≤ t) := by rw [hy9, decide_eq_false hnil, Bool.false_or]
            have t9 : ((ps.length : Int) == 0) = false := beq_eq_false_iff_ne.2 (by omega)
            subst e9
            clear hy9
            go_wp2_with fail
            refine C1.out.mono ?_
            rintro e w5 ⟨rfl, rfl⟩
            go_wp2_with fail
            refine C2.out.mono ?_
            rintro e w6 ⟨rfl, rfl⟩
            go_wp2_with fail
            refine bodyPost_ret (v := .tuple #[.bool x, .bool (decide (m ≤ t)), .int .i64 0]) (by simp [results, Tryd.f5, ← D1.out, ← D2.out]) rfl ?_
            exact ⟨rfl, K9.out⟩
end
end
end Go.Proofs.YtcjgilagldbjnaaDoor
