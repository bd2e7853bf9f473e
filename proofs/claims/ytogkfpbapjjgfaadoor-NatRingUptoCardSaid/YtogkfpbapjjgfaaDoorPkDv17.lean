/- The contract of the reference's Gcd. Conditions: limbs; at most 2^28 of them. Rows that Lend handed out, as slices. No conditions. The walk of the law NatDivides. Conditions: at most 2^20 limbs each; the table reads as it is laid. From a walk of a law to its row: a law returns true, its arguments read as they read, and nothing that was there has turned. -/
import Derived.Test.YtogkfpbapjjgfaaDoorPkDv15
import Derived.Test.YtogkfpbapjjgfaaDoorPkDv16
import Derived.Test.YtogkfpbapjjgfaaDoorPkDv13
import Derived.Deep.LoopGhost
import Derived.Test.YtogkfpbapjjgfaaDoorPkDv5
import Derived.Test.YtogkfpbapjjgfaaDoorPkDv4
import Derived.Test.YtogkfpbapjjgfaaDoorPkDv0
import Derived.Test.YtogkfpbapjjgfaaDoorRows
import Derived.ProofKit
import Derived.SizedLaws
namespace Go.Proofs.YtogkfpbapjjgfaaDoor
section
open Go.RowKit

/-- A number of the reference's. -/
def Lv (w : World) (A : Option Addr) (ps : List Nat) (p LL : Nat) : Prop := Num 4294967296 ps p ∧ Rd w w.heap.size A (u32s ps) ∧ p < 4294967296 ^ LL
section
variable {w w' : World} {A : Option Addr} {ps : List Nat} {p LL : Nat}
theorem Lv.next (h : Lv w A ps p LL) (hb : Below w.heap.size w w') : Lv w' A ps p LL := ⟨h.1, (h.2.1.below hb).mono hb.size, h.2.2⟩
theorem Lv.len (h : Lv w A ps p LL) : ps.length ≤ LL := by
  have := trimL_len_le (b := 4294967296) (by omega) h.1.1 (by rw [h.1.2.2]; exact h.2.2)
  rwa [h.1.2.1] at this
theorem Lv.pos (h : Lv w A ps p LL) (h0 : 0 < p) : 0 < ps.length := by
  refine List.length_pos_iff.2 (fun e => ?_)
  have := (h.1.nil_iff (by omega)).1 e
  omega
theorem Lv.zero (h : Lv w A ps p LL) (h0 : p = 0) : ps = [] := (h.1.nil_iff (by omega)).2 h0
theorem Lv.zero2 (h : Lv w A ps p LL) (h0 : ps.length = 0) : p = 0 := (h.1.nil_iff (by omega)).1 (List.eq_nil_of_length_eq_zero h0)
theorem Lv.cell (h : Lv w A ps p LL) (h0 : 0 < p) : ∃ b off x, A = some ⟨b, off, none⟩ ∧ w.cell? ⟨b, off, none⟩ = some (.int .u32 (x : Nat)) ∧ x % 2 = p % 2 ∧ x < 4294967296 := by
  have hl := h.pos h0
  obtain ⟨b, off, rfl, hb, hc⟩ := h.2.1 (by intro e; have := congrArg List.length e; rw [u32s_length] at this; simp at this; rw [this] at hl; simp at hl)
  have h1 := hc 0 _ (u32s_at hl)
  refine ⟨b, off, ps[0], rfl, h1, ?_, h.1.1.at_ 0 hl⟩
  have hv := h.1.2.2
  obtain ⟨y, ys, rfl⟩ : ∃ y ys, ps = y :: ys := by
    cases ps with
    | nil => simp at hl
    | cons y ys => exact ⟨y, ys, rfl⟩
  rw [← hv]
  simp only [val, List.getElem_cons_zero]
  omega
theorem Lv.half {zs : List Nat} {A' : Option Addr} {c' B : Nat} (h : Lv w A ps p LL) (hn : Num 4294967296 zs (p / 2)) (hr : Res w' B 31 A' c' (u32s zs)) : Lv w' A' zs (p / 2) LL :=
  ⟨hn, hr.rd, Nat.lt_of_le_of_lt (Nat.div_le_self _ _) h.2.2⟩
end
theorem gcd_half2 {p q : Nat} (hp : p % 2 = 0) (hq : q % 2 = 0) (t : Nat) : Nat.gcd (p / 2) (q / 2) * 2 ^ (t + 1) = Nat.gcd p q * 2 ^ t := by
  obtain ⟨a, rfl⟩ : ∃ a, p = 2 * a := ⟨p / 2, by omega⟩
  obtain ⟨b, rfl⟩ : ∃ b, q = 2 * b := ⟨q / 2, by omega⟩
  rw [Nat.mul_div_cancel_left _ (by omega), Nat.mul_div_cancel_left _ (by omega), Nat.gcd_mul_left, Nat.pow_succ, Nat.mul_comm (2 ^ t) 2, ← Nat.mul_assoc, Nat.mul_comm _ 2]
theorem gcd_half1 {p q : Nat} (hp : p % 2 = 0) (hq : q % 2 = 1) : Nat.gcd (p / 2) q = Nat.gcd p q := by
  obtain ⟨a, rfl⟩ : ∃ a, p = 2 * a := ⟨p / 2, by omega⟩
  have := odd_gcd hq 1 a
  rw [Nat.pow_one] at this
  rw [Nat.mul_div_cancel_left _ (by omega), Nat.gcd_comm, ← this, Nat.gcd_comm]
theorem twos_lt {p t M LL : Nat} (h : p * 2 ^ t ≤ M) (hp : 0 < p) (hM : M < 4294967296 ^ LL) : t < 32 * LL := by
  have h1 : 1 * 2 ^ t ≤ p * 2 ^ t := Nat.mul_le_mul_right _ hp
  have h2 : (4294967296 : Nat) ^ LL = 2 ^ (32 * LL) := by rw [Nat.pow_mul]
  rw [h2] at hM
  have h3 : 2 ^ t < 2 ^ (32 * LL) := by omega
  exact (Nat.pow_lt_pow_iff_right (by omega)).1 h3

set_option maxRecDepth 100000 in
set_option maxHeartbeats 6400000 in
theorem rgcd_any (A A2 : Option Addr) (c c2 : Nat) (xs ys : List Nat) (w : World) (B : Nat) (hr : Rd w B A (u32s xs)) (hr2 : Rd w B A2 (u32s ys)) (hB : B ≤ w.heap.size) (hd : Dig 4294967296 xs) (hd2 : Dig 4294967296 ys) (hm : xs.length ≤ 268435456) (hm2 : ys.length ≤ 268435456) :
    Calls Tryd.prog 25 #[.slice A xs.length c, .slice A2 ys.length c2] w fun e w' => ∃ zs A' c', e = .returned (.slice A' zs.length c') ∧ Num 4294967296 zs (Nat.gcd (val 4294967296 xs) (val 4294967296 ys)) ∧ Res w' w.heap.size 31 A' c' (u32s zs) ∧ Below w.heap.size w w' := by
  have N1 := Lib.hid (rnorm_any A c xs w B hr hB (by omega))
  have N2 : Hid (∀ W, Below w.heap.size w W → Calls Tryd.prog 9 #[.slice A2 ys.length c2] W fun e w' => ∃ A' c', e = .returned (.slice A' (trimL ys).length c') ∧ Res w' W.heap.size 31 A' c' (u32s (trimL ys)) ∧ Below W.heap.size W w') := fun W hW => rnorm_any A2 c2 ys W B (hr2.below (hW.mono hB)) (Nat.le_trans hB hW.size) (by omega)
  obtain ⟨m, hmv⟩ : ∃ m, m = val 4294967296 xs := ⟨_, rfl⟩
  obtain ⟨n, hnv⟩ : ∃ n, n = val 4294967296 ys := ⟨_, rfl⟩
  have hn1 : Num 4294967296 (trimL xs) m := by rw [hmv]; exact Num.of_trim hd
  have hn2 : Num 4294967296 (trimL ys) n := by rw [hnv]; exact Num.of_trim hd2
  have hl1 := trimL_length_le xs
  have hl2 := trimL_length_le ys
  rw [← hmv, ← hnv]
  obtain ⟨ps, hps⟩ : ∃ ps, ps = trimL xs := ⟨_, rfl⟩
  obtain ⟨qs, hqs⟩ : ∃ qs, qs = trimL ys := ⟨_, rfl⟩
  rw [← hps] at hn1 N1 hl1
  rw [← hqs] at hn2 N2 hl2
  obtain ⟨LL, hLL⟩ : ∃ LL, LL = 268435456 := ⟨_, rfl⟩
  have hmL : m < 4294967296 ^ LL := Nat.lt_of_lt_of_le hn1.lt (Nat.pow_le_pow_right (by omega) (by omega))
  have hnL : n < 4294967296 ^ LL := Nat.lt_of_lt_of_le hn2.lt (Nat.pow_le_pow_right (by omega) (by omega))
  have hLb : LL ≤ 268435456 := by omega
  clear hps hqs hmv hnv hLL hr hr2
  go_enter Tryd.func25, Tryd.ntmps25
  go_upto_region 2 with (first
    | (go_at_call 9; (with_reducible refine N1.out.mono ?_); rintro e w1 ⟨A1, c1, rfl, hres1, hb1⟩)
    | (go_at_call 9; (with_reducible refine (N2.out _ hb1).mono ?_); rintro e w2 ⟨A3, c3, rfl, hres2, hb2⟩))
  have hbt : Below w.heap.size w w2 := hb1.trans (hb2.mono hb1.size)
  have hres1' : Res w2 w.heap.size 31 A1 c1 (u32s ps) := hres1.below hb2 (Nat.le_refl _)
  by_cases h0 : ps.length = 0
  · have hp0 : ps = [] := List.eq_nil_of_length_eq_zero h0
    have hm0 : m = 0 := (hn1.nil_iff (by omega)).1 hp0
    have hgn : Hid (Nat.gcd m n = n) := by show _ = _; rw [hm0, Nat.gcd_zero_left]
    have t1 : ((ps.length : Int) == 0) = true := by simp; exact hp0
    clear hp0 hm0
    go_wp2_with (simp only [t1])
    go_ret
    exact ⟨qs, A3, c3, rfl, by rw [hgn.out]; exact hn2, hres2.mono hb1.size, hbt⟩
  have t1 : ((ps.length : Int) == 0) = false := by simp; intro e; rw [e] at h0; exact h0 rfl
  by_cases h9 : qs.length = 0
  · have hp0 : qs = [] := List.eq_nil_of_length_eq_zero h9
    have hm0 : n = 0 := (hn2.nil_iff (by omega)).1 hp0
    have hgn : Hid (Nat.gcd m n = m) := by show _ = _; rw [hm0, Nat.gcd_zero_right]
    have t2 : ((qs.length : Int) == 0) = true := by simp; exact hp0
    clear hp0 hm0
    go_wp2_with (first | simp only [t1] | simp only [t2])
    go_ret
    exact ⟨ps, A1, c1, rfl, by rw [hgn.out]; exact hn1, hres1', hbt⟩
  have t2 : ((qs.length : Int) == 0) = false := by simp; intro e; rw [e] at h9; exact h9 rfl
  have hmp : 0 < m := by
    rcases Nat.eq_zero_or_pos m with h | h
    · exact absurd (by rw [(hn1.nil_iff (by omega)).2 h]; rfl) h0
    · exact h
  have hnp : 0 < n := by
    rcases Nat.eq_zero_or_pos n with h | h
    · exact absurd (by rw [(hn2.nil_iff (by omega)).2 h]; rfl) h9
    · exact h
  have hv1 : Lv w2 A1 ps m LL := ⟨hn1, hres1'.rd, hmL⟩
  have hv2 : Lv w2 A3 qs n LL := ⟨hn2, hres2.rd, hnL⟩
  go_wp2_with (first | simp only [t1] | simp only [t2])
  clear t1 t2 h0 h9 hres1 hres1' hres2 N1 N2
  go_loopg [0, 1, 5] m (fun K av bv tv wr => ∃ (ps qs : List Nat) (A A2 : Option Addr) (c c2 p q t : Nat), av = .slice A ps.length c ∧ bv = .slice A2 qs.length c2 ∧ tv = .int .i64 (t : Int) ∧ Lv wr A ps p LL ∧ Lv wr A2 qs q LL ∧ 0 < p ∧ 0 < q ∧ p ≤ K ∧ Hid (Nat.gcd p q * 2 ^ t = Nat.gcd m n) ∧ Hid (p * 2 ^ t ≤ m) ∧ Below w.heap.size w wr)
  case atStart => exact ⟨ps, qs, A1, A3, c1, c3, m, n, 0, rfl, rfl, rfl, hv1, hv2, hmp, hnp, Nat.le_refl _, by show _ = _; rw [Nat.pow_zero, Nat.mul_one], by show _ ≤ _; rw [Nat.pow_zero, Nat.mul_one]; exact Nat.le_refl _, hbt⟩
  case round =>
    clear hv1 hv2
    obtain ⟨ps, qs, A, A2, c, c2, p, q, t, rfl, rfl, rfl, hv1, hv2, hp, hq, hK, HG, HM, hbel⟩ := hrel
    obtain ⟨b1, o1, x, rfl, cx, hx2, hxb⟩ := hv1.cell hp
    obtain ⟨b2, o2, y, rfl, cy, hy2, hyb⟩ := hv2.cell hq
    have htl := twos_lt HM.out hp hmL
    have i1 := hv1.pos hp
    have i2 := hv2.pos hq
    by_cases hev : x % 2 = 0 ∧ y % 2 = 0
    · obtain ⟨e1, e2⟩ := hev
      have t1 : ((x : Int) % 2 == 0) = true := by simp; omega
      have t2 : ((y : Int) % 2 == 0) = true := by simp; omega
      have H1 := Lib.hid (rhalf_any (some ⟨b1, o1, none⟩) c ps wr wr.heap.size hv1.2.1 (Nat.le_refl _) hv1.1.1 (by have := hv1.len; omega))
      have H2 : Hid (∀ W, Below wr.heap.size wr W → Calls Tryd.prog 48 #[.slice (some ⟨b2, o2, none⟩) qs.length c2] W fun e w' => ∃ zs A' c', e = .returned (.slice A' zs.length c') ∧ Num 4294967296 zs (q / 2) ∧ Res w' W.heap.size 31 A' c' (u32s zs) ∧ Below W.heap.size W w') := fun W hW => by
        have h3 := hv2.next hW
        have := rhalf_any (some ⟨b2, o2, none⟩) c2 qs W W.heap.size h3.2.1 (Nat.le_refl _) h3.1.1 (by have := h3.len; omega)
        rwa [hv2.1.2.2] at this
      rw [hv1.1.2.2] at H1
      go_wp2_with (first
        | simp only []
        | simp only [t2]
        | (go_at_call_of 48 (Value.slice (some ⟨b1, o1, none⟩) ps.length c); (with_reducible refine H1.out.mono ?_); rintro e w3 ⟨zs, A4, c4, rfl, hz, hres4, hb3⟩)
        | (go_at_call 48; (with_reducible refine (H2.out _ hb3).mono ?_); rintro e w4 ⟨zs2, A5, c5, rfl, hz2, hres5, hb4⟩))
      go_roundg (p / 2)
      case measure => omega
      case rel => exact ⟨zs, zs2, A4, A5, c4, c5, p / 2, q / 2, t + 1, rfl, rfl, by go_num, (hv1.half hz hres4).next hb4, hv2.half hz2 hres5, by omega, by omega, Nat.le_refl _, by show _ = _; rw [gcd_half2 (by omega) (by omega)]; exact HG.out, by
          show _ ≤ _
          refine Nat.le_trans ?_ HM.out
          rw [Nat.pow_succ, Nat.mul_comm (2 ^ t), ← Nat.mul_assoc]
          exact Nat.mul_le_mul_right _ (Nat.div_mul_le_self _ _), hbel.trans ((hb3.trans (hb4.mono hb3.size)).mono hbel.size)⟩
    · have hodd : p % 2 = 1 ∨ q % 2 = 1 := by omega
      obtain ⟨g, hg⟩ : ∃ g, g = Nat.gcd p q := ⟨_, rfl⟩
      have HGG : Hid (g * 2 ^ t = Nat.gcd m n) := by show _ = _; rw [hg]; exact HG.out
      have Hg := Lib.hid hg
      clear hg
      by_cases e1 : x % 2 = 0
      case' pos =>
        have t1 : ((x : Int) % 2 == 0) = true := by simp; omega
        have t2 : ((y : Int) % 2 == 0) = false := by simp; omega
      case' neg =>
        have t1 : ((x : Int) % 2 == 0) = false := by simp; omega
        have t2 : True := trivial
      all_goals
        clear hev
        go_wp2_with (first | simp only [t1] | simp only [t2])
        clear t1 t2 e1 cx cy hx2 hy2 hxb hyb i1 i2
        go_loopg [0, 1, 6] (p + q) (fun K av bv _ wr => ∃ (ps qs : List Nat) (A A2 : Option Addr) (c c2 p q : Nat), av = .slice A ps.length c ∧ bv = .slice A2 qs.length c2 ∧ Lv wr A ps p LL ∧ Lv wr A2 qs q LL ∧ (p % 2 = 1 ∨ q % 2 = 1) ∧ p + q ≤ K ∧ Hid (Nat.gcd p q = g) ∧ Below w.heap.size w wr)
        case atStart => exact ⟨ps, qs, _, _, c, c2, p, q, rfl, rfl, hv1, hv2, hodd, Nat.le_refl _, Hg.out.symm, hbel⟩
        case round =>
          clear hv1 hv2 hbel hK hodd
          obtain ⟨ps, qs, A, A2, c, c2, p, q, rfl, rfl, hv1, hv2, hodd, hK, HG2, hbel⟩ := hrel
          obtain ⟨d, hd9⟩ : ∃ d, d = t / 32 := ⟨_, rfl⟩
          obtain ⟨s, hs9⟩ : ∃ s, s = t % 32 := ⟨_, rfl⟩
          have hts : t = 32 * d + s := by omega
          have hsl : s < 32 := by omega
          have hdl : d < LL := by omega
          by_cases h1 : p = 0
          · obtain rfl := hv1.zero h1
            have L1 := Lib.hid (rleft_any A2 c2 qs t d s wr wr.heap.size hv2.2.1 (Nat.le_refl _) hv2.1.1 hts hsl (by have := hv2.len; have := trimL_length_le qs; omega) (by have := hv2.len; omega))
            have hval : Hid (val 4294967296 qs * 2 ^ t = Nat.gcd m n) := by
              show _ = _
              rw [hv2.1.2.2, ← HGG.out, ← HG2.out, h1, Nat.gcd_zero_left]
            rw [hval.out] at L1
            rw [List.length_nil]
            clear hts hd9 hs9
            go_wp2_with (go_at_call 51; (with_reducible refine L1.out.mono ?_); rintro e w5 ⟨zs, A5, c5, rfl, hz, hres5, hb5⟩)
            go_ret
            exact ⟨zs, A5, c5, rfl, hz, hres5.mono hbel.size, hbel.trans (hb5.mono hbel.size)⟩
          by_cases h2 : q = 0
          · obtain rfl := hv2.zero h2
            have i1 := hv1.pos (by omega)
            have L1 := Lib.hid (rleft_any A c ps t d s wr wr.heap.size hv1.2.1 (Nat.le_refl _) hv1.1.1 hts hsl (by have := hv1.len; have := trimL_length_le ps; omega) (by have := hv1.len; omega))
            have hval : Hid (val 4294967296 ps * 2 ^ t = Nat.gcd m n) := by
              show _ = _
              rw [hv1.1.2.2, ← HGG.out, ← HG2.out, h2, Nat.gcd_zero_right]
            rw [hval.out] at L1
            have t1 : decide (0 < ps.length) = true := decide_eq_true i1
            have t2 : ((ps.length : Int) == 0) = false := by simp; intro e; rw [e] at i1; simp at i1
            rw [List.length_nil]
            clear hts hd9 hs9
            go_wp2_with (first
              | simp only []
              | simp only [t2]
              | (go_at_call 51; (with_reducible refine L1.out.mono ?_); rintro e w5 ⟨zs, A5, c5, rfl, hz, hres5, hb5⟩))
            go_ret
            exact ⟨zs, A5, c5, rfl, hz, hres5.mono hbel.size, hbel.trans (hb5.mono hbel.size)⟩
          have hp1 : 0 < p := by omega
          have hq1 : 0 < q := by omega
          have i1 := hv1.pos hp1
          have i2 := hv2.pos hq1
          have t1 : decide (0 < ps.length) = true := decide_eq_true i1
          have t2 : decide (0 < qs.length) = true := decide_eq_true i2
          clear hts hd9 hs9 hsl hdl h1 h2
          go_wp2_with (first | simp only [t1] | simp only [t2])
          clear t1 t2 i1 i2
          go_loopg [0] p (fun K av wr => ∃ (ps : List Nat) (A : Option Addr) (c p3 : Nat), av = .slice A ps.length c ∧ Lv wr A ps p3 LL ∧ Lv wr A2 qs q LL ∧ 0 < p3 ∧ p3 ≤ K ∧ p3 ≤ p ∧ (p3 % 2 = 1 ∨ q % 2 = 1) ∧ Hid (Nat.gcd p3 q = g) ∧ Below w.heap.size w wr)
          case atStart => exact ⟨ps, A, c, p, rfl, hv1, hv2, hp1, Nat.le_refl _, Nat.le_refl _, hodd, HG2, hbel⟩
          case round =>
            clear hv1 hv2 hbel hodd HG2
            obtain ⟨ps, A, c, p3, rfl, hv1, hv2, hp3, hK3, hp3p, hodd, HG2, hbel⟩ := hrel
            obtain ⟨b1, o1, x, rfl, cx, hx2, hxb⟩ := hv1.cell hp3
            have i1 := hv1.pos hp3
            by_cases e1 : x % 2 = 0
            · have t1 : ((x : Int) % 2 == 0) = true := by simp; omega
              have H1 := Lib.hid (rhalf_any (some ⟨b1, o1, none⟩) c ps wr wr.heap.size hv1.2.1 (Nat.le_refl _) hv1.1.1 (by have := hv1.len; omega))
              rw [hv1.1.2.2] at H1
              go_wp2_with (first
                | simp only []
                | (go_at_call 48; (with_reducible refine H1.out.mono ?_); rintro e w3 ⟨zs, A4, c4, rfl, hz, hres4, hb3⟩))
              go_roundg (p3 / 2)
              case measure => omega
              case rel => exact ⟨zs, A4, c4, p3 / 2, rfl, hv1.half hz hres4, hv2.next hb3, by omega, Nat.le_refl _, by omega, Or.inr (by omega), by show _ = _; rw [gcd_half1 (by omega) (by omega)]; exact HG2.out, hbel.trans (hb3.mono hbel.size)⟩
            · have t1 : ((x : Int) % 2 == 0) = false := by simp; omega
              have hp3o : p3 % 2 = 1 := by omega
              go_wp2_with (first | simp only [t1])
              clear t1 cx hx2 hxb i1 e1
              go_loopg [1] q (fun K bv wr => ∃ (qs : List Nat) (A2 : Option Addr) (c2 q4 : Nat), bv = .slice A2 qs.length c2 ∧ Lv wr (some ⟨b1, o1, none⟩) ps p3 LL ∧ Lv wr A2 qs q4 LL ∧ 0 < q4 ∧ q4 ≤ K ∧ q4 ≤ q ∧ Hid (Nat.gcd p3 q4 = g) ∧ Below w.heap.size w wr)
              case atStart => exact ⟨qs, A2, c2, q, rfl, hv1, hv2, hq1, Nat.le_refl _, Nat.le_refl _, HG2, hbel⟩
              case round =>
                clear hv1 hv2 hbel hodd HG2
                obtain ⟨qs, A2, c2, q4, rfl, hv1, hv2, hq4, hK4, hq4q, HG2, hbel⟩ := hrel
                obtain ⟨b2, o2, y, rfl, cy, hy2, hyb⟩ := hv2.cell hq4
                have i2 := hv2.pos hq4
                by_cases e1 : y % 2 = 0
                · have t1 : ((y : Int) % 2 == 0) = true := by simp; omega
                  have H1 := Lib.hid (rhalf_any (some ⟨b2, o2, none⟩) c2 qs wr wr.heap.size hv2.2.1 (Nat.le_refl _) hv2.1.1 (by have := hv2.len; omega))
                  rw [hv2.1.2.2] at H1
                  go_wp2_with (first
                    | simp only []
                    | (go_at_call 48; (with_reducible refine H1.out.mono ?_); rintro e w3 ⟨zs, A4, c4, rfl, hz, hres4, hb3⟩))
                  go_roundg (q4 / 2)
                  case measure => omega
                  case rel => exact ⟨zs, A4, c4, q4 / 2, rfl, hv1.next hb3, hv2.half hz hres4, by omega, Nat.le_refl _, by omega, by show _ = _; rw [Nat.gcd_comm, gcd_half1 (by omega) hp3o, Nat.gcd_comm]; exact HG2.out, hbel.trans (hb3.mono hbel.size)⟩
                · have t1 : ((y : Int) % 2 == 0) = false := by simp; omega
                  have hq4o : q4 % 2 = 1 := by omega
                  have HC := Lib.hid (rcmp_any (some ⟨b1, o1, none⟩) (some ⟨b2, o2, none⟩) c c2 ps qs wr wr.heap.size hv1.2.1 hv2.2.1 hv1.1.1 hv2.1.1 (by have := hv1.len; omega) (by have := hv2.len; omega))
                  rw [hv1.1.2.2, hv2.1.2.2] at HC
                  by_cases hge : q4 ≤ p3
                  · have t2 : decide (0 ≤ cmpN p3 q4) = true := by unfold cmpN; rw [if_neg (by omega)]; split <;> rfl
                    have HS := Lib.hid (rsub_any (some ⟨b1, o1, none⟩) (some ⟨b2, o2, none⟩) c c2 ps qs wr wr.heap.size hv1.2.1 hv2.2.1 (Nat.le_refl _) hv1.1.1 hv2.1.1 (by have := hv1.len; omega) (by have := hv2.len; omega) (by rw [hv1.1.2.2, hv2.1.2.2]; exact hge))
                    rw [hv1.1.2.2, hv2.1.2.2] at HS
                    go_wp2_with (first
                      | simp only []
                      | simp only [t2]
                      | (go_at_call 49; (with_reducible refine HC.out.mono ?_); rintro e w3 ⟨rfl, rfl⟩)
                      | (go_at_call 50; (with_reducible refine HS.out.mono ?_); rintro e w4 ⟨zs, A4, c4, rfl, hz, hres4, hb4⟩))
                    go_roundg (p3 - q4 + q4)
                    case measure => omega
                    case rel => exact ⟨zs, qs, A4, _, c4, c2, p3 - q4, q4, rfl, rfl, ⟨hz, hres4.rd, Nat.lt_of_le_of_lt (Nat.sub_le _ _) hv1.2.2⟩, hv2.next hb4, Or.inr hq4o, Nat.le_refl _, by show _ = _; rw [Nat.gcd_comm, Nat.gcd_sub_self_right hge, Nat.gcd_comm]; exact HG2.out, hbel.trans (hb4.mono hbel.size)⟩
                  · have t2 : decide (0 ≤ cmpN p3 q4) = false := by unfold cmpN; rw [if_pos (by omega)]; rfl
                    have HS := Lib.hid (rsub_any (some ⟨b2, o2, none⟩) (some ⟨b1, o1, none⟩) c2 c qs ps wr wr.heap.size hv2.2.1 hv1.2.1 (Nat.le_refl _) hv2.1.1 hv1.1.1 (by have := hv2.len; omega) (by have := hv1.len; omega) (by rw [hv1.1.2.2, hv2.1.2.2]; omega))
                    rw [hv1.1.2.2, hv2.1.2.2] at HS
                    go_wp2_with (first
                      | simp only []
                      | simp only [t2]
                      | (go_at_call 49; (with_reducible refine HC.out.mono ?_); rintro e w3 ⟨rfl, rfl⟩)
                      | (go_at_call 50; (with_reducible refine HS.out.mono ?_); rintro e w4 ⟨zs, A4, c4, rfl, hz, hres4, hb4⟩))
                    go_roundg (p3 + (q4 - p3))
                    case measure => omega
                    case rel => exact ⟨ps, zs, _, A4, c, c4, p3, q4 - p3, rfl, rfl, hv1.next hb4, ⟨hz, hres4.rd, Nat.lt_of_le_of_lt (Nat.sub_le _ _) hv2.2.2⟩, Or.inl hp3o, Nat.le_refl _, by show _ = _; rw [Nat.gcd_sub_self_right (by omega)]; exact HG2.out, hbel.trans (hb4.mono hbel.size)⟩
end
section
open Go.RowKit

/-- A slice that Lend handed out reads as the limbs. -/
theorem lent_rd {w : World} {g B : Nat} {t : TypeId} {xs : List Nat} (h : Blk w g t (u32s (lentL xs))) (hg : g < B) : Rd w B (some ⟨g, 1, none⟩) (u32s xs) :=
  Rd.of_blk h hg 1 (fun k v hv => by
    rw [Nat.add_comm]
    have hk : k < xs.length := by
      have := (List.getElem?_eq_some_iff.1 hv).1
      rwa [u32s_length] at this
    rw [u32s_at hk] at hv
    rw [u32s_at (by rw [lentL_length]; omega), ← hv]
    simp [lentL, List.getElem_append_left hk])
theorem lent_rd0 {w : World} {g B : Nat} {t : TypeId} {xs : List Nat} (h : Blk w g t (u32s (lentL xs))) (hg : g < B) : Rd w B (some ⟨g, 0, none⟩) (u32s (lentL xs)) :=
  Rd.of_blk h hg 0 (fun k v hv => by rw [Nat.zero_add]; exact hv)
end
section
open Go.RowKit

/-- What is kept while the law goes on: the two rows that were lent. -/
structure Lent2 (w : World) (g1 : Nat) (xs : List Nat) (g2 : Nat) (ys : List Nat) (W : World) : Prop where
  bel : Below w.heap.size w W
  l1 : Blk W g1 31 (u32s (lentL xs))
  l2 : Blk W g2 31 (u32s (lentL ys))
theorem Lent2.next {w W W' : World} {g1 g2 : Nat} {xs ys : List Nat} (h : Lent2 w g1 xs g2 ys W) (hb : Below W.heap.size W W') : Lent2 w g1 xs g2 ys W' :=
  ⟨h.bel.trans (hb.mono h.bel.size), h.l1.below hb h.l1.lt, h.l2.below hb h.l2.lt⟩
theorem Tab64.lt {W : World} (h : Tab64 W) : 1 < W.heap.size := by
  have h0 := h 0 (by decide)
  rcases Nat.lt_or_ge 1 W.heap.size with h1 | h1
  · exact h1
  · exfalso
    simp only [World.cell?] at h0
    rw [Array.getElem?_eq_none h1] at h0
    simp at h0
theorem res_cap {w : World} {B : Nat} {t : TypeId} {A : Option Addr} {c : Nat} {xs : List Nat} (h : Res w B t A c (u32s xs)) : xs.length ≤ 281474976710656 := by
  have h1 := h.1
  have h2 := h.2.1
  rw [u32s_length] at h1
  omega

set_option maxHeartbeats 6400000 in
set_option maxRecDepth 100000 in
theorem divides_walk (A A2 : Option Addr) (c c2 : Nat) (xs ys : List Nat) (w : World) (hr : Rd w w.heap.size A (u32s xs)) (hr2 : Rd w w.heap.size A2 (u32s ys)) (hd : Dig 4294967296 xs) (hd2 : Dig 4294967296 ys) (_ : xs.length ≤ c) (_ : ys.length ≤ c2) (hm : xs.length ≤ 1048576) (hm2 : ys.length ≤ 1048576) (hT : Tab64 w) :
    Calls Tryd.prog 4 #[.slice A xs.length c, .slice A2 ys.length c2] w fun e w' => e = .returned (.bool true) ∧ Below w.heap.size w w' := by
  have hTl := hT.lt
  have hlt2 := trimL_length_le ys
  go_enter Tryd.func4, Tryd.ntmps4
  go_wp2_with fail
  refine (lend_any A c xs _ _ hr (Nat.le_refl _) (by omega)).mono ?_
  rintro e w1 ⟨rfl, hb1, hbel1⟩
  go_wp2_with fail
  refine (lend_any A2 c2 ys w1 w.heap.size (hr2.below hbel1) hbel1.size (by omega)).mono ?_
  rintro e w2 ⟨rfl, hb2, hbel2⟩
  have hl : Lent2 w w.heap.size xs w1.heap.size ys w2 := ⟨hbel1.trans (hbel2.mono hbel1.size), hb1.below hbel2 hb1.lt, hb2⟩
  clear hb1 hb2
  obtain ⟨m, hmv⟩ : ∃ m, m = val 4294967296 xs := ⟨_, rfl⟩
  obtain ⟨n, hnv⟩ : ∃ n, n = val 4294967296 ys := ⟨_, rfl⟩
  have Hmv := Lib.hid hmv
  have Hnv := Lib.hid hnv
  clear hmv hnv
  have HD := Lib.hid (div_any quotient_all _ _ (xs.length + 1) (ys.length + 1) xs ys w2 w2.heap.size (lent_rd hl.l1 hl.l1.lt) (lent_rd hl.l2 hl.l2.lt) (Nat.le_refl _) hd hd2 (by omega) (by omega) (by omega) (by omega) (by show _ ≤ _; omega))
  rw [← Hmv.out, ← Hnv.out] at HD
  go_wp2_with fail
  refine HD.out.mono ?_
  rintro e w3 ⟨qs, rs, A3, c3, A4, c4, rfl, hqn, hrn, hrq, hrr, hb3⟩
  have hl3 := hl.next hb3
  have Hqn := Lib.hid hqn
  have Hrn := Lib.hid hrn
  obtain ⟨en, hen⟩ : ∃ en : Int, en = (if n = 0 then 5 else 0) := ⟨_, rfl⟩
  rw [← hen]
  have Hen := Lib.hid hen
  clear hen hqn hrn HD hl hb3 hbel1 hbel2
  have hG := gcd_any _ _ (xs.length + 1) (ys.length + 1) xs ys w3 w3.heap.size (lent_rd hl3.l1 hl3.l1.lt) (lent_rd hl3.l2 hl3.l2.lt) (Nat.le_refl _) hd hd2 (by omega) (by omega) (by omega) (by omega) (hT.below hl3.bel hTl) (Nat.lt_of_lt_of_le hTl hl3.bel.size)
  rw [← Hmv.out, ← Hnv.out] at hG
  have HG := Lib.hid hG
  clear hG
  go_wp2_with fail
  refine HG.out.mono ?_
  rintro e w4 ⟨gs, A5, c5, rfl, hgn, hrg, hb4⟩
  have hl4 := hl3.next hb4
  have hrq4 := hrq.below hb4 (Nat.le_refl _)
  have hrr4 := hrr.below hb4 (Nat.le_refl _)
  have hrA := (hr.below hl4.bel).mono hl4.bel.size
  have hrB := (hr2.below hl4.bel).mono hl4.bel.size
  clear HG hl3 hb4 hrq hrr
  go_wp2_with fail
  refine (rgcd_any A A2 c c2 xs ys w4 w4.heap.size hrA hrB (Nat.le_refl _) hd hd2 (by omega) (by omega)).mono ?_
  rintro e w5 ⟨g2, A6, c6, rfl, hg2, hr6, hb5⟩
  rw [← Hmv.out, ← Hnv.out] at hg2
  obtain rfl : gs = g2 := Num.unique (by omega) hgn hg2
  have hl5 := hl4.next hb5
  have hrq5 := hrq4.below hb5 (Nat.le_refl _)
  have hrr5 := hrr4.below hb5 (Nat.le_refl _)
  have hrg5 := hrg.below hb5 (Nat.le_refl _)
  have hgl := res_cap hrg5
  clear hl4 hrq4 hrr4 hrg hb5 hrA hrB hgn hg2
  go_wp2_with fail
  refine (same_yes A5 A6 c5 c6 _ w5 w5.heap.size hrg5.rd hr6.rd hgl).mono ?_
  rintro e w6 ⟨rfl, hdr6⟩
  have hb6 := hdr6.below w5.heap.size
  have hl6 := hl5.next hb6
  have hrq6 := hrq5.below hb6 (Nat.le_refl _)
  have hrr6 := hrr5.below hb6 (Nat.le_refl _)
  clear hl5 hrq5 hrr5 hrg5 hr6 hb6 hdr6
  go_wp2_with fail
  refine (kept_yes _ A (xs.length + 2) c xs w6 w6.heap.size (lent_rd0 hl6.l1 hl6.l1.lt) ((hr.below hl6.bel).mono hl6.bel.size) (by omega)).mono ?_
  rintro e wf ⟨rfl, rfl⟩
  go_wp2_with fail
  refine (kept_yes _ A2 (ys.length + 2) c2 ys w6 w6.heap.size (lent_rd0 hl6.l2 hl6.l2.lt) ((hr2.below hl6.bel).mono hl6.bel.size) (by omega)).mono ?_
  rintro e wf ⟨rfl, rfl⟩
  go_wp2_with fail
  have hrB := (hr2.below hl6.bel).mono hl6.bel.size
  have hrA := (hr.below hl6.bel).mono hl6.bel.size
  refine (zero_any A2 c2 ys w6 w6.heap.size hrB (by omega)).mono ?_
  rintro e wf ⟨rfl, rfl⟩
  have hnn : Num 4294967296 (trimL ys) n := by rw [Hnv.out]; exact Num.of_trim hd2
  by_cases hn0 : n = 0
  · have t1 : decide (trimL ys = []) = true := decide_eq_true ((hnn.nil_iff (by omega)).2 hn0)
    have q1 : qs = [] := by
      have h9 := Hqn.out
      rw [hn0, Nat.div_zero] at h9
      exact (h9.nil_iff (by omega)).2 rfl
    have q2 : rs = [] := by
      have h9 := Hrn.out
      rw [if_pos hn0] at h9
      exact (h9.nil_iff (by omega)).2 rfl
    have e5 : en = 5 := by rw [Hen.out, if_pos hn0]
    subst q1 q2 e5
    clear hn0 hnn Hen Hqn Hrn
    rw [List.length_nil, t1]
    clear hlt2
    go_wp2_with ((go_at_call 22; (with_reducible refine (lives_any _).mono ?_); rintro e wg ⟨rfl, hbg⟩))
    go_ret
    exact ⟨rfl, hl6.bel.trans (hbg.mono hl6.bel.size)⟩
  · have hnp : 0 < n := by omega
    have t1 : decide (trimL ys = []) = false := decide_eq_false (fun e => hn0 ((hnn.nil_iff (by omega)).1 e))
    have e0 : en = 0 := by rw [Hen.out, if_neg hn0]
    have hrn2 : Num 4294967296 rs (m % n) := by
      have h9 := Hrn.out
      rwa [if_neg hn0] at h9
    subst e0
    rw [t1]
    clear hlt2 Hrn
    have HR := Lib.hid (rdiv_any A A2 c c2 xs ys w6 w6.heap.size hrA hrB (Nat.le_refl _) hd hd2 (by omega) (by omega) (by rw [← Hnv.out]; exact hnp))
    rw [← Hmv.out, ← Hnv.out] at HR
    clear hn0 hnn hrA hrB t1
    go_wp2_with fail
    refine HR.out.mono ?_
    rintro e w7 ⟨k2, m2, A7, c7, A8, c8, rfl, hk, hm9, hr7, hr8, hb7⟩
    obtain rfl : qs = k2 := Num.unique (by omega) Hqn.out hk
    obtain rfl : rs = m2 := Num.unique (by omega) hrn2 hm9
    have hl7 := hl6.next hb7
    have hrq7 := hrq6.below hb7 (Nat.le_refl _)
    have hrr7 := hrr6.below hb7 (Nat.le_refl _)
    have cq := res_cap hrq7
    have cr := res_cap hrr7
    clear hl6 hrq6 hrr6 HR hk hm9 hrn2 Hqn
    go_wp2_with fail
    refine (same_yes A3 A7 c3 c7 _ w7 w7.heap.size hrq7.rd hr7.rd cq).mono ?_
    rintro e w8 ⟨rfl, hdr8⟩
    have hb8 := hdr8.below w7.heap.size
    have hl8 := hl7.next hb8
    have hrr8 := hrr7.below hb8 (Nat.le_refl _)
    have hr9 := hr8.below hb8 (Nat.le_refl _)
    go_wp2_with fail
    refine (same_yes A4 A8 c4 c8 _ w8 w8.heap.size hrr8.rd hr9.rd cr).mono ?_
    rintro e w9 ⟨rfl, hdr9⟩
    have hl9 := hl8.next (hdr9.below w8.heap.size)
    go_wp2_with ((go_at_call 22; (with_reducible refine (lives_any _).mono ?_); rintro e wg ⟨rfl, hbg⟩))
    go_ret
    exact ⟨rfl, hl9.bel.trans (hbg.mono hl9.bel.size)⟩
end
section
open Go.ChangeShapes Go.WideShapes Go.ChangeAt Go.RowKit

theorem Tryd.own : ownKnob Tryd.prog.godebug = none := by kernel_rfl
theorem Tryd.laidOut : laidOutB Tryd.prog = true := by kernel_rfl

theorem trodAll_below {H : Type} {enc : TypeId × Value → H} {P : Program} (hl : laidOutB P = true) {W W' : World} (hb : Below W.heap.size W W') :
    ∀ (ts : List TypeId), (∀ t ∈ ts, P.readableRec t = true ∧ t < P.types.size) → ∀ (vs : List Value) (ds : List (DataW H)) (ps : List MemPlace), DataW.TrodAll enc P W 0 (fun _ => true) true ts vs ds ps → (∀ x ∈ ps, x.block < W.heap.size) →
      DataW.TrodAll enc P W' 0 (fun b => decide (b < W.heap.size)) true ts vs ds ps
  | [], _, vs, ds, ps, h, _ => by
    obtain ⟨rfl, rfl, rfl⟩ := trodAll_nil h
    exact trodAll_mk0
  | t :: ts, hr, vs, ds, ps, h, hlt => by
    obtain ⟨v, vs', d, ds', p, q, rfl, rfl, rfl, hd, hrest⟩ := trodAll_cons h
    have h1 := hr t List.mem_cons_self
    exact ⟨p, q, Below.trod hl h1.1 h1.2 hd hb (fun x hx => hlt x (List.mem_append_left _ hx)),
      trodAll_below hl hb ts (fun t ht => hr t (List.mem_cons_of_mem _ ht)) vs' ds' q hrest (fun x hx => hlt x (List.mem_append_right _ hx)), rfl⟩

/-- A law's 'post', out of 'it returned true, and all old memory is as it was'. -/
theorem law_post {H : Type} {enc : TypeId × Value → H} {P : Program} {f : Func} {s : ChangeSpec} {apart : Bool} {W W' : World} {args : Array Value} {ds : List (DataW H)} {before : List MemPlace} (tb : TypeId)
    (hl : laidOutB P = true) (hr : ∀ t ∈ f.params.toList, P.readableRec t = true ∧ t < P.types.size) (hres : f.resultTypes.toList = [tb]) (htb : P.underlying tb = some .bool) (hsv : s.vars = [])
    (hW : DataW.Whole enc P f.params.toList s.vars apart W args.toList ds [] before)
    (hfn : (s.fn H (ds ++ [])).results = [.lit (.bool true)] ∧ (s.fn H (ds ++ [])).args = ds ∧ (s.fn H (ds ++ [])).vars = [])
    (hb : Below W.heap.size W W') : s.post enc P f apart true false false W args (.bool true) W' := by
  have hW0 := hW
  obtain ⟨p, q, hA, hV, rfl, _, _⟩ := hW
  rw [hsv] at hV
  obtain ⟨_, rfl⟩ := trodVars_none hV
  have hlt : ∀ x ∈ p, x.block < W.heap.size := fun x hx => hW0.lt x (by simpa using hx)
  have hsz : f.resultTypes.size = 1 := by rw [← Array.length_toList, hres]; rfl
  refine ⟨ds, [], _, [], p, [], hW0, ?_, ?_, ?_, hb.frame _, fun h => by cases h⟩
  · rw [hfn.1, hres, hsz]
    exact trodAll_mk1 (shut_bool htb _)
  · rw [hfn.2.1]
    exact trodAll_below hl hb _ hr _ _ _ hA hlt
  · rw [hsv, hfn.2.2]; rfl
end
end Go.Proofs.YtogkfpbapjjgfaaDoor
