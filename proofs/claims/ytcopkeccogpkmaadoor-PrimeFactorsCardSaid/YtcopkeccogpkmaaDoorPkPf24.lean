/- slices.Sort at []uint32: the row sorted, as the divisors' contract wants it. Conditions: the row's size. PrimeFactors answers true. Conditions: bases is as the program lays it. The walk of PrimeFactors: true. Conditions: bases is as the program lays it. From a walk of a law to its row: a law returns true, its arguments read as they read, and nothing that was there has turned. -/
import Derived.Test.YtcopkeccogpkmaaDoorPkPf23
import Derived.Test.YtcopkeccogpkmaaDoorPkPf3
import Derived.Test.YtcopkeccogpkmaaDoorPkPf15
import Derived.Test.YtcopkeccogpkmaaDoorPkPf1
import Derived.Test.YtcopkeccogpkmaaDoorPkPf13
import Derived.Laws.StructEq
import Derived.Test.YtcopkeccogpkmaaDoorPkPf0
import Derived.Test.YtcopkeccogpkmaaDoorRows
import Derived.ProofKit
import Derived.SizedLaws
namespace Go.Proofs.YtcopkeccogpkmaaDoor
section
open Go.RowKit Go.Sort

set_option maxHeartbeats 2000000 in
theorem sortRow_any {p q : List Value} {g o : Nat} (ho : p.length = o) (cap n : Nat) (hsz : n < 2305843009213693952) (d : Array Nat) (w : World) (hds : d.size = n) (h : Rw p q g d w) :
    Calls Tryd.prog 14 #[.slice (some ⟨g, o, none⟩) n cap] w fun e w' => e = .returned (.tuple #[]) ∧ ∃ R, Rw p q g R w' ∧ Tb g w w' ∧ PermIn 0 n d R ∧ SortedIn ltN 0 n R := by
  obtain ⟨k, hk⟩ : ∃ k, k = Lib.bitLen n := ⟨_, rfl⟩
  have hLen : Hid (∀ W, Calls Tryd.prog 20 #[.int .u64 (n : Int)] W fun e W' => e = .returned (.int .i64 (k : Int)) ∧ W = W') := fun W =>
    (Go.Proofs.Tryd.bits_Len (n : Int) W (by omega) (by omega)).mono fun _ _ ⟨he, hw⟩ => ⟨by rw [he, Int.toNat_natCast, hk], hw.symm⟩
  have hk2 : k < 4611686018427387904 := by
    have := Lib.bitLen_le n 64 (Nat.le_refl _) (by omega)
    omega
  have HP : Hid (Calls Tryd.prog 19 #[.slice (some ⟨g, o, none⟩) n cap, .int .i64 0, .int .i64 (n : Int), .int .i64 (k : Int)] w fun e w' => e = .returned (.tuple #[]) ∧ ∃ R, Rw p q g R w' ∧ Tb g w w' ∧ PermIn 0 n d R ∧ SortedIn ltN 0 n R) :=
    pdq_any ho cap n hsz (n + 1) 0 n k d w (by omega) hds h (Nat.zero_le _) (Nat.le_refl _) hk2 (Or.inl rfl)
  have q1 : IntKind.u64.wrap (n : Int) = (n : Int) := by rw [IntKind.wrap_u64]; omega
  clear hk hds h
  go_enter Tryd.func14, Tryd.ntmps14
  go_wp2_with (first
    | (go_at_call 20; (with_reducible refine (hLen.out _).mono ?_); rintro _ _ ⟨rfl, rfl⟩)
    | (go_at_call 19; (with_reducible refine HP.out.mono ?_); rintro _ w2 ⟨rfl, R, h1, h2, h3, h4⟩))
  go_end0
  exact ⟨rfl, R, h1, h2, h3, h4⟩
theorem srt_is {n : Nat} {d R : Array Nat} (hd : d.size = n) (hp : PermIn 0 n d R) (hs : SortedIn ltN 0 n R) : R.toList = srtN d.toList := by
  have hR : R.size = n := hp.1.trans hd
  refine srtN_eq ?_ ?_
  · refine List.pairwise_iff_getElem.2 fun i j hi hj hij => ?_
    have hj2 : j < n := by rw [← hR]; exact hj
    have h := hs i j (Nat.zero_le _) hij hj2
    rw [getElem!_pos R j hj, getElem!_pos R i hi] at h
    unfold ltN at h
    have h9 : ¬ R[j] < R[i] := by simpa using h
    show R.toList[i] ≤ R.toList[j]
    simp only [Array.getElem_toList]
    omega
  · have h := hp.2.2
    rw [Array.extract_eq_self_of_le (by omega), Array.extract_eq_self_of_le (by omega)] at h
    exact h
/-- The contract in the divisors' form. -/
theorem sort_hs (n : Nat) (hn : n < 4294967296) (w : World) (W : World) (g cap : Nat) (R : List Nat) (h : W.ownsRow w.heap.size 22 1 (.slice (some ⟨g, 0, none⟩) R.length cap) R.length (u32s R)) (hl : R.length ≤ n) (hW : w.heap.size ≤ W.heap.size) :
    Calls Tryd.prog 14 #[.slice (some ⟨g, 0, none⟩) R.length cap] W fun e W' => e = .returned (.tuple #[]) ∧ W'.ownsRow w.heap.size 22 1 (.slice (some ⟨g, 0, none⟩) R.length cap) R.length (u32s (srtN R)) ∧ Below w.heap.size W W' := by
  obtain ⟨hl1, ⟨h0, _⟩ | ⟨g2, cap2, cur, hv, hg, hh, hnc, hcm, hsz, htk⟩⟩ := h
  · cases h0
  · injection hv with e1 _ e3
    injection e1 with e1
    injection e1 with e1
    subst e3
    subst e1
    rw [Nat.mul_one] at htk hsz
    obtain ⟨q, hq⟩ : ∃ q, q = cur.toList.drop R.length := ⟨_, rfl⟩
    have hcur : cur.toList = u32s R ++ q := by rw [← htk, hq, List.take_append_drop]
    have hrw : Rw [] q g R.toArray W := by
      show W.heap[g]? = _
      rw [hh, ← Array.toArray_toList (xs := cur), hcur]; rfl
    refine (sortRow_any (o := 0) rfl cap R.length (by omega) R.toArray W (by simp) hrw).mono ?_
    rintro _ W' ⟨rfl, S, h1, h2, h3, h4⟩
    have hS : S.toList = srtN R := srt_is (by simp) h3 h4
    have hSl : S.toList.length = R.length := by rw [hS]; exact (srtN_perm R).length_eq
    refine ⟨rfl, ⟨by rw [u32s_length, (srtN_perm R).length_eq, Nat.mul_one], .inr ⟨g, cap, (u32s S.toList ++ q).toArray, rfl, hg, h1, hnc, hcm, ?_, ?_⟩⟩, h2.below hg hW⟩
    · rw [List.size_toArray, List.length_append, u32s_length, hSl, Nat.mul_one, ← hsz, ← Array.length_toList, hcur, List.length_append, u32s_length]
    · rw [Nat.mul_one]
      show (u32s S.toList ++ q).take R.length = _
      rw [List.take_left' (by rw [u32s_length]; exact hSl), hS]
end
section
open Go.RowKit

theorem facCells_get : ∀ (L : List (Nat × Nat)) (i : Nat) (h : i < L.length), (facCells L)[i * 2]? = some (.int .u32 (L[i].1 : Int)) ∧ (facCells L)[i * 2 + 1]? = some (.int .i64 (L[i].2 : Int))
  | x :: L, 0, h => by constructor <;> rfl
  | x :: L, i + 1, h => by
    have h1 := facCells_get L i (by simpa using h)
    have e : facCells (x :: L) = .int .u32 (x.1 : Int) :: .int .i64 (x.2 : Int) :: facCells L := rfl
    rw [e, show (i + 1) * 2 = i * 2 + 1 + 1 by omega]
    simpa using h1
theorem Rd.fac_at {w : World} {B : Nat} {A : Option Addr} {L : List (Nat × Nat)} (h : Rd w B A (facCells L)) {i : Nat} (hi : i < L.length) : ∃ b off, A = some ⟨b, off, none⟩ ∧ b < B ∧ w.cell? ⟨b, off + i * 2, none⟩ = some (.int .u32 (L[i].1 : Int)) ∧ w.cell? ⟨b, off + i * 2 + 1, none⟩ = some (.int .i64 (L[i].2 : Int)) := by
  obtain ⟨h1, h2⟩ := facCells_get L i hi
  obtain ⟨b, off, e, hlt, hc⟩ := h (by intro e; rw [e] at h1; cases h1)
  exact ⟨b, off, e, hlt, hc _ _ h1, by rw [Nat.add_assoc]; exact hc _ _ h2⟩
theorem own_len {w : World} {base n c : Nat} {e : TypeId} {k : Nat} {A : Option Addr} {xs : List Value} (h : w.ownsRow base e k (.slice A n c) n xs) : n ≤ maxLen := by
  obtain ⟨_, ⟨_, h0⟩ | ⟨g, cap, cur, _, _, _, h1, h2, _⟩⟩ := h <;> omega
theorem own_rdk {w : World} {base k : Nat} {v : Value} {e : TypeId} {n : Nat} {xs : List Value} (h : w.ownsRow base e k v n xs) : ∃ A c, v = .slice A n c ∧ Rd w w.heap.size A xs := by
  obtain ⟨hl, ⟨rfl, rfl⟩ | ⟨g, cap, cur, rfl, hg, hh, hnc, hcm, hsz, htk⟩⟩ := h
  · obtain rfl : xs = [] := List.eq_nil_of_length_eq_zero (by simpa using hl)
    exact ⟨_, _, rfl, Rd.nil_⟩
  · have hb : Blk w g e cur.toList := by simpa [Blk] using hh
    refine ⟨_, _, rfl, fun _ => ⟨g, 0, rfl, hb.lt, fun k u hu => ?_⟩⟩
    rw [Nat.zero_add, hb.cell]
    rw [← htk, List.getElem?_take] at hu
    split at hu
    · exact hu
    · cases hu
/-- The divisors' list. -/
def DvZ (n : Nat) (S : List Nat) : Prop := (n = 0 ∧ S = []) ∨ (n ≠ 0 ∧ ∃ L, Fac n L ∧ S = srtN (divL [1] L))
theorem DvZ.unique {n : Nat} {S T : List Nat} (h : DvZ n S) (k : DvZ n T) : S = T := by
  rcases h with ⟨h1, h2⟩ | ⟨h1, L, h2, h3⟩ <;> rcases k with ⟨k1, k2⟩ | ⟨k1, M, k2, k3⟩
  · rw [h2, k2]
  · exact absurd h1 k1
  · exact absurd k1 h1
  · rw [h3, k3, Fac.unique h2 k2]
theorem divisors_all (n : Nat) (hn : n < 4294967296) (w : World) :
    Calls Tryd.prog 7 #[.int .u32 (n : Int)] w fun r w' => ∃ A c S, DvZ n S ∧ r = .returned (.slice A S.length c) ∧ Rd w' w'.heap.size A (u32s S) ∧ S.length ≤ maxLen ∧ Below w.heap.size w w' := by
  by_cases h0 : n = 0
  · subst h0
    refine (divisors_zero w).mono ?_
    rintro _ _ ⟨rfl, rfl⟩
    exact ⟨none, 0, [], .inl ⟨rfl, rfl⟩, rfl, Rd.nil_, Nat.zero_le _, Below.refl _ _⟩
  · refine (divisors_sorted srtN n hn (by omega) w (fun W g cap R h1 _ h3 h4 _ => sort_hs n hn w W g cap R h1 h3 h4)).mono ?_
    rintro _ w' ⟨L, v, hF, rfl, ho, hb⟩
    have hlen : (srtN (divL [1] L)).length = (divL [1] L).length := (srtN_perm _).length_eq
    rw [← hlen] at ho
    obtain ⟨A, c, rfl, hr⟩ := own_rdk ho
    exact ⟨A, c, _, .inr ⟨h0, L, hF, rfl⟩, rfl, hr, own_len ho, hb⟩
theorem rdivisors_all (n : Nat) (hn : n < 4294967296) (w : World) :
    Calls Tryd.prog 8 #[.int .u32 (n : Int)] w fun r w' => ∃ A c S, DvZ n S ∧ r = .returned (.slice A S.length c) ∧ Rd w' w'.heap.size A (u32s S) ∧ S.length ≤ maxLen ∧ Below w.heap.size w w' := by
  by_cases h0 : n = 0
  · subst h0
    refine (rdivisors_zero w).mono ?_
    rintro _ _ ⟨rfl, rfl⟩
    exact ⟨none, 0, [], .inl ⟨rfl, rfl⟩, rfl, Rd.nil_, Nat.zero_le _, Below.refl _ _⟩
  · refine (rdivisors_any n hn (by omega) w).mono ?_
    rintro _ w' ⟨L, v, S, hF, rfl, ha, hp, ho, hb⟩
    obtain ⟨A, c, rfl, hr⟩ := own_rdk ho
    exact ⟨A, c, S, .inr ⟨h0, L, hF, srtN_eq ha hp⟩, rfl, hr, own_len ho, hb⟩

theorem FacZ.len {n : Nat} (hn : n < 4294967296) {L : List (Nat × Nat)} (h : FacZ n L) : L.length ≤ maxLen := by
  unfold FacZ at h
  split at h
  · subst h; simp
  · have := h.length_lt hn; simp only [maxLen]; omega
/-- The row of factors that a call gives. -/
theorem factors_row (n : Nat) (hn : n < 4294967296) (w : World) :
    Calls Tryd.prog 5 #[.int .u32 (n : Int)] w fun r w' => ∃ A c L, r = .returned (.slice A L.length c) ∧ FacZ n L ∧ Rd w' w'.heap.size A (facCells L) ∧ Below w.heap.size w w' :=
  (factors_all n hn w).mono fun _ _ ⟨v, L, e, hF, ho, hb⟩ => by
    obtain ⟨A, c, rfl, hr⟩ := own_rdk ho
    exact ⟨A, c, L, e, hF, hr, hb⟩
theorem rfactors_row (n : Nat) (hn : n < 4294967296) (w : World) :
    Calls Tryd.prog 6 #[.int .u32 (n : Int)] w fun r w' => ∃ A c L, r = .returned (.slice A L.length c) ∧ FacZ n L ∧ Rd w' w'.heap.size A (facCells L) ∧ Below w.heap.size w w' :=
  (rfactors_all n hn w).mono fun _ _ ⟨v, L, e, hF, ho, hb⟩ => by
    obtain ⟨A, c, rfl, hr⟩ := own_rdk ho
    exact ⟨A, c, L, e, hF, hr, hb⟩
/-- Two equal factors are not unlike. -/
theorem neq_factor (p e : Int) (w : World) : (binOp .neq 29 (.agg #[.int .u32 p, .int .i64 e]) (.agg #[.int .u32 p, .int .i64 e])).run Tryd.prog w = .ok (.bool false) w := by
  have u1 := Tryd.underlying22
  have u2 := Tryd.underlying3
  have a1 := Tryd.isAgg22
  have a2 := Tryd.isAgg3
  have z1 := Tryd.sizeOf22
  have z2 := Tryd.sizeOf3
  have hS : Tryd.prog.underlying 29 = some (.struct (Tryd.prog.fieldsOf 29)) := by kernel_rfl
  have hp : Tryd.prog.stoodInHeld 29 = false := by kernel_rfl
  rw [run_neq_struct, show (10000 : Nat) = 9999 + 1 from rfl, run_equalIn_agg w 9999 _ _ _ hS hp]
  simp only [Program.fieldsOf, Tryd.underlying29]
  go_simp
end
section
open Go.RowKit

set_option maxRecDepth 100000 in
set_option maxHeartbeats 3200000 in
theorem primeFactors_walk (n : Nat) (hn : n < 4294967296) (w : World) (hw : Bases w) :
    Calls Tryd.prog 3 #[.int .u32 (n : Int)] w fun r w' => r = .returned (.bool true) ∧ Below w.heap.size w w' := by
  have Hw := Lib.hid hw
  have hmax : maxLen = 9223372036854775807 := rfl
  go_enter Tryd.func3, Tryd.ntmps3
  go_wp2_with fail
  refine (factors_row n hn _).mono ?_
  rintro _ w1 ⟨A1, c1, L, rfl, hF1, hr1, hb1⟩
  have hlen := hF1.len hn
  have HR1 := Lib.hid hr1
  have HB1 := Lib.hid hb1
  have HF := Lib.hid hF1
  clear hF1 hr1 hb1
  go_wp2_with fail
  refine (rfactors_row n hn _).mono ?_
  rintro _ w2 ⟨A2, c2, L2, rfl, hF2, hr2, hb2⟩
  obtain rfl := HF.out.unique hF2
  have HR2 := Lib.hid (And.intro ((HR1.out.below hb2).mono hb2.size) hr2)
  have HB2 := Lib.hid (HB1.out.trans (hb2.mono HB1.out.size))
  clear hF2 hr2 hb2 HR1 HB1
  go_wp2_with fail
  refine (divisors_all n hn _).mono ?_
  rintro _ w3 ⟨A3, c3, S, hD3, rfl, hr3, hS, hb3⟩
  have HD := Lib.hid hD3
  have HR3 := Lib.hid (And.intro ((HR2.out.1.below hb3).mono hb3.size) (And.intro ((HR2.out.2.below hb3).mono hb3.size) hr3))
  have HB3 := Lib.hid (HB2.out.trans (hb3.mono HB2.out.size))
  clear hD3 hr3 hb3 HR2 HB2
  go_wp2_with fail
  refine (rdivisors_all n hn _).mono ?_
  rintro _ w4 ⟨A4, c4, S2, hD4, rfl, hr4, hS2, hb4⟩
  obtain rfl := HD.out.unique hD4
  have HR4 := Lib.hid (And.intro ((HR3.out.1.below hb4).mono hb4.size) (And.intro ((HR3.out.2.1.below hb4).mono hb4.size) (And.intro ((HR3.out.2.2.below hb4).mono hb4.size) hr4)))
  have HB4 := Lib.hid (HB3.out.trans (hb4.mono HB3.out.size))
  clear hD4 hr4 hb4 HR3 HB3 hS2
  have hne1 : ((L.length : Int) != (L.length : Int)) = false := by simp
  have hne2 : ((S.length : Int) != (S.length : Int)) = false := by simp
  go_wp2_with fail
  refine (totient_all n hn _).mono ?_
  rintro _ w5 ⟨L5, hF5, rfl, hb5⟩
  obtain rfl := HF.out.unique hF5
  have HB5 := Lib.hid hb5
  clear hF5 hb5
  go_wp2_with fail
  refine (rtotient_all n hn _).mono ?_
  rintro _ w6 ⟨L6, hF6, rfl, hb6⟩
  obtain rfl := HF.out.unique hF6
  have hb46 : Below w4.heap.size w4 w6 := HB5.out.trans (hb6.mono HB5.out.size)
  have HR6 := Lib.hid (And.intro ((HR4.out.1.below hb46).mono hb46.size) (And.intro ((HR4.out.2.1.below hb46).mono hb46.size) (And.intro ((HR4.out.2.2.1.below hb46).mono hb46.size) ((HR4.out.2.2.2.below hb46).mono hb46.size))))
  have HB6 := Lib.hid (HB4.out.trans (hb46.mono HB4.out.size))
  clear hF6 hb6 hb46 HB5 HB4 HR4
  have hne3 : (((totZ n L : Nat) : Int) != ((totZ n L : Nat) : Int)) = false := by simp
  have hlf : ∀ i, L.length - i ≤ L.length := fun i => Nat.sub_le _ _
  clear HF HD
  go_wp2_with fail
  go_loopw [38] (fun iv W => ∃ i : Nat, iv = .int .i64 (i : Int) ∧ i ≤ L.length ∧ Dr w6 W) (fun iv _ => L.length - (intOf iv).toNat)
  case atStart => exact ⟨0, rfl, Nat.zero_le _, Dr.refl _⟩
  case round =>
    obtain ⟨i, rfl, hi, hdr⟩ := hrel
    have HDr := Lib.hid hdr
    by_cases hlt : i < L.length
    · have zl : (i : Int) < (L.length : Int) := by omega
      have wrp : IntKind.i64.wrap ((i : Int) + 1) = (i : Int) + 1 := by rw [IntKind.wrap_i64]; omega
      obtain ⟨b1, o1, e1, hb1, c1a, c1b⟩ := (HR6.out.1.dr hdr).fac_at hlt
      obtain ⟨b2, o2, e2, hb2, c2a, c2b⟩ := (HR6.out.2.1.dr hdr).fac_at hlt
      clear hdr
      have hn := neq_factor (L[i].1 : Int) (L[i].2 : Int)
      subst e1 e2
      go_wp2_with fail
      go_quiet (fail)
      go_wp2_with fail
      go_roundw
      case rel => exact ⟨i + 1, by simp, by omega, by first | exact HDr.out.step _ | exact (HDr.out.step _).drew⟩
      case measure => simp [intOf]; omega
    · have zl : ¬ (i : Int) < (L.length : Int) := by omega
      clear hdr
      go_wp2_with fail
      go_loopw [53] (fun iv W => ∃ i : Nat, iv = .int .i64 (i : Int) ∧ i ≤ S.length ∧ Dr w6 W) (fun iv _ => S.length - (intOf iv).toNat)
      case atStart => exact ⟨0, rfl, Nat.zero_le _, HDr.out⟩
      case round =>
        obtain ⟨k, rfl, hk, hdr2⟩ := hrel
        have HD2 := Lib.hid hdr2
        by_cases hlk : k < S.length
        · have zk : (k : Int) < (S.length : Int) := by omega
          have wrk : IntKind.i64.wrap ((k : Int) + 1) = (k : Int) + 1 := by rw [IntKind.wrap_i64]; omega
          have hne : u32s S ≠ [] := by intro e; have := u32s_at hlk; rw [e] at this; cases this
          obtain ⟨b3, o3, e3, hb3, hc3⟩ := (HR6.out.2.2.1.dr hdr2) hne
          obtain ⟨b4, o4, e4, hb4, hc4⟩ := (HR6.out.2.2.2.dr hdr2) hne
          have c3 := hc3 k _ (u32s_at hlk)
          have c4 := hc4 k _ (u32s_at hlk)
          clear hdr2 hc3 hc4 hne
          subst e3 e4
          have hn2 : ((S[k] : Int) != (S[k] : Int)) = false := by simp
          go_wp2_with fail
          go_quiet (fail)
          go_wp2_with fail
          go_roundw
          case rel => exact ⟨k + 1, by simp, by omega, by first | exact HD2.out.step _ | exact (HD2.out.step _).drew⟩
          case measure => simp [intOf]; omega
        · have zk : ¬ (k : Int) < (S.length : Int) := by omega
          have HBz := Lib.hid (HB6.out.trans (hdr2.below _))
          clear hdr2
          go_wp2_with fail
          refine (awake_any _ (Hw.out.keep HBz.out Hw.out.lt)).mono ?_
          rintro _ _ ⟨rfl, rfl⟩
          go_wp2
          go_ret
          exact ⟨rfl, HBz.out⟩
end
section
open Go.ChangeShapes Go.WideShapes Go.ChangeAt Go.RowKit

theorem Tryd.own : ownKnob Tryd.prog.godebug = none := by kernel_rfl
theorem Tryd.laidOut : laidOutB Tryd.prog = true := by kernel_rfl

theorem trodAll_below {H : Type} {enc : TypeId × Value → H} {P : Program} (hl : laidOutB P = true) {W W' : World} (hb : Below W.heap.size W W') :
    ∀ (ts : List TypeId), (∀ t ∈ ts, P.readableRec t = true ∧ t < P.types.size) → ∀ (vs : List Value) (ds : List (DataW H)) (ps : List MemPlace), DataW.TrodAll enc P W 0 (fun _ => true) true ts vs ds ps → (∀ x ∈ ps, x.block < W.heap.size) →
      DataW.TrodAll enc P W' 0 (fun b => decide (b < W.heap.size)) true ts vs ds ps
  | [], _, vs, ds, ps, h, _ => by
    obtain ⟨rfl, rfl, rfl⟩ := trodAll_nil h
    exact trodAll_mk0
  | t :: ts, hr, vs, ds, ps, h, hlt => by
    obtain ⟨v, vs', d, ds', p, q, rfl, rfl, rfl, hd, hrest⟩ := trodAll_cons h
    have h1 := hr t List.mem_cons_self
    exact ⟨p, q, Below.trod hl h1.1 h1.2 hd hb (fun x hx => hlt x (List.mem_append_left _ hx)),
      trodAll_below hl hb ts (fun t ht => hr t (List.mem_cons_of_mem _ ht)) vs' ds' q hrest (fun x hx => hlt x (List.mem_append_right _ hx)), rfl⟩

/-- A law's 'post', out of 'it returned true, and all old memory is as it was'. -/
theorem law_post {H : Type} {enc : TypeId × Value → H} {P : Program} {f : Func} {s : ChangeSpec} {apart : Bool} {W W' : World} {args : Array Value} {ds : List (DataW H)} {before : List MemPlace} (tb : TypeId)
    (hl : laidOutB P = true) (hr : ∀ t ∈ f.params.toList, P.readableRec t = true ∧ t < P.types.size) (hres : f.resultTypes.toList = [tb]) (htb : P.underlying tb = some .bool) (hsv : s.vars = [])
    (hW : DataW.Whole enc P f.params.toList s.vars apart W args.toList ds [] before)
    (hfn : (s.fn H (ds ++ [])).results = [.lit (.bool true)] ∧ (s.fn H (ds ++ [])).args = ds ∧ (s.fn H (ds ++ [])).vars = [])
    (hb : Below W.heap.size W W') : s.post enc P f apart true false false W args (.bool true) W' := by
  have hW0 := hW
  obtain ⟨p, q, hA, hV, rfl, _, _⟩ := hW
  rw [hsv] at hV
  obtain ⟨_, rfl⟩ := trodVars_none hV
  have hlt : ∀ x ∈ p, x.block < W.heap.size := fun x hx => hW0.lt x (by simpa using hx)
  have hsz : f.resultTypes.size = 1 := by rw [← Array.length_toList, hres]; rfl
  refine ⟨ds, [], _, [], p, [], hW0, ?_, ?_, ?_, hb.frame _, fun h => by cases h⟩
  · rw [hfn.1, hres, hsz]
    exact trodAll_mk1 (shut_bool htb _)
  · rw [hfn.2.1]
    exact trodAll_below hl hb _ hr _ _ _ hA hlt
  · rw [hsv, hfn.2.2]; rfl
end
end Go.Proofs.YtcopkeccogpkmaaDoor
