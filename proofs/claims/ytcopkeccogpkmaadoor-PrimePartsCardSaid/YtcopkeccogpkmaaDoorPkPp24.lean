/- slices.Sort at []uint32: the row sorted, as the divisors' contract wants it. Conditions: the row's size. PrimeFactors answers true. Conditions: bases is as the program lays it. The totients of a number's divisors sum to the number. No conditions. -/
import Derived.Test.YtcopkeccogpkmaaDoorPkPp23
import Derived.Test.YtcopkeccogpkmaaDoorPkPp3
import Derived.Test.YtcopkeccogpkmaaDoorPkPp15
import Derived.Test.YtcopkeccogpkmaaDoorPkPp1
import Derived.Test.YtcopkeccogpkmaaDoorPkPp13
import Derived.Laws.StructEq
import Derived.Test.YtcopkeccogpkmaaDoorPkPp4
namespace Go.Proofs.YtcopkeccogpkmaaDoor
section
open Go.RowKit Go.Sort

set_option maxHeartbeats 2000000 in
theorem sortRow_any {p q : List Value} {g o : Nat} (ho : p.length = o) (cap n : Nat) (hsz : n < 2305843009213693952) (d : Array Nat) (w : World) (hds : d.size = n) (h : Rw p q g d w) :
    Calls Tryd.prog 14 #[.slice (some ⟨g, o, none⟩) n cap] w fun e w' => e = .returned (.tuple #[]) ∧ ∃ R, Rw p q g R w' ∧ Tb g w w' ∧ PermIn 0 n d R ∧ SortedIn ltN 0 n R := by
  obtain ⟨k, hk⟩ : ∃ k, k = Lib.bitLen n := ⟨_, rfl⟩
  have hLen : Hid (∀ W, Calls Tryd.prog 20 #[.int .u64 (n : Int)] W fun e W' => e = .returned (.int .i64 (k : Int)) ∧ W = W') := fun W =>
    (Go.Proofs.Tryd.bits_Len (n : Int) W (by omega) (by omega)).mono fun _ _ ⟨he, hw⟩ => ⟨by rw [he, Int.toNat_natCast, hk], hw.symm⟩
  have hk2 : k < 4611686018427387904 := by
    have := Lib.bitLen_le n 64 (Nat.le_refl _) (by omega)
    omega
  have HP : Hid (Calls Tryd.prog 19 #[.slice (some ⟨g, o, none⟩) n cap, .int .i64 0, .int .i64 (n : Int), .int .i64 (k : Int)] w fun e w' => e = .returned (.tuple #[]) ∧ ∃ R, Rw p q g R w' ∧ Tb g w w' ∧ PermIn 0 n d R ∧ SortedIn ltN 0 n R) :=
    pdq_any ho cap n hsz (n + 1) 0 n k d w (by omega) hds h (Nat.zero_le _) (Nat.le_refl _) hk2 (Or.inl rfl)
  have q1 : IntKind.u64.wrap (n : Int) = (n : Int) := by rw [IntKind.wrap_u64]; omega
  clear hk hds h
  go_enter Tryd.func14, Tryd.ntmps14
  go_wp2_with (first
    | (go_at_call 20; (with_reducible refine (hLen.out _).mono ?_); rintro _ _ ⟨rfl, rfl⟩)
    | (go_at_call 19; (with_reducible refine HP.out.mono ?_); rintro _ w2 ⟨rfl, R, h1, h2, h3, h4⟩))
  go_end0
  exact ⟨rfl, R, h1, h2, h3, h4⟩
theorem srt_is {n : Nat} {d R : Array Nat} (hd : d.size = n) (hp : PermIn 0 n d R) (hs : SortedIn ltN 0 n R) : R.toList = srtN d.toList := by
  have hR : R.size = n := hp.1.trans hd
  refine srtN_eq ?_ ?_
  · refine List.pairwise_iff_getElem.2 fun i j hi hj hij => ?_
    have hj2 : j < n := by rw [← hR]; exact hj
    have h := hs i j (Nat.zero_le _) hij hj2
    rw [getElem!_pos R j hj, getElem!_pos R i hi] at h
    unfold ltN at h
    have h9 : ¬ R[j] < R[i] := by simpa using h
    show R.toList[i] ≤ R.toList[j]
    simp only [Array.getElem_toList]
    omega
  · have h := hp.2.2
    rw [Array.extract_eq_self_of_le (by omega), Array.extract_eq_self_of_le (by omega)] at h
    exact h
/-- The contract in the divisors' form. -/
theorem sort_hs (n : Nat) (hn : n < 4294967296) (w : World) (W : World) (g cap : Nat) (R : List Nat) (h : W.ownsRow w.heap.size 22 1 (.slice (some ⟨g, 0, none⟩) R.length cap) R.length (u32s R)) (hl : R.length ≤ n) (hW : w.heap.size ≤ W.heap.size) :
    Calls Tryd.prog 14 #[.slice (some ⟨g, 0, none⟩) R.length cap] W fun e W' => e = .returned (.tuple #[]) ∧ W'.ownsRow w.heap.size 22 1 (.slice (some ⟨g, 0, none⟩) R.length cap) R.length (u32s (srtN R)) ∧ Below w.heap.size W W' := by
  obtain ⟨hl1, ⟨h0, _⟩ | ⟨g2, cap2, cur, hv, hg, hh, hnc, hcm, hsz, htk⟩⟩ := h
  · cases h0
  · injection hv with e1 _ e3
    injection e1 with e1
    injection e1 with e1
    subst e3
    subst e1
    rw [Nat.mul_one] at htk hsz
    obtain ⟨q, hq⟩ : ∃ q, q = cur.toList.drop R.length := ⟨_, rfl⟩
    have hcur : cur.toList = u32s R ++ q := by rw [← htk, hq, List.take_append_drop]
    have hrw : Rw [] q g R.toArray W := by
      show W.heap[g]? = _
      rw [hh, ← Array.toArray_toList (xs := cur), hcur]; rfl
    refine (sortRow_any (o := 0) rfl cap R.length (by omega) R.toArray W (by simp) hrw).mono ?_
    rintro _ W' ⟨rfl, S, h1, h2, h3, h4⟩
    have hS : S.toList = srtN R := srt_is (by simp) h3 h4
    have hSl : S.toList.length = R.length := by rw [hS]; exact (srtN_perm R).length_eq
    refine ⟨rfl, ⟨by rw [u32s_length, (srtN_perm R).length_eq, Nat.mul_one], .inr ⟨g, cap, (u32s S.toList ++ q).toArray, rfl, hg, h1, hnc, hcm, ?_, ?_⟩⟩, h2.below hg hW⟩
    · rw [List.size_toArray, List.length_append, u32s_length, hSl, Nat.mul_one, ← hsz, ← Array.length_toList, hcur, List.length_append, u32s_length]
    · rw [Nat.mul_one]
      show (u32s S.toList ++ q).take R.length = _
      rw [List.take_left' (by rw [u32s_length]; exact hSl), hS]
end
section
open Go.RowKit

theorem facCells_get : ∀ (L : List (Nat × Nat)) (i : Nat) (h : i < L.length), (facCells L)[i * 2]? = some (.int .u32 (L[i].1 : Int)) ∧ (facCells L)[i * 2 + 1]? = some (.int .i64 (L[i].2 : Int))
  | x :: L, 0, h => by constructor <;> rfl
  | x :: L, i + 1, h => by
    have h1 := facCells_get L i (by simpa using h)
    have e : facCells (x :: L) = .int .u32 (x.1 : Int) :: .int .i64 (x.2 : Int) :: facCells L := rfl
    rw [e, show (i + 1) * 2 = i * 2 + 1 + 1 by omega]
    simpa using h1
theorem Rd.fac_at {w : World} {B : Nat} {A : Option Addr} {L : List (Nat × Nat)} (h : Rd w B A (facCells L)) {i : Nat} (hi : i < L.length) : ∃ b off, A = some ⟨b, off, none⟩ ∧ b < B ∧ w.cell? ⟨b, off + i * 2, none⟩ = some (.int .u32 (L[i].1 : Int)) ∧ w.cell? ⟨b, off + i * 2 + 1, none⟩ = some (.int .i64 (L[i].2 : Int)) := by
  obtain ⟨h1, h2⟩ := facCells_get L i hi
  obtain ⟨b, off, e, hlt, hc⟩ := h (by intro e; rw [e] at h1; cases h1)
  exact ⟨b, off, e, hlt, hc _ _ h1, by rw [Nat.add_assoc]; exact hc _ _ h2⟩
theorem own_len {w : World} {base n c : Nat} {e : TypeId} {k : Nat} {A : Option Addr} {xs : List Value} (h : w.ownsRow base e k (.slice A n c) n xs) : n ≤ maxLen := by
  obtain ⟨_, ⟨_, h0⟩ | ⟨g, cap, cur, _, _, _, h1, h2, _⟩⟩ := h <;> omega
theorem own_rdk {w : World} {base k : Nat} {v : Value} {e : TypeId} {n : Nat} {xs : List Value} (h : w.ownsRow base e k v n xs) : ∃ A c, v = .slice A n c ∧ Rd w w.heap.size A xs := by
  obtain ⟨hl, ⟨rfl, rfl⟩ | ⟨g, cap, cur, rfl, hg, hh, hnc, hcm, hsz, htk⟩⟩ := h
  · obtain rfl : xs = [] := List.eq_nil_of_length_eq_zero (by simpa using hl)
    exact ⟨_, _, rfl, Rd.nil_⟩
  · have hb : Blk w g e cur.toList := by simpa [Blk] using hh
    refine ⟨_, _, rfl, fun _ => ⟨g, 0, rfl, hb.lt, fun k u hu => ?_⟩⟩
    rw [Nat.zero_add, hb.cell]
    rw [← htk, List.getElem?_take] at hu
    split at hu
    · exact hu
    · cases hu
/-- The divisors' list. -/
def DvZ (n : Nat) (S : List Nat) : Prop := (n = 0 ∧ S = []) ∨ (n ≠ 0 ∧ ∃ L, Fac n L ∧ S = srtN (divL [1] L))
theorem DvZ.unique {n : Nat} {S T : List Nat} (h : DvZ n S) (k : DvZ n T) : S = T := by
  rcases h with ⟨h1, h2⟩ | ⟨h1, L, h2, h3⟩ <;> rcases k with ⟨k1, k2⟩ | ⟨k1, M, k2, k3⟩
  · rw [h2, k2]
  · exact absurd h1 k1
  · exact absurd k1 h1
  · rw [h3, k3, Fac.unique h2 k2]
theorem divisors_all (n : Nat) (hn : n < 4294967296) (w : World) :
    Calls Tryd.prog 7 #[.int .u32 (n : Int)] w fun r w' => ∃ A c S, DvZ n S ∧ r = .returned (.slice A S.length c) ∧ Rd w' w'.heap.size A (u32s S) ∧ S.length ≤ maxLen ∧ Below w.heap.size w w' := by
  by_cases h0 : n = 0
  · subst h0
    refine (divisors_zero w).mono ?_
    rintro _ _ ⟨rfl, rfl⟩
    exact ⟨none, 0, [], .inl ⟨rfl, rfl⟩, rfl, Rd.nil_, Nat.zero_le _, Below.refl _ _⟩
  · refine (divisors_sorted srtN n hn (by omega) w (fun W g cap R h1 _ h3 h4 _ => sort_hs n hn w W g cap R h1 h3 h4)).mono ?_
    rintro _ w' ⟨L, v, hF, rfl, ho, hb⟩
    have hlen : (srtN (divL [1] L)).length = (divL [1] L).length := (srtN_perm _).length_eq
    rw [← hlen] at ho
    obtain ⟨A, c, rfl, hr⟩ := own_rdk ho
    exact ⟨A, c, _, .inr ⟨h0, L, hF, rfl⟩, rfl, hr, own_len ho, hb⟩
theorem FacZ.len {n : Nat} (hn : n < 4294967296) {L : List (Nat × Nat)} (h : FacZ n L) : L.length ≤ maxLen := by
  unfold FacZ at h
  split at h
  · subst h; simp
  · have := h.length_lt hn; simp only [maxLen]; omega
/-- The row of factors that a call gives. -/
theorem factors_row (n : Nat) (hn : n < 4294967296) (w : World) :
    Calls Tryd.prog 5 #[.int .u32 (n : Int)] w fun r w' => ∃ A c L, r = .returned (.slice A L.length c) ∧ FacZ n L ∧ Rd w' w'.heap.size A (facCells L) ∧ Below w.heap.size w w' :=
  (factors_all n hn w).mono fun _ _ ⟨v, L, e, hF, ho, hb⟩ => by
    obtain ⟨A, c, rfl, hr⟩ := own_rdk ho
    exact ⟨A, c, L, e, hF, hr, hb⟩
end
section
/-- A sum over a list. -/
def sm (f : Nat → Nat) : List Nat → Nat
  | [] => 0
  | x :: l => f x + sm f l
theorem sm_append (f : Nat → Nat) : ∀ (l k : List Nat), sm f (l ++ k) = sm f l + sm f k
  | [], k => by simp [sm]
  | x :: l, k => by rw [List.cons_append, sm, sm, sm_append f l k, Nat.add_assoc]
theorem sm_add (f g : Nat → Nat) : ∀ (l : List Nat), sm (fun x => f x + g x) l = sm f l + sm g l
  | [] => rfl
  | x :: l => by rw [sm, sm, sm, sm_add f g l]; omega
theorem sm_mul (c : Nat) (f : Nat → Nat) : ∀ (l : List Nat), sm (fun x => c * f x) l = c * sm f l
  | [] => rfl
  | x :: l => by rw [sm, sm, sm_mul c f l, Nat.mul_add]
theorem sm_map (f g : Nat → Nat) : ∀ (l : List Nat), sm f (l.map g) = sm (fun x => f (g x)) l
  | [] => rfl
  | x :: l => by rw [List.map_cons, sm, sm, sm_map f g l]
theorem sm_congr {f g : Nat → Nat} : ∀ {l : List Nat}, (∀ x ∈ l, f x = g x) → sm f l = sm g l
  | [], _ => rfl
  | x :: l, h => by rw [sm, sm, h x (by simp), sm_congr fun y hy => h y (by simp [hy])]
theorem sm_perm {f : Nat → Nat} {l k : List Nat} (h : l.Perm k) : sm f l = sm f k := by
  induction h with
  | nil => rfl
  | cons x _ ih => rw [sm, sm, ih]
  | swap x y l => rw [sm, sm, sm, sm]; omega
  | trans _ _ h1 h2 => rw [h1, h2]
theorem sm_take_le (f : Nat → Nat) (l : List Nat) (i : Nat) : sm f (l.take i) ≤ sm f l := by
  have h := sm_append f (l.take i) (l.drop i)
  rw [List.take_append_drop] at h
  omega
theorem sm_take_succ (f : Nat → Nat) {l : List Nat} {i : Nat} (h : i < l.length) : sm f (l.take (i + 1)) = sm f (l.take i) + f l[i] := by
  rw [List.take_add_one, List.getElem?_eq_getElem h, sm_append]
  rfl

theorem sm_divRow (g : Nat → Nat) (p : Nat) : ∀ (k : Nat) (out : List Nat), sm g (divRow out p k) = sm (fun o => sm (fun x => g (o * x)) (divRow [1] p k)) out
  | 0, out => sm_congr fun x _ => by simp [divRow, sm]
  | k + 1, out => by
    rw [divRow, sm_append, sm_divRow g p k out, sm_map, ← sm_add]
    refine sm_congr fun o _ => ?_
    rw [divRow, sm_append, sm_map]
    simp [sm]
theorem sm_divL : ∀ (R : List (Nat × Nat)) (f : Nat → Nat) (out : List Nat), sm f (divL out R) = sm (fun o => sm (fun d => f (o * d)) (divL [1] R)) out
  | [], f, out => sm_congr fun x _ => by simp [divL, sm]
  | (p, t) :: R, f, out => by
    rw [divL, sm_divL R f (divRow out p t), sm_divRow]
    refine sm_congr fun o _ => ?_
    rw [divL, sm_divL R (fun d => f (o * d)) (divRow [1] p t)]
    refine sm_congr fun x _ => sm_congr fun d _ => ?_
    rw [Nat.mul_assoc]
theorem divRow_in (p : Nat) {out : List Nat} {o : Nat} (ho : o ∈ out) : ∀ (t j : Nat), j ≤ t → o * p ^ j ∈ divRow out p t
  | 0, j, h => by
    obtain rfl : j = 0 := by omega
    simpa [divRow] using ho
  | t + 1, j, h => by
    rw [divRow, List.mem_append]
    by_cases e : j = t + 1
    · right; subst e; exact List.mem_map.2 ⟨o, ho, rfl⟩
    · left; exact divRow_in p ho t j (by omega)
theorem all_divRow (P : Nat → Prop) (p k : Nat) (out : List Nat) : (∀ x ∈ divRow out p k, P x) ↔ ∀ o ∈ out, ∀ j, j ≤ k → P (o * p ^ j) :=
  ⟨fun h o ho j hj => h _ (divRow_in p ho k j hj), fun h x hx => by
    obtain ⟨d, hd, j, hj, rfl⟩ := divRow_mem hx
    exact h d hd j hj⟩
theorem all_divL : ∀ (R : List (Nat × Nat)) (P : Nat → Prop) (out : List Nat), (∀ x ∈ divL out R, P x) ↔ ∀ o ∈ out, ∀ d ∈ divL [1] R, P (o * d)
  | [], P, out => by simp [divL]
  | (p, t) :: R, P, out => by
    rw [divL, all_divL R P (divRow out p t), all_divRow]
    refine forall_congr' fun o => forall_congr' fun _ => ?_
    rw [divL, all_divL R (fun d => P (o * d)) (divRow [1] p t), all_divRow]
    simp [Nat.mul_assoc]

open Classical in
/-- The totient by the list of factors. -/
noncomputable def tot (d : Nat) : Nat := if h : ∃ L, Fac d L then totL (Classical.choose h) else 0
theorem tot_eq {d : Nat} {L : List (Nat × Nat)} (h : Fac d L) : tot d = totL L := by
  have h1 : ∃ L, Fac d L := ⟨L, h⟩
  unfold tot
  rw [dif_pos h1, (Classical.choose_spec h1).unique h]
theorem Fac.pos : ∀ {n : Nat} {L : List (Nat × Nat)}, Fac n L → 0 < n
  | n, [], h => by rw [show n = 1 from h]; omega
  | n, (p, t) :: L, ⟨m, h1, h2, h3, h4, h5⟩ => by
    rw [h2]
    exact Nat.mul_pos (Nat.pow_pos (by have := h3.1; omega)) h5.pos
theorem Fac.with {n p t m j d : Nat} {M : List (Nat × Nat)} (hn : n = p ^ t * m) (hl : Least n p) (hm : m % p ≠ 0) (hj : 0 < j) (hjt : j ≤ t) (hd : d ∣ m) (hM : Fac d M) : Fac (p ^ j * d) ((p, j) :: M) := by
  have hdv : p ^ j * d ∣ n := by rw [hn]; exact Nat.mul_dvd_mul (Nat.pow_dvd_pow p hjt) hd
  refine ⟨d, hj, rfl, ⟨hl.1, ?_, fun e h1 h2 h3 => hl.2.2 e h1 h2 (Nat.mod_eq_zero_of_dvd (Nat.dvd_trans (Nat.dvd_of_mod_eq_zero h3) hdv))⟩, fun h => hm (Nat.mod_eq_zero_of_dvd (Nat.dvd_trans (Nat.dvd_of_mod_eq_zero h) hd)), hM⟩
  obtain ⟨k, rfl⟩ : ∃ k, j = k + 1 := ⟨j - 1, by omega⟩
  rw [Nat.pow_succ, Nat.mul_comm (p ^ k) p, Nat.mul_assoc]
  exact Nat.mul_mod_right _ _
/-- Each is a divisor, with its list of factors; and their totients sum to n. -/
theorem sum_tot : ∀ {n : Nat} {L : List (Nat × Nat)}, Fac n L → (∀ d ∈ divL [1] L, d ∣ n ∧ ∃ M, Fac d M) ∧ sm tot (divL [1] L) = n
  | n, [], h => by
    obtain rfl : n = 1 := h
    have h1 : Fac 1 [] := rfl
    refine ⟨fun d hd => ?_, ?_⟩
    · simp [divL] at hd; subst hd; exact ⟨Nat.dvd_refl _, _, h1⟩
    · simp [divL, sm, tot_eq h1, totL]
  | n, (p, t) :: R, ⟨m, ht, hn, hl, hm, hR⟩ => by
    obtain ⟨i1, i2⟩ := sum_tot hR
    have hf : ∀ j, 0 < j → j ≤ t → ∀ d ∈ divL [1] R, ∃ M, Fac d M ∧ Fac (p ^ j * d) ((p, j) :: M) := fun j h1 h2 d hd => by
      obtain ⟨h3, M, h4⟩ := i1 d hd
      exact ⟨M, h4, h4.with hn hl hm h1 h2 h3⟩
    refine ⟨?_, ?_⟩
    · rw [divL, all_divL R (fun d => d ∣ n ∧ ∃ M, Fac d M), all_divRow]
      intro o ho j hj d hd
      obtain rfl : o = 1 := by simpa using ho
      rw [Nat.one_mul]
      refine ⟨by rw [hn]; exact Nat.mul_dvd_mul (Nat.pow_dvd_pow p hj) (i1 d hd).1, ?_⟩
      by_cases h0 : j = 0
      · subst h0
        rw [Nat.pow_zero, Nat.one_mul]
        exact (i1 d hd).2
      · obtain ⟨M, _, h4⟩ := hf j (by omega) hj d hd
        exact ⟨_, h4⟩
    · rw [divL, sm_divL]
      have key : ∀ k, k ≤ t → sm (fun o => sm (fun d => tot (o * d)) (divL [1] R)) (divRow [1] p k) = p ^ k * m := by
        intro k
        induction k with
        | zero => intro _; simp [divRow, sm, i2]
        | succ k ih =>
          intro hk
          rw [divRow, sm_append, ih (by omega), sm_map]
          have h1 : sm (fun d => tot (1 * p ^ (k + 1) * d)) (divL [1] R) = p ^ k * (p - 1) * m := by
            rw [← i2, ← sm_mul]
            refine sm_congr fun d hd => ?_
            obtain ⟨M, h3, h4⟩ := hf (k + 1) (by omega) hk d hd
            rw [Nat.one_mul, tot_eq h3, tot_eq h4, totL, Nat.add_sub_cancel]
          simp only [sm, h1]
          obtain ⟨q, hq⟩ : ∃ q, p = q + 1 := ⟨p - 1, by have := hl.1; omega⟩
          subst hq
          rw [Nat.add_sub_cancel, Nat.pow_succ, Nat.mul_succ, Nat.add_mul]
          omega
      rw [key t (Nat.le_refl _), hn]
end
end Go.Proofs.YtcopkeccogpkmaaDoor
