/- The contract of the reference's Factors. No conditions. -/
import Derived.Test.YtnjhppdcpjgfmaaDoorPrimeH
namespace Go.Proofs.YtnjhppdcpjgfmaaDoor
open Go.RowKit

/-- What a row of factors that is not empty holds at its end, and how its last count is set. -/
theorem own_last {w : World} {base : Nat} {v : Value} {L0 : List (Nat × Nat)} {p t : Nat} (h : w.ownsRow base 43 2 v (L0 ++ [(p, t)]).length (facCells (L0 ++ [(p, t)]))) :
    ∃ g cap, v = .slice (some ⟨g, 0, none⟩) (L0.length + 1) cap ∧ base ≤ g ∧ L0.length + 1 ≤ cap ∧ cap ≤ maxLen ∧ w.cell? ⟨g, L0.length * 2, none⟩ = some (.int .u32 (p : Int)) ∧ w.cell? ⟨g, L0.length * 2 + 1, none⟩ = some (.int .i64 (t : Int)) ∧ w.frozen? ⟨g, L0.length * 2 + 1, none⟩ = false ∧
      ∀ t' : Nat, (w.setCell ⟨g, L0.length * 2 + 1, none⟩ (.int .i64 (t' : Int))).ownsRow base 43 2 v (L0 ++ [(p, t')]).length (facCells (L0 ++ [(p, t')])) ∧ Below base w (w.setCell ⟨g, L0.length * 2 + 1, none⟩ (.int .i64 (t' : Int))) := by
  have hlen : (L0 ++ [(p, t)]).length = L0.length + 1 := by simp
  rw [hlen] at h
  obtain ⟨hl, h | ⟨g, cap, cur, rfl, hg, hh, hnc, hcm, hsz, htk⟩⟩ := h
  · omega
  have hb : Blk w g 43 cur.toList := by simpa [Blk] using hh
  have hfl := facCells_length L0
  have hat : ∀ i, i < (L0.length + 1) * 2 → cur.toList[i]? = (facCells (L0 ++ [(p, t)]))[i]? := fun i hi => by
    rw [← htk, List.getElem?_take, if_pos hi]
  refine ⟨g, cap, rfl, hg, hnc, hcm, ?_, ?_, hb.frozen _, fun t' => ⟨⟨?_, .inr ⟨g, cap, (cur.toList.set (L0.length * 2 + 1) (.int .i64 (t' : Int))).toArray, ?_, hg, ?_, ?_, hcm, ?_, ?_⟩⟩, ?_⟩⟩
  · rw [hb.cell, hat _ (by omega), facCells_snoc, List.getElem?_append_right (by omega)]
    simp [hfl]
  · rw [hb.cell, hat _ (by omega), facCells_snoc, List.getElem?_append_right (by omega)]
    simp [hfl]
  · rw [facCells_length]
  · simp
  · have := hb.set_ (L0.length * 2 + 1) (.int .i64 (t' : Int))
    simpa [Blk] using this
  · simpa using hnc
  · simpa using hsz
  · have e : (L0 ++ [(p, t')]).length = L0.length + 1 := by simp
    rw [e, List.toList_toArray, List.take_set, htk, facCells_snoc, facCells_snoc, List.set_append_right _ _ (by omega)]
    simp [hfl]
  · exact (Ch.setCell (Ch.refl g w) _ _).below hg

theorem own_slice {w : World} {base : Nat} {e : TypeId} {size : Nat} {v : Value} {n : Nat} {xs : List Value} (h : w.ownsRow base e size v n xs) : ∃ A c, v = .slice A n c := by
  obtain ⟨_, ⟨h, rfl⟩ | ⟨g, cap, cur, h, _⟩⟩ := h
  · exact ⟨_, _, h⟩
  · exact ⟨_, _, h⟩

set_option maxHeartbeats 1600000 in
theorem rfactors_any (n : Nat) (hn : n < 4294967296) (h0 : 0 < n) (w : World) :
    Calls Tryd.prog 25 #[.int .u32 (n : Int)] w fun r w' => ∃ v L, r = .returned v ∧ Fac n L ∧ w'.ownsRow w.heap.size 43 2 v L.length (facCells L) ∧ Below w.heap.size w w' := by
  go_enter Tryd.func25, Tryd.ntmps25
  go_wp2
  go_loopw [0, 3] (fun nv ov wr => ∃ (m : Nat) (L : List (Nat × Nat)), nv = .int .u32 (m : Int) ∧ wr.ownsRow w.heap.size 43 2 ov L.length (facCells L) ∧ Below w.heap.size w wr ∧ 0 < m ∧ m < 4294967296 ∧ Acc n m L ∧ 2 ^ L.length * m ≤ n) (fun nv _ _ => (intOf nv).toNat)
  case atStart => exact ⟨n, [], rfl, ⟨rfl, .inl ⟨rfl, rfl⟩⟩, Below.refl _ _, h0, hn, .inl ⟨rfl, rfl⟩, by simp⟩
  case round =>
    obtain ⟨m, L, rfl, hown, hb, hm0, hm, hacc, hpow⟩ := hrel
    obtain ⟨A, c, rfl⟩ := own_slice hown
    have hLn : L.length < 32 := by
      have h1 : 2 ^ L.length * 1 ≤ 2 ^ L.length * m := Nat.mul_le_mul_left _ hm0
      have h2 : 2 ^ L.length < 2 ^ 32 := by
        have : (2 : Nat) ^ 32 = 4294967296 := by decide
        omega
      exact (Nat.pow_lt_pow_iff_right (by omega)).1 h2
    have Hown := Lib.hid hown
    have Hacc := Lib.hid hacc
    have Hpow := Lib.hid hpow
    by_cases h1 : 1 < m
    · obtain ⟨q, hq⟩ := least_exists m h1
      have hqx := Nat.div_add_mod m q
      rw [hq.2.1, Nat.add_zero] at hqx
      obtain ⟨x, hx⟩ : ∃ x, x = m / q := ⟨_, rfl⟩
      rw [← hx] at hqx
      have hx0 : 0 < x := by
        rcases Nat.eq_zero_or_pos x with h | h
        · rw [h] at hqx; omega
        · exact h
      have hxm : 2 * x ≤ m := by rw [← hqx]; exact Nat.mul_le_mul_right _ hq.1
      have hqm : q ≤ m := by rw [← hqx]; exact Nat.le_mul_of_pos_right _ hx0
      have hq2 := hq.1
      have t1 : (m : Int) / (q : Int) = (x : Int) := by rw [hx]; norm_cast
      have tq : ¬ (q = 0) := by omega
      have hleast := fun W => least_any m q hm (by omega) hq W
      have Hq := Lib.hid hq
      have Hqx := Lib.hid hqx
      have hpow2 : 2 ^ (L.length + 1) * x ≤ n := by
        have : 2 ^ L.length * (2 * x) ≤ 2 ^ L.length * m := Nat.mul_le_mul_left _ hxm
        rw [Nat.pow_succ, Nat.mul_assoc]; omega
      have Hpow2 := Lib.hid hpow2
      -- a new prime
      obtain ⟨v', w', hrun, hown', hbel'⟩ := app_factor _ w.heap.size _ L q 0 Hown.out (by omega) hb.size
      obtain ⟨g', cap', rfl, hg', hc1', hc2', hcp', hct', hcf', hset'⟩ := own_last hown'
      have Hrun := Lib.hid hrun
      have Hset' := Lib.hid (hset' 1)
      clear hx hqx hq hpow2 hrun hset' hacc hpow hqm
      rcases List.eq_nil_or_concat L with hL | ⟨L0, ⟨p, t⟩, hL⟩
      · subst hL
        have hct2 : w'.cell? ⟨g', 1, none⟩ = some (.int .i64 0) := hct'
        have hcf2 : w'.frozen? ⟨g', 1, none⟩ = false := hcf'
        have hac : Acc n x [(q, 1)] := Hacc.out.new Hq.out (fun L0 p t e => by cases L0 <;> cases e) Hqx.out.symm hx0
        have Hac := Lib.hid hac
        clear hown hown' hct' hcf' hcp' hac
        go_wp2_with (first
          | (go_at_call 50; refine (hleast _).mono ?_; rintro _ _ ⟨rfl, rfl⟩)
          | (at_builtin; refine wpList_append_done rfl _ _ _ _ rfl _ _ rfl rfl _ _ Hrun.out ?_))
        go_roundw
        case rel => exact ⟨x, [(q, 1)], rfl, Hset'.out.1, (hb.trans hbel').trans Hset'.out.2, hx0, by omega, Hac.out, Hpow2.out⟩
        case measure => simp [intOf]; omega
      · rw [List.concat_eq_append] at hL
        subst hL
        obtain ⟨g, cap, hv, hg, hc1, hc2, hcp, hct, hcf, hset⟩ := own_last hown
        injection hv with hv1 hv2 hv3
        subst hv1
        subst hv3
        have hN : (L0 ++ [(p, t)]).length = L0.length + 1 := by simp
        rw [hN] at hct' hcf' hcp'
        obtain ⟨N, hNe⟩ : ∃ N, N = L0.length := ⟨_, rfl⟩
        by_cases hpq : p = q
        · subst hpq
          have hac : Acc n x (L0 ++ [(p, t + 1)]) := by
            rcases Hacc.out with ⟨h, _⟩ | ⟨L1, p1, t1, m1, h, ht, hm1, hl1, _, hn1, hf1⟩
            · exact absurd h (by simp)
            · obtain ⟨e1, e2⟩ := List.append_inj' h rfl
              injection e2 with e3
              injection e3 with e4 e5
              subst e1 e4 e5
              exact Acc.more ht hm1 hl1 hn1 hf1 Hqx.out.symm hx0
          have hs := hset (t + 1)
          have ht31 : t < 4294967296 := by
            rcases Hacc.out with ⟨h, _⟩ | ⟨L1, p1, t1, m1, h, ht, hm1, hl1, hmp, hn1, hf1⟩
            · exact absurd h (by simp)
            · obtain ⟨e1, e2⟩ := List.append_inj' h rfl
              injection e2 with e3
              injection e3 with e4 e5
              subst e1 e4 e5
              have a1 : t < 2 ^ t := Nat.lt_two_pow_self
              have a2 : 2 ^ t ≤ p ^ t := Nat.pow_le_pow_left hl1.1 t
              have a3 : p ^ t ≤ p ^ t * m := Nat.le_mul_of_pos_right _ hmp
              omega
          have t2 : ((p : Int) != (p : Int)) = false := by simp
          have Hac := Lib.hid hac
          have Hs := Lib.hid hs
          have hNN := Lib.hid hN
          rw [hN] at hLn ⊢
          clear hown hown' hset hac hs hct' hcf' hcp' Hrun Hset' hbel'
          go_wp2_with (go_at_call 50; refine (hleast _).mono ?_; rintro _ _ ⟨rfl, rfl⟩)
          go_roundw
          case rel => exact ⟨x, L0 ++ [(p, t + 1)], rfl, by simpa using Hs.out.1, hb.trans (by simpa using Hs.out.2), hx0, by omega, Hac.out, by
            have h1 := Hpow2.out
            have h2 : 2 ^ (L0 ++ [(p, t)]).length ≤ 2 ^ ((L0 ++ [(p, t)]).length + 1) := Nat.pow_le_pow_right (by omega) (by omega)
            have h3 : 2 ^ (L0 ++ [(p, t)]).length * x ≤ 2 ^ ((L0 ++ [(p, t)]).length + 1) * x := Nat.mul_le_mul_right _ h2
            have h4 : (L0 ++ [(p, t + 1)]).length = (L0 ++ [(p, t)]).length := by simp
            rw [h4]; omega⟩
          case measure => simp [intOf]; omega
        · have hac : Acc n x ((L0 ++ [(p, t)]) ++ [(q, 1)]) := Hacc.out.new Hq.out (fun L1 p1 t1 e => by
            obtain ⟨_, e2⟩ := List.append_inj' e rfl
            injection e2 with e3
            injection e3 with e4
            rw [← e4]; exact hpq) Hqx.out.symm hx0
          have Hac := Lib.hid hac
          have t2 : ((p : Int) != (q : Int)) = true := by simp; omega
          have hNN := Lib.hid hN
          rw [hN] at hc1' hLn Hrun ⊢
          clear hown hown' hset hac
          go_wp2_with (first
            | (go_at_call 50; refine (hleast _).mono ?_; rintro _ _ ⟨rfl, rfl⟩)
            | (at_builtin; refine wpList_append_done rfl _ _ _ _ rfl _ _ rfl rfl _ _ Hrun.out ?_))
          go_roundw
          case rel =>
            have hs := Hset'.out
            rw [hNN.out] at hs
            exact ⟨x, (L0 ++ [(p, t)]) ++ [(q, 1)], rfl, hs.1, (hb.trans hbel').trans hs.2, hx0, by omega, Hac.out, by have := Hpow2.out; simpa using this⟩
          case measure => simp [intOf]; omega
    · obtain rfl : m = 1 := by omega
      have hF := Lib.hid (hacc.done h0)
      clear hacc hown hpow
      go_wp2
      go_ret
      first
        | exact ⟨_, rfl, L, hF.out, Hown.out, hb⟩
        | exact ⟨_, L, rfl, hF.out, Hown.out, hb⟩
end Go.Proofs.YtnjhppdcpjgfmaaDoor
