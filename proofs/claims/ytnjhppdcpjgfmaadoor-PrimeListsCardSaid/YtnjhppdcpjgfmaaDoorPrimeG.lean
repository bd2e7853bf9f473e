/- The contract of prime's Factors. No conditions. -/
import Derived.Test.YtnjhppdcpjgfmaaDoorPrimeF
namespace Go.Proofs.YtnjhppdcpjgfmaaDoor
open Go.RowKit

set_option maxHeartbeats 1600000 in
theorem factors_zero (w : World) : Calls Tryd.prog 24 #[.int .u32 0] w fun r w' => r = .returned (.slice none 0 0) ∧ w' = w := by
  go_enter Tryd.func24, Tryd.ntmps24
  go_wp2
  go_ret
  exact ⟨rfl, rfl⟩

set_option maxHeartbeats 1600000 in
theorem factors_any (n : Nat) (hn : n < 4294967296) (h0 : 0 < n) (w : World) :
    Calls Tryd.prog 24 #[.int .u32 (n : Int)] w fun r w' => ∃ v L, r = .returned v ∧ Fac n L ∧ w'.ownsRow w.heap.size 43 2 v L.length (facCells L) ∧ Below w.heap.size w w' := by
  have t0 : ((n : Int) == 0) = false := by simp; omega
  go_enter Tryd.func24, Tryd.ntmps24
  go_wp2
  go_loopw [0, 3, 4] (fun nv ov dv wr => ∃ (m d : Nat) (L : List (Nat × Nat)), nv = .int .u32 (m : Int) ∧ dv = .int .u32 (d : Int) ∧ wr.ownsRow w.heap.size 43 2 ov L.length (facCells L) ∧ Below w.heap.size w wr ∧ 0 < m ∧ m < 4294967296 ∧ NoDiv m d ∧ 2 ≤ d ∧ d ≤ 65536 ∧ L.length + 2 ≤ d ∧ ∀ l, Fac m l → Fac n (L ++ l)) (fun _ _ dv _ => 65537 - (intOf dv).toNat)
  case atStart => exact ⟨n, 2, [], rfl, rfl, ⟨rfl, .inl ⟨rfl, rfl⟩⟩, Below.refl _ _, h0, hn, NoDiv.two n, by omega, by omega, by simp, fun l hl => hl⟩
  case round =>
    obtain ⟨m, d, L, rfl, rfl, hown, hb, hm0, hm, hno, hd2, hdm, hLd, hfac⟩ := hrel
    obtain ⟨q, hq⟩ : ∃ q, q = d * d := ⟨_, rfl⟩
    have Hfac := Lib.hid hfac
    have Hno := Lib.hid hno
    have Hq := Lib.hid hq
    have Hown := Lib.hid hown
    by_cases hdd : d ≤ 65535 ∧ q ≤ m
    · obtain ⟨hd5, hqm⟩ := hdd
      have t1 : IntKind.u32.wrap ((d : Int) * (d : Int)) = (q : Int) := by
        rw [IntKind.wrap_u32, ← Int.natCast_mul, ← hq]; omega
      clear hfac hno hq hown
      have td : ¬ (d = 0) := by omega
      go_wp2
      go_loop [0, 5] (fun nv tv => ∃ (k c : Nat), nv = .int .u32 (k : Int) ∧ tv = .int .i64 (c : Int) ∧ m = d ^ c * k ∧ 0 < k ∧ k ≤ m ∧ c + k ≤ m) (fun nv _ => (intOf nv).toNat)
      case atStart => exact ⟨m, 0, rfl, rfl, by simp, hm0, by omega, by omega⟩
      case round =>
        obtain ⟨k, c, rfl, rfl, hk, hk0, hkm, hck⟩ := hrel
        by_cases hkd : k % d = 0
        · have t2 : ((k : Int) % (d : Int) == 0) = true := by
            rw [show (k : Int) % (d : Int) = ((k % d : Nat) : Int) from by norm_cast, hkd]; rfl
          have hdv := Nat.div_add_mod k d
          rw [hkd, Nat.add_zero] at hdv
          obtain ⟨x, hx⟩ : ∃ x, x = k / d := ⟨_, rfl⟩
          rw [← hx] at hdv
          have hx0 : 0 < x := by
            rcases Nat.eq_zero_or_pos x with h | h
            · rw [h] at hdv; omega
            · exact h
          have hxk : 2 * x ≤ k := by rw [← hdv]; exact Nat.mul_le_mul_right _ hd2
          have hk2 : m = d ^ (c + 1) * x := by rw [Nat.pow_succ, Nat.mul_assoc, hdv]; exact hk
          have t3 : (k : Int) / (d : Int) = (x : Int) := by rw [hx]; norm_cast
          have Hk2 := Lib.hid hk2
          clear hk hk2 hdv hx hkd
          go_wp2
          go_round
          case rel => exact ⟨x, c + 1, by go_num, by go_num, Hk2.out, hx0, by omega, by omega⟩
          case measure => simp [intOf]; omega
        · have t2 : ((k : Int) % (d : Int) == 0) = false := by
            rw [show (k : Int) % (d : Int) = ((k % d : Nat) : Int) from by norm_cast, beq_eq_false_iff_ne]; exact fun h => hkd (Int.ofNat.inj h)
          have Hk := Lib.hid hk
          have Hkd := Lib.hid hkd
          clear hk hkd
          rcases Nat.eq_zero_or_pos c with hc | hc
          · subst hc
            go_wp2
            go_roundw
            case rel => exact ⟨k, d + 1, L, rfl, by go_num, Hown.out, hb, hk0, by omega, by
              have := Hk.out; rw [Nat.pow_zero, Nat.one_mul] at this; rw [← this]; exact Hno.out.succ (by rw [this]; exact Hkd.out), by omega, by omega, by omega, by
              have := Hk.out; rw [Nat.pow_zero, Nat.one_mul] at this; rw [← this]; exact Hfac.out⟩
            case measure => simp [intOf]; omega
          · obtain ⟨v', w', hrun, hown', hbel'⟩ := app_factor _ w.heap.size _ L d c Hown.out (by omega) hb.size
            have Hrun := Lib.hid hrun
            have Hown' := Lib.hid hown'
            have hc1 : decide ((0 : Int) < (c : Int)) = true := by simp; omega
            clear hrun hown'
            go_wp2_with (at_builtin; refine wpList_append_done rfl _ _ _ _ rfl _ _ rfl rfl _ _ Hrun.out ?_)
            go_roundw
            case rel => exact ⟨k, d + 1, L ++ [(d, c)], rfl, by go_num, Hown'.out, hb.trans hbel', hk0, by omega, Hno.out.strip Hk.out Hkd.out, by omega, by omega, by simp; omega, Fac.step Hfac.out hc Hk.out hd2 Hno.out Hkd.out⟩
            case measure => simp [intOf]; omega
    · have hbig : m < d * d := by
        rcases Nat.lt_or_ge 65535 d with h | h
        · obtain rfl : d = 65536 := by omega
          omega
        · have := fun h2 => hdd ⟨h, h2⟩
          omega
      have Hlast := Lib.hid (fun h1 => Fac.last hno hbig h1)
      have hst : ∀ K : Prop, (65535 < d → K) → (d ≤ 65535 → IntKind.u32.wrap ((d : Int) * (d : Int)) = (q : Int) → q < 4294967296 → m < q → K) → K := fun K a b => by
        rcases Nat.lt_or_ge 65535 d with h5 | h5
        · exact a h5
        · have hq1 : d * d ≤ 65535 * 65535 := Nat.mul_le_mul h5 h5
          exact b h5 (by rw [IntKind.wrap_u32, ← Int.natCast_mul, ← hq]; omega) (by omega) (by omega)
      clear hfac hno hq hown hdd hbig
      by_cases h1 : 1 < m
      · obtain ⟨v', w', hrun, hown', hbel'⟩ := app_factor _ w.heap.size _ L m 1 Hown.out (by omega) hb.size
        have Hrun := Lib.hid hrun
        have Hown' := Lib.hid hown'
        clear hrun hown'
        refine hst _ (fun h5 => ?_) (fun h5 h6 h7 h8 => ?_)
        · clear hst
          go_wp2_with (at_builtin; refine wpList_append_done rfl _ _ _ _ rfl _ _ rfl rfl _ _ Hrun.out ?_)
          go_ret
          first
            | exact ⟨v', rfl, L ++ [(m, 1)], Hfac.out _ (Hlast.out h1), Hown'.out, hb.trans hbel'⟩
            | exact ⟨v', L ++ [(m, 1)], rfl, Hfac.out _ (Hlast.out h1), Hown'.out, hb.trans hbel'⟩
        · clear hst
          go_wp2_with (at_builtin; refine wpList_append_done rfl _ _ _ _ rfl _ _ rfl rfl _ _ Hrun.out ?_)
          go_ret
          first
            | exact ⟨v', rfl, L ++ [(m, 1)], Hfac.out _ (Hlast.out h1), Hown'.out, hb.trans hbel'⟩
            | exact ⟨v', L ++ [(m, 1)], rfl, Hfac.out _ (Hlast.out h1), Hown'.out, hb.trans hbel'⟩
      · obtain rfl : m = 1 := by omega
        refine hst _ (fun h5 => ?_) (fun h5 h6 h7 h8 => ?_)
        · clear hst
          go_wp2
          go_ret
          have hF := Hfac.out [] rfl
          rw [List.append_nil] at hF
          first
            | exact ⟨_, rfl, L, hF, Hown.out, hb⟩
            | exact ⟨_, L, rfl, hF, Hown.out, hb⟩
        · clear hst
          go_wp2
          go_ret
          have hF := Hfac.out [] rfl
          rw [List.append_nil] at hF
          first
            | exact ⟨_, rfl, L, hF, Hown.out, hb⟩
            | exact ⟨_, L, rfl, hF, Hown.out, hb⟩
end Go.Proofs.YtnjhppdcpjgfmaaDoor
