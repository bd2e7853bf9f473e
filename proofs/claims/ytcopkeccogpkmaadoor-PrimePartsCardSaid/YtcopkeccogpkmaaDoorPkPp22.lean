/- The library's sort at []uint32: partialInsertionSortOrdered, the long rows. Conditions: the row's size. -/
import Derived.Test.YtcopkeccogpkmaaDoorPkPp21
namespace Go.Proofs.YtcopkeccogpkmaaDoor
open Go.RowKit Go.Sort

set_option maxRecDepth 20000 in
set_option maxHeartbeats 12800000 in
theorem pins_many {p q : List Value} {g o : Nat} (ho : p.length = o) (cap a b : Nat) (d : Array Nat) (w : World) (h : Rw p q g d w) (hab : a < b) (hb : b ≤ d.size) (hsz : d.size < 2305843009213693952) (h50 : ¬ b - a < 50) :
    Calls Tryd.prog 30 #[.slice (some ⟨g, o, none⟩) d.size cap, .int .i64 (a : Int), .int .i64 (b : Int)] w fun e w' =>
      ∃ fl d2, partialInsertionSort ltN d a b = (d2, fl) ∧ e = .returned (.bool fl) ∧ Rw p q g d2 w' ∧ Tb g w w' ∧ d2.size = d.size := by
  obtain ⟨n, hn⟩ : ∃ n, n = d.size := ⟨_, rfl⟩
  rw [← hn] at hb hsz ⊢
  have HL : Hid (∀ (x y : Nat) W, Calls Tryd.prog 31 #[.int .u32 (x : Int), .int .u32 (y : Int)] W fun r W' => r = .returned (.bool (ltN x y)) ∧ W' = W) := fun x y W => lessN x y W
  obtain ⟨Z, hZ⟩ : ∃ Z, Z = partialInsertionSort ltN d a b := ⟨_, rfl⟩
  have HB : Hid (partialIns ltN a b (5 - 0) (a + 1) d = Z) := by show _ = _; rw [hZ]; rfl
  rw [← hZ]
  have HF0 : Hid (d.size = n) := hn.symm
  have HS0 := Lib.hid h
  have z50 : ¬ (b : Int) - (a : Int) < 50 := by omega
  clear h hn hZ
  go_enter Tryd.func30, Tryd.ntmps30
  go_wp2
  go_loopw [7, 8] (fun vi vs wq => ∃ (s i : Nat) (f : Array Nat), vs = .int .i64 (s : Int) ∧ vi = .int .i64 (i : Int) ∧ s ≤ 5 ∧ a < i ∧ i ≤ b ∧ Hid (f.size = n) ∧ Hid (Rw p q g f wq) ∧ Hid (Tb g w wq) ∧ Hid (partialIns ltN a b (5 - s) i f = Z)) (fun _ vs _ => 5 - (intOf vs).toNat)
  case atStart => exact ⟨0, a + 1, d, rfl, by go_num, by omega, by omega, by omega, HF0.out, HS0.out, Tb.refl _ _, HB.out⟩
  case round =>
    obtain ⟨s, i, f, rfl, rfl, hs, hai, hib, HF, HSr, HUr, HI⟩ := hrel
    by_cases hs5 : s < 5
    · have zs : (s : Int) < 5 := by omega
      go_wp2
      go_loopw [7] (fun vi wq => ∃ i2 : Nat, vi = .int .i64 (i2 : Int) ∧ i ≤ i2 ∧ i2 ≤ b ∧ Hid (Rw p q g f wq) ∧ Hid (Tb g w wq) ∧ Hid (scanSorted ltN f b i2 = scanSorted ltN f b i)) (fun vi _ => b - (intOf vi).toNat)
      case atStart => exact ⟨i, rfl, Nat.le_refl _, hib, HSr.out, HUr.out, rfl⟩
      case round =>
        obtain ⟨i2, rfl, h1i, h2i, HSc, HUc, HC⟩ := hrel
        obtain ⟨G, hG⟩ : ∃ G : Nat → Nat, ∀ t, G t = f[t]! := ⟨fun t => f[t]!, fun _ => rfl⟩
        have HG := Lib.hid hG
        have hcc : ∀ t, t < n → wr.cell? ⟨g, o + t, none⟩ = some (.int .u32 (G t : Int)) := fun t ht => by rw [hG]; exact HSc.out.cell ho (by rw [HF.out]; exact ht)
        have hfc : ∀ t, t < n → wr.frozen? ⟨g, o + t, none⟩ = false := fun t _ => HSc.out.frozen _
        clear hG
        by_cases hle : i2 < b
        · have zl : (i2 : Int) < (b : Int) := by omega
          have zq : ((i2 : Int) == (b : Int)) = false := by simp; omega
          go_wp2
          go_quiet (first | (go_at_call 31; refine Calls.quiet_of_same (HL.out _ _ _)))
          go_wp2
          · have hp : (!ltN (G i2) (G (i2 - 1))) = true := by assumption
            go_roundw
            case rel => exact ⟨i2 + 1, by go_num, by omega, by omega, HSc.out.drewN _, HUc.out.drewN _, by show _ = _; rw [← HC.out, ss_go f b i2 hle (by rw [← HG.out, ← HG.out]; exact hp)]⟩
            case measure => simp [intOf]; omega
          · have hp : (!ltN (G i2) (G (i2 - 1))) = false := by assumption
            have HE : Hid (scanSorted ltN f b i = i2) := by show _ = _; rw [← HC.out, ss_end f b i2 (.inr (by rw [← HG.out, ← HG.out]; exact hp))]
            clear hp
            revert nq; intro nqx
            have hcx : ∀ t, t < n → (wr.drewN nqx).cell? ⟨g, o + t, none⟩ = some (.int .u32 (G t : Int)) := hcc
            have hfx : ∀ t, t < n → (wr.drewN nqx).frozen? ⟨g, o + t, none⟩ = false := hfc
            have HSx := Lib.hid (HSc.out.drewN nqx)
            have HUx := Lib.hid (HUc.out.drewN nqx)
            clear hcc hfc
            generalize wr.drewN nqx = wx at hcx hfx HSx HUx ⊢
            have HZs : Hid (partialIns ltN a b (5 - (s + 1)) i2 (fixUp ltN b i2 (fixDown ltN a i2 (swp f i2 (i2 - 1)))) = Z) := by show _ = _; rw [← HI.out, pi_on a b s i i2 f hs5 HE.out (by omega) h50]
            have hz1 := (HSx.out.put ho (i2) (G (i2 - 1)) (by rw [HF.out]; omega))
            have c2 := hz1.cell ho (t := i2 - 1) (by rw [Array.size_setIfInBounds, HF.out]; omega)
            have f2 := hz1.frozen (o + (i2 - 1))
            have hz2 := HSx.out.swap ho (j := i2) (k := i2 - 1) (by rw [HF.out]; omega) (by rw [HF.out]; omega) (HG.out _) (HG.out _)
            have HZ := Lib.hid hz2
            have HFs : Hid ((swp f (i2) (i2 - 1)).size = n) := by show _ = _; rw [swp_size]; exact HF.out
            generalize (f.setIfInBounds (i2) (G (i2 - 1)))[i2 - 1]! = y2 at c2
            clear hz1 hz2
            obtain ⟨f1, hf1⟩ : ∃ f1, f1 = swp f i2 (i2 - 1) := ⟨_, rfl⟩
            rw [← hf1] at HZs HZ HFs
            have HZ0 := HZs
            have HF1 := HFs
            have HS1 := Lib.hid HZ.out.drew
            have HU1 := Lib.hid ((HUx.out.setCell (o + i2) (.int .u32 (G (i2 - 1) : Int))).setCell (o + (i2 - 1)) (.int .u32 (G i2 : Int))).drew
            clear hf1 HZs HZ HFs
            by_cases hA : i2 - a ≥ 2
            · have zA : (2 : Int) ≤ (i2 : Int) - (a : Int) := by omega
              by_cases hB : b - i2 ≥ 2
              · have zB : (2 : Int) ≤ (b : Int) - (i2 : Int) := by omega
                go_region
                all_goals go_wp2
                go_loopw [9] (fun vj wq => ∃ (j : Nat) (e3 : Array Nat), vj = .int .i64 (j : Int) ∧ j < i2 ∧ Hid (e3.size = n) ∧ Hid (Rw p q g e3 wq) ∧ Hid (Tb g w wq) ∧ Hid (shiftDown ltN j e3 = shiftDown ltN (i2 - 1) f1)) (fun vj _ => (intOf vj).toNat)
                case atStart => exact ⟨i2 - 1, f1, by congr 1; omega, by omega, HF1.out, HS1.out, HU1.out, rfl⟩
                case round =>
                  obtain ⟨j, e3, rfl, hj1, HF3, HS3, HU3, HV3⟩ := hrel
                  clear HG
                  obtain ⟨G, hG⟩ : ∃ G : Nat → Nat, ∀ t, G t = e3[t]! := ⟨fun t => e3[t]!, fun _ => rfl⟩
                  have HG := Lib.hid hG
                  have hc3 : ∀ t, t < n → wr.cell? ⟨g, o + t, none⟩ = some (.int .u32 (G t : Int)) := fun t ht => by rw [hG]; exact HS3.out.cell ho (by rw [HF3.out]; exact ht)
                  have hf3 : ∀ t, t < n → wr.frozen? ⟨g, o + t, none⟩ = false := fun t _ => HS3.out.frozen _
                  clear hG
                  by_cases hj0 : 1 ≤ j
                  · have zj : (1 : Int) ≤ (j : Int) := by omega
                    go_wp2
                    go_quiet (first | (go_at_call 31; refine Calls.quiet_of_same (HL.out _ _ _)))
                    go_wp2
                    · have hp : (!ltN (G j) (G (j - 1))) = true := by assumption
                      have HX3 : Hid (shiftDown ltN j e3 = e3) := by show _ = _; exact dn_end j e3 (.inr (by rw [← HG.out, ← HG.out]; exact hp))
                      clear hp
                      revert nq; intro nq3x
                      have hc3x : ∀ t, t < n → (wr.drewN nq3x).cell? ⟨g, o + t, none⟩ = some (.int .u32 (G t : Int)) := hc3
                      have hf3x : ∀ t, t < n → (wr.drewN nq3x).frozen? ⟨g, o + t, none⟩ = false := hf3
                      have HS3x := Lib.hid (HS3.out.drewN nq3x)
                      have HU3x := Lib.hid (HU3.out.drewN nq3x)
                      clear hc3 hf3
                      generalize wr.drewN nq3x = w3x at hc3x hf3x HS3x HU3x ⊢
                      have HD3 : Hid (partialIns ltN a b (5 - (s + 1)) i2 (fixUp ltN b i2 e3) = Z) := by
                        show _ = _
                        have h9 : fixDown ltN a i2 f1 = e3 := by unfold fixDown; rw [if_pos hA, ← HV3.out]; exact HX3.out
                        rw [← h9]; exact HZ0.out
                      go_loopw [10] (fun vj wq => ∃ (j : Nat) (e4 : Array Nat), vj = .int .i64 (j : Int) ∧ i2 < j ∧ j ≤ b ∧ Hid (e4.size = n) ∧ Hid (Rw p q g e4 wq) ∧ Hid (Tb g w wq) ∧ Hid (shiftUp ltN b j e4 = shiftUp ltN b (i2 + 1) e3)) (fun vj _ => b - (intOf vj).toNat)
                      case atStart => exact ⟨i2 + 1, e3, by go_num, by omega, by omega, HF3.out, HS3x.out, HU3x.out, rfl⟩
                      case round =>
                        obtain ⟨j, e4, rfl, hj1, hj2, HF4, HS4, HU4, HV⟩ := hrel
                        clear HG
                        obtain ⟨G, hG⟩ : ∃ G : Nat → Nat, ∀ t, G t = e4[t]! := ⟨fun t => e4[t]!, fun _ => rfl⟩
                        have HG := Lib.hid hG
                        have hc4 : ∀ t, t < n → wr.cell? ⟨g, o + t, none⟩ = some (.int .u32 (G t : Int)) := fun t ht => by rw [hG]; exact HS4.out.cell ho (by rw [HF4.out]; exact ht)
                        have hf4 : ∀ t, t < n → wr.frozen? ⟨g, o + t, none⟩ = false := fun t _ => HS4.out.frozen _
                        clear hG
                        by_cases hjb : j < b
                        · have zj : (j : Int) < (b : Int) := by omega
                          go_wp2
                          go_quiet (first | (go_at_call 31; refine Calls.quiet_of_same (HL.out _ _ _)))
                          go_wp2
                          · have hp : (!ltN (G j) (G (j - 1))) = true := by assumption
                            have HX4 : Hid (shiftUp ltN b j e4 = e4) := by show _ = _; exact up_end4 b j e4 (.inr (by rw [← HG.out, ← HG.out]; exact hp))
                            clear hp
                            revert nq; intro nq4x
                            have hc4x : ∀ t, t < n → (wr.drewN nq4x).cell? ⟨g, o + t, none⟩ = some (.int .u32 (G t : Int)) := hc4
                            have hf4x : ∀ t, t < n → (wr.drewN nq4x).frozen? ⟨g, o + t, none⟩ = false := hf4
                            have HS4x := Lib.hid (HS4.out.drewN nq4x)
                            have HU4x := Lib.hid (HU4.out.drewN nq4x)
                            clear hc4 hf4
                            generalize wr.drewN nq4x = w4x at hc4x hf4x HS4x HU4x ⊢
                            have HI4 : Hid (partialIns ltN a b (5 - (s + 1)) i2 e4 = Z) := by
                              show _ = _
                              have h9 : fixUp ltN b i2 e3 = e4 := by unfold fixUp; rw [if_pos hB, ← HV.out]; exact HX4.out
                              rw [← h9]; exact HD3.out
                            go_roundw
                            case rel => exact ⟨s + 1, i2, e4, by go_num, rfl, by omega, by omega, by omega, HF4.out, HS4x.out, HU4x.out, HI4.out⟩
                            case measure => simp [intOf]; omega
                          · have hp : (!ltN (G j) (G (j - 1))) = false := by assumption
                            have HV2 : Hid (shiftUp ltN b (j + 1) (swp e4 j (j - 1)) = shiftUp ltN b (i2 + 1) e3) := by show _ = _; rw [← HV.out, up_go4 b j e4 hjb (by rw [← HG.out, ← HG.out]; exact hp)]
                            clear hp
                            revert nq; intro nq4y
                            have hc4y : ∀ t, t < n → (wr.drewN nq4y).cell? ⟨g, o + t, none⟩ = some (.int .u32 (G t : Int)) := hc4
                            have hf4y : ∀ t, t < n → (wr.drewN nq4y).frozen? ⟨g, o + t, none⟩ = false := hf4
                            have HS4y := Lib.hid (HS4.out.drewN nq4y)
                            have HU4y := Lib.hid (HU4.out.drewN nq4y)
                            clear hc4 hf4
                            generalize wr.drewN nq4y = w4y at hc4y hf4y HS4y HU4y ⊢
                            have hz1 := (HS4y.out.put ho (j) (G (j - 1)) (by rw [HF4.out]; omega))
                            have c2 := hz1.cell ho (t := j - 1) (by rw [Array.size_setIfInBounds, HF4.out]; omega)
                            have f2 := hz1.frozen (o + (j - 1))
                            have hz2 := HS4y.out.swap ho (j := j) (k := j - 1) (by rw [HF4.out]; omega) (by rw [HF4.out]; omega) (HG.out _) (HG.out _)
                            have HZ := Lib.hid hz2
                            have HFs : Hid ((swp e4 (j) (j - 1)).size = n) := by show _ = _; rw [swp_size]; exact HF4.out
                            generalize (e4.setIfInBounds (j) (G (j - 1)))[j - 1]! = y2 at c2
                            clear hz1 hz2
                            go_region
                            all_goals go_wp2
                            go_roundw
                            case rel => exact ⟨j + 1, swp e4 j (j - 1), by go_num, by omega, by omega, HFs.out, HZ.out.drew, ((HU4y.out.setCell _ _).setCell _ _).drew, HV2.out⟩
                            case measure => simp [intOf]; omega
                        · have zj : decide ((j : Int) < (b : Int)) = false := decide_eq_false (by omega)
                          have HX4 : Hid (shiftUp ltN b j e4 = e4) := by show _ = _; exact up_end4 b j e4 (.inl hjb)
                          go_wp2
                          have HI4 : Hid (partialIns ltN a b (5 - (s + 1)) i2 e4 = Z) := by
                            show _ = _
                            have h9 : fixUp ltN b i2 e3 = e4 := by unfold fixUp; rw [if_pos hB, ← HV.out]; exact HX4.out
                            rw [← h9]; exact HD3.out
                          go_roundw
                          case rel => exact ⟨s + 1, i2, e4, by go_num, rfl, by omega, by omega, by omega, HF4.out, HS4.out, HU4.out, HI4.out⟩
                          case measure => simp [intOf]; omega
                    · have hp : (!ltN (G j) (G (j - 1))) = false := by assumption
                      have HV2 : Hid (shiftDown ltN (j - 1) (swp e3 j (j - 1)) = shiftDown ltN (i2 - 1) f1) := by show _ = _; rw [← HV3.out, dn_go j e3 hj0 (by rw [← HG.out, ← HG.out]; exact hp)]
                      clear hp
                      revert nq; intro nq3y
                      have hc3y : ∀ t, t < n → (wr.drewN nq3y).cell? ⟨g, o + t, none⟩ = some (.int .u32 (G t : Int)) := hc3
                      have hf3y : ∀ t, t < n → (wr.drewN nq3y).frozen? ⟨g, o + t, none⟩ = false := hf3
                      have HS3y := Lib.hid (HS3.out.drewN nq3y)
                      have HU3y := Lib.hid (HU3.out.drewN nq3y)
                      clear hc3 hf3
                      generalize wr.drewN nq3y = w3y at hc3y hf3y HS3y HU3y ⊢
                      have hz1 := (HS3y.out.put ho (j) (G (j - 1)) (by rw [HF3.out]; omega))
                      have c2 := hz1.cell ho (t := j - 1) (by rw [Array.size_setIfInBounds, HF3.out]; omega)
                      have f2 := hz1.frozen (o + (j - 1))
                      have hz2 := HS3y.out.swap ho (j := j) (k := j - 1) (by rw [HF3.out]; omega) (by rw [HF3.out]; omega) (HG.out _) (HG.out _)
                      have HZ := Lib.hid hz2
                      have HFs : Hid ((swp e3 (j) (j - 1)).size = n) := by show _ = _; rw [swp_size]; exact HF3.out
                      generalize (e3.setIfInBounds (j) (G (j - 1)))[j - 1]! = y2 at c2
                      clear hz1 hz2
                      go_region
                      all_goals go_wp2
                      go_roundw
                      case rel => exact ⟨j - 1, swp e3 j (j - 1), by congr 1; omega, by omega, HFs.out, HZ.out.drew, ((HU3y.out.setCell _ _).setCell _ _).drew, HV2.out⟩
                      case measure => simp [intOf]; omega
                  · have zj : decide ((1 : Int) ≤ (j : Int)) = false := decide_eq_false (by omega)
                    have HX3 : Hid (shiftDown ltN j e3 = e3) := by show _ = _; exact dn_end j e3 (.inl (by omega))
                    go_wp2
                    have HD3 : Hid (partialIns ltN a b (5 - (s + 1)) i2 (fixUp ltN b i2 e3) = Z) := by
                      show _ = _
                      have h9 : fixDown ltN a i2 f1 = e3 := by unfold fixDown; rw [if_pos hA, ← HV3.out]; exact HX3.out
                      rw [← h9]; exact HZ0.out
                    go_loopw [10] (fun vj wq => ∃ (j : Nat) (e4 : Array Nat), vj = .int .i64 (j : Int) ∧ i2 < j ∧ j ≤ b ∧ Hid (e4.size = n) ∧ Hid (Rw p q g e4 wq) ∧ Hid (Tb g w wq) ∧ Hid (shiftUp ltN b j e4 = shiftUp ltN b (i2 + 1) e3)) (fun vj _ => b - (intOf vj).toNat)
                    case atStart => exact ⟨i2 + 1, e3, by go_num, by omega, by omega, HF3.out, HS3.out, HU3.out, rfl⟩
                    case round =>
                      obtain ⟨j, e4, rfl, hj1, hj2, HF4, HS4, HU4, HV⟩ := hrel
                      clear HG
                      obtain ⟨G, hG⟩ : ∃ G : Nat → Nat, ∀ t, G t = e4[t]! := ⟨fun t => e4[t]!, fun _ => rfl⟩
                      have HG := Lib.hid hG
                      have hc4 : ∀ t, t < n → wr.cell? ⟨g, o + t, none⟩ = some (.int .u32 (G t : Int)) := fun t ht => by rw [hG]; exact HS4.out.cell ho (by rw [HF4.out]; exact ht)
                      have hf4 : ∀ t, t < n → wr.frozen? ⟨g, o + t, none⟩ = false := fun t _ => HS4.out.frozen _
                      clear hG
                      by_cases hjb : j < b
                      · have zj : (j : Int) < (b : Int) := by omega
                        go_wp2
                        go_quiet (first | (go_at_call 31; refine Calls.quiet_of_same (HL.out _ _ _)))
                        go_wp2
                        · have hp : (!ltN (G j) (G (j - 1))) = true := by assumption
                          have HX4 : Hid (shiftUp ltN b j e4 = e4) := by show _ = _; exact up_end4 b j e4 (.inr (by rw [← HG.out, ← HG.out]; exact hp))
                          clear hp
                          revert nq; intro nq4x
                          have hc4x : ∀ t, t < n → (wr.drewN nq4x).cell? ⟨g, o + t, none⟩ = some (.int .u32 (G t : Int)) := hc4
                          have hf4x : ∀ t, t < n → (wr.drewN nq4x).frozen? ⟨g, o + t, none⟩ = false := hf4
                          have HS4x := Lib.hid (HS4.out.drewN nq4x)
                          have HU4x := Lib.hid (HU4.out.drewN nq4x)
                          clear hc4 hf4
                          generalize wr.drewN nq4x = w4x at hc4x hf4x HS4x HU4x ⊢
                          have HI4 : Hid (partialIns ltN a b (5 - (s + 1)) i2 e4 = Z) := by
                            show _ = _
                            have h9 : fixUp ltN b i2 e3 = e4 := by unfold fixUp; rw [if_pos hB, ← HV.out]; exact HX4.out
                            rw [← h9]; exact HD3.out
                          go_roundw
                          case rel => exact ⟨s + 1, i2, e4, by go_num, rfl, by omega, by omega, by omega, HF4.out, HS4x.out, HU4x.out, HI4.out⟩
                          case measure => simp [intOf]; omega
                        · have hp : (!ltN (G j) (G (j - 1))) = false := by assumption
                          have HV2 : Hid (shiftUp ltN b (j + 1) (swp e4 j (j - 1)) = shiftUp ltN b (i2 + 1) e3) := by show _ = _; rw [← HV.out, up_go4 b j e4 hjb (by rw [← HG.out, ← HG.out]; exact hp)]
                          clear hp
                          revert nq; intro nq4y
                          have hc4y : ∀ t, t < n → (wr.drewN nq4y).cell? ⟨g, o + t, none⟩ = some (.int .u32 (G t : Int)) := hc4
                          have hf4y : ∀ t, t < n → (wr.drewN nq4y).frozen? ⟨g, o + t, none⟩ = false := hf4
                          have HS4y := Lib.hid (HS4.out.drewN nq4y)
                          have HU4y := Lib.hid (HU4.out.drewN nq4y)
                          clear hc4 hf4
                          generalize wr.drewN nq4y = w4y at hc4y hf4y HS4y HU4y ⊢
                          have hz1 := (HS4y.out.put ho (j) (G (j - 1)) (by rw [HF4.out]; omega))
                          have c2 := hz1.cell ho (t := j - 1) (by rw [Array.size_setIfInBounds, HF4.out]; omega)
                          have f2 := hz1.frozen (o + (j - 1))
                          have hz2 := HS4y.out.swap ho (j := j) (k := j - 1) (by rw [HF4.out]; omega) (by rw [HF4.out]; omega) (HG.out _) (HG.out _)
                          have HZ := Lib.hid hz2
                          have HFs : Hid ((swp e4 (j) (j - 1)).size = n) := by show _ = _; rw [swp_size]; exact HF4.out
                          generalize (e4.setIfInBounds (j) (G (j - 1)))[j - 1]! = y2 at c2
                          clear hz1 hz2
                          go_region
                          all_goals go_wp2
                          go_roundw
                          case rel => exact ⟨j + 1, swp e4 j (j - 1), by go_num, by omega, by omega, HFs.out, HZ.out.drew, ((HU4y.out.setCell _ _).setCell _ _).drew, HV2.out⟩
                          case measure => simp [intOf]; omega
                      · have zj : decide ((j : Int) < (b : Int)) = false := decide_eq_false (by omega)
                        have HX4 : Hid (shiftUp ltN b j e4 = e4) := by show _ = _; exact up_end4 b j e4 (.inl hjb)
                        go_wp2
                        have HI4 : Hid (partialIns ltN a b (5 - (s + 1)) i2 e4 = Z) := by
                          show _ = _
                          have h9 : fixUp ltN b i2 e3 = e4 := by unfold fixUp; rw [if_pos hB, ← HV.out]; exact HX4.out
                          rw [← h9]; exact HD3.out
                        go_roundw
                        case rel => exact ⟨s + 1, i2, e4, by go_num, rfl, by omega, by omega, by omega, HF4.out, HS4.out, HU4.out, HI4.out⟩
                        case measure => simp [intOf]; omega
              · have zB : ¬ (2 : Int) ≤ (b : Int) - (i2 : Int) := by omega
                go_region
                all_goals go_wp2
                go_loopw [9] (fun vj wq => ∃ (j : Nat) (e3 : Array Nat), vj = .int .i64 (j : Int) ∧ j < i2 ∧ Hid (e3.size = n) ∧ Hid (Rw p q g e3 wq) ∧ Hid (Tb g w wq) ∧ Hid (shiftDown ltN j e3 = shiftDown ltN (i2 - 1) f1)) (fun vj _ => (intOf vj).toNat)
                case atStart => exact ⟨i2 - 1, f1, by congr 1; omega, by omega, HF1.out, HS1.out, HU1.out, rfl⟩
                case round =>
                  obtain ⟨j, e3, rfl, hj1, HF3, HS3, HU3, HV3⟩ := hrel
                  clear HG
                  obtain ⟨G, hG⟩ : ∃ G : Nat → Nat, ∀ t, G t = e3[t]! := ⟨fun t => e3[t]!, fun _ => rfl⟩
                  have HG := Lib.hid hG
                  have hc3 : ∀ t, t < n → wr.cell? ⟨g, o + t, none⟩ = some (.int .u32 (G t : Int)) := fun t ht => by rw [hG]; exact HS3.out.cell ho (by rw [HF3.out]; exact ht)
                  have hf3 : ∀ t, t < n → wr.frozen? ⟨g, o + t, none⟩ = false := fun t _ => HS3.out.frozen _
                  clear hG
                  by_cases hj0 : 1 ≤ j
                  · have zj : (1 : Int) ≤ (j : Int) := by omega
                    go_wp2
                    go_quiet (first | (go_at_call 31; refine Calls.quiet_of_same (HL.out _ _ _)))
                    go_wp2
                    · have hp : (!ltN (G j) (G (j - 1))) = true := by assumption
                      have HX3 : Hid (shiftDown ltN j e3 = e3) := by show _ = _; exact dn_end j e3 (.inr (by rw [← HG.out, ← HG.out]; exact hp))
                      clear hp
                      revert nq; intro nq3x
                      have hc3x : ∀ t, t < n → (wr.drewN nq3x).cell? ⟨g, o + t, none⟩ = some (.int .u32 (G t : Int)) := hc3
                      have hf3x : ∀ t, t < n → (wr.drewN nq3x).frozen? ⟨g, o + t, none⟩ = false := hf3
                      have HS3x := Lib.hid (HS3.out.drewN nq3x)
                      have HU3x := Lib.hid (HU3.out.drewN nq3x)
                      clear hc3 hf3
                      generalize wr.drewN nq3x = w3x at hc3x hf3x HS3x HU3x ⊢
                      have HD3 : Hid (partialIns ltN a b (5 - (s + 1)) i2 (fixUp ltN b i2 e3) = Z) := by
                        show _ = _
                        have h9 : fixDown ltN a i2 f1 = e3 := by unfold fixDown; rw [if_pos hA, ← HV3.out]; exact HX3.out
                        rw [← h9]; exact HZ0.out
                      have HI4 : Hid (partialIns ltN a b (5 - (s + 1)) i2 e3 = Z) := by
                        show _ = _
                        have h9 : fixUp ltN b i2 e3 = e3 := by unfold fixUp; rw [if_neg hB]
                        rw [← h9]; exact HD3.out
                      go_roundw
                      case rel => exact ⟨s + 1, i2, e3, by go_num, rfl, by omega, by omega, by omega, HF3.out, HS3x.out, HU3x.out, HI4.out⟩
                      case measure => simp [intOf]; omega
                    · have hp : (!ltN (G j) (G (j - 1))) = false := by assumption
                      have HV2 : Hid (shiftDown ltN (j - 1) (swp e3 j (j - 1)) = shiftDown ltN (i2 - 1) f1) := by show _ = _; rw [← HV3.out, dn_go j e3 hj0 (by rw [← HG.out, ← HG.out]; exact hp)]
                      clear hp
                      revert nq; intro nq3y
                      have hc3y : ∀ t, t < n → (wr.drewN nq3y).cell? ⟨g, o + t, none⟩ = some (.int .u32 (G t : Int)) := hc3
                      have hf3y : ∀ t, t < n → (wr.drewN nq3y).frozen? ⟨g, o + t, none⟩ = false := hf3
                      have HS3y := Lib.hid (HS3.out.drewN nq3y)
                      have HU3y := Lib.hid (HU3.out.drewN nq3y)
                      clear hc3 hf3
                      generalize wr.drewN nq3y = w3y at hc3y hf3y HS3y HU3y ⊢
                      have hz1 := (HS3y.out.put ho (j) (G (j - 1)) (by rw [HF3.out]; omega))
                      have c2 := hz1.cell ho (t := j - 1) (by rw [Array.size_setIfInBounds, HF3.out]; omega)
                      have f2 := hz1.frozen (o + (j - 1))
                      have hz2 := HS3y.out.swap ho (j := j) (k := j - 1) (by rw [HF3.out]; omega) (by rw [HF3.out]; omega) (HG.out _) (HG.out _)
                      have HZ := Lib.hid hz2
                      have HFs : Hid ((swp e3 (j) (j - 1)).size = n) := by show _ = _; rw [swp_size]; exact HF3.out
                      generalize (e3.setIfInBounds (j) (G (j - 1)))[j - 1]! = y2 at c2
                      clear hz1 hz2
                      go_region
                      all_goals go_wp2
                      go_roundw
                      case rel => exact ⟨j - 1, swp e3 j (j - 1), by congr 1; omega, by omega, HFs.out, HZ.out.drew, ((HU3y.out.setCell _ _).setCell _ _).drew, HV2.out⟩
                      case measure => simp [intOf]; omega
                  · have zj : decide ((1 : Int) ≤ (j : Int)) = false := decide_eq_false (by omega)
                    have HX3 : Hid (shiftDown ltN j e3 = e3) := by show _ = _; exact dn_end j e3 (.inl (by omega))
                    go_wp2
                    have HD3 : Hid (partialIns ltN a b (5 - (s + 1)) i2 (fixUp ltN b i2 e3) = Z) := by
                      show _ = _
                      have h9 : fixDown ltN a i2 f1 = e3 := by unfold fixDown; rw [if_pos hA, ← HV3.out]; exact HX3.out
                      rw [← h9]; exact HZ0.out
                    have HI4 : Hid (partialIns ltN a b (5 - (s + 1)) i2 e3 = Z) := by
                      show _ = _
                      have h9 : fixUp ltN b i2 e3 = e3 := by unfold fixUp; rw [if_neg hB]
                      rw [← h9]; exact HD3.out
                    go_roundw
                    case rel => exact ⟨s + 1, i2, e3, by go_num, rfl, by omega, by omega, by omega, HF3.out, HS3.out, HU3.out, HI4.out⟩
                    case measure => simp [intOf]; omega
            · have zA : ¬ (2 : Int) ≤ (i2 : Int) - (a : Int) := by omega
              have HD3 : Hid (partialIns ltN a b (5 - (s + 1)) i2 (fixUp ltN b i2 f1) = Z) := by
                show _ = _
                have h9 : fixDown ltN a i2 f1 = f1 := by unfold fixDown; rw [if_neg hA]
                rw [h9] at HZ0; exact HZ0.out
              by_cases hB : b - i2 ≥ 2
              · have zB : (2 : Int) ≤ (b : Int) - (i2 : Int) := by omega
                go_region
                all_goals go_wp2
                go_loopw [10] (fun vj wq => ∃ (j : Nat) (e4 : Array Nat), vj = .int .i64 (j : Int) ∧ i2 < j ∧ j ≤ b ∧ Hid (e4.size = n) ∧ Hid (Rw p q g e4 wq) ∧ Hid (Tb g w wq) ∧ Hid (shiftUp ltN b j e4 = shiftUp ltN b (i2 + 1) f1)) (fun vj _ => b - (intOf vj).toNat)
                case atStart => exact ⟨i2 + 1, f1, by go_num, by omega, by omega, HF1.out, HS1.out, HU1.out, rfl⟩
                case round =>
                  obtain ⟨j, e4, rfl, hj1, hj2, HF4, HS4, HU4, HV⟩ := hrel
                  clear HG
                  obtain ⟨G, hG⟩ : ∃ G : Nat → Nat, ∀ t, G t = e4[t]! := ⟨fun t => e4[t]!, fun _ => rfl⟩
                  have HG := Lib.hid hG
                  have hc4 : ∀ t, t < n → wr.cell? ⟨g, o + t, none⟩ = some (.int .u32 (G t : Int)) := fun t ht => by rw [hG]; exact HS4.out.cell ho (by rw [HF4.out]; exact ht)
                  have hf4 : ∀ t, t < n → wr.frozen? ⟨g, o + t, none⟩ = false := fun t _ => HS4.out.frozen _
                  clear hG
                  by_cases hjb : j < b
                  · have zj : (j : Int) < (b : Int) := by omega
                    go_wp2
                    go_quiet (first | (go_at_call 31; refine Calls.quiet_of_same (HL.out _ _ _)))
                    go_wp2
                    · have hp : (!ltN (G j) (G (j - 1))) = true := by assumption
                      have HX4 : Hid (shiftUp ltN b j e4 = e4) := by show _ = _; exact up_end4 b j e4 (.inr (by rw [← HG.out, ← HG.out]; exact hp))
                      clear hp
                      revert nq; intro nq4x
                      have hc4x : ∀ t, t < n → (wr.drewN nq4x).cell? ⟨g, o + t, none⟩ = some (.int .u32 (G t : Int)) := hc4
                      have hf4x : ∀ t, t < n → (wr.drewN nq4x).frozen? ⟨g, o + t, none⟩ = false := hf4
                      have HS4x := Lib.hid (HS4.out.drewN nq4x)
                      have HU4x := Lib.hid (HU4.out.drewN nq4x)
                      clear hc4 hf4
                      generalize wr.drewN nq4x = w4x at hc4x hf4x HS4x HU4x ⊢
                      have HI4 : Hid (partialIns ltN a b (5 - (s + 1)) i2 e4 = Z) := by
                        show _ = _
                        have h9 : fixUp ltN b i2 f1 = e4 := by unfold fixUp; rw [if_pos hB, ← HV.out]; exact HX4.out
                        rw [← h9]; exact HD3.out
                      go_roundw
                      case rel => exact ⟨s + 1, i2, e4, by go_num, rfl, by omega, by omega, by omega, HF4.out, HS4x.out, HU4x.out, HI4.out⟩
                      case measure => simp [intOf]; omega
                    · have hp : (!ltN (G j) (G (j - 1))) = false := by assumption
                      have HV2 : Hid (shiftUp ltN b (j + 1) (swp e4 j (j - 1)) = shiftUp ltN b (i2 + 1) f1) := by show _ = _; rw [← HV.out, up_go4 b j e4 hjb (by rw [← HG.out, ← HG.out]; exact hp)]
                      clear hp
                      revert nq; intro nq4y
                      have hc4y : ∀ t, t < n → (wr.drewN nq4y).cell? ⟨g, o + t, none⟩ = some (.int .u32 (G t : Int)) := hc4
                      have hf4y : ∀ t, t < n → (wr.drewN nq4y).frozen? ⟨g, o + t, none⟩ = false := hf4
                      have HS4y := Lib.hid (HS4.out.drewN nq4y)
                      have HU4y := Lib.hid (HU4.out.drewN nq4y)
                      clear hc4 hf4
                      generalize wr.drewN nq4y = w4y at hc4y hf4y HS4y HU4y ⊢
                      have hz1 := (HS4y.out.put ho (j) (G (j - 1)) (by rw [HF4.out]; omega))
                      have c2 := hz1.cell ho (t := j - 1) (by rw [Array.size_setIfInBounds, HF4.out]; omega)
                      have f2 := hz1.frozen (o + (j - 1))
                      have hz2 := HS4y.out.swap ho (j := j) (k := j - 1) (by rw [HF4.out]; omega) (by rw [HF4.out]; omega) (HG.out _) (HG.out _)
                      have HZ := Lib.hid hz2
                      have HFs : Hid ((swp e4 (j) (j - 1)).size = n) := by show _ = _; rw [swp_size]; exact HF4.out
                      generalize (e4.setIfInBounds (j) (G (j - 1)))[j - 1]! = y2 at c2
                      clear hz1 hz2
                      go_region
                      all_goals go_wp2
                      go_roundw
                      case rel => exact ⟨j + 1, swp e4 j (j - 1), by go_num, by omega, by omega, HFs.out, HZ.out.drew, ((HU4y.out.setCell _ _).setCell _ _).drew, HV2.out⟩
                      case measure => simp [intOf]; omega
                  · have zj : decide ((j : Int) < (b : Int)) = false := decide_eq_false (by omega)
                    have HX4 : Hid (shiftUp ltN b j e4 = e4) := by show _ = _; exact up_end4 b j e4 (.inl hjb)
                    go_wp2
                    have HI4 : Hid (partialIns ltN a b (5 - (s + 1)) i2 e4 = Z) := by
                      show _ = _
                      have h9 : fixUp ltN b i2 f1 = e4 := by unfold fixUp; rw [if_pos hB, ← HV.out]; exact HX4.out
                      rw [← h9]; exact HD3.out
                    go_roundw
                    case rel => exact ⟨s + 1, i2, e4, by go_num, rfl, by omega, by omega, by omega, HF4.out, HS4.out, HU4.out, HI4.out⟩
                    case measure => simp [intOf]; omega
              · exfalso; omega
        · have zl : decide ((i2 : Int) < (b : Int)) = false := decide_eq_false (by omega)
          obtain rfl : b = i2 := by omega
          have HE : Hid (scanSorted ltN f b i = b) := by show _ = _; rw [← HC.out, ss_end f b b (.inl (by omega))]
          go_wp2
          go_quiet (first | (go_at_call 31; refine Calls.quiet_of_same (HL.out _ _ _)))
          go_wp2
          go_ret
          exact ⟨true, f, by rw [← HI.out, pi_stop a b s i f hs5 HE.out], rfl, HSc.out.drewN _, HUc.out.drewN _, HF.out⟩
    · obtain rfl : s = 5 := by omega
      go_wp2
      go_ret
      exact ⟨false, f, by rw [← HI.out]; rfl, rfl, HSr.out, HUr.out, HF.out⟩
end Go.Proofs.YtcopkeccogpkmaaDoor
