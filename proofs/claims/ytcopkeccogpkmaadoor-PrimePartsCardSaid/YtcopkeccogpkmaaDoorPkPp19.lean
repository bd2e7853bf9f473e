/- The library's sort at []uint32: the partitions. Conditions: the row's size. -/
import Derived.Test.YtcopkeccogpkmaaDoorPkPp18
namespace Go.Proofs.YtcopkeccogpkmaaDoor
open Go.RowKit Go.Sort

theorem up_go (P : Nat → Bool) (d : Array Nat) (j i : Nat) (h : i ≤ j) (hp : P d[i]! = true) : scanUp P d j i = scanUp P d j (i + 1) := by rw [scanUp, if_pos (by rw [hp]; simp; exact h)]
theorem up_end (P : Nat → Bool) (d : Array Nat) (j i : Nat) (h : ¬ i ≤ j ∨ P d[i]! = false) : scanUp P d j i = i := by
  rw [scanUp, if_neg]
  rcases h with h | h
  · simp; intro h2; exact absurd h2 h
  · rw [h]; simp
theorem down_go (P : Nat → Bool) (d : Array Nat) (i j : Nat) (h0 : 0 < j) (h : i ≤ j) (hp : P d[j]! = true) : scanDown P d i j = scanDown P d i (j - 1) := by
  cases j with
  | zero => omega
  | succ k => rw [scanDown, if_pos (by rw [hp]; simp; exact h)]; rfl
theorem down_end (P : Nat → Bool) (d : Array Nat) (i j : Nat) (h : ¬ i ≤ j ∨ P d[j]! = false) : scanDown P d i j = j := by
  cases j with
  | zero => rw [scanDown]
  | succ k =>
    rw [scanDown, if_neg]
    rcases h with h | h
    · simp; intro h2; exact absurd h2 h
    · rw [h]; simp
set_option maxHeartbeats 6400000 in
theorem partEq_any {p q : List Value} {g o : Nat} (ho : p.length = o) (cap a b pivot : Nat) (d : Array Nat) (w : World) (h : Rw p q g d w) (hap : a ≤ pivot) (hpb : pivot < b) (hb : b ≤ d.size) (hsz : d.size < 2305843009213693952) :
    Calls Tryd.prog 32 #[.slice (some ⟨g, o, none⟩) d.size cap, .int .i64 (a : Int), .int .i64 (b : Int), .int .i64 (pivot : Int)] w fun e w' =>
      ∃ m d2, partitionEqual ltN d a b pivot = (m, d2) ∧ e = .returned (.int .i64 (m : Int)) ∧ Rw p q g d2 w' ∧ Tb g w w' ∧ d2.size = d.size := by
  obtain ⟨n, hn⟩ : ∃ n, n = d.size := ⟨_, rfl⟩
  rw [← hn] at hb hsz ⊢
  obtain ⟨c, hcb⟩ : ∃ c, b = c + 1 := ⟨b - 1, by omega⟩
  subst hcb
  have HL : Hid (∀ (x y : Nat) W, Calls Tryd.prog 31 #[.int .u32 (x : Int), .int .u32 (y : Int)] W fun r W' => r = .returned (.bool (ltN x y)) ∧ W' = W) := fun x y W => lessN x y W
  obtain ⟨Z, hZ⟩ : ∃ Z, Z = partitionEqual ltN d a (c + 1) pivot := ⟨_, rfl⟩
  have HB : Hid (partEqLoop ltN a (a + 1) c (swp d a pivot) = Z) := by show _ = _; rw [hZ]; rfl
  rw [← hZ]
  obtain ⟨G, hG⟩ : ∃ G : Nat → Nat, ∀ t, G t = d[t]! := ⟨fun t => d[t]!, fun _ => rfl⟩
  have HG := Lib.hid hG
  have HF : Hid (d.size = n) := hn.symm
  have HS0 := Lib.hid h
  have HU0 : Hid (Tb g w w) := Tb.refl _ _
  have hc : ∀ t, t < n → w.cell? ⟨g, o + t, none⟩ = some (.int .u32 (G t : Int)) := fun t ht => by rw [hG]; exact h.cell ho (by omega)
  have hf : ∀ t, t < n → w.frozen? ⟨g, o + t, none⟩ = false := fun t _ => h.frozen _
  clear hG h hn hZ
  have hz1 := (HS0.out.put ho (a) (G (pivot)) (by rw [HF.out]; omega))
  have c2 := hz1.cell ho (t := pivot) (by rw [Array.size_setIfInBounds, HF.out]; omega)
  have f2 := hz1.frozen (o + (pivot))
  have hz2 := HS0.out.swap ho (j := a) (k := pivot) (by rw [HF.out]; omega) (by rw [HF.out]; omega) (HG.out _) (HG.out _)
  have HZ := Lib.hid hz2
  have HFs : Hid ((swp d (a) (pivot)).size = n) := by show _ = _; rw [swp_size]; exact HF.out
  generalize (d.setIfInBounds (a) (G (pivot)))[pivot]! = y2 at c2
  clear hz1 hz2
  go_enter Tryd.func32, Tryd.ntmps32
  go_upto_region 1 with (fail)
  go_region
  all_goals go_wp2
  go_loopw [9, 10] (fun vi vj wq => ∃ (i j : Nat) (f : Array Nat), vi = .int .i64 (i : Int) ∧ vj = .int .i64 (j : Int) ∧ a < i ∧ i ≤ j + 1 ∧ j ≤ c ∧ Hid (f.size = n) ∧ Hid (Rw p q g f wq) ∧ Hid (Tb g w wq) ∧ Hid (partEqLoop ltN a i j f = Z)) (fun vi vj _ => (intOf vj).toNat + 1 - (intOf vi).toNat)
  case atStart => exact ⟨a + 1, c, swp d a pivot, by go_num, by go_num, by omega, by omega, Nat.le_refl _, HFs.out, HZ.out.drew, ((HU0.out.setCell _ _).setCell _ _).drew, HB.out⟩
  case round =>
    obtain ⟨i, j, f, rfl, rfl, hai, hij, hjc, HF, HS1, HU1, HI⟩ := hrel
    clear HG
    obtain ⟨G, hG⟩ : ∃ G : Nat → Nat, ∀ t, G t = f[t]! := ⟨fun t => f[t]!, fun _ => rfl⟩
    have HG := Lib.hid hG
    clear hG
    (try go_wp2)
    go_loopw [9] (fun vi wq => ∃ i2 : Nat, vi = .int .i64 (i2 : Int) ∧ i ≤ i2 ∧ i2 ≤ j + 1 ∧ Hid (Rw p q g f wq) ∧ Hid (Tb g w wq) ∧ Hid (scanUp (fun x => !ltN f[a]! x) f j i2 = scanUp (fun x => !ltN f[a]! x) f j i)) (fun vi _ => j + 1 - (intOf vi).toNat)
    case atStart => exact ⟨i, rfl, Nat.le_refl _, by omega, HS1.out, HU1.out, rfl⟩
    case round =>
      obtain ⟨i2, rfl, h1u, h2u, HSu, HUu, HCu⟩ := hrel
      have hcu : ∀ t, t < n → wr.cell? ⟨g, o + t, none⟩ = some (.int .u32 (G t : Int)) := fun t ht => by rw [HG.out]; exact HSu.out.cell ho (by rw [HF.out]; exact ht)
      have hfu : ∀ t, t < n → wr.frozen? ⟨g, o + t, none⟩ = false := fun t _ => HSu.out.frozen _
      by_cases hleu : i2 ≤ j
      · have zu : (i2 : Int) ≤ (j : Int) := by omega
        go_wp2
        go_quiet (first | (go_at_call 31; refine Calls.quiet_of_same (HL.out _ _ _)))
        go_wp2
        · have hp : (!ltN (G a) (G i2)) = true := by assumption
          go_roundw
          case rel => exact ⟨i2 + 1, by go_num, by omega, by omega, HSu.out.drewN _, HUu.out.drewN _, by show _ = _; rw [← HCu.out, up_go (fun x => !ltN f[a]! x) f j i2 hleu (by rw [← HG.out, ← HG.out]; exact hp)]⟩
          case measure => simp [intOf]; omega
        · have hp : (!ltN (G a) (G i2)) = false := by assumption
          have HEu : Hid (scanUp (fun x => !ltN f[a]! x) f j i = i2) := by show _ = _; rw [← HCu.out, up_end (fun x => !ltN f[a]! x) f j i2 (.inr (by rw [← HG.out, ← HG.out]; exact hp))]
          have HPu := Lib.hid hp
          clear hp
          revert nq; intro nqux
          have hcux : ∀ t, t < n → (wr.drewN nqux).cell? ⟨g, o + t, none⟩ = some (.int .u32 (G t : Int)) := hcu
          have hfux : ∀ t, t < n → (wr.drewN nqux).frozen? ⟨g, o + t, none⟩ = false := hfu
          have HSux := Lib.hid (HSu.out.drewN nqux)
          have HUux := Lib.hid (HUu.out.drewN nqux)
          clear hcu hfu
          generalize wr.drewN nqux = wux at hcux hfux HSux HUux ⊢
          (try go_wp2)
          go_loopw [10] (fun vi wq => ∃ j2 : Nat, vi = .int .i64 (j2 : Int) ∧ j2 ≤ j ∧ i2 ≤ j2 + 1 ∧ Hid (Rw p q g f wq) ∧ Hid (Tb g w wq) ∧ Hid (scanDown (fun x => ltN f[a]! x) f i2 j2 = scanDown (fun x => ltN f[a]! x) f i2 j)) (fun vi _ => (intOf vi).toNat)
          case atStart => exact ⟨j, rfl, Nat.le_refl _, by omega, HSux.out, HUux.out, rfl⟩
          case round =>
            obtain ⟨j2, rfl, h1d, h2d, HSd, HUd, HCd⟩ := hrel
            have hcd : ∀ t, t < n → wr.cell? ⟨g, o + t, none⟩ = some (.int .u32 (G t : Int)) := fun t ht => by rw [HG.out]; exact HSd.out.cell ho (by rw [HF.out]; exact ht)
            have hfd : ∀ t, t < n → wr.frozen? ⟨g, o + t, none⟩ = false := fun t _ => HSd.out.frozen _
            by_cases hled : i2 ≤ j2
            · have zd : (i2 : Int) ≤ (j2 : Int) := by omega
              go_wp2
              go_quiet (first | (go_at_call 31; refine Calls.quiet_of_same (HL.out _ _ _)))
              go_wp2
              · have hp : ltN (G a) (G j2) = true := by assumption
                go_roundw
                case rel => exact ⟨j2 - 1, by congr 1; omega, by omega, by omega, HSd.out.drewN _, HUd.out.drewN _, by show _ = _; rw [← HCd.out, down_go (fun x => ltN f[a]! x) f i2 j2 (by omega) hled (by rw [← HG.out, ← HG.out]; exact hp)]⟩
                case measure => simp [intOf]; omega
              · have hp : ltN (G a) (G j2) = false := by assumption
                have HEd : Hid (scanDown (fun x => ltN f[a]! x) f i2 j = j2) := by show _ = _; rw [← HCd.out, down_end (fun x => ltN f[a]! x) f i2 j2 (.inr (by rw [← HG.out, ← HG.out]; exact hp))]
                have HPd := Lib.hid hp
                clear hp
                revert nq; intro nqdx
                have hcdx : ∀ t, t < n → (wr.drewN nqdx).cell? ⟨g, o + t, none⟩ = some (.int .u32 (G t : Int)) := hcd
                have hfdx : ∀ t, t < n → (wr.drewN nqdx).frozen? ⟨g, o + t, none⟩ = false := hfd
                have HSdx := Lib.hid (HSd.out.drewN nqdx)
                have HUdx := Lib.hid (HUd.out.drewN nqdx)
                clear hcd hfd
                generalize wr.drewN nqdx = wdx at hcdx hfdx HSdx HUdx ⊢
                have hne9 : i2 ≠ j2 := fun e => by
                  have h8 := HPu.out
                  have h9 := HPd.out
                  rw [e, h9] at h8
                  simp at h8
                have hz1 := (HSdx.out.put ho (i2) (G (j2)) (by rw [HF.out]; omega))
                have c2 := hz1.cell ho (t := j2) (by rw [Array.size_setIfInBounds, HF.out]; omega)
                have f2 := hz1.frozen (o + (j2))
                have hz2 := HSdx.out.swap ho (j := i2) (k := j2) (by rw [HF.out]; omega) (by rw [HF.out]; omega) (HG.out _) (HG.out _)
                have HZ := Lib.hid hz2
                have HFs : Hid ((swp f (i2) (j2)).size = n) := by show _ = _; rw [swp_size]; exact HF.out
                generalize (f.setIfInBounds (i2) (G (j2)))[j2]! = y2 at c2
                clear hz1 hz2
                have HI2 : Hid (partEqLoop ltN a (i2 + 1) (j2 - 1) (swp f i2 j2) = Z) := by show _ = _; rw [← HI.out, partEqLoop_eq ltN a i j f, HEu.out, HEd.out, if_neg (by omega)]
                go_region
                all_goals go_wp2
                go_roundw
                case rel => exact ⟨i2 + 1, j2 - 1, swp f i2 j2, by go_num, by congr 1; omega, by omega, by omega, by omega, HFs.out, HZ.out.drew, ((HUdx.out.setCell _ _).setCell _ _).drew, HI2.out⟩
                case measure => simp [intOf]; omega
            · have zd : decide ((i2 : Int) ≤ (j2 : Int)) = false := decide_eq_false (by omega)
              go_wp2
              go_quiet (first | (go_at_call 31; refine Calls.quiet_of_same (HL.out _ _ _)))
              go_wp2
              have HEd : Hid (scanDown (fun x => ltN f[a]! x) f i2 j = j2) := by show _ = _; rw [← HCd.out, down_end (fun x => ltN f[a]! x) f i2 j2 (.inl hled)]
              revert nq; intro nqdx
              have hcdx : ∀ t, t < n → (wr.drewN nqdx).cell? ⟨g, o + t, none⟩ = some (.int .u32 (G t : Int)) := hcd
              have hfdx : ∀ t, t < n → (wr.drewN nqdx).frozen? ⟨g, o + t, none⟩ = false := hfd
              have HSdx := Lib.hid (HSd.out.drewN nqdx)
              have HUdx := Lib.hid (HUd.out.drewN nqdx)
              clear hcd hfd
              generalize wr.drewN nqdx = wdx at hcdx hfdx HSdx HUdx ⊢
              go_ret
              exact ⟨i2, f, by rw [← HI.out, partEqLoop_eq, HEu.out, HEd.out, if_pos (by omega)], rfl, HSdx.out, HUdx.out, HF.out⟩
      · have zu : decide ((i2 : Int) ≤ (j : Int)) = false := decide_eq_false (by omega)
        go_wp2
        go_quiet (first | (go_at_call 31; refine Calls.quiet_of_same (HL.out _ _ _)))
        go_wp2
        have HEu : Hid (scanUp (fun x => !ltN f[a]! x) f j i = i2) := by show _ = _; rw [← HCu.out, up_end (fun x => !ltN f[a]! x) f j i2 (.inl hleu)]
        revert nq; intro nqux
        have hcux : ∀ t, t < n → (wr.drewN nqux).cell? ⟨g, o + t, none⟩ = some (.int .u32 (G t : Int)) := hcu
        have hfux : ∀ t, t < n → (wr.drewN nqux).frozen? ⟨g, o + t, none⟩ = false := hfu
        have HSux := Lib.hid (HSu.out.drewN nqux)
        have HUux := Lib.hid (HUu.out.drewN nqux)
        clear hcu hfu
        generalize wr.drewN nqux = wux at hcux hfux HSux HUux ⊢
        (try go_wp2)
        go_loopw [10] (fun vi wq => ∃ j2 : Nat, vi = .int .i64 (j2 : Int) ∧ j2 ≤ j ∧ i2 ≤ j2 + 1 ∧ Hid (Rw p q g f wq) ∧ Hid (Tb g w wq) ∧ Hid (scanDown (fun x => ltN f[a]! x) f i2 j2 = scanDown (fun x => ltN f[a]! x) f i2 j)) (fun vi _ => (intOf vi).toNat)
        case atStart => exact ⟨j, rfl, Nat.le_refl _, by omega, HSux.out, HUux.out, rfl⟩
        case round =>
          obtain ⟨j2, rfl, h1d, h2d, HSd, HUd, HCd⟩ := hrel
          have hcd : ∀ t, t < n → wr.cell? ⟨g, o + t, none⟩ = some (.int .u32 (G t : Int)) := fun t ht => by rw [HG.out]; exact HSd.out.cell ho (by rw [HF.out]; exact ht)
          have hfd : ∀ t, t < n → wr.frozen? ⟨g, o + t, none⟩ = false := fun t _ => HSd.out.frozen _
          by_cases hled : i2 ≤ j2
          · exfalso; omega
          · have zd : decide ((i2 : Int) ≤ (j2 : Int)) = false := decide_eq_false (by omega)
            go_wp2
            go_quiet (first | (go_at_call 31; refine Calls.quiet_of_same (HL.out _ _ _)))
            go_wp2
            have HEd : Hid (scanDown (fun x => ltN f[a]! x) f i2 j = j2) := by show _ = _; rw [← HCd.out, down_end (fun x => ltN f[a]! x) f i2 j2 (.inl hled)]
            revert nq; intro nqdx
            have hcdx : ∀ t, t < n → (wr.drewN nqdx).cell? ⟨g, o + t, none⟩ = some (.int .u32 (G t : Int)) := hcd
            have hfdx : ∀ t, t < n → (wr.drewN nqdx).frozen? ⟨g, o + t, none⟩ = false := hfd
            have HSdx := Lib.hid (HSd.out.drewN nqdx)
            have HUdx := Lib.hid (HUd.out.drewN nqdx)
            clear hcd hfd
            generalize wr.drewN nqdx = wdx at hcdx hfdx HSdx HUdx ⊢
            go_ret
            exact ⟨i2, f, by rw [← HI.out, partEqLoop_eq, HEu.out, HEd.out, if_pos (by omega)], rfl, HSdx.out, HUdx.out, HF.out⟩
end Go.Proofs.YtcopkeccogpkmaaDoor
