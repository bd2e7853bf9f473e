/- The library's sort at []uint32: partitionOrdered. Conditions: the row's size. -/
import Derived.Test.YtcopkeccogpkmaaDoorPkPp19
namespace Go.Proofs.YtcopkeccogpkmaaDoor
open Go.RowKit Go.Sort

theorem part_is (d : Array Nat) (a b pivot : Nat) : partition ltN d a b pivot = ((partLoop ltN a (a + 1) (b - 1) (swp d a pivot)).1, decide (scanUp (fun x => ltN x (swp d a pivot)[a]!) (swp d a pivot) (b - 1) (a + 1) > scanDown (fun x => !ltN x (swp d a pivot)[a]!) (swp d a pivot) (scanUp (fun x => ltN x (swp d a pivot)[a]!) (swp d a pivot) (b - 1) (a + 1)) (b - 1)), swp (partLoop ltN a (a + 1) (b - 1) (swp d a pivot)).2 (partLoop ltN a (a + 1) (b - 1) (swp d a pivot)).1 a) := by
  refine Prod.ext (partition_fst ltN d a b pivot) (Prod.ext ?_ (partition_arr ltN d a b pivot))
  unfold partition
  simp only []
  split
  · rename_i h; simp [h]
  · rename_i h; simp [h]
set_option maxRecDepth 20000 in
set_option maxHeartbeats 6400000 in
theorem partition_any {p q : List Value} {g o : Nat} (ho : p.length = o) (cap a b pivot : Nat) (d : Array Nat) (w : World) (h : Rw p q g d w) (hap : a ≤ pivot) (hpb : pivot < b) (hb : b ≤ d.size) (hsz : d.size < 2305843009213693952) :
    Calls Tryd.prog 33 #[.slice (some ⟨g, o, none⟩) d.size cap, .int .i64 (a : Int), .int .i64 (b : Int), .int .i64 (pivot : Int)] w fun e w' =>
      ∃ m fl d2, partition ltN d a b pivot = (m, fl, d2) ∧ e = .returned (.tuple #[.int .i64 (m : Int), .bool fl]) ∧ Rw p q g d2 w' ∧ Tb g w w' ∧ d2.size = d.size := by
  obtain ⟨n, hn⟩ : ∃ n, n = d.size := ⟨_, rfl⟩
  rw [← hn] at hb hsz ⊢
  obtain ⟨c, hcb⟩ : ∃ c, b = c + 1 := ⟨b - 1, by omega⟩
  subst hcb
  have HL : Hid (∀ (x y : Nat) W, Calls Tryd.prog 31 #[.int .u32 (x : Int), .int .u32 (y : Int)] W fun r W' => r = .returned (.bool (ltN x y)) ∧ W' = W) := fun x y W => lessN x y W
  obtain ⟨f0, hf0⟩ : ∃ f0, f0 = swp d a pivot := ⟨_, rfl⟩
  obtain ⟨ia, hia⟩ : ∃ ia, ia = a + 1 := ⟨_, rfl⟩
  obtain ⟨R, hR⟩ : ∃ R, R = partLoop ltN a ia c f0 := ⟨_, rfl⟩
  obtain ⟨fl, hfl⟩ : ∃ fl, fl = decide (scanUp (fun x => ltN x f0[a]!) f0 c ia > scanDown (fun x => !ltN x f0[a]!) f0 (scanUp (fun x => ltN x f0[a]!) f0 c ia) c) := ⟨_, rfl⟩
  have HPI : Hid (partition ltN d a (c + 1) pivot = (R.1, fl, swp R.2 R.1 a)) := by
    show _ = _
    rw [part_is, hR, hfl, hf0, hia]; rfl
  have HRR := Lib.hid hR
  have HFd := Lib.hid hfl
  have HIA : Hid (ia = a + 1) := hia
  have ha1 : a < ia := by omega
  have ha2 : ia ≤ c + 1 := by omega
  obtain ⟨G, hG⟩ : ∃ G : Nat → Nat, ∀ t, G t = d[t]! := ⟨fun t => d[t]!, fun _ => rfl⟩
  have HG := Lib.hid hG
  have HF : Hid (d.size = n) := hn.symm
  have HS0 := Lib.hid h
  have HU0 : Hid (Tb g w w) := Tb.refl _ _
  have hc : ∀ t, t < n → w.cell? ⟨g, o + t, none⟩ = some (.int .u32 (G t : Int)) := fun t ht => by rw [hG]; exact h.cell ho (by omega)
  have hf : ∀ t, t < n → w.frozen? ⟨g, o + t, none⟩ = false := fun t _ => h.frozen _
  clear hG h hn hR hfl hia
  have hz1 := (HS0.out.put ho (a) (G (pivot)) (by rw [HF.out]; omega))
  have c2 := hz1.cell ho (t := pivot) (by rw [Array.size_setIfInBounds, HF.out]; omega)
  have f2 := hz1.frozen (o + (pivot))
  have hz2 := HS0.out.swap ho (j := a) (k := pivot) (by rw [HF.out]; omega) (by rw [HF.out]; omega) (HG.out _) (HG.out _)
  have HZ := Lib.hid hz2
  have HFs : Hid ((swp d (a) (pivot)).size = n) := by show _ = _; rw [swp_size]; exact HF.out
  generalize (d.setIfInBounds (a) (G (pivot)))[pivot]! = y2 at c2
  clear hz1 hz2
  rw [← hf0] at HZ HFs
  clear hf0
  go_enter Tryd.func33, Tryd.ntmps33
  go_upto_region 1 with (fail)
  go_region
  all_goals go_wp2
  have HS9 := Lib.hid HZ.out.drew
  have HU9 := Lib.hid ((HU0.out.setCell (o + a) (.int .u32 (G pivot : Int))).setCell (o + pivot) (.int .u32 (G a : Int))).drew
  clear HF HG hc hf c2 f2 HZ
  have HF := HFs
  clear HFs
  obtain ⟨f, hff⟩ : ∃ f, f = f0 := ⟨_, rfl⟩
  rw [← hff] at HF HS9 HRR HFd
  clear hff
  obtain ⟨G, hG⟩ : ∃ G : Nat → Nat, ∀ t, G t = f[t]! := ⟨fun t => f[t]!, fun _ => rfl⟩
  have HG := Lib.hid hG
  clear hG
  (try go_wp2)
  go_loopw [10] (fun vi wq => ∃ i2 : Nat, vi = .int .i64 (i2 : Int) ∧ ia ≤ i2 ∧ i2 ≤ c + 1 ∧ Hid (Rw p q g f wq) ∧ Hid (Tb g w wq) ∧ Hid (scanUp (fun x => ltN x f[a]!) f c i2 = scanUp (fun x => ltN x f[a]!) f c ia)) (fun vi _ => c + 1 - (intOf vi).toNat)
  case atStart => exact ⟨ia, by rw [HIA.out]; go_num, Nat.le_refl _, by omega, HS9.out, HU9.out, rfl⟩
  case round =>
    obtain ⟨i2, rfl, h1ua, h2ua, HSua, HUua, HCua⟩ := hrel
    have hcua : ∀ t, t < n → wr.cell? ⟨g, o + t, none⟩ = some (.int .u32 (G t : Int)) := fun t ht => by rw [HG.out]; exact HSua.out.cell ho (by rw [HF.out]; exact ht)
    have hfua : ∀ t, t < n → wr.frozen? ⟨g, o + t, none⟩ = false := fun t _ => HSua.out.frozen _
    by_cases hleua : i2 ≤ c
    · have zua : (i2 : Int) ≤ (c : Int) := by omega
      go_wp2
      go_quiet (first | (go_at_call 31; refine Calls.quiet_of_same (HL.out _ _ _)))
      go_wp2
      · have hp : ltN (G i2) (G a) = true := by assumption
        go_roundw
        case rel => exact ⟨i2 + 1, by go_num, by omega, by omega, HSua.out.drewN _, HUua.out.drewN _, by show _ = _; rw [← HCua.out, up_go (fun x => ltN x f[a]!) f c i2 hleua (by rw [← HG.out, ← HG.out]; exact hp)]⟩
        case measure => simp [intOf]; omega
      · have hp : ltN (G i2) (G a) = false := by assumption
        have HEua : Hid (scanUp (fun x => ltN x f[a]!) f c ia = i2) := by show _ = _; rw [← HCua.out, up_end (fun x => ltN x f[a]!) f c i2 (.inr (by rw [← HG.out, ← HG.out]; exact hp))]
        have HPua := Lib.hid hp
        clear hp
        revert nq; intro nquax
        have hcuax : ∀ t, t < n → (wr.drewN nquax).cell? ⟨g, o + t, none⟩ = some (.int .u32 (G t : Int)) := hcua
        have hfuax : ∀ t, t < n → (wr.drewN nquax).frozen? ⟨g, o + t, none⟩ = false := hfua
        have HSuax := Lib.hid (HSua.out.drewN nquax)
        have HUuax := Lib.hid (HUua.out.drewN nquax)
        clear hcua hfua
        generalize wr.drewN nquax = wuax at hcuax hfuax HSuax HUuax ⊢
        (try go_wp2)
        go_loopw [11] (fun vi wq => ∃ j2 : Nat, vi = .int .i64 (j2 : Int) ∧ j2 ≤ c ∧ i2 ≤ j2 + 1 ∧ Hid (Rw p q g f wq) ∧ Hid (Tb g w wq) ∧ Hid (scanDown (fun x => !ltN x f[a]!) f i2 j2 = scanDown (fun x => !ltN x f[a]!) f i2 c)) (fun vi _ => (intOf vi).toNat)
        case atStart => exact ⟨c, rfl, Nat.le_refl _, by omega, HSuax.out, HUuax.out, rfl⟩
        case round =>
          obtain ⟨j2, rfl, h1da, h2da, HSda, HUda, HCda⟩ := hrel
          have hcda : ∀ t, t < n → wr.cell? ⟨g, o + t, none⟩ = some (.int .u32 (G t : Int)) := fun t ht => by rw [HG.out]; exact HSda.out.cell ho (by rw [HF.out]; exact ht)
          have hfda : ∀ t, t < n → wr.frozen? ⟨g, o + t, none⟩ = false := fun t _ => HSda.out.frozen _
          by_cases hleda : i2 ≤ j2
          · have zda : (i2 : Int) ≤ (j2 : Int) := by omega
            go_wp2
            go_quiet (first | (go_at_call 31; refine Calls.quiet_of_same (HL.out _ _ _)))
            go_wp2
            · have hp : (!ltN (G j2) (G a)) = true := by assumption
              go_roundw
              case rel => exact ⟨j2 - 1, by congr 1; omega, by omega, by omega, HSda.out.drewN _, HUda.out.drewN _, by show _ = _; rw [← HCda.out, down_go (fun x => !ltN x f[a]!) f i2 j2 (by omega) hleda (by rw [← HG.out, ← HG.out]; exact hp)]⟩
              case measure => simp [intOf]; omega
            · have hp : (!ltN (G j2) (G a)) = false := by assumption
              have HEda : Hid (scanDown (fun x => !ltN x f[a]!) f i2 c = j2) := by show _ = _; rw [← HCda.out, down_end (fun x => !ltN x f[a]!) f i2 j2 (.inr (by rw [← HG.out, ← HG.out]; exact hp))]
              have HPda := Lib.hid hp
              clear hp
              revert nq; intro nqdax
              have hcdax : ∀ t, t < n → (wr.drewN nqdax).cell? ⟨g, o + t, none⟩ = some (.int .u32 (G t : Int)) := hcda
              have hfdax : ∀ t, t < n → (wr.drewN nqdax).frozen? ⟨g, o + t, none⟩ = false := hfda
              have HSdax := Lib.hid (HSda.out.drewN nqdax)
              have HUdax := Lib.hid (HUda.out.drewN nqdax)
              clear hcda hfda
              generalize wr.drewN nqdax = wdax at hcdax hfdax HSdax HUdax ⊢
              have hne9 : i2 ≠ j2 := fun e => by
                have h8 := HPua.out
                have h9 := HPda.out
                rw [e] at h8
                rw [h8] at h9
                simp at h9
              have hz1 := (HSdax.out.put ho (i2) (G (j2)) (by rw [HF.out]; omega))
              have c2 := hz1.cell ho (t := j2) (by rw [Array.size_setIfInBounds, HF.out]; omega)
              have f2 := hz1.frozen (o + (j2))
              have hz2 := HSdax.out.swap ho (j := i2) (k := j2) (by rw [HF.out]; omega) (by rw [HF.out]; omega) (HG.out _) (HG.out _)
              have HZ := Lib.hid hz2
              have HFs : Hid ((swp f (i2) (j2)).size = n) := by show _ = _; rw [swp_size]; exact HF.out
              generalize (f.setIfInBounds (i2) (G (j2)))[j2]! = y2 at c2
              clear hz1 hz2
              have HI0 : Hid (partLoop ltN a (i2 + 1) (j2 - 1) (swp f i2 j2) = R) := by show _ = _; rw [HRR.out, partLoop_eq ltN a ia c f, HEua.out, HEda.out, if_neg (by omega)]
              have HFl : Hid (fl = false) := by show _ = _; rw [HFd.out, HEua.out, HEda.out, decide_eq_false (by omega)]
              go_region
              all_goals go_wp2
              go_loopw [10, 11] (fun vi vj wq => ∃ (i j : Nat) (f : Array Nat), vi = .int .i64 (i : Int) ∧ vj = .int .i64 (j : Int) ∧ a < i ∧ i ≤ j + 1 ∧ j ≤ c ∧ Hid (f.size = n) ∧ Hid (Rw p q g f wq) ∧ Hid (Tb g w wq) ∧ Hid (partLoop ltN a i j f = R)) (fun vi vj _ => (intOf vj).toNat + 1 - (intOf vi).toNat)
              case atStart => exact ⟨i2 + 1, j2 - 1, swp f i2 j2, by go_num, by congr 1; omega, by omega, by omega, by omega, HFs.out, HZ.out.drew, ((HUdax.out.setCell _ _).setCell _ _).drew, HI0.out⟩
              case round =>
                clear HF HG hcdax hfdax HEua HEda HRR HFd
                obtain ⟨i, j, f, rfl, rfl, hai, hij, hjc, HF, HS1, HU1, HI⟩ := hrel
                obtain ⟨G, hG⟩ : ∃ G : Nat → Nat, ∀ t, G t = f[t]! := ⟨fun t => f[t]!, fun _ => rfl⟩
                have HG := Lib.hid hG
                clear hG
                (try go_wp2)
                go_loopw [10] (fun vi wq => ∃ i2 : Nat, vi = .int .i64 (i2 : Int) ∧ i ≤ i2 ∧ i2 ≤ j + 1 ∧ Hid (Rw p q g f wq) ∧ Hid (Tb g w wq) ∧ Hid (scanUp (fun x => ltN x f[a]!) f j i2 = scanUp (fun x => ltN x f[a]!) f j i)) (fun vi _ => j + 1 - (intOf vi).toNat)
                case atStart => exact ⟨i, rfl, Nat.le_refl _, by omega, HS1.out, HU1.out, rfl⟩
                case round =>
                  obtain ⟨i2, rfl, h1ub, h2ub, HSub, HUub, HCub⟩ := hrel
                  have hcub : ∀ t, t < n → wr.cell? ⟨g, o + t, none⟩ = some (.int .u32 (G t : Int)) := fun t ht => by rw [HG.out]; exact HSub.out.cell ho (by rw [HF.out]; exact ht)
                  have hfub : ∀ t, t < n → wr.frozen? ⟨g, o + t, none⟩ = false := fun t _ => HSub.out.frozen _
                  by_cases hleub : i2 ≤ j
                  · have zub : (i2 : Int) ≤ (j : Int) := by omega
                    go_wp2
                    go_quiet (first | (go_at_call 31; refine Calls.quiet_of_same (HL.out _ _ _)))
                    go_wp2
                    · have hp : ltN (G i2) (G a) = true := by assumption
                      go_roundw
                      case rel => exact ⟨i2 + 1, by go_num, by omega, by omega, HSub.out.drewN _, HUub.out.drewN _, by show _ = _; rw [← HCub.out, up_go (fun x => ltN x f[a]!) f j i2 hleub (by rw [← HG.out, ← HG.out]; exact hp)]⟩
                      case measure => simp [intOf]; omega
                    · have hp : ltN (G i2) (G a) = false := by assumption
                      have HEub : Hid (scanUp (fun x => ltN x f[a]!) f j i = i2) := by show _ = _; rw [← HCub.out, up_end (fun x => ltN x f[a]!) f j i2 (.inr (by rw [← HG.out, ← HG.out]; exact hp))]
                      have HPub := Lib.hid hp
                      clear hp
                      revert nq; intro nqubx
                      have hcubx : ∀ t, t < n → (wr.drewN nqubx).cell? ⟨g, o + t, none⟩ = some (.int .u32 (G t : Int)) := hcub
                      have hfubx : ∀ t, t < n → (wr.drewN nqubx).frozen? ⟨g, o + t, none⟩ = false := hfub
                      have HSubx := Lib.hid (HSub.out.drewN nqubx)
                      have HUubx := Lib.hid (HUub.out.drewN nqubx)
                      clear hcub hfub
                      generalize wr.drewN nqubx = wubx at hcubx hfubx HSubx HUubx ⊢
                      (try go_wp2)
                      go_loopw [11] (fun vi wq => ∃ j2 : Nat, vi = .int .i64 (j2 : Int) ∧ j2 ≤ j ∧ i2 ≤ j2 + 1 ∧ Hid (Rw p q g f wq) ∧ Hid (Tb g w wq) ∧ Hid (scanDown (fun x => !ltN x f[a]!) f i2 j2 = scanDown (fun x => !ltN x f[a]!) f i2 j)) (fun vi _ => (intOf vi).toNat)
                      case atStart => exact ⟨j, rfl, Nat.le_refl _, by omega, HSubx.out, HUubx.out, rfl⟩
                      case round =>
                        obtain ⟨j2, rfl, h1db, h2db, HSdb, HUdb, HCdb⟩ := hrel
                        have hcdb : ∀ t, t < n → wr.cell? ⟨g, o + t, none⟩ = some (.int .u32 (G t : Int)) := fun t ht => by rw [HG.out]; exact HSdb.out.cell ho (by rw [HF.out]; exact ht)
                        have hfdb : ∀ t, t < n → wr.frozen? ⟨g, o + t, none⟩ = false := fun t _ => HSdb.out.frozen _
                        by_cases hledb : i2 ≤ j2
                        · have zdb : (i2 : Int) ≤ (j2 : Int) := by omega
                          go_wp2
                          go_quiet (first | (go_at_call 31; refine Calls.quiet_of_same (HL.out _ _ _)))
                          go_wp2
                          · have hp : (!ltN (G j2) (G a)) = true := by assumption
                            go_roundw
                            case rel => exact ⟨j2 - 1, by congr 1; omega, by omega, by omega, HSdb.out.drewN _, HUdb.out.drewN _, by show _ = _; rw [← HCdb.out, down_go (fun x => !ltN x f[a]!) f i2 j2 (by omega) hledb (by rw [← HG.out, ← HG.out]; exact hp)]⟩
                            case measure => simp [intOf]; omega
                          · have hp : (!ltN (G j2) (G a)) = false := by assumption
                            have HEdb : Hid (scanDown (fun x => !ltN x f[a]!) f i2 j = j2) := by show _ = _; rw [← HCdb.out, down_end (fun x => !ltN x f[a]!) f i2 j2 (.inr (by rw [← HG.out, ← HG.out]; exact hp))]
                            have HPdb := Lib.hid hp
                            clear hp
                            revert nq; intro nqdbx
                            have hcdbx : ∀ t, t < n → (wr.drewN nqdbx).cell? ⟨g, o + t, none⟩ = some (.int .u32 (G t : Int)) := hcdb
                            have hfdbx : ∀ t, t < n → (wr.drewN nqdbx).frozen? ⟨g, o + t, none⟩ = false := hfdb
                            have HSdbx := Lib.hid (HSdb.out.drewN nqdbx)
                            have HUdbx := Lib.hid (HUdb.out.drewN nqdbx)
                            clear hcdb hfdb
                            generalize wr.drewN nqdbx = wdbx at hcdbx hfdbx HSdbx HUdbx ⊢
                            have hne9 : i2 ≠ j2 := fun e => by
                              have h8 := HPub.out
                              have h9 := HPdb.out
                              rw [e] at h8
                              rw [h8] at h9
                              simp at h9
                            have hz1 := (HSdbx.out.put ho (i2) (G (j2)) (by rw [HF.out]; omega))
                            have c2 := hz1.cell ho (t := j2) (by rw [Array.size_setIfInBounds, HF.out]; omega)
                            have f2 := hz1.frozen (o + (j2))
                            have hz2 := HSdbx.out.swap ho (j := i2) (k := j2) (by rw [HF.out]; omega) (by rw [HF.out]; omega) (HG.out _) (HG.out _)
                            have HZ := Lib.hid hz2
                            have HFs : Hid ((swp f (i2) (j2)).size = n) := by show _ = _; rw [swp_size]; exact HF.out
                            generalize (f.setIfInBounds (i2) (G (j2)))[j2]! = y2 at c2
                            clear hz1 hz2
                            have HI2 : Hid (partLoop ltN a (i2 + 1) (j2 - 1) (swp f i2 j2) = R) := by show _ = _; rw [← HI.out, partLoop_eq ltN a i j f, HEub.out, HEdb.out, if_neg (by omega)]
                            go_region
                            all_goals go_wp2
                            go_roundw
                            case rel => exact ⟨i2 + 1, j2 - 1, swp f i2 j2, by go_num, by congr 1; omega, by omega, by omega, by omega, HFs.out, HZ.out.drew, ((HUdbx.out.setCell _ _).setCell _ _).drew, HI2.out⟩
                            case measure => simp [intOf]; omega
                        · have zdb : decide ((i2 : Int) ≤ (j2 : Int)) = false := decide_eq_false (by omega)
                          go_wp2
                          go_quiet (first | (go_at_call 31; refine Calls.quiet_of_same (HL.out _ _ _)))
                          go_wp2
                          have HEdb : Hid (scanDown (fun x => !ltN x f[a]!) f i2 j = j2) := by show _ = _; rw [← HCdb.out, down_end (fun x => !ltN x f[a]!) f i2 j2 (.inl hledb)]
                          revert nq; intro nqdbx
                          have hcdbx : ∀ t, t < n → (wr.drewN nqdbx).cell? ⟨g, o + t, none⟩ = some (.int .u32 (G t : Int)) := hcdb
                          have hfdbx : ∀ t, t < n → (wr.drewN nqdbx).frozen? ⟨g, o + t, none⟩ = false := hfdb
                          have HSdbx := Lib.hid (HSdb.out.drewN nqdbx)
                          have HUdbx := Lib.hid (HUdb.out.drewN nqdbx)
                          clear hcdb hfdb
                          generalize wr.drewN nqdbx = wdbx at hcdbx hfdbx HSdbx HUdbx ⊢
                          have HRf : Hid (R = (j2, f)) := by show _ = _; rw [← HI.out, partLoop_eq, HEub.out, HEdb.out, if_pos (by omega)]
                          have hz1 := (HSdbx.out.put ho (j2) (G (a)) (by rw [HF.out]; omega))
                          have c2 := hz1.cell ho (t := a) (by rw [Array.size_setIfInBounds, HF.out]; omega)
                          have f2 := hz1.frozen (o + (a))
                          have hz2 := HSdbx.out.swap ho (j := j2) (k := a) (by rw [HF.out]; omega) (by rw [HF.out]; omega) (HG.out _) (HG.out _)
                          have HZ := Lib.hid hz2
                          have HFs : Hid ((swp f (j2) (a)).size = n) := by show _ = _; rw [swp_size]; exact HF.out
                          generalize (f.setIfInBounds (j2) (G (a)))[a]! = y2 at c2
                          clear hz1 hz2
                          go_region
                          all_goals go_wp2
                          go_ret2
                          exact ⟨j2, false, swp f j2 a, by rw [HPI.out, HRf.out, HFl.out], rfl, HZ.out.drew, ((HUdbx.out.setCell _ _).setCell _ _).drew, HFs.out⟩
                  · have zub : decide ((i2 : Int) ≤ (j : Int)) = false := decide_eq_false (by omega)
                    go_wp2
                    go_quiet (first | (go_at_call 31; refine Calls.quiet_of_same (HL.out _ _ _)))
                    go_wp2
                    have HEub : Hid (scanUp (fun x => ltN x f[a]!) f j i = i2) := by show _ = _; rw [← HCub.out, up_end (fun x => ltN x f[a]!) f j i2 (.inl hleub)]
                    revert nq; intro nqubx
                    have hcubx : ∀ t, t < n → (wr.drewN nqubx).cell? ⟨g, o + t, none⟩ = some (.int .u32 (G t : Int)) := hcub
                    have hfubx : ∀ t, t < n → (wr.drewN nqubx).frozen? ⟨g, o + t, none⟩ = false := hfub
                    have HSubx := Lib.hid (HSub.out.drewN nqubx)
                    have HUubx := Lib.hid (HUub.out.drewN nqubx)
                    clear hcub hfub
                    generalize wr.drewN nqubx = wubx at hcubx hfubx HSubx HUubx ⊢
                    (try go_wp2)
                    go_loopw [11] (fun vi wq => ∃ j2 : Nat, vi = .int .i64 (j2 : Int) ∧ j2 ≤ j ∧ i2 ≤ j2 + 1 ∧ Hid (Rw p q g f wq) ∧ Hid (Tb g w wq) ∧ Hid (scanDown (fun x => !ltN x f[a]!) f i2 j2 = scanDown (fun x => !ltN x f[a]!) f i2 j)) (fun vi _ => (intOf vi).toNat)
                    case atStart => exact ⟨j, rfl, Nat.le_refl _, by omega, HSubx.out, HUubx.out, rfl⟩
                    case round =>
                      obtain ⟨j2, rfl, h1db, h2db, HSdb, HUdb, HCdb⟩ := hrel
                      have hcdb : ∀ t, t < n → wr.cell? ⟨g, o + t, none⟩ = some (.int .u32 (G t : Int)) := fun t ht => by rw [HG.out]; exact HSdb.out.cell ho (by rw [HF.out]; exact ht)
                      have hfdb : ∀ t, t < n → wr.frozen? ⟨g, o + t, none⟩ = false := fun t _ => HSdb.out.frozen _
                      by_cases hledb : i2 ≤ j2
                      · exfalso; omega
                      · have zdb : decide ((i2 : Int) ≤ (j2 : Int)) = false := decide_eq_false (by omega)
                        go_wp2
                        go_quiet (first | (go_at_call 31; refine Calls.quiet_of_same (HL.out _ _ _)))
                        go_wp2
                        have HEdb : Hid (scanDown (fun x => !ltN x f[a]!) f i2 j = j2) := by show _ = _; rw [← HCdb.out, down_end (fun x => !ltN x f[a]!) f i2 j2 (.inl hledb)]
                        revert nq; intro nqdbx
                        have hcdbx : ∀ t, t < n → (wr.drewN nqdbx).cell? ⟨g, o + t, none⟩ = some (.int .u32 (G t : Int)) := hcdb
                        have hfdbx : ∀ t, t < n → (wr.drewN nqdbx).frozen? ⟨g, o + t, none⟩ = false := hfdb
                        have HSdbx := Lib.hid (HSdb.out.drewN nqdbx)
                        have HUdbx := Lib.hid (HUdb.out.drewN nqdbx)
                        clear hcdb hfdb
                        generalize wr.drewN nqdbx = wdbx at hcdbx hfdbx HSdbx HUdbx ⊢
                        have HRf : Hid (R = (j2, f)) := by show _ = _; rw [← HI.out, partLoop_eq, HEub.out, HEdb.out, if_pos (by omega)]
                        have hz1 := (HSdbx.out.put ho (j2) (G (a)) (by rw [HF.out]; omega))
                        have c2 := hz1.cell ho (t := a) (by rw [Array.size_setIfInBounds, HF.out]; omega)
                        have f2 := hz1.frozen (o + (a))
                        have hz2 := HSdbx.out.swap ho (j := j2) (k := a) (by rw [HF.out]; omega) (by rw [HF.out]; omega) (HG.out _) (HG.out _)
                        have HZ := Lib.hid hz2
                        have HFs : Hid ((swp f (j2) (a)).size = n) := by show _ = _; rw [swp_size]; exact HF.out
                        generalize (f.setIfInBounds (j2) (G (a)))[a]! = y2 at c2
                        clear hz1 hz2
                        go_region
                        all_goals go_wp2
                        go_ret2
                        exact ⟨j2, false, swp f j2 a, by rw [HPI.out, HRf.out, HFl.out], rfl, HZ.out.drew, ((HUdbx.out.setCell _ _).setCell _ _).drew, HFs.out⟩
          · have zda : decide ((i2 : Int) ≤ (j2 : Int)) = false := decide_eq_false (by omega)
            go_wp2
            go_quiet (first | (go_at_call 31; refine Calls.quiet_of_same (HL.out _ _ _)))
            go_wp2
            have HEda : Hid (scanDown (fun x => !ltN x f[a]!) f i2 c = j2) := by show _ = _; rw [← HCda.out, down_end (fun x => !ltN x f[a]!) f i2 j2 (.inl hleda)]
            revert nq; intro nqdax
            have hcdax : ∀ t, t < n → (wr.drewN nqdax).cell? ⟨g, o + t, none⟩ = some (.int .u32 (G t : Int)) := hcda
            have hfdax : ∀ t, t < n → (wr.drewN nqdax).frozen? ⟨g, o + t, none⟩ = false := hfda
            have HSdax := Lib.hid (HSda.out.drewN nqdax)
            have HUdax := Lib.hid (HUda.out.drewN nqdax)
            clear hcda hfda
            generalize wr.drewN nqdax = wdax at hcdax hfdax HSdax HUdax ⊢
            have HRf : Hid (R = (j2, f)) := by show _ = _; rw [HRR.out, partLoop_eq, HEua.out, HEda.out, if_pos (by omega)]
            have hz1 := (HSdax.out.put ho (j2) (G (a)) (by rw [HF.out]; omega))
            have c2 := hz1.cell ho (t := a) (by rw [Array.size_setIfInBounds, HF.out]; omega)
            have f2 := hz1.frozen (o + (a))
            have hz2 := HSdax.out.swap ho (j := j2) (k := a) (by rw [HF.out]; omega) (by rw [HF.out]; omega) (HG.out _) (HG.out _)
            have HZ := Lib.hid hz2
            have HFs : Hid ((swp f (j2) (a)).size = n) := by show _ = _; rw [swp_size]; exact HF.out
            generalize (f.setIfInBounds (j2) (G (a)))[a]! = y2 at c2
            clear hz1 hz2
            go_region
            all_goals go_wp2
            go_ret2
            exact ⟨j2, true, swp f j2 a, by rw [HPI.out, HRf.out, HFd.out, HEua.out, HEda.out, decide_eq_true (by omega)], rfl, HZ.out.drew, ((HUdax.out.setCell _ _).setCell _ _).drew, HFs.out⟩
    · have zua : decide ((i2 : Int) ≤ (c : Int)) = false := decide_eq_false (by omega)
      go_wp2
      go_quiet (first | (go_at_call 31; refine Calls.quiet_of_same (HL.out _ _ _)))
      go_wp2
      have HEua : Hid (scanUp (fun x => ltN x f[a]!) f c ia = i2) := by show _ = _; rw [← HCua.out, up_end (fun x => ltN x f[a]!) f c i2 (.inl hleua)]
      revert nq; intro nquax
      have hcuax : ∀ t, t < n → (wr.drewN nquax).cell? ⟨g, o + t, none⟩ = some (.int .u32 (G t : Int)) := hcua
      have hfuax : ∀ t, t < n → (wr.drewN nquax).frozen? ⟨g, o + t, none⟩ = false := hfua
      have HSuax := Lib.hid (HSua.out.drewN nquax)
      have HUuax := Lib.hid (HUua.out.drewN nquax)
      clear hcua hfua
      generalize wr.drewN nquax = wuax at hcuax hfuax HSuax HUuax ⊢
      (try go_wp2)
      go_loopw [11] (fun vi wq => ∃ j2 : Nat, vi = .int .i64 (j2 : Int) ∧ j2 ≤ c ∧ i2 ≤ j2 + 1 ∧ Hid (Rw p q g f wq) ∧ Hid (Tb g w wq) ∧ Hid (scanDown (fun x => !ltN x f[a]!) f i2 j2 = scanDown (fun x => !ltN x f[a]!) f i2 c)) (fun vi _ => (intOf vi).toNat)
      case atStart => exact ⟨c, rfl, Nat.le_refl _, by omega, HSuax.out, HUuax.out, rfl⟩
      case round =>
        obtain ⟨j2, rfl, h1da, h2da, HSda, HUda, HCda⟩ := hrel
        have hcda : ∀ t, t < n → wr.cell? ⟨g, o + t, none⟩ = some (.int .u32 (G t : Int)) := fun t ht => by rw [HG.out]; exact HSda.out.cell ho (by rw [HF.out]; exact ht)
        have hfda : ∀ t, t < n → wr.frozen? ⟨g, o + t, none⟩ = false := fun t _ => HSda.out.frozen _
        by_cases hleda : i2 ≤ j2
        · exfalso; omega
        · have zda : decide ((i2 : Int) ≤ (j2 : Int)) = false := decide_eq_false (by omega)
          go_wp2
          go_quiet (first | (go_at_call 31; refine Calls.quiet_of_same (HL.out _ _ _)))
          go_wp2
          have HEda : Hid (scanDown (fun x => !ltN x f[a]!) f i2 c = j2) := by show _ = _; rw [← HCda.out, down_end (fun x => !ltN x f[a]!) f i2 j2 (.inl hleda)]
          revert nq; intro nqdax
          have hcdax : ∀ t, t < n → (wr.drewN nqdax).cell? ⟨g, o + t, none⟩ = some (.int .u32 (G t : Int)) := hcda
          have hfdax : ∀ t, t < n → (wr.drewN nqdax).frozen? ⟨g, o + t, none⟩ = false := hfda
          have HSdax := Lib.hid (HSda.out.drewN nqdax)
          have HUdax := Lib.hid (HUda.out.drewN nqdax)
          clear hcda hfda
          generalize wr.drewN nqdax = wdax at hcdax hfdax HSdax HUdax ⊢
          have HRf : Hid (R = (j2, f)) := by show _ = _; rw [HRR.out, partLoop_eq, HEua.out, HEda.out, if_pos (by omega)]
          have hz1 := (HSdax.out.put ho (j2) (G (a)) (by rw [HF.out]; omega))
          have c2 := hz1.cell ho (t := a) (by rw [Array.size_setIfInBounds, HF.out]; omega)
          have f2 := hz1.frozen (o + (a))
          have hz2 := HSdax.out.swap ho (j := j2) (k := a) (by rw [HF.out]; omega) (by rw [HF.out]; omega) (HG.out _) (HG.out _)
          have HZ := Lib.hid hz2
          have HFs : Hid ((swp f (j2) (a)).size = n) := by show _ = _; rw [swp_size]; exact HF.out
          generalize (f.setIfInBounds (j2) (G (a)))[a]! = y2 at c2
          clear hz1 hz2
          go_region
          all_goals go_wp2
          go_ret2
          exact ⟨j2, true, swp f j2 a, by rw [HPI.out, HRf.out, HFd.out, HEua.out, HEda.out, decide_eq_true (by omega)], rfl, HZ.out.drew, ((HUdax.out.setCell _ _).setCell _ _).drew, HFs.out⟩
end Go.Proofs.YtcopkeccogpkmaaDoor
