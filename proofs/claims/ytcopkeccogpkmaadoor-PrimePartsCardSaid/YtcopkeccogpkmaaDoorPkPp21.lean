/- The library's sort at []uint32: partialInsertionSortOrdered. Conditions: the row's size. -/
import Derived.Test.YtcopkeccogpkmaaDoorPkPp20
namespace Go.Proofs.YtcopkeccogpkmaaDoor
open Go.RowKit Go.Sort

theorem ss_go (d : Array Nat) (b i : Nat) (h : i < b) (hl : (!ltN d[i]! d[i - 1]!) = true) : scanSorted ltN d b i = scanSorted ltN d b (i + 1) := by rw [scanSorted, if_pos (by rw [hl]; simp; exact h)]
theorem ss_end (d : Array Nat) (b i : Nat) (h : ¬ i < b ∨ (!ltN d[i]! d[i - 1]!) = false) : scanSorted ltN d b i = i := by
  rw [scanSorted, if_neg]
  rcases h with h | h
  · simp; intro h2; omega
  · rw [h]; simp
theorem dn_go (j : Nat) (d : Array Nat) (hj : 1 ≤ j) (hl : (!ltN d[j]! d[j - 1]!) = false) : shiftDown ltN j d = shiftDown ltN (j - 1) (swp d j (j - 1)) := by
  cases j with
  | zero => omega
  | succ k =>
    rw [Nat.add_sub_cancel] at hl ⊢
    rw [shiftDown, hl]; rfl
theorem dn_end (j : Nat) (d : Array Nat) (h : j = 0 ∨ (!ltN d[j]! d[j - 1]!) = true) : shiftDown ltN j d = d := by
  cases j with
  | zero => rw [shiftDown]
  | succ k =>
    rcases h with h | h
    · omega
    · rw [Nat.add_sub_cancel] at h
      rw [shiftDown, h]; rfl
theorem up_go4 (b j : Nat) (d : Array Nat) (hj : j < b) (hl : (!ltN d[j]! d[j - 1]!) = false) : shiftUp ltN b j d = shiftUp ltN b (j + 1) (swp d j (j - 1)) := by rw [shiftUp, if_pos hj, hl]; rfl
theorem up_end4 (b j : Nat) (d : Array Nat) (h : ¬ j < b ∨ (!ltN d[j]! d[j - 1]!) = true) : shiftUp ltN b j d = d := by
  rw [shiftUp]
  by_cases hj : j < b
  · rcases h with h | h
    · omega
    · rw [if_pos hj, h]; rfl
  · rw [if_neg hj]
theorem pi_stop (a b s i : Nat) (d : Array Nat) (hs : s < 5) (hK : scanSorted ltN d b i = b) : partialIns ltN a b (5 - s) i d = (d, true) := by
  rw [show 5 - s = (4 - s) + 1 by omega, partialIns_succ, if_pos hK]
theorem pi_few (a b s i k : Nat) (d : Array Nat) (hs : s < 5) (hK : scanSorted ltN d b i = k) (hk : k ≠ b) (h50 : b - a < 50) : partialIns ltN a b (5 - s) i d = (d, false) := by
  rw [show 5 - s = (4 - s) + 1 by omega, partialIns_succ, hK, if_neg hk, if_pos h50]
theorem pi_on (a b s i k : Nat) (d : Array Nat) (hs : s < 5) (hK : scanSorted ltN d b i = k) (hk : k ≠ b) (h50 : ¬ b - a < 50) :
    partialIns ltN a b (5 - s) i d = partialIns ltN a b (5 - (s + 1)) k (fixUp ltN b k (fixDown ltN a k (swp d k (k - 1)))) := by
  rw [show 5 - s = (4 - s) + 1 by omega, partialIns_succ, hK, if_neg hk, if_neg h50, show 5 - (s + 1) = 4 - s by omega]
set_option maxRecDepth 20000 in
set_option maxHeartbeats 12800000 in
theorem pins_few {p q : List Value} {g o : Nat} (ho : p.length = o) (cap a b : Nat) (d : Array Nat) (w : World) (h : Rw p q g d w) (hab : a < b) (hb : b ≤ d.size) (hsz : d.size < 2305843009213693952) (h50 : b - a < 50) :
    Calls Tryd.prog 30 #[.slice (some ⟨g, o, none⟩) d.size cap, .int .i64 (a : Int), .int .i64 (b : Int)] w fun e w' =>
      ∃ fl d2, partialInsertionSort ltN d a b = (d2, fl) ∧ e = .returned (.bool fl) ∧ Rw p q g d2 w' ∧ Tb g w w' ∧ d2.size = d.size := by
  obtain ⟨n, hn⟩ : ∃ n, n = d.size := ⟨_, rfl⟩
  rw [← hn] at hb hsz ⊢
  have HL : Hid (∀ (x y : Nat) W, Calls Tryd.prog 31 #[.int .u32 (x : Int), .int .u32 (y : Int)] W fun r W' => r = .returned (.bool (ltN x y)) ∧ W' = W) := fun x y W => lessN x y W
  obtain ⟨Z, hZ⟩ : ∃ Z, Z = partialInsertionSort ltN d a b := ⟨_, rfl⟩
  have HB : Hid (partialIns ltN a b (5 - 0) (a + 1) d = Z) := by show _ = _; rw [hZ]; rfl
  rw [← hZ]
  have HF0 : Hid (d.size = n) := hn.symm
  have HS0 := Lib.hid h
  have z50 : (b : Int) - (a : Int) < 50 := by omega
  clear h hn hZ
  go_enter Tryd.func30, Tryd.ntmps30
  go_wp2
  go_loopw [7, 8] (fun vi vs wq => ∃ (s i : Nat) (f : Array Nat), vs = .int .i64 (s : Int) ∧ vi = .int .i64 (i : Int) ∧ s ≤ 5 ∧ a < i ∧ i ≤ b ∧ Hid (f.size = n) ∧ Hid (Rw p q g f wq) ∧ Hid (Tb g w wq) ∧ Hid (partialIns ltN a b (5 - s) i f = Z)) (fun _ vs _ => 5 - (intOf vs).toNat)
  case atStart => exact ⟨0, a + 1, d, rfl, by go_num, by omega, by omega, by omega, HF0.out, HS0.out, Tb.refl _ _, HB.out⟩
  case round =>
    obtain ⟨s, i, f, rfl, rfl, hs, hai, hib, HF, HSr, HUr, HI⟩ := hrel
    by_cases hs5 : s < 5
    · have zs : (s : Int) < 5 := by omega
      go_wp2
      go_loopw [7] (fun vi wq => ∃ i2 : Nat, vi = .int .i64 (i2 : Int) ∧ i ≤ i2 ∧ i2 ≤ b ∧ Hid (Rw p q g f wq) ∧ Hid (Tb g w wq) ∧ Hid (scanSorted ltN f b i2 = scanSorted ltN f b i)) (fun vi _ => b - (intOf vi).toNat)
      case atStart => exact ⟨i, rfl, Nat.le_refl _, hib, HSr.out, HUr.out, rfl⟩
      case round =>
        obtain ⟨i2, rfl, h1i, h2i, HSc, HUc, HC⟩ := hrel
        obtain ⟨G, hG⟩ : ∃ G : Nat → Nat, ∀ t, G t = f[t]! := ⟨fun t => f[t]!, fun _ => rfl⟩
        have HG := Lib.hid hG
        have hcc : ∀ t, t < n → wr.cell? ⟨g, o + t, none⟩ = some (.int .u32 (G t : Int)) := fun t ht => by rw [hG]; exact HSc.out.cell ho (by rw [HF.out]; exact ht)
        have hfc : ∀ t, t < n → wr.frozen? ⟨g, o + t, none⟩ = false := fun t _ => HSc.out.frozen _
        clear hG
        by_cases hle : i2 < b
        · have zl : (i2 : Int) < (b : Int) := by omega
          have zq : ((i2 : Int) == (b : Int)) = false := by simp; omega
          go_wp2
          go_quiet (first | (go_at_call 31; refine Calls.quiet_of_same (HL.out _ _ _)))
          go_wp2
          · have hp : (!ltN (G i2) (G (i2 - 1))) = true := by assumption
            go_roundw
            case rel => exact ⟨i2 + 1, by go_num, by omega, by omega, HSc.out.drewN _, HUc.out.drewN _, by show _ = _; rw [← HC.out, ss_go f b i2 hle (by rw [← HG.out, ← HG.out]; exact hp)]⟩
            case measure => simp [intOf]; omega
          · have hp : (!ltN (G i2) (G (i2 - 1))) = false := by assumption
            have HE : Hid (scanSorted ltN f b i = i2) := by show _ = _; rw [← HC.out, ss_end f b i2 (.inr (by rw [← HG.out, ← HG.out]; exact hp))]
            clear hp
            revert nq; intro nqx
            have hcx : ∀ t, t < n → (wr.drewN nqx).cell? ⟨g, o + t, none⟩ = some (.int .u32 (G t : Int)) := hcc
            have hfx : ∀ t, t < n → (wr.drewN nqx).frozen? ⟨g, o + t, none⟩ = false := hfc
            have HSx := Lib.hid (HSc.out.drewN nqx)
            have HUx := Lib.hid (HUc.out.drewN nqx)
            clear hcc hfc
            generalize wr.drewN nqx = wx at hcx hfx HSx HUx ⊢
            go_ret
            exact ⟨false, f, by rw [← HI.out, pi_few a b s i i2 f hs5 HE.out (by omega) h50], rfl, HSx.out, HUx.out, HF.out⟩
        · have zl : decide ((i2 : Int) < (b : Int)) = false := decide_eq_false (by omega)
          obtain rfl : b = i2 := by omega
          have HE : Hid (scanSorted ltN f b i = b) := by show _ = _; rw [← HC.out, ss_end f b b (.inl (by omega))]
          go_wp2
          go_quiet (first | (go_at_call 31; refine Calls.quiet_of_same (HL.out _ _ _)))
          go_wp2
          go_ret
          exact ⟨true, f, by rw [← HI.out, pi_stop a b s i f hs5 HE.out], rfl, HSc.out.drewN _, HUc.out.drewN _, HF.out⟩
    · obtain rfl : s = 5 := by omega
      go_wp2
      go_ret
      exact ⟨false, f, by rw [← HI.out]; rfl, rfl, HSr.out, HUr.out, HF.out⟩
end Go.Proofs.YtcopkeccogpkmaaDoor
