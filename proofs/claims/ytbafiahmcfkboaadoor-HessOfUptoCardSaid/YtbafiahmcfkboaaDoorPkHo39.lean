/- HessOf answers true. Conditions: bases is as the program lays it; the sizes. -/
import Derived.Test.YtbafiahmcfkboaaDoorPkHo19
import Derived.Test.YtbafiahmcfkboaaDoorPkHo17
import Derived.Test.YtbafiahmcfkboaaDoorPkHo20
import Derived.Test.YtbafiahmcfkboaaDoorPkHo32
import Derived.Test.YtbafiahmcfkboaaDoorPkHo38
namespace Go.Proofs.YtbafiahmcfkboaaDoor
open Go.RowKit

/-- An integer that is held. -/
def okI (w : World) (e : Ie) : Prop := ∃ xs : List Nat, e.n = xs.length ∧ Zh w e.g e.A e.c xs e.z 1048576
theorem okI.below (W W' : World) (e : Ie) (h : okI W e) (hb : Below W.heap.size W W') : okI W' e := by
  obtain ⟨xs, h1, h2⟩ := h
  exact ⟨xs, h1, h2.next hb⟩
theorem okI.mod {W : World} {e : Ie} (h : okI W e) (p : Nat) (hp0 : 0 < p) (hp : p < 4294967296) : Calls Tryd.prog 31 #[.agg #[.bool e.g, .slice e.A e.n e.c], .int .u32 (p : Int)] W fun r w' => r = .returned (.tuple #[.int .u32 (e.z % (p : Int)), .int .i64 0]) ∧ Below W.heap.size W w' := by
  obtain ⟨xs, h1, h2⟩ := h
  rw [h1]
  exact zmod_any h2 (by omega) p hp0 hp
theorem okI.rmod {W : World} {e : Ie} (h : okI W e) (p : Nat) (hp0 : 0 < p) (hp : p < 4294967296) : Calls Tryd.prog 21 #[.agg #[.bool e.g, .slice e.A e.n e.c], .int .u32 (p : Int)] W fun r w' => r = .returned (.int .u32 (e.z % (p : Int))) ∧ Below W.heap.size W w' := by
  obtain ⟨xs, h1, h2⟩ := h
  rw [h1]
  exact h2.rmod (by omega) p hp0 hp

set_option maxRecDepth 20000 in
set_option maxHeartbeats 6400000 in
theorem hofB_no (A : Option Addr) (c p : Nat) (M : List (List Ie)) (w : World) (hx : Bx w) (hp : p < 4294967296) (hr : RZ okI w A M) (hm : M.length ≤ 1048576) (hwid : ∀ i (h : i < M.length), M[i].length ≤ 1048576) (hpr : ¬ Pr p) :
    Calls Tryd.prog 5 #[.slice A M.length c, .int .u32 (p : Int)] w fun e w' => e = .returned (.bool true) ∧ Below w.heap.size w w' := by
  have HX : Hid (∀ W, Below w.heap.size w W → Bx W) := fun W hW => hx.below hW (Nat.le_refl _)
  have HAW : Hid (∀ W, Below w.heap.size w W → Calls Tryd.prog 12 #[] W fun e w' => e = .returned (.bool true) ∧ Below W.heap.size W w') := fun W hW => lawake_any W (HX.out W hW)
  have HOF := Lib.hid (hOf_no A M.length c p w hpr hp hx.bases)
  have HPR : Hid (∀ W : World, Calls Tryd.prog 20 #[.int .u32 (p : Int)] W fun e w' => e = .returned (.bool false) ∧ W = w') := fun W => rprime_any p false (by simp [hpr]) hp W
  have HC : Hid (∀ i (h : i < M.length), ∃ b off Ai ci, A = some ⟨b, off, none⟩ ∧ b < w.heap.size ∧ w.cell? ⟨b, off + i, none⟩ = some (.slice Ai M[i].length ci)) := fun i h => by
    obtain ⟨b, off, e, hb, h2⟩ := hr (fun e => by subst e; simp at h)
    obtain ⟨Ai, ci, a1, _⟩ := h2 i h
    exact ⟨b, off, Ai, ci, e, hb, a1⟩
  obtain ⟨n, hn⟩ : ∃ n, n = M.length := ⟨_, rfl⟩
  have Hn := Lib.hid hn
  rw [← hn] at hm HOF ⊢
  clear hn hr hx hwid hpr
  go_enter Tryd.func5, Tryd.ntmps5
  go_upto_region 6 with (first | (go_at_call 19; (with_reducible refine HOF.out.mono ?_); rintro _ w1 ⟨rfl, hb1⟩; have HB1 := Lib.hid hb1; clear hb1) | (go_at_call 20; (with_reducible refine (HPR.out _).mono ?_); rintro _ _ ⟨rfl, rfl⟩))
  go_loop [25, 7] (fun v u => u = .int .i64 40 ∧ ∃ j : Nat, j ≤ n ∧ v = .int .i64 (j : Int)) (fun v _ => n - (intOf v).toNat)
  case atStart => exact ⟨rfl, 0, Nat.zero_le _, rfl⟩
  case round =>
    obtain ⟨rfl, j, hj, rfl⟩ := hrel
    by_cases hjn : j < n
    · obtain ⟨b, off, Aj, cj, rfl, hb, z1⟩ := HC.out j (by rw [← Hn.out]; exact hjn)
      have z2 := (HB1.out.cell (p := ⟨b, off + j, none⟩) hb).trans z1
      clear z1
      go_wp2
      go_round
      case rel => exact ⟨rfl, j + 1, by omega, by go_num⟩
      case measure => simp [intOf]; omega
    · obtain rfl : j = n := by omega
      go_wp2_with (go_at_call 12; (with_reducible refine (HAW.out _ HB1.out).mono ?_); rintro _ w9 ⟨rfl, hb9⟩; have HB9 : Hid (Below w.heap.size w w9) := (HB1.out).trans (hb9.mono (HB1.out).size))
      go_ret
      exact ⟨rfl, HB9.out⟩

set_option maxRecDepth 20000 in
set_option maxHeartbeats 6400000 in
theorem hofB_nil (A : Option Addr) (c p : Nat) (M : List (List Ie)) (w : World) (hx : Bx w) (hp : p < 4294967296) (hpr : Pr p) (hM : M.length = 0) :
    Calls Tryd.prog 5 #[.slice A M.length c, .int .u32 (p : Int)] w fun e w' => e = .returned (.bool true) ∧ Below w.heap.size w w' := by
  have HX : Hid (∀ W, Below w.heap.size w W → Bx W) := fun W hW => hx.below hW (Nat.le_refl _)
  have HAW : Hid (∀ W, Below w.heap.size w W → Calls Tryd.prog 12 #[] W fun e w' => e = .returned (.bool true) ∧ Below W.heap.size W w') := fun W hW => lawake_any W (HX.out W hW)
  have HOF := Lib.hid (hOf_nil A c p w hpr hp hx.bases)
  have HPR : Hid (∀ W : World, Calls Tryd.prog 20 #[.int .u32 (p : Int)] W fun e w' => e = .returned (.bool true) ∧ W = w') := fun W => rprime_any p true (by simp [hpr]) hp W
  rw [hM]
  clear hM hx hpr
  go_enter Tryd.func5, Tryd.ntmps5
  go_upto_region 6 with (first | (go_at_call 19; (with_reducible refine HOF.out.mono ?_); rintro _ w1 ⟨A1, rfl, hb1⟩; have HB1 := Lib.hid hb1; clear hb1) | (go_at_call 20; (with_reducible refine (HPR.out _).mono ?_); rintro _ _ ⟨rfl, rfl⟩))
  go_loop [25, 7] (fun v u => v = .int .i64 0 ∧ u = .int .i64 0) (fun _ _ => 0)
  case atStart => exact ⟨rfl, rfl⟩
  case round =>
    obtain ⟨rfl, rfl⟩ := hrel
    go_upto_region 18 with (fail)
    go_loop [84] (fun v => v = .int .i64 0) (fun _ => 0)
    case atStart => rfl
    case round =>
      subst hrel
      go_wp2_with (go_at_call 12; (with_reducible refine (HAW.out _ HB1.out).mono ?_); rintro _ w9 ⟨rfl, hb9⟩; have HB9 : Hid (Below w.heap.size w w9) := (HB1.out).trans (hb9.mono (HB1.out).size))
      go_ret
      exact ⟨rfl, HB9.out⟩

set_option maxRecDepth 20000 in
set_option maxHeartbeats 6400000 in
theorem hofB_two (A : Option Addr) (c p : Nat) (M : List (List Ie)) (w : World) (hx : Bx w) (hp : p < 4294967296) (hr : RZ okI w A M) (hm : M.length ≤ 1048576) (hwid : ∀ i (h : i < M.length), M[i].length ≤ 1048576) (hpr : Pr p) (hM : M ≠ []) (hft : Fo p M 2) :
    Calls Tryd.prog 5 #[.slice A M.length c, .int .u32 (p : Int)] w fun e w' => e = .returned (.bool true) ∧ Below w.heap.size w w' := by
  have HX : Hid (∀ W, Below w.heap.size w W → Bx W) := fun W hW => hx.below hW (Nat.le_refl _)
  have HAW : Hid (∀ W, Below w.heap.size w W → Calls Tryd.prog 12 #[] W fun e w' => e = .returned (.bool true) ∧ Below W.heap.size W w') := fun W hW => lawake_any W (HX.out W hW)
  have HOF : Hid (Calls Tryd.prog 19 #[.slice A M.length c, .int .u32 (p : Int)] w fun e w' => e = .returned (.tuple #[.slice none 0 0, .int .i64 2]) ∧ Below w.heap.size w w') := (hOf_any okI okI.below A c p M w hpr hp hx.bases hr hM hm hwid (fun W e h => h.mod p hpr.pos hp)).mono fun e w' h => by
    rcases h with ⟨k, h1, _, h3, h4⟩ | ⟨h1, _⟩
    · obtain rfl := h1.unique hft
      exact ⟨h3, h4⟩
    · exact absurd (h1.unique hft) (by decide)
  have hNR : Hid (¬ RectZ M) := fun h => by
    rcases hft with ⟨h1, _⟩ | ⟨_, ⟨_, h2⟩ | ⟨_, ⟨h3, _⟩ | ⟨h3, _⟩⟩⟩
    · exact absurd h1 (by decide)
    · exact h2 h
    · exact absurd h3 (by decide)
    · exact absurd h3 (by decide)
  clear hft
  have HPR : Hid (∀ W : World, Calls Tryd.prog 20 #[.int .u32 (p : Int)] W fun e w' => e = .returned (.bool true) ∧ W = w') := fun W => rprime_any p true (by simp [hpr]) hp W
  have hl0 : 0 < M.length := List.length_pos_iff.2 hM
  have hc0 := colZ_eq M hl0
  have HZ : Hid (∀ W (e : Ie), okI W e → Calls Tryd.prog 21 #[.agg #[.bool e.g, .slice e.A e.n e.c], .int .u32 (p : Int)] W fun r w' => r = .returned (.int .u32 (e.z % (p : Int))) ∧ Below W.heap.size W w') := fun W e h => h.rmod p hpr.pos hp
  have HRZ := Lib.hid hr
  obtain ⟨b, off, rfl, hb, hcells⟩ := hr hM
  have HC : Hid (∀ i (h : i < M.length), ∃ Ai ci, w.cell? ⟨b, off + i, none⟩ = some (.slice Ai M[i].length ci)) := fun i h => by
    obtain ⟨Ai, ci, a1, _⟩ := hcells i h
    exact ⟨Ai, ci, a1⟩
  have HM : Hid (M ≠ []) := hM
  have HPp : Hid (Pr p) := hpr
  obtain ⟨A0, c0, z00⟩ := HC.out 0 hl0
  rw [← hc0, Nat.add_zero] at z00
  have hcl : colZ M ≤ 1048576 := by rw [hc0]; exact hwid 0 hl0
  obtain ⟨n, hn⟩ : ∃ n, n = M.length := ⟨_, rfl⟩
  obtain ⟨q, hq⟩ : ∃ q, q = colZ M := ⟨_, rfl⟩
  have Hn := Lib.hid hn
  have Hq := Lib.hid hq
  rw [← hn] at hl0 hm HOF ⊢
  rw [← hq] at z00 hcl
  clear hpr hx hr hcells hM hn hq hc0 hwid
  go_enter Tryd.func5, Tryd.ntmps5
  go_upto_region 6 with (first | (go_at_call 19; (with_reducible refine HOF.out.mono ?_); rintro _ w1 ⟨rfl, hb1⟩; have HB1 := Lib.hid hb1; clear hb1) | (go_at_call 20; (with_reducible refine (HPR.out _).mono ?_); rintro _ _ ⟨rfl, rfl⟩))
  have z01 := (HB1.out.cell (p := ⟨b, off, none⟩) hb).trans z00
  clear z00
  go_loop [25, 7] (fun v u => ∃ j x : Nat, j ≤ n ∧ v = .int .i64 (j : Int) ∧ u = .int .i64 (x : Int) ∧ Hid ((x = 0 ∧ ∀ i (h : i < M.length), i < j → M[i].length = q) ∨ x = 2)) (fun v _ => n - (intOf v).toNat)
  case atStart => exact ⟨0, 0, Nat.zero_le _, rfl, rfl, .inl ⟨rfl, fun i _ h => absurd h (Nat.not_lt_zero _)⟩⟩
  case round =>
    obtain ⟨j, x, hj, rfl, rfl, hrow⟩ := hrel
    by_cases hjn : j < n
    · have hjM : j < M.length := by rw [← Hn.out]; exact hjn
      obtain ⟨Aj, cj, z1⟩ := HC.out j hjM
      obtain ⟨lj, hlj⟩ : ∃ lj, lj = M[j].length := ⟨_, rfl⟩
      rw [← hlj] at z1
      have z2 := (HB1.out.cell (p := ⟨b, off + j, none⟩) hb).trans z1
      have Hlj := Lib.hid hlj
      clear hlj z1
      rcases hrow.out with ⟨rfl, hrow'⟩ | rfl
      · have Hr := Lib.hid hrow'
        clear hrow'
        by_cases hlq : lj = q
        · have hrow2 : Hid (∀ i (h : i < M.length), i < j + 1 → M[i].length = q) := fun i h h2 => by
            by_cases e : i = j
            · subst e; rw [← Hlj.out]; exact hlq
            · exact Hr.out i h (by omega)
          subst hlq
          have t1 : ((lj : Int) != (lj : Int)) = false := by simp
          go_wp2
          go_round
          case rel => exact ⟨j + 1, 0, by omega, by go_num, rfl, .inl ⟨rfl, hrow2.out⟩⟩
          case measure => simp [intOf]; omega
        · have t1 : ((lj : Int) != (q : Int)) = true := by simp; omega
          clear hlq
          go_wp2
          go_round
          case rel => exact ⟨j + 1, 2, by omega, by go_num, rfl, .inr rfl⟩
          case measure => simp [intOf]; omega
      · go_wp2
        go_round
        case rel => exact ⟨j + 1, 2, by omega, by go_num, rfl, .inr rfl⟩
        case measure => simp [intOf]; omega
    · obtain rfl : j = n := by omega
      obtain rfl : x = 2 := by
        rcases hrow.out with ⟨_, h⟩ | h
        · exact absurd (fun i hi => by rw [← Hq.out]; exact h i hi (by rw [Hn.out]; exact hi)) hNR.out
        · exact h
      go_wp2_with (go_at_call 12; (with_reducible refine (HAW.out _ HB1.out).mono ?_); rintro _ w9 ⟨rfl, hb9⟩; have HB9 : Hid (Below w.heap.size w w9) := (HB1.out).trans (hb9.mono (HB1.out).size))
      go_ret
      exact ⟨rfl, HB9.out⟩

set_option maxRecDepth 20000 in
set_option maxHeartbeats 6400000 in
theorem hofB_big (A : Option Addr) (c p : Nat) (M : List (List Ie)) (w : World) (hx : Bx w) (hp : p < 4294967296) (hr : RZ okI w A M) (hm : M.length ≤ 1048576) (hwid : ∀ i (h : i < M.length), M[i].length ≤ 1048576) (hpr : Pr p) (hM : M ≠ []) (hft : Fo p M 4) :
    Calls Tryd.prog 5 #[.slice A M.length c, .int .u32 (p : Int)] w fun e w' => e = .returned (.bool true) ∧ Below w.heap.size w w' := by
  have HX : Hid (∀ W, Below w.heap.size w W → Bx W) := fun W hW => hx.below hW (Nat.le_refl _)
  have HAW : Hid (∀ W, Below w.heap.size w W → Calls Tryd.prog 12 #[] W fun e w' => e = .returned (.bool true) ∧ Below W.heap.size W w') := fun W hW => lawake_any W (HX.out W hW)
  have HOF : Hid (Calls Tryd.prog 19 #[.slice A M.length c, .int .u32 (p : Int)] w fun e w' => e = .returned (.tuple #[.slice none 0 0, .int .i64 4]) ∧ Below w.heap.size w w') := (hOf_any okI okI.below A c p M w hpr hp hx.bases hr hM hm hwid (fun W e h => h.mod p hpr.pos hp)).mono fun e w' h => by
    rcases h with ⟨k, h1, _, h3, h4⟩ | ⟨h1, _⟩
    · obtain rfl := h1.unique hft
      exact ⟨h3, h4⟩
    · exact absurd (h1.unique hft) (by decide)
  have hRB : RectZ M ∧ (24 < M.length ∨ 24 < colZ M) := by
    rcases hft with ⟨h1, _⟩ | ⟨_, ⟨h1, _⟩ | ⟨h2, ⟨_, h3⟩ | ⟨h3, _⟩⟩⟩
    · exact absurd h1 (by decide)
    · exact absurd h1 (by decide)
    · exact ⟨h2, h3.2⟩
    · exact absurd h3 (by decide)
  obtain ⟨hR, hB⟩ := hRB
  have hRect := Lib.hid hR
  clear hft hR
  have HPR : Hid (∀ W : World, Calls Tryd.prog 20 #[.int .u32 (p : Int)] W fun e w' => e = .returned (.bool true) ∧ W = w') := fun W => rprime_any p true (by simp [hpr]) hp W
  have hl0 : 0 < M.length := List.length_pos_iff.2 hM
  have hc0 := colZ_eq M hl0
  have HZ : Hid (∀ W (e : Ie), okI W e → Calls Tryd.prog 21 #[.agg #[.bool e.g, .slice e.A e.n e.c], .int .u32 (p : Int)] W fun r w' => r = .returned (.int .u32 (e.z % (p : Int))) ∧ Below W.heap.size W w') := fun W e h => h.rmod p hpr.pos hp
  have HRZ := Lib.hid hr
  obtain ⟨b, off, rfl, hb, hcells⟩ := hr hM
  have HC : Hid (∀ i (h : i < M.length), ∃ Ai ci, w.cell? ⟨b, off + i, none⟩ = some (.slice Ai M[i].length ci)) := fun i h => by
    obtain ⟨Ai, ci, a1, _⟩ := hcells i h
    exact ⟨Ai, ci, a1⟩
  have HM : Hid (M ≠ []) := hM
  have HPp : Hid (Pr p) := hpr
  obtain ⟨A0, c0, z00⟩ := HC.out 0 hl0
  rw [← hc0, Nat.add_zero] at z00
  have hcl : colZ M ≤ 1048576 := by rw [hc0]; exact hwid 0 hl0
  obtain ⟨n, hn⟩ : ∃ n, n = M.length := ⟨_, rfl⟩
  obtain ⟨q, hq⟩ : ∃ q, q = colZ M := ⟨_, rfl⟩
  have Hn := Lib.hid hn
  have Hq := Lib.hid hq
  rw [← hn] at hl0 hm HOF hB ⊢
  rw [← hq] at z00 hcl hB
  clear hpr hx hr hcells hM hn hq hc0 hwid
  have HRl : Hid (∀ i (h : i < M.length), M[i].length = q) := fun i h => by rw [Hq.out]; exact hRect.out i h
  go_enter Tryd.func5, Tryd.ntmps5
  go_upto_region 6 with (first | (go_at_call 19; (with_reducible refine HOF.out.mono ?_); rintro _ w1 ⟨rfl, hb1⟩; have HB1 := Lib.hid hb1; clear hb1) | (go_at_call 20; (with_reducible refine (HPR.out _).mono ?_); rintro _ _ ⟨rfl, rfl⟩))
  have z01 := (HB1.out.cell (p := ⟨b, off, none⟩) hb).trans z00
  clear z00
  have tqq : ((q : Int) != (q : Int)) = false := by simp
  go_loop [25, 7] (fun v u => u = .int .i64 0 ∧ ∃ j : Nat, j ≤ n ∧ v = .int .i64 (j : Int)) (fun v _ => n - (intOf v).toNat)
  case atStart => exact ⟨rfl, 0, Nat.zero_le _, rfl⟩
  case round =>
    obtain ⟨rfl, j, hj, rfl⟩ := hrel
    by_cases hjn : j < n
    · have hjM : j < M.length := by rw [← Hn.out]; exact hjn
      obtain ⟨Aj, cj, z1⟩ := HC.out j hjM
      rw [HRl.out j hjM] at z1
      have z2 := (HB1.out.cell (p := ⟨b, off + j, none⟩) hb).trans z1
      clear z1
      go_wp2
      go_round
      case rel => exact ⟨rfl, j + 1, by omega, by go_num⟩
      case measure => simp [intOf]; omega
    · obtain rfl : j = n := by omega
      have t00 : decide ((0 : Int) < (j : Int)) = true := by simp; omega
      by_cases h24 : 24 < j
      · have t1 : decide ((24 : Int) < (j : Int)) = true := by simp; omega
        clear hB
        go_wp2_with (go_at_call 12; (with_reducible refine (HAW.out _ HB1.out).mono ?_); rintro _ w9 ⟨rfl, hb9⟩; have HB9 : Hid (Below w.heap.size w w9) := (HB1.out).trans (hb9.mono (HB1.out).size))
        go_ret
        exact ⟨rfl, HB9.out⟩
      · have t1 : decide ((24 : Int) < (j : Int)) = false := by simp; omega
        have t2 : decide ((24 : Int) < (q : Int)) = true := by simp; omega
        clear hB
        go_wp2_with (go_at_call 12; (with_reducible refine (HAW.out _ HB1.out).mono ?_); rintro _ w9 ⟨rfl, hb9⟩; have HB9 : Hid (Below w.heap.size w w9) := (HB1.out).trans (hb9.mono (HB1.out).size))
        go_ret
        exact ⟨rfl, HB9.out⟩

set_option maxRecDepth 20000 in
set_option maxHeartbeats 6400000 in
theorem hofB_ok (A : Option Addr) (c p : Nat) (M : List (List Ie)) (w : World) (hx : Bx w) (hp : p < 4294967296) (hr : RZ okI w A M) (hm : M.length ≤ 1048576) (hwid : ∀ i (h : i < M.length), M[i].length ≤ 1048576) (hpr : Pr p) (hM : M ≠ []) (hft : Fo p M 0) :
    Calls Tryd.prog 5 #[.slice A M.length c, .int .u32 (p : Int)] w fun e w' => e = .returned (.bool true) ∧ Below w.heap.size w w' := by
  have HX : Hid (∀ W, Below w.heap.size w W → Bx W) := fun W hW => hx.below hW (Nat.le_refl _)
  have HAW : Hid (∀ W, Below w.heap.size w W → Calls Tryd.prog 12 #[] W fun e w' => e = .returned (.bool true) ∧ Below W.heap.size W w') := fun W hW => lawake_any W (HX.out W hW)
  have hl0' : 0 < M.length := List.length_pos_iff.2 hM
  have hRB : RectZ M ∧ M.length ≤ 24 ∧ colZ M ≤ 24 := by
    rcases hft with ⟨h1, _⟩ | ⟨_, ⟨h1, _⟩ | ⟨h2, ⟨h3, _⟩ | ⟨_, h3⟩⟩⟩
    · exact absurd h1 (by decide)
    · exact absurd h1 (by decide)
    · exact absurd h3 (by decide)
    · exact ⟨h2, by omega, by omega⟩
  obtain ⟨hR, hn24, hq24⟩ := hRB
  have hRect := Lib.hid hR
  have HOF : Hid (Calls Tryd.prog 19 #[.slice A M.length c, .int .u32 (p : Int)] w fun e w' => ∃ g, e = .returned (.tuple #[.slice (some ⟨g, 0, none⟩) M.length M.length, .int .i64 0]) ∧ RdM w' w'.heap.size (some ⟨g, 0, none⟩) (mtab M.length (colZ M) (zEn p M)) ∧ Below w.heap.size w w') := (hOf_any okI okI.below A c p M w hpr hp hx.bases hr hM hm hwid (fun W e h => h.mod p hpr.pos hp)).mono fun e w' h => by
    rcases h with ⟨k, h1, h2, _⟩ | ⟨_, g, bs, h3, h4, h5, h6⟩
    · exact absurd (h1.unique hft) h2
    · refine ⟨g, h3, ?_, h6⟩
      have := h4.reads (by omega)
      rw [h5] at this
      exact this
  clear hft hR hl0'
  have HPR : Hid (∀ W : World, Calls Tryd.prog 20 #[.int .u32 (p : Int)] W fun e w' => e = .returned (.bool true) ∧ W = w') := fun W => rprime_any p true (by simp [hpr]) hp W
  have hl0 : 0 < M.length := List.length_pos_iff.2 hM
  have hc0 := colZ_eq M hl0
  have HZ : Hid (∀ W (e : Ie), okI W e → Calls Tryd.prog 21 #[.agg #[.bool e.g, .slice e.A e.n e.c], .int .u32 (p : Int)] W fun r w' => r = .returned (.int .u32 (e.z % (p : Int))) ∧ Below W.heap.size W w') := fun W e h => h.rmod p hpr.pos hp
  have HRZ := Lib.hid hr
  obtain ⟨b, off, rfl, hb, hcells⟩ := hr hM
  have HC : Hid (∀ i (h : i < M.length), ∃ Ai ci, w.cell? ⟨b, off + i, none⟩ = some (.slice Ai M[i].length ci)) := fun i h => by
    obtain ⟨Ai, ci, a1, _⟩ := hcells i h
    exact ⟨Ai, ci, a1⟩
  have HM : Hid (M ≠ []) := hM
  have HPp : Hid (Pr p) := hpr
  obtain ⟨A0, c0, z00⟩ := HC.out 0 hl0
  rw [← hc0, Nat.add_zero] at z00
  have hcl : colZ M ≤ 1048576 := by rw [hc0]; exact hwid 0 hl0
  obtain ⟨n, hn⟩ : ∃ n, n = M.length := ⟨_, rfl⟩
  obtain ⟨q, hq⟩ : ∃ q, q = colZ M := ⟨_, rfl⟩
  have Hn := Lib.hid hn
  have Hq := Lib.hid hq
  rw [← hn] at hl0 hm HOF hn24 ⊢
  rw [← hq] at z00 hcl HOF hq24
  clear hpr hx hr hcells hM hn hq hc0 hwid
  have HRl : Hid (∀ i (h : i < M.length), M[i].length = q) := fun i h => by rw [Hq.out]; exact hRect.out i h
  have HEQ : Hid (∀ i k, i < n → k < q → ∃ (b2 o2 : Nat) (e : Ie) (Ai : Option Addr) (ci : Nat), w.cell? ⟨b, off + i, none⟩ = some (.slice Ai q ci) ∧ Ai = some ⟨b2, o2, none⟩ ∧ b2 < w.heap.size ∧ w.cell? ⟨b2, o2 + k * 2, none⟩ = some (.bool e.g) ∧ w.cell? ⟨b2, o2 + k * 2 + 1, none⟩ = some (.slice e.A e.n e.c) ∧ okI w e ∧ ((zEn p M i k : Nat) : Int) = e.z % (p : Int)) := fun i k hi hk => by
    have hiM : i < M.length := by rw [← Hn.out]; exact hi
    have hkM : k < M[i].length := by rw [HRl.out i hiM]; exact hk
    obtain ⟨b', off', e1, _, h2⟩ := HRZ.out HM.out
    obtain ⟨Ai, ci, e3, e4⟩ := h2 i hiM
    injection e1 with e1
    injection e1 with e5 e6
    subst e5 e6
    obtain ⟨b2, o2, e7, e8, e9, e10, e11⟩ := e4 k hkM
    rw [HRl.out i hiM] at e3
    exact ⟨b2, o2, M[i][k], Ai, ci, e3, e7, e8, e9, e10, e11, zEn_at HPp.out.pos hiM hkM⟩
  go_enter Tryd.func5, Tryd.ntmps5
  go_upto_region 6 with (first | (go_at_call 19; (with_reducible refine HOF.out.mono ?_); rintro _ w1 ⟨g, rfl, hr1, hb1⟩; have HB1 := Lib.hid hb1; clear hb1) | (go_at_call 20; (with_reducible refine (HPR.out _).mono ?_); rintro _ _ ⟨rfl, rfl⟩))
  have HR1 := Lib.hid hr1
  clear hr1
  have z01 := (HB1.out.cell (p := ⟨b, off, none⟩) hb).trans z00
  clear z00
  have tqq : ((q : Int) != (q : Int)) = false := by simp
  go_loop [25, 7] (fun v u => u = .int .i64 0 ∧ ∃ j : Nat, j ≤ n ∧ v = .int .i64 (j : Int)) (fun v _ => n - (intOf v).toNat)
  case atStart => exact ⟨rfl, 0, Nat.zero_le _, rfl⟩
  case round =>
    obtain ⟨rfl, j, hj, rfl⟩ := hrel
    by_cases hjn : j < n
    · have hjM : j < M.length := by rw [← Hn.out]; exact hjn
      obtain ⟨Aj, cj, z1⟩ := HC.out j hjM
      rw [HRl.out j hjM] at z1
      have z2 := (HB1.out.cell (p := ⟨b, off + j, none⟩) hb).trans z1
      clear z1
      go_wp2
      go_round
      case rel => exact ⟨rfl, j + 1, by omega, by go_num⟩
      case measure => simp [intOf]; omega
    · obtain rfl : j = n := by omega
      have t00 : decide ((0 : Int) < (j : Int)) = true := by simp; omega
      have t1 : decide ((24 : Int) < (j : Int)) = false := by simp; omega
      have t2 : decide ((24 : Int) < (q : Int)) = false := by simp; omega
      have t3 : ((j : Int) != (j : Int)) = false := by simp
      go_upto_region 18 with (fail)
      have HXR : Hid (∀ i, i < j → ∃ Ai ci, g < w1.heap.size ∧ w1.cell? ⟨g, i, none⟩ = some (.slice Ai q ci) ∧ ∀ k, k < q → ∃ b3 o3, Ai = some ⟨b3, o3, none⟩ ∧ b3 < w1.heap.size ∧ w1.cell? ⟨b3, o3 + k, none⟩ = some (.int .u32 ((zEn p M i k : Nat) : Int))) := fun i hi => by
        obtain ⟨b', off', e1, hb', h2⟩ := HR1.out (fun e => by have := congrArg List.length e; rw [mtab_length] at this; simp at this; omega)
        injection e1 with e1
        injection e1 with e5 e6
        subst e5 e6
        have hi2 : i < (mtab j q (zEn p M)).length := by rw [mtab_length]; exact hi
        obtain ⟨Ai, ci, h3, _, _, h4⟩ := h2 i hi2
        have e9 : (mtab j q (zEn p M))[i] = (List.range q).map (zEn p M i) := mtab_at hi2
        rw [e9] at h3 h4
        rw [List.length_map, List.length_range, Nat.zero_add] at h3
        refine ⟨Ai, ci, hb', h3, fun k hk => ?_⟩
        obtain ⟨b3, o3, e10, h5, h6⟩ := h4 (fun e => by have := congrArg List.length e; simp [u32s] at this; omega)
        exact ⟨b3, o3, e10, h5, h6 k _ (by rw [u32s_at (by simpa using hk)]; simp)⟩
      go_loopw [84] (fun iv wr => ∃ i : Nat, i ≤ j ∧ iv = .int .i64 (i : Int) ∧ Hid (Below w1.heap.size w1 wr)) (fun iv _ => j - (intOf iv).toNat)
      case atStart => exact ⟨0, Nat.zero_le _, rfl, Below.refl _ _⟩
      case round =>
        obtain ⟨wo, rfl⟩ : ∃ wo, wo = wr := ⟨_, rfl⟩
        obtain ⟨i, hi, rfl, hbw⟩ := hrel
        have HBw : Hid (Below w.heap.size w wo) := HB1.out.trans (hbw.out.mono HB1.out.size)
        by_cases hij : i < j
        · have hiM : i < M.length := by rw [← Hn.out]; exact hij
          obtain ⟨Ai, ci, z1⟩ := HC.out i hiM
          rw [HRl.out i hiM] at z1
          have z2 := (HBw.out.cell (p := ⟨b, off + i, none⟩) hb).trans z1
          obtain ⟨Xi, di, hgl, x1, hxk⟩ := HXR.out i hij
          have x2 := (hbw.out.cell (p := ⟨g, i, none⟩) hgl).trans x1
          have HXK := Lib.hid hxk
          have Z1 := Lib.hid z1
          have X1 := Lib.hid x1
          clear hxk z1 x1 z01
          go_upto_region 23 with (fail)
          go_loopw [99] (fun kv wr => ∃ k : Nat, k ≤ q ∧ kv = .int .i64 (k : Int) ∧ Hid (Below w1.heap.size w1 wr)) (fun kv _ => q - (intOf kv).toNat)
          case atStart => exact ⟨0, Nat.zero_le _, rfl, hbw.out⟩
          case round =>
            clear x2 z2
            obtain ⟨k, hk, rfl, hbv⟩ := hrel
            have HBv : Hid (Below w.heap.size w wr) := HB1.out.trans (hbv.out.mono HB1.out.size)
            by_cases hkq : k < q
            · obtain ⟨b3, o3, rfl, hb3, y1⟩ := HXK.out k hkq
              obtain ⟨b2, o2, e, Ai2, ci2, f1, rfl, hb2, f2, f3, f4, f5⟩ := HEQ.out i k hij hkq
              rw [Z1.out] at f1
              injection f1 with f1
              injection f1 with f1 _ f6
              subst f1 f6
              have g1 := (HBv.out.cell (p := ⟨b2, o2 + k * 2, none⟩) hb2).trans f2
              have g2 := (HBv.out.cell (p := ⟨b2, o2 + k * 2 + 1, none⟩) hb2).trans f3
              obtain ⟨y, hy⟩ : ∃ y, y = zEn p M i k := ⟨_, rfl⟩
              rw [← hy] at f5 y1
              have HZ2 : Hid (∀ W, Below w.heap.size w W → Calls Tryd.prog 21 #[.agg #[.bool e.g, .slice e.A e.n e.c], .int .u32 (p : Int)] W fun r w' => r = .returned (.int .u32 (y : Int)) ∧ Below W.heap.size W w') := fun W hW => by
                rw [f5]
                exact HZ.out W e (okI.below _ _ _ f4 hW)
              obtain ⟨eg, heg⟩ : ∃ v, v = e.g := ⟨_, rfl⟩
              obtain ⟨eA, heA⟩ : ∃ v, v = e.A := ⟨_, rfl⟩
              obtain ⟨en', hen⟩ : ∃ v, v = e.n := ⟨_, rfl⟩
              obtain ⟨ec, hec⟩ : ∃ v, v = e.c := ⟨_, rfl⟩
              rw [← heg] at g1 HZ2
              rw [← heA, ← hen, ← hec] at g2 HZ2
              have hb2v := Nat.lt_of_lt_of_le hb2 HBv.out.size
              clear hy f2 f3 f4 f5 heg heA hen hec
              go_upto_region 25 with (fail)
              have hb5 : Below wr.heap.size wr (wr.alloc (.cells #[.bool eg, .slice eA en' ec] 51)) := (Below.refl _ _).alloc (Nat.le_refl _) _
              have hbk : Blk (wr.alloc (.cells #[.bool eg, .slice eA en' ec] 51)) wr.heap.size 51 [.bool eg, .slice eA en' ec] := Blk.new_ rfl
              obtain ⟨W2, hW2⟩ : ∃ W2, W2 = wr.alloc (.cells #[.bool eg, .slice eA en' ec] 51) := ⟨_, rfl⟩
              rw [← hW2] at hb5 hbk ⊢
              obtain ⟨gx, hgx⟩ : ∃ gx, gx = wr.heap.size := ⟨_, rfl⟩
              rw [← hgx] at hbk ⊢
              have k0 := hbk.cell 0
              have k1 := hbk.cell 1
              simp only [List.getElem?_cons_zero, List.getElem?_cons_succ] at k0 k1
              have kl := hbk.lt
              have Hb5 : Hid (Below w1.heap.size w1 W2) := hbv.out.trans (hb5.mono hbv.out.size)
              have HBW : Hid (Below w.heap.size w W2) := HB1.out.trans (Hb5.out.mono HB1.out.size)
              have m1 := (Hb5.out.cell (p := ⟨g, i, none⟩) hgl).trans X1.out
              have m2 := (Hb5.out.cell (p := ⟨b3, o3 + k, none⟩) hb3).trans y1
              have tyy : ((y : Int) != (y : Int)) = false := by simp
              clear hW2 hgx hbk hb5 g1 g2 hb2v
              go_region_held3 (fun W => W.cell? ⟨g, i, none⟩ = some (.slice (some ⟨b3, o3, none⟩) q di) ∧ W.cell? ⟨b3, o3 + k, none⟩ = some (.int .u32 (y : Int)) ∧ W.cell? ⟨gx, 0, none⟩ = some (.bool eg) ∧ W.cell? ⟨gx, 1, none⟩ = some (.slice eA en' ec)) (go_keep) (first | (go_at_call 21; (with_reducible refine (HZ2.out _ (by first | exact HBW.out | exact HBW.out.drew)).mono ?_); rintro _ w5 ⟨rfl, hb6⟩; have hx5 : Below W2.heap.size W2 w5 := (by first | exact hb6 | exact (Below.refl _ _).drew.trans hb6); have Hx5 : Hid (Below w1.heap.size w1 w5) := Hb5.out.trans (hx5.mono Hb5.out.size); have n0 := (hx5.cell (p := ⟨gx, 0, none⟩) kl).trans k0; have n1 := (hx5.cell (p := ⟨gx, 1, none⟩) kl).trans k1; have n2 := (Hx5.out.cell (p := ⟨g, i, none⟩) hgl).trans X1.out; have n3 := (Hx5.out.cell (p := ⟨b3, o3 + k, none⟩) hb3).trans y1; clear hb6 hx5))
              all_goals go_wp2_with fail
              all_goals go_roundw
              all_goals first
                | exact ⟨k + 1, by omega, by go_num, Hx5.out.trans (Dr.below ⟨_, rfl⟩ _)⟩
                | exact ⟨k + 1, by omega, by go_num, Hx5.out⟩
                | (simp [intOf] <;> omega)
            · obtain rfl : k = q := by omega
              go_wp2
              go_roundw
              case rel => exact ⟨i + 1, by omega, by go_num, hbv.out⟩
              case measure => simp [intOf]; omega
        · obtain rfl : i = j := by omega
          go_wp2_with (go_at_call 12; (with_reducible refine (HAW.out _ HBw.out).mono ?_); rintro _ w9 ⟨rfl, hb9⟩; have HB9 : Hid (Below w.heap.size w w9) := (HBw.out).trans (hb9.mono (HBw.out).size))
          go_ret
          exact ⟨rfl, HB9.out⟩

theorem hessOf_walk (A : Option Addr) (c p : Nat) (M : List (List Ie)) (w : World) (hx : Bx w) (hp : p < 4294967296) (hr : RZ okI w A M) (hm : M.length ≤ 1048576) (hwid : ∀ i (h : i < M.length), M[i].length ≤ 1048576) :
    Calls Tryd.prog 5 #[.slice A M.length c, .int .u32 (p : Int)] w fun e w' => e = .returned (.bool true) ∧ Below w.heap.size w w' := by
  by_cases hpr : Pr p
  · by_cases hM : M = []
    · exact hofB_nil A c p M w hx hp hpr (by rw [hM]; rfl)
    · obtain ⟨k, hk⟩ := Fo.ex p M
      have h4 : k = 0 ∨ k = 2 ∨ k = 4 := by
        rcases hk with ⟨_, h⟩ | ⟨_, ⟨h, _⟩ | ⟨_, ⟨h, _⟩ | ⟨h, _⟩⟩⟩
        · exact absurd hpr h
        · omega
        · omega
        · omega
      rcases h4 with rfl | rfl | rfl
      · exact hofB_ok A c p M w hx hp hr hm hwid hpr hM hk
      · exact hofB_two A c p M w hx hp hr hm hwid hpr hM hk
      · exact hofB_big A c p M w hx hp hr hm hwid hpr hM hk
  · exact hofB_no A c p M w hx hp hr hm hwid hpr
end Go.Proofs.YtbafiahmcfkboaaDoor
