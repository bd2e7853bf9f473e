/- The reference's Next and Last, and the walk of PrimeIs: true. Conditions: bases reads 2, 7, 61. -/
import Derived.Test.YtnjhppdcpjgfmaaDoorNextP
namespace Go.Proofs.YtnjhppdcpjgfmaaDoor
open Go.RowKit

set_option maxHeartbeats 1600000 in
theorem rnext_any (n r : Nat) (ok : Bool) (hn : n < 4294967296) (h : NextIs n r ok) (w : World) :
    Calls Tryd.prog 15 #[.int .u32 (n : Int)] w fun e w' => e = .returned (.tuple #[.int .u32 (r : Int), .bool ok]) ∧ w' = w := by
  have H := Lib.hid h
  have Hun := Lib.hid (fun (r' : Nat) (ok' : Bool) (h' : NextIs n r' ok') => h.unique h')
  clear h
  go_enter Tryd.func15, Tryd.ntmps15
  go_wp2
  go_loop [0] (fun v => ∃ k : Nat, v = .int .u32 (k : Int) ∧ n ≤ k ∧ k < 4294967296 ∧ ∀ m, n < m → m ≤ k → ¬ Pr m) (fun v => 4294967296 - (intOf v).toNat)
  case atStart => exact ⟨n, rfl, Nat.le_refl _, hn, fun m h1 h2 => by omega⟩
  case round =>
    obtain ⟨k, rfl, hnk, hk, hno⟩ := hrel
    have Hno := Lib.hid hno
    clear hno
    by_cases hke : k = 4294967295
    · subst hke
      obtain ⟨rfl, rfl⟩ := Hun.out 0 false (Or.inr ⟨rfl, rfl, fun m h1 h2 => Hno.out m h1 (by omega)⟩)
      go_wp2
      go_ret2
      exact ⟨rfl, rfl⟩
    · have tk : (k : Int) < 4294967295 := by omega
      have hk1 : k + 1 < 4294967296 := by omega
      have ec : ((k + 1 : Nat) : Int) = (k : Int) + 1 := by go_num
      by_cases hp : Pr (k + 1)
      · have HI := Lib.hid (fun W => ris_yes (k + 1) hp hk1 W)
        rw [ec] at HI
        obtain ⟨rfl, rfl⟩ := Hun.out (k + 1) true (Or.inl ⟨rfl, hp, by omega, hk1, fun m h1 h2 => Hno.out m h1 (by omega)⟩)
        clear hp ec hke
        go_wp2_with fail
        refine (HI.out _).mono ?_
        rintro _ _ ⟨rfl, rfl⟩
        go_wp2
        go_ret2
        exact ⟨by first | rfl | simp, rfl⟩
      · have HI := Lib.hid (fun W => ris_no (k + 1) hp hk1 W)
        rw [ec] at HI
        have Hp := Lib.hid hp
        clear hp ec hke
        go_wp2_with fail
        refine (HI.out _).mono ?_
        rintro _ _ ⟨rfl, rfl⟩
        go_wp2
        go_round
        case rel => exact ⟨k + 1, by go_num, by omega, by omega, fun m h1 h2 => by
          rcases Nat.lt_or_ge k m with h3 | h3
          · obtain rfl : m = k + 1 := by omega
            exact Hp.out
          · exact Hno.out m h1 h3⟩
        case measure => simp [intOf]; omega
set_option maxHeartbeats 1600000 in
theorem rlast_any (n r : Nat) (ok : Bool) (hn : n < 4294967296) (h : LastIs n r ok) (w : World) :
    Calls Tryd.prog 17 #[.int .u32 (n : Int)] w fun e w' => e = .returned (.tuple #[.int .u32 (r : Int), .bool ok]) ∧ w' = w := by
  have H := Lib.hid h
  have Hun := Lib.hid (fun (r' : Nat) (ok' : Bool) (h' : LastIs n r' ok') => h.unique h')
  clear h
  go_enter Tryd.func17, Tryd.ntmps17
  go_wp2
  go_loop [0] (fun v => ∃ k : Nat, v = .int .u32 (k : Int) ∧ k ≤ n ∧ ∀ m, m < n → k ≤ m → ¬ Pr m) (fun v => (intOf v).toNat)
  case atStart => exact ⟨n, rfl, Nat.le_refl _, fun m h1 h2 => by omega⟩
  case round =>
    obtain ⟨k, rfl, hnk, hno⟩ := hrel
    have Hno := Lib.hid hno
    clear hno
    cases k with
    | zero =>
      obtain ⟨rfl, rfl⟩ := Hun.out 0 false (Or.inr ⟨rfl, rfl, fun m h1 => Hno.out m h1 (by omega)⟩)
      go_wp2
      go_ret2
      exact ⟨rfl, rfl⟩
    | succ k =>
      have hk1 : k < 4294967296 := by omega
      by_cases hp : Pr k
      · have HI := Lib.hid (fun W => ris_yes k hp hk1 W)
        obtain ⟨rfl, rfl⟩ := Hun.out k true (Or.inl ⟨rfl, hp, by omega, fun m h1 h2 => Hno.out m h2 (by omega)⟩)
        clear hp
        go_wp2_with fail
        refine (HI.out _).mono ?_
        rintro _ _ ⟨rfl, rfl⟩
        go_wp2
        go_ret2
        exact ⟨rfl, rfl⟩
      · have HI := Lib.hid (fun W => ris_no k hp hk1 W)
        have Hp := Lib.hid hp
        clear hp
        go_wp2_with fail
        refine (HI.out _).mono ?_
        rintro _ _ ⟨rfl, rfl⟩
        go_wp2
        go_round
        case rel => exact ⟨k, by go_num, by omega, fun m h1 h2 => by
          rcases Nat.lt_or_ge k m with h3 | h3
          · exact Hno.out m h1 h3
          · obtain rfl : m = k := by omega
            exact Hp.out⟩
        case measure => simp [intOf]

set_option maxHeartbeats 1600000 in
theorem primeIs_walk (n : Nat) (hn : n < 4294967296) (w : World) (hw : Bases w) :
    Calls Tryd.prog 3 #[.int .u32 (n : Int)] w fun r w' => r = .returned (.bool true) ∧ Below w.heap.size w w' := by
  obtain ⟨a, oka, ha⟩ := next_exists n
  obtain ⟨c, okc, hc⟩ := last_exists n
  have Hw := Lib.hid hw
  have A1 := Lib.hid (fun W hW => next_any n a oka hn ha W hW)
  have A2 := Lib.hid (fun W => rnext_any n a oka hn ha W)
  have A3 := Lib.hid (fun W hW => last_any n c okc hn hc W hW)
  have A4 := Lib.hid (fun W => rlast_any n c okc hn hc W)
  have A5 := Lib.hid (fun W hW => is_all n hn W hW)
  have A6 := Lib.hid (fun W => ris_all n hn W)
  obtain ⟨v, hv⟩ : ∃ v, v = isP n := ⟨_, rfl⟩
  rw [← hv] at A5 A6
  have t1 : ((a : Int) == (a : Int)) = true := by simp
  have t2 : ((c : Int) == (c : Int)) = true := by simp
  have t3 : (oka == oka) = true := by simp
  have t4 : (okc == okc) = true := by simp
  have t5 : (v == v) = true := by simp
  clear hw ha hc hv
  go_enter Tryd.func3, Tryd.ntmps3
  go_wp2_with fail
  refine (A1.out _ Hw.out).mono ?_
  rintro _ w1 ⟨rfl, hb_w1⟩
  have Hw1 := Lib.hid (Hw.out.keep hb_w1 Hw.out.lt)
  have HB1 := Lib.hid hb_w1
  clear hb_w1
  go_wp2_with fail
  refine (A2.out _).mono ?_
  rintro _ _ ⟨rfl, rfl⟩
  go_wp2_with fail
  refine (A3.out _ Hw1.out).mono ?_
  rintro _ w2 ⟨rfl, hb_w2⟩
  have Hw2 := Lib.hid (Hw1.out.keep hb_w2 Hw1.out.lt)
  have HB2 := Lib.hid (HB1.out.trans (hb_w2.mono HB1.out.size))
  clear hb_w2
  go_wp2_with fail
  refine (A4.out _).mono ?_
  rintro _ _ ⟨rfl, rfl⟩
  go_wp2_with fail
  refine (A5.out _ Hw2.out).mono ?_
  rintro _ _ ⟨rfl, rfl⟩
  go_wp2_with fail
  refine (A6.out _).mono ?_
  rintro _ _ ⟨rfl, rfl⟩
  go_wp2_with fail
  refine (awake_any _ Hw2.out).mono ?_
  rintro _ _ ⟨rfl, rfl⟩
  go_wp2
  go_ret
  exact ⟨rfl, HB2.out⟩
end Go.Proofs.YtnjhppdcpjgfmaaDoor
