/- The contracts of the reference's limb, Norm and Zero. -/
import Derived.Test.YtogkfpbapjjgfaaLives
namespace Go.Proofs.Ytogkfpbapjjgfaa
open Go.RowKit

/-- The k-th of a list, 0 past it. -/
def at0 (xs : List Nat) (k : Nat) : Nat := xs.getD k 0
theorem at0_lt {xs : List Nat} (hd : Dig 4294967296 xs) (k : Nat) : at0 xs k < 4294967296 := by
  unfold at0
  rw [List.getD_eq_getElem?_getD]
  by_cases h : k < xs.length
  · rw [List.getElem?_eq_getElem h]; exact hd.at_ k h
  · rw [List.getElem?_eq_none (by omega)]; simp
theorem at0_in {xs : List Nat} {k : Nat} (h : k < xs.length) : at0 xs k = xs[k] := by
  unfold at0
  rw [List.getD_eq_getElem?_getD, List.getElem?_eq_getElem h]; rfl
theorem at0_out {xs : List Nat} {k : Nat} (h : xs.length ≤ k) : at0 xs k = 0 := by
  unfold at0
  rw [List.getD_eq_getElem?_getD, List.getElem?_eq_none h]; rfl

theorem trimL_nil_at {xs : List Nat} (h : trimL xs = []) : ∀ (k : Nat) (hk : k < xs.length), xs[k] = 0 := by
  induction xs with
  | nil => intro k hk; simp at hk
  | cons x xs ih =>
    simp only [trimL] at h
    split at h
    · rename_i e
      split at h
      · rename_i h0
        intro k hk
        cases k with
        | zero => simpa using h0
        | succ k => simpa using ih e k (by simpa using hk)
      · cases h
    · cases h

set_option maxHeartbeats 400000 in
theorem limb_any (A : Option Addr) (c : Nat) (xs : List Nat) (k : Nat) (w : World) (B : Nat) (hr : Rd w B A (u32s xs)) (hd : Dig 4294967296 xs) (_ : xs.length ≤ 281474976710656) (hk : k ≤ 9223372036854775807) :
    Calls Try.prog 36 #[.slice A xs.length c, .int .i64 (k : Int)] w fun e w' => e = .returned (.int .u64 (at0 xs k : Nat)) ∧ w = w' := by
  have t0 : decide ((k : Int) < 0) = false := by simp
  rcases Nat.lt_or_ge k xs.length with hlt | hge
  · obtain ⟨b, off, rfl, hb, hcell⟩ := hr (by intro e; have := u32s_length xs; rw [e] at this; simp at this; omega)
    have hx := hcell k _ (u32s_at hlt)
    have t1 : decide (xs.length ≤ k) = false := by simp; omega
    have e1 := Lib.hid (at0_in hlt)
    have hxd := hd.at_ k hlt
    clear hcell hr
    go_enter Try.func36, Try.ntmps36
    go_wp2
    go_ret
    exact ⟨by rw [e1.out]; rfl, rfl⟩
  · have t1 : decide (xs.length ≤ k) = true := by simp; omega
    have e1 := Lib.hid (at0_out hge)
    go_enter Try.func36, Try.ntmps36
    go_wp2
    go_ret
    exact ⟨by rw [e1.out]; rfl, rfl⟩

set_option maxHeartbeats 800000 in
theorem rnorm_any (A : Option Addr) (c : Nat) (xs : List Nat) (w : World) (B : Nat) (hr : Rd w B A (u32s xs)) (hB : B ≤ w.heap.size) (hm : xs.length ≤ 70368744177664) :
    Calls Try.prog 17 #[.slice A xs.length c] w fun e w' => ∃ A' c', e = .returned (.slice A' (trimL xs).length c') ∧ Res w' w.heap.size 34 A' c' (u32s (trimL xs)) ∧ Below w.heap.size w w' := by
  go_enter Try.func17, Try.ntmps17
  go_upto_block 0 with (fail)
  go_cut [3] (fun v wc => v = .int .i64 ((trimL xs).length : Int) ∧ wc = w)
  case first =>
    go_wp2_with fail
    go_loop [3] (fun v => ∃ m : Nat, m ≤ xs.length ∧ v = .int .i64 m ∧ trimL (xs.take m) = trimL xs) (fun v => (intOf v).toNat)
    case atStart => exact ⟨xs.length, Nat.le_refl _, rfl, by simp⟩
    case round =>
      obtain ⟨m, hm1, rfl, ht⟩ := hrel
      have Ht := Lib.hid ht; clear ht
      rcases m with _ | m
      · go_wp2
        go_meet
        have h0 : (trimL xs).length = 0 := by rw [← Ht.out]; rfl
        exact ⟨by rw [h0]; rfl, rfl⟩
      · obtain ⟨b, off, rfl, hb, hcell⟩ := hr (by intro e; have := u32s_length xs; rw [e] at this; simp at this; omega)
        have hcl := hcell m _ (u32s_at (by omega))
        clear hcell
        by_cases h0 : xs[m] = 0
        · have hz := trimL_take_zero xs m (by omega) h0
          rw [h0] at hcl
          have Hz := Lib.hid hz
          clear hz h0
          go_wp2
          go_round
          case rel => exact ⟨m, by omega, by go_num, by rw [← Hz.out]; exact Ht.out⟩
          case measure => simp [intOf]
        · have hz := trimL_take_pos xs m (by omega) h0
          have Hz := Lib.hid hz
          have hne : ((xs[m] : Int) == 0) = false := by simp; omega
          clear hz
          go_wp2
          go_meet
          exact ⟨by have h9 := Hz.out; rw [Ht.out] at h9; rw [h9]; simp, rfl⟩
  case rest =>
    obtain ⟨rfl, rfl⟩ := hcut
    have hl := trimL_length_le xs
    obtain ⟨ts, hts⟩ : ∃ ts, ts = trimL xs := ⟨_, rfl⟩
    have hrt : Rd wc B A (u32s ts) := by rw [hts, u32s_trim]; exact hr.take _
    rw [← hts] at hl ⊢
    have hmk := fun W => mk32 ts.length (by omega) W
    have Hts := Lib.hid hts
    clear hts
    go_wp2
    go_loopw [5] (fun i wr => ∃ (k : Nat) (zs : List Nat), k ≤ ts.length ∧ i = .int .i64 k ∧ zs.length = ts.length ∧ Blk wr wc.heap.size 34 (u32s zs) ∧ zs.take k = ts.take k ∧ Below wc.heap.size wc wr) (fun i _ => ts.length - (intOf i).toNat)
    case atStart => exact ⟨0, List.replicate ts.length 0, by omega, rfl, by simp, Blk.new_ (by simp [u32s]), by simp, (Below.refl _ _).alloc (Nat.le_refl _) _⟩
    case round =>
      obtain ⟨k, zs, hk, rfl, hzl, hblk, htk, hbel⟩ := hrel
      by_cases hlt : k < ts.length
      · obtain ⟨b, off, rfl, hb, hcell⟩ := hrt (by intro e; have := u32s_length ts; rw [e] at this; simp at this; omega)
        have hx := (hbel.cell (p := ⟨b, off + k, none⟩) (show b < _ by omega)).trans (hcell k _ (u32s_at hlt))
        have hkz : k < zs.length := by omega
        have Hzl := Lib.hid hzl
        have Htk := Lib.hid htk
        clear hcell hzl htk
        have hc2 := (hblk.cell k).trans (u32s_at hkz)
        have hf2 := hblk.frozen k
        go_wp2
        go_roundw
        case rel =>
          refine ⟨k + 1, zs.set k ts[k], by omega, by go_num, by simpa using Hzl.out, ?_, ?_, hbel.setCell (p := ⟨wc.heap.size, k, none⟩) (Nat.le_refl _) _⟩
          · have hb2 := hblk.set_ k (Value.int IntKind.u32 (ts[k] : Int))
            rw [u32s_set] at hb2
            exact hb2
          · rw [List.take_succ_eq_append_getElem hlt, List.take_succ_eq_append_getElem (by simpa using hkz), ← Htk.out, List.take_set_of_le (Nat.le_refl _)]
            simp
        case measure => simp [intOf]; omega
      · go_wp2
        go_ret
        obtain rfl : k = ts.length := by omega
        have e : zs = ts := by
          rw [List.take_length, ← hzl, List.take_length] at htk
          exact htk
        subst e
        clear htk
        have h3 := Res.of_blk0 hblk (Nat.le_refl _) (by rw [u32s_length]; omega)
        rw [u32s_length] at h3
        exact ⟨_, _, by rw [← Hts.out]; rfl, by rw [← Hts.out]; exact h3, hbel⟩

set_option maxHeartbeats 400000 in
theorem zero_any (A : Option Addr) (c : Nat) (xs : List Nat) (w : World) (B : Nat) (hr : Rd w B A (u32s xs)) (hm : xs.length ≤ 281474976710656) :
    Calls Try.prog 22 #[.slice A xs.length c] w fun e w' => e = .returned (.bool (decide (trimL xs = []))) ∧ w = w' := by
  go_enter Try.func22, Try.ntmps22
  go_wp2
  go_loop [4, 7] (fun _ i => ∃ k : Nat, k ≤ xs.length ∧ i = .int .i64 k ∧ trimL (xs.take k) = []) (fun _ i => xs.length - (intOf i).toNat)
  case atStart => exact ⟨0, by omega, rfl, rfl⟩
  case round =>
    obtain ⟨k, hk, rfl, ht⟩ := hrel
    by_cases hlt : k < xs.length
    · obtain ⟨b, off, rfl, hb, hcell⟩ := hr (by intro e; have := u32s_length xs; rw [e] at this; simp at this; omega)
      have hx := hcell k _ (u32s_at hlt)
      have Ht := Lib.hid ht
      clear hcell ht
      by_cases h0 : xs[k] = 0
      · have t1 : ((xs[k] : Int) != 0) = false := by simpa using h0
        have hz := Lib.hid (trimL_take_zero xs k hlt h0)
        clear h0
        go_wp2
        go_round
        case rel => exact ⟨k + 1, by omega, by go_num, by rw [hz.out]; exact Ht.out⟩
        case measure => simp [intOf]; omega
      · have t1 : ((xs[k] : Int) != 0) = true := by simpa using h0
        have hz : decide (trimL xs = []) = false := by
          simp only [decide_eq_false_iff_not]
          intro e
          have h1 := trimL_nil_at e k hlt
          exact h0 h1
        have Hz := Lib.hid hz
        clear hz h0
        go_wp2
        go_ret
        exact ⟨by rw [Hz.out]; rfl, rfl⟩
    · obtain rfl : k = xs.length := by omega
      have hz : decide (trimL xs = []) = true := by rw [List.take_length] at ht; simp [ht]
      have Hz := Lib.hid hz
      clear hz ht
      go_wp2
      go_ret
      exact ⟨by rw [Hz.out]; rfl, rfl⟩
end Go.Proofs.Ytogkfpbapjjgfaa
