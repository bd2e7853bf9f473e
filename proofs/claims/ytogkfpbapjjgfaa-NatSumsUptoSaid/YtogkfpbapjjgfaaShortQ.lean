/- The contract of shortQuotient. -/
import Derived.Test.YtogkfpbapjjgfaaOfLen
namespace Go.Proofs.Ytogkfpbapjjgfaa
open Go.RowKit

/-- What shortQuotient's row and rest are when the words from k on are divided. -/
def Shorted (ws : List Nat) (b k : Nat) (qs : List Nat) (r : Nat) : Prop :=
  qs.length = ws.length ∧ Dig 18446744073709551616 qs ∧ r < b ∧ val 18446744073709551616 (ws.drop k) = val 18446744073709551616 (qs.drop k) * b + r

theorem Shorted.start (ws : List Nat) (b : Nat) (hb : 0 < b) : Shorted ws b ws.length (List.replicate ws.length 0) 0 :=
  ⟨by simp, Dig.zeros_ (by omega) _, hb, by simp [val]⟩
theorem Shorted.step {ws qs : List Nat} {b k r : Nat} (h : Shorted ws b (k + 1) qs r) (hk : k < ws.length) (hw : ws[k] < 18446744073709551616) (hb : b < 18446744073709551616) :
    Shorted ws b k (qs.set k ((r * 18446744073709551616 + ws[k]) / b)) ((r * 18446744073709551616 + ws[k]) % b) := by
  obtain ⟨h1, h2, h3, h4⟩ := h
  have hq : (r * 18446744073709551616 + ws[k]) / b < 18446744073709551616 := by
    rw [Nat.div_lt_iff_lt_mul (by omega)]
    have : (r + 1) * 18446744073709551616 ≤ b * 18446744073709551616 := Nat.mul_le_mul_right _ h3
    omega
  refine ⟨by simpa using h1, h2.set_ _ _ hq, Nat.mod_lt _ (by omega), ?_⟩
  have e1 : ws.drop k = ws[k] :: ws.drop (k + 1) := List.drop_eq_getElem_cons hk
  have e2 : (qs.set k ((r * 18446744073709551616 + ws[k]) / b)).drop k = ((r * 18446744073709551616 + ws[k]) / b) :: qs.drop (k + 1) := by
    rw [List.drop_eq_getElem_cons (by simpa using (by omega : k < qs.length))]
    simp [List.drop_set]
  rw [e1, e2]
  simp only [val]
  rw [h4]
  have hd := Nat.div_add_mod (r * 18446744073709551616 + ws[k]) b
  generalize (r * 18446744073709551616 + ws[k]) / b = q at *
  generalize (r * 18446744073709551616 + ws[k]) % b = m at *
  rw [Nat.add_mul, Nat.mul_add, Nat.mul_assoc, Nat.mul_comm q b]
  generalize val 18446744073709551616 (qs.drop (k + 1)) * b = z at *
  omega

set_option maxHeartbeats 800000 in
theorem shortQuotient_any (A : Option Addr) (c : Nat) (ws : List Nat) (b : Nat) (w : World) (B : Nat) (hr : Rd w B A (u64s ws)) (hB : B ≤ w.heap.size) (hd : Dig 18446744073709551616 ws) (hb0 : 0 < b) (hb : b < 18446744073709551616) (hm : ws.length ≤ 35184372088832) :
    Calls Try.prog 57 #[.slice A ws.length c, .int .u64 (b : Int)] w fun e w' => ∃ qs r A1 c1 A2 c2, e = .returned (.tuple #[.slice A1 qs.length c1, .slice A2 1 c2]) ∧ Dig 18446744073709551616 qs ∧ qs.length = ws.length ∧ r < b ∧ val 18446744073709551616 ws = val 18446744073709551616 qs * b + r ∧
      Res w' w.heap.size 44 A1 c1 (u64s qs) ∧ Res w' w.heap.size 44 A2 c2 (u64s [r]) ∧ Below w.heap.size w w' := by
  have hmk := fun W => mk64 ws.length hm W
  go_enter Try.func57, Try.ntmps57
  go_wp2
  go_loopw [7, 8] (fun rv i wr => ∃ (k r : Nat) (qs : List Nat), k ≤ ws.length ∧ i = .int .i64 ((k : Int) - 1) ∧ rv = .int .u64 r ∧ Blk wr w.heap.size 44 (u64s qs) ∧ Shorted ws b k qs r ∧ Below w.heap.size w wr) (fun _ i _ => (intOf i + 1).toNat)
  case atStart => exact ⟨ws.length, 0, List.replicate ws.length 0, Nat.le_refl _, by go_num, rfl, Blk.new_ (by simp [u64s]), Shorted.start ws b hb0, (Below.refl _ _).alloc (Nat.le_refl _) _⟩
  case round =>
    obtain ⟨k, r, qs, hk, rfl, rfl, hblk, hs, hbel⟩ := hrel
    rcases k with _ | k
    · go_wp2
      go_ret2
      have hlt := hblk.lt
      have hr1 : Blk (wr.alloc (.cells #[.int .u64 (r : Int)] 44)) wr.heap.size 44 (u64s [r]) := Blk.new_ rfl
      have hq1 := hblk.heapAlloc (.cells #[.int .u64 (r : Int)] 44)
      have hl := u64s_length qs
      have hres := Res.of_blk0 hq1 (Nat.le_refl _) (by rw [hl, hs.1]; omega)
      rw [hl] at hres
      refine ⟨qs, r, _, _, _, 1, by rw [hs.1]; rfl, hs.2.1, hs.1, hs.2.2.1, by simpa using hs.2.2.2, by rw [← hs.1]; exact hres, Res.of_blk0 hr1 (by omega) (by simp [u64s]), hbel.alloc (by omega) _⟩
    · rw [show ((k + 1 : Nat) : Int) - 1 = (k : Int) from by omega]
      obtain ⟨bk, off, rfl, hbB, hcell⟩ := hr (by intro e; have := u64s_length ws; rw [e] at this; simp at this; omega)
      have hx := (hbel.cell (p := ⟨bk, off + k, none⟩) (show bk < _ by omega)).trans (hcell k _ (u64s_at (by omega)))
      have hkq : k < qs.length := by have := hs.1; omega
      have hqc := (hblk.cell k).trans (u64s_at hkq)
      have hqf := hblk.frozen k
      have hwk := hd.at_ k (by omega)
      have hrb := hs.2.2.1
      clear hcell
      go_wp2_with (go_at_call 76; (with_reducible refine (div64_any _ _ _ hb hrb hwk _).mono ?_); rintro e w2 ⟨rfl, nd, rfl⟩)
      go_roundw
      case rel =>
        refine ⟨k, _, qs.set k ((r * 18446744073709551616 + ws[k]) / b), by omega, by go_num, rfl, ?_, hs.step (by omega) hwk hb, (hbel.trans ((Dr.refl wr).step nd |>.below _)).setCell (p := ⟨w.heap.size, k, none⟩) (Nat.le_refl _) _⟩
        have hb2 := (hblk.drewN nd).set_ k (Value.int IntKind.u64 (((r * 18446744073709551616 + ws[k]) / b : Nat) : Int))
        rw [u64s_set] at hb2
        exact hb2
      case measure => simp [intOf]
end Go.Proofs.Ytogkfpbapjjgfaa
