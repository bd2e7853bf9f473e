/- The contract of prime's order and Order. Conditions: p a prime that does not divide a (order); bases reads 2, 7, 61. -/
import Derived.Test.YtnjhppdcpjgfmaaDoorPrimeU
import Derived.Test.YtnjhppdcpjgfmaaDoorPrimeO
import Derived.Test.YtnjhppdcpjgfmaaDoorPrimeT
namespace Go.Proofs.YtnjhppdcpjgfmaaDoor
open Go.RowKit

set_option maxHeartbeats 3200000 in
theorem order_any (a p : Nat) (ha : a < 4294967296) (hp : Pr p) (hlt : p < 4294967296) (h0 : a % p ≠ 0) (L : List (Nat × Nat)) (hF : Fac (p - 1) L) (A : Option Addr) (c : Nat) (w : World) (hrd : Rd w w.heap.size A (facCells L)) :
    Calls Tryd.prog 60 #[.int .u32 (a : Int), .int .u32 (p : Int), .slice A L.length c] w fun r w' => ∃ o : Nat, r = .returned (.int .u32 (o : Int)) ∧ IsOrd a p o ∧ o ∣ p - 1 ∧ Below w.heap.size w w' := by
  have hp1 := hp.1
  have hlen := hF.length_lt (by omega)
  have Hst := Lib.hid (OrdAt.start hp h0)
  have Hdone := Lib.hid (fun e (h : OrdAt a p L e) => h.done hp1 hF)
  have Hall := Lib.hid hF.all_pr
  have Hle := Lib.hid (fun D e (h : OrdAt a p D e) => h.le hp1)
  obtain ⟨m, hm⟩ : ∃ m, m = p - 1 := ⟨_, rfl⟩
  have tm : (p : Int) - 1 = (m : Int) := by omega
  have hmp : m < p := by omega
  rw [← hm] at Hst Hle ⊢
  have Hm := Lib.hid hm
  clear h0 hF hp hm
  go_enter Tryd.func60, Tryd.ntmps60
  go_wp2
  go_loopw [7, 14] (fun ev iv wr => ∃ (e : Nat) (D R : List (Nat × Nat)), L = D ++ R ∧ iv = .int .i64 (D.length : Int) ∧ ev = .int .u32 (e : Int) ∧ OrdAt a p D e ∧ Below w.heap.size w wr) (fun _ iv _ => L.length - (intOf iv).toNat)
  case atStart => exact ⟨m, [], L, rfl, rfl, rfl, Hst.out, Below.refl _ _⟩
  case round =>
    obtain ⟨e, D, R, hL, rfl, rfl, hat, hbw⟩ := hrel
    have hem := Hle.out _ _ hat
    cases R with
    | nil =>
      have hDl : D.length = L.length := by rw [hL]; simp
      have hLD : L = D := by rw [hL]; simp
      have Hat := Lib.hid hat
      have HLD := Lib.hid hLD
      clear hrd hL hat hLD
      go_wp2
      go_ret
      exact ⟨e, rfl, Hdone.out e (HLD.out ▸ Hat.out), Hm.out ▸ Hat.out.2.1, hbw⟩
    | cons x R =>
      obtain ⟨f, t⟩ := x
      obtain ⟨b, off, rfl, hbl, hcell⟩ := hrd (by rw [hL]; simp [facCells])
      have hc := fac_cells_at D R f t
      rw [← hL] at hc
      have hf := (hbw.cell (p := ⟨b, off + D.length * 2, none⟩) hbl).trans (hcell _ _ hc.1)
      have hq := (hbw.cell (p := ⟨b, off + (D.length * 2 + 1), none⟩) hbl).trans (hcell _ _ hc.2)
      rw [← Nat.add_assoc] at hq
      have hDl : D.length < L.length := by rw [hL]; simp
      have hfp := Hall.out (f, t) (by rw [hL]; simp)
      have hf2 : 2 ≤ f := hfp.1.1
      have HD0 := Lib.hid (fun (y : Nat × Nat) (hy : y ∈ D) => (Hall.out y (by rw [hL]; simp [hy])).1.pos)
      have hfle : f < 4294967296 := by
        have := Nat.le_of_dvd (by omega) hfp.2
        omega
      have HL := Lib.hid hL
      have Hat := Lib.hid hat
      have tf : ((f : Int) == 0) = false := by simp; omega
      obtain ⟨wo, rfl⟩ : ∃ wo : World, wo = wr := ⟨_, rfl⟩
      clear hc hcell hrd hL hat hfp
      go_wp2
      go_loop [7] (fun ev => ∃ e' : Nat, ev = .int .u32 (e' : Int) ∧ OrdAt a p D e') (fun ev => (intOf ev).toNat)
      case atStart => exact ⟨e, rfl, Hat.out⟩
      case round =>
        obtain ⟨e', rfl, hat'⟩ := hrel
        have hem' := Hle.out _ _ hat'
        have hpos := hat'.1
        obtain ⟨d, hd⟩ : ∃ d, d = e' / f := ⟨_, rfl⟩
        have td : (e' : Int) / (f : Int) = (d : Int) := by rw [hd]; norm_cast
        have hde : d ≤ e' / 2 := by rw [hd]; exact Nat.div_le_div_left hf2 (by omega)
        by_cases h1 : e' % f = 0
        · have t1 : (e' : Int) % (f : Int) = 0 := by rw [cast_mod, h1]; rfl
          have hpow := fun W => power_all a p d ha hlt hp1 (by omega) W
          by_cases h2 : a ^ d % p = 1
          · have Hn := Lib.hid (hd ▸ hat'.down hp1 HD0.out (by omega) h1 (hd ▸ h2))
            simp only [h2] at hpow
            have Hpow := Lib.hid hpow
            clear hpow h1 h2 hd hat' Hat
            go_wp2_with fail
            refine (Hpow.out _).mono ?_
            rintro _ _ ⟨rfl, rfl⟩
            go_wp2
            go_round
            case rel => exact ⟨d, rfl, Hn.out⟩
            case measure => simp [intOf]; omega
          · have Hn := Lib.hid (hat'.next (t := t) fun h => h2 (hd ▸ h.2))
            obtain ⟨y, hy⟩ : ∃ y, y = a ^ d % p := ⟨_, rfl⟩
            simp only [← hy] at hpow h2
            have t2 : ((y : Int) == 1) = false := by simp; omega
            have Hpow := Lib.hid hpow
            clear hpow h1 h2 hd hat' Hat hy
            go_wp2_with fail
            refine (Hpow.out _).mono ?_
            rintro _ _ ⟨rfl, rfl⟩
            go_wp2
            go_roundw
            case rel => exact ⟨e', D ++ [(f, t)], R, by rw [HL.out]; simp, by simp, rfl, Hn.out, hbw.alloc hbw.size _⟩
            case measure => simp [intOf]; omega
        · have Hn := Lib.hid (hat'.next (t := t) fun h => h1 h.1)
          have t1 : (e' : Int) % (f : Int) = ((e' % f : Nat) : Int) := cast_mod e' f
          obtain ⟨y, hy⟩ : ∃ y, y = e' % f := ⟨_, rfl⟩
          rw [← hy] at t1 h1
          have t2 : ((y : Int) == 0) = false := by simp; omega
          clear h1 hd hat' Hat hy
          go_wp2
          go_roundw
          case rel => exact ⟨e', D ++ [(f, t)], R, by rw [HL.out]; simp, by simp, rfl, Hn.out, hbw.alloc hbw.size _⟩
          case measure => simp [intOf]; omega

/-- Order, of a prime that does not divide a. -/
theorem pord_yes (a p : Nat) (ha : a < 4294967296) (hp : Pr p) (hlt : p < 4294967296) (h0 : a % p ≠ 0) (w : World) (hw : Bases w) :
    Calls Tryd.prog 39 #[.int .u32 (a : Int), .int .u32 (p : Int)] w fun r w' => ∃ o : Nat, r = .returned (.tuple #[.int .u32 (o : Int), .int .i64 0]) ∧ IsOrd a p o ∧ o ∣ p - 1 ∧ Below w.heap.size w w' := by
  have Hw := Lib.hid hw
  have hp1 := hp.1
  have Hi := Lib.hid (fun W hW => is_yes p hp hlt W hW)
  have Ho := Lib.hid (fun L hF A c W hrd => order_any a p ha hp hlt h0 L hF A c W hrd)
  have Hf := Lib.hid (fun W => factors_any (p - 1) (by omega) (by omega) W)
  obtain ⟨m, hm⟩ : ∃ m, m = p - 1 := ⟨_, rfl⟩
  have tm : (p : Int) - 1 = (m : Int) := by omega
  have t0 : (a : Int) % (p : Int) = ((a % p : Nat) : Int) := cast_mod a p
  obtain ⟨x, hx⟩ : ∃ x, x = a % p := ⟨_, rfl⟩
  rw [← hx] at t0 h0
  have t1 : ((x : Int) == 0) = false := by simp; omega
  have t2 : ((p : Int) == 0) = false := by simp; omega
  rw [← hm] at Hf Ho ⊢
  clear hw hp h0 hx hm
  go_enter Tryd.func39, Tryd.ntmps39
  go_wp2_with fail
  refine (Hi.out _ Hw.out).mono ?_
  rintro _ _ ⟨rfl, rfl⟩
  go_wp2_with fail
  refine (Hf.out _).mono ?_
  rintro _ w1 ⟨v, L, rfl, hF, hown, hb⟩
  obtain ⟨A, c, rfl, hrd⟩ := own_rd hown
  have HF := Lib.hid hF
  have Hrd := Lib.hid hrd
  clear hown hF hrd
  go_wp2_with fail
  refine (Ho.out L HF.out A c _ Hrd.out).mono ?_
  rintro _ w2 ⟨o, rfl, ho, hod, hb2⟩
  have HO := Lib.hid ho
  have HOd := Lib.hid hod
  clear ho hod
  go_wp2
  go_ret2
  exact ⟨o, rfl, HO.out, HOd.out, hb.trans (hb2.mono hb.size)⟩
theorem pord_zero (a p : Nat) (hp : Pr p) (hlt : p < 4294967296) (h0 : a % p = 0) (w : World) (hw : Bases w) :
    Calls Tryd.prog 39 #[.int .u32 (a : Int), .int .u32 (p : Int)] w fun r w' => r = .returned (.tuple #[.int .u32 0, .int .i64 5]) ∧ w' = w := by
  have Hw := Lib.hid hw
  have hp1 := hp.1
  have Hi := Lib.hid (fun W hW => is_yes p hp hlt W hW)
  have t0 : (a : Int) % (p : Int) = 0 := by rw [cast_mod, h0]; rfl
  have t2 : ((p : Int) == 0) = false := by simp; omega
  clear hw hp h0
  go_enter Tryd.func39, Tryd.ntmps39
  go_wp2_with fail
  refine (Hi.out _ Hw.out).mono ?_
  rintro _ _ ⟨rfl, rfl⟩
  go_wp2
  go_ret2
  exact ⟨rfl, rfl⟩
theorem pord_no (a p : Nat) (hp : ¬ Pr p) (hlt : p < 4294967296) (w : World) (hw : Bases w) :
    Calls Tryd.prog 39 #[.int .u32 (a : Int), .int .u32 (p : Int)] w fun r w' => r = .returned (.tuple #[.int .u32 0, .int .i64 40]) ∧ w' = w := by
  have Hw := Lib.hid hw
  have Hi := Lib.hid (fun W hW => is_no p hp hlt W hW)
  clear hw hp
  go_enter Tryd.func39, Tryd.ntmps39
  go_wp2_with fail
  refine (Hi.out _ Hw.out).mono ?_
  rintro _ _ ⟨rfl, rfl⟩
  go_wp2
  go_ret2
  exact ⟨rfl, rfl⟩
end Go.Proofs.YtnjhppdcpjgfmaaDoor
