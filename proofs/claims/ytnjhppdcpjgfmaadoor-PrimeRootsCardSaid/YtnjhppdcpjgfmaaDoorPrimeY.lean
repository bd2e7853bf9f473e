/- The contracts of the reference's Order and of both Roots, and the walk of PrimeOrders: true. Conditions: p a prime; bases reads 2, 7, 61. -/
import Derived.Test.YtnjhppdcpjgfmaaDoorPrimeV
import Derived.Test.YtnjhppdcpjgfmaaDoorPrimeX
namespace Go.Proofs.YtnjhppdcpjgfmaaDoor
open Go.RowKit

theorem quietS {P : Program} {f : FuncId} {args : Array Value} {w : World} {n : Nat} {v : Value} (h : Calls P f args (w.drewN n) fun e w' => e = .returned v ∧ w' = w.drewN n) :
    Calls P f args (w.drewN n) fun e w'' => e = .returned v ∧ ∃ m, w'' = w.drewN m := h.mono fun _ _ ⟨he, hm⟩ => ⟨he, n, hm⟩
theorem quietAddS {P : Program} {f : FuncId} {args : Array Value} {w : World} {a n : Nat} {v : Value} (h : Calls P f args (w.drewN (a + n)) fun e w' => e = .returned v ∧ w' = w.drewN (a + n)) :
    Calls P f args (w.drewN (a + n)) fun e w'' => e = .returned v ∧ ∃ m, w'' = w.drewN (a + m) := h.mono fun _ _ ⟨he, hm⟩ => ⟨he, n, hm⟩

set_option maxHeartbeats 3200000 in
theorem rorder_any (a p : Nat) (ha : a < 4294967296) (hp : Pr p) (hlt : p < 4294967296) (h0 : a % p ≠ 0) (w : World) :
    Calls Tryd.prog 42 #[.int .u32 (a : Int), .int .u32 (p : Int)] w fun r w' => ∃ o : Nat, r = .returned (.int .u32 (o : Int)) ∧ IsOrd a p o ∧ Below w.heap.size w w' := by
  have hp1 := hp.1
  have Hf := Lib.hid (fun W => rfactors_any (p - 1) (by omega) (by omega) W)
  have Hst := Lib.hid (OrdAt.start hp h0)
  have Hdone := Lib.hid (fun L e (hF : Fac (p - 1) L) (h : OrdAt a p L e) => h.done hp1 hF)
  have Hall := Lib.hid (fun L (hF : Fac (p - 1) L) => hF.all_pr)
  have Hlen := Lib.hid (fun L (hF : Fac (p - 1) L) => hF.length_lt (by omega))
  have Hle := Lib.hid (fun D e (h : OrdAt a p D e) => h.le hp1)
  obtain ⟨m, hm⟩ : ∃ m, m = p - 1 := ⟨_, rfl⟩
  have tm : (p : Int) - 1 = (m : Int) := by omega
  have hmp : m < p := by omega
  have tp : ((p : Int) == 0) = false := by simp; omega
  have t1p : (1 : Int) % (p : Int) = 1 := Int.emod_eq_of_lt (by omega) (by omega)
  rw [← hm] at Hf Hst Hle Hdone Hall Hlen
  clear h0 hp hm
  go_enter Tryd.func42, Tryd.ntmps42
  go_wp2_with fail
  refine (Hf.out _).mono ?_
  rintro _ w1 ⟨v, L, rfl, hF, hown, hb⟩
  obtain ⟨A, c, rfl, hrd⟩ := own_rd hown
  have hlen := Hlen.out L hF
  replace Hall := Lib.hid (Hall.out L hF)
  replace Hdone := Lib.hid (fun e h => Hdone.out L e hF h)
  clear hown hF Hlen
  go_wp2
  go_loopw [5, 14] (fun ev iv wr => ∃ (e : Nat) (D R : List (Nat × Nat)), L = D ++ R ∧ iv = .int .i64 (D.length : Int) ∧ ev = .int .u32 (e : Int) ∧ OrdAt a p D e ∧ Below w1.heap.size w1 wr) (fun _ iv _ => L.length - (intOf iv).toNat)
  case atStart => exact ⟨m, [], L, rfl, rfl, rfl, Hst.out, Below.refl _ _⟩
  case round =>
    obtain ⟨e, D, R, hL, rfl, rfl, hat, hbw⟩ := hrel
    have hem := Hle.out _ _ hat
    cases R with
    | nil =>
      have hDl : D.length = L.length := by rw [hL]; simp
      have hLD : L = D := by rw [hL]; simp
      have Hat := Lib.hid hat
      have HLD := Lib.hid hLD
      clear hrd hL hat hLD
      go_wp2
      go_ret
      exact ⟨e, rfl, Hdone.out e (HLD.out ▸ Hat.out), hb.trans (hbw.mono hb.size)⟩
    | cons x R =>
      obtain ⟨f, t⟩ := x
      obtain ⟨b, off, rfl, hbl, hcell⟩ := hrd (by rw [hL]; simp [facCells])
      have hc := fac_cells_at D R f t
      rw [← hL] at hc
      have hf := (hbw.cell (p := ⟨b, off + D.length * 2, none⟩) hbl).trans (hcell _ _ hc.1)
      have hq := (hbw.cell (p := ⟨b, off + (D.length * 2 + 1), none⟩) hbl).trans (hcell _ _ hc.2)
      rw [← Nat.add_assoc] at hq
      have hDl : D.length < L.length := by rw [hL]; simp
      have hfp := Hall.out (f, t) (by rw [hL]; simp)
      have hf2 : 2 ≤ f := hfp.1.1
      have HD0 := Lib.hid (fun (y : Nat × Nat) (hy : y ∈ D) => (Hall.out y (by rw [hL]; simp [hy])).1.pos)
      have hfle : f < 4294967296 := by
        have := Nat.le_of_dvd (by omega) hfp.2
        omega
      have HL := Lib.hid hL
      have Hat := Lib.hid hat
      have tf : ((f : Int) == 0) = false := by simp; omega
      obtain ⟨wo, rfl⟩ : ∃ wo : World, wo = wr := ⟨_, rfl⟩
      clear hc hcell hrd hL hat hfp
      go_wp2
      go_loopw [5] (fun ev wi => ∃ e' : Nat, ev = .int .u32 (e' : Int) ∧ OrdAt a p D e' ∧ Dr (wo.alloc (.cells #[.int .u32 (f : Int), .int .i64 (t : Int)] 43)) wi) (fun ev _ => (intOf ev).toNat)
      case atStart => exact ⟨e, rfl, Hat.out, Dr.refl _⟩
      case round =>
        obtain ⟨e', rfl, hat', k, rfl⟩ := hrel
        have hem' := Hle.out _ _ hat'
        have hpos := hat'.1
        obtain ⟨d, hd⟩ : ∃ d, d = e' / f := ⟨_, rfl⟩
        have td : (e' : Int) / (f : Int) = (d : Int) := by rw [hd]; norm_cast
        have hde : d ≤ e' / 2 := by rw [hd]; exact Nat.div_le_div_left hf2 (by omega)
        by_cases h1 : e' % f = 0
        · have t1 : (e' : Int) % (f : Int) = 0 := by rw [cast_mod, h1]; rfl
          have hpow := fun W => rpow_any a d p ha (by omega) hlt (by omega) W
          by_cases h2 : a ^ d % p = 1
          · have Hn := Lib.hid (hd ▸ hat'.down hp1 HD0.out (by omega) h1 (hd ▸ h2))
            simp only [h2] at hpow
            have Hpow := Lib.hid hpow
            clear hpow h1 h2 hd hat' Hat
            go_wp2
            go_quiet ((go_at_call 33; first | exact quietS (Hpow.out _) | exact quietAddS (Hpow.out _)))
            go_wp2
            go_roundw
            case rel => exact ⟨d, rfl, Hn.out, (Dr.refl _).step _⟩
            case measure => simp [intOf]; omega
          · have Hn := Lib.hid (hat'.next (t := t) fun h => h2 (hd ▸ h.2))
            obtain ⟨y, hy⟩ : ∃ y, y = a ^ d % p := ⟨_, rfl⟩
            simp only [← hy] at hpow h2
            have t2 : ((y : Int) == 1) = false := by simp; omega
            have Hpow := Lib.hid hpow
            clear hpow h1 h2 hd hat' Hat hy
            go_wp2
            go_quiet ((go_at_call 33; first | exact quietS (Hpow.out _) | exact quietAddS (Hpow.out _)))
            go_wp2
            go_roundw
            case rel => exact ⟨e', D ++ [(f, t)], R, by rw [HL.out]; simp, by simp, rfl, Hn.out, (hbw.alloc hbw.size _).trans (Dr.below ((Dr.refl _).step _) _)⟩
            case measure => simp [intOf]; omega
        · have Hn := Lib.hid (hat'.next (t := t) fun h => h1 h.1)
          have t1 : (e' : Int) % (f : Int) = ((e' % f : Nat) : Int) := cast_mod e' f
          obtain ⟨y, hy⟩ : ∃ y, y = e' % f := ⟨_, rfl⟩
          rw [← hy] at t1 h1
          have t2 : ((y : Int) == 0) = false := by simp; omega
          clear h1 hd hat' Hat hy
          go_wp2
          go_quiet (fail)
          go_wp2
          go_roundw
          case rel => exact ⟨e', D ++ [(f, t)], R, by rw [HL.out]; simp, by simp, rfl, Hn.out, (hbw.alloc hbw.size _).trans (Dr.below ((Dr.refl _).step _) _)⟩
          case measure => simp [intOf]; omega
end Go.Proofs.YtnjhppdcpjgfmaaDoor
