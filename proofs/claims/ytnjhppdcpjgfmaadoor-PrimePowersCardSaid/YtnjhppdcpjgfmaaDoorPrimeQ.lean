/- The walk of PrimePowers: it returns true. Condition: bases reads 2, 7, 61. -/
import Derived.Test.YtnjhppdcpjgfmaaDoorPrimeO
namespace Go.Proofs.YtnjhppdcpjgfmaaDoor
open Go.RowKit

set_option maxHeartbeats 800000 in
theorem primePowers_walk (a : Nat) (ha : a < 4294967296) (e : Nat) (he : e < 18446744073709551616) (p : Nat) (hlt : p < 4294967296) (w : World) (hw : Bases w) :
    Calls Tryd.prog 7 #[.int .u32 (a : Int), .int .u64 (e : Int), .int .u32 (p : Int)] w fun r w' => r = .returned (.bool true) ∧ Below w.heap.size w w' := by
  have Hw := Lib.hid hw
  rcases isP_cases p with ⟨hp, _⟩ | ⟨hp, _⟩
  · have h1 := fun W hW => ppow_yes a e p ha he hp hlt W hW
    have h2 := fun W => rpow_any a e p ha he hlt hp.pos W
    have Hi := Lib.hid (fun W => ris_yes p hp hlt W)
    obtain ⟨x, hx⟩ : ∃ x, x = a ^ e % p := ⟨_, rfl⟩
    simp only [← hx] at h1 h2
    have H1 := Lib.hid h1
    have H2 := Lib.hid h2
    clear hw hp h1 h2 hx
    go_enter Tryd.func7, Tryd.ntmps7
    go_wp2_with fail
    refine (H1.out _ Hw.out).mono ?_
    rintro _ _ ⟨rfl, rfl⟩
    go_wp2_with fail
    refine (Hi.out _).mono ?_
    rintro _ _ ⟨rfl, rfl⟩
    go_wp2_with fail
    refine (H2.out _).mono ?_
    rintro _ _ ⟨rfl, rfl⟩
    go_wp2_with fail
    refine (told_right x 0 _ rfl).mono ?_
    rintro _ _ ⟨rfl, rfl⟩
    go_wp2_with fail
    refine (awake_any _ Hw.out).mono ?_
    rintro _ _ ⟨rfl, rfl⟩
    go_wp2
    go_ret
    exact ⟨rfl, Below.refl _ _⟩
  · have H1 := Lib.hid (fun W hW => ppow_no a e p hp hlt W hW)
    have Hi := Lib.hid (fun W => ris_no p hp hlt W)
    clear hw hp
    go_enter Tryd.func7, Tryd.ntmps7
    go_wp2_with fail
    refine (H1.out _ Hw.out).mono ?_
    rintro _ _ ⟨rfl, rfl⟩
    go_wp2_with fail
    refine (Hi.out _).mono ?_
    rintro _ _ ⟨rfl, rfl⟩
    go_wp2_with fail
    refine (told_error 0 40 _ rfl).mono ?_
    rintro _ _ ⟨rfl, rfl⟩
    go_wp2_with fail
    refine (awake_any _ Hw.out).mono ?_
    rintro _ _ ⟨rfl, rfl⟩
    go_wp2
    go_ret
    exact ⟨rfl, Below.refl _ _⟩
end Go.Proofs.YtnjhppdcpjgfmaaDoor
