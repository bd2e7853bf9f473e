/- The walk of PrimeNone: true. Conditions: bases reads 2, 7, 61. -/
import Derived.Test.YtnjhppdcpjgfmaaGreatDoorPrimeR
namespace Go.Proofs.YtnjhppdcpjgfmaaGreatDoor
open Go.RowKit

theorem Bases.lt {w : World} (h : Bases w) : 0 < w.heap.size := by
  rcases Nat.lt_or_ge 0 w.heap.size with h1 | h1
  · exact h1
  · exfalso
    have h2 := h.1
    simp [World.cell?, Array.getElem?_eq_none h1] at h2
theorem Bases.keep {w w' : World} (h : Bases w) {B : Nat} (hb : Below B w w') (hB : 0 < B) : Bases w' :=
  ⟨(hb.cell (p := ⟨_, 0, none⟩) hB).trans h.1, (hb.cell (p := ⟨_, 1, none⟩) hB).trans h.2.1, (hb.cell (p := ⟨_, 2, none⟩) hB).trans h.2.2⟩
theorem Bases.alloc {w : World} (h : Bases w) (o : Obj) : Bases (w.alloc o) := h.keep ((Below.refl w.heap.size w).alloc (Nat.le_refl _) o) h.lt

set_option maxHeartbeats 400000 in
theorem nof (p : Nat) (hp : ¬ Pr p) (hlt : p < 4294967296) (w : World) (hw : Bases w) :
    Calls Tryz.prog 8 #[(.agg #[.bool false, .slice none 0 0]), .int .u32 (p : Int)] w fun r w' => r = .returned (.tuple #[.int .u32 0, .int .i64 40]) ∧ Below w.heap.size w w' := by
  have Hw := Lib.hid (fun o => hw.alloc o)
  have Hi := Lib.hid (fun W hW => is_no p hp hlt W hW)
  clear hw hp
  go_enter Tryz.func8, Tryz.ntmps8
  go_wp2_with fail
  refine (Hi.out _ (Hw.out _)).mono ?_
  rintro _ _ ⟨rfl, rfl⟩
  go_wp2
  go_ret2
  exact ⟨rfl, (Below.refl _ _).alloc (Nat.le_refl _) _⟩

set_option maxHeartbeats 400000 in
theorem nofrat (p : Nat) (hp : ¬ Pr p) (hlt : p < 4294967296) (w : World) (hw : Bases w) :
    Calls Tryz.prog 9 #[(.agg #[.bool false, .slice none 0 0, .bool false, .slice none 0 0]), .int .u32 (p : Int)] w fun r w' => r = .returned (.tuple #[.int .u32 0, .int .i64 40]) ∧ Below w.heap.size w w' := by
  have Hw := Lib.hid (fun o => hw.alloc o)
  have Hi := Lib.hid (fun W hW => is_no p hp hlt W hW)
  clear hw hp
  go_enter Tryz.func9, Tryz.ntmps9
  go_wp2_with fail
  refine (Hi.out _ (Hw.out _)).mono ?_
  rintro _ _ ⟨rfl, rfl⟩
  go_wp2
  go_ret2
  exact ⟨rfl, (Below.refl _ _).alloc (Nat.le_refl _) _⟩

set_option maxHeartbeats 400000 in
theorem nleg (a p : Nat) (hp : ¬ Pr p) (hlt : p < 4294967296) (w : World) (hw : Bases w) :
    Calls Tryz.prog 10 #[.int .u32 (a : Int), .int .u32 (p : Int)] w fun r w' => r = .returned (.tuple #[.int .i64 0, .int .i64 40]) ∧ w' = w := by
  have Hw := Lib.hid hw
  have Hi := Lib.hid (fun W hW => is_no p hp hlt W hW)
  clear hw hp
  go_enter Tryz.func10, Tryz.ntmps10
  go_wp2_with fail
  refine (Hi.out _ Hw.out).mono ?_
  rintro _ _ ⟨rfl, rfl⟩
  go_wp2
  go_ret2
  exact ⟨rfl, rfl⟩

set_option maxHeartbeats 400000 in
theorem nsqrt (a p : Nat) (hp : ¬ Pr p) (hlt : p < 4294967296) (w : World) (hw : Bases w) :
    Calls Tryz.prog 11 #[.int .u32 (a : Int), .int .u32 (p : Int)] w fun r w' => r = .returned (.tuple #[.int .u32 0, .int .i64 40]) ∧ w' = w := by
  have Hw := Lib.hid hw
  have Hi := Lib.hid (fun W hW => is_no p hp hlt W hW)
  clear hw hp
  go_enter Tryz.func11, Tryz.ntmps11
  go_wp2_with fail
  refine (Hi.out _ Hw.out).mono ?_
  rintro _ _ ⟨rfl, rfl⟩
  go_wp2
  go_ret2
  exact ⟨rfl, rfl⟩

set_option maxHeartbeats 400000 in
theorem nord (a p : Nat) (hp : ¬ Pr p) (hlt : p < 4294967296) (w : World) (hw : Bases w) :
    Calls Tryz.prog 12 #[.int .u32 (a : Int), .int .u32 (p : Int)] w fun r w' => r = .returned (.tuple #[.int .u32 0, .int .i64 40]) ∧ w' = w := by
  have Hw := Lib.hid hw
  have Hi := Lib.hid (fun W hW => is_no p hp hlt W hW)
  clear hw hp
  go_enter Tryz.func12, Tryz.ntmps12
  go_wp2_with fail
  refine (Hi.out _ Hw.out).mono ?_
  rintro _ _ ⟨rfl, rfl⟩
  go_wp2
  go_ret2
  exact ⟨rfl, rfl⟩

set_option maxHeartbeats 400000 in
theorem nroot (p : Nat) (hp : ¬ Pr p) (hlt : p < 4294967296) (w : World) (hw : Bases w) :
    Calls Tryz.prog 13 #[.int .u32 (p : Int)] w fun r w' => r = .returned (.tuple #[.int .u32 0, .int .i64 40]) ∧ w' = w := by
  have Hw := Lib.hid hw
  have Hi := Lib.hid (fun W hW => is_no p hp hlt W hW)
  clear hw hp
  go_enter Tryz.func13, Tryz.ntmps13
  go_wp2_with fail
  refine (Hi.out _ Hw.out).mono ?_
  rintro _ _ ⟨rfl, rfl⟩
  go_wp2
  go_ret2
  exact ⟨rfl, rfl⟩

set_option maxRecDepth 100000 in
set_option maxHeartbeats 1600000 in
theorem none_prime (a e p : Nat) (hp : Pr p) (hlt : p < 4294967296) (w : World) (hw : Bases w) :
    Calls Tryz.prog 3 #[.int .u32 (a : Int), .int .u64 (e : Int), .int .u32 (p : Int)] w fun r w' => r = .returned (.bool true) ∧ Below w.heap.size w w' := by
  have Hw := Lib.hid hw
  have Hi := Lib.hid (fun W => ris_yes p hp hlt W)
  clear hw hp
  go_enter Tryz.func3, Tryz.ntmps3
  go_wp2_with fail
  refine (Hi.out _).mono ?_
  rintro _ _ ⟨rfl, rfl⟩
  go_wp2_with fail
  refine (awake_any _ Hw.out).mono ?_
  rintro _ _ ⟨rfl, rfl⟩
  go_wp2
  go_ret
  exact ⟨rfl, Below.refl _ _⟩
set_option maxRecDepth 100000 in
set_option maxHeartbeats 3200000 in
theorem none_none (a : Nat) (ha : a < 4294967296) (e : Nat) (he : e < 18446744073709551616) (p : Nat) (hp : ¬ Pr p) (hlt : p < 4294967296) (w : World) (hw : Bases w) :
    Calls Tryz.prog 3 #[.int .u32 (a : Int), .int .u64 (e : Int), .int .u32 (p : Int)] w fun r w' => r = .returned (.bool true) ∧ Below w.heap.size w w' := by
  have Hw := Lib.hid hw
  have Hi := Lib.hid (fun W => ris_no p hp hlt W)
  have hb32 : e % 4294967296 < 4294967296 := Nat.mod_lt _ (by decide)
  have t0 : (e : Int) % 4294967296 = ((e % 4294967296 : Nat) : Int) := rfl
  obtain ⟨b, hb⟩ : ∃ b, b = e % 4294967296 := ⟨_, rfl⟩
  rw [← hb] at hb32 t0
  have A0 := Lib.hid (fun W hW => field_none a b p ha hb32 hp hlt W hW)
  have A1 := Lib.hid (fun W hW => ppow_no a e p hp hlt W hW)
  have A2 := Lib.hid (fun W hW => nof p hp hlt W hW)
  have A3 := Lib.hid (fun W hW => nofrat p hp hlt W hW)
  have A4 := Lib.hid (fun W hW => nleg a p hp hlt W hW)
  have A5 := Lib.hid (fun W hW => nsqrt a p hp hlt W hW)
  have A6 := Lib.hid (fun W hW => nord a p hp hlt W hW)
  have A7 := Lib.hid (fun W hW => nroot p hp hlt W hW)
  clear hw hp hb
  go_enter Tryz.func3, Tryz.ntmps3
  go_wp2_with fail
  refine (Hi.out _).mono ?_
  rintro _ w ⟨rfl, rfl⟩
  go_wp2_with fail
  refine (A0.out _ Hw.out).mono ?_
  rintro _ _ ⟨rfl, n0, rfl⟩
  go_wp2_with fail
  refine (A1.out _ (Hw.out.drewN _)).mono ?_
  rintro _ _ ⟨rfl, rfl⟩
  go_wp2_with fail
  refine (A2.out _ (Hw.out.drewN _)).mono ?_
  rintro _ w1 ⟨rfl, hb1⟩
  have HB1 := Lib.hid ((Dr.below ⟨n0, rfl⟩ w.heap.size).trans (hb1.mono (Nat.le_refl _)))
  have Hw1 := Lib.hid (Hw.out.keep HB1.out Hw.out.lt)
  clear hb1
  go_wp2_with fail
  refine (A3.out _ Hw1.out).mono ?_
  rintro _ w2 ⟨rfl, hb2⟩
  have HB2 := Lib.hid (HB1.out.trans (hb2.mono HB1.out.size))
  have Hw2 := Lib.hid (Hw.out.keep HB2.out Hw.out.lt)
  clear hb2
  go_wp2_with fail
  refine (A4.out _ Hw2.out).mono ?_
  rintro _ _ ⟨rfl, rfl⟩
  go_wp2_with fail
  refine (A5.out _ Hw2.out).mono ?_
  rintro _ _ ⟨rfl, rfl⟩
  go_wp2_with fail
  refine (A6.out _ Hw2.out).mono ?_
  rintro _ _ ⟨rfl, rfl⟩
  go_wp2_with fail
  refine (A7.out _ Hw2.out).mono ?_
  rintro _ _ ⟨rfl, rfl⟩
  go_wp2_with fail
  refine (told_error 0 40 _ rfl).mono ?_
  rintro _ _ ⟨rfl, rfl⟩
  go_wp2_with fail
  refine (told_error 0 40 _ rfl).mono ?_
  rintro _ _ ⟨rfl, rfl⟩
  go_wp2_with fail
  refine (told_error 0 40 _ rfl).mono ?_
  rintro _ _ ⟨rfl, rfl⟩
  go_wp2_with fail
  refine (num_any _ _).mono ?_
  rintro _ _ ⟨rfl, rfl⟩
  go_wp2_with fail
  refine (told_error 0 40 _ rfl).mono ?_
  rintro _ _ ⟨rfl, rfl⟩
  go_wp2_with fail
  refine (told_error 0 40 _ rfl).mono ?_
  rintro _ _ ⟨rfl, rfl⟩
  go_wp2_with fail
  refine (told_error 0 40 _ rfl).mono ?_
  rintro _ _ ⟨rfl, rfl⟩
  go_wp2_with fail
  refine (awake_any _ Hw2.out).mono ?_
  rintro _ _ ⟨rfl, rfl⟩
  go_wp2
  go_ret
  exact ⟨rfl, HB2.out⟩
theorem primeNone_walk (a : Nat) (ha : a < 4294967296) (e : Nat) (he : e < 18446744073709551616) (p : Nat) (hlt : p < 4294967296) (w : World) (hw : Bases w) :
    Calls Tryz.prog 3 #[.int .u32 (a : Int), .int .u64 (e : Int), .int .u32 (p : Int)] w fun r w' => r = .returned (.bool true) ∧ Below w.heap.size w w' := by
  by_cases hp : Pr p
  · exact none_prime a e p hp hlt w hw
  · exact none_none a ha e he p hp hlt w hw
end Go.Proofs.YtnjhppdcpjgfmaaGreatDoor
