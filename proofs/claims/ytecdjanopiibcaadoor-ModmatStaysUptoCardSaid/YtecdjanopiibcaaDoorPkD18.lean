/- The small functions of the statements' file: num, same, told, number, faults, square, ints, awake. No conditions beyond the sizes. The examples of layer 10 come out as the document says. Conditions: bases reads 2, 7, 61. Plain algebra: a transform by halves and back over any commutative ring. No conditions. Plain algebra over Z modulo a number: sums, combinations of rows, systems with more unknowns than equations. Conditions: where a field is wanted, each number but 0 has an inverse. -/
import Derived.Test.YtecdjanopiibcaaDoorPkD17
namespace Go.Proofs.YtecdjanopiibcaaDoor
section
open Go.RowKit

theorem lnum_any (k : Int) (w : World) : Calls Tryd.prog 11 #[.int .i64 k] w fun r w' => r = .returned (.int .i64 k) ∧ w' = w := by
  go_enter Tryd.func11, Tryd.ntmps11
  go_wp2
  go_ret
  exact ⟨rfl, rfl⟩

theorem lsame_any (A A2 : Option Addr) (c c2 : Nat) (M N : List (List Nat)) (w : World) (B B2 : Nat) (hr : RdM w B A M) (hr2 : RdM w B2 A2 N) (hm : M.length ≤ 281474976710656) (hm2 : N.length ≤ 281474976710656) (b : Bool) (hb : b = true ↔ M = N) :
    Calls Tryd.prog 30 #[.slice A M.length c, .slice A2 N.length c2] w fun e w' => e = .returned (.bool b) ∧ Dr w w' := by
  have H := Lib.hid (rsame_any A A2 c c2 M N w B B2 hr hr2 hm hm2 b hb)
  clear hr hr2 hb
  go_enter Tryd.func30, Tryd.ntmps30
  go_wp2_with (go_at_call 54; (with_reducible refine H.out.mono ?_); rintro e w1 ⟨rfl, hd⟩)
  go_ret
  exact ⟨rfl, hd⟩

theorem told_err (A A2 : Option Addr) (c n2 c2 : Nat) (code : Int) (hc : (code != 0) = true) (w : World) :
    Calls Tryd.prog 17 #[.slice A 0 c, .int .i64 code, .slice A2 n2 c2, .int .i64 code] w fun e w' => e = .returned (.bool true) ∧ Dr w w' := by
  have H := Lib.hid (fun k W => lnum_any k W)
  go_enter Tryd.func17, Tryd.ntmps17
  go_wp2_with (go_at_call 11; (with_reducible refine (H.out _ _).mono ?_); rintro e w1 ⟨rfl, rfl⟩)
  go_ret
  exact ⟨rfl, Dr.refl _⟩

theorem told_ok (A A2 : Option Addr) (c c2 n n2 : Nat) (M N : List (List Nat)) (w : World) (B B2 : Nat) (hr : RdM w B A M) (hr2 : RdM w B2 A2 N) (hn : n = M.length) (hn2 : n2 = N.length) (hm : M.length ≤ 281474976710656) (h : M = N) :
    Calls Tryd.prog 17 #[.slice A n c, .int .i64 0, .slice A2 n2 c2, .int .i64 0] w fun e w' => e = .returned (.bool true) ∧ Dr w w' := by
  subst hn hn2
  have H := Lib.hid (fun W => lnum_any 0 W)
  have H2 := Lib.hid (lsame_any A A2 c c2 M N w B B2 hr hr2 hm (by rw [← h]; exact hm) true (by simp [h]))
  clear hr hr2 h hm
  go_enter Tryd.func17, Tryd.ntmps17
  go_wp2_with (first
    | (go_at_call 11; (with_reducible refine (H.out _).mono ?_); rintro e w1 ⟨rfl, rfl⟩)
    | (go_at_call 30; (with_reducible refine H2.out.mono ?_); rintro e w1 ⟨rfl, hd⟩))
  go_ret
  exact ⟨rfl, hd⟩

theorem number_err (y code : Int) (hc : (code != 0) = true) (w : World) :
    Calls Tryd.prog 18 #[.int .u32 0, .int .i64 code, .int .u32 y, .int .i64 code] w fun e w' => e = .returned (.bool true) ∧ Dr w w' := by
  have H := Lib.hid (fun k W => lnum_any k W)
  go_enter Tryd.func18, Tryd.ntmps18
  go_wp2_with (go_at_call 11; (with_reducible refine (H.out _ _).mono ?_); rintro e w1 ⟨rfl, rfl⟩)
  go_ret
  exact ⟨rfl, Dr.refl _⟩

theorem number_ok (x : Int) (w : World) :
    Calls Tryd.prog 18 #[.int .u32 x, .int .i64 0, .int .u32 x, .int .i64 0] w fun e w' => e = .returned (.bool true) ∧ Dr w w' := by
  have H := Lib.hid (fun k W => lnum_any k W)
  have t : (x == x) = true := by simp
  go_enter Tryd.func18, Tryd.ntmps18
  go_wp2_with (go_at_call 11; (with_reducible refine (H.out _ _).mono ?_); rintro e w1 ⟨rfl, rfl⟩)
  go_ret
  exact ⟨rfl, Dr.refl _⟩

/-- The error of a prime and a matrix: 40 no prime; 2 no rectangle; 0 none. -/
def FaultIs (p : Nat) (M : List (List Nat)) (code : Int) : Prop := (¬ Pr p ∧ code = 40) ∨ (Pr p ∧ ¬ Rect M ∧ code = 2) ∨ (Pr p ∧ Rect M ∧ code = 0)
theorem faultIs_any (p : Nat) (M : List (List Nat)) : ∃ code, FaultIs p M code := by
  by_cases h1 : Pr p
  · by_cases h2 : Rect M
    · exact ⟨0, .inr (.inr ⟨h1, h2, rfl⟩)⟩
    · exact ⟨2, .inr (.inl ⟨h1, h2, rfl⟩)⟩
  · exact ⟨40, .inl ⟨h1, rfl⟩⟩

set_option maxHeartbeats 1600000 in
theorem faults_one (p : Nat) (A : Option Addr) (c q : Nat) (M : List (List Nat)) (w : World) (B : Nat) (code : Int) (hf : FaultIs p M code) (hp : p < 4294967296) (hb : Blk w q 26 [.slice A M.length c]) (hr : RdM w B A M) (hm : M.length ≤ 281474976710656) :
    Calls Tryd.prog 26 #[.int .u32 (p : Int), .slice (some ⟨q, 0, none⟩) 1 1] w fun e w' => e = .returned (.int .i64 code) ∧ w' = w := by
  have c0 := hb.cell0
  rcases hf with ⟨h1, rfl⟩ | ⟨h1, h2, rfl⟩ | ⟨h1, h2, rfl⟩
  · have H := Lib.hid (ris_no p h1 hp w)
    clear hr h1 hb
    go_enter Tryd.func26, Tryd.ntmps26
    go_wp2_with (go_at_call 52; (with_reducible refine H.out.mono ?_); rintro e w1 ⟨rfl, rfl⟩)
    go_ret
    exact ⟨rfl, rfl⟩
  · have H := Lib.hid (ris_yes p h1 hp w)
    have H2 := Lib.hid (rmay_any A c M w B hr hm false (by simp [h2]))
    clear hr h1 h2 hb
    go_enter Tryd.func26, Tryd.ntmps26
    go_wp2_with (go_at_call 52; (with_reducible refine H.out.mono ?_); rintro e w1 ⟨rfl, rfl⟩)
    go_loop [12] (fun iv => iv = .int .i64 0) (fun _ => 0)
    case atStart => rfl
    case round =>
      subst hrel
      go_wp2_with (go_at_call 53; (with_reducible refine H2.out.mono ?_); rintro e w1 ⟨rfl, rfl⟩)
      go_ret
      exact ⟨rfl, rfl⟩
  · have H := Lib.hid (ris_yes p h1 hp w)
    have H2 := Lib.hid (rmay_any A c M w B hr hm true (by simp [h2]))
    clear hr h1 h2 hb
    go_enter Tryd.func26, Tryd.ntmps26
    go_wp2_with (go_at_call 52; (with_reducible refine H.out.mono ?_); rintro e w1 ⟨rfl, rfl⟩)
    go_loop [12] (fun iv => ∃ i : Nat, i ≤ 1 ∧ iv = .int .i64 (i : Int)) (fun iv => 1 - (intOf iv).toNat)
    case atStart => exact ⟨0, by omega, rfl⟩
    case round =>
      obtain ⟨i, hi, rfl⟩ := hrel
      by_cases h : i = 0
      · subst h
        go_wp2_with (go_at_call 53; (with_reducible refine H2.out.mono ?_); rintro e w1 ⟨rfl, rfl⟩)
        go_round
        case rel => exact ⟨1, by omega, rfl⟩
        case measure => simp [intOf]
      · obtain rfl : i = 1 := by omega
        go_wp2_with fail
        go_ret
        exact ⟨rfl, rfl⟩

/-- The error of a square matrix: likewise, 3 none that is square. -/
def SquareIs (p : Nat) (M : List (List Nat)) (code : Int) : Prop := (∃ c, FaultIs p M c ∧ (c != 0) = true ∧ code = c) ∨ (Pr p ∧ Rect M ∧ ¬ Sq M ∧ code = 3) ∨ (Pr p ∧ Rect M ∧ Sq M ∧ code = 0)

set_option maxHeartbeats 1600000 in
theorem square_any (p : Nat) (A : Option Addr) (c : Nat) (M : List (List Nat)) (w : World) (B : Nat) (code : Int) (hf : SquareIs p M code) (hp : p < 4294967296) (hr : RdM w B A M) (hB : B ≤ w.heap.size) (hm : M.length ≤ 281474976710656) :
    Calls Tryd.prog 16 #[.int .u32 (p : Int), .slice A M.length c] w fun e w' => e = .returned (.int .i64 code) ∧ Below w.heap.size w w' := by
  have hba : Below w.heap.size w (w.alloc (.cells #[.slice A M.length c] 26)) := (Below.refl _ _).alloc (Nat.le_refl _) _
  have hr2 := hr.below (hba.mono hB)
  have Hf := fun k (hk : FaultIs p M k) => faults_one p A c w.heap.size M (w.alloc (.cells #[.slice A M.length c] 26)) B k hk hp (Blk.new_ rfl) hr2 hm
  rcases hf with ⟨k, h1, h2, rfl⟩ | ⟨h1, h2, h3, rfl⟩ | ⟨h1, h2, h3, rfl⟩
  · have H := Lib.hid (Hf _ h1)
    have t : (code == 0) = false := by simpa using h2
    clear Hf hr hr2 h1 h2
    go_enter Tryd.func16, Tryd.ntmps16
    go_wp2_with (go_at_call 26; (with_reducible refine H.out.mono ?_); rintro e w1 ⟨rfl, rfl⟩)
    go_ret
    exact ⟨rfl, hba⟩
  · have H := Lib.hid (Hf 0 (.inr (.inr ⟨h1, h2, rfl⟩)))
    have H2 := Lib.hid (rsquare_any A c M (w.alloc (.cells #[.slice A M.length c] 26)) B hr2 hm false (by simp [h3]))
    clear Hf hr hr2 h1 h2 h3
    go_enter Tryd.func16, Tryd.ntmps16
    go_wp2_with (first
      | (go_at_call 26; (with_reducible refine H.out.mono ?_); rintro e w1 ⟨rfl, rfl⟩)
      | (go_at_call 43; (with_reducible refine H2.out.mono ?_); rintro e w1 ⟨rfl, rfl⟩))
    go_ret
    exact ⟨rfl, hba⟩
  · have H := Lib.hid (Hf 0 (.inr (.inr ⟨h1, h2, rfl⟩)))
    have H2 := Lib.hid (rsquare_any A c M (w.alloc (.cells #[.slice A M.length c] 26)) B hr2 hm true (by simp [h3]))
    clear Hf hr hr2 h1 h2 h3
    go_enter Tryd.func16, Tryd.ntmps16
    go_wp2_with (first
      | (go_at_call 26; (with_reducible refine H.out.mono ?_); rintro e w1 ⟨rfl, rfl⟩)
      | (go_at_call 43; (with_reducible refine H2.out.mono ?_); rintro e w1 ⟨rfl, rfl⟩))
    go_ret
    exact ⟨rfl, hba⟩

set_option maxHeartbeats 1600000 in
theorem ints_same (A A2 : Option Addr) (c c2 : Nat) (l : List Nat) (w : World) (B B2 : Nat) (hr : Rd w B A (ints l)) (hr2 : Rd w B2 A2 (ints l)) (hm : l.length ≤ 281474976710656) :
    Calls Tryd.prog 28 #[.slice A l.length c, .slice A2 l.length c2] w fun e w' => e = .returned (.bool true) ∧ Dr w w' := by
  have t : ((l.length : Int) != (l.length : Int)) = false := by simp
  obtain ⟨n, hn⟩ : ∃ n, n = l.length := ⟨_, rfl⟩
  have Hn := Lib.hid hn
  rw [← hn] at t hm ⊢
  clear hn
  go_enter Tryd.func28, Tryd.ntmps28
  go_wp2
  go_loopw [13] (fun iv wr => ∃ i : Nat, i ≤ n ∧ iv = .int .i64 (i : Int) ∧ Dr w wr) (fun iv _ => n - (intOf iv).toNat)
  case atStart => exact ⟨0, by omega, rfl, Dr.refl _⟩
  case round =>
    obtain ⟨i, hi, rfl, hd⟩ := hrel
    by_cases hil : i < n
    · obtain ⟨b1, o1, rfl, _, h1⟩ := hr.atI (k := i) (by rw [← Hn.out]; exact hil)
      obtain ⟨b2, o2, rfl, _, h2⟩ := hr2.atI (k := i) (by rw [← Hn.out]; exact hil)
      obtain ⟨x, hx⟩ : ∃ x, x = l[i]'(by rw [← Hn.out]; exact hil) := ⟨_, rfl⟩
      rw [← hx] at h1 h2
      have h3 := (hd.cell ⟨b1, o1 + i, none⟩).trans h1
      have h4 := (hd.cell ⟨b2, o2 + i, none⟩).trans h2
      have t2 : ((x : Int) != (x : Int)) = false := by simp
      clear hx h1 h2
      go_upto_region 6 with (fail)
      go_quiet (fail)
      go_wp2_with fail
      go_roundw
      case rel => exact ⟨i + 1, by omega, by go_num, hd.step _⟩
      case measure => simp [intOf]; omega
    · go_wp2
      go_ret
      exact ⟨rfl, hd⟩
end
section
open Go.RowKit

/-- A matrix of two rows that is written out. -/
theorem rdm_two (w : World) (a b c d : Nat) : RdM (((w.alloc (.cells #[.int .u32 (a : Int), .int .u32 (b : Int)] 28)).alloc (.cells #[.int .u32 (c : Int), .int .u32 (d : Int)] 28)).alloc (.cells #[.slice (some ⟨w.heap.size, 0, none⟩) 2 2, .slice (some ⟨w.heap.size + 1, 0, none⟩) 2 2] 37))
    (w.heap.size + 3) (some ⟨w.heap.size + 1 + 1, 0, none⟩) [[a, b], [c, d]] := fun _ => by
  have hb1 : Blk (((w.alloc (.cells #[.int .u32 (a : Int), .int .u32 (b : Int)] 28)).alloc (.cells #[.int .u32 (c : Int), .int .u32 (d : Int)] 28)).alloc (.cells #[.slice (some ⟨w.heap.size, 0, none⟩) 2 2, .slice (some ⟨w.heap.size + 1, 0, none⟩) 2 2] 37)) w.heap.size 28 (u32s [a, b]) :=
    ((Blk.new_ (vs := u32s [a, b]) rfl).heapAlloc _).heapAlloc _
  have hb2 : Blk (((w.alloc (.cells #[.int .u32 (a : Int), .int .u32 (b : Int)] 28)).alloc (.cells #[.int .u32 (c : Int), .int .u32 (d : Int)] 28)).alloc (.cells #[.slice (some ⟨w.heap.size, 0, none⟩) 2 2, .slice (some ⟨w.heap.size + 1, 0, none⟩) 2 2] 37)) (w.heap.size + 1) 28 (u32s [c, d]) := by
    have h := Blk.new_ (w := w.alloc (.cells #[.int .u32 (a : Int), .int .u32 (b : Int)] 28)) (t := 28) (cs := #[.int .u32 (c : Int), .int .u32 (d : Int)]) (vs := u32s [c, d]) rfl
    have h2 := h.heapAlloc (.cells #[.slice (some ⟨w.heap.size, 0, none⟩) 2 2, .slice (some ⟨w.heap.size + 1, 0, none⟩) 2 2] 37)
    simpa using h2
  have hb3 : Blk (((w.alloc (.cells #[.int .u32 (a : Int), .int .u32 (b : Int)] 28)).alloc (.cells #[.int .u32 (c : Int), .int .u32 (d : Int)] 28)).alloc (.cells #[.slice (some ⟨w.heap.size, 0, none⟩) 2 2, .slice (some ⟨w.heap.size + 1, 0, none⟩) 2 2] 37)) (w.heap.size + 1 + 1) 37 [.slice (some ⟨w.heap.size, 0, none⟩) 2 2, .slice (some ⟨w.heap.size + 1, 0, none⟩) 2 2] := by
    have h := Blk.new_ (w := (w.alloc (.cells #[.int .u32 (a : Int), .int .u32 (b : Int)] 28)).alloc (.cells #[.int .u32 (c : Int), .int .u32 (d : Int)] 28)) (t := 37) (cs := #[.slice (some ⟨w.heap.size, 0, none⟩) 2 2, .slice (some ⟨w.heap.size + 1, 0, none⟩) 2 2]) (vs := [.slice (some ⟨w.heap.size, 0, none⟩) 2 2, .slice (some ⟨w.heap.size + 1, 0, none⟩) 2 2]) rfl
    simpa using h
  refine ⟨_, 0, rfl, by omega, fun i hi => ?_⟩
  have hi2 : i = 0 ∨ i = 1 := by simp at hi; omega
  rcases hi2 with rfl | rfl
  · exact ⟨_, _, hb3.cell 0, by simp, by simp, Rd.of_blk hb1 (by omega) 0 (fun k v hv => by rw [Nat.zero_add]; exact hv)⟩
  · exact ⟨_, _, hb3.cell 1, by simp, by simp, Rd.of_blk hb2 (by omega) 0 (fun k v hv => by rw [Nat.zero_add]; exact hv)⟩
theorem bel_three (w : World) (o1 o2 o3 : Obj) : Below w.heap.size w (((w.alloc o1).alloc o2).alloc o3) := (((Below.refl _ _).alloc (Nat.le_refl _) _).alloc (by simp) _).alloc (by simp; omega) _
theorem two_sized (a b c d : Nat) (ha : a < 4294967296) (hb : b < 4294967296) (hc : c < 4294967296) (hd : d < 4294967296) : Sized [[a, b], [c, d]] := by
  refine ⟨fun r hr x hx => ?_, by simp, by simp [cols]⟩
  simp only [List.mem_cons, List.not_mem_nil, or_false] at hr
  rcases hr with rfl | rfl <;> (simp only [List.mem_cons, List.not_mem_nil, or_false] at hx; rcases hx with rfl | rfl <;> assumption)
theorem two_rect (a b c d : Nat) : Rect [[a, b], [c, d]] := fun r hr => by
  simp only [List.mem_cons, List.not_mem_nil, or_false] at hr
  rcases hr with rfl | rfl <;> rfl
theorem two_sq (a b c d : Nat) : Sq [[a, b], [c, d]] := ⟨by simp, rfl⟩

set_option maxHeartbeats 1600000 in
theorem lawake_any (w : World) (hw : Bases w) : Calls Tryd.prog 12 #[] w fun r w' => r = .returned (.bool true) ∧ Below w.heap.size w w' := by
  have e1 : (redN 7 (augN (modN 7 [[1, 1], [0, 1]]))).2 = [0, 1] := by decide +kernel
  have e2 : invM 7 (modN 7 [[1, 1], [0, 1]]) = [[1, 6], [0, 1]] := by decide +kernel
  have e3 : detN 5 (modN 5 [[1, 2], [3, 4]]) = 3 := by decide +kernel
  have h7 : Pr 7 := ⟨by decide, fun e he => (by decide : ∀ e, e < 8 → e ∣ 7 → e = 1 ∨ e = 7) e (by have := Nat.le_of_dvd (by decide) he; omega) he⟩
  have h5 : Pr 5 := ⟨by decide, fun e he => (by decide : ∀ e, e < 6 → e ∣ 5 → e = 1 ∨ e = 5) e (by have := Nat.le_of_dvd (by decide) he; omega) he⟩
  have Hinv : Hid (Calls Tryd.prog 31 #[.slice (some ⟨w.heap.size + 1 + 1, 0, none⟩) 2 2, .int .u32 7] (((w.alloc (.cells #[.int .u32 1, .int .u32 1] 28)).alloc (.cells #[.int .u32 0, .int .u32 1] 28)).alloc (.cells #[.slice (some ⟨w.heap.size, 0, none⟩) 2 2, .slice (some ⟨w.heap.size + 1, 0, none⟩) 2 2] 37)) fun e w' => ∃ A1, e = .returned (.tuple #[.slice A1 2 2, .int .i64 0]) ∧ RdM w' w'.heap.size A1 [[1, 6], [0, 1]] ∧ Below w.heap.size w w') := by
    have hT : Takes 7 (some ⟨w.heap.size + 1 + 1, 0, none⟩) 2 [[1, 1], [0, 1]] (((w.alloc (.cells #[.int .u32 1, .int .u32 1] 28)).alloc (.cells #[.int .u32 0, .int .u32 1] 28)).alloc (.cells #[.slice (some ⟨w.heap.size, 0, none⟩) 2 2, .slice (some ⟨w.heap.size + 1, 0, none⟩) 2 2] 37)) (w.heap.size + 3) :=
      ⟨h7, by decide, hw.below (bel_three w _ _ _) hw.lt, rdm_two w 1 1 0 1, by simp, by decide, two_sized 1 1 0 1 (by decide) (by decide) (by decide) (by decide), two_rect 1 1 0 1⟩
    refine (inverse_ok 7 _ 2 [[1, 1], [0, 1]] _ _ hT (two_sq 1 1 0 1) (by rw [e1]; rfl)).mono ?_
    rintro e w' ⟨g1, _, g3⟩
    obtain ⟨A1, k1, k2⟩ := g1 (by rw [e1]; rfl)
    rw [e2] at k2
    exact ⟨A1, k1, k2, (bel_three w _ _ _).trans (g3.mono (by simp; omega))⟩
  have Hdet : Hid (∀ W, Below w.heap.size w W → Calls Tryd.prog 15 #[.slice (some ⟨W.heap.size + 1 + 1, 0, none⟩) 2 2, .int .u32 5] (((W.alloc (.cells #[.int .u32 1, .int .u32 2] 28)).alloc (.cells #[.int .u32 3, .int .u32 4] 28)).alloc (.cells #[.slice (some ⟨W.heap.size, 0, none⟩) 2 2, .slice (some ⟨W.heap.size + 1, 0, none⟩) 2 2] 37)) fun e w' => e = .returned (.tuple #[.int .u32 3, .int .i64 0]) ∧ Below W.heap.size W w') := fun W hW => by
    have hT : Takes 5 (some ⟨W.heap.size + 1 + 1, 0, none⟩) 2 [[1, 2], [3, 4]] (((W.alloc (.cells #[.int .u32 1, .int .u32 2] 28)).alloc (.cells #[.int .u32 3, .int .u32 4] 28)).alloc (.cells #[.slice (some ⟨W.heap.size, 0, none⟩) 2 2, .slice (some ⟨W.heap.size + 1, 0, none⟩) 2 2] 37)) (W.heap.size + 3) :=
      ⟨h5, by decide, (hw.below hW hw.lt).below (bel_three W _ _ _) (hw.below hW hw.lt).lt, rdm_two W 1 2 3 4, by simp, by decide, two_sized 1 2 3 4 (by decide) (by decide) (by decide) (by decide), two_rect 1 2 3 4⟩
    refine (det_ok 5 _ 2 [[1, 2], [3, 4]] _ _ hT (two_sq 1 2 3 4)).mono ?_
    rintro e w' ⟨g1, g3⟩
    rw [e3] at g1
    exact ⟨g1, (bel_three W _ _ _).trans (g3.mono (by simp; omega))⟩
  have Hnum := Lib.hid (fun W => lnum_any 0 W)
  have Hsame : Hid (∀ A1 W, RdM W W.heap.size A1 [[1, 6], [0, 1]] → Calls Tryd.prog 30 #[.slice A1 2 2, .slice (some ⟨W.heap.size + 1 + 1, 0, none⟩) 2 2] (((W.alloc (.cells #[.int .u32 1, .int .u32 6] 28)).alloc (.cells #[.int .u32 0, .int .u32 1] 28)).alloc (.cells #[.slice (some ⟨W.heap.size, 0, none⟩) 2 2, .slice (some ⟨W.heap.size + 1, 0, none⟩) 2 2] 37)) fun e w' => e = .returned (.bool true) ∧ Below W.heap.size W w') := fun A1 W hr =>
    (lsame_any A1 (some ⟨W.heap.size + 1 + 1, 0, none⟩) 2 2 [[1, 6], [0, 1]] [[1, 6], [0, 1]] _ _ _ (hr.below (bel_three W _ _ _)) (rdm_two W 1 6 0 1) (by decide) (by decide) true (by simp)).mono fun e w' ⟨g1, g2⟩ => ⟨g1, (bel_three W _ _ _).trans (g2.below _)⟩
  clear e1 e2 e3 h7 h5 hw
  go_enter Tryd.func12, Tryd.ntmps12
  go_wp2_with (first
    | (go_at_call 31; (with_reducible refine Hinv.out.mono ?_); rintro e w1 ⟨A1, rfl, hr1, hb1⟩)
    | (go_at_call 15; (with_reducible refine (Hdet.out _ hb1).mono ?_); rintro e w2 ⟨rfl, hb2⟩; have hr2 := (hr1.below hb2).mono hb2.size)
    | (go_at_call 11; (with_reducible refine (Hnum.out _).mono ?_); rintro e w2 ⟨rfl, rfl⟩)
    | (go_at_call 30; (with_reducible refine (Hsame.out _ _ hr2).mono ?_); rintro e w3 ⟨rfl, hb3⟩))
  go_ret
  exact ⟨rfl, (hb1.trans (hb2.mono hb1.size)).trans (hb3.mono (hb1.trans (hb2.mono hb1.size)).size)⟩
end
section
section Ring
variable {z9 : Nat} [NeZero z9]

def sm (f : Nat → Fin z9) : Nat → Fin z9
  | 0 => 0
  | n + 1 => sm f n + f n

theorem sm_congr {f g : Nat → Fin z9} (n : Nat) (h : ∀ i, i < n → f i = g i) : sm f n = sm g n := by
  induction n with
  | zero => rfl
  | succ n ih => simp only [sm, ih (fun i hi => h i (by omega)), h n (by omega)]
theorem sm_add (f g : Nat → Fin z9) (n : Nat) : sm (fun i => f i + g i) n = sm f n + sm g n := by
  induction n with
  | zero => simp only [sm]; grind
  | succ n ih => simp only [sm, ih]; grind
theorem sm_mul (c : Fin z9) (f : Nat → Fin z9) (n : Nat) : sm (fun i => c * f i) n = c * sm f n := by
  induction n with
  | zero => simp only [sm]; grind
  | succ n ih => simp only [sm, ih]; grind
theorem sm_split (f : Nat → Fin z9) (a b : Nat) : sm f (a + b) = sm f a + sm (fun i => f (a + i)) b := by
  induction b with
  | zero => simp only [sm, Nat.add_zero]; grind
  | succ n ih => rw [← Nat.add_assoc]; simp only [sm, ih]; grind
theorem sm_shift (f : Nat → Fin z9) (n : Nat) : sm f (n + 1) = f 0 + sm (fun i => f (i + 1)) n := by
  rw [Nat.add_comm, sm_split]
  simp only [sm, Nat.add_comm 1]; grind
theorem sm_zero (n : Nat) : sm (fun _ => (0 : Fin z9)) n = 0 := by
  induction n with
  | zero => rfl
  | succ n ih => simp only [sm, ih]; grind

theorem pw_zero (a : Fin z9) : a ^ 0 = 1 := by grind
theorem pw_succ (a : Fin z9) (n : Nat) : a ^ (n + 1) = a ^ n * a := by grind
theorem pw_add (a : Fin z9) (m n : Nat) : a ^ (m + n) = a ^ m * a ^ n := by
  induction n with
  | zero => rw [Nat.add_zero, pw_zero]; grind
  | succ n ih => rw [← Nat.add_assoc, pw_succ, pw_succ, ih]; grind
theorem pw_mul (a b : Fin z9) (n : Nat) : (a * b) ^ n = a ^ n * b ^ n := by
  induction n with
  | zero => rw [pw_zero, pw_zero, pw_zero]; grind
  | succ n ih => rw [pw_succ, pw_succ, pw_succ, ih]; grind
theorem pw_one (n : Nat) : (1 : Fin z9) ^ n = 1 := by
  induction n with
  | zero => rw [pw_zero]
  | succ n ih => rw [pw_succ, ih]; grind
theorem pw_pw (a : Fin z9) (m n : Nat) : a ^ (m * n) = (a ^ m) ^ n := by
  induction n with
  | zero => rw [Nat.mul_zero, pw_zero, pw_zero]
  | succ n ih => rw [Nat.mul_succ, pw_add, ih, pw_succ]

/-- One layer down: from blocks of 2 h to blocks of h. -/
def sLay (h : Nat) (rt : Nat → Fin z9) (x : Nat → Fin z9) : Nat → Fin z9 := fun j =>
  if j % (2 * h) < h then x j + x (j + h) else (x (j - h) - x j) * rt (j % (2 * h) - h)
/-- One layer up. -/
def gLay (h : Nat) (rt : Nat → Fin z9) (x : Nat → Fin z9) : Nat → Fin z9 := fun j =>
  if j % (2 * h) < h then x j + x (j + h) * rt (j % (2 * h)) else x (j - h) - x j * rt (j % (2 * h) - h)

theorem mod_low {h r i : Nat} (hi : i < h) : (2 * h * r + i) % (2 * h) = i := by
  rw [Nat.mul_add_mod, Nat.mod_eq_of_lt (by omega)]
theorem mod_high {h r i : Nat} (hi : i < h) : (2 * h * r + h + i) % (2 * h) = h + i := by
  rw [Nat.add_assoc, Nat.mul_add_mod, Nat.mod_eq_of_lt (by omega)]

theorem s_low (h r : Nat) (rt x : Nat → Fin z9) (t : Fin z9) (ht : t ^ h = 1) :
    sm (fun i => sLay h rt x (2 * h * r + i) * t ^ i) h = sm (fun i => x (2 * h * r + i) * t ^ i) (2 * h) := by
  rw [Nat.two_mul h, sm_split, ← sm_add]
  refine sm_congr h fun i hi => ?_
  have e : sLay h rt x ((h + h) * r + i) = x ((h + h) * r + i) + x ((h + h) * r + i + h) := by
    unfold sLay
    rw [← Nat.two_mul, mod_low hi, if_pos hi]
  rw [e, pw_add, ht, show (h + h) * r + (h + i) = (h + h) * r + i + h from by omega]
  grind
theorem s_high (h r : Nat) (rt x : Nat → Fin z9) (t w : Fin z9) (ht : t ^ h = 1) (hw : w ^ h = -1) (hrt : ∀ i, i < h → rt i = w ^ i) :
    sm (fun i => sLay h rt x (2 * h * r + h + i) * t ^ i) h = sm (fun i => x (2 * h * r + i) * (w * t) ^ i) (2 * h) := by
  rw [Nat.two_mul h, sm_split, ← sm_add]
  refine sm_congr h fun i hi => ?_
  have e : sLay h rt x ((h + h) * r + h + i) = (x ((h + h) * r + i) - x ((h + h) * r + h + i)) * w ^ i := by
    unfold sLay
    rw [← Nat.two_mul, mod_high hi, if_neg (by omega), show h + i - h = i from by omega, show 2 * h * r + h + i - h = 2 * h * r + i from by omega, hrt i hi]
  rw [e, pw_add, pw_mul, pw_mul, ht, hw, show (h + h) * r + (h + i) = (h + h) * r + h + i from by omega]
  grind

/-- All layers down from blocks of 2^k to blocks of 2^j: the roots of the layer of h are rts h. -/
def sAll (rts : Nat → Nat → Fin z9) (k : Nat) : Nat → (Nat → Fin z9) → (Nat → Fin z9)
  | 0, x => x
  | m + 1, x => sLay (2 ^ (k - 1 - m)) (rts (2 ^ (k - 1 - m))) (sAll rts k m x)

theorem s_eval (rts : Nat → Nat → Fin z9) (ws : Nat → Fin z9) (k : Nat) (hw : ∀ j, j < k → ws j ^ (2 ^ j) = -1) (hrt : ∀ j i, j < k → i < 2 ^ j → rts (2 ^ j) i = ws j ^ i) (m : Nat) (hm : m ≤ k) :
    ∀ r, r < 2 ^ m → ∃ c : Fin z9, ∀ (x : Nat → Fin z9) (t : Fin z9), t ^ 2 ^ (k - m) = 1 → sm (fun i => sAll rts k m x (2 ^ (k - m) * r + i) * t ^ i) (2 ^ (k - m)) = sm (fun i => x i * (c * t) ^ i) (2 ^ k) := by
  induction m with
  | zero =>
    intro r hr
    obtain rfl : r = 0 := by simpa using hr
    refine ⟨1, fun x t _ => ?_⟩
    rw [Nat.sub_zero]
    refine sm_congr _ fun i _ => ?_
    show x (2 ^ k * 0 + i) * t ^ i = _
    rw [show 2 ^ k * 0 + i = i from by omega, show (1 : Fin z9) * t = t from by grind]
  | succ m ih =>
    intro r hr
    obtain ⟨h, hh⟩ : ∃ h, h = 2 ^ (k - (m + 1)) := ⟨_, rfl⟩
    have e1 : 2 ^ (k - m) = 2 * h := by
      rw [hh, show k - m = k - (m + 1) + 1 from by omega, Nat.pow_succ]; omega
    have e2 : 2 ^ (k - 1 - m) = h := by rw [hh]; congr 1; omega
    have hw2 := hw (k - (m + 1)) (by omega)
    rw [← hh] at hw2
    have hrt2 : ∀ i, i < h → rts h i = ws (k - (m + 1)) ^ i := fun i hi => by
      rw [hh]; exact hrt _ i (by omega) (by rw [← hh]; exact hi)
    obtain ⟨c, hc⟩ := ih (by omega) (r / 2) (by rw [Nat.pow_succ] at hr; omega)
    rw [e1] at hc
    rw [← hh]
    have e3 : ∀ x, sAll rts k (m + 1) x = sLay h (rts h) (sAll rts k m x) := fun x => by
      show sLay (2 ^ (k - 1 - m)) (rts (2 ^ (k - 1 - m))) (sAll rts k m x) = _
      rw [e2]
    rcases Nat.mod_two_eq_zero_or_one r with h0 | h1
    · refine ⟨c, fun x t ht => ?_⟩
      rw [e3, ← hc x t (by rw [Nat.two_mul, pw_add, ht]; grind), ← s_low h (r / 2) (rts h) _ t ht]
      refine sm_congr _ fun i _ => ?_
      rw [show h * r = 2 * h * (r / 2) from by rw [Nat.mul_comm 2 h, Nat.mul_assoc]; congr 1; omega]
    · refine ⟨c * ws (k - (m + 1)), fun x t ht => ?_⟩
      have e4 : (c * ws (k - (m + 1)) * t) = c * (ws (k - (m + 1)) * t) := by grind
      rw [e3, e4, ← hc x (ws (k - (m + 1)) * t) (by rw [pw_mul, Nat.two_mul, pw_add, pw_add, ht, hw2]; grind), ← s_high h (r / 2) (rts h) _ t _ ht hw2 hrt2]
      refine sm_congr _ fun i _ => ?_
      rw [show h * r = 2 * h * (r / 2) + h from by rw [Nat.mul_comm 2 h, Nat.mul_assoc, ← Nat.mul_succ]; congr 1; omega]

/-- At the end, each place holds the polynomial's value at a point of its own. -/
theorem s_value (rts : Nat → Nat → Fin z9) (ws : Nat → Fin z9) (k : Nat) (hw : ∀ j, j < k → ws j ^ (2 ^ j) = -1) (hrt : ∀ j i, j < k → i < 2 ^ j → rts (2 ^ j) i = ws j ^ i) :
    ∀ r, r < 2 ^ k → ∃ c : Fin z9, ∀ x : Nat → Fin z9, sAll rts k k x r = sm (fun i => x i * c ^ i) (2 ^ k) := by
  intro r hr
  obtain ⟨c, hc⟩ := s_eval rts ws k hw hrt k (Nat.le_refl _) r hr
  refine ⟨c, fun x => ?_⟩
  have := hc x 1 (pw_one _)
  rw [Nat.sub_self, Nat.pow_zero] at this
  simp only [sm, Nat.one_mul, Nat.add_zero, pw_zero] at this
  rw [show c * 1 = c from by grind] at this
  rw [← this]; grind

theorem s_product (rts : Nat → Nat → Fin z9) (ws : Nat → Fin z9) (k : Nat) (hw : ∀ j, j < k → ws j ^ (2 ^ j) = -1) (hrt : ∀ j i, j < k → i < 2 ^ j → rts (2 ^ j) i = ws j ^ i)
    (x y z : Nat → Fin z9) (hz : ∀ t : Fin z9, sm (fun i => z i * t ^ i) (2 ^ k) = sm (fun i => x i * t ^ i) (2 ^ k) * sm (fun i => y i * t ^ i) (2 ^ k)) :
    ∀ r, r < 2 ^ k → sAll rts k k z r = sAll rts k k x r * sAll rts k k y r := by
  intro r hr
  obtain ⟨c, hc⟩ := s_value rts ws k hw hrt r hr
  rw [hc, hc, hc, hz]

theorem g_s (h : Nat) (rt ru x : Nat → Fin z9) (hh : 0 < h) (hrt : ∀ i, i < h → rt i * ru i = 1) (j : Nat) : gLay h ru (sLay h rt x) j = 2 * x j := by
  unfold gLay
  by_cases hj : j % (2 * h) < h
  · have e : (j + h) % (2 * h) = j % (2 * h) + h := by
      have h1 := Nat.div_add_mod j (2 * h)
      conv => lhs; rw [← h1]
      rw [Nat.add_assoc, Nat.mul_add_mod, Nat.mod_eq_of_lt (by omega)]
    rw [if_pos hj]
    unfold sLay
    rw [if_pos hj, e, if_neg (by omega), show j % (2 * h) + h - h = j % (2 * h) from by omega, show j + h - h = j from by omega]
    have := hrt _ hj
    grind
  · have h2 : j % (2 * h) < 2 * h := Nat.mod_lt _ (by omega)
    have h3 : h ≤ j := Nat.le_trans (by omega) (Nat.mod_le j (2 * h))
    have e : (j - h) % (2 * h) = j % (2 * h) - h := by
      have h1 := Nat.div_add_mod j (2 * h)
      rw [show j - h = 2 * h * (j / (2 * h)) + (j % (2 * h) - h) from by omega, Nat.mul_add_mod, Nat.mod_eq_of_lt (by omega)]
    rw [if_neg hj]
    unfold sLay
    rw [e, if_pos (by omega), if_neg hj, show j - h + h = j from by omega]
    have := hrt (j % (2 * h) - h) (by omega)
    grind
theorem g_mul (h : Nat) (ru : Nat → Fin z9) (c : Fin z9) (x : Nat → Fin z9) (j : Nat) : gLay h ru (fun i => c * x i) j = c * gLay h ru x j := by
  unfold gLay
  split <;> grind

/-- m layers up from blocks of one. -/
def gAll (rus : Nat → Nat → Fin z9) : Nat → (Nat → Fin z9) → (Nat → Fin z9)
  | 0, x => x
  | m + 1, x => gLay (2 ^ m) (rus (2 ^ m)) (gAll rus m x)

omit [NeZero z9] in
theorem gLay_congr (h : Nat) (ru x y : Nat → Fin z9) (e : ∀ j, x j = y j) : gLay h ru x = gLay h ru y := by
  have : x = y := funext e
  rw [this]
theorem g_all (rts rus : Nat → Nat → Fin z9) (k : Nat) (hrt : ∀ j i, j < k → i < 2 ^ j → rts (2 ^ j) i * rus (2 ^ j) i = 1) (x : Nat → Fin z9) (m : Nat) (hm : m ≤ k) :
    ∀ j, gAll rus m (sAll rts k k x) j = 2 ^ m * sAll rts k (k - m) x j := by
  induction m with
  | zero => intro j; rw [pw_zero]; show sAll rts k k x j = 1 * sAll rts k k x j; grind
  | succ m ih =>
    intro j
    show gLay (2 ^ m) (rus (2 ^ m)) (gAll rus m (sAll rts k k x)) j = _
    rw [gLay_congr _ _ _ _ (ih (by omega)), g_mul, show k - m = (k - (m + 1)) + 1 from by omega]
    show 2 ^ m * gLay (2 ^ m) (rus (2 ^ m)) (sLay (2 ^ (k - 1 - (k - (m + 1)))) (rts (2 ^ (k - 1 - (k - (m + 1))))) (sAll rts k (k - (m + 1)) x)) j = _
    rw [show k - 1 - (k - (m + 1)) = m from by omega, g_s _ _ _ _ (Nat.two_pow_pos m) (fun i hi => hrt m i (by omega) hi), pw_succ]
    grind
end Ring
end
section
section Lin
variable {z9 : Nat} [NeZero z9]

theorem sm_comm (f : Nat → Nat → Fin z9) (m n : Nat) : sm (fun i => sm (fun j => f i j) m) n = sm (fun j => sm (fun i => f i j) n) m := by
  induction n with
  | zero => simp only [sm]; rw [sm_zero]
  | succ n ih => simp only [sm, ih]; rw [← sm_add]
theorem sm_mulr (c : Fin z9) (f : Nat → Fin z9) (n : Nat) : sm (fun i => f i * c) n = sm f n * c := by
  rw [show sm f n * c = c * sm f n from by grind, ← sm_mul]
  exact sm_congr n fun i _ => by grind
theorem sm_none {f : Nat → Fin z9} (n : Nat) (h : ∀ i, i < n → f i = 0) : sm f n = 0 := by
  rw [sm_congr (g := fun _ => (0 : Fin z9)) n h, sm_zero]
theorem sm_one {f : Nat → Fin z9} {n k : Nat} (hk : k < n) (h : ∀ i, i < n → i ≠ k → f i = 0) : sm f n = f k := by
  induction n with
  | zero => omega
  | succ n ih =>
    simp only [sm]
    by_cases e : k = n
    · subst e
      rw [sm_none k (fun i hi => h i (by omega) (by omega))]; grind
    · rw [ih (by omega) (fun i hi hne => h i (by omega) hne), h n (by omega) (by omega)]; grind
theorem sm_sub (f g : Nat → Fin z9) (n : Nat) : sm (fun i => f i - g i) n = sm f n - sm g n := by
  induction n with
  | zero => simp only [sm]; grind
  | succ n ih => simp only [sm, ih]; grind
theorem sm_neg (f : Nat → Fin z9) (n : Nat) : sm (fun i => - f i) n = - sm f n := by
  induction n with
  | zero => simp only [sm]; grind
  | succ n ih => simp only [sm, ih]; grind

/-- All numbers but k. -/
def skip (k i : Nat) : Nat := if i < k then i else i + 1
theorem skip_ne (k i : Nat) : skip k i ≠ k := by unfold skip; split <;> omega
theorem skip_lt {k i n : Nat} (hi : i < n) : skip k i < n + 1 := by unfold skip; split <;> omega
theorem skip_of {k j n : Nat} (hj : j < n + 1) (hne : j ≠ k) (hk : k < n + 1) : ∃ i, i < n ∧ skip k i = j := by
  by_cases h : j < k
  · exact ⟨j, by omega, by unfold skip; rw [if_pos h]⟩
  · exact ⟨j - 1, by omega, by unfold skip; rw [if_neg (by omega)]; omega⟩
theorem sm_skip (f : Nat → Fin z9) (k n : Nat) (hk : k < n + 1) : sm f (n + 1) = f k + sm (fun i => f (skip k i)) n := by
  induction n with
  | zero =>
    obtain rfl : k = 0 := by omega
    simp only [sm]; grind
  | succ n ih =>
    by_cases e : k = n + 1
    · subst e
      show sm f (n + 1) + f (n + 1) = _
      have h1 : sm (fun i => f (skip (n + 1) i)) (n + 1) = sm f (n + 1) := sm_congr _ fun i hi => by unfold skip; rw [if_pos hi]
      rw [h1]; grind
    · show sm f (n + 1) + f (n + 1) = f k + (sm (fun i => f (skip k i)) n + f (skip k n))
      rw [ih (by omega)]
      have h1 : skip k n = n + 1 := by unfold skip; rw [if_neg (by omega)]
      rw [h1]; grind

/-- More unknowns than equations: there is something that is not nought. -/
theorem nontriv (h10 : (1 : Fin z9) ≠ 0) (hF : ∀ a : Fin z9, a ≠ 0 → ∃ b, a * b = 1) : ∀ (s r : Nat) (A : Nat → Nat → Fin z9), s < r → ∃ x : Nat → Fin z9, (∃ i, i < r ∧ x i ≠ 0) ∧ ∀ j, j < s → sm (fun i => x i * A i j) r = 0
  | 0, r, A, h => ⟨fun _ => 1, ⟨0, h, h10⟩, fun j hj => by omega⟩
  | s + 1, r, A, h => by
    by_cases hz : ∀ i, i < r → A i s = 0
    · obtain ⟨x, hx, hs⟩ := nontriv h10 hF s r A (by omega)
      refine ⟨x, hx, fun j hj => ?_⟩
      by_cases e : j = s
      · subst e
        exact sm_none r fun i hi => by rw [hz i hi]; grind
      · exact hs j (by omega)
    · obtain ⟨k, hk⟩ : ∃ k, ¬ (k < r → A k s = 0) := Classical.not_forall.1 hz
      have hkr : k < r := Classical.byContradiction fun h2 => hk fun h3 => absurd h3 h2
      have hk0 : A k s ≠ 0 := fun e => hk fun _ => e
      obtain ⟨b, hb⟩ := hF _ hk0
      obtain ⟨q, rfl⟩ : ∃ q, r = q + 1 := ⟨r - 1, by omega⟩
      obtain ⟨x, ⟨i0, hi0, hx0⟩, hs⟩ := nontriv h10 hF s q (fun i j => A (skip k i) j - A (skip k i) s * b * A k j) (by omega)
      obtain ⟨y, hy⟩ : ∃ y : Nat → Fin z9, ∀ i, y (skip k i) = x i ∧ y k = - sm (fun i => x i * (A (skip k i) s * b)) q := by
        refine ⟨fun j => if j = k then - sm (fun i => x i * (A (skip k i) s * b)) q else if j < k then x j else x (j - 1), fun i => ⟨?_, by simp⟩⟩
        simp only [if_neg (skip_ne k i)]
        unfold skip
        by_cases h : i < k
        · rw [if_pos h, if_pos h]
        · rw [if_neg h, if_neg (by omega)]; rfl
      refine ⟨y, ⟨skip k i0, skip_lt hi0, by rw [(hy i0).1]; exact hx0⟩, fun j hj => ?_⟩
      have key : sm (fun i => y i * A i j) (q + 1) = sm (fun i => x i * (A (skip k i) j - A (skip k i) s * b * A k j)) q := by
        rw [sm_skip _ k q (by omega), (hy 0).2]
        have e1 : sm (fun i => y (skip k i) * A (skip k i) j) q = sm (fun i => x i * A (skip k i) j) q := sm_congr q fun i _ => by rw [(hy i).1]
        rw [e1]
        have e2 : sm (fun i => x i * (A (skip k i) j - A (skip k i) s * b * A k j)) q = sm (fun i => x i * A (skip k i) j) q - sm (fun i => x i * (A (skip k i) s * b)) q * A k j := by
          rw [← sm_mulr, ← sm_sub]
          exact sm_congr q fun i _ => by grind
        rw [e2]; grind
      rw [key]
      by_cases e : j = s
      · subst e
        exact sm_none q fun i _ => by
          have : A (skip k i) j * b * A k j = A (skip k i) j := by grind
          rw [this]; grind
      · exact hs j (by omega)

/-- v is a combination of the first n rows. -/
def LC (n : Nat) (N : Nat → Nat → Fin z9) (v : Nat → Fin z9) : Prop := ∃ F : Nat → Fin z9, ∀ j, v j = sm (fun k => F k * N k j) n
theorem LC.row {n k : Nat} (N : Nat → Nat → Fin z9) (hk : k < n) : LC n N (N k) := ⟨fun i => if i = k then 1 else 0, fun j => by
  rw [sm_one hk (fun i _ hne => by simp only [if_neg hne]; grind)]
  simp only [if_true]; grind⟩
theorem LC.add {n : Nat} {N : Nat → Nat → Fin z9} {u v : Nat → Fin z9} (hu : LC n N u) (hv : LC n N v) (c d : Fin z9) : LC n N (fun j => c * u j + d * v j) := by
  obtain ⟨F, hF⟩ := hu
  obtain ⟨G, hG⟩ := hv
  refine ⟨fun k => c * F k + d * G k, fun j => ?_⟩
  show c * u j + d * v j = _
  rw [hF, hG, ← sm_mul, ← sm_mul, ← sm_add]
  exact sm_congr n fun i _ => by grind
theorem LC.congr {n : Nat} {N : Nat → Nat → Fin z9} {u v : Nat → Fin z9} (hu : LC n N u) (h : ∀ j, v j = u j) : LC n N v := by
  obtain ⟨F, hF⟩ := hu
  exact ⟨F, fun j => (h j).trans (hF j)⟩
theorem LC.trans {n m : Nat} {N N' : Nat → Nat → Fin z9} {v : Nat → Fin z9} (hv : LC n N v) (h : ∀ k, k < n → LC m N' (N k)) : LC m N' v := by
  obtain ⟨F, hF⟩ := hv
  have : ∃ G : Nat → Nat → Fin z9, ∀ k, k < n → ∀ j, N k j = sm (fun i => G k i * N' i j) m := by
    refine ⟨fun k => if hk : k < n then (h k hk).choose else fun _ => 0, fun k hk j => ?_⟩
    simp only [dif_pos hk]
    exact (h k hk).choose_spec j
  obtain ⟨G, hG⟩ := this
  refine ⟨fun i => sm (fun k => F k * G k i) n, fun j => ?_⟩
  rw [hF]
  have e1 : sm (fun k => F k * N k j) n = sm (fun k => sm (fun i => F k * G k i * N' i j) m) n := sm_congr n fun k hk => by
    rw [hG k hk j, ← sm_mul]
    exact sm_congr m fun i _ => by grind
  rw [e1, sm_comm]
  exact sm_congr m fun i _ => by rw [← sm_mulr]
/-- Rows behind r that are nought are not wanted. -/
theorem LC.cut {n r : Nat} {N : Nat → Nat → Fin z9} {v : Nat → Fin z9} (h : LC n N v) (hr : r ≤ n) (hz : ∀ i, r ≤ i → ∀ j, N i j = 0) : LC r N v := by
  obtain ⟨F, hF⟩ := h
  refine ⟨F, fun j => ?_⟩
  rw [hF, show n = r + (n - r) from by omega, sm_split, sm_none (n - r) (fun i _ => by rw [hz (r + i) (by omega)]; grind)]
  grind
/-- r rows that hold the identity in some columns are no combinations of fewer rows. -/
theorem rank_few (h10 : (1 : Fin z9) ≠ 0) (hF : ∀ a : Fin z9, a ≠ 0 → ∃ b, a * b = 1) {r s : Nat} {R D : Nat → Nat → Fin z9} {P : Nat → Nat} (hone : ∀ i l, i < r → l < r → R i (P l) = if i = l then 1 else 0)
    (h : ∀ i, i < r → LC s D (R i)) : r ≤ s := by
  refine Nat.le_of_not_lt fun hlt => ?_
  have : ∃ G : Nat → Nat → Fin z9, ∀ k, k < r → ∀ j, R k j = sm (fun i => G k i * D i j) s := by
    refine ⟨fun k => if hk : k < r then (h k hk).choose else fun _ => 0, fun k hk j => ?_⟩
    simp only [dif_pos hk]
    exact (h k hk).choose_spec j
  obtain ⟨G, hG⟩ := this
  obtain ⟨x, ⟨l, hl, hxl⟩, hs⟩ := nontriv h10 hF s r G hlt
  refine hxl ?_
  have e1 : sm (fun i => x i * R i (P l)) r = x l := by
    rw [sm_one hl (fun i hi hne => by rw [hone i l hi hl, if_neg hne]; grind), hone l l hl hl, if_pos rfl]; grind
  have e2 : sm (fun i => x i * R i (P l)) r = 0 := by
    have e3 : sm (fun i => x i * R i (P l)) r = sm (fun i => sm (fun t => x i * G i t * D t (P l)) s) r := sm_congr r fun i hi => by
      rw [hG i hi, ← sm_mul]
      exact sm_congr s fun t _ => by grind
    rw [e3, sm_comm]
    exact sm_none s fun t ht => by rw [sm_mulr, hs t ht]; grind
  rw [← e1, e2]
end Lin
end
end Go.Proofs.YtecdjanopiibcaaDoor
