/- The walk of the law ZintSums . Conditions: at most 2^20 limbs each. -/
import Derived.Test.YtanlejlmckdeiaaGreatPkZs30
import Derived.Test.YtanlejlmckdeiaaGreatPkZs9
import Derived.Test.YtanlejlmckdeiaaGreatPkZs0
namespace Go.Proofs.YtanlejlmckdeiaaGreat
open Go.RowKit

/-- Two variables that hold copies. -/
def Cop (w0 : World) (g g2 : Bool) (xs ys : List Nat) (v5 v6 : Value) (W : World) : Prop :=
  ∃ g5 g6 Ax cx Ay cy, v5 = .pointer (some ⟨g5, 0, none⟩) ∧ v6 = .pointer (some ⟨g6, 0, none⟩) ∧ Blk W g5 25 [.bool g, .slice Ax xs.length cx] ∧ Blk W g6 25 [.bool g2, .slice Ay ys.length cy] ∧ xs.length ≤ cx ∧ ys.length ≤ cy ∧ Rs W w0.heap.size Ax (u32s xs) ∧ Rs W w0.heap.size Ay (u32s ys) ∧ Below w0.heap.size w0 W

/-- Two variables that hold the sum, in memory apart. -/
def SumMid (wc : World) (z : Int) (v7 v8 : Value) (W : World) : Prop :=
  ∃ g7 g8 A7 c7 A8 c8 ss, v7 = .pointer (some ⟨g7, 0, none⟩) ∧ v8 = .pointer (some ⟨g8, 0, none⟩) ∧ Blk W g7 25 [.bool (isNeg z), .slice A7 ss.length c7] ∧ Blk W g8 25 [.bool (isNeg z), .slice A8 ss.length c8] ∧ Num 4294967296 ss z.natAbs ∧ Res W wc.heap.size 36 A7 c7 (u32s ss) ∧ Res W wc.heap.size 36 A8 c8 (u32s ss) ∧ (∀ a b, ss ≠ [] → A7 = some a → A8 = some b → a.block ≠ b.block) ∧ Below wc.heap.size wc W
theorem res_apart {w1 w2 : World} {B1 B2 : Nat} {A A2 : Option Addr} {c c2 : Nat} {xs ys : List Nat} (h : Res w1 B1 36 A c (u32s xs)) (h2 : Res w2 B2 36 A2 c2 (u32s ys)) (hB : w1.heap.size ≤ B2) : ∀ a b, xs ≠ [] → ys ≠ [] → A = some a → A2 = some b → a.block ≠ b.block := fun a b hn hn2 e e2 => by
  have un : ∀ zs : List Nat, zs ≠ [] → u32s zs ≠ [] := fun zs hz e3 => by
    apply hz
    have := u32s_length zs
    rw [e3] at this
    exact List.eq_nil_of_length_eq_zero this.symm
  obtain ⟨g, rest, e3, _, hk, _⟩ := h.2.2 (un _ hn)
  obtain ⟨g2, rest2, e4, hg2, _, _⟩ := h2.2.2 (un _ hn2)
  rw [e] at e3; rw [e2] at e4
  cases e3; cases e4
  have := hk.lt
  show g ≠ g2
  omega
theorem res_own {w : World} {B : Nat} {A : Option Addr} {c : Nat} {zs : List Nat} (h : Res w B 36 A c (u32s zs)) (hB : B ≤ w.heap.size) : ∃ gs, B ≤ gs ∧ (zs = [] → gs = w.heap.size) ∧ (zs ≠ [] → A = some ⟨gs, 0, none⟩ ∧ gs < w.heap.size ∧ ∃ L, Blk w gs 36 L ∧ zs.length ≤ L.length) := by
  by_cases hn : zs = []
  · exact ⟨w.heap.size, hB, fun _ => rfl, fun h => absurd hn h⟩
  · obtain ⟨g, rest, e, hg, hb, _⟩ := h.2.2 (fun e3 => by
      apply hn
      have := u32s_length zs
      rw [e3] at this
      exact List.eq_nil_of_length_eq_zero this.symm)
    exact ⟨g, hg, fun h => absurd h hn, fun _ => ⟨e, hb.lt, _, hb, by simp [u32s]⟩⟩
theorem res_ge {w : World} {B : Nat} {A : Option Addr} {c : Nat} {zs : List Nat} {a : Addr} (h : Res w B 36 A c (u32s zs)) (hn : zs ≠ []) (e : A = some a) : B ≤ a.block := by
  obtain ⟨g, rest, e2, hg, hb, _⟩ := h.2.2 (fun e3 => by
    apply hn
    have := u32s_length zs
    rw [e3] at this
    exact List.eq_nil_of_length_eq_zero this.symm)
  rw [e] at e2; cases e2; exact hg
theorem res_tn {w w' : World} {B g : Nat} {A : Option Addr} {c : Nat} {zs : List Nat} (h : Res w B 36 A c (u32s zs)) (ht : Tn g w w') (hne : zs ≠ [] → ∀ a, A = some a → a.block ≠ g) : Res w' B 36 A c (u32s zs) :=
  ⟨h.1, h.2.1, fun hn => by
    obtain ⟨b, rest, e, hb, hk, hc⟩ := h.2.2 hn
    exact ⟨b, rest, e, hb, hk.tn ht (hne (u32s_nil hn) _ e), hc⟩⟩
/-- A variable that holds a sum with nought. -/
def ZMid (w7 : World) (y : Int) (v : Value) (W : World) : Prop :=
  ∃ g11 A11 c11 zz, v = .pointer (some ⟨g11, 0, none⟩) ∧ Blk W g11 25 [.bool (isNeg y), .slice A11 zz.length c11] ∧ Res W w7.heap.size 36 A11 c11 (u32s zz) ∧ Below w7.heap.size w7 W
/-- A variable is no row of limbs. -/
theorem var_ne {w : World} {g gs : Nat} {L L2 : List Value} (h : Blk w g 25 L) (h2 : Blk w gs 36 L2) : g ≠ gs := by
  rintro rfl
  unfold Blk at h h2
  rw [h] at h2
  have e := Option.some.inj h2
  injection e with _ e2 _
  exact type_ne e2.symm
theorem fz_al (W : World) (o : Obj) (b i : Nat) (h : b < W.heap.size) : (W.alloc o).frozen? ⟨b, i, none⟩ = W.frozen? ⟨b, i, none⟩ := ((Below.refl W.heap.size W).alloc (Nat.le_refl _) o).frozen (p := ⟨b, i, none⟩) h
section
variable {w : World} {g g2 : Bool} {A A2 : Option Addr} {c c2 : Nat} {xs ys : List Nat} {z y : Int}
set_option maxHeartbeats 6400000 in
set_option maxRecDepth 20000 in
theorem sums_walk (N : Nat) (hN : N ≤ 1048576) (h : Zh w g A c xs z N) (h2 : Zh w g2 A2 c2 ys y N) :
    Calls Tryz.prog 4 #[.agg #[.bool g, .slice A xs.length c], .agg #[.bool g2, .slice A2 ys.length c2]] w fun e w' => e = .returned (.bool true) ∧ Below w.heap.size w w' := by
    have hl1 := h.hv.len
    have hl2 := h2.hv.len
    have CX : Hid (∀ W (_ : Below w.heap.size w W), Calls Tryz.prog 7 #[.agg #[.bool g, .slice A xs.length c]] W fun e w' => ∃ A' c', e = .returned (.agg #[.bool g, .slice A' xs.length c']) ∧ xs.length ≤ c' ∧ Rs w' W.heap.size A' (u32s xs) ∧ Below W.heap.size W w') := fun W hW => copy_any (h.next hW).hv.rd (by omega)
    have CY : Hid (∀ W (_ : Below w.heap.size w W), Calls Tryz.prog 7 #[.agg #[.bool g2, .slice A2 ys.length c2]] W fun e w' => ∃ A' c', e = .returned (.agg #[.bool g2, .slice A' ys.length c']) ∧ ys.length ≤ c' ∧ Rs w' W.heap.size A' (u32s ys) ∧ Below W.heap.size W w') := fun W hW => copy_any (h2.next hW).hv.rd (by omega)
    have k0 := bel_two w (.cells #[.bool g, .slice A xs.length c] 25) (.cells #[.bool g2, .slice A2 ys.length c2] 25)
    obtain ⟨b0, b1⟩ := blk_pair2 w (.bool g) (.slice A xs.length c) (.bool g2) (.slice A2 ys.length c2)
    have H := Lib.hid h
    have H2 := Lib.hid h2
    clear h h2
    go_enter Tryz.func4, Tryz.ntmps4
    go_wp2_with fail
    obtain ⟨w0, hw0⟩ : ∃ w0, w0 = (w.alloc (.cells #[.bool g, .slice A xs.length c] 25)).alloc (.cells #[.bool g2, .slice A2 ys.length c2] 25) := ⟨_, rfl⟩
    rw [← hw0] at b0 b1 k0 ⊢
    clear hw0
    have B0 := Lib.hid b0
    have B1 := Lib.hid b1
    have K0 := Lib.hid k0
    replace CX : Hid (∀ W (_ : Below w0.heap.size w0 W), Calls Tryz.prog 7 #[.agg #[.bool g, .slice A xs.length c]] W fun e w' => ∃ A' c', e = .returned (.agg #[.bool g, .slice A' xs.length c']) ∧ xs.length ≤ c' ∧ Rs w' W.heap.size A' (u32s xs) ∧ Below W.heap.size W w') := fun W hW => CX.out W (bst K0.out hW (Nat.le_refl _))
    replace CY : Hid (∀ W (_ : Below w0.heap.size w0 W), Calls Tryz.prog 7 #[.agg #[.bool g2, .slice A2 ys.length c2]] W fun e w' => ∃ A' c', e = .returned (.agg #[.bool g2, .slice A' ys.length c']) ∧ ys.length ≤ c' ∧ Rs w' W.heap.size A' (u32s ys) ∧ Below W.heap.size W w') := fun W hW => CY.out W (bst K0.out hW (Nat.le_refl _))
    have s0 : w.heap.size < w0.heap.size := b0.lt
    have s1 : w.heap.size + 1 < w0.heap.size := b1.lt
    obtain ⟨p0, p1, _, _⟩ := b0.two
    obtain ⟨q0, q1, _, _⟩ := b1.two
    clear b0 b1 k0
    have n1 : w.heap.size ≠ w0.heap.size := by omega
    have n2 : w.heap.size + 1 ≠ w0.heap.size := by omega
    have n3 : w.heap.size ≠ w0.heap.size + 1 := by omega
    have n4 : w0.heap.size ≠ w.heap.size := by omega
    have n5 : w0.heap.size ≠ w.heap.size + 1 := by omega
    have n6 : w0.heap.size + 1 ≠ w.heap.size := by omega
    have low0 := s0
    have low1 := s1
    go_cut [5, 6] (fun v5 v6 W => Cop w0 g g2 xs ys v5 v6 W)
    case first =>
      go_region_held3 (fun W => W.cell? ⟨w.heap.size, 0, none⟩ = some (.bool g) ∧ W.cell? ⟨w.heap.size, 1, none⟩ = some (.slice A xs.length c) ∧ W.cell? ⟨w.heap.size + 1, 0, none⟩ = some (.bool g2) ∧ W.cell? ⟨w.heap.size + 1, 1, none⟩ = some (.slice A2 ys.length c2)) (go_keep) (first
        | (go_at_call 7; (with_reducible refine (CX.out _ (by repeat (first | exact Below.refl _ _ | exact ja | exact jb | apply bdw | (refine bdn ?_ _) | (refine bal ?_ (Nat.le_refl _) _)))).mono ?_); rintro e wa ⟨Ax, cx, rfl, hcx, hra, hba⟩; have ja : Below w0.heap.size w0 wa := bst (by repeat (first | exact Below.refl _ _ | exact ja | exact jb | apply bdw | (refine bdn ?_ _) | (refine bal ?_ (Nat.le_refl _) _))) hba (Nat.le_refl _); obtain ⟨x0a, y0a, u0a, v0a⟩ := (B0.out.below ja B0.out.lt).two; obtain ⟨xx0a, yy0a, uu0a, vv0a⟩ := two_al (B0.out.below ja B0.out.lt); obtain ⟨x1a, y1a, u1a, v1a⟩ := (B1.out.below ja B1.out.lt).two; obtain ⟨xx1a, yy1a, uu1a, vv1a⟩ := two_al (B1.out.below ja B1.out.lt); have m0a : w.heap.size < wa.heap.size := Nat.lt_of_lt_of_le low0 ja.size; have ma0a := Nat.ne_of_lt m0a; have mb0a := Nat.ne_of_gt m0a; have mc0a := Nat.ne_of_lt (Nat.lt_succ_of_lt m0a); have md0a := Nat.ne_of_gt (Nat.lt_succ_of_lt m0a); have m1a : w.heap.size + 1 < wa.heap.size := Nat.lt_of_lt_of_le low1 ja.size; have ma1a := Nat.ne_of_lt m1a; have mb1a := Nat.ne_of_gt m1a; have mc1a := Nat.ne_of_lt (Nat.lt_succ_of_lt m1a); have md1a := Nat.ne_of_gt (Nat.lt_succ_of_lt m1a); (first | (have bna0 := ((blk_one w0 (.bool false) (.slice none 0 0))).below hba (by simp)) | (have bna0 := ((blk_one w0 (.bool false) (.slice none 0 0)).drew).below hba (by simp)) | (have bna0 := ((blk_one w0 (.bool false) (.slice none 0 0)).drewN _).below hba (by simp)) | (have bna0 := (((blk_pair2 w0 (.bool false) (.slice none 0 0) (.bool false) (.slice none 0 0)).1)).below hba (by simp <;> omega); have bna1 := (((blk_pair2 w0 (.bool false) (.slice none 0 0) (.bool false) (.slice none 0 0)).2)).below hba (by simp)) | (have bna0 := (((blk_pair2 w0 (.bool false) (.slice none 0 0) (.bool false) (.slice none 0 0)).1).drew).below hba (by simp <;> omega); have bna1 := (((blk_pair2 w0 (.bool false) (.slice none 0 0) (.bool false) (.slice none 0 0)).2).drew).below hba (by simp)) | (have bna0 := (((blk_pair2 w0 (.bool false) (.slice none 0 0) (.bool false) (.slice none 0 0)).1).drewN _).below hba (by simp <;> omega); have bna1 := (((blk_pair2 w0 (.bool false) (.slice none 0 0) (.bool false) (.slice none 0 0)).2).drewN _).below hba (by simp)) | skip); (try (have q9 := bna0.two; obtain ⟨a0bna0, a1bna0, a2bna0, a3bna0⟩ := q9)); (try (have q9 := two_al bna0; obtain ⟨c0bna0, c1bna0, c2bna0, c3bna0⟩ := q9)); (try have d0bna0 := Nat.ne_of_lt bna0.lt); (try have d1bna0 := Nat.ne_of_gt bna0.lt); (try have d2bna0 := Nat.ne_of_lt (Nat.lt_succ_of_lt bna0.lt)); (try have d3bna0 := Nat.ne_of_gt (Nat.lt_succ_of_lt bna0.lt)); (try (have q9 := two_al2 bna0; obtain ⟨e0bna0, e1bna0, e2bna0, e3bna0⟩ := q9)); (try (have q9 := bna1.two; obtain ⟨a0bna1, a1bna1, a2bna1, a3bna1⟩ := q9)); (try (have q9 := two_al bna1; obtain ⟨c0bna1, c1bna1, c2bna1, c3bna1⟩ := q9)); (try have d0bna1 := Nat.ne_of_lt bna1.lt); (try have d1bna1 := Nat.ne_of_gt bna1.lt); (try have d2bna1 := Nat.ne_of_lt (Nat.lt_succ_of_lt bna1.lt)); (try have d3bna1 := Nat.ne_of_gt (Nat.lt_succ_of_lt bna1.lt)); (try (have q9 := two_al2 bna1; obtain ⟨e0bna1, e1bna1, e2bna1, e3bna1⟩ := q9)))
        | (go_at_call 7; (with_reducible refine (CY.out _ (by repeat (first | exact Below.refl _ _ | exact ja | exact jb | apply bdw | (refine bdn ?_ _) | (refine bal ?_ (Nat.le_refl _) _)))).mono ?_); rintro e wb ⟨Ay, cy, rfl, hcy, hrb, hbb⟩; have jb : Below w0.heap.size w0 wb := bst (by repeat (first | exact Below.refl _ _ | exact ja | exact jb | apply bdw | (refine bdn ?_ _) | (refine bal ?_ (Nat.le_refl _) _))) hbb (Nat.le_refl _); obtain ⟨x0b, y0b, u0b, v0b⟩ := (B0.out.below jb B0.out.lt).two; obtain ⟨xx0b, yy0b, uu0b, vv0b⟩ := two_al (B0.out.below jb B0.out.lt); obtain ⟨x1b, y1b, u1b, v1b⟩ := (B1.out.below jb B1.out.lt).two; obtain ⟨xx1b, yy1b, uu1b, vv1b⟩ := two_al (B1.out.below jb B1.out.lt); have m0b : w.heap.size < wb.heap.size := Nat.lt_of_lt_of_le low0 jb.size; have ma0b := Nat.ne_of_lt m0b; have mb0b := Nat.ne_of_gt m0b; have mc0b := Nat.ne_of_lt (Nat.lt_succ_of_lt m0b); have md0b := Nat.ne_of_gt (Nat.lt_succ_of_lt m0b); have m1b : w.heap.size + 1 < wb.heap.size := Nat.lt_of_lt_of_le low1 jb.size; have ma1b := Nat.ne_of_lt m1b; have mb1b := Nat.ne_of_gt m1b; have mc1b := Nat.ne_of_lt (Nat.lt_succ_of_lt m1b); have md1b := Nat.ne_of_gt (Nat.lt_succ_of_lt m1b); (first | (have bnb0 := ((blk_one wa (.bool false) (.slice none 0 0))).below hbb (by simp)) | (have bnb0 := ((blk_one wa (.bool false) (.slice none 0 0)).drew).below hbb (by simp)) | (have bnb0 := ((blk_one wa (.bool false) (.slice none 0 0)).drewN _).below hbb (by simp)) | (have bnb0 := (((blk_pair2 wa (.bool false) (.slice none 0 0) (.bool false) (.slice none 0 0)).1)).below hbb (by simp <;> omega); have bnb1 := (((blk_pair2 wa (.bool false) (.slice none 0 0) (.bool false) (.slice none 0 0)).2)).below hbb (by simp)) | (have bnb0 := (((blk_pair2 wa (.bool false) (.slice none 0 0) (.bool false) (.slice none 0 0)).1).drew).below hbb (by simp <;> omega); have bnb1 := (((blk_pair2 wa (.bool false) (.slice none 0 0) (.bool false) (.slice none 0 0)).2).drew).below hbb (by simp)) | (have bnb0 := (((blk_pair2 wa (.bool false) (.slice none 0 0) (.bool false) (.slice none 0 0)).1).drewN _).below hbb (by simp <;> omega); have bnb1 := (((blk_pair2 wa (.bool false) (.slice none 0 0) (.bool false) (.slice none 0 0)).2).drewN _).below hbb (by simp)) | skip); (try have bna0b := bna0.below (bel_pre hbb (by repeat (first | exact Below.refl _ _ | exact hba | exact hbb | apply bdw | (refine bdn ?_ _) | (refine bal ?_ (Nat.le_refl _) _)))) bna0.lt); (try have bna1b := bna1.below (bel_pre hbb (by repeat (first | exact Below.refl _ _ | exact hba | exact hbb | apply bdw | (refine bdn ?_ _) | (refine bal ?_ (Nat.le_refl _) _)))) bna1.lt); (try (have q9 := bna0b.two; obtain ⟨a0bna0b, a1bna0b, a2bna0b, a3bna0b⟩ := q9)); (try (have q9 := two_al bna0b; obtain ⟨c0bna0b, c1bna0b, c2bna0b, c3bna0b⟩ := q9)); (try have d0bna0b := Nat.ne_of_lt bna0b.lt); (try have d1bna0b := Nat.ne_of_gt bna0b.lt); (try have d2bna0b := Nat.ne_of_lt (Nat.lt_succ_of_lt bna0b.lt)); (try have d3bna0b := Nat.ne_of_gt (Nat.lt_succ_of_lt bna0b.lt)); (try (have q9 := two_al2 bna0b; obtain ⟨e0bna0b, e1bna0b, e2bna0b, e3bna0b⟩ := q9)); (try (have q9 := bna1b.two; obtain ⟨a0bna1b, a1bna1b, a2bna1b, a3bna1b⟩ := q9)); (try (have q9 := two_al bna1b; obtain ⟨c0bna1b, c1bna1b, c2bna1b, c3bna1b⟩ := q9)); (try have d0bna1b := Nat.ne_of_lt bna1b.lt); (try have d1bna1b := Nat.ne_of_gt bna1b.lt); (try have d2bna1b := Nat.ne_of_lt (Nat.lt_succ_of_lt bna1b.lt)); (try have d3bna1b := Nat.ne_of_gt (Nat.lt_succ_of_lt bna1b.lt)); (try (have q9 := two_al2 bna1b; obtain ⟨e0bna1b, e1bna1b, e2bna1b, e3bna1b⟩ := q9)); (try (have q9 := bnb0.two; obtain ⟨a0bnb0, a1bnb0, a2bnb0, a3bnb0⟩ := q9)); (try (have q9 := two_al bnb0; obtain ⟨c0bnb0, c1bnb0, c2bnb0, c3bnb0⟩ := q9)); (try have d0bnb0 := Nat.ne_of_lt bnb0.lt); (try have d1bnb0 := Nat.ne_of_gt bnb0.lt); (try have d2bnb0 := Nat.ne_of_lt (Nat.lt_succ_of_lt bnb0.lt)); (try have d3bnb0 := Nat.ne_of_gt (Nat.lt_succ_of_lt bnb0.lt)); (try (have q9 := two_al2 bnb0; obtain ⟨e0bnb0, e1bnb0, e2bnb0, e3bnb0⟩ := q9)); (try (have q9 := bnb1.two; obtain ⟨a0bnb1, a1bnb1, a2bnb1, a3bnb1⟩ := q9)); (try (have q9 := two_al bnb1; obtain ⟨c0bnb1, c1bnb1, c2bnb1, c3bnb1⟩ := q9)); (try have d0bnb1 := Nat.ne_of_lt bnb1.lt); (try have d1bnb1 := Nat.ne_of_gt bnb1.lt); (try have d2bnb1 := Nat.ne_of_lt (Nat.lt_succ_of_lt bnb1.lt)); (try have d3bnb1 := Nat.ne_of_gt (Nat.lt_succ_of_lt bnb1.lt)); (try (have q9 := two_al2 bnb1; obtain ⟨e0bnb1, e1bnb1, e2bnb1, e3bnb1⟩ := q9))))
      all_goals
        go_wp2_with fail
        go_meet
        have jab : Below wa.heap.size wa wb := bel_pre hbb (by repeat (first | exact Below.refl _ _ | apply bdw | (refine bdn ?_ _) | (refine bal ?_ (Nat.le_refl _) _)))
        have ra : Rs wb w0.heap.size Ax (u32s xs) := (hra.mono (by first | (simp; done) | (simp; exact Nat.le_succ_of_le (Nat.le_succ _)))).next jab
        have rb : Rs wb w0.heap.size Ay (u32s ys) := hrb.mono (Nat.le_trans ja.size (by first | (simp; done) | (simp; exact Nat.le_succ_of_le (Nat.le_succ _))))
        have l1 := ja.size
        have l2 := jb.size
        refine ⟨_, _, Ax, cx, Ay, cy, rfl, rfl, ?_, ?_, hcx, hcy, ?_, ?_, (by repeat (first | exact Below.refl _ _ | exact jb | apply bdw | (refine bdn ?_ _) | (refine bal ?_ (Nat.le_refl _) _) | (refine bsc ?_ (by first | exact Nat.le_refl _ | exact Nat.le_succ _ | exact l1 | exact Nat.le_succ_of_le l1 | exact l2 | exact Nat.le_succ_of_le l2) _)))⟩
        all_goals (repeat' (first | with_reducible exact ra | with_reducible exact rb | with_reducible exact bna0b | with_reducible exact bna1b | with_reducible exact bnb0 | with_reducible exact bnb1 | (with_reducible apply Rs.al) | (with_reducible apply res_al9) | (with_reducible apply Rs.var2) | (with_reducible apply res_var2) | (with_reducible apply blk_pair) | (with_reducible refine Blk.far ?_ (by show _ ≠ _; first | assumption | simp) _) | (with_reducible exact Blk.new_ rfl) | (with_reducible exact blk_two rfl) | (with_reducible refine Blk.heapAlloc ?_ _)))
    case rest =>
      obtain ⟨g5, g6, Ax, cx, Ay, cy, rfl, rfl, b5, b6, hcx, hcy, rx, ry, jc⟩ := hcut
      obtain ⟨w2, rfl⟩ : ∃ w2 : World, w2 = wc := ⟨_, rfl⟩
      clear p0 p1 q0 q1 n1 n2 n3 n4 n5 n6 low0 low1 CX CY
      have kc := bst K0.out jc (Nat.le_refl _)
      have b2c := B0.out.below jc B0.out.lt
      have b3c := B1.out.below jc B1.out.lt
      have hA := H.out.next kc
      have hB := H2.out.next kc
      have hX : Zh w2 g Ax cx xs z N := ⟨⟨H.out.hv.dig, H.out.hv.val_, rx.rd, hcx, hl1⟩, H.out.sg⟩
      have hY : Zh w2 g2 Ay cy ys y N := ⟨⟨H2.out.hv.dig, H2.out.hv.val_, ry.rd, hcy, hl2⟩, H2.out.sg⟩
      have AD : Hid (∀ W (_ : Below w2.heap.size w2 W), Calls Tryz.prog 23 #[.agg #[.bool g, .slice Ax xs.length cx], .agg #[.bool g2, .slice Ay ys.length cy]] W fun e w' => ZOut W w' (z + y) e) := fun W hW => (hX.next hW).add (hY.next hW) (by omega) (by omega)
      have SB : Hid (∀ W (_ : Below w2.heap.size w2 W), Calls Tryz.prog 25 #[.agg #[.bool g, .slice Ax xs.length cx], .agg #[.bool g2, .slice Ay ys.length cy]] W fun e w' => ZOut W w' (z - y) e) := fun W hW => (hX.next hW).sub (hY.next hW) (by omega) (by omega)
      have ML : Hid (∀ W (_ : Below w2.heap.size w2 W), Calls Tryz.prog 27 #[.agg #[.bool g, .slice Ax xs.length cx], .agg #[.bool g2, .slice Ay ys.length cy]] W fun e w' => ZOut W w' (z * y) e) := fun W hW => (hX.next hW).mul (hY.next hW) (by omega) (by omega)
      have RA : Hid (∀ W (_ : Below w2.heap.size w2 W), Calls Tryz.prog 24 #[.agg #[.bool g, .slice A xs.length c], .agg #[.bool g2, .slice A2 ys.length c2]] W fun e w' => ZOut W w' (z + y) e) := fun W hW => (hA.next hW).radd (hB.next hW) (by omega) (by omega)
      have RS : Hid (∀ W (_ : Below w2.heap.size w2 W), Calls Tryz.prog 26 #[.agg #[.bool g, .slice A xs.length c], .agg #[.bool g2, .slice A2 ys.length c2]] W fun e w' => ZOut W w' (z - y) e) := fun W hW => (hA.next hW).rsub (hB.next hW) (by omega) (by omega)
      have RM : Hid (∀ W (_ : Below w2.heap.size w2 W), Calls Tryz.prog 28 #[.agg #[.bool g, .slice A xs.length c], .agg #[.bool g2, .slice A2 ys.length c2]] W fun e w' => ZOut W w' (z * y) e) := fun W hW => (hA.next hW).rmul (hB.next hW) (by omega)
      have SA : Hid (∀ W (_ : Below w2.heap.size w2 W), Calls Tryz.prog 11 #[.agg #[.bool g, .slice Ax xs.length cx], .agg #[.bool g, .slice A xs.length c]] W fun e w' => e = .returned (.bool true) ∧ Below W.heap.size W w') := fun W hW => lsame_any g (hX.next hW).hv.rd (hA.next hW).hv.rd (by omega)
      have SY : Hid (∀ W (_ : Below w2.heap.size w2 W), Calls Tryz.prog 11 #[.agg #[.bool g2, .slice Ay ys.length cy], .agg #[.bool g2, .slice A2 ys.length c2]] W fun e w' => e = .returned (.bool true) ∧ Below W.heap.size W w') := fun W hW => lsame_any g2 (hY.next hW).hv.rd (hB.next hW).hv.rd (by omega)
      have HXX := Lib.hid hX
      have ls := zsum_lt (b := 4294967296) (by omega) H.out.lt H2.out.lt
      have ld := zdiff_lt (b := 4294967296) (by omega) H.out.lt H2.out.lt
      have lm := zprod_lt (b := 4294967296) H.out.lt H2.out.lt
      have LS := Lib.hid ls
      have LD := Lib.hid ld
      have LM := Lib.hid lm
      clear B0 B1 K0 jc hA hB hX hY ls ld lm hcx hcy rx ry H H2 s0 s1
      have B5 := Lib.hid b5
      have B6 := Lib.hid b6
      have B2 := Lib.hid b2c
      have B3 := Lib.hid b3c
      have low0 := b5.lt
      have low1 := b6.lt
      have low2 := b2c.lt
      have low3 := b3c.lt
      obtain ⟨p0, p1, _, _⟩ := b5.two
      obtain ⟨q0, q1, _, _⟩ := b6.two
      have n1 : g5 ≠ w2.heap.size := Nat.ne_of_lt low0
      have n2 : g6 ≠ w2.heap.size := Nat.ne_of_lt low1
      have n3 : g5 ≠ w2.heap.size + 1 := Nat.ne_of_lt (Nat.lt_succ_of_lt low0)
      have n4 : g6 ≠ w2.heap.size + 1 := Nat.ne_of_lt (Nat.lt_succ_of_lt low1)
      have n5 : w2.heap.size ≠ g5 := Nat.ne_of_gt low0
      have n6 : w2.heap.size ≠ g6 := Nat.ne_of_gt low1
      have n7 : w2.heap.size + 1 ≠ g5 := Nat.ne_of_gt (Nat.lt_succ_of_lt low0)
      have n8 : w2.heap.size + 1 ≠ g6 := Nat.ne_of_gt (Nat.lt_succ_of_lt low1)
      clear b5 b6 b2c b3c
      go_wp2_with fail
      go_cut [7, 8] (fun v7 v8 W => SumMid w2 (z + y) v7 v8 W)
      case first =>
        have tok1 : True := trivial
        go_region_held3 (fun W => W.cell? ⟨g5, 0, none⟩ = some (.bool g) ∧ W.cell? ⟨g5, 1, none⟩ = some (.slice Ax xs.length cx) ∧ W.cell? ⟨g6, 0, none⟩ = some (.bool g2) ∧ W.cell? ⟨g6, 1, none⟩ = some (.slice Ay ys.length cy)) (go_keep) (first
          | (go_at_call 23; (have t9 := tok1; clear t9 tok1); (with_reducible refine (AD.out _ (by repeat (first | exact Below.refl _ _ | exact ja | exact jb | apply bdw | (refine bdn ?_ _) | (refine bal ?_ (Nat.le_refl _) _)))).mono ?_); rintro e wa ⟨za, Aa, ca, rfl, hza, hra, hba⟩; have ja : Below w2.heap.size w2 wa := bst (by repeat (first | exact Below.refl _ _ | exact ja | exact jb | apply bdw | (refine bdn ?_ _) | (refine bal ?_ (Nat.le_refl _) _))) hba (Nat.le_refl _); obtain ⟨x0a, y0a, u0a, v0a⟩ := (B5.out.below ja B5.out.lt).two; obtain ⟨xx0a, yy0a, uu0a, vv0a⟩ := two_al (B5.out.below ja B5.out.lt); obtain ⟨x1a, y1a, u1a, v1a⟩ := (B6.out.below ja B6.out.lt).two; obtain ⟨xx1a, yy1a, uu1a, vv1a⟩ := two_al (B6.out.below ja B6.out.lt); have m0a : g5 < wa.heap.size := Nat.lt_of_lt_of_le low0 ja.size; have ma0a := Nat.ne_of_lt m0a; have mb0a := Nat.ne_of_gt m0a; have mc0a := Nat.ne_of_lt (Nat.lt_succ_of_lt m0a); have md0a := Nat.ne_of_gt (Nat.lt_succ_of_lt m0a); have m1a : g6 < wa.heap.size := Nat.lt_of_lt_of_le low1 ja.size; have ma1a := Nat.ne_of_lt m1a; have mb1a := Nat.ne_of_gt m1a; have mc1a := Nat.ne_of_lt (Nat.lt_succ_of_lt m1a); have md1a := Nat.ne_of_gt (Nat.lt_succ_of_lt m1a); (first | (have bna0 := ((blk_one w2 (.bool false) (.slice none 0 0))).below hba (by simp)) | (have bna0 := ((blk_one w2 (.bool false) (.slice none 0 0)).drew).below hba (by simp)) | (have bna0 := ((blk_one w2 (.bool false) (.slice none 0 0)).drewN _).below hba (by simp)) | (have bna0 := (((blk_pair2 w2 (.bool false) (.slice none 0 0) (.bool false) (.slice none 0 0)).1)).below hba (by simp <;> omega); have bna1 := (((blk_pair2 w2 (.bool false) (.slice none 0 0) (.bool false) (.slice none 0 0)).2)).below hba (by simp)) | (have bna0 := (((blk_pair2 w2 (.bool false) (.slice none 0 0) (.bool false) (.slice none 0 0)).1).drew).below hba (by simp <;> omega); have bna1 := (((blk_pair2 w2 (.bool false) (.slice none 0 0) (.bool false) (.slice none 0 0)).2).drew).below hba (by simp)) | (have bna0 := (((blk_pair2 w2 (.bool false) (.slice none 0 0) (.bool false) (.slice none 0 0)).1).drewN _).below hba (by simp <;> omega); have bna1 := (((blk_pair2 w2 (.bool false) (.slice none 0 0) (.bool false) (.slice none 0 0)).2).drewN _).below hba (by simp)) | skip); (try (have q9 := bna0.two; obtain ⟨a0bna0, a1bna0, a2bna0, a3bna0⟩ := q9)); (try (have q9 := two_al bna0; obtain ⟨c0bna0, c1bna0, c2bna0, c3bna0⟩ := q9)); (try have d0bna0 := Nat.ne_of_lt bna0.lt); (try have d1bna0 := Nat.ne_of_gt bna0.lt); (try have d2bna0 := Nat.ne_of_lt (Nat.lt_succ_of_lt bna0.lt)); (try have d3bna0 := Nat.ne_of_gt (Nat.lt_succ_of_lt bna0.lt)); (try (have q9 := two_al2 bna0; obtain ⟨e0bna0, e1bna0, e2bna0, e3bna0⟩ := q9)); (try (have q9 := bna1.two; obtain ⟨a0bna1, a1bna1, a2bna1, a3bna1⟩ := q9)); (try (have q9 := two_al bna1; obtain ⟨c0bna1, c1bna1, c2bna1, c3bna1⟩ := q9)); (try have d0bna1 := Nat.ne_of_lt bna1.lt); (try have d1bna1 := Nat.ne_of_gt bna1.lt); (try have d2bna1 := Nat.ne_of_lt (Nat.lt_succ_of_lt bna1.lt)); (try have d3bna1 := Nat.ne_of_gt (Nat.lt_succ_of_lt bna1.lt)); (try (have q9 := two_al2 bna1; obtain ⟨e0bna1, e1bna1, e2bna1, e3bna1⟩ := q9)))
          | (go_at_call 23; (with_reducible refine (AD.out _ (by repeat (first | exact Below.refl _ _ | exact ja | exact jb | apply bdw | (refine bdn ?_ _) | (refine bal ?_ (Nat.le_refl _) _)))).mono ?_); rintro e wb ⟨zb, Ab, cb, rfl, hzb, hrb, hbb⟩; have jb : Below w2.heap.size w2 wb := bst (by repeat (first | exact Below.refl _ _ | exact ja | exact jb | apply bdw | (refine bdn ?_ _) | (refine bal ?_ (Nat.le_refl _) _))) hbb (Nat.le_refl _); obtain ⟨x0b, y0b, u0b, v0b⟩ := (B5.out.below jb B5.out.lt).two; obtain ⟨xx0b, yy0b, uu0b, vv0b⟩ := two_al (B5.out.below jb B5.out.lt); obtain ⟨x1b, y1b, u1b, v1b⟩ := (B6.out.below jb B6.out.lt).two; obtain ⟨xx1b, yy1b, uu1b, vv1b⟩ := two_al (B6.out.below jb B6.out.lt); have m0b : g5 < wb.heap.size := Nat.lt_of_lt_of_le low0 jb.size; have ma0b := Nat.ne_of_lt m0b; have mb0b := Nat.ne_of_gt m0b; have mc0b := Nat.ne_of_lt (Nat.lt_succ_of_lt m0b); have md0b := Nat.ne_of_gt (Nat.lt_succ_of_lt m0b); have m1b : g6 < wb.heap.size := Nat.lt_of_lt_of_le low1 jb.size; have ma1b := Nat.ne_of_lt m1b; have mb1b := Nat.ne_of_gt m1b; have mc1b := Nat.ne_of_lt (Nat.lt_succ_of_lt m1b); have md1b := Nat.ne_of_gt (Nat.lt_succ_of_lt m1b); (first | (have bnb0 := ((blk_one wa (.bool false) (.slice none 0 0))).below hbb (by simp)) | (have bnb0 := ((blk_one wa (.bool false) (.slice none 0 0)).drew).below hbb (by simp)) | (have bnb0 := ((blk_one wa (.bool false) (.slice none 0 0)).drewN _).below hbb (by simp)) | (have bnb0 := (((blk_pair2 wa (.bool false) (.slice none 0 0) (.bool false) (.slice none 0 0)).1)).below hbb (by simp <;> omega); have bnb1 := (((blk_pair2 wa (.bool false) (.slice none 0 0) (.bool false) (.slice none 0 0)).2)).below hbb (by simp)) | (have bnb0 := (((blk_pair2 wa (.bool false) (.slice none 0 0) (.bool false) (.slice none 0 0)).1).drew).below hbb (by simp <;> omega); have bnb1 := (((blk_pair2 wa (.bool false) (.slice none 0 0) (.bool false) (.slice none 0 0)).2).drew).below hbb (by simp)) | (have bnb0 := (((blk_pair2 wa (.bool false) (.slice none 0 0) (.bool false) (.slice none 0 0)).1).drewN _).below hbb (by simp <;> omega); have bnb1 := (((blk_pair2 wa (.bool false) (.slice none 0 0) (.bool false) (.slice none 0 0)).2).drewN _).below hbb (by simp)) | skip); (try have bna0b := bna0.below (bel_pre hbb (by repeat (first | exact Below.refl _ _ | exact hba | exact hbb | apply bdw | (refine bdn ?_ _) | (refine bal ?_ (Nat.le_refl _) _)))) bna0.lt); (try have bna1b := bna1.below (bel_pre hbb (by repeat (first | exact Below.refl _ _ | exact hba | exact hbb | apply bdw | (refine bdn ?_ _) | (refine bal ?_ (Nat.le_refl _) _)))) bna1.lt); (try (have q9 := bna0b.two; obtain ⟨a0bna0b, a1bna0b, a2bna0b, a3bna0b⟩ := q9)); (try (have q9 := two_al bna0b; obtain ⟨c0bna0b, c1bna0b, c2bna0b, c3bna0b⟩ := q9)); (try have d0bna0b := Nat.ne_of_lt bna0b.lt); (try have d1bna0b := Nat.ne_of_gt bna0b.lt); (try have d2bna0b := Nat.ne_of_lt (Nat.lt_succ_of_lt bna0b.lt)); (try have d3bna0b := Nat.ne_of_gt (Nat.lt_succ_of_lt bna0b.lt)); (try (have q9 := two_al2 bna0b; obtain ⟨e0bna0b, e1bna0b, e2bna0b, e3bna0b⟩ := q9)); (try (have q9 := bna1b.two; obtain ⟨a0bna1b, a1bna1b, a2bna1b, a3bna1b⟩ := q9)); (try (have q9 := two_al bna1b; obtain ⟨c0bna1b, c1bna1b, c2bna1b, c3bna1b⟩ := q9)); (try have d0bna1b := Nat.ne_of_lt bna1b.lt); (try have d1bna1b := Nat.ne_of_gt bna1b.lt); (try have d2bna1b := Nat.ne_of_lt (Nat.lt_succ_of_lt bna1b.lt)); (try have d3bna1b := Nat.ne_of_gt (Nat.lt_succ_of_lt bna1b.lt)); (try (have q9 := two_al2 bna1b; obtain ⟨e0bna1b, e1bna1b, e2bna1b, e3bna1b⟩ := q9)); (try (have q9 := bnb0.two; obtain ⟨a0bnb0, a1bnb0, a2bnb0, a3bnb0⟩ := q9)); (try (have q9 := two_al bnb0; obtain ⟨c0bnb0, c1bnb0, c2bnb0, c3bnb0⟩ := q9)); (try have d0bnb0 := Nat.ne_of_lt bnb0.lt); (try have d1bnb0 := Nat.ne_of_gt bnb0.lt); (try have d2bnb0 := Nat.ne_of_lt (Nat.lt_succ_of_lt bnb0.lt)); (try have d3bnb0 := Nat.ne_of_gt (Nat.lt_succ_of_lt bnb0.lt)); (try (have q9 := two_al2 bnb0; obtain ⟨e0bnb0, e1bnb0, e2bnb0, e3bnb0⟩ := q9)); (try (have q9 := bnb1.two; obtain ⟨a0bnb1, a1bnb1, a2bnb1, a3bnb1⟩ := q9)); (try (have q9 := two_al bnb1; obtain ⟨c0bnb1, c1bnb1, c2bnb1, c3bnb1⟩ := q9)); (try have d0bnb1 := Nat.ne_of_lt bnb1.lt); (try have d1bnb1 := Nat.ne_of_gt bnb1.lt); (try have d2bnb1 := Nat.ne_of_lt (Nat.lt_succ_of_lt bnb1.lt)); (try have d3bnb1 := Nat.ne_of_gt (Nat.lt_succ_of_lt bnb1.lt)); (try (have q9 := two_al2 bnb1; obtain ⟨e0bnb1, e1bnb1, e2bnb1, e3bnb1⟩ := q9))))
        all_goals
          go_wp2_with fail
          go_meet
          have jab : Below wa.heap.size wa wb := bel_pre hbb (by repeat (first | exact Below.refl _ _ | apply bdw | (refine bdn ?_ _) | (refine bal ?_ (Nat.le_refl _) _)))
          have e9 := Num.unique (by omega) hza hzb
          subst e9
          have ap := res_apart hra hrb (by first | (simp; done) | (simp; exact Nat.le_succ_of_le (Nat.le_succ _)))
          have ra : Res wb w2.heap.size 36 Aa ca (u32s za) := (hra.mono (by first | (simp; done) | (simp; exact Nat.le_succ_of_le (Nat.le_succ _)))).below jab (Nat.le_refl _)
          have rb : Res wb w2.heap.size 36 Ab cb (u32s za) := hrb.mono (Nat.le_trans ja.size (by first | (simp; done) | (simp; exact Nat.le_succ_of_le (Nat.le_succ _))))
          have l1 := ja.size
          have l2 := jb.size
          refine ⟨_, _, Aa, ca, Ab, cb, za, rfl, rfl, ?_, ?_, hza, ?_, ?_, fun a b hn e e2 => ap a b hn hn e e2, (by repeat (first | exact Below.refl _ _ | exact jb | apply bdw | (refine bdn ?_ _) | (refine bal ?_ (Nat.le_refl _) _) | (refine bsc ?_ (by first | exact Nat.le_refl _ | exact Nat.le_succ _ | exact l1 | exact Nat.le_succ_of_le l1 | exact l2 | exact Nat.le_succ_of_le l2) _)))⟩
          all_goals (repeat' (first | with_reducible exact ra | with_reducible exact rb | with_reducible exact bna0b | with_reducible exact bna1b | with_reducible exact bnb0 | with_reducible exact bnb1 | (with_reducible apply Rs.al) | (with_reducible apply res_al9) | (with_reducible apply Rs.var2) | (with_reducible apply res_var2) | (with_reducible apply blk_pair) | (with_reducible refine Blk.far ?_ (by show _ ≠ _; first | assumption | simp) _) | (with_reducible exact Blk.new_ rfl) | (with_reducible exact blk_two rfl) | (with_reducible refine Blk.heapAlloc ?_ _)))
      case rest =>
        clear p0 p1 q0 q1 n1 n2 n3 n4 n5 n6 n7 n8
        obtain ⟨g7, g8, A7, c7, A8, c8, ss, rfl, rfl, b7, b8, hs, r7, r8, hap, jc2⟩ := hcut
        obtain ⟨w3, rfl⟩ : ∃ w3 : World, w3 = wc := ⟨_, rfl⟩
        have Hap := Lib.hid hap
        have Hs := Lib.hid hs
        have R7 := Lib.hid r7
        have R8 := Lib.hid r8
        have b5 := B5.out.below jc2 B5.out.lt
        have b6 := B6.out.below jc2 B6.out.lt
        have b2 := B2.out.below jc2 B2.out.lt
        have b3 := B3.out.below jc2 B3.out.lt
        clear hap hs r7 r8 B5 B6 B2 B3 low0 low1 low2 low3
        obtain ⟨p0, p1, _, _⟩ := b2.two
        obtain ⟨q0, q1, _, _⟩ := b3.two
        go_wp2_with fail
        refine (RA.out _ jc2).mono ?_
        rintro e w4 ⟨s9, A9, c9, rfl, h9, r9, hb4⟩
        have e9 := Num.unique (by omega) h9 Hs.out
        subst e9
        clear h9 p0 p1 q0 q1
        go_wp2_with fail
        obtain ⟨w5, hw5⟩ : ∃ w5, w5 = w4.alloc (.cells #[.bool (isNeg (z + y)), .slice A9 s9.length c9] 25) := ⟨_, rfl⟩
        obtain ⟨g9, hg9⟩ : ∃ g, g = w4.heap.size := ⟨_, rfl⟩
        have jq : Below w3.heap.size w3 w5 := by rw [hw5]; exact bal hb4 (Nat.le_refl _) _
        have b9 : Blk w5 g9 25 [.bool (isNeg (z + y)), .slice A9 s9.length c9] := by rw [hw5, hg9]; exact blk_one w4 _ _
        replace r9 := r9.below (Below.refl w4.heap.size w4) (Nat.le_refl _)
        have r9' : Res w5 w3.heap.size 36 A9 c9 (u32s s9) := by rw [hw5]; exact res_al9 r9 _
        rw [← hw5, ← hg9]
        clear hw5 hg9 hb4 r9
        have J5 := Lib.hid (bst jc2 jq (Nat.le_refl _))
        have R7' := Lib.hid (R7.out.below jq (Nat.le_refl _))
        have R8' := Lib.hid (R8.out.below jq (Nat.le_refl _))
        have R9' := Lib.hid r9'
        have B7 := Lib.hid (b7.below jq b7.lt)
        have B8 := Lib.hid (b8.below jq b8.lt)
        have B9 := Lib.hid b9
        have B5 := Lib.hid (b5.below jq b5.lt)
        have B6 := Lib.hid (b6.below jq b6.lt)
        have B2 := Lib.hid (b2.below jq b2.lt)
        have B3 := Lib.hid (b3.below jq b3.lt)
        have G7 : Hid (∀ a, s9 ≠ [] → A7 = some a → a.block < w3.heap.size) := fun a hn e => by
          obtain ⟨gs, _, _, hx⟩ := res_own R7.out jc2.size
          obtain ⟨e2, hlt, _⟩ := hx hn
          rw [e] at e2; cases e2; exact hlt
        clear R7 R8 b5 b6 b7 b8 b9 b2 b3 r9'
        have S79 : Hid (∀ W (_ : Below w5.heap.size w5 W), Calls Tryz.prog 11 #[.agg #[.bool (isNeg (z + y)), .slice A7 s9.length c7], .agg #[.bool (isNeg (z + y)), .slice A9 s9.length c9]] W fun e w' => e = .returned (.bool true) ∧ Below W.heap.size W w') := fun W hW => lsame_any _ (R7'.out.below hW (Nat.le_refl _)).rd (R9'.out.below hW (Nat.le_refl _)).rd (res_len R7'.out)
        have SD : Hid (∀ (zp : List Nat) (Ap : Option Addr) (cp Bp : Nat) (wp : World) (zq : List Nat) (Aq : Option Addr) (cq Bq : Nat) (wq W : World), Num 4294967296 zp (z - y).natAbs → Res wp Bp 36 Ap cp (u32s zp) → Below wp.heap.size wp W → Num 4294967296 zq (z - y).natAbs → Res wq Bq 36 Aq cq (u32s zq) → Below wq.heap.size wq W → Calls Tryz.prog 11 #[.agg #[.bool (isNeg (z - y)), .slice Ap zp.length cp], .agg #[.bool (isNeg (z - y)), .slice Aq zq.length cq]] W fun e w' => e = .returned (.bool true) ∧ Below W.heap.size W w') := fun zp Ap cp Bp wp zq Aq cq Bq wq W n1 r1 b1 n2 r2 b2 =>
          Zn.same (K := max N N + 1) (J := max N N + 1) ((Zn.shrink n1 r1 LD.out).next b1) ((Zn.shrink n2 r2 LD.out).next b2) rfl (by omega)
        have SP : Hid (∀ (zp : List Nat) (Ap : Option Addr) (cp Bp : Nat) (wp : World) (zq : List Nat) (Aq : Option Addr) (cq Bq : Nat) (wq W : World), Num 4294967296 zp (z * y).natAbs → Res wp Bp 36 Ap cp (u32s zp) → Below wp.heap.size wp W → Num 4294967296 zq (z * y).natAbs → Res wq Bq 36 Aq cq (u32s zq) → Below wq.heap.size wq W → Calls Tryz.prog 11 #[.agg #[.bool (isNeg (z * y)), .slice Ap zp.length cp], .agg #[.bool (isNeg (z * y)), .slice Aq zq.length cq]] W fun e w' => e = .returned (.bool true) ∧ Below W.heap.size W w') := fun zp Ap cp Bp wp zq Aq cq Bq wq W n1 r1 b1 n2 r2 b2 =>
          Zn.same (K := N + N) (J := N + N) ((Zn.shrink n1 r1 LM.out).next b1) ((Zn.shrink n2 r2 LM.out).next b2) rfl (by omega)
        obtain ⟨p0, p1, _, _⟩ := B7.out.two
        obtain ⟨p2, p3, _, _⟩ := B9.out.two
        obtain ⟨p4, p5, _, _⟩ := B5.out.two
        obtain ⟨p6, p7, _, _⟩ := B6.out.two
        obtain ⟨q0, q1, _, _⟩ := B2.out.two
        obtain ⟨q2, q3, _, _⟩ := B3.out.two
        go_cut [49] (fun v W => v = .bool false ∧ Below w5.heap.size w5 W)
        case first =>
            go_region_held3 (fun W => W.cell? ⟨g7, 0, none⟩ = some (.bool (isNeg (z + y))) ∧ W.cell? ⟨g7, 1, none⟩ = some (.slice A7 s9.length c7) ∧ W.cell? ⟨g9, 0, none⟩ = some (.bool (isNeg (z + y))) ∧ W.cell? ⟨g9, 1, none⟩ = some (.slice A9 s9.length c9) ∧ W.cell? ⟨g5, 0, none⟩ = some (.bool g) ∧ W.cell? ⟨g5, 1, none⟩ = some (.slice Ax xs.length cx) ∧ W.cell? ⟨g6, 0, none⟩ = some (.bool g2) ∧ W.cell? ⟨g6, 1, none⟩ = some (.slice Ay ys.length cy) ∧ W.cell? ⟨w.heap.size, 0, none⟩ = some (.bool g) ∧ W.cell? ⟨w.heap.size, 1, none⟩ = some (.slice A xs.length c) ∧ W.cell? ⟨w.heap.size + 1, 0, none⟩ = some (.bool g2) ∧ W.cell? ⟨w.heap.size + 1, 1, none⟩ = some (.slice A2 ys.length c2)) (go_keep) (first
              | (go_at_call 11; (with_reducible refine (S79.out _ (by repeat (first | exact Below.refl _ _ | exact jt | exact jp | exact jq | exact ju | exact jm | exact jn | exact jv | apply bdw | (refine bdn ?_ _) | (refine bal ?_ (Nat.le_refl _) _)))).mono ?_); rintro e wt ⟨rfl, hbt⟩; have jt : Below w5.heap.size w5 wt := bst (by repeat (first | exact Below.refl _ _ | exact jt | exact jp | exact jq | exact ju | exact jm | exact jn | exact jv | apply bdw | (refine bdn ?_ _) | (refine bal ?_ (Nat.le_refl _) _))) hbt (Nat.le_refl _); obtain ⟨x0t, y0t, u0t, v0t⟩ := (B7.out.below jt B7.out.lt).two; obtain ⟨xx0t, yy0t, uu0t, vv0t⟩ := two_al (B7.out.below jt B7.out.lt); obtain ⟨x1t, y1t, u1t, v1t⟩ := (B9.out.below jt B9.out.lt).two; obtain ⟨xx1t, yy1t, uu1t, vv1t⟩ := two_al (B9.out.below jt B9.out.lt); obtain ⟨x2t, y2t, u2t, v2t⟩ := (B5.out.below jt B5.out.lt).two; obtain ⟨xx2t, yy2t, uu2t, vv2t⟩ := two_al (B5.out.below jt B5.out.lt); obtain ⟨x3t, y3t, u3t, v3t⟩ := (B6.out.below jt B6.out.lt).two; obtain ⟨xx3t, yy3t, uu3t, vv3t⟩ := two_al (B6.out.below jt B6.out.lt); obtain ⟨x4t, y4t, u4t, v4t⟩ := (B2.out.below jt B2.out.lt).two; obtain ⟨xx4t, yy4t, uu4t, vv4t⟩ := two_al (B2.out.below jt B2.out.lt); obtain ⟨x5t, y5t, u5t, v5t⟩ := (B3.out.below jt B3.out.lt).two; obtain ⟨xx5t, yy5t, uu5t, vv5t⟩ := two_al (B3.out.below jt B3.out.lt))
              | (go_at_call 25; (with_reducible refine (SB.out _ (bst J5.out (by repeat (first | exact Below.refl _ _ | exact jt | exact jp | exact jq | exact ju | exact jm | exact jn | exact jv | apply bdw | (refine bdn ?_ _) | (refine bal ?_ (Nat.le_refl _) _))) (Nat.le_refl _))).mono ?_); rintro e wp ⟨zp, Ap, cp, rfl, hzp, hrp, hbp⟩; have jp : Below w5.heap.size w5 wp := bst (by repeat (first | exact Below.refl _ _ | exact jt | exact jp | exact jq | exact ju | exact jm | exact jn | exact jv | apply bdw | (refine bdn ?_ _) | (refine bal ?_ (Nat.le_refl _) _))) hbp (Nat.le_refl _); obtain ⟨x0p, y0p, u0p, v0p⟩ := (B7.out.below jp B7.out.lt).two; obtain ⟨xx0p, yy0p, uu0p, vv0p⟩ := two_al (B7.out.below jp B7.out.lt); obtain ⟨x1p, y1p, u1p, v1p⟩ := (B9.out.below jp B9.out.lt).two; obtain ⟨xx1p, yy1p, uu1p, vv1p⟩ := two_al (B9.out.below jp B9.out.lt); obtain ⟨x2p, y2p, u2p, v2p⟩ := (B5.out.below jp B5.out.lt).two; obtain ⟨xx2p, yy2p, uu2p, vv2p⟩ := two_al (B5.out.below jp B5.out.lt); obtain ⟨x3p, y3p, u3p, v3p⟩ := (B6.out.below jp B6.out.lt).two; obtain ⟨xx3p, yy3p, uu3p, vv3p⟩ := two_al (B6.out.below jp B6.out.lt); obtain ⟨x4p, y4p, u4p, v4p⟩ := (B2.out.below jp B2.out.lt).two; obtain ⟨xx4p, yy4p, uu4p, vv4p⟩ := two_al (B2.out.below jp B2.out.lt); obtain ⟨x5p, y5p, u5p, v5p⟩ := (B3.out.below jp B3.out.lt).two; obtain ⟨xx5p, yy5p, uu5p, vv5p⟩ := two_al (B3.out.below jp B3.out.lt))
              | (go_at_call 26; (with_reducible refine (RS.out _ (bst J5.out (by repeat (first | exact Below.refl _ _ | exact jt | exact jp | exact jq | exact ju | exact jm | exact jn | exact jv | apply bdw | (refine bdn ?_ _) | (refine bal ?_ (Nat.le_refl _) _))) (Nat.le_refl _))).mono ?_); rintro e wq ⟨zq, Aq, cq, rfl, hzq, hrq, hbq⟩; have jq : Below w5.heap.size w5 wq := bst (by repeat (first | exact Below.refl _ _ | exact jt | exact jp | exact jq | exact ju | exact jm | exact jn | exact jv | apply bdw | (refine bdn ?_ _) | (refine bal ?_ (Nat.le_refl _) _))) hbq (Nat.le_refl _); obtain ⟨x0q, y0q, u0q, v0q⟩ := (B7.out.below jq B7.out.lt).two; obtain ⟨xx0q, yy0q, uu0q, vv0q⟩ := two_al (B7.out.below jq B7.out.lt); obtain ⟨x1q, y1q, u1q, v1q⟩ := (B9.out.below jq B9.out.lt).two; obtain ⟨xx1q, yy1q, uu1q, vv1q⟩ := two_al (B9.out.below jq B9.out.lt); obtain ⟨x2q, y2q, u2q, v2q⟩ := (B5.out.below jq B5.out.lt).two; obtain ⟨xx2q, yy2q, uu2q, vv2q⟩ := two_al (B5.out.below jq B5.out.lt); obtain ⟨x3q, y3q, u3q, v3q⟩ := (B6.out.below jq B6.out.lt).two; obtain ⟨xx3q, yy3q, uu3q, vv3q⟩ := two_al (B6.out.below jq B6.out.lt); obtain ⟨x4q, y4q, u4q, v4q⟩ := (B2.out.below jq B2.out.lt).two; obtain ⟨xx4q, yy4q, uu4q, vv4q⟩ := two_al (B2.out.below jq B2.out.lt); obtain ⟨x5q, y5q, u5q, v5q⟩ := (B3.out.below jq B3.out.lt).two; obtain ⟨xx5q, yy5q, uu5q, vv5q⟩ := two_al (B3.out.below jq B3.out.lt); have jpq : Below wp.heap.size wp wq := bel_pre hbq (by repeat (first | exact Below.refl _ _ | apply bdw | (refine bdn ?_ _) | (refine bal ?_ (Nat.le_refl _) _))))
              | (go_at_call 11; (with_reducible refine (SD.out zp Ap cp _ wp zq Aq cq _ wq _ hzp hrp (by first | exact jpq | exact bdw jpq | exact bdn jpq _) hzq hrq (by repeat (first | exact Below.refl _ _ | apply bdw | (refine bdn ?_ _) | (refine bal ?_ (Nat.le_refl _) _)))).mono ?_); rintro e wu ⟨rfl, hbu⟩; have ju : Below w5.heap.size w5 wu := bst (by repeat (first | exact Below.refl _ _ | exact jt | exact jp | exact jq | exact ju | exact jm | exact jn | exact jv | apply bdw | (refine bdn ?_ _) | (refine bal ?_ (Nat.le_refl _) _))) hbu (Nat.le_refl _); obtain ⟨x0u, y0u, u0u, v0u⟩ := (B7.out.below ju B7.out.lt).two; obtain ⟨xx0u, yy0u, uu0u, vv0u⟩ := two_al (B7.out.below ju B7.out.lt); obtain ⟨x1u, y1u, u1u, v1u⟩ := (B9.out.below ju B9.out.lt).two; obtain ⟨xx1u, yy1u, uu1u, vv1u⟩ := two_al (B9.out.below ju B9.out.lt); obtain ⟨x2u, y2u, u2u, v2u⟩ := (B5.out.below ju B5.out.lt).two; obtain ⟨xx2u, yy2u, uu2u, vv2u⟩ := two_al (B5.out.below ju B5.out.lt); obtain ⟨x3u, y3u, u3u, v3u⟩ := (B6.out.below ju B6.out.lt).two; obtain ⟨xx3u, yy3u, uu3u, vv3u⟩ := two_al (B6.out.below ju B6.out.lt); obtain ⟨x4u, y4u, u4u, v4u⟩ := (B2.out.below ju B2.out.lt).two; obtain ⟨xx4u, yy4u, uu4u, vv4u⟩ := two_al (B2.out.below ju B2.out.lt); obtain ⟨x5u, y5u, u5u, v5u⟩ := (B3.out.below ju B3.out.lt).two; obtain ⟨xx5u, yy5u, uu5u, vv5u⟩ := two_al (B3.out.below ju B3.out.lt))
              | (go_at_call 27; (with_reducible refine (ML.out _ (bst J5.out (by repeat (first | exact Below.refl _ _ | exact jt | exact jp | exact jq | exact ju | exact jm | exact jn | exact jv | apply bdw | (refine bdn ?_ _) | (refine bal ?_ (Nat.le_refl _) _))) (Nat.le_refl _))).mono ?_); rintro e wm ⟨zm, Am, cm, rfl, hzm, hrm, hbm⟩; have jm : Below w5.heap.size w5 wm := bst (by repeat (first | exact Below.refl _ _ | exact jt | exact jp | exact jq | exact ju | exact jm | exact jn | exact jv | apply bdw | (refine bdn ?_ _) | (refine bal ?_ (Nat.le_refl _) _))) hbm (Nat.le_refl _); obtain ⟨x0m, y0m, u0m, v0m⟩ := (B7.out.below jm B7.out.lt).two; obtain ⟨xx0m, yy0m, uu0m, vv0m⟩ := two_al (B7.out.below jm B7.out.lt); obtain ⟨x1m, y1m, u1m, v1m⟩ := (B9.out.below jm B9.out.lt).two; obtain ⟨xx1m, yy1m, uu1m, vv1m⟩ := two_al (B9.out.below jm B9.out.lt); obtain ⟨x2m, y2m, u2m, v2m⟩ := (B5.out.below jm B5.out.lt).two; obtain ⟨xx2m, yy2m, uu2m, vv2m⟩ := two_al (B5.out.below jm B5.out.lt); obtain ⟨x3m, y3m, u3m, v3m⟩ := (B6.out.below jm B6.out.lt).two; obtain ⟨xx3m, yy3m, uu3m, vv3m⟩ := two_al (B6.out.below jm B6.out.lt); obtain ⟨x4m, y4m, u4m, v4m⟩ := (B2.out.below jm B2.out.lt).two; obtain ⟨xx4m, yy4m, uu4m, vv4m⟩ := two_al (B2.out.below jm B2.out.lt); obtain ⟨x5m, y5m, u5m, v5m⟩ := (B3.out.below jm B3.out.lt).two; obtain ⟨xx5m, yy5m, uu5m, vv5m⟩ := two_al (B3.out.below jm B3.out.lt))
              | (go_at_call 28; (with_reducible refine (RM.out _ (bst J5.out (by repeat (first | exact Below.refl _ _ | exact jt | exact jp | exact jq | exact ju | exact jm | exact jn | exact jv | apply bdw | (refine bdn ?_ _) | (refine bal ?_ (Nat.le_refl _) _))) (Nat.le_refl _))).mono ?_); rintro e wn ⟨zn, An, cn, rfl, hzn, hrn, hbn⟩; have jn : Below w5.heap.size w5 wn := bst (by repeat (first | exact Below.refl _ _ | exact jt | exact jp | exact jq | exact ju | exact jm | exact jn | exact jv | apply bdw | (refine bdn ?_ _) | (refine bal ?_ (Nat.le_refl _) _))) hbn (Nat.le_refl _); obtain ⟨x0n, y0n, u0n, v0n⟩ := (B7.out.below jn B7.out.lt).two; obtain ⟨xx0n, yy0n, uu0n, vv0n⟩ := two_al (B7.out.below jn B7.out.lt); obtain ⟨x1n, y1n, u1n, v1n⟩ := (B9.out.below jn B9.out.lt).two; obtain ⟨xx1n, yy1n, uu1n, vv1n⟩ := two_al (B9.out.below jn B9.out.lt); obtain ⟨x2n, y2n, u2n, v2n⟩ := (B5.out.below jn B5.out.lt).two; obtain ⟨xx2n, yy2n, uu2n, vv2n⟩ := two_al (B5.out.below jn B5.out.lt); obtain ⟨x3n, y3n, u3n, v3n⟩ := (B6.out.below jn B6.out.lt).two; obtain ⟨xx3n, yy3n, uu3n, vv3n⟩ := two_al (B6.out.below jn B6.out.lt); obtain ⟨x4n, y4n, u4n, v4n⟩ := (B2.out.below jn B2.out.lt).two; obtain ⟨xx4n, yy4n, uu4n, vv4n⟩ := two_al (B2.out.below jn B2.out.lt); obtain ⟨x5n, y5n, u5n, v5n⟩ := (B3.out.below jn B3.out.lt).two; obtain ⟨xx5n, yy5n, uu5n, vv5n⟩ := two_al (B3.out.below jn B3.out.lt); have jmn : Below wm.heap.size wm wn := bel_pre hbn (by repeat (first | exact Below.refl _ _ | apply bdw | (refine bdn ?_ _) | (refine bal ?_ (Nat.le_refl _) _))))
              | (go_at_call 11; (with_reducible refine (SP.out zm Am cm _ wm zn An cn _ wn _ hzm hrm (by first | exact jmn | exact bdw jmn | exact bdn jmn _) hzn hrn (by repeat (first | exact Below.refl _ _ | apply bdw | (refine bdn ?_ _) | (refine bal ?_ (Nat.le_refl _) _)))).mono ?_); rintro e wv ⟨rfl, hbv⟩; have jv : Below w5.heap.size w5 wv := bst (by repeat (first | exact Below.refl _ _ | exact jt | exact jp | exact jq | exact ju | exact jm | exact jn | exact jv | apply bdw | (refine bdn ?_ _) | (refine bal ?_ (Nat.le_refl _) _))) hbv (Nat.le_refl _); obtain ⟨x0v, y0v, u0v, v0v⟩ := (B7.out.below jv B7.out.lt).two; obtain ⟨xx0v, yy0v, uu0v, vv0v⟩ := two_al (B7.out.below jv B7.out.lt); obtain ⟨x1v, y1v, u1v, v1v⟩ := (B9.out.below jv B9.out.lt).two; obtain ⟨xx1v, yy1v, uu1v, vv1v⟩ := two_al (B9.out.below jv B9.out.lt); obtain ⟨x2v, y2v, u2v, v2v⟩ := (B5.out.below jv B5.out.lt).two; obtain ⟨xx2v, yy2v, uu2v, vv2v⟩ := two_al (B5.out.below jv B5.out.lt); obtain ⟨x3v, y3v, u3v, v3v⟩ := (B6.out.below jv B6.out.lt).two; obtain ⟨xx3v, yy3v, uu3v, vv3v⟩ := two_al (B6.out.below jv B6.out.lt); obtain ⟨x4v, y4v, u4v, v4v⟩ := (B2.out.below jv B2.out.lt).two; obtain ⟨xx4v, yy4v, uu4v, vv4v⟩ := two_al (B2.out.below jv B2.out.lt); obtain ⟨x5v, y5v, u5v, v5v⟩ := (B3.out.below jv B3.out.lt).two; obtain ⟨xx5v, yy5v, uu5v, vv5v⟩ := two_al (B3.out.below jv B3.out.lt)))
            all_goals
              go_wp2_with fail
              go_meet
              exact ⟨rfl, jv⟩
        case rest =>
            obtain ⟨rfl, jc3⟩ := hcut
            obtain ⟨w6, rfl⟩ : ∃ w6 : World, w6 = wc := ⟨_, rfl⟩
            clear p0 p1 p2 p3 p4 p5 p6 p7 q0 q1 q2 q3 S79 SD SP SB ML RA RS RM AD LS LD LM
            have J6 := Lib.hid (bst J5.out jc3 (Nat.le_refl _))
            have r7 := R7'.out.below jc3 (Nat.le_refl _)
            obtain ⟨gs, hgs1, hgs2, hgo⟩ := res_own r7 J6.out.size
            have Hgo := Lib.hid hgo
            have b7 := B7.out.below jc3 B7.out.lt
            have R8 := Lib.hid (R8'.out.below jc3 (Nat.le_refl _))
            have R9 := Lib.hid (R9'.out.below jc3 (Nat.le_refl _))
            have b8 := B8.out.below jc3 B8.out.lt
            have b9 := B9.out.below jc3 B9.out.lt
            have b5 := B5.out.below jc3 B5.out.lt
            have b6 := B6.out.below jc3 B6.out.lt
            have b2 := B2.out.below jc3 B2.out.lt
            have b3 := B3.out.below jc3 B3.out.lt
            have NE3 : Hid (∀ {g9 : Nat} {L9 : List Value}, Blk w6 g9 25 L9 → g9 ≠ gs) := fun {g9 L9} hb9 => by
              by_cases hn : s9 = []
              · have h8 := hgs2 hn
                have := hb9.lt; omega
              · obtain ⟨_, _, L, hL, _⟩ := Hgo.out hn
                exact var_ne hb9 hL
            have V7 := Lib.hid b7
            have V8 := Lib.hid b8
            have V9 := Lib.hid b9
            have V5 := Lib.hid b5
            have V6 := Lib.hid b6
            have V2 := Lib.hid b2
            have V3 := Lib.hid b3
            have Hgs1 := Lib.hid hgs1
            have hlen9 : s9.length ≤ 281474976710656 := res_len r7
            obtain ⟨p0, p1, _, _⟩ := b7.two
            clear B7 B8 B9 B5 B6 B2 B3 R7' R8' R9' r7 b7 b8 b9 b5 b6 b2 b3 hgo hgs1 hgs2 jc3
            go_wp2_with fail
            go_loopw [10, 53] (fun _ iv wr => ∃ k : Nat, k ≤ s9.length ∧ iv = .int .i64 k ∧ Hid (s9 ≠ [] → ∃ L, Blk wr gs 36 L ∧ s9.length ≤ L.length) ∧ Tn gs w6 wr) (fun _ iv _ => s9.length - (intOf iv).toNat)
            case atStart => exact ⟨0, by omega, rfl, fun h => (Hgo.out h).2.2, Tn.refl _ _⟩
            case round =>
              obtain ⟨k, hk, rfl, HL, htn⟩ := hrel
              obtain ⟨x0, x1, _, _⟩ := (V7.out.tn htn (NE3.out V7.out)).two
              by_cases hlt : k < s9.length
              · have hn : s9 ≠ [] := by intro e; rw [e] at hlt; simp at hlt
                obtain ⟨rfl, _, _⟩ := Hgo.out hn
                obtain ⟨L, hL, hLl⟩ := HL.out hn
                have hkL : k < L.length := by omega
                obtain ⟨vv, hcv⟩ : ∃ vv, wr.cell? ⟨gs, k, none⟩ = some vv := ⟨_, (hL.cell k).trans (List.getElem?_eq_getElem hkL)⟩
                have hfv := hL.frozen k
                clear hn
                go_wp2_with fail
                go_roundw
                case rel => exact ⟨k + 1, by omega, by go_num, fun _ => ⟨_, hL.set_ k (.int .u32 3), by simpa using hLl⟩, htn.setCell k _⟩
                case measure => simp [intOf]; omega
              · obtain ⟨w7, rfl⟩ : ∃ w7 : World, w7 = wr := ⟨_, rfl⟩
                have J7 : Hid (Below w2.heap.size w2 w7) := J6.out.trans (htn.below Hgs1.out J6.out.size)
                have R8' : Hid (Res w7 w2.heap.size 36 A8 c8 (u32s s9)) := res_tn R8.out htn (fun hn a e => fun e2 => (Hap.out ⟨gs, 0, none⟩ a hn (Hgo.out hn).1 e) e2.symm)
                have R9' : Hid (Res w7 w3.heap.size 36 A9 c9 (u32s s9)) := res_tn R9.out htn (fun hn a e => fun e2 => by
                  have h1 := res_ge R9.out hn e
                  have h2 := G7.out ⟨gs, 0, none⟩ hn (Hgo.out hn).1
                  have h3 : gs < w3.heap.size := h2
                  omega)
                have b5 := V5.out.tn htn (NE3.out V5.out)
                have b6 := V6.out.tn htn (NE3.out V6.out)
                have b2 := V2.out.tn htn (NE3.out V2.out)
                have b3 := V3.out.tn htn (NE3.out V3.out)
                have B8 := Lib.hid (V8.out.tn htn (NE3.out V8.out))
                have B9 := Lib.hid (V9.out.tn htn (NE3.out V9.out))
                have B5 := Lib.hid b5
                have B6 := Lib.hid b6
                have B2 := Lib.hid b2
                have B3 := Lib.hid b3
                have low0 := b5.lt
                have n1 : g5 ≠ w7.heap.size := Nat.ne_of_lt low0
                have n2 : w7.heap.size ≠ g5 := Nat.ne_of_gt low0
                have n3 : g5 ≠ w7.heap.size + 1 := Nat.ne_of_lt (Nat.lt_succ_of_lt low0)
                have n4 : w7.heap.size + 1 ≠ g5 := Nat.ne_of_gt (Nat.lt_succ_of_lt low0)
                have Z0 : Hid (∀ (zo : List Nat) (Ao : Option Addr) (co B9 : Nat) (wo W : World), Below w2.heap.size w2 W → Num 4294967296 zo (0 : Int).natAbs → Res wo B9 36 Ao co (u32s zo) → Below wo.heap.size wo W → Calls Tryz.prog 23 #[.agg #[.bool g, .slice Ax xs.length cx], .agg #[.bool (isNeg 0), .slice Ao zo.length co]] W fun e w' => ZOut W w' z e) := fun zo Ao co B9 wo W hW n1 r1 b1 => by
                  have h9 := Zh.add (HXX.out.next hW) ((Zn.shrink (K := 1) n1 r1 (by decide)).next b1).zh (by omega) (by omega)
                  rwa [Int.add_zero] at h9
                obtain ⟨p0, p1, _, _⟩ := b5.two
                clear V7 V8 V9 V5 V6 V2 V3 R8 R9 Hgo Hgs1 NE3 HL htn x0 x1 J6 b5 b6 b2 b3 G7 Hap
                go_wp2_with fail
                go_cut [11] (fun v W => ZMid w7 z v W)
                case first =>
                  go_region_held3 (fun W => W.cell? ⟨g5, 0, none⟩ = some (.bool g) ∧ W.cell? ⟨g5, 1, none⟩ = some (.slice Ax xs.length cx)) (go_keep) (first
                    | (go_at_call 10; (with_reducible refine (lof_any 0 (by decide) (by decide) _).mono ?_); rintro e wo ⟨zo, Ao, co, rfl, hzo, hro, hbo⟩; have jo : Below w7.heap.size w7 wo := bst (by repeat (first | exact Below.refl _ _ | exact jo | exact jr | apply bdw | (refine bdn ?_ _) | (refine bal ?_ (Nat.le_refl _) _))) hbo (Nat.le_refl _); obtain ⟨x0o, y0o, u0o, v0o⟩ := (B5.out.below jo B5.out.lt).two; obtain ⟨xx0o, yy0o, uu0o, vv0o⟩ := two_al (B5.out.below jo B5.out.lt); have m0o : g5 < wo.heap.size := Nat.lt_of_lt_of_le low0 jo.size; have ma0o := Nat.ne_of_lt m0o; have mb0o := Nat.ne_of_gt m0o; have mc0o := Nat.ne_of_lt (Nat.lt_succ_of_lt m0o); have md0o := Nat.ne_of_gt (Nat.lt_succ_of_lt m0o); (first | (have bno0 := ((blk_one w7 (.bool false) (.slice none 0 0))).below hbo (by simp)) | (have bno0 := ((blk_one w7 (.bool false) (.slice none 0 0)).drew).below hbo (by simp)) | (have bno0 := ((blk_one w7 (.bool false) (.slice none 0 0)).drewN _).below hbo (by simp)) | skip); (try (have q9 := bno0.two; obtain ⟨a0bno0, a1bno0, a2bno0, a3bno0⟩ := q9)); (try (have q9 := two_al bno0; obtain ⟨c0bno0, c1bno0, c2bno0, c3bno0⟩ := q9)); (try have d0bno0 := Nat.ne_of_lt bno0.lt); (try have d1bno0 := Nat.ne_of_gt bno0.lt); (try have d2bno0 := Nat.ne_of_lt (Nat.lt_succ_of_lt bno0.lt)); (try have d3bno0 := Nat.ne_of_gt (Nat.lt_succ_of_lt bno0.lt)); (try (have q9 := two_al2 bno0; obtain ⟨e0bno0, e1bno0, e2bno0, e3bno0⟩ := q9)))
                    | (go_at_call 23; (with_reducible refine (Z0.out zo Ao co _ wo _ (bst J7.out (by repeat (first | exact Below.refl _ _ | exact jo | exact jr | apply bdw | (refine bdn ?_ _) | (refine bal ?_ (Nat.le_refl _) _))) (Nat.le_refl _)) hzo hro (by repeat (first | exact Below.refl _ _ | apply bdw | (refine bdn ?_ _) | (refine bal ?_ (Nat.le_refl _) _)))).mono ?_); rintro e wr ⟨zr, Ar, cr, rfl, hzr, hrr, hbr⟩; have jr : Below w7.heap.size w7 wr := bst (by repeat (first | exact Below.refl _ _ | exact jo | exact jr | apply bdw | (refine bdn ?_ _) | (refine bal ?_ (Nat.le_refl _) _))) hbr (Nat.le_refl _); obtain ⟨x0r, y0r, u0r, v0r⟩ := (B5.out.below jr B5.out.lt).two; obtain ⟨xx0r, yy0r, uu0r, vv0r⟩ := two_al (B5.out.below jr B5.out.lt); have m0r : g5 < wr.heap.size := Nat.lt_of_lt_of_le low0 jr.size; have ma0r := Nat.ne_of_lt m0r; have mb0r := Nat.ne_of_gt m0r; have mc0r := Nat.ne_of_lt (Nat.lt_succ_of_lt m0r); have md0r := Nat.ne_of_gt (Nat.lt_succ_of_lt m0r); (first | (have bnr0 := ((blk_one wo (.bool false) (.slice none 0 0))).below hbr (by simp)) | (have bnr0 := ((blk_one wo (.bool false) (.slice none 0 0)).drew).below hbr (by simp)) | (have bnr0 := ((blk_one wo (.bool false) (.slice none 0 0)).drewN _).below hbr (by simp)) | skip); (try have bno0r := bno0.below (bel_pre hbr (by repeat (first | exact Below.refl _ _ | exact hbo | exact hbr | apply bdw | (refine bdn ?_ _) | (refine bal ?_ (Nat.le_refl _) _)))) bno0.lt); (try (have q9 := bno0r.two; obtain ⟨a0bno0r, a1bno0r, a2bno0r, a3bno0r⟩ := q9)); (try (have q9 := two_al bno0r; obtain ⟨c0bno0r, c1bno0r, c2bno0r, c3bno0r⟩ := q9)); (try have d0bno0r := Nat.ne_of_lt bno0r.lt); (try have d1bno0r := Nat.ne_of_gt bno0r.lt); (try have d2bno0r := Nat.ne_of_lt (Nat.lt_succ_of_lt bno0r.lt)); (try have d3bno0r := Nat.ne_of_gt (Nat.lt_succ_of_lt bno0r.lt)); (try (have q9 := two_al2 bno0r; obtain ⟨e0bno0r, e1bno0r, e2bno0r, e3bno0r⟩ := q9)); (try (have q9 := bnr0.two; obtain ⟨a0bnr0, a1bnr0, a2bnr0, a3bnr0⟩ := q9)); (try (have q9 := two_al bnr0; obtain ⟨c0bnr0, c1bnr0, c2bnr0, c3bnr0⟩ := q9)); (try have d0bnr0 := Nat.ne_of_lt bnr0.lt); (try have d1bnr0 := Nat.ne_of_gt bnr0.lt); (try have d2bnr0 := Nat.ne_of_lt (Nat.lt_succ_of_lt bnr0.lt)); (try have d3bnr0 := Nat.ne_of_gt (Nat.lt_succ_of_lt bnr0.lt)); (try (have q9 := two_al2 bnr0; obtain ⟨e0bnr0, e1bnr0, e2bnr0, e3bnr0⟩ := q9))))
                  all_goals
                    go_wp2_with fail
                    go_meet
                    have jor : Below wo.heap.size wo wr := bel_pre hbr (by repeat (first | exact Below.refl _ _ | apply bdw | (refine bdn ?_ _) | (refine bal ?_ (Nat.le_refl _) _)))
                    have rr9 : Res wr w7.heap.size 36 Ar cr (u32s zr) := hrr.mono (Nat.le_trans jo.size (by first | (simp; done) | (simp; exact Nat.le_succ_of_le (Nat.le_succ _))))
                    have l1 := jo.size
                    have l2 := jr.size
                    refine ⟨_, Ar, cr, zr, rfl, ?_, ?_, (by repeat (first | exact Below.refl _ _ | exact jr | apply bdw | (refine bdn ?_ _) | (refine bal ?_ (Nat.le_refl _) _) | (refine bsc ?_ (by first | exact Nat.le_refl _ | exact Nat.le_succ _ | exact l1 | exact Nat.le_succ_of_le l1 | exact l2 | exact Nat.le_succ_of_le l2) _)))⟩
                    all_goals (repeat' (first | with_reducible exact rr9 | with_reducible exact bno0r | with_reducible exact bnr0 | (with_reducible apply Rs.al) | (with_reducible apply res_al9) | (with_reducible apply Rs.var2) | (with_reducible apply res_var2) | (with_reducible apply blk_pair) | (with_reducible refine Blk.far ?_ (by show _ ≠ _; first | assumption | simp) _) | (with_reducible exact Blk.new_ rfl) | (with_reducible exact blk_two rfl) | (with_reducible refine Blk.heapAlloc ?_ _)))
                case rest =>
                  obtain ⟨g11, A11, c11, zz, rfl, b11, r11, jc4⟩ := hcut
                  obtain ⟨w8, rfl⟩ : ∃ w8 : World, w8 = wc := ⟨_, rfl⟩
                  obtain ⟨gt, hgt1, hgt2, hgo⟩ := res_own r11 jc4.size
                  have Hgo := Lib.hid hgo
                  have NE4 : Hid (∀ {g9 : Nat} {L9 : List Value}, Blk w8 g9 25 L9 → g9 ≠ gt) := fun {g9 L9} hb9 => by
                    by_cases hn : zz = []
                    · have h8 := hgt2 hn
                      have := hb9.lt; omega
                    · obtain ⟨_, _, L, hL, _⟩ := Hgo.out hn
                      exact var_ne hb9 hL
                  have V11 := Lib.hid b11
                  have Hgt1 := Lib.hid hgt1
                  have hlenz : zz.length ≤ 281474976710656 := res_len r11
                  have J8 := Lib.hid jc4
                  obtain ⟨r0, r1, _, _⟩ := b11.two
                  clear r11 b11 hgo hgt1 hgt2 jc4 p0 p1 n1 n2 n3 n4 Z0 low0
                  go_wp2_with fail
                  go_loopw [12, 67] (fun _ iv wr => ∃ k : Nat, k ≤ zz.length ∧ iv = .int .i64 k ∧ Hid (zz ≠ [] → ∃ L, Blk wr gt 36 L ∧ zz.length ≤ L.length) ∧ Tn gt w8 wr) (fun _ iv _ => zz.length - (intOf iv).toNat)
                  case atStart => exact ⟨0, by omega, rfl, fun h => (Hgo.out h).2.2, Tn.refl _ _⟩
                  case round =>
                    obtain ⟨k, hk, rfl, HL, htn⟩ := hrel
                    obtain ⟨x0, x1, _, _⟩ := (V11.out.tn htn (NE4.out V11.out)).two
                    by_cases hlt : k < zz.length
                    · have hn : zz ≠ [] := by intro e; rw [e] at hlt; simp at hlt
                      obtain ⟨rfl, _, _⟩ := Hgo.out hn
                      obtain ⟨L, hL, hLl⟩ := HL.out hn
                      have hkL : k < L.length := by omega
                      obtain ⟨vv, hcv⟩ : ∃ vv, wr.cell? ⟨gt, k, none⟩ = some vv := ⟨_, (hL.cell k).trans (List.getElem?_eq_getElem hkL)⟩
                      have hfv := hL.frozen k
                      clear hn
                      go_wp2_with fail
                      go_roundw
                      case rel => exact ⟨k + 1, by omega, by go_num, fun _ => ⟨_, hL.set_ k (.int .u32 4), by simpa using hLl⟩, htn.setCell k _⟩
                      case measure => simp [intOf]; omega
                    · obtain ⟨w9, rfl⟩ : ∃ w9 : World, w9 = wr := ⟨_, rfl⟩
                      have J9 : Below w7.heap.size w7 w9 := J8.out.trans (htn.below Hgt1.out J8.out.size)
                      have K9 : Below w2.heap.size w2 w9 := bst J7.out J9 (Nat.le_refl _)
                      have b5 := B5.out.below J9 B5.out.lt
                      have b6 := B6.out.below J9 B6.out.lt
                      have b2 := B2.out.below J9 B2.out.lt
                      have b3 := B3.out.below J9 B3.out.lt
                      have b8 := B8.out.below J9 B8.out.lt
                      have b9 := B9.out.below J9 B9.out.lt
                      obtain ⟨p0, p1, _, _⟩ := b8.two
                      obtain ⟨p2, p3, _, _⟩ := b9.two
                      have S89 := Lib.hid (lsame_any (c := c8) (c2 := c9) (isNeg (z + y)) (R8'.out.below J9 (Nat.le_refl _)).rd (R9'.out.below J9 (Nat.le_refl _)).rd hlen9)
                      clear x0 x1 HL htn V11 Hgo
                      go_wp2_with fail
                      refine S89.out.mono ?_
                      rintro e wa ⟨rfl, hba⟩
                      have ka := bst K9 hba (Nat.le_refl _)
                      replace b5 := b5.below hba b5.lt
                      replace b6 := b6.below hba b6.lt
                      replace b2 := b2.below hba b2.lt
                      replace b3 := b3.below hba b3.lt
                      obtain ⟨p4, p5, _, _⟩ := b5.two
                      obtain ⟨p6, p7, _, _⟩ := b2.two
                      clear p0 p1 p2 p3
                      go_wp2_with fail
                      refine (SA.out _ ka).mono ?_
                      rintro e wb ⟨rfl, hbb⟩
                      have kb := bst ka hbb (Nat.le_refl _)
                      obtain ⟨q4, q5, _, _⟩ := (b6.below hbb b6.lt).two
                      obtain ⟨q6, q7, _, _⟩ := (b3.below hbb b3.lt).two
                      clear p4 p5 p6 p7
                      go_wp2_with fail
                      refine (SY.out _ kb).mono ?_
                      rintro e wd ⟨rfl, hbd⟩
                      have kd := bst kb hbd (Nat.le_refl _)
                      go_wp2_with fail
                      refine (zlives_any _).mono ?_
                      rintro e we ⟨rfl, hbe⟩
                      go_wp2_with fail
                      go_ret
                      exact ⟨rfl, bst kc (bst kd hbe (Nat.le_refl _)) (Nat.le_refl _)⟩
end
end Go.Proofs.YtanlejlmckdeiaaGreat
