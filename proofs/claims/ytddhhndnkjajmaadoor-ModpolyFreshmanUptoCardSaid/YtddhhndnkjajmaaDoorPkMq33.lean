/- ModpolyFreshman answers true. Conditions: bases is as the program lays it; the sizes. -/
import Derived.Test.YtddhhndnkjajmaaDoorPkMq31
import Derived.Test.YtddhhndnkjajmaaDoorPkMq29
import Derived.Test.YtddhhndnkjajmaaDoorPkMq21
namespace Go.Proofs.YtddhhndnkjajmaaDoor
open Go.RowKit

theorem fadd_len {p : Nat} (hp : 0 < p) {a b s : List Nat} (hn : Nf p s) (h : Cg p (zo s) (zo a + zo b)) : s.length ≤ a.length + b.length := hn.len_le hp h fun i hi => by
  rw [Z.co_add, zo_far (by omega), zo_far (by omega)]; exact Int.dvd_zero _
theorem fmul_len {p : Nat} (hp : 0 < p) {a b s : List Nat} (hn : Nf p s) (h : Cg p (zo s) (zo a * zo b)) : s.length ≤ a.length + b.length := hn.len_le hp h fun i hi => by
  rw [co_mul, cN_low' (by omega)]; exact Int.dvd_zero _
theorem zo_one (n : Nat) (x : Int) : (zo [n]).v x = n := by rw [zo_cons, zo_nil]; omega
theorem Rd.allocS {W : World} {A : Option Addr} {vs : List Value} (h : Rd W W.heap.size A vs) (o : Obj) : Rd (W.alloc o).drew (W.alloc o).drew.heap.size A vs :=
  ((h.below ((Below.refl W.heap.size W).alloc (Nat.le_refl _) o)).mono (by simp)).drewS
theorem Rd.newS {W : World} (x : Nat) : Rd (W.alloc (.cells #[.int .u32 (x : Int)] 24)) (W.alloc (.cells #[.int .u32 (x : Int)] 24)).heap.size (some ⟨W.heap.size, 0, none⟩) (u32s [x]) :=
  Rd.of_blk (Blk.new_ rfl) (by simp) 0 (fun k v hv => by rw [Nat.zero_add]; exact hv)
theorem bel_alloc (W : World) (o : Obj) : Below W.heap.size W (W.alloc o).drew := ((Below.refl W.heap.size W).alloc (Nat.le_refl _) o).trans ((Dr.refl _).drew.below _)

set_option maxRecDepth 20000 in
set_option maxHeartbeats 3200000 in
theorem fresh_err (Aa Ab : Option Addr) (ca cb : Nat) (a b : List Nat) (p : Nat) (w : World) (hx : Bx w) (ra : Rd w w.heap.size Aa (u32s a)) (rb : Rd w w.heap.size Ab (u32s b)) (_ : a.length ≤ 1048576) (_ : b.length ≤ 1048576) (fa : Fit a) (fb : Fit b) (hp : p < 4294967296) (k : Int) (hk : (k != 0) = true) (h : (¬ Pr p ∧ k = 40) ∨ (Pr p ∧ mnP p b = [] ∧ k = 70)) :
    Calls Tryd.prog 10 #[.slice Aa a.length ca, .slice Ab b.length cb, .int .u32 (p : Int)] w fun e w' => e = .returned (.bool true) ∧ Below w.heap.size w w' := by
  have HX : Hid (∀ W, Below w.heap.size w W → Bx W) := fun W hW => hx.below hW (Nat.le_refl _)
  have HAW : Hid (∀ W, Below w.heap.size w W → Calls Tryd.prog 29 #[] W fun e w' => e = .returned (.bool true) ∧ Below W.heap.size W w') := fun W hW => lawake_any W (HX.out W hW)
  have HN : Hid (∀ k W, Calls Tryd.prog 22 #[.int .i64 k] W fun e w' => e = .returned (.int .i64 k) ∧ Below W.heap.size W w') := fun k W => (pnum_any k W).mono fun _ _ h => ⟨h.1, h.2 ▸ Below.refl _ _⟩
  have q0 : IntKind.u64.wrap (p : Int) = p := w64 (by omega)
  have HPW : Hid (∀ W, Below w.heap.size w W → Rd W W.heap.size Aa (u32s a) → Rd W W.heap.size Ab (u32s b) → Calls Tryd.prog 48 #[.slice Aa a.length ca, .int .u64 (p : Int), .slice Ab b.length cb, .int .u32 (p : Int)] W fun e w' => e = .returned (.tuple #[.slice none 0 0, .int .i64 k]) ∧ Below W.heap.size W w') := fun W hW h1 h2 => by
    rcases h with ⟨hpr, rfl⟩ | ⟨hpr, nz, rfl⟩
    · exact pPow_no Aa _ ca p Ab _ cb p W hpr hp (HX.out W hW).bases
    · exact pPowZ_yes Aa ca a p Ab cb b p W _ hpr hp (HX.out W hW).bases (Nat.le_refl _) h1 fa.1 fa.2 (by omega) h2 fb.1 fb.2 nz
  have Ra := Lib.hid ra
  have Rb := Lib.hid rb
  have HB0 : Hid (Below w.heap.size w w) := Below.refl _ _
  clear ra rb hx hp fa fb h
  go_enter Tryd.func10, Tryd.ntmps10
  go_wp2_with (first
    | (go_at_call 48; (with_reducible refine (HPW.out _ (by first | exact HB0.out | exact HB0.out.drew) (by first | exact Ra.out | exact Ra.out.drewS) (by first | exact Rb.out | exact Rb.out.drewS)).mono ?_); rintro _ w1z ⟨rfl, hb1⟩; have hx1 : Below w.heap.size w w1z := (by first | exact hb1 | exact (Below.refl _ _).drew.trans hb1); have HB1 := Lib.hid (HB0.out.trans (hx1.mono HB0.out.size)); have zR1_a := Lib.hid ((Ra.out.below hx1).mono hx1.size); have zR1_b := Lib.hid ((Rb.out.below hx1).mono hx1.size); clear hx1; clear Ra Rb)
    | (go_at_call 22; (with_reducible refine (HN.out _ _).mono ?_); rintro _ w2z ⟨rfl, hb2⟩; have hx2 : Below w1z.heap.size w1z w2z := (by first | exact hb2 | exact (Below.refl _ _).drew.trans hb2); have HB2 := Lib.hid (HB1.out.trans (hx2.mono HB1.out.size)); have zR2_a := Lib.hid ((zR1_a.out.below hx2).mono hx2.size); have zR2_b := Lib.hid ((zR1_b.out.below hx2).mono hx2.size); clear hx2; clear zR1_a zR1_b)
    | (go_at_call 29; (with_reducible refine (HAW.out _ (by first | exact HB2.out | exact HB2.out.drew)).mono ?_); rintro _ w3z ⟨rfl, hb3⟩; have hx3 : Below w2z.heap.size w2z w3z := (by first | exact hb3 | exact (Below.refl _ _).drew.trans hb3); have HB3 := Lib.hid (HB2.out.trans (hx3.mono HB2.out.size)); have zR3_a := Lib.hid ((zR2_a.out.below hx3).mono hx3.size); have zR3_b := Lib.hid ((zR2_b.out.below hx3).mono hx3.size); clear hx3; clear zR2_a zR2_b))
  go_ret
  exact ⟨rfl, HB3.out⟩

set_option maxRecDepth 20000 in
set_option maxHeartbeats 3200000 in
theorem fresh_yes (Aa Ab : Option Addr) (ca cb : Nat) (a b : List Nat) (p : Nat) (w : World) (hx : Bx w) (ra : Rd w w.heap.size Aa (u32s a)) (rb : Rd w w.heap.size Ab (u32s b)) (hma : a.length ≤ 1048576) (hmb : b.length ≤ 1048576) (fa : Fit a) (fb : Fit b) (hp : p < 4294967296) (hpr : Pr p) (nz : mnP p b ≠ []) :
    Calls Tryd.prog 10 #[.slice Aa a.length ca, .slice Ab b.length cb, .int .u32 (p : Int)] w fun e w' => e = .returned (.bool true) ∧ Below w.heap.size w w' := by
  have HX : Hid (∀ W, Below w.heap.size w W → Bx W) := fun W hW => hx.below hW (Nat.le_refl _)
  have HAW : Hid (∀ W, Below w.heap.size w W → Calls Tryd.prog 29 #[] W fun e w' => e = .returned (.bool true) ∧ Below W.heap.size W w') := fun W hW => lawake_any W (HX.out W hW)
  have HN : Hid (∀ k W, Calls Tryd.prog 22 #[.int .i64 k] W fun e w' => e = .returned (.int .i64 k) ∧ Below W.heap.size W w') := fun k W => (pnum_any k W).mono fun _ _ h => ⟨h.1, h.2 ▸ Below.refl _ _⟩
  have q0 : IntKind.u64.wrap (p : Int) = p := w64 (by omega)
  have hpos := hpr.pos
  obtain ⟨F, hF⟩ : ∃ F, F = mnP p b := ⟨_, rfl⟩
  have NF : Nf p F := by rw [hF]; exact mnP_nf hpos b
  have lF : F.length ≤ 1048576 := by have := mnP_len p b; rw [← hF] at this; omega
  have nF : F ≠ [] := by rw [hF]; exact nz
  have HPW : Hid (∀ W, Below w.heap.size w W → Rd W W.heap.size Aa (u32s a) → Rd W W.heap.size Ab (u32s b) → Calls Tryd.prog 48 #[.slice Aa a.length ca, .int .u64 (p : Int), .slice Ab b.length cb, .int .u32 (p : Int)] W fun e w' => ∃ r A c, e = .returned (.tuple #[.slice A r.length c, .int .i64 0]) ∧ Res w' W.heap.size 24 A c (u32s r) ∧ Below W.heap.size W w' ∧ Rs p F (compZ a (Z.X.pow p)) r) := fun W hW h1 h2 =>
    (pPow_yes Aa ca a p Ab cb b p W _ hpr hp (HX.out W hW).bases (Nat.le_refl _) h1 fa.1 fa.2 (by omega) h2 fb.1 fb.2 nz).mono fun _ _ ⟨v, h3, r, ⟨v2, h4, A, c, h5, h6, h7⟩, h8⟩ => by
      injection h4 with h4
      subst h4 h5
      rw [← hF] at h8
      exact ⟨r, A, c, h3, h6, h7, h8.of_cg ((Cg.frob hpr a).symm.trans (Cg.pow (mnP_cg p a).symm p))⟩
  have HPX : Hid (∀ W, Below w.heap.size w W → Rd W W.heap.size Ab (u32s b) → Calls Tryd.prog 48 #[.slice (some ⟨W.heap.size, 0, none⟩) 2 2, .int .u64 (p : Int), .slice Ab b.length cb, .int .u32 (p : Int)] (W.alloc (.cells #[.int .u32 0, .int .u32 1] 24)) fun e w' => ∃ r A c, e = .returned (.tuple #[.slice A r.length c, .int .i64 0]) ∧ Res w' W.heap.size 24 A c (u32s r) ∧ Below W.heap.size W w' ∧ Rs p F (Z.X.pow p) r) := fun W hW h2 => by
    have hb : Below W.heap.size W (W.alloc (.cells #[.int .u32 0, .int .u32 1] 24)) := (Below.refl _ _).alloc (Nat.le_refl _) _
    have hr : Rd (W.alloc (.cells #[.int .u32 0, .int .u32 1] 24)) (W.alloc (.cells #[.int .u32 0, .int .u32 1] 24)).heap.size (some ⟨W.heap.size, 0, none⟩) (u32s [0, 1]) := Rd.of_blk (Blk.new_ rfl) (by simp) 0 (fun k v hv => by rw [Nat.zero_add]; exact hv)
    refine (pPow_yes (some ⟨W.heap.size, 0, none⟩) 2 [0, 1] p Ab cb b p _ _ hpr hp (HX.out _ (hW.trans (hb.mono hW.size))).bases (Nat.le_refl _) hr (by simp [Sm]) (by simp) (by omega) ((h2.below hb).mono hb.size) fb.1 fb.2 nz).mono fun _ _ ⟨v, h3, r, ⟨v2, h4, A, c, h5, h6, h7⟩, h8⟩ => ?_
    injection h4 with h4
    subst h4 h5
    rw [← hF] at h8
    refine ⟨r, A, c, h3, h6.mono hb.size, hb.trans (h7.mono hb.size), h8.of_cg (Cg.pow ((Cg.of_eq fun x => ?_ : Cg p Z.X (zo [0, 1])).trans (mnP_cg p _).symm) p)⟩
    rw [Z.v_X, zo_cons, zo_one]; omega
  have HI : Hid (∀ (u y : List Nat) L, Rs p F L u → Rs p F (Z.X.pow p) y → ∃ m, Nf p m ∧ Cg p (zo m) (zo u * zo y) ∧ Fit u ∧ Fit y ∧ Fit m ∧ u.length ≤ 281474976710656 ∧ ∀ n, n < 4294967296 → Fit [n] ∧ ∃ s, Nf p s ∧ Cg p (zo s) (zo m + zo [n]) ∧ Fit s ∧ mnP p s = s ∧ ∀ q r, Dv p (zo (mnP p s)) (zo (mnP p b)) (mnP p b).length q r → Rs p F (L * Z.X.pow p + .c n) r) := fun u y L hu hy => by
    obtain ⟨m, m1, m2⟩ := nf_of hpos (zo u * zo y)
    have l1 := fmul_len hpos m1 m2
    have l2 := hu.lt
    have l3 := hy.lt
    refine ⟨m, m1, m2, .nf hu.nf hp (by omega), .nf hy.nf hp (by omega), .nf m1 hp (by omega), by omega, fun n hn => ⟨⟨by simp, by simpa using hn⟩, ?_⟩⟩
    obtain ⟨s, s1, s2⟩ := nf_of hpos (zo m + zo [n])
    have l4 := fadd_len hpos s1 s2
    simp at l4
    refine ⟨s, s1, s2, .nf s1 hp (by omega), mnP_id s1, fun q r hd => ?_⟩
    rw [mnP_id s1, ← hF] at hd
    exact fresh_step hu hy ((s2.trans (m2.add (Cg.refl _))).trans (Cg.of_eq fun x => by rw [Z.v_add, Z.v_add, zo_one, Z.v_c])) (Rs.of_dv hd)
  have HMU : Hid (∀ W A1 c1 (xs : List Nat) A2 c2 (ys s : List Nat), Rd W W.heap.size A1 (u32s xs) → Rd W W.heap.size A2 (u32s ys) → Fit xs → Fit ys → Nf p s → Cg p (zo s) (zo xs * zo ys) → Calls Tryd.prog 20 #[.slice A1 xs.length c1, .slice A2 ys.length c2, .int .u32 (p : Int)] W (PR1 W s)) := fun W A1 c1 xs A2 c2 ys s h1 h2 f1 f2 hn hc => yMul hpr hp f1 f2 hn hc W A1 c1 A2 c2 h1 h2
  have HAD : Hid (∀ W A1 c1 (xs : List Nat) A2 c2 (n : Nat) (s : List Nat), Rd W W.heap.size A1 (u32s xs) → Rd W W.heap.size A2 (u32s [n]) → Fit xs → Fit [n] → Nf p s → Cg p (zo s) (zo xs + zo [n]) → Calls Tryd.prog 24 #[.slice A1 xs.length c1, .slice A2 1 c2, .int .u32 (p : Int)] W (PR1 W s)) := fun W A1 c1 xs A2 c2 n s h1 h2 f1 f2 hn hc => yAdd hpr hp f1 f2 hn hc W A1 c1 A2 c2 h1 h2
  have HAN : Hid (∀ W A1 c1 (xs : List Nat) (n : Nat) (s : List Nat), Rd W W.heap.size A1 (u32s xs) → Fit xs → Fit [n] → Nf p s → Cg p (zo s) (zo xs + zo [n]) → Calls Tryd.prog 24 #[.slice A1 xs.length c1, .slice (some ⟨W.heap.size, 0, none⟩) 1 1, .int .u32 (p : Int)] (W.alloc (.cells #[.int .u32 (n : Int)] 24)) (PR1 W s)) := fun W A1 c1 xs n s h1 f1 f2 hn hc => by
    have hb : Below W.heap.size W (W.alloc (.cells #[.int .u32 (n : Int)] 24)) := (Below.refl _ _).alloc (Nat.le_refl _) _
    refine (HAD.out _ A1 c1 xs _ 1 n s ((h1.below hb).mono hb.size) (Rd.newS n) f1 f2 hn hc).mono fun _ _ ⟨v, h3, A, c, h4, h5, h6⟩ => ⟨v, h3, A, c, h4, h5.mono hb.size, hb.trans (h6.mono hb.size)⟩
  have HDV : Hid (∀ W A1 c1 (xs : List Nat), Rd W W.heap.size A1 (u32s xs) → Rd W W.heap.size Ab (u32s b) → Fit xs → Calls Tryd.prog 49 #[.slice A1 xs.length c1, .slice Ab b.length cb, .int .u32 (p : Int)] W fun e w' => ∃ q r vq vr, e = .returned (.tuple #[vq, vr]) ∧ PR W w' vq q ∧ PR W w' vr r ∧ Dv p (zo (mnP p xs)) (zo (mnP p b)) (mnP p b).length q r) := fun W A1 c1 xs h1 h2 f1 => rpdiv_any p A1 Ab c1 cb xs b W _ hpr hp h1 h2 (Nat.le_refl _) (by have := f1.1; omega) (by omega) nz
  have HUN : Hid (∀ r r' z, Rs p F z r → Rs p F z r' → r = r' ∧ r.length ≤ 281474976710656) := fun r r' z h h' => ⟨Rs.unique hpr NF h h' ⟨.c 0, Cg.of_eq fun x => by rw [Z.v_add, Z.v_mul, Z.v_c]; omega⟩, by have := h.lt; omega⟩
  have HR0 : Hid (Rs p F (compZ [] (Z.X.pow p)) []) := (Rs.none_ nF).of_cg (Cg.of_eq fun x => by rw [zo_nil]; exact Z.v_c 0 x)
  have HSM : Hid (∀ W A1 c1 A2 c2 (xs : List Nat), xs.length ≤ 281474976710656 → Rd W W.heap.size A1 (u32s xs) → Rd W W.heap.size A2 (u32s xs) → Calls Tryd.prog 28 #[.slice A1 xs.length c1, .slice A2 xs.length c2] W fun e w' => e = .returned (.bool true) ∧ Below W.heap.size W w') := fun W A1 c1 A2 c2 xs hl h1 h2 => (psame_any A1 A2 c1 c2 xs xs W _ h1 h2 hl).mono fun _ _ h => ⟨by rw [h.1]; simp, h.2.below _⟩
  have hda : Hid (∀ k (h : k < a.length), a[k] < 4294967296) := fun k h => fa.2 _ (List.getElem_mem h)
  have Ra0 := Lib.hid ra
  have Rb0 := Lib.hid rb
  have Ra := Lib.hid ra
  have Rb := Lib.hid rb
  have HB0 : Hid (Below w.heap.size w w) := Below.refl _ _
  clear ra rb hx hp hpr nz hF NF lF nF hpos fa fb hmb
  go_enter Tryd.func10, Tryd.ntmps10
  go_upto_region 7 with (first
    | (go_at_call 48; (with_reducible refine (HPW.out _ (by first | exact HB0.out | exact HB0.out.drew) (by first | exact Ra.out | exact Ra.out.drewS) (by first | exact Rb.out | exact Rb.out.drewS)).mono ?_); rintro _ w1z ⟨x, Ax, cx, rfl, hrx1, hb1, hrs⟩; have hx1 : Below w.heap.size w w1z := (by first | exact hb1 | exact (Below.refl _ _).drew.trans hb1); have HB1 := Lib.hid (HB0.out.trans (hx1.mono HB0.out.size)); have zR1_a := Lib.hid ((Ra.out.below hx1).mono hx1.size); have zR1_b := Lib.hid ((Rb.out.below hx1).mono hx1.size); have HRX := Lib.hid hrs; have zR_x := Lib.hid hrx1.rd; clear hrs hrx1; clear hx1; clear Ra Rb)
    | (go_at_call 22; (with_reducible refine (HN.out _ _).mono ?_); rintro _ w2z ⟨rfl, hb2⟩; have hx2 : Below w1z.heap.size w1z w2z := (by first | exact hb2 | exact (Below.refl _ _).drew.trans hb2); have HB2 := Lib.hid (HB1.out.trans (hx2.mono HB1.out.size)); have zR2_a := Lib.hid ((zR1_a.out.below hx2).mono hx2.size); have zR2_b := Lib.hid ((zR1_b.out.below hx2).mono hx2.size); have zR2_x := Lib.hid ((zR_x.out.below hx2).mono hx2.size); clear hx2; clear zR1_a zR1_b zR_x)
    | (go_at_call 48; (with_reducible refine (HPX.out _ (by first | exact HB2.out | exact HB2.out.drew) (by first | exact zR2_b.out | exact zR2_b.out.drewS)).mono ?_); rintro _ w3z ⟨y, Ay, cy, rfl, hry3, hb3, hrs⟩; have hx3 : Below w2z.heap.size w2z w3z := (by first | exact hb3 | exact (Below.refl _ _).drew.trans hb3); have HB3 := Lib.hid (HB2.out.trans (hx3.mono HB2.out.size)); have zR3_a := Lib.hid ((zR2_a.out.below hx3).mono hx3.size); have zR3_b := Lib.hid ((zR2_b.out.below hx3).mono hx3.size); have zR3_x := Lib.hid ((zR2_x.out.below hx3).mono hx3.size); have HRY := Lib.hid hrs; have zR_y := Lib.hid hry3.rd; clear hrs hry3; clear hx3; clear zR2_a zR2_b zR2_x))
  have Hma := Lib.hid hma
  clear hma q0
  go_loopw [11, 12] (fun wv iv wr => ∃ (k : Nat) (u : List Nat) (A9 : Option Addr) (c9 : Nat), k ≤ a.length ∧ iv = .int .i64 ((k : Int) - 1) ∧ wv = .slice A9 u.length c9 ∧ Hid (Rs p F (compZ (a.drop k) (Z.X.pow p)) u) ∧ Hid (Rd wr wr.heap.size A9 (u32s u)) ∧ Below w3z.heap.size w3z wr) (fun _ iv _ => (intOf iv + 1).toNat)
  case atStart => exact ⟨a.length, [], none, 0, Nat.le_refl _, rfl, rfl, by rw [List.drop_length]; exact HR0, Rd.nil_, Below.refl _ _⟩
  case round =>
    obtain ⟨k, u, A9, c9, hk, rfl, rfl, hu, hru, hbq⟩ := hrel
    have HBQ := Lib.hid (HB3.out.trans (hbq.mono HB3.out.size))
    have Qa := Lib.hid ((zR3_a.out.below hbq).mono hbq.size)
    have Qb := Lib.hid ((zR3_b.out.below hbq).mono hbq.size)
    have Qx := Lib.hid ((zR3_x.out.below hbq).mono hbq.size)
    have Qy := Lib.hid ((zR_y.out.below hbq).mono hbq.size)
    have Hbq := Lib.hid hbq
    clear hbq
    rcases k with _ | k
    · have e : (((0 : Nat) : Int) - 1) = -1 := rfl
      rw [e]
      rw [List.drop_zero] at hu
      obtain ⟨rfl, hl⟩ := HUN.out _ _ _ hu.out HRX.out
      have Hl := Lib.hid hl
      clear hl
      go_wp2_with (first
        | (go_at_call 22; (with_reducible refine (HN.out _ _).mono ?_); rintro _ w30y ⟨rfl, hb30⟩; have hx30 : Below wr.heap.size wr w30y := (by first | exact hb30 | exact (Below.refl _ _).drew.trans hb30); have HB30 := Lib.hid (HBQ.out.trans (hx30.mono HBQ.out.size)); have yR30_x := Lib.hid ((Qx.out.below hx30).mono hx30.size); have yR30_u := Lib.hid ((hru.out.below hx30).mono hx30.size); clear hx30; clear Qx hru)
        | (go_at_call 28; (with_reducible refine (HSM.out _ _ _ _ _ _ Hl.out (by first | exact yR30_x.out | exact yR30_x.out.drewS) (by first | exact yR30_u.out | exact yR30_u.out.drewS)).mono ?_); rintro _ w31y ⟨rfl, hb31⟩; have hx31 : Below w30y.heap.size w30y w31y := (by first | exact hb31 | exact (Below.refl _ _).drew.trans hb31); have HB31 := Lib.hid (HB30.out.trans (hx31.mono HB30.out.size)); have yR31_x := Lib.hid ((yR30_x.out.below hx31).mono hx31.size); have yR31_u := Lib.hid ((yR30_u.out.below hx31).mono hx31.size); clear hx31; clear yR30_x yR30_u)
        | (go_at_call 29; (with_reducible refine (HAW.out _ (by first | exact HB31.out | exact HB31.out.drew)).mono ?_); rintro _ w32y ⟨rfl, hb32⟩; have hx32 : Below w31y.heap.size w31y w32y := (by first | exact hb32 | exact (Below.refl _ _).drew.trans hb32); have HB32 := Lib.hid (HB31.out.trans (hx32.mono HB31.out.size)); clear hx32))
      go_ret
      exact ⟨rfl, HB32.out⟩
    · have e : ((k + 1 : Nat) : Int) - 1 = (k : Int) := by omega
      rw [e]
      have hkl : k < a.length := by omega
      obtain ⟨ba, oa, rfl, hba, hxa⟩ := Qa.out.at32 hkl
      have hxd := hda.out k hkl
      obtain ⟨m, mn, mc, fu, fy, fm, hl, hs⟩ := HI.out u y _ hu.out HRY.out
      obtain ⟨fn, s, sn, sc, fs, smn, hdv⟩ := hs a[k] hxd
      have HDR : Hid (compZ (a.drop k) (Z.X.pow p) = compZ (a.drop (k + 1)) (Z.X.pow p) * Z.X.pow p + .c (a[k] : Int)) := by show _ = _; rw [List.drop_eq_getElem_cons hkl]; rfl
      obtain ⟨x0, hx0⟩ : ∃ x0, x0 = a[k] := ⟨_, rfl⟩
      rw [← hx0] at hxa hxd fn sc hdv HDR
      have Mn := Lib.hid mn
      have Mc := Lib.hid mc
      have Fu := Lib.hid fu
      have Fy := Lib.hid fy
      have Fm := Lib.hid fm
      have Fn := Lib.hid fn
      have Sn := Lib.hid sn
      have Sc := Lib.hid sc
      have Fs := Lib.hid fs
      have Hdv := Lib.hid hdv
      have q2 : wrap64 ((k : Int) - 1) = (k : Int) - 1 := by have := Hma.out; exact IntWalk.wrap64_in _ (by omega)
      have HQ := Lib.hid q2
      clear mn mc fu fy fm fn sn sc fs smn hdv hs hx0 hl q2 hxd
      go_upto_region 9 with (fail)
      have hal : ∀ o, (wr.alloc o).cell? ⟨ba, oa + k, none⟩ = some (.int .u32 (x0 : Int)) := fun o => (World.cell?_alloc_past _ _ _ (by show ba < wr.heap.size; omega)).trans hxa
      go_region_held3 (fun W => W.cell? ⟨ba, oa + k, none⟩ = some (.int .u32 (x0 : Int))) (first | exact hal _ | go_keep) (first
        | (go_at_call 20; (with_reducible refine (HMU.out _ _ _ _ _ _ _ _ (by first | exact hru.out.drewS | exact hru.out) (by first | exact Qy.out.drewS | exact Qy.out) Fu.out Fy.out Mn.out Mc.out).mono ?_); rintro _ w40 ⟨_, rfl, A40, c40, rfl, hr40, hb40⟩; have hx40 : Below wr.heap.size wr w40 := (by first | exact hb40 | exact (Below.refl _ _).drew.trans hb40); have hxc := (hx40.cell (p := ⟨ba, oa + k, none⟩) hba).trans hxa; have R40 := Lib.hid hr40.rd; have Hx40 := Lib.hid hx40; clear hr40 hx40 hb40)
        | (go_at_call 20; (with_reducible refine (HMU.out _ _ _ _ _ _ _ _ (by exact hru.out.allocS _) (by exact Qy.out.allocS _) Fu.out Fy.out Mn.out Mc.out).mono ?_); rintro _ w40 ⟨_, rfl, A40, c40, rfl, hr40, hb40⟩; have hx40 : Below wr.heap.size wr w40 := (bel_alloc wr _).trans (hb40.mono (bel_alloc wr _).size); have R41 := Lib.hid (((Rd.newS (W := wr) x0).drewS.below hb40).mono hb40.size); have hxc := (hx40.cell (p := ⟨ba, oa + k, none⟩) hba).trans hxa; have R40 := Lib.hid hr40.rd; have Hx40 := Lib.hid hx40; clear hr40 hx40 hb40)
        | (go_at_call 24; (with_reducible refine (HAN.out w40 _ _ _ _ _ R40.out Fm.out Fn.out Sn.out Sc.out).mono ?_); rintro _ w42 ⟨_, rfl, A42, c42, rfl, hr42, hb42⟩; have hx42 : Below wr.heap.size wr w42 := Hx40.out.trans (hb42.mono Hx40.out.size); have hxc2 := (hx42.cell (p := ⟨ba, oa + k, none⟩) hba).trans hxa; have R42 := Lib.hid hr42.rd; have Hx42 := Lib.hid hx42; have Qb42 := Lib.hid ((Qb.out.below hx42).mono hx42.size); clear hr42 hx42 hb42)
        | (go_at_call 24; (with_reducible refine (HAD.out w40 _ _ _ _ _ _ _ R40.out R41.out Fm.out Fn.out Sn.out Sc.out).mono ?_); rintro _ w42 ⟨_, rfl, A42, c42, rfl, hr42, hb42⟩; have hx42 : Below wr.heap.size wr w42 := Hx40.out.trans (hb42.mono Hx40.out.size); have hxc2 := (hx42.cell (p := ⟨ba, oa + k, none⟩) hba).trans hxa; have R42 := Lib.hid hr42.rd; have Hx42 := Lib.hid hx42; have Qb42 := Lib.hid ((Qb.out.below hx42).mono hx42.size); clear hr42 hx42 hb42)
        | (go_at_call 49; (with_reducible refine (HDV.out _ _ _ _ R42.out Qb42.out Fs.out).mono ?_); rintro _ w43 ⟨q43, r43, _, _, rfl, ⟨Aq43, cq43, rfl, _, _⟩, ⟨A43, c43, rfl, hr43, hb43⟩, hd43⟩; have R43 := Lib.hid hr43.rd; have hx43 : Below wr.heap.size wr w43 := Hx42.out.trans (hb43.mono Hx42.out.size); have hxc3 := (hx43.cell (p := ⟨ba, oa + k, none⟩) hba).trans hxa; have Hx43 := Lib.hid hx43; have HD43 := Lib.hid (Hdv.out _ _ hd43); clear hr43 hx43 hb43 hd43))
      all_goals clear hal
      all_goals have q2 := HQ.out
      all_goals go_wp2_with fail
      all_goals go_roundw
      all_goals first
        | exact ⟨k, r43, A43, c43, by omega, (show Value.int .i64 (wrap64 ((k : Int) - 1)) = _ by rw [HQ.out]), rfl, by rw [HDR.out]; exact HD43, R43, Hbq.out.trans (Hx43.out.mono Hbq.out.size)⟩
        | (simp [intOf, HQ.out] <;> omega)

theorem modpolyFreshman_walk (Aa Ab : Option Addr) (ca cb : Nat) (a b : List Nat) (p : Nat) (w : World) (hx : Bx w) (ra : Rd w w.heap.size Aa (u32s a)) (rb : Rd w w.heap.size Ab (u32s b)) (hma : a.length ≤ 1048576) (hmb : b.length ≤ 1048576) (da : ∀ x ∈ a, x < 4294967296) (db : ∀ x ∈ b, x < 4294967296) (hp : p < 4294967296) :
    Calls Tryd.prog 10 #[.slice Aa a.length ca, .slice Ab b.length cb, .int .u32 (p : Int)] w fun e w' => e = .returned (.bool true) ∧ Below w.heap.size w w' := by
  by_cases hpr : Pr p
  · by_cases nz : mnP p b = []
    · exact fresh_err Aa Ab ca cb a b p w hx ra rb hma hmb ⟨by omega, da⟩ ⟨by omega, db⟩ hp 70 (by decide) (.inr ⟨hpr, nz, rfl⟩)
    · exact fresh_yes Aa Ab ca cb a b p w hx ra rb hma hmb ⟨by omega, da⟩ ⟨by omega, db⟩ hp hpr nz
  · exact fresh_err Aa Ab ca cb a b p w hx ra rb hma hmb ⟨by omega, da⟩ ⟨by omega, db⟩ hp 40 (by decide) (.inl ⟨hpr, rfl⟩)
end Go.Proofs.YtddhhndnkjajmaaDoor
