/- The small functions of layer 8's law. Conditions: as each states. The calls of modpoly and of its reference, each: just this list is answered. Conditions: as each states. prime.Sub at a prime; rows of nodes; interpolation by Newton's way, as numbers. Conditions: p a prime. -/
import Derived.Test.YtddhhndnkjajmaaDoorPkMq28
import Derived.Test.YtddhhndnkjajmaaDoorPkMq27
namespace Go.Proofs.YtddhhndnkjajmaaDoor
section
open Go.RowKit

/-- All of these slices read as these lists. -/
def Reads (W : World) (l : List (Option Addr × List Nat)) : Prop := ∀ x ∈ l, Rd W W.heap.size x.1 (u32s x.2)
theorem Reads.nil_ (W : World) : Reads W [] := fun _ h => by cases h
theorem Reads.cons {W : World} {l : List (Option Addr × List Nat)} {A : Option Addr} {xs : List Nat} (h : Rd W W.heap.size A (u32s xs)) (hl : Reads W l) : Reads W ((A, xs) :: l) := fun x hx => by
  rcases List.mem_cons.1 hx with rfl | hx
  · exact h
  · exact hl x hx
theorem Reads.below {W W' : World} {l : List (Option Addr × List Nat)} (h : Reads W l) (hb : Below W.heap.size W W') : Reads W' l := fun x hx => ((h x hx).below hb).mono hb.size
theorem Reads.dr {W W' : World} {l : List (Option Addr × List Nat)} (h : Reads W l) (hd : Dr W W') : Reads W' l := h.below (hd.below _)
theorem Reads.at_ {W : World} {l : List (Option Addr × List Nat)} (h : Reads W l) (i : Nat) {A : Option Addr} {xs : List Nat} (hi : l[i]? = some (A, xs)) : Rd W W.heap.size A (u32s xs) :=
  h _ (List.mem_of_getElem? hi)

theorem pnum_any (k : Int) (w : World) : Calls Tryd.prog 22 #[.int .i64 k] w fun r w' => r = .returned (.int .i64 k) ∧ w = w' := by
  go_enter Tryd.func22, Tryd.ntmps22
  go_wp2
  go_ret
  exact ⟨rfl, rfl⟩

theorem psame_any (A1 A2 : Option Addr) (c1 c2 : Nat) (xs ys : List Nat) (w : World) (B : Nat) (hr1 : Rd w B A1 (u32s xs)) (hr2 : Rd w B A2 (u32s ys)) (hm1 : xs.length ≤ 281474976710656) :
    Calls Tryd.prog 28 #[.slice A1 xs.length c1, .slice A2 ys.length c2] w fun e w' => e = .returned (.bool (decide (xs = ys))) ∧ Dr w w' := by
  have HS := Lib.hid (rsame_any A1 A2 c1 c2 xs ys w B hr1 hr2 hm1)
  clear hr1 hr2
  go_enter Tryd.func28, Tryd.ntmps28
  go_wp2_with (go_at_call 59; (with_reducible refine HS.out.mono ?_); rintro _ w2 ⟨rfl, hd⟩)
  go_ret
  exact ⟨rfl, hd⟩

theorem told_ok (A1 A2 : Option Addr) (c1 c2 : Nat) (xs ys : List Nat) (w : World) (hr1 : Rd w w.heap.size A1 (u32s xs)) (hr2 : Rd w w.heap.size A2 (u32s ys)) (hm1 : xs.length ≤ 281474976710656) (he : xs = ys) :
    Calls Tryd.prog 21 #[.slice A1 xs.length c1, .int .i64 0, .slice A2 ys.length c2, .int .i64 0] w fun e w' => e = .returned (.bool true) ∧ Dr w w' := by
  have HN := Lib.hid (fun W => pnum_any 0 W)
  have HS : Hid (Calls Tryd.prog 28 #[.slice A1 xs.length c1, .slice A2 ys.length c2] w fun e w' => e = .returned (.bool true) ∧ Dr w w') :=
    (psame_any A1 A2 c1 c2 xs ys w _ hr1 hr2 hm1).mono fun e w' ⟨h1, h2⟩ => ⟨by rw [h1, he]; simp, h2⟩
  clear hr1 hr2 he
  go_enter Tryd.func21, Tryd.ntmps21
  go_wp2_with (first
    | (go_at_call 22; (with_reducible refine (HN.out _).mono ?_); rintro _ _ ⟨rfl, rfl⟩)
    | (go_at_call 28; (with_reducible refine HS.out.mono ?_); rintro _ w2 ⟨rfl, hd⟩))
  go_ret
  exact ⟨rfl, hd⟩
theorem told_err (A2 : Option Addr) (c1 m c2 : Nat) (A1 : Option Addr) (k : Int) (hk : (k != 0) = true) (w : World) :
    Calls Tryd.prog 21 #[.slice A1 0 c1, .int .i64 k, .slice A2 m c2, .int .i64 k] w fun e w' => e = .returned (.bool true) ∧ Dr w w' := by
  have HN := Lib.hid (fun W => pnum_any k W)
  have t0 : (k == k) = true := by simp
  go_enter Tryd.func21, Tryd.ntmps21
  go_wp2_with (go_at_call 22; (with_reducible refine (HN.out _).mono ?_); rintro _ _ ⟨rfl, rfl⟩)
  go_ret
  exact ⟨rfl, Dr.refl _⟩

theorem good_yes (p : Nat) (hpr : Pr p) (hp : p < 4294967296) (w : World) : Calls Tryd.prog 11 #[.int .u32 (p : Int)] w fun e w' => e = .returned (.tuple #[.int .u32 (p : Int), .int .i64 0]) ∧ w = w' := by
  have H := Lib.hid (ris_yes p hpr hp w)
  go_enter Tryd.func11, Tryd.ntmps11
  go_wp2_with (go_at_call 41; (with_reducible refine H.out.mono ?_); rintro _ _ ⟨rfl, rfl⟩)
  go_ret2
  exact ⟨rfl, rfl⟩
theorem good_no (p : Nat) (hpr : ¬ Pr p) (hp : p < 4294967296) (w : World) : Calls Tryd.prog 11 #[.int .u32 (p : Int)] w fun e w' => e = .returned (.tuple #[.int .u32 7, .int .i64 40]) ∧ w = w' := by
  have H := Lib.hid (ris_no p hpr hp w)
  go_enter Tryd.func11, Tryd.ntmps11
  go_wp2_with (go_at_call 41; (with_reducible refine H.out.mono ?_); rintro _ _ ⟨rfl, rfl⟩)
  go_ret2
  exact ⟨rfl, rfl⟩
theorem pr7 : Pr 7 := ⟨by decide, fun e he => (by decide : ∀ e, e < 8 → e ∣ 7 → e = 1 ∨ e = 7) e (by have := Nat.le_of_dvd (by decide) he; omega) he⟩


/-- make, empty and with room. -/
theorem mkP0 (n : Nat) (h : n ≤ 70368744177664) (w : World) : (Instr.makeSlice 23 (.int .i64 0) (.int .i64 (n : Int))).run Tryd.prog w = .ok (.slice (some ⟨w.heap.size, 0, none⟩) 0 n) (w.alloc (.cells (List.replicate n (Value.int .u32 0)).toArray 24)) := by
  obtain ⟨i0, hi, hz0, hz1, hz2⟩ := info_parts Tryd.info32
  have hr := run_make (P := Tryd.prog) w 23 24 i0 (.int .u32 0) Tryd.underlying23 hi hz0 .i64 .i64 0 n (by omega) (by omega) (by rw [hz2]; omega) (by omega)
  rw [hz1, Int.toNat_natCast, made_one _ _ rfl] at hr
  exact hr
/-- Appending to an empty row of one's own that has room. -/
theorem app_fit (w : World) (g cap : Nat) (zs : List Value) (hb : Blk w g 24 zs) (hz : zs.length = cap) (hcap : cap ≤ maxLen) (A : Option Addr) (c B : Nat) (xs : List Nat) (hr : Rd w B A (u32s xs)) (hm : xs.length ≤ cap) :
    ∃ w' rest, (Builtin.append_ #[23, 23] 23 #[.slice (some ⟨g, 0, none⟩) 0 cap, .slice A xs.length c]).run Tryd.prog w = .ok (.slice (some ⟨g, 0, none⟩) xs.length cap) w' ∧
      Blk w' g 24 (u32s xs ++ rest) ∧ xs.length + rest.length = cap ∧ w.grownBy w' (some g) := by
  obtain ⟨i0, hi, hz0, hz1, hz2⟩ := info_parts Tryd.info32
  have hown : w.ownsRow g 24 1 (.slice (some ⟨g, 0, none⟩) 0 cap) 0 [] := ⟨rfl, .inr ⟨g, cap, zs.toArray, rfl, Nat.le_refl _, hb, Nat.zero_le _, hcap, by simp [hz], by simp⟩⟩
  by_cases h0 : xs = []
  · subst h0
    refine ⟨w, zs, ?_, by simpa [u32s] using hb, by simp [hz], World.grownBy.refl w _⟩
    have hv : A = none ∨ ∃ ad, A = some ad := by cases A <;> simp
    rcases hv with rfl | ⟨ad, rfl⟩
    · simp [Builtin.append_, run_underlying Tryd.underlying23, sizeOf, typeInfo, hi, Builtin.lenOf, Builtin.firstCells, storeCells]
    · simp [Builtin.append_, run_underlying Tryd.underlying23, sizeOf, typeInfo, hi, Builtin.lenOf, Builtin.firstCells, storeCells, loadCells, loadCellsFrom]
  · obtain ⟨b, off, rfl, hbB, hc⟩ := hr (fun e => h0 (u32s_nil_iff.1 e))
    obtain ⟨w', h1, h2, h3⟩ := run_append_fits (P := Tryd.prog) w g 23 23 24 i0 1 Tryd.underlying23 hi hz1 g 0 cap [] hown ⟨b, off, none⟩ xs.length c (u32s xs) (by simp [u32s]) (fun j u hu => by rw [addr_add]; exact hc j u hu) (one_u32s xs) (by omega)
    rw [Nat.zero_add] at h1 h2
    rw [List.nil_append] at h2
    obtain ⟨hl, ⟨h5, _⟩ | ⟨g', cap', cur, h5, hg, hh, hnc, hcm, hsz, ht⟩⟩ := h2
    · cases h5
    · simp only [Value.slice.injEq, Option.some.injEq, Addr.mk.injEq, and_true, true_and] at h5
      obtain ⟨rfl, rfl⟩ := h5
      rw [Nat.mul_one] at hsz ht
      refine ⟨w', cur.toList.drop xs.length, h1, ?_, ?_, h3⟩
      · have : u32s xs ++ cur.toList.drop xs.length = cur.toList := by
          conv => lhs; lhs; rw [← ht]
          exact List.take_append_drop _ _
        rw [this]; simpa [Blk] using hh
      · rw [List.length_drop]; simp [hsz]; omega
end
section
open Go.RowKit

/-- It is of some length, of numbers of 32 bits. -/
def Fit (xs : List Nat) : Prop := xs.length ≤ 1099511627776 ∧ ∀ x ∈ xs, x < 4294967296
theorem Fit.nf {p : Nat} {xs : List Nat} (h : Nf p xs) (hp : p < 4294967296) (hl : xs.length ≤ 1099511627776) : Fit xs := ⟨hl, fun x hx => by have := h.1 x hx; omega⟩
theorem Fit.nil_ : Fit [] := ⟨Nat.zero_le _, fun _ h => by cases h⟩
/-- Just this polynomial is answered, and no error. -/
def PE (w : World) (r : List Nat) (e : Ending) (w' : World) : Prop := ∃ A c, e = .returned (.tuple #[.slice A r.length c, .int .i64 0]) ∧ Res w' w.heap.size 24 A c (u32s r) ∧ Below w.heap.size w w'
theorem OkT.exact {w w' : World} {r : List Nat} {e : Ending} (h : OkT (PR1 w r) e w') : PE w r e w' := by
  obtain ⟨v, rfl, v2, h2, A, c, rfl, h3, h4⟩ := h
  injection h2 with h2
  subst h2
  exact ⟨A, c, rfl, h3, h4⟩
theorem OkT.mono {Q R : Ending → World → Prop} {e : Ending} {w' : World} (h : OkT Q e w') (hq : ∀ e w', Q e w' → R e w') : OkT R e w' := by
  obtain ⟨v, h1, h2⟩ := h
  exact ⟨v, h1, hq _ _ h2⟩
theorem PS.exact {p : Nat} {w w' : World} {z : Z} {r : List Nat} {e : Ending} (h : PS p w z e w') (hp : 0 < p) (hn : Nf p r) (hc : Cg p (zo r) z) : PR1 w r e w' := by
  obtain ⟨r', h1, h2, h3⟩ := h
  rw [hn.unique h2 hp (hc.trans h3.symm)]
  exact h1
theorem PS.ok {p : Nat} {w w' : World} {z : Z} {r : List Nat} {e : Ending} (h : OkT (PS p w z) e w') (hp : 0 < p) (hn : Nf p r) (hc : Cg p (zo r) z) : PE w r e w' := (h.mono fun _ _ h2 => h2.exact hp hn hc).exact
theorem MoOf.unique {p : Nat} {xs r r' : List Nat} (hp : Pr p) (h : MoOf p xs r) (h' : MoOf p xs r') : r = r' := Gc.unique hp h.gc h'.gc (Cg.refl _) (Cg.refl _)
theorem MoOf.ex {p : Nat} {xs : List Nat} (hp : Pr p) (hx : Nf p xs) : ∃ r, MoOf p xs r := by
  by_cases h0 : xs = []
  · subst h0; exact ⟨[], MoOf.none_ p⟩
  · obtain ⟨r, h1, h2⟩ := nf_of hp.pos (zo xs * .c (invN p (xs.getD (xs.length - 1) 0)))
    exact ⟨r, MoOf.of_inv hp hx h0 h1 (hp.inv_right (fun hd => hx.top hp.pos h0 (Int.natCast_dvd_natCast.2 hd))) h2⟩
theorem PM.exact {p : Nat} {w w' : World} {xs r : List Nat} {e : Ending} (h : PM p w xs e w') (hp : Pr p) (hm : MoOf p xs r) : PR1 w r e w' := by
  obtain ⟨r', h1, h2⟩ := h
  rw [hm.unique hp h2]
  exact h1
theorem PG.exact {p : Nat} {w w' : World} {a b : Z} {r : List Nat} {e : Ending} (h : PG p w a b e w') (hp : Pr p) (hm : Gc p a b r) : PR1 w r e w' := by
  obtain ⟨r', h1, h2⟩ := h
  rw [hm.unique hp h2 (Cg.refl _) (Cg.refl _)]
  exact h1

theorem xNormal {p : Nat} {a : List Nat} (hpr : Pr p) (hp : p < 4294967296)  (fa : Fit a) (W : World) (Aa : Option Addr) (ca : Nat) (hw : Bases W) (ra : Rd W W.heap.size Aa (u32s a)) :
    Calls Tryd.prog 13 #[.slice Aa a.length ca, .int .u32 (p : Int)] W (PE W (mnP p a)) :=
  (pNormal_yes Aa ca a p W _ hpr hp hw (Nat.le_refl _) ra fa.1 fa.2).mono fun _ _ h => h.exact
theorem xMonic {p : Nat} {a s : List Nat} (hpr : Pr p) (hp : p < 4294967296)  (fa : Fit a) (hm : MoOf p (mnP p a) s) (W : World) (Aa : Option Addr) (ca : Nat) (hw : Bases W) (ra : Rd W W.heap.size Aa (u32s a)) :
    Calls Tryd.prog 15 #[.slice Aa a.length ca, .int .u32 (p : Int)] W (PE W s) :=
  (pMonic_yes Aa ca a p W _ hpr hp hw (Nat.le_refl _) ra fa.1 fa.2).mono fun _ _ h => (h.mono fun _ _ h2 => h2.exact hpr hm).exact
theorem xAdd {p : Nat} {a b s : List Nat} (hpr : Pr p) (hp : p < 4294967296)  (fa : Fit a) (fb : Fit b) (hn : Nf p s) (hc : Cg p (zo s) (zo a + zo b)) (W : World) (Aa : Option Addr) (ca : Nat) (Ab : Option Addr) (cb : Nat) (hw : Bases W) (ra : Rd W W.heap.size Aa (u32s a)) (rb : Rd W W.heap.size Ab (u32s b)) :
    Calls Tryd.prog 16 #[.slice Aa a.length ca, .slice Ab b.length cb, .int .u32 (p : Int)] W (PE W s) :=
  (pAdd_yes Aa ca a Ab cb b p W _ hpr hp hw (Nat.le_refl _) ra fa.1 fa.2 rb fb.1 fb.2).mono fun _ _ h => PS.ok h hpr.pos hn hc
theorem xSub {p : Nat} {a b s : List Nat} (hpr : Pr p) (hp : p < 4294967296)  (fa : Fit a) (fb : Fit b) (hn : Nf p s) (hc : Cg p (zo s) (zo a - zo b)) (W : World) (Aa : Option Addr) (ca : Nat) (Ab : Option Addr) (cb : Nat) (hw : Bases W) (ra : Rd W W.heap.size Aa (u32s a)) (rb : Rd W W.heap.size Ab (u32s b)) :
    Calls Tryd.prog 17 #[.slice Aa a.length ca, .slice Ab b.length cb, .int .u32 (p : Int)] W (PE W s) :=
  (pSub_yes Aa ca a Ab cb b p W _ hpr hp hw (Nat.le_refl _) ra fa.1 fa.2 rb fb.1 fb.2).mono fun _ _ h => PS.ok h hpr.pos hn hc
theorem xMul {p : Nat} {a b s : List Nat} (hpr : Pr p) (hp : p < 4294967296)  (fa : Fit a) (fb : Fit b) (hn : Nf p s) (hc : Cg p (zo s) (zo a * zo b)) (W : World) (Aa : Option Addr) (ca : Nat) (Ab : Option Addr) (cb : Nat) (hw : Bases W) (ra : Rd W W.heap.size Aa (u32s a)) (rb : Rd W W.heap.size Ab (u32s b)) :
    Calls Tryd.prog 18 #[.slice Aa a.length ca, .slice Ab b.length cb, .int .u32 (p : Int)] W (PE W s) :=
  (pMul_yes Aa ca a Ab cb b p W _ hpr hp hw (Nat.le_refl _) ra fa.1 fa.2 rb fb.1 fb.2).mono fun _ _ h => PS.ok h hpr.pos hn hc
theorem xScale {k p : Nat} {a s : List Nat} (hpr : Pr p) (hp : p < 4294967296) (hk : k < 4294967296) (fa : Fit a) (hn : Nf p s) (hc : Cg p (zo s) (zo a * .c k)) (W : World) (Aa : Option Addr) (ca : Nat) (hw : Bases W) (ra : Rd W W.heap.size Aa (u32s a)) :
    Calls Tryd.prog 30 #[.slice Aa a.length ca, .int .u32 (k : Int), .int .u32 (p : Int)] W (PE W s) :=
  (pScale_yes Aa ca a k p W _ hpr hp hw (Nat.le_refl _) ra fa.1 fa.2 hk).mono fun _ _ h => PS.ok h hpr.pos hn hc
theorem xShift {k p : Nat} {a s : List Nat} (hpr : Pr p) (hp : p < 4294967296)  (fa : Fit a) (hk : k ≤ 10000) (hn : Nf p s) (hc : Cg p (zo s) (zo (mnP p a) * Z.X.pow k)) (W : World) (Aa : Option Addr) (ca : Nat) (hw : Bases W) (ra : Rd W W.heap.size Aa (u32s a)) :
    Calls Tryd.prog 31 #[.slice Aa a.length ca, .int .i64 (k : Int), .int .u32 (p : Int)] W (PE W s) :=
  (pShift_yes Aa ca a k p W _ hpr hp hw (Nat.le_refl _) ra fa.1 fa.2 hk).mono fun _ _ h => (h.mono fun _ _ ⟨r, h1, h2, h3, _⟩ => (show PS p W _ _ _ from ⟨r, h1, h2, h3⟩).exact hpr.pos hn hc).exact
theorem xDeriv {p : Nat} {a : List Nat} (hpr : Pr p) (hp : p < 4294967296)  (fa : Fit a) (W : World) (Aa : Option Addr) (ca : Nat) (hw : Bases W) (ra : Rd W W.heap.size Aa (u32s a)) :
    Calls Tryd.prog 34 #[.slice Aa a.length ca, .int .u32 (p : Int)] W (PE W (derP p (mnP p a))) :=
  (pDeriv_yes Aa ca a p W _ hpr hp hw (Nat.le_refl _) ra fa.1 fa.2).mono fun _ _ h => h.exact
theorem xEval {k p : Nat} {a : List Nat} (hpr : Pr p) (hp : p < 4294967296) (hk : k < 4294967296) (fa : Fit a) (W : World) (Aa : Option Addr) (ca : Nat) (hw : Bases W) (ra : Rd W W.heap.size Aa (u32s a)) :
    Calls Tryd.prog 33 #[.slice Aa a.length ca, .int .u32 (k : Int), .int .u32 (p : Int)] W (fun e w' => e = .returned (.tuple #[.int .u32 ((evN p (mnP p a) (k % p) : Nat) : Int), .int .i64 0]) ∧ Below W.heap.size W w') :=
  (pEval_yes Aa ca a k p W _ hpr hp hw (Nat.le_refl _) ra fa.1 fa.2 hk).mono fun _ _ ⟨v, h1, h2, h3⟩ => by
    injection h2 with h2
    subst h2
    exact ⟨h1, h3⟩
theorem yNorm {p : Nat} {a : List Nat} (hpr : Pr p) (hp : p < 4294967296)  (fa : Fit a) (W : World) (Aa : Option Addr) (ca : Nat) (ra : Rd W W.heap.size Aa (u32s a)) :
    Calls Tryd.prog 19 #[.slice Aa a.length ca, .int .u32 (p : Int)] W (PR1 W (mnP p a)) :=
  rnorm_any p Aa ca a W _ hpr.pos hp ra (Nat.le_refl _) (by have := fa.1; unfold Big; omega)
theorem yMonic {p : Nat} {a s : List Nat} (hpr : Pr p) (hp : p < 4294967296)  (fa : Fit a) (hm : MoOf p (mnP p a) s) (W : World) (Aa : Option Addr) (ca : Nat) (ra : Rd W W.heap.size Aa (u32s a)) :
    Calls Tryd.prog 23 #[.slice Aa a.length ca, .int .u32 (p : Int)] W (PR1 W s) :=
  (rpmonic_any p Aa ca a W _ hpr hp ra (Nat.le_refl _) (by have := fa.1; omega)).mono fun _ _ h => h.exact hpr hm
theorem yMul {p : Nat} {a b s : List Nat} (hpr : Pr p) (hp : p < 4294967296)  (fa : Fit a) (fb : Fit b) (hn : Nf p s) (hc : Cg p (zo s) (zo a * zo b)) (W : World) (Aa : Option Addr) (ca : Nat) (Ab : Option Addr) (cb : Nat) (ra : Rd W W.heap.size Aa (u32s a)) (rb : Rd W W.heap.size Ab (u32s b)) :
    Calls Tryd.prog 20 #[.slice Aa a.length ca, .slice Ab b.length cb, .int .u32 (p : Int)] W (PR1 W s) :=
  (rpmul_any p Aa Ab ca cb a b W _ hpr hp ra rb (Nat.le_refl _) fa.1 fb.1).mono fun _ _ h => h.exact hpr.pos hn hc
theorem yAdd {p : Nat} {a b s : List Nat} (hpr : Pr p) (hp : p < 4294967296)  (fa : Fit a) (fb : Fit b) (hn : Nf p s) (hc : Cg p (zo s) (zo a + zo b)) (W : World) (Aa : Option Addr) (ca : Nat) (Ab : Option Addr) (cb : Nat) (ra : Rd W W.heap.size Aa (u32s a)) (rb : Rd W W.heap.size Ab (u32s b)) :
    Calls Tryd.prog 24 #[.slice Aa a.length ca, .slice Ab b.length cb, .int .u32 (p : Int)] W (PR1 W s) :=
  (rpadd_any p Aa Ab ca cb a b W _ hpr.pos hp ra rb (Nat.le_refl _) (by have := fa.1; unfold Big; omega) (by have := fb.1; unfold Big; omega) fa.2 fb.2).mono fun _ _ h => h.exact hpr.pos hn hc
theorem ySub {p : Nat} {a b s : List Nat} (hpr : Pr p) (hp : p < 4294967296)  (fa : Fit a) (fb : Fit b) (hn : Nf p s) (hc : Cg p (zo s) (zo a - zo b)) (W : World) (Aa : Option Addr) (ca : Nat) (Ab : Option Addr) (cb : Nat) (ra : Rd W W.heap.size Aa (u32s a)) (rb : Rd W W.heap.size Ab (u32s b)) :
    Calls Tryd.prog 25 #[.slice Aa a.length ca, .slice Ab b.length cb, .int .u32 (p : Int)] W (PR1 W s) :=
  (rpsub_any p Aa Ab ca cb a b W _ hpr.pos hp ra rb (Nat.le_refl _) (by have := fa.1; unfold Big; omega) (by have := fb.1; unfold Big; omega) fa.2 fb.2).mono fun _ _ h => h.exact hpr.pos hn hc
theorem yScale {k p : Nat} {a s : List Nat} (hpr : Pr p) (hp : p < 4294967296) (hk : k < 4294967296) (fa : Fit a) (hn : Nf p s) (hc : Cg p (zo s) (zo a * .c k)) (W : World) (Aa : Option Addr) (ca : Nat) (ra : Rd W W.heap.size Aa (u32s a)) :
    Calls Tryd.prog 32 #[.slice Aa a.length ca, .int .u32 (k : Int), .int .u32 (p : Int)] W (PR1 W s) :=
  (rpscale_any p Aa ca k a W _ hpr.pos hp ra (Nat.le_refl _) (by have := fa.1; unfold Big; omega) fa.2 hk).mono fun _ _ h => h.exact hpr.pos hn hc
theorem yGcd {p : Nat} {a b s : List Nat} (hpr : Pr p) (hp : p < 4294967296)  (fa : Fit a) (fb : Fit b) (hm : Gc p (zo a) (zo b) s) (W : World) (Aa : Option Addr) (ca : Nat) (Ab : Option Addr) (cb : Nat) (ra : Rd W W.heap.size Aa (u32s a)) (rb : Rd W W.heap.size Ab (u32s b)) :
    Calls Tryd.prog 38 #[.slice Aa a.length ca, .slice Ab b.length cb, .int .u32 (p : Int)] W (PR1 W s) :=
  (rpgcd_any p Aa Ab ca cb a b W _ hpr hp ra rb (Nat.le_refl _) fa.1 fb.1).mono fun _ _ h => h.exact hpr hm
theorem yDeriv {p : Nat} {a : List Nat} (hpr : Pr p) (hp : p < 4294967296)  (fa : Fit a) (hl : a.length ≤ 4000000000) (W : World) (Aa : Option Addr) (ca : Nat) (ra : Rd W W.heap.size Aa (u32s a)) :
    Calls Tryd.prog 36 #[.slice Aa a.length ca, .int .u32 (p : Int)] W (PR1 W (derP p a)) :=
  rpderiv_any p Aa ca a W _ hpr.pos hp ra (Nat.le_refl _) hl fa.2
theorem yEval {k p : Nat} {a : List Nat} (hpr : Pr p) (hp : p < 4294967296) (hk : k < 4294967296) (fa : Fit a) (W : World) (Aa : Option Addr) (ca : Nat) (ra : Rd W W.heap.size Aa (u32s a)) :
    Calls Tryd.prog 37 #[.slice Aa a.length ca, .int .u32 (k : Int), .int .u32 (p : Int)] W (fun e w' => e = .returned (.int .u32 ((evN p a k : Nat) : Int)) ∧ Dr W w') :=
  rpeval_any p Aa ca a k W _ hpr.pos hp ra (by have := fa.1; unfold Big; omega) fa.2 hk
end
section
open Go.RowKit

set_option maxHeartbeats 400000 in
theorem psub_yes (a b p : Nat) (ha : a < 4294967296) (hb : b < 4294967296) (hp : Pr p) (hlt : p < 4294967296) (w : World) (hw : Bases w) :
    Calls Tryd.prog 70 #[.int .u32 (a : Int), .int .u32 (b : Int), .int .u32 (p : Int)] w fun r w' => r = .returned (.tuple #[.int .u32 (((a + (p - b % p)) % p : Nat) : Int), .int .i64 0]) ∧ w' = w := by
  have Hw := Lib.hid hw
  have Hi := Lib.hid (fun W hW => is_yes p hp hlt W hW)
  have hp0 := hp.1
  have hc : b % p < p := Nat.mod_lt _ (by omega)
  have t0 : (b : Int) % (p : Int) = ((b % p : Nat) : Int) := cast_mod b p
  obtain ⟨c, hce⟩ : ∃ c, c = b % p := ⟨_, rfl⟩
  rw [← hce] at hc t0 ⊢
  obtain ⟨d, hd⟩ : ∃ d, d = p - c := ⟨_, rfl⟩
  have td : (p : Int) - (c : Int) = (d : Int) := by omega
  have hd2 : d ≤ p := by omega
  rw [← hd]
  clear hce hd
  have hx := add_lt a d p (by omega)
  have t1 : ((a : Int) + (d : Int)) % (p : Int) = (((a + d) % p : Nat) : Int) := by rw [← cast_mod]; rfl
  obtain ⟨x, hxe⟩ : ∃ x, x = (a + d) % p := ⟨_, rfl⟩
  rw [← hxe] at hx t1 ⊢
  clear hxe
  have t2 : ((p : Int) == 0) = false := by simp; omega
  clear hw hp
  go_enter Tryd.func70, Tryd.ntmps70
  go_wp2_with fail
  refine (Hi.out _ Hw.out).mono ?_
  rintro _ _ ⟨rfl, rfl⟩
  go_wp2
  go_ret2
  exact ⟨rfl, rfl⟩

/-- A row reads as these nodes. -/
def NL (w : World) (A : Option Addr) (l : List (Nat × Nat)) : Prop := ∀ k (_ : k < l.length), ∃ b off, A = some ⟨b, off, none⟩ ∧ b < w.heap.size ∧ w.cell? ⟨b, off + k * 2, none⟩ = some (.int .u32 (l[k].1 : Int)) ∧ w.cell? ⟨b, off + k * 2 + 1, none⟩ = some (.int .u32 (l[k].2 : Int))
theorem NL.below {w w' : World} {A : Option Addr} {l : List (Nat × Nat)} (h : NL w A l) (hb : Below w.heap.size w w') : NL w' A l := fun k hk => by
  obtain ⟨b, off, e, hlt, h0, h1⟩ := h k hk
  exact ⟨b, off, e, Nat.lt_of_lt_of_le hlt hb.size, (hb.cell (p := ⟨b, _, none⟩) hlt).trans h0, (hb.cell (p := ⟨b, _, none⟩) hlt).trans h1⟩
theorem Z.val_mod {p : Nat} (a : Z) {x y : Int} (h : (p : Int) ∣ x - y) : (p : Int) ∣ a.v x - a.v y := by
  obtain ⟨q, hq⟩ := a.root y
  rw [hq x]
  obtain ⟨k, hk⟩ := h
  exact ⟨k * q.v x, by rw [hk]; grind⟩
/-- Between two nodes. -/
structure Ip (p : Nat) (l : List (Nat × Nat)) (out nod : List Nat) : Prop where
  no : Nf p out
  lo : out.length ≤ l.length
  nn : Nf p nod
  ln : nod.length ≤ l.length + 1
  at_ : ∀ n ∈ l, (p : Int) ∣ (zo out).v (n.1 : Int) - (n.2 : Int)
  zr : ∀ n ∈ l, (p : Int) ∣ (zo nod).v (n.1 : Int)
  nz : ∀ y : Int, (∀ n ∈ l, ¬ (p : Int) ∣ y - (n.1 : Int)) → ¬ (p : Int) ∣ (zo nod).v y
theorem Pr.not_one {p : Nat} (hp : Pr p) : ¬ (p : Int) ∣ 1 := fun h => by
  have := Int.le_of_dvd (by decide) h
  have := hp.two
  omega
theorem Ip.start {p : Nat} (hp : Pr p) : Ip p [] [] [1] where
  no := Nf.nil_ p
  lo := Nat.le_refl _
  nn := ⟨fun x hx => by have := hp.two; simp at hx; omega, by decide⟩
  ln := by simp
  at_ := fun _ h => by cases h
  zr := fun _ h => by cases h
  nz := fun y _ h => hp.not_one (by rw [zo_cons, zo_nil] at h; simpa using h)
/-- The height at a new place is not 0. -/
theorem Ip.height {p : Nat} {l : List (Nat × Nat)} {out nod : List Nat} (h : Ip p l out nod) (X : Nat) (hX : ∀ n ∈ l, ¬ (p : Int) ∣ (X : Int) - (n.1 : Int)) : ¬ p ∣ evN p nod (X % p) := fun hd => by
  have h1 := evN_cg p nod (X % p)
  obtain ⟨k, hk⟩ := mod_dvd X p
  have h2 := (zo nod).val_mod (p := p) (x := X) (y := ((X % p : Nat) : Int)) ⟨-k, by rw [Int.mul_neg]; omega⟩
  have h3 : (p : Int) ∣ ((evN p nod (X % p) : Nat) : Int) := Int.natCast_dvd_natCast.2 hd
  refine h.nz X hX ?_
  obtain ⟨a, ha⟩ := h1
  obtain ⟨b, hb⟩ := h2
  obtain ⟨c, hc⟩ := h3
  exact ⟨c - a + b, by rw [Int.mul_add, Int.mul_sub]; omega⟩
theorem Ip.step {p : Nat} (hp : Pr p) {l : List (Nat × Nat)} {out nod s out' nod' : List Nat} {X Y t : Nat} (h : Ip p l out nod) (hX : ∀ n ∈ l, ¬ (p : Int) ∣ (X : Int) - (n.1 : Int))
    (ht : t = (Y + (p - evN p out (X % p) % p)) % p * (evN p nod (X % p) ^ (p - 2) % p) % p) (hs : Cg p (zo s) (zo nod * .c t)) (no : Nf p out') (ho : Cg p (zo out') (zo out + zo s))
    (nn : Nf p nod') (hn : Cg p (zo nod') (zo nod * zo [(p - X % p) % p, 1])) : Ip p (l ++ [(X, Y)]) out' nod' := by
  have hlo : out'.length ≤ (l ++ [(X, Y)]).length := by
    refine no.len_le hp.pos (ho.trans ((Cg.refl _).add hs)) fun i hi => ?_
    rw [List.length_append] at hi
    simp at hi
    have h1 := h.lo
    have h2 := h.ln
    have e : (zo nod * Z.c (t : Int)).co i = 0 := by
      have := Z.co_of_v (a := zo nod * Z.c (t : Int)) (b := .c (t : Int) * zo nod) (fun x => by rw [Z.v_mul, Z.v_mul, Int.mul_comm]) i
      rw [this]
      show (mulI [(t : Int)] (zi nod)).getD i 0 = 0
      exact far_mulI _ _ i (by rw [zi_length]; simp; omega)
    rw [Z.co_add, zo_far (by omega), e]; exact Int.dvd_zero _
  have hln : nod'.length ≤ (l ++ [(X, Y)]).length + 1 := by
    have h2 := h.ln
    refine nn.len_le hp.pos hn fun i hi => ?_
    rw [List.length_append] at hi
    simp at hi
    rw [co_mul, cN_low' (by simp; omega)]; exact Int.dvd_zero _
  obtain ⟨kx, hkx⟩ := mod_dvd X p
  have hv : ∀ y : Int, (zo [(p - X % p) % p, 1]).v y = (((p - X % p) % p : Nat) : Int) + y := fun y => by rw [zo_cons, zo_cons, zo_nil]; simp
  have hpx : (p : Int) ∣ (((p - X % p) % p : Nat) : Int) + (X : Int) := by
    obtain ⟨k2, hk2⟩ := mod_dvd (p - X % p) p
    have hl : X % p < p := Nat.mod_lt _ hp.pos
    rw [Int.natCast_sub (by omega)] at hk2
    exact ⟨1 + k2 - kx, by rw [Int.mul_sub, Int.mul_add]; omega⟩
  refine ⟨no, hlo, nn, hln, fun n hmem => ?_, fun n hmem => ?_, fun y hy hd => ?_⟩
  · obtain ⟨a1, e1⟩ := ho.val n.1
    obtain ⟨a2, e2⟩ := hs.val n.1
    rw [Z.v_add] at e1
    rw [Z.v_mul, Z.v_c] at e2
    rcases List.mem_append.1 hmem with hm | hm
    · obtain ⟨a3, e3⟩ := h.at_ n hm
      obtain ⟨a4, e4⟩ := h.zr n hm
      refine ⟨a1 + a2 + a3 + a4 * t, ?_⟩
      rw [e4] at e2
      have : (p : Int) * (a1 + a2 + a3 + a4 * t) = p * a1 + p * a2 + p * a3 + p * a4 * t := by grind
      omega
    · obtain rfl := List.mem_singleton.1 hm
      have hh := h.height X hX
      have hi := hp.inv_right hh
      obtain ⟨i, hie⟩ : ∃ i, i = evN p nod (X % p) ^ (p - 2) % p := ⟨_, rfl⟩
      rw [← hie] at ht hi
      obtain ⟨hg, hge⟩ : ∃ hg, hg = evN p nod (X % p) := ⟨_, rfl⟩
      obtain ⟨o, hoe⟩ : ∃ o, o = evN p out (X % p) := ⟨_, rfl⟩
      have hol : o < p := by rw [hoe]; exact evN_lt hp.pos _ _
      have q1 := evN_cg p nod (X % p)
      have q2 := evN_cg p out (X % p)
      rw [← hge] at q1 hi
      rw [← hoe] at q2 ht
      rw [Nat.mod_eq_of_lt hol] at ht
      obtain ⟨b1, q1⟩ := q1
      obtain ⟨b2, q2⟩ := q2
      obtain ⟨b3, q3⟩ := (zo nod).val_mod (p := p) (x := X) (y := ((X % p : Nat) : Int)) ⟨-kx, by rw [Int.mul_neg]; omega⟩
      obtain ⟨b4, q4⟩ := (zo out).val_mod (p := p) (x := X) (y := ((X % p : Nat) : Int)) ⟨-kx, by rw [Int.mul_neg]; omega⟩
      obtain ⟨b5, q5⟩ := mod_dvd (hg * i) p
      rw [hi] at q5
      obtain ⟨lk, hlk⟩ : ∃ lk, lk = (Y + (p - o)) % p := ⟨_, rfl⟩
      rw [← hlk] at ht
      obtain ⟨b6, q6⟩ := mod_dvd (Y + (p - o)) p
      rw [← hlk, Int.natCast_add, Int.natCast_sub (by omega)] at q6
      obtain ⟨b7, q7⟩ := mod_dvd (lk * i) p
      rw [← ht, Int.natCast_mul] at q7
      rw [Int.natCast_mul] at q5
      have r1 : (zo nod).v (X : Int) = (hg : Int) + p * (b3 - b1) := by rw [Int.mul_sub]; omega
      have r2 : (zo out).v (X : Int) = (o : Int) + p * (b4 - b2) := by rw [Int.mul_sub]; omega
      have r3 : (t : Int) = lk * i + p * b7 := by omega
      have r4 : (hg : Int) * i = 1 - p * b5 := by rw [← q5]; omega
      have r5 : (lk : Int) = Y + (p - o) + p * b6 := by omega
      have r6 : (hg : Int) * (lk * i) = lk - p * (b5 * lk) := by
        have : (hg : Int) * (lk * i) = lk * (hg * i) := by grind
        rw [this, r4]; grind
      have r7 : (zo nod).v (X : Int) * t = lk + p * (hg * b7 - b5 * lk + (b3 - b1) * t) := by
        rw [r1]
        have : ((hg : Int) + p * (b3 - b1)) * t = hg * t + p * ((b3 - b1) * t) := by grind
        rw [this]
        have : (hg : Int) * t = hg * (lk * i) + p * (hg * b7) := by rw [r3]; grind
        rw [this, r6]; grind
      simp only at e1 e2
      rw [r7] at e2
      rw [r2] at e1
      refine ⟨a1 + a2 + (b4 - b2) + (hg * b7 - b5 * lk + (b3 - b1) * t) + 1 + b6, ?_⟩
      show (zo out').v (X : Int) - (Y : Int) = _
      obtain ⟨m1, hm1⟩ : ∃ m1, m1 = (p : Int) * (hg * b7 - b5 * lk + (b3 - b1) * t) := ⟨_, rfl⟩
      obtain ⟨m2, hm2⟩ : ∃ m2, m2 = (p : Int) * (b4 - b2) := ⟨_, rfl⟩
      have : (p : Int) * (a1 + a2 + (b4 - b2) + (hg * b7 - b5 * lk + (b3 - b1) * t) + 1 + b6) = p * a1 + p * a2 + m2 + m1 + p + p * b6 := by rw [hm1, hm2]; grind
      rw [this]
      rw [← hm1] at e2
      rw [← hm2] at e1
      omega
  · obtain ⟨a1, e1⟩ := hn.val n.1
    rw [Z.v_mul, hv] at e1
    rcases List.mem_append.1 hmem with hm | hm
    · obtain ⟨a4, e4⟩ := h.zr n hm
      rw [e4] at e1
      exact ⟨a1 + a4 * ((((p - X % p) % p : Nat) : Int) + (n.1 : Int)), by grind⟩
    · obtain rfl := List.mem_singleton.1 hm
      obtain ⟨a4, e4⟩ := hpx
      simp only at e1
      rw [e4] at e1
      exact ⟨a1 + (zo nod).v (X : Int) * a4, by grind⟩
  · obtain ⟨a1, e1⟩ := hn.val y
    rw [Z.v_mul, hv] at e1
    obtain ⟨a2, e2⟩ := hd
    have hd2 : (p : Int) ∣ (zo nod).v y * ((((p - X % p) % p : Nat) : Int) + y) := ⟨a2 - a1, by rw [Int.mul_sub]; omega⟩
    rcases hp.int_mul hd2 with h1 | h1
    · exact h.nz y (fun n hn => hy n (List.mem_append_left _ hn)) h1
    · obtain ⟨a4, e4⟩ := hpx
      obtain ⟨a5, e5⟩ := h1
      exact hy (X, Y) (List.mem_append_right _ (List.mem_singleton.2 rfl)) ⟨a5 - a4, by rw [Int.mul_sub]; show y - (X : Int) = _; omega⟩
end
end Go.Proofs.YtddhhndnkjajmaaDoor
