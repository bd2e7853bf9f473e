/- The contract of the reference's Copy; an append that is known whole; steps that keep limbs. No conditions beyond the sizes. Variables behind new blocks. No conditions. -/
import Derived.Test.YtanlejlmckdeiaaGreatPkZs29
import Derived.Test.YtanlejlmckdeiaaGreatPkZs17
namespace Go.Proofs.YtanlejlmckdeiaaGreat
section
open Go.RowKit

/-- A slice at the head of a row of limbs of the call's own, whatever its room. -/
def Rs (w : World) (B : Nat) (A : Option Addr) (vs : List Value) : Prop := vs ≠ [] → ∃ g rest, A = some ⟨g, 0, none⟩ ∧ B ≤ g ∧ Blk w g 36 (vs ++ rest)
section
variable {w w' : World} {B B2 g : Nat} {A : Option Addr} {vs : List Value} {x y : Value}
theorem Res.rs {c : Nat} (h : Res w B 36 A c vs) : Rs w B A vs := fun hn => by
  obtain ⟨g, rest, e, hg, hk, _⟩ := h.2.2 hn
  exact ⟨g, rest, e, hg, hk⟩
theorem Rs.rd (h : Rs w B A vs) : Rd w w.heap.size A vs := fun hn => by
  obtain ⟨g, rest, rfl, _, hb⟩ := h hn
  exact Rd.of_blk hb hb.lt 0 (fun k v hv => by
    rw [Nat.zero_add, List.getElem?_append_left (List.getElem?_eq_some_iff.1 hv).1]; exact hv) hn
theorem Rs.next (h : Rs w B A vs) (hb : Below w.heap.size w w') : Rs w' B A vs := fun hn => by
  obtain ⟨g, rest, e, hg, hk⟩ := h hn
  exact ⟨g, rest, e, hg, hk.below hb hk.lt⟩
theorem Rs.mono (h : Rs w B A vs) (hB : B2 ≤ B) : Rs w B2 A vs := fun hn => by
  obtain ⟨g, rest, e, hg, hk⟩ := h hn
  exact ⟨g, rest, e, by omega, hk⟩
theorem Rs.al (h : Rs w B A vs) (o : Obj) : Rs (w.alloc o) B A vs := h.next ((Below.refl _ _).alloc (Nat.le_refl _) o)
theorem Rs.dw (h : Rs w B A vs) : Rs w.drew B A vs := h
theorem Rs.dn (h : Rs w B A vs) (n : Nat) : Rs (w.drewN n) B A vs := h
theorem Rs.var2 (h : Rs w B A vs) (hB : Blk w g 25 [x, y]) (u v : Value) : Rs ((w.setCell ⟨g, 0, none⟩ u).setCell ⟨g, 1, none⟩ v) B A vs := fun hn => by
  obtain ⟨b, rest, e, hb, hk⟩ := h hn
  have hne : b ≠ g := by
    rintro rfl
    unfold Blk at hk hB
    rw [hk] at hB
    have hB2 := Option.some.inj hB
    injection hB2 with _ e2 _
    exact type_ne e2
  exact ⟨b, rest, e, hb, (hk.far (p := ⟨g, 0, none⟩) hne _).far (p := ⟨g, 1, none⟩) hne _⟩
end
theorem own_rs {w : World} {base : Nat} {v : Value} {n : Nat} {xs : List Value} (h : w.ownsRow base 36 1 v n xs) : ∃ A c, v = .slice A n c ∧ n ≤ c ∧ Rs w base A xs := by
  obtain ⟨hl, h1 | ⟨g, cap, cur, rfl, hg, hh, hnc, hcm, hsz, ht⟩⟩ := h
  · obtain ⟨rfl, rfl⟩ := h1
    have : xs = [] := List.eq_nil_of_length_eq_zero (by simpa using hl)
    subst this
    exact ⟨none, 0, rfl, Nat.le_refl _, fun h => absurd rfl h⟩
  · have hl' : xs.length = n := by simpa using hl
    have hb : Blk w g 36 cur.toList := by simpa [Blk] using hh
    have e1 : cur.toList = xs ++ cur.toList.drop xs.length := by
      conv => lhs; rw [← List.take_append_drop xs.length cur.toList]
      congr 1
      rw [hl']; simpa using ht
    exact ⟨_, cap, rfl, hnc, fun _ => ⟨g, cur.toList.drop xs.length, rfl, hg, by rw [← e1]; exact hb⟩⟩
theorem res_al {w : World} {B : Nat} {t : TypeId} {A : Option Addr} {c : Nat} {vs : List Value} (h : Res w B t A c vs) (o : Obj) : Res (w.alloc o) B t A c vs := h.below ((Below.refl _ _).alloc (Nat.le_refl _) o) (Nat.le_refl _)
theorem res_dw {w : World} {B : Nat} {t : TypeId} {A : Option Addr} {c : Nat} {vs : List Value} (h : Res w B t A c vs) : Res w.drew B t A c vs := h
theorem res_dn {w : World} {B n : Nat} {t : TypeId} {A : Option Addr} {c : Nat} {vs : List Value} (h : Res w B t A c vs) : Res (w.drewN n) B t A c vs := h
set_option maxRecDepth 20000 in
set_option maxHeartbeats 1600000 in
theorem copy_any {w : World} {g : Bool} {A : Option Addr} {c : Nat} {xs : List Nat} (hr : Rd w w.heap.size A (u32s xs)) (hm : xs.length ≤ 35184372088000) :
    Calls Tryz.prog 7 #[.agg #[.bool g, .slice A xs.length c]] w fun e w' => ∃ A' c', e = .returned (.agg #[.bool g, .slice A' xs.length c']) ∧ xs.length ≤ c' ∧ Rs w' w.heap.size A' (u32s xs) ∧ Below w.heap.size w w' := by
  have k0 := bel_two w (.cells #[.bool g, .slice A xs.length c] 25) (.cells #[.bool false, .slice none 0 0] 25)
  obtain ⟨b0, b1⟩ := blk_pair2 w (.bool g) (.slice A xs.length c) (.bool false) (.slice none 0 0)
  obtain ⟨i0, hi, hz0, hz1, hz2⟩ := info_parts Tryz.info32
  go_enter Tryz.func7, Tryz.ntmps7
  go_wp2_with fail
  obtain ⟨w0, hw0⟩ : ∃ w0, w0 = (w.alloc (.cells #[.bool g, .slice A xs.length c] 25)).alloc (.cells #[.bool false, .slice none 0 0] 25) := ⟨_, rfl⟩
  rw [← hw0] at b0 b1 k0 ⊢
  clear hw0
  have RW : Hid (∀ W (_ : Below w0.heap.size w0 W), Rd W w.heap.size A (u32s xs)) := fun W hW => hr.below (bst k0 hW (Nat.le_refl _))
  have B0 := Lib.hid b0
  have B1 := Lib.hid b1
  have K0 := Lib.hid k0
  have s0 : w.heap.size ≤ w0.heap.size := k0.size
  obtain ⟨p0, p1, _, _⟩ := b0.two
  obtain ⟨q0, q1, q2, q3⟩ := b1.two
  have n1 : w.heap.size ≠ w.heap.size + 1 := by omega
  have n2 : w.heap.size + 1 ≠ w.heap.size := by omega
  have q8 : w.heap.size < w0.heap.size := b0.lt
  have q9 : w.heap.size + 1 < w0.heap.size := b1.lt
  clear b0 b1 k0 hr
  go_region_held3 (fun W => W.cell? ⟨w.heap.size, 0, none⟩ = some (.bool g) ∧ W.cell? ⟨w.heap.size, 1, none⟩ = some (.slice A xs.length c)) (go_keep) (first
      | (refine step_app rfl (.tmp 5) (.tmp 7) 23 rfl 36 i0 (.int .u32 0) 4 Tryz.underlying23 hi hz0 hz1 hz2 rfl w0.heap.size 0 A xs.length c (by simp [Act.eval]) (by simp [Act.eval]) [] (u32s xs) w.heap.size (by first | exact Blk.new_ rfl | exact (Blk.new_ rfl).drew | exact (Blk.new_ rfl).drewN _) rfl (RW.out _ (by first | exact bal (Below.refl _ _) (Nat.le_refl _) _ | exact bdw (bal (Below.refl _ _) (Nat.le_refl _) _) | exact bdn (bal (Below.refl _ _) (Nat.le_refl _) _) _)) (u32s_length _) (one_u32s _) (by omega) (by omega) ?_; intro v' w1 hown hgr; obtain ⟨A', c', rfl, hcap, hrs⟩ := own_rs hown; have j1 : Below w0.heap.size w0 w1 := (by first | exact (bdw (bal (Below.refl _ _) (Nat.le_refl _) _)).trans (below_grown hgr (Nat.le_refl _) (by simp)) | exact (bal (Below.refl _ _) (Nat.le_refl _) _).trans (below_grown hgr (Nat.le_refl _) (by simp)) | exact (bdn (bal (Below.refl _ _) (Nat.le_refl _) _) _).trans (below_grown hgr (Nat.le_refl _) (by simp))); obtain ⟨x0, x1, _, _⟩ := (B0.out.below j1 B0.out.lt).two; obtain ⟨y0, y1, y2, y3⟩ := (B1.out.below j1 B1.out.lt).two))
  all_goals
    go_wp2_with fail
    have hB := B1.out.below j1 B1.out.lt
    have hrs2 := (hrs.var2 hB (.bool g) (.slice A' xs.length c')).mono s0
    refine bodyPost_ret (results_cell_row rfl _ _ (w.heap.size + 1) 25 _ (0, 0) _ rfl (blk_pair hB _ _) Tryz.underlying25 rfl (by kernel_rfl)) rfl ⟨A', c', rfl, by omega, ?_, bsc (bsc (bst K0.out j1 (Nat.le_refl _)) (by omega) _) (by omega) _⟩
    exact hrs2
end
section
open Go.RowKit

theorem two_al {w : World} {g : Nat} {t : TypeId} {x y : Value} (h : Blk w g t [x, y]) : (∀ o : Obj, (w.alloc o).cell? ⟨g, 0, none⟩ = some x) ∧ (∀ o : Obj, (w.alloc o).cell? ⟨g, 1, none⟩ = some y) ∧ (∀ o : Obj, (w.alloc o).frozen? ⟨g, 0, none⟩ = false) ∧ (∀ o : Obj, (w.alloc o).frozen? ⟨g, 1, none⟩ = false) :=
  ⟨fun o => (h.heapAlloc o).c0, fun o => (h.heapAlloc o).c1, fun o => (h.heapAlloc o).frozen 0, fun o => (h.heapAlloc o).frozen 1⟩
theorem two_al2 {w : World} {g : Nat} {t : TypeId} {x y : Value} (h : Blk w g t [x, y]) : (∀ o o2 : Obj, ((w.alloc o).alloc o2).cell? ⟨g, 0, none⟩ = some x) ∧ (∀ o o2 : Obj, ((w.alloc o).alloc o2).cell? ⟨g, 1, none⟩ = some y) ∧ (∀ o o2 : Obj, ((w.alloc o).alloc o2).frozen? ⟨g, 0, none⟩ = false) ∧ (∀ o o2 : Obj, ((w.alloc o).alloc o2).frozen? ⟨g, 1, none⟩ = false) :=
  ⟨fun o o2 => ((h.heapAlloc o).heapAlloc o2).c0, fun o o2 => ((h.heapAlloc o).heapAlloc o2).c1, fun o o2 => ((h.heapAlloc o).heapAlloc o2).frozen 0, fun o o2 => ((h.heapAlloc o).heapAlloc o2).frozen 1⟩
theorem res_al9 {w : World} {B : Nat} {t : TypeId} {A : Option Addr} {c : Nat} {vs : List Value} (h : Res w B t A c vs) (o : Obj) : Res (w.alloc o) B t A c vs := h.below ((Below.refl _ _).alloc (Nat.le_refl _) o) (Nat.le_refl _)
/-- What a call leaves, off an earlier world. -/
theorem bel_pre {w0 w w' : World} (hb : Below w.heap.size w w') (h : Below w0.heap.size w0 w) : Below w0.heap.size w0 w' := bst h hb (Nat.le_refl _)
end
end Go.Proofs.YtanlejlmckdeiaaGreat
