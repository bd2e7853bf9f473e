/- The contract of the reference's Copy; an append that is known whole; steps that keep limbs. No conditions beyond the sizes. The contract of the reference's CopyAll over a row of integers. Conditions: at most 2^20 limbs in all, at most 2^20 numbers. The contract of the reference's SameAll over two rows of integers that are the same. Conditions: at most 2^20 limbs in all, at most 2^20 numbers. A drawn region whose last operations stand in one order: a condition on the worlds holds till the head has come up; what it fixes may be taken first. No conditions. -/
import Derived.Test.YtanlejlmckdeiaaGreatDoorPkZk33
import Derived.Test.YtanlejlmckdeiaaGreatDoorPkZk32
import Derived.Test.YtanlejlmckdeiaaGreatDoorPkZk14
import Derived.Deep.RegionHeld
namespace Go.Proofs.YtanlejlmckdeiaaGreatDoor
section
open Go.RowKit

/-- A slice at the head of a row of limbs of the call's own, whatever its room. -/
def Rs (w : World) (B : Nat) (A : Option Addr) (vs : List Value) : Prop := vs ≠ [] → ∃ g rest, A = some ⟨g, 0, none⟩ ∧ B ≤ g ∧ Blk w g 61 (vs ++ rest)
section
variable {w w' : World} {B B2 g : Nat} {A : Option Addr} {vs : List Value} {x y : Value}
theorem Res.rs {c : Nat} (h : Res w B 61 A c vs) : Rs w B A vs := fun hn => by
  obtain ⟨g, rest, e, hg, hk, _⟩ := h.2.2 hn
  exact ⟨g, rest, e, hg, hk⟩
theorem Rs.rd (h : Rs w B A vs) : Rd w w.heap.size A vs := fun hn => by
  obtain ⟨g, rest, rfl, _, hb⟩ := h hn
  exact Rd.of_blk hb hb.lt 0 (fun k v hv => by
    rw [Nat.zero_add, List.getElem?_append_left (List.getElem?_eq_some_iff.1 hv).1]; exact hv) hn
theorem Rs.next (h : Rs w B A vs) (hb : Below w.heap.size w w') : Rs w' B A vs := fun hn => by
  obtain ⟨g, rest, e, hg, hk⟩ := h hn
  exact ⟨g, rest, e, hg, hk.below hb hk.lt⟩
theorem Rs.mono (h : Rs w B A vs) (hB : B2 ≤ B) : Rs w B2 A vs := fun hn => by
  obtain ⟨g, rest, e, hg, hk⟩ := h hn
  exact ⟨g, rest, e, by omega, hk⟩
theorem Rs.al (h : Rs w B A vs) (o : Obj) : Rs (w.alloc o) B A vs := h.next ((Below.refl _ _).alloc (Nat.le_refl _) o)
theorem Rs.dw (h : Rs w B A vs) : Rs w.drew B A vs := h
theorem Rs.dn (h : Rs w B A vs) (n : Nat) : Rs (w.drewN n) B A vs := h
theorem Rs.var2 (h : Rs w B A vs) (hB : Blk w g 28 [x, y]) (u v : Value) : Rs ((w.setCell ⟨g, 0, none⟩ u).setCell ⟨g, 1, none⟩ v) B A vs := fun hn => by
  obtain ⟨b, rest, e, hb, hk⟩ := h hn
  have hne : b ≠ g := by
    rintro rfl
    unfold Blk at hk hB
    rw [hk] at hB
    have hB2 := Option.some.inj hB
    injection hB2 with _ e2 _
    exact type_ne e2
  exact ⟨b, rest, e, hb, (hk.far (p := ⟨g, 0, none⟩) hne _).far (p := ⟨g, 1, none⟩) hne _⟩
end
theorem own_rs {w : World} {base : Nat} {v : Value} {n : Nat} {xs : List Value} (h : w.ownsRow base 61 1 v n xs) : ∃ A c, v = .slice A n c ∧ n ≤ c ∧ Rs w base A xs := by
  obtain ⟨hl, h1 | ⟨g, cap, cur, rfl, hg, hh, hnc, hcm, hsz, ht⟩⟩ := h
  · obtain ⟨rfl, rfl⟩ := h1
    have : xs = [] := List.eq_nil_of_length_eq_zero (by simpa using hl)
    subst this
    exact ⟨none, 0, rfl, Nat.le_refl _, fun h => absurd rfl h⟩
  · have hl' : xs.length = n := by simpa using hl
    have hb : Blk w g 61 cur.toList := by simpa [Blk] using hh
    have e1 : cur.toList = xs ++ cur.toList.drop xs.length := by
      conv => lhs; rw [← List.take_append_drop xs.length cur.toList]
      congr 1
      rw [hl']; simpa using ht
    exact ⟨_, cap, rfl, hnc, fun _ => ⟨g, cur.toList.drop xs.length, rfl, hg, by rw [← e1]; exact hb⟩⟩
theorem res_al {w : World} {B : Nat} {t : TypeId} {A : Option Addr} {c : Nat} {vs : List Value} (h : Res w B t A c vs) (o : Obj) : Res (w.alloc o) B t A c vs := h.below ((Below.refl _ _).alloc (Nat.le_refl _) o) (Nat.le_refl _)
theorem res_dw {w : World} {B : Nat} {t : TypeId} {A : Option Addr} {c : Nat} {vs : List Value} (h : Res w B t A c vs) : Res w.drew B t A c vs := h
theorem res_dn {w : World} {B n : Nat} {t : TypeId} {A : Option Addr} {c : Nat} {vs : List Value} (h : Res w B t A c vs) : Res (w.drewN n) B t A c vs := h
set_option maxRecDepth 20000 in
set_option maxHeartbeats 1600000 in
theorem copy_any {w : World} {g : Bool} {A : Option Addr} {c : Nat} {xs : List Nat} (hr : Rd w w.heap.size A (u32s xs)) (hm : xs.length ≤ 35184372088000) :
    Calls Tryz.prog 35 #[.agg #[.bool g, .slice A xs.length c]] w fun e w' => ∃ A' c', e = .returned (.agg #[.bool g, .slice A' xs.length c']) ∧ xs.length ≤ c' ∧ Rs w' w.heap.size A' (u32s xs) ∧ Below w.heap.size w w' := by
  have k0 := bel_two w (.cells #[.bool g, .slice A xs.length c] 28) (.cells #[.bool false, .slice none 0 0] 28)
  obtain ⟨b0, b1⟩ := blk_pair2 w (.bool g) (.slice A xs.length c) (.bool false) (.slice none 0 0)
  obtain ⟨i0, hi, hz0, hz1, hz2⟩ := info_parts Tryz.info32
  go_enter Tryz.func35, Tryz.ntmps35
  go_wp2_with fail
  obtain ⟨w0, hw0⟩ : ∃ w0, w0 = (w.alloc (.cells #[.bool g, .slice A xs.length c] 28)).alloc (.cells #[.bool false, .slice none 0 0] 28) := ⟨_, rfl⟩
  rw [← hw0] at b0 b1 k0 ⊢
  clear hw0
  have RW : Hid (∀ W (_ : Below w0.heap.size w0 W), Rd W w.heap.size A (u32s xs)) := fun W hW => hr.below (bst k0 hW (Nat.le_refl _))
  have B0 := Lib.hid b0
  have B1 := Lib.hid b1
  have K0 := Lib.hid k0
  have s0 : w.heap.size ≤ w0.heap.size := k0.size
  obtain ⟨p0, p1, _, _⟩ := b0.two
  obtain ⟨q0, q1, q2, q3⟩ := b1.two
  have n1 : w.heap.size ≠ w.heap.size + 1 := by omega
  have n2 : w.heap.size + 1 ≠ w.heap.size := by omega
  have q8 : w.heap.size < w0.heap.size := b0.lt
  have q9 : w.heap.size + 1 < w0.heap.size := b1.lt
  clear b0 b1 k0 hr
  go_region_held3 (fun W => W.cell? ⟨w.heap.size, 0, none⟩ = some (.bool g) ∧ W.cell? ⟨w.heap.size, 1, none⟩ = some (.slice A xs.length c)) (go_keep) (first
      | (refine step_app rfl (.tmp 5) (.tmp 7) 26 rfl 61 i0 (.int .u32 0) 4 Tryz.underlying26 hi hz0 hz1 hz2 rfl w0.heap.size 0 A xs.length c (by simp [Act.eval]) (by simp [Act.eval]) [] (u32s xs) w.heap.size (by first | exact Blk.new_ rfl | exact (Blk.new_ rfl).drew | exact (Blk.new_ rfl).drewN _) rfl (RW.out _ (by first | exact bal (Below.refl _ _) (Nat.le_refl _) _ | exact bdw (bal (Below.refl _ _) (Nat.le_refl _) _) | exact bdn (bal (Below.refl _ _) (Nat.le_refl _) _) _)) (u32s_length _) (one_u32s _) (by omega) (by omega) ?_; intro v' w1 hown hgr; obtain ⟨A', c', rfl, hcap, hrs⟩ := own_rs hown; have j1 : Below w0.heap.size w0 w1 := (by first | exact (bdw (bal (Below.refl _ _) (Nat.le_refl _) _)).trans (below_grown hgr (Nat.le_refl _) (by simp)) | exact (bal (Below.refl _ _) (Nat.le_refl _) _).trans (below_grown hgr (Nat.le_refl _) (by simp)) | exact (bdn (bal (Below.refl _ _) (Nat.le_refl _) _) _).trans (below_grown hgr (Nat.le_refl _) (by simp))); obtain ⟨x0, x1, _, _⟩ := (B0.out.below j1 B0.out.lt).two; obtain ⟨y0, y1, y2, y3⟩ := (B1.out.below j1 B1.out.lt).two))
  all_goals
    go_wp2_with fail
    have hB := B1.out.below j1 B1.out.lt
    have hrs2 := (hrs.var2 hB (.bool g) (.slice A' xs.length c')).mono s0
    refine bodyPost_ret (results_cell_row rfl _ _ (w.heap.size + 1) 28 _ (0, 0) _ rfl (blk_pair hB _ _) Tryz.underlying28 rfl (by kernel_rfl)) rfl ⟨A', c', rfl, by omega, ?_, bsc (bsc (bst K0.out j1 (Nat.le_refl _)) (by omega) _) (by omega) _⟩
    exact hrs2
end
section
open Go.RowKit

theorem rs_far {w : World} {B g i : Nat} {A : Option Addr} {vs us : List Value} (h : Rs w B A vs) (hB : Blk w g 28 us) (u : Value) : Rs (w.setCell ⟨g, i, none⟩ u) B A vs := fun hn => by
  obtain ⟨b, rest, e, hb, hk⟩ := h hn
  refine ⟨b, rest, e, hb, hk.far (p := ⟨g, i, none⟩) ?_ u⟩
  rintro rfl
  unfold Blk at hk hB
  rw [hk] at hB
  have hB2 := Option.some.inj hB
  injection hB2 with _ e2 _
  exact type_ne e2
theorem rs_far2 {w : World} {B g i j : Nat} {A : Option Addr} {vs us : List Value} (h : Rs w B A vs) (hB : Blk w g 28 us) (u v : Value) : Rs ((w.setCell ⟨g, i, none⟩ u).setCell ⟨g, j, none⟩ v) B A vs :=
  rs_far (rs_far h hB u) (hB.set_ i u) v
theorem Tryz.infoInt : (Tryz.prog.info? 28).map (fun i => (i.zero, i.size, i.bytes)) = some (some (.agg #[.bool false, .slice none 0 0]), 2, 32) := by kernel_rfl
theorem mkInts (n : Nat) (h : n ≤ 1048576) (w : World) : ∃ vals : List Value, vals.length = n * 2 ∧ (Instr.makeSlice 22 (.int .i64 (n : Int)) (.int .i64 (n : Int))).run Tryz.prog w = .ok (.slice (some ⟨w.heap.size, 0, none⟩) n n) (w.alloc (.cells vals.toArray 28)) := by
  obtain ⟨i0, hi, hz0, hz1, hz2⟩ := info_parts Tryz.infoInt
  have hr := run_make (P := Tryz.prog) w 22 28 i0 (.agg #[.bool false, .slice none 0 0]) Tryz.underlying22 hi hz0 .i64 .i64 n n (by omega) (by omega) (by rw [hz2]; omega) (by omega)
  rw [hz1, Int.toNat_natCast] at hr
  exact ⟨(madeCells (Value.agg #[.bool false, .slice none 0 0]).cells (n * 2)).toList, by rw [Array.length_toList, size_madeCells], by simpa using hr⟩
/-- A row of copies, of which k are laid. -/
structure Cp (w0 w : World) (g : Nat) (l : List ZE1) (k : Nat) : Prop where
  ex : ∃ vals : List Value, vals.length = l.length * 2 ∧ Blk w g 28 vals ∧ ∀ j (_ : j < l.length), j < k → ∃ A c, vals[j * 2]? = some (.bool l[j].g) ∧ vals[j * 2 + 1]? = some (.slice A l[j].xs.length c) ∧ l[j].xs.length ≤ c ∧ Rs w w0.heap.size A (u32s l[j].xs)
  bel : Below w0.heap.size w0 w
theorem Cp.next {w0 w w' : World} {g k : Nat} {l : List ZE1} (h : Cp w0 w g l k) (hb : Below w.heap.size w w') : Cp w0 w' g l k := by
  obtain ⟨vals, h1, h2, h3⟩ := h.ex
  refine ⟨⟨vals, h1, h2.below hb h2.lt, fun j hj hk => ?_⟩, bst h.bel hb (Nat.le_refl _)⟩
  obtain ⟨A, c, e0, e1, hc, hr⟩ := h3 j hj hk
  exact ⟨A, c, e0, e1, hc, hr.next hb⟩
theorem Cp.put {w0 w : World} {g k : Nat} {l : List ZE1} (h : Cp w0 w g l k) (hk : k < l.length) (hg : w0.heap.size ≤ g) {A : Option Addr} {c : Nat} (hc : l[k].xs.length ≤ c) (hr : Rs w w0.heap.size A (u32s l[k].xs)) :
    Cp w0 ((w.setCell ⟨g, k * 2, none⟩ (.bool l[k].g)).setCell ⟨g, k * 2 + 1, none⟩ (.slice A l[k].xs.length c)) g l (k + 1) := by
  obtain ⟨vals, h1, h2, h3⟩ := h.ex
  refine ⟨⟨_, ?_, (h2.set_ (k * 2) (.bool l[k].g)).set_ (k * 2 + 1) (.slice A l[k].xs.length c), fun j hj hk1 => ?_⟩, bsc (bsc h.bel hg _) hg _⟩
  · simp [h1]
  · rcases Nat.lt_or_ge j k with hlt | hge
    · obtain ⟨A', c', e0, e1, hc', hr'⟩ := h3 j hj hlt
      refine ⟨A', c', ?_, ?_, hc', rs_far2 hr' h2 _ _⟩
      · rw [List.getElem?_set_ne (by omega), List.getElem?_set_ne (by omega)]; exact e0
      · rw [List.getElem?_set_ne (by omega), List.getElem?_set_ne (by omega)]; exact e1
    · obtain rfl : j = k := by omega
      refine ⟨A, c, ?_, ?_, hc, rs_far2 hr h2 _ _⟩
      · rw [List.getElem?_set_ne (by omega), List.getElem?_set_self (by omega)]
      · rw [List.getElem?_set_self (by simp; omega)]
/-- The row of copies reads as the row that was copied. -/
theorem Cp.done {w0 w w1 : World} {N g : Nat} {A0 : Option Addr} {l : List ZE1} (h : Cp w0 w g l l.length) (hz : ZR w1 N A0 l) : ∃ l' : List ZE1, l'.length = l.length ∧ ZR w N (some ⟨g, 0, none⟩) l' ∧ ∀ k (h1 : k < l'.length) (h2 : k < l.length), l'[k].g = l[k].g ∧ l'[k].xs = l[k].xs ∧ l'[k].z = l[k].z := by
  obtain ⟨vals, h1, h2, h3⟩ := h.ex
  have each : ∀ i, i < l.length → ∃ e : ZE1, ∃ hi : i < l.length, e.g = l[i].g ∧ e.xs = l[i].xs ∧ e.z = l[i].z ∧ vals[i * 2]? = some (.bool e.g) ∧ vals[i * 2 + 1]? = some (.slice e.A e.xs.length e.c) ∧ Zh w e.g e.A e.c e.xs e.z N := fun i hi => by
    obtain ⟨A, c, e0, e1, hc, hr⟩ := h3 i hi hi
    obtain ⟨_, _, _, _, _, _, hh⟩ := hz.zl i hi
    exact ⟨⟨l[i].g, A, c, l[i].xs, l[i].z⟩, hi, rfl, rfl, rfl, e0, e1, ⟨⟨hh.hv.dig, hh.hv.val_, hr.rd, hc, hh.hv.len⟩, hh.sg⟩⟩
  obtain ⟨L, hL, hP⟩ := list_of_each l.length each
  refine ⟨L, hL, ⟨fun k hk => ?_, ?_⟩, fun k k1 k2 => ?_⟩
  · obtain ⟨_, _, _, _, e0, e1, hh⟩ := hP k hk
    refine ⟨g, 0, rfl, h2.lt, ?_, ?_, hh⟩
    · rw [h2.cell, Nat.zero_add]; exact e0
    · rw [h2.cell, Nat.zero_add]; exact e1
  · rw [hL, lens_same hL (fun k k1 k2 => (hP k k1).2.2.1) l.length (Nat.le_refl _)]
    exact hz.all
  · obtain ⟨_, a1, a2, a3, _⟩ := hP k k1
    exact ⟨a1, a2, a3⟩
set_option maxHeartbeats 6400000 in
theorem copyall_any {w : World} {N : Nat} {A : Option Addr} {c : Nat} (l : List ZE1) (h : ZR w N A l) (hN : N ≤ 1048576) (hlen : l.length ≤ 1048576) :
    Calls Tryz.prog 6 #[.slice A l.length c] w fun e w' => ∃ (g : Nat) (l' : List ZE1), e = .returned (.slice (some ⟨g, 0, none⟩) l.length l.length) ∧ l'.length = l.length ∧ ZR w' N (some ⟨g, 0, none⟩) l' ∧ (∀ k (h1 : k < l'.length) (h2 : k < l.length), l'[k].g = l[k].g ∧ l'[k].xs = l[k].xs ∧ l'[k].z = l[k].z) ∧ Below w.heap.size w w' := by
  obtain ⟨vals, hv, hmk⟩ : ∃ vals : List Value, vals.length = l.length * 2 ∧ (Instr.makeSlice 22 (.int .i64 (l.length : Int)) (.int .i64 (l.length : Int))).run Tryz.prog w = .ok (.slice (some ⟨w.heap.size, 0, none⟩) l.length l.length) (w.alloc (.cells vals.toArray 28)) := mkInts l.length hlen w
  have cp0 : Cp w (w.alloc (.cells vals.toArray 28)) w.heap.size l 0 := ⟨⟨vals, hv, Blk.new_ rfl, fun j _ hj => by omega⟩, bel_one _ _⟩
  have H := Lib.hid h
  clear h hv
  go_enter Tryz.func6, Tryz.ntmps6
  go_wp2_with (rw [hmk])
  obtain ⟨w0, hw0⟩ : ∃ v, v = w.alloc (.cells vals.toArray 28) := ⟨_, rfl⟩
  rw [← hw0] at cp0 ⊢
  clear hw0 hmk
  go_loopw [4, 5, 11] (fun _ _ iv wr => ∃ (k : Nat), k ≤ l.length ∧ iv = .int .i64 (k : Int) ∧ Cp w wr w.heap.size l k) (fun _ _ iv _ => l.length - (intOf iv).toNat)
  case atStart => exact ⟨0, Nat.zero_le _, rfl, cp0⟩
  case round =>
    obtain ⟨k, hk, rfl, cp⟩ := hrel
    clear cp0
    by_cases hlt : k < l.length
    · obtain ⟨b, off, rfl, hbw, h0, h1, hz⟩ := H.out.zl k hlt
      have hbel := cp.bel
      have hx0 := (hbel.cell (p := ⟨b, off + k * 2, none⟩) hbw).trans h0
      have hx1 := (hbel.cell (p := ⟨b, off + k * 2 + 1, none⟩) hbw).trans h1
      have hz9 := hz.next hbel
      have hput := Lib.hid (fun W (hW : Cp w W w.heap.size l k) A c hc hr => hW.put (A := A) (c := c) hlt (Nat.le_refl _) hc hr)
      obtain ⟨eg, heg⟩ : ∃ v, v = l[k].g := ⟨_, rfl⟩
      obtain ⟨eA, heA⟩ : ∃ v, v = l[k].A := ⟨_, rfl⟩
      obtain ⟨exs, hexs⟩ : ∃ v, v = l[k].xs := ⟨_, rfl⟩
      obtain ⟨ec, hec⟩ : ∃ v, v = l[k].c := ⟨_, rfl⟩
      rw [← heg] at hx0
      rw [← heA, ← hexs, ← hec] at hx1
      rw [← heg, ← heA, ← hexs, ← hec] at hz9
      rw [← heg, ← hexs] at hput
      have CP : Hid (∀ W (_ : Below wr.heap.size wr W), Calls Tryz.prog 35 #[.agg #[.bool eg, .slice eA exs.length ec]] W fun e w' => ∃ A' c', e = .returned (.agg #[.bool eg, .slice A' exs.length c']) ∧ exs.length ≤ c' ∧ Rs w' W.heap.size A' (u32s exs) ∧ Below W.heap.size W w') := fun W hW =>
        copy_any (hz9.next hW).hv.rd (by have := hz9.hv.len; omega)
      have HCp := Lib.hid cp
      have hc2 : w.heap.size < wr.heap.size := by
        obtain ⟨_, _, hb, _⟩ := cp.ex
        exact hb.lt
      clear hbel h0 h1 hz hz9 heg heA hexs hec cp
      go_upto_region 5 with (fail)
      obtain ⟨v1, hv1⟩ : ∃ v, v = wr.alloc (.cells #[.bool eg, .slice eA exs.length ec] 28) := ⟨_, rfl⟩
      rw [← hv1]
      have b5 : Blk v1 wr.heap.size 28 [.bool eg, .slice eA exs.length ec] := by rw [hv1]; exact blk_one _ _ _
      have j1 : Below wr.heap.size wr v1 := by rw [hv1]; exact bel_one _ _
      obtain ⟨g5, hg5⟩ : ∃ g, g = wr.heap.size := ⟨_, rfl⟩
      rw [← hg5] at b5 ⊢
      obtain ⟨p0, p1, _, _⟩ := b5.two
      clear hv1 hg5 hx0 hx1
      go_wp2_with fail
      refine (CP.out _ j1).mono ?_
      rintro e v2 ⟨As, cs, rfl, hcs, hrs, hb2⟩
      have j2 := bst j1 hb2 (Nat.le_refl _)
      have C2 := HCp.out.next j2
      have rs : Rs v2 w.heap.size As (u32s exs) := hrs.mono (Nat.le_trans HCp.out.bel.size j1.size)
      have HN := Lib.hid (hput.out v2 C2 As cs hcs rs)
      obtain ⟨v0, v9, q0, q1, q2, q3⟩ : ∃ v0 v9, v2.cell? ⟨w.heap.size, k * 2, none⟩ = some v0 ∧ v2.cell? ⟨w.heap.size, k * 2 + 1, none⟩ = some v9 ∧ v2.frozen? ⟨w.heap.size, k * 2, none⟩ = false ∧ v2.frozen? ⟨w.heap.size, k * 2 + 1, none⟩ = false := by
        obtain ⟨vals, e1, e2, _⟩ := C2.ex
        exact ⟨vals[k * 2]'(by omega), vals[k * 2 + 1]'(by omega), by rw [e2.cell, List.getElem?_eq_getElem], by rw [e2.cell, List.getElem?_eq_getElem], e2.frozen _, e2.frozen _⟩
      clear p0 p1 CP hb2 hrs hput C2 rs HCp
      go_wp2_with fail
      go_roundw
      case rel => exact ⟨k + 1, by omega, by go_num, HN.out⟩
      case measure => simp [intOf]; omega
    · obtain rfl : k = l.length := by omega
      have HD := Lib.hid cp
      clear cp
      go_wp2_with fail
      go_ret
      obtain ⟨l', e1, e2, e3⟩ := HD.out.done H.out
      exact ⟨w.heap.size, l', rfl, e1, e2, e3, HD.out.bel⟩
end
section
open Go.RowKit

set_option maxHeartbeats 6400000 in
theorem sameall_any {w : World} {N : Nat} {A A2 : Option Addr} {c c2 : Nat} (l l' : List ZE1) (h : ZR w N A l') (h2 : ZR w N A2 l) (hll : l'.length = l.length) (hs : ∀ k (h1 : k < l'.length) (h2 : k < l.length), l'[k].g = l[k].g ∧ l'[k].xs = l[k].xs) (hN : N ≤ 1048576) (hlen : l.length ≤ 1048576) :
    Calls Tryz.prog 16 #[.slice A l.length c, .slice A2 l.length c2] w fun e w' => e = .returned (.bool true) ∧ Below w.heap.size w w' := by
  have H := Lib.hid h
  have H2 := Lib.hid h2
  have HS := Lib.hid hs
  have HLL := Lib.hid hll
  clear h h2 hs hll
  go_enter Tryz.func16, Tryz.ntmps16
  go_wp2_with fail
  go_loopw [4, 5, 13] (fun _ _ iv wr => ∃ (k : Nat), k ≤ l.length ∧ iv = .int .i64 (k : Int) ∧ Below w.heap.size w wr) (fun _ _ iv _ => l.length - (intOf iv).toNat)
  case atStart => exact ⟨0, Nat.zero_le _, rfl, Below.refl _ _⟩
  case round =>
    obtain ⟨k, hk, rfl, hbel⟩ := hrel
    by_cases hlt : k < l.length
    · have hlt2 : k < l'.length := by rw [HLL.out]; exact hlt
      obtain ⟨b, off, rfl, hbw, h0, h1, hz⟩ := H.out.zl k hlt2
      obtain ⟨b2, off2, rfl, hbw2, h20, h21, hz2⟩ := H2.out.zl k hlt
      obtain ⟨sg, sx⟩ := HS.out k hlt2 hlt
      have hx0 := (hbel.cell (p := ⟨b, off + k * 2, none⟩) hbw).trans h0
      have hx1 := (hbel.cell (p := ⟨b, off + k * 2 + 1, none⟩) hbw).trans h1
      have hy0 := (hbel.cell (p := ⟨b2, off2 + k * 2, none⟩) hbw2).trans h20
      have hy1 := (hbel.cell (p := ⟨b2, off2 + k * 2 + 1, none⟩) hbw2).trans h21
      have hz9 := hz.next hbel
      have hy9 := hz2.next hbel
      rw [sg] at hx0 hz9
      rw [sx] at hx1 hz9
      obtain ⟨eg, heg⟩ : ∃ v, v = l[k].g := ⟨_, rfl⟩
      obtain ⟨exs, hexs⟩ : ∃ v, v = l[k].xs := ⟨_, rfl⟩
      obtain ⟨eA, heA⟩ : ∃ v, v = l'[k].A := ⟨_, rfl⟩
      obtain ⟨ec, hec⟩ : ∃ v, v = l'[k].c := ⟨_, rfl⟩
      obtain ⟨fA, hfA⟩ : ∃ v, v = l[k].A := ⟨_, rfl⟩
      obtain ⟨fc, hfc⟩ : ∃ v, v = l[k].c := ⟨_, rfl⟩
      rw [← heg] at hx0 hy0 hz9 hy9
      rw [← heA, ← hexs, ← hec] at hx1
      rw [← hfA, ← hexs, ← hfc] at hy1
      rw [← heA, ← hexs, ← hec] at hz9
      rw [← hfA, ← hexs, ← hfc] at hy9
      have SM : Hid (∀ W (_ : Below wr.heap.size wr W), Calls Tryz.prog 36 #[.agg #[.bool eg, .slice eA exs.length ec], .agg #[.bool eg, .slice fA exs.length fc]] W fun e w' => e = .returned (.bool true) ∧ Below W.heap.size W w') := fun W hW =>
        zsame_yes eg (hz9.next hW).hv.rd (hy9.next hW).hv.rd (by have := hz9.hv.len; omega)
      have KB := Lib.hid hbel
      clear hbel h0 h1 hz h20 h21 hz2 hz9 hy9 heg heA hexs hec hfA hfc sg sx
      go_upto_region 6 with (fail)
      go_region_with (first
        | (go_at_call 36; (with_reducible refine (SM.out _ (by repeat (first | exact Below.refl _ _ | apply bdw | (refine bdn ?_ _)))).mono ?_); rintro e w1 ⟨rfl, hb1⟩; have j1 : Below w.heap.size w w1 := bst (by repeat (first | exact KB.out | apply bdw | (refine bdn ?_ _))) hb1 (Nat.le_refl _)))
      all_goals
        go_wp2_with fail
        go_roundw
        case rel => exact ⟨k + 1, by omega, by go_num, j1⟩
        case measure => simp [intOf]; omega
    · obtain rfl : k = l.length := by omega
      go_wp2_with fail
      go_ret
      exact ⟨rfl, hbel⟩
end
section
open Go

/-- Whatever order the head comes up in, S holding behind each of its operations; L holds behind it. -/
def HeadH (P : Program) (md : Region.Mode) (ops : Array Oper) (Q : Exit → Act → World → Prop) (S : World → Prop) (n : Nat) (L : Array Bool → Act → World → Prop) : Nat → Array Bool → Act → World → Prop
  | 0, ls, a, w => L ls a w
  | f + 1, ls, a, w => Region.ready md ops ls ≠ [] ∧ ∀ i ∈ Region.ready md ops ls, i < n ∧ wpOp P ops Q i (fun a' w' => S w' ∧ HeadH P md ops Q S n L f (ls.setIfInBounds i true) a' w') a w

section
variable {P : Program} {md : Region.Mode} {ops : Array Oper} {Q : Exit → Act → World → Prop} {S : World → Prop} {n : Nat} {L : Array Bool → Act → World → Prop}

theorem HeadH.any {g : Nat} (hL : ∀ ls a w, L ls a w → wpAny P md ops Q g ls a w) :
    ∀ f ls a w, HeadH P md ops Q S n L f ls a w → wpAny P md ops Q (f + g) ls a w
  | 0, ls, a, w, h => by rw [Nat.zero_add]; exact hL ls a w h
  | f + 1, ls, a, w, h => by
    rw [show f + 1 + g = (f + g) + 1 from by omega]
    exact ⟨fun h0 => absurd h0 h.1, fun i hi => wpOp_mono (fun a' w' h' => HeadH.any hL f _ a' w' h'.2) (h.2 i hi).2⟩

theorem HeadH.first {i : Nat} {o : Oper} {v : Value} (ho : ops[i]? = some o) (hsel : Region.noSelect ops = true) (hs : Region.sinkB md ops n = true) (hc : Region.chainB md ops n = true) (hn : n < ops.size) (hin : i < n)
    (hend : ∀ ls a w, L ls a w → ∀ j ∈ Region.ready md ops ls, n ≤ j) (hQ : ∀ c a w, Q (.panic c) (a.put o.dst v) w → Q (.panic c) a w) :
    ∀ f ls a w, HeadInv md ops n ls → (∀ j oj, ops[j]? = some oj → j ≠ i → ls.getD j true = false → (∀ e ∈ oj.after, Region.binds md e = true → e.on ≠ i) → o.apart ops oj = true) →
      i ∈ Region.ready md ops ls → YieldsIf P ops S o v a → S w → HeadH P md ops Q S n L f (ls.setIfInBounds i true) (a.put o.dst v) w → HeadH P md ops Q S n L (f + 1) ls a w := by
  intro f
  induction f with
  | zero =>
    intro ls a w inv _ hr hy hS H
    have hun := (mem_ready.1 hr).1
    refine ⟨fun h => (by rw [h] at hr; cases hr), fun j hj => ?_⟩
    have hjn : j < n := (Nat.lt_or_ge j n).resolve_right fun h => absurd hj (tail_waits hs hc hn inv _ i rfl hin hun j h)
    refine ⟨hjn, ?_⟩
    by_cases hji : j = i
    · subst hji; exact hy.wpOp ho hS ⟨hS, H⟩
    · exact absurd (hend _ _ _ H j (ready_mono hj hji)) (by omega)
  | succ f ih =>
    intro ls a w inv hfree hr hy hS H
    have hun := (mem_ready.1 hr).1
    refine ⟨fun h => (by rw [h] at hr; cases hr), fun j hj => ?_⟩
    have hjn : j < n := (Nat.lt_or_ge j n).resolve_right fun h => absurd hj (tail_waits hs hc hn inv _ i rfl hin hun j h)
    refine ⟨hjn, ?_⟩
    by_cases hji : j = i
    · subst hji; exact hy.wpOp ho hS ⟨hS, H⟩
    · have h1 := (H.2 j (ready_mono hj hji)).2
      obtain ⟨hjun, oj, hoj, hall⟩ := mem_ready.1 hj
      have hno : ∀ e ∈ oj.after, Region.binds md e = true → e.on ≠ i := fun e he hb heq => by
        have h2 := hall e he hb
        rw [heq, getD_both hun] at h2
        cases h2
      have h2 := wpOp_putIf hoj (hfree j oj hoj hji hjun hno) (fun cs b => Region.noSelect_spec hsel i o cs b ho) (fun cs b => Region.noSelect_spec hsel j oj cs b hoj) hQ hy h1
      refine wpOp_mono (fun a' w' h3 => ⟨h3.2.1, ih (ls.setIfInBounds j true) a' w' (inv.set hj hjn) (fun k ok hk hki hku hkn => hfree k ok hk hki ?_ hkn) (ready_mono hr (Ne.symm hji)) h3.1 h3.2.1 ?_⟩) h2
      · by_cases hjk : j = k
        · subst hjk; exact hjun
        · rw [getD_set_ne true hjk] at hku; exact hku
      · rw [Array.setIfInBounds_comm _ _ hji]; exact h3.2.2
end

/-- The region's form: a head of n operations that all wait in the end for its last one, and a tail in one order. -/
def tailOkB (md : Region.Mode) (ops : Array Oper) (n : Nat) : Bool := Region.noSelect ops && decide (n < ops.size) && Region.sinkB md ops n && Region.chainB md ops n
/-- The walk's state in the head. -/
def HeadW (P : Program) (md : Region.Mode) (l : List Oper) (Q : Exit → Act → World → Prop) (S : World → Prop) (n : Nat) (f : Nat) (ls : Array Bool) (a : Act) (w : World) : Prop :=
  HeadInv md l.toArray n ls → HeadH P md l.toArray Q S n (fun ls' a' w' => Region.seqB md l.toArray (l.toArray.size - n) n ls' = true ∧ wpList P l.toArray Q (l.drop n) a' w') f ls a w
section
variable {P : Program} {md : Region.Mode} {l : List Oper} {Q : Exit → Act → World → Prop} {S : World → Prop} {n : Nat}
theorem tailOk_spec (h : tailOkB md l.toArray n = true) : Region.noSelect l.toArray = true ∧ n < l.toArray.size ∧ Region.sinkB md l.toArray n = true ∧ Region.chainB md l.toArray n = true := by
  simp only [tailOkB, Bool.and_eq_true, decide_eq_true_eq] at h
  obtain ⟨⟨⟨a, b⟩, c⟩, d⟩ := h
  exact ⟨a, b, c, d⟩
theorem region_held_tail {id : Nat} {a : Act} {w : World} (S : World → Prop) (n : Nat) (hm : P.follows .mixedOrders = true) (hB : tailOkB .any l.toArray n = true) (hS : S w.drew)
    (h : S w.drew → HeadW P .any l Q S n n (Array.replicate l.toArray.size false) a w.drew) : (Code.region id l.toArray true).wp P Q a w := by
  obtain ⟨_, hn, _, _⟩ := tailOk_spec hB
  have hdl : (l.drop n).length = l.toArray.size - n := by simp
  have inv0 : HeadInv .any l.toArray n (Array.replicate l.toArray.size false) :=
    ⟨by simp, fun j oj _ hl => (by rw [getD_replicate_false] at hl; cases hl), fun t _ ht => getD_in (by simpa using ht) (getD_replicate_false _ _)⟩
  have H := h hS inv0
  refine wp_region_any hm ?_
  have hfin := HeadH.any (g := l.toArray.size - n) (fun ls a' W hL => by
    have h1 := wpAny_of_seq (md := .any) (Q' := Q) (l.drop n) n ls a' W (fun j => by simp [List.getElem?_drop]) (by rw [hdl]; exact hL.1) hL.2
    rwa [hdl] at h1) _ _ _ _ H
  rw [show n + (l.toArray.size - n) = l.toArray.size from by omega] at hfin
  exact hfin
theorem HeadW.take {i : Nat} {o : Oper} {v : Value} {f : Nat} {ls : Array Bool} {a : Act} {w : World} (ho : l.toArray[i]? = some o) (hB : tailOkB md l.toArray n = true) (hin : i < n) (hf : Region.free md l.toArray ls i = true) (hr : (Region.ready md l.toArray ls).contains i = true)
    (hQ : ∀ c a w, Q (.panic c) (a.put o.dst v) w → Q (.panic c) a w) (hy : YieldsIf P l.toArray S o v a) (hS : S w) (h : HeadW P md l Q S n f (ls.setIfInBounds i true) (a.put o.dst v) w) : HeadW P md l Q S n (f + 1) ls a w := fun inv => by
  obtain ⟨hsel, hn, hs, hc⟩ := tailOk_spec hB
  have hr' : i ∈ Region.ready md l.toArray ls := by simpa using hr
  exact HeadH.first ho hsel hs hc hn hin (fun ls' a' w' hL => seqB_ready hL.1) hQ f ls a w inv (Region.free_spec ho hf) hr' hy hS (h (inv.set hr' hin))
theorem HeadW.one {i : Nat} {o : Oper} {f : Nat} {ls : Array Bool} {a : Act} {w : World} (hr : Region.ready md l.toArray ls = [i]) (hin : i < n) (ho : l.toArray[i]? = some o)
    (h : ∀ K' : Act → World → Prop, Shut (∀ a w, S w → (S w → HeadW P md l Q S n f (ls.setIfInBounds i true) a w) → K' a w) → if Region.wanted o (yielded l.toArray a.tmps) = true then Oper.wp P o a w K' Q else K' (a.put o.dst undef) w) :
    HeadW P md l Q S n (f + 1) ls a w := fun inv => ⟨by rw [hr]; simp, fun j hj => by
  have hj' := hj
  rw [hr] at hj
  obtain rfl : j = i := by simpa using hj
  exact ⟨hin, wpOp_step ho (fun K' hK => h K' (fun a w hS hW => hK a w ⟨hS, hW hS (inv.set hj' hin)⟩))⟩⟩
theorem HeadW.done {ls : Array Bool} {a : Act} {w : World} (hq : Region.seqB md l.toArray (l.toArray.size - n) n ls = true) (h : wpList P l.toArray Q (l.drop n) a w) : HeadW P md l Q S n 0 ls a w := fun _ => ⟨hq, h⟩
end
end
end Go.Proofs.YtanlejlmckdeiaaGreatDoor
