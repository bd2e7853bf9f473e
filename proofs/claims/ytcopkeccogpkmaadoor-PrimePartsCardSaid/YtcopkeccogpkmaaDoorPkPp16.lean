/- The library's sort at []uint32: the smallest pieces. No conditions. The library's sort at []uint32: words for a row that is being sorted; insertionSortOrdered. Conditions: the row's size. The library's sort at []uint32: siftDownOrdered, heapSortOrdered. Conditions: the row's size. -/
import Derived.Test.YtcopkeccogpkmaaDoorPkPp15
import Derived.Sort.AssemblyPlain
import Derived.CellFam
import Derived.BigQuiet
namespace Go.Proofs.YtcopkeccogpkmaaDoor
section
open Go.RowKit

theorem isnan_any (a : Nat) (w : World) : Calls Tryd.prog 44 #[.int .u32 (a : Int)] w fun r w' => r = .returned (.bool false) ∧ w' = w := by
  have t1 : ((a : Int) == (a : Int)) = true := by simp
  go_enter Tryd.func44, Tryd.ntmps44
  go_wp2
  go_ret
  exact ⟨rfl, rfl⟩
theorem less_any (a b : Nat) (w : World) : Calls Tryd.prog 31 #[.int .u32 (a : Int), .int .u32 (b : Int)] w fun r w' => r = .returned (.bool (decide (a < b))) ∧ w' = w := by
  go_enter Tryd.func31, Tryd.ntmps31
  go_wp2_with fail
  refine (isnan_any a _).mono ?_
  rintro _ _ ⟨rfl, rfl⟩
  go_wp2
  all_goals go_ret
  all_goals exact ⟨rfl, rfl⟩
end
section
open Go.RowKit Go.Sort

/-- Of the blocks that are there g alone may have turned; new ones may lie behind. -/
structure Tb (g : Nat) (w w' : World) : Prop where
  os : w'.os = w.os
  tape : w'.tape = w.tape
  output : w'.output = w.output
  size : w.heap.size ≤ w'.heap.size
  block : ∀ k, k < w.heap.size → k ≠ g → w'.heap[k]? = w.heap[k]?
theorem Tb.refl (g : Nat) (w : World) : Tb g w w := ⟨rfl, rfl, rfl, Nat.le_refl _, fun _ _ _ => rfl⟩
theorem Tb.trans {g : Nat} {a b c : World} (h : Tb g a b) (k : Tb g b c) : Tb g a c :=
  ⟨k.os.trans h.os, k.tape.trans h.tape, k.output.trans h.output, Nat.le_trans h.size k.size, fun i hi hg => (k.block i (Nat.lt_of_lt_of_le hi h.size) hg).trans (h.block i hi hg)⟩
theorem Tb.drewN {g : Nat} {a w : World} (h : Tb g a w) (n : Nat) : Tb g a (w.drewN n) := ⟨h.os, h.tape, h.output, h.size, h.block⟩
theorem Tb.drew {g : Nat} {a w : World} (h : Tb g a w) : Tb g a w.drew := ⟨h.os, h.tape, h.output, h.size, h.block⟩
theorem Tb.setCell {g : Nat} {a w : World} (h : Tb g a w) (i : Nat) (u : Value) : Tb g a (w.setCell ⟨g, i, none⟩ u) :=
  h.trans ⟨rfl, rfl, rfl, by simp [World.setCell], fun k _ hk => Below.heap_setCell _ _ _ _ hk⟩
theorem Tb.alloc {g : Nat} {a w : World} (h : Tb g a w) (o : Obj) : Tb g a (w.alloc o) :=
  h.trans ⟨rfl, rfl, rfl, by simp, fun k hk _ => Below.heap_alloc w o k hk⟩
theorem Tb.below {g B : Nat} {w w' : World} (h : Tb g w w') (hB : B ≤ g) (hs : B ≤ w.heap.size) : Below B w w' := ⟨h.os, h.tape, h.output, h.size, fun k hk => h.block k (by omega) (by omega)⟩

/-- What stands in a row of numbers that lies in block g behind p and ahead of q. -/
def Rw (p q : List Value) (g : Nat) (d : Array Nat) (w : World) : Prop := Blk w g 22 (p ++ (u32s d.toList ++ q))
section
variable {p q : List Value} {g o : Nat} {d : Array Nat} {w : World}
theorem Rw.drewN (h : Rw p q g d w) (n : Nat) : Rw p q g d (w.drewN n) := h
theorem Rw.drew (h : Rw p q g d w) : Rw p q g d w.drew := h
theorem at_get (d : Array Nat) {t : Nat} (ht : t < d.size) : d[t]! = d.toList[t] := by rw [getElem!_pos d t ht]; rfl
theorem Rw.cell (h : Rw p q g d w) (ho : p.length = o) {t : Nat} (ht : t < d.size) : w.cell? ⟨g, o + t, none⟩ = some (.int .u32 ((d[t]! : Nat) : Int)) := by
  rw [Blk.cell h, List.getElem?_append_right (by omega), show o + t - p.length = t by omega, List.getElem?_append_left (by rw [u32s_length]; exact ht), u32s_at (by exact ht), at_get d ht]
theorem Rw.frozen (h : Rw p q g d w) (i : Nat) : w.frozen? ⟨g, i, none⟩ = false := Blk.frozen h i
theorem Rw.lt (h : Rw p q g d w) : g < w.heap.size := Blk.lt h
theorem Rw.alloc (h : Rw p q g d w) (ob : Obj) : Rw p q g d (w.alloc ob) := Blk.heapAlloc h ob
theorem Rw.far (h : Rw p q g d w) {a : Addr} (ha : g ≠ a.block) (u : Value) : Rw p q g d (w.setCell a u) := Blk.far h ha u
theorem Rw.put (h : Rw p q g d w) (ho : p.length = o) (t x : Nat) (ht : t < d.size) : Rw p q g (d.setIfInBounds t x) (w.setCell ⟨g, o + t, none⟩ (.int .u32 (x : Int))) := by
  have h1 := Blk.set_ h (o + t) (.int .u32 (x : Int))
  rw [List.set_append_right _ _ (by omega), show o + t - p.length = t by omega, List.set_append_left _ _ (by rw [u32s_length]; exact ht)] at h1
  unfold Rw
  rw [show u32s (d.setIfInBounds t x).toList = (u32s d.toList).set t (.int .u32 (x : Int)) by simp [u32s, List.map_set]]
  exact h1
/-- Two numbers exchanged. -/
theorem Rw.swap (h : Rw p q g d w) (ho : p.length = o) {j k x y : Nat} (hj : j < d.size) (hk : k < d.size) (hx : x = d[k]!) (hy : y = d[j]!) :
    Rw p q g (swp d j k) ((w.setCell ⟨g, o + j, none⟩ (.int .u32 (x : Int))).setCell ⟨g, o + k, none⟩ (.int .u32 (y : Int))) := by
  subst hx; subst hy
  exact (h.put ho j _ hj).put ho k _ (by simpa using hk)
theorem swp_size (d : Array Nat) (j k : Nat) : (swp d j k).size = d.size := by simp [swp]
end
def ltN (x y : Nat) : Bool := decide (x < y)
theorem ltN_swo : SWO ltN := ⟨fun x => by simp [ltN], fun x y z h1 h2 => by simp [ltN] at *; omega, fun x y z h1 h2 => by simp [ltN] at *; omega⟩
/-- cmp.Less. -/
theorem lessN (a b : Nat) (w : World) : Calls Tryd.prog 31 #[.int .u32 (a : Int), .int .u32 (b : Int)] w fun r w' => r = .returned (.bool (ltN a b)) ∧ w' = w := less_any a b w

theorem ins_go (a j : Nat) (d : Array Nat) (hj : a < j) (hl : ltN d[j]! d[j - 1]! = true) : insInner ltN a j d = insInner ltN a (j - 1) (swp d j (j - 1)) := by
  cases j with
  | zero => omega
  | succ k =>
    rw [Nat.add_sub_cancel] at hl ⊢
    rw [insInner, if_pos (by rw [hl]; simp; omega)]
theorem ins_stop (a j : Nat) (d : Array Nat) (h : j ≤ a ∨ ltN d[j]! d[j - 1]! = false) : insInner ltN a j d = d := by
  cases j with
  | zero => rw [insInner]
  | succ k =>
    rw [Nat.add_sub_cancel] at h
    rw [insInner, if_neg ?_]
    rcases h with h | h
    · simp; intro h2; omega
    · rw [h]; simp
theorem insO_go (a b i : Nat) (d : Array Nat) (h : i < b) : insOuter ltN a b i d = insOuter ltN a b (i + 1) (insInner ltN a i d) := by rw [insOuter, if_pos h]
theorem insO_stop (a b i : Nat) (d : Array Nat) (h : ¬ i < b) : insOuter ltN a b i d = d := by rw [insOuter, if_neg h]

set_option maxHeartbeats 1000000 in
theorem insertion_any {p q : List Value} {g o : Nat} (ho : p.length = o) (cap a b : Nat) (d : Array Nat) (w : World) (h : Rw p q g d w) (hab : a ≤ b) (hb : b ≤ d.size) (hsz : d.size < 4611686018427387904) :
    Calls Tryd.prog 25 #[.slice (some ⟨g, o, none⟩) d.size cap, .int .i64 (a : Int), .int .i64 (b : Int)] w fun e w' =>
      e = .returned (.tuple #[]) ∧ Rw p q g (insertionSort ltN d a b) w' ∧ Tb g w w' := by
  obtain ⟨n, hn⟩ : ∃ n, n = d.size := ⟨_, rfl⟩
  rw [← hn] at hb hsz ⊢
  have HL : Hid (∀ (x y : Nat) W, Calls Tryd.prog 31 #[.int .u32 (x : Int), .int .u32 (y : Int)] W fun r W' => r = .returned (.bool (ltN x y)) ∧ W' = W) := fun x y W => lessN x y W
  have Hn := Lib.hid hn
  have H := Lib.hid h
  clear h hn
  go_enter Tryd.func25, Tryd.ntmps25
  go_wp2
  go_loopw [6] (fun vi wr => ∃ (i : Nat) (e : Array Nat), vi = .int .i64 (i : Int) ∧ a < i ∧ i ≤ b + 1 ∧ Hid (e.size = n) ∧ Hid (Rw p q g e wr) ∧ Hid (Tb g w wr) ∧ Hid (insOuter ltN a b i e = insOuter ltN a b (a + 1) d)) (fun vi _ => b + 1 - (intOf vi).toNat)
  case atStart => exact ⟨a + 1, d, by go_num, by omega, by omega, Hn.out.symm, H.out, Tb.refl _ _, rfl⟩
  case round =>
    obtain ⟨i, e, rfl, hai, hib, HE, HR, HT, HO⟩ := hrel
    by_cases hlt : i < b
    · go_wp2
      go_loopw [7] (fun vj wq => ∃ (j : Nat) (f : Array Nat), vj = .int .i64 (j : Int) ∧ a ≤ j ∧ j ≤ i ∧ Hid (f.size = n) ∧ Hid (Rw p q g f wq) ∧ Hid (Tb g w wq) ∧ Hid (insInner ltN a j f = insInner ltN a i e)) (fun vj _ => (intOf vj).toNat)
      case atStart => exact ⟨i, e, rfl, by omega, Nat.le_refl _, HE.out, HR.out, HT.out, rfl⟩
      case round =>
        obtain ⟨j, f, rfl, haj, hji, HF, HS, HU, HI⟩ := hrel
        obtain ⟨G, hG⟩ : ∃ G : Nat → Nat, ∀ t, G t = f[t]! := ⟨fun t => f[t]!, fun _ => rfl⟩
        have HG := Lib.hid hG
        have hc : ∀ t, t < n → wr.cell? ⟨g, o + t, none⟩ = some (.int .u32 (G t : Int)) := fun t ht => by rw [hG]; exact HS.out.cell ho (by rw [HF.out]; exact ht)
        have hf : ∀ t, t < n → wr.frozen? ⟨g, o + t, none⟩ = false := fun t _ => HS.out.frozen _
        clear hG
        have OUT : Hid ((j ≤ a ∨ ltN (G j) (G (j - 1)) = false) → insOuter ltN a b (i + 1) f = insOuter ltN a b (a + 1) d) := fun hs => by
          rw [← HO.out, insO_go a b i e hlt, ← HI.out, ins_stop a j f (by rw [← HG.out, ← HG.out]; exact hs)]
        by_cases hja : a < j
        · go_wp2
          go_quiet (first | (go_at_call 31; refine Calls.quiet_of_same (HL.out _ _ _)))
          go_wp2
          · have hl : ltN (G j) (G (j - 1)) = true := by assumption
            have HI2 : Hid (insInner ltN a (j - 1) (swp f j (j - 1)) = insInner ltN a i e) := by
              show _ = _
              rw [← HI.out, ins_go a j f hja (by rw [← HG.out, ← HG.out]; exact hl)]
            go_region
            all_goals go_wp2
            go_roundw
            case rel => exact ⟨j - 1, _, by congr 1; omega, by omega, by omega, by show (swp f j (j - 1)).size = n; rw [swp_size]; exact HF.out, (HS.out.drewN _).swap ho (by rw [HF.out]; omega) (by rw [HF.out]; omega) (HG.out _) (HG.out _), ((HU.out.drewN _).setCell _ _).setCell _ _, HI2.out⟩
            case measure => simp [intOf]; omega
          · have hl : ltN (G j) (G (j - 1)) = false := by assumption
            go_roundw
            case rel => exact ⟨i + 1, f, by go_num, by omega, by omega, HF.out, HS.out.drewN _, HU.out.drewN _, OUT.out (.inr hl)⟩
            case measure => simp [intOf]; omega
        · go_wp2
          go_quiet (first | (go_at_call 31; refine Calls.quiet_of_same (HL.out _ _ _)))
          go_wp2
          go_roundw
          case rel => exact ⟨i + 1, f, by go_num, by omega, by omega, HF.out, HS.out.drewN _, HU.out.drewN _, OUT.out (.inl (by omega))⟩
          case measure => simp [intOf]; omega
    · go_wp2
      go_end0
      exact ⟨rfl, by unfold insertionSort; rw [← HO.out, insO_stop _ _ _ _ hlt]; exact HR.out, HT.out⟩
end
section
open Go.RowKit Go.Sort

theorem sd_end (hi first r : Nat) (d : Array Nat) (h : ¬ 2 * r + 1 < hi) : siftDown ltN hi first r d = d := by
  rw [siftDown, dif_pos (by omega)]
/-- The child that is held against its parent. -/
def kidC (hi first r : Nat) (d : Array Nat) : Nat := if 2 * r + 1 + 1 < hi && ltN d[first + 2 * r + 1]! d[first + 2 * r + 2]! then 2 * r + 2 else 2 * r + 1
theorem sd_stay (hi first r : Nat) (d : Array Nat) (h : 2 * r + 1 < hi) (h2 : ltN d[first + r]! d[first + kidC hi first r d]! = false) : siftDown ltN hi first r d = d := by
  rw [siftDown, dif_neg (by omega)]
  unfold kidC at h2
  rw [show first + 2 * r + 1 = first + (2 * r + 1) by omega, show first + 2 * r + 2 = first + (2 * r + 1) + 1 by omega] at h2
  by_cases hc : (2 * r + 1 + 1 < hi && ltN d[first + (2 * r + 1)]! d[first + (2 * r + 1) + 1]!) = true
  · rw [if_pos hc] at h2 ⊢; rw [h2]; simp
  · rw [if_neg hc] at h2 ⊢; rw [h2]; simp
theorem sd_go (hi first r : Nat) (d : Array Nat) (h : 2 * r + 1 < hi) (h2 : ltN d[first + r]! d[first + kidC hi first r d]! = true) : siftDown ltN hi first r d = siftDown ltN hi first (kidC hi first r d) (swp d (first + r) (first + kidC hi first r d)) := by
  rw [siftDown, dif_neg (by omega)]
  unfold kidC at h2 ⊢
  rw [show first + 2 * r + 1 = first + (2 * r + 1) by omega, show first + 2 * r + 2 = first + (2 * r + 1) + 1 by omega] at h2 ⊢
  by_cases hc : (2 * r + 1 + 1 < hi && ltN d[first + (2 * r + 1)]! d[first + (2 * r + 1) + 1]!) = true
  · rw [if_pos hc] at h2 ⊢; rw [if_pos hc, h2]
    simp only [Bool.and_eq_true, decide_eq_true_eq] at hc
    rw [dif_pos (by omega)]; simp
  · rw [if_neg hc] at h2 ⊢; rw [if_neg hc, h2]; simp

theorem sift_len (hi first : Nat) : ∀ (m r : Nat) (d : Array Nat), hi - r ≤ m → (siftDown ltN hi first r d).size = d.size
  | 0, r, d, h => by rw [siftDown, dif_pos (by omega)]
  | m + 1, r, d, h => by
    by_cases h1 : 2 * r + 1 < hi
    · by_cases h2 : ltN d[first + r]! d[first + kidC hi first r d]! = true
      · have hk : r < kidC hi first r d := by unfold kidC; split <;> omega
        rw [sd_go hi first r d h1 h2, sift_len hi first m _ _ (by omega), swp_size]
      · rw [sd_stay hi first r d h1 (by simpa using h2)]
    · rw [sd_end hi first r d h1]
theorem siftDown_size (hi first r : Nat) (d : Array Nat) : (siftDown ltN hi first r d).size = d.size := sift_len hi first _ r d (Nat.le_refl _)
set_option maxHeartbeats 2000000 in
theorem sift_any {p q : List Value} {g o : Nat} (ho : p.length = o) (cap root hi first : Nat) (d : Array Nat) (w : World) (h : Rw p q g d w) (hb : first + hi ≤ d.size) (hroot : root ≤ hi) (hsz : d.size < 2305843009213693952) :
    Calls Tryd.prog 39 #[.slice (some ⟨g, o, none⟩) d.size cap, .int .i64 (root : Int), .int .i64 (hi : Int), .int .i64 (first : Int)] w fun e w' =>
      e = .returned (.tuple #[]) ∧ Rw p q g (siftDown ltN hi first root d) w' ∧ Tb g w w' := by
  obtain ⟨n, hn⟩ : ∃ n, n = d.size := ⟨_, rfl⟩
  rw [← hn] at hb hsz ⊢
  have HL : Hid (∀ (x y : Nat) W, Calls Tryd.prog 31 #[.int .u32 (x : Int), .int .u32 (y : Int)] W fun r W' => r = .returned (.bool (ltN x y)) ∧ W' = W) := fun x y W => lessN x y W
  have Hn := Lib.hid hn
  have H := Lib.hid h
  clear h hn
  go_enter Tryd.func39, Tryd.ntmps39
  go_wp2
  go_loopg [8] (hi - root) (fun m vi wr => ∃ (r : Nat) (f : Array Nat), vi = .int .i64 (r : Int) ∧ r ≤ hi ∧ hi - r ≤ m ∧ Hid (f.size = n) ∧ Hid (Rw p q g f wr) ∧ Hid (Tb g w wr) ∧ Hid (siftDown ltN hi first r f = siftDown ltN hi first root d))
  case atStart => exact ⟨root, d, rfl, hroot, Nat.le_refl _, Hn.out.symm, H.out, Tb.refl _ _, rfl⟩
  case round =>
    obtain ⟨r, f, rfl, hr, hm, HF, HS, HU, HI⟩ := hrel
    obtain ⟨G, hG⟩ : ∃ G : Nat → Nat, ∀ t, G t = f[t]! := ⟨fun t => f[t]!, fun _ => rfl⟩
    have HG := Lib.hid hG
    have hc : ∀ t, t < n → wr.cell? ⟨g, o + t, none⟩ = some (.int .u32 (G t : Int)) := fun t ht => by rw [hG]; exact HS.out.cell ho (by rw [HF.out]; exact ht)
    have hf : ∀ t, t < n → wr.frozen? ⟨g, o + t, none⟩ = false := fun t _ => HS.out.frozen _
    clear hG
    by_cases hend : ¬ 2 * r + 1 < hi
    · have h0z : (hi : Int) ≤ 2 * (r : Int) + 1 := by omega
      go_wp2
      go_end0
      exact ⟨rfl, by rw [← HI.out, sd_end _ _ _ _ hend]; exact HS.out, HU.out⟩
    · have hlt : 2 * r + 1 < hi := by omega
      have h0z : ¬ ((hi : Int) ≤ 2 * (r : Int) + 1) := by omega
      by_cases h2 : 2 * r + 1 + 1 < hi
      · have h1z : 2 * (r : Int) + 1 + 1 < (hi : Int) := by omega
        go_wp2
        go_quiet (first | (go_at_call 31; refine Calls.quiet_of_same (HL.out _ _ _)))
        go_wp2
        · have hl : ltN (G (first + 2 * r + 1)) (G (first + 2 * r + 2)) = true := by assumption
          have hk : Hid (kidC hi first r f = 2 * r + 2) := by
            show _ = _
            unfold kidC
            rw [← HG.out, ← HG.out, hl, if_pos (by simp; omega)]
          revert nq; intro nq1
          have hc2 : ∀ t, t < n → (wr.drewN nq1).cell? ⟨g, o + t, none⟩ = some (.int .u32 (G t : Int)) := hc
          have hf2 : ∀ t, t < n → (wr.drewN nq1).frozen? ⟨g, o + t, none⟩ = false := hf
          have HS2 := Lib.hid (HS.out.drewN nq1)
          have HU2 := Lib.hid (HU.out.drewN nq1)
          clear hc hf
          generalize wr.drewN nq1 = wq at hc2 hf2 HS2 HU2 ⊢
          go_quiet (first | (go_at_call 31; refine Calls.quiet_of_same (HL.out _ _ _)))
          go_wp2
          · have hx : ltN (G (first + r)) (G (first + 2 * r + 2)) = false := by simpa using (by assumption : (!ltN (G (first + r)) (G (first + 2 * r + 2))) = true)
            rw [HG.out, HG.out, show first + 2 * r + 2 = first + (2 * r + 2) by omega, ← hk.out] at hx
            (try simp only [Exit.inBlock, Exit.then]); refine bodyPost_ret (results_none rfl _ _ _) rfl ?_
            exact ⟨rfl, by rw [← HI.out, sd_stay _ _ _ _ hlt hx]; exact HS2.out.drewN _, HU2.out.drewN _⟩
          · have hx : ltN (G (first + r)) (G (first + 2 * r + 2)) = true := by simpa using (by assumption : (!ltN (G (first + r)) (G (first + 2 * r + 2))) = false)
            rw [HG.out, HG.out, show first + 2 * r + 2 = first + (2 * r + 2) by omega, ← hk.out] at hx
            have HI2 : Hid (siftDown ltN hi first (2 * r + 2) (swp f (first + r) (first + (2 * r + 2))) = siftDown ltN hi first root d) := by
              have h9 := sd_go hi first r f hlt hx
              rw [hk.out] at h9
              exact h9.symm.trans HI.out
            clear hx
            revert nq; intro nq2
            have hc3 : ∀ t, t < n → (wq.drewN nq2).cell? ⟨g, o + t, none⟩ = some (.int .u32 (G t : Int)) := hc2
            have hf3 : ∀ t, t < n → (wq.drewN nq2).frozen? ⟨g, o + t, none⟩ = false := hf2
            have HS3 := Lib.hid (HS2.out.drewN nq2)
            have HU3 := Lib.hid (HU2.out.drewN nq2)
            clear hc2 hf2
            generalize wq.drewN nq2 = wz at hc3 hf3 HS3 HU3 ⊢
            go_region
            go_wp2
            go_roundg (hi - (2 * r + 2))
            case measure => omega
            case rel => exact ⟨2 * r + 2, _, by simp <;> omega, by omega, Nat.le_refl _, by show (swp f (first + r) (first + (2 * r + 2))).size = n; rw [swp_size]; exact HF.out, (HS3.out.drewN 1).swap ho (by rw [HF.out]; omega) (by rw [HF.out]; omega) (HG.out _) (HG.out _), ((HU3.out.drewN 1).setCell _ _).setCell _ _, HI2.out⟩
        · have hl : ltN (G (first + 2 * r + 1)) (G (first + 2 * r + 2)) = false := by assumption
          have hk : Hid (kidC hi first r f = 2 * r + 1) := by
            show _ = _
            unfold kidC
            rw [← HG.out, ← HG.out, hl, if_neg (by simp)]
          revert nq; intro nq1
          have hc2 : ∀ t, t < n → (wr.drewN nq1).cell? ⟨g, o + t, none⟩ = some (.int .u32 (G t : Int)) := hc
          have hf2 : ∀ t, t < n → (wr.drewN nq1).frozen? ⟨g, o + t, none⟩ = false := hf
          have HS2 := Lib.hid (HS.out.drewN nq1)
          have HU2 := Lib.hid (HU.out.drewN nq1)
          clear hc hf
          generalize wr.drewN nq1 = wq at hc2 hf2 HS2 HU2 ⊢
          go_quiet (first | (go_at_call 31; refine Calls.quiet_of_same (HL.out _ _ _)))
          go_wp2
          · have hx : ltN (G (first + r)) (G (first + 2 * r + 1)) = false := by simpa using (by assumption : (!ltN (G (first + r)) (G (first + 2 * r + 1))) = true)
            rw [HG.out, HG.out, show first + 2 * r + 1 = first + (2 * r + 1) by omega, ← hk.out] at hx
            (try simp only [Exit.inBlock, Exit.then]); refine bodyPost_ret (results_none rfl _ _ _) rfl ?_
            exact ⟨rfl, by rw [← HI.out, sd_stay _ _ _ _ hlt hx]; exact HS2.out.drewN _, HU2.out.drewN _⟩
          · have hx : ltN (G (first + r)) (G (first + 2 * r + 1)) = true := by simpa using (by assumption : (!ltN (G (first + r)) (G (first + 2 * r + 1))) = false)
            rw [HG.out, HG.out, show first + 2 * r + 1 = first + (2 * r + 1) by omega, ← hk.out] at hx
            have HI2 : Hid (siftDown ltN hi first (2 * r + 1) (swp f (first + r) (first + (2 * r + 1))) = siftDown ltN hi first root d) := by
              have h9 := sd_go hi first r f hlt hx
              rw [hk.out] at h9
              exact h9.symm.trans HI.out
            clear hx
            revert nq; intro nq2
            have hc3 : ∀ t, t < n → (wq.drewN nq2).cell? ⟨g, o + t, none⟩ = some (.int .u32 (G t : Int)) := hc2
            have hf3 : ∀ t, t < n → (wq.drewN nq2).frozen? ⟨g, o + t, none⟩ = false := hf2
            have HS3 := Lib.hid (HS2.out.drewN nq2)
            have HU3 := Lib.hid (HU2.out.drewN nq2)
            clear hc2 hf2
            generalize wq.drewN nq2 = wz at hc3 hf3 HS3 HU3 ⊢
            go_region
            go_wp2
            go_roundg (hi - (2 * r + 1))
            case measure => omega
            case rel => exact ⟨2 * r + 1, _, by simp <;> omega, by omega, Nat.le_refl _, by show (swp f (first + r) (first + (2 * r + 1))).size = n; rw [swp_size]; exact HF.out, (HS3.out.drewN 1).swap ho (by rw [HF.out]; omega) (by rw [HF.out]; omega) (HG.out _) (HG.out _), ((HU3.out.drewN 1).setCell _ _).setCell _ _, HI2.out⟩
      · have h1z : decide (2 * (r : Int) + 1 + 1 < (hi : Int)) = false := decide_eq_false (by omega)
        go_wp2
        go_quiet (first | (go_at_call 31; refine Calls.quiet_of_same (HL.out _ _ _)))
        go_wp2
        have hk : Hid (kidC hi first r f = 2 * r + 1) := by
          show _ = _
          unfold kidC
          rw [if_neg (by simp; omega)]
        revert nq; intro nq1
        have hc2 : ∀ t, t < n → (wr.drewN nq1).cell? ⟨g, o + t, none⟩ = some (.int .u32 (G t : Int)) := hc
        have hf2 : ∀ t, t < n → (wr.drewN nq1).frozen? ⟨g, o + t, none⟩ = false := hf
        have HS2 := Lib.hid (HS.out.drewN nq1)
        have HU2 := Lib.hid (HU.out.drewN nq1)
        clear hc hf
        generalize wr.drewN nq1 = wq at hc2 hf2 HS2 HU2 ⊢
        go_quiet (first | (go_at_call 31; refine Calls.quiet_of_same (HL.out _ _ _)))
        go_wp2
        · have hx : ltN (G (first + r)) (G (first + 2 * r + 1)) = false := by simpa using (by assumption : (!ltN (G (first + r)) (G (first + 2 * r + 1))) = true)
          rw [HG.out, HG.out, show first + 2 * r + 1 = first + (2 * r + 1) by omega, ← hk.out] at hx
          (try simp only [Exit.inBlock, Exit.then]); refine bodyPost_ret (results_none rfl _ _ _) rfl ?_
          exact ⟨rfl, by rw [← HI.out, sd_stay _ _ _ _ hlt hx]; exact HS2.out.drewN _, HU2.out.drewN _⟩
        · have hx : ltN (G (first + r)) (G (first + 2 * r + 1)) = true := by simpa using (by assumption : (!ltN (G (first + r)) (G (first + 2 * r + 1))) = false)
          rw [HG.out, HG.out, show first + 2 * r + 1 = first + (2 * r + 1) by omega, ← hk.out] at hx
          have HI2 : Hid (siftDown ltN hi first (2 * r + 1) (swp f (first + r) (first + (2 * r + 1))) = siftDown ltN hi first root d) := by
            have h9 := sd_go hi first r f hlt hx
            rw [hk.out] at h9
            exact h9.symm.trans HI.out
          clear hx
          revert nq; intro nq2
          have hc3 : ∀ t, t < n → (wq.drewN nq2).cell? ⟨g, o + t, none⟩ = some (.int .u32 (G t : Int)) := hc2
          have hf3 : ∀ t, t < n → (wq.drewN nq2).frozen? ⟨g, o + t, none⟩ = false := hf2
          have HS3 := Lib.hid (HS2.out.drewN nq2)
          have HU3 := Lib.hid (HU2.out.drewN nq2)
          clear hc2 hf2
          generalize wq.drewN nq2 = wz at hc3 hf3 HS3 HU3 ⊢
          go_region
          go_wp2
          go_roundg (hi - (2 * r + 1))
          case measure => omega
          case rel => exact ⟨2 * r + 1, _, by simp <;> omega, by omega, Nat.le_refl _, by show (swp f (first + r) (first + (2 * r + 1))).size = n; rw [swp_size]; exact HF.out, (HS3.out.drewN 1).swap ho (by rw [HF.out]; omega) (by rw [HF.out]; omega) (HG.out _) (HG.out _), ((HU3.out.drewN 1).setCell _ _).setCell _ _, HI2.out⟩

set_option maxHeartbeats 2000000 in
theorem heap_any {p q : List Value} {g o : Nat} (ho : p.length = o) (cap a b : Nat) (d : Array Nat) (w : World) (h : Rw p q g d w) (hab : a ≤ b) (hb : b ≤ d.size) (hsz : d.size < 2305843009213693952) :
    Calls Tryd.prog 26 #[.slice (some ⟨g, o, none⟩) d.size cap, .int .i64 (a : Int), .int .i64 (b : Int)] w fun e w' =>
      e = .returned (.tuple #[]) ∧ Rw p q g (heapSort ltN d a b) w' ∧ Tb g w w' := by
  obtain ⟨n, hn⟩ : ∃ n, n = d.size := ⟨_, rfl⟩
  rw [← hn] at hb hsz ⊢
  obtain ⟨L, hL⟩ : ∃ L, L = b - a := ⟨_, rfl⟩
  obtain ⟨k0, hk0⟩ : ∃ k0, k0 = (L - 1) / 2 := ⟨_, rfl⟩
  have HE : Hid (heapSort ltN d a b = heapPop ltN a L (heapBuild ltN L a (k0 + 1) d)) := by
    show _ = _
    unfold heapSort
    rw [hk0, hL]
  have hl : (b : Int) - (a : Int) = (L : Int) := by omega
  have hq : ((L : Int) - 1).tdiv 2 = (k0 : Int) := by
    rw [hk0]
    rcases Nat.eq_zero_or_pos L with e | e
    · rw [e]; decide
    · rw [show ((L : Int) - 1) = ((L - 1 : Nat) : Int) by omega]; exact (Int.ofNat_tdiv (L - 1) 2).symm
  have hkL : k0 ≤ L := by omega
  have haL : a + L ≤ n := by omega
  have HSF : Hid (∀ (r t : Nat) (f : Array Nat) W, f.size = n → Rw p q g f W → t ≤ L → r ≤ t → Calls Tryd.prog 39 #[.slice (some ⟨g, o, none⟩) n cap, .int .i64 (r : Int), .int .i64 (t : Int), .int .i64 (a : Int)] W fun e w' => e = .returned (.tuple #[]) ∧ Rw p q g (siftDown ltN t a r f) w' ∧ Tb g W w') := fun r t f W hf hR ht hr => by
    have h9 := sift_any ho cap r t a f W hR (by omega) hr (by omega)
    rw [hf] at h9
    exact h9
  have HSG : Hid (∀ (t : Nat) (f : Array Nat) W, f.size = n → Rw p q g f W → t ≤ L → Calls Tryd.prog 39 #[.slice (some ⟨g, o, none⟩) n cap, .int .i64 0, .int .i64 (t : Int), .int .i64 (a : Int)] W fun e w' => e = .returned (.tuple #[]) ∧ Rw p q g (siftDown ltN t a 0 f) w' ∧ Tb g W w') := fun t f W h1 h2 h3 => HSF.out 0 t f W h1 h2 h3 (Nat.zero_le _)
  have HSG0 : Hid (∀ (f : Array Nat) W, f.size = n → Rw p q g f W → Calls Tryd.prog 39 #[.slice (some ⟨g, o, none⟩) n cap, .int .i64 0, .int .i64 0, .int .i64 (a : Int)] W fun e w' => e = .returned (.tuple #[]) ∧ Rw p q g (siftDown ltN 0 a 0 f) w' ∧ Tb g W w') := fun f W h1 h2 => HSF.out 0 0 f W h1 h2 (Nat.zero_le _) (Nat.zero_le _)
  have HSZ : Hid (∀ t r (f : Array Nat), f.size = n → t ≤ L → (siftDown ltN t a r f).size = n) := fun t r f hf ht => by rw [siftDown_size]; exact hf
  have Hn := Lib.hid hn
  have H := Lib.hid h
  clear h hn hk0 hL
  go_enter Tryd.func26, Tryd.ntmps26
  go_wp2
  go_loopg [9] (k0 + 1) (fun m vi wr => ∃ (k : Nat) (z : Int) (f : Array Nat), vi = .int .i64 z ∧ z = (k : Int) - 1 ∧ k ≤ k0 + 1 ∧ k ≤ m ∧ Hid (f.size = n) ∧ Hid (Rw p q g f wr) ∧ Hid (Tb g w wr) ∧ Hid (heapBuild ltN L a k f = heapBuild ltN L a (k0 + 1) d))
  case atStart => exact ⟨k0 + 1, k0, d, rfl, by omega, Nat.le_refl _, Nat.le_refl _, Hn.out.symm, H.out, Tb.refl _ _, rfl⟩
  case round =>
    obtain ⟨k, z, f, rfl, hz, hk, hm, HF, HS, HU, HI⟩ := hrel
    cases k with
    | succ k =>
      obtain rfl : z = (k : Int) := by omega
      clear hz
      go_wp2_with (go_at_call 39; (with_reducible refine (HSF.out k L f _ HF.out HS.out (Nat.le_refl _) (by omega)).mono ?_); rintro _ w2 ⟨rfl, hr2, ht2⟩; have HS2 := Lib.hid hr2; have HU2 := Lib.hid (HU.out.trans ht2); clear hr2 ht2)
      go_roundg k
      case measure => omega
      case rel => exact ⟨k, (k : Int) - 1, _, by simp, rfl, by omega, Nat.le_refl _, HSZ.out _ _ _ HF.out (Nat.le_refl _), HS2.out, HU2.out, by rw [← HI.out]; rfl⟩
    | zero =>
      obtain rfl : z = -1 := by omega
      have HE2 : Hid (heapSort ltN d a b = heapPop ltN a L f) := by
        show _ = _
        rw [HE.out, ← HI.out]; rfl
      clear hz
      go_wp2
      clear hl hq
      go_loopg [10] L (fun m vi wq => ∃ (k : Nat) (z : Int) (f2 : Array Nat), vi = .int .i64 z ∧ z = (k : Int) - 1 ∧ k ≤ L ∧ k ≤ m ∧ Hid (f2.size = n) ∧ Hid (Rw p q g f2 wq) ∧ Hid (Tb g w wq) ∧ Hid (heapPop ltN a k f2 = heapPop ltN a L f))
      case atStart => exact ⟨L, (L : Int) - 1, f, rfl, rfl, Nat.le_refl _, Nat.le_refl _, HF.out, HS.out, HU.out, rfl⟩
      case round =>
        obtain ⟨k, z, f2, rfl, hz, hk2, hm2, HF2, HS2, HU2, HI2⟩ := hrel
        cases k with
        | succ k =>
          obtain rfl : z = (k : Int) := by omega
          obtain ⟨G, hG⟩ : ∃ G : Nat → Nat, ∀ t, G t = f2[t]! := ⟨fun t => f2[t]!, fun _ => rfl⟩
          have HG := Lib.hid hG
          have hc : ∀ t, t < n → wr.cell? ⟨g, o + t, none⟩ = some (.int .u32 (G t : Int)) := fun t ht => by rw [hG]; exact HS2.out.cell ho (by rw [HF2.out]; exact ht)
          have hf : ∀ t, t < n → wr.frozen? ⟨g, o + t, none⟩ = false := fun t _ => HS2.out.frozen _
          rcases Nat.eq_zero_or_pos k with h0 | h0
          · subst h0
            have HK : Hid (∀ W, Rw p q g f2 W → Rw p q g (swp f2 a a) ((W.setCell ⟨g, o + a, none⟩ (.int .u32 (G a : Int))).setCell ⟨g, o + a, none⟩ (.int .u32 (G a : Int)))) := fun W hW => hW.swap ho (by rw [HF2.out]; omega) (by rw [HF2.out]; omega) (HG.out _) (HG.out _)
            have HSW : Hid ((swp f2 a a).size = n) := by show _ = _; rw [swp_size]; exact HF2.out
            clear hG hz
            go_upto_region 10 with (fail)
            go_region
            all_goals go_wp2_with (go_at_call 39; (with_reducible refine (HSG0.out (swp f2 a a) _ HSW.out (HK.out _ HS2.out).drew).mono ?_); rintro _ w3 ⟨rfl, hr3, ht3⟩; have HS3 := Lib.hid hr3; have HU3 := Lib.hid ((((HU2.out).setCell _ _).setCell _ _).drew.trans ht3); clear hr3 ht3)
            go_roundg 0
            case measure => omega
            case rel => exact ⟨0, (0 : Int) - 1, _, by simp, by decide, by omega, Nat.le_refl _, HSZ.out _ _ _ HSW.out (by omega), HS3.out, HU3.out, by rw [← HI2.out]; rfl⟩
          · have HK : Hid (∀ W, Rw p q g f2 W → Rw p q g (swp f2 a (a + k)) ((W.setCell ⟨g, o + a, none⟩ (.int .u32 (G (a + k) : Int))).setCell ⟨g, o + (a + k), none⟩ (.int .u32 (G a : Int)))) := fun W hW => hW.swap ho (by rw [HF2.out]; omega) (by rw [HF2.out]; omega) (HG.out _) (HG.out _)
            have HSW : Hid ((swp f2 a (a + k)).size = n) := by show _ = _; rw [swp_size]; exact HF2.out
            clear hG hz
            go_upto_region 10 with (fail)
            go_region
            all_goals go_wp2_with (go_at_call 39; (with_reducible refine (HSG.out k (swp f2 a (a + k)) _ HSW.out (HK.out _ HS2.out).drew (by omega)).mono ?_); rintro _ w3 ⟨rfl, hr3, ht3⟩; have HS3 := Lib.hid hr3; have HU3 := Lib.hid ((((HU2.out).setCell _ _).setCell _ _).drew.trans ht3); clear hr3 ht3)
            go_roundg k
            case measure => omega
            case rel => exact ⟨k, (k : Int) - 1, _, by simp, rfl, by omega, Nat.le_refl _, HSZ.out _ _ _ HSW.out (by omega), HS3.out, HU3.out, by rw [← HI2.out]; rfl⟩
        | zero =>
          obtain rfl : z = -1 := by omega
          clear hkL haL hk hm hk2 hm2 hz
          go_wp2
          go_end0
          exact ⟨rfl, by rw [HE2.out, ← HI2.out]; exact HS2.out, HU2.out⟩
end
end Go.Proofs.YtcopkeccogpkmaaDoor
