/- prime's Divisors up to its sorting. Sorted lists: one order alone; a step of an insertion. No conditions. The reference's Divisors. Both Divisors at 0; the sorted list by one name. No conditions. -/
import Derived.Test.YtcopkeccogpkmaaDoorPkPp14
import Derived.Test.YtcopkeccogpkmaaDoorPkPp2
import Derived.Test.YtcopkeccogpkmaaDoorPkPp3
namespace Go.Proofs.YtcopkeccogpkmaaDoor
section
open Go.RowKit

set_option maxRecDepth 100000 in
set_option maxHeartbeats 3200000 in
theorem divisors_sorted (srt : List Nat → List Nat) (n : Nat) (hn : n < 4294967296) (h0 : 0 < n) (w : World)
    (hs : ∀ (W : World) (g cap : Nat) (R : List Nat), W.ownsRow w.heap.size 22 1 (.slice (some ⟨g, 0, none⟩) R.length cap) R.length (u32s R) → (∀ x ∈ R, x ≤ n) → R.length ≤ n → w.heap.size ≤ W.heap.size → g < W.heap.size →
      Calls Tryd.prog 14 #[.slice (some ⟨g, 0, none⟩) R.length cap] W fun e W' => e = .returned (.tuple #[]) ∧ W'.ownsRow w.heap.size 22 1 (.slice (some ⟨g, 0, none⟩) R.length cap) R.length (u32s (srt R)) ∧ Below w.heap.size W W') :
    Calls Tryd.prog 7 #[.int .u32 (n : Int)] w fun r w' => ∃ L v, Fac n L ∧ r = .returned v ∧ w'.ownsRow w.heap.size 22 1 v (divL [1] L).length (u32s (srt (divL [1] L))) ∧ Below w.heap.size w w' := by
  have t0 : ((n : Int) == 0) = false := by simp; omega
  have Hs := Lib.hid hs
  clear hs
  go_enter Tryd.func7, Tryd.ntmps7
  go_wp2_with fail
  refine (factors_any n hn h0 _).mono ?_
  rintro _ w1 ⟨v, L, rfl, hF, hown, hb⟩
  obtain ⟨A, c, rfl⟩ := own_slice hown
  obtain ⟨gf, hf1, hf2, hf3⟩ := fac_row hown
  have hsz1 := hb.size
  rw [World.size_alloc] at hsz1 hf2
  have hgf : gf ≠ w.heap.size ∨ L.length = 0 := by
    by_cases h : L.length = 0
    · exact Or.inr h
    · exact Or.inl (by have := (hf2 h).2.1; omega)
  have hstart : ∀ gf', gf' ≠ w.heap.size → DvO n gf' L w w1 (.slice (some ⟨w.heap.size, 0, none⟩) 1 1) (.int .i64 0) w1 := fun gf' hg' => by
    refine ⟨[], L, n, w.heap.size, 1, rfl, rfl, rfl, hF, DivOk.start n, ⟨rfl, .inr ⟨w.heap.size, 1, #[.int .u32 1], rfl, Nat.le_refl _, ?_, by simp [divL], by unfold maxLen; omega, by simp, by simp [divL, u32s]⟩⟩, Grow.refl _ _, by omega, hg'⟩
    exact (hb.block _ (by simp)).trans (World.alloc_heap_new w _)
  obtain ⟨gf', hgf', hf4, hf5⟩ : ∃ gf', gf' ≠ w.heap.size ∧ (L.length ≠ 0 → A = some ⟨gf', 0, none⟩ ∧ gf' < w1.heap.size) ∧ (L.length ≠ 0 → ∀ j u, (facCells L)[j]? = some u → w1.cell? ⟨gf', j, none⟩ = some u) := by
    rcases hgf with h | h
    · exact ⟨gf, h, fun h => ⟨(hf2 h).1, (hf2 h).2.2⟩, fun _ => hf3⟩
    · exact ⟨w.heap.size + 1, by omega, fun h2 => absurd h h2, fun h2 => absurd h h2⟩
  have HS := Lib.hid (hstart gf' hgf')
  have HF := Lib.hid hF
  have HF4 := Lib.hid hf4
  have HF5 := Lib.hid hf5
  have hlen := hF.length_lt hn
  have HB := Lib.hid hb
  clear hown hf2 hf3 hgf hstart hf4 hf5 hF hb
  go_wp2_with fail
  go_loopw [3, 16] (fun s3 s16 W => DvO n gf' L w w1 s3 s16 W) (fun _ s16 _ => L.length - (intOf s16).toNat)
  case atStart => exact HS.out
  case round =>
    obtain ⟨D, R, m, g, cap, hL, rfl, rfl, hR, hok, hrow, hgr, hgl, hgf2⟩ := hrel
    cases R with
    | nil =>
      obtain rfl : m = 1 := hR
      rw [List.append_nil] at hL
      subst hL
      obtain ⟨O, hO⟩ : ∃ O, O = divL [1] L := ⟨_, rfl⟩
      rw [← hO] at hok hrow
      rw [← hO]
      have HO := Lib.hid hO
      have HR := Lib.hid hrow
      have hle : ∀ x ∈ O, x ≤ n := fun x hx => by have := hok.2 x hx; omega
      have hln : O.length ≤ n := by have := hok.1; omega
      have hwb : w.heap.size ≤ wr.heap.size := by have := hgr.size; omega
      have HC := Lib.hid (Hs.out wr g cap O hrow hle hln hwb hgl)
      have HB2 := Lib.hid (show Below w.heap.size w wr from (((Below.refl _ w).alloc (Nat.le_refl _) _).trans (HB.out.mono (by simp))).trans (hgr.below (Nat.le_refl _) (by omega)))
      clear hO hok hrow hle Hs hgr
      go_wp2_with fail
      refine HC.out.mono ?_
      rintro _ W2 ⟨rfl, ho, hb2⟩
      have Ho := Lib.hid ho
      have Hb2 := Lib.hid hb2
      clear ho hb2
      go_wp2
      go_ret
      exact ⟨L, _, HF.out, rfl, by rw [← HO.out]; exact Ho.out, HB2.out.trans Hb2.out⟩
    | cons x R =>
      obtain ⟨p, t⟩ := x
      obtain ⟨m2, ht, hm, hl, hmp, hR2⟩ := hR
      have hL0 : L.length ≠ 0 := by rw [hL]; simp
      obtain ⟨rfl, hgf3⟩ := HF4.out hL0
      have hc := fac_cells_at D R p t
      rw [← hL] at hc
      have hp := (World.cell?_of_block (a := ⟨gf', D.length * 2, none⟩) (hgr.block gf' hgf3 hgf2)).trans (HF5.out hL0 _ _ hc.1)
      have hq := (World.cell?_of_block (a := ⟨gf', D.length * 2 + 1, none⟩) (hgr.block gf' hgf3 hgf2)).trans (HF5.out hL0 _ _ hc.2)
      have hDl : D.length < L.length := by rw [hL]; simp
      obtain ⟨O, hO⟩ : ∃ O, O = divL [1] D := ⟨_, rfl⟩
      rw [← hO] at hok hrow
      rw [← hO]
      have HO := Lib.hid hO
      have Hrow := Lib.hid hrow
      have Hgr := Lib.hid hgr
      have HL := Lib.hid hL
      have HR2 := Lib.hid hR2
      have Hok := Lib.hid hok
      have Hm := Lib.hid hm
      have hp2 := hl.1
      obtain ⟨W1, hW1⟩ : ∃ W1, W1 = wr := ⟨_, rfl⟩
      subst hW1
      have hbx : Blk (W1.alloc (.cells #[.int .u32 (p : Int), .int .i64 (t : Int)] 29)) W1.heap.size 29 [.int .u32 (p : Int), .int .i64 (t : Int)] := Blk.new_ rfl
      have hx1 := hbx.cell 1
      have hO1 : 0 < O.length := by rw [HO.out]; exact divL_pos D [1] (by simp)
      have hm2 : 1 ≤ m2 := Nat.le_trans (Nat.one_le_two_pow (n := R.length)) HR2.out.length_pow
      have hpart := fun k (hk : k ≤ t) => Hok.out.part Hm.out hp2 hk
      have hlenk : ∀ k, k ≤ t → (divRow O p k).length ≤ n := fun k hk => Nat.le_trans (Nat.le_mul_of_pos_right _ hm2) (hpart k hk).1
      have hvalk : ∀ k, k ≤ t → ∀ d ∈ divRow O p k, d ≤ n := fun k hk d hd => Nat.le_trans (Nat.le_mul_of_pos_right _ hm2) ((hpart k hk).2 d hd)
      have hpt : ∀ k, k ≤ t → p ^ k ≤ n := fun k hk => by
        have h1 : p ^ k ≤ p ^ t := Nat.pow_le_pow_right (by omega) hk
        have h2 := Hok.out.1
        have h3 : p ^ t * 1 ≤ p ^ t * m2 := Nat.mul_le_mul_left _ hm2
        have h4 : 1 * (p ^ t * m2) ≤ O.length * (p ^ t * m2) := Nat.mul_le_mul_right _ hO1
        rw [Hm.out] at h2
        omega
      have htb : t < 4294967296 := by
        have h1 := succ_le_pow hp2 t
        have h2 := hpt t (Nat.le_refl _)
        omega
      have Hlenk := Lib.hid hlenk
      have Hvalk := Lib.hid hvalk
      have Hpt := Lib.hid hpt
      clear hpart hlenk hvalk hpt hm2
      have Hbx := Lib.hid hbx
      clear hO hrow hgr hL hR2 hok hm hl hmp hc hbx Hs
      go_wp2_with fail
      go_loopw [3, 7, 24] (fun s3 s7 s24 W => DvM O p t w (W1.alloc (.cells #[.int .u32 (p : Int), .int .i64 (t : Int)] 29)) g s3 s7 s24 W) (fun _ _ s24 _ => t - (intOf s24).toNat)
      case atStart => exact ⟨0, g, cap, rfl, Nat.zero_le _, by simp, rfl, Hrow.out.alloc _, Grow.refl _ _, by rw [World.size_alloc]; omega⟩
      case round =>
        obtain ⟨k, g6, cap6, rfl, hkt, rfl, rfl, hrow6, hgr6, hgl6⟩ := hrel
        obtain ⟨W6, hW6⟩ : ∃ W6, W6 = wr := ⟨_, rfl⟩
        subst hW6
        by_cases hk : k < t
        · have hp5 : W6.cell? ⟨W1.heap.size, 0, none⟩ = some (.int .u32 (p : Int)) := (World.cell?_of_block (a := ⟨W1.heap.size, 0, none⟩) (hgr6.block W1.heap.size (by simp) (by omega))).trans (Hbx.out.cell 0)
          obtain ⟨P0, hP0⟩ : ∃ P0, P0 = p ^ k := ⟨_, rfl⟩
          obtain ⟨P1, hP1⟩ : ∃ P1, P1 = p ^ (k + 1) := ⟨_, rfl⟩
          have hmul : P0 * p = P1 := by rw [hP0, hP1, Nat.pow_succ]
          have hP1n : P1 < 4294967296 := by have := Hpt.out (k + 1) hk; omega
          obtain ⟨B, hB⟩ : ∃ B, B = divRow O p k := ⟨_, rfl⟩
          rw [← hB] at hrow6
          rw [← hB, ← hP0]
          obtain ⟨hcap, hcell6⟩ := row_cells2 hrow6
          have hahead : O.length ≤ B.length := by rw [hB, divRow_length]; exact Nat.le_mul_of_pos_right _ (by omega)
          have hmi : (P0 : Int) * (p : Int) = (P1 : Int) := by rw [← hmul]; simp
          have hme : (P1 : Int) % 4294967296 = (P1 : Int) := Int.emod_eq_of_lt (by omega) (by omega)
          have Hcell6 := Lib.hid hcell6
          have Hgr6 := Lib.hid hgr6
          have Hrow6 := Lib.hid hrow6
          have HBk := Lib.hid hB
          have HP1 := Lib.hid hP1
          have HP0 := Lib.hid hP0
          have Hcapb := Lib.hid hcap
          have hcapO : O.length ≤ cap6 := by omega
          have HO5 := Lib.hid (show ∀ t, t < O.length → W6.cell? ⟨g6, t, none⟩ = some (.int .u32 ((O.getD t 0 : Nat) : Int)) from fun t ht => by
            rw [hcell6 t (by omega), hB, divRow_get ht])
          have HOv := Lib.hid (show ∀ j, j < O.length → O.getD j 0 * P1 ≤ n from fun j hj => Hvalk.out (k + 1) hk _ (by rw [hP1]; exact div_mem hj))
          have HBl := Lib.hid (show B.length + O.length ≤ n from by
            have := Hlenk.out (k + 1) hk
            rw [divRow, List.length_append, List.length_map, ← hB] at this
            exact this)
          have hOb : O.length ≤ 4294967296 := by have := HBl.out; omega
          clear hcell6 hgr6 hrow6 hB hP1 hP0 hmul hx1 hp hq hcap
          go_wp2_with fail
          go_loopw [3, 34] (fun s3 s34 W => DvI O B P1 w W6 g6 s3 s34 W) (fun _ s34 _ => O.length - (intOf s34).toNat)
          case atStart => exact ⟨0, g6, cap6, rfl, Nat.zero_le _, by simp, by simpa using Hrow6.out, Grow.refl _ _, hgl6, HO5.out⟩
          case round =>
            obtain ⟨j, g7, cap7, rfl, hjO, rfl, hrow7, hgr7, hgl7, hcell7⟩ := hrel
            obtain ⟨W7, hW7⟩ : ∃ W7, W7 = wr := ⟨_, rfl⟩
            subst hW7
            by_cases hj : j < O.length
            · have hcj := hcell7 j hj
              have hvj := HOv.out j hj
              obtain ⟨d, hd⟩ : ∃ d, d = O.getD j 0 := ⟨_, rfl⟩
              obtain ⟨y, hy⟩ : ∃ y, y = d * P1 := ⟨_, rfl⟩
              obtain ⟨C, hC⟩ : ∃ C, C = B ++ (O.take j).map (· * P1) := ⟨_, rfl⟩
              have hCn : C ++ [y] = B ++ (O.take (j + 1)).map (· * P1) := by rw [take_more P1 hj, hC, List.append_assoc, ← hd, ← hy]
              have hCl : C.length ≤ n := by
                have := HBl.out
                rw [hC, List.length_append, List.length_map, List.length_take]
                omega
              rw [← hd] at hcj hvj
              rw [← hy] at hvj
              rw [← hC] at hrow7
              rw [← hC]
              have hwb7 : w.heap.size ≤ W7.heap.size := by have := hgr7.size; have := Hgr6.out.size; have := Hgr.out.size; simp at *; omega
              obtain ⟨g8, cap8, W8, hrun, ho8, hg8, hl8, hk8⟩ := app_one W7 w.heap.size g7 cap7 C y hrow7 (by omega) hwb7
              have hc8 : ∀ t, t < O.length → W8.cell? ⟨g6, t, none⟩ = some (.int .u32 ((O.getD t 0 : Nat) : Int)) := fun t ht => by
                by_cases hgg : g6 = g7
                · have ht2 : t < C.length := by rw [hC, List.length_append]; omega
                  rw [hgg] at hcell7 ⊢
                  exact ((hk8 t ht2).trans ((row_cells2 hrow7).2 t ht2).symm).trans (hcell7 t ht)
                · refine (World.cell?_of_block (a := ⟨g6, t, none⟩) (hg8.block g6 ?_ hgg)).trans (hcell7 t ht)
                  have := hgr7.size
                  show g6 < W7.heap.size
                  omega
              have Hc8 := Lib.hid hc8
              have Hrun := Lib.hid hrun
              have hyi : (d : Int) * (P1 : Int) = (y : Int) := by rw [hy]; simp
              have hye : (y : Int) % 4294967296 = (y : Int) := Int.emod_eq_of_lt (by omega) (by omega)
              have HC := Lib.hid hC
              have HCn := Lib.hid hCn
              have H8 := Lib.hid (And.intro ho8 (And.intro hg8 hl8))
              have HK8 := Lib.hid hk8
              have Hgr7 := Lib.hid hgr7
              have Hgl7 := Lib.hid hgl7
              have Hcell7 := Lib.hid hcell7
              clear hvj hC hCn hrow7 hrun ho8 hg8 hl8 hk8 hgr7 hcell7 hme hmi hwb7 hy hd hc8
              go_wp2_with (first | (at_builtin; refine wpList_append_done rfl _ _ _ _ rfl _ _ rfl rfl _ _ Hrun.out ?_))
              case roundEnd =>
                refine ⟨⟨j + 1, g8, cap8, by simp, hj, ?_, ?_, Hgr7.out.trans H8.out.2.1, H8.out.2.2, Hc8.out⟩, by simp [intOf]; omega⟩
                · rw [← HCn.out]; simp
                · rw [← HCn.out]; exact H8.out.1
            · have hje : j = O.length := by omega
              have hfin : B ++ (O.take j).map (· * P1) = divRow O p (k + 1) := by
                rw [hje, List.take_length, divRow, HBk.out, HP1.out]
              rw [hfin] at hrow7
              rw [hfin]
              have H7 := Lib.hid (And.intro hrow7 (And.intro hgr7 hgl7))
              clear hrow7 hgr7 hgl7 hcell7 hfin hme hmi hje
              go_wp2_with fail
              case roundEnd =>
                refine ⟨⟨k + 1, g7, cap7, by simp, hk, by rw [HP1.out], rfl, H7.out.1, Hgr6.out.trans H7.out.2.1, H7.out.2.2⟩, by simp [intOf]; omega⟩
        · have Hgr6 := Lib.hid hgr6
          have Hrow6 := Lib.hid hrow6
          obtain rfl : k = t := by omega
          have hfin : divRow O p k = divL [1] (D ++ [(p, k)]) := by rw [divL_snoc, ← HO.out]
          rw [hfin] at Hrow6
          rw [hfin]
          have Hfin := Lib.hid hfin
          clear hgr6 hrow6 hx1 hp hq hfin
          go_wp2_with fail
          case roundEnd =>
            refine ⟨⟨D ++ [(p, k)], R, m2, g6, cap6, by rw [HL.out]; simp, by simp, rfl, HR2.out, ?_, Hrow6.out, (Hgr.out.trans ((Grow.refl W1 g).alloc _)).trans Hgr6.out, hgl6, hgf2⟩, by simp [intOf]; omega⟩
            rw [← Hfin.out]
            exact Hok.out.next Hm.out hp2
end
section
abbrev Asc (l : List Nat) : Prop := l.Pairwise (· ≤ ·)
theorem asc_unique {l k : List Nat} (hp : l.Perm k) (hl : Asc l) (hk : Asc k) : l = k :=
  hp.eq_of_pairwise (fun _ _ _ _ h1 h2 => Nat.le_antisymm h1 h2) hl hk
/-- Where an insertion stands: x between what is not larger and what is larger. -/
def Ins (A X Y : List Nat) (x : Nat) : Prop := A = X ++ Y ∧ Asc A ∧ ∀ y ∈ Y, x < y
theorem Ins.start {A : List Nat} (h : Asc A) (x : Nat) : Ins A A [] x := ⟨by simp, h, fun y hy => by cases hy⟩
theorem Ins.step {A X Y : List Nat} {x z : Nat} (h : Ins A (X ++ [z]) Y x) (hz : x < z) : Ins A X (z :: Y) x := by
  obtain ⟨h1, h2, h3⟩ := h
  refine ⟨by rw [h1]; simp, h2, fun y hy => ?_⟩
  rcases List.mem_cons.1 hy with rfl | hy
  · exact hz
  · exact h3 y hy
end
section
open Go.RowKit
end
section
open Go.RowKit

theorem divisors_zero (w : World) : Calls Tryd.prog 7 #[.int .u32 0] w fun r w' => r = .returned (.slice none 0 0) ∧ w' = w := by
  go_enter Tryd.func7, Tryd.ntmps7
  go_wp2
  go_ret
  exact ⟨rfl, rfl⟩
/-- The ascending permutation. -/
def srtN (R : List Nat) : List Nat := R.mergeSort fun a b => decide (a ≤ b)
theorem srtN_perm (R : List Nat) : (srtN R).Perm R := List.mergeSort_perm R _
theorem srtN_asc (R : List Nat) : Asc (srtN R) := by
  have h := List.pairwise_mergeSort (le := fun a b : Nat => decide (a ≤ b)) (fun a b c h1 h2 => by simp at h1 h2 ⊢; omega) (fun a b => by simp; omega) R
  exact h.imp fun h => by simpa using h
theorem srtN_eq {R S : List Nat} (ha : Asc S) (hp : S.Perm R) : S = srtN R := asc_unique (hp.trans (srtN_perm R).symm) ha (srtN_asc R)
end
end Go.Proofs.YtcopkeccogpkmaaDoor
