/- prime's Divisors up to its sorting. Sorted lists: one order alone; a step of an insertion. No conditions. The reference's Divisors. Both Divisors at 0; the sorted list by one name. No conditions. -/
import Derived.Test.YtcopkeccogpkmaaDoorPkPf14
import Derived.Test.YtcopkeccogpkmaaDoorPkPf2
import Derived.Test.YtcopkeccogpkmaaDoorPkPf3
namespace Go.Proofs.YtcopkeccogpkmaaDoor
section
open Go.RowKit

set_option maxRecDepth 100000 in
set_option maxHeartbeats 3200000 in
theorem divisors_sorted (srt : List Nat → List Nat) (n : Nat) (hn : n < 4294967296) (h0 : 0 < n) (w : World)
    (hs : ∀ (W : World) (g cap : Nat) (R : List Nat), W.ownsRow w.heap.size 22 1 (.slice (some ⟨g, 0, none⟩) R.length cap) R.length (u32s R) → (∀ x ∈ R, x ≤ n) → R.length ≤ n → w.heap.size ≤ W.heap.size → g < W.heap.size →
      Calls Tryd.prog 14 #[.slice (some ⟨g, 0, none⟩) R.length cap] W fun e W' => e = .returned (.tuple #[]) ∧ W'.ownsRow w.heap.size 22 1 (.slice (some ⟨g, 0, none⟩) R.length cap) R.length (u32s (srt R)) ∧ Below w.heap.size W W') :
    Calls Tryd.prog 7 #[.int .u32 (n : Int)] w fun r w' => ∃ L v, Fac n L ∧ r = .returned v ∧ w'.ownsRow w.heap.size 22 1 v (divL [1] L).length (u32s (srt (divL [1] L))) ∧ Below w.heap.size w w' := by
  have t0 : ((n : Int) == 0) = false := by simp; omega
  have Hs := Lib.hid hs
  clear hs
  go_enter Tryd.func7, Tryd.ntmps7
  go_wp2_with fail
  refine (factors_any n hn h0 _).mono ?_
  rintro _ w1 ⟨v, L, rfl, hF, hown, hb⟩
  obtain ⟨A, c, rfl⟩ := own_slice hown
  obtain ⟨gf, hf1, hf2, hf3⟩ := fac_row hown
  have hsz1 := hb.size
  rw [World.size_alloc] at hsz1 hf2
  have hgf : gf ≠ w.heap.size ∨ L.length = 0 := by
    by_cases h : L.length = 0
    · exact Or.inr h
    · exact Or.inl (by have := (hf2 h).2.1; omega)
  have hstart : ∀ gf', gf' ≠ w.heap.size → DvO n gf' L w w1 (.slice (some ⟨w.heap.size, 0, none⟩) 1 1) (.int .i64 0) w1 := fun gf' hg' => by
    refine ⟨[], L, n, w.heap.size, 1, rfl, rfl, rfl, hF, DivOk.start n, ⟨rfl, .inr ⟨w.heap.size, 1, #[.int .u32 1], rfl, Nat.le_refl _, ?_, by simp [divL], by unfold maxLen; omega, by simp, by simp [divL, u32s]⟩⟩, Grow.refl _ _, by omega, hg'⟩
    exact (hb.block _ (by simp)).trans (World.alloc_heap_new w _)
  obtain ⟨gf', hgf', hf4, hf5⟩ : ∃ gf', gf' ≠ w.heap.size ∧ (L.length ≠ 0 → A = some ⟨gf', 0, none⟩ ∧ gf' < w1.heap.size) ∧ (L.length ≠ 0 → ∀ j u, (facCells L)[j]? = some u → w1.cell? ⟨gf', j, none⟩ = some u) := by
    rcases hgf with h | h
    · exact ⟨gf, h, fun h => ⟨(hf2 h).1, (hf2 h).2.2⟩, fun _ => hf3⟩
    · exact ⟨w.heap.size + 1, by omega, fun h2 => absurd h h2, fun h2 => absurd h h2⟩
  have HS := Lib.hid (hstart gf' hgf')
  have HF := Lib.hid hF
  have HF4 := Lib.hid hf4
  have HF5 := Lib.hid hf5
  have hlen := hF.length_lt hn
  have HB := Lib.hid hb
  clear hown hf2 hf3 hgf hstart hf4 hf5 hF hb
  go_wp2_with fail
  go_loopw [3, 16] (fun s3 s16 W => DvO n gf' L w w1 s3 s16 W) (fun _ s16 _ => L.length - (intOf s16).toNat)
  case atStart => exact HS.out
  case round =>
    obtain ⟨D, R, m, g, cap, hL, rfl, rfl, hR, hok, hrow, hgr, hgl, hgf2⟩ := hrel
    cases R with
    | nil =>
      obtain rfl : m = 1 := hR
      rw [List.append_nil] at hL
      subst hL
      obtain ⟨O, hO⟩ : ∃ O, O = divL [1] L := ⟨_, rfl⟩
      rw [← hO] at hok hrow
      rw [← hO]
      have HO := Lib.hid hO
      have HR := Lib.hid hrow
      have hle : ∀ x ∈ O, x ≤ n := fun x hx => by have := hok.2 x hx; omega
      have hln : O.length ≤ n := by have := hok.1; omega
      have hwb : w.heap.size ≤ wr.heap.size := by have := hgr.size; omega
      have HC := Lib.hid (Hs.out wr g cap O hrow hle hln hwb hgl)
      have HB2 := Lib.hid (show Below w.heap.size w wr from (((Below.refl _ w).alloc (Nat.le_refl _) _).trans (HB.out.mono (by simp))).trans (hgr.below (Nat.le_refl _) (by omega)))
      clear hO hok hrow hle Hs hgr
      go_wp2_with fail
      refine HC.out.mono ?_
      rintro _ W2 ⟨rfl, ho, hb2⟩
      have Ho := Lib.hid ho
      have Hb2 := Lib.hid hb2
      clear ho hb2
      go_wp2
      go_ret
      exact ⟨L, _, HF.out, rfl, by rw [← HO.out]; exact Ho.out, HB2.out.trans Hb2.out⟩
    | cons x R =>
      obtain ⟨p, t⟩ := x
      obtain ⟨m2, ht, hm, hl, hmp, hR2⟩ := hR
      have hL0 : L.length ≠ 0 := by rw [hL]; simp
      obtain ⟨rfl, hgf3⟩ := HF4.out hL0
      have hc := fac_cells_at D R p t
      rw [← hL] at hc
      have hp := (World.cell?_of_block (a := ⟨gf', D.length * 2, none⟩) (hgr.block gf' hgf3 hgf2)).trans (HF5.out hL0 _ _ hc.1)
      have hq := (World.cell?_of_block (a := ⟨gf', D.length * 2 + 1, none⟩) (hgr.block gf' hgf3 hgf2)).trans (HF5.out hL0 _ _ hc.2)
      have hDl : D.length < L.length := by rw [hL]; simp
      obtain ⟨O, hO⟩ : ∃ O, O = divL [1] D := ⟨_, rfl⟩
      rw [← hO] at hok hrow
      rw [← hO]
      have HO := Lib.hid hO
      have Hrow := Lib.hid hrow
      have Hgr := Lib.hid hgr
      have HL := Lib.hid hL
      have HR2 := Lib.hid hR2
      have Hok := Lib.hid hok
      have Hm := Lib.hid hm
      have hp2 := hl.1
      obtain ⟨W1, hW1⟩ : ∃ W1, W1 = wr := ⟨_, rfl⟩
      subst hW1
      have hbx : Blk (W1.alloc (.cells #[.int .u32 (p : Int), .int .i64 (t : Int)] 29)) W1.heap.size 29 [.int .u32 (p : Int), .int .i64 (t : Int)] := Blk.new_ rfl
      have hx1 := hbx.cell 1
      have hO1 : 0 < O.length := by rw [HO.out]; exact divL_pos D [1] (by simp)
      have hm2 : 1 ≤ m2 := Nat.le_trans (Nat.one_le_two_pow (n := R.length)) HR2.out.length_pow
      have hpart := fun k (hk : k ≤ t) => Hok.out.part Hm.out hp2 hk
      have hlenk : ∀ k, k ≤ t → (divRow O p k).length ≤ n := fun k hk => Nat.le_trans (Nat.le_mul_of_pos_right _ hm2) (hpart k hk).1
      have hvalk : ∀ k, k ≤ t → ∀ d ∈ divRow O p k, d ≤ n := fun k hk d hd => Nat.le_trans (Nat.le_mul_of_pos_right _ hm2) ((hpart k hk).2 d hd)
      have hpt : ∀ k, k ≤ t → p ^ k ≤ n := fun k hk => by
        have h1 : p ^ k ≤ p ^ t := Nat.pow_le_pow_right (by omega) hk
        have h2 := Hok.out.1
        have h3 : p ^ t * 1 ≤ p ^ t * m2 := Nat.mul_le_mul_left _ hm2
        have h4 : 1 * (p ^ t * m2) ≤ O.length * (p ^ t * m2) := Nat.mul_le_mul_right _ hO1
        rw [Hm.out] at h2
        omega
      have htb : t < 4294967296 := by
        have h1 := succ_le_pow hp2 t
        have h2 := hpt t (Nat.le_refl _)
        omega
      have Hlenk := Lib.hid hlenk
      have Hvalk := Lib.hid hvalk
      have Hpt := Lib.hid hpt
      clear hpart hlenk hvalk hpt hm2
      have Hbx := Lib.hid hbx
      clear hO hrow hgr hL hR2 hok hm hl hmp hc hbx Hs
      go_wp2_with fail
      go_loopw [3, 7, 24] (fun s3 s7 s24 W => DvM O p t w (W1.alloc (.cells #[.int .u32 (p : Int), .int .i64 (t : Int)] 29)) g s3 s7 s24 W) (fun _ _ s24 _ => t - (intOf s24).toNat)
      case atStart => exact ⟨0, g, cap, rfl, Nat.zero_le _, by simp, rfl, Hrow.out.alloc _, Grow.refl _ _, by rw [World.size_alloc]; omega⟩
      case round =>
        obtain ⟨k, g6, cap6, rfl, hkt, rfl, rfl, hrow6, hgr6, hgl6⟩ := hrel
        obtain ⟨W6, hW6⟩ : ∃ W6, W6 = wr := ⟨_, rfl⟩
        subst hW6
        by_cases hk : k < t
        · have hp5 : W6.cell? ⟨W1.heap.size, 0, none⟩ = some (.int .u32 (p : Int)) := (World.cell?_of_block (a := ⟨W1.heap.size, 0, none⟩) (hgr6.block W1.heap.size (by simp) (by omega))).trans (Hbx.out.cell 0)
          obtain ⟨P0, hP0⟩ : ∃ P0, P0 = p ^ k := ⟨_, rfl⟩
          obtain ⟨P1, hP1⟩ : ∃ P1, P1 = p ^ (k + 1) := ⟨_, rfl⟩
          have hmul : P0 * p = P1 := by rw [hP0, hP1, Nat.pow_succ]
          have hP1n : P1 < 4294967296 := by have := Hpt.out (k + 1) hk; omega
          obtain ⟨B, hB⟩ : ∃ B, B = divRow O p k := ⟨_, rfl⟩
          rw [← hB] at hrow6
          rw [← hB, ← hP0]
          obtain ⟨hcap, hcell6⟩ := row_cells2 hrow6
          have hahead : O.length ≤ B.length := by rw [hB, divRow_length]; exact Nat.le_mul_of_pos_right _ (by omega)
          have hmi : (P0 : Int) * (p : Int) = (P1 : Int) := by rw [← hmul]; simp
          have hme : (P1 : Int) % 4294967296 = (P1 : Int) := Int.emod_eq_of_lt (by omega) (by omega)
          have Hcell6 := Lib.hid hcell6
          have Hgr6 := Lib.hid hgr6
          have Hrow6 := Lib.hid hrow6
          have HBk := Lib.hid hB
          have HP1 := Lib.hid hP1
          have HP0 := Lib.hid hP0
          have Hcapb := Lib.hid hcap
          have hcapO : O.length ≤ cap6 := by omega
          have HO5 := Lib.hid (show ∀ t, t < O.length → W6.cell? ⟨g6, t, none⟩ = some (.int .u32 ((O.getD t 0 : Nat) : Int)) from fun t ht => by
            rw [hcell6 t (by omega), hB, divRow_get ht])
          have HOv := Lib.hid (show ∀ j, j < O.length → O.getD j 0 * P1 ≤ n from fun j hj => Hvalk.out (k + 1) hk _ (by rw [hP1]; exact div_mem hj))
          have HBl := Lib.hid (show B.length + O.length ≤ n from by
            have := Hlenk.out (k + 1) hk
            rw [divRow, List.length_append, List.length_map, ← hB] at this
            exact this)
          have hOb : O.length ≤ 4294967296 := by have := HBl.out; omega
          clear hcell6 hgr6 hrow6 hB hP1 hP0 hmul hx1 hp hq hcap
          go_wp2_with fail
          go_loopw [3, 34] (fun s3 s34 W => DvI O B P1 w W6 g6 s3 s34 W) (fun _ s34 _ => O.length - (intOf s34).toNat)
          case atStart => exact ⟨0, g6, cap6, rfl, Nat.zero_le _, by simp, by simpa using Hrow6.out, Grow.refl _ _, hgl6, HO5.out⟩
          case round =>
            obtain ⟨j, g7, cap7, rfl, hjO, rfl, hrow7, hgr7, hgl7, hcell7⟩ := hrel
            obtain ⟨W7, hW7⟩ : ∃ W7, W7 = wr := ⟨_, rfl⟩
            subst hW7
            by_cases hj : j < O.length
            · have hcj := hcell7 j hj
              have hvj := HOv.out j hj
              obtain ⟨d, hd⟩ : ∃ d, d = O.getD j 0 := ⟨_, rfl⟩
              obtain ⟨y, hy⟩ : ∃ y, y = d * P1 := ⟨_, rfl⟩
              obtain ⟨C, hC⟩ : ∃ C, C = B ++ (O.take j).map (· * P1) := ⟨_, rfl⟩
              have hCn : C ++ [y] = B ++ (O.take (j + 1)).map (· * P1) := by rw [take_more P1 hj, hC, List.append_assoc, ← hd, ← hy]
              have hCl : C.length ≤ n := by
                have := HBl.out
                rw [hC, List.length_append, List.length_map, List.length_take]
                omega
              rw [← hd] at hcj hvj
              rw [← hy] at hvj
              rw [← hC] at hrow7
              rw [← hC]
              have hwb7 : w.heap.size ≤ W7.heap.size := by have := hgr7.size; have := Hgr6.out.size; have := Hgr.out.size; simp at *; omega
              obtain ⟨g8, cap8, W8, hrun, ho8, hg8, hl8, hk8⟩ := app_one W7 w.heap.size g7 cap7 C y hrow7 (by omega) hwb7
              have hc8 : ∀ t, t < O.length → W8.cell? ⟨g6, t, none⟩ = some (.int .u32 ((O.getD t 0 : Nat) : Int)) := fun t ht => by
                by_cases hgg : g6 = g7
                · have ht2 : t < C.length := by rw [hC, List.length_append]; omega
                  rw [hgg] at hcell7 ⊢
                  exact ((hk8 t ht2).trans ((row_cells2 hrow7).2 t ht2).symm).trans (hcell7 t ht)
                · refine (World.cell?_of_block (a := ⟨g6, t, none⟩) (hg8.block g6 ?_ hgg)).trans (hcell7 t ht)
                  have := hgr7.size
                  show g6 < W7.heap.size
                  omega
              have Hc8 := Lib.hid hc8
              have Hrun := Lib.hid hrun
              have hyi : (d : Int) * (P1 : Int) = (y : Int) := by rw [hy]; simp
              have hye : (y : Int) % 4294967296 = (y : Int) := Int.emod_eq_of_lt (by omega) (by omega)
              have HC := Lib.hid hC
              have HCn := Lib.hid hCn
              have H8 := Lib.hid (And.intro ho8 (And.intro hg8 hl8))
              have HK8 := Lib.hid hk8
              have Hgr7 := Lib.hid hgr7
              have Hgl7 := Lib.hid hgl7
              have Hcell7 := Lib.hid hcell7
              clear hvj hC hCn hrow7 hrun ho8 hg8 hl8 hk8 hgr7 hcell7 hme hmi hwb7 hy hd hc8
              go_wp2_with (first | (at_builtin; refine wpList_append_done rfl _ _ _ _ rfl _ _ rfl rfl _ _ Hrun.out ?_))
              case roundEnd =>
                refine ⟨⟨j + 1, g8, cap8, by simp, hj, ?_, ?_, Hgr7.out.trans H8.out.2.1, H8.out.2.2, Hc8.out⟩, by simp [intOf]; omega⟩
                · rw [← HCn.out]; simp
                · rw [← HCn.out]; exact H8.out.1
            · have hje : j = O.length := by omega
              have hfin : B ++ (O.take j).map (· * P1) = divRow O p (k + 1) := by
                rw [hje, List.take_length, divRow, HBk.out, HP1.out]
              rw [hfin] at hrow7
              rw [hfin]
              have H7 := Lib.hid (And.intro hrow7 (And.intro hgr7 hgl7))
              clear hrow7 hgr7 hgl7 hcell7 hfin hme hmi hje
              go_wp2_with fail
              case roundEnd =>
                refine ⟨⟨k + 1, g7, cap7, by simp, hk, by rw [HP1.out], rfl, H7.out.1, Hgr6.out.trans H7.out.2.1, H7.out.2.2⟩, by simp [intOf]; omega⟩
        · have Hgr6 := Lib.hid hgr6
          have Hrow6 := Lib.hid hrow6
          obtain rfl : k = t := by omega
          have hfin : divRow O p k = divL [1] (D ++ [(p, k)]) := by rw [divL_snoc, ← HO.out]
          rw [hfin] at Hrow6
          rw [hfin]
          have Hfin := Lib.hid hfin
          clear hgr6 hrow6 hx1 hp hq hfin
          go_wp2_with fail
          case roundEnd =>
            refine ⟨⟨D ++ [(p, k)], R, m2, g6, cap6, by rw [HL.out]; simp, by simp, rfl, HR2.out, ?_, Hrow6.out, (Hgr.out.trans ((Grow.refl W1 g).alloc _)).trans Hgr6.out, hgl6, hgf2⟩, by simp [intOf]; omega⟩
            rw [← Hfin.out]
            exact Hok.out.next Hm.out hp2
end
section
abbrev Asc (l : List Nat) : Prop := l.Pairwise (· ≤ ·)
theorem asc_unique {l k : List Nat} (hp : l.Perm k) (hl : Asc l) (hk : Asc k) : l = k :=
  hp.eq_of_pairwise (fun _ _ _ _ h1 h2 => Nat.le_antisymm h1 h2) hl hk
/-- Where an insertion stands: x between what is not larger and what is larger. -/
def Ins (A X Y : List Nat) (x : Nat) : Prop := A = X ++ Y ∧ Asc A ∧ ∀ y ∈ Y, x < y
theorem Ins.start {A : List Nat} (h : Asc A) (x : Nat) : Ins A A [] x := ⟨by simp, h, fun y hy => by cases hy⟩
theorem Ins.step {A X Y : List Nat} {x z : Nat} (h : Ins A (X ++ [z]) Y x) (hz : x < z) : Ins A X (z :: Y) x := by
  obtain ⟨h1, h2, h3⟩ := h
  refine ⟨by rw [h1]; simp, h2, fun y hy => ?_⟩
  rcases List.mem_cons.1 hy with rfl | hy
  · exact hz
  · exact h3 y hy
theorem Ins.done {A X Y : List Nat} {x : Nat} (h : Ins A X Y x) (hx : ∀ z, X.getLast? = some z → z ≤ x) : Asc (X ++ x :: Y) ∧ (X ++ x :: Y).Perm (A ++ [x]) := by
  obtain ⟨rfl, h2, h3⟩ := h
  obtain ⟨hX, hY, hXY⟩ := List.pairwise_append.1 h2
  have hle : ∀ z ∈ X, z ≤ x := by
    rcases List.eq_nil_or_concat X with rfl | ⟨X0, z0, rfl⟩
    · intro z hz; cases hz
    · rw [List.concat_eq_append] at hX hx ⊢
      have h0 := hx z0 (by simp)
      intro z hz
      rcases List.mem_append.1 hz with hz | hz
      · exact Nat.le_trans ((List.pairwise_append.1 hX).2.2 z hz z0 (by simp)) h0
      · rw [List.mem_singleton.1 hz]; exact h0
  refine ⟨List.pairwise_append.2 ⟨hX, List.pairwise_cons.2 ⟨fun y hy => Nat.le_of_lt (h3 y hy), hY⟩, fun a ha b hb => ?_⟩, ?_⟩
  · rcases List.mem_cons.1 hb with rfl | hb
    · exact hle a ha
    · exact hXY a ha b hb
  · rw [List.append_assoc]
    exact List.Perm.append_left X (List.perm_append_singleton x Y).symm
/-- A number of a row of one's own is set in place. -/
theorem row_set {W : World} {base g p : Nat} {L : List Nat} (h : W.ownsRow base 22 1 (.slice (some ⟨g, 0, none⟩) L.length p) L.length (u32s L)) (k y : Nat) :
    W.frozen? ⟨g, k, none⟩ = false ∧ base ≤ g ∧ (W.setCell ⟨g, k, none⟩ (.int .u32 (y : Int))).ownsRow base 22 1 (.slice (some ⟨g, 0, none⟩) L.length p) L.length (u32s (L.set k y)) := by
  obtain ⟨hl, ⟨h, h0⟩ | ⟨g2, cap, cur, hv, hg, hh, hnc, hcm, hsz, htk⟩⟩ := h
  · cases h
  · injection hv with e1 e2 e3
    injection e1 with e1
    injection e1 with e1
    subst e3
    subst e1
    have hb : Blk W g 22 cur.toList := by simpa [Blk] using hh
    refine ⟨hb.frozen _, hg, by simp [u32s], .inr ⟨g, p, (cur.toList.set k (.int .u32 (y : Int))).toArray, rfl, hg, ?_, hnc, hcm, by simpa using hsz, ?_⟩⟩
    · have := hb.set_ k (.int .u32 (y : Int))
      simpa [Blk] using this
    · rw [Nat.mul_one] at htk ⊢
      show (cur.toList.set k _).take L.length = _
      rw [List.take_set, htk, u32s, u32s, List.map_set]
theorem swap_list (X Y Z : List Nat) (z x : Nat) : (((X ++ [z]) ++ x :: Y ++ Z).set (X.length + 1) z).set X.length x = X ++ x :: (z :: Y) ++ Z := by
  simp
end
section
open Go.RowKit

/-- Where the inner loops stand: the source is the block in which the row lay ahead of this factor. -/
def DvMr (O : List Nat) (p t : Nat) (w W5 : World) (g5 : Nat) (s3 s7 s25 : Value) (W : World) : Prop := DvM O p t w W5 g5 s3 s7 s25 W ∧ ∀ t, t < O.length → W.cell? ⟨g5, t, none⟩ = some (.int .u32 ((O.getD t 0 : Nat) : Int))
def DvIr (O B : List Nat) (q : Nat) (w W6 : World) (gs g6 : Nat) (s3 s33 : Value) (W : World) : Prop :=
  ∃ (j g cap : Nat), s33 = .int .i64 (j : Int) ∧ j ≤ O.length ∧ s3 = .slice (some ⟨g, 0, none⟩) (B ++ (O.take j).map (· * q)).length cap ∧
    W.ownsRow w.heap.size 22 1 s3 (B ++ (O.take j).map (· * q)).length (u32s (B ++ (O.take j).map (· * q))) ∧ Grow W6 g6 W g ∧ g < W.heap.size ∧ ∀ t, t < O.length → W.cell? ⟨gs, t, none⟩ = some (.int .u32 ((O.getD t 0 : Nat) : Int))
/-- Where the insertion stands. -/
def DvS (O : List Nat) (g cap : Nat) (w wr : World) (s48 : Value) (W : World) : Prop :=
  ∃ (i : Nat) (A : List Nat), s48 = .int .i64 (i : Int) ∧ i ≤ O.length ∧ A.Perm (O.take i) ∧ Asc A ∧ (A ++ O.drop i).length = O.length ∧ W.ownsRow w.heap.size 22 1 (.slice (some ⟨g, 0, none⟩) O.length cap) O.length (u32s (A ++ O.drop i)) ∧ Below w.heap.size wr W
def DvT (A Z : List Nat) (x n g cap : Nat) (w wr : World) (s11 : Value) (W : World) : Prop :=
  ∃ (X Y : List Nat), s11 = .int .i64 (X.length : Int) ∧ Ins A X Y x ∧ W.ownsRow w.heap.size 22 1 (.slice (some ⟨g, 0, none⟩) n cap) n (u32s (X ++ x :: Y ++ Z)) ∧ Below w.heap.size wr W
theorem dvs_next {O A X Y : List Nat} {i x g cap q : Nat} {w V W : World} (hperm : A.Perm (O.take i)) (hi : i < O.length) (hx : O.drop i = x :: O.drop (i + 1)) (hd : Asc (X ++ x :: Y) ∧ (X ++ x :: Y).Perm (A ++ [x]))
    (hr : W.ownsRow w.heap.size 22 1 (.slice (some ⟨g, 0, none⟩) O.length cap) O.length (u32s (X ++ x :: Y ++ O.drop (i + 1)))) (hb : Below w.heap.size V W) : DvS O g cap w V (.int .i64 ((i : Int) + 1)) (W.drewN q) := by
  have hget : O[i]? = some x := by
    have h : (O.drop i)[0]? = some x := by rw [hx]; rfl
    simpa using h
  have htk : O.take (i + 1) = O.take i ++ [x] := by rw [List.take_add_one, hget]; rfl
  refine ⟨i + 1, X ++ x :: Y, by simp, hi, ?_, hd.1, ?_, hr, ⟨hb.os, hb.tape, hb.output, hb.size, hb.block⟩⟩
  · rw [htk]
    exact hd.2.trans (hperm.append_right [x])
  · have := hr.1
    simpa [u32s] using this

set_option maxRecDepth 100000 in
set_option maxHeartbeats 3200000 in
theorem rdivisors_any (n : Nat) (hn : n < 4294967296) (h0 : 0 < n) (w : World) :
    Calls Tryd.prog 8 #[.int .u32 (n : Int)] w fun r w' => ∃ L v S, Fac n L ∧ r = .returned v ∧ Asc S ∧ S.Perm (divL [1] L) ∧ w'.ownsRow w.heap.size 22 1 v S.length (u32s S) ∧ Below w.heap.size w w' := by
  have t0 : ((n : Int) == 0) = false := by simp; omega
  go_enter Tryd.func8, Tryd.ntmps8
  go_wp2_with fail
  refine (rfactors_any n hn h0 _).mono ?_
  rintro _ w1 ⟨v, L, rfl, hF, hown, hb⟩
  obtain ⟨A, c, rfl⟩ := own_slice hown
  obtain ⟨gf, hf1, hf2, hf3⟩ := fac_row hown
  have hsz1 := hb.size
  rw [World.size_alloc] at hsz1 hf2
  have hgf : gf ≠ w.heap.size ∨ L.length = 0 := by
    by_cases h : L.length = 0
    · exact Or.inr h
    · exact Or.inl (by have := (hf2 h).2.1; omega)
  have hstart : ∀ gf', gf' ≠ w.heap.size → DvO n gf' L w w1 (.slice (some ⟨w.heap.size, 0, none⟩) 1 1) (.int .i64 0) w1 := fun gf' hg' => by
    refine ⟨[], L, n, w.heap.size, 1, rfl, rfl, rfl, hF, DivOk.start n, ⟨rfl, .inr ⟨w.heap.size, 1, #[.int .u32 1], rfl, Nat.le_refl _, ?_, by simp [divL], by unfold maxLen; omega, by simp, by simp [divL, u32s]⟩⟩, Grow.refl _ _, by omega, hg'⟩
    exact (hb.block _ (by simp)).trans (World.alloc_heap_new w _)
  obtain ⟨gf', hgf', hf4, hf5⟩ : ∃ gf', gf' ≠ w.heap.size ∧ (L.length ≠ 0 → A = some ⟨gf', 0, none⟩ ∧ gf' < w1.heap.size) ∧ (L.length ≠ 0 → ∀ j u, (facCells L)[j]? = some u → w1.cell? ⟨gf', j, none⟩ = some u) := by
    rcases hgf with h | h
    · exact ⟨gf, h, fun h => ⟨(hf2 h).1, (hf2 h).2.2⟩, fun _ => hf3⟩
    · exact ⟨w.heap.size + 1, by omega, fun h2 => absurd h h2, fun h2 => absurd h h2⟩
  have HS := Lib.hid (hstart gf' hgf')
  have HF := Lib.hid hF
  have HF4 := Lib.hid hf4
  have HF5 := Lib.hid hf5
  have hlen := hF.length_lt hn
  have HB := Lib.hid hb
  clear hown hf2 hf3 hgf hstart hf4 hf5 hF hb
  go_wp2_with fail
  go_loopw [3, 18] (fun s3 s16 W => DvO n gf' L w w1 s3 s16 W) (fun _ s16 _ => L.length - (intOf s16).toNat)
  case atStart => exact HS.out
  case round =>
    obtain ⟨D, R, m, g, cap, hL, rfl, rfl, hR, hok, hrow, hgr, hgl, hgf2⟩ := hrel
    cases R with
    | nil =>
      obtain rfl : m = 1 := hR
      rw [List.append_nil] at hL
      subst hL
      obtain ⟨O, hO⟩ : ∃ O, O = divL [1] L := ⟨_, rfl⟩
      rw [← hO] at hok hrow
      rw [← hO]
      have HO := Lib.hid hO
      have HR := Lib.hid hrow
      have hle : ∀ x ∈ O, x ≤ n := fun x hx => by have := hok.2 x hx; omega
      have hln : O.length ≤ n := by have := hok.1; omega
      have hwb : w.heap.size ≤ wr.heap.size := by have := hgr.size; omega
      have HB2 := Lib.hid (show Below w.heap.size w wr from (((Below.refl _ w).alloc (Nat.le_refl _) _).trans (HB.out.mono (by simp))).trans (hgr.below (Nat.le_refl _) (by omega)))
      clear hO hrow hle hgr hok
      have hOb : O.length ≤ 4294967296 := by omega
      obtain ⟨V, hV⟩ : ∃ V, V = wr := ⟨_, rfl⟩
      subst hV
      go_wp2_with fail
      go_loopw [48] (fun s48 W => DvS O g cap w V s48 W) (fun s48 _ => O.length - (intOf s48).toNat)
      case atStart => exact ⟨0, [], rfl, Nat.zero_le _, by simp, List.Pairwise.nil, by simp, by simpa using HR.out, Below.refl _ _⟩
      case round =>
        obtain ⟨i, A, rfl, hiO, hperm, hasc, hAl, hrow, hbw⟩ := hrel
        have Hperm := Lib.hid hperm
        have Hasc := Lib.hid hasc
        have HAl := Lib.hid hAl
        have Hrow := Lib.hid hrow
        have Hbw := Lib.hid hbw
        obtain ⟨W2, hW2⟩ : ∃ W2, W2 = wr := ⟨_, rfl⟩
        subst hW2
        by_cases hi : i < O.length
        · have hA : A.length = i := by have := hperm.length_eq; rw [List.length_take] at this; omega
          obtain ⟨x, hx⟩ : ∃ x, x = O.getD i 0 := ⟨_, rfl⟩
          have hsplit : O.drop i = x :: O.drop (i + 1) := by
            rw [hx, List.getD_eq_getElem?_getD, List.getElem?_eq_getElem hi]; exact List.drop_eq_getElem_cons hi
          have Hsplit := Lib.hid hsplit
          clear hperm hasc hAl hrow hbw hx
          go_wp2_with fail
          go_loopw [11] (fun s11 W => DvT A (O.drop (i + 1)) x O.length g cap w V s11 W) (fun s11 _ => (intOf s11).toNat)
          case atStart =>
            refine ⟨A, [], by rw [hA], Ins.start Hasc.out x, ?_, Hbw.out⟩
            have := Hrow.out
            rw [hsplit] at this
            simpa using this
          case round =>
            obtain ⟨X, Y, rfl, hins, hrow3, hbw3⟩ := hrel
            obtain ⟨W3, hW3⟩ : ∃ W3, W3 = wr := ⟨_, rfl⟩
            subst hW3
            rcases List.eq_nil_or_concat X with rfl | ⟨X0, z, rfl⟩
            · have Hd := Lib.hid (hins.done (fun z hz => by cases hz))
              have Hr3 := Lib.hid hrow3
              have Hb3 := Lib.hid hbw3
              clear hins hrow3 hbw3 hsplit
              go_wp2_with fail
              go_quiet (fail)
              go_wp2_with fail
              exact ⟨dvs_next Hperm.out hi Hsplit.out Hd.out Hr3.out Hb3.out, by simp [intOf]; omega⟩
            · rw [List.concat_eq_append] at hrow3 hins ⊢
              obtain ⟨k0, hk0⟩ : ∃ k0, k0 = X0.length := ⟨_, rfl⟩
              have hkl : (X0 ++ [z]).length = k0 + 1 := by simp [hk0]
              rw [hkl]
              have hsl : (X0 ++ [z] ++ x :: Y ++ O.drop (i + 1)).length = O.length := by have := hrow3.1; simpa [u32s] using this
              rw [← hsl] at hrow3
              have hcc := (row_cells2 hrow3).2
              have hck : W3.cell? ⟨g, k0 + 1, none⟩ = some (.int .u32 (x : Int)) := by
                have h9 := hcc (k0 + 1) (by simp [hk0])
                have h8 : (X0 ++ [z] ++ x :: Y ++ O.drop (i + 1)).getD (k0 + 1) 0 = x := by simp [hk0, List.getD_eq_getElem?_getD]
                rw [h8] at h9; exact h9
              have hcz : W3.cell? ⟨g, k0, none⟩ = some (.int .u32 (z : Int)) := by
                have h9 := hcc k0 (by simp [hk0])
                have h8 : (X0 ++ [z] ++ x :: Y ++ O.drop (i + 1)).getD k0 0 = z := by simp [hk0, List.getD_eq_getElem?_getD]
                rw [h8] at h9; exact h9
              have hk1 : k0 + 1 < O.length := by rw [← hsl]; simp [hk0]
              have Hins := Lib.hid hins
              have Hr3 := Lib.hid hrow3
              have Hb3 := Lib.hid hbw3
              have Hsl := Lib.hid hsl
              have Hk0 := Lib.hid hk0
              clear hins hrow3 hbw3 hsplit hcc hsl hkl hk0
              by_cases hxz : x < z
              · go_wp2_with fail
                go_quiet (fail)
                go_wp2_with fail
                have hck2 : (W3.drewN (nq + 1)).cell? ⟨g, k0 + 1, none⟩ = some (.int .u32 (x : Int)) := hck
                have hcz2 : (W3.drewN (nq + 1)).cell? ⟨g, k0, none⟩ = some (.int .u32 (z : Int)) := hcz
                have hfk2 : (W3.drewN (nq + 1)).frozen? ⟨g, k0 + 1, none⟩ = false := (row_set Hr3.out (k0 + 1) z).1
                have hfz2 : (W3.drewN (nq + 1)).frozen? ⟨g, k0, none⟩ = false := (row_set Hr3.out k0 z).1
                have hcz3 : ((W3.drewN (nq + 1)).setCell ⟨g, k0 + 1, none⟩ (.int .u32 (z : Int))).cell? ⟨g, k0, none⟩ = some (.int .u32 (z : Int)) := (World.cell?_setCell_other _ _ _ _ (by intro h; injection h with h1 h2; omega)).trans hcz2
                go_region
                all_goals go_wp2_with fail
                all_goals
                  have hg0 := (row_set Hr3.out 0 0).2.1
                  have r1 := (row_set (W := W3.drewN (nq + 1)) Hr3.out (k0 + 1) z).2.2
                  have e1 : ((X0 ++ [z] ++ x :: Y ++ O.drop (i + 1)).set (k0 + 1) z).length = (X0 ++ [z] ++ x :: Y ++ O.drop (i + 1)).length := List.length_set
                  rw [← e1] at r1
                  have r2 := (row_set r1 k0 x).2.2
                  rw [e1, Hsl.out] at r2
                  have e2 : ((X0 ++ [z] ++ x :: Y ++ O.drop (i + 1)).set (k0 + 1) z).set k0 x = X0 ++ x :: (z :: Y) ++ O.drop (i + 1) := by rw [Hk0.out]; exact swap_list X0 Y _ z x
                  rw [e2] at r2
                  have hb9 : Below w.heap.size V (W3.drewN (nq + 1)) := ⟨Hb3.out.os, Hb3.out.tape, Hb3.out.output, Hb3.out.size, Hb3.out.block⟩
                  exact ⟨⟨X0, z :: Y, by rw [Hk0.out], Hins.out.step hxz, r2, (hb9.setCell (p := ⟨g, k0 + 1, none⟩) hg0 _).setCell (p := ⟨g, k0, none⟩) hg0 _⟩, by simp [intOf]⟩
              · have Hd := Lib.hid (Hins.out.done (fun z' hz' => by simp at hz'; omega))
                go_wp2_with fail
                go_quiet (fail)
                go_wp2_with fail
                refine ⟨dvs_next Hperm.out hi Hsplit.out Hd.out ?_ Hb3.out, by simp [intOf]; omega⟩
                have := Hr3.out
                rwa [Hsl.out] at this
        · have hiO2 : i = O.length := by omega
          have hpO : A.Perm O := by have := hperm; rwa [hiO2, List.take_length] at this
          have hlA : A.length = O.length := hpO.length_eq
          have hrA : W2.ownsRow w.heap.size 22 1 (.slice (some ⟨g, 0, none⟩) O.length cap) A.length (u32s A) := by
            have h9 := hrow
            rw [hiO2, List.drop_length, List.append_nil] at h9
            rw [hlA]; exact h9
          have Hend := Lib.hid (And.intro hpO hrA)
          clear hperm hasc hAl hrow hbw hpO hrA hlA hiO2
          go_wp2
          go_ret
          exact ⟨L, _, A, HF.out, rfl, Hasc.out, by rw [← HO.out]; exact Hend.out.1, Hend.out.2, HB2.out.trans (Hbw.out.mono (by omega))⟩
    | cons x R =>
      obtain ⟨p, t⟩ := x
      obtain ⟨m2, ht, hm, hl, hmp, hR2⟩ := hR
      have hL0 : L.length ≠ 0 := by rw [hL]; simp
      obtain ⟨rfl, hgf3⟩ := HF4.out hL0
      have hc := fac_cells_at D R p t
      rw [← hL] at hc
      have hp := (World.cell?_of_block (a := ⟨gf', D.length * 2, none⟩) (hgr.block gf' hgf3 hgf2)).trans (HF5.out hL0 _ _ hc.1)
      have hq := (World.cell?_of_block (a := ⟨gf', D.length * 2 + 1, none⟩) (hgr.block gf' hgf3 hgf2)).trans (HF5.out hL0 _ _ hc.2)
      have hDl : D.length < L.length := by rw [hL]; simp
      obtain ⟨O, hO⟩ : ∃ O, O = divL [1] D := ⟨_, rfl⟩
      rw [← hO] at hok hrow
      rw [← hO]
      have HO := Lib.hid hO
      have Hrow := Lib.hid hrow
      have Hgr := Lib.hid hgr
      have HL := Lib.hid hL
      have HR2 := Lib.hid hR2
      have Hok := Lib.hid hok
      have Hm := Lib.hid hm
      have hp2 := hl.1
      obtain ⟨W1, hW1⟩ : ∃ W1, W1 = wr := ⟨_, rfl⟩
      subst hW1
      have hbx : Blk (W1.alloc (.cells #[.int .u32 (p : Int), .int .i64 (t : Int)] 29)) W1.heap.size 29 [.int .u32 (p : Int), .int .i64 (t : Int)] := Blk.new_ rfl
      have hx1 := hbx.cell 1
      have hO1 : 0 < O.length := by rw [HO.out]; exact divL_pos D [1] (by simp)
      have hm2 : 1 ≤ m2 := Nat.le_trans (Nat.one_le_two_pow (n := R.length)) HR2.out.length_pow
      have hpart := fun k (hk : k ≤ t) => Hok.out.part Hm.out hp2 hk
      have hlenk : ∀ k, k ≤ t → (divRow O p k).length ≤ n := fun k hk => Nat.le_trans (Nat.le_mul_of_pos_right _ hm2) (hpart k hk).1
      have hvalk : ∀ k, k ≤ t → ∀ d ∈ divRow O p k, d ≤ n := fun k hk d hd => Nat.le_trans (Nat.le_mul_of_pos_right _ hm2) ((hpart k hk).2 d hd)
      have hpt : ∀ k, k ≤ t → p ^ k ≤ n := fun k hk => by
        have h1 : p ^ k ≤ p ^ t := Nat.pow_le_pow_right (by omega) hk
        have h2 := Hok.out.1
        have h3 : p ^ t * 1 ≤ p ^ t * m2 := Nat.mul_le_mul_left _ hm2
        have h4 : 1 * (p ^ t * m2) ≤ O.length * (p ^ t * m2) := Nat.mul_le_mul_right _ hO1
        rw [Hm.out] at h2
        omega
      have htb : t < 4294967296 := by
        have h1 := succ_le_pow hp2 t
        have h2 := hpt t (Nat.le_refl _)
        omega
      have HO1 := Lib.hid (show ∀ z, z < O.length → (W1.alloc (.cells #[.int .u32 (p : Int), .int .i64 (t : Int)] 29)).cell? ⟨g, z, none⟩ = some (.int .u32 ((O.getD z 0 : Nat) : Int)) from fun z hz => (World.cell?_of_block (a := ⟨g, z, none⟩) (Below.heap_alloc W1 _ g hgl)).trans ((row_cells2 Hrow.out).2 z hz))
      have Hlenk := Lib.hid hlenk
      have Hvalk := Lib.hid hvalk
      have Hpt := Lib.hid hpt
      clear hpart hlenk hvalk hpt hm2
      have Hbx := Lib.hid hbx
      clear hO hrow hgr hL hR2 hok hm hl hmp hc hbx
      go_wp2_with fail
      go_loopw [3, 7, 25] (fun s3 s7 s24 W => DvMr O p t w (W1.alloc (.cells #[.int .u32 (p : Int), .int .i64 (t : Int)] 29)) g s3 s7 s24 W) (fun _ _ s24 _ => t - (intOf s24).toNat)
      case atStart => exact ⟨⟨0, g, cap, rfl, Nat.zero_le _, by simp, rfl, Hrow.out.alloc _, Grow.refl _ _, by rw [World.size_alloc]; omega⟩, HO1.out⟩
      case round =>
        obtain ⟨⟨k, g6, cap6, rfl, hkt, rfl, rfl, hrow6, hgr6, hgl6⟩, hsrc⟩ := hrel
        obtain ⟨W6, hW6⟩ : ∃ W6, W6 = wr := ⟨_, rfl⟩
        subst hW6
        by_cases hk : k < t
        · have hp5 : W6.cell? ⟨W1.heap.size, 0, none⟩ = some (.int .u32 (p : Int)) := (World.cell?_of_block (a := ⟨W1.heap.size, 0, none⟩) (hgr6.block W1.heap.size (by simp) (by omega))).trans (Hbx.out.cell 0)
          obtain ⟨P0, hP0⟩ : ∃ P0, P0 = p ^ k := ⟨_, rfl⟩
          obtain ⟨P1, hP1⟩ : ∃ P1, P1 = p ^ (k + 1) := ⟨_, rfl⟩
          have hmul : P0 * p = P1 := by rw [hP0, hP1, Nat.pow_succ]
          have hP1n : P1 < 4294967296 := by have := Hpt.out (k + 1) hk; omega
          obtain ⟨B, hB⟩ : ∃ B, B = divRow O p k := ⟨_, rfl⟩
          rw [← hB] at hrow6
          rw [← hB, ← hP0]
          obtain ⟨hcap, hcell6⟩ := row_cells2 hrow6
          have hahead : O.length ≤ B.length := by rw [hB, divRow_length]; exact Nat.le_mul_of_pos_right _ (by omega)
          have hmi : (P0 : Int) * (p : Int) = (P1 : Int) := by rw [← hmul]; simp
          have hme : (P1 : Int) % 4294967296 = (P1 : Int) := Int.emod_eq_of_lt (by omega) (by omega)
          have Hcell6 := Lib.hid hcell6
          have Hgr6 := Lib.hid hgr6
          have Hrow6 := Lib.hid hrow6
          have HBk := Lib.hid hB
          have HP1 := Lib.hid hP1
          have HP0 := Lib.hid hP0
          have Hcapb := Lib.hid hcap
          have hcapO : O.length ≤ cap6 := by omega
          have HO5 := Lib.hid hsrc
          have hgW6 : g < W6.heap.size := by have := hgr6.size; rw [World.size_alloc] at this; omega
          have HOv := Lib.hid (show ∀ j, j < O.length → O.getD j 0 * P1 ≤ n from fun j hj => Hvalk.out (k + 1) hk _ (by rw [hP1]; exact div_mem hj))
          have HBl := Lib.hid (show B.length + O.length ≤ n from by
            have := Hlenk.out (k + 1) hk
            rw [divRow, List.length_append, List.length_map, ← hB] at this
            exact this)
          have hOb : O.length ≤ 4294967296 := by have := HBl.out; omega
          clear hcell6 hgr6 hrow6 hB hP1 hP0 hmul hx1 hp hq hcap hsrc
          go_wp2_with fail
          go_loopw [3, 33] (fun s3 s34 W => DvIr O B P1 w W6 g g6 s3 s34 W) (fun _ s34 _ => O.length - (intOf s34).toNat)
          case atStart => exact ⟨0, g6, cap6, rfl, Nat.zero_le _, by simp, by simpa using Hrow6.out, Grow.refl _ _, hgl6, HO5.out⟩
          case round =>
            obtain ⟨j, g7, cap7, rfl, hjO, rfl, hrow7, hgr7, hgl7, hcell7⟩ := hrel
            obtain ⟨W7, hW7⟩ : ∃ W7, W7 = wr := ⟨_, rfl⟩
            subst hW7
            by_cases hj : j < O.length
            · have hcj := hcell7 j hj
              have hvj := HOv.out j hj
              obtain ⟨d, hd⟩ : ∃ d, d = O.getD j 0 := ⟨_, rfl⟩
              obtain ⟨y, hy⟩ : ∃ y, y = d * P1 := ⟨_, rfl⟩
              obtain ⟨C, hC⟩ : ∃ C, C = B ++ (O.take j).map (· * P1) := ⟨_, rfl⟩
              have hCn : C ++ [y] = B ++ (O.take (j + 1)).map (· * P1) := by rw [take_more P1 hj, hC, List.append_assoc, ← hd, ← hy]
              have hCl : C.length ≤ n := by
                have := HBl.out
                rw [hC, List.length_append, List.length_map, List.length_take]
                omega
              rw [← hd] at hcj hvj
              rw [← hy] at hvj
              rw [← hC] at hrow7
              rw [← hC]
              have hwb7 : w.heap.size ≤ W7.heap.size := by have := hgr7.size; have := Hgr6.out.size; have := Hgr.out.size; simp at *; omega
              obtain ⟨g8, cap8, W8, hrun, ho8, hg8, hl8, hk8⟩ := app_one W7 w.heap.size g7 cap7 C y hrow7 (by omega) hwb7
              have hc8 : ∀ t, t < O.length → W8.cell? ⟨g, t, none⟩ = some (.int .u32 ((O.getD t 0 : Nat) : Int)) := fun t ht => by
                by_cases hgg : g = g7
                · have ht2 : t < C.length := by rw [hC, List.length_append]; omega
                  rw [hgg] at hcell7 ⊢
                  exact ((hk8 t ht2).trans ((row_cells2 hrow7).2 t ht2).symm).trans (hcell7 t ht)
                · refine (World.cell?_of_block (a := ⟨g, t, none⟩) (hg8.block g ?_ hgg)).trans (hcell7 t ht)
                  have := hgr7.size
                  show g < W7.heap.size
                  omega
              have Hc8 := Lib.hid hc8
              have Hrun := Lib.hid hrun
              have hyi : (d : Int) * (P1 : Int) = (y : Int) := by rw [hy]; simp
              have hye : (y : Int) % 4294967296 = (y : Int) := Int.emod_eq_of_lt (by omega) (by omega)
              have HC := Lib.hid hC
              have HCn := Lib.hid hCn
              have H8 := Lib.hid (And.intro ho8 (And.intro hg8 hl8))
              have HK8 := Lib.hid hk8
              have Hgr7 := Lib.hid hgr7
              have Hgl7 := Lib.hid hgl7
              have Hcell7 := Lib.hid hcell7
              clear hvj hC hCn hrow7 hrun ho8 hg8 hl8 hk8 hgr7 hcell7 hme hmi hwb7 hy hd hc8
              go_wp2_with (first | (at_builtin; refine wpList_append_done rfl _ _ _ _ rfl _ _ rfl rfl _ _ Hrun.out ?_))
              case roundEnd =>
                refine ⟨⟨j + 1, g8, cap8, by simp, hj, ?_, ?_, Hgr7.out.trans H8.out.2.1, H8.out.2.2, Hc8.out⟩, by simp [intOf]; omega⟩
                · rw [← HCn.out]; simp
                · rw [← HCn.out]; exact H8.out.1
            · have hje : j = O.length := by omega
              have hfin : B ++ (O.take j).map (· * P1) = divRow O p (k + 1) := by
                rw [hje, List.take_length, divRow, HBk.out, HP1.out]
              rw [hfin] at hrow7
              rw [hfin]
              have H7 := Lib.hid (And.intro hrow7 (And.intro hgr7 (And.intro hgl7 hcell7)))
              clear hrow7 hgr7 hgl7 hcell7 hfin hme hmi hje
              go_wp2_with fail
              case roundEnd =>
                refine ⟨⟨⟨k + 1, g7, cap7, by simp, hk, by rw [HP1.out], rfl, H7.out.1, Hgr6.out.trans H7.out.2.1, H7.out.2.2.1⟩, H7.out.2.2.2⟩, by simp [intOf]; omega⟩
        · have Hgr6 := Lib.hid hgr6
          have Hrow6 := Lib.hid hrow6
          obtain rfl : k = t := by omega
          have hfin : divRow O p k = divL [1] (D ++ [(p, k)]) := by rw [divL_snoc, ← HO.out]
          rw [hfin] at Hrow6
          rw [hfin]
          have Hfin := Lib.hid hfin
          clear hgr6 hrow6 hx1 hp hq hfin hsrc
          go_wp2_with fail
          case roundEnd =>
            refine ⟨⟨D ++ [(p, k)], R, m2, g6, cap6, by rw [HL.out]; simp, by simp, rfl, HR2.out, ?_, Hrow6.out, (Hgr.out.trans ((Grow.refl W1 g).alloc _)).trans Hgr6.out, hgl6, hgf2⟩, by simp [intOf]; omega⟩
            rw [← Hfin.out]
            exact Hok.out.next Hm.out hp2
end
section
open Go.RowKit

theorem divisors_zero (w : World) : Calls Tryd.prog 7 #[.int .u32 0] w fun r w' => r = .returned (.slice none 0 0) ∧ w' = w := by
  go_enter Tryd.func7, Tryd.ntmps7
  go_wp2
  go_ret
  exact ⟨rfl, rfl⟩
theorem rdivisors_zero (w : World) : Calls Tryd.prog 8 #[.int .u32 0] w fun r w' => r = .returned (.slice none 0 0) ∧ w' = w := by
  go_enter Tryd.func8, Tryd.ntmps8
  go_wp2
  go_ret
  exact ⟨rfl, rfl⟩

/-- The ascending permutation. -/
def srtN (R : List Nat) : List Nat := R.mergeSort fun a b => decide (a ≤ b)
theorem srtN_perm (R : List Nat) : (srtN R).Perm R := List.mergeSort_perm R _
theorem srtN_asc (R : List Nat) : Asc (srtN R) := by
  have h := List.pairwise_mergeSort (le := fun a b : Nat => decide (a ≤ b)) (fun a b c h1 h2 => by simp at h1 h2 ⊢; omega) (fun a b => by simp; omega) R
  exact h.imp fun h => by simpa using h
theorem srtN_eq {R S : List Nat} (ha : Asc S) (hp : S.Perm R) : S = srtN R := asc_unique (hp.trans (srtN_perm R).symm) ha (srtN_asc R)
end
end Go.Proofs.YtcopkeccogpkmaaDoor
