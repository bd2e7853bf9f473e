/- HessSame answers true. Conditions: bases is as the program lays it; the sizes. -/
import Derived.Test.YtbafiahmcfkboaaDoorPkHm41
import Derived.BigQuiet
namespace Go.Proofs.YtbafiahmcfkboaaDoor
open Go.RowKit

set_option maxRecDepth 20000 in
set_option maxHeartbeats 6400000 in
theorem hessSame_bad (A : Option Addr) (c p : Nat) (M : List (List Nat)) (w : World) (hx : Bx w) (hp : p < 4294967296) (hr : RdM w w.heap.size A M) (hm : M.length ≤ 1048576) (k : Nat) (hk : Ft p M k) (h0 : k ≠ 0) :
    Calls Tryd.prog 6 #[.slice A M.length c, .int .u32 (p : Int)] w fun e w' => e = .returned (.bool true) ∧ Below w.heap.size w w' := by
  have HX : Hid (∀ W, Below w.heap.size w W → Bx W) := fun W hW => hx.below hW (Nat.le_refl _)
  have HAW : Hid (∀ W, Below w.heap.size w W → Calls Tryd.prog 12 #[] W fun e w' => e = .returned (.bool true) ∧ Below W.heap.size W w') := fun W hW => lawake_any W (HX.out W hW)
  have hgl := hx.lt
  have HFI : Hid (∀ W, RdM W W.heap.size A M → Calls Tryd.prog 10 #[.slice A M.length c, .int .u32 (p : Int)] W fun e w' => e = .returned (.int .i64 (k : Int)) ∧ Below W.heap.size W w') := fun W h => (fits_any A c p M W _ hp h hm k hk).mono fun _ _ h => ⟨h.1, h.2 ▸ Below.refl _ _⟩
  have t1 : ((k : Int) != 0) = true := by simp; omega
  obtain ⟨n, hn⟩ : ∃ n, n = M.length := ⟨_, rfl⟩
  rw [← hn] at HFI ⊢
  clear hn
  have Rm := Lib.hid hr
  have HB0 : Hid (Below w.heap.size w w) := Below.refl _ _
  clear hr hx hm hk h0
  go_enter Tryd.func6, Tryd.ntmps6
  go_wp2_with (first
    | (go_at_call 10; (with_reducible refine (HFI.out _ (by first | exact Rm.out | exact Rm.out.drewS)).mono ?_); rintro _ w1z ⟨rfl, hb1⟩; have hx1 : Below w.heap.size w w1z := (by first | exact hb1 | exact (Below.refl _ _).drew.trans hb1); have HB1 := Lib.hid (HB0.out.trans (hx1.mono HB0.out.size)); have zR1_m := Lib.hid ((Rm.out.below hx1).mono hx1.size); clear hx1; clear Rm)
    | (go_at_call 12; (with_reducible refine (HAW.out _ (by first | exact HB1.out | exact HB1.out.drew)).mono ?_); rintro _ w2z ⟨rfl, hb2⟩; have hx2 : Below w1z.heap.size w1z w2z := (by first | exact hb2 | exact (Below.refl _ _).drew.trans hb2); have HB2 := Lib.hid (HB1.out.trans (hx2.mono HB1.out.size)); clear hx2))
  go_ret
  exact ⟨rfl, HB2.out⟩

set_option maxRecDepth 20000 in
set_option maxHeartbeats 6400000 in
theorem hessSame_ok (A : Option Addr) (c p : Nat) (M : List (List Nat)) (w : World) (hx : Bx w) (hp : p < 4294967296) (hr : RdM w w.heap.size A M) (hm : M.length ≤ 1048576) (hd : DigM 4294967296 M) (hk : Ft p M 0) :
    Calls Tryd.prog 6 #[.slice A M.length c, .int .u32 (p : Int)] w fun e w' => e = .returned (.bool true) ∧ Below w.heap.size w w' := by
  have HX : Hid (∀ W, Below w.heap.size w W → Bx W) := fun W hW => hx.below hW (Nat.le_refl _)
  have HAW : Hid (∀ W, Below w.heap.size w W → Calls Tryd.prog 12 #[] W fun e w' => e = .returned (.bool true) ∧ Below W.heap.size W w') := fun W hW => lawake_any W (HX.out W hW)
  have hgl := hx.lt
  obtain ⟨hpr, hrect, hn0, hcs, hn24⟩ := hk.some
  obtain ⟨n, hn⟩ : ∃ n, n = M.length := ⟨_, rfl⟩
  have hw2 : ∀ r ∈ M, r.length = n := fun r hr => by rw [hrect r hr, ← hcs, hn]
  obtain ⟨H, L, hH, bH, l1, l2, l3, hLl, hLn, y, hLy, hyp, hyd⟩ := same_says hpr hn.symm hw2 (by omega)
  have HRE : Hid (∀ W A' c', Below w.heap.size w W → RdM W W.heap.size A' M → Calls Tryd.prog 16 #[.slice A' n c', .int .u32 (p : Int)] W fun e w' => ∃ gh gs gr, e = .returned (.tuple #[.slice (some ⟨gh, 0, none⟩) n n, .slice (some ⟨gs, 0, none⟩) n n, .slice (some ⟨gr, 0, none⟩) n n, .int .i64 0]) ∧ RdM w' w'.heap.size (some ⟨gh, 0, none⟩) (mtab n n H) ∧ Below W.heap.size W w') := fun W A' c' hW h => by
    have h9 := hReduce_ok A' c' p M W hp (HX.out W hW).bases (Nat.lt_of_lt_of_le hgl hW.size) h hm hd hk
    rw [← hn, ← hH] at h9
    refine h9.mono ?_
    rintro _ _ ⟨gh, gs, gr, bh, bs, br, h1, h2, h3, _, _, _, _, h8⟩
    exact ⟨gh, gs, gr, h1, h2.rdm h3 (by omega), h8⟩
  have HFI : Hid (∀ W, RdM W W.heap.size A M → Calls Tryd.prog 10 #[.slice A n c, .int .u32 (p : Int)] W fun e w' => e = .returned (.int .i64 0) ∧ Below W.heap.size W w') := fun W h => by rw [hn]; exact (fits_any A c p M W _ hp h hm 0 hk).mono fun _ _ h => ⟨h.1, h.2 ▸ Below.refl _ _⟩
  have HCM : Hid (∀ W, Below w.heap.size w W → RdM W W.heap.size A M → Calls Tryd.prog 9 #[.slice A n c, .int .u32 (p : Int)] W fun e w' => ∃ A2 c2, e = .returned (.tuple #[.slice A2 (n + 1) c2, .int .i64 0]) ∧ Rd w' w'.heap.size A2 (u32s L) ∧ Below W.heap.size W w') := fun W hW h => by
    have h9 := hChar_yes A c p M W hp (HX.out W hW).bases (Nat.lt_of_lt_of_le hgl hW.size) h hm hd hk
    rw [← hn, ← l1] at h9
    exact h9.mono fun _ _ ⟨A2, c2, h1, h2, h3⟩ => ⟨A2, c2, h1, h2.rd, h3⟩
  have HCE : Hid (∀ W g (E : Mf), Below w.heap.size w W → Lt 4294967296 n n E → L = polR (chT p (rdS p n (n - 1) 0 ⟨inN p (mtab n n E), zrN, zrN⟩).h n) n → RdM W W.heap.size (some ⟨g, 0, none⟩) (mtab n n E) → Calls Tryd.prog 9 #[.slice (some ⟨g, 0, none⟩) n n, .int .u32 (p : Int)] W fun e w' => ∃ A2 c2, e = .returned (.tuple #[.slice A2 (n + 1) c2, .int .i64 0]) ∧ Rd w' w'.heap.size A2 (u32s L) ∧ Below W.heap.size W w') := fun W g E hW hE e h => by
    have h9 := hChar_yes (some ⟨g, 0, none⟩) n p (mtab n n E) W hp (HX.out W hW).bases (Nat.lt_of_lt_of_le hgl hW.size) h (by rw [mtab_length]; omega) (mtab_lt hE) (Ft.mtab hpr (by omega) (by omega))
    rw [mtab_length, ← e] at h9
    exact h9.mono fun _ _ ⟨A2, c2, h1, h2, h3⟩ => ⟨A2, c2, h1, h2.rd, h3⟩
  have HCH : Hid (∀ W g, Below w.heap.size w W → RdM W W.heap.size (some ⟨g, 0, none⟩) (mtab n n H) → Calls Tryd.prog 9 #[.slice (some ⟨g, 0, none⟩) n n, .int .u32 (p : Int)] W fun e w' => ∃ A2 c2, e = .returned (.tuple #[.slice A2 (n + 1) c2, .int .i64 0]) ∧ Rd w' w'.heap.size A2 (u32s L) ∧ Below W.heap.size W w') := fun W g hW h => HCE.out W g H hW (fun a b ha hb => by have := bH a b ha hb; omega) l2 h
  have HCT : Hid (∀ W g, Below w.heap.size w W → RdM W W.heap.size (some ⟨g, 0, none⟩) (mtab n n fun i k => en M k i) → Calls Tryd.prog 9 #[.slice (some ⟨g, 0, none⟩) n n, .int .u32 (p : Int)] W fun e w' => ∃ A2 c2, e = .returned (.tuple #[.slice A2 (n + 1) c2, .int .i64 0]) ∧ Rd w' w'.heap.size A2 (u32s L) ∧ Below W.heap.size W w') := fun W g hW h => HCE.out W g _ hW (fun a b ha hb => by
    show en M b a < 4294967296
    have hbM : b < M.length := by omega
    have haM : a < M[b].length := by rw [hw2 _ (List.getElem_mem hbM)]; exact ha
    rw [en_at hbM haM]
    exact hd _ (List.getElem_mem hbM) _ (List.getElem_mem haM)) l3 h
  have HWO : Hid (∀ W A1 c1 A2 c2, Rd W W.heap.size A1 (u32s L) → Rd W W.heap.size A2 (u32s L) → Calls Tryd.prog 14 #[.slice A1 (n + 1) c1, .slice A2 (n + 1) c2] W fun e w' => e = .returned (.bool true) ∧ Below W.heap.size W w') := fun W A1 c1 A2 c2 h1 h2 => by
    have h9 := words_any A1 A2 c1 c2 L W _ h1 h2 (by omega)
    rw [hLl] at h9
    exact h9.mono fun _ _ h => ⟨h.1, h.2.below _⟩
  have HEN : Hid (∀ i k, i < n → k < n → ∃ (h1 : i < M.length) (h2 : k < M[i].length), M[i][k] = en M i k ∧ en M i k < 4294967296) := fun i k hi hk2 => by
    have h1 : i < M.length := by omega
    have h2 : k < M[i].length := by rw [hw2 _ (List.getElem_mem h1)]; exact hk2
    exact ⟨h1, h2, (en_at h1 h2).symm, by rw [en_at h1 h2]; exact hd _ (List.getElem_mem h1) _ (List.getElem_mem h2)⟩
  have HWI : Hid (∀ i (h : i < M.length), M[i].length = n) := fun i h => hw2 _ (List.getElem_mem h)
  have HML : Hid (M.length = n) := hn.symm
  have hp1 : 1 < p := hpr.two
  have HLl := Lib.hid hLl
  have HLn := Lib.hid hLn
  have HLy := Lib.hid hLy
  have HYD := Lib.hid hyd
  rw [← hn] at hn24 hn0 ⊢
  clear HCE hn hpr hrect hcs hH bH l1 l2 l3 hw2 hLl hLn hLy hyd
  have hmt := fun W => mkTop n (by omega) W
  have Rm := Lib.hid hr
  have HB0 : Hid (Below w.heap.size w w) := Below.refl _ _
  clear hr hx hm hd hk
  go_enter Tryd.func6, Tryd.ntmps6
  go_upto_region 10 with (first
    | (go_at_call 10; (with_reducible refine (HFI.out _ (by first | exact Rm.out | exact Rm.out.drewS)).mono ?_); rintro _ w1z ⟨rfl, hb1⟩; have hx1 : Below w.heap.size w w1z := (by first | exact hb1 | exact (Below.refl _ _).drew.trans hb1); have HB1 := Lib.hid (HB0.out.trans (hx1.mono HB0.out.size)); have zR1_m := Lib.hid ((Rm.out.below hx1).mono hx1.size); clear hx1; clear Rm)
    | (go_at_call 16; (with_reducible refine (HRE.out _ _ _ (by first | exact HB1.out | exact HB1.out.drew) (by first | exact zR1_m.out | exact zR1_m.out.drewS)).mono ?_); rintro _ w2z ⟨gh, gs, gr, rfl, hrh, hb2⟩; have hx2 : Below w1z.heap.size w1z w2z := (by first | exact hb2 | exact (Below.refl _ _).drew.trans hb2); have HB2 := Lib.hid (HB1.out.trans (hx2.mono HB1.out.size)); have zR2_m := Lib.hid ((zR1_m.out.below hx2).mono hx2.size); have zR_h := Lib.hid hrh; clear hrh; clear hx2; clear zR1_m)
    | (go_at_call 9; (with_reducible refine (HCM.out _ (by first | exact HB2.out | exact HB2.out.drew) (by first | exact zR2_m.out | exact zR2_m.out.drewS)).mono ?_); rintro _ w3z ⟨A5, c5, rfl, hrc, hb3⟩; have hx3 : Below w2z.heap.size w2z w3z := (by first | exact hb3 | exact (Below.refl _ _).drew.trans hb3); have HB3 := Lib.hid (HB2.out.trans (hx3.mono HB2.out.size)); have zR3_m := Lib.hid ((zR2_m.out.below hx3).mono hx3.size); have zR3_h := Lib.hid ((zR_h.out.below hx3).mono hx3.size); have zR_c := Lib.hid hrc; clear hrc; clear hx3; clear zR2_m zR_h)
    | (go_at_call 9; (with_reducible refine (HCH.out _ _ (by first | exact HB3.out | exact HB3.out.drew) (by first | exact zR3_h.out | exact zR3_h.out.drewS)).mono ?_); rintro _ w4z ⟨A6, c6, rfl, hrd, hb4⟩; have hx4 : Below w3z.heap.size w3z w4z := (by first | exact hb4 | exact (Below.refl _ _).drew.trans hb4); have HB4 := Lib.hid (HB3.out.trans (hx4.mono HB3.out.size)); have zR4_m := Lib.hid ((zR3_m.out.below hx4).mono hx4.size); have zR4_c := Lib.hid ((zR_c.out.below hx4).mono hx4.size); have zR_d := Lib.hid hrd; clear hrd; clear hx4; clear zR3_m zR_c))
  have HT0 : Hid (Tm (w4z.alloc (.cells (Array.replicate n (Value.slice none 0 0)) 29)) w4z.heap.size n [] (fun i k => en M k i) (List.replicate n (.slice none 0 0))) := ⟨Blk.new_ (by simp [hdW]), fun i h => absurd h (Nat.not_lt_zero _)⟩
  have HK0 : Hid (Below w4z.heap.size w4z (w4z.alloc (.cells (Array.replicate n (Value.slice none 0 0)) 29))) := (Below.refl _ _).alloc (Nat.le_refl _) _
  obtain ⟨W0, hW0⟩ : ∃ W0, W0 = w4z.alloc (.cells (Array.replicate n (Value.slice none 0 0)) 29) := ⟨_, rfl⟩
  rw [← hW0] at HT0 HK0 ⊢
  clear hW0 hmt
  obtain ⟨g, hg⟩ : ∃ g, g = w4z.heap.size := ⟨_, rfl⟩
  rw [← hg] at HT0 ⊢
  have Hg := Lib.hid hg
  clear hg
  go_loopw [15, 51] (fun tv iv wr => ∃ (i : Nat) (hs : List (Option Addr × Nat)), i ≤ n ∧ iv = .int .i64 (i : Int) ∧ tv = .int .u64 (trN (inN p M) i : Int) ∧ hs.length = i ∧ Hid (Tm wr g n hs (fun i k => en M k i) (List.replicate (n - i) (.slice none 0 0))) ∧ Hid (Below w4z.heap.size w4z wr)) (fun _ iv _ => n - (intOf iv).toNat)
  case atStart => exact ⟨0, [], Nat.zero_le _, rfl, rfl, rfl, HT0.out, HK0.out⟩
  case round =>
    obtain ⟨i, hs, hi, rfl, rfl, hsl, htm, hbw⟩ := hrel
    by_cases hin : i < n
    · go_upto_region 13 with (fail)
      obtain ⟨wo, hwo⟩ : ∃ wo, wo = wr := ⟨_, rfl⟩
      rw [← hwo] at htm hbw ⊢
      have Hbw := hbw
      have Htm := htm
      have Hgg : Hid (g < wo.heap.size) := htm.out.top.lt
      have HG2 : Hid (w4z.heap.size ≤ g) := Nat.le_of_eq Hg.out.symm
      have Hsl := Lib.hid hsl
      have Hin := Lib.hid hin
      have H9 : Hid (Blk wo g 29 (hdW n hs ++ .slice none 0 0 :: List.replicate (n - i - 1) (.slice none 0 0))) := by
        show Blk _ _ _ _
        rw [← repl_cons _ (by omega)]
        exact htm.out.top
      clear hwo htm hbw
      go_loopw [56] (fun kv wq => ∃ (k : Nat) (v : Value), k ≤ n ∧ kv = .int .i64 (k : Int) ∧ Hid (Blk wq g 29 (hdW n hs ++ v :: List.replicate (n - i - 1) (.slice none 0 0))) ∧ Hid (Md [g] wo wq) ∧ Hid (Ro wq wo.heap.size 24 v (u32s ((List.range k).map fun k => en M k i)))) (fun kv _ => n - (intOf kv).toNat)
      case atStart => exact ⟨0, _, Nat.zero_le _, rfl, H9.out, Md.refl _ _, Ro.nil_ _ _ _⟩
      case round =>
        obtain ⟨k, v, hk, rfl, htop, hmd, hro⟩ := hrel
        by_cases hkn : k < n
        · obtain ⟨c1, f1⟩ := Tm.cur htop.out
          rw [Hsl.out] at c1 f1
          have hBQ : Below w4z.heap.size w4z wr := Hbw.out.trans (hmd.out.below (fun x hx => by rw [List.mem_singleton.1 hx]; exact HG2.out) Hbw.out.size)
          obtain ⟨h1, h2, h3, h4⟩ := HEN.out k i hkn Hin.out
          obtain ⟨b, off, Ak, ck, rfl, hb, hx, hl, hm1, hrd⟩ := (zR4_m.out.below hBQ).at_ h1
          obtain ⟨b5, off5, rfl, hb5, hx5⟩ := hrd.at32 h2
          rw [HWI.out k h1] at hx hl hm1
          rw [h3] at hx5
          obtain ⟨x, hxe⟩ : ∃ x, x = en M k i := ⟨_, rfl⟩
          rw [← hxe] at hx5 h4
          have hsz := hmd.out.size
          obtain ⟨A9, c9, w9, hrun, hro9, hb9⟩ := app_u32 wr.drew wo.heap.size v ((List.range k).map fun k => en M k i) x (hro.out.drewN 1) hsz (by simp; omega)
          have e1 : ((List.range k).map fun k => en M k i).length = k := by simp
          rw [e1] at hrun hro9
          rw [hxe, u32s_snocR] at hro9
          have hgq := htop.out.lt
          have hb9 := (Dr.refl wr).drew.below wo.heap.size |>.trans hb9
          have hb9g := htop.out.below hb9 Hgg.out
          obtain ⟨c2, f2⟩ := Tm.cur hb9g
          rw [Hsl.out] at c2 f2
          have hset := Tm.put hb9g (.slice A9 (k + 1) c9)
          rw [Hsl.out] at hset
          have Hset := Lib.hid hset
          have Hmd9 : Hid (Md [g] wo (w9.setCell ⟨g, i, none⟩ (.slice A9 (k + 1) c9))) := (hmd.out.far hb9).setCell (List.mem_singleton.2 rfl) _ _
          have Hro9 : Hid (Ro (w9.setCell ⟨g, i, none⟩ (.slice A9 (k + 1) c9)) wo.heap.size 24 (.slice A9 (k + 1) c9) (u32s ((List.range (k + 1)).map fun k => en M k i))) := hro9.tn (Tn.setCell (Tn.refl g w9) _ _) Hgg.out
          have Hrun := Lib.hid hrun
          have hal : ∀ o, (wr.drew.alloc o).cell? ⟨g, i, none⟩ = some v ∧ (wr.drew.alloc o).cell? ⟨b, off + k, none⟩ = some (.slice (some ⟨b5, off5, none⟩) n ck) ∧ (wr.drew.alloc o).cell? ⟨b5, off5 + i, none⟩ = some (.int .u32 (x : Int)) := fun o => ⟨(World.cell?_alloc_past _ _ _ hgq).trans c1, (World.cell?_alloc_past _ _ _ (by have := hBQ.size; show b < wr.heap.size; omega)).trans hx, (World.cell?_alloc_past _ _ _ (by have := hBQ.size; show b5 < wr.heap.size; omega)).trans hx5⟩
          have HS9 : Hid (w9.cell? ⟨g, i, none⟩ = some v ∧ w9.cell? ⟨b, off + k, none⟩ = some (.slice (some ⟨b5, off5, none⟩) n ck) ∧ w9.cell? ⟨b5, off5 + i, none⟩ = some (.int .u32 (x : Int))) := ⟨c2, (hb9.cell (p := ⟨b, off + k, none⟩) (by have := Hbw.out.size; show b < wo.heap.size; omega)).trans hx, (hb9.cell (p := ⟨b5, off5 + i, none⟩) (by have := Hbw.out.size; show b5 < wo.heap.size; omega)).trans hx5⟩
          clear hset hb9g hro9 hb9 hrun hsz e1 hxe h3 h1 h2 hmd hro htop hrd
          go_upto_region 15 with (fail)
          refine region_held_tail (fun W => W.cell? ⟨g, i, none⟩ = some v ∧ W.cell? ⟨b, off + k, none⟩ = some (.slice (some ⟨b5, off5, none⟩) n ck) ∧ W.cell? ⟨b5, off5 + i, none⟩ = some (.int .u32 (x : Int))) 15 (by kernel_rfl) (by kernel_rfl) ?hSt1 (fun hHeld => ?_)
          case hSt1 => (try dsimp only); go_keep
          refine HeadW.take (i := 0) (v := ?v0t1) rfl (by kernel_rfl) (by decide) (by kernel_rfl) (by kernel_rfl) (fun _ _ _ h => h) (Or.inl ⟨by rfl, ?hy0t1⟩) (by assumption) ?rest0t1
          case hy0t1 => intro w hSw; (try dsimp only at hSw); (try simp only [List.getElem_toArray, List.getElem_cons_zero]); go_simp; (try with_reducible rfl)
          (try simp only [List.getElem_toArray, List.getElem_cons_zero, Act.put, List.setIfInBounds_toArray, List.set_cons_zero, List.set_cons_succ])
          refine HeadW.take (i := 1) (v := ?v1t1) rfl (by kernel_rfl) (by decide) (by kernel_rfl) (by kernel_rfl) (fun _ _ _ h => h) (Or.inl ⟨by rfl, ?hy1t1⟩) (by assumption) ?rest1t1
          case hy1t1 => intro w hSw; (try dsimp only at hSw); (try simp only [List.getElem_toArray, List.getElem_cons_succ, List.getElem_cons_zero]); go_simp; (try with_reducible rfl)
          (try simp only [List.getElem_toArray, List.getElem_cons_succ, List.getElem_cons_zero, Act.put, List.setIfInBounds_toArray, List.set_cons_zero, List.set_cons_succ])
          refine HeadW.take (i := 2) (v := ?v2t1) rfl (by kernel_rfl) (by decide) (by kernel_rfl) (by kernel_rfl) (fun _ _ _ h => h) (Or.inl ⟨by rfl, ?hy2t1⟩) (by assumption) ?rest2t1
          case hy2t1 => intro w hSw; (try dsimp only at hSw); (try simp only [List.getElem_toArray, List.getElem_cons_succ, List.getElem_cons_zero]); go_simp; (try with_reducible rfl)
          (try simp only [List.getElem_toArray, List.getElem_cons_succ, List.getElem_cons_zero, Act.put, List.setIfInBounds_toArray, List.set_cons_zero, List.set_cons_succ])
          refine HeadW.take (i := 3) (v := ?v3t1) rfl (by kernel_rfl) (by decide) (by kernel_rfl) (by kernel_rfl) (fun _ _ _ h => h) (Or.inl ⟨by rfl, ?hy3t1⟩) (by assumption) ?rest3t1
          case hy3t1 => intro w hSw; (try dsimp only at hSw); (try simp only [List.getElem_toArray, List.getElem_cons_succ, List.getElem_cons_zero]); go_simp; (try with_reducible rfl)
          (try simp only [List.getElem_toArray, List.getElem_cons_succ, List.getElem_cons_zero, Act.put, List.setIfInBounds_toArray, List.set_cons_zero, List.set_cons_succ])
          refine HeadW.take (i := 4) (v := ?v4t1) rfl (by kernel_rfl) (by decide) (by kernel_rfl) (by kernel_rfl) (fun _ _ _ h => h) (Or.inl ⟨by rfl, ?hy4t1⟩) (by assumption) ?rest4t1
          case hy4t1 => intro w hSw; (try dsimp only at hSw); (try simp only [List.getElem_toArray, List.getElem_cons_succ, List.getElem_cons_zero]); go_simp; (try with_reducible rfl)
          (try simp only [List.getElem_toArray, List.getElem_cons_succ, List.getElem_cons_zero, Act.put, List.setIfInBounds_toArray, List.set_cons_zero, List.set_cons_succ])
          refine HeadW.take (i := 5) (v := ?v5t1) rfl (by kernel_rfl) (by decide) (by kernel_rfl) (by kernel_rfl) (fun _ _ _ h => h) (Or.inl ⟨by rfl, ?hy5t1⟩) (by assumption) ?rest5t1
          case hy5t1 => intro w hSw; (try dsimp only at hSw); (try simp only [List.getElem_toArray, List.getElem_cons_succ, List.getElem_cons_zero]); go_simp; (try with_reducible rfl)
          (try simp only [List.getElem_toArray, List.getElem_cons_succ, List.getElem_cons_zero, Act.put, List.setIfInBounds_toArray, List.set_cons_zero, List.set_cons_succ])
          refine HeadW.take (i := 6) (v := ?v6t1) rfl (by kernel_rfl) (by decide) (by kernel_rfl) (by kernel_rfl) (fun _ _ _ h => h) (Or.inl ⟨by rfl, ?hy6t1⟩) (by assumption) ?rest6t1
          case hy6t1 => intro w hSw; (try dsimp only at hSw); (try simp only [List.getElem_toArray, List.getElem_cons_succ, List.getElem_cons_zero]); go_simp; (try with_reducible rfl)
          (try simp only [List.getElem_toArray, List.getElem_cons_succ, List.getElem_cons_zero, Act.put, List.setIfInBounds_toArray, List.set_cons_zero, List.set_cons_succ])
          refine HeadW.take (i := 7) (v := ?v7t1) rfl (by kernel_rfl) (by decide) (by kernel_rfl) (by kernel_rfl) (fun _ _ _ h => h) (Or.inl ⟨by rfl, ?hy7t1⟩) (by assumption) ?rest7t1
          case hy7t1 => intro w hSw; (try dsimp only at hSw); (try simp only [List.getElem_toArray, List.getElem_cons_succ, List.getElem_cons_zero]); go_simp; (try with_reducible rfl)
          (try simp only [List.getElem_toArray, List.getElem_cons_succ, List.getElem_cons_zero, Act.put, List.setIfInBounds_toArray, List.set_cons_zero, List.set_cons_succ])
          refine HeadW.take (i := 8) (v := ?v8t1) rfl (by kernel_rfl) (by decide) (by kernel_rfl) (by kernel_rfl) (fun _ _ _ h => h) (Or.inl ⟨by rfl, ?hy8t1⟩) (by assumption) ?rest8t1
          case hy8t1 => intro w hSw; (try dsimp only at hSw); (try simp only [List.getElem_toArray, List.getElem_cons_succ, List.getElem_cons_zero]); go_simp; (try with_reducible rfl)
          (try simp only [List.getElem_toArray, List.getElem_cons_succ, List.getElem_cons_zero, Act.put, List.setIfInBounds_toArray, List.set_cons_zero, List.set_cons_succ])
          refine HeadW.take (i := 9) (v := ?v9t1) rfl (by kernel_rfl) (by decide) (by kernel_rfl) (by kernel_rfl) (fun _ _ _ h => h) (Or.inl ⟨by rfl, ?hy9t1⟩) (by assumption) ?rest9t1
          case hy9t1 => intro w hSw; (try dsimp only at hSw); (try simp only [List.getElem_toArray, List.getElem_cons_succ, List.getElem_cons_zero]); go_simp; (try with_reducible rfl)
          (try simp only [List.getElem_toArray, List.getElem_cons_succ, List.getElem_cons_zero, Act.put, List.setIfInBounds_toArray, List.set_cons_zero, List.set_cons_succ])
          refine HeadW.take (i := 10) (v := ?v10t1) rfl (by kernel_rfl) (by decide) (by kernel_rfl) (by kernel_rfl) (fun _ _ _ h => h) (Or.inl ⟨by rfl, ?hy10t1⟩) (by assumption) ?rest10t1
          case hy10t1 => intro w hSw; (try dsimp only at hSw); (try simp only [List.getElem_toArray, List.getElem_cons_succ, List.getElem_cons_zero]); go_simp; (try with_reducible rfl)
          (try simp only [List.getElem_toArray, List.getElem_cons_succ, List.getElem_cons_zero, Act.put, List.setIfInBounds_toArray, List.set_cons_zero, List.set_cons_succ])
          refine HeadW.take (i := 11) (v := ?v11t1) rfl (by kernel_rfl) (by decide) (by kernel_rfl) (by kernel_rfl) (fun _ _ _ h => h) (Or.inl ⟨by rfl, ?hy11t1⟩) (by assumption) ?rest11t1
          case hy11t1 => intro w hSw; (try dsimp only at hSw); (try simp only [List.getElem_toArray, List.getElem_cons_succ, List.getElem_cons_zero]); go_simp; (try with_reducible rfl)
          (try simp only [List.getElem_toArray, List.getElem_cons_succ, List.getElem_cons_zero, Act.put, List.setIfInBounds_toArray, List.set_cons_zero, List.set_cons_succ])
          refine HeadW.take (i := 12) (v := ?v12t1) rfl (by kernel_rfl) (by decide) (by kernel_rfl) (by kernel_rfl) (fun _ _ _ h => h) (Or.inl ⟨by rfl, ?hy12t1⟩) (by assumption) ?rest12t1
          case hy12t1 => intro w hSw; (try dsimp only at hSw); (try simp only [List.getElem_toArray, List.getElem_cons_succ, List.getElem_cons_zero]); go_simp; (try with_reducible rfl)
          (try simp only [List.getElem_toArray, List.getElem_cons_succ, List.getElem_cons_zero, Act.put, List.setIfInBounds_toArray, List.set_cons_zero, List.set_cons_succ])
          refine HeadW.one (i := 13) (by kernel_rfl) (by decide) rfl (fun K hK => ?_)
          go_simp
          refine hK.out _ _ (hal _) (fun hHeld2 => ?_)
          clear hK K hHeld
          have hHeld := hHeld2
          clear hHeld2
          (try simp only [List.getElem_toArray, List.getElem_cons_succ, List.getElem_cons_zero, Act.put, List.setIfInBounds_toArray, List.set_cons_zero, List.set_cons_succ])
          refine HeadW.one (i := 14) (by kernel_rfl) (by decide) rfl (fun K hK => ?_)
          rw [if_pos (by kernel_rfl)]
          refine step_appR (.tmp 64) (.tmp 72) 29 29 rfl v (.slice (some ⟨wr.heap.size, 0, none⟩) 1 1) rfl rfl (.slice A9 (k + 1) c9) w9 Hrun.out ?_
          refine hK.out _ _ HS9.out (fun hHeld2 => ?_)
          clear hK K hHeld hHeld2
          (try simp only [List.getElem_toArray, List.getElem_cons_succ, List.getElem_cons_zero, Act.put, List.setIfInBounds_toArray, List.set_cons_zero, List.set_cons_succ])
          refine HeadW.done (by kernel_rfl) ?_
          simp only [List.drop_succ_cons, List.drop_zero]
          go_wp2_with fail
          go_roundw
          case rel => exact ⟨k + 1, _, by omega, by go_num, Hset.out, Hmd9.out, Hro9.out⟩
          case measure => simp [intOf]; omega
        · obtain rfl : n = k := by omega
          obtain ⟨A9, c9, hv9, hres9, _⟩ := hro.out.form (by rw [u32s_length]; simp; omega)
          rw [u32s_length, List.length_map, List.length_range] at hv9
          rw [hv9] at htop
          have Htm2 : Hid (Tm wr g n (hs ++ [(A9, c9)]) (fun i k => en M k i) (List.replicate (n - i - 1) (.slice none 0 0))) := by
            have h9 := Htm.out
            rw [repl_cons _ (by have := Hin.out; omega)] at h9
            exact h9.next hmd.out htop.out (by rw [Hsl.out]; exact hres9.mono Hgg.out)
          have Hbw2 : Hid (Below w4z.heap.size w4z wr) := Hbw.out.trans (hmd.out.below (fun x hx => by rw [List.mem_singleton.1 hx]; exact HG2.out) Hbw.out.size)
          obtain ⟨h1, h2, h3, h4⟩ := HEN.out i i Hin.out Hin.out
          obtain ⟨b, off, Ak, ck, rfl, hb, hx, hl, hm1, hrd⟩ := (zR4_m.out.below Hbw2.out).at_ h1
          obtain ⟨b5, off5, rfl, hb5, hx5⟩ := hrd.at32 h2
          rw [HWI.out i h1] at hx hl hm1
          rw [h3] at hx5
          have hin2 := Hin.out
          have htr := trN_le (H := inN p M) (b := 4294967295) (fun i => by have : en M i i % p < p := Nat.mod_lt _ (by omega); show en M i i % p ≤ _; omega) i
          have hts : trN (inN p M) (i + 1) = trN (inN p M) i + en M i i % p := rfl
          have hxl : en M i i % p < p := Nat.mod_lt _ (by omega)
          have hem : ((en M i i : Nat) : Int) % (p : Int) = ((en M i i % p : Nat) : Int) := (Int.natCast_emod _ _).symm
          obtain ⟨x, hxe⟩ : ∃ x, x = en M i i := ⟨_, rfl⟩
          rw [← hxe] at hx5 h4 hts hem hxl
          obtain ⟨z, hz⟩ : ∃ z, z = x % p := ⟨_, rfl⟩
          rw [← hz] at hts hem hxl
          obtain ⟨tr, htre⟩ : ∃ tr, tr = trN (inN p M) i := ⟨_, rfl⟩
          rw [← htre] at hts htr ⊢
          have Hts := Lib.hid hts
          have hbig : i * 4294967295 ≤ 24 * 4294967295 := Nat.mul_le_mul_right _ (by omega)
          have q1 : IntKind.u64.wrap (z : Int) = (z : Int) := by rw [IntKind.wrap_u64]; omega
          have q2 : IntKind.u64.wrap ((tr : Int) + (z : Int)) = ((tr + z : Nat) : Int) := by rw [IntKind.wrap_u64]; omega
          have t0 : ((p : Int) == 0) = false := beq_eq_false_iff_ne.2 (by omega)
          clear hts htr hz htre hxe h3 h1 h2 hmd hro htop hrd hres9 hv9 hbig
          go_wp2
          go_roundw
          case rel => exact ⟨i + 1, hs ++ [(A9, c9)], by omega, by go_num, by rw [Hts.out, Int.natCast_add], by simp [Hsl.out], by rw [show n - (i + 1) = n - i - 1 by omega]; exact Htm2.out, Hbw2.out⟩
          case measure => simp [intOf]; omega
    · obtain rfl : n = i := by omega
      have Rt := Lib.hid ((show Tm wr g n hs (fun i k => en M k i) [] by have h9 := htm.out; rw [Nat.sub_self] at h9; exact h9).reads hsl (by omega))
      obtain ⟨bc, oc, rfl, hbc, hc1, hc2⟩ := zR4_c.out.pair HLn.out HLy.out
      have hbcW := hbc
      have hc1 := (hbw.out.cell (p := ⟨bc, oc + n, none⟩) hbc).trans hc1
      have hc2 := (hbw.out.cell (p := ⟨bc, oc + (n - 1), none⟩) hbc).trans hc2
      have hbc := Nat.lt_of_lt_of_le hbc hbw.out.size
      have Rm2 := Lib.hid ((zR4_m.out.below hbw.out).mono hbw.out.size)
      have Rc2 := Lib.hid ((zR4_c.out.below hbw.out).mono hbw.out.size)
      have Rd2 := Lib.hid ((zR_d.out.below hbw.out).mono hbw.out.size)
      have HBJ := Lib.hid (HB4.out.trans (hbw.out.mono HB4.out.size))
      have htr := trN_le (H := inN p M) (b := 4294967295) (fun i => by have : en M i i % p < p := Nat.mod_lt _ (by omega); show en M i i % p ≤ _; omega) n
      have hyd := HYD.out
      obtain ⟨tr, htre⟩ : ∃ tr, tr = trN (inN p M) n := ⟨_, rfl⟩
      rw [← htre] at htr hyd ⊢
      have hbig : n * 4294967295 ≤ 24 * 4294967295 := Nat.mul_le_mul_right _ (by omega)
      have q1 : IntKind.u64.wrap (y : Int) = (y : Int) := by rw [IntKind.wrap_u64]; omega
      have q2 : IntKind.u64.wrap ((y : Int) + (tr : Int)) = ((y + tr : Nat) : Int) := by rw [IntKind.wrap_u64]; omega
      have q3 : IntKind.u64.wrap (p : Int) = (p : Int) := by rw [IntKind.wrap_u64]; omega
      have q4 : ((y + tr : Nat) : Int) % (p : Int) = 0 := by rw [← Int.natCast_emod, Nat.mod_eq_zero_of_dvd hyd]; rfl
      have t0 : ((p : Int) == 0) = false := beq_eq_false_iff_ne.2 (by omega)
      have t3 : (1 : Int) % (p : Int) = 1 := Int.emod_eq_of_lt (by omega) (by omega)
      obtain ⟨n1, hn1⟩ : ∃ n1, n1 = n - 1 := ⟨_, rfl⟩
      have q5 : ((n : Int) - 1) = (n1 : Int) := by omega
      have q6 : IntKind.i64.wrap ((n : Int) - 1) = (n1 : Int) := by rw [IntKind.wrap_i64]; omega
      have q7 : IntKind.i64.wrap ((n : Int) + 1) = ((n + 1 : Nat) : Int) := by rw [IntKind.wrap_i64]; omega
      clear htm hbw htr htre hbig hyd hbcW
      go_upto_region 20 with (go_at_call 9; (with_reducible refine (HCT.out _ _ (by first | exact HBJ.out | exact HBJ.out.drew) (by first | exact Rt.out | exact Rt.out.drewS)).mono ?_); rintro _ w50v ⟨A7, c7, rfl, hrx, hb50⟩; have hx50 : Below wr.heap.size wr w50v := (by first | exact hb50 | exact (Below.refl _ _).drew.trans hb50); have HB50 := Lib.hid (HBJ.out.trans (hx50.mono HBJ.out.size)); have vx50_0 := (hx50.cell (p := ⟨bc, oc + n, none⟩) hbc).trans hc1; have vy50_0 : bc < w50v.heap.size := Nat.lt_of_lt_of_le hbc hx50.size; have vx50_1 := (hx50.cell (p := ⟨bc, oc + (n - 1), none⟩) hbc).trans hc2; have vy50_1 : bc < w50v.heap.size := Nat.lt_of_lt_of_le hbc hx50.size; have vR50_c := Lib.hid ((Rc2.out.below hx50).mono hx50.size); have vR50_d := Lib.hid ((Rd2.out.below hx50).mono hx50.size); have zR_x := Lib.hid hrx; clear hrx; clear hx50; clear Rc2 Rd2)
      go_quiet (fail)
      have Dq : Below w50v.heap.size w50v (w50v.drewN nq) := ((Dr.refl _).step nq).below _
      generalize w50v.drewN nq = wq at Dq ⊢
      have Qc := Lib.hid ((vR50_c.out.below Dq).mono Dq.size)
      have Qd := Lib.hid ((vR50_d.out.below Dq).mono Dq.size)
      have Qx := Lib.hid ((zR_x.out.below Dq).mono Dq.size)
      have qx0 := (Dq.cell (p := ⟨bc, oc + n, none⟩) vy50_0).trans vx50_0
      have qy0 : bc < wq.heap.size := Nat.lt_of_lt_of_le vy50_0 Dq.size
      have qx1 := (Dq.cell (p := ⟨bc, oc + (n - 1), none⟩) vy50_1).trans vx50_1
      have qy1 : bc < wq.heap.size := Nat.lt_of_lt_of_le vy50_1 Dq.size
      have HBQ := Lib.hid (HB50.out.trans (Dq.mono HB50.out.size))
      clear Dq
      go_wp2_with (first
        | (go_at_call 14; (with_reducible refine (HWO.out _ _ _ _ _ (by first | exact Qc.out | exact Qc.out.drewS) (by first | exact Qd.out | exact Qd.out.drewS)).mono ?_); rintro _ w70u ⟨rfl, hb70⟩; have hx70 : Below wq.heap.size wq w70u := (by first | exact hb70 | exact (Below.refl _ _).drew.trans hb70); have HB70 := Lib.hid (HBQ.out.trans (hx70.mono HBQ.out.size)); have ux70_0 := (hx70.cell (p := ⟨bc, oc + n, none⟩) qy0).trans qx0; have uy70_0 : bc < w70u.heap.size := Nat.lt_of_lt_of_le qy0 hx70.size; have ux70_1 := (hx70.cell (p := ⟨bc, oc + (n - 1), none⟩) qy1).trans qx1; have uy70_1 : bc < w70u.heap.size := Nat.lt_of_lt_of_le qy1 hx70.size; have uR70_c := Lib.hid ((Qc.out.below hx70).mono hx70.size); have uR70_x := Lib.hid ((Qx.out.below hx70).mono hx70.size); clear hx70; clear Qc Qx)
        | (go_at_call 14; (with_reducible refine (HWO.out _ _ _ _ _ (by first | exact uR70_c.out | exact uR70_c.out.drewS) (by first | exact uR70_x.out | exact uR70_x.out.drewS)).mono ?_); rintro _ w71u ⟨rfl, hb71⟩; have hx71 : Below w70u.heap.size w70u w71u := (by first | exact hb71 | exact (Below.refl _ _).drew.trans hb71); have HB71 := Lib.hid (HB70.out.trans (hx71.mono HB70.out.size)); have ux71_0 := (hx71.cell (p := ⟨bc, oc + n, none⟩) uy70_0).trans ux70_0; have uy71_0 : bc < w71u.heap.size := Nat.lt_of_lt_of_le uy70_0 hx71.size; have ux71_1 := (hx71.cell (p := ⟨bc, oc + (n - 1), none⟩) uy70_1).trans ux70_1; have uy71_1 : bc < w71u.heap.size := Nat.lt_of_lt_of_le uy70_1 hx71.size; clear hx71)
        | (go_at_call 12; (with_reducible refine (HAW.out _ (by first | exact HB71.out | exact HB71.out.drew)).mono ?_); rintro _ w72u ⟨rfl, hb72⟩; have hx72 : Below w71u.heap.size w71u w72u := (by first | exact hb72 | exact (Below.refl _ _).drew.trans hb72); have HB72 := Lib.hid (HB71.out.trans (hx72.mono HB71.out.size)); have ux72_0 := (hx72.cell (p := ⟨bc, oc + n, none⟩) uy71_0).trans ux71_0; have uy72_0 : bc < w72u.heap.size := Nat.lt_of_lt_of_le uy71_0 hx72.size; have ux72_1 := (hx72.cell (p := ⟨bc, oc + (n - 1), none⟩) uy71_1).trans ux71_1; have uy72_1 : bc < w72u.heap.size := Nat.lt_of_lt_of_le uy71_1 hx72.size; clear hx72))
      go_ret
      exact ⟨rfl, HB72.out⟩

theorem hessSame_walk (A : Option Addr) (c p : Nat) (M : List (List Nat)) (w : World) (hx : Bx w) (hp : p < 4294967296) (hr : RdM w w.heap.size A M) (hm : M.length ≤ 1048576) (hd : DigM 4294967296 M) :
    Calls Tryd.prog 6 #[.slice A M.length c, .int .u32 (p : Int)] w fun e w' => e = .returned (.bool true) ∧ Below w.heap.size w w' := by
  obtain ⟨k, hk⟩ := Ft.ex p M
  by_cases h0 : k = 0
  · subst h0; exact hessSame_ok A c p M w hx hp hr hm hd hk
  · exact hessSame_bad A c p M w hx hp hr hm k hk h0
end Go.Proofs.YtbafiahmcfkboaaDoor
