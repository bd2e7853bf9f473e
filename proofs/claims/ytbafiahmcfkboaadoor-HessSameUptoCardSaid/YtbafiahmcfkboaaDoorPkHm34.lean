/- The contract of (*work).char. Conditions: the sizes; the numbers are below p. -/
import Derived.Test.YtbafiahmcfkboaaDoorPkHm31
import Derived.StillTailTactics
namespace Go.Proofs.YtbafiahmcfkboaaDoor
open Go.RowKit

set_option maxRecDepth 20000 in
set_option maxHeartbeats 6400000 in
theorem char_any (w : World) (B gw p n : Nat) (q : Bool) (x : St) (hp1 : 1 < p) (hp : p < 4294967296) (h : WS w B gw p n q x) (hn : n ≤ 1000) :
    Calls Tryd.prog 25 #[.pointer (some ⟨gw, 0, none⟩)] w fun e w' => ∃ A' c', e = .returned (.slice A' (n + 1) c') ∧ Rd w' w'.heap.size A' (u32s (polR (chT p x.h n) n)) ∧ n + 1 ≤ c' ∧ Below w.heap.size w w' := by
  have hp0 : 0 < p := by omega
  obtain ⟨hgB, hgw, hLt⟩ := h.lt
  obtain ⟨H, hH⟩ : ∃ H, H = x.h := ⟨_, rfl⟩
  have hPw := h.pw
  obtain ⟨gh, hghl, hc1, hrows⟩ := h.at_
  rw [← hH] at hLt hrows ⊢
  have HL := Lib.hid hLt
  have HPL : Hid (∀ (W : World) (a b c : Nat), Below w.heap.size w W → a < p → b < p → c < p → Calls Tryd.prog 37 #[.pointer (some ⟨gw, 0, none⟩), .int .u32 (a : Int), .int .u32 (b : Int), .int .u32 (c : Int)] W fun e w' => e = .returned (.int .u32 (plN p a b c : Int)) ∧ W = w') := fun W a b c hW h1 h2 h3 => hplus_any gw p a b c W hp0 hp (by omega) (by omega) (by omega) (hPw.keep (hW.block _ hgw))
  have HP0 : Hid (∀ (W : World) (b c : Nat), Below w.heap.size w W → b < p → c < p → Calls Tryd.prog 37 #[.pointer (some ⟨gw, 0, none⟩), .int .u32 0, .int .u32 (b : Int), .int .u32 (c : Int)] W fun e w' => e = .returned (.int .u32 (plN p 0 b c : Int)) ∧ W = w') := fun W b c hW h2 h3 => HPL.out W 0 b c hW hp0 h2 h3
  have HNG : Hid (∀ (W : World) (a : Nat), Below w.heap.size w W → a < p → Calls Tryd.prog 40 #[.pointer (some ⟨gw, 0, none⟩), .int .u32 (a : Int)] W fun e w' => e = .returned (.int .u32 (ngN p a : Int)) ∧ W = w') := fun W a hW h1 => hneg_any gw p a W hp h1 (hPw.keep (hW.block _ hgw))
  have HC : Hid (∀ W, Below w.heap.size w W → W.cell? ⟨gw, 1, none⟩ = some (.slice (some ⟨gh, 0, none⟩) n n)) := fun W hW => (hW.cell (p := ⟨gw, 1, none⟩) hgw).trans hc1
  have HR : Hid (∀ W i k, Below w.heap.size w W → i < n → k < n → ∃ b, W.cell? ⟨gh, i, none⟩ = some (.slice (some ⟨b, 0, none⟩) n n) ∧ W.cell? ⟨b, k, none⟩ = some (.int .u32 (H i k : Int))) := fun W i k hW hi hk => by
    obtain ⟨b, hb, h1, h2⟩ := hrows i hi
    exact ⟨b, (hW.cell (p := ⟨gh, i, none⟩) hghl).trans h1, (hW.cell (p := ⟨b, k, none⟩) hb).trans (h2 k hk)⟩
  clear hPw hc1 hrows h hghl hLt
  go_enter Tryd.func25, Tryd.ntmps25
  have c10 := HC.out w (Below.refl _ _)
  go_upto_region 2 with (fail)
  have HO0 := OwP.start w
  have HB0 : Below w.heap.size w ((w.alloc (.cells #[.int .u32 1] 24)).alloc (.cells #[.slice (some ⟨w.heap.size, 0, none⟩) 1 1] 30)) := ((Below.refl _ _).alloc (Nat.le_refl _) _).alloc (by simp) _
  have hz0 : ((w.alloc (.cells #[.int .u32 1] 24)).alloc (.cells #[.slice (some ⟨w.heap.size, 0, none⟩) 1 1] 30)).heap.size = w.heap.size + 2 := by simp
  rw [← hz0] at HO0
  obtain ⟨W0, hW0⟩ : ∃ W0, W0 = (w.alloc (.cells #[.int .u32 1] 24)).alloc (.cells #[.slice (some ⟨w.heap.size, 0, none⟩) 1 1] 30) := ⟨_, rfl⟩
  rw [← hW0] at HO0 HB0 ⊢
  have HO1 := Lib.hid HO0
  have HB1 := Lib.hid HB0
  have c11 := HC.out W0 HB0
  clear hW0 hz0 c10 HO0 HB0
  go_upto_region 3 with (fail)
  go_loopw [18, 3] (fun kv pv wr => ∃ (k : Nat) (Ao : Option Addr) (co : Nat), k ≤ n ∧ kv = .int .i64 (k : Int) ∧ pv = .slice Ao (k + 1) co ∧ Hid (OwP wr w.heap.size wr.heap.size (.slice Ao (k + 1) co) (polM (chT p H k) k)) ∧ Hid (Below w.heap.size w wr)) (fun kv _ _ => n - (intOf kv).toNat)
  case atStart => exact ⟨0, _, _, Nat.zero_le _, rfl, rfl, HO1.out, HB1.out⟩
  case round =>
    clear c11 HO1 HB1
    obtain ⟨k, Ao, co, hk, rfl, rfl, hO, hbw⟩ := hrel
    by_cases hkn : k < n
    · have hmk : ∀ W : World, (Instr.makeSlice 30 (.int .i64 ((k : Int) + 2)) (.int .i64 ((k : Int) + 2))).run Tryd.prog W = .ok (.slice (some ⟨W.heap.size, 0, none⟩) (k + 2) (k + 2)) (W.alloc (.cells (List.replicate (k + 2) (Value.int .u32 0)).toArray 24)) := fun W => by
        rw [show ((k : Int) + 2) = ((k + 2 : Nat) : Int) from by omega]; exact mkPl (k + 2) (by omega) W
      obtain ⟨T, hT⟩ : ∃ T, T = chT p H k := ⟨_, rfl⟩
      have hTl : ∀ i j, T i j < p := fun i j => by rw [hT]; exact chT_lt hp1 H k i j
      rw [← hT] at hO
      have HT := Lib.hid hT
      have HTl := Lib.hid hTl
      clear hT hTl
      obtain ⟨ws, hws⟩ : ∃ ws, ws = wr := ⟨_, rfl⟩
      have Hws := Lib.hid hws
      have HPO : Hid (∀ W i, Below ws.heap.size ws W → i < k + 1 → ∃ b off Ai ci, Ao = some ⟨b, off, none⟩ ∧ b < ws.heap.size ∧ W.cell? ⟨b, off + i, none⟩ = some (.slice Ai (i + 1) ci) ∧ Rd W ws.heap.size Ai (u32s (polR T i))) := fun W i hW hi => by
        have h1 := hO.out
        rw [← hws] at h1
        obtain ⟨_, _, h2⟩ := h1.rd (Nat.le_refl _)
        have hi2 : i < (polM T k).length := by rw [polM_length]; exact hi
        obtain ⟨b, off, Ai, ci, h3, h4, h5, _, _, h6⟩ := h2.at_ hi2
        rw [polM_at hi2] at h5 h6
        rw [polR_length] at h5
        exact ⟨b, off, Ai, ci, h3, h4, (hW.cell (p := ⟨b, off + i, none⟩) h4).trans h5, h6.below hW⟩
      have HBs : Hid (Below w.heap.size w ws) := by rw [hws]; exact hbw.out
      have t2 : (1 : Int) ≤ (k : Int) + 2 := by omega
      have t3 : (k : Int) < (k : Int) + 1 := by omega
      have t4 : k < k + 1 := by omega
      have t1 : IntKind.i64.wrap ((k : Int) + 2) = (k : Int) + 2 := by rw [IntKind.wrap_i64]; omega
      have HoS : Hid (OwP ws w.heap.size ws.heap.size (.slice Ao (k + 1) co) (polM T k)) := by rw [hws]; exact hO.out
      obtain ⟨b0, off0, Ak, ck, hAo, hb0l, z1, hrk⟩ := HPO.out ws k (Below.refl _ _) (by omega)
      subst hAo
      have Hrk := Lib.hid hrk
      rw [hws] at z1
      clear hrk
      go_upto_region 6 with (fail)
      obtain ⟨gn, hgn⟩ : ∃ gn, gn = wr.heap.size := ⟨_, rfl⟩
      have Hgn : Hid (gn = ws.heap.size) := by rw [hws]; exact hgn
      have hb0 : Blk (wr.alloc (.cells (Array.replicate (k + 2) (Value.int .u32 0)) 24)) wr.heap.size 24 (u32s (List.replicate (k + 2) 0)) := Blk.new_ (repl_nat _)
      have HBA : Hid (Below ws.heap.size ws (wr.alloc (.cells (Array.replicate (k + 2) (Value.int .u32 0)) 24))) := by rw [hws]; exact (Below.refl _ _).alloc (Nat.le_refl _) _
      obtain ⟨W0, hW0⟩ : ∃ W0, W0 = wr.alloc (.cells (Array.replicate (k + 2) (Value.int .u32 0)) 24) := ⟨_, rfl⟩
      have z2 : W0.cell? ⟨b0, off0 + k, none⟩ = some (.slice Ak (k + 1) ck) := by
        rw [hW0]
        exact (World.cell?_alloc_past _ _ _ (by rw [← hws]; exact hb0l)).trans z1
      rw [← hW0, ← hgn] at hb0
      rw [← hW0] at HBA ⊢
      rw [← hgn] at ⊢
      have Hb0 := Lib.hid hb0
      have hlk : (polR T k).length = k + 1 := polR_length T k
      have Hlk := Lib.hid hlk
      clear hW0 hgn hb0 z1 hlk hws
      go_still_tail 6, (by kernel_rfl)
      change wpList _ _ _ _ _ W0.drew
      go_upto_region 7 with ((with_reducible refine wpList_copyR (o := ⟨some 30, _, _, _, _, _⟩) rfl _ _ _ _ rfl 24 Tryd.underlying30 ?u1 Ak gn 1 _ _ _ _ rfl rfl 24 (List.replicate (k + 2) 0) (polR T k) ws.heap.size ws.heap.size ws ?c1 ?c2 ?c3 ?c4 ?c5 (Nat.le_of_eq Hgn.out.symm) ?_); rotate_right; intro w2 hg2 hb2)
      case u1 => kernel_rfl
      case c1 => exact Hb0.out
      case c2 => exact Hrk.out.below (HBA.out.drew)
      case c3 => rw [Hlk.out]; simp
      case c4 => rw [Hlk.out]; simp; omega
      case c5 => exact HBA.out.drew
      rw [copy_shf] at hg2
      have HN2 : Hid (Nx w2 gn (k + 2) (shf (T k))) := hg2
      have HB2 := Lib.hid hb2
      obtain ⟨R, hR⟩ : ∃ R, R = chD p H k T (k + 1) (shf (T k)) 1 := ⟨_, rfl⟩
      have HRR := Lib.hid hR
      have HS0 : Hid (∀ j, shf (T k) j < p) := shf_lt hp0 (HTl.out k)
      clear hR hg2 hb2 z2 Hb0 Hrk HBA t2 hmk
      go_upto_region 9 with (fail)
      go_loopw [7, 6] (fun iv tv wq => ∃ (m t : Nat) (z : Int) (nx : Nat → Nat), m ≤ k + 1 ∧ z + 1 = (m : Int) ∧ iv = .int .i64 z ∧ tv = .int .u32 (t : Int) ∧ t < p ∧ Hid (∀ j, nx j < p) ∧ Hid (Nx wq gn (k + 2) nx) ∧ Hid (chD p H k T m nx t = R) ∧ Hid (Below ws.heap.size ws wq)) (fun iv _ _ => (intOf iv + 1).toNat)
      case atStart => exact ⟨k + 1, 1, (k : Int), shf (T k), Nat.le_refl _, by omega, rfl, rfl, hp1, HS0.out, HN2.out, HRR.out.symm, HB2.out⟩
      case round =>
        obtain ⟨wo, rfl⟩ : ∃ wo, wo = wr := ⟨_, rfl⟩
        obtain ⟨m, t, z, nx, hm, hz, rfl, rfl, htp, hnx, hN, hD, hbq⟩ := hrel
        have HBw : Hid (Below w.heap.size w wo) := HBs.out.trans (hbq.out.mono HBs.out.size)
        cases m with
        | zero =>
          obtain rfl : z = -1 := by omega
          have hnR : nx = R := hD.out
          have HoS2 := HoS.out
          have eT : polR (chT p H (k + 1)) (k + 1) = (List.range (k + 2)).map R := by
            unfold polR
            refine List.map_congr_left fun a _ => ?_
            rw [HRR.out, HT.out]
            show (if k + 1 = k + 1 then _ else _ : Nat → Nat) a = _
            rw [if_pos rfl]
          have hro9 : Ro wo ws.heap.size 24 (.slice (some ⟨gn, 0, none⟩) (k + 2) (k + 2)) (u32s (polR (chT p H (k + 1)) (k + 1))) := by
            have h := hN.out
            rw [hnR] at h
            have h2 := Ro.of_blk (B := ws.heap.size) h (Nat.le_of_eq Hgn.out.symm) (by rw [u32s_length, List.length_map, List.length_range]; unfold maxLen; omega)
            rw [u32s_length, List.length_map, List.length_range] at h2
            rw [eT]
            exact h2
          obtain ⟨A9, c9, w9, hrun, hoA9, hb9⟩ := app_pnew HoS2 hbq.out HBs.out.size hro9 (by rw [polR_length]; omega) (by rw [polM_length]; omega)
          rw [HT.out, ← polM_snoc] at hoA9
          rw [polM_length] at hrun hoA9
          have Hrun := Lib.hid hrun
          have HoA9 := Lib.hid hoA9
          have Hb9 := Lib.hid hb9
          clear hrun hro9 eT hoA9 hb9 HoS2 hnR hz
          go_wp2_with (first | (at_builtin; refine wpList_append_run rfl _ _ _ _ rfl _ _ rfl rfl _ _ Hrun.out ?_))
          go_roundw
          case rel => exact ⟨k + 1, A9, c9, by omega, by go_num, by go_num, HoA9.out, HBs.out.trans Hb9.out⟩
          case measure => simp [intOf]; omega
        | succ i =>
          obtain rfl : z = (i : Int) := by omega
          clear hz
          have c12 := HC.out wo HBw.out
          obtain ⟨bi, y1, y2⟩ := HR.out wo i k HBw.out (by omega) hkn
          have hHl : H i k < p := HL.out i k (by omega) hkn
          obtain ⟨hv, hhv⟩ : ∃ hv, hv = H i k := ⟨_, rfl⟩
          rw [← hhv] at y2 hHl
          have Hhv := Lib.hid hhv
          obtain ⟨bp, op, Ai, ci, hAe, hbpl, z3s, hri⟩ := HPO.out ws i (Below.refl _ _) (by omega)
          injection hAe with hAe
          injection hAe with e1 e2
          subst e1 e2
          have z3 := (hbq.out.cell (p := ⟨b0, off0 + i, none⟩) hbpl).trans z3s
          have Hri := Lib.hid hri
          have t5 : (i : Int) < (k : Int) + 1 := by omega
          clear hhv hri z3s
          go_upto_region 13 with (first | (go_at_call 37; (with_reducible refine (HP0.out _ hv t HBw.out hHl htp).mono ?_); rintro _ _ ⟨rfl, rfl⟩) | (go_at_call 40; (with_reducible refine (HNG.out _ (plN p 0 hv t) HBw.out (plN_lt hp0 _ _ _)).mono ?_); rintro _ _ ⟨rfl, rfl⟩))
          obtain ⟨c9, hc9⟩ : ∃ c9, c9 = ngN p (plN p 0 hv t) := ⟨_, rfl⟩
          have hc9l : c9 < p := by rw [hc9]; exact ngN_lt (plN_lt hp0 _ _ _)
          have Hc9 := Lib.hid hc9
          rw [← hc9]
          clear hc9 z3 y1 y2 c12
          go_loopw [56] (fun jv wv => ∃ j : Nat, j ≤ i + 1 ∧ jv = .int .i64 (j : Int) ∧ Hid (Nx wv gn (k + 2) (fun a => if a < j then plN p (nx a) (T i a) c9 else nx a)) ∧ Hid (Below ws.heap.size ws wv)) (fun jv _ => i + 1 - (intOf jv).toNat)
          case atStart => exact ⟨0, Nat.zero_le _, rfl, hN.out.congr fun a _ => by simp, hbq.out⟩
          case round =>
            obtain ⟨wv, rfl⟩ : ∃ wv, wv = wr := ⟨_, rfl⟩
            obtain ⟨j, hj, rfl, hNj, hbv⟩ := hrel
            have HBv : Hid (Below w.heap.size w wv) := HBs.out.trans (hbv.out.mono HBs.out.size)
            by_cases hji : j < i + 1
            · obtain ⟨n1, f1⟩ := hNj.out.at_ (j := j) (by omega)
              simp only [Nat.lt_irrefl, if_false] at n1
              have hgl := hNj.out.lt
              have hjl : j < (polR T i).length := by rw [polR_length]; exact hji
              obtain ⟨b5, off5, rfl, hb5, hx5⟩ := (Hri.out.below hbv.out).at32 hjl
              rw [polR_at hjl] at hx5
              have hyl := HTl.out i j
              have hxl := hnx.out j
              have HPUT : Hid (Nx (wv.setCell ⟨gn, j, none⟩ (.int .u32 (plN p (nx j) (T i j) c9 : Int))) gn (k + 2) (fun a => if a < j + 1 then plN p (nx a) (T i a) c9 else nx a)) := (hNj.out.put j _).congr fun a _ => by
                by_cases e : a = j
                · subst e; simp
                · by_cases e2 : a < j
                  · simp [e, e2, show a < j + 1 by omega]
                  · simp [e, e2, show ¬ a < j + 1 by omega]
              obtain ⟨y, hy⟩ : ∃ y, y = T i j := ⟨_, rfl⟩
              obtain ⟨x0, hx0⟩ : ∃ x0, x0 = nx j := ⟨_, rfl⟩
              rw [← hy, ← hx0] at HPUT
              rw [← hy] at hx5 hyl
              rw [← hx0] at n1 hxl
              have t6 : (j : Int) < (i : Int) + 1 := by omega
              have t7 : (j : Int) < (k : Int) + 2 := by omega
              clear hy hx0 hjl
              go_wp2_with (go_at_call 37; (with_reducible refine (HPL.out _ x0 y c9 HBv.out hxl hyl hc9l).mono ?_); rintro _ _ ⟨rfl, rfl⟩)
              go_roundw
              case rel => exact ⟨j + 1, by omega, by go_num, HPUT.out, hbv.out.trans ((Ch.setCell (Ch.refl gn _) _ _).below (Nat.le_of_eq Hgn.out.symm))⟩
              case measure => simp [intOf]; omega
            · obtain rfl : j = i + 1 := by omega
              obtain ⟨nx', hnx'⟩ : ∃ nx' : Nat → Nat, nx' = fun a => if a < i + 1 then plN p (nx a) (T i a) c9 else nx a := ⟨_, rfl⟩
              have HNX : Hid (∀ a, nx' a < p) := fun a => by
                rw [hnx']
                show (if _ then _ else _) < p
                split
                · exact plN_lt hp0 _ _ _
                · exact hnx.out a
              rw [← hnx'] at hNj
              have HD2 : Hid (chD p H k T i nx' (if 0 < i then plN p 0 t (H i (i - 1)) else t) = R) := by
                rw [← hD.out, hnx', Hc9.out, Hhv.out]
                rfl
              clear hnx'
              rcases Nat.eq_zero_or_pos i with hi0 | hi0
              · subst hi0
                have HD3 : Hid (chD p H k T 0 nx' t = R) := HD2.out
                go_wp2
                go_roundw
                case rel => exact ⟨0, t, -1, nx', by omega, by omega, by go_num, rfl, htp, HNX.out, hNj.out, HD3.out, hbv.out⟩
                case measure => simp [intOf]
              · obtain ⟨i1, hi1⟩ : ∃ i1, i1 = i - 1 := ⟨_, rfl⟩
                have t8 : decide ((0 : Int) < (i : Int)) = true := by simp; omega
                have t9 : IntKind.i64.wrap ((i : Int) - 1) = (i1 : Int) := by rw [IntKind.wrap_i64]; omega
                have t10 : (i : Int) - 1 = (i1 : Int) := by omega
                have t11 : IntKind.i64.wrap (i1 : Int) = (i1 : Int) := by rw [IntKind.wrap_i64]; omega
                have t12 : (i1 : Int) < (n : Int) := by omega
                have t13 : (i : Int) < (n : Int) := by omega
                have HD3 : Hid (chD p H k T i nx' (plN p 0 t (H i i1)) = R) := by
                  have h := HD2.out
                  rw [if_pos hi0, ← hi1] at h
                  exact h
                have c13 := HC.out wv HBv.out
                obtain ⟨bj, y3, y4⟩ := HR.out wv i i1 HBv.out (by omega) (by omega)
                have hul := HL.out i i1 (by omega) (by omega)
                obtain ⟨u, hu⟩ : ∃ u, u = H i i1 := ⟨_, rfl⟩
                rw [← hu] at y4 hul HD3
                have y5 := y4
                rw [hi1] at y5
                clear hu
                go_wp2_with (go_at_call 37; (with_reducible refine (HP0.out _ t u HBv.out htp hul).mono ?_); rintro _ _ ⟨rfl, rfl⟩)
                go_roundw
                case rel => exact ⟨i, plN p 0 t u, (i1 : Int), nx', by omega, by omega, by go_num, rfl, plN_lt hp0 _ _ _, HNX.out, hNj.out, HD3.out, hbv.out⟩
                case measure => simp [intOf]; omega
    · obtain rfl : k = n := by omega
      have h2 := (hO.out.rd (Nat.le_refl _)).2.2
      have hi2 : k < (polM (chT p H k) k).length := by rw [polM_length]; omega
      obtain ⟨b, off, Ai, ci, rfl, h4, h5, h7, _, h6⟩ := h2.at_ hi2
      rw [polM_at hi2] at h5 h6 h7
      rw [polR_length] at h5 h7
      have H6 := Lib.hid h6
      have c14 := HC.out wr hbw.out
      have t3 : (k : Int) < (k : Int) + 1 := by omega
      clear h2 h6
      go_wp2
      go_ret
      exact ⟨_, _, rfl, H6.out, h7, hbw.out⟩
end Go.Proofs.YtbafiahmcfkboaaDoor
