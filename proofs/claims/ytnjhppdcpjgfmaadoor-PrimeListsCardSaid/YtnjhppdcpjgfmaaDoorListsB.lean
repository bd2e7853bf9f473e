/- The walk of PrimeLists. -/
import Derived.Test.YtnjhppdcpjgfmaaDoorListsA
namespace Go.Proofs.YtnjhppdcpjgfmaaDoor
open Go.RowKit Go.Shelf

attribute [local go_sem] Oper.semAt_some

set_option maxRecDepth 100000 in
set_option maxHeartbeats 4000000 in
theorem lists_walk (a lo hi : Nat) (k : Int) (dn : Bool) (ha : a < 4294967296) (hlo : lo < 4294967296) (hhi : hi < 4294967296) (hk : -9223372036854775808 ≤ k ∧ k ≤ 9223372036854775807) (w : World) (hw : Bases w) :
    CallsIn Fence.wide 6 Tryd.prog 4 #[.int .u32 (a : Int), .int .i64 k, .agg #[.bool dn, .int .u32 (lo : Int), .int .u32 (hi : Int)]] w fun r w' => r = .returned (.bool true) ∧ Below w.heap.size w w' := by
  have Hw := Lib.hid hw
  have HP0 := Lib.hid (LP.start dn lo hi w hw (.bool false))
  clear hw
  refine callsIn_of_wp_marks Tryd.func4 rfl trivial ?_ rfl
  simp only [Tryd.ntmps4, List.size_toArray, List.length_cons, List.length_nil, Nat.reduceAdd, Nat.reduceSub, Array.replicate_succ, Array.replicate_zero, List.push_toArray, List.append_toArray, List.nil_append, List.cons_append]
  gi_wp2_with fail
  refine ⟨trivial, (list_every _ a k dn (by omega) ha hk _ HP0.out.2.2.1).mono ?_⟩
  rintro e w1 ⟨v1, c1, rfl, h1, hb1⟩
  have H1 := Lib.hid h1
  have HP1 := Lib.hid (HP0.out.keep Hw.out hb1 HP0.out.size)
  have hx1 := HP1.out.c0
  clear h1 hb1
  gi_wp2_with fail
  refine ⟨trivial, (list_every _ a k dn (by omega) ha hk _ HP1.out.2.2.1).mono ?_⟩
  rintro e w2 ⟨v2, c2, rfl, h2, hb2⟩
  have H2 := Lib.hid h2
  have HB2 := Lib.hid hb2
  have HP2 := Lib.hid (HP1.out.keep Hw.out hb2 HP1.out.size)
  clear h2 hb2 hx1
  gi_upto_region 3 with fail
  gi_cut [41] from 42 (fun s41 wx => s41 = .bool (decide (k < 0 ∨ 10000 < k)) ∧ wx = w2)
  case first =>
    by_cases g0 : k < 0
    · have e0 : decide (k < 0 ∨ 10000 < k) = true := decide_eq_true (Or.inl g0)
      gi_wp2_with fail
      gi_meet
      case rel => exact ⟨by rw [e0], rfl⟩
    · by_cases g1 : 10000 < k
      · have e0 : decide (k < 0 ∨ 10000 < k) = true := decide_eq_true (Or.inr g1)
        gi_wp2_with fail
        gi_meet
        case rel => exact ⟨by rw [e0], rfl⟩
      · have e0 : decide (k < 0 ∨ 10000 < k) = false := decide_eq_false (by omega)
        gi_wp2_with fail
        gi_meet
        case rel => exact ⟨by rw [e0], rfl⟩
  case rest =>
    obtain ⟨rfl, rfl⟩ := hcut
    gi_upto_if 41 with fail
    gi_cut [] from 41 (fun wx => LP dn lo hi w wx)
    case first =>
      have h2' := H2.out
      unfold ListOut at h2'
      rcases h2' with ⟨hbad, rfl, rfl⟩ | ⟨j, rfl, hj, rfl, hr2⟩
      · have e0 : decide (k < 0 ∨ 10000 < k) = true := decide_eq_true hbad
        obtain ⟨rfl, rfl⟩ : c1 = 1 ∧ v1 = .slice none 0 0 := by
          have h1' := H1.out
          unfold ListOut at h1'
          rcases h1' with ⟨_, h⟩ | ⟨j, hkj, hj, _⟩
          · exact h
          · exfalso; omega
        rw [e0]
        clear H1 H2 e0
        gi_wp2_with fail
        refine ⟨trivial, (callsIn_wide.2 (num_any _ _)).mono ?_⟩
        rintro _ _ ⟨rfl, rfl⟩
        gi_wp2_with fail
        gi_meet
        case rel => exact HP2.out
      · have e0 : decide ((j : Int) < 0 ∨ 10000 < (j : Int)) = false := decide_eq_false (by omega)
        rw [e0]
        clear e0
        obtain ⟨rfl, hr1⟩ : c1 = 0 ∧ w1.ownsRow (w.heap.size + 1 + 1) 22 1 v1 ((Full dn a).take j).length (u32s ((Full dn a).take j)) := by
          have h1' := H1.out
          unfold ListOut at h1'
          rcases h1' with ⟨h, _⟩ | ⟨j', hkj, hj, h1, h2⟩
          · exfalso; omega
          · obtain rfl : j = j' := by omega
            exact ⟨h1, by simpa using h2⟩
        obtain ⟨F, hF⟩ : ∃ F, F = Full dn a := ⟨_, rfl⟩
        rw [← hF] at hr1 hr2
        obtain ⟨L, hL⟩ : ∃ L, L = F.take j := ⟨_, rfl⟩
        rw [← hL] at hr1 hr2
        obtain ⟨A1, p1, rfl⟩ := own_slice hr1
        obtain ⟨A2, p2, rfl⟩ := own_slice hr2
        obtain ⟨g1, q1, q2, q3, q4⟩ := row_cells hr1
        obtain ⟨g2, q5, q6, q7, q8⟩ := row_cells hr2
        have hlen : L.length = min j F.length := by rw [hL, List.length_take]
        have hlen2 : L.length ≤ j := by omega
        have hatS : LR dn lo hi a j L g1 g2 w (.int .u32 (a : Int)) (.bool (isP a)) (.int .i64 0) wc := by
          refine ⟨0, a, isP a, rfl, rfl, rfl, by omega, by omega, ha, fun _ => ⟨rfl, rfl⟩, fun h => by omega, HP2.out, fun t _ ht => ?_, fun t ht => (q8 t ht).1⟩
          have hne : L.length ≠ 0 := by omega
          have hlt := (q3 hne).2.2
          refine ⟨(HB2.out.cell (p := ⟨g1, t, none⟩) hlt).trans (q4 t ht).1, ?_⟩
          have : wc.frozen? ⟨g1, t, none⟩ = w1.frozen? ⟨g1, t, none⟩ := by simp only [World.frozen?]; rw [HB2.out.block g1 hlt]
          exact this.trans (q4 t ht).2
        have HatS := Lib.hid hatS
        have Q3 := Lib.hid q3
        have Q7 := Lib.hid q7
        have HL := Lib.hid hL
        have HF := Lib.hid hF
        have Hlen := Lib.hid hlen
        have Q1 := Lib.hid q1
        have Q2 := Lib.hid q2
        have Q5 := Lib.hid q5
        have Q6 := Lib.hid q6
        clear H1 H2 hL hr1 hr2 hatS q1 q2 q3 q4 q5 q6 q7 q8 hF hlen
        gi_wp2_with fail
        refine ⟨trivial, (callsIn_wide.2 (num_any _ _)).mono ?_⟩
        rintro _ _ ⟨rfl, rfl⟩
        gi_wp2_with fail
        refine ⟨trivial, (callsIn_wide.2 (ris_all a ha _)).mono ?_⟩
        rintro _ _ ⟨rfl, rfl⟩
        gi_wp2_with fail
        gi_loopw [11, 12, 13] (fun s11 s12 s13 W => LR dn lo hi a j L g1 g2 w s11 s12 s13 W) (fun _ _ s13 _ => j - (intOf s13).toNat)
        case atStart => exact HatS.out
        case round =>
          obtain ⟨i, at', mo, rfl, rfl, rfl, hij, hiL, hat, hz, hpos, hP, hc1, hc2⟩ := hrel
          have Hc1 := Lib.hid hc1
          have Hc2 := Lib.hid hc2
          have HP := Lib.hid hP
          by_cases hlt : i < j
          · have Hstep := Lib.hid (pos_step (F := F) ha HF.out hlt (by rw [← HL.out]; exact hiL) hz (by rw [← HL.out]; exact hpos))
            clear hz hpos hc1 hc2 hP
            gi_upto_region 12 with fail
            gi_cut [79] from 179 (fun s79 wx => s79 = .bool (decide (0 < i) || !mo) ∧ wx = wr)
            case first =>
              rcases Nat.eq_zero_or_pos i with h0 | h0
              · subst h0
                cases mo
                all_goals
                  gi_wp2_with fail
                  gi_meet
                  exact ⟨rfl, rfl⟩
              · have e0 : decide (0 < i) = true := decide_eq_true h0
                gi_wp2_with fail
                gi_meet
                case rel => exact ⟨by rw [e0]; rfl, rfl⟩
            case rest =>
              obtain ⟨rfl, rfl⟩ := hcut
              obtain ⟨x, hx⟩ : ∃ x, x = F.getD i 0 := ⟨_, rfl⟩
              obtain ⟨b, hb⟩ : ∃ b, b = decide (i < F.length) := ⟨_, rfl⟩
              obtain ⟨c, hc⟩ : ∃ c, c = (decide (0 < i) || !mo) := ⟨_, rfl⟩
              have hst := Hstep.out
              have hxl : x < 4294967296 := by rw [hx, HF.out]; exact full_getD_lt ha i
              rw [← hx, ← hb, ← hc] at hst
              rw [← hc]
              have Hst := Lib.hid hst
              have Hx := Lib.hid hx
              have Hb := Lib.hid hb
              clear hst hx hb hc Hstep
              gi_upto_if 79 with fail
              gi_cut [11, 12] from 179 (fun s11 s12 wx => s11 = .int .u32 (x : Int) ∧ s12 = .bool b ∧ wx = wc)
              case first =>
                cases c
                · obtain ⟨rfl, rfl, rfl⟩ := Hst.out.1 rfl
                  gi_wp2_with fail
                  gi_meet
                  case rel => exact ⟨rfl, rfl, rfl⟩
                · have hcx := HP.out.c0
                  have Hrun := Lib.hid (rstep_any dn at' x b hat (Hst.out.2 rfl) wc)
                  clear Hst
                  cases dn
                  all_goals
                    gi_wp2_with fail
                    refine ⟨trivial, (callsIn_wide.2 Hrun.out).mono ?_⟩
                    rintro _ _ ⟨rfl, rfl⟩
                    gi_wp2_with fail
                    gi_meet
                    exact ⟨rfl, rfl, rfl⟩
              case rest =>
                obtain ⟨rfl, rfl, rfl⟩ := hcut
                clear Hst hat
                cases b
                · have hLi : L.length = i := by
                    have h1 := of_decide_eq_false Hb.out.symm
                    have h2 := Hlen.out
                    omega
                  have t1 : ((L.length : Int) == (i : Int)) = true := by rw [hLi]; simp
                  clear hLi hiL
                  gi_wp2_with fail
                  gi_meet
                  case rel => exact HP.out
                · have hiF : i < L.length := by
                    have h1 := of_decide_eq_true Hb.out.symm
                    have h2 := Hlen.out
                    omega
                  obtain ⟨rfl, hg1a, hg1b⟩ := Q3.out (by omega)
                  obtain ⟨rfl, hg2a, hg2b⟩ := Q7.out (by omega)
                  have hxL : x = L.getD i 0 := by rw [Hx.out, HL.out, take_getD hlt]
                  have hci := (Hc1.out i (Nat.le_refl _) hiF).1
                  have hfi := (Hc1.out i (Nat.le_refl _) hiF).2
                  have hdi := Hc2.out i hiF
                  rw [← hxL] at hci hdi
                  have HxL := Lib.hid hxL
                  have Hg1 := Lib.hid (And.intro hg1a (And.intro hg1b (And.intro hg2a hg2b)))
                  have t1 : ((x : Int) == (x : Int)) = true := by simp
                  clear hxL hg1a hg1b hg2a hg2b hiL
                  gi_wp2_with fail
                  case roundEnd =>
                    refine ⟨?_, by simp [intOf]; omega⟩
                    exact lr_next Hw.out HP.out Hc1.out Hc2.out (by omega) hiF hlt hxl HxL.out Hg1.out.1 (by have := Hg1.out; omega)
          · gi_wp2_with fail
            gi_meet
            case rel => exact HP.out
    case rest =>
      have HP := Lib.hid hcut
      have hbx := Boxed.new wc 3 (.int .i64 0)
      have hP14 := HP.out.keep Hw.out ((Below.refl wc.heap.size wc).alloc (Nat.le_refl _) (.cells #[.int .i64 0] 3)) HP.out.size
      have hsz := HP.out.size
      have HBx := Lib.hid hbx
      have HP14 := Lib.hid hP14
      clear hcut H1 H2 HP0 HP1 HP2 HB2 hbx hP14
      gi_wp2_with fail
      have hs14 : (wc.alloc (.cells #[.int .i64 0] 3)).heap.size = wc.heap.size + 1 := by simp
      obtain ⟨b14, hb14⟩ : ∃ b, b = wc.heap.size := ⟨_, rfl⟩
      obtain ⟨V, hV⟩ : ∃ V, V = wc.alloc (.cells #[.int .i64 0] 3) := ⟨_, rfl⟩
      rw [← hV, ← hb14] at HBx hs14
      rw [← hV] at HP14
      rw [← hb14] at hsz
      rw [← hV, ← hb14]
      have Hs14 := Lib.hid (And.intro hs14 hsz)
      clear hV hb14 hs14 HP hsz
      gi_cut [15, 16] from 179 (fun s15 s16 W => L23 lo V s15 s16 W)
      case first =>
        have hx1 := HP14.out.c1
        refine wpIn_wide.2 (wp_region_noPanic ?_)
        go_region_held3 (fun W => W.cell? ⟨w.heap.size, 1, none⟩ = some (.int .u32 (lo : Int))) (go_keep) (first | (go_at_call 19; refine (ris_all lo hlo _).mono ?_; rintro e w' ⟨rfl, rfl⟩))
        all_goals refine NoPanic.normal ?_
        all_goals go_wp2
        all_goals gi_meet
        all_goals first | exact l23_a lo V | exact l23_b lo V
      case rest =>
        obtain ⟨b15, b16, rfl, rfl, hne, h15, h16, hb15, hb16, hbel⟩ := hcut
        have HA := Lib.hid (show Apart3 w b14 b15 b16 from ⟨Hs14.out.2, by have := Hs14.out.1; omega, by have := Hs14.out.1; omega, hne⟩)
        have HL := Lib.hid (show L2 dn lo hi b14 b15 b16 w 0 lo (isP lo) wc from ⟨HP14.out.keep Hw.out hbel (by have := Hs14.out; omega), (hbel.block _ (by have := Hs14.out.1; omega)).trans HBx.out, hb15, hb16⟩)
        obtain ⟨m0, hm0⟩ : ∃ m0, m0 = isP lo := ⟨_, rfl⟩
        have hz := at_zero hlo
        rw [← hm0] at HL hz
        have Hz := Lib.hid hz
        have hc16 := HL.out.2.2.2.cell
        clear hne h15 h16 hb15 hb16 hbel HBx Hs14 HP14 hm0 hz
        gi_upto_if 127 with fail
        gi_cut [] from 179 (fun W => L2 dn lo hi b14 b15 b16 w 0 (At lo 0) (Mo lo 0) W)
        case first =>
          cases m0
          · have hc15 := HL.out.2.2.1.cell
            have hf15 := HL.out.2.2.1.frozen
            have hf16 := HL.out.2.2.2.frozen
            have HR := Lib.hid (rnext_any lo (At lo 0) (Mo lo 0) hlo (Hz.out.2 rfl) wc)
            have HL2 := Lib.hid (HL.out.put Hw.out HA.out (At lo 0) (Mo lo 0))
            obtain ⟨x0, hx0⟩ : ∃ x0, x0 = At lo 0 := ⟨_, rfl⟩
            obtain ⟨y0, hy0⟩ : ∃ y0, y0 = Mo lo 0 := ⟨_, rfl⟩
            rw [← hx0, ← hy0] at HR HL2
            have Hx0 := Lib.hid hx0
            have Hy0 := Lib.hid hy0
            have hne := HA.out.2.2.2
            clear hx0 hy0 Hz
            gi_wp2_with fail
            refine ⟨trivial, (callsIn_wide.2 HR.out).mono ?_⟩
            rintro _ _ ⟨rfl, rfl⟩
            gi_wp2_with fail
            gi_meet
            case rel => rw [← Hx0.out, ← Hy0.out]; exact HL2.out
          · have HL2 := Lib.hid (show L2 dn lo hi b14 b15 b16 w 0 (At lo 0) (Mo lo 0) wc from by rw [(Hz.out.1 rfl).1, (Hz.out.1 rfl).2]; exact HL.out)
            clear Hz
            gi_wp2_with fail
            gi_meet
            case rel => exact HL2.out
        case rest =>
          have hB17 := Boxed.new wc 4 (.bool true)
          have hL3 := hcut.below Hw.out HA.out ((Below.refl wc.heap.size wc).alloc (Nat.le_refl _) (.cells #[.bool true] 4)) ⟨hcut.2.2.1.lt, hcut.2.2.2.lt⟩
          have h17 : wc.heap.size + 1 = (wc.alloc (.cells #[.bool true] 4)).heap.size := by simp
          have h17b : w.heap.size + 2 ≤ wc.heap.size ∧ b14 < wc.heap.size ∧ b15 < wc.heap.size ∧ b16 < wc.heap.size := ⟨hcut.1.size, hcut.2.1.lt, hcut.2.2.1.lt, hcut.2.2.2.lt⟩
          have HB17 := Lib.hid hB17
          have HL3 := Lib.hid hL3
          have H17 := Lib.hid (And.intro h17 h17b)
          clear hcut HL Hz hc16 hB17 hL3 h17 h17b
          gi_upto_region 27 with fail
          obtain ⟨b17, hb17⟩ : ∃ b, b = wc.heap.size := ⟨_, rfl⟩
          obtain ⟨V2, hV2⟩ : ∃ V, V = wc.alloc (.cells #[.bool true] 4) := ⟨_, rfl⟩
          rw [← hV2, ← hb17] at HB17 H17
          rw [← hV2] at HL3
          rw [← hV2, ← hb17]
          have hx1 := HL3.out.1.c1
          have hx2 := HL3.out.1.c2
          clear hV2 hb17
          gi_wp2_with fail
          refine ⟨trivial, (callsIn_wide.2 (between_any lo hi _)).mono ?_⟩
          rintro _ _ ⟨rfl, rfl⟩
          have xN : ∀ (p q : Value) (W : World), Sem.run Tryd.prog (binOp BinOp.eql 35 (.func (.func 52) #[] #[p, q]) .nilFunc) W = .ok (.bool false) W := fun _ _ _ => by kernel_rfl
          gi_wp2_with fail
          have hbl := (Boxed.new V2 22 (.int .u32 (lo : Int))).alloc (.cells #[.int .u32 (hi : Int)] 22)
          have hbh := Boxed.new (V2.alloc (.cells #[.int .u32 (lo : Int)] 22)) 22 (.int .u32 (hi : Int))
          rw [World.size_alloc] at hbh
          have hbw : Below V2.heap.size V2 ((V2.alloc (.cells #[.int .u32 (lo : Int)] 22)).alloc (.cells #[.int .u32 (hi : Int)] 22)) := ((Below.refl _ V2).alloc (Nat.le_refl _) _).alloc (by simp) _
          have hns : ((V2.alloc (.cells #[.int .u32 (lo : Int)] 22)).alloc (.cells #[.int .u32 (hi : Int)] 22)).heap.size = V2.heap.size + 2 := by simp
          have h17a := H17.out
          have hL4 := HL3.out.below Hw.out HA.out hbw (by omega)
          have hb4 : Boxed ((V2.alloc (.cells #[.int .u32 (lo : Int)] 22)).alloc (.cells #[.int .u32 (hi : Int)] 22)) b17 4 (.bool true) := (hbw.block _ (by omega)).trans HB17.out
          refine range_own (by omega) (gf := 52) (lb := #[.pointer (some ⟨V2.heap.size, 0, none⟩), .pointer (some ⟨V2.heap.size + 1, 0, none⟩)]) rfl (enters_of Tryd.func52 (by kernel_rfl) rfl)
            (between_own 5 V2.heap.size (V2.heap.size + 1) (w.heap.size + 2) V2.heap.size lo hi (by omega) hlo hhi _ hbl hbh (Nat.le_refl _) (by omega) hL4.1.2.2.1 (by have := Hw.out.lt; omega) (by omega)) KB.trans (KB.put (by rw [hns]; omega)) (fun _ => rfl)
            (J30 dn lo hi b14 b15 b16 b17 w) (JX dn lo hi b17 w) (J30.own Hw.out (by rw [hns]; omega)) (fun c => JX.own Hw.out (by rw [hns]; omega) c)
            ⟨hL4, hb4, by simp⟩ ?act ?assign ?body ?done ?stop
          case assign =>
            intro l' x W K hK
            gi_wp2
            exact hK
          case body =>
            intro l' pre x W hI hl30
            obtain ⟨hL, hb, hl⟩ := hI
            have hc16 := hL.2.2.2.cell
            have hc15 := hL.2.2.1.cell
            have hx2 := hL.1.c2
            obtain ⟨v6, hc6, hf6⟩ := hL.1.c6
            have Hb := Lib.hid hb
            have HLw := Lib.hid hL
            have Hl := Lib.hid hl
            obtain ⟨xv, hxv⟩ := x
            have HN := Lib.hid (fun h => at_next (i := pre.length) hlo h)
            have HX := Lib.hid (fun (W' : World) (h : ¬ (Mo lo pre.length = true ∧ xv = At lo pre.length ∧ xv ≤ hi)) => (show JX dn lo hi b17 w .ret (pre ++ [⟨xv, hxv⟩]) W' from Or.inl ⟨rfl, pre, _, rfl, h⟩))
            have hal := at_lt lo pre.length
            obtain ⟨n, hn⟩ : ∃ n, n = pre.length := ⟨_, rfl⟩
            rw [← hn] at HN HX HLw hc16 hc15 hal Hl
            obtain ⟨at', hat⟩ : ∃ x, x = At lo n := ⟨_, rfl⟩
            obtain ⟨mo, hmo⟩ : ∃ x, x = Mo lo n := ⟨_, rfl⟩
            rw [← hat] at HN HX HLw hc15 hal
            rw [← hmo] at HN HX HLw hc16
            have Hn := Lib.hid hn
            clear hl30 hL hb hl hbl hbh hbw hns h17a hL4 hb4 xN hx1 hn hat hmo
            cases mo
            · have HX2 := Lib.hid (fun W' => HX.out W' (fun h => by cases h.1))
              clear HX HN
              gi_wp2_with fail
              exact ⟨KeepsOthers.setCell _ _ _, HX2.out _⟩
            · by_cases hxa : xv = at'
              · subst hxa
                have t1 : ((xv : Int) == (xv : Int)) = true := by simp
                by_cases hxh : hi < xv
                · have HX2 := Lib.hid (fun W' => HX.out W' (fun h => by have := h.2.2; omega))
                  clear HX HN
                  gi_wp2_with fail
                  exact ⟨KeepsOthers.setCell _ _ _, HX2.out _⟩
                · have hxh2 : xv ≤ hi := by omega
                  have hnx := HN.out rfl
                  obtain ⟨r, hr⟩ : ∃ r, r = At lo (n + 1) := ⟨_, rfl⟩
                  obtain ⟨ok, hok⟩ : ∃ ok, ok = Mo lo (n + 1) := ⟨_, rfl⟩
                  rw [← hr, ← hok] at hnx
                  have HR := Lib.hid (rnext_any xv r ok hxv hnx W)
                  have hP1 := HLw.out.put Hw.out HA.out r ok
                  have hP2 := hP1.inc Hw.out HA.out (n + 1)
                  have hbf : Boxed ((W.setCell ⟨b15, 0, none⟩ (.int .u32 (r : Int))).setCell ⟨b16, 0, none⟩ (.bool ok)) b17 4 (.bool true) := boxed_far (boxed_far Hb.out (by have := H17.out; omega) _) (by have := H17.out; omega) _
                  have hbf2 := boxed_far hbf (show b17 ≠ b14 by have := H17.out; omega) (.int .i64 ((n + 1 : Nat) : Int))
                  have hkb := kb_set (kb_set (kb_set (kb_refl (w.heap.size + 2) V2.heap.size W) (show w.heap.size + 2 ≤ b15 by have := HA.out; unfold Apart3 at this; omega) (by have := H17.out; omega) (.int .u32 (r : Int))) (show w.heap.size + 2 ≤ b16 by have := HA.out; unfold Apart3 at this; omega) (by have := H17.out; omega) (.bool ok)) (show w.heap.size + 2 ≤ b14 by have := HA.out; unfold Apart3 at this; omega) (by have := H17.out; omega) (.int .i64 ((n + 1 : Nat) : Int))
                  have hko := ((KeepsOthers.setCell W ⟨b15, 0, none⟩ (.int .u32 (r : Int))).trans (KeepsOthers.setCell _ ⟨b16, 0, none⟩ (.bool ok))).trans (KeepsOthers.setCell _ ⟨b14, 0, none⟩ (.int .i64 ((n + 1 : Nat) : Int)))
                  have hd14 := hP1.2.1.cell
                  have he14 := hP1.2.1.frozen
                  have hf15 := HLw.out.2.2.1.frozen
                  have hf16 := HLw.out.2.2.2.frozen
                  have hd16 := (boxed_far HLw.out.2.2.2 (show b16 ≠ b15 from fun h => HA.out.2.2.2 h.symm) (.int .u32 (r : Int))).cell
                  have he16 := (boxed_far HLw.out.2.2.2 (show b16 ≠ b15 from fun h => HA.out.2.2.2 h.symm) (.int .u32 (r : Int))).frozen
                  have HP2 := Lib.hid hP2
                  have HBf2 := Lib.hid hbf2
                  have HKb := Lib.hid hkb
                  have HKo := Lib.hid hko
                  have Hr := Lib.hid hr
                  have Hok := Lib.hid hok
                  clear HX hxh hnx hP1 hP2 hbf hbf2 hkb hko HN hr hok
                  gi_wp2_with fail
                  refine ⟨trivial, (CallsIn.inRound l' (callsIn_wide.2 HR.out)).mono ?_⟩
                  rintro _ W9 ⟨rfl, h9⟩
                  rw [h9]
                  clear h9
                  have hbnd := Hl.out
                  gi_upto_region 36 with fail
                  obtain ⟨W5, hW5⟩ : ∃ W5, W5 = ((W.setCell ⟨b15, 0, none⟩ (.int .u32 (r : Int))).setCell ⟨b16, 0, none⟩ (.bool ok)).setCell ⟨b14, 0, none⟩ (.int .i64 ((n : Int) + 1)) := ⟨_, rfl⟩
                  have H5 := Lib.hid (show L2 dn lo hi b14 b15 b16 w (n + 1) r ok W5 from by rw [hW5]; exact HP2.out)
                  have HB5 := Lib.hid (show Boxed W5 b17 4 (.bool true) from by rw [hW5]; exact HBf2.out)
                  have HK5 := Lib.hid (show KB (w.heap.size + 2) V2.heap.size W W5 from by rw [hW5]; exact HKb.out)
                  have HO5 := Lib.hid (show KeepsOthers W W5 from by rw [hW5]; exact HKo.out)
                  have hc14 : W5.cell? ⟨b14, 0, none⟩ = some (.int .i64 ((n : Int) + 1)) := H5.out.2.1.cell
                  rw [← hW5]
                  clear hd14 he14 hd16 he16 hf15 hf16 hc15 hc16 hW5 HP2 HBf2 HKb HKo
                  by_cases h30 : n = 29
                  · have hc17 := HB5.out.cell
                    have hf17 := HB5.out.frozen
                    have hc14b : W5.cell? ⟨b14, 0, none⟩ = some (.int .i64 30) := by rw [hc14, h30]; rfl
                    have H7 := Lib.hid (show JX dn lo hi b17 w (.exit 2) (pre ++ [⟨xv, hxv⟩]) (W5.setCell ⟨b17, 0, none⟩ (.bool false)) from Or.inr ⟨rfl, H5.out.1.set Hw.out H17.out.2.1 _, Boxed.set _ HB5.out⟩)
                    clear hc14 h30 hbnd
                    gi_wp2_with fail
                    exact ⟨HO5.out.trans (KeepsOthers.setCell _ _ _), H7.out⟩
                  · have hne : ¬ ((n : Int) + 1 = 30) := by omega
                    have H7 := Lib.hid (show J30 dn lo hi b14 b15 b16 b17 w (pre ++ [⟨xv, hxv⟩]) W5 from by
                      unfold J30
                      rw [List.length_append, List.length_singleton, ← Hn.out, ← Hr.out, ← Hok.out]
                      exact ⟨H5.out, HB5.out, by omega⟩)
                    clear h30
                    gi_wp2_with fail
                    exact ⟨HO5.out, HK5.out, H7.out⟩
              · have HX2 := Lib.hid (fun W' => HX.out W' (fun h => hxa h.2.1))
                have hxz : ¬ ((xv : Int) = (at' : Int)) := by omega
                clear HX HN
                gi_wp2_with fail
                exact ⟨KeepsOthers.setCell _ _ _, HX2.out _⟩
          case done =>
            rintro D xs W hD hxs ⟨hL, hb, hl⟩ hK
            have hD2 : w.heap.size + 2 ≤ D := by rw [hns] at hD; omega
            have hc17 := hb.cell
            have hc16 := hL.2.2.2.cell
            have hc15 := hL.2.2.1.cell
            have hx2 := hL.1.c2
            obtain ⟨v6, hc6, hf6⟩ := hL.1.c6
            obtain ⟨e1, e2, e3⟩ := lists_end hL.1 hD2 hK
            have HE := Lib.hid (And.intro e1 (And.intro e2 e3))
            have HBs := Lib.hid hL.1.2.2.1
            have hall : Mo lo xs.length = true → hi < At lo xs.length := betw_all hhi hxs
            obtain ⟨mo, hmo⟩ : ∃ x, x = Mo lo xs.length := ⟨_, rfl⟩
            obtain ⟨at', hat⟩ : ∃ x, x = At lo xs.length := ⟨_, rfl⟩
            rw [← hmo] at hall hc16
            rw [← hat] at hall hc15
            clear hl hbl hbh hbw hns h17a hL4 hb4 xN hx1 e1 e2 e3 hb hL hmo hat hxs hD
            cases mo
            · clear hall
              gi_wp2_with fail
              refine ⟨trivial, (callsIn_wide.2 (awake_any _ HBs.out)).mono ?_⟩
              rintro _ W9 ⟨rfl, h9⟩
              rw [h9]
              clear h9
              gi_wp2_with fail
              refine ⟨by simp, .inl ⟨_, _, rfl, run_takeDeferred HE.out.1, ?_⟩⟩
              have e0 := HE.out.2.1
              refine ⟨.bool true, ?_, rfl, HE.out.2.2⟩
              simp [results, Tryd.f4, go_sem, e0]
            · have hlt := hall rfl
              clear hall
              gi_wp2_with fail
              refine ⟨trivial, (callsIn_wide.2 (awake_any _ HBs.out)).mono ?_⟩
              rintro _ W9 ⟨rfl, h9⟩
              rw [h9]
              clear h9
              gi_wp2_with fail
              refine ⟨by simp, .inl ⟨_, _, rfl, run_takeDeferred HE.out.1, ?_⟩⟩
              have e0 := HE.out.2.1
              refine ⟨.bool true, ?_, rfl, HE.out.2.2⟩
              simp [results, Tryd.f4, go_sem, e0]
          case stop =>
            rintro D c pre W hD ⟨q, m, hpm, hm1, hm2, hm3, hm4⟩ (⟨rfl, p, x, hpx, hno⟩ | ⟨rfl, hP9, hb⟩) hK
            · exact absurd (betw_right (hpx.symm.trans hpm) hm1 hm2 hm3 hm4) hno
            · have hD2 : w.heap.size + 2 ≤ D := by rw [hns] at hD; omega
              have hc17 := hb.cell
              obtain ⟨v6, hc6, hf6⟩ := hP9.c6
              obtain ⟨e1, e2, e3⟩ := lists_end hP9 hD2 hK
              have HE := Lib.hid (And.intro e1 (And.intro e2 e3))
              have HBs := Lib.hid hP9.2.2.1
              clear hbl hbh hbw hns h17a hL4 hb4 xN hx1 e1 e2 e3 hb hP9 hD hpm hm4 hm3
              gi_wp2_with fail
              refine ⟨trivial, (callsIn_wide.2 (awake_any _ HBs.out)).mono ?_⟩
              rintro _ W9 ⟨rfl, h9⟩
              rw [h9]
              clear h9
              gi_wp2_with fail
              refine ⟨by simp, .inl ⟨_, _, rfl, run_takeDeferred HE.out.1, ?_⟩⟩
              have e0 := HE.out.2.1
              refine ⟨.bool true, ?_, rfl, HE.out.2.2⟩
              simp [results, Tryd.f4, go_sem, e0]
theorem primeLists_walk (a : Nat) (ha : a < 4294967296) (k : Int) (hk : -9223372036854775808 ≤ k ∧ k ≤ 9223372036854775807) (dn : Bool) (lo : Nat) (hlo : lo < 4294967296) (hi : Nat) (hhi : hi < 4294967296) (w : World) (hw : Bases w) :
    Calls Tryd.prog 4 #[.int .u32 (a : Int), .int .i64 k, .agg #[.bool dn, .int .u32 (lo : Int), .int .u32 (hi : Int)]] w fun r w' => r = .returned (.bool true) ∧ Below w.heap.size w w' :=
  callsIn_wide.1 (lists_walk a lo hi k dn ha hlo hhi hk w hw)
end Go.Proofs.YtnjhppdcpjgfmaaDoor
