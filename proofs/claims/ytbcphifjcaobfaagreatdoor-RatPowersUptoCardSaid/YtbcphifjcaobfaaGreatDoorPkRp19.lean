/- The contract of commonDivisor. The contract of nat.Gcd. The contract of nat.Gcd on numbers that are held. The contract of the reference's Len. -/
import Derived.Test.YtbcphifjcaobfaaGreatDoorPkRp18
import Derived.Test.YtbcphifjcaobfaaGreatDoorPkRp10
import Derived.Test.YtbcphifjcaobfaaGreatDoorPkRp13
import Derived.Test.YtbcphifjcaobfaaGreatDoorPkRp6
import Derived.Test.YtbcphifjcaobfaaGreatDoorPkRp5
namespace Go.Proofs.YtbcphifjcaobfaaGreatDoor
section
open Go.RowKit
def Own (w : World) (B : Nat) (A : Option Addr) (c : Nat) (xs : List Nat) : Prop :=
 xs.length ≤ c ∧ (xs ≠ [] → ∃ g ra, A = some ⟨g, 0, none⟩ ∧ B ≤ g ∧ Blk w g 116 (u64s (xs ++ ra)) ∧ xs.length + ra.length = c ∧ Dig 18446744073709551616 ra)
theorem Own.rd {w : World} {B c : Nat} {A : Option Addr} {xs : List Nat} (h : Own w B A c xs) : Rd w w.heap.size A (u64s xs) := fun hn => by
 obtain ⟨g, ra, rfl, _, hb, _, _⟩ := h.2 (by intro e; rw [e] at hn; exact hn rfl)
 exact Rd.of_blk hb hb.lt 0 (fun k v hv => by
  rw [Nat.zero_add, show u64s (xs ++ ra) = u64s xs ++ u64s ra from by simp [u64s], List.getElem?_append_left (List.getElem?_eq_some_iff.1 hv).1]; exact hv) hn
theorem Own.below {w w' : World} {B c B2 : Nat} {A : Option Addr} {xs : List Nat} (h : Own w B A c xs) (hb : Below B2 w w') (hB : w.heap.size ≤ B2) : Own w' B A c xs :=
 ⟨h.1, fun hn => by
  obtain ⟨g, ra, e, h1, h2, h3, h4⟩ := h.2 hn
  exact ⟨g, ra, e, h1, h2.below hb (Nat.lt_of_lt_of_le h2.lt hB), h3, h4⟩⟩
theorem Own.trim {w : World} {B g : Nat} {zs ra : List Nat} (hB : B ≤ g) (hb : Blk w g 116 (u64s (zs ++ ra))) (hd : Dig 18446744073709551616 zs) (hd2 : Dig 18446744073709551616 ra) : Own w B (some ⟨g, 0, none⟩) (zs.length + ra.length) (trimL zs) := by
 have h1 := trimL_length_le zs
 have e : zs ++ ra = trimL zs ++ (zs.drop (trimL zs).length ++ ra) := by
  rw [← List.append_assoc]
  congr 1
  have := List.take_append_drop (trimL zs).length zs
  rw [trimL_take] at this
  exact this.symm
 exact ⟨by omega, fun _ => ⟨g, zs.drop (trimL zs).length ++ ra, rfl, hB, by rw [← e]; exact hb, by rw [List.length_append, List.length_drop]; omega, (hd.drop_ _).append_ hd2⟩⟩
structure Pair (w : World) (B NN G : Nat) (A : Option Addr) (c : Nat) (A2 : Option Addr) (c2 : Nat) (xs ys : List Nat) (x y : Nat) : Prop where
 nx : Num 18446744073709551616 xs x
 ny : Num 18446744073709551616 ys y
 le : y ≤ x
 gcd : Nat.gcd x y = G
 oa : Own w B A c xs
 ob : Own w B A2 c2 ys
 ne : xs ≠ [] → ys ≠ [] → A ≠ A2
 lim : x < 18446744073709551616 ^ NN
theorem Pair.lens {w : World} {B NN G c c2 x y : Nat} {A A2 : Option Addr} {xs ys : List Nat} (h : Pair w B NN G A c A2 c2 xs ys x y) : xs.length ≤ NN ∧ ys.length ≤ xs.length :=
 ⟨num_len h.nx h.lim, num_len h.ny (Nat.lt_of_le_of_lt h.le h.nx.lt)⟩
theorem div_step {x y q r : Nat} (h : x = q * y + r) (hr : r < y) (hle : y ≤ x) : r = x % y ∧ Nat.gcd y r = Nat.gcd x y ∧ r ≤ y ∧ y + r < x + y := by
 have e : r = x % y := by rw [h, Nat.mul_comm, Nat.mul_add_mod, Nat.mod_eq_of_lt hr]
 refine ⟨e, ?_, by omega, by omega⟩
 rw [e, Nat.gcd_comm x y, Nat.gcd_rec y x, Nat.gcd_comm]
theorem rd_app {w : World} {g : Nat} {p ra : List Nat} (h : Blk w g 116 (u64s (p ++ ra))) : Rd w w.heap.size (some ⟨g, 0, none⟩) (u64s p) := Rd.of_blk h h.lt 0 (fun k v hv => by
 rw [Nat.zero_add, show u64s (p ++ ra) = u64s p ++ u64s ra from by simp [u64s], List.getElem?_append_left (List.getElem?_eq_some_iff.1 hv).1]; exact hv)
theorem own_trim {w : World} {B g c N : Nat} {zs ra : List Nat} (hB : B ≤ g) (hb : Blk w g 116 (u64s (zs ++ ra))) (hd : Dig 18446744073709551616 zs) (hd2 : Dig 18446744073709551616 ra) (hl : zs.length = N) (hc : N + ra.length = c) : Own w B (some ⟨g, 0, none⟩) c (trimL zs) := by
 have := Own.trim hB hb hd hd2
 rwa [hl, hc] at this
def GcdOut (w w' : World) (B G : Nat) (e : Ending) : Prop :=
 ∃ zs A' c', e = .returned (.slice A' zs.length c') ∧ Num 18446744073709551616 zs G ∧ Rd w' w'.heap.size A' (u64s zs) ∧ zs.length ≤ c' ∧ Below B w w'
set_option maxRecDepth 100000 in
set_option maxHeartbeats 6400000 in
theorem commonDivisor_any (A A2 : Option Addr) (c c2 : Nat) (xs ys : List Nat) (X Y NN B : Nat) (w : World) (oa : Own w B A c xs) (ob : Own w B A2 c2 ys) (hne : xs ≠ [] → ys ≠ [] → A ≠ A2) (nx : Num 18446744073709551616 xs X) (ny : Num 18446744073709551616 ys Y) (hT : Tab64 w) (hTB : 1 < B) (hB : B ≤ w.heap.size) (hl : xs.length ≤ NN) (hl2 : ys.length ≤ NN) (hNN : NN ≤ 134217728) :
  Calls Tryz.prog 156 #[.slice A xs.length c, .slice A2 ys.length c2] w fun e w' => GcdOut w w' B (Nat.gcd X Y) e := by
 have HC := hi9 (cmpW_any A A2 c c2 xs ys X Y w w.heap.size oa.rd ob.rd nx ny oa.1 ob.1 (by omega) (by omega))
 obtain ⟨G, hG⟩ : ∃ G, G = Nat.gcd X Y := ⟨_, rfl⟩
 rw [← hG]
 have HG := hi9 hG
 clear hG
 have hlX : X < 18446744073709551616 ^ NN := Nat.lt_of_lt_of_le nx.lt (Nat.pow_le_pow_right (by omega) hl)
 have hlY : Y < 18446744073709551616 ^ NN := Nat.lt_of_lt_of_le ny.lt (Nat.pow_le_pow_right (by omega) hl2)
 rcases Nat.lt_or_ge X Y with hXY | hXY
 case' inl =>
  have t0 : decide (cmpN X Y < 0) = true := by unfold cmpN; rw [if_pos hXY]; rfl
  have HP : ∀ W, Below w.heap.size w W → Pair W B NN G A2 c2 A c ys xs Y X := fun W hW => ⟨ny, nx, Nat.le_of_lt hXY, by rw [HG.out, Nat.gcd_comm], ob.below hW nl9, oa.below hW nl9, fun h1 h2 h3 => hne h2 h1 h3.symm, hlY⟩
 case' inr =>
  have t0 : decide (cmpN X Y < 0) = false := by
   unfold cmpN
   rw [if_neg (by omega)]
   split <;> rfl
  have HP : ∀ W, Below w.heap.size w W → Pair W B NN G A c A2 c2 xs ys X Y := fun W hW => ⟨nx, ny, hXY, HG.out.symm, oa.below hW nl9, ob.below hW nl9, hne, hlX⟩
 all_goals
  have HPP := hi9 HP
  clear HP hne oa ob
  go_enter Tryz.func156, Tryz.ntmps156
  go_wp2_with (first
   | (go_at_call 179; (with_reducible refine HC.out.mono ?_); rintro e w1 ⟨rfl, hdr⟩)
   | simp only [])
  have hw1 := hdr.below w.heap.size
  go_loopg [0, 1, 5, 6, 7] (X + Y) (fun K av bv _ _ _ wr => ∃ (xs ys : List Nat) (A A2 : Option Addr) (c c2 x y : Nat), av = .slice A xs.length c ∧ bv = .slice A2 ys.length c2 ∧ Hid (Pair wr B NN G A c A2 c2 xs ys x y) ∧ x + y ≤ K ∧ Below B w wr)
  case atStart => first
   | exact ⟨xs, ys, A, A2, c, c2, X, Y, rfl, rfl, HPP.out _ hw1, Nat.le_refl _, hw1.mono hB⟩
   | exact ⟨ys, xs, A2, A, c2, c, Y, X, rfl, rfl, HPP.out _ hw1, by omega, hw1.mono hB⟩
  case round =>
   clear HPP HC hw1 hdr t0
   obtain ⟨xs, ys, A, A2, c, c2, x, y, rfl, rfl, HQ, hK, hbel⟩ := hrel
   have hTr : Tab64 wr := hT.below hbel hTB
   obtain ⟨l1, l2⟩ := HQ.out.lens
   by_cases h1 : 1 < ys.length
   ·have t1 : decide (1 < ys.length) = true := decide_eq_true h1
    have hxne : xs ≠ [] := List.ne_nil_of_length_pos (by omega)
    have hyne : ys ≠ [] := List.ne_nil_of_length_pos (by omega)
    obtain ⟨ga, ra, rfl, hga, hba, hca, hda⟩ := HQ.out.oa.2 hxne
    obtain ⟨gb, rb, rfl, hgb, hbb, hcb, hdb⟩ := HQ.out.ob.2 hyne
    have hnab : ga ≠ gb := fun e => HQ.out.ne hxne hyne (by rw [e])
    have hsim := simulate_any (some ⟨ga, 0, none⟩) (some ⟨gb, 0, none⟩) c c2 xs ys x y wr wr.heap.size HQ.out.oa.rd HQ.out.ob.rd nl9 HQ.out.nx HQ.out.ny HQ.out.le (by omega) (by omega) l2 (by omega)
    have Hsim := hi9 hsim
    clear hsim
    go_upto_region 5 with (first
     | simp only []
     | (go_at_call 180; (with_reducible refine Hsim.out.mono ?_); rintro e w1 ⟨u0, v0, u1, v1, ev, rfl, hok, hb1⟩))
    have hbs : Below wr.heap.size wr (w1.alloc (.cells #[.int .u64 (u0 : Int), .int .u64 (v0 : Int), .int .u64 (u1 : Int), .int .u64 (v1 : Int), .bool ev] 165)) := hb1.alloc hb1.size _
    have hblk : Blk (w1.alloc (.cells #[.int .u64 (u0 : Int), .int .u64 (v0 : Int), .int .u64 (u1 : Int), .int .u64 (v1 : Int), .bool ev] 165)) w1.heap.size 165 [.int .u64 (u0 : Int), .int .u64 (v0 : Int), .int .u64 (u1 : Int), .int .u64 (v1 : Int), .bool ev] := Blk.new_ rfl
    obtain ⟨W, hWe⟩ : ∃ W, W = w1.alloc (.cells #[.int .u64 (u0 : Int), .int .u64 (v0 : Int), .int .u64 (u1 : Int), .int .u64 (v1 : Int), .bool ev] 165) := ⟨_, rfl⟩
    rw [← hWe] at hbs hblk ⊢
    clear hWe
    have hwv := hblk.cell 1
    simp only [List.getElem?_cons_zero, List.getElem?_cons_succ] at hwv
    have Hok := hi9 hok
    have hyp : Hid (0 < y) := by
     show 0 < y
     rcases Nat.eq_zero_or_pos y with h0 | h0
     ·exact absurd ((HQ.out.ny.nil_iff (by omega)).2 h0) hyne
     ·exact h0
    clear hok Hsim
    by_cases hv0 : v0 = 0
    ·subst hv0
     have Hq : Hid (∀ W, Below wr.heap.size wr W → Calls Tryz.prog 154 #[.slice (some ⟨ga, 0, none⟩) xs.length c, .slice (some ⟨gb, 0, none⟩) ys.length c2] W fun e w' => ∃ qs rs A1 c1 g, e = .returned (.tuple #[.slice A1 qs.length c1, .slice (some ⟨g, 0, none⟩) rs.length rs.length]) ∧ Dig 18446744073709551616 rs ∧ rs.length ≤ xs.length + 1 ∧ x = val 18446744073709551616 qs * y + val 18446744073709551616 rs ∧ val 18446744073709551616 rs < y ∧ W.heap.size ≤ g ∧ Blk w' g 116 (u64s rs) ∧ Below W.heap.size W w') := fun W hW => by
      have := quotient_big (some ⟨ga, 0, none⟩) c (some ⟨gb, 0, none⟩) c2 xs ys W W.heap.size ((HQ.out.oa.rd.below hW).mono hW.size) ((HQ.out.ob.rd.below hW).mono hW.size) nl9 HQ.out.nx.1 HQ.out.ny.1 HQ.out.nx.2.1 HQ.out.ny.2.1 h1 (by rw [HQ.out.nx.2.2, HQ.out.ny.2.2]; exact HQ.out.le) (by omega) HQ.out.oa.1 HQ.out.ob.1 (by omega)
      rw [HQ.out.nx.2.2, HQ.out.ny.2.2] at this
      refine this.mono ?_
      rintro e w' ⟨qs, rs, A1, c1, g, rfl, q1, q2, q3, q4, q5, q6, q7, q8, q9, q10, q11⟩
      exact ⟨qs, rs, A1, c1, g, rfl, q2, q4, q6, q7, q9, q10, q11⟩
     go_wp2_with (first
      | (go_at_call 154; (with_reducible refine (Hq.out _ hbs).mono ?_); rintro e w2 ⟨qs, rs, A1, c1, g, rfl, q1, q2, q3, q4, q5, q6, hb2⟩; have Q3 := hi9 q3; clear q3)
      | (go_at_call 157; (with_reducible refine (trimWords_any (some ⟨g, 0, none⟩) rs.length rs _ _ (Rd.of_blk q6 q6.lt 0 (fun k v hv => by rw [Nat.zero_add]; exact hv)) nl9 (by omega)).mono ?_); rintro e w3 ⟨rfl, rfl⟩))
     obtain ⟨s1, s2, s3, s4⟩ := div_step Q3.out q4 HQ.out.le
     have hbt := hbs.trans (hb2.mono hbs.size)
     have hgg : gb < g := by
      have h5 := hbb.lt
      have h6 := hbs.size
      omega
     go_roundg (y + val 18446744073709551616 rs)
     case measure => omega
     case rel => exact ⟨ys, trimL rs, some ⟨gb, 0, none⟩, some ⟨g, 0, none⟩, c2, rs.length, y, val 18446744073709551616 rs, rfl, rfl, ⟨HQ.out.ny, Num.of_trim q1, s3, s2.trans HQ.out.gcd, HQ.out.ob.below hbt nl9, by
      have h7 := Own.trim (B := B) (zs := rs) (ra := []) (Nat.le_trans hgb (Nat.le_of_lt hgg)) (by rw [List.append_nil]; exact q6) q1 (Dig.nil_ _)
      exact h7, fun _ _ e => by simp at e, Nat.lt_of_le_of_lt HQ.out.le HQ.out.lim⟩, Nat.le_refl _, hbel.trans (hbt.mono (Nat.le_trans hB hbel.size))⟩
    ·have t2 : ((v0 : Int) == 0) = false := by simp; omega
     have hyl : (ys ++ rb).length = c2 := by rw [List.length_append]; exact hcb
     obtain ⟨m, hm⟩ : ∃ m, ys.length + m = xs.length := ⟨xs.length - ys.length, by omega⟩
     have e1 : (xs.length : Int) - (ys.length : Int) = (m : Int) := by omega
     have hbbW := hbb.below hbs hbb.lt
     have hbaW := hba.below hbs hba.lt
     have hlga := hba.lt
     have hlgb := hbb.lt
     have hs1 := hb1.size
     have hs2 := hbs.size
     obtain ⟨g', L', w', hrun, hbk', htk, hLl, hLd, hgg, htn⟩ := run_appz64 W 132 gb ys.length c2 m (ys ++ rb) hbbW hyl (by omega) (by omega) (HQ.out.ny.1.append_ hdb)
     rw [hm] at hrun htk hLl
     rw [List.take_left] at htk
     obtain ⟨zs2, hzs2⟩ : ∃ zs2, zs2 = ys ++ List.replicate m 0 := ⟨_, rfl⟩
     rw [← hzs2] at htk
     obtain ⟨rb', hrb'⟩ : ∃ r, r = L'.drop xs.length := ⟨_, rfl⟩
     have hL' : L' = zs2 ++ rb' := by rw [← htk, hrb', List.take_append_drop]
     have hz2l : Hid (zs2.length = xs.length) := by show _ = _; rw [hzs2]; simp; exact hm
     have hz2d : Dig 18446744073709551616 zs2 := by rw [hzs2]; exact HQ.out.ny.1.append_ (Dig.zeros_ (by omega) _)
     have hz2v : val 18446744073709551616 zs2 = y := by rw [hzs2, val_append, val_zeros, Nat.mul_zero, Nat.add_zero]; exact HQ.out.ny.2.2
     have hrbd : Dig 18446744073709551616 rb' := by rw [hrb']; exact hLd.drop_ _
     obtain ⟨lc, hlc⟩ : ∃ lc, lc = L'.length := ⟨_, rfl⟩
     have hlc2 : Hid (xs.length + rb'.length = lc) := by show _ = _; rw [hlc, hL', List.length_append, hz2l.out]
     rw [← hlc] at hrun hLl
     rw [hL'] at hbk'
     have hba' := hbaW.tn htn hnab
     have hbl' := hblk.tn htn (by omega)
     have hnag : ga ≠ g' := by rcases hgg with h9 | h9 <;> omega
     have hgB : B ≤ g' := by have := hbel.size; rcases hgg with h9 | h9 <;> omega
     have hbw' : Below B w w' := (hbel.trans (hbs.mono (Nat.le_trans hB hbel.size))).trans (htn.below hgb (Nat.le_trans hB (Nat.le_trans hbel.size hbs.size)))
     have Hrun := hi9 hrun
     have hsx : x < 18446744073709551616 ^ xs.length := HQ.out.nx.lt
     have hvx := HQ.out.nx.2.2
     rcases Hok.out with h0 | ⟨k1, k2, k3, k4, k5⟩
     ·exact absurd h0 hv0
     have hnn : y ≤ x := HQ.out.le
     have hy0 := hyp.out
     cases ev
     ·simp only [Bool.false_eq_true, if_false] at k5
      obtain ⟨m1, m2, m3, m4, m5⟩ := k5
      have Hap := hi9 (apply_odd ga g' c lc xs zs2 ra rb' u0 v0 u1 v1 B w' hba' hbk' hnag hga hgB hz2l.out HQ.out.oa.1 hLl (by omega) HQ.out.nx.1 hz2d k1 k2 k3 k4 (by rw [hvx, hz2v]; exact m1) (by rw [hvx, hz2v]; omega) (by rw [hvx, hz2v]; exact m2) (by rw [hvx, hz2v]; omega))
      rw [hvx, hz2v] at Hap
      obtain ⟨P, hPe⟩ : ∃ P, P = v0 * y - u0 * x := ⟨_, rfl⟩
      obtain ⟨R, hRe⟩ : ∃ R, R = u1 * x - v1 * y := ⟨_, rfl⟩
      rw [← hPe, ← hRe] at Hap m3 m4 m5
      clear hPe hRe m1 m2 hrun hm hzs2 hrb' hL' hlc htk hbbW hbaW hyl Hok
      go_wp2_with (first
       | simp only []
       | simp only [e1]
       | (at_builtin; refine wpList_append_run rfl _ _ _ _ rfl _ _ rfl rfl _ _ Hrun.out ?_)
       | (with_reducible refine wpList_load_mid (op := ⟨some 42, _, _, _, _, _⟩) rfl 165 (.tmp 5) rfl w1.heap.size 0 rfl [.int .u64 (u0 : Int), .int .u64 (v0 : Int), .int .u64 (u1 : Int), .int .u64 (v1 : Int), .bool false] _ (blk_range hbl') Tryz.underlying165 rfl (by kernel_rfl) ?_)
       | (go_at_call 181; (with_reducible refine Hap.out.mono ?_); rintro e w2 ⟨rfl, p, q, q1, q2, q3, q4, q5, q6, q7, q8, q9⟩; have T1 := hi9 (trimWords_any (some ⟨g', 0, none⟩) lc p w2 w2.heap.size (rd_app q7) (by rw [q1]; exact hLl) (by omega)); have T2 := hi9 (trimWords_any (some ⟨ga, 0, none⟩) c q w2 w2.heap.size (rd_app q8) (by rw [q2]; exact HQ.out.oa.1) (by omega)); rw [q1] at T1; rw [q2] at T2; have Q1 := hi9 q1; have Q2 := hi9 q2; have Q5 := hi9 q5; have Q6 := hi9 q6; clear q1 q2 q5 q6)
       | (go_at_call_of 157 (Value.slice (some ⟨g', 0, none⟩) xs.length lc); (with_reducible refine T1.out.mono ?_); rintro e w3 ⟨rfl, rfl⟩)
       | (go_at_call 157; (with_reducible refine T2.out.mono ?_); rintro e w3 ⟨rfl, rfl⟩))
      have n1 := Num.of_trim q3
      have n2 := Num.of_trim q4
      rw [Q5.out] at n1
      rw [Q6.out] at n2
      go_roundg (P + R)
      case measure => omega
      case rel => exact ⟨trimL p, trimL q, some ⟨g', 0, none⟩, some ⟨ga, 0, none⟩, lc, c, P, R, rfl, rfl, ⟨n1, n2, m3, m4.trans HQ.out.gcd, own_trim hgB q7 q3 hrbd Q1.out hlc2.out, own_trim hga q8 q4 hda Q2.out hca, fun _ _ e => by simp at e, Nat.lt_of_le_of_lt (by omega) HQ.out.lim⟩, Nat.le_refl _, hbw'.trans q9⟩
     ·simp only [if_true] at k5
      obtain ⟨m1, m2, m3, m4, m5⟩ := k5
      have Hap := hi9 (apply_even ga g' c lc xs zs2 ra rb' u0 v0 u1 v1 B w' hba' hbk' hnag hga hgB hz2l.out HQ.out.oa.1 hLl (by omega) HQ.out.nx.1 hz2d k1 k2 k3 k4 (by rw [hvx, hz2v]; exact m1) (by rw [hvx, hz2v]; omega) (by rw [hvx, hz2v]; exact m2) (by rw [hvx, hz2v]; omega))
      rw [hvx, hz2v] at Hap
      obtain ⟨P, hPe⟩ : ∃ P, P = u0 * x - v0 * y := ⟨_, rfl⟩
      obtain ⟨R, hRe⟩ : ∃ R, R = v1 * y - u1 * x := ⟨_, rfl⟩
      rw [← hPe, ← hRe] at Hap m3 m4 m5
      clear hPe hRe m1 m2 hrun hm hzs2 hrb' hL' hlc htk hbbW hbaW hyl Hok
      go_wp2_with (first
       | simp only []
       | simp only [e1]
       | (at_builtin; refine wpList_append_run rfl _ _ _ _ rfl _ _ rfl rfl _ _ Hrun.out ?_)
       | (with_reducible refine wpList_load_mid (op := ⟨some 42, _, _, _, _, _⟩) rfl 165 (.tmp 5) rfl w1.heap.size 0 rfl [.int .u64 (u0 : Int), .int .u64 (v0 : Int), .int .u64 (u1 : Int), .int .u64 (v1 : Int), .bool true] _ (blk_range hbl') Tryz.underlying165 rfl (by kernel_rfl) ?_)
       | (go_at_call 181; (with_reducible refine Hap.out.mono ?_); rintro e w2 ⟨rfl, p, q, q1, q2, q3, q4, q5, q6, q7, q8, q9⟩; have T1 := hi9 (trimWords_any (some ⟨ga, 0, none⟩) c p w2 w2.heap.size (rd_app q7) (by rw [q1]; exact HQ.out.oa.1) (by omega)); have T2 := hi9 (trimWords_any (some ⟨g', 0, none⟩) lc q w2 w2.heap.size (rd_app q8) (by rw [q2]; exact hLl) (by omega)); rw [q1] at T1; rw [q2] at T2; have Q1 := hi9 q1; have Q2 := hi9 q2; have Q5 := hi9 q5; have Q6 := hi9 q6; clear q1 q2 q5 q6)
       | (go_at_call_of 157 (Value.slice (some ⟨ga, 0, none⟩) xs.length c); (with_reducible refine T1.out.mono ?_); rintro e w3 ⟨rfl, rfl⟩)
       | (go_at_call 157; (with_reducible refine T2.out.mono ?_); rintro e w3 ⟨rfl, rfl⟩))
      have n1 := Num.of_trim q3
      have n2 := Num.of_trim q4
      rw [Q5.out] at n1
      rw [Q6.out] at n2
      go_roundg (P + R)
      case measure => omega
      case rel => exact ⟨trimL p, trimL q, some ⟨ga, 0, none⟩, some ⟨g', 0, none⟩, c, lc, P, R, rfl, rfl, ⟨n1, n2, m3, m4.trans HQ.out.gcd, own_trim hga q7 q3 hda Q1.out hca, own_trim hgB q8 q4 hrbd Q2.out hlc2.out, fun _ _ e => by simp at e, Nat.lt_of_le_of_lt (by omega) HQ.out.lim⟩, Nat.le_refl _, hbw'.trans q9⟩
   ·have t1 : decide (1 < ys.length) = false := decide_eq_false h1
    by_cases h0 : ys.length = 0
    ·obtain rfl : ys = [] := List.eq_nil_of_length_eq_zero h0
     have hy0 : y = 0 := (HQ.out.ny.nil_iff (by omega)).1 rfl
     have hxG : x = G := by
      have h9 := HQ.out.gcd
      rwa [hy0, Nat.gcd_zero_right] at h9
     have HxG := hi9 hxG
     clear h0 hy0 hxG h1 t1
     rw [List.length_nil]
     go_wp2_with fail
     go_ret
     exact ⟨xs, A, c, rfl, by rw [← HxG.out]; exact HQ.out.nx, HQ.out.oa.rd, HQ.out.oa.1, hbel⟩
    ·have hy1 : ys.length = 1 := by omega
     obtain ⟨b, rfl⟩ := len_one (xs := ys) hy1
     have hyb : b = y := by
      have := HQ.out.ny.2.2
      simpa [val] using this
     subst hyb
     have hb64 : b < 18446744073709551616 := HQ.out.ny.1.head_
     have hb0 : 0 < b := by
      rcases Nat.eq_zero_or_pos b with h9 | h9
      ·subst h9
       have := HQ.out.ny.2.1
       simp [trimL] at this
      ·exact h9
     obtain ⟨b2, off2, rfl, hb2, cb⟩ := HQ.out.ob.rd.at64 (show 0 < [b].length by simp)
     have hsq := shortQuotient_any A c xs b wr wr.heap.size HQ.out.oa.rd nl9 HQ.out.nx.1 hb0 hb64 (by omega)
     have Hsq := hi9 hsq
     have t2 : ((1 : Int) == 0) = false := by decide
     have hl1 : [b].length = 1 := rfl
     rw [hl1]
     simp only [List.getElem_cons_zero] at cb
     clear hsq h0 h1 t1 hy1 l2
     have cb2 : ∀ W, Below wr.heap.size wr W → W.cell? ⟨b2, off2, none⟩ = some (.int .u64 (b : Int)) := fun W hW => (hW.cell (p := ⟨b2, off2, none⟩) hb2).trans cb
     have hcb : wr.cell? ⟨b2, off2, none⟩ = some (.int .u64 (b : Int)) := cb
     have HW : Hid (∀ (r : Nat) (W : World), r < b → Tab64 W → Calls Tryz.prog 155 #[.int .u64 (b : Int), .int .u64 (r : Int)] W fun e w' => e = .returned (.int .u64 (Nat.gcd b r : Nat)) ∧ W = w') := fun r W hr hW => wordGcd_any b r hb64 (by omega) W hW
     go_upto_region 14 with (go_at_call 172; (with_reducible refine Hsq.out.mono ?_); rintro e w2 ⟨qs, r, A1, c1, A3, c3, rfl, q1, q2, q3, q4, q5, q6, hb3⟩; have Q4 := hi9 q4; have Q2 := hi9 q2; clear q4 q2)
     have cb3 := cb2 w2 hb3
     obtain ⟨b4, off4, rfl, hb4, cr⟩ := q6.rd.at64 (show 0 < [r].length by simp)
     simp only [List.getElem_cons_zero] at cr
     have hcr : w2.cell? ⟨b4, off4, none⟩ = some (.int .u64 (r : Int)) := cr
     have hbw2 : Below B w w2 := hbel.trans (hb3.mono (Nat.le_trans hB hbel.size))
     have hT2 : Tab64 w2 := hT.below hbw2 hTB
     clear cb2 cb hcb cr
     go_region_held3 (fun W => W.cell? ⟨b2, off2, none⟩ = some (.int .u64 (b : Int)) ∧ W.cell? ⟨b4, off4, none⟩ = some (.int .u64 (r : Int))) (first | exact ⟨cb3, hcr⟩ | go_keep) ((go_at_call 155; (with_reducible refine (HW.out r _ q3 (by first | exact hT2 | exact hT2.dr ((Dr.refl _).step _))).mono ?_); rintro e w9 ⟨rfl, rfl⟩))
     all_goals
      go_wp2
      go_ret
      have hdv : x = val 18446744073709551616 qs * b + r := by
       have := Q4.out
       rwa [HQ.out.nx.2.2] at this
      obtain ⟨s1, s2, s3, s4⟩ := div_step hdv q3 HQ.out.le
      have hgG : Nat.gcd b r = G := s2.trans HQ.out.gcd
      have hgp : 0 < Nat.gcd b r := Nat.gcd_pos_of_pos_left _ hb0
      have hgl : Nat.gcd b r < 18446744073709551616 := Nat.lt_of_le_of_lt (Nat.gcd_le_left _ hb0) hb64
      have hn : Num 18446744073709551616 [Nat.gcd b r] G := ⟨Dig.cons_ hgl (Dig.nil_ _), by
       have h9 : trimL [Nat.gcd b r] = [Nat.gcd b r] := by
        have : Nat.gcd b r ≠ 0 := by omega
        simp [trimL, this]
       exact h9, by rw [← hgG]; simp [val]⟩
      have hk : Blk ((w2.alloc (.cells #[.int .u64 ((Nat.gcd b r : Nat) : Int)] 116)).drew) w2.heap.size 116 (u64s [Nat.gcd b r]) := (Blk.new_ rfl).drew
      exact ⟨[Nat.gcd b r], _, 1, rfl, hn, Rd.of_blk hk hk.lt 0 (fun k v hv => by rw [Nat.zero_add]; exact hv), Nat.le_refl _, (hbw2.alloc (Nat.le_trans hB hbw2.size) _).drew⟩
end
section
open Go.RowKit
def GcdRes (w w' : World) (G : Nat) (e : Ending) : Prop :=
 ∃ zs A' c', e = .returned (.slice A' zs.length c') ∧ Num 4294967296 zs G ∧ Res w' w.heap.size 50 A' c' (u32s zs) ∧ Below w.heap.size w w'
theorem Words.own {w' : World} {g : Nat} {zs : List Nat} {B : Nat} (hB : B ≤ g) (hb : Blk w' g 116 (u64s zs)) : Own w' B (some ⟨g, 0, none⟩) zs.length zs :=
 ⟨Nat.le_refl _, fun _ => ⟨g, [], rfl, hB, by rw [List.append_nil]; exact hb, by simp, Dig.nil_ _⟩⟩
set_option maxHeartbeats 1600000 in
theorem gcd_any (A A2 : Option Addr) (c c2 : Nat) (xs ys : List Nat) (w : World) (B : Nat) (hr : Rd w B A (u32s xs)) (hr2 : Rd w B A2 (u32s ys)) (hB : B ≤ w.heap.size) (hd : Dig 4294967296 xs) (hd2 : Dig 4294967296 ys) (hc : xs.length ≤ c) (hc2 : ys.length ≤ c2) (hm : xs.length ≤ 268435454) (hm2 : ys.length ≤ 268435454) (hT : Tab64 w) (hTB : 1 < w.heap.size) :
  Calls Tryz.prog 126 #[.slice A xs.length c, .slice A2 ys.length c2] w fun e w' => GcdRes w w' (Nat.gcd (val 4294967296 xs) (val 4294967296 ys)) e := by
 obtain ⟨m, hmv⟩ : ∃ m, m = val 4294967296 xs := ⟨_, rfl⟩
 obtain ⟨n, hnv⟩ : ∃ n, n = val 4294967296 ys := ⟨_, rfl⟩
 have hn1 : Num 4294967296 (trimL xs) m := by rw [hmv]; exact Num.of_trim hd
 have hn2 : Num 4294967296 (trimL ys) n := by rw [hnv]; exact Num.of_trim hd2
 have hl1 := trimL_length_le xs
 have hl2 := trimL_length_le ys
 rw [← hmv, ← hnv]
 have hrt : Rd w B A (u32s (trimL xs)) := by rw [u32s_trim]; exact hr.take _
 have hrt2 : Rd w B A2 (u32s (trimL ys)) := by rw [u32s_trim]; exact hr2.take _
 obtain ⟨ps, hps⟩ : ∃ ps, ps = trimL xs := ⟨_, rfl⟩
 obtain ⟨qs, hqs⟩ : ∃ qs, qs = trimL ys := ⟨_, rfl⟩
 rw [← hps] at hn1 hrt hl1
 rw [← hqs] at hn2 hrt2 hl2
 have Hps := hi9 hps
 have Hqs := hi9 hqs
 have hmm : xs.length ≤ 281474976710656 := by omega
 have hmm2 : ys.length ≤ 281474976710656 := by omega
 have Hvp : Hid (val 4294967296 ps = m) := hn1.2.2
 have Hvq : Hid (val 4294967296 qs = n) := hn2.2.2
 clear hps hqs hmv hnv
 by_cases hs : ps.length ≤ 2 ∧ qs.length ≤ 2
 ·obtain ⟨s1, s2⟩ := hs
  have hm64 : m < 18446744073709551616 := by
   have h1 := hn1.lt
   have h2 : 4294967296 ^ ps.length ≤ 4294967296 ^ 2 := Nat.pow_le_pow_right (by omega) s1
   omega
  have hn64 : n < 18446744073709551616 := by
   have h1 := hn2.lt
   have h2 : 4294967296 ^ qs.length ≤ 4294967296 ^ 2 := Nat.pow_le_pow_right (by omega) s2
   omega
  have hgl : Nat.gcd m n < 18446744073709551616 := by
   rcases Nat.eq_zero_or_pos m with h0 | h0
   ·rw [h0, Nat.gcd_zero_left]; exact hn64
   ·exact Nat.lt_of_le_of_lt (Nat.gcd_le_left _ h0) hm64
  obtain ⟨G, hG⟩ : ∃ G, G = Nat.gcd m n := ⟨_, rfl⟩
  have HW := hi9 (fun W (h : Tab64 W) => wordGcd_any m n hm64 hn64 W h)
  rw [← hG] at HW hgl ⊢
  have HO := hi9 (fun W => of_any G hgl W)
  have W1 := hi9 (fun W (h : Dr w W) => word_any A c ps W B (hrt.dr h) hn1.1 s1)
  have W2 := hi9 (fun W (h : Dr w W) => word_any A2 c2 qs W B (hrt2.dr h) hn2.1 s2)
  rw [Hvp.out] at W1
  rw [Hvq.out] at W2
  clear hG
  go_enter Tryz.func126, Tryz.ntmps126
  go_wp2_with (first
   | (go_at_call 128; (with_reducible refine (trim_any A c xs _ B hr hc hmm).mono ?_); rintro e w' ⟨rfl, rfl⟩; rw [← Hps.out])
   | (go_at_call 128; (with_reducible refine (trim_any A2 c2 ys _ B hr2 hc2 hmm2).mono ?_); rintro e w' ⟨rfl, rfl⟩; rw [← Hqs.out])
   | (go_at_call 132; (with_reducible refine (W1.out _ (Dr.refl _)).mono ?_); rintro e w1 ⟨rfl, hd1⟩)
   | (go_at_call 132; (with_reducible refine (W2.out _ hd1).mono ?_); rintro e w2 ⟨rfl, hd2'⟩; have hdd := hd1.trans hd2')
   | (go_at_call 155; (with_reducible refine (HW.out _ (hT.dr hdd)).mono ?_); rintro e w3 ⟨rfl, rfl⟩)
   | (go_at_call 111; (with_reducible refine (HO.out _).mono ?_); rintro e w4 ⟨zs, A1, c1, rfl, hz, hres, hb⟩))
  go_ret
  have hb0 := hdd.below w.heap.size
  exact ⟨zs, A1, c1, rfl, hz, hres.mono hb0.size, hb0.trans (hb.mono hb0.size)⟩
 ·obtain ⟨NN, hNN⟩ : ∃ NN, NN = max ((ps.length + 1) / 2) ((qs.length + 1) / 2) := ⟨_, rfl⟩
  have hN1 : (ps.length + 1) / 2 ≤ NN := by omega
  have hN2 : (qs.length + 1) / 2 ≤ NN := by omega
  have hN3 : NN ≤ 134217728 := by omega
  clear hNN
  have Wd1 := hi9 (wide_words A c ps w B hrt hB hn1.1 (by omega) (by omega))
  have Wd2 : Hid (∀ W, Below w.heap.size w W → Calls Tryz.prog 136 #[.slice A2 qs.length c2] W fun e w' => Words W w' ((qs.length + 1) / 2) n e) := fun W hW => by
   have := wide_words A2 c2 qs W B (hrt2.below (hW.mono hB)) (Nat.le_trans hB hW.size) hn2.1 (by omega) (by omega)
   rwa [Hvq.out] at this
  rw [Hvp.out] at Wd1
  have hne1 : ∀ us : List Nat, Dig 18446744073709551616 us → us.length = (ps.length + 1) / 2 → val 18446744073709551616 us = m → trimL us = us := fun us hu hl hv => by
   by_cases h0 : ps = []
   ·have : us = [] := List.eq_nil_of_length_eq_zero (by rw [hl, h0]; rfl)
    rw [this]; rfl
   ·exact wide_norm hn1 h0 hl hu (by rw [hv]; exact hn1.2.2.symm)
  have hne2 : ∀ us : List Nat, Dig 18446744073709551616 us → us.length = (qs.length + 1) / 2 → val 18446744073709551616 us = n → trimL us = us := fun us hu hl hv => by
   by_cases h0 : qs = []
   ·have : us = [] := List.eq_nil_of_length_eq_zero (by rw [hl, h0]; rfl)
    rw [this]; rfl
   ·exact wide_norm hn2 h0 hl hu (by rw [hv]; exact hn2.2.2.symm)
  have Hne1 := hi9 hne1
  have Hne2 := hi9 hne2
  clear hne1 hne2
  by_cases h1 : ps.length ≤ 2
  case' pos =>
   have t1 : decide (ps.length ≤ 2) = true := decide_eq_true h1
   have t2 : decide ((qs.length : Int) ≤ 2) = false := decide_eq_false (fun h => hs ⟨h1, by omega⟩)
  case' neg =>
   have t1 : decide (ps.length ≤ 2) = false := decide_eq_false h1
   have t2 : True := trivial
  all_goals
   clear hs
   go_enter Tryz.func126, Tryz.ntmps126
   go_wp2_with (first
    | (go_at_call 128; (with_reducible refine (trim_any A c xs _ B hr hc hmm).mono ?_); rintro e w' ⟨rfl, rfl⟩; rw [← Hps.out])
    | (go_at_call 128; (with_reducible refine (trim_any A2 c2 ys _ B hr2 hc2 hmm2).mono ?_); rintro e w' ⟨rfl, rfl⟩; rw [← Hqs.out])
    | simp only []
    | simp only [t2]
    | (go_at_call 136; (with_reducible refine Wd1.out.mono ?_); rintro e w1 ⟨us, ga, rfl, hul, hud, huv, hga, hbka, hb1⟩; have Hul := hi9 hul; have Huv := hi9 huv; clear hul huv)
    | (go_at_call 136; (with_reducible refine (Wd2.out _ hb1).mono ?_); rintro e w2 ⟨vs, gb, rfl, hvl, hvd, hvv, hgb, hbkb, hb2⟩; have Hvl := hi9 hvl; have Hvv := hi9 hvv; clear hvl hvv))
   have hbt : Below w.heap.size w w2 := hb1.trans (hb2.mono hb1.size)
   have hlga := hbka.lt
   have hcd := commonDivisor_any (some ⟨ga, 0, none⟩) (some ⟨gb, 0, none⟩) us.length vs.length us vs m n NN w.heap.size w2 (Words.own hga (hbka.below hb2 hlga)) (Words.own (Nat.le_trans hb1.size hgb) hbkb) (fun _ _ e => by simp at e) ⟨hud, Hne1.out us hud Hul.out Huv.out, Huv.out⟩ ⟨hvd, Hne2.out vs hvd Hvl.out Hvv.out, Hvv.out⟩ (hT.below hbt hTB) hTB hbt.size (by rw [Hul.out]; exact hN1) (by rw [Hvl.out]; exact hN2) hN3
   have Hcd := hi9 hcd
   clear hcd
   go_wp2_with (first
    | (go_at_call 156; (with_reducible refine Hcd.out.mono ?_); rintro e w3 ⟨zs, A3, c3, rfl, hz, hrz, hcz, hb3⟩))
   have hzl : zs.length ≤ 35184372088832 := by
    have h9 : Nat.gcd m n < 18446744073709551616 ^ (NN + 1) := by
     have a1 := hn1.lt
     have a2 := hn2.lt
     have a3 : (18446744073709551616 : Nat) = 4294967296 ^ 2 := rfl
     have a4 : 4294967296 ^ ps.length ≤ 18446744073709551616 ^ (NN + 1) := by rw [a3, ← Nat.pow_mul]; exact Nat.pow_le_pow_right (by omega) (by omega)
     have a5 : 4294967296 ^ qs.length ≤ 18446744073709551616 ^ (NN + 1) := by rw [a3, ← Nat.pow_mul]; exact Nat.pow_le_pow_right (by omega) (by omega)
     rcases Nat.eq_zero_or_pos m with h0 | h0
     ·rw [h0, Nat.gcd_zero_left]; omega
     ·exact Nat.lt_of_le_of_lt (Nat.gcd_le_left _ h0) (by omega)
    have := num_len hz h9
    omega
   refine (narrow_any A3 c3 zs w3 w3.heap.size hrz nl9 hz.1 hcz hzl).mono ?_
   rintro e w4 ⟨z4, A4, c4, rfl, hz4, hres4, hb4⟩
   go_wp2_with fail
   go_ret
   rw [hz.2.2] at hz4
   exact ⟨z4, A4, c4, rfl, hz4, hres4.mono (Nat.le_trans hbt.size (by
    have := hb3.size
    omega)), hbt.trans (hb3.trans (hb4.mono (Nat.le_trans hbt.size hb3.size)))⟩
end
section
open Go.RowKit
section
variable {w : World} {A A2 : Option Addr} {c c2 n k K J : Nat} {xs ys : List Nat}
theorem Hv.gcd (h : Hv w A c xs n K) (h2 : Hv w A2 c2 ys k J) (hK : K ≤ 67108864) (hJ : J ≤ 67108864) (hT : Tab64 w) (hTB : 1 < w.heap.size) :
  Calls Tryz.prog 126 #[.slice A xs.length c, .slice A2 ys.length c2] w fun e w' => HvOut w w' (Nat.gcd n k) (max K J) e := by
 have hl1 := h.len
 have hl2 := h2.len
 have h9 := gcd_any A A2 c c2 xs ys w w.heap.size h.rd h2.rd nl9 h.dig h2.dig h.cap h2.cap (by omega) (by omega) hT hTB
 rw [h.val_, h2.val_] at h9
 refine h9.mono ?_
 rintro e w' ⟨zs, A', c', rfl, hz, hr, hb⟩
 refine ⟨zs, A', c', rfl, Hv.of hz hr ?_, hb⟩
 have p1 : 4294967296 ^ K ≤ 4294967296 ^ max K J := Nat.pow_le_pow_right (by omega) (by omega)
 have p2 : 4294967296 ^ J ≤ 4294967296 ^ max K J := Nat.pow_le_pow_right (by omega) (by omega)
 have q1 := h.lt
 have q2 := h2.lt
 rcases Nat.eq_zero_or_pos n with h0 | h0
 ·rw [h0, Nat.gcd_zero_left]; omega
 ·exact Nat.lt_of_le_of_lt (Nat.gcd_le_left _ h0) (by omega)
end
end
section
open Go.RowKit
theorem bitsOf_half (x : Nat) (h : 0 < x) : bitsOf x = bitsOf (x / 2) + 1 := by
 unfold bitsOf
 rw [if_neg (by omega)]
 by_cases h1 : x / 2 = 0
 ·rw [if_pos h1]
  have : x = 1 := by omega
  subst this
  decide
 ·rw [if_neg h1]
  have e : Nat.log2 x = Nat.log2 (x / 2) + 1 := by
   have a1 : Nat.log2 (x / 2) + 1 ≤ Nat.log2 x := by
    refine (Nat.le_log2 (by omega)).2 ?_
    have := (Nat.le_log2 h1).1 nl9
    rw [Nat.pow_succ]; omega
   have a2 : Nat.log2 x < Nat.log2 (x / 2) + 1 + 1 := by
    refine (Nat.log2_lt (by omega)).2 ?_
    have := (Nat.log2_lt h1).1 (Nat.lt_succ_self _)
    rw [Nat.pow_succ]; omega
   omega
  omega
set_option maxHeartbeats 400000 in
theorem rlen_any (A : Option Addr) (c : Nat) (xs : List Nat) (w : World) (B : Nat) (hr : Rd w B A (u32s xs)) (hB : B ≤ w.heap.size) (hd : Dig 4294967296 xs) (hm : xs.length ≤ 70368744177664) :
  Calls Tryz.prog 41 #[.slice A xs.length c] w fun e w' => e = .returned (.int .i64 (bitsOf (val 4294967296 xs) : Nat)) ∧ Below w.heap.size w w' := by
 have hn := Num.of_trim hd
 have hl := trimL_length_le xs
 go_enter Tryz.func41, Tryz.ntmps41
 go_wp2_with fail
 refine (rnorm_any A c xs _ B hr hB hm).mono ?_
 rintro e w1 ⟨A1, c1, rfl, hres, hb⟩
 obtain ⟨ps, hps⟩ : ∃ ps, ps = trimL xs := ⟨_, rfl⟩
 rw [← hps] at hn hl hres ⊢
 have hrd := hres.rd
 by_cases h0 : ps = []
 ·have hl0 : (ps.length : Int) = 0 := by rw [h0]; rfl
  have hv : bitsOf (val 4294967296 xs) = 0 := by rw [← hn.2.2, h0]; rfl
  have Hv := hi9 hv
  clear hv h0 hn hres hrd hps
  go_wp2
  go_ret
  exact ⟨by rw [Hv.out]; rfl, hb⟩
 ·have hne : ps.length ≠ 0 := fun e => h0 (List.eq_nil_of_length_eq_zero e)
  have hv := bitsOf_val hn h0 (by omega)
  obtain ⟨b, off, rfl, hbB, hcell⟩ := hrd (by intro e; have := u32s_length ps; rw [e] at this; simp at this; omega)
  obtain ⟨k, hk⟩ : ∃ k, ps.length = k + 1 := ⟨ps.length - 1, by omega⟩
  have hcl := hcell k _ (u32s_at (by omega))
  have hx := hn.1.at_ k (by omega)
  have hv2 : bitsOf (val 4294967296 xs) = 32 * k + bitsOf (ps[k]) := by rw [hv]; simp [hk]
  obtain ⟨x, hxe⟩ : ∃ x, x = ps[k] := ⟨_, rfl⟩
  rw [← hxe] at hcl hx hv2
  have hkb : k < 70368744177664 := by omega
  have Hv2 := hi9 hv2
  have t0 : (((k : Int) + 1) == 0) = false := by simp; omega
  rw [hk]
  clear hv hv2 hn hcell hxe h0 hne hk hres hrd hps
  go_wp2
  go_loop [3, 4] (fun nv xv => ∃ (i y : Nat), nv = .int .i64 (32 * (k : Int) + (i : Int)) ∧ xv = .int .u32 (y : Int) ∧ y ≤ x ∧ i + bitsOf y = bitsOf x ∧ i ≤ 32) (fun _ xv => (intOf xv).toNat)
  case atStart => exact ⟨0, x, by go_num, rfl, Nat.le_refl _, by omega, by omega⟩
  case round =>
   obtain ⟨i, y, rfl, rfl, hyx, hiy, hi⟩ := hrel
   have hx32 : bitsOf x ≤ 32 := by rw [← bitLen_val _ (by omega)]; exact Lib.bitLen_le _ 32 (by omega) hx
   rcases Nat.eq_zero_or_pos y with h0 | h0
   ·subst h0
    have hie : i = bitsOf x := by simpa [bitsOf] using hiy
    have Hie := hi9 hie
    clear hiy hie hx32
    go_wp2
    go_ret
    refine ⟨?_, hb⟩
    rw [Hv2.out, ← Hie.out]
    simp
   ·have hh := bitsOf_half y h0
    have hiy2 : i + 1 + bitsOf (y / 2) = bitsOf x := by omega
    have hi2 : i + 1 ≤ 32 := by omega
    have Hiy2 := hi9 hiy2
    clear hiy hh hiy2
    go_wp2
    go_round
    case rel => exact ⟨i + 1, y / 2, by go_num, by go_num, by omega, Hiy2.out, hi2⟩
    case measure => simp [intOf]; omega
end
end Go.Proofs.YtbcphifjcaobfaaGreatDoor
