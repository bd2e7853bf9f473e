/- The reference's Next and Last, and the walk of PrimeIs: true. The reference's Choose. The walk of BoundChooses: true. bound.Enough. The walk of BoundChosen: true. -/
import Derived.Test.YtcjgilagldbjnaaGreatDoorPkBb40
import Derived.Test.YtcjgilagldbjnaaGreatDoorPkBb43
import Derived.Test.YtcjgilagldbjnaaGreatDoorPkBb42
import Derived.Test.YtcjgilagldbjnaaGreatDoorPkBb28
import Derived.Test.YtcjgilagldbjnaaGreatDoorPkBb49
import Derived.Test.YtcjgilagldbjnaaGreatDoorPkBb41
import Derived.Deep.QuietTactic
import Derived.Test.YtcjgilagldbjnaaGreatDoorPkBb39
namespace Go.Proofs.YtcjgilagldbjnaaGreatDoor
section
open Go.RowKit
set_option maxHeartbeats 1600000 in
theorem rlast_any (n r : Nat) (ok : Bool) (hn : n < 4294967296) (h : LastIs n r ok) (w : World) :
  Calls Tryz.prog 28 #[.int .u32 (n : Int)] w fun e w' => e = .returned (.tuple #[.int .u32 (r : Int), .bool ok]) ∧ w' = w := by
 have H := hi9 h
 have Hun := hi9 (fun (r' : Nat) (ok' : Bool) (h' : LastIs n r' ok') => h.unique h')
 clear h
 go_enter Tryz.func28, Tryz.ntmps28
 go_wp2
 go_loop [0] (fun v => ∃ k : Nat, v = .int .u32 (k : Int) ∧ k ≤ n ∧ ∀ m, m < n → k ≤ m → ¬ Pr m) (fun v => (intOf v).toNat)
 case atStart => exact ⟨n, rfl, Nat.le_refl _, fun m h1 h2 => by omega⟩
 case round =>
  obtain ⟨k, rfl, hnk, hno⟩ := hrel
  have Hno := hi9 hno
  clear hno
  cases k with
  | zero =>
   obtain ⟨rfl, rfl⟩ := Hun.out 0 false (Or.inr ⟨rfl, rfl, fun m h1 => Hno.out m h1 (by omega)⟩)
   go_wp2
   go_ret2
   exact ⟨rfl, rfl⟩
  | succ k =>
   have hk1 : k < 4294967296 := by omega
   by_cases hp : Pr k
   ·have HI := hi9 (fun W => ris_yes k hp hk1 W)
    obtain ⟨rfl, rfl⟩ := Hun.out k true (Or.inl ⟨rfl, hp, by omega, fun m h1 h2 => Hno.out m h2 (by omega)⟩)
    clear hp
    go_wp2_with fail
    refine (HI.out _).mono ?_
    rintro _ _ ⟨rfl, rfl⟩
    go_wp2
    go_ret2
    exact ⟨rfl, rfl⟩
   ·have HI := hi9 (fun W => ris_no k hp hk1 W)
    have Hp := hi9 hp
    clear hp
    go_wp2_with fail
    refine (HI.out _).mono ?_
    rintro _ _ ⟨rfl, rfl⟩
    go_wp2
    go_round
    case rel => exact ⟨k, by go_num, by omega, fun m h1 h2 => by
     rcases Nat.lt_or_ge k m with h3 | h3
     ·exact Hno.out m h1 h3
     ·obtain rfl : m = k := by omega
      exact Hp.out⟩
    case measure => simp [intOf]
end
section
open Go.RowKit
section
variable {w w' : World} {g g2 : Bool} {A A2 : Option Addr} {c c2 K J code l2 : Nat} {xs ys out : List Nat} {d z : Int}
set_option maxHeartbeats 1600000 in
theorem rchoose_zero (h : Zh w g A c xs 0 K) (hK : K ≤ 67108864) :
  Calls Tryz.prog 8 #[.agg #[.bool g, .slice A xs.length c], .agg #[.bool g2, .slice A2 l2 c2]] w (ChOut w [] 5) := by
 have SG : Hid (∀ W (_ : Below w.heap.size w W), Calls Tryz.prog 24 #[.agg #[.bool g, .slice A xs.length c]] W fun e w' => e = .returned (.int .i64 0) ∧ Below W.heap.size W w') := fun W hW => (h.next hW).rsign hK
 have k0 := bel_two w (.cells #[.bool g, .slice A xs.length c] 25) (.cells #[.bool g2, .slice A2 l2 c2] 25)
 clear h
 go_enter Tryz.func8, Tryz.ntmps8
 go_wp2_with fail
 refine (SG.out _ k0).mono ?_
 rintro e w1 ⟨rfl, hb⟩
 have k1 := bst k0 hb nl9
 clear hb k0
 go_wp2_with fail
 go_ret2
 exact ⟨none, 0, rfl, Rd.nil_, Nat.le_refl _, k1⟩
set_option maxHeartbeats 1600000 in
theorem rchoose_neg (h : Zh w g A c xs d K) (h2 : Zh w g2 A2 c2 ys z J) (hK : K ≤ 67108864) (hJ : J ≤ 67108864) (hd : d ≠ 0) (hz : z < 0) :
  Calls Tryz.prog 8 #[.agg #[.bool g, .slice A xs.length c], .agg #[.bool g2, .slice A2 ys.length c2]] w (ChOut w [] 1) := by
 have SG : Hid (∀ W (_ : Below w.heap.size w W), Calls Tryz.prog 24 #[.agg #[.bool g, .slice A xs.length c]] W fun e w' => e = .returned (.int .i64 d.sign) ∧ Below W.heap.size W w') := fun W hW => (h.next hW).rsign hK
 have SG2 : Hid (∀ W (_ : Below w.heap.size w W), Calls Tryz.prog 24 #[.agg #[.bool g2, .slice A2 ys.length c2]] W fun e w' => e = .returned (.int .i64 z.sign) ∧ Below W.heap.size W w') := fun W hW => (h2.next hW).rsign hJ
 have k0 := bel_two w (.cells #[.bool g, .slice A xs.length c] 25) (.cells #[.bool g2, .slice A2 ys.length c2] 25)
 have b1 : Blk ((w.alloc (.cells #[.bool g, .slice A xs.length c] 25)).alloc (.cells #[.bool g2, .slice A2 ys.length c2] 25)) (w.heap.size + 1) 25 [.bool g2, .slice A2 ys.length c2] := blk_res1 _ _ _ _
 have e1 : (d == 0) = false := beq_eq_false_iff_ne.2 hd
 have e2 : (d.sign == 0) = false := beq_eq_false_iff_ne.2 fun h => hd (Int.sign_eq_zero_iff_zero.1 h)
 have e3 : decide (z < 0) = true := decide_eq_true hz
 have e4 : decide (z.sign < 0) = true := decide_eq_true (Int.sign_neg_iff.2 hz)
 clear h h2 hd hz
 go_enter Tryz.func8, Tryz.ntmps8
 go_wp2_with fail
 refine (SG.out _ k0).mono ?_
 rintro e w1 ⟨rfl, hb⟩
 have k1 := bst k0 hb nl9
 have b1 := b1.below hb b1.lt
 obtain ⟨q0, q1, q2, q3⟩ := b1.two
 clear hb k0 SG
 go_wp2_with fail
 refine (SG2.out _ k1).mono ?_
 rintro e w2 ⟨rfl, hb⟩
 have k2 := bst k1 hb nl9
 clear hb k1 SG2 q0 q1 q2 q3 b1
 go_wp2_with fail
 go_ret2
 exact ⟨none, 0, rfl, Rd.nil_, Nat.le_refl _, k2⟩
set_option maxRecDepth 4000 in
set_option maxHeartbeats 6400000 in
theorem rchoose_any (h : Zh w g A c xs d K) (h2 : Zh w g2 A2 c2 ys z J) (hK : K ≤ 67108862) (hJ : J ≤ 67108862) (hd : d ≠ 0) (hz : 0 ≤ z)
  (hmany : 10000 < (Cs d 0).length) (hE : ChIs (Cs d 0) (z.natAbs + z.natAbs) out code) :
  Calls Tryz.prog 8 #[.agg #[.bool g, .slice A xs.length c], .agg #[.bool g2, .slice A2 ys.length c2]] w (ChOut w out code) := by
 have SG : Hid (∀ W (_ : Below w.heap.size w W), Calls Tryz.prog 24 #[.agg #[.bool g, .slice A xs.length c]] W fun e w' => e = .returned (.int .i64 d.sign) ∧ Below W.heap.size W w') := fun W hW => (h.next hW).rsign (by omega)
 have SG2 : Hid (∀ W (_ : Below w.heap.size w W), Calls Tryz.prog 24 #[.agg #[.bool g2, .slice A2 ys.length c2]] W fun e w' => e = .returned (.int .i64 z.sign) ∧ Below W.heap.size W w') := fun W hW => (h2.next hW).rsign (by omega)
 have AD : Hid (∀ W (_ : Below w.heap.size w W), Calls Tryz.prog 25 #[.slice A2 ys.length c2, .slice A2 ys.length c2] W fun e w' => NOut W w' (z.natAbs + z.natAbs) e) := fun W hW => (h2.next hW).hv.radd (h2.next hW).hv (by omega) (by omega)
 have OF : Hid (∀ W, Calls Tryz.prog 26 #[.int .u64 1] W fun e w' => NOut W w' 1 e) := fun W => rof_out 1 (by omega) W
 have MD : Hid (∀ p : Nat, 0 < p → p < 4294967296 → ∀ W (_ : Below w.heap.size w W), Calls Tryz.prog 12 #[.agg #[.bool g, .slice A xs.length c], .int .u32 (p : Int)] W fun e w' => e = .returned (.int .u32 (d % (p : Int))) ∧ Below W.heap.size W w') := fun p hp0 hp W hW => (h.next hW).rmod (by omega) p hp0 hp
 have HT : Hid (z.natAbs + z.natAbs < 4294967296 ^ (J + 1)) := by have h9 := h2.hv.lt; show _ < _; rw [Nat.pow_succ]; omega
 obtain ⟨l0, hl0⟩ : ∃ l0, l0 = xs.length := ⟨_, rfl⟩
 rw [← hl0] at SG MD ⊢
 have k0 := bel_two w (.cells #[.bool g, .slice A l0 c] 25) (.cells #[.bool g2, .slice A2 ys.length c2] 25)
 have b0 : Blk ((w.alloc (.cells #[.bool g, .slice A l0 c] 25)).alloc (.cells #[.bool g2, .slice A2 ys.length c2] 25)) w.heap.size 25 [.bool g, .slice A l0 c] := (blk_one w (.bool g) (.slice A l0 c)).heapAlloc _
 have b1 : Blk ((w.alloc (.cells #[.bool g, .slice A l0 c] 25)).alloc (.cells #[.bool g2, .slice A2 ys.length c2] 25)) (w.heap.size + 1) 25 [.bool g2, .slice A2 ys.length c2] := blk_res1 _ _ _ _
 have e1 : (d == 0) = false := beq_eq_false_iff_ne.2 hd
 have e2 : (d.sign == 0) = false := beq_eq_false_iff_ne.2 fun h => hd (Int.sign_eq_zero_iff_zero.1 h)
 have e5 : ¬ z < 0 := by omega
 have e3 : decide (z < 0) = false := decide_eq_false e5
 have e4 : decide (z.sign < 0) = false := decide_eq_false fun h => e5 (Int.sign_neg_iff.1 h)
 obtain ⟨t, ht⟩ : ∃ t, t = z.natAbs + z.natAbs := ⟨_, rfl⟩
 rw [← ht] at AD HT hE
 have HE := hi9 hE
 have HM := hi9 hmany
 clear h h2 hE hmany ht hl0 hd hz e5
 go_enter Tryz.func8, Tryz.ntmps8
 go_wp2_with fail
 refine (SG.out _ k0).mono ?_
 rintro e w1 ⟨rfl, hb⟩
 have k1 := bst k0 hb nl9
 have b0 := b0.below hb b0.lt
 have b1 := b1.below hb b1.lt
 obtain ⟨q0, q1, q2, q3⟩ := b1.two
 clear hb k0 SG
 go_wp2_with fail
 refine (SG2.out _ k1).mono ?_
 rintro e w2 ⟨rfl, hb⟩
 have k2 := bst k1 hb nl9
 have b0 := b0.below hb b0.lt
 have b1 := b1.below hb b1.lt
 clear q0 q1 q2 q3
 obtain ⟨q0, q1, q2, q3⟩ := b1.two
 clear hb k1 SG2
 go_wp2_with fail
 refine (AD.out _ k2).mono ?_
 rintro e w3 ⟨ts, At, ct, rfl, hts, hrt, hb⟩
 have k3 := bst k2 hb nl9
 have b0 := b0.below hb b0.lt
 have s3 := b0.lt
 have vT : Hid (Dig 4294967296 ts ∧ val 4294967296 ts = t ∧ ts.length ≤ ct ∧ ts.length ≤ J + 1) := ⟨hts.1, hts.2.2, by have := hrt.1; rwa [u32s_length] at this, num32_len hts nl9 HT.out⟩
 have rT := hrt.rd
 clear hb q0 q1 q2 q3 b1 k2 hrt hts AD
 go_wp2_with fail
 refine (OF.out _).mono ?_
 rintro e w4 ⟨os, Ao, co, rfl, hzo, hro, hb⟩
 have k4 := bst k3 hb nl9
 have b0 := b0.below hb b0.lt
 have rT := rT.below hb
 have HS : Hid (w.heap.size < w3.heap.size ∧ w3.heap.size ≤ w4.heap.size) := ⟨s3, hb.size⟩
 obtain ⟨B0, hB0⟩ : ∃ B, B = w3.heap.size := ⟨_, rfl⟩
 rw [← hB0] at rT hro HS
 have rw0 : Rw9 w4 B0 none 0 [] := World.ownsRow_nil _ _ _ _
 clear hb k3 hB0 s3 OF
 go_wp2_with fail
 go_loopw [7, 8, 9] (fun av pv ov wr => ∃ (n Bz : Nat) (R zs : List Nat) (Az AR : Option Addr) (cz cR : Nat), av = .slice Az zs.length cz ∧ pv = .int .u32 (n : Int) ∧ ov = .slice AR R.length cR ∧ 1 ≤ n ∧ n ≤ 4294967295 ∧ Hid (R = Cs d (n - 1) ∧ R.length ≤ 10000 ∧ (∀ i, i < R.length → prodL9 (R.take i) ≤ t)) ∧
  Hid (Num 4294967296 zs (prodL9 R)) ∧ Res wr Bz 34 Az cz (u32s zs) ∧ Hid (∀ k, (Value.slice AR R.length cR).ownBlock = some k → k < Bz) ∧ Rw9 wr B0 AR cR R ∧ Rd wr B0 At (u32s ts) ∧ Blk wr w.heap.size 25 [.bool g, .slice A l0 c] ∧ Below w.heap.size w wr ∧ B0 ≤ wr.heap.size) (fun _ pv _ _ => (intOf pv).toNat)
 case atStart => exact ⟨4294967295, B0, [], os, Ao, none, co, 0, rfl, rfl, rfl, by omega, Nat.le_refl _, hi9 ⟨by rw [Cs_top], Nat.zero_le _, fun i h => absurd h (Nat.not_lt_zero _)⟩, hi9 hzo, hro, hi9 (fun k e => by cases e), rw0, rT, b0, k4, HS.out.2⟩
 case round =>
  clear hzo hro rw0 rT b0 k4
  obtain ⟨n, Bz, R, zs, Az, AR, cz, cR, rfl, rfl, rfl, hn1, hn2, HR, HZ, hres, HOB, hrw, rT9, b09, k9, s9⟩ := hrel
  have HRS := hi9 hres
  have HRW := hi9 hrw
  have HRT := hi9 rT9
  have HB := hi9 b09
  have HK := hi9 k9
  obtain ⟨P, hP⟩ : ∃ P, P = prodL9 R := ⟨_, rfl⟩
  have HP := hi9 hP
  have hm1 : n - 1 ≤ 4294967294 := by omega
  have hR1 := HR.out.1
  have hRm : ∀ x ∈ R, x < 4294967296 := fun x hx => by rw [hR1] at hx; have := (mem_Cs.1 hx).1; omega
  have hPl : P < 4294967296 ^ (R.length + 1) := by rw [hP]; exact prodL9_lt hRm
  have C1 : Hid (Calls Tryz.prog 27 #[.slice Az zs.length cz, .slice At ts.length ct] wr fun e w' => e = .returned (.int .i64 (cmpN P t)) ∧ wr = w') := Hv.rcmp (K := R.length + 1) (J := J + 1) (Hv.of (by rw [hP]; exact HZ.out) hres hPl) ⟨vT.out.1, vT.out.2.1, rT9.mono s9, vT.out.2.2.1, vT.out.2.2.2⟩ (by have := HR.out.2.1; omega) (by omega)
  have HRm := hi9 hRm
  have HPl := hi9 hPl
  have hpre : Hid (R = (Cs d 0).take R.length) := by show _ = _; have h9 := Cs_take (d := d) hm1; rwa [← hR1] at h9
  have htake : Hid (∀ i, i ≤ R.length → (Cs d 0).take i = R.take i) := fun i hi => by rw [hpre.out, List.take_take, Nat.min_eq_left hi]
  clear hres hrw rT9 b09 k9 hP hRm hPl hR1 hm1
  by_cases hab : t < P
  ·have tc : decide (cmpN P t ≤ 0) = false := decide_eq_false (by have := cmpN_gt hab; omega)
   obtain ⟨hc0, ho0⟩ := HE.out.stop HR.out.2.1 (fun i hi => by rw [htake.out i (Nat.le_of_lt hi)]; exact HR.out.2.2 i hi) (by rw [htake.out _ nl9, List.take_length, ← HP.out]; exact hab)
   have ho1 : out = R := by rw [ho0, htake.out _ nl9, List.take_length]
   subst hc0 ho1
   have o2 := rw9_rd HRW.out
   have HO2 := hi9 o2
   clear hab ho0 o2
   go_wp2_with fail
   refine C1.out.mono ?_
   rintro e w5 ⟨rfl, rfl⟩
   go_wp2_with fail
   go_ret2
   exact ⟨AR, cR, rfl, HO2.out.1, HO2.out.2, HK.out⟩
  ·have tc : decide (cmpN P t ≤ 0) = true := decide_eq_true (by have := cmpN_le hab; omega)
   have HAB := hi9 hab
   obtain ⟨r, ok, hl⟩ := last_exists n
   have hl9 : LastIs (n - 1 + 1) r ok := by rw [Nat.sub_add_cancel hn1]; exact hl
   have HLC : Hid (Calls Tryz.prog 28 #[.int .u32 (n : Int)] wr fun e w' => e = .returned (.tuple #[.int .u32 (r : Int), .bool ok]) ∧ w' = wr) := rlast_any n r ok (by omega) hl wr
   clear hab hl
   cases ok with
   | false =>
    exfalso
    have h1 := Cs_end (d := d) (by omega) hl9
    rw [← HR.out.1] at h1
    have h2 := HM.out
    rw [h1] at h2
    have h3 := HR.out.2.1
    omega
   | true =>
    obtain ⟨_, hpr, hrm⟩ := down_last (by omega) hl9
    have hr2 := hpr.1
    have hCs := Cs_last (d := d) (by omega) hl9
    rw [← HR.out.1] at hCs
    have HCs := hi9 hCs
    obtain ⟨v, hv⟩ : ∃ v, v = d % (r : Int) := ⟨_, rfl⟩
    have HMD := hi9 (MD.out r (by omega) (by omega) wr HK.out)
    rw [← hv] at HMD
    have HV := hi9 hv
    obtain ⟨p0, p1, p2, p3⟩ := HB.out.two
    clear hpr hCs hv hl9
    go_wp2_with fail
    refine C1.out.mono ?_
    rintro e w5 ⟨rfl, rfl⟩
    go_wp2_with fail
    refine HLC.out.mono ?_
    rintro e w5 ⟨rfl, rfl⟩
    go_wp2_with fail
    refine HMD.out.mono ?_
    rintro e w6 ⟨rfl, hb⟩
    have HRS6 := hi9 (HRS.out.below hb nl9)
    have HRW6 : Hid (Rw9 w6 B0 AR cR R) := HRW.out.kept (row := none) ⟨hb.os, hb.tape, hb.output, hb.size, fun k hk _ => hb.block k hk⟩ (by cases (Value.slice AR R.length cR).ownBlock <;> simp)
    have HRT6 := hi9 (HRT.out.below (hb.mono s9))
    have HB6 := hi9 (HB.out.below hb HB.out.lt)
    have HK6 := hi9 (bst HK.out hb nl9)
    have s6 : Hid (B0 ≤ w6.heap.size) := Nat.le_trans s9 hb.size
    clear hb p0 p1 p2 p3 HRS HRW HRT HB HK HMD HLC C1
    by_cases hv0 : v = 0
    ·subst hv0
     have HR2 : Hid (R = Cs d (r - 1) ∧ R.length ≤ 10000 ∧ (∀ i, i < R.length → prodL9 (R.take i) ≤ t)) := by
      refine ⟨?_, HR.out.2⟩
      rw [HCs.out, if_neg (by rw [ndB, decide_eq_true_eq]; exact fun h => h HV.out.symm), List.append_nil]
     clear HV HCs
     go_wp2_with fail
     go_roundw
     case rel => exact ⟨r, Bz, R, zs, Az, AR, cz, cR, rfl, rfl, rfl, by omega, by omega, HR2, HZ, HRS6.out, HOB, HRW6.out, HRT6.out, HB6.out, HK6.out, s6.out⟩
     case measure => simp [intOf]; omega
    ·have t1 : (v == 0) = false := beq_eq_false_iff_ne.2 hv0
     have hnd : ndB d r = true := by rw [ndB, decide_eq_true_eq, ← HV.out]; exact hv0
     have HC2 : Hid (Cs d (r - 1) = R ++ [r]) := by show _ = _; rw [HCs.out, if_pos hnd]
     clear hnd hv0 HCs HV
     by_cases hten : R.length = 10000
     ·have t2 : ((R.length : Int) == 10000) = true := by rw [hten]; rfl
      obtain ⟨hc0, ho0⟩ := HE.out.much (fun i hi => by
       rw [htake.out i (by omega)]
       by_cases e : i < R.length
       ·exact HR.out.2.2 i e
       ·rw [List.take_of_length_le (by omega), ← HP.out]; exact Nat.le_of_not_lt HAB.out)
      subst hc0 ho0
      clear hten
      go_wp2_with fail
      go_ret2
      exact ⟨none, 0, rfl, Rd.nil_, Nat.le_refl _, HK6.out⟩
     ·have t2 : ((R.length : Int) == 10000) = false := beq_eq_false_iff_ne.2 (by omega)
      have hr32 : r < 4294967296 := by omega
      obtain ⟨g', c', w7, hrun, o7, hg7⟩ := rw_app HRW6.out (by have := HR.out.2.1; omega) s6.out r
      have hOB7 := HRW6.out.lt
      have ew : IntKind.u64.wrap (r : Int) = (r : Int) := by have h0 : IntKind.u64.wrap (r : Int) = (r : Int) % 18446744073709551616 := rfl; omega
      have OR : Hid (∀ W, Calls Tryz.prog 26 #[.int .u64 (IntKind.u64.wrap (r : Int))] W fun e w' => NOut W w' r e) := fun W => by rw [ew]; exact rof_out r (by omega) W
      have k7 : Hid (Below w.heap.size w w7) := HK6.out.trans ⟨hg7.os, hg7.tape, hg7.output, hg7.size, fun k hk => hg7.block k (by have := HB6.out.lt; have := HK6.out.size; omega) (fun e => by have := (hOB7 k e.symm).1; have := HS.out; omega)⟩
      have rT7 : Hid (Rd w7 B0 At (u32s ts)) := HRT6.out.below ⟨hg7.os, hg7.tape, hg7.output, hg7.size, fun k hk => hg7.block k (by have := s6.out; omega) (fun e => by have := (hOB7 k e.symm).1; omega)⟩
      have b7 : Hid (Blk w7 w.heap.size 25 [.bool g, .slice A l0 c]) := (hg7.block _ HB6.out.lt (fun e => by have := (hOB7 _ e.symm).1; have := HS.out; omega)).trans HB6.out
      have r7 : Hid (Res w7 Bz 34 Az cz (u32s zs)) := HRS6.out.grown hg7 (fun k e => HOB.out k e)
      have s7 : Hid (B0 ≤ w7.heap.size) := Nat.le_trans s6.out hg7.size
      have O7 := hi9 o7
      have Hrun := hi9 hrun
      have hRl : Hid (R.length < 10000) := by show _ < _; have := HR.out.2.1; omega
      have hlt9 : Hid (∀ y ∈ R ++ [r], y < 4294967296) := fun y hy => by
       rcases List.mem_append.1 hy with h | h
       ·exact HRm.out y h
       ·rw [List.mem_singleton.1 h]; exact hr32
      have hm9 : Hid (P * r < 4294967296 ^ (R.length + 1 + 1)) := by
       have h9 := prodL9_lt hlt9.out
       show _ < _
       rwa [prodL9_snoc, List.length_append, ← HP.out] at h9
      have ML : Hid (∀ (us : List Nat) (A' : Option Addr) (c' B : Nat) (W : World), Below w7.heap.size w7 W → Num 4294967296 us r → Res W B 34 A' c' (u32s us) → Calls Tryz.prog 29 #[.slice Az zs.length cz, .slice A' us.length c'] W fun e w' => NOut W w' (P * r) e) := fun us A' c' B W hW hu hr => ((Hv.of (K := R.length + 1) (n := P) (by rw [HP.out]; exact HZ.out) r7.out HPl.out).next hW).rmul (Hv.of (K := 1) hu hr (by simpa using hr32)) (by have := HR.out.2.1; omega) (by omega)
      have HR32 := hi9 hr32
      have HR3 : Hid (R ++ [r] = Cs d (r - 1) ∧ (R ++ [r]).length ≤ 10000 ∧ (∀ i, i < (R ++ [r]).length → prodL9 ((R ++ [r]).take i) ≤ t)) := by
       refine ⟨HC2.out.symm, by rw [List.length_append]; have := hRl.out; simp; omega, fun i hi => ?_⟩
       rw [List.length_append] at hi
       by_cases e : i < R.length
       ·rw [List.take_append_of_le_length (Nat.le_of_lt e)]; exact HR.out.2.2 i e
       ·have e2 : i = R.length := by simp at hi; omega
        rw [e2, List.take_append_of_le_length nl9, List.take_length, ← HP.out]
        exact Nat.le_of_not_lt HAB.out
      have HN9 : Hid (1 ≤ r ∧ r ≤ 4294967295 ∧ r < n) := by show _ ∧ _; omega
      clear hrun o7 hg7 hOB7 ew hten hr32 HRS6 HRW6 HRT6 HB6 HK6 s6 hn1 hn2 hrm hr2
      go_wp2_with (first | (at_builtin; refine wpList_append_run rfl _ _ _ _ rfl _ _ rfl rfl _ _ Hrun.out ?_))
      refine (OR.out _).mono ?_
      rintro e w8 ⟨us, Au, cu, rfl, hu, hru, h8⟩
      have K8 := hi9 h8
      have HU := hi9 hu
      have HRU := hi9 hru
      clear h8 hu hru
      go_wp2_with fail
      refine (ML.out _ _ _ _ _ K8.out HU.out HRU.out).mono ?_
      rintro e w9 ⟨vs, Av, cv, rfl, hv9, hrv, h9⟩
      have j9 := bst K8.out h9 nl9
      have Y1 : Hid (Num 4294967296 vs (prodL9 (R ++ [r]))) := by show Num _ _ _; rw [prodL9_snoc, ← HP.out]; exact hv9
      have Y2 := hi9 hrv
      have Y3 : Hid (∀ k, (Value.slice (some ⟨g', 0, none⟩) (R ++ [r]).length c').ownBlock = some k → k < w8.heap.size) := fun k e => by
       have h1 := (O7.out.lt k e).2
       have h2 := K8.out.size
       omega
      have Y4 : Hid (Rw9 w9 B0 (some ⟨g', 0, none⟩) c' (R ++ [r])) := O7.out.kept (row := none) ⟨j9.os, j9.tape, j9.output, j9.size, fun k hk _ => j9.block k hk⟩ (by cases (Value.slice (some ⟨g', 0, none⟩) (R ++ [r]).length c').ownBlock <;> simp)
      have Y5 := hi9 (rT7.out.below (j9.mono s7.out))
      have Y6 := hi9 (b7.out.below j9 b7.out.lt)
      have Y7 := hi9 (bst k7.out j9 nl9)
      have Y8 : Hid (B0 ≤ w9.heap.size) := Nat.le_trans s7.out j9.size
      clear hv9 hrv h9 j9
      go_wp2_with fail
      rw [show R.length + 1 = (R ++ [r]).length from by simp]
      go_roundw
      case rel => exact ⟨r, w8.heap.size, R ++ [r], vs, Av, some ⟨g', 0, none⟩, cv, c', rfl, rfl, rfl, HN9.out.1, HN9.out.2.1, HR3, Y1, Y2.out, Y3, Y4.out, Y5.out, Y6.out, Y7.out, Y8.out⟩
      case measure => have := HN9.out.2.2; simp [intOf]; omega
end
end
section
open Go.RowKit
section
variable {w w' : World} {g g2 : Bool} {A A2 : Option Addr} {c c2 : Nat} {xs ys : List Nat} {d z : Int}
theorem bnum_any (z : Int) (w : World) : Calls Tryz.prog 9 #[.int .i64 z] w fun e w' => e = .returned (.int .i64 z) ∧ w' = w := by
 go_enter Tryz.func9, Tryz.ntmps9
 go_wp2
 go_ret
 exact ⟨rfl, rfl⟩
theorem lt_pow32 {x n : Nat} (h : x < 4294967296 ^ n) : x < 2 ^ (32 * n) := by
 rw [Nat.pow_mul]
 exact h
def ChBoth (d z : Int) (out : List Nat) (code : Nat) : Prop := code ≤ 5 ∧ (code ≠ 0 → out = []) ∧ (code = 0 → d ≠ 0 ∧ 0 ≤ z ∧ ∃ j, j ≤ 10000 ∧ out = (Cs d 0).take j ∧ (∀ i, i < j → prodL9 ((Cs d 0).take i) ≤ z.natAbs + z.natAbs) ∧ z.natAbs + z.natAbs < prodL9 ((Cs d 0).take j))
theorem choose_both (h : Zh w g A c xs d 1048576) (h2 : Zh w g2 A2 c2 ys z 1048576) (hw : Bases w) :
  ∃ (out : List Nat) (code : Nat), ChBoth d z out code ∧ (∀ W (_ : Below w.heap.size w W), Calls Tryz.prog 7 #[.agg #[.bool g, .slice A xs.length c], .agg #[.bool g2, .slice A2 ys.length c2]] W (ChOut W out code)) ∧
   (∀ W (_ : Below w.heap.size w W), Calls Tryz.prog 8 #[.agg #[.bool g, .slice A xs.length c], .agg #[.bool g2, .slice A2 ys.length c2]] W (ChOut W out code)) := by
 by_cases hd : d = 0
 ·subst hd
  exact ⟨[], 5, ⟨by omega, fun _ => rfl, fun h => by cases h⟩, fun W hW => choose_zero (h.next hW) (by omega), fun W hW => rchoose_zero (h.next hW) (by omega)⟩
 ·by_cases hz : z < 0
  ·exact ⟨[], 1, ⟨by omega, fun _ => rfl, fun h => by cases h⟩, fun W hW => choose_neg (h.next hW) (h2.next hW) (by omega) (by omega) hd hz, fun W hW => rchoose_neg (h.next hW) (h2.next hW) (by omega) (by omega) hd hz⟩
  ·obtain ⟨out, code, hE⟩ := ch_exists (Cs d 0) (z.natAbs + z.natAbs)
   have hm : 10000 < (Cs d 0).length := Cs_many hd (M := 32 * 1048576) (lt_pow32 h.hv.lt) nl9
   refine ⟨out, code, ?_, fun W hW => (callsIn_wide (n := 3)).1 (choose_in 3 nl9 W (h.next hW) (h2.next hW) (by omega) (by omega) hd (by omega) (hw.keep hW hw.lt) hm hE), fun W hW => rchoose_any (h.next hW) (h2.next hW) (by omega) (by omega) hd (by omega) hm hE⟩
   rcases hE with ⟨rfl, hj⟩ | ⟨rfl, rfl, _⟩
   ·exact ⟨by omega, fun h => absurd rfl h, fun _ => ⟨hd, by omega, hj⟩⟩
   ·exact ⟨by omega, fun _ => rfl, fun h => by cases h⟩
set_option maxHeartbeats 6400000 in
theorem bchooses_walk (h : Zh w g A c xs d 1048576) (h2 : Zh w g2 A2 c2 ys z 1048576) (hw : Bases w)
  (AW : Hid (∀ W (_ : Below w.heap.size w W), Calls Tryz.prog 6 #[] W fun e w' => e = .returned (.bool true) ∧ Below W.heap.size W w')) :
  Calls Tryz.prog 3 #[.agg #[.bool g, .slice A xs.length c], .agg #[.bool g2, .slice A2 ys.length c2]] w fun e w' => e = .returned (.bool true) ∧ Below w.heap.size w w' := by
 obtain ⟨out, code, hB, c1, c3⟩ := choose_both h h2 hw
 have C1 := hi9 c1
 have C3 := hi9 c3
 have HBo := hi9 hB
 obtain ⟨b, hbe⟩ : ∃ b, b = bitsOf (val 4294967296 ys) := ⟨_, rfl⟩
 have LN : Hid (∀ W (_ : Below w.heap.size w W), Calls Tryz.prog 5 #[.slice A2 ys.length c2] W fun e w' => e = .returned (.int .i64 (b : Nat)) ∧ Below W.heap.size W w') := fun W hW => by
  rw [hbe]
  have h9 := (h2.next hW).hv
  exact rlen_any A2 c2 ys W W.heap.size h9.rd nl9 h9.dig (by have := h9.len; omega)
 have k0 := bel_two w (.cells #[.bool g, .slice A xs.length c] 25) (.cells #[.bool g2, .slice A2 ys.length c2] 25)
 have b0 : Blk ((w.alloc (.cells #[.bool g, .slice A xs.length c] 25)).alloc (.cells #[.bool g2, .slice A2 ys.length c2] 25)) w.heap.size 25 [.bool g, .slice A xs.length c] := (blk_one w (.bool g) (.slice A xs.length c)).heapAlloc _
 have b1 : Blk ((w.alloc (.cells #[.bool g, .slice A xs.length c] 25)).alloc (.cells #[.bool g2, .slice A2 ys.length c2] 25)) (w.heap.size + 1) 25 [.bool g2, .slice A2 ys.length c2] := blk_res1 _ _ _ _
 obtain ⟨l1, hl1⟩ : ∃ l, l = xs.length := ⟨_, rfl⟩
 obtain ⟨l2, hl2⟩ : ∃ l, l = ys.length := ⟨_, rfl⟩
 rw [← hl1, ← hl2] at C1 C3 k0 b0 b1 ⊢
 rw [← hl2] at LN
 clear h h2 hw c1 c3 hB hbe hl1 hl2
 go_enter Tryz.func3, Tryz.ntmps3
 go_wp2_with fail
 refine (LN.out _ k0).mono ?_
 rintro e w1 ⟨rfl, hb⟩
 have k1 := bst k0 hb nl9
 have b0 := b0.below hb b0.lt
 have b1 := b1.below hb b1.lt
 clear hb k0 LN
 by_cases hbig : 4096 < b
 ·have t1 : decide (4096 < (b : Int)) = true := decide_eq_true (by omega)
  have t2 : decide (4096 < b) = true := decide_eq_true hbig
  clear hbig
  go_wp2_with fail
  refine (AW.out _ k1).mono ?_
  rintro e w2 ⟨rfl, hb⟩
  have k2 := bst k1 hb nl9
  go_wp2_with fail
  go_ret
  exact ⟨rfl, k2⟩
 ·have t1 : decide (4096 < (b : Int)) = false := decide_eq_false (by omega)
  have t2 : decide (4096 < b) = false := decide_eq_false hbig
  obtain ⟨p0, p1, p2, p3⟩ := b0.two
  obtain ⟨q0, q1, q2, q3⟩ := b1.two
  clear hbig
  go_wp2_with fail
  refine (C1.out _ k1).mono ?_
  rintro e w2 ⟨A9, c9, rfl, hr9, hc9, hb⟩
  have k2 := bst k1 hb nl9
  have b0 := b0.below hb b0.lt
  have b1 := b1.below hb b1.lt
  clear p0 p1 p2 p3 q0 q1 q2 q3
  obtain ⟨p0, p1, p2, p3⟩ := b0.two
  obtain ⟨q0, q1, q2, q3⟩ := b1.two
  clear hb C1
  go_wp2_with fail
  refine (C3.out _ k2).mono ?_
  rintro e w3 ⟨A8, c8, rfl, hr8, hc8, hb⟩
  have k3 := bst k2 hb nl9
  have H9 := hi9 ((hr9.below hb).mono hb.size)
  have H8 := hi9 hr8
  have t3 : ((code : Int) != (code : Int)) = false := by simp
  have t4 : ((out.length : Int) != (out.length : Int)) = false := by simp
  have hol : Hid (out.length ≤ 10000) := by
   show _ ≤ _
   by_cases e : code = 0
   ·obtain ⟨_, _, j, hj, ho, _⟩ := HBo.out.2.2 e
    rw [ho, List.length_take]
    omega
   ·rw [HBo.out.2.1 e]; exact Nat.zero_le _
  clear hb C3 hr9 hr8 p0 p1 p2 p3 q0 q1 q2 q3 b0 b1
  go_wp2_with fail
  refine (bnum_any _ _).mono ?_
  rintro e w4 ⟨rfl, rfl⟩
  go_wp2_with fail
  go_loopw [9, 40] (fun _ iv wr => ∃ k : Nat, k ≤ out.length ∧ iv = .int .i64 (k : Int) ∧ Dr w4 wr) (fun _ iv _ => out.length - (intOf iv).toNat)
  case atStart => exact ⟨0, Nat.zero_le _, rfl, Dr.refl _⟩
  case round =>
   obtain ⟨k, hk, rfl, hdr⟩ := hrel
   have HDR := hi9 hdr
   have hol9 := hol.out
   by_cases hlt : k < out.length
   ·have hne : u32s out ≠ [] := fun e => by have h9 := congrArg List.length e; rw [u32s_length, List.length_nil] at h9; omega
    obtain ⟨o9, f9, rfl, hw9, hc9⟩ := H9.out hne
    obtain ⟨o8, f8, rfl, hw8, hc8⟩ := H8.out hne
    have x9 := ((hdr.below w4.heap.size).cell (p := ⟨o9, f9 + k, none⟩) hw9).trans (hc9 k _ (u32s_at hlt))
    have x8 := ((hdr.below w4.heap.size).cell (p := ⟨o8, f8 + k, none⟩) hw8).trans (hc8 k _ (u32s_at hlt))
    obtain ⟨v, hv⟩ : ∃ v, v = out[k] := ⟨_, rfl⟩
    rw [← hv] at x9 x8
    have t5 : ((v : Int) != (v : Int)) = false := by simp
    clear hc9 hc8 hv hne hdr
    go_wp2_with fail
    go_quiet (fail)
    go_wp2_with fail
    go_roundw
    case rel => exact ⟨k + 1, by omega, by go_num, HDR.out.step _⟩
    case measure => simp [intOf]; omega
   ·obtain rfl : k = out.length := by omega
    have k4 : Below w.heap.size w wr := bst k3 (hdr.below _) nl9
    clear hlt hdr
    go_wp2_with fail
    refine (AW.out _ k4).mono ?_
    rintro e w5 ⟨rfl, hb⟩
    have k5 := bst k4 hb nl9
    go_wp2_with fail
    go_ret
    exact ⟨rfl, k5⟩
end
end
section
open Go.RowKit Go.Maps
theorem twice_lt9 {n K : Nat} (h : n < 4294967296 ^ K) : n + n < 4294967296 ^ (K + 1) := by
 rw [Nat.pow_succ]
 omega
theorem Rd.grown_map {w w' : World} {B g : Nat} {A : Option Addr} {vs : List Value} {S : List Nat} (h : Rd w B A vs) (hm : Mp w g S) (hg : w.grownBy w' (some g)) : Rd w' B A vs := fun hn => by
 obtain ⟨b, off, e, hb, hc⟩ := h hn
 refine ⟨b, off, e, hb, fun k v hv => hg.cell (hc k v hv) ?_⟩
 intro e2
 injection e2 with e2
 have h1 := hc k v hv
 obtain ⟨D, ⟨es, clock, h2, _⟩, _⟩ := hm
 subst e2
 simp [World.cell?, h2] at h1
theorem Hv.grown_map {w w' : World} {g c n K : Nat} {A : Option Addr} {xs S : List Nat} (h : Hv w A c xs n K) (hm : Mp w g S) (hg : w.grownBy w' (some g)) : Hv w' A c xs n K := ⟨h.dig, h.val_, (h.rd.grown_map hm hg).mono hg.size, h.cap, h.len⟩
theorem below_grown9 {w w' : World} {g B : Nat} (hg : w.grownBy w' (some g)) (hB : B ≤ g) (hs : B ≤ w.heap.size) : Below B w w' := ⟨hg.os, hg.tape, hg.output, hg.size, fun k hk => hg.block k (by omega) (by intro e; injection e with e; omega)⟩
def lastB (ps : List Nat) (t : Nat) : Nat → Bool
 | 0 => false
 | k + 1 => decide (t < prodTo9 ps k)
section
variable {w w' : World} {A P : Option Addr} {c cP K ce : Nat} {xs ps : List Nat} {z : Int} {g x y : Bool}
set_option maxHeartbeats 6400000 in
theorem enough_any (h : Zh w g A c xs z K) (hK : K ≤ 67108862) (hz : 0 ≤ z) (hp : Rd w w.heap.size P (u32s ps)) (hd : ∀ x ∈ ps, x < 4294967296) (hl : ps.length ≤ 1048576) (hw : Bases w) (hE : EnIs ps (z.natAbs + z.natAbs) ce x y) :
  Calls Tryz.prog 10 #[.agg #[.bool g, .slice A xs.length c], .slice P ps.length cP] w fun e w' => e = .returned (.tuple #[.bool x, .bool y, .int .i64 (ce : Int)]) ∧ Below w.heap.size w w' := by
 have SG : Hid (∀ W (_ : Below w.heap.size w W), Calls Tryz.prog 18 #[.agg #[.bool g, .slice A xs.length c]] W fun e w' => e = .returned (.int .i64 z.sign) ∧ Below W.heap.size W w') := fun W hW => (h.next hW).sign (by omega)
 have AD : Hid (∀ W (_ : Below w.heap.size w W), Calls Tryz.prog 19 #[.slice A xs.length c, .slice A xs.length c] W fun e w' => NOut W w' (z.natAbs + z.natAbs) e) := fun W hW => (h.next hW).hv.addN (h.next hW).hv (by omega) (by omega)
 have OF : Hid (∀ W, Calls Tryz.prog 20 #[.int .u64 1] W fun e w' => NOut W w' 1 e) := fun W => of_out 1 (by omega) W
 have HT : Hid (z.natAbs + z.natAbs < 4294967296 ^ (K + 1)) := twice_lt9 h.hv.lt
 have IS : Hid (∀ n : Nat, n < 4294967296 → ∀ W (_ : Below w.heap.size w W), Calls Tryz.prog 30 #[.int .u32 (n : Int)] W fun e w' => e = .returned (.bool (isP n)) ∧ w' = W) := fun n hn W hW => is_all n hn W (hw.keep hW hw.lt)
 have k0 := bel_one w (.cells #[.bool g, .slice A xs.length c] 25)
 have b0 := blk_one w (.bool g) (.slice A xs.length c)
 have t1 : ¬ z < 0 := by omega
 have t2 : ¬ z.sign < 0 := fun h => t1 (Int.sign_neg_iff.1 h)
 obtain ⟨t, ht⟩ : ∃ t, t = z.natAbs + z.natAbs := ⟨_, rfl⟩
 rw [← ht] at AD HT hE
 have HE := hi9 hE
 have HP := hi9 hp
 have HD := hi9 hd
 have hmm := @run_makeMap Tryz.prog
 clear h ht hE hp hd hw hz
 go_enter Tryz.func10, Tryz.ntmps10
 go_wp2_with fail
 refine (SG.out _ k0).mono ?_
 rintro e w1 ⟨rfl, hb⟩
 have k1 := bst k0 hb nl9
 have b1 := b0.below hb b0.lt
 obtain ⟨q0, q1, q2, q3⟩ := b1.two
 clear hb k0 b0 SG
 go_wp2_with fail
 refine (AD.out _ k1).mono ?_
 rintro e w2 ⟨ts, At, ct, rfl, hts, hrt, hb⟩
 have k2 := bst k1 hb nl9
 clear hb q0 q1 q2 q3 b1
 go_upto_region 5 with fail
 have kA := bel_two w2 (.cells #[.slice At ts.length ct] 51) (.map #[] 0)
 have bT : Blk ((w2.alloc (.cells #[.slice At ts.length ct] 51)).alloc (.map #[] 0)) w2.heap.size 51 [.slice At ts.length ct] := (Blk.new_ rfl).heapAlloc _
 have mM : Mp ((w2.alloc (.cells #[.slice At ts.length ct] 51)).alloc (.map #[] 0)) (w2.heap.size + 1) [] := by
  have h9 := Mp.made (w2.alloc (.cells #[.slice At ts.length ct] 51))
  rwa [World.size_alloc] at h9
 have rT := hrt.rd.below kA
 have k3 := bst k2 kA nl9
 have vT : Dig 4294967296 ts ∧ val 4294967296 ts = t ∧ ts.length ≤ ct ∧ ts.length ≤ K + 1 := ⟨hts.1, hts.2.2, by have := hrt.1; rwa [u32s_length] at this, num32_len hts nl9 HT.out⟩
 obtain ⟨W3, hW3⟩ : ∃ v, v = (w2.alloc (.cells #[.slice At ts.length ct] 51)).alloc (.map #[] 0) := ⟨_, rfl⟩
 rw [← hW3] at bT mM rT k3 ⊢
 have hgw := k2.size
 obtain ⟨gT, hgT⟩ : ∃ gT, gT = w2.heap.size := ⟨_, rfl⟩
 rw [← hgT] at bT mM rT hgw ⊢
 clear hgT hW3 kA hrt k2 k1 hts
 go_wp2_with fail
 refine (OF.out _).mono ?_
 rintro e w4 ⟨os, Ao, co, rfl, hzo, hro, hb⟩
 have bT := bT.below hb bT.lt
 have sM := mM.lt
 have rT := rT.below (hb.mono (by omega))
 have mM := mM.same (hb.block _ sM)
 have k3 := bst k3 hb nl9
 have sM := Nat.lt_of_lt_of_le sM hb.size
 have br : Blk (w4.alloc (.cells #[.slice Ao os.length co, .slice none 0 0] 55)) w4.heap.size 55 [.slice Ao os.length co, .slice none 0 0] := Blk.new_ rfl
 have kO := bel_one w4 (.cells #[.slice Ao os.length co, .slice none 0 0] 55)
 have hm : Hv (w4.alloc (.cells #[.slice Ao os.length co, .slice none 0 0] 55)) Ao co os (prodTo9 ps 0) (0 + 1) := (Hv.of hzo hro (by decide)).next kO
 have rw0 : Rw9 (w4.alloc (.cells #[.slice Ao os.length co, .slice none 0 0] 55)) (w4.heap.size + 1) none 0 [] := World.ownsRow_nil _ _ _ _
 have bT := bT.below kO bT.lt
 have rT := rT.below (kO.mono (by omega))
 have mM := mM.same (kO.block _ sM)
 have k3 := bst k3 kO nl9
 clear hb hzo hro kO
 go_upto_region 7 with fail
 obtain ⟨W5, hW5⟩ : ∃ v, v = w4.alloc (.cells #[.slice Ao os.length co, .slice none 0 0] 55) := ⟨_, rfl⟩
 rw [← hW5] at br hm rw0 bT rT mM k3 ⊢
 obtain ⟨r, hr⟩ : ∃ r, r = w4.heap.size := ⟨_, rfl⟩
 rw [← hr] at br rw0 sM ⊢
 clear hr hW5 OF AD
 go_wp2_with fail
 go_loopw [10, 11, 12, 13, 14, 30] (fun lv _ _ _ _ iv wr => ∃ (k : Nat) (zs : List Nat) (Am AR : Option Addr) (cm cR : Nat), k ≤ ps.length ∧ lv = .bool (lastB ps t k) ∧ iv = .int .i64 (k : Int) ∧ En ps k ∧ Blk wr r 55 [.slice Am zs.length cm, .slice AR (ps.take k).length cR] ∧ Hv wr Am cm zs (prodTo9 ps k) (k + 1) ∧
   Rw9 wr (r + 1) AR cR (ps.take k) ∧ Blk wr gT 51 [.slice At ts.length ct] ∧ Rd wr gT At (u32s ts) ∧ Mp wr (gT + 1) (ps.take k) ∧ Below w.heap.size w wr) (fun _ _ _ _ _ iv _ => ps.length - (intOf iv).toNat)
 case atStart => exact ⟨0, os, Ao, none, co, 0, Nat.zero_le _, rfl, rfl, En.zero ps, br, hm, rw0, bT, rT, mM, k3⟩
 case round =>
  obtain ⟨k, zs, Am, AR, cm, cR, hk, rfl, rfl, hEn, br9, hm9, hrw9, bT9, rT9, mM9, k9⟩ := hrel
  clear bT rT mM br hm rw0 k3
  obtain ⟨R, hR⟩ : ∃ R, R = ps.take k := ⟨_, rfl⟩
  rw [← hR] at br9 hrw9 mM9
  have hRl : R.length = k := by rw [hR]; simp; omega
  obtain ⟨m, hm⟩ : ∃ m, m = prodTo9 ps k := ⟨_, rfl⟩
  rw [← hm] at hm9
  have HR := hi9 hR
  have HRl := hi9 hRl
  have Hm := hi9 hm
  have HM := hi9 hm9
  have HO := hi9 hrw9
  have HB := hi9 br9
  have HBT := hi9 bT9
  have HRT := hi9 rT9
  have HMP := hi9 mM9
  have HK := hi9 k9
  have HEn := hi9 hEn
  have VT := hi9 vT
  have hrl := br9.lt
  clear hR hRl hm hm9 hrw9 br9 bT9 rT9 mM9 k9 hEn vT
  by_cases hlt : k < ps.length
  ·obtain ⟨b, off, rfl, hbw, hx0⟩ := HP.out.at32 hlt
   have hx := (HK.out.cell (p := ⟨b, off + k, none⟩) hbw).trans hx0
   obtain ⟨q, hq⟩ : ∃ q, q = ps[k] := ⟨_, rfl⟩
   have hq32 : q < 4294967296 := by rw [hq]; exact HD.out _ (List.getElem_mem hlt)
   rw [← hq] at hx
   have IQ : Hid (Calls Tryz.prog 30 #[.int .u32 (q : Int)] wr fun e w' => e = .returned (.bool (isP q)) ∧ w' = wr) := IS.out q hq32 wr HK.out
   clear hx0
   by_cases hp : Pr q
   ·rw [isP_true hp] at IQ
    obtain ⟨cv, hlook⟩ := HMP.out.look hq32
    by_cases hmem : q ∈ R
    ·rw [decide_eq_true hmem] at hlook
     obtain ⟨h40, hx9, hy9⟩ := HE.out.twice hlt HEn.out (hq ▸ hp) (by rw [← HR.out, ← hq]; exact hmem)
     have HLO := hi9 hlook
     subst h40 hx9 hy9
     clear hlook hp hmem hq hq32 HD IS HE
     go_wp2_with fail
     refine IQ.out.mono ?_
     rintro e w5 ⟨rfl, rfl⟩
     go_wp2_with (first | (at_lookup; refine wpList_mp_look rfl _ _ _ _ rfl _ _ rfl rfl _ HLO.out ?_))
     refine bodyPost_ret (v := .tuple #[.bool false, .bool false, .int .i64 60]) (by simp [results, Tryz.f10]) rfl ?_
     exact ⟨rfl, HK.out⟩
    ·rw [decide_eq_false hmem] at hlook
     have HLO := hi9 hlook
     obtain ⟨w5, hput, mM5, hg5⟩ := HMP.out.put (v := (k : Int)) (by rw [HRl.out]; omega) hq32 ⟨by omega, by omega⟩
     have HPU := hi9 hput
     have k5 := HK.out.trans (below_grown9 hg5 (by omega) HK.out.size)
     have b5 : Blk w5 r 55 [.slice Am zs.length cm, .slice AR R.length cR] := (hg5.block r hrl (by intro e; injection e with e; omega)).trans HB.out
     have bT5 : Blk w5 gT 51 [.slice At ts.length ct] := (hg5.block gT HBT.out.lt (by intro e; injection e with e; omega)).trans HBT.out
     have m5 := HM.out.grown_map HMP.out hg5
     have rT5 := HRT.out.grown_map HMP.out hg5
     have o5 : Rw9 w5 (r + 1) AR cR R := HO.out.kept hg5 (.inr (fun e => by have := HO.out.lt _ e; omega))
     have AB : Hid (Calls Tryz.prog 22 #[.agg #[.slice Am zs.length cm], .agg #[.slice At ts.length ct]] w5 fun e w' => e = .returned (.bool (decide (t < m))) ∧ Below w5.heap.size w5 w') := above_any m5 (K := k + 1) (J := K + 1) ⟨VT.out.1, VT.out.2.1, rT5.mono (by have := bT5.lt; omega), VT.out.2.2.1, VT.out.2.2.2⟩ (by omega) (by omega)
     have TK : Hid (∀ w6, Below w5.heap.size w5 w6 → Calls Tryz.prog 23 #[.pointer (some ⟨r, 0, none⟩), .int .u32 (q : Int)] w6 fun e w' => ∃ zs A' c' g cp, e = .returned (.tuple #[]) ∧ Blk w' r 55 [.slice A' zs.length c', .slice (some ⟨g, 0, none⟩) (R.length + 1) cp] ∧
       Num 4294967296 zs (m * q) ∧ Res w' (r + 1) 34 A' c' (u32s zs) ∧ Rw9 w' (r + 1) (some ⟨g, 0, none⟩) cp (R ++ [q]) ∧ Below r w6 w') := fun w6 h6 => take_any (K := k + 1) (b5.below h6 b5.lt) (m5.next h6) (by omega) hq32 (o5.kept (row := none) ⟨h6.os, h6.tape, h6.output, h6.size, fun k hk _ => h6.block k hk⟩ (by cases (Value.slice AR R.length cR).ownBlock <;> simp)) (by rw [HRl.out]; omega)
     have T1 : Hid (ps.take (k + 1) = R ++ [q]) := by show _ = _; rw [List.take_succ_eq_append_getElem hlt, HR.out, hq]
     have T2 : Hid (prodTo9 ps (k + 1) = m * q) := by show _ = _; rw [prodTo9, Hm.out, hq, List.getD_eq_getElem?_getD, List.getElem?_eq_getElem hlt]; rfl
     have T3 : Hid (En ps (k + 1)) := HEn.out.next hlt (hq ▸ hp) (by rw [← hq, ← HR.out]; exact hmem)
     have T4 : Hid (m * q < 4294967296 ^ (k + 1 + 1)) := T2.out ▸ prodTo9_lt ps HD.out (k + 1) (by omega)
     have BT := hi9 bT5
     have RT := hi9 rT5
     have MP5 := hi9 mM5
     have K5 := hi9 k5
     have s5 : gT + 1 < w5.heap.size := mM5.lt
     have s6 : gT + 1 < r := by omega
     have b55 : Blk w5 r 55 [.slice Am zs.length cm, .slice AR R.length cR] := b5
     obtain ⟨p0, p1, p2, p3⟩ := b5.two
     have p4 := bT5.cell0
     clear hlook hput mM5 hg5 k5 b5 b55 bT5 m5 rT5 o5 hp hmem HO HB HBT HRT HMP HK HM HE IS HD HR hq hq32
     go_wp2_with fail
     refine IQ.out.mono ?_
     rintro e w9 ⟨rfl, rfl⟩
     go_wp2_with (first | (at_lookup; refine wpList_mp_look rfl _ _ _ _ rfl _ _ rfl rfl _ HLO.out ?_) | (at_mapUpdate; refine wpList_mp_put rfl _ _ _ _ rfl _ _ _ rfl rfl rfl _ HPU.out ?_))
     refine AB.out.mono ?_
     rintro e w6 ⟨rfl, h6⟩
     have HBT6 := hi9 (BT.out.below h6 BT.out.lt)
     have HRT6 := hi9 (RT.out.below (h6.mono (by omega)))
     have HMP6 := hi9 (MP5.out.same (h6.block _ s5))
     have HK6 := hi9 (bst K5.out h6 nl9)
     have TK6 := hi9 (TK.out w6 h6)
     clear TK AB BT RT MP5 K5 h6 p0 p1 p2 p3 p4
     go_wp2_with fail
     refine TK6.out.mono ?_
     rintro e w7 ⟨zs7, A7, c7, g7, cp7, rfl, b7, hz7, hr7, o7, h7⟩
     have X1 := hi9 b7
     have X2 := hi9 (Hv.of (K := k + 1 + 1) hz7 hr7 T4.out)
     have X3 := hi9 o7
     have X4 := hi9 (HBT6.out.below h7 (by omega))
     have X5 := hi9 (HRT6.out.below (h7.mono (by omega)))
     have X6 := hi9 (HMP6.out.same (h7.block _ (by omega)))
     have X7 := hi9 (HK6.out.trans (h7.mono (by omega)))
     clear b7 hz7 hr7 o7 h7 HBT6 HRT6 HMP6 HK6 TK6
     go_wp2_with fail
     go_roundw
     case rel => exact ⟨k + 1, zs7, A7, some ⟨g7, 0, none⟩, c7, cp7, by omega, by rw [Hm.out]; rfl, by go_num, T3.out, by rw [T1.out, List.length_append]; exact X1.out, by rw [T2.out]; exact X2.out, by rw [T1.out]; exact X3.out, X4.out, X5.out, by rw [T1.out]; exact X6.out, X7.out⟩
     case measure => simp [intOf]; omega
   ·rw [isP_false hp] at IQ
    obtain ⟨h40, hx9, hy9⟩ := HE.out.none hlt HEn.out (hq ▸ hp)
    subst h40 hx9 hy9
    clear hp hq hq32 HD IS HE
    go_wp2_with fail
    refine IQ.out.mono ?_
    rintro e w5 ⟨rfl, rfl⟩
    go_wp2_with fail
    refine bodyPost_ret (v := .tuple #[.bool false, .bool false, .int .i64 40]) (by simp [results, Tryz.f10]) rfl ?_
    exact ⟨rfl, HK.out⟩
  ·obtain rfl : k = ps.length := by omega
   obtain ⟨h0, hx9, hy9⟩ := HE.out.fine HEn.out
   have AB : Hid (Calls Tryz.prog 22 #[.agg #[.slice Am zs.length cm], .agg #[.slice At ts.length ct]] wr fun e w' => e = .returned (.bool (decide (t < m))) ∧ Below wr.heap.size wr w') := above_any HM.out (J := K + 1) ⟨VT.out.1, VT.out.2.1, HRT.out.mono (by have := HBT.out.lt; omega), VT.out.2.2.1, VT.out.2.2.2⟩ (by omega) (by omega)
   have hxm : decide (t < m) = x := by rw [hx9, Hm.out]
   have hym : (!lastB ps t ps.length) = y := by
    rw [hy9]
    cases hps : ps.length with
    | zero => simp [lastB]
    | succ n =>
     show (!decide (t < prodTo9 ps n)) = (decide (n + 1 = 0) || decide (prodTo9 ps n ≤ t))
     rw [decide_eq_false (by omega : ¬ n + 1 = 0), Bool.false_or, ← decide_not]
     exact decide_eq_decide.2 Nat.not_lt
   rw [hxm] at AB
   obtain ⟨lb, hlb⟩ : ∃ lb, lb = lastB ps t ps.length := ⟨_, rfl⟩
   rw [← hlb] at hym ⊢
   subst h0
   obtain ⟨p0, p1, p2, p3⟩ := HB.out.two
   have p4 := HBT.out.cell0
   clear hxm hx9 hy9 hlb HE IS HD HR HM HO HB HBT HRT HMP HEn VT Hm HRl hlt hk
   go_wp2_with fail
   refine AB.out.mono ?_
   rintro e w6 ⟨rfl, h6⟩
   have HK6 := hi9 (bst HK.out h6 nl9)
   have HY := hi9 hym
   clear h6 hym p0 p1 p2 p3 p4
   go_wp2_with fail
   refine bodyPost_ret (v := .tuple #[.bool x, .bool y, .int .i64 0]) (by simp [results, Tryz.f10, HY.out]) rfl ?_
   exact ⟨rfl, HK6.out⟩
end
end
section
open Go.RowKit
theorem prodTo9_take (ps : List Nat) : ∀ k, k ≤ ps.length → prodTo9 ps k = prodL9 (ps.take k)
 | 0, _ => by simp [prodTo9, prodL9]
 | k + 1, h => by
  rw [prodTo9, prodTo9_take ps k (by omega), List.take_succ_eq_append_getElem (by omega), prodL9_snoc, List.getD_eq_getElem?_getD, List.getElem?_eq_getElem (by omega)]
  rfl
theorem chosen_enough {d z : Int} {out : List Nat} (h : ChBoth d z out 0) : EnIs out (z.natAbs + z.natAbs) 0 true true ∧ out.length ≤ 10000 ∧ (∀ q ∈ out, Pr q ∧ q < 4294967296 ∧ d % (q : Int) ≠ 0) ∧ (∀ i (hi : i + 1 < out.length), out[i + 1] < out[i]) := by
 obtain ⟨_, _, j, hj, ho, h1, h2⟩ := h.2.2 rfl
 have hjl : j ≤ (Cs d 0).length := by
  refine Nat.le_of_not_lt fun hlt => ?_
  have h3 := h1 _ hlt
  rw [List.take_length] at h3
  rw [List.take_of_length_le (Nat.le_of_lt hlt)] at h2
  omega
 have hlen : out.length = j := by rw [ho, List.length_take]; omega
 have hmem : ∀ q ∈ out, Pr q ∧ q < 4294967296 ∧ d % (q : Int) ≠ 0 := fun q hq => by
  rw [ho] at hq
  have h3 := mem_Cs.1 (List.mem_of_mem_take hq)
  exact ⟨h3.1.2.2, by have := h3.1.2.1; omega, h3.2⟩
 have hfall : out.Pairwise (fun x y => y < x) := by rw [ho]; exact (Cs_falls d 0).sublist (List.take_sublist _ _)
 refine ⟨.inr (.inr ⟨rfl, ⟨fun i hi _ => (hmem _ (List.getElem_mem hi)).1, ?_⟩, ?_, ?_⟩), by omega, hmem, fun i hi => List.pairwise_iff_getElem.1 hfall i (i + 1) (by omega) hi (by omega)⟩
 ·rw [List.take_length]
  exact hfall.imp fun h => by omega
 ·rw [prodTo9_take _ _ nl9, List.take_length]
  exact (decide_eq_true (by rw [ho]; exact h2)).symm
 ·by_cases e : out.length = 0
  ·rw [decide_eq_true e]; rfl
  ·rw [prodTo9_take _ _ (by omega), decide_eq_true (p := prodL9 (out.take (out.length - 1)) ≤ z.natAbs + z.natAbs) (by
    rw [hlen]
    rw [ho, List.take_take, Nat.min_eq_left (by omega)]
    exact h1 _ (by omega))]
   simp
section
variable {w w' : World} {g g2 : Bool} {A A2 : Option Addr} {c c2 : Nat} {xs ys : List Nat} {d z : Int}
set_option maxHeartbeats 6400000 in
theorem bchosen_walk (h : Zh w g A c xs d 1048576) (h2 : Zh w g2 A2 c2 ys z 1048576) (hw : Bases w)
  (AW : Hid (∀ W (_ : Below w.heap.size w W), Calls Tryz.prog 6 #[] W fun e w' => e = .returned (.bool true) ∧ Below W.heap.size W w')) :
  Calls Tryz.prog 4 #[.agg #[.bool g, .slice A xs.length c], .agg #[.bool g2, .slice A2 ys.length c2]] w fun e w' => e = .returned (.bool true) ∧ Below w.heap.size w w' := by
 obtain ⟨out, code, hB, c1, _⟩ := choose_both h h2 hw
 have C1 := hi9 c1
 have HBo := hi9 hB
 obtain ⟨b, hbe⟩ : ∃ b, b = bitsOf (val 4294967296 ys) := ⟨_, rfl⟩
 have LN : Hid (∀ W (_ : Below w.heap.size w W), Calls Tryz.prog 5 #[.slice A2 ys.length c2] W fun e w' => e = .returned (.int .i64 (b : Nat)) ∧ Below W.heap.size W w') := fun W hW => by
  rw [hbe]
  have h9 := (h2.next hW).hv
  exact rlen_any A2 c2 ys W W.heap.size h9.rd nl9 h9.dig (by have := h9.len; omega)
 have MD : Hid (∀ p : Nat, 0 < p → p < 4294967296 → ∀ W (_ : Below w.heap.size w W), Calls Tryz.prog 12 #[.agg #[.bool g, .slice A xs.length c], .int .u32 (p : Int)] W fun e w' => e = .returned (.int .u32 (d % (p : Int))) ∧ Below W.heap.size W w') := fun p hp0 hp W hW => (h.next hW).rmod (by omega) p hp0 hp
 have EN : Hid (code = 0 → ∀ W (_ : Below w.heap.size w W) (P : Option Addr) (cP : Nat), Rd W W.heap.size P (u32s out) → Calls Tryz.prog 10 #[.agg #[.bool g2, .slice A2 ys.length c2], .slice P out.length cP] W fun e w' => e = .returned (.tuple #[.bool true, .bool true, .int .i64 ((0 : Nat) : Int)]) ∧ Below W.heap.size W w') := fun hc W hW P cP hP => by
  subst hc
  obtain ⟨e1, e2, e3, _⟩ := chosen_enough HBo.out
  exact enough_any (h2.next hW) (by omega) (HBo.out.2.2 rfl).2.1 hP (fun x hx => (e3 x hx).2.1) (by omega) (hw.keep hW hw.lt) e1
 have k0 := bel_two w (.cells #[.bool g, .slice A xs.length c] 25) (.cells #[.bool g2, .slice A2 ys.length c2] 25)
 have b0 : Blk ((w.alloc (.cells #[.bool g, .slice A xs.length c] 25)).alloc (.cells #[.bool g2, .slice A2 ys.length c2] 25)) w.heap.size 25 [.bool g, .slice A xs.length c] := (blk_one w (.bool g) (.slice A xs.length c)).heapAlloc _
 have b1 : Blk ((w.alloc (.cells #[.bool g, .slice A xs.length c] 25)).alloc (.cells #[.bool g2, .slice A2 ys.length c2] 25)) (w.heap.size + 1) 25 [.bool g2, .slice A2 ys.length c2] := blk_res1 _ _ _ _
 obtain ⟨l1, hl1⟩ : ∃ l, l = xs.length := ⟨_, rfl⟩
 obtain ⟨l2, hl2⟩ : ∃ l, l = ys.length := ⟨_, rfl⟩
 rw [← hl1, ← hl2] at C1 k0 b0 b1 ⊢
 rw [← hl2] at LN EN
 rw [← hl1] at MD
 clear h h2 hw c1 hB hbe hl1 hl2
 go_enter Tryz.func4, Tryz.ntmps4
 go_wp2_with fail
 refine (LN.out _ k0).mono ?_
 rintro e w1 ⟨rfl, hb⟩
 have k1 := bst k0 hb nl9
 have b0 := b0.below hb b0.lt
 have b1 := b1.below hb b1.lt
 clear hb k0 LN
 by_cases hbig : 4096 < b
 ·have t1 : decide (4096 < (b : Int)) = true := decide_eq_true (by omega)
  have t2 : decide (4096 < b) = true := decide_eq_true hbig
  clear hbig
  go_wp2_with fail
  refine (AW.out _ k1).mono ?_
  rintro e w2 ⟨rfl, hb⟩
  have k2 := bst k1 hb nl9
  go_wp2_with fail
  go_ret
  exact ⟨rfl, k2⟩
 ·have t1 : decide (4096 < (b : Int)) = false := decide_eq_false (by omega)
  have t2 : decide (4096 < b) = false := decide_eq_false hbig
  obtain ⟨p0, p1, p2, p3⟩ := b0.two
  obtain ⟨q0, q1, q2, q3⟩ := b1.two
  clear hbig
  go_wp2_with fail
  refine (C1.out _ k1).mono ?_
  rintro e w2 ⟨A9, c9, rfl, hr9, hc9, hb⟩
  have k2 := bst k1 hb nl9
  have b0 := b0.below hb b0.lt
  have b1 := b1.below hb b1.lt
  clear p0 p1 p2 p3 q0 q1 q2 q3 hb C1
  go_wp2_with fail
  refine (bnum_any _ _).mono ?_
  rintro e w4 ⟨rfl, rfl⟩
  by_cases hc0 : code = 0
  ·subst hc0
   obtain ⟨_, hol, hmem, hfall⟩ := chosen_enough HBo.out
   have E1 := hi9 (EN.out rfl _ k2 A9 c9 hr9)
   have HM := hi9 hmem
   have HF := hi9 hfall
   have H9 := hi9 hr9
   have B0 := hi9 b0
   obtain ⟨q0, q1, q2, q3⟩ := b1.two
   clear hmem hfall hr9 EN b0
   go_wp2_with fail
   refine E1.out.mono ?_
   rintro e w5 ⟨rfl, hb⟩
   have k5 := bst k2 hb nl9
   have H5 := hi9 ((H9.out.below hb).mono hb.size)
   have b5 := B0.out.below hb B0.out.lt
   clear hb q0 q1 q2 q3 E1 H9 B0
   go_wp2_with fail
   refine (bnum_any _ _).mono ?_
   rintro e w6 ⟨rfl, rfl⟩
   go_wp2_with fail
   go_loopw [10, 11, 52] (fun _ _ iv wr => ∃ k : Nat, k ≤ out.length ∧ iv = .int .i64 (k : Int) ∧ Below w6.heap.size w6 wr) (fun _ _ iv _ => out.length - (intOf iv).toNat)
   case atStart => exact ⟨0, Nat.zero_le _, rfl, br9⟩
   case round =>
    obtain ⟨k, hk, rfl, hbr⟩ := hrel
    have kr := bst k5 hbr nl9
    have HBR := hi9 hbr
    by_cases hlt : k < out.length
    ·have hne : u32s out ≠ [] := fun e => by have h9 := congrArg List.length e; rw [u32s_length, List.length_nil] at h9; omega
     obtain ⟨o9, f9, rfl, hw9, hc9⟩ := H5.out hne
     have HX : Hid (∀ j (h : j < out.length), wr.cell? ⟨o9, f9 + j, none⟩ = some (.int .u32 (out[j] : Nat))) := fun j h => (hbr.cell (p := ⟨o9, f9 + j, none⟩) hw9).trans (hc9 j _ (u32s_at h))
     have x9 := HX.out k hlt
     have b9 := b5.below hbr b5.lt
     obtain ⟨q0, q1, q2, q3⟩ := b9.two
     obtain ⟨v, hv⟩ : ∃ v, v = out[k] := ⟨_, rfl⟩
     have HV := hi9 hv
     obtain ⟨hp1, hp2, hp3⟩ := HM.out v (by rw [hv]; exact List.getElem_mem hlt)
     rw [← hv] at x9
     have IS := hi9 (fun W => ris_yes v hp1 hp2 W)
     obtain ⟨m, hm⟩ : ∃ m, m = d % (v : Int) := ⟨_, rfl⟩
     have HMD := hi9 (MD.out v (by have := hp1.1; omega) hp2 wr kr)
     rw [← hm] at HMD hp3
     have t5 : (m == 0) = false := beq_eq_false_iff_ne.2 hp3
     have HKR := hi9 kr
     clear hc9 hne hv hp1 hp2 hp3 hm hbr kr b9
     by_cases hk0 : k = 0
     ·subst hk0
      have x0 : wr.cell? ⟨o9, f9, none⟩ = some (.int .u32 (v : Int)) := x9
      clear x9
      go_wp2_with fail
      refine (IS.out _).mono ?_
      rintro e w7 ⟨rfl, rfl⟩
      go_wp2_with fail
      refine HMD.out.mono ?_
      rintro e w8 ⟨rfl, hb⟩
      have HB8 := hi9 (bst HBR.out hb nl9)
      clear hb q0 q1 q2 q3 HMD
      go_wp2_with fail
      go_roundw
      case rel => exact ⟨1, by omega, rfl, HB8.out⟩
      case measure => simp [intOf]; omega
     ·obtain ⟨k1, hk1⟩ : ∃ k1, k = k1 + 1 := ⟨k - 1, by omega⟩
      have x8 : wr.cell? ⟨o9, f9 + k1, none⟩ = some (.int .u32 (out[k1]'(by omega) : Nat)) := HX.out k1 (by omega)
      obtain ⟨u, hu⟩ : ∃ u, u = out[k1]'(by omega) := ⟨_, rfl⟩
      have huv : ¬ u ≤ v := by
       have h9 := HF.out k1 (by omega)
       have h8 : out[k1 + 1]'(by omega) = v := by rw [HV.out]; congr 1; omega
       omega
      rw [← hu] at x8
      have t6 : decide ((u : Int) ≤ (v : Int)) = false := decide_eq_false (by omega)
      have t7 : decide (u ≤ v) = false := decide_eq_false huv
      have t8 : decide (0 < (k : Int)) = true := decide_eq_true (by omega)
      have t9 : decide (0 < k) = true := decide_eq_true (by omega)
      have tk : (k : Int) - 1 = (k1 : Int) := by omega
      have tw : IntKind.i64.wrap (k1 : Int) = (k1 : Int) := by rw [IntKind.wrap_i64]; omega
      have hk1l : k1 < out.length := by omega
      have HK1 := hi9 hk1
      clear hu huv hk1 hk0
      go_wp2_with fail
      refine (IS.out _).mono ?_
      rintro e w7 ⟨rfl, rfl⟩
      go_wp2_with fail
      refine HMD.out.mono ?_
      rintro e w8 ⟨rfl, hb⟩
      have HB8 := hi9 (bst HBR.out hb nl9)
      clear hb q0 q1 q2 q3 HMD
      go_wp2_with fail
      go_roundw
      case rel => exact ⟨k + 1, by omega, by go_num, HB8.out⟩
      case measure => simp [intOf]; omega
    ·obtain rfl : k = out.length := by omega
     clear hlt hbr
     go_wp2_with fail
     refine (AW.out _ kr).mono ?_
     rintro e w7 ⟨rfl, hb⟩
     have k7 := bst kr hb nl9
     go_wp2_with fail
     go_ret
     exact ⟨rfl, k7⟩
  ·have ho := HBo.out.2.1 hc0
   subst ho
   have t3 : ((code : Int) != 0) = true := by simp; omega
   clear hc0
   go_wp2_with fail
   refine (AW.out _ k2).mono ?_
   rintro e w5 ⟨rfl, hb⟩
   have k5 := bst k2 hb nl9
   go_wp2_with fail
   go_ret
   exact ⟨rfl, k5⟩
end
end
end Go.Proofs.YtcjgilagldbjnaaGreatDoor
