/- The contracts of fieldOf, power, bezout. Conditions: p below 2^32, a prime where it is said; bases reads 2, 7, 61. What modpoly's calls answer of a number that is no prime. Conditions: it is below 2^32; bases reads 2, 7, 61. The contract of bezout. Conditions: p a prime below 2^32; both normal; bases reads 2, 7, 61. modpoly's calls modulo a prime: Normal, Monic, Add, Sub, Mul, Scale, Eval, Deriv. Conditions: p a prime below 2^32; bases reads 2, 7, 61; fewer than 2^40 coefficients. -/
import Derived.Test.YtddhhndnkjajmaaDoorPkMq25
import Derived.Test.YtddhhndnkjajmaaDoorShelf
import Derived.Lib.ItoaNum
namespace Go.Proofs.YtddhhndnkjajmaaDoor
section
open Go.RowKit

set_option maxHeartbeats 800000 in
theorem fieldOf_no (p : Nat) (w : World) (hpr : ¬ Pr p) (hp : p < 4294967296) (hw : Bases w) :
    Calls Tryd.prog 50 #[.int .u32 (p : Int)] w fun e w' => e = .returned (.tuple #[.agg #[.int .u64 0, .int .u64 0], .int .i64 40]) ∧ Below w.heap.size w w' := by
  have Hi := Lib.hid (fun W hW => is_no p hpr hp W hW)
  have Hw : Hid (∀ o, Bases (w.alloc o)) := fun o => hw.later ((Below.refl w.heap.size w).alloc (Nat.le_refl _) o)
  clear hpr hw
  go_enter Tryd.func50, Tryd.ntmps50
  go_wp2_with (go_at_call 75; (with_reducible refine (Hi.out _ (Hw.out _)).mono ?_); rintro e w1 ⟨rfl, rfl⟩)
  refine bodyPost_ret (v := .tuple #[.agg #[.int .u64 0, .int .u64 0], .int .i64 40]) (by simp [results, Tryd.results50, go_sem, *]) rfl ⟨rfl, ?_⟩
  exact (Below.refl _ _).alloc (Nat.le_refl _) _

set_option maxHeartbeats 800000 in
theorem fieldOf_yes (p : Nat) (w : World) (hpr : Pr p) (hp : p < 4294967296) (hw : Bases w) :
    Calls Tryd.prog 50 #[.int .u32 (p : Int)] w fun e w' => e = .returned (.tuple #[.agg #[.int .u64 (p : Int), .int .u64 (spN p : Int)], .int .i64 0]) ∧ Below w.heap.size w w' := by
  have Hi := Lib.hid (fun W hW => is_yes p hpr hp W hW)
  have Hw : Hid (∀ o, Bases (w.alloc o)) := fun o => hw.later ((Below.refl w.heap.size w).alloc (Nat.le_refl _) o)
  have hp0 := hpr.pos
  have t4 : ((p : Int) == 0) = false := bz hp0
  obtain ⟨r, hr⟩ : ∃ r, r = 18446744073709551615 % p := ⟨_, rfl⟩
  have hrl : r < p := by rw [hr]; exact Nat.mod_lt _ hp0
  obtain ⟨s, hs⟩ : ∃ s, s = spN p := ⟨_, rfl⟩
  have e : s = (r + 1) % p := by rw [hs, hr]; unfold spN; rw [Nat.mod_add_mod]
  have hsl : s < p := by rw [hs]; exact Nat.mod_lt _ hp0
  rw [← hs]
  have t1 : (18446744073709551615 : Int) % (p : Int) = (r : Int) := by rw [hr]; rfl
  obtain ⟨r1, hr1⟩ : ∃ r1, r1 = r + 1 := ⟨_, rfl⟩
  have t2 : (r : Int) + 1 = (r1 : Int) := by omega
  have t3 : (r1 : Int) % (p : Int) = (s : Int) := by rw [e, ← hr1]; exact (Int.natCast_emod _ _).symm
  have hr1b : r1 ≤ 4294967296 := by omega
  clear hpr hw hr hs e hr1
  go_enter Tryd.func50, Tryd.ntmps50
  go_wp2_with (go_at_call 75; (with_reducible refine (Hi.out _ (Hw.out _)).mono ?_); rintro e w1 ⟨rfl, rfl⟩)
  refine bodyPost_ret (v := .tuple #[.agg #[.int .u64 (p : Int), .int .u64 (s : Int)], .int .i64 0]) (by simp [results, Tryd.results50, go_sem, *]) rfl ⟨rfl, ?_⟩
  exact (Below.refl _ _).alloc (Nat.le_refl _) _

theorem shr_nat (x t : Nat) : (x : Int) / 2 ^ t = ((x / 2 ^ t : Nat) : Int) := by rw [Int.natCast_ediv, Int.natCast_pow]; rfl
theorem one_bit (x : Nat) (h : x < 18446744073709551616) : bits .and .u64 (x : Int) 1 = ((x % 2 : Nat) : Int) := by
  have := bits_and_u64_nat x 1 h (by omega)
  rw [show ((1 : Nat) : Int) = 1 from rfl] at this
  rw [this, Nat.and_one_is_mod]
theorem size_alloc (w : World) (o : Obj) : (w.alloc o).heap.size = w.heap.size + 1 := by simp
theorem bitLenAux_le : ∀ f x, Lib.bitLenAux f x ≤ f
  | 0, _ => Nat.le_refl 0
  | f + 1, x => by
    rw [Lib.bitLenAux]
    split
    · omega
    · have := bitLenAux_le f (x / 2); omega
theorem bitLen_le (x : Nat) : Lib.bitLen x ≤ 64 := bitLenAux_le 64 x
theorem bitLenAux_lt : ∀ f x, x < 2 ^ f → x < 2 ^ Lib.bitLenAux f x
  | 0, x, h => h
  | f + 1, x, h => by
    rw [Lib.bitLenAux]
    split
    · rename_i h0; rw [h0]; decide
    · have := bitLenAux_lt f (x / 2) (by rw [Nat.pow_succ] at h; omega)
      rw [Nat.pow_add]; omega
theorem bitLen_lt (x : Nat) (h : x < 18446744073709551616) : x < 2 ^ Lib.bitLen x := bitLenAux_lt 64 x h
theorem one_lst (p : Nat) (hp : 1 < p) : Nf p [1] := ⟨fun x hx => by rw [List.mem_singleton.1 hx]; exact hp, rfl⟩
theorem PR1.rest {p : Nat} {w w' : World} {z : Z} {m r q : List Nat} {e : Ending} (h : PR1 w r e w') (hd : Dv p z (zo m) m.length q r) : ∃ A c, e = .returned (.slice A r.length c) ∧ Res w' w.heap.size 24 A c (u32s r) ∧ Rs p m z r ∧ Below w.heap.size w w' := by
  obtain ⟨v, rfl, A, c, rfl, hr, hb⟩ := h
  exact ⟨A, c, rfl, hr, Rs.of_dv hd, hb⟩

set_option maxHeartbeats 3200000 in
theorem fpower_any (p sp : Nat) (A1 A2 : Option Addr) (c1 c2 ex : Nat) (xs ys : List Nat) (w : World) (B : Nat) (hpr : Pr p) (hp : p < 4294967296) (hsp : sp = spN p) (hw : Bases w) (hr1 : Rd w B A1 (u32s xs)) (hr2 : Rd w B A2 (u32s ys)) (hB : B ≤ w.heap.size) (hm1 : xs.length ≤ Big) (hm2 : ys.length ≤ Sm) (d1 : Nf p xs) (d2 : Nf p ys) (ny : ys ≠ []) (he : ex < 18446744073709551616) :
    Calls Tryd.prog 73 #[fieldV p sp, .slice A1 xs.length c1, .int .u64 (ex : Int), .slice A2 ys.length c2] w fun e w' => ∃ r, PR1 w r e w' ∧ Rs p ys ((zo xs).pow ex) r := by
  have hmb : ys.length ≤ 1099511627776 := hm2
  have hma : xs.length ≤ 17592186044416 := hm1
  obtain ⟨W1, hW1⟩ : ∃ W1, W1 = w.alloc (.cells #[.int .u64 (p : Int), .int .u64 (sp : Int)] 77 (0, 0)) := ⟨_, rfl⟩
  have hb0 : Below w.heap.size w W1 := by rw [hW1]; exact (Below.refl _ _).alloc (Nat.le_refl _) _
  have hs1 : W1.heap.size = w.heap.size + 1 := by rw [hW1]; simp
  have hbf : Blk W1 w.heap.size 77 [.int .u64 (p : Int), .int .u64 (sp : Int)] := by rw [hW1]; exact Blk.new_ rfl
  have f0 := hbf.cell 0
  have f1 := hbf.cell 1
  simp only [List.getElem?_cons_zero, List.getElem?_cons_succ] at f0 f1
  have HF0 := Lib.hid f0
  have HF1 := Lib.hid f1
  have Hr1 := Lib.hid ((hr1.below (hb0.mono hB)).mono (Nat.le_trans hB hb0.size))
  have Hr2 := Lib.hid ((hr2.below (hb0.mono hB)).mono (Nat.le_trans hB hb0.size))
  have HREST : Hid (∀ (W : World) A c (a : List Nat), Below W1.heap.size W1 W → Rd W W.heap.size A (u32s a) → a.length ≤ 17592186044416 → Nf p a → Calls Tryd.prog 81 #[fieldV p sp, .slice A a.length c, .slice A2 ys.length c2] W fun e w' => ∃ q r, PR1 W r e w' ∧ Dv p (zo a) (zo ys) ys.length q r) :=
    fun W A c a hW h1 h3 h4 => frest_any p sp A A2 c c2 a ys W _ hpr hp ((hw.later hb0).later hW) h1 ((Hr2.out.below hW).mono hW.size) (Nat.le_refl _) h3 h4 d2 ny
  have HPROD : Hid (∀ (W : World) A A' c c' (a b : List Nat), Rd W W.heap.size A (u32s a) → Rd W W.heap.size A' (u32s b) → a.length ≤ 1099511627776 → b.length ≤ 1099511627776 → Nf p a → Nf p b → Calls Tryd.prog 55 #[fieldV p sp, .slice A a.length c, .slice A' b.length c'] W (PS p W (zo a * zo b))) :=
    fun W A A' c c' a b h1 h2 h3 h4 h5 h6 => fproduct_any p sp A A' c c' a b W _ hpr hp hsp h1 h2 (Nat.le_refl _) (by unfold Big; omega) (by unfold Big; omega) h5 h6
  have HREST1 : Hid (∀ (W : World) g, Below W1.heap.size W1 W → Blk W g 24 [.int .u32 1] → Calls Tryd.prog 81 #[fieldV p sp, .slice (some ⟨g, 0, none⟩) 1 1, .slice A2 ys.length c2] W fun e w' => ∃ q r, PR1 W r e w' ∧ Dv p (zo [1]) (zo ys) ys.length q r) :=
    fun W g hW hb => HREST.out W _ 1 [1] hW (Rd.of_blk (ys := [.int .u32 1]) hb hb.lt 0 (fun k v hv => by rw [Nat.zero_add]; exact hv)) (by simp) (one_lst p hpr.two)
  obtain ⟨R, hR⟩ : ∃ R, R = fun e w' => ∃ r, PR1 w r e w' ∧ Rs p ys ((zo xs).pow ex) r := ⟨_, rfl⟩
  have HR := Lib.hid hR
  show Calls _ _ _ _ (fun e w' => ∃ r, PR1 w r e w' ∧ Rs p ys ((zo xs).pow ex) r)
  rw [← hR]
  have HW1 := Lib.hid hW1
  have Hb0 := Lib.hid hb0
  have Hs1 := Lib.hid hs1
  have Hd1 := Lib.hid d1
  have Hny := Lib.hid ny
  obtain ⟨L, hL⟩ : ∃ L, L = Lib.bitLen ex := ⟨_, rfl⟩
  have HLEN : Hid (∀ W, Calls Tryd.prog 98 #[.int .u64 (ex : Int)] W fun e w' => e = .returned (.int .i64 (L : Int)) ∧ W = w') := fun W => (Tryd.bits_Len64 (ex : Int) W (by omega) (by omega)).mono fun _ _ h => ⟨by rw [h.1, hL]; rfl, h.2.symm⟩
  have hL64 : L ≤ 64 := by rw [hL]; exact bitLen_le ex
  have HLe : Hid (ex / 2 ^ L = 0) := by show _ = _; rw [hL]; exact Nat.div_eq_of_lt (bitLen_lt ex he)
  have HB1 : Hid (Blk (W1.alloc (.cells #[.int .u32 1] 24 (0, 0))) (w.heap.size + 1) 24 [.int .u32 1]) := by
    have := Blk.new_ (w := W1) (t := 24) (cs := #[.int .u32 1]) (vs := [.int .u32 1]) rfl
    rwa [hs1] at this
  clear hR hW1 hr1 hr2 hbf hw f0 f1 hb0 hs1 d1 ny hL hsp
  go_enter Tryd.func73, Tryd.ntmps73
  go_wp2_with fail
  rw [← HW1.out]
  refine (HREST1.out _ _ ((Below.refl _ _).alloc (Nat.le_refl _) _) HB1.out).mono ?_
  rintro _ w2 ⟨q, o, hpo, hdv⟩
  obtain ⟨A3, c3, rfl, ho, hrs, hb2⟩ := hpo.rest hdv
  have hb2' : Below W1.heap.size W1 w2 := bel1 hb2
  have hz1 : w.heap.size < W1.heap.size := by rw [Hs1.out]; omega
  have g0 := (hb2'.cell (p := ⟨w.heap.size, 0, none⟩) hz1).trans HF0.out
  have g1 := (hb2'.cell (p := ⟨w.heap.size, 1, none⟩) hz1).trans HF1.out
  have Hb2 := Lib.hid hb2'
  have Hra := Lib.hid ((Hr1.out.below hb2').mono hb2'.size)
  have Ho := Lib.hid ho
  have Hrs := Lib.hid hrs
  clear hpo hdv ho hrs hb2 hb2'
  go_wp2_with (first
    | (go_at_call 81; (with_reducible refine (HREST.out _ _ _ _ Hb2.out Hra.out hma Hd1.out).mono ?_); rintro _ w3 ⟨q3, a1, hp3, hd3⟩; obtain ⟨A4, c4, rfl, ha, hra, hb3⟩ := hp3.rest hd3; clear hp3 hd3)
    | (go_at_call 98; (with_reducible refine (HLEN.out _).mono ?_); rintro _ _ ⟨rfl, rfl⟩))
  have Hb3 := Lib.hid (Hb2.out.trans (hb3.mono Hb2.out.size))
  have Ho3 := Lib.hid ((Ho.out.below hb3 (Nat.le_refl _)).mono (B' := w.heap.size) (by rw [size_alloc, Hs1.out]; omega))
  have Ha := Lib.hid ha.rd
  have Hra2 := Lib.hid hra
  clear g0 g1 ha hra
  go_loopw [9, 10] (fun ov iv wr => ∃ (k : Nat) (o : List Nat) (A : Option Addr) (c : Nat), k ≤ L ∧ iv = .int .i64 ((k : Int) - 1) ∧ ov = .slice A o.length c ∧ Hid (Res wr w.heap.size 24 A c (u32s o)) ∧ Hid (Rs p ys ((zo xs).pow (ex / 2 ^ k)) o) ∧ Below w3.heap.size w3 wr) (fun _ iv _ => (intOf iv + 1).toNat)
  case atStart =>
    refine ⟨L, o, A3, c3, Nat.le_refl _, rfl, rfl, Ho3, ?_, Below.refl _ _⟩
    show Rs _ _ _ _
    rw [HLe.out]
    exact Hrs.out.of_cg (Cg.of_eq fun x => by rw [Z.pow, Z.v_c, zo_cons, zo_nil]; simp)
  case round =>
    obtain ⟨k, o, A, c, hk, rfl, rfl, hro, hrs, hbel⟩ := hrel
    have hb1 := Hb3.out.trans (hbel.mono Hb3.out.size)
    have g0 := (hb1.cell (p := ⟨w.heap.size, 0, none⟩) hz1).trans HF0.out
    have g1 := (hb1.cell (p := ⟨w.heap.size, 1, none⟩) hz1).trans HF1.out
    have Hb1 := Lib.hid hb1
    have Hbel := Lib.hid hbel
    clear hb1 hbel
    rcases k with _ | k
    · have e : (((0 : Nat) : Int) - 1) = -1 := rfl
      rw [e]
      go_wp2_with fail
      rw [HR.out]
      have h9 := hrs.out
      rw [Nat.pow_zero, Nat.div_one] at h9
      exact ⟨o, ⟨_, rfl, A, c, rfl, hro.out, Hb0.out.trans (Hb1.out.mono (by rw [Hs1.out]; omega))⟩, h9⟩
    · have e : ((k + 1 : Nat) : Int) - 1 = (k : Int) := by omega
      rw [e]
      have hol : o.length ≤ 1099511627776 := by have := hrs.out.lt; omega
      have Hon := Lib.hid hrs.out.nf
      have Hord := Lib.hid hro.out.rd
      have Hord2 : Hid (Rd wr.drew wr.drew.heap.size A (u32s o)) := Hord.out.dr (Dr.refl wr).drew
      have hzr : w.heap.size < wr.heap.size := by have := Hb1.out.size; omega
      go_upto_region 6 with (fail)
      go_region_held3 (fun W => W.cell? ⟨w.heap.size, 0, none⟩ = some (.int .u64 (p : Int)) ∧ W.cell? ⟨w.heap.size, 1, none⟩ = some (.int .u64 (sp : Int))) (go_keep) (first
        | (go_at_call 55; (with_reducible refine (HPROD.out _ _ _ _ _ _ _ (by first | exact Hord.out | exact Hord2.out) (by first | exact Hord.out | exact Hord2.out) hol hol Hon.out Hon.out).mono ?_); rintro _ w5 ⟨r5, ⟨_, rfl, ⟨A5, c5, rfl, hr5, hb5⟩⟩, hn5, hc5⟩; have hq1 : Below wr.heap.size wr w5 := (by first | exact hb5 | exact (Below.refl _ _).drew.trans hb5); have k0 := (hq1.cell (p := ⟨w.heap.size, 0, none⟩) hzr).trans g0; have k1 := (hq1.cell (p := ⟨w.heap.size, 1, none⟩) hzr).trans g1; have HQ := Lib.hid hq1; have Hr5 := Lib.hid hr5.rd; have Hn5 := Lib.hid hn5; have Hc5 := Lib.hid hc5; have hl5 : r5.length ≤ 17592186044416 := (by have := prod_len hpr Hon.out Hon.out hn5 hc5; omega); have hz5 : w.heap.size < w5.heap.size := (by have := hq1.size; omega); clear hb5 hq1 hr5 hn5 hc5)
        | (go_at_call 81; (with_reducible refine (HREST.out _ _ _ _ (Hb1.out.trans (HQ.out.mono Hb1.out.size)) Hr5.out hl5 Hn5.out).mono ?_); rintro _ w6 ⟨q6, r6, ⟨_, rfl, ⟨A6, c6, rfl, hr6, hb6⟩⟩, hd6⟩; have m0 := (hb6.cell (p := ⟨w.heap.size, 0, none⟩) hz5).trans k0; have m1 := (hb6.cell (p := ⟨w.heap.size, 1, none⟩) hz5).trans k1; have Hb6 := Lib.hid hb6; have Hr6 := Lib.hid hr6; have Hd6 := Lib.hid hd6; clear hb6 hr6 hd6))
      have Hsq : Hid (Rs p ys ((zo xs).pow (2 * (ex / 2 ^ (k + 1)))) r6) := hrs.out.sq ((Rs.of_dv Hd6.out).of_cg Hc5.out.symm)
      obtain ⟨E, hE⟩ : ∃ E, E = ex / 2 ^ k := ⟨_, rfl⟩
      have hE2 : ex / 2 ^ (k + 1) = E / 2 := by rw [hE, Nat.pow_succ, Nat.div_div_eq_div_mul]
      rw [hE2] at Hsq
      have HE := Lib.hid hE
      have s1 : (ex : Int) / 2 ^ k = (E : Int) := by rw [hE]; exact shr_nat ex k
      have hEb : E < 18446744073709551616 := by rw [hE]; exact Nat.lt_of_le_of_lt (Nat.div_le_self _ _) he
      have s2 := one_bit E hEb
      clear hE hE2 e g0 g1 k0 k1
      have Hb36 := Lib.hid (Hbel.out.trans ((HQ.out.trans (Hb6.out.mono HQ.out.size)).mono Hbel.out.size))
      have hz6 : w.heap.size < w6.heap.size := by have := Hb6.out.size; omega
      by_cases hodd : E % 2 = 1
      · rw [hodd] at s2
        have HE3 : Hid (2 * (E / 2) + 1 = E) := by show _ = _; omega
        have Hb16 := Lib.hid (Hb3.out.trans (Hb36.out.mono Hb3.out.size))
        have Hrd6 := Lib.hid Hr6.out.rd
        have Hrd6d : Hid (Rd w6.drew w6.drew.heap.size A6 (u32s r6)) := Hrd6.out.dr (Dr.refl w6).drew
        have Hra6 := Lib.hid ((Ha.out.below Hb36.out).mono Hb36.out.size)
        have Hra6d : Hid (Rd w6.drew w6.drew.heap.size A4 (u32s a1)) := Hra6.out.dr (Dr.refl w6).drew
        have hl6 : r6.length ≤ 1099511627776 := by have := Hsq.out.lt; omega
        have hla : a1.length ≤ 1099511627776 := by have := Hra2.out.lt; omega
        have Hn6 := Lib.hid Hsq.out.nf
        have Hna := Lib.hid Hra2.out.nf
        clear hodd
        go_upto_region 8 with (fail)
        go_region_held3 (fun W => W.cell? ⟨w.heap.size, 0, none⟩ = some (.int .u64 (p : Int)) ∧ W.cell? ⟨w.heap.size, 1, none⟩ = some (.int .u64 (sp : Int))) (go_keep) (first
          | (go_at_call 55; (with_reducible refine (HPROD.out _ _ _ _ _ _ _ (by first | exact Hrd6.out | exact Hrd6d.out) (by first | exact Hra6.out | exact Hra6d.out) hl6 hla Hn6.out Hna.out).mono ?_); rintro _ w7 ⟨r7, ⟨_, rfl, ⟨A7, c7, rfl, hr7, hb7⟩⟩, hn7, hc7⟩; have hq2 : Below w6.heap.size w6 w7 := (by first | exact hb7 | exact (Below.refl _ _).drew.trans hb7); have k0 := (hq2.cell (p := ⟨w.heap.size, 0, none⟩) hz6).trans m0; have k1 := (hq2.cell (p := ⟨w.heap.size, 1, none⟩) hz6).trans m1; have HQ2 := Lib.hid hq2; have Hr7 := Lib.hid hr7.rd; have Hn7 := Lib.hid hn7; have Hc7 := Lib.hid hc7; have hl7 : r7.length ≤ 17592186044416 := (by have := prod_len hpr Hn6.out Hna.out hn7 hc7; omega); have hz7 : w.heap.size < w7.heap.size := (by have := hq2.size; omega); clear hb7 hq2 hr7 hn7 hc7)
          | (go_at_call 81; (with_reducible refine (HREST.out _ _ _ _ (Hb16.out.trans (HQ2.out.mono Hb16.out.size)) Hr7.out hl7 Hn7.out).mono ?_); rintro _ w8 ⟨q8, r8, ⟨_, rfl, ⟨A8, c8, rfl, hr8, hb8⟩⟩, hd8⟩; have n0 := (hb8.cell (p := ⟨w.heap.size, 0, none⟩) hz7).trans k0; have n1 := (hb8.cell (p := ⟨w.heap.size, 1, none⟩) hz7).trans k1; have Hb8 := Lib.hid hb8; have Hr8 := Lib.hid hr8; have Hd8 := Lib.hid hd8; clear hb8 hr8 hd8))
        all_goals
          have Hfin : Hid (Rs p ys ((zo xs).pow (ex / 2 ^ k)) r8) := by
            show Rs _ _ _ _
            rw [← HE.out, ← HE3.out]
            exact Rs.sq1 Hsq.out Hra2.out ((Rs.of_dv Hd8.out).of_cg Hc7.out.symm)
          go_wp2_with fail
          go_roundw
          case rel => exact ⟨k, r8, A8, c8, by omega, rfl, rfl, Hr8.out.mono (by omega), Hfin, Hb36.out.trans ((HQ2.out.trans (Hb8.out.mono HQ2.out.size)).mono Hb36.out.size)⟩
          case measure => simp [intOf] <;> omega
      · rw [show E % 2 = 0 by omega] at s2
        have Hfin : Hid (Rs p ys ((zo xs).pow (ex / 2 ^ k)) r6) := by
          show Rs _ _ _ _
          have h9 := Hsq.out
          rw [show 2 * (E / 2) = E by omega, HE.out] at h9
          exact h9
        go_wp2_with fail
        go_roundw
        case rel => exact ⟨k, r6, A6, c6, by omega, rfl, rfl, Hr6.out.mono (by omega), Hfin, Hb36.out⟩
        case measure => simp [intOf] <;> omega
end
section
open Go.RowKit
set_option maxHeartbeats 800000 in
theorem pNormal_no (Aa : Option Addr) (ma capa : Nat) (p : Nat) (w : World) (hpr : ¬ Pr p) (hp : p < 4294967296) (hw : Bases w) :
    Calls Tryd.prog 13 #[.slice Aa ma capa, .int .u32 (p : Int)] w fun e w' => e = .returned (.tuple #[.slice none 0 0, .int .i64 40]) ∧ Below w.heap.size w w' := by
  have HF := Lib.hid (fieldOf_no p w hpr hp hw)
  clear hpr hw
  go_enter Tryd.func13, Tryd.ntmps13
  go_wp2_with (go_at_call 50; (with_reducible refine HF.out.mono ?_); rintro _ w1 ⟨rfl, hb⟩)
  refine bodyPost_ret (v := .tuple #[.slice none 0 0, .int .i64 40]) (by simp [results, Tryd.results13, go_sem, *]) rfl ⟨rfl, ?_⟩
  exact hb.trans ((Below.refl _ _).alloc hb.size _)

set_option maxHeartbeats 800000 in
theorem pDegree_no (Aa : Option Addr) (ma capa : Nat) (p : Nat) (w : World) (hpr : ¬ Pr p) (hp : p < 4294967296) (hw : Bases w) :
    Calls Tryd.prog 14 #[.slice Aa ma capa, .int .u32 (p : Int)] w fun e w' => e = .returned (.tuple #[.int .i64 0, .int .i64 40]) ∧ Below w.heap.size w w' := by
  have HF := Lib.hid (fieldOf_no p w hpr hp hw)
  clear hpr hw
  go_enter Tryd.func14, Tryd.ntmps14
  go_wp2_with (go_at_call 50; (with_reducible refine HF.out.mono ?_); rintro _ w1 ⟨rfl, hb⟩)
  refine bodyPost_ret (v := .tuple #[.int .i64 0, .int .i64 40]) (by simp [results, Tryd.results14, go_sem, *]) rfl ⟨rfl, ?_⟩
  exact hb.trans ((Below.refl _ _).alloc hb.size _)

set_option maxHeartbeats 800000 in
theorem pMonic_no (Aa : Option Addr) (ma capa : Nat) (p : Nat) (w : World) (hpr : ¬ Pr p) (hp : p < 4294967296) (hw : Bases w) :
    Calls Tryd.prog 15 #[.slice Aa ma capa, .int .u32 (p : Int)] w fun e w' => e = .returned (.tuple #[.slice none 0 0, .int .i64 40]) ∧ Below w.heap.size w w' := by
  have HF := Lib.hid (fieldOf_no p w hpr hp hw)
  clear hpr hw
  go_enter Tryd.func15, Tryd.ntmps15
  go_wp2_with (go_at_call 50; (with_reducible refine HF.out.mono ?_); rintro _ w1 ⟨rfl, hb⟩)
  refine bodyPost_ret (v := .tuple #[.slice none 0 0, .int .i64 40]) (by simp [results, Tryd.results15, go_sem, *]) rfl ⟨rfl, ?_⟩
  exact hb.trans ((Below.refl _ _).alloc hb.size _)

set_option maxHeartbeats 800000 in
theorem pAdd_no (Aa : Option Addr) (ma capa : Nat) (Ab : Option Addr) (mb capb : Nat) (p : Nat) (w : World) (hpr : ¬ Pr p) (hp : p < 4294967296) (hw : Bases w) :
    Calls Tryd.prog 16 #[.slice Aa ma capa, .slice Ab mb capb, .int .u32 (p : Int)] w fun e w' => e = .returned (.tuple #[.slice none 0 0, .int .i64 40]) ∧ Below w.heap.size w w' := by
  have HF := Lib.hid (fieldOf_no p w hpr hp hw)
  clear hpr hw
  go_enter Tryd.func16, Tryd.ntmps16
  go_wp2_with (go_at_call 50; (with_reducible refine HF.out.mono ?_); rintro _ w1 ⟨rfl, hb⟩)
  refine bodyPost_ret (v := .tuple #[.slice none 0 0, .int .i64 40]) (by simp [results, Tryd.results16, go_sem, *]) rfl ⟨rfl, ?_⟩
  exact hb.trans ((Below.refl _ _).alloc hb.size _)

set_option maxHeartbeats 800000 in
theorem pSub_no (Aa : Option Addr) (ma capa : Nat) (Ab : Option Addr) (mb capb : Nat) (p : Nat) (w : World) (hpr : ¬ Pr p) (hp : p < 4294967296) (hw : Bases w) :
    Calls Tryd.prog 17 #[.slice Aa ma capa, .slice Ab mb capb, .int .u32 (p : Int)] w fun e w' => e = .returned (.tuple #[.slice none 0 0, .int .i64 40]) ∧ Below w.heap.size w w' := by
  have HF := Lib.hid (fieldOf_no p w hpr hp hw)
  clear hpr hw
  go_enter Tryd.func17, Tryd.ntmps17
  go_wp2_with (go_at_call 50; (with_reducible refine HF.out.mono ?_); rintro _ w1 ⟨rfl, hb⟩)
  refine bodyPost_ret (v := .tuple #[.slice none 0 0, .int .i64 40]) (by simp [results, Tryd.results17, go_sem, *]) rfl ⟨rfl, ?_⟩
  exact hb.trans ((Below.refl _ _).alloc hb.size _)

set_option maxHeartbeats 800000 in
theorem pMul_no (Aa : Option Addr) (ma capa : Nat) (Ab : Option Addr) (mb capb : Nat) (p : Nat) (w : World) (hpr : ¬ Pr p) (hp : p < 4294967296) (hw : Bases w) :
    Calls Tryd.prog 18 #[.slice Aa ma capa, .slice Ab mb capb, .int .u32 (p : Int)] w fun e w' => e = .returned (.tuple #[.slice none 0 0, .int .i64 40]) ∧ Below w.heap.size w w' := by
  have HF := Lib.hid (fieldOf_no p w hpr hp hw)
  clear hpr hw
  go_enter Tryd.func18, Tryd.ntmps18
  go_wp2_with (go_at_call 50; (with_reducible refine HF.out.mono ?_); rintro _ w1 ⟨rfl, hb⟩)
  refine bodyPost_ret (v := .tuple #[.slice none 0 0, .int .i64 40]) (by simp [results, Tryd.results18, go_sem, *]) rfl ⟨rfl, ?_⟩
  exact hb.trans ((Below.refl _ _).alloc hb.size _)

set_option maxHeartbeats 800000 in
theorem pScale_no (Aa : Option Addr) (ma capa : Nat) (c : Nat) (p : Nat) (w : World) (hpr : ¬ Pr p) (hp : p < 4294967296) (hw : Bases w) :
    Calls Tryd.prog 30 #[.slice Aa ma capa, .int .u32 (c : Int), .int .u32 (p : Int)] w fun e w' => e = .returned (.tuple #[.slice none 0 0, .int .i64 40]) ∧ Below w.heap.size w w' := by
  have HF := Lib.hid (fieldOf_no p w hpr hp hw)
  clear hpr hw
  go_enter Tryd.func30, Tryd.ntmps30
  go_wp2_with (go_at_call 50; (with_reducible refine HF.out.mono ?_); rintro _ w1 ⟨rfl, hb⟩)
  refine bodyPost_ret (v := .tuple #[.slice none 0 0, .int .i64 40]) (by simp [results, Tryd.results30, go_sem, *]) rfl ⟨rfl, ?_⟩
  exact hb.trans ((Below.refl _ _).alloc hb.size _)

set_option maxHeartbeats 800000 in
theorem pShift_no (Aa : Option Addr) (ma capa : Nat) (k : Int) (p : Nat) (w : World) (hpr : ¬ Pr p) (hp : p < 4294967296) (hw : Bases w) :
    Calls Tryd.prog 31 #[.slice Aa ma capa, .int .i64 k, .int .u32 (p : Int)] w fun e w' => e = .returned (.tuple #[.slice none 0 0, .int .i64 40]) ∧ Below w.heap.size w w' := by
  have HF := Lib.hid (fieldOf_no p w hpr hp hw)
  clear hpr hw
  go_enter Tryd.func31, Tryd.ntmps31
  go_wp2_with (go_at_call 50; (with_reducible refine HF.out.mono ?_); rintro _ w1 ⟨rfl, hb⟩)
  refine bodyPost_ret (v := .tuple #[.slice none 0 0, .int .i64 40]) (by simp [results, Tryd.results31, go_sem, *]) rfl ⟨rfl, ?_⟩
  exact hb.trans ((Below.refl _ _).alloc hb.size _)

set_option maxHeartbeats 800000 in
theorem pDiv_no (Aa : Option Addr) (ma capa : Nat) (Ab : Option Addr) (mb capb : Nat) (p : Nat) (w : World) (hpr : ¬ Pr p) (hp : p < 4294967296) (hw : Bases w) :
    Calls Tryd.prog 44 #[.slice Aa ma capa, .slice Ab mb capb, .int .u32 (p : Int)] w fun e w' => e = .returned (.tuple #[.slice none 0 0, .slice none 0 0, .int .i64 40]) ∧ Below w.heap.size w w' := by
  have HF := Lib.hid (fieldOf_no p w hpr hp hw)
  clear hpr hw
  go_enter Tryd.func44, Tryd.ntmps44
  go_wp2_with (go_at_call 50; (with_reducible refine HF.out.mono ?_); rintro _ w1 ⟨rfl, hb⟩)
  refine bodyPost_ret (v := .tuple #[.slice none 0 0, .slice none 0 0, .int .i64 40]) (by simp [results, Tryd.results44, go_sem, *]) rfl ⟨rfl, ?_⟩
  exact hb.trans ((Below.refl _ _).alloc hb.size _)

set_option maxHeartbeats 800000 in
theorem pBezout_no (Aa : Option Addr) (ma capa : Nat) (Ab : Option Addr) (mb capb : Nat) (p : Nat) (w : World) (hpr : ¬ Pr p) (hp : p < 4294967296) (hw : Bases w) :
    Calls Tryd.prog 42 #[.slice Aa ma capa, .slice Ab mb capb, .int .u32 (p : Int)] w fun e w' => e = .returned (.tuple #[.slice none 0 0, .slice none 0 0, .slice none 0 0, .int .i64 40]) ∧ Below w.heap.size w w' := by
  have HF := Lib.hid (fieldOf_no p w hpr hp hw)
  clear hpr hw
  go_enter Tryd.func42, Tryd.ntmps42
  go_wp2_with (go_at_call 50; (with_reducible refine HF.out.mono ?_); rintro _ w1 ⟨rfl, hb⟩)
  refine bodyPost_ret (v := .tuple #[.slice none 0 0, .slice none 0 0, .slice none 0 0, .int .i64 40]) (by simp [results, Tryd.results42, go_sem, *]) rfl ⟨rfl, ?_⟩
  exact hb.trans ((Below.refl _ _).alloc hb.size _)

set_option maxHeartbeats 800000 in
theorem pEval_no (Aa : Option Addr) (ma capa : Nat) (x : Nat) (p : Nat) (w : World) (hpr : ¬ Pr p) (hp : p < 4294967296) (hw : Bases w) :
    Calls Tryd.prog 33 #[.slice Aa ma capa, .int .u32 (x : Int), .int .u32 (p : Int)] w fun e w' => e = .returned (.tuple #[.int .u32 0, .int .i64 40]) ∧ Below w.heap.size w w' := by
  have HF := Lib.hid (fieldOf_no p w hpr hp hw)
  clear hpr hw
  go_enter Tryd.func33, Tryd.ntmps33
  go_wp2_with (go_at_call 50; (with_reducible refine HF.out.mono ?_); rintro _ w1 ⟨rfl, hb⟩)
  refine bodyPost_ret (v := .tuple #[.int .u32 0, .int .i64 40]) (by simp [results, Tryd.results33, go_sem, *]) rfl ⟨rfl, ?_⟩
  exact hb.trans ((Below.refl _ _).alloc hb.size _)

set_option maxHeartbeats 800000 in
theorem pDeriv_no (Aa : Option Addr) (ma capa : Nat) (p : Nat) (w : World) (hpr : ¬ Pr p) (hp : p < 4294967296) (hw : Bases w) :
    Calls Tryd.prog 34 #[.slice Aa ma capa, .int .u32 (p : Int)] w fun e w' => e = .returned (.tuple #[.slice none 0 0, .int .i64 40]) ∧ Below w.heap.size w w' := by
  have HF := Lib.hid (fieldOf_no p w hpr hp hw)
  clear hpr hw
  go_enter Tryd.func34, Tryd.ntmps34
  go_wp2_with (go_at_call 50; (with_reducible refine HF.out.mono ?_); rintro _ w1 ⟨rfl, hb⟩)
  refine bodyPost_ret (v := .tuple #[.slice none 0 0, .int .i64 40]) (by simp [results, Tryd.results34, go_sem, *]) rfl ⟨rfl, ?_⟩
  exact hb.trans ((Below.refl _ _).alloc hb.size _)

set_option maxHeartbeats 800000 in
theorem pFree_no (Aa : Option Addr) (ma capa : Nat) (p : Nat) (w : World) (hpr : ¬ Pr p) (hp : p < 4294967296) (hw : Bases w) :
    Calls Tryd.prog 35 #[.slice Aa ma capa, .int .u32 (p : Int)] w fun e w' => e = .returned (.tuple #[.bool false, .int .i64 40]) ∧ Below w.heap.size w w' := by
  have HF := Lib.hid (fieldOf_no p w hpr hp hw)
  clear hpr hw
  go_enter Tryd.func35, Tryd.ntmps35
  go_wp2_with (go_at_call 50; (with_reducible refine HF.out.mono ?_); rintro _ w1 ⟨rfl, hb⟩)
  refine bodyPost_ret (v := .tuple #[.bool false, .int .i64 40]) (by simp [results, Tryd.results35, go_sem, *]) rfl ⟨rfl, ?_⟩
  exact hb.trans ((Below.refl _ _).alloc hb.size _)

set_option maxHeartbeats 800000 in
theorem pInterp_no (Al : Option Addr) (ml capl : Nat) (p : Nat) (w : World) (hpr : ¬ Pr p) (hp : p < 4294967296) (hw : Bases w) :
    Calls Tryd.prog 45 #[.slice Al ml capl, .int .u32 (p : Int)] w fun e w' => e = .returned (.tuple #[.slice none 0 0, .int .i64 40]) ∧ Below w.heap.size w w' := by
  have HF := Lib.hid (fieldOf_no p w hpr hp hw)
  clear hpr hw
  go_enter Tryd.func45, Tryd.ntmps45
  go_wp2_with (go_at_call 50; (with_reducible refine HF.out.mono ?_); rintro _ w1 ⟨rfl, hb⟩)
  refine bodyPost_ret (v := .tuple #[.slice none 0 0, .int .i64 40]) (by simp [results, Tryd.results45, go_sem, *]) rfl ⟨rfl, ?_⟩
  exact hb.trans ((Below.refl _ _).alloc hb.size _)

set_option maxHeartbeats 800000 in
theorem pPow_no (Aa : Option Addr) (ma capa : Nat) (ex : Nat) (Am : Option Addr) (mm capm : Nat) (p : Nat) (w : World) (hpr : ¬ Pr p) (hp : p < 4294967296) (hw : Bases w) :
    Calls Tryd.prog 48 #[.slice Aa ma capa, .int .u64 (ex : Int), .slice Am mm capm, .int .u32 (p : Int)] w fun e w' => e = .returned (.tuple #[.slice none 0 0, .int .i64 40]) ∧ Below w.heap.size w w' := by
  have HF := Lib.hid (fieldOf_no p w hpr hp hw)
  clear hpr hw
  go_enter Tryd.func48, Tryd.ntmps48
  go_wp2_with (go_at_call 50; (with_reducible refine HF.out.mono ?_); rintro _ w1 ⟨rfl, hb⟩)
  refine bodyPost_ret (v := .tuple #[.slice none 0 0, .int .i64 40]) (by simp [results, Tryd.results48, go_sem, *]) rfl ⟨rfl, ?_⟩
  exact hb.trans ((Below.refl _ _).alloc hb.size _)

set_option maxHeartbeats 800000 in
theorem pRoots_no (Aa : Option Addr) (ma capa : Nat) (p : Nat) (w : World) (hpr : ¬ Pr p) (hp : p < 4294967296) (hw : Bases w) :
    Calls Tryd.prog 39 #[.slice Aa ma capa, .int .u32 (p : Int)] w fun e w' => e = .returned (.tuple #[.slice none 0 0, .int .i64 40]) ∧ Below w.heap.size w w' := by
  have HF := Lib.hid (fieldOf_no p w hpr hp hw)
  clear hpr hw
  go_enter Tryd.func39, Tryd.ntmps39
  go_wp2_with (go_at_call 50; (with_reducible refine HF.out.mono ?_); rintro _ w1 ⟨rfl, hb⟩)
  refine bodyPost_ret (v := .tuple #[.slice none 0 0, .int .i64 40]) (by simp [results, Tryd.results39, go_sem, *]) rfl ⟨rfl, ?_⟩
  exact hb.trans ((Below.refl _ _).alloc hb.size _)

set_option maxHeartbeats 800000 in
theorem pFactor_no (Aa : Option Addr) (ma capa : Nat) (p : Nat) (w : World) (hpr : ¬ Pr p) (hp : p < 4294967296) (hw : Bases w) :
    Calls Tryd.prog 46 #[.slice Aa ma capa, .int .u32 (p : Int)] w fun e w' => e = .returned (.tuple #[.slice none 0 0, .int .i64 40]) ∧ Below w.heap.size w w' := by
  have HF := Lib.hid (fieldOf_no p w hpr hp hw)
  clear hpr hw
  go_enter Tryd.func46, Tryd.ntmps46
  go_wp2_with (go_at_call 50; (with_reducible refine HF.out.mono ?_); rintro _ w1 ⟨rfl, hb⟩)
  refine bodyPost_ret (v := .tuple #[.slice none 0 0, .int .i64 40]) (by simp [results, Tryd.results46, go_sem, *]) rfl ⟨rfl, ?_⟩
  exact hb.trans ((Below.refl _ _).alloc hb.size _)
end
section
open Go.RowKit

theorem Rd.drewS {W : World} {A : Option Addr} {vs : List Value} (h : Rd W W.heap.size A vs) : Rd W.drew W.drew.heap.size A vs := h.dr (Dr.refl W).drew
/-- An answer without an error. -/
def OkT (Q : Ending → World → Prop) (e : Ending) (w' : World) : Prop := ∃ v, e = .returned (.tuple #[v, .int .i64 0]) ∧ Q (.returned v) w'
theorem mnP_len (p : Nat) (a : List Nat) : (mnP p a).length ≤ a.length := by
  unfold mnP
  have := trimL_length_le (a.map (· % p))
  simpa using this
theorem c_mod (c p : Nat) : Cg p (.c ((c % p : Nat) : Int)) (.c c) := by
  obtain ⟨k, hk⟩ := mod_dvd c p
  exact ⟨.c k, fun x => by rw [Z.v_c, Z.v_c, Z.v_c]; omega⟩
/-- What bezout tells: g, and s with g - s x a multiple of y. -/
structure Bz (p : Nat) (X Y : Z) (K : Nat) (g s : List Nat) : Prop where
  gc : Gc p X Y g
  ns : Nf p s
  lin : ∃ t : Z, Cg p (zo g) (zo s * X + t * Y)
  len : s.length ≤ K
def PB (p : Nat) (w : World) (X Y : Z) (K : Nat) (e : Ending) (w' : World) : Prop := ∃ g s vg vs, e = .returned (.tuple #[vg, vs]) ∧ PR w w' vg g ∧ PR w w' vs s ∧ Bz p X Y K g s
/-- Between two of Euclid's steps. -/
structure Bs (p : Nat) (X Y : Z) (K : Nat) (a b s s2 : List Nat) : Prop where
  na : Nf p a
  nb : Nf p b
  ns : Nf p s
  n2 : Nf p s2
  gc : ∀ g, Gc p (zo a) (zo b) g → Gc p X Y g
  l1 : ∃ t : Z, Cg p (zo a) (zo s * X + t * Y)
  l2 : ∃ t : Z, Cg p (zo b) (zo s2 * X + t * Y)
  k1 : s2.length + a.length ≤ K
  k2 : s.length + b.length ≤ K
theorem Bs.step {p : Nat} (hp : Pr p) {X Y : Z} {K : Nat} {a b s s2 q r m s3 : List Nat} (h : Bs p X Y K a b s s2) (hd : Dv p (zo a) (zo b) b.length q r) (hm : Nf p m) (hmc : Cg p (zo m) (zo q * zo s2)) (h3 : Nf p s3) (hc3 : Cg p (zo s3) (zo s - zo m)) : Bs p X Y K b r s2 s3 := by
  obtain ⟨t1, e1⟩ := h.l1
  obtain ⟨t2, e2⟩ := h.l2
  have nb : b ≠ [] := by rintro rfl; have := hd.lt; simp at this
  have l1 := h.k1
  have l2 := h.k2
  have hrl := hd.lt
  have hml : m.length + b.length ≤ K ∨ m = [] := by
    by_cases n0 : m = []
    · exact Or.inr n0
    refine Or.inl ?_
    have nq : q ≠ [] := by
      rintro rfl
      exact n0 (hm.of_zero hp.pos (hmc.trans (Cg.of_eq fun x => by rw [Z.v_mul, zo_nil, Z.v_c]; omega)))
    have n2 : s2 ≠ [] := by
      rintro rfl
      exact n0 (hm.of_zero hp.pos (hmc.trans (Cg.of_eq fun x => by rw [Z.v_mul, zo_nil, Z.v_c]; omega)))
    have e3 := Nf.len_mul hp hd.nq h.n2 hm hmc nq n2
    -- the quotient's length
    have e4 : q.length + b.length ≤ a.length + 1 := by
      have h5 := Nf.top_mul hp hd.nq h.nb nq nb
      have h6 := hd.eq.co (q.length + b.length - 2)
      have h7 := len_pos nq
      have h8 := len_pos nb
      rw [Z.co_add, zo_far (a := r) (by omega), Int.add_zero] at h6
      rcases Nat.lt_or_ge (a.length + 1) (q.length + b.length) with h9 | h9
      · rw [zo_far (a := a) (by omega)] at h6
        exact absurd (by simpa using h6) h5
      · exact h9
    omega
  have hs3 : s3.length ≤ max s.length m.length := h3.len_le hp.pos hc3 fun i hi => by
    rw [Z.co_sub, zo_far (by omega), zo_far (by omega)]; exact Int.dvd_zero _
  refine ⟨h.nb, hd.nr, h.n2, h3, fun g hg => h.gc g (Gc.step hd hg), ⟨t2, e2⟩, ⟨t1 - zo q * t2, ?_⟩, ?_, ?_⟩
  · -- r = a - q b
    obtain ⟨c1, f1⟩ := e1
    obtain ⟨c2, f2⟩ := e2
    obtain ⟨c3, f3⟩ := hd.eq
    obtain ⟨c4, f4⟩ := hmc
    obtain ⟨c5, f5⟩ := hc3
    refine ⟨c1 - zo q * c2 - c3 - c5 * X + c4 * X, fun x => ?_⟩
    have f1 := f1 x
    have f2 := f2 x
    have f3 := f3 x
    have f4 := f4 x
    have f5 := f5 x
    simp only [Z.v_add, Z.v_sub, Z.v_mul] at f1 f2 f3 f4 f5 ⊢
    have g1 : (zo r).v x = (zo a).v x - (zo q).v x * (zo b).v x - p * c3.v x := by omega
    rw [g1, f1, f2, f5, f4]
    grind
  · rcases hml with h9 | h9
    · omega
    · subst h9; simp at hs3; omega
  · by_cases nq : q = []
    · have : r = a := by
        subst nq
        exact (h.na.unique hd.nr hp.pos (hd.eq.trans (Cg.of_eq fun x => by rw [Z.v_add, Z.v_mul, zo_nil]; omega))).symm
      subst this; omega
    · have h7 := len_pos nq
      have h8 := len_pos nb
      have h5 := Nf.top_mul hp hd.nq h.nb nq nb
      have h6 := hd.eq.co (q.length + b.length - 2)
      rw [Z.co_add, zo_far (a := r) (by omega), Int.add_zero] at h6
      have : b.length ≤ a.length := by
        rcases Nat.lt_or_ge a.length b.length with h9 | h9
        · rw [zo_far (a := a) (by omega)] at h6
          exact absurd (by simpa using h6) h5
        · exact h9
      omega
theorem Bs.start {p : Nat} (hp : 1 < p) {xs ys s : List Nat} (hx : Nf p xs) (hy : Nf p ys) (hs : s = [1] ∨ (s = [] ∧ xs = [])) : Bs p (zo xs) (zo ys) (xs.length + ys.length + 1) xs ys s [] := by
  refine ⟨hx, hy, ?_, Nf.nil_ p, fun g h => h, ⟨.c 0, ?_⟩, ⟨.c 1, ?_⟩, by simp; omega, ?_⟩
  · rcases hs with rfl | ⟨rfl, _⟩
    · exact one_lst p hp
    · exact Nf.nil_ p
  · rcases hs with rfl | ⟨rfl, rfl⟩
    · exact Cg.of_eq fun x => by simp only [Z.v_add, Z.v_mul, Z.v_c, zo_cons, zo_nil]; grind
    · exact Cg.of_eq fun x => by simp only [Z.v_add, Z.v_mul, Z.v_c, zo_nil]; grind
  · exact Cg.of_eq fun x => by simp only [Z.v_add, Z.v_mul, Z.v_c, zo_nil]; grind
  · rcases hs with rfl | ⟨rfl, rfl⟩ <;> simp <;> omega
theorem Bs.done {p : Nat} (hp : Pr p) {X Y : Z} {K u : Nat} {a s s2 g t : List Nat} (h : Bs p X Y K a [] s s2) (hg : MoOf p a g) (hgc : Cg p (zo g) (zo a * .c u)) (nt : Nf p t) (ht : Cg p (zo t) (zo s * .c u)) : Bz p X Y K g t := by
  obtain ⟨t1, e1⟩ := h.l1
  refine ⟨h.gc g hg.gc, nt, ⟨t1 * .c u, ?_⟩, ?_⟩
  · obtain ⟨c1, f1⟩ := e1
    obtain ⟨c2, f2⟩ := hgc
    obtain ⟨c3, f3⟩ := ht
    refine ⟨c2 + c1 * .c u - c3 * X, fun x => ?_⟩
    have f1 := f1 x
    have f2 := f2 x
    have f3 := f3 x
    simp only [Z.v_add, Z.v_sub, Z.v_mul, Z.v_c] at f1 f2 f3 ⊢
    rw [f2, f1, f3]
    grind
  · have := len_of_c hp.pos nt ht
    have := h.k2
    omega

set_option maxHeartbeats 3200000 in
theorem fbezout_any (p sp : Nat) (A1 A2 : Option Addr) (c1 c2 : Nat) (xs ys : List Nat) (w : World) (B : Nat) (hpr : Pr p) (hp : p < 4294967296) (hsp : sp = spN p) (hw : Bases w) (hr1 : Rd w B A1 (u32s xs)) (hr2 : Rd w B A2 (u32s ys)) (hB : B ≤ w.heap.size) (hm1 : xs.length ≤ Sm) (hm2 : ys.length ≤ Sm) (d1 : Nf p xs) (d2 : Nf p ys) :
    Calls Tryd.prog 68 #[fieldV p sp, .slice A1 xs.length c1, .slice A2 ys.length c2] w (PB p w (zo xs) (zo ys) (xs.length + ys.length + 1)) := by
  have hmx : xs.length ≤ 1099511627776 := hm1
  have hmy : ys.length ≤ 1099511627776 := hm2
  obtain ⟨K, hK⟩ : ∃ K, K = xs.length + ys.length + 1 := ⟨_, rfl⟩
  have hKb : K ≤ 2199023255553 := by omega
  obtain ⟨W1, hW1⟩ : ∃ W1, W1 = w.alloc (.cells #[.int .u64 (p : Int), .int .u64 (sp : Int)] 77 (0, 0)) := ⟨_, rfl⟩
  have hb0 : Below w.heap.size w W1 := by rw [hW1]; exact (Below.refl _ _).alloc (Nat.le_refl _) _
  have hs1 : W1.heap.size = w.heap.size + 1 := by rw [hW1]; simp
  have hbf : Blk W1 w.heap.size 77 [.int .u64 (p : Int), .int .u64 (sp : Int)] := by rw [hW1]; exact Blk.new_ rfl
  have f0 := hbf.cell 0
  have f1 := hbf.cell 1
  simp only [List.getElem?_cons_zero, List.getElem?_cons_succ] at f0 f1
  have HF0 := Lib.hid f0
  have HF1 := Lib.hid f1
  have Hr1 := Lib.hid ((hr1.below (hb0.mono hB)).mono (Nat.le_trans hB hb0.size))
  have Hr2 := Lib.hid ((hr2.below (hb0.mono hB)).mono (Nat.le_trans hB hb0.size))
  have HDIV : Hid (∀ (W : World) A A' c c' (a b : List Nat), Below W1.heap.size W1 W → Rd W W.heap.size A (u32s a) → Rd W W.heap.size A' (u32s b) → a.length ≤ 2199023255553 → Nf p a → Nf p b → b ≠ [] → Calls Tryd.prog 69 #[fieldV p sp, .slice A a.length c, .slice A' b.length c'] W (PD p W a b)) :=
    fun W A A' c c' a b hW h1 h2 h3 h4 h5 h6 => fdivide_any p sp A A' c c' a b W _ hpr hp ((hw.later hb0).later hW) h1 h2 (Nat.le_refl _) (by unfold Big; omega) h4 h5 h6
  have HPROD : Hid (∀ (W : World) A A' c c' (a b : List Nat), Rd W W.heap.size A (u32s a) → Rd W W.heap.size A' (u32s b) → a.length ≤ 2199023255554 → b.length ≤ 2199023255553 → Nf p a → Nf p b → Calls Tryd.prog 55 #[fieldV p sp, .slice A a.length c, .slice A' b.length c'] W (PS p W (zo a * zo b))) :=
    fun W A A' c c' a b h1 h2 h3 h4 h5 h6 => fproduct_any p sp A A' c c' a b W _ hpr hp hsp h1 h2 (Nat.le_refl _) (by unfold Big; omega) (by unfold Big; omega) h5 h6
  have HDIFF : Hid (∀ (W : World) A A' c c' (a b : List Nat), Rd W W.heap.size A (u32s a) → Rd W W.heap.size A' (u32s b) → a.length ≤ 2199023255553 → b.length ≤ 4398046511107 → Nf p a → Nf p b → Calls Tryd.prog 54 #[fieldV p sp, .slice A a.length c, .slice A' b.length c'] W (PS p W (zo a - zo b))) :=
    fun W A A' c c' a b h1 h2 h3 h4 h5 h6 => fdiff_any p sp A A' c c' a b W _ hpr.pos hp h1 h2 (Nat.le_refl _) (by unfold Big; omega) (by unfold Big; omega) h5.1 h6.1
  have HSC : Hid (∀ (W : World) A c (a : List Nat) (u : Nat), Rd W W.heap.size A (u32s a) → a.length ≤ 2199023255553 → Nf p a → u < 4294967296 → Calls Tryd.prog 60 #[fieldV p sp, .slice A a.length c, .int .u32 (u : Int)] W (PS p W (zo a * .c u))) :=
    fun W A c a u h1 h2 h3 h4 => scaled_any p sp A c u a W _ hpr.pos hp h1 (Nat.le_refl _) (by unfold Big; omega) (fun x hx => by have := h3.1 x hx; omega) h4
  have HINV : Hid (∀ (W : World) (x : Nat), Below W1.heap.size W1 W → x % p ≠ 0 → Calls Tryd.prog 77 #[fieldV p sp, .int .u32 (x : Int)] W fun e w' => e = .returned (.int .u32 (invN p x : Int)) ∧ Below W.heap.size W w') :=
    fun W x hW h => finv_any p sp x W hpr hp ((hw.later hb0).later hW) h
  obtain ⟨R, hR⟩ : ∃ R, R = PB p w (zo xs) (zo ys) (xs.length + ys.length + 1) := ⟨_, rfl⟩
  rw [← hR]
  rw [← hK] at hR
  have HR := Lib.hid hR
  have HW1 := Lib.hid hW1
  have Hb0 := Lib.hid hb0
  have Hs1 := Lib.hid hs1
  have Hpr := Lib.hid hpr
  -- the start
  obtain ⟨W2, As, cs, s0, hW2⟩ : ∃ (W2 : World) (As : Option Addr) (cs : Nat) (s0 : List Nat), (xs ≠ [] ∧ s0 = [1] ∧ As = some ⟨w.heap.size + 1, 0, none⟩ ∧ cs = 1 ∧ W2 = W1.alloc (.cells #[.int .u32 1] 24 (0, 0))) ∨ (xs = [] ∧ s0 = [] ∧ As = none ∧ cs = 0 ∧ W2 = W1) := by
    by_cases n1 : xs = []
    · exact ⟨_, _, _, _, Or.inr ⟨n1, rfl, rfl, rfl, rfl⟩⟩
    · exact ⟨_, _, _, _, Or.inl ⟨n1, rfl, rfl, rfl, rfl⟩⟩
  have hbel2 : Below W1.heap.size W1 W2 := by
    rcases hW2 with ⟨_, _, _, _, rfl⟩ | ⟨_, _, _, _, rfl⟩
    · exact (Below.refl _ _).alloc (Nat.le_refl _) _
    · exact Below.refl _ _
  have hres2 : Res W2 w.heap.size 24 As cs (u32s s0) := by
    rcases hW2 with ⟨_, rfl, rfl, rfl, rfl⟩ | ⟨_, rfl, rfl, rfl, rfl⟩
    · have h := Blk.new_ (w := W1) (t := 24) (cs := #[.int .u32 1]) (vs := [.int .u32 1]) rfl
      rw [hs1] at h
      exact Res.of_blk0 (vs := [.int .u32 1]) h (by omega) (by simp)
    · exact Res.none_
  have hst : Bs p (zo xs) (zo ys) K xs ys s0 [] := by
    rw [hK]
    refine Bs.start hpr.two d1 d2 ?_
    rcases hW2 with ⟨_, h, _⟩ | ⟨h, h2, _⟩
    · exact Or.inl h
    · exact Or.inr ⟨h2, h⟩
  have Hst := Lib.hid hst
  have Hres2 := Lib.hid hres2
  have Hbel2 := Lib.hid hbel2
  have hz1 : w.heap.size < W1.heap.size := by omega
  clear hR hW1 hr1 hr2 hbf hw f0 f1 hb0 hs1 d1 d2 hsp hK hst hres2 hbel2 hpr
  have key : ∃ n, xs.length = n ∧ ((0 < n ∧ s0 = [1] ∧ As = some ⟨w.heap.size + 1, 0, none⟩ ∧ cs = 1 ∧ W2 = W1.alloc (.cells #[.int .u32 1] 24 (0, 0))) ∨ (n = 0 ∧ s0 = [] ∧ As = none ∧ cs = 0 ∧ W2 = W1)) := by
    refine ⟨_, rfl, ?_⟩
    rcases hW2 with ⟨h, r⟩ | ⟨h, r⟩
    · exact Or.inl ⟨len_pos h, r⟩
    · exact Or.inr ⟨by rw [h]; rfl, r⟩
  clear hW2
  obtain ⟨n, hn, hn2⟩ := key
  have Hn := Lib.hid hn
  rw [hn]
  have HW2 : Hid (0 < n ∧ W2 = W1.alloc (.cells #[.int .u32 1] 24 (0, 0)) ∧ s0.length = 1 ∧ As = some ⟨w.heap.size + 1, 0, none⟩ ∧ cs = 1 ∨ n = 0 ∧ W2 = W1 ∧ s0.length = 0 ∧ As = none ∧ cs = 0) := by
    show _ ∨ _
    rcases hn2 with ⟨a, b, c, d, e⟩ | ⟨a, b, c, d, e⟩
    · exact Or.inl ⟨a, e, by rw [b]; rfl, c, d⟩
    · exact Or.inr ⟨a, e, by rw [b]; rfl, c, d⟩
  clear hn hn2
  rcases HW2.out with ⟨h0, hw2, hsl, hAs, hcs⟩ | ⟨h0, hw2, hsl, hAs, hcs⟩
  all_goals
    have Hw2 := Lib.hid hw2
    have Hsl := Lib.hid hsl
    have HAs := Lib.hid hAs
    have Hcs := Lib.hid hcs
    clear hw2 hsl hAs hcs
    first | (have z1 : (0 : Int) < (n : Int) := by omega) | (obtain rfl := h0)
    go_enter Tryd.func68, Tryd.ntmps68
    go_wp2
    go_step3
    go_wp2
    go_step3
    go_wp2
    rw [← HW1.out, ← Hw2.out]
    go_loopw [1, 2, 8, 9, 10, 11] (fun va vb vs vt _ _ wr => ∃ (a b s t : List Nat) (A A' As At : Option Addr) (c c' cs ct : Nat), va = .slice A a.length c ∧ vb = .slice A' b.length c' ∧ vs = .slice As s.length cs ∧ vt = .slice At t.length ct ∧ Hid (Rd wr wr.heap.size A (u32s a)) ∧ Hid (Rd wr wr.heap.size A' (u32s b)) ∧ Hid (Rd wr wr.heap.size As (u32s s)) ∧ Hid (Rd wr wr.heap.size At (u32s t)) ∧ Hid (Bs p (zo xs) (zo ys) K a b s t) ∧ Below W1.heap.size W1 wr) (fun _ vb _ _ _ _ _ => match vb with | .slice _ n _ => n | _ => 0)
    case atStart => exact ⟨xs, ys, s0, [], A1, A2, As, none, c1, c2, cs, 0, by rw [Hn.out], rfl, by rw [Hsl.out, HAs.out, Hcs.out], rfl, (Hr1.out.below Hbel2.out).mono Hbel2.out.size, (Hr2.out.below Hbel2.out).mono Hbel2.out.size, Hres2.out.rd, Rd.nil_, Hst, Hbel2.out⟩
    case round =>
      obtain ⟨a, b, s, t, A, A', As, At, c, c', cs, ct, rfl, rfl, rfl, rfl, ra, rb, rs, rt, hB, hbel⟩ := hrel
      have g0 := (hbel.cell (p := ⟨w.heap.size, 0, none⟩) hz1).trans HF0.out
      have g1 := (hbel.cell (p := ⟨w.heap.size, 1, none⟩) hz1).trans HF1.out
      have Hbel := Lib.hid hbel
      have hzr : w.heap.size < wr.heap.size := by have := hbel.size; omega
      have hla : a.length ≤ 2199023255553 := by have := hB.out.k1; omega
      have hlt : t.length ≤ 2199023255553 := by have := hB.out.k1; omega
      have hls : s.length ≤ 2199023255553 := by have := hB.out.k2; omega
      have Hna := Lib.hid hB.out.na
      have Hnb := Lib.hid hB.out.nb
      have Hns := Lib.hid hB.out.ns
      have Hnt := Lib.hid hB.out.n2
      clear hbel
      by_cases n0 : b = []
      · subst n0
        by_cases m0 : a = []
        · subst m0
          go_wp2
          rw [HR.out]
          have hw9 : Below w.heap.size w wr := Hb0.out.trans (Hbel.out.mono (by rw [Hs1.out]; omega))
          exact ⟨[], [], _, _, rfl, PR.none_ hw9, PR.none_ hw9, hB.out.gc _ (MoOf.none_ p).gc, Nf.nil_ p, ⟨.c 0, Cg.of_eq fun x => by simp only [Z.v_add, Z.v_mul, Z.v_c, zo_nil]; grind⟩, by simp⟩
        · have l1 := len_pos m0
          have z2 : ((a.length : Int) == 0) = false := bz l1
          obtain ⟨m, hm⟩ : ∃ m, m = a.length - 1 := ⟨_, rfl⟩
          have hmx : m < a.length := by omega
          have z3 : (a.length : Int) - 1 = (m : Int) := by omega
          have q1 : IntKind.i64.wrap (m : Int) = m := IntWalk.i64_in _ (by omega)
          obtain ⟨bb, off, rfl, hbb, hcx⟩ := ra.out.at32 hmx
          have hxg : a.getD m 0 = a[m] := by rw [List.getD_eq_getElem?_getD, List.getElem?_eq_getElem hmx]; rfl
          have hyt : a.getD m 0 % p ≠ 0 := by
            rw [hm]
            intro h; exact Hna.out.top Hpr.out.pos m0 (Int.natCast_dvd_natCast.2 (Nat.dvd_of_mod_eq_zero h))
          have hxd := Hna.out.getD_lt Hpr.out.pos m
          rw [← hxg] at hcx
          obtain ⟨y, hy⟩ : ∃ y, y = a.getD m 0 := ⟨_, rfl⟩
          rw [← hy] at hcx hyt hxd
          obtain ⟨u, hu⟩ : ∃ u, u = invN p y := ⟨_, rfl⟩
          have Hut : Hid (a.getD (a.length - 1) 0 * u % p = 1) := by show _ = _; rw [← hm, ← hy, hu]; exact Hpr.out.inv_right (fun hd => hyt (Nat.mod_eq_zero_of_dvd hd))
          have hul : u < p := by rw [hu]; exact invN_lt Hpr.out.pos y
          have HI : Hid (∀ W, Below wr.heap.size wr W → Calls Tryd.prog 77 #[fieldV p sp, .int .u32 (y : Int)] W fun e w' => e = .returned (.int .u32 (u : Int)) ∧ Below W.heap.size W w') := by
            rw [hu]; exact fun W hW => HINV.out W y (Hbel.out.trans (hW.mono Hbel.out.size)) hyt
          have hul2 : u < 4294967296 := by omega
          have Hm0 := Lib.hid m0
          clear hm hu hy hxg m0
          go_upto_region 10 with (fail)
          go_region_held3 (fun W => W.cell? ⟨w.heap.size, 0, none⟩ = some (.int .u64 (p : Int)) ∧ W.cell? ⟨w.heap.size, 1, none⟩ = some (.int .u64 (sp : Int)) ∧ W.cell? ⟨bb, off + m, none⟩ = some (.int .u32 (y : Int))) (go_keep)
            (first | (go_at_call 77; (with_reducible refine (HI.out _ (by first | exact Below.refl _ _ | exact (Below.refl _ _).drew)).mono ?_); rintro e w4 ⟨rfl, hq⟩; have hq1 : Below wr.heap.size wr w4 := (by first | exact hq | exact (Below.refl _ _).drew.trans hq); have k0 := (hq1.cell (p := ⟨w.heap.size, 0, none⟩) hzr).trans g0; have k1 := (hq1.cell (p := ⟨w.heap.size, 1, none⟩) hzr).trans g1; have k2 := (hq1.cell (p := ⟨bb, off + m, none⟩) hbb).trans hcx; have HQ := Lib.hid hq1; clear hq hq1))
          have hz4 : w.heap.size < w4.heap.size := by have := HQ.out.size; omega
          have Ra4 := Lib.hid ((ra.out.below HQ.out).mono HQ.out.size)
          have Ra4d : Hid (Rd w4.drew w4.drew.heap.size (some ⟨bb, off, none⟩) (u32s a)) := Ra4.out.dr (Dr.refl w4).drew
          have Rs4 := Lib.hid ((rs.out.below HQ.out).mono HQ.out.size)
          have HSCa : Hid (∀ W, Rd W W.heap.size (some ⟨bb, off, none⟩) (u32s a) → Calls Tryd.prog 60 #[fieldV p sp, .slice (some ⟨bb, off, none⟩) a.length c, .int .u32 (u : Int)] W (PS p W (zo a * .c u))) := fun W h => HSC.out W _ c a u h hla Hna.out hul2
          have HSCs : Hid (∀ W, Rd W W.heap.size As (u32s s) → Calls Tryd.prog 60 #[fieldV p sp, .slice As s.length cs, .int .u32 (u : Int)] W (PS p W (zo s * .c u))) := fun W h => HSC.out W _ cs s u h hls Hns.out hul2
          go_upto_region 11 with (fail)
          go_region_held3 (fun W => W.cell? ⟨w.heap.size, 0, none⟩ = some (.int .u64 (p : Int)) ∧ W.cell? ⟨w.heap.size, 1, none⟩ = some (.int .u64 (sp : Int))) (go_keep) (first
            | (go_at_call 60; (with_reducible refine (HSCa.out _ (by first | exact Ra4.out | exact Ra4d.out)).mono ?_); rintro _ w5 ⟨r5, ⟨_, rfl, ⟨A5, c5, rfl, hr5, hb5⟩⟩, hn5, hc5⟩; have hq2 : Below w4.heap.size w4 w5 := (by first | exact hb5 | exact (Below.refl _ _).drew.trans hb5); have l0 := (hq2.cell (p := ⟨w.heap.size, 0, none⟩) hz4).trans k0; have l1 := (hq2.cell (p := ⟨w.heap.size, 1, none⟩) hz4).trans k1; have HQ2 := Lib.hid hq2; have Hr5 := Lib.hid hr5; have Hn5 := Lib.hid hn5; have Hc5 := Lib.hid hc5; have Rs5 := Lib.hid ((Rs4.out.below hq2).mono hq2.size); have hz5 : w.heap.size < w5.heap.size := (by have := hq2.size; omega); clear hb5 hq2 hr5 hn5 hc5)
            | (go_at_call 60; (with_reducible refine (HSCs.out _ (by first | exact Rs5.out | exact Rs5.out.dr (Dr.refl w5).drew)).mono ?_); rintro _ w6 ⟨r6, ⟨_, rfl, ⟨A6, c6, rfl, hr6, hb6⟩⟩, hn6, hc6⟩; have hq3 : Below w5.heap.size w5 w6 := (by first | exact hb6 | exact (Below.refl _ _).drew.trans hb6); have m0 := (hq3.cell (p := ⟨w.heap.size, 0, none⟩) hz5).trans l0; have m1 := (hq3.cell (p := ⟨w.heap.size, 1, none⟩) hz5).trans l1; have HQ3 := Lib.hid hq3; have Hr6 := Lib.hid hr6; have Hn6 := Lib.hid hn6; have Hc6 := Lib.hid hc6; clear hb6 hq3 hr6 hn6 hc6))
          all_goals
            go_wp2_with fail
            rw [HR.out]
            have hw4 : Below w.heap.size w w4 := Hb0.out.trans ((Hbel.out.trans (HQ.out.mono Hbel.out.size)).mono (by rw [Hs1.out]; omega))
            have p5 : PR w w5 (.slice A5 r5.length c5) r5 := ⟨A5, c5, rfl, Hr5.out.mono (by have : w4.drew.heap.size = w4.heap.size := rfl; omega), hw4.trans (HQ2.out.mono (by omega))⟩
            have p6 : PR w w6 (.slice A6 r6.length c6) r6 := ⟨A6, c6, rfl, Hr6.out.mono (by omega), (hw4.trans (HQ2.out.mono (by omega))).trans (HQ3.out.mono (by omega))⟩
            exact ⟨r5, r6, _, _, rfl, p5.later HQ3.out, p6, hB.out.done Hpr.out (MoOf.of_inv Hpr.out Hna.out Hm0.out Hn5.out Hut.out Hc5.out) Hc5.out Hn6.out Hc6.out⟩
      · have z2 : ((b.length : Int) == 0) = false := bz (len_pos n0)
        have Hn0 := Lib.hid n0
        clear n0
        have hlb : b.length ≤ 2199023255553 := by have := hB.out.k2; omega
        go_upto_region 7 with (go_at_call 69; (with_reducible refine (HDIV.out _ _ _ _ _ _ _ Hbel.out ra.out rb.out hla Hna.out Hnb.out Hn0.out).mono ?_); rintro _ w4 ⟨q, r, _, _, rfl, ⟨Aq, cq, rfl, hrq, hb4⟩, ⟨Ar, cr, rfl, hrr, _⟩, hdv⟩)
        have k0 := (hb4.cell (p := ⟨w.heap.size, 0, none⟩) hzr).trans g0
        have k1 := (hb4.cell (p := ⟨w.heap.size, 1, none⟩) hzr).trans g1
        have hz4 : w.heap.size < w4.heap.size := by have := hb4.size; omega
        have HQ := Lib.hid hb4
        have Hdv := Lib.hid hdv
        have Hrq := Lib.hid hrq.rd
        have Hrqd : Hid (Rd w4.drew w4.drew.heap.size Aq (u32s q)) := Hrq.out.dr (Dr.refl w4).drew
        have Hrr := Lib.hid hrr.rd
        have Rt4 := Lib.hid ((rt.out.below hb4).mono hb4.size)
        have Rt4d : Hid (Rd w4.drew w4.drew.heap.size At (u32s t)) := Rt4.out.dr (Dr.refl w4).drew
        have Rs4 := Lib.hid ((rs.out.below hb4).mono hb4.size)
        have Rb4 := Lib.hid ((rb.out.below hb4).mono hb4.size)
        have hlq : q.length ≤ 2199023255554 := by
          have h9 := hdv.len_q Hpr.out Hna.out Hnb.out
          omega
        have Hnq := Lib.hid hdv.nq
        clear hb4 hdv hrq hrr g0 g1
        go_region_held3 (fun W => W.cell? ⟨w.heap.size, 0, none⟩ = some (.int .u64 (p : Int)) ∧ W.cell? ⟨w.heap.size, 1, none⟩ = some (.int .u64 (sp : Int))) (go_keep) (first
          | (go_at_call 55; (with_reducible refine (HPROD.out _ _ _ _ _ _ _ (by first | exact Hrq.out | exact Hrqd.out) (by first | exact Rt4.out | exact Rt4d.out) hlq hlt Hnq.out Hnt.out).mono ?_); rintro _ w5 ⟨r5, ⟨_, rfl, ⟨A5, c5, rfl, hr5, hb5⟩⟩, hn5, hc5⟩; have hq2 : Below w4.heap.size w4 w5 := (by first | exact hb5 | exact (Below.refl _ _).drew.trans hb5); have l0 := (hq2.cell (p := ⟨w.heap.size, 0, none⟩) hz4).trans k0; have l1 := (hq2.cell (p := ⟨w.heap.size, 1, none⟩) hz4).trans k1; have HQ2 := Lib.hid hq2; have Hr5 := Lib.hid hr5.rd; have Hn5 := Lib.hid hn5; have Hc5 := Lib.hid hc5; have Rs5 := Lib.hid ((Rs4.out.below hq2).mono hq2.size); have hz5 : w.heap.size < w5.heap.size := (by have := hq2.size; omega); have hl5 : r5.length ≤ 4398046511107 := (by have := prod_len Hpr.out Hnq.out Hnt.out hn5 hc5; omega); clear hb5 hq2 hr5 hn5 hc5)
          | (go_at_call 54; (with_reducible refine (HDIFF.out _ _ _ _ _ _ _ (by first | exact Rs5.out | exact Rs5.out.dr (Dr.refl w5).drew) (by first | exact Hr5.out | exact Hr5.out.dr (Dr.refl w5).drew) hls hl5 Hns.out Hn5.out).mono ?_); rintro _ w6 ⟨r6, ⟨_, rfl, ⟨A6, c6, rfl, hr6, hb6⟩⟩, hn6, hc6⟩; have hq3 : Below w5.heap.size w5 w6 := (by first | exact hb6 | exact (Below.refl _ _).drew.trans hb6); have m0 := (hq3.cell (p := ⟨w.heap.size, 0, none⟩) hz5).trans l0; have m1 := (hq3.cell (p := ⟨w.heap.size, 1, none⟩) hz5).trans l1; have HQ3 := Lib.hid hq3; have Hr6 := Lib.hid hr6; have Hn6 := Lib.hid hn6; have Hc6 := Lib.hid hc6; clear hb6 hq3 hr6 hn6 hc6))
        all_goals
          have hb46 : Below w4.heap.size w4 w6 := HQ2.out.trans (HQ3.out.mono HQ2.out.size)
          have hb16 : Below W1.heap.size W1 w6 := (Hbel.out.trans (HQ.out.mono Hbel.out.size)).trans (hb46.mono (by have := Hbel.out.size; have := HQ.out.size; omega))
          have Hb46 := Lib.hid hb46
          have Hb16 := Lib.hid hb16
          clear hb46 hb16
          go_wp2_with fail
          go_roundw
          case rel => exact ⟨b, r, t, r6, A', Ar, At, A6, c', cr, ct, c6, rfl, rfl, rfl, rfl, (Rb4.out.below Hb46.out).mono Hb46.out.size, (Hrr.out.below Hb46.out).mono Hb46.out.size, (Rt4.out.below Hb46.out).mono Hb46.out.size, Hr6.out.rd, hB.out.step Hpr.out Hdv.out Hn5.out Hc5.out Hn6.out Hc6.out, Hb16.out⟩
          case measure => have := Hdv.out.lt; simpa using this
end
section
open Go.RowKit

set_option maxHeartbeats 3200000 in
theorem pNormal_yes (Aa : Option Addr) (capa : Nat) (a : List Nat) (p : Nat) (w : World) (B : Nat) (hpr : Pr p) (hp : p < 4294967296) (hw : Bases w) (hB : B ≤ w.heap.size) (hr_a : Rd w B Aa (u32s a)) (hm_a : a.length ≤ Sm) (hd_a : ∀ x ∈ a, x < 4294967296) :
    Calls Tryd.prog 13 #[.slice Aa a.length capa, .int .u32 (p : Int)] w (OkT (PR1 w (mnP p a))) := by
  have hp0 := hpr.pos
  obtain ⟨sp, hsp⟩ : ∃ sp, sp = spN p := ⟨_, rfl⟩
  have HF := Lib.hid (fieldOf_yes p w hpr hp hw)
  rw [← hsp] at HF
  obtain ⟨R, hR⟩ : ∃ R, R = (OkT (PR1 w (mnP p a))) := ⟨_, rfl⟩
  show Calls _ _ _ _ (OkT (PR1 w (mnP p a)))
  rw [← hR]
  have HR := Lib.hid hR
  have lm_a : a.length ≤ 1099511627776 := hm_a
  obtain ⟨na, hna⟩ : ∃ na, na = mnP p a := ⟨_, rfl⟩
  have Nna : Hid (Nf p na) := by rw [hna]; exact mnP_nf hp0 a
  have Cna : Hid (Cg p (zo na) (zo a)) := by rw [hna]; exact mnP_cg p a
  have lna : na.length ≤ 1099511627776 := by have := mnP_len p a; rw [← hna] at this; omega
  have HNa : Hid (∀ (W : World) A c, Rd W W.heap.size A (u32s a) → Calls Tryd.prog 51 #[fieldV p sp, .slice A a.length c] W (PR1 W na)) := by
    rw [hna]; exact fun W A c h1 => fnormal_any p sp A c a W _ hp0 hp h1 (Nat.le_refl _) (by unfold Big; omega) hd_a
  have Ena := Lib.hid hna
  have Hr_a := Lib.hid hr_a
  clear hR hr_a hd_a hm_a hna hpr hw hsp
  go_enter Tryd.func13, Tryd.ntmps13
  go_upto_region 4 with (go_at_call 50; (with_reducible refine HF.out.mono ?_); rintro _ w0 ⟨rfl, hb0⟩)
  obtain ⟨W1, hW1⟩ : ∃ W1, W1 = w0.alloc (.cells #[.int .u64 (p : Int), .int .u64 (sp : Int)] 77 (0, 0)) := ⟨_, rfl⟩
  have hb01 : Below w0.heap.size w0 W1 := by rw [hW1]; exact (Below.refl _ _).alloc (Nat.le_refl _) _
  have hbf : Blk W1 w0.heap.size 77 [.int .u64 (p : Int), .int .u64 (sp : Int)] := by rw [hW1]; exact Blk.new_ rfl
  have hzb := hbf.lt
  have f0 := hbf.cell 0
  have f1 := hbf.cell 1
  simp only [List.getElem?_cons_zero, List.getElem?_cons_succ] at f0 f1
  have Hb1 := Lib.hid (hb0.trans (hb01.mono hb0.size))
  have R0_a := Lib.hid ((Hr_a.out.below (Hb1.out.mono hB)).mono (Nat.le_trans hB Hb1.out.size))
  rw [← hW1]
  obtain ⟨gb, hgb⟩ : ∃ gb, gb = w0.heap.size := ⟨_, rfl⟩
  rw [← hgb] at f0 f1 hzb ⊢
  clear hW1 hb01 hbf hgb hb0
  go_wp2_with (first
    | (go_at_call 51; (with_reducible refine (HNa.out _ _ _ (by first | exact R0_a.out | exact R0_a.out.drewS)).mono ?_); rintro _ w1 ⟨_, rfl, ⟨A1, c1, rfl, hr1, hb1⟩⟩; have hx1 : Below W1.heap.size W1 w1 := (by first | exact hb1 | exact (Below.refl _ _).drew.trans hb1); have Hx1 := Lib.hid hx1; have HB1 := Lib.hid (Hb1.out.trans (hx1.mono Hb1.out.size)); have zc1 := (hx1.cell (p := ⟨gb, 0, none⟩) hzb).trans f0; have zd1 := (hx1.cell (p := ⟨gb, 1, none⟩) hzb).trans f1; have zz1 : gb < w1.heap.size := (by have := Hx1.out.size; omega); have zR1_a := Lib.hid ((R0_a.out.below hx1).mono hx1.size); have Hr1 := Lib.hid hr1; have zR1_na := Lib.hid hr1.rd; clear hr1; clear hb1 hx1))
  rw [HR.out]
  exact ⟨_, rfl, ⟨_, rfl, Ena.out ▸ ⟨A1, c1, rfl, Hr1.out.mono Hb1.out.size, HB1.out⟩⟩⟩

set_option maxHeartbeats 3200000 in
theorem pMonic_yes (Aa : Option Addr) (capa : Nat) (a : List Nat) (p : Nat) (w : World) (B : Nat) (hpr : Pr p) (hp : p < 4294967296) (hw : Bases w) (hB : B ≤ w.heap.size) (hr_a : Rd w B Aa (u32s a)) (hm_a : a.length ≤ Sm) (hd_a : ∀ x ∈ a, x < 4294967296) :
    Calls Tryd.prog 15 #[.slice Aa a.length capa, .int .u32 (p : Int)] w (OkT (PM p w (mnP p a))) := by
  have hp0 := hpr.pos
  obtain ⟨sp, hsp⟩ : ∃ sp, sp = spN p := ⟨_, rfl⟩
  have HF := Lib.hid (fieldOf_yes p w hpr hp hw)
  rw [← hsp] at HF
  obtain ⟨R, hR⟩ : ∃ R, R = (OkT (PM p w (mnP p a))) := ⟨_, rfl⟩
  show Calls _ _ _ _ (OkT (PM p w (mnP p a)))
  rw [← hR]
  have HR := Lib.hid hR
  have lm_a : a.length ≤ 1099511627776 := hm_a
  obtain ⟨na, hna⟩ : ∃ na, na = mnP p a := ⟨_, rfl⟩
  have Nna : Hid (Nf p na) := by rw [hna]; exact mnP_nf hp0 a
  have Cna : Hid (Cg p (zo na) (zo a)) := by rw [hna]; exact mnP_cg p a
  have lna : na.length ≤ 1099511627776 := by have := mnP_len p a; rw [← hna] at this; omega
  have HNa : Hid (∀ (W : World) A c, Rd W W.heap.size A (u32s a) → Calls Tryd.prog 51 #[fieldV p sp, .slice A a.length c] W (PR1 W na)) := by
    rw [hna]; exact fun W A c h1 => fnormal_any p sp A c a W _ hp0 hp h1 (Nat.le_refl _) (by unfold Big; omega) hd_a
  have Ena := Lib.hid hna
  have Hr_a := Lib.hid hr_a
  have HMO : Hid (∀ (W : World) A c (a : List Nat), Below w.heap.size w W → Rd W W.heap.size A (u32s a) → a.length ≤ 1099511627776 → Nf p a → Calls Tryd.prog 52 #[fieldV p sp, .slice A a.length c] W (PM p W a)) := fun W A c a hW h1 h2 h3 => fmonic_any p sp A c a W _ hpr hp (hw.later hW) h1 (Nat.le_refl _) (by unfold Big; omega) h3
  clear hR hr_a hd_a hm_a hna hpr hw hsp
  go_enter Tryd.func15, Tryd.ntmps15
  go_upto_region 4 with (go_at_call 50; (with_reducible refine HF.out.mono ?_); rintro _ w0 ⟨rfl, hb0⟩)
  obtain ⟨W1, hW1⟩ : ∃ W1, W1 = w0.alloc (.cells #[.int .u64 (p : Int), .int .u64 (sp : Int)] 77 (0, 0)) := ⟨_, rfl⟩
  have hb01 : Below w0.heap.size w0 W1 := by rw [hW1]; exact (Below.refl _ _).alloc (Nat.le_refl _) _
  have hbf : Blk W1 w0.heap.size 77 [.int .u64 (p : Int), .int .u64 (sp : Int)] := by rw [hW1]; exact Blk.new_ rfl
  have hzb := hbf.lt
  have f0 := hbf.cell 0
  have f1 := hbf.cell 1
  simp only [List.getElem?_cons_zero, List.getElem?_cons_succ] at f0 f1
  have Hb1 := Lib.hid (hb0.trans (hb01.mono hb0.size))
  have R0_a := Lib.hid ((Hr_a.out.below (Hb1.out.mono hB)).mono (Nat.le_trans hB Hb1.out.size))
  rw [← hW1]
  obtain ⟨gb, hgb⟩ : ∃ gb, gb = w0.heap.size := ⟨_, rfl⟩
  rw [← hgb] at f0 f1 hzb ⊢
  clear hW1 hb01 hbf hgb hb0
  go_region_held3 (fun W => W.cell? ⟨gb, 0, none⟩ = some (.int .u64 (p : Int)) ∧ W.cell? ⟨gb, 1, none⟩ = some (.int .u64 (sp : Int))) (go_keep) (first
    | (go_at_call 51; (with_reducible refine (HNa.out _ _ _ (by first | exact R0_a.out | exact R0_a.out.drewS)).mono ?_); rintro _ w1 ⟨_, rfl, ⟨A1, c1, rfl, hr1, hb1⟩⟩; have hx1 : Below W1.heap.size W1 w1 := (by first | exact hb1 | exact (Below.refl _ _).drew.trans hb1); have Hx1 := Lib.hid hx1; have HB1 := Lib.hid (Hb1.out.trans (hx1.mono Hb1.out.size)); have zc1 := (hx1.cell (p := ⟨gb, 0, none⟩) hzb).trans f0; have zd1 := (hx1.cell (p := ⟨gb, 1, none⟩) hzb).trans f1; have zz1 : gb < w1.heap.size := (by have := Hx1.out.size; omega); have zR1_a := Lib.hid ((R0_a.out.below hx1).mono hx1.size); have Hr1 := Lib.hid hr1; have zR1_na := Lib.hid hr1.rd; clear hr1; clear hb1 hx1)
    | (go_at_call 52; (with_reducible refine (HMO.out _ _ _ _ (by first | exact HB1.out | exact HB1.out.drew) (by first | exact zR1_na.out | exact zR1_na.out.drewS) lna Nna.out).mono ?_); rintro _ w2 ⟨r, ⟨_, rfl, ⟨A2, c2, rfl, hr2, hb2⟩⟩, hm2⟩; have hx2 : Below w1.heap.size w1 w2 := (by first | exact hb2 | exact (Below.refl _ _).drew.trans hb2); have Hx2 := Lib.hid hx2; have HB2 := Lib.hid (HB1.out.trans (hx2.mono HB1.out.size)); have zc2 := (hx2.cell (p := ⟨gb, 0, none⟩) zz1).trans zc1; have zd2 := (hx2.cell (p := ⟨gb, 1, none⟩) zz1).trans zd1; have zz2 : gb < w2.heap.size := (by have := Hx2.out.size; omega); have zR2_a := Lib.hid ((zR1_a.out.below hx2).mono hx2.size); have zR2_na := Lib.hid ((zR1_na.out.below hx2).mono hx2.size); have Hr2 := Lib.hid hr2; have zR2_r := Lib.hid hr2.rd; clear hr2; have Hm2 := Lib.hid hm2; clear hm2; clear hb2 hx2))
  all_goals go_wp2_with fail
  all_goals rw [HR.out]
  all_goals
    exact ⟨_, rfl, ⟨r, ⟨_, rfl, ⟨A2, c2, rfl, Hr2.out.mono HB1.out.size, HB2.out⟩⟩, Ena.out ▸ Hm2.out⟩⟩

set_option maxHeartbeats 3200000 in
theorem pAdd_yes (Aa : Option Addr) (capa : Nat) (a : List Nat) (Ab : Option Addr) (capb : Nat) (b : List Nat) (p : Nat) (w : World) (B : Nat) (hpr : Pr p) (hp : p < 4294967296) (hw : Bases w) (hB : B ≤ w.heap.size) (hr_a : Rd w B Aa (u32s a)) (hm_a : a.length ≤ Sm) (hd_a : ∀ x ∈ a, x < 4294967296) (hr_b : Rd w B Ab (u32s b)) (hm_b : b.length ≤ Sm) (hd_b : ∀ x ∈ b, x < 4294967296) :
    Calls Tryd.prog 16 #[.slice Aa a.length capa, .slice Ab b.length capb, .int .u32 (p : Int)] w (OkT (PS p w (zo a + zo b))) := by
  have hp0 := hpr.pos
  obtain ⟨sp, hsp⟩ : ∃ sp, sp = spN p := ⟨_, rfl⟩
  have HF := Lib.hid (fieldOf_yes p w hpr hp hw)
  rw [← hsp] at HF
  obtain ⟨R, hR⟩ : ∃ R, R = (OkT (PS p w (zo a + zo b))) := ⟨_, rfl⟩
  show Calls _ _ _ _ (OkT (PS p w (zo a + zo b)))
  rw [← hR]
  have HR := Lib.hid hR
  have lm_a : a.length ≤ 1099511627776 := hm_a
  obtain ⟨na, hna⟩ : ∃ na, na = mnP p a := ⟨_, rfl⟩
  have Nna : Hid (Nf p na) := by rw [hna]; exact mnP_nf hp0 a
  have Cna : Hid (Cg p (zo na) (zo a)) := by rw [hna]; exact mnP_cg p a
  have lna : na.length ≤ 1099511627776 := by have := mnP_len p a; rw [← hna] at this; omega
  have HNa : Hid (∀ (W : World) A c, Rd W W.heap.size A (u32s a) → Calls Tryd.prog 51 #[fieldV p sp, .slice A a.length c] W (PR1 W na)) := by
    rw [hna]; exact fun W A c h1 => fnormal_any p sp A c a W _ hp0 hp h1 (Nat.le_refl _) (by unfold Big; omega) hd_a
  have Ena := Lib.hid hna
  have Hr_a := Lib.hid hr_a
  have lm_b : b.length ≤ 1099511627776 := hm_b
  obtain ⟨nb, hnb⟩ : ∃ nb, nb = mnP p b := ⟨_, rfl⟩
  have Nnb : Hid (Nf p nb) := by rw [hnb]; exact mnP_nf hp0 b
  have Cnb : Hid (Cg p (zo nb) (zo b)) := by rw [hnb]; exact mnP_cg p b
  have lnb : nb.length ≤ 1099511627776 := by have := mnP_len p b; rw [← hnb] at this; omega
  have HNb : Hid (∀ (W : World) A c, Rd W W.heap.size A (u32s b) → Calls Tryd.prog 51 #[fieldV p sp, .slice A b.length c] W (PR1 W nb)) := by
    rw [hnb]; exact fun W A c h1 => fnormal_any p sp A c b W _ hp0 hp h1 (Nat.le_refl _) (by unfold Big; omega) hd_b
  have Enb := Lib.hid hnb
  have Hr_b := Lib.hid hr_b
  have HSU : Hid (∀ (W : World) A A' c c' (a b : List Nat), Rd W W.heap.size A (u32s a) → Rd W W.heap.size A' (u32s b) → a.length ≤ 1099511627776 → b.length ≤ 1099511627776 → Nf p a → Nf p b → Calls Tryd.prog 53 #[fieldV p sp, .slice A a.length c, .slice A' b.length c'] W (PS p W (zo a + zo b))) := fun W A A' c c' a b h1 h2 h3 h4 h5 h6 => fsum_any p sp A A' c c' a b W _ hp0 hp h1 h2 (Nat.le_refl _) (by unfold Big; omega) (by unfold Big; omega) h5.1 h6.1
  clear hR hr_a hd_a hm_a hna hr_b hd_b hm_b hnb hpr hw hsp
  go_enter Tryd.func16, Tryd.ntmps16
  go_upto_region 4 with (go_at_call 50; (with_reducible refine HF.out.mono ?_); rintro _ w0 ⟨rfl, hb0⟩)
  obtain ⟨W1, hW1⟩ : ∃ W1, W1 = w0.alloc (.cells #[.int .u64 (p : Int), .int .u64 (sp : Int)] 77 (0, 0)) := ⟨_, rfl⟩
  have hb01 : Below w0.heap.size w0 W1 := by rw [hW1]; exact (Below.refl _ _).alloc (Nat.le_refl _) _
  have hbf : Blk W1 w0.heap.size 77 [.int .u64 (p : Int), .int .u64 (sp : Int)] := by rw [hW1]; exact Blk.new_ rfl
  have hzb := hbf.lt
  have f0 := hbf.cell 0
  have f1 := hbf.cell 1
  simp only [List.getElem?_cons_zero, List.getElem?_cons_succ] at f0 f1
  have Hb1 := Lib.hid (hb0.trans (hb01.mono hb0.size))
  have R0_a := Lib.hid ((Hr_a.out.below (Hb1.out.mono hB)).mono (Nat.le_trans hB Hb1.out.size))
  have R0_b := Lib.hid ((Hr_b.out.below (Hb1.out.mono hB)).mono (Nat.le_trans hB Hb1.out.size))
  rw [← hW1]
  obtain ⟨gb, hgb⟩ : ∃ gb, gb = w0.heap.size := ⟨_, rfl⟩
  rw [← hgb] at f0 f1 hzb ⊢
  clear hW1 hb01 hbf hgb hb0
  go_region_held3 (fun W => W.cell? ⟨gb, 0, none⟩ = some (.int .u64 (p : Int)) ∧ W.cell? ⟨gb, 1, none⟩ = some (.int .u64 (sp : Int))) (go_keep) (first
    | (go_at_call 51; (with_reducible refine (HNa.out _ _ _ (by first | exact R0_a.out | exact R0_a.out.drewS)).mono ?_); rintro _ w1 ⟨_, rfl, ⟨A1, c1, rfl, hr1, hb1⟩⟩; have hx1 : Below W1.heap.size W1 w1 := (by first | exact hb1 | exact (Below.refl _ _).drew.trans hb1); have Hx1 := Lib.hid hx1; have HB1 := Lib.hid (Hb1.out.trans (hx1.mono Hb1.out.size)); have zc1 := (hx1.cell (p := ⟨gb, 0, none⟩) hzb).trans f0; have zd1 := (hx1.cell (p := ⟨gb, 1, none⟩) hzb).trans f1; have zz1 : gb < w1.heap.size := (by have := Hx1.out.size; omega); have zR1_a := Lib.hid ((R0_a.out.below hx1).mono hx1.size); have zR1_b := Lib.hid ((R0_b.out.below hx1).mono hx1.size); have Hr1 := Lib.hid hr1; have zR1_na := Lib.hid hr1.rd; clear hr1; clear hb1 hx1)
    | (go_at_call 51; (with_reducible refine (HNb.out _ _ _ (by first | exact zR1_b.out | exact zR1_b.out.drewS)).mono ?_); rintro _ w2 ⟨_, rfl, ⟨A2, c2, rfl, hr2, hb2⟩⟩; have hx2 : Below w1.heap.size w1 w2 := (by first | exact hb2 | exact (Below.refl _ _).drew.trans hb2); have Hx2 := Lib.hid hx2; have HB2 := Lib.hid (HB1.out.trans (hx2.mono HB1.out.size)); have zc2 := (hx2.cell (p := ⟨gb, 0, none⟩) zz1).trans zc1; have zd2 := (hx2.cell (p := ⟨gb, 1, none⟩) zz1).trans zd1; have zz2 : gb < w2.heap.size := (by have := Hx2.out.size; omega); have zR2_a := Lib.hid ((zR1_a.out.below hx2).mono hx2.size); have zR2_b := Lib.hid ((zR1_b.out.below hx2).mono hx2.size); have zR2_na := Lib.hid ((zR1_na.out.below hx2).mono hx2.size); have Hr2 := Lib.hid hr2; have zR2_nb := Lib.hid hr2.rd; clear hr2; clear hb2 hx2)
    | (go_at_call 53; (with_reducible refine (HSU.out _ _ _ _ _ _ _ (by first | exact zR2_na.out | exact zR2_na.out.drewS) (by first | exact zR2_nb.out | exact zR2_nb.out.drewS) lna lnb Nna.out Nnb.out).mono ?_); rintro _ w3 ⟨r, ⟨_, rfl, ⟨A3, c3, rfl, hr3, hb3⟩⟩, hn3, hc3⟩; have hx3 : Below w2.heap.size w2 w3 := (by first | exact hb3 | exact (Below.refl _ _).drew.trans hb3); have Hx3 := Lib.hid hx3; have HB3 := Lib.hid (HB2.out.trans (hx3.mono HB2.out.size)); have zc3 := (hx3.cell (p := ⟨gb, 0, none⟩) zz2).trans zc2; have zd3 := (hx3.cell (p := ⟨gb, 1, none⟩) zz2).trans zd2; have zz3 : gb < w3.heap.size := (by have := Hx3.out.size; omega); have zR3_a := Lib.hid ((zR2_a.out.below hx3).mono hx3.size); have zR3_b := Lib.hid ((zR2_b.out.below hx3).mono hx3.size); have zR3_na := Lib.hid ((zR2_na.out.below hx3).mono hx3.size); have zR3_nb := Lib.hid ((zR2_nb.out.below hx3).mono hx3.size); have Hr3 := Lib.hid hr3; have zR3_r := Lib.hid hr3.rd; clear hr3; have Hn3 := Lib.hid hn3; have Hc3 := Lib.hid hc3; clear hn3 hc3; clear hb3 hx3))
  all_goals go_wp2_with fail
  all_goals rw [HR.out]
  all_goals
    exact ⟨_, rfl, ⟨r, ⟨_, rfl, ⟨A3, c3, rfl, Hr3.out.mono HB2.out.size, HB3.out⟩⟩, Hn3.out, Hc3.out.trans (Cna.out.add Cnb.out)⟩⟩

set_option maxHeartbeats 3200000 in
theorem pSub_yes (Aa : Option Addr) (capa : Nat) (a : List Nat) (Ab : Option Addr) (capb : Nat) (b : List Nat) (p : Nat) (w : World) (B : Nat) (hpr : Pr p) (hp : p < 4294967296) (hw : Bases w) (hB : B ≤ w.heap.size) (hr_a : Rd w B Aa (u32s a)) (hm_a : a.length ≤ Sm) (hd_a : ∀ x ∈ a, x < 4294967296) (hr_b : Rd w B Ab (u32s b)) (hm_b : b.length ≤ Sm) (hd_b : ∀ x ∈ b, x < 4294967296) :
    Calls Tryd.prog 17 #[.slice Aa a.length capa, .slice Ab b.length capb, .int .u32 (p : Int)] w (OkT (PS p w (zo a - zo b))) := by
  have hp0 := hpr.pos
  obtain ⟨sp, hsp⟩ : ∃ sp, sp = spN p := ⟨_, rfl⟩
  have HF := Lib.hid (fieldOf_yes p w hpr hp hw)
  rw [← hsp] at HF
  obtain ⟨R, hR⟩ : ∃ R, R = (OkT (PS p w (zo a - zo b))) := ⟨_, rfl⟩
  show Calls _ _ _ _ (OkT (PS p w (zo a - zo b)))
  rw [← hR]
  have HR := Lib.hid hR
  have lm_a : a.length ≤ 1099511627776 := hm_a
  obtain ⟨na, hna⟩ : ∃ na, na = mnP p a := ⟨_, rfl⟩
  have Nna : Hid (Nf p na) := by rw [hna]; exact mnP_nf hp0 a
  have Cna : Hid (Cg p (zo na) (zo a)) := by rw [hna]; exact mnP_cg p a
  have lna : na.length ≤ 1099511627776 := by have := mnP_len p a; rw [← hna] at this; omega
  have HNa : Hid (∀ (W : World) A c, Rd W W.heap.size A (u32s a) → Calls Tryd.prog 51 #[fieldV p sp, .slice A a.length c] W (PR1 W na)) := by
    rw [hna]; exact fun W A c h1 => fnormal_any p sp A c a W _ hp0 hp h1 (Nat.le_refl _) (by unfold Big; omega) hd_a
  have Ena := Lib.hid hna
  have Hr_a := Lib.hid hr_a
  have lm_b : b.length ≤ 1099511627776 := hm_b
  obtain ⟨nb, hnb⟩ : ∃ nb, nb = mnP p b := ⟨_, rfl⟩
  have Nnb : Hid (Nf p nb) := by rw [hnb]; exact mnP_nf hp0 b
  have Cnb : Hid (Cg p (zo nb) (zo b)) := by rw [hnb]; exact mnP_cg p b
  have lnb : nb.length ≤ 1099511627776 := by have := mnP_len p b; rw [← hnb] at this; omega
  have HNb : Hid (∀ (W : World) A c, Rd W W.heap.size A (u32s b) → Calls Tryd.prog 51 #[fieldV p sp, .slice A b.length c] W (PR1 W nb)) := by
    rw [hnb]; exact fun W A c h1 => fnormal_any p sp A c b W _ hp0 hp h1 (Nat.le_refl _) (by unfold Big; omega) hd_b
  have Enb := Lib.hid hnb
  have Hr_b := Lib.hid hr_b
  have HDF : Hid (∀ (W : World) A A' c c' (a b : List Nat), Rd W W.heap.size A (u32s a) → Rd W W.heap.size A' (u32s b) → a.length ≤ 1099511627776 → b.length ≤ 1099511627776 → Nf p a → Nf p b → Calls Tryd.prog 54 #[fieldV p sp, .slice A a.length c, .slice A' b.length c'] W (PS p W (zo a - zo b))) := fun W A A' c c' a b h1 h2 h3 h4 h5 h6 => fdiff_any p sp A A' c c' a b W _ hp0 hp h1 h2 (Nat.le_refl _) (by unfold Big; omega) (by unfold Big; omega) h5.1 h6.1
  clear hR hr_a hd_a hm_a hna hr_b hd_b hm_b hnb hpr hw hsp
  go_enter Tryd.func17, Tryd.ntmps17
  go_upto_region 4 with (go_at_call 50; (with_reducible refine HF.out.mono ?_); rintro _ w0 ⟨rfl, hb0⟩)
  obtain ⟨W1, hW1⟩ : ∃ W1, W1 = w0.alloc (.cells #[.int .u64 (p : Int), .int .u64 (sp : Int)] 77 (0, 0)) := ⟨_, rfl⟩
  have hb01 : Below w0.heap.size w0 W1 := by rw [hW1]; exact (Below.refl _ _).alloc (Nat.le_refl _) _
  have hbf : Blk W1 w0.heap.size 77 [.int .u64 (p : Int), .int .u64 (sp : Int)] := by rw [hW1]; exact Blk.new_ rfl
  have hzb := hbf.lt
  have f0 := hbf.cell 0
  have f1 := hbf.cell 1
  simp only [List.getElem?_cons_zero, List.getElem?_cons_succ] at f0 f1
  have Hb1 := Lib.hid (hb0.trans (hb01.mono hb0.size))
  have R0_a := Lib.hid ((Hr_a.out.below (Hb1.out.mono hB)).mono (Nat.le_trans hB Hb1.out.size))
  have R0_b := Lib.hid ((Hr_b.out.below (Hb1.out.mono hB)).mono (Nat.le_trans hB Hb1.out.size))
  rw [← hW1]
  obtain ⟨gb, hgb⟩ : ∃ gb, gb = w0.heap.size := ⟨_, rfl⟩
  rw [← hgb] at f0 f1 hzb ⊢
  clear hW1 hb01 hbf hgb hb0
  go_region_held3 (fun W => W.cell? ⟨gb, 0, none⟩ = some (.int .u64 (p : Int)) ∧ W.cell? ⟨gb, 1, none⟩ = some (.int .u64 (sp : Int))) (go_keep) (first
    | (go_at_call 51; (with_reducible refine (HNa.out _ _ _ (by first | exact R0_a.out | exact R0_a.out.drewS)).mono ?_); rintro _ w1 ⟨_, rfl, ⟨A1, c1, rfl, hr1, hb1⟩⟩; have hx1 : Below W1.heap.size W1 w1 := (by first | exact hb1 | exact (Below.refl _ _).drew.trans hb1); have Hx1 := Lib.hid hx1; have HB1 := Lib.hid (Hb1.out.trans (hx1.mono Hb1.out.size)); have zc1 := (hx1.cell (p := ⟨gb, 0, none⟩) hzb).trans f0; have zd1 := (hx1.cell (p := ⟨gb, 1, none⟩) hzb).trans f1; have zz1 : gb < w1.heap.size := (by have := Hx1.out.size; omega); have zR1_a := Lib.hid ((R0_a.out.below hx1).mono hx1.size); have zR1_b := Lib.hid ((R0_b.out.below hx1).mono hx1.size); have Hr1 := Lib.hid hr1; have zR1_na := Lib.hid hr1.rd; clear hr1; clear hb1 hx1)
    | (go_at_call 51; (with_reducible refine (HNb.out _ _ _ (by first | exact zR1_b.out | exact zR1_b.out.drewS)).mono ?_); rintro _ w2 ⟨_, rfl, ⟨A2, c2, rfl, hr2, hb2⟩⟩; have hx2 : Below w1.heap.size w1 w2 := (by first | exact hb2 | exact (Below.refl _ _).drew.trans hb2); have Hx2 := Lib.hid hx2; have HB2 := Lib.hid (HB1.out.trans (hx2.mono HB1.out.size)); have zc2 := (hx2.cell (p := ⟨gb, 0, none⟩) zz1).trans zc1; have zd2 := (hx2.cell (p := ⟨gb, 1, none⟩) zz1).trans zd1; have zz2 : gb < w2.heap.size := (by have := Hx2.out.size; omega); have zR2_a := Lib.hid ((zR1_a.out.below hx2).mono hx2.size); have zR2_b := Lib.hid ((zR1_b.out.below hx2).mono hx2.size); have zR2_na := Lib.hid ((zR1_na.out.below hx2).mono hx2.size); have Hr2 := Lib.hid hr2; have zR2_nb := Lib.hid hr2.rd; clear hr2; clear hb2 hx2)
    | (go_at_call 54; (with_reducible refine (HDF.out _ _ _ _ _ _ _ (by first | exact zR2_na.out | exact zR2_na.out.drewS) (by first | exact zR2_nb.out | exact zR2_nb.out.drewS) lna lnb Nna.out Nnb.out).mono ?_); rintro _ w3 ⟨r, ⟨_, rfl, ⟨A3, c3, rfl, hr3, hb3⟩⟩, hn3, hc3⟩; have hx3 : Below w2.heap.size w2 w3 := (by first | exact hb3 | exact (Below.refl _ _).drew.trans hb3); have Hx3 := Lib.hid hx3; have HB3 := Lib.hid (HB2.out.trans (hx3.mono HB2.out.size)); have zc3 := (hx3.cell (p := ⟨gb, 0, none⟩) zz2).trans zc2; have zd3 := (hx3.cell (p := ⟨gb, 1, none⟩) zz2).trans zd2; have zz3 : gb < w3.heap.size := (by have := Hx3.out.size; omega); have zR3_a := Lib.hid ((zR2_a.out.below hx3).mono hx3.size); have zR3_b := Lib.hid ((zR2_b.out.below hx3).mono hx3.size); have zR3_na := Lib.hid ((zR2_na.out.below hx3).mono hx3.size); have zR3_nb := Lib.hid ((zR2_nb.out.below hx3).mono hx3.size); have Hr3 := Lib.hid hr3; have zR3_r := Lib.hid hr3.rd; clear hr3; have Hn3 := Lib.hid hn3; have Hc3 := Lib.hid hc3; clear hn3 hc3; clear hb3 hx3))
  all_goals go_wp2_with fail
  all_goals rw [HR.out]
  all_goals
    exact ⟨_, rfl, ⟨r, ⟨_, rfl, ⟨A3, c3, rfl, Hr3.out.mono HB2.out.size, HB3.out⟩⟩, Hn3.out, Hc3.out.trans (Cna.out.sub Cnb.out)⟩⟩

set_option maxHeartbeats 3200000 in
theorem pMul_yes (Aa : Option Addr) (capa : Nat) (a : List Nat) (Ab : Option Addr) (capb : Nat) (b : List Nat) (p : Nat) (w : World) (B : Nat) (hpr : Pr p) (hp : p < 4294967296) (hw : Bases w) (hB : B ≤ w.heap.size) (hr_a : Rd w B Aa (u32s a)) (hm_a : a.length ≤ Sm) (hd_a : ∀ x ∈ a, x < 4294967296) (hr_b : Rd w B Ab (u32s b)) (hm_b : b.length ≤ Sm) (hd_b : ∀ x ∈ b, x < 4294967296) :
    Calls Tryd.prog 18 #[.slice Aa a.length capa, .slice Ab b.length capb, .int .u32 (p : Int)] w (OkT (PS p w (zo a * zo b))) := by
  have hp0 := hpr.pos
  obtain ⟨sp, hsp⟩ : ∃ sp, sp = spN p := ⟨_, rfl⟩
  have HF := Lib.hid (fieldOf_yes p w hpr hp hw)
  rw [← hsp] at HF
  obtain ⟨R, hR⟩ : ∃ R, R = (OkT (PS p w (zo a * zo b))) := ⟨_, rfl⟩
  show Calls _ _ _ _ (OkT (PS p w (zo a * zo b)))
  rw [← hR]
  have HR := Lib.hid hR
  have lm_a : a.length ≤ 1099511627776 := hm_a
  obtain ⟨na, hna⟩ : ∃ na, na = mnP p a := ⟨_, rfl⟩
  have Nna : Hid (Nf p na) := by rw [hna]; exact mnP_nf hp0 a
  have Cna : Hid (Cg p (zo na) (zo a)) := by rw [hna]; exact mnP_cg p a
  have lna : na.length ≤ 1099511627776 := by have := mnP_len p a; rw [← hna] at this; omega
  have HNa : Hid (∀ (W : World) A c, Rd W W.heap.size A (u32s a) → Calls Tryd.prog 51 #[fieldV p sp, .slice A a.length c] W (PR1 W na)) := by
    rw [hna]; exact fun W A c h1 => fnormal_any p sp A c a W _ hp0 hp h1 (Nat.le_refl _) (by unfold Big; omega) hd_a
  have Ena := Lib.hid hna
  have Hr_a := Lib.hid hr_a
  have lm_b : b.length ≤ 1099511627776 := hm_b
  obtain ⟨nb, hnb⟩ : ∃ nb, nb = mnP p b := ⟨_, rfl⟩
  have Nnb : Hid (Nf p nb) := by rw [hnb]; exact mnP_nf hp0 b
  have Cnb : Hid (Cg p (zo nb) (zo b)) := by rw [hnb]; exact mnP_cg p b
  have lnb : nb.length ≤ 1099511627776 := by have := mnP_len p b; rw [← hnb] at this; omega
  have HNb : Hid (∀ (W : World) A c, Rd W W.heap.size A (u32s b) → Calls Tryd.prog 51 #[fieldV p sp, .slice A b.length c] W (PR1 W nb)) := by
    rw [hnb]; exact fun W A c h1 => fnormal_any p sp A c b W _ hp0 hp h1 (Nat.le_refl _) (by unfold Big; omega) hd_b
  have Enb := Lib.hid hnb
  have Hr_b := Lib.hid hr_b
  have HPR : Hid (∀ (W : World) A A' c c' (a b : List Nat), Rd W W.heap.size A (u32s a) → Rd W W.heap.size A' (u32s b) → a.length ≤ 1099511627776 → b.length ≤ 1099511627776 → Nf p a → Nf p b → Calls Tryd.prog 55 #[fieldV p sp, .slice A a.length c, .slice A' b.length c'] W (PS p W (zo a * zo b))) := fun W A A' c c' a b h1 h2 h3 h4 h5 h6 => fproduct_any p sp A A' c c' a b W _ hpr hp hsp h1 h2 (Nat.le_refl _) (by unfold Big; omega) (by unfold Big; omega) h5 h6
  clear hR hr_a hd_a hm_a hna hr_b hd_b hm_b hnb hpr hw hsp
  go_enter Tryd.func18, Tryd.ntmps18
  go_upto_region 4 with (go_at_call 50; (with_reducible refine HF.out.mono ?_); rintro _ w0 ⟨rfl, hb0⟩)
  obtain ⟨W1, hW1⟩ : ∃ W1, W1 = w0.alloc (.cells #[.int .u64 (p : Int), .int .u64 (sp : Int)] 77 (0, 0)) := ⟨_, rfl⟩
  have hb01 : Below w0.heap.size w0 W1 := by rw [hW1]; exact (Below.refl _ _).alloc (Nat.le_refl _) _
  have hbf : Blk W1 w0.heap.size 77 [.int .u64 (p : Int), .int .u64 (sp : Int)] := by rw [hW1]; exact Blk.new_ rfl
  have hzb := hbf.lt
  have f0 := hbf.cell 0
  have f1 := hbf.cell 1
  simp only [List.getElem?_cons_zero, List.getElem?_cons_succ] at f0 f1
  have Hb1 := Lib.hid (hb0.trans (hb01.mono hb0.size))
  have R0_a := Lib.hid ((Hr_a.out.below (Hb1.out.mono hB)).mono (Nat.le_trans hB Hb1.out.size))
  have R0_b := Lib.hid ((Hr_b.out.below (Hb1.out.mono hB)).mono (Nat.le_trans hB Hb1.out.size))
  rw [← hW1]
  obtain ⟨gb, hgb⟩ : ∃ gb, gb = w0.heap.size := ⟨_, rfl⟩
  rw [← hgb] at f0 f1 hzb ⊢
  clear hW1 hb01 hbf hgb hb0
  go_region_held3 (fun W => W.cell? ⟨gb, 0, none⟩ = some (.int .u64 (p : Int)) ∧ W.cell? ⟨gb, 1, none⟩ = some (.int .u64 (sp : Int))) (go_keep) (first
    | (go_at_call 51; (with_reducible refine (HNa.out _ _ _ (by first | exact R0_a.out | exact R0_a.out.drewS)).mono ?_); rintro _ w1 ⟨_, rfl, ⟨A1, c1, rfl, hr1, hb1⟩⟩; have hx1 : Below W1.heap.size W1 w1 := (by first | exact hb1 | exact (Below.refl _ _).drew.trans hb1); have Hx1 := Lib.hid hx1; have HB1 := Lib.hid (Hb1.out.trans (hx1.mono Hb1.out.size)); have zc1 := (hx1.cell (p := ⟨gb, 0, none⟩) hzb).trans f0; have zd1 := (hx1.cell (p := ⟨gb, 1, none⟩) hzb).trans f1; have zz1 : gb < w1.heap.size := (by have := Hx1.out.size; omega); have zR1_a := Lib.hid ((R0_a.out.below hx1).mono hx1.size); have zR1_b := Lib.hid ((R0_b.out.below hx1).mono hx1.size); have Hr1 := Lib.hid hr1; have zR1_na := Lib.hid hr1.rd; clear hr1; clear hb1 hx1)
    | (go_at_call 51; (with_reducible refine (HNb.out _ _ _ (by first | exact zR1_b.out | exact zR1_b.out.drewS)).mono ?_); rintro _ w2 ⟨_, rfl, ⟨A2, c2, rfl, hr2, hb2⟩⟩; have hx2 : Below w1.heap.size w1 w2 := (by first | exact hb2 | exact (Below.refl _ _).drew.trans hb2); have Hx2 := Lib.hid hx2; have HB2 := Lib.hid (HB1.out.trans (hx2.mono HB1.out.size)); have zc2 := (hx2.cell (p := ⟨gb, 0, none⟩) zz1).trans zc1; have zd2 := (hx2.cell (p := ⟨gb, 1, none⟩) zz1).trans zd1; have zz2 : gb < w2.heap.size := (by have := Hx2.out.size; omega); have zR2_a := Lib.hid ((zR1_a.out.below hx2).mono hx2.size); have zR2_b := Lib.hid ((zR1_b.out.below hx2).mono hx2.size); have zR2_na := Lib.hid ((zR1_na.out.below hx2).mono hx2.size); have Hr2 := Lib.hid hr2; have zR2_nb := Lib.hid hr2.rd; clear hr2; clear hb2 hx2)
    | (go_at_call 55; (with_reducible refine (HPR.out _ _ _ _ _ _ _ (by first | exact zR2_na.out | exact zR2_na.out.drewS) (by first | exact zR2_nb.out | exact zR2_nb.out.drewS) lna lnb Nna.out Nnb.out).mono ?_); rintro _ w3 ⟨r, ⟨_, rfl, ⟨A3, c3, rfl, hr3, hb3⟩⟩, hn3, hc3⟩; have hx3 : Below w2.heap.size w2 w3 := (by first | exact hb3 | exact (Below.refl _ _).drew.trans hb3); have Hx3 := Lib.hid hx3; have HB3 := Lib.hid (HB2.out.trans (hx3.mono HB2.out.size)); have zc3 := (hx3.cell (p := ⟨gb, 0, none⟩) zz2).trans zc2; have zd3 := (hx3.cell (p := ⟨gb, 1, none⟩) zz2).trans zd2; have zz3 : gb < w3.heap.size := (by have := Hx3.out.size; omega); have zR3_a := Lib.hid ((zR2_a.out.below hx3).mono hx3.size); have zR3_b := Lib.hid ((zR2_b.out.below hx3).mono hx3.size); have zR3_na := Lib.hid ((zR2_na.out.below hx3).mono hx3.size); have zR3_nb := Lib.hid ((zR2_nb.out.below hx3).mono hx3.size); have Hr3 := Lib.hid hr3; have zR3_r := Lib.hid hr3.rd; clear hr3; have Hn3 := Lib.hid hn3; have Hc3 := Lib.hid hc3; clear hn3 hc3; clear hb3 hx3))
  all_goals go_wp2_with fail
  all_goals rw [HR.out]
  all_goals
    exact ⟨_, rfl, ⟨r, ⟨_, rfl, ⟨A3, c3, rfl, Hr3.out.mono HB2.out.size, HB3.out⟩⟩, Hn3.out, Hc3.out.trans (Cna.out.mul Cnb.out)⟩⟩

set_option maxHeartbeats 3200000 in
theorem pScale_yes (Aa : Option Addr) (capa : Nat) (a : List Nat) (c : Nat) (p : Nat) (w : World) (B : Nat) (hpr : Pr p) (hp : p < 4294967296) (hw : Bases w) (hB : B ≤ w.heap.size) (hr_a : Rd w B Aa (u32s a)) (hm_a : a.length ≤ Sm) (hd_a : ∀ x ∈ a, x < 4294967296) (_ : c < 4294967296) :
    Calls Tryd.prog 30 #[.slice Aa a.length capa, .int .u32 (c : Int), .int .u32 (p : Int)] w (OkT (PS p w (zo a * .c c))) := by
  have hp0 := hpr.pos
  obtain ⟨sp, hsp⟩ : ∃ sp, sp = spN p := ⟨_, rfl⟩
  have HF := Lib.hid (fieldOf_yes p w hpr hp hw)
  rw [← hsp] at HF
  obtain ⟨R, hR⟩ : ∃ R, R = (OkT (PS p w (zo a * .c c))) := ⟨_, rfl⟩
  show Calls _ _ _ _ (OkT (PS p w (zo a * .c c)))
  rw [← hR]
  have HR := Lib.hid hR
  have lm_a : a.length ≤ 1099511627776 := hm_a
  obtain ⟨na, hna⟩ : ∃ na, na = mnP p a := ⟨_, rfl⟩
  have Nna : Hid (Nf p na) := by rw [hna]; exact mnP_nf hp0 a
  have Cna : Hid (Cg p (zo na) (zo a)) := by rw [hna]; exact mnP_cg p a
  have lna : na.length ≤ 1099511627776 := by have := mnP_len p a; rw [← hna] at this; omega
  have HNa : Hid (∀ (W : World) A c, Rd W W.heap.size A (u32s a) → Calls Tryd.prog 51 #[fieldV p sp, .slice A a.length c] W (PR1 W na)) := by
    rw [hna]; exact fun W A c h1 => fnormal_any p sp A c a W _ hp0 hp h1 (Nat.le_refl _) (by unfold Big; omega) hd_a
  have Ena := Lib.hid hna
  have Hr_a := Lib.hid hr_a
  have HSC : Hid (∀ (W : World) A c (a : List Nat) (u : Nat), Rd W W.heap.size A (u32s a) → a.length ≤ 1099511627776 → Nf p a → u < 4294967296 → Calls Tryd.prog 60 #[fieldV p sp, .slice A a.length c, .int .u32 (u : Int)] W (PS p W (zo a * .c u))) := fun W A c a u h1 h2 h3 h4 => scaled_any p sp A c u a W _ hp0 hp h1 (Nat.le_refl _) (by unfold Big; omega) (fun x hx => by have := h3.1 x hx; omega) h4
  have t4 : ((p : Int) == 0) = false := bz hp0
  obtain ⟨xr, hxr⟩ : ∃ xr, xr = c % p := ⟨_, rfl⟩
  have hxrp : xr < p := by rw [hxr]; exact Nat.mod_lt _ hp0
  have q4 : (c : Int).tmod (p : Int) = (xr : Int) := by rw [tmodN, hxr]
  have q5 := w32 (n := xr) (by omega)
  have q7 : p ≠ 0 := by omega
  have Hxr := Lib.hid hxr
  have hxr32 : xr < 4294967296 := by omega
  clear hxr
  clear hR hr_a hd_a hm_a hna hpr hw hsp
  go_enter Tryd.func30, Tryd.ntmps30
  go_upto_region 4 with (go_at_call 50; (with_reducible refine HF.out.mono ?_); rintro _ w0 ⟨rfl, hb0⟩)
  obtain ⟨W1, hW1⟩ : ∃ W1, W1 = w0.alloc (.cells #[.int .u64 (p : Int), .int .u64 (sp : Int)] 77 (0, 0)) := ⟨_, rfl⟩
  have hb01 : Below w0.heap.size w0 W1 := by rw [hW1]; exact (Below.refl _ _).alloc (Nat.le_refl _) _
  have hbf : Blk W1 w0.heap.size 77 [.int .u64 (p : Int), .int .u64 (sp : Int)] := by rw [hW1]; exact Blk.new_ rfl
  have hzb := hbf.lt
  have f0 := hbf.cell 0
  have f1 := hbf.cell 1
  simp only [List.getElem?_cons_zero, List.getElem?_cons_succ] at f0 f1
  have Hb1 := Lib.hid (hb0.trans (hb01.mono hb0.size))
  have R0_a := Lib.hid ((Hr_a.out.below (Hb1.out.mono hB)).mono (Nat.le_trans hB Hb1.out.size))
  rw [← hW1]
  obtain ⟨gb, hgb⟩ : ∃ gb, gb = w0.heap.size := ⟨_, rfl⟩
  rw [← hgb] at f0 f1 hzb ⊢
  clear hW1 hb01 hbf hgb hb0
  go_region_held3 (fun W => W.cell? ⟨gb, 0, none⟩ = some (.int .u64 (p : Int)) ∧ W.cell? ⟨gb, 1, none⟩ = some (.int .u64 (sp : Int))) (go_keep) (first
    | (go_at_call 51; (with_reducible refine (HNa.out _ _ _ (by first | exact R0_a.out | exact R0_a.out.drewS)).mono ?_); rintro _ w1 ⟨_, rfl, ⟨A1, c1, rfl, hr1, hb1⟩⟩; have hx1 : Below W1.heap.size W1 w1 := (by first | exact hb1 | exact (Below.refl _ _).drew.trans hb1); have Hx1 := Lib.hid hx1; have HB1 := Lib.hid (Hb1.out.trans (hx1.mono Hb1.out.size)); have zc1 := (hx1.cell (p := ⟨gb, 0, none⟩) hzb).trans f0; have zd1 := (hx1.cell (p := ⟨gb, 1, none⟩) hzb).trans f1; have zz1 : gb < w1.heap.size := (by have := Hx1.out.size; omega); have zR1_a := Lib.hid ((R0_a.out.below hx1).mono hx1.size); have Hr1 := Lib.hid hr1; have zR1_na := Lib.hid hr1.rd; clear hr1; clear hb1 hx1)
    | (go_at_call 60; (with_reducible refine (HSC.out _ _ _ _ _ (by first | exact zR1_na.out | exact zR1_na.out.drewS) lna Nna.out hxr32).mono ?_); rintro _ w2 ⟨r, ⟨_, rfl, ⟨A2, c2, rfl, hr2, hb2⟩⟩, hn2, hc2⟩; have hx2 : Below w1.heap.size w1 w2 := (by first | exact hb2 | exact (Below.refl _ _).drew.trans hb2); have Hx2 := Lib.hid hx2; have HB2 := Lib.hid (HB1.out.trans (hx2.mono HB1.out.size)); have zc2 := (hx2.cell (p := ⟨gb, 0, none⟩) zz1).trans zc1; have zd2 := (hx2.cell (p := ⟨gb, 1, none⟩) zz1).trans zd1; have zz2 : gb < w2.heap.size := (by have := Hx2.out.size; omega); have zR2_a := Lib.hid ((zR1_a.out.below hx2).mono hx2.size); have zR2_na := Lib.hid ((zR1_na.out.below hx2).mono hx2.size); have Hr2 := Lib.hid hr2; have zR2_r := Lib.hid hr2.rd; clear hr2; have Hn2 := Lib.hid hn2; have Hc2 := Lib.hid hc2; clear hn2 hc2; clear hb2 hx2))
  all_goals go_wp2_with fail
  all_goals rw [HR.out]
  all_goals
    exact ⟨_, rfl, ⟨r, ⟨_, rfl, ⟨A2, c2, rfl, Hr2.out.mono HB1.out.size, HB2.out⟩⟩, Hn2.out, Hc2.out.trans (by rw [Hxr.out]; exact Cna.out.mul (c_mod c p))⟩⟩

set_option maxHeartbeats 3200000 in
theorem pEval_yes (Aa : Option Addr) (capa : Nat) (a : List Nat) (x : Nat) (p : Nat) (w : World) (B : Nat) (hpr : Pr p) (hp : p < 4294967296) (hw : Bases w) (hB : B ≤ w.heap.size) (hr_a : Rd w B Aa (u32s a)) (hm_a : a.length ≤ Sm) (hd_a : ∀ x ∈ a, x < 4294967296) (_ : x < 4294967296) :
    Calls Tryd.prog 33 #[.slice Aa a.length capa, .int .u32 (x : Int), .int .u32 (p : Int)] w (OkT (fun e w' => e = .returned (.int .u32 ((evN p (mnP p a) (x % p) : Nat) : Int)) ∧ Below w.heap.size w w')) := by
  have hp0 := hpr.pos
  obtain ⟨sp, hsp⟩ : ∃ sp, sp = spN p := ⟨_, rfl⟩
  have HF := Lib.hid (fieldOf_yes p w hpr hp hw)
  rw [← hsp] at HF
  obtain ⟨R, hR⟩ : ∃ R, R = (OkT (fun e w' => e = .returned (.int .u32 ((evN p (mnP p a) (x % p) : Nat) : Int)) ∧ Below w.heap.size w w')) := ⟨_, rfl⟩
  show Calls _ _ _ _ (OkT (fun e w' => e = .returned (.int .u32 ((evN p (mnP p a) (x % p) : Nat) : Int)) ∧ Below w.heap.size w w'))
  rw [← hR]
  have HR := Lib.hid hR
  have lm_a : a.length ≤ 1099511627776 := hm_a
  obtain ⟨na, hna⟩ : ∃ na, na = mnP p a := ⟨_, rfl⟩
  have Nna : Hid (Nf p na) := by rw [hna]; exact mnP_nf hp0 a
  have Cna : Hid (Cg p (zo na) (zo a)) := by rw [hna]; exact mnP_cg p a
  have lna : na.length ≤ 1099511627776 := by have := mnP_len p a; rw [← hna] at this; omega
  have HNa : Hid (∀ (W : World) A c, Rd W W.heap.size A (u32s a) → Calls Tryd.prog 51 #[fieldV p sp, .slice A a.length c] W (PR1 W na)) := by
    rw [hna]; exact fun W A c h1 => fnormal_any p sp A c a W _ hp0 hp h1 (Nat.le_refl _) (by unfold Big; omega) hd_a
  have Ena := Lib.hid hna
  have Hr_a := Lib.hid hr_a
  have HEV : Hid (∀ (W : World) A c (a : List Nat) (x : Nat), Rd W W.heap.size A (u32s a) → a.length ≤ 1099511627776 → Nf p a → x < p → Calls Tryd.prog 62 #[fieldV p sp, .slice A a.length c, .int .u32 (x : Int)] W fun e w' => e = .returned (.int .u32 ((evN p a x : Nat) : Int)) ∧ Below W.heap.size W w') := fun W A c a x h1 h2 h3 h4 => feval_any p sp A c a x W _ hp0 hp h1 (Nat.le_refl _) (by unfold Big; omega) (fun x hx => by have := h3.1 x hx; omega) h4
  have t4 : ((p : Int) == 0) = false := bz hp0
  obtain ⟨xr, hxr⟩ : ∃ xr, xr = x % p := ⟨_, rfl⟩
  have hxrp : xr < p := by rw [hxr]; exact Nat.mod_lt _ hp0
  have q4 : (x : Int).tmod (p : Int) = (xr : Int) := by rw [tmodN, hxr]
  have q5 := w32 (n := xr) (by omega)
  have q7 : p ≠ 0 := by omega
  have Hxr := Lib.hid hxr
  have hxr32 : xr < 4294967296 := by omega
  clear hxr
  clear hR hr_a hd_a hm_a hna hpr hw hsp
  go_enter Tryd.func33, Tryd.ntmps33
  go_upto_region 4 with (go_at_call 50; (with_reducible refine HF.out.mono ?_); rintro _ w0 ⟨rfl, hb0⟩)
  obtain ⟨W1, hW1⟩ : ∃ W1, W1 = w0.alloc (.cells #[.int .u64 (p : Int), .int .u64 (sp : Int)] 77 (0, 0)) := ⟨_, rfl⟩
  have hb01 : Below w0.heap.size w0 W1 := by rw [hW1]; exact (Below.refl _ _).alloc (Nat.le_refl _) _
  have hbf : Blk W1 w0.heap.size 77 [.int .u64 (p : Int), .int .u64 (sp : Int)] := by rw [hW1]; exact Blk.new_ rfl
  have hzb := hbf.lt
  have f0 := hbf.cell 0
  have f1 := hbf.cell 1
  simp only [List.getElem?_cons_zero, List.getElem?_cons_succ] at f0 f1
  have Hb1 := Lib.hid (hb0.trans (hb01.mono hb0.size))
  have R0_a := Lib.hid ((Hr_a.out.below (Hb1.out.mono hB)).mono (Nat.le_trans hB Hb1.out.size))
  rw [← hW1]
  obtain ⟨gb, hgb⟩ : ∃ gb, gb = w0.heap.size := ⟨_, rfl⟩
  rw [← hgb] at f0 f1 hzb ⊢
  clear hW1 hb01 hbf hgb hb0
  go_region_held3 (fun W => W.cell? ⟨gb, 0, none⟩ = some (.int .u64 (p : Int)) ∧ W.cell? ⟨gb, 1, none⟩ = some (.int .u64 (sp : Int))) (go_keep) (first
    | (go_at_call 51; (with_reducible refine (HNa.out _ _ _ (by first | exact R0_a.out | exact R0_a.out.drewS)).mono ?_); rintro _ w1 ⟨_, rfl, ⟨A1, c1, rfl, hr1, hb1⟩⟩; have hx1 : Below W1.heap.size W1 w1 := (by first | exact hb1 | exact (Below.refl _ _).drew.trans hb1); have Hx1 := Lib.hid hx1; have HB1 := Lib.hid (Hb1.out.trans (hx1.mono Hb1.out.size)); have zc1 := (hx1.cell (p := ⟨gb, 0, none⟩) hzb).trans f0; have zd1 := (hx1.cell (p := ⟨gb, 1, none⟩) hzb).trans f1; have zz1 : gb < w1.heap.size := (by have := Hx1.out.size; omega); have zR1_a := Lib.hid ((R0_a.out.below hx1).mono hx1.size); have Hr1 := Lib.hid hr1; have zR1_na := Lib.hid hr1.rd; clear hr1; clear hb1 hx1)
    | (go_at_call 62; (with_reducible refine (HEV.out _ _ _ _ _ (by first | exact zR1_na.out | exact zR1_na.out.drewS) lna Nna.out hxrp).mono ?_); rintro _ w2 ⟨rfl, hb2⟩; have hx2 : Below w1.heap.size w1 w2 := (by first | exact hb2 | exact (Below.refl _ _).drew.trans hb2); have Hx2 := Lib.hid hx2; have HB2 := Lib.hid (HB1.out.trans (hx2.mono HB1.out.size)); have zc2 := (hx2.cell (p := ⟨gb, 0, none⟩) zz1).trans zc1; have zd2 := (hx2.cell (p := ⟨gb, 1, none⟩) zz1).trans zd1; have zz2 : gb < w2.heap.size := (by have := Hx2.out.size; omega); have zR2_a := Lib.hid ((zR1_a.out.below hx2).mono hx2.size); have zR2_na := Lib.hid ((zR1_na.out.below hx2).mono hx2.size); clear hb2 hx2))
  all_goals go_wp2_with fail
  all_goals rw [HR.out]
  all_goals
    exact ⟨_, rfl, by rw [← Ena.out, ← Hxr.out]; rfl, HB2.out⟩

set_option maxHeartbeats 3200000 in
theorem pDeriv_yes (Aa : Option Addr) (capa : Nat) (a : List Nat) (p : Nat) (w : World) (B : Nat) (hpr : Pr p) (hp : p < 4294967296) (hw : Bases w) (hB : B ≤ w.heap.size) (hr_a : Rd w B Aa (u32s a)) (hm_a : a.length ≤ Sm) (hd_a : ∀ x ∈ a, x < 4294967296) :
    Calls Tryd.prog 34 #[.slice Aa a.length capa, .int .u32 (p : Int)] w (OkT (PR1 w (derP p (mnP p a)))) := by
  have hp0 := hpr.pos
  obtain ⟨sp, hsp⟩ : ∃ sp, sp = spN p := ⟨_, rfl⟩
  have HF := Lib.hid (fieldOf_yes p w hpr hp hw)
  rw [← hsp] at HF
  obtain ⟨R, hR⟩ : ∃ R, R = (OkT (PR1 w (derP p (mnP p a)))) := ⟨_, rfl⟩
  show Calls _ _ _ _ (OkT (PR1 w (derP p (mnP p a))))
  rw [← hR]
  have HR := Lib.hid hR
  have lm_a : a.length ≤ 1099511627776 := hm_a
  obtain ⟨na, hna⟩ : ∃ na, na = mnP p a := ⟨_, rfl⟩
  have Nna : Hid (Nf p na) := by rw [hna]; exact mnP_nf hp0 a
  have Cna : Hid (Cg p (zo na) (zo a)) := by rw [hna]; exact mnP_cg p a
  have lna : na.length ≤ 1099511627776 := by have := mnP_len p a; rw [← hna] at this; omega
  have HNa : Hid (∀ (W : World) A c, Rd W W.heap.size A (u32s a) → Calls Tryd.prog 51 #[fieldV p sp, .slice A a.length c] W (PR1 W na)) := by
    rw [hna]; exact fun W A c h1 => fnormal_any p sp A c a W _ hp0 hp h1 (Nat.le_refl _) (by unfold Big; omega) hd_a
  have Ena := Lib.hid hna
  have Hr_a := Lib.hid hr_a
  have HDR : Hid (∀ (W : World) A c (a : List Nat), Rd W W.heap.size A (u32s a) → a.length ≤ 1099511627776 → Nf p a → Calls Tryd.prog 63 #[fieldV p sp, .slice A a.length c] W (PR1 W (derP p a))) := fun W A c a h1 h2 h3 => fderiv_any p sp A c a W _ hp0 hp h1 (Nat.le_refl _) (by unfold Big; omega) (fun x hx => by have := h3.1 x hx; omega)
  clear hR hr_a hd_a hm_a hna hpr hw hsp
  go_enter Tryd.func34, Tryd.ntmps34
  go_upto_region 4 with (go_at_call 50; (with_reducible refine HF.out.mono ?_); rintro _ w0 ⟨rfl, hb0⟩)
  obtain ⟨W1, hW1⟩ : ∃ W1, W1 = w0.alloc (.cells #[.int .u64 (p : Int), .int .u64 (sp : Int)] 77 (0, 0)) := ⟨_, rfl⟩
  have hb01 : Below w0.heap.size w0 W1 := by rw [hW1]; exact (Below.refl _ _).alloc (Nat.le_refl _) _
  have hbf : Blk W1 w0.heap.size 77 [.int .u64 (p : Int), .int .u64 (sp : Int)] := by rw [hW1]; exact Blk.new_ rfl
  have hzb := hbf.lt
  have f0 := hbf.cell 0
  have f1 := hbf.cell 1
  simp only [List.getElem?_cons_zero, List.getElem?_cons_succ] at f0 f1
  have Hb1 := Lib.hid (hb0.trans (hb01.mono hb0.size))
  have R0_a := Lib.hid ((Hr_a.out.below (Hb1.out.mono hB)).mono (Nat.le_trans hB Hb1.out.size))
  rw [← hW1]
  obtain ⟨gb, hgb⟩ : ∃ gb, gb = w0.heap.size := ⟨_, rfl⟩
  rw [← hgb] at f0 f1 hzb ⊢
  clear hW1 hb01 hbf hgb hb0
  go_region_held3 (fun W => W.cell? ⟨gb, 0, none⟩ = some (.int .u64 (p : Int)) ∧ W.cell? ⟨gb, 1, none⟩ = some (.int .u64 (sp : Int))) (go_keep) (first
    | (go_at_call 51; (with_reducible refine (HNa.out _ _ _ (by first | exact R0_a.out | exact R0_a.out.drewS)).mono ?_); rintro _ w1 ⟨_, rfl, ⟨A1, c1, rfl, hr1, hb1⟩⟩; have hx1 : Below W1.heap.size W1 w1 := (by first | exact hb1 | exact (Below.refl _ _).drew.trans hb1); have Hx1 := Lib.hid hx1; have HB1 := Lib.hid (Hb1.out.trans (hx1.mono Hb1.out.size)); have zc1 := (hx1.cell (p := ⟨gb, 0, none⟩) hzb).trans f0; have zd1 := (hx1.cell (p := ⟨gb, 1, none⟩) hzb).trans f1; have zz1 : gb < w1.heap.size := (by have := Hx1.out.size; omega); have zR1_a := Lib.hid ((R0_a.out.below hx1).mono hx1.size); have Hr1 := Lib.hid hr1; have zR1_na := Lib.hid hr1.rd; clear hr1; clear hb1 hx1)
    | (go_at_call 63; (with_reducible refine (HDR.out _ _ _ _ (by first | exact zR1_na.out | exact zR1_na.out.drewS) lna Nna.out).mono ?_); rintro _ w2 ⟨_, rfl, ⟨A2, c2, rfl, hr2, hb2⟩⟩; have hx2 : Below w1.heap.size w1 w2 := (by first | exact hb2 | exact (Below.refl _ _).drew.trans hb2); have Hx2 := Lib.hid hx2; have HB2 := Lib.hid (HB1.out.trans (hx2.mono HB1.out.size)); have zc2 := (hx2.cell (p := ⟨gb, 0, none⟩) zz1).trans zc1; have zd2 := (hx2.cell (p := ⟨gb, 1, none⟩) zz1).trans zd1; have zz2 : gb < w2.heap.size := (by have := Hx2.out.size; omega); have zR2_a := Lib.hid ((zR1_a.out.below hx2).mono hx2.size); have zR2_na := Lib.hid ((zR1_na.out.below hx2).mono hx2.size); have Hr2 := Lib.hid hr2; have zR2_dna := Lib.hid hr2.rd; clear hr2; clear hb2 hx2))
  all_goals go_wp2_with fail
  all_goals rw [HR.out]
  all_goals
    exact ⟨_, rfl, ⟨_, rfl, Ena.out ▸ ⟨A2, c2, rfl, Hr2.out.mono HB1.out.size, HB2.out⟩⟩⟩
end
end Go.Proofs.YtddhhndnkjajmaaDoor
