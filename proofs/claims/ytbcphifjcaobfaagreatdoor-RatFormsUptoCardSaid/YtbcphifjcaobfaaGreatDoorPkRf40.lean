/- The contracts of rat.Sign, rat.Cmp and rat.Floor, and of the. -/
import Derived.Test.YtbcphifjcaobfaaGreatDoorPkRf39
namespace Go.Proofs.YtbcphifjcaobfaaGreatDoor
open Go.RowKit
def IE (w w' : World) (z er : Int) (e : Ending) : Prop := ∃ (s0 : Bool) (s1 : Option Addr) (s2 s3 : Nat), e = .returned (.tuple #[.agg #[.bool s0, .slice s1 s2 s3], .int .i64 er]) ∧ IN w' w.heap.size (.bool s0) (.slice s1 s2 s3) z ∧ Below w.heap.size w w'
section
variable {fn : Func} {a : Act} {w W : World} {p q : Tmp} {r B : Nat} {x y : Value} {s0 : Bool} {s1 : Option Addr} {s2 s3 : Nat} {z er : Int}
theorem in2 (hn : IN W B (.bool s0) (.slice s1 s2 s3) z) (hB : Blk W r 25 [x, y]) : IN ((W.setCell ⟨r, 0, none⟩ (.bool s0)).setCell ⟨r, 1, none⟩ (.slice s1 s2 s3)) B (.bool s0) (.slice s1 s2 s3) z := (hn.var hB ne_iu _).var (hB.set_ 0 (.bool s0)) ne_iu _
theorem io_ret (hbel : Below w.heap.size w W) (hB : Blk W r 25 [x, y]) (hr : w.heap.size ≤ r) (hn : IN W w.heap.size (.bool s0) (.slice s1 s2 s3) z) (hres0 : fn.results = #[.cell p 25]) (hp : a.tmps.getD p undef = .pointer (some ⟨r, 0, none⟩)) (hd : a.defers = []) :
  bodyPost Tryz.prog fn (fun e w' => IOz w w' z e) .ret a ((W.setCell ⟨r, 0, none⟩ (.bool s0)).setCell ⟨r, 1, none⟩ (.slice s1 s2 s3)) :=
 bodyPost_ret (results_cell_row hres0 _ _ r 25 _ (0, 0) _ hp (blk_pair hB _ _) Tryz.underlying25 rfl (by kernel_rfl)) hd ⟨_, _, _, _, rfl, in2 hn hB, bsc (bsc hbel hr _) hr _⟩
theorem ie_ret (hbel : Below w.heap.size w W) (hB : Blk W r 25 [x, y]) (hr : w.heap.size ≤ r) (hn : IN W w.heap.size (.bool s0) (.slice s1 s2 s3) z) (hres0 : fn.results = #[.cell p 25, .tmp q]) (hp : a.tmps.getD p undef = .pointer (some ⟨r, 0, none⟩)) (hq : a.tmps.getD q undef = .int .i64 er) (hd : a.defers = []) :
  bodyPost Tryz.prog fn (fun e w' => IE w w' z er e) .ret a ((W.setCell ⟨r, 0, none⟩ (.bool s0)).setCell ⟨r, 1, none⟩ (.slice s1 s2 s3)) :=
 bodyPost_ret (results_zs hres0 hp (blk_pair hB _ _)) hd ⟨_, _, _, _, by rw [hq], in2 hn hB, bsc (bsc hbel hr _) hr _⟩
end
theorem sub_sign {z y x v : Int} (hy : y ≠ 0) (hv : v ≠ 0) : (Rat.divInt z y - Rat.divInt x v).num.sign = y.sign * v.sign * (z * v - x * y).sign := by
 rw [Rat.divInt_sub_divInt _ _ hy hv, num_sign (Int.mul_ne_zero hy hv), Int.sign_mul y v, Int.mul_comm]
theorem sign3_wrap (a b c : Int) : IntKind.i64.wrap (a.sign * b.sign * c.sign) = a.sign * b.sign * c.sign := by
 rcases sign_cases a with ⟨_, h⟩ | ⟨_, h⟩ | ⟨_, h⟩ <;> rcases sign_cases b with ⟨_, k⟩ | ⟨_, k⟩ | ⟨_, k⟩ <;> rcases sign_cases c with ⟨_, l⟩ | ⟨_, l⟩ | ⟨_, l⟩ <;> rw [h, k, l] <;> decide
theorem up_q {z y : Int} (hy : y ≠ 0) : upN z y / upD y = (Rat.divInt z y).num / (Rat.divInt z y).den := by
 have hg : 0 < Int.gcd y z := Int.gcd_pos_of_ne_zero_left _ hy
 rw [up_sign hy]
 unfold upD
 rw [← num_div z y hy, ← den_div z y hy]
 exact Int.mul_ediv_mul_of_pos_left _ _ (by omega)
section
variable {w : World} {B B2 gp gq : Nat} {K N : Nat} {z y x v n m : Int} {q r : Rat} {a0 a1 a2 a3 b0 b1 b2 b3 : Value}
theorem IV.zcmp {J : Nat} {p q p2 q2 : Value} (h : IV B w p q z K) (h2 : IV B2 w p2 q2 y J) (hK : K ≤ 67108864) (hJ : J ≤ 67108864) : Calls Tryz.prog 65 #[.agg #[p, q], .agg #[p2, q2]] w fun e w' => e = .returned (.int .i64 (z - y).sign) ∧ Below w.heap.size w w' := by
 obtain ⟨g, A, c, xs, rfl, rfl, k⟩ := h.open_
 obtain ⟨g2, A2, c2, ys, rfl, rfl, k2⟩ := h2.open_
 exact k.cmp k2 hK hJ
theorem IV.euclid {J : Nat} {p q p2 q2 : Value} (h : IV B w p q z K) (h2 : IV B2 w p2 q2 y J) (hK : K ≤ 67108864) (hJ : J ≤ 67108864) (hy : y ≠ 0) : Calls Tryz.prog 70 #[.agg #[p, q], .agg #[p2, q2]] w fun e w' => ∃ (s0 : Bool) (s1 : Option Addr) (s2 s3 : Nat) (s4 : Bool) (s5 : Option Addr) (s6 s7 : Nat), e = .returned (.tuple #[.agg #[.bool s0, .slice s1 s2 s3], .agg #[.bool s4, .slice s5 s6 s7], .int .i64 0]) ∧ (IN w' w.heap.size (.bool s0) (.slice s1 s2 s3) (z / y) ∧ IN w' w.heap.size (.bool s4) (.slice s5 s6 s7) (z % y)) ∧ Below w.heap.size w w' := by
 obtain ⟨g, A, c, xs, rfl, rfl, k⟩ := h.open_
 obtain ⟨g2, A2, c2, ys, rfl, rfl, k2⟩ := h2.open_
 have h9 := k.euclid k2 hK hJ
 rw [show euR z y = z % y from if_neg hy, show euE y = 0 from if_neg hy, show euQ z y = z / y from rfl] at h9
 refine h9.mono ?_
 rintro e w' ⟨qs, rs, A1, c1, A3, c3, rfl, n1, n2, r1, r2, hb⟩
 exact ⟨_, _, _, _, _, _, _, _, rfl, ⟨IN.of n1 r1, IN.of n2 r2⟩, hb⟩
theorem IV.reuclid {J : Nat} {p q p2 q2 : Value} (h : IV B w p q z K) (h2 : IV B2 w p2 q2 y J) (hK : K ≤ 67108863) (hJ : J ≤ 67108863) (hy : y ≠ 0) : Calls Tryz.prog 78 #[.agg #[p, q], .agg #[p2, q2]] w fun e w' => ∃ (s0 : Bool) (s1 : Option Addr) (s2 s3 : Nat) (s4 : Bool) (s5 : Option Addr) (s6 s7 : Nat), e = .returned (.tuple #[.agg #[.bool s0, .slice s1 s2 s3], .agg #[.bool s4, .slice s5 s6 s7]]) ∧ (IN w' w.heap.size (.bool s0) (.slice s1 s2 s3) (z / y) ∧ IN w' w.heap.size (.bool s4) (.slice s5 s6 s7) (z % y)) ∧ Below w.heap.size w w' := by
 obtain ⟨g, A, c, xs, rfl, rfl, k⟩ := h.open_
 obtain ⟨g2, A2, c2, ys, rfl, rfl, k2⟩ := h2.open_
 refine (k.reuclid k2 hy hK hJ).mono ?_
 rintro e w' ⟨qs, rs, A1, c1, A3, c3, rfl, n1, n2, r1, r2, hb⟩
 exact ⟨_, _, _, _, _, _, _, _, rfl, ⟨IN.of n1 r1, IN.of n2 r2⟩, hb⟩
theorem upright9 {g g2 : Bool} {A A2 : Option Addr} {n c m c2 : Nat} (h : IV B w (.bool g) (.slice A n c) z K) (h2 : IV B2 w (.bool g2) (.slice A2 m c2) y K) (hK : K ≤ 67108864) (hy : y ≠ 0) : Calls Tryz.prog 69 #[.agg #[.bool g, .slice A n c], .agg #[.bool g2, .slice A2 m c2]] w fun e w' => ∃ (s0 : Bool) (s1 : Option Addr) (s2 s3 : Nat) (s4 : Bool) (s5 : Option Addr) (s6 s7 : Nat), e = .returned (.tuple #[.agg #[.bool s0, .slice s1 s2 s3], .agg #[.bool s4, .slice s5 s6 s7]]) ∧ FV w.heap.size w' (.bool s0) (.slice s1 s2 s3) (.bool s4) (.slice s5 s6 s7) (upN z y) (upD y) K ∧ Below w.heap.size w w' := by
 have hh := h
 have hh2 := h2
 obtain ⟨g9, A9, c9, xs, e1, e2, k⟩ := h.open_
 obtain ⟨g8, A8, c8, ys, e3, e4, k2⟩ := h2.open_
 injection e1 with e1
 injection e2 with e2 e5 e6
 injection e3 with e3
 injection e4 with e4 e7 e8
 subst e1 e2 e3 e4 e5 e6 e7 e8
 cases g2 with
 | false =>
  obtain ⟨u1, u2⟩ := up_false (z := z) k2.sg
  rw [u1, u2]
  refine up_no.mono ?_
  rintro e w' ⟨rfl, hb⟩
  exact ⟨_, _, _, _, _, _, _, _, rfl, ⟨hh.enter.next hb, hh2.enter.next hb⟩, hb⟩
 | true =>
  obtain ⟨u1, u2⟩ := up_true (z := z) k2.sg hy
  rw [u1, u2]
  refine (up_yes k k2 rfl hK hK).mono ?_
  rintro e w' ⟨qs, rs, A1, c1, A3, c3, rfl, n1, n2, r1, r2, hb⟩
  exact ⟨_, _, _, _, _, _, _, _, rfl, ⟨(IN.of n1 r1).iv (by rw [Int.natAbs_neg]; exact k.lt), (IN.of n2 r2).iv (by rw [Int.natAbs_neg]; exact k2.lt)⟩, hb⟩
set_option maxHeartbeats 3200000 in
set_option maxRecDepth 20000 in
theorem sign1_any (hb : Blk w gp 27 [a0, a1, a2, a3]) (h : FV B w a0 a1 a2 a3 z y K) (hK : K ≤ 67108864) : Calls Tryz.prog 62 #[.pointer (some ⟨gp, 0, none⟩)] w fun e w' => e = .returned (.int .i64 (z.sign * y.sign)) ∧ Below w.heap.size w w' := by
 have SA : Hid (∀ W (_ : Below w.heap.size w W), Calls Tryz.prog 63 #[.agg #[a0, a1]] W fun e w' => e = .returned (.int .i64 z.sign) ∧ Below W.heap.size W w') := hi9 fun W hW => (h.num.next hW).zsign hK
 have SB : Hid (∀ W (_ : Below w.heap.size w W), Calls Tryz.prog 63 #[.agg #[a2, a3]] W fun e w' => e = .returned (.int .i64 y.sign) ∧ Below W.heap.size W w') := hi9 fun W hW => (h.den.next hW).zsign hK
 have hw9 := sign_wrap z y
 obtain ⟨m, hm⟩ : ∃ m, m = z.sign * y.sign := ⟨_, rfl⟩
 obtain ⟨s, hs⟩ : ∃ s, s = z.sign := ⟨_, rfl⟩
 obtain ⟨t, ht⟩ : ∃ t, t = y.sign := ⟨_, rfl⟩
 rw [← hs, ← ht] at hm hw9
 replace hw9 := hw9.trans hm.symm
 rw [← hs, ← ht, ← hm]
 rw [← hs] at SA
 rw [← ht] at SB
 have H0 := hi9 hb
 clear h hs ht hm hb
 go_enter Tryz.func62, Tryz.ntmps62
 go_upto_region 1 with fail
 refine region_facts [SP.is (.pointer (some ⟨gp, 0, none⟩)), SP.is (.agg #[a0, a1]), SP.is (.int .i64 (s)), SP.is (.pointer (some ⟨gp, 2, none⟩)), SP.is (.agg #[a2, a3]), SP.is (.int .i64 (t)), SP.is (.int .i64 (m)), SP.is (.int .i64 (m))] (by kernel_rfl) (by kernel_rfl) (And.intro ?_ (And.intro ?_ (And.intro ?_ (And.intro ?_ (And.intro ?_ (And.intro ?_ (And.intro ?_ (And.intro ?_ trivial)))))))) ?_
 ·intro a W hb hold hdep K hK
  have b0 := tmp_eq (hold 0 rfl)
  refine ob_plain rfl ?_
  go_simp
  exact hK _ W rfl nofun br9
 ·intro a W hb hold hdep K hK
  have e0 := tmp_eq (hdep 0 _ 2 rfl rfl rfl).1
  obtain ⟨c0, c1, c2, c3, -, -, -, -⟩ := (H0.out.below hb H0.out.lt).four
  refine ob_plain rfl ?_
  go_simp
  exact hK _ W rfl nofun br9
 ·intro a W hb hold hdep K hK
  have e1 := tmp_eq (hdep 1 _ 3 rfl rfl rfl).1
  refine ob_plain rfl ?_
  go_simp
  refine (SA.out _ hb).mono ?_
  rintro e w1 ⟨rfl, hb1⟩
  exact hK _ w1 rfl nofun hb1
 ·intro a W hb hold hdep K hK
  have b0 := tmp_eq (hold 0 rfl)
  refine ob_plain rfl ?_
  go_simp
  exact hK _ W rfl nofun br9
 ·intro a W hb hold hdep K hK
  have e3 := tmp_eq (hdep 3 _ 5 rfl rfl rfl).1
  obtain ⟨c0, c1, c2, c3, -, -, -, -⟩ := (H0.out.below hb H0.out.lt).four
  refine ob_plain rfl ?_
  go_simp
  exact hK _ W rfl nofun br9
 ·intro a W hb hold hdep K hK
  have e4 := tmp_eq (hdep 4 _ 6 rfl rfl rfl).1
  refine ob_plain rfl ?_
  go_simp
  refine (SB.out _ hb).mono ?_
  rintro e w1 ⟨rfl, hb1⟩
  exact hK _ w1 rfl nofun hb1
 ·intro a W hb hold hdep K hK
  have e2 := tmp_eq (hdep 2 _ 4 rfl rfl rfl).1
  have e5 := tmp_eq (hdep 5 _ 7 rfl rfl rfl).1
  refine ob_plain rfl ?_
  go_simp
  exact hK _ W rfl nofun br9
 ·intro a W hb hold hdep K hK
  have e6 := tmp_eq (hdep 6 _ 8 rfl rfl rfl).1
  refine ob_plain rfl ?_
  go_simp
  exact hK _ W rfl nofun br9
 intro vls u1 hb hf hd
 have e0 : vls 0 = _ := hf 0 (by decide)
 have e1 : vls 1 = _ := hf 1 (by decide)
 have e2 : vls 2 = _ := hf 2 (by decide)
 have e3 : vls 3 = _ := hf 3 (by decide)
 have e4 : vls 4 = _ := hf 4 (by decide)
 have e5 : vls 5 = _ := hf 5 (by decide)
 have e6 : vls 6 = _ := hf 6 (by decide)
 have e7 : vls 7 = _ := hf 7 (by decide)
 clear hf hd
 simp only [foldPut, Act.put, List.setIfInBounds_toArray, List.set_cons_zero, List.set_cons_succ, Nat.reduceAdd, e0, e1, e2, e3, e4, e5, e6, e7]
 clear e0 e1 e2 e3 e4 e5 e6 e7
 go_wp2_with fail
 go_ret
 exact ⟨rfl, hb⟩
def SP.in_ (B : Nat) (z : Int) : SP := SP.of (fun w v => ∃ (s0 : Bool) (s1 : Option Addr) (s2 s3 : Nat), v = .agg #[.bool s0, .slice s1 s2 s3] ∧ IN w B (.bool s0) (.slice s1 s2 s3) z) (fun _ _ _ ⟨s0, s1, s2, s3, e, h⟩ hb => ⟨s0, s1, s2, s3, e, h.next hb⟩)
theorem in_zero {P : FuncId} {aa : Array Value} (h : Calls Tryz.prog P aa w fun e w' => IOz w w' z e) : Calls Tryz.prog P aa w fun e w' => ∃ (s0 : Bool) (s1 : Option Addr) (s2 s3 : Nat), e = .returned (.agg #[.bool s0, .slice s1 s2 s3]) ∧ IN w' 0 (.bool s0) (.slice s1 s2 s3) z ∧ Below w.heap.size w w' := h.mono fun _ _ ⟨s0, s1, s2, s3, e1, f, hb⟩ => ⟨s0, s1, s2, s3, e1, f.mono (Nat.zero_le _), hb⟩
theorem cmp_to {P : FuncId} {aa : Array Value} {s t : Int} (h : Calls Tryz.prog P aa w fun e w' => e = .returned (.int .i64 s) ∧ Below w.heap.size w w') (e9 : s = t) : Calls Tryz.prog P aa w fun e w' => e = .returned (.int .i64 t) ∧ Below w.heap.size w w' := e9 ▸ h
set_option maxHeartbeats 6400000 in
set_option maxRecDepth 20000 in
theorem cmp1_any (hb : Blk w gp 27 [a0, a1, a2, a3]) (hc : Blk w gq 27 [b0, b1, b2, b3]) (h : FV B w a0 a1 a2 a3 z y K) (h' : FV B2 w b0 b1 b2 b3 x v K) (hK : K ≤ 8388607) : Calls Tryz.prog 64 #[.pointer (some ⟨gp, 0, none⟩), .pointer (some ⟨gq, 0, none⟩)] w fun e w' => e = .returned (.int .i64 (y.sign * v.sign * (z * v - x * y).sign)) ∧ Below w.heap.size w w' := by
 have SA : Hid (∀ W (_ : Below w.heap.size w W), Calls Tryz.prog 63 #[.agg #[a2, a3]] W fun e w' => e = .returned (.int .i64 y.sign) ∧ Below W.heap.size W w') := hi9 fun W hW => (h.den.next hW).zsign (by omega)
 have SB : Hid (∀ W (_ : Below w.heap.size w W), Calls Tryz.prog 63 #[.agg #[b2, b3]] W fun e w' => e = .returned (.int .i64 v.sign) ∧ Below W.heap.size W w') := hi9 fun W hW => (h'.den.next hW).zsign (by omega)
 have L1 : Hid ((z * v).natAbs < 4294967296 ^ (K + K)) := by show _ < _; rw [Int.natAbs_mul]; exact mul_lt_b h.num.lt h'.den.lt
 have L2 : Hid ((x * y).natAbs < 4294967296 ^ (K + K)) := by show _ < _; rw [Int.natAbs_mul]; exact mul_lt_b h'.num.lt h.den.lt
 have hw9 := sign_wrap y v
 have hw8 := sign3_wrap y v (z * v - x * y)
 obtain ⟨u, hu⟩ : ∃ u, u = (z * v - x * y).sign := ⟨_, rfl⟩
 obtain ⟨m, hm⟩ : ∃ m, m = y.sign * v.sign := ⟨_, rfl⟩
 obtain ⟨s, hs⟩ : ∃ s, s = y.sign := ⟨_, rfl⟩
 obtain ⟨t, ht⟩ : ∃ t, t = v.sign := ⟨_, rfl⟩
 have HU := hi9 hu.symm
 rw [← hs, ← ht] at hm
 rw [← hs, ← ht] at hw9
 rw [← hs, ← ht, ← hu] at hw8
 rw [← hm] at hw8
 replace hw9 := hw9.trans hm.symm
 rw [← hs, ← ht, ← hu, ← hm]
 rw [← hs] at SA
 rw [← ht] at SB
 obtain ⟨c, hc9⟩ : ∃ c, c = m * u := ⟨_, rfl⟩
 rw [← hc9]
 replace hw8 := hw8.trans hc9.symm
 have H0 := hi9 hb
 have H1 := hi9 hc
 have HA := hi9 h
 have HC := hi9 h'
 clear h h' hs ht hm hu hb hc
 have HW8 := hi9 hw8
 clear hc9 hw8
 go_enter Tryz.func64, Tryz.ntmps64
 go_upto_region 1 with fail
 refine region_facts [SP.is (.pointer (some ⟨gp, 2, none⟩)), SP.is (.agg #[a2, a3]), SP.is (.int .i64 (s)), SP.is (.pointer (some ⟨gq, 2, none⟩)), SP.is (.agg #[b2, b3]), SP.is (.int .i64 (t)), SP.is (.int .i64 (m)), SP.is (.int .i64 (m))] (by kernel_rfl) (by kernel_rfl) (And.intro ?_ (And.intro ?_ (And.intro ?_ (And.intro ?_ (And.intro ?_ (And.intro ?_ (And.intro ?_ (And.intro ?_ trivial)))))))) ?_
 ·intro a W hb hold hdep K hK
  have b0 := tmp_eq (hold 0 rfl)
  refine ob_plain rfl ?_
  go_simp
  exact hK _ W rfl nofun br9
 ·intro a W hb hold hdep K hK
  have e0 := tmp_eq (hdep 0 _ 4 rfl rfl rfl).1
  obtain ⟨c0, c1, c2, c3, -, -, -, -⟩ := (H0.out.below hb H0.out.lt).four
  refine ob_plain rfl ?_
  go_simp
  exact hK _ W rfl nofun br9
 ·intro a W hb hold hdep K hK
  have e1 := tmp_eq (hdep 1 _ 5 rfl rfl rfl).1
  refine ob_plain rfl ?_
  go_simp
  refine (SA.out _ hb).mono ?_
  rintro e w1 ⟨rfl, hb1⟩
  exact hK _ w1 rfl nofun hb1
 ·intro a W hb hold hdep K hK
  have b1 := tmp_eq (hold 1 rfl)
  refine ob_plain rfl ?_
  go_simp
  exact hK _ W rfl nofun br9
 ·intro a W hb hold hdep K hK
  have e3 := tmp_eq (hdep 3 _ 7 rfl rfl rfl).1
  obtain ⟨c0, c1, c2, c3, -, -, -, -⟩ := (H1.out.below hb H1.out.lt).four
  refine ob_plain rfl ?_
  go_simp
  exact hK _ W rfl nofun br9
 ·intro a W hb hold hdep K hK
  have e4 := tmp_eq (hdep 4 _ 8 rfl rfl rfl).1
  refine ob_plain rfl ?_
  go_simp
  refine (SB.out _ hb).mono ?_
  rintro e w1 ⟨rfl, hb1⟩
  exact hK _ w1 rfl nofun hb1
 ·intro a W hb hold hdep K hK
  have e2 := tmp_eq (hdep 2 _ 6 rfl rfl rfl).1
  have e5 := tmp_eq (hdep 5 _ 9 rfl rfl rfl).1
  refine ob_plain rfl ?_
  go_simp
  exact hK _ W rfl nofun br9
 ·intro a W hb hold hdep K hK
  have e6 := tmp_eq (hdep 6 _ 10 rfl rfl rfl).1
  refine ob_plain rfl ?_
  go_simp
  exact hK _ W rfl nofun br9
 intro vls u1 hb hf hd
 have e0 : vls 0 = _ := hf 0 (by decide)
 have e1 : vls 1 = _ := hf 1 (by decide)
 have e2 : vls 2 = _ := hf 2 (by decide)
 have e3 : vls 3 = _ := hf 3 (by decide)
 have e4 : vls 4 = _ := hf 4 (by decide)
 have e5 : vls 5 = _ := hf 5 (by decide)
 have e6 : vls 6 = _ := hf 6 (by decide)
 have e7 : vls 7 = _ := hf 7 (by decide)
 clear hf hd
 simp only [foldPut, Act.put, List.setIfInBounds_toArray, List.set_cons_zero, List.set_cons_succ, Nat.reduceAdd, e0, e1, e2, e3, e4, e5, e6, e7]
 clear e0 e1 e2 e3 e4 e5 e6 e7
 have k1 := hb
 replace H0 := hi9 (H0.out.below hb H0.out.lt)
 replace H1 := hi9 (H1.out.below hb H1.out.lt)
 clear hb SA SB hw9
 have hw9 := HW8.out
 go_upto_region 2 with fail
 refine region_facts [SP.is (.int .i64 (m)), SP.is (.pointer (some ⟨gp, 0, none⟩)), SP.is (.agg #[a0, a1]), SP.is (.pointer (some ⟨gq, 2, none⟩)), SP.is (.agg #[b2, b3]), SP.in_ 0 (z * v), SP.is (.pointer (some ⟨gq, 0, none⟩)), SP.is (.agg #[b0, b1]), SP.is (.pointer (some ⟨gp, 2, none⟩)), SP.is (.agg #[a2, a3]), SP.in_ 0 (x * y), SP.is (.int .i64 (u)), SP.is (.int .i64 (c)), SP.is (.int .i64 (c))] (by kernel_rfl) (by kernel_rfl) (And.intro ?_ (And.intro ?_ (And.intro ?_ (And.intro ?_ (And.intro ?_ (And.intro ?_ (And.intro ?_ (And.intro ?_ (And.intro ?_ (And.intro ?_ (And.intro ?_ (And.intro ?_ (And.intro ?_ (And.intro ?_ trivial)))))))))))))) ?_
 ·intro a W hb hold hdep K hK
  have b3 := tmp_eq (hold 3 rfl)
  refine ob_plain rfl ?_
  go_simp
  exact hK _ W rfl nofun br9
 ·intro a W hb hold hdep K hK
  have b0 := tmp_eq (hold 0 rfl)
  refine ob_plain rfl ?_
  go_simp
  exact hK _ W rfl nofun br9
 ·intro a W hb hold hdep K hK
  have e1 := tmp_eq (hdep 1 _ 12 rfl rfl rfl).1
  obtain ⟨c0, c1, c2, c3, -, -, -, -⟩ := (H0.out.below hb H0.out.lt).four
  refine ob_plain rfl ?_
  go_simp
  exact hK _ W rfl nofun br9
 ·intro a W hb hold hdep K hK
  have b1 := tmp_eq (hold 1 rfl)
  refine ob_plain rfl ?_
  go_simp
  exact hK _ W rfl nofun br9
 ·intro a W hb hold hdep K hK
  have e3 := tmp_eq (hdep 3 _ 14 rfl rfl rfl).1
  obtain ⟨c0, c1, c2, c3, -, -, -, -⟩ := (H1.out.below hb H1.out.lt).four
  refine ob_plain rfl ?_
  go_simp
  exact hK _ W rfl nofun br9
 ·intro a W hb hold hdep K hK
  have e2 := tmp_eq (hdep 2 _ 13 rfl rfl rfl).1
  have e4 := tmp_eq (hdep 4 _ 15 rfl rfl rfl).1
  refine ob_plain rfl ?_
  go_simp
  refine (in_zero ((HA.out.num.next (bst k1 hb nl9)).zmul (HC.out.den.next (bst k1 hb nl9)) (by omega) (by omega))).mono ?_
  rintro e w1 ⟨x0, x1, x2, x3, rfl, f9, hb1⟩
  exact hK _ w1 ⟨x0, x1, x2, x3, rfl, f9⟩ nofun hb1
 ·intro a W hb hold hdep K hK
  have b1 := tmp_eq (hold 1 rfl)
  refine ob_plain rfl ?_
  go_simp
  exact hK _ W rfl nofun br9
 ·intro a W hb hold hdep K hK
  have e6 := tmp_eq (hdep 6 _ 17 rfl rfl rfl).1
  obtain ⟨c0, c1, c2, c3, -, -, -, -⟩ := (H1.out.below hb H1.out.lt).four
  refine ob_plain rfl ?_
  go_simp
  exact hK _ W rfl nofun br9
 ·intro a W hb hold hdep K hK
  have b0 := tmp_eq (hold 0 rfl)
  refine ob_plain rfl ?_
  go_simp
  exact hK _ W rfl nofun br9
 ·intro a W hb hold hdep K hK
  have e8 := tmp_eq (hdep 8 _ 19 rfl rfl rfl).1
  obtain ⟨c0, c1, c2, c3, -, -, -, -⟩ := (H0.out.below hb H0.out.lt).four
  refine ob_plain rfl ?_
  go_simp
  exact hK _ W rfl nofun br9
 ·intro a W hb hold hdep K hK
  have e7 := tmp_eq (hdep 7 _ 18 rfl rfl rfl).1
  have e9 := tmp_eq (hdep 9 _ 20 rfl rfl rfl).1
  refine ob_plain rfl ?_
  go_simp
  refine (in_zero ((HC.out.num.next (bst k1 hb nl9)).zmul (HA.out.den.next (bst k1 hb nl9)) (by omega) (by omega))).mono ?_
  rintro e w1 ⟨x0, x1, x2, x3, rfl, f9, hb1⟩
  exact hK _ w1 ⟨x0, x1, x2, x3, rfl, f9⟩ nofun hb1
 ·intro a W hb hold hdep K hK
  obtain ⟨r5_0, r5_1, r5_2, r5_3, e5, f5⟩ := (hdep 5 _ 16 rfl rfl rfl).1
  replace e5 := tmp_eq e5
  obtain ⟨r10_0, r10_1, r10_2, r10_3, e10, f10⟩ := (hdep 10 _ 21 rfl rfl rfl).1
  replace e10 := tmp_eq e10
  refine ob_plain rfl ?_
  go_simp
  refine ((cmp_to ((f5.iv (B2 := 0) L1.out).zcmp (f10.iv (B2 := 0) L2.out) (by omega) (by omega)) HU.out)).mono ?_
  rintro e w1 ⟨rfl, hb1⟩
  exact hK _ w1 rfl nofun hb1
 ·intro a W hb hold hdep K hK
  have e0 := tmp_eq (hdep 0 _ 11 rfl rfl rfl).1
  have e11 := tmp_eq (hdep 11 _ 22 rfl rfl rfl).1
  refine ob_plain rfl ?_
  go_simp
  exact hK _ W rfl nofun br9
 ·intro a W hb hold hdep K hK
  have e12 := tmp_eq (hdep 12 _ 23 rfl rfl rfl).1
  refine ob_plain rfl ?_
  go_simp
  exact hK _ W rfl nofun br9
 intro vls u2 hb hf hd
 have e0 : vls 0 = _ := hf 0 (by decide)
 have e1 : vls 1 = _ := hf 1 (by decide)
 have e2 : vls 2 = _ := hf 2 (by decide)
 have e3 : vls 3 = _ := hf 3 (by decide)
 have e4 : vls 4 = _ := hf 4 (by decide)
 obtain ⟨o2x5_0, o2x5_1, o2x5_2, o2x5_3, e5, f5⟩ := hf 5 (by decide)
 have e6 : vls 6 = _ := hf 6 (by decide)
 have e7 : vls 7 = _ := hf 7 (by decide)
 have e8 : vls 8 = _ := hf 8 (by decide)
 have e9 : vls 9 = _ := hf 9 (by decide)
 obtain ⟨o2x10_0, o2x10_1, o2x10_2, o2x10_3, e10, f10⟩ := hf 10 (by decide)
 have e11 : vls 11 = _ := hf 11 (by decide)
 have e12 : vls 12 = _ := hf 12 (by decide)
 have e13 : vls 13 = _ := hf 13 (by decide)
 clear hf hd
 simp only [foldPut, Act.put, List.setIfInBounds_toArray, List.set_cons_zero, List.set_cons_succ, Nat.reduceAdd, e0, e1, e2, e3, e4, e5, e6, e7, e8, e9, e10, e11, e12, e13]
 clear e0 e1 e2 e3 e4 e5 e6 e7 e8 e9 e10 e11 e12 e13
 go_wp2_with fail
 go_ret
 exact ⟨rfl, bst k1 hb nl9⟩
set_option maxHeartbeats 3200000 in
theorem ans_sign_good {A : Option Addr} {c : Nat} (l : List RE1) (h : RLs w K A l) (hK : K ≤ 67108864) (hlen : l.length ≤ 1048576) (hg : ¬ anyBad l) (n : Int) (CL : Hid (∀ W (_ : Below w.heap.size w W), Calls Tryz.prog 62 #[.pointer (some ⟨gp, 0, none⟩)] W fun e w' => e = .returned (.int .i64 n) ∧ Below W.heap.size W w')) :
  Calls Tryz.prog 61 #[.func (.func 62) #[] #[.pointer (some ⟨gp, 0, none⟩)], .slice A l.length c] w fun e w' => e = .returned (.tuple #[.int .i64 n, .int .i64 0]) ∧ Below w.heap.size w w' := by
 have FA := hi9 (fault_any (c := c) l h hK hlen)
 clear h
 go_enter Tryz.func61, Tryz.ntmps61
 go_wp2_with fail
 refine FA.out.mono ?_
 rintro e w1 ⟨v9, rfl, hv, hb1⟩
 obtain rfl : v9 = 0 := by
  rcases hv with ⟨h1, _⟩ | ⟨_, h1⟩
  ·exact absurd h1 hg
  ·exact h1
 clear FA hv
 go_wp2_with fail
 refine (CL.out _ hb1).mono ?_
 rintro e w2 ⟨rfl, hb2⟩
 have k2 := bst hb1 hb2 nl9
 clear CL hb2 hb1
 go_wp2_with fail
 go_ret2
 exact ⟨rfl, k2⟩
set_option maxHeartbeats 3200000 in
theorem ans_sign_bad {A : Option Addr} {c : Nat} (l : List RE1) (h : RLs w K A l) (hK : K ≤ 67108864) (hlen : l.length ≤ 1048576) (hg : anyBad l) :
  Calls Tryz.prog 61 #[.func (.func 62) #[] #[.pointer (some ⟨gp, 0, none⟩)], .slice A l.length c] w fun e w' => e = .returned (.tuple #[.int .i64 0, .int .i64 6]) ∧ Below w.heap.size w w' := by
 have FA := hi9 (fault_any (c := c) l h hK hlen)
 clear h
 go_enter Tryz.func61, Tryz.ntmps61
 go_wp2_with fail
 refine FA.out.mono ?_
 rintro e w1 ⟨v9, rfl, hv, hb1⟩
 obtain rfl : v9 = 6 := by
  rcases hv with ⟨_, h1⟩ | ⟨h1, _⟩
  ·exact h1
  ·exact absurd hg h1
 clear FA hv
 go_wp2_with fail
 go_ret2
 exact ⟨rfl, hb1⟩
set_option maxHeartbeats 3200000 in
theorem ans_cmp_good {A : Option Addr} {c : Nat} (l : List RE1) (h : RLs w K A l) (hK : K ≤ 67108864) (hlen : l.length ≤ 1048576) (hg : ¬ anyBad l) (n : Int) (CL : Hid (∀ W (_ : Below w.heap.size w W), Calls Tryz.prog 64 #[.pointer (some ⟨gp, 0, none⟩), .pointer (some ⟨gq, 0, none⟩)] W fun e w' => e = .returned (.int .i64 n) ∧ Below W.heap.size W w')) :
  Calls Tryz.prog 61 #[.func (.func 64) #[] #[.pointer (some ⟨gp, 0, none⟩), .pointer (some ⟨gq, 0, none⟩)], .slice A l.length c] w fun e w' => e = .returned (.tuple #[.int .i64 n, .int .i64 0]) ∧ Below w.heap.size w w' := by
 have FA := hi9 (fault_any (c := c) l h hK hlen)
 clear h
 go_enter Tryz.func61, Tryz.ntmps61
 go_wp2_with fail
 refine FA.out.mono ?_
 rintro e w1 ⟨v9, rfl, hv, hb1⟩
 obtain rfl : v9 = 0 := by
  rcases hv with ⟨h1, _⟩ | ⟨_, h1⟩
  ·exact absurd h1 hg
  ·exact h1
 clear FA hv
 go_wp2_with fail
 refine (CL.out _ hb1).mono ?_
 rintro e w2 ⟨rfl, hb2⟩
 have k2 := bst hb1 hb2 nl9
 clear CL hb2 hb1
 go_wp2_with fail
 go_ret2
 exact ⟨rfl, k2⟩
set_option maxHeartbeats 3200000 in
theorem ans_cmp_bad {A : Option Addr} {c : Nat} (l : List RE1) (h : RLs w K A l) (hK : K ≤ 67108864) (hlen : l.length ≤ 1048576) (hg : anyBad l) :
  Calls Tryz.prog 61 #[.func (.func 64) #[] #[.pointer (some ⟨gp, 0, none⟩), .pointer (some ⟨gq, 0, none⟩)], .slice A l.length c] w fun e w' => e = .returned (.tuple #[.int .i64 0, .int .i64 6]) ∧ Below w.heap.size w w' := by
 have FA := hi9 (fault_any (c := c) l h hK hlen)
 clear h
 go_enter Tryz.func61, Tryz.ntmps61
 go_wp2_with fail
 refine FA.out.mono ?_
 rintro e w1 ⟨v9, rfl, hv, hb1⟩
 obtain rfl : v9 = 6 := by
  rcases hv with ⟨_, h1⟩ | ⟨h1, _⟩
  ·exact h1
  ·exact absurd hg h1
 clear FA hv
 go_wp2_with fail
 go_ret2
 exact ⟨rfl, hb1⟩
set_option maxHeartbeats 6400000 in
theorem floor1_any {a0 a4 : Bool} {a1 a5 : Option Addr} {a2 a3 a6 a7 : Nat} (hb : Blk w gp 27 [.bool a0, .slice a1 a2 a3, .bool a4, .slice a5 a6 a7]) (h : FV B w (.bool a0) (.slice a1 a2 a3) (.bool a4) (.slice a5 a6 a7) z y K) (hK : K ≤ 8388607) (hy : y ≠ 0) : Calls Tryz.prog 68 #[.pointer (some ⟨gp, 0, none⟩)] w fun e w' => IOz w w' (upN z y / upD y) e := by
 have k0 := bel_one w (.cells #[.bool false, .slice none 0 0] 25)
 have r0' : Blk (w.alloc (.cells #[.bool false, .slice none 0 0] 25)) w.heap.size 25 [.bool false, .slice none 0 0] := Blk.new_ rfl
 have H0 := hi9 (hb.heapAlloc (.cells #[.bool false, .slice none 0 0] 25))
 have HD : Hid (upD y ≠ 0) := by show _ ≠ _; unfold upD; omega
 clear hb
 go_enter Tryz.func68, Tryz.ntmps68
 go_upto_region 1 with fail
 obtain ⟨w0, hw0⟩ : ∃ v, v = w.alloc (.cells #[.bool false, .slice none 0 0] 25) := ⟨_, rfl⟩
 rw [← hw0] at k0 r0' H0 ⊢
 clear hw0
 have R0 := hi9 r0'
 clear r0'
 obtain ⟨c0H0, c1H0, c2H0, c3H0, -, -, -, -⟩ := H0.out.four
 obtain ⟨c0R0, c1R0, -, -⟩ := R0.out.two
 go_wp2_with fail
 refine ((upright9 (h.num.next k0) (h.den.next k0) (by omega) hy)).mono ?_
 rintro e w1 ⟨s0, s1, s2, s3, s4, s5, s6, s7, rfl, f1, hb1⟩
 clear c0H0 c1H0 c2H0 c3H0 c0R0 c1R0
 have k1 := bst k0 hb1 nl9
 replace H0 := hi9 (H0.out.below hb1 H0.out.lt)
 replace R0 := hi9 (R0.out.below hb1 R0.out.lt)
 clear k0
 have F1 := hi9 f1
 clear hb1 f1
 go_upto_region 2 with fail
 obtain ⟨v2, hv⟩ : ∃ v, v = (w1.alloc (.cells #[.bool s0, .slice s1 s2 s3] 25)).alloc (.cells #[.bool s4, .slice s5 s6 s7] 25) := ⟨_, rfl⟩
 rw [← hv]
 obtain ⟨bn1, bn2⟩ : Blk v2 w1.heap.size 25 [.bool s0, .slice s1 s2 s3] ∧ Blk v2 (w1.heap.size + 1) 25 [.bool s4, .slice s5 s6 s7] := by rw [hv]; exact blk_pair2 _ _ _ _ _
 have jn : Below w1.heap.size w1 v2 := by rw [hv]; exact bel_two _ _ _
 obtain ⟨gn, hg⟩ : ∃ g, g = w1.heap.size := ⟨_, rfl⟩
 rw [← hg] at bn1 bn2 ⊢
 clear hg hv
 have Hn := hi9 bn1
 have Hd := hi9 bn2
 clear bn1 bn2
 have k2 := bst k1 jn nl9
 replace H0 := hi9 (H0.out.below jn H0.out.lt)
 replace R0 := hi9 (R0.out.below jn R0.out.lt)
 replace F1 := hi9 (F1.out.next jn)
 clear k1
 clear jn
 obtain ⟨c0H0, c1H0, c2H0, c3H0, -, -, -, -⟩ := H0.out.four
 obtain ⟨c0R0, c1R0, -, -⟩ := R0.out.two
 obtain ⟨c0Hn, c1Hn, -, -⟩ := Hn.out.two
 obtain ⟨c0Hd, c1Hd, -, -⟩ := Hd.out.two
 go_wp2_with fail
 refine (F1.out.num.euclid F1.out.den (by omega) (by omega) HD.out).mono ?_
 have sz2 := k2.size
 rintro e w3 ⟨t0, t1, t2, t3, t4, t5, t6, t7, rfl, f3, hb3⟩
 clear c0H0 c1H0 c2H0 c3H0 c0R0 c1R0 c0Hn c1Hn c0Hd c1Hd
 have k3 := bst k2 hb3 nl9
 replace H0 := hi9 (H0.out.below hb3 H0.out.lt)
 replace R0 := hi9 (R0.out.below hb3 R0.out.lt)
 replace Hn := hi9 (Hn.out.below hb3 Hn.out.lt)
 replace Hd := hi9 (Hd.out.below hb3 Hd.out.lt)
 replace F1 := hi9 (F1.out.next hb3)
 clear k2
 have F3 := hi9 (f3.1.mono sz2)
 clear hb3 f3
 go_upto_region 3 with fail
 obtain ⟨v4, hv⟩ : ∃ v, v = (w3.alloc (.cells #[.bool t0, .slice t1 t2 t3] 25)).alloc (.cells #[.bool t4, .slice t5 t6 t7] 25) := ⟨_, rfl⟩
 rw [← hv]
 obtain ⟨bn1, bn2⟩ : Blk v4 w3.heap.size 25 [.bool t0, .slice t1 t2 t3] ∧ Blk v4 (w3.heap.size + 1) 25 [.bool t4, .slice t5 t6 t7] := by rw [hv]; exact blk_pair2 _ _ _ _ _
 have jn : Below w3.heap.size w3 v4 := by rw [hv]; exact bel_two _ _ _
 obtain ⟨gq, hg⟩ : ∃ g, g = w3.heap.size := ⟨_, rfl⟩
 rw [← hg] at bn1 bn2 ⊢
 clear hg hv
 have Hq := hi9 bn1
 have Hr := hi9 bn2
 clear bn1 bn2
 have k4 := bst k3 jn nl9
 replace H0 := hi9 (H0.out.below jn H0.out.lt)
 replace F3 := hi9 (F3.out.next jn)
 replace R0 := hi9 (R0.out.below jn R0.out.lt)
 replace Hn := hi9 (Hn.out.below jn Hn.out.lt)
 replace Hd := hi9 (Hd.out.below jn Hd.out.lt)
 replace F1 := hi9 (F1.out.next jn)
 clear k3
 clear jn
 obtain ⟨c0H0, c1H0, c2H0, c3H0, -, -, -, -⟩ := H0.out.four
 obtain ⟨c0R0, c1R0, -, -⟩ := R0.out.two
 obtain ⟨c0Hn, c1Hn, -, -⟩ := Hn.out.two
 obtain ⟨c0Hd, c1Hd, -, -⟩ := Hd.out.two
 obtain ⟨c0Hq, c1Hq, -, -⟩ := Hq.out.two
 obtain ⟨c0Hr, c1Hr, -, -⟩ := Hr.out.two
 have F4 := F3.out
 obtain ⟨d0, d1, u0, u1⟩ := R0.out.two
 go_wp2_with fail
 exact io_ret k4 R0.out nl9 F4 rfl rfl rfl
set_option maxHeartbeats 3200000 in
theorem ans_floor_good {A : Option Addr} {c : Nat} (l : List RE1) (h : RLs w K A l) (hK : K ≤ 67108864) (hlen : l.length ≤ 1048576) (hg : ¬ anyBad l) (n : Int) (CL : Hid (∀ W (_ : Below w.heap.size w W), Calls Tryz.prog 68 #[.pointer (some ⟨gp, 0, none⟩)] W fun e w' => IOz W w' n e)) :
  Calls Tryz.prog 67 #[.func (.func 68) #[] #[.pointer (some ⟨gp, 0, none⟩)], .slice A l.length c] w fun e w' => IE w w' n 0 e := by
 have k0 := bel_one w (.cells #[.bool false, .slice none 0 0] 25)
 have b0 : Blk (w.alloc (.cells #[.bool false, .slice none 0 0] 25)) w.heap.size 25 [.bool false, .slice none 0 0] := Blk.new_ rfl
 have FA := hi9 (fault_any (c := c) l (h.next k0) hK hlen)
 clear h
 go_enter Tryz.func67, Tryz.ntmps67
 go_wp2_with fail
 obtain ⟨w0, hw0⟩ : ∃ v, v = w.alloc (.cells #[.bool false, .slice none 0 0] 25) := ⟨_, rfl⟩
 rw [← hw0] at k0 b0 FA ⊢
 clear hw0
 refine FA.out.mono ?_
 rintro e w1 ⟨v9, rfl, hv, hb1⟩
 obtain rfl : v9 = 0 := by
  rcases hv with ⟨h1, _⟩ | ⟨_, h1⟩
  ·exact absurd h1 hg
  ·exact h1
 have k1 := bst k0 hb1 nl9
 have b1 := b0.below hb1 b0.lt
 clear FA b0 k0 hb1 hv
 go_wp2_with fail
 refine (CL.out _ k1).mono ?_
 rintro e w2 ⟨s0, s1, s2, s3, rfl, nn, hb2⟩
 have b2 := b1.below hb2 b1.lt
 have k2 := bst k1 hb2 nl9
 obtain ⟨d0, d1, f0, f1⟩ := b2.two
 have N9 := hi9 (nn.mono k1.size)
 clear CL b1 hb2 nn
 go_wp2_with fail
 exact ie_ret k2 b2 nl9 N9.out rfl rfl rfl rfl
set_option maxHeartbeats 3200000 in
theorem ans_floor_bad {A : Option Addr} {c : Nat} (l : List RE1) (h : RLs w K A l) (hK : K ≤ 67108864) (hlen : l.length ≤ 1048576) (hg : anyBad l) :
  Calls Tryz.prog 67 #[.func (.func 68) #[] #[.pointer (some ⟨gp, 0, none⟩)], .slice A l.length c] w fun e w' => IE w w' 0 6 e := by
 have k0 := bel_one w (.cells #[.bool false, .slice none 0 0] 25)
 have b0 : Blk (w.alloc (.cells #[.bool false, .slice none 0 0] 25)) w.heap.size 25 [.bool false, .slice none 0 0] := Blk.new_ rfl
 have FA := hi9 (fault_any (c := c) l (h.next k0) hK hlen)
 clear h
 go_enter Tryz.func67, Tryz.ntmps67
 go_wp2_with fail
 obtain ⟨w0, hw0⟩ : ∃ v, v = w.alloc (.cells #[.bool false, .slice none 0 0] 25) := ⟨_, rfl⟩
 rw [← hw0] at k0 b0 FA ⊢
 clear hw0
 refine FA.out.mono ?_
 rintro e w1 ⟨v9, rfl, hv, hb1⟩
 obtain rfl : v9 = 6 := by
  rcases hv with ⟨_, h1⟩ | ⟨h1, _⟩
  ·exact h1
  ·exact absurd hg h1
 have k1 := bst k0 hb1 nl9
 have b1 := (b0.below hb1 b0.lt).heapAlloc (.cells #[.bool false, .slice none 0 0] 25)
 have k2 := bal k1 nl9 (.cells #[.bool false, .slice none 0 0] 25)
 obtain ⟨d0, d1, f0, f1⟩ := b1.two
 clear FA b0 k0 hb1 hv
 go_wp2_with fail
 exact ie_ret k2 b1 nl9 IN.zero rfl rfl rfl rfl
set_option maxHeartbeats 3200000 in
theorem sign_via (n er : Int) (AN : Hid (∀ W b (_ : Below (w.alloc (.cells #[a0, a1, a2, a3] 27)).heap.size (w.alloc (.cells #[a0, a1, a2, a3] 27)) W) (_ : Blk W b 27 [a0, a1, a2, a3]), Calls Tryz.prog 61 #[.func (.func 62) #[] #[.pointer (some ⟨w.heap.size, 0, none⟩)], .slice (some ⟨b, 0, none⟩) 1 1] W fun e w' => e = .returned (.tuple #[.int .i64 n, .int .i64 er]) ∧ Below W.heap.size W w')) :
  Calls Tryz.prog 13 #[.agg #[a0, a1, a2, a3]] w fun e w' => e = .returned (.tuple #[.int .i64 n, .int .i64 er]) ∧ Below w.heap.size w w' := by
 have k0 := bel_one w (.cells #[a0, a1, a2, a3] 27)
 have b0' : Blk (w.alloc (.cells #[a0, a1, a2, a3] 27)) w.heap.size 27 [a0, a1, a2, a3] := Blk.new_ rfl
 go_enter Tryz.func13, Tryz.ntmps13
 go_upto_region 1 with fail
 obtain ⟨w0, hw0⟩ : ∃ v, v = w.alloc (.cells #[a0, a1, a2, a3] 27) := ⟨_, rfl⟩
 rw [← hw0] at k0 b0' AN ⊢
 clear hw0
 obtain ⟨p0, p1, p2, p3, -, -, -, -⟩ := b0'.four
 have j1 := bel_one w0 (.cells #[a0, a1, a2, a3] 27)
 have bs : Blk (w0.alloc (.cells #[a0, a1, a2, a3] 27)) w0.heap.size 27 [a0, a1, a2, a3] := Blk.new_ rfl
 go_wp2_with fail
 refine (AN.out _ _ j1 bs).mono ?_
 rintro e w2 ⟨rfl, hb2⟩
 have k2 := bst k0 (bst j1 hb2 nl9) nl9
 clear AN p0 p1 p2 p3 bs j1 hb2 b0' k0
 go_wp2_with fail
 go_ret2
 exact ⟨rfl, k2⟩
set_option maxHeartbeats 3200000 in
theorem cmp_via (n er : Int) (AN : Hid (∀ W b (_ : Below ((w.alloc (.cells #[a0, a1, a2, a3] 27)).alloc (.cells #[b0, b1, b2, b3] 27)).heap.size ((w.alloc (.cells #[a0, a1, a2, a3] 27)).alloc (.cells #[b0, b1, b2, b3] 27)) W) (_ : Blk W b 27 [a0, a1, a2, a3, b0, b1, b2, b3]), Calls Tryz.prog 61 #[.func (.func 64) #[] #[.pointer (some ⟨w.heap.size, 0, none⟩), .pointer (some ⟨w.heap.size + 1, 0, none⟩)], .slice (some ⟨b, 0, none⟩) 2 2] W fun e w' => e = .returned (.tuple #[.int .i64 n, .int .i64 er]) ∧ Below W.heap.size W w')) :
  Calls Tryz.prog 14 #[.agg #[a0, a1, a2, a3], .agg #[b0, b1, b2, b3]] w fun e w' => e = .returned (.tuple #[.int .i64 n, .int .i64 er]) ∧ Below w.heap.size w w' := by
 have k0 := bel_two w (.cells #[a0, a1, a2, a3] 27) (.cells #[b0, b1, b2, b3] 27)
 obtain ⟨b0', b1'⟩ := blk_rr w a0 a1 a2 a3 b0 b1 b2 b3
 go_enter Tryz.func14, Tryz.ntmps14
 go_upto_region 1 with fail
 obtain ⟨w0, hw0⟩ : ∃ v, v = (w.alloc (.cells #[a0, a1, a2, a3] 27)).alloc (.cells #[b0, b1, b2, b3] 27) := ⟨_, rfl⟩
 rw [← hw0] at k0 b0' b1' AN ⊢
 clear hw0
 obtain ⟨p0, p1, p2, p3, -, -, -, -⟩ := b0'.four
 obtain ⟨q0, q1, q2, q3, -, -, -, -⟩ := b1'.four
 have j1 := bel_one w0 (.cells #[a0, a1, a2, a3, b0, b1, b2, b3] 27)
 have bs : Blk (w0.alloc (.cells #[a0, a1, a2, a3, b0, b1, b2, b3] 27)) w0.heap.size 27 [a0, a1, a2, a3, b0, b1, b2, b3] := Blk.new_ rfl
 go_wp2_with fail
 refine (AN.out _ _ j1 bs).mono ?_
 rintro e w2 ⟨rfl, hb2⟩
 have k2 := bst k0 (bst j1 hb2 nl9) nl9
 clear AN p0 p1 p2 p3 q0 q1 q2 q3 bs j1 hb2 b0' b1' k0
 go_wp2_with fail
 go_ret2
 exact ⟨rfl, k2⟩
set_option maxHeartbeats 3200000 in
theorem floor_via (n er : Int) (AN : Hid (∀ W b (_ : Below ((w.alloc (.cells #[a0, a1, a2, a3] 27)).alloc (.cells #[.bool false, .slice none 0 0] 25)).heap.size ((w.alloc (.cells #[a0, a1, a2, a3] 27)).alloc (.cells #[.bool false, .slice none 0 0] 25)) W) (_ : Blk W b 27 [a0, a1, a2, a3]), Calls Tryz.prog 67 #[.func (.func 68) #[] #[.pointer (some ⟨w.heap.size, 0, none⟩)], .slice (some ⟨b, 0, none⟩) 1 1] W fun e w' => IE W w' n er e)) :
  Calls Tryz.prog 15 #[.agg #[a0, a1, a2, a3]] w fun e w' => IE w w' n er e := by
 have k0 := bel_two w (.cells #[a0, a1, a2, a3] 27) (.cells #[.bool false, .slice none 0 0] 25)
 have b0' : Blk ((w.alloc (.cells #[a0, a1, a2, a3] 27)).alloc (.cells #[.bool false, .slice none 0 0] 25)) w.heap.size 27 [a0, a1, a2, a3] := (Blk.new_ rfl).heapAlloc _
 have r0' : Blk ((w.alloc (.cells #[a0, a1, a2, a3] 27)).alloc (.cells #[.bool false, .slice none 0 0] 25)) (w.heap.size + 1) 25 [.bool false, .slice none 0 0] := blk_res1 _ _ _ _
 go_enter Tryz.func15, Tryz.ntmps15
 go_upto_region 1 with fail
 obtain ⟨w0, hw0⟩ : ∃ v, v = (w.alloc (.cells #[a0, a1, a2, a3] 27)).alloc (.cells #[.bool false, .slice none 0 0] 25) := ⟨_, rfl⟩
 rw [← hw0] at k0 b0' r0' AN ⊢
 clear hw0
 obtain ⟨p0, p1, p2, p3, -, -, -, -⟩ := b0'.four
 have j1 := bel_one w0 (.cells #[a0, a1, a2, a3] 27)
 have bs : Blk (w0.alloc (.cells #[a0, a1, a2, a3] 27)) w0.heap.size 27 [a0, a1, a2, a3] := Blk.new_ rfl
 go_wp2_with fail
 refine (AN.out _ _ j1 bs).mono ?_
 rintro e w2 ⟨s0, s1, s2, s3, rfl, nn, hb2⟩
 have i2 := bst j1 hb2 nl9
 have r2 := r0'.below i2 r0'.lt
 obtain ⟨d0, d1, f0, f1⟩ := r2.two
 have N9 := hi9 (nn.mono (Nat.le_trans k0.size j1.size))
 have k2 := bst k0 i2 nl9
 clear AN p0 p1 p2 p3 bs j1 hb2 b0' r0' k0 nn i2
 go_wp2_with fail
 exact ie_ret k2 r2 (by omega) N9.out rfl rfl rfl rfl
theorem FV.re1 (h : FV B w a0 a1 a2 a3 z y K) {g : Nat} {W : World} (hW : Below w.heap.size w W) (hg : Blk W g 27 [a0, a1, a2, a3]) : ∃ l : List RE1, l.length = 1 ∧ RLs W K (some ⟨g, 0, none⟩) l ∧ (anyBad l ↔ y = 0) := by
 obtain ⟨g1, A, c1, xs, rfl, rfl, k⟩ := h.num.open_
 obtain ⟨g2, A2, c2, ys, rfl, rfl, k2⟩ := h.den.open_
 exact ⟨_, rfl, rl_one (k.next hW) (k2.next hW) hg, bad_one⟩
theorem FV.re2 (h : FV B w a0 a1 a2 a3 z y K) (h' : FV B2 w b0 b1 b2 b3 x v K) {g : Nat} {W : World} (hW : Below w.heap.size w W) (hg : Blk W g 27 [a0, a1, a2, a3, b0, b1, b2, b3]) : ∃ l : List RE1, l.length = 2 ∧ RLs W K (some ⟨g, 0, none⟩) l ∧ (anyBad l ↔ y = 0 ∨ v = 0) := by
 obtain ⟨g1, A, c1, xs, rfl, rfl, k⟩ := h.num.open_
 obtain ⟨g2, A2, c2, ys, rfl, rfl, k2⟩ := h.den.open_
 obtain ⟨g3, A3, c3, us, rfl, rfl, k3⟩ := h'.num.open_
 obtain ⟨g4, A4, c4, vs, rfl, rfl, k4⟩ := h'.den.open_
 exact ⟨_, rfl, rl_two (k.next hW) (k2.next hW) (k3.next hW) (k4.next hW) hg, bad_two⟩
theorem QV.qsign (h : QV B w a0 a1 a2 a3 q K) (hK : K ≤ 67108864) : Calls Tryz.prog 13 #[.agg #[a0, a1, a2, a3]] w fun e w' => e = .returned (.tuple #[.int .i64 q.num.sign, .int .i64 0]) ∧ Below w.heap.size w w' := by
 obtain ⟨z, y, h, h0, rfl⟩ := h
 rw [num_sign h0]
 refine sign_via _ 0 (hi9 fun W b hW hb => ?_)
 have k0 := bel_one w (.cells #[a0, a1, a2, a3] 27)
 have b0' : Blk (w.alloc (.cells #[a0, a1, a2, a3] 27)) w.heap.size 27 [a0, a1, a2, a3] := Blk.new_ rfl
 obtain ⟨l, hl, hr, hbad⟩ := h.re1 (bst k0 hW nl9) hb
 have := ans_sign_good (c := 1) (gp := w.heap.size) l hr hK (by omega) (fun e => h0 (hbad.1 e)) _ (hi9 fun V hV => sign1_any ((b0'.below hW b0'.lt).below hV (b0'.below hW b0'.lt).lt) (h.next (bst (bst k0 hW nl9) hV nl9)) hK)
 rwa [hl] at this
theorem FV.sign_bad (h : FV B w a0 a1 a2 a3 z 0 K) (hK : K ≤ 67108864) : Calls Tryz.prog 13 #[.agg #[a0, a1, a2, a3]] w fun e w' => e = .returned (.tuple #[.int .i64 0, .int .i64 6]) ∧ Below w.heap.size w w' := by
 refine sign_via _ 6 (hi9 fun W b hW hb => ?_)
 obtain ⟨l, hl, hr, hbad⟩ := h.re1 (bst (bel_one w (.cells #[a0, a1, a2, a3] 27)) hW nl9) hb
 have := ans_sign_bad (c := 1) (gp := w.heap.size) l hr hK (by omega) (hbad.2 rfl)
 rwa [hl] at this
theorem QV.qcmp (h : QV B w a0 a1 a2 a3 q K) (h' : QV B2 w b0 b1 b2 b3 r K) (hK : K ≤ 8388607) : Calls Tryz.prog 14 #[.agg #[a0, a1, a2, a3], .agg #[b0, b1, b2, b3]] w fun e w' => e = .returned (.tuple #[.int .i64 (q - r).num.sign, .int .i64 0]) ∧ Below w.heap.size w w' := by
 obtain ⟨z, y, h, h0, rfl⟩ := h
 obtain ⟨x, v, h', h0', rfl⟩ := h'
 rw [sub_sign h0 h0']
 refine cmp_via _ 0 (hi9 fun W b hW hb => ?_)
 have k0 := bel_two w (.cells #[a0, a1, a2, a3] 27) (.cells #[b0, b1, b2, b3] 27)
 obtain ⟨b0', b1'⟩ := blk_rr w a0 a1 a2 a3 b0 b1 b2 b3
 obtain ⟨l, hl, hr, hbad⟩ := h.re2 h' (bst k0 hW nl9) hb
 have := ans_cmp_good (c := 2) (gp := w.heap.size) (gq := w.heap.size + 1) l hr (by omega) (by omega) (fun e => by rcases hbad.1 e with e | e; exact h0 e; exact h0' e) _ (hi9 fun V hV => cmp1_any ((b0'.below hW b0'.lt).below hV (b0'.below hW b0'.lt).lt) ((b1'.below hW b1'.lt).below hV (b1'.below hW b1'.lt).lt) (h.next (bst (bst k0 hW nl9) hV nl9)) (h'.next (bst (bst k0 hW nl9) hV nl9)) hK)
 rwa [hl] at this
theorem FV.cmp_bad (h : FV B w a0 a1 a2 a3 z y K) (h' : FV B2 w b0 b1 b2 b3 x v K) (hK : K ≤ 8388607) (hb0 : y = 0 ∨ v = 0) : Calls Tryz.prog 14 #[.agg #[a0, a1, a2, a3], .agg #[b0, b1, b2, b3]] w fun e w' => e = .returned (.tuple #[.int .i64 0, .int .i64 6]) ∧ Below w.heap.size w w' := by
 refine cmp_via _ 6 (hi9 fun W b hW hb => ?_)
 obtain ⟨l, hl, hr, hbad⟩ := h.re2 h' (bst (bel_two w (.cells #[a0, a1, a2, a3] 27) (.cells #[b0, b1, b2, b3] 27)) hW nl9) hb
 have := ans_cmp_bad (c := 2) (gp := w.heap.size) (gq := w.heap.size + 1) l hr (by omega) (by omega) (hbad.2 hb0)
 rwa [hl] at this
theorem QV.qfloor {a0 a4 : Bool} {a1 a5 : Option Addr} {a2 a3 a6 a7 : Nat} (h : QV B w (.bool a0) (.slice a1 a2 a3) (.bool a4) (.slice a5 a6 a7) q K) (hK : K ≤ 8388607) : Calls Tryz.prog 15 #[.agg #[.bool a0, .slice a1 a2 a3, .bool a4, .slice a5 a6 a7]] w fun e w' => IE w w' (q.num / q.den) 0 e := by
 obtain ⟨z, y, h, h0, rfl⟩ := h
 rw [← up_q h0]
 refine floor_via _ 0 (hi9 fun W b hW hb => ?_)
 have k0 := bel_two w (.cells #[.bool a0, .slice a1 a2 a3, .bool a4, .slice a5 a6 a7] 27) (.cells #[.bool false, .slice none 0 0] 25)
 have b0' : Blk ((w.alloc (.cells #[.bool a0, .slice a1 a2 a3, .bool a4, .slice a5 a6 a7] 27)).alloc (.cells #[.bool false, .slice none 0 0] 25)) w.heap.size 27 [.bool a0, .slice a1 a2 a3, .bool a4, .slice a5 a6 a7] := (Blk.new_ rfl).heapAlloc _
 obtain ⟨l, hl, hr, hbad⟩ := h.re1 (bst k0 hW nl9) hb
 have := ans_floor_good (c := 1) (gp := w.heap.size) l hr (by omega) (by omega) (fun e => h0 (hbad.1 e)) _ (hi9 fun V hV => floor1_any ((b0'.below hW b0'.lt).below hV (b0'.below hW b0'.lt).lt) (h.next (bst (bst k0 hW nl9) hV nl9)) hK h0)
 rwa [hl] at this
theorem FV.floor_bad (h : FV B w a0 a1 a2 a3 z 0 K) (hK : K ≤ 67108864) : Calls Tryz.prog 15 #[.agg #[a0, a1, a2, a3]] w fun e w' => IE w w' 0 6 e := by
 refine floor_via _ 6 (hi9 fun W b hW hb => ?_)
 obtain ⟨l, hl, hr, hbad⟩ := h.re1 (bst (bel_two w (.cells #[a0, a1, a2, a3] 27) (.cells #[.bool false, .slice none 0 0] 25)) hW nl9) hb
 have := ans_floor_bad (c := 1) (gp := w.heap.size) l hr hK (by omega) (hbad.2 rfl)
 rwa [hl] at this
set_option maxHeartbeats 3200000 in
theorem QV.rqcmp (h : QV B w a0 a1 a2 a3 q K) (h' : QV B2 w b0 b1 b2 b3 r K) (hK : K ≤ 8388607) : Calls Tryz.prog 26 #[.agg #[a0, a1, a2, a3], .agg #[b0, b1, b2, b3]] w fun e w' => e = .returned (.int .i64 (q - r).num.sign) ∧ Below w.heap.size w w' := by
 have HA := hi9 h
 have HC := hi9 h'
 have HQ := hi9 (h.qb.sub h'.qb)
 obtain ⟨s, hs⟩ : ∃ s, s = (q - r).num.sign := ⟨_, rfl⟩
 have HS := hi9 hs.symm
 rw [← hs]
 clear h h' hs
 have k0 := bel_two w (.cells #[a0, a1, a2, a3] 27) (.cells #[b0, b1, b2, b3] 27)
 obtain ⟨b0', b1'⟩ := blk_rr w a0 a1 a2 a3 b0 b1 b2 b3
 go_enter Tryz.func26, Tryz.ntmps26
 go_upto_region 1 with fail
 obtain ⟨w0, hw0⟩ : ∃ v, v = (w.alloc (.cells #[a0, a1, a2, a3] 27)).alloc (.cells #[b0, b1, b2, b3] 27) := ⟨_, rfl⟩
 rw [← hw0] at k0 b0' b1' ⊢
 clear hw0
 obtain ⟨p0, p1, p2, p3, -, -, -, -⟩ := b0'.four
 obtain ⟨q0, q1, q2, q3, -, -, -, -⟩ := b1'.four
 go_wp2_with fail
 refine ((HA.out.next k0).rqsub (HC.out.next k0) hK).mono ?_
 rintro e w1 ⟨s0, s1, s2, s3, s4, s5, s6, s7, rfl, nn, hb1⟩
 have k1 := bst k0 hb1 nl9
 have N1 : Hid (QV 0 w1 (.bool s0) (.slice s1 s2 s3) (.bool s4) (.slice s5 s6 s7) (q - r) (K + K + 1)) := FN.qv nn HQ.out
 clear p0 p1 p2 p3 q0 q1 q2 q3 nn k0 hb1 b0' b1'
 go_wp2_with fail
 refine (sgn_to (N1.out.rqsign (by omega)) HS.out.symm).mono ?_
 rintro e w2 ⟨rfl, hb2⟩
 have k2 := bst k1 hb2 nl9
 go_wp2_with fail
 go_ret
 exact ⟨rfl, k2⟩
set_option maxHeartbeats 6400000 in
theorem rq_floor (h : QV B w a0 a1 a2 a3 q K) (hK : K ≤ 8388607) : Calls Tryz.prog 24 #[.agg #[a0, a1, a2, a3]] w fun e w' => IOz w w' (q.num / q.den) e := by
 have NM : Hid (∀ W (_ : Below w.heap.size w W), Calls Tryz.prog 18 #[.agg #[a0, a1, a2, a3]] W fun e w' => RO W w' q.num q.den e) := hi9 fun W hW => (h.next hW).rqnorm (by omega)
 have LN := h.qb.num
 have LD : (q.den : Int).natAbs < 4294967296 ^ K := by rw [Int.natAbs_natCast]; exact h.qb.den
 have HD0 := q_den q
 obtain ⟨num9, hnum⟩ : ∃ n9, n9 = q.num := ⟨_, rfl⟩
 obtain ⟨den9, hden⟩ : ∃ d9 : Int, d9 = q.den := ⟨_, rfl⟩
 rw [← hnum] at NM LN
 rw [← hden] at NM LD HD0
 rw [← hnum, ← hden]
 have HLN := hi9 LN
 have HLD := hi9 LD
 have HD := hi9 HD0
 clear h hnum hden LN LD HD0
 have k0 := bel_two w (.cells #[a0, a1, a2, a3] 27) (.cells #[.bool false, .slice none 0 0] 25)
 have b0' : Blk ((w.alloc (.cells #[a0, a1, a2, a3] 27)).alloc (.cells #[.bool false, .slice none 0 0] 25)) w.heap.size 27 [a0, a1, a2, a3] := (Blk.new_ rfl).heapAlloc _
 have r0' : Blk ((w.alloc (.cells #[a0, a1, a2, a3] 27)).alloc (.cells #[.bool false, .slice none 0 0] 25)) (w.heap.size + 1) 25 [.bool false, .slice none 0 0] := blk_res1 _ _ _ _
 go_enter Tryz.func24, Tryz.ntmps24
 go_upto_region 1 with fail
 obtain ⟨w0, hw0⟩ : ∃ v, v = (w.alloc (.cells #[a0, a1, a2, a3] 27)).alloc (.cells #[.bool false, .slice none 0 0] 25) := ⟨_, rfl⟩
 rw [← hw0] at k0 b0' r0' ⊢
 clear hw0
 obtain ⟨p0, p1, p2, p3, -, -, -, -⟩ := b0'.four
 go_wp2_with fail
 refine (NM.out _ k0).mono ?_
 rintro e w1 ⟨s0, s1, s2, s3, s4, s5, s6, s7, rfl, nn, hb1⟩
 have k1 := bst k0 hb1 nl9
 have b1 := b0'.below hb1 b0'.lt
 have r1 := r0'.below hb1 r0'.lt
 have N1 := hi9 nn
 have n1 : w.heap.size + 1 ≠ w.heap.size := by omega
 clear p0 p1 p2 p3 nn k0 hb1 b0' r0' NM
 obtain ⟨z0, z1, z2, z3, y0, y1, y2, y3⟩ := b1.four
 go_upto_region 2 with fail
 obtain ⟨v2, hv⟩ : ∃ V, V = set4 w1 w.heap.size (.bool s0) (.slice s1 s2 s3) (.bool s4) (.slice s5 s6 s7) := ⟨_, rfl⟩
 have hv2 := hv
 unfold set4 at hv2
 rw [← hv2]
 have b2 : Blk v2 w.heap.size 27 [.bool s0, .slice s1 s2 s3, .bool s4, .slice s5 s6 s7] := by rw [hv]; exact set4_same b1
 have r2 : Blk v2 (w.heap.size + 1) 25 [.bool false, .slice none 0 0] := by rw [hv]; exact set4_far r1 n1
 have k2 : Below w.heap.size w v2 := by rw [hv]; exact set4_below k1 nl9
 have F2 : Hid (FV 0 v2 (.bool s0) (.slice s1 s2 s3) (.bool s4) (.slice s5 s6 s7) num9 den9 K) := hi9 ⟨IN.iv (B := w0.heap.size) (by rw [hv]; exact (fn4 N1.out b1).num) HLN.out, IN.iv (B := w0.heap.size) (by rw [hv]; exact (fn4 N1.out b1).den) HLD.out⟩
 clear hv hv2 z0 z1 z2 z3 y0 y1 y2 y3 b1 r1 k1 N1 n1 HLN HLD
 obtain ⟨p0, p1, p2, p3, -, -, -, -⟩ := b2.four
 go_wp2_with fail
 refine (F2.out.num.reuclid F2.out.den (by omega) (by omega) HD.out).mono ?_
 rintro e w3 ⟨t0, t1, t2, t3, t4, t5, t6, t7, rfl, f3, hb3⟩
 have sz2 := k2.size
 have k3 := bst k2 hb3 nl9
 have r3 := r2.below hb3 r2.lt
 have F3 := hi9 (f3.1.mono sz2)
 clear p0 p1 p2 p3 f3 k2 hb3 b2 r2
 go_upto_region 3 with fail
 obtain ⟨v4, hv⟩ : ∃ v, v = (w3.alloc (.cells #[.bool t0, .slice t1 t2 t3] 25)).alloc (.cells #[.bool t4, .slice t5 t6 t7] 25) := ⟨_, rfl⟩
 rw [← hv]
 obtain ⟨bn1, bn2⟩ : Blk v4 w3.heap.size 25 [.bool t0, .slice t1 t2 t3] ∧ Blk v4 (w3.heap.size + 1) 25 [.bool t4, .slice t5 t6 t7] := by rw [hv]; exact blk_pair2 _ _ _ _ _
 have jn : Below w3.heap.size w3 v4 := by rw [hv]; exact bel_two _ _ _
 have k4 := bst k3 jn nl9
 have r4 := r3.below jn r3.lt
 have F4 := F3.out.next jn
 obtain ⟨p0, p1, -, -⟩ := bn1.two
 obtain ⟨d0, d1, u0, u1⟩ := r4.two
 clear hv
 go_wp2_with fail
 exact io_ret k4 r4 (by omega) F4 rfl rfl rfl
end
end Go.Proofs.YtbcphifjcaobfaaGreatDoor
