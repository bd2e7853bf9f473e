/- The contract of the reference's Left. The contract of the reference's Gcd. The contracts of the reference's Norm, Of, Sign, Neg, Abs, M. -/
import Derived.Test.YtbcphifjcaobfaaGreatDoorPkRp19
import Derived.Test.YtbcphifjcaobfaaGreatDoorPkRp6
import Derived.Deep.RegionLaw
import Derived.Deep.RegionHeld3
import Derived.Deep.DeepCutAuto
import Derived.Test.YtbcphifjcaobfaaGreatDoorPkRp21
import Derived.Test.YtbcphifjcaobfaaGreatDoorPkRp17
import Derived.Deep.LoopGhost
import Derived.Test.YtbcphifjcaobfaaGreatDoorPkRp16
namespace Go.Proofs.YtbcphifjcaobfaaGreatDoor
section
open Go.RowKit
theorem step_app {P : Program} {ops : Array Oper} {o : Oper} {a : Act} {w : World} {K : Act → World → Prop} {Q : Exit → Act → World → Prop} {E : Prop} (hgd : o.guard = none) (d s : Operand) (t : TypeId)
  (ho : o.op = .call { callee := .builtin .append, args := #[d, s], argTypes := #[t, t] }) (e : TypeId) (i : TypeInfo) (z : Value) (bytes : Nat) (ht : P.underlying t = some (.slice e)) (hi : P.info? e = some i) (hz : i.zero = some z)
  (hsize : i.size = 1) (hby : i.bytes = bytes) (hzs : z.cells.size = 1) (g n : Nat) (A : Option Addr) (m c : Nat) (hd : a.eval d = .slice (some ⟨g, 0, none⟩) n n) (hs : a.eval s = .slice A m c)
  (xs news : List Value) (B : Nat) (hb : Blk w g e xs) (hn : xs.length = n) (hr : Rd w B A news) (hm : news.length = m) (h1 : ∀ u ∈ news, u.oneCell' = true) (h63 : n + m ≤ 281474976710656) (hbytes : (n + m) * bytes ≤ 140737488355328)
  (h : ∀ v' w', w'.ownsRow g e 1 v' (n + m) (xs ++ news) → w.grownBy w' (some g) → K (a.put o.dst v') w') :
  if Region.wanted o (yielded ops a.tmps) = true then Oper.wp P o a w K Q else E := by
 have hw : Region.wanted o (yielded ops a.tmps) = true := by simp [Region.wanted, hgd]
 rw [if_pos hw]
 have hown : w.ownsRow g e 1 (.slice (some ⟨g, 0, none⟩) n n) n xs :=
  ⟨by omega, .inr ⟨g, n, xs.toArray, rfl, Nat.le_refl _, hb, Nat.le_refl _, by unfold maxLen; omega, by simp [hn], by simp [← hn]⟩⟩
 obtain ⟨v', w', hrun, h2, h3⟩ := run_app (P := P) w g t o.type e i z bytes ht hi hz hsize hby hzs g n n xs hown A m c B news hr hm h1 (by unfold maxLen; omega) hbytes (by have := hb.lt; omega)
 unfold Oper.wp
 simp [execOp, ho, resolve, invoke, builtin, hd, hs, hrun, Result.andThen]
 exact h v' w' h2 h3
set_option maxRecDepth 20000 in
set_option maxHeartbeats 1600000 in
theorem rleft_any (A : Option Addr) (c : Nat) (xs : List Nat) (n d s : Nat) (w : World) (B : Nat) (hr : Rd w B A (u32s xs)) (hB : B ≤ w.heap.size) (hd : Dig 4294967296 xs) (hn : n = 32 * d + s) (hs : s < 32) (hm : d + (trimL xs).length ≤ 35184372088000) (hm0 : xs.length ≤ 70368744170000) :
  Calls Tryz.prog 166 #[.slice A xs.length c, .int .i64 (n : Int)] w fun e w' => ∃ zs A' c', e = .returned (.slice A' zs.length c') ∧ Num 4294967296 zs (val 4294967296 xs * 2 ^ n) ∧ Res w' w.heap.size 50 A' c' (u32s zs) ∧ Below w.heap.size w w' := by
 have hl := trimL_length_le xs
 have hmk := fun W => mk32 d (by omega) W
 have q1 : (n : Int) / 32 = (d : Int) := by omega
 have q2 : (n : Int) % 32 = (s : Int) := by omega
 have nb : n < 9223372036854775807 := by omega
 have Hn := hi9 hn
 have hwr : IntKind.i64.wrap (d : Int) = (d : Int) := by rw [IntKind.wrap_i64]; omega
 clear hn
 go_enter Tryz.func166, Tryz.ntmps166
 go_wp2_with fail
 obtain ⟨i0, hi, hz0, hz1, hz2⟩ := info_parts Tryz.info32
 have hnc : ∀ W : World, Below w.heap.size w W → Calls Tryz.prog 90 #[.slice A xs.length c] W fun e w' => ∃ A' c', e = .returned (.slice A' (trimL xs).length c') ∧ Res w' W.heap.size 50 A' c' (u32s (trimL xs)) ∧ Below W.heap.size W w' :=
  fun W hW => rnorm_any A c xs W B (hr.below (hW.mono hB)) (Nat.le_trans hB hW.size) (by omega)
 have Hnc := hi9 hnc
 have hl9 : (u32s (List.replicate d 0)).length = d := by simp [u32s]
 have Hl9 := hi9 hl9
 have hsum : d + (trimL xs).length ≤ 35184372088000 := by omega
 have hbk : ∀ W : World, Blk (W.alloc (.cells (Array.replicate d (Value.int .u32 0)) 50)) W.heap.size 50 (u32s (List.replicate d 0)) := fun W => Blk.new_ (by simp [u32s])
 have Hbk := hi9 hbk
 clear hnc hl9 hbk
 go_cut [5] (fun v wc => ∃ A1 c1, v = .slice A1 (d + (trimL xs).length) c1 ∧ Rd wc wc.heap.size A1 (u32s (List.replicate d 0 ++ trimL xs)) ∧ Below w.heap.size w wc)
 case first =>
  go_region_held3 (fun _ => True) (exact trivial) (first
   | (go_at_call 90; refine (Hnc.out _ (by first | exact br9.drew | exact (br9.alloc nl9 _).drew)).mono ?_; rintro e w1 ⟨A1, c1, rfl, hres, hb⟩)
   | (refine step_app rfl (.tmp 8) (.tmp 10) 23 rfl 50 i0 (.int .u32 0) 4 Tryz.underlying23 hi hz0 hz1 hz2 rfl _ d _ _ _ rfl rfl (u32s (List.replicate d 0)) (u32s (trimL xs)) _ (by first | exact Hbk.out _ | exact (Hbk.out w).drew.below hb (by show w.heap.size < (w.alloc _).heap.size; rw [World.size_alloc]; omega)) Hl9.out (by first | exact hres.rd | exact hres.rd.below (br9.alloc nl9 _)) (u32s_length _) (one_u32s _) (by omega) (by omega) ?_; intro v' w2 hown hgr))
  all_goals
   go_wp2
   go_meet
   obtain ⟨A9, c9, rfl, hlc9, hrd9, _⟩ := own_res hown (by omega)
   refine ⟨A9, c9, rfl, ?_, ?_⟩
   ·have e9 : u32s (List.replicate d 0 ++ trimL xs) = u32s (List.replicate d 0) ++ u32s (trimL xs) := by simp [u32s]
    rw [e9]; exact hrd9
   ·have hsz1 := hb.size
    first
     | (have e1 : Below w.heap.size w w1 := (br9.alloc nl9 _).drew.trans (hb.mono (by show w.heap.size ≤ (w.alloc _).heap.size; rw [World.size_alloc]; omega))
        exact e1.trans (below_grown hgr nl9 e1.size))
     | (have e1 : Below w.heap.size w w1 := br9.drew.trans hb
        exact (e1.alloc e1.size _).trans (below_grown hgr e1.size (by rw [World.size_alloc]; have := e1.size; omega)))
 case rest =>
  obtain ⟨A1, c1, rfl, hrd, hbel⟩ := hcut
  have hdl : Dig 4294967296 (List.replicate d 0 ++ trimL xs) := (Dig.zeros_ (by omega) _).append_ hd.trim_
  have hln : Hid ((List.replicate d 0 ++ trimL xs).length = d + (trimL xs).length) := by show _ = _; simp
  have hvl : val 4294967296 (List.replicate d 0 ++ trimL xs) * 2 ^ s = val 4294967296 xs * 2 ^ n := by
   rw [val_append, val_zeros, val_trim, Hn.out, Nat.pow_add, Nat.pow_mul, show (2 : Nat) ^ 32 = 4294967296 from rfl, List.length_replicate, Nat.zero_add, Nat.mul_comm (4294967296 ^ d), Nat.mul_assoc]
  have h2s : 2 ^ s < 2 ^ 32 := Nat.pow_lt_pow_right (by omega) hs
  have e9 : ((2 : Int) ^ s % 4294967296) = ((2 ^ s : Nat) : Int) := by
   rw [show ((2 : Int) ^ s) = ((2 ^ s : Nat) : Int) from by simp]
   exact Int.emod_eq_of_lt (Int.natCast_nonneg _) (Int.ofNat_lt.2 h2s)
  obtain ⟨ts, hts⟩ : ∃ ts, ts = 2 ^ s := ⟨_, rfl⟩
  rw [← hts] at h2s e9 hvl
  have hts32 : ts < 4294967296 := by omega
  have Hvl := hi9 hvl
  clear hvl hts h2s
  go_wp2_with fail
  rw [← hln.out]
  refine (rsmall_any A1 c1 _ ts _ _ hrd nl9 hdl hts32 (by have := hln.out; omega)).mono ?_
  rintro e w5 ⟨zs, A7, c7, rfl, hnz, hres, hb5⟩
  go_wp2
  go_ret
  rw [Hvl.out] at hnz
  exact ⟨zs, A7, c7, rfl, hnz, hres.mono hbel.size, hbel.trans (hb5.mono hbel.size)⟩
end
section
open Go.RowKit
def Lv (w : World) (A : Option Addr) (ps : List Nat) (p LL : Nat) : Prop := Num 4294967296 ps p ∧ Rd w w.heap.size A (u32s ps) ∧ p < 4294967296 ^ LL
section
variable {w w' : World} {A : Option Addr} {ps : List Nat} {p LL : Nat}
theorem Lv.next (h : Lv w A ps p LL) (hb : Below w.heap.size w w') : Lv w' A ps p LL := ⟨h.1, (h.2.1.below hb).mono hb.size, h.2.2⟩
theorem Lv.len (h : Lv w A ps p LL) : ps.length ≤ LL := by
 have := trimL_len_le (b := 4294967296) (by omega) h.1.1 (by rw [h.1.2.2]; exact h.2.2)
 rwa [h.1.2.1] at this
theorem Lv.pos (h : Lv w A ps p LL) (h0 : 0 < p) : 0 < ps.length := by
 refine List.length_pos_iff.2 (fun e => ?_)
 have := (h.1.nil_iff (by omega)).1 e
 omega
theorem Lv.zero (h : Lv w A ps p LL) (h0 : p = 0) : ps = [] := (h.1.nil_iff (by omega)).2 h0
theorem Lv.cell (h : Lv w A ps p LL) (h0 : 0 < p) : ∃ b off x, A = some ⟨b, off, none⟩ ∧ w.cell? ⟨b, off, none⟩ = some (.int .u32 (x : Nat)) ∧ x % 2 = p % 2 ∧ x < 4294967296 := by
 have hl := h.pos h0
 obtain ⟨b, off, rfl, hb, hc⟩ := h.2.1 (by intro e; have := congrArg List.length e; rw [u32s_length] at this; simp at this; rw [this] at hl; simp at hl)
 have h1 := hc 0 _ (u32s_at hl)
 refine ⟨b, off, ps[0], rfl, h1, ?_, h.1.1.at_ 0 hl⟩
 have hv := h.1.2.2
 obtain ⟨y, ys, rfl⟩ : ∃ y ys, ps = y :: ys := by
  cases ps with
  | nil => simp at hl
  | cons y ys => exact ⟨y, ys, rfl⟩
 rw [← hv]
 simp only [val, List.getElem_cons_zero]
 omega
theorem Lv.half {zs : List Nat} {A' : Option Addr} {c' B : Nat} (h : Lv w A ps p LL) (hn : Num 4294967296 zs (p / 2)) (hr : Res w' B 50 A' c' (u32s zs)) : Lv w' A' zs (p / 2) LL :=
 ⟨hn, hr.rd, Nat.lt_of_le_of_lt (Nat.div_le_self _ _) h.2.2⟩
end
theorem gcd_half2 {p q : Nat} (hp : p % 2 = 0) (hq : q % 2 = 0) (t : Nat) : Nat.gcd (p / 2) (q / 2) * 2 ^ (t + 1) = Nat.gcd p q * 2 ^ t := by
 obtain ⟨a, rfl⟩ : ∃ a, p = 2 * a := ⟨p / 2, by omega⟩
 obtain ⟨b, rfl⟩ : ∃ b, q = 2 * b := ⟨q / 2, by omega⟩
 rw [Nat.mul_div_cancel_left _ (by omega), Nat.mul_div_cancel_left _ (by omega), Nat.gcd_mul_left, Nat.pow_succ, Nat.mul_comm (2 ^ t) 2, ← Nat.mul_assoc, Nat.mul_comm _ 2]
theorem gcd_half1 {p q : Nat} (hp : p % 2 = 0) (hq : q % 2 = 1) : Nat.gcd (p / 2) q = Nat.gcd p q := by
 obtain ⟨a, rfl⟩ : ∃ a, p = 2 * a := ⟨p / 2, by omega⟩
 have := odd_gcd hq 1 a
 rw [Nat.pow_one] at this
 rw [Nat.mul_div_cancel_left _ (by omega), Nat.gcd_comm, ← this, Nat.gcd_comm]
theorem twos_lt {p t M LL : Nat} (h : p * 2 ^ t ≤ M) (hp : 0 < p) (hM : M < 4294967296 ^ LL) : t < 32 * LL := by
 have h1 : 1 * 2 ^ t ≤ p * 2 ^ t := Nat.mul_le_mul_right _ hp
 have h2 : (4294967296 : Nat) ^ LL = 2 ^ (32 * LL) := by rw [Nat.pow_mul]
 rw [h2] at hM
 have h3 : 2 ^ t < 2 ^ (32 * LL) := by omega
 exact (Nat.pow_lt_pow_iff_right (by omega)).1 h3
set_option maxRecDepth 100000 in
set_option maxHeartbeats 6400000 in
theorem rgcd_any (A A2 : Option Addr) (c c2 : Nat) (xs ys : List Nat) (w : World) (B : Nat) (hr : Rd w B A (u32s xs)) (hr2 : Rd w B A2 (u32s ys)) (hB : B ≤ w.heap.size) (hd : Dig 4294967296 xs) (hd2 : Dig 4294967296 ys) (hm : xs.length ≤ 268435456) (hm2 : ys.length ≤ 268435456) :
  Calls Tryz.prog 141 #[.slice A xs.length c, .slice A2 ys.length c2] w fun e w' => ∃ zs A' c', e = .returned (.slice A' zs.length c') ∧ Num 4294967296 zs (Nat.gcd (val 4294967296 xs) (val 4294967296 ys)) ∧ Res w' w.heap.size 50 A' c' (u32s zs) ∧ Below w.heap.size w w' := by
 have N1 := hi9 (rnorm_any A c xs w B hr hB (by omega))
 have N2 : Hid (∀ W, Below w.heap.size w W → Calls Tryz.prog 90 #[.slice A2 ys.length c2] W fun e w' => ∃ A' c', e = .returned (.slice A' (trimL ys).length c') ∧ Res w' W.heap.size 50 A' c' (u32s (trimL ys)) ∧ Below W.heap.size W w') := fun W hW => rnorm_any A2 c2 ys W B (hr2.below (hW.mono hB)) (Nat.le_trans hB hW.size) (by omega)
 obtain ⟨m, hmv⟩ : ∃ m, m = val 4294967296 xs := ⟨_, rfl⟩
 obtain ⟨n, hnv⟩ : ∃ n, n = val 4294967296 ys := ⟨_, rfl⟩
 have hn1 : Num 4294967296 (trimL xs) m := by rw [hmv]; exact Num.of_trim hd
 have hn2 : Num 4294967296 (trimL ys) n := by rw [hnv]; exact Num.of_trim hd2
 have hl1 := trimL_length_le xs
 have hl2 := trimL_length_le ys
 rw [← hmv, ← hnv]
 obtain ⟨ps, hps⟩ : ∃ ps, ps = trimL xs := ⟨_, rfl⟩
 obtain ⟨qs, hqs⟩ : ∃ qs, qs = trimL ys := ⟨_, rfl⟩
 rw [← hps] at hn1 N1 hl1
 rw [← hqs] at hn2 N2 hl2
 obtain ⟨LL, hLL⟩ : ∃ LL, LL = 268435456 := ⟨_, rfl⟩
 have hmL : m < 4294967296 ^ LL := Nat.lt_of_lt_of_le hn1.lt (Nat.pow_le_pow_right (by omega) (by omega))
 have hnL : n < 4294967296 ^ LL := Nat.lt_of_lt_of_le hn2.lt (Nat.pow_le_pow_right (by omega) (by omega))
 have hLb : LL ≤ 268435456 := by omega
 clear hps hqs hmv hnv hLL hr hr2
 go_enter Tryz.func141, Tryz.ntmps141
 go_upto_region 2 with (first
  | (go_at_call 90; (with_reducible refine N1.out.mono ?_); rintro e w1 ⟨A1, c1, rfl, hres1, hb1⟩)
  | (go_at_call 90; (with_reducible refine (N2.out _ hb1).mono ?_); rintro e w2 ⟨A3, c3, rfl, hres2, hb2⟩))
 have hbt : Below w.heap.size w w2 := hb1.trans (hb2.mono hb1.size)
 have hres1' : Res w2 w.heap.size 50 A1 c1 (u32s ps) := hres1.below hb2 nl9
 by_cases h0 : ps.length = 0
 ·have hp0 : ps = [] := List.eq_nil_of_length_eq_zero h0
  have hm0 : m = 0 := (hn1.nil_iff (by omega)).1 hp0
  have hgn : Hid (Nat.gcd m n = n) := by show _ = _; rw [hm0, Nat.gcd_zero_left]
  have t1 : ((ps.length : Int) == 0) = true := by simp; exact hp0
  clear hp0 hm0
  go_wp2_with (simp only [t1])
  go_ret
  exact ⟨qs, A3, c3, rfl, by rw [hgn.out]; exact hn2, hres2.mono hb1.size, hbt⟩
 have t1 : ((ps.length : Int) == 0) = false := by simp; intro e; rw [e] at h0; exact h0 rfl
 by_cases h9 : qs.length = 0
 ·have hp0 : qs = [] := List.eq_nil_of_length_eq_zero h9
  have hm0 : n = 0 := (hn2.nil_iff (by omega)).1 hp0
  have hgn : Hid (Nat.gcd m n = m) := by show _ = _; rw [hm0, Nat.gcd_zero_right]
  have t2 : ((qs.length : Int) == 0) = true := by simp; exact hp0
  clear hp0 hm0
  go_wp2_with (first | simp only [t1] | simp only [t2])
  go_ret
  exact ⟨ps, A1, c1, rfl, by rw [hgn.out]; exact hn1, hres1', hbt⟩
 have t2 : ((qs.length : Int) == 0) = false := by simp; intro e; rw [e] at h9; exact h9 rfl
 have hmp : 0 < m := by
  rcases Nat.eq_zero_or_pos m with h | h
  ·exact absurd (by rw [(hn1.nil_iff (by omega)).2 h]; rfl) h0
  ·exact h
 have hnp : 0 < n := by
  rcases Nat.eq_zero_or_pos n with h | h
  ·exact absurd (by rw [(hn2.nil_iff (by omega)).2 h]; rfl) h9
  ·exact h
 have hv1 : Lv w2 A1 ps m LL := ⟨hn1, hres1'.rd, hmL⟩
 have hv2 : Lv w2 A3 qs n LL := ⟨hn2, hres2.rd, hnL⟩
 go_wp2_with (first | simp only [t1] | simp only [t2])
 clear t1 t2 h0 h9 hres1 hres1' hres2 N1 N2
 go_loopg [0, 1, 5] m (fun K av bv tv wr => ∃ (ps qs : List Nat) (A A2 : Option Addr) (c c2 p q t : Nat), av = .slice A ps.length c ∧ bv = .slice A2 qs.length c2 ∧ tv = .int .i64 (t : Int) ∧ Lv wr A ps p LL ∧ Lv wr A2 qs q LL ∧ 0 < p ∧ 0 < q ∧ p ≤ K ∧ Hid (Nat.gcd p q * 2 ^ t = Nat.gcd m n) ∧ Hid (p * 2 ^ t ≤ m) ∧ Below w.heap.size w wr)
 case atStart => exact ⟨ps, qs, A1, A3, c1, c3, m, n, 0, rfl, rfl, rfl, hv1, hv2, hmp, hnp, Nat.le_refl _, by show _ = _; rw [Nat.pow_zero, Nat.mul_one], by show _ ≤ _; rw [Nat.pow_zero, Nat.mul_one]; exact Nat.le_refl _, hbt⟩
 case round =>
  clear hv1 hv2
  obtain ⟨ps, qs, A, A2, c, c2, p, q, t, rfl, rfl, rfl, hv1, hv2, hp, hq, hK, HG, HM, hbel⟩ := hrel
  obtain ⟨b1, o1, x, rfl, cx, hx2, hxb⟩ := hv1.cell hp
  obtain ⟨b2, o2, y, rfl, cy, hy2, hyb⟩ := hv2.cell hq
  have htl := twos_lt HM.out hp hmL
  have i1 := hv1.pos hp
  have i2 := hv2.pos hq
  by_cases hev : x % 2 = 0 ∧ y % 2 = 0
  ·obtain ⟨e1, e2⟩ := hev
   have t1 : ((x : Int) % 2 == 0) = true := by simp; omega
   have t2 : ((y : Int) % 2 == 0) = true := by simp; omega
   have H1 := hi9 (rhalf_any (some ⟨b1, o1, none⟩) c ps wr wr.heap.size hv1.2.1 nl9 hv1.1.1 (by have := hv1.len; omega))
   have H2 : Hid (∀ W, Below wr.heap.size wr W → Calls Tryz.prog 165 #[.slice (some ⟨b2, o2, none⟩) qs.length c2] W fun e w' => ∃ zs A' c', e = .returned (.slice A' zs.length c') ∧ Num 4294967296 zs (q / 2) ∧ Res w' W.heap.size 50 A' c' (u32s zs) ∧ Below W.heap.size W w') := fun W hW => by
    have h3 := hv2.next hW
    have := rhalf_any (some ⟨b2, o2, none⟩) c2 qs W W.heap.size h3.2.1 nl9 h3.1.1 (by have := h3.len; omega)
    rwa [hv2.1.2.2] at this
   rw [hv1.1.2.2] at H1
   go_wp2_with (first
    | simp only []
    | simp only [t2]
    | (go_at_call_of 165 (Value.slice (some ⟨b1, o1, none⟩) ps.length c); (with_reducible refine H1.out.mono ?_); rintro e w3 ⟨zs, A4, c4, rfl, hz, hres4, hb3⟩)
    | (go_at_call 165; (with_reducible refine (H2.out _ hb3).mono ?_); rintro e w4 ⟨zs2, A5, c5, rfl, hz2, hres5, hb4⟩))
   go_roundg (p / 2)
   case measure => omega
   case rel => exact ⟨zs, zs2, A4, A5, c4, c5, p / 2, q / 2, t + 1, rfl, rfl, by go_num, (hv1.half hz hres4).next hb4, hv2.half hz2 hres5, by omega, by omega, Nat.le_refl _, by show _ = _; rw [gcd_half2 (by omega) (by omega)]; exact HG.out, by
     show _ ≤ _
     refine Nat.le_trans ?_ HM.out
     rw [Nat.pow_succ, Nat.mul_comm (2 ^ t), ← Nat.mul_assoc]
     exact Nat.mul_le_mul_right _ (Nat.div_mul_le_self _ _), hbel.trans ((hb3.trans (hb4.mono hb3.size)).mono hbel.size)⟩
  ·have hodd : p % 2 = 1 ∨ q % 2 = 1 := by omega
   obtain ⟨g, hg⟩ : ∃ g, g = Nat.gcd p q := ⟨_, rfl⟩
   have HGG : Hid (g * 2 ^ t = Nat.gcd m n) := by show _ = _; rw [hg]; exact HG.out
   have Hg := hi9 hg
   clear hg
   by_cases e1 : x % 2 = 0
   case' pos =>
    have t1 : ((x : Int) % 2 == 0) = true := by simp; omega
    have t2 : ((y : Int) % 2 == 0) = false := by simp; omega
   case' neg =>
    have t1 : ((x : Int) % 2 == 0) = false := by simp; omega
    have t2 : True := trivial
   all_goals
    clear hev
    go_wp2_with (first | simp only [t1] | simp only [t2])
    clear t1 t2 e1 cx cy hx2 hy2 hxb hyb i1 i2
    go_loopg [0, 1, 6] (p + q) (fun K av bv _ wr => ∃ (ps qs : List Nat) (A A2 : Option Addr) (c c2 p q : Nat), av = .slice A ps.length c ∧ bv = .slice A2 qs.length c2 ∧ Lv wr A ps p LL ∧ Lv wr A2 qs q LL ∧ (p % 2 = 1 ∨ q % 2 = 1) ∧ p + q ≤ K ∧ Hid (Nat.gcd p q = g) ∧ Below w.heap.size w wr)
    case atStart => exact ⟨ps, qs, _, _, c, c2, p, q, rfl, rfl, hv1, hv2, hodd, Nat.le_refl _, Hg.out.symm, hbel⟩
    case round =>
     clear hv1 hv2 hbel hK hodd
     obtain ⟨ps, qs, A, A2, c, c2, p, q, rfl, rfl, hv1, hv2, hodd, hK, HG2, hbel⟩ := hrel
     obtain ⟨d, hd9⟩ : ∃ d, d = t / 32 := ⟨_, rfl⟩
     obtain ⟨s, hs9⟩ : ∃ s, s = t % 32 := ⟨_, rfl⟩
     have hts : t = 32 * d + s := by omega
     have hsl : s < 32 := by omega
     have hdl : d < LL := by omega
     by_cases h1 : p = 0
     ·obtain rfl := hv1.zero h1
      have L1 := hi9 (rleft_any A2 c2 qs t d s wr wr.heap.size hv2.2.1 nl9 hv2.1.1 hts hsl (by have := hv2.len; have := trimL_length_le qs; omega) (by have := hv2.len; omega))
      have hval : Hid (val 4294967296 qs * 2 ^ t = Nat.gcd m n) := by
       show _ = _
       rw [hv2.1.2.2, ← HGG.out, ← HG2.out, h1, Nat.gcd_zero_left]
      rw [hval.out] at L1
      rw [List.length_nil]
      clear hts hd9 hs9
      go_wp2_with (go_at_call 166; (with_reducible refine L1.out.mono ?_); rintro e w5 ⟨zs, A5, c5, rfl, hz, hres5, hb5⟩)
      go_ret
      exact ⟨zs, A5, c5, rfl, hz, hres5.mono hbel.size, hbel.trans (hb5.mono hbel.size)⟩
     by_cases h2 : q = 0
     ·obtain rfl := hv2.zero h2
      have i1 := hv1.pos (by omega)
      have L1 := hi9 (rleft_any A c ps t d s wr wr.heap.size hv1.2.1 nl9 hv1.1.1 hts hsl (by have := hv1.len; have := trimL_length_le ps; omega) (by have := hv1.len; omega))
      have hval : Hid (val 4294967296 ps * 2 ^ t = Nat.gcd m n) := by
       show _ = _
       rw [hv1.1.2.2, ← HGG.out, ← HG2.out, h2, Nat.gcd_zero_right]
      rw [hval.out] at L1
      have t1 : decide (0 < ps.length) = true := decide_eq_true i1
      have t2 : ((ps.length : Int) == 0) = false := by simp; intro e; rw [e] at i1; simp at i1
      rw [List.length_nil]
      clear hts hd9 hs9
      go_wp2_with (first
       | simp only []
       | simp only [t2]
       | (go_at_call 166; (with_reducible refine L1.out.mono ?_); rintro e w5 ⟨zs, A5, c5, rfl, hz, hres5, hb5⟩))
      go_ret
      exact ⟨zs, A5, c5, rfl, hz, hres5.mono hbel.size, hbel.trans (hb5.mono hbel.size)⟩
     have hp1 : 0 < p := by omega
     have hq1 : 0 < q := by omega
     have i1 := hv1.pos hp1
     have i2 := hv2.pos hq1
     have t1 : decide (0 < ps.length) = true := decide_eq_true i1
     have t2 : decide (0 < qs.length) = true := decide_eq_true i2
     clear hts hd9 hs9 hsl hdl h1 h2
     go_wp2_with (first | simp only [t1] | simp only [t2])
     clear t1 t2 i1 i2
     go_loopg [0] p (fun K av wr => ∃ (ps : List Nat) (A : Option Addr) (c p3 : Nat), av = .slice A ps.length c ∧ Lv wr A ps p3 LL ∧ Lv wr A2 qs q LL ∧ 0 < p3 ∧ p3 ≤ K ∧ p3 ≤ p ∧ (p3 % 2 = 1 ∨ q % 2 = 1) ∧ Hid (Nat.gcd p3 q = g) ∧ Below w.heap.size w wr)
     case atStart => exact ⟨ps, A, c, p, rfl, hv1, hv2, hp1, Nat.le_refl _, Nat.le_refl _, hodd, HG2, hbel⟩
     case round =>
      clear hv1 hv2 hbel hodd HG2
      obtain ⟨ps, A, c, p3, rfl, hv1, hv2, hp3, hK3, hp3p, hodd, HG2, hbel⟩ := hrel
      obtain ⟨b1, o1, x, rfl, cx, hx2, hxb⟩ := hv1.cell hp3
      have i1 := hv1.pos hp3
      by_cases e1 : x % 2 = 0
      ·have t1 : ((x : Int) % 2 == 0) = true := by simp; omega
       have H1 := hi9 (rhalf_any (some ⟨b1, o1, none⟩) c ps wr wr.heap.size hv1.2.1 nl9 hv1.1.1 (by have := hv1.len; omega))
       rw [hv1.1.2.2] at H1
       go_wp2_with (first
        | simp only []
        | (go_at_call 165; (with_reducible refine H1.out.mono ?_); rintro e w3 ⟨zs, A4, c4, rfl, hz, hres4, hb3⟩))
       go_roundg (p3 / 2)
       case measure => omega
       case rel => exact ⟨zs, A4, c4, p3 / 2, rfl, hv1.half hz hres4, hv2.next hb3, by omega, Nat.le_refl _, by omega, Or.inr (by omega), by show _ = _; rw [gcd_half1 (by omega) (by omega)]; exact HG2.out, hbel.trans (hb3.mono hbel.size)⟩
      ·have t1 : ((x : Int) % 2 == 0) = false := by simp; omega
       have hp3o : p3 % 2 = 1 := by omega
       go_wp2_with (first | simp only [t1])
       clear t1 cx hx2 hxb i1 e1
       go_loopg [1] q (fun K bv wr => ∃ (qs : List Nat) (A2 : Option Addr) (c2 q4 : Nat), bv = .slice A2 qs.length c2 ∧ Lv wr (some ⟨b1, o1, none⟩) ps p3 LL ∧ Lv wr A2 qs q4 LL ∧ 0 < q4 ∧ q4 ≤ K ∧ q4 ≤ q ∧ Hid (Nat.gcd p3 q4 = g) ∧ Below w.heap.size w wr)
       case atStart => exact ⟨qs, A2, c2, q, rfl, hv1, hv2, hq1, Nat.le_refl _, Nat.le_refl _, HG2, hbel⟩
       case round =>
        clear hv1 hv2 hbel hodd HG2
        obtain ⟨qs, A2, c2, q4, rfl, hv1, hv2, hq4, hK4, hq4q, HG2, hbel⟩ := hrel
        obtain ⟨b2, o2, y, rfl, cy, hy2, hyb⟩ := hv2.cell hq4
        have i2 := hv2.pos hq4
        by_cases e1 : y % 2 = 0
        ·have t1 : ((y : Int) % 2 == 0) = true := by simp; omega
         have H1 := hi9 (rhalf_any (some ⟨b2, o2, none⟩) c2 qs wr wr.heap.size hv2.2.1 nl9 hv2.1.1 (by have := hv2.len; omega))
         rw [hv2.1.2.2] at H1
         go_wp2_with (first
          | simp only []
          | (go_at_call 165; (with_reducible refine H1.out.mono ?_); rintro e w3 ⟨zs, A4, c4, rfl, hz, hres4, hb3⟩))
         go_roundg (q4 / 2)
         case measure => omega
         case rel => exact ⟨zs, A4, c4, q4 / 2, rfl, hv1.next hb3, hv2.half hz hres4, by omega, Nat.le_refl _, by omega, by show _ = _; rw [Nat.gcd_comm, gcd_half1 (by omega) hp3o, Nat.gcd_comm]; exact HG2.out, hbel.trans (hb3.mono hbel.size)⟩
        ·have t1 : ((y : Int) % 2 == 0) = false := by simp; omega
         have hq4o : q4 % 2 = 1 := by omega
         have HC := hi9 (rcmp_any (some ⟨b1, o1, none⟩) (some ⟨b2, o2, none⟩) c c2 ps qs wr wr.heap.size hv1.2.1 hv2.2.1 hv1.1.1 hv2.1.1 (by have := hv1.len; omega) (by have := hv2.len; omega))
         rw [hv1.1.2.2, hv2.1.2.2] at HC
         by_cases hge : q4 ≤ p3
         ·have t2 : decide (0 ≤ cmpN p3 q4) = true := by unfold cmpN; rw [if_neg (by omega)]; split <;> rfl
          have HS := hi9 (rsub_any (some ⟨b1, o1, none⟩) (some ⟨b2, o2, none⟩) c c2 ps qs wr wr.heap.size hv1.2.1 hv2.2.1 nl9 hv1.1.1 hv2.1.1 (by have := hv1.len; omega) (by have := hv2.len; omega) (by rw [hv1.1.2.2, hv2.1.2.2]; exact hge))
          rw [hv1.1.2.2, hv2.1.2.2] at HS
          go_wp2_with (first
           | simp only []
           | simp only [t2]
           | (go_at_call 120; (with_reducible refine HC.out.mono ?_); rintro e w3 ⟨rfl, rfl⟩)
           | (go_at_call 121; (with_reducible refine HS.out.mono ?_); rintro e w4 ⟨zs, A4, c4, rfl, hz, hres4, hb4⟩))
          go_roundg (p3 - q4 + q4)
          case measure => omega
          case rel => exact ⟨zs, qs, A4, _, c4, c2, p3 - q4, q4, rfl, rfl, ⟨hz, hres4.rd, Nat.lt_of_le_of_lt (Nat.sub_le _ _) hv1.2.2⟩, hv2.next hb4, Or.inr hq4o, Nat.le_refl _, by show _ = _; rw [Nat.gcd_comm, Nat.gcd_sub_self_right hge, Nat.gcd_comm]; exact HG2.out, hbel.trans (hb4.mono hbel.size)⟩
         ·have t2 : decide (0 ≤ cmpN p3 q4) = false := by unfold cmpN; rw [if_pos (by omega)]; rfl
          have HS := hi9 (rsub_any (some ⟨b2, o2, none⟩) (some ⟨b1, o1, none⟩) c2 c qs ps wr wr.heap.size hv2.2.1 hv1.2.1 nl9 hv2.1.1 hv1.1.1 (by have := hv2.len; omega) (by have := hv1.len; omega) (by rw [hv1.1.2.2, hv2.1.2.2]; omega))
          rw [hv1.1.2.2, hv2.1.2.2] at HS
          go_wp2_with (first
           | simp only []
           | simp only [t2]
           | (go_at_call 120; (with_reducible refine HC.out.mono ?_); rintro e w3 ⟨rfl, rfl⟩)
           | (go_at_call 121; (with_reducible refine HS.out.mono ?_); rintro e w4 ⟨zs, A4, c4, rfl, hz, hres4, hb4⟩))
          go_roundg (p3 + (q4 - p3))
          case measure => omega
          case rel => exact ⟨ps, zs, _, A4, c, c4, p3, q4 - p3, rfl, rfl, hv1.next hb4, ⟨hz, hres4.rd, Nat.lt_of_le_of_lt (Nat.sub_le _ _) hv2.2.2⟩, Or.inl hp3o, Nat.le_refl _, by show _ = _; rw [Nat.gcd_sub_self_right (by omega)]; exact HG2.out, hbel.trans (hb4.mono hbel.size)⟩
end
section
open Go.RowKit
section
variable {w w' : World} {g g2 : Bool} {A A2 : Option Addr} {c c2 K J : Nat} {xs ys : List Nat} {z y : Int}
set_option maxHeartbeats 1600000 in
theorem Zh.rnorm (h : Zh w g A c xs z K) (hK : K ≤ 67108864) :
  Calls Tryz.prog 113 #[.agg #[.bool g, .slice A xs.length c]] w fun e w' => ZOut w w' z e := by
 have N1 : Hid (∀ W (_ : Below w.heap.size w W), Calls Tryz.prog 90 #[.slice A xs.length c] W fun e w' => NOut W w' z.natAbs e) := fun W hW => (h.hv.next hW).rnorm hK
 have hs := h.sg
 have Hs := hi9 hs
 have k0 := bel_two w (.cells #[.bool g, .slice A xs.length c] 25) (.cells #[.bool false, .slice none 0 0] 25)
 have b0 := (Blk.new_ (w := w) (t := 25) (cs := #[.bool g, .slice A xs.length c]) (vs := [.bool g, .slice A xs.length c]) rfl).heapAlloc (.cells #[.bool false, .slice none 0 0] 25)
 have b1 := blk_res1 w (.cells #[.bool g, .slice A xs.length c] 25) (.bool false) (.slice none 0 0)
 clear h hs
 cases g
 ·have e9 : (false : Bool) = isNeg z := by rw [← Hs.out]; rw [isNeg_ival]; rfl
  have E9 := hi9 e9
  clear e9
  go_enter Tryz.func113, Tryz.ntmps113
  go_wp2_with fail
  refine (N1.out _ k0).mono ?_
  rintro e w1 ⟨zs, A', c', rfl, hz, hr, hb⟩
  have hsz := k0.size
  have k1 := bst k0 hb nl9
  replace b0 := b0.below hb b0.lt
  replace b1 := b1.below hb b1.lt
  obtain ⟨p0, p1, p2, p3⟩ := b0.two
  obtain ⟨q0, q1, q2, q3⟩ := b1.two
  go_wp2_with fail
  exact zretF k1 b1 (by omega) hz (hr.mono hsz) nl9 (fun hn a e => by
   obtain ⟨b, rest, e2, hb9, _, _⟩ := hr.2.2 (by intro e3; apply hn; have := u32s_length zs; rw [e3] at this; exact List.eq_nil_of_length_eq_zero this.symm)
   rw [e2] at e; cases e
   have : w.heap.size + 1 + 1 ≤ b := by simpa using hb9
   show b ≠ _; omega) E9.out rfl rfl rfl
 ·go_enter Tryz.func113, Tryz.ntmps113
  go_wp2_with fail
  refine (N1.out _ k0).mono ?_
  rintro e w1 ⟨zs, A', c', rfl, hz, hr, hb⟩
  have e9 : decide (0 < zs.length) = isNeg z := by
   rw [num_pos hz, ← Hs.out, isNeg_ival, Hs.out, Bool.true_and]
  have E9 := hi9 e9
  clear e9
  have hsz := k0.size
  have hl9 := res_len hr
  have k1 := bst k0 hb nl9
  replace b0 := b0.below hb b0.lt
  replace b1 := b1.below hb b1.lt
  obtain ⟨p0, p1, p2, p3⟩ := b0.two
  obtain ⟨q0, q1, q2, q3⟩ := b1.two
  go_wp2_with fail
  exact zretF k1 b1 (by omega) hz (hr.mono hsz) nl9 (fun hn a e => by
   obtain ⟨b, rest, e2, hb9, _, _⟩ := hr.2.2 (by intro e3; apply hn; have := u32s_length zs; rw [e3] at this; exact List.eq_nil_of_length_eq_zero this.symm)
   rw [e2] at e; cases e
   have : w.heap.size + 1 + 1 ≤ b := by simpa using hb9
   show b ≠ _; omega) E9.out rfl rfl rfl
theorem Zh.flip (h : Zh w g A c xs z K) : Zh w (!g) A c xs (-z) K :=
 ⟨⟨h.hv.dig, by rw [Int.natAbs_neg]; exact h.hv.val_, h.hv.rd, h.hv.cap, h.hv.len⟩, by rw [Int.natAbs_neg, ← neg_ival, h.sg]⟩
set_option maxHeartbeats 800000 in
theorem Zh.rneg (h : Zh w g A c xs z K) (hK : K ≤ 67108864) :
  Calls Tryz.prog 86 #[.agg #[.bool g, .slice A xs.length c]] w fun e w' => ZOut w w' (-z) e := by
 have N1 : Hid (∀ W (_ : Below w.heap.size w W), Calls Tryz.prog 113 #[.agg #[.bool (!g), .slice A xs.length c]] W fun e w' => ZOut W w' (-z) e) := fun W hW => (h.next hW).flip.rnorm hK
 have k0 := bel_two w (.cells #[.bool g, .slice A xs.length c] 25) (.cells #[.bool false, .slice none 0 0] 25)
 have b1 := blk_res1 w (.cells #[.bool g, .slice A xs.length c] 25) (.bool false) (.slice none 0 0)
 clear h
 go_enter Tryz.func86, Tryz.ntmps86
 go_wp2_with fail
 refine (N1.out _ k0).mono ?_
 rintro e w1 ⟨zs, A', c', rfl, hz, hr, hb⟩
 have hsz := k0.size
 have k1 := bst k0 hb nl9
 replace b1 := b1.below hb b1.lt
 obtain ⟨q0, q1, q2, q3⟩ := b1.two
 go_wp2_with fail
 exact zretT k1 b1 (by omega) hz (hr.mono hsz) rfl rfl rfl rfl
set_option maxHeartbeats 800000 in
theorem Zh.rgcd (h : Zh w g A c xs z K) (h2 : Zh w g2 A2 c2 ys y J) (hK : K ≤ 67108864) (hJ : J ≤ 67108864) :
  Calls Tryz.prog 109 #[.agg #[.bool g, .slice A xs.length c], .agg #[.bool g2, .slice A2 ys.length c2]] w fun e w' => ZOut w w' (Int.gcd z y : Nat) e := by
 have N1 : Hid (∀ W (_ : Below w.heap.size w W), Calls Tryz.prog 141 #[.slice A xs.length c, .slice A2 ys.length c2] W fun e w' => NOut W w' (Int.gcd z y) e) := fun W hW => by
  have hl1 := h.hv.len
  have hl2 := h2.hv.len
  have h9 := rgcd_any A A2 c c2 xs ys W W.heap.size (h.next hW).hv.rd (h2.next hW).hv.rd nl9 h.hv.dig h2.hv.dig (by omega) (by omega)
  rwa [h.hv.val_, h2.hv.val_] at h9
 have k0 := bel_three w (.cells #[.bool g, .slice A xs.length c] 25) (.cells #[.bool g2, .slice A2 ys.length c2] 25) (.cells #[.bool false, .slice none 0 0] 25)
 have b1 := blk_res2 w (.cells #[.bool g, .slice A xs.length c] 25) (.cells #[.bool g2, .slice A2 ys.length c2] 25) (.bool false) (.slice none 0 0)
 clear h h2
 go_enter Tryz.func109, Tryz.ntmps109
 go_wp2_with fail
 refine (N1.out _ k0).mono ?_
 rintro e w1 ⟨zs, A', c', rfl, hz, hr, hb⟩
 have hsz := k0.size
 have k1 := bst k0 hb nl9
 replace b1 := b1.below hb b1.lt
 obtain ⟨q0, q1, q2, q3⟩ := b1.two
 go_wp2_with fail
 exact zretT (z := (Int.gcd z y : Nat)) k1 b1 (by omega) (num_eq hz (by omega)) (hr.mono hsz) (by unfold isNeg; symm; exact decide_eq_false (by omega)) rfl rfl rfl
set_option maxHeartbeats 800000 in
theorem Zh.rsign (h : Zh w g A c xs z K) (hK : K ≤ 67108864) : Calls Tryz.prog 71 #[.agg #[.bool g, .slice A xs.length c]] w fun e w' => e = .returned (.int .i64 z.sign) ∧ Below w.heap.size w w' := by
 have Z1 : Hid (∀ W (_ : Below w.heap.size w W), Calls Tryz.prog 108 #[.slice A xs.length c] W fun e w' => e = .returned (.bool (decide (z.natAbs = 0))) ∧ W = w') := fun W hW => (h.next hW).hv.rzero hK
 have hs := h.sg
 have hd : decide (z.natAbs = 0) = decide (z = 0) := decide_eq_decide.2 (by omega)
 rw [hd] at Z1
 clear h hd
 have b0 := blk_one w (.bool g) (.slice A xs.length c)
 by_cases h0 : z = 0
 ·rw [decide_eq_true h0] at Z1
  rw [h0, show Int.sign 0 = 0 from rfl]
  clear hs h0
  go_enter Tryz.func71, Tryz.ntmps71
  go_wp2_with fail
  refine (Z1.out _ (bel_one _ _)).mono ?_
  rintro e w1 ⟨rfl, rfl⟩
  go_wp2_with fail
  go_ret
  exact ⟨rfl, bel_one _ _⟩
 ·have h1 := isNeg_ival g z.natAbs
  rw [hs, show decide (0 < z.natAbs) = true from decide_eq_true (by omega), Bool.and_true] at h1
  rw [decide_eq_false h0] at Z1
  cases g
  ·have e1 : z.sign = 1 := Int.sign_eq_one_of_pos (by simp [isNeg] at h1; omega)
   rw [e1]
   clear hs h0 h1 e1
   go_enter Tryz.func71, Tryz.ntmps71
   go_wp2_with fail
   refine (Z1.out _ (bel_one _ _)).mono ?_
   rintro e w1 ⟨rfl, rfl⟩
   go_wp2_with fail
   go_ret
   exact ⟨rfl, bel_one _ _⟩
  ·have e1 : z.sign = -1 := Int.sign_eq_neg_one_of_neg (by simp [isNeg] at h1; omega)
   rw [e1]
   clear hs h0 h1 e1
   go_enter Tryz.func71, Tryz.ntmps71
   go_wp2_with fail
   refine (Z1.out _ (bel_one _ _)).mono ?_
   rintro e w1 ⟨rfl, rfl⟩
   go_wp2_with fail
   go_ret
   exact ⟨rfl, bel_one _ _⟩
end
set_option maxHeartbeats 800000 in
theorem rzof_any (n : Int) (h1 : -9223372036854775808 ≤ n) (h2 : n ≤ 9223372036854775807) (w : World) : Calls Tryz.prog 76 #[.int .i64 n] w fun e w' => ZOut w w' n e := by
 have k0 := bel_one w (.cells #[.bool false, .slice none 0 0] 25)
 have b1 := blk_one w (.bool false) (.slice none 0 0)
 by_cases h0 : 0 ≤ n
 ·obtain ⟨k, rfl⟩ := Int.eq_ofNat_of_zero_le h0
  have N1 := hi9 (rof_out k (by omega))
  clear h0
  go_enter Tryz.func76, Tryz.ntmps76
  go_wp2_with fail
  refine (N1.out _).mono ?_
  rintro e w1 ⟨zs, A', c', rfl, hz, hr, hb⟩
  have hsz := k0.size
  have k1 := bst k0 hb nl9
  replace b1 := b1.below hb b1.lt
  obtain ⟨q0, q1, q2, q3⟩ := b1.two
  go_wp2_with fail
  exact zretT (z := (k : Int)) k1 b1 (by omega) (num_eq hz (by omega)) (hr.mono hsz) (by unfold isNeg; symm; exact decide_eq_false (by omega)) rfl rfl rfl
 ·obtain ⟨k, rfl⟩ : ∃ k : Nat, n = -((k : Int) + 1) := ⟨(-(n + 1)).toNat, by omega⟩
  have hk : k ≤ 9223372036854775807 := by omega
  have N1 := hi9 (rof_out (k + 1) (by omega))
  clear h0 h1 h2
  go_enter Tryz.func76, Tryz.ntmps76
  go_wp2_with fail
  rw [show (-(-((k : Int) + 1) + 1) + 1 : Int) = ((k + 1 : Nat) : Int) from by omega]
  refine (N1.out _).mono ?_
  rintro e w1 ⟨zs, A', c', rfl, hz, hr, hb⟩
  have hsz := k0.size
  have k1 := bst k0 hb nl9
  replace b1 := b1.below hb b1.lt
  obtain ⟨q0, q1, q2, q3⟩ := b1.two
  go_wp2_with fail
  exact zretT (z := -((k : Int) + 1)) k1 b1 (by omega) (num_eq hz (by omega)) (hr.mono hsz) (by unfold isNeg; symm; exact decide_eq_true (by omega)) rfl rfl rfl
end
end Go.Proofs.YtbcphifjcaobfaaGreatDoor
