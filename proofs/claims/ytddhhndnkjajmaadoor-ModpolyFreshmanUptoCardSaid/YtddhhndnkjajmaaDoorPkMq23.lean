/- The contracts of normal, times, negative. Conditions: p above 0 and below 2^32. A drawn region whose head only reads and draws, in whatever order, and whose tail stands in one order: one walk serves. No conditions. The contracts of inverse, scaled, sum, difference. Conditions: p a prime below 2^32; bases reads 2, 7, 61. The contracts of sum and difference. Conditions: p above 0 and below 2^32; both normal. -/
import Derived.Test.YtddhhndnkjajmaaDoorPkMq22
import Derived.Deep.CutBlock
import Derived.RegionTactic
import Derived.WalkMore
import Derived.StillTail
import Derived.StillTailTactics
import Derived.Deep.Quiet
import Derived.Deep.QuietTactic
import Derived.BigQuiet
import Derived.Test.YtddhhndnkjajmaaDoorPkMq21
import Derived.Deep.RegionHeld3
import Derived.IntWalk
namespace Go.Proofs.YtddhhndnkjajmaaDoor
section
open Go.RowKit

set_option maxHeartbeats 1600000 in
theorem fnormal_any (p sp : Nat) (A : Option Addr) (c : Nat) (xs : List Nat) (w : World) (B : Nat) (hp0 : 0 < p) (hp : p < 4294967296) (hr : Rd w B A (u32s xs)) (hB : B ≤ w.heap.size) (hm : xs.length ≤ Big) (hd : ∀ x ∈ xs, x < 4294967296) :
    Calls Tryd.prog 51 #[fieldV p sp, .slice A xs.length c] w (PR1 w (mnP p xs)) := by
  unfold Big at hm
  have hmk := fun W => mkP xs.length (by omega) W
  have t4 : ((p : Int) == 0) = false := by simp; omega
  have hdx : Hid (∀ k (h : k < xs.length), xs[k] < 4294967296) := fun k h => hd _ (List.getElem_mem h)
  have hb0 : Below w.heap.size w (w.alloc (.cells #[.int .u64 (p : Int), .int .u64 (sp : Int)] 77 (0, 0))) := (Below.refl _ _).alloc (Nat.le_refl _) _
  have hra := Lib.hid (hr.below (hb0.mono hB))
  have htr : Hid (∀ W B A c ys, Rd W B A (u32s ys) → ys.length ≤ c → ys.length ≤ 281474976710656 → Calls Tryd.prog 76 #[.slice A ys.length c] W fun e w' => e = .returned (.slice A (trimL ys).length c) ∧ W = w') := fun W B A c ys h1 h2 h3 => trim_any A c ys W B h1 h2 h3
  have E0 : Hid (mnP p xs = trimL (half (· % p) xs xs.length)) := by show _ = _; rw [half_all]; rfl
  obtain ⟨R, hR⟩ : ∃ R, R = PR1 w (mnP p xs) := ⟨_, rfl⟩
  rw [← hR]
  have HR := Lib.hid hR
  clear hd hr hR
  go_enter Tryd.func51, Tryd.ntmps51
  go_wp2_with ((with_reducible refine wpList_copyP (o := ⟨some 13, _, _, _, _, _⟩) rfl _ _ _ _ rfl 24 Tryd.underlying23 ?u1 A (w.heap.size + 1) 0 _ _ _ _ rfl rfl 24 (List.replicate xs.length 0) xs B (w.heap.size + 1) (w.alloc (.cells #[.int .u64 (p : Int), .int .u64 (sp : Int)] 77 (0, 0))) ?c1 ?c2 ?c3 ?c4 ?c5 (Nat.le_refl _) ?_); rotate_right; intro w2 hg2 hb2)
  case u1 => kernel_rfl
  case c1 => exact Blk.new2 (repl_u32 _)
  case c2 => exact hra.out.alloc (by simp; omega) _
  case c3 => simp
  case c4 => simp
  case c5 => exact (Below.refl _ _).alloc (by simp) _
  rw [copy_all _ _ rfl] at hg2
  have f0 := hb2.cell (p := ⟨w.heap.size, 0, none⟩) (by simp)
  have f1 : (w.alloc (.cells #[.int .u64 (p : Int), .int .u64 (sp : Int)] 77 (0, 0))).cell? ⟨w.heap.size, 0, none⟩ = some (.int .u64 (p : Int)) := (Blk.new_ (vs := [.int .u64 (p : Int), .int .u64 (sp : Int)]) rfl).cell 0
  have HF := Lib.hid (f0.trans f1)
  have Hb2 := Lib.hid hb2
  clear f0 f1 hmk hb2
  go_loopw [6, 7, 16] (fun _ _ iv wr => ∃ k : Nat, k ≤ xs.length ∧ iv = .int .i64 (k : Int) ∧ Blk wr (w.heap.size + 1) 24 (u32s (half (· % p) xs k)) ∧ Ch (w.heap.size + 1) w2 wr) (fun _ _ iv _ => xs.length - (intOf iv).toNat)
  case atStart => exact ⟨0, by omega, rfl, by rw [half_zero]; exact hg2, Ch.refl _ _⟩
  case round =>
    clear hg2
    obtain ⟨k, hk, rfl, hblk, hch⟩ := hrel
    have f2 := (hch.below (Nat.le_refl _)).cell (p := ⟨w.heap.size, 0, none⟩) (by simp)
    have f3 := f2.trans HF.out
    clear f2
    by_cases hlt : k < xs.length
    · have hcl := (hblk.cell k).trans (u32s_at (by rw [half_length]; exact hlt))
      rw [half_at hlt] at hcl
      have hfz := hblk.frozen k
      have hx := hdx.out k hlt
      have hset := hblk.set_ k (.int .u32 ((xs[k] % p : Nat) : Int))
      rw [u32s_set, half_set hlt] at hset
      have t5 : (xs[k] : Int) % (p : Int) = ((xs[k] % p : Nat) : Int) := (Int.natCast_emod _ _).symm
      have t6 : xs[k] % p < 4294967296 := by have := Nat.mod_lt xs[k] hp0; omega
      obtain ⟨r, hre⟩ : ∃ r, r = xs[k] % p := ⟨_, rfl⟩
      rw [← hre] at t5 t6 hset
      have Hset := Lib.hid hset
      clear hset hre
      go_wp2
      go_roundw
      case rel => exact ⟨k + 1, by omega, by go_num, Hset.out, hch.setCell _ _⟩
      case measure => simp [intOf]; omega
    · obtain rfl : k = xs.length := by omega
      have HB := Lib.hid hblk
      clear hblk
      go_wp2_with (go_at_call 76; (with_reducible refine (trim_own _ _ _ _ (half_length _ _ _) HB.out (by omega)).mono ?_); rintro _ _ ⟨rfl, rfl⟩)
      rw [HR.out]
      exact PR1.of_trim HB.out (half_length _ _ _) E0.out (by omega) (by omega) (hb0.trans ((Hb2.out.trans (hch.below (Nat.le_refl _))).mono (by omega)))

def timesN (p x y : Nat) : Nat := x * y % p
set_option maxHeartbeats 800000 in
theorem ftimes_any (p sp x y : Nat) (w : World) (hp0 : 0 < p) (hp : p < 4294967296) (hx : x < 4294967296) (hy : y < 4294967296) :
    Calls Tryd.prog 80 #[fieldV p sp, .int .u32 (x : Int), .int .u32 (y : Int)] w fun e w' => e = .returned (.int .u32 ((timesN p x y : Nat) : Int)) ∧ Below w.heap.size w w' := by
  have hyc : x * y ≤ 4294967295 * 4294967295 := Nat.mul_le_mul (by omega) (by omega)
  obtain ⟨m, hm⟩ : ∃ m, m = x * y := ⟨_, rfl⟩
  have hr : timesN p x y = m % p := by unfold timesN; rw [← hm]
  have hrl : timesN p x y < p := Nat.mod_lt _ hp0
  obtain ⟨r, hre⟩ : ∃ r, r = timesN p x y := ⟨_, rfl⟩
  rw [← hre] at hr hrl ⊢
  rw [← hm] at hyc
  have t1 : (x : Int) * (y : Int) = (m : Int) := by rw [hm]; simp
  have t3 : (m : Int) % (p : Int) = (r : Int) := by rw [hr]; simp
  have t4 : ((p : Int) == 0) = false := by simp; omega
  have hsb : m < 18446744073709551616 := by omega
  clear hm hr hre
  go_enter Tryd.func80, Tryd.ntmps80
  go_wp2
  go_ret
  exact ⟨rfl, (Below.refl _ _).alloc (Nat.le_refl _) _⟩

def negN (p x : Nat) : Nat := if x = 0 then 0 else p - x
set_option maxHeartbeats 800000 in
theorem fnegative_any (p sp x : Nat) (w : World) (hp : p < 4294967296) (hx : x < p) :
    Calls Tryd.prog 84 #[fieldV p sp, .int .u32 (x : Int)] w fun e w' => e = .returned (.int .u32 ((negN p x : Nat) : Int)) ∧ Below w.heap.size w w' := by
  by_cases h : x = 0
  · subst h
    go_enter Tryd.func84, Tryd.ntmps84
    go_wp2
    go_ret
    exact ⟨rfl, (Below.refl _ _).alloc (Nat.le_refl _) _⟩
  · have e : negN p x = p - x := by unfold negN; rw [if_neg h]
    rw [e]
    have t1 : ((x : Int) == 0) = false := by simp; omega
    have t2 : (p : Int) - (x : Int) = ((p - x : Nat) : Int) := by omega
    obtain ⟨r, hr⟩ : ∃ r, r = p - x := ⟨_, rfl⟩
    rw [← hr] at t2 ⊢
    have t3 : r < 4294967296 := by omega
    clear e h hr
    go_enter Tryd.func84, Tryd.ntmps84
    go_wp2
    go_ret
    exact ⟨rfl, (Below.refl _ _).alloc (Nat.le_refl _) _⟩
theorem negN_cg {p x : Nat} (h : x < p) : (p : Int) ∣ (negN p x : Int) - -(x : Int) := by
  unfold negN
  split
  · subst x; exact ⟨0, by simp⟩
  · exact ⟨1, by omega⟩
theorem negN_lt {p x : Nat} (h : x < p) : negN p x < p := by unfold negN; split <;> omega
end
section
open Go

/-- Whatever order the head comes up in; L holds behind it. -/
def HeadQ (P : Program) (md : Region.Mode) (ops : Array Oper) (C : World → Prop) (n : Nat) (L : Array Bool → Act → Prop) : Nat → Array Bool → Act → Prop
  | 0, ls, a => L ls a
  | f + 1, ls, a => Region.ready md ops ls ≠ [] ∧ ∀ i ∈ Region.ready md ops ls, i < n ∧ qOp P ops C i (HeadQ P md ops C n L f (ls.setIfInBounds i true)) a

section
variable {P : Program} {md : Region.Mode} {ops : Array Oper} {C : World → Prop} {n : Nat}

theorem HeadQ.any {g : Nat} {L : Array Bool → Act → Prop} {Q : Exit → Act → World → Prop} (hL : ∀ ls a W, C W → L ls a → wpAny P md ops Q g ls a W) :
    ∀ f ls a W, C W → HeadQ P md ops C n L f ls a → wpAny P md ops Q (f + g) ls a W
  | 0, ls, a, W, hW, h => by rw [Nat.zero_add]; exact hL ls a W hW h
  | f + 1, ls, a, W, hW, h => by
    rw [show f + 1 + g = (f + g) + 1 from by omega]
    exact ⟨fun h0 => absurd h0 h.1, fun i hi => wpOp_of_qOp hW (fun a' W' hW' h' => HeadQ.any hL f _ a' W' hW' h') (h.2 i hi).2⟩

theorem HeadQ.first {i : Nat} {o : Oper} {v : Value} {L : Array Bool → Act → Prop} (ho : ops[i]? = some o) (hsel : Region.noSelect ops = true)
    (hs : Region.sinkB md ops n = true) (hc : Region.chainB md ops n = true) (hn : n < ops.size) (hin : i < n) (hend : ∀ ls a, L ls a → ∀ j ∈ Region.ready md ops ls, n ≤ j) :
    ∀ f ls a, HeadInv md ops n ls → (∀ j oj, ops[j]? = some oj → j ≠ i → ls.getD j true = false → (∀ e ∈ oj.after, Region.binds md e = true → e.on ≠ i) → o.apart ops oj = true) →
      i ∈ Region.ready md ops ls → YieldsIn P ops C o v a → HeadQ P md ops C n L f (ls.setIfInBounds i true) (a.put o.dst v) → HeadQ P md ops C n L (f + 1) ls a := by
  intro f
  induction f with
  | zero =>
    intro ls a inv _ hr hy H
    have hun := (mem_ready.1 hr).1
    refine ⟨fun h => (by rw [h] at hr; cases hr), fun j hj => ?_⟩
    have hjn : j < n := (Nat.lt_or_ge j n).resolve_right fun h => absurd hj (tail_waits hs hc hn inv _ i rfl hin hun j h)
    refine ⟨hjn, ?_⟩
    by_cases hji : j = i
    · subst hji; exact hy.qOp ho H
    · exact absurd (hend _ _ H j (ready_mono hj hji)) (by omega)
  | succ f ih =>
    intro ls a inv hfree hr hy H
    have hun := (mem_ready.1 hr).1
    refine ⟨fun h => (by rw [h] at hr; cases hr), fun j hj => ?_⟩
    have hjn : j < n := (Nat.lt_or_ge j n).resolve_right fun h => absurd hj (tail_waits hs hc hn inv _ i rfl hin hun j h)
    refine ⟨hjn, ?_⟩
    by_cases hji : j = i
    · subst hji; exact hy.qOp ho H
    · have h1 := (H.2 j (ready_mono hj hji)).2
      obtain ⟨hjun, oj, hoj, hall⟩ := mem_ready.1 hj
      have hno : ∀ e ∈ oj.after, Region.binds md e = true → e.on ≠ i := fun e he hb heq => by
        have h2 := hall e he hb
        rw [heq, getD_both hun] at h2
        cases h2
      have h2 := qOp_put hoj (hfree j oj hoj hji hjun hno) (fun cs b => Region.noSelect_spec hsel i o cs b ho) (fun cs b => Region.noSelect_spec hsel j oj cs b hoj) hy h1
      refine qOp_mono (fun a' h3 => ih (ls.setIfInBounds j true) a' (inv.set hj hjn) (fun k ok hk hki hku hkn => hfree k ok hk hki ?_ hkn) (ready_mono hr (Ne.symm hji)) h3.1 ?_) h2
      · by_cases hjk : j = k
        · subst hjk; exact hjun
        · rw [getD_set_ne true hjk] at hku; exact hku
      · rw [Array.setIfInBounds_comm _ _ hji]; exact h3.2

theorem HeadQ.lex {g : Nat} {Lq : Act → Prop} (hsel : Region.noSelect ops = true) (hs : Region.sinkB md ops n = true) (hc : Region.chainB md ops n = true) (hn : n < ops.size) :
    ∀ (l : List Oper) k ls a, (∀ j, j < l.length → l[j]? = ops[k + j]?) → k + l.length = n → HeadInv md ops n ls → Region.lexHead md ops g l.length k ls = true → wpQuiet P ops C Lq l a →
      HeadQ P md ops C n (fun ls' a' => Region.seqB md ops g n ls' = true ∧ Lq a') l.length ls a
  | [], k, ls, a, _, hk, _, hB, h => by
    obtain rfl : k = n := by simpa using hk
    exact ⟨by simpa [Region.lexHead] using hB, h⟩
  | o :: l, k, ls, a, hl, hk, inv, hB, h => by
    have h0 : ops[k]? = some o := by simpa using (hl 0 (by simp)).symm
    simp only [List.length_cons, Region.lexHead, Bool.and_eq_true] at hB
    obtain ⟨⟨hr, hf⟩, hB'⟩ := hB
    have hkn : k < n := by simp only [List.length_cons] at hk; omega
    have hr' : k ∈ Region.ready md ops ls := by simpa using hr
    have hq : qOp P ops C k (wpQuiet P ops C Lq l) a := by unfold qOp; simp only [h0]; exact h
    obtain ⟨v, hy, hK⟩ := yieldsIn_of_qOp h0 hq
    refine HeadQ.first h0 hsel hs hc hn hkn (fun ls' a' hL => seqB_ready hL.1) l.length ls a inv (Region.free_spec h0 hf) hr' hy ?_
    exact HeadQ.lex hsel hs hc hn l (k + 1) _ _ (fun j hj => by have := hl (j + 1) (by simp; omega); simpa [Nat.add_assoc, Nat.add_comm 1 j] using this) (by simp only [List.length_cons] at hk; omega) (inv.set hr' hkn) hB' hK
end

/-- The class of worlds is any: each operation of the head is quiet in it; the tail is walked from any world of it. -/
theorem region_class_tail {P : Program} {C : World → Prop} {id : Nat} {Q : Exit → Act → World → Prop} {a : Act} {w : World} {l : List Oper} (n : Nat) (hm : P.follows .mixedOrders = true) (hB : Region.lexTailB .any l.toArray n = true) (hC : C (w.drewN 1))
    (h : wpQuiet P l.toArray C (fun a' => ∀ w', C w' → wpList P l.toArray Q (l.drop n) a' w') (l.take n) a) : (Code.region id l.toArray true).wp P Q a w := by
  simp only [Region.lexTailB, Bool.and_eq_true, decide_eq_true_eq] at hB
  obtain ⟨⟨⟨⟨hsel, hn⟩, hs⟩, hc⟩, hlex⟩ := hB
  have hn' : n < l.length := by simpa using hn
  have htl : (l.take n).length = n := by rw [List.length_take]; omega
  have hdl : (l.drop n).length = l.toArray.size - n := by simp
  have inv0 : HeadInv .any l.toArray n (Array.replicate l.toArray.size false) :=
    ⟨by simp, fun j oj _ hl => (by rw [getD_replicate_false] at hl; cases hl), fun t _ ht => getD_in (by simpa using ht) (getD_replicate_false _ _)⟩
  have H := HeadQ.lex (md := .any) (g := l.toArray.size - n) hsel hs hc hn (l.take n) 0 _ a (fun j hj => by
    have hj' : j < n := by rw [htl] at hj; exact hj
    simp [hj']) (by simpa using htl) inv0 (by rw [htl]; exact hlex) h
  refine wp_region_any hm ?_
  have hfin := HeadQ.any (Q := Q) (g := l.toArray.size - n) (fun ls a' W hW hL => by
    have h1 := wpAny_of_seq (md := .any) (Q' := Q) (l.drop n) n ls a' W (fun j => by simp [List.getElem?_drop]) (by rw [hdl]; exact hL.1) (hL.2 W hW)
    rwa [hdl] at h1) _ _ _ (w.drewN 1) hC H
  rw [htl, show n + (l.toArray.size - n) = l.toArray.size from by omega] at hfin
  exact hfin

/-- At the class 'some draws behind w'. -/
theorem region_quiet_tail {P : Program} {id : Nat} {Q : Exit → Act → World → Prop} {a : Act} {w : World} {l : List Oper} (n : Nat) (hm : P.follows .mixedOrders = true) (hB : Region.lexTailB .any l.toArray n = true)
    (h : wpQuiet P l.toArray (fun w' => ∃ n, w' = w.drewN n) (fun a' => ∀ w', (∃ n, w' = w.drewN n) → wpList P l.toArray Q (l.drop n) a' w') (l.take n) a) : (Code.region id l.toArray true).wp P Q a w :=
  region_class_tail n hm hB ⟨1, rfl⟩ h
end
section
open Go.RowKit

def invN (p x : Nat) : Nat := x ^ (p - 2) % p
theorem invN_lt {p : Nat} (hp : 0 < p) (x : Nat) : invN p x < p := Nat.mod_lt _ hp
theorem Bases.lt {w : World} (h : Bases w) : 0 < w.heap.size := by
  have h1 := h.1
  rcases Nat.lt_or_ge 0 w.heap.size with hlt | hge
  · exact hlt
  · simp [World.cell?, Array.getElem?_eq_none hge] at h1
theorem Bases.below {w w' : World} (h : Bases w) {B : Nat} (hb : Below B w w') (hB : 0 < B) : Bases w' :=
  ⟨(hb.cell (p := ⟨_, 0, none⟩) hB).trans h.1, (hb.cell (p := ⟨_, 1, none⟩) hB).trans h.2.1, (hb.cell (p := ⟨_, 2, none⟩) hB).trans h.2.2⟩
theorem Bases.later {w w' : World} (h : Bases w) (hb : Below w.heap.size w w') : Bases w' := h.below hb h.lt

set_option maxHeartbeats 800000 in
theorem finv_any (p sp x : Nat) (w : World) (hpr : Pr p) (hp : p < 4294967296) (hw : Bases w) (h0 : x % p ≠ 0) :
    Calls Tryd.prog 77 #[fieldV p sp, .int .u32 (x : Int)] w fun e w' => e = .returned (.int .u32 (invN p x : Int)) ∧ Below w.heap.size w w' := by
  have H := Lib.hid (fun W hW => pinv_yes x p hpr hp h0 W hW)
  have Hw : Hid (∀ o, Bases (w.alloc o)) := fun o => hw.later ((Below.refl w.heap.size w).alloc (Nat.le_refl _) o)
  clear hw hpr h0
  unfold invN
  obtain ⟨v, hv⟩ : ∃ v, v = x ^ (p - 2) % p := ⟨_, rfl⟩
  simp only [← hv] at H ⊢
  clear hv
  go_enter Tryd.func77, Tryd.ntmps77
  go_wp2_with fail
  refine (H.out _ (Hw.out _)).mono ?_
  rintro _ _ ⟨rfl, rfl⟩
  go_wp2
  go_ret
  exact ⟨rfl, (Below.refl _ _).alloc (Nat.le_refl _) _⟩

/-- A call hands back the normal form of z, and nothing else. -/
def PS (p : Nat) (w : World) (z : Z) (e : Ending) (w' : World) : Prop := ∃ r, PR1 w r e w' ∧ Nf p r ∧ Cg p (zo r) z
theorem PS.mk {p : Nat} {w w' : World} {z : Z} {g n : Nat} {ys : List Nat} (hb : Blk w' g 24 (u32s ys)) (hy : ys.length = n) (hg : w.heap.size ≤ g) (hm : n ≤ 281474976710656) (hw : Below w.heap.size w w') (hd : ∀ x ∈ ys, x < p) (hz : Cg p (zo ys) z) :
    PS p w z (.returned (.slice (some ⟨g, 0, none⟩) (trimL ys).length n)) w' :=
  ⟨trimL ys, PR1.of_trim hb hy rfl hg hm hw, Nf.trim hd, (Cg.trim ys).trans hz⟩

set_option maxHeartbeats 1600000 in
theorem scaled_any (p sp : Nat) (A : Option Addr) (cp c : Nat) (xs : List Nat) (w : World) (B : Nat) (hp0 : 0 < p) (hp : p < 4294967296) (hr : Rd w B A (u32s xs)) (hB : B ≤ w.heap.size) (hm : xs.length ≤ Big) (hd : ∀ x ∈ xs, x < 4294967296) (hc : c < 4294967296) :
    Calls Tryd.prog 60 #[fieldV p sp, .slice A xs.length cp, .int .u32 (c : Int)] w (PS p w (zo xs * .c c)) := by
  unfold Big at hm
  have hmk := fun W => mkP xs.length (by omega) W
  have hdx : Hid (∀ k (h : k < xs.length), xs[k] < 4294967296) := fun k h => hd _ (List.getElem_mem h)
  obtain ⟨W1, hW1⟩ : ∃ W1, W1 = w.alloc (.cells #[.int .u64 (p : Int), .int .u64 (sp : Int)] 77 (0, 0)) := ⟨_, rfl⟩
  have hb0 : Below w.heap.size w W1 := by rw [hW1]; exact (Below.refl _ _).alloc (Nat.le_refl _) _
  have hra := hr.below (hb0.mono hB)
  have HT : Hid (∀ W (x : Nat), x < 4294967296 → Calls Tryd.prog 80 #[fieldV p sp, .int .u32 (x : Int), .int .u32 (c : Int)] W fun e w' => e = .returned (.int .u32 ((timesN p x c : Nat) : Int)) ∧ Below W.heap.size W w') := fun W x hx => ftimes_any p sp x c W hp0 hp hx hc
  obtain ⟨R, hR⟩ : ∃ R, R = PS p w (zo xs * .c c) := ⟨_, rfl⟩
  rw [← hR]
  have HR := Lib.hid hR
  have hbf : Blk W1 w.heap.size 77 [.int .u64 (p : Int), .int .u64 (sp : Int)] := by rw [hW1]; exact Blk.new_ rfl
  have hs1 : W1.heap.size = w.heap.size + 1 := by rw [hW1]; simp
  have HF0 := Lib.hid (hbf.cell 0)
  have HF1 := Lib.hid (hbf.cell 1)
  have Hra := Lib.hid hra
  clear hd hr hR hbf hra
  go_enter Tryd.func60, Tryd.ntmps60
  go_wp2
  rw [← hW1]
  have HW1 := Lib.hid hW1
  have Hs1 := Lib.hid hs1
  clear hW1 hmk hs1
  have E0 : Hid (∀ k (h : k < xs.length), timesN p (xs.getD k 0) c = timesN p xs[k] c) := fun k h => by rw [List.getD_eq_getElem?_getD, List.getElem?_eq_getElem h]; rfl
  go_loopw [8, 9, 15] (fun _ _ iv wr => ∃ k : Nat, k ≤ xs.length ∧ iv = .int .i64 (k : Int) ∧ Blk wr (w.heap.size + 1) 24 (u32s (fill (fun i => timesN p (xs.getD i 0) c) xs.length k)) ∧ Below (w.heap.size + 1) W1 wr ∧ w.heap.size + 1 < wr.heap.size) (fun _ _ iv _ => xs.length - (intOf iv).toNat)
  case atStart =>
    refine ⟨0, by omega, rfl, ?_, (Below.refl _ _).alloc (by rw [Hs1.out]; omega) _, by simp [Hs1.out]⟩
    rw [fill_zero]
    have := Blk.new_ (w := W1) (t := 24) (repl_u32 xs.length)
    rwa [Hs1.out] at this
  case round =>
    obtain ⟨k, hk, rfl, hblk, hbel, hsz⟩ := hrel
    have f0 := (hbel.cell (p := ⟨w.heap.size, 0, none⟩) (by simp)).trans HF0.out
    have f1 := (hbel.cell (p := ⟨w.heap.size, 1, none⟩) (by simp)).trans HF1.out
    by_cases hlt : k < xs.length
    · obtain ⟨b, off, rfl, hb, hcl⟩ := (Hra.out.below (hbel.mono (by omega))).at32 hlt
      have hx := hdx.out k hlt
      have hc0 := fill_cell hblk hlt
      have hfz := hblk.frozen k
      have hset := fill_set (g := fun i => timesN p (xs.getD i 0) c) hlt
      simp only [E0.out k hlt] at hset
      have Hset := Lib.hid hset
      clear hset
      obtain ⟨y, hy⟩ : ∃ y, y = timesN p xs[k] c := ⟨_, rfl⟩
      have HTk : Hid (∀ W, Calls Tryd.prog 80 #[fieldV p sp, .int .u32 (xs[k] : Int), .int .u32 (c : Int)] W fun e w' => e = .returned (.int .u32 (y : Int)) ∧ Below W.heap.size W w') := by rw [hy]; exact fun W => HT.out W _ hx
      rw [← hy] at Hset
      have HB := Lib.hid hblk
      clear hy
      go_wp2_with (go_at_call 80; (with_reducible refine (HTk.out _).mono ?_); rintro _ w3 ⟨rfl, hq⟩; have q0 := (hq.cell (p := ⟨w.heap.size + 1, k, none⟩) hsz).trans hc0; have q1 := (hq.frozen (p := ⟨w.heap.size + 1, k, none⟩) hsz).trans hfz)
      go_roundw
      case rel =>
        have h8 := (HB.out.below hq hsz).set_ k (.int .u32 (y : Int))
        rw [u32s_set, Hset.out] at h8
        exact ⟨k + 1, by omega, by go_num, h8, (hbel.trans (hq.mono (by omega))).setCell (p := ⟨w.heap.size + 1, k, none⟩) (Nat.le_refl _) _, by have := hq.size; simp; omega⟩
      case measure => simp [intOf]; omega
    · obtain rfl : k = xs.length := by omega
      have HB := Lib.hid hblk
      clear hblk
      go_wp2_with (go_at_call 76; (with_reducible refine (trim_own _ _ _ _ (fill_length (Nat.le_refl _)) HB.out (by omega)).mono ?_); rintro _ _ ⟨rfl, rfl⟩)
      rw [HR.out]
      have h9 := HB.out
      refine PS.mk h9 (fill_length (Nat.le_refl _)) (by omega) (by omega) (hb0.trans (hbel.mono (by omega))) (fun x hx => ?_) ?_
      · rw [fill_all] at hx
        obtain ⟨i, _, rfl⟩ := List.mem_map.1 hx
        exact Nat.mod_lt _ hp0
      · rw [fill_all]
        refine (Cg.of_co (b := sclI c (zi xs)) fun i => ?_).trans (Cg.of_eq fun x => by rw [Z.v_mul, Z.v_c]; show ev (sclI _ _) x = _; rw [ev_sclI, Int.mul_comm]; rfl)
        rw [zi_getD, fill_getD, getD_sclI, zi_getD]
        split
        · show (p : Int) ∣ ((xs.getD i 0 * c % p : Nat) : Int) - (c : Int) * ((xs.getD i 0 : Nat) : Int)
          generalize xs.getD i 0 = y
          have := mod_dvd (y * c) p
          rwa [Int.natCast_mul, Int.mul_comm (y : Int)] at this
        · rename_i h
          rw [getD_nat (by omega)]; simp
end
section
open Go.RowKit

/-! A row of which the first k are joined with another's. -/
def half2 (f : Nat → Nat → Nat) (xs ys : List Nat) (k : Nat) : List Nat := (List.zipWith f xs ys).take k ++ xs.drop k
theorem half2_length {f : Nat → Nat → Nat} {xs ys : List Nat} {k : Nat} (h : ys.length ≤ xs.length) (hk : k ≤ ys.length) : (half2 f xs ys k).length = xs.length := by unfold half2; simp; omega
theorem half2_zero (f : Nat → Nat → Nat) (xs ys : List Nat) : half2 f xs ys 0 = xs := by simp [half2]
theorem half2_at {f : Nat → Nat → Nat} {xs ys : List Nat} {k : Nat} (hl : ys.length ≤ xs.length) (h : k < ys.length) : (half2 f xs ys k)[k]'(by rw [half2_length hl (by omega)]; omega) = xs[k] := by
  unfold half2
  rw [List.getElem_append_right (by simp; omega)]
  simp [Nat.min_eq_left (Nat.le_of_lt h), Nat.min_eq_right hl]
theorem half2_set {f : Nat → Nat → Nat} {xs ys : List Nat} {k : Nat} (hl : ys.length ≤ xs.length) (h : k < ys.length) : (half2 f xs ys k).set k (f xs[k] ys[k]) = half2 f xs ys (k + 1) := by
  unfold half2
  have h0 : k - ((List.zipWith f xs ys).take k).length = 0 := by simp; omega
  rw [List.set_append_right _ _ (by simp; omega), h0, List.drop_eq_getElem_cons (show k < xs.length by omega), List.set_cons_zero, List.take_succ_eq_append_getElem (show k < (List.zipWith f xs ys).length by simp; omega), List.append_assoc]
  simp
theorem half2_getD (f : Nat → Nat → Nat) (xs ys : List Nat) (hl : ys.length ≤ xs.length) (i : Nat) : (half2 f xs ys ys.length).getD i 0 = if i < ys.length then f (xs.getD i 0) (ys.getD i 0) else xs.getD i 0 := by
  unfold half2
  simp only [List.getD_eq_getElem?_getD]
  split
  · rename_i h
    rw [List.getElem?_append_left (by simp; omega), List.getElem?_take_of_lt h, List.getElem?_zipWith, List.getElem?_eq_getElem (show i < xs.length by omega), List.getElem?_eq_getElem h]
    rfl
  · rename_i h
    rw [List.getElem?_append_right (by simp; omega), List.getElem?_drop]
    congr 2
    simp; omega
def plusN (p x y : Nat) : Nat := (x + y) % p
theorem half2_lt {p : Nat} {xs ys : List Nat} (hp : 0 < p) (hx : ∀ x ∈ xs, x < p) (k : Nat) : ∀ x ∈ half2 (plusN p) xs ys k, x < p := fun x h => by
  rcases List.mem_append.1 h with h | h
  · obtain ⟨i, hi, rfl⟩ := List.mem_iff_getElem.1 (List.mem_of_mem_take h)
    rw [List.getElem_zipWith]; exact Nat.mod_lt _ hp
  · exact hx x (List.mem_of_mem_drop h)
theorem half2_cg {p : Nat} {xs ys : List Nat} (hl : ys.length ≤ xs.length) : Cg p (zo (half2 (plusN p) xs ys ys.length)) (zo xs + zo ys) := Cg.of_co (b := addI (zi xs) (zi ys)) fun i => by
  rw [zi_getD, getD_addI, zi_getD, zi_getD, half2_getD _ _ _ hl]
  split
  · show (p : Int) ∣ (((xs.getD i 0 + ys.getD i 0) % p : Nat) : Int) - _
    have := mod_dvd (xs.getD i 0 + ys.getD i 0) p
    rwa [Int.natCast_add] at this
  · rename_i h
    rw [getD_nat (a := ys) (by omega)]
    exact ⟨0, by simp⟩

set_option maxHeartbeats 3200000 in
theorem fsum_ge (p sp : Nat) (A1 A2 : Option Addr) (c1 c2 : Nat) (xs ys : List Nat) (w : World) (B : Nat) (hp0 : 0 < p) (hp : p < 4294967296) (hr1 : Rd w B A1 (u32s xs)) (hr2 : Rd w B A2 (u32s ys)) (hB : B ≤ w.heap.size) (hm : xs.length ≤ Big) (d1 : ∀ x ∈ xs, x < p) (d2 : ∀ x ∈ ys, x < p) (args : Array Value)
    (hl : ys.length ≤ xs.length) (ha : (args = #[fieldV p sp, .slice A1 xs.length c1, .slice A2 ys.length c2]) ∨ (args = #[fieldV p sp, .slice A2 ys.length c2, .slice A1 xs.length c1] ∧ ys.length < xs.length)) :
    Calls Tryd.prog 53 args w (PS p w (zo xs + zo ys)) := by
  unfold Big at hm
  have hmk := fun W => mkP xs.length (by omega) W
  have t4 : ((p : Int) == 0) = false := by simp; omega
  have hdx : Hid (∀ k (h : k < xs.length), xs[k] < p) := fun k h => d1 _ (List.getElem_mem h)
  have hdy : Hid (∀ k (h : k < ys.length), ys[k] < p) := fun k h => d2 _ (List.getElem_mem h)
  obtain ⟨W1, hW1⟩ : ∃ W1, W1 = w.alloc (.cells #[.int .u64 (p : Int), .int .u64 (sp : Int)] 77 (0, 0)) := ⟨_, rfl⟩
  have hb0 : Below w.heap.size w W1 := by rw [hW1]; exact (Below.refl _ _).alloc (Nat.le_refl _) _
  have Hr1 := Lib.hid (hr1.below (hb0.mono hB))
  have Hr2 := Lib.hid (hr2.below (hb0.mono hB))
  have HD := Lib.hid (half2_lt (ys := ys) hp0 d1 ys.length)
  obtain ⟨R, hR⟩ : ∃ R, R = PS p w (zo xs + zo ys) := ⟨_, rfl⟩
  rw [← hR]
  have HR := Lib.hid hR
  have hbf : Blk W1 w.heap.size 77 [.int .u64 (p : Int), .int .u64 (sp : Int)] := by rw [hW1]; exact Blk.new_ rfl
  have hs1 : W1.heap.size = w.heap.size + 1 := by rw [hW1]; simp
  have HF0 := Lib.hid (hbf.cell 0)
  have Hl := Lib.hid hl
  have T0 : decide (xs.length < ys.length) = false := by simp; omega
  clear hR hbf hr1 hr2 d1 d2
  rcases ha with rfl | ⟨rfl, hlt0⟩
  all_goals
    go_enter Tryd.func53, Tryd.ntmps53
    go_wp2_with ((with_reducible refine wpList_copyP (o := ⟨some 22, _, _, _, _, _⟩) rfl _ _ _ _ rfl 24 Tryd.underlying23 ?u1 A1 (w.heap.size + 1) 0 _ _ _ _ rfl rfl 24 (List.replicate xs.length 0) xs B (w.heap.size + 1) W1 ?c1 ?c2 ?c3 ?c4 ?c5 (Nat.le_refl _) ?_); rotate_right; intro w2 hg2 hb2)
    case u1 => kernel_rfl
    case c1 => exact Blk.new2 (repl_u32 _)
    case c2 => rw [← hW1]; exact Hr1.out.alloc (by omega) _
    case c3 => simp
    case c4 => simp
    case c5 => rw [← hW1]; exact (Below.refl _ _).alloc (by omega) _
    rw [copy_all _ _ rfl] at hg2
    have HF := Lib.hid ((hb2.cell (p := ⟨w.heap.size, 0, none⟩) (by simp)).trans HF0.out)
    have Hb2 := Lib.hid hb2
    have Hr3 := Lib.hid (Hr2.out.below (hb2.mono (by omega)))
    clear hmk hb2
    go_loopw [8, 9, 25] (fun _ _ iv wr => ∃ k : Nat, k ≤ ys.length ∧ iv = .int .i64 (k : Int) ∧ Blk wr (w.heap.size + 1) 24 (u32s (half2 (plusN p) xs ys k)) ∧ Ch (w.heap.size + 1) w2 wr) (fun _ _ iv _ => ys.length - (intOf iv).toNat)
    case atStart => exact ⟨0, by omega, rfl, by rw [half2_zero]; exact hg2, Ch.refl _ _⟩
    case round =>
      clear hg2
      obtain ⟨k, hk, rfl, hblk, hch⟩ := hrel
      have f3 := ((hch.below (Nat.le_refl _)).cell (p := ⟨w.heap.size, 0, none⟩) (by simp)).trans HF.out
      by_cases hlt : k < ys.length
      · have hltx : k < xs.length := by have := Hl.out; omega
        obtain ⟨b, off, rfl, hb, hcy⟩ := (Hr3.out.below (hch.below (by omega))).at32 hlt
        have hcl := (hblk.cell k).trans (u32s_at (by rw [half2_length Hl.out (by omega)]; exact hltx))
        rw [half2_at Hl.out hlt] at hcl
        have hfz := hblk.frozen k
        have hx := hdx.out k hltx
        have hy := hdy.out k hlt
        have hset := hblk.set_ k (.int .u32 ((plusN p xs[k] ys[k] : Nat) : Int))
        rw [u32s_set, half2_set Hl.out hlt] at hset
        obtain ⟨r, hre⟩ : ∃ r, r = plusN p xs[k] ys[k] := ⟨_, rfl⟩
        have hrp : r < p := by rw [hre]; exact Nat.mod_lt _ hp0
        have t5 : (((xs[k] + ys[k] : Nat) : Int)) % (p : Int) = (r : Int) := by rw [hre]; exact (Int.natCast_emod _ _).symm
        rw [← hre] at hset
        have hblk' := hblk
        have HB := Lib.hid hblk
        obtain ⟨x, hxe⟩ : ∃ x, x = xs[k] := ⟨_, rfl⟩
        obtain ⟨y, hye⟩ : ∃ y, y = ys[k] := ⟨_, rfl⟩
        rw [← hxe] at hx hcl t5
        rw [← hye] at hy hcy t5
        obtain ⟨s, hs⟩ : ∃ s, s = x + y := ⟨_, rfl⟩
        rw [← hs] at t5
        have t6 : (x : Int) + (y : Int) = (s : Int) := by omega
        have hs2 : s < 8589934592 := by omega
        have Hset := Lib.hid hset
        clear hset hre hxe hye hs hblk hblk'
        go_upto_region 8 with (fail)
        have q1 := w64 (n := x) (by omega)
        have q2 := w64 (n := y) (by omega)
        have q3 := w64 (n := s) (by omega)
        have q4 : (s : Int).tmod (p : Int) = (r : Int) := by rw [Int.tmod_eq_emod_of_nonneg (by omega)]; exact t5
        have q5 := w64 (n := r) (by omega)
        have q6 := w32 (n := r) (by omega)
        have q7 : p ≠ 0 := by omega
        refine region_quiet_tail 15 (by kernel_rfl) (by kernel_rfl) ?_
        simp only [List.take_succ_cons, List.take_zero, List.drop_succ_cons, List.drop_zero]
        repeat (quiet_step (fail))
        refine wpQuiet_nil ?_
        rintro _ ⟨nq, rfl⟩
        clear q1 q2 q3 q4 q5 q6 q7
        go_wp2_with fail
        go_roundw
        case rel => exact ⟨k + 1, by omega, by go_num, Hset.out, (hch.drewN nq).setCell _ _⟩
        case measure => simp [intOf]; omega
      · obtain rfl : k = ys.length := by omega
        have HB := Lib.hid hblk
        clear hblk
        go_wp2_with (go_at_call 76; (with_reducible refine (trim_own _ _ _ _ (half2_length Hl.out (Nat.le_refl _)) HB.out (by omega)).mono ?_); rintro _ _ ⟨rfl, rfl⟩)
        rw [HR.out]
        exact PS.mk HB.out (half2_length Hl.out (Nat.le_refl _)) (by omega) (by omega) (hb0.trans ((Hb2.out.trans (hch.below (Nat.le_refl _))).mono (by omega))) HD.out (half2_cg Hl.out)

theorem PS.cg {p : Nat} {w w' : World} {z z' : Z} {e : Ending} (h : PS p w z e w') (hz : Cg p z z') : PS p w z' e w' := by
  obtain ⟨r, h1, h2, h3⟩ := h
  exact ⟨r, h1, h2, h3.trans hz⟩
theorem fsum_any (p sp : Nat) (A1 A2 : Option Addr) (c1 c2 : Nat) (xs ys : List Nat) (w : World) (B : Nat) (hp0 : 0 < p) (hp : p < 4294967296) (hr1 : Rd w B A1 (u32s xs)) (hr2 : Rd w B A2 (u32s ys)) (hB : B ≤ w.heap.size) (hm1 : xs.length ≤ Big) (hm2 : ys.length ≤ Big) (d1 : ∀ x ∈ xs, x < p) (d2 : ∀ x ∈ ys, x < p) :
    Calls Tryd.prog 53 #[fieldV p sp, .slice A1 xs.length c1, .slice A2 ys.length c2] w (PS p w (zo xs + zo ys)) := by
  by_cases h : ys.length ≤ xs.length
  · exact fsum_ge p sp A1 A2 c1 c2 xs ys w B hp0 hp hr1 hr2 hB hm1 d1 d2 _ h (Or.inl rfl)
  · exact (fsum_ge p sp A2 A1 c2 c1 ys xs w B hp0 hp hr2 hr1 hB hm2 d2 d1 _ (by omega) (Or.inr ⟨rfl, by omega⟩)).mono fun _ _ h => h.cg (Cg.of_eq fun x => by rw [Z.v_add, Z.v_add]; omega)

theorem minus_one (p : Nat) (hp0 : 0 < p) (a b : Z) : Cg p (a + b * .c ((p - 1 : Nat) : Int)) (a - b) :=
  ⟨b, fun x => by rw [Z.v_add, Z.v_mul, Z.v_sub, Z.v_c, Int.natCast_sub (by omega)]; grind⟩
theorem len_of_cg {p : Nat} {r xs : List Nat} {c : Int} (hp : 0 < p) (hr : Nf p r) (h : Cg p (zo r) (zo xs * .c c)) : r.length ≤ xs.length := hr.len_le hp h fun i hi => by
  have : (zo xs * Z.c c).co i = 0 := by
    rw [Z.co_of_v (b := ⟨sclI c (zi xs)⟩) (fun x => by rw [Z.v_mul, Z.v_c, Int.mul_comm]; exact (ev_sclI _ _ _).symm)]
    show (sclI c (zi xs)).getD i 0 = 0
    rw [getD_sclI, zi_getD, getD_nat hi]; simp
  rw [this]; exact Int.dvd_zero _

set_option maxHeartbeats 3200000 in
theorem fdiff_any (p sp : Nat) (A1 A2 : Option Addr) (c1 c2 : Nat) (xs ys : List Nat) (w : World) (B : Nat) (hp0 : 0 < p) (hp : p < 4294967296) (hr1 : Rd w B A1 (u32s xs)) (hr2 : Rd w B A2 (u32s ys)) (hB : B ≤ w.heap.size) (hm1 : xs.length ≤ Big) (hm2 : ys.length ≤ Big) (d1 : ∀ x ∈ xs, x < p) (d2 : ∀ x ∈ ys, x < p) :
    Calls Tryd.prog 54 #[fieldV p sp, .slice A1 xs.length c1, .slice A2 ys.length c2] w (PS p w (zo xs - zo ys)) := by
  obtain ⟨W1, hW1⟩ : ∃ W1, W1 = w.alloc (.cells #[.int .u64 (p : Int), .int .u64 (sp : Int)] 77 (0, 0)) := ⟨_, rfl⟩
  have hb0 : Below w.heap.size w W1 := by rw [hW1]; exact (Below.refl _ _).alloc (Nat.le_refl _) _
  have hs1 : W1.heap.size = w.heap.size + 1 := by rw [hW1]; simp
  have HS : Hid (∀ W, Below W1.heap.size W1 W → Calls Tryd.prog 60 #[fieldV p sp, .slice A2 ys.length c2, .int .u32 ((p - 1 : Nat) : Int)] W (PS p W (zo ys * .c ((p - 1 : Nat) : Int)))) := fun W hW =>
    scaled_any p sp A2 c2 (p - 1) ys W B hp0 hp (hr2.below ((hb0.trans (hW.mono hb0.size)).mono hB)) (Nat.le_trans hB (Nat.le_trans hb0.size hW.size)) hm2 (fun x hx => by have := d2 x hx; omega) (by omega)
  have HA : Hid (∀ W A c r, Below W1.heap.size W1 W → Nf p r → Cg p (zo r) (zo ys * .c ((p - 1 : Nat) : Int)) → Rd W W.heap.size A (u32s r) → Calls Tryd.prog 53 #[fieldV p sp, .slice A1 xs.length c1, .slice A r.length c] W (PS p W (zo xs - zo ys))) := fun W A c r hW hn hc hr =>
    (fsum_any p sp A1 A c1 c xs r W W.heap.size hp0 hp ((hr1.below ((hb0.trans (hW.mono hb0.size)).mono hB)).mono (Nat.le_trans hB (Nat.le_trans hb0.size hW.size))) hr (Nat.le_refl _) hm1 (Nat.le_trans (len_of_cg hp0 hn hc) hm2) d1 hn.1).mono fun _ _ h => h.cg (((Cg.refl _).add hc).trans (minus_one p hp0 _ _))
  have hbf : Blk W1 w.heap.size 77 [.int .u64 (p : Int), .int .u64 (sp : Int)] := by rw [hW1]; exact Blk.new_ rfl
  have f0 := hbf.cell 0
  have f1 := hbf.cell 1
  obtain ⟨R, hR⟩ : ∃ R, R = PS p w (zo xs - zo ys) := ⟨_, rfl⟩
  rw [← hR]
  have HR := Lib.hid hR
  have HW1 := Lib.hid hW1
  have Hb0 := Lib.hid hb0
  have q2 : IntKind.u64.wrap ((p : Int) - 1) = ((p - 1 : Nat) : Int) := by rw [IntKind.wrap_u64]; omega
  have q3 := w32 (n := p - 1) (by omega)
  simp only [List.getElem?_cons_zero, List.getElem?_cons_succ] at f0 f1
  clear hR hW1 hr1 hr2 hbf d1 d2
  go_enter Tryd.func54, Tryd.ntmps54
  go_wp2_with fail
  rw [← HW1.out]
  have hz1 : w.heap.size < W1.heap.size := by omega
  go_region_held3 (fun W => W.cell? ⟨w.heap.size, 0, none⟩ = some (.int .u64 (p : Int)) ∧ W.cell? ⟨w.heap.size, 1, none⟩ = some (.int .u64 (sp : Int))) (go_keep) (first
    | (go_at_call 60; (with_reducible refine (HS.out _ (by first | exact Below.refl _ _ | exact (Below.refl _ _).drew)).mono ?_); rintro e w3 ⟨r, ⟨v, rfl, A, c, rfl, hres, hq⟩, hnf, hcg⟩; have hq1 : Below W1.heap.size W1 w3 := (by first | exact hq | exact (Below.refl _ _).drew.trans hq); have c0 := (hq1.cell (p := ⟨w.heap.size, 0, none⟩) hz1).trans f0; have c1 := (hq1.cell (p := ⟨w.heap.size, 1, none⟩) hz1).trans f1; have HR3 := Lib.hid hres.rd; have HQ := Lib.hid hq1; clear hq hq1 hres)
    | (go_at_call 53; (with_reducible refine (HA.out _ _ _ _ HQ.out hnf hcg HR3.out).mono ?_); rintro e w4 ⟨r2, ⟨v2, rfl, hpr⟩, hn2, hc2⟩; have HQ4 := Lib.hid (show Below w3.heap.size w3 w4 from by obtain ⟨_, _, _, _, h⟩ := hpr; exact h); have hz3 : w.heap.size < w3.heap.size := (by have := HQ.out.size; omega); have d0 := (HQ4.out.cell (p := ⟨w.heap.size, 0, none⟩) hz3).trans c0; have d1 := (HQ4.out.cell (p := ⟨w.heap.size, 1, none⟩) hz3).trans c1))
  all_goals go_wp2_with fail
  all_goals rw [HR.out]
  all_goals exact ⟨r2, ⟨_, rfl, hpr.mono (Hb0.out.trans (HQ.out.mono (by omega)))⟩, hn2, hc2⟩
end
end Go.Proofs.YtddhhndnkjajmaaDoor
