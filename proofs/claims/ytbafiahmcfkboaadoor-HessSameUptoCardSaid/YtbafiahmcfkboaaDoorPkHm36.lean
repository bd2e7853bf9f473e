/- Words for the calls of modpoly; the contracts of trim and normal. Conditions: as each states. The contracts of normal, times, negative. Conditions: p above 0 and below 2^32. A drawn region whose head only reads and draws, in whatever order, and whose tail stands in one order: one walk serves. No conditions. The contracts of inverse, scaled, sum, difference. Conditions: p a prime below 2^32; bases reads 2, 7, 61. -/
import Derived.Test.YtbafiahmcfkboaaDoorPkHm35
import Derived.Test.YtbafiahmcfkboaaDoorPkHm23
import Derived.Laws.CopyOwn
import Derived.OwnWalk
import Derived.OneCell
import Derived.Deep.CutBlock
import Derived.RegionTactic
import Derived.WalkMore
import Derived.StillTail
import Derived.StillTailTactics
import Derived.Deep.Quiet
import Derived.Deep.QuietTactic
import Derived.BigQuiet
import Derived.Test.YtbafiahmcfkboaaDoorPkHm22
namespace Go.Proofs.YtbafiahmcfkboaaDoor
section
open Go.RowKit

theorem one_u32s9z (xs : List Nat) : ∀ u ∈ u32s xs, u.oneCell' = true := fun u hu => by
  obtain ⟨x, _, rfl⟩ := List.mem_map.1 hu; rfl
theorem made_one9z (z : Value) (n : Nat) (hz : z.cells = #[z]) : madeCells z.cells (n * 1) = (List.replicate n z).toArray := by
  rw [hz, Nat.mul_one]
  apply Array.ext'
  simp only [madeCells, List.size_toArray, List.length_singleton, Nat.mod_one]
  simp [Array.toList_map, List.map_const']
theorem Tryd.info329z : (Tryd.prog.info? 24).map (fun i => (i.zero, i.size, i.bytes)) = some (some (.int .u32 0), 1, 4) := by kernel_rfl
theorem mkP (n : Nat) (h : n ≤ 70368744177664) (w : World) : (Instr.makeSlice 30 (.int .i64 (n : Int)) (.int .i64 (n : Int))).run Tryd.prog w = .ok (.slice (some ⟨w.heap.size, 0, none⟩) n n) (w.alloc (.cells (List.replicate n (Value.int .u32 0)).toArray 24)) := by
  obtain ⟨i0, hi, hz0, hz1, hz2⟩ := info_parts Tryd.info329z
  have hr := run_make (P := Tryd.prog) w 30 24 i0 (.int .u32 0) Tryd.underlying30 hi hz0 .i64 .i64 n n (by omega) (by omega) (by rw [hz2]; omega) (by omega)
  rw [hz1, Int.toNat_natCast, made_one9z _ _ rfl] at hr
  exact hr
/-- The field modulo p, by value. -/
abbrev fieldV (p sp : Nat) : Value := .agg #[.int .u64 (p : Int), .int .u64 (sp : Int)]
/-- What a call hands back: a polynomial in memory of its own. -/
def PR (w w' : World) (v : Value) (r : List Nat) : Prop := ∃ A c, v = .slice A r.length c ∧ Res w' w.heap.size 24 A c (u32s r) ∧ Below w.heap.size w w'
/-- A polynomial is the only answer. -/
def PR1 (w : World) (r : List Nat) (e : Ending) (w' : World) : Prop := ∃ v, e = .returned v ∧ PR w w' v r
/-- A list as it is read. -/
def Big : Nat := 17592186044416

theorem trimL_take_zero (xs : List Nat) (m : Nat) (h : m < xs.length) (h0 : xs[m] = 0) : trimL (xs.take (m + 1)) = trimL (xs.take m) := by
  rw [List.take_succ_eq_append_getElem h, h0, trimL_snoc_zero]
theorem trimL_take_pos (xs : List Nat) (m : Nat) (h : m < xs.length) (h0 : xs[m] ≠ 0) : (trimL (xs.take (m + 1))).length = m + 1 := by
  rw [List.take_succ_eq_append_getElem h, trimL_snoc_pos _ _ h0]; simp; omega
theorem u32s_trim (xs : List Nat) : u32s (trimL xs) = (u32s xs).take (trimL xs).length := by
  unfold u32s; rw [← List.map_take, trimL_take]

set_option maxHeartbeats 400000 in
theorem trim_any (A : Option Addr) (c : Nat) (xs : List Nat) (w : World) (B : Nat) (hr : Rd w B A (u32s xs)) (hc : xs.length ≤ c) (hm : xs.length ≤ 281474976710656) :
    Calls Tryd.prog 65 #[.slice A xs.length c] w fun e w' => e = .returned (.slice A (trimL xs).length c) ∧ w = w' := by
  go_enter Tryd.func65, Tryd.ntmps65
  go_wp2
  go_loop [0] (fun v => ∃ m : Nat, m ≤ xs.length ∧ v = .slice A m c ∧ trimL (xs.take m) = trimL xs) (fun v => match v with | .slice _ m _ => m | _ => 0)
  case atStart => exact ⟨xs.length, Nat.le_refl _, rfl, by simp⟩
  case round =>
    obtain ⟨m, hm1, rfl, ht⟩ := hrel
    have Ht := Lib.hid ht; clear ht
    rcases m with _ | m
    · go_wp2
      go_ret
      have h0 : (trimL xs).length = 0 := by rw [← Ht.out]; rfl
      exact ⟨by rw [h0]; rfl, rfl⟩
    · obtain ⟨b, off, rfl, hb, hcell⟩ := hr (by intro e; have := u32s_length xs; rw [e] at this; simp at this; omega)
      have hcl := hcell m _ (u32s_at (by omega))
      clear hcell
      by_cases h0 : xs[m] = 0
      · have hz := trimL_take_zero xs m (by omega) h0
        rw [h0] at hcl
        have Hz := Lib.hid hz
        clear hz h0
        go_wp2
        go_round
        case rel => exact ⟨m, by omega, rfl, by rw [← Hz.out]; exact Ht.out⟩
        case measure => simp
      · have hz := trimL_take_pos xs m (by omega) h0
        have Hz := Lib.hid hz
        have hne : ((xs[m] : Int) == 0) = false := by simp; omega
        clear hz
        go_wp2
        go_ret
        exact ⟨by rw [← Hz.out, Ht.out]; rfl, rfl⟩

theorem trim_own (W : World) (g n : Nat) (ys : List Nat) (hy : ys.length = n) (hb : Blk W g 24 (u32s ys)) (hn : n ≤ 281474976710656) :
    Calls Tryd.prog 65 #[.slice (some ⟨g, 0, none⟩) n n] W fun e w' => e = .returned (.slice (some ⟨g, 0, none⟩) (trimL ys).length n) ∧ W = w' := by
  subst hy
  exact trim_any _ _ ys W (g + 1) (Rd.of_blk hb (by omega) 0 (fun k v hv => by rw [Nat.zero_add]; exact hv)) (Nat.le_refl _) hn

/-- What trim hands back of a row of one's own. -/
theorem PR.of_trim {w w' : World} {g : Nat} {xs : List Nat} (hb : Blk w' g 24 (u32s xs)) (hg : w.heap.size ≤ g) (hm : xs.length ≤ 281474976710656) (hw : Below w.heap.size w w') : PR w w' (.slice (some ⟨g, 0, none⟩) (trimL xs).length xs.length) (trimL xs) := by
  refine ⟨_, _, rfl, ?_, hw⟩
  rw [u32s_trim]
  have := (Res.of_blk0 (B := w.heap.size) hb hg (by rw [u32s_length]; exact hm)).take (trimL xs).length
  rwa [u32s_length] at this
theorem PR.of_blk {w w' : World} {g : Nat} {xs : List Nat} (hb : Blk w' g 24 (u32s xs)) (hg : w.heap.size ≤ g) (hm : xs.length ≤ 281474976710656) (hw : Below w.heap.size w w') : PR w w' (.slice (some ⟨g, 0, none⟩) xs.length xs.length) xs := by
  refine ⟨_, _, rfl, ?_, hw⟩
  have := Res.of_blk0 (B := w.heap.size) hb hg (by rw [u32s_length]; exact hm)
  rwa [u32s_length] at this
theorem PR1.of_trim {w w' : World} {g n : Nat} {ys r : List Nat} (hb : Blk w' g 24 (u32s ys)) (hy : ys.length = n) (hr : r = trimL ys) (hg : w.heap.size ≤ g) (hm : n ≤ 281474976710656) (hw : Below w.heap.size w w') : PR1 w r (.returned (.slice (some ⟨g, 0, none⟩) (trimL ys).length n)) w' := by
  subst hy hr
  exact ⟨_, rfl, PR.of_trim hb hg hm hw⟩
theorem PR.none_ {w w' : World} (hw : Below w.heap.size w w') : PR w w' (.slice none 0 0) [] := ⟨none, 0, rfl, Res.none_, hw⟩
theorem PR.mono {w w1 w' : World} {v : Value} {r : List Nat} (h : PR w1 w' v r) (hb : Below w.heap.size w w1) : PR w w' v r := by
  obtain ⟨A, c, e, hr, hw⟩ := h
  exact ⟨A, c, e, hr.mono hb.size, hb.trans (hw.mono hb.size)⟩
theorem PR.later {w w1 w' : World} {v : Value} {r : List Nat} (h : PR w w1 v r) (hb : Below w1.heap.size w1 w') : PR w w' v r := by
  obtain ⟨A, c, e, hr, hw⟩ := h
  exact ⟨A, c, e, hr.below hb (Nat.le_refl _), hw.trans (hb.mono hw.size)⟩

theorem Blk.new2 {w : World} {o : Obj} {t : TypeId} {cs : Array Value} {vs : List Value} (e : cs = vs.toArray) : Blk ((w.alloc o).alloc (.cells cs t (0, 0))) (w.heap.size + 1) t vs := by
  have h := Blk.new_ (w := w.alloc o) (t := t) e
  rwa [show (w.alloc o).heap.size = w.heap.size + 1 by simp] at h
theorem repl_u32 (n : Nat) : Array.replicate n (Value.int .u32 0) = (u32s (List.replicate n 0)).toArray := by simp [u32s]
theorem Rd.alloc {w : World} {B : Nat} {A : Option Addr} {vs : List Value} (h : Rd w B A vs) (hB : B ≤ w.heap.size) (o : Obj) : Rd (w.alloc o) B A vs := h.below ((Below.refl _ _).alloc hB _)
/-- copy into a row of one's own. -/
theorem wpList_copyP {P : Program} {w : World} {ops : Array Oper} {rest : List Oper} {o : Oper} {a : Act} {Q : Exit → Act → World → Prop} (hgd : o.guard = none) (d s : Operand) (dT sT : TypeId)
    (ho : o.op = .call { callee := .builtin .copy, args := #[d, s], argTypes := #[dT, sT] }) (elem : TypeId) (hu : P.underlying dT = some (.slice elem)) (hsz : (P.info? elem).map (·.size) = some 1)
    (sp : Option Addr) (g off dLen dCap sLen sCap : Nat) (hd : a.eval d = .slice (some ⟨g, off, none⟩) dLen dCap) (hs : a.eval s = .slice sp sLen sCap) (t : TypeId) (zs xs : List Nat) (B C : Nat) (w0 : World)
    (hg : Blk w g t (u32s zs)) (hr : Rd w B sp (u32s xs)) (hn : xs.length = Nat.min sLen dLen) (hfit : off + xs.length ≤ zs.length) (hb : Below C w0 w) (hC : C ≤ g)
    (h : ∀ w', Blk w' g t (u32s (zs.take off ++ (xs ++ zs.drop (off + xs.length)))) → Below C w0 w' → wpList P ops Q rest (a.put o.dst (goInt (u32s xs).length)) w') :
    wpList P ops Q (o :: rest) a w := by
  refine wpList_copy_splice hgd d s dT sT ho elem hu hsz _ _ _ _ _ _ hd hs g off (u32s zs) t hg (u32s xs) (by rw [u32s_length]; exact hn) (fun h0 => ⟨rfl, ?_⟩) (by rw [u32s_length, u32s_length]; exact hfit) (one_u32s9z xs) C w0 hb hC (fun w' h1 h2 => h w' ?_ h2)
  · obtain ⟨b, o2, e, _, hc⟩ := hr (by intro e; rw [e] at h0; simp at h0)
    exact ⟨_, e, fun j v hv => by rw [show (⟨b, o2, none⟩ : Addr).add j = ⟨b, o2 + j, none⟩ by unfold Addr.add; split <;> simp_all]; exact hc j v hv⟩
  · have h9 := h1.out
    have e : splice (u32s zs) off (u32s xs) = u32s (zs.take off ++ (xs ++ zs.drop (off + xs.length))) := by
      simp [splice, u32s]
    rw [e] at h9
    exact h9
theorem copy_all (n : Nat) (xs : List Nat) (h : xs.length = n) : (List.replicate n 0).take 0 ++ (xs ++ (List.replicate n 0).drop (0 + xs.length)) = xs := by subst h; simp

/-! A row of which the first k are turned. -/
def half (f : Nat → Nat) (xs : List Nat) (k : Nat) : List Nat := (xs.take k).map f ++ xs.drop k
theorem half_length (f : Nat → Nat) (xs : List Nat) (k : Nat) : (half f xs k).length = xs.length := by unfold half; simp; omega
theorem half_zero (f : Nat → Nat) (xs : List Nat) : half f xs 0 = xs := by simp [half]
theorem half_all (f : Nat → Nat) (xs : List Nat) : half f xs xs.length = xs.map f := by simp [half]
theorem half_at {f : Nat → Nat} {xs : List Nat} {k : Nat} (h : k < xs.length) : (half f xs k)[k]'(by rw [half_length]; exact h) = xs[k] := by
  unfold half
  rw [List.getElem_append_right (by simp; omega)]
  simp [Nat.min_eq_left (Nat.le_of_lt h)]
theorem half_set {f : Nat → Nat} {xs : List Nat} {k : Nat} (h : k < xs.length) : (half f xs k).set k (f xs[k]) = half f xs (k + 1) := by
  unfold half
  have h0 : k - ((xs.take k).map f).length = 0 := by simp; omega
  rw [List.set_append_right _ _ (by simp; omega), h0, List.drop_eq_getElem_cons h, List.set_cons_zero, List.take_succ_eq_append_getElem h, List.map_append, List.append_assoc]
  rfl
/-! A row of noughts of which the first k are laid. -/
def fill (g : Nat → Nat) (n k : Nat) : List Nat := (List.range k).map g ++ List.replicate (n - k) 0
theorem bz {n : Nat} (h : 0 < n) : ((n : Int) == 0) = false := by rw [beq_eq_false_iff_ne]; omega
end
section
open Go.RowKit

set_option maxHeartbeats 1600000 in
theorem fnormal_any (p sp : Nat) (A : Option Addr) (c : Nat) (xs : List Nat) (w : World) (B : Nat) (hp0 : 0 < p) (hp : p < 4294967296) (hr : Rd w B A (u32s xs)) (hB : B ≤ w.heap.size) (hm : xs.length ≤ Big) (hd : ∀ x ∈ xs, x < 4294967296) :
    Calls Tryd.prog 39 #[fieldV p sp, .slice A xs.length c] w (PR1 w (mnP p xs)) := by
  unfold Big at hm
  have hmk := fun W => mkP xs.length (by omega) W
  have t4 : ((p : Int) == 0) = false := by simp; omega
  have hdx : Hid (∀ k (h : k < xs.length), xs[k] < 4294967296) := fun k h => hd _ (List.getElem_mem h)
  have hb0 : Below w.heap.size w (w.alloc (.cells #[.int .u64 (p : Int), .int .u64 (sp : Int)] 80 (0, 0))) := (Below.refl _ _).alloc (Nat.le_refl _) _
  have hra := Lib.hid (hr.below (hb0.mono hB))
  have htr : Hid (∀ W B A c ys, Rd W B A (u32s ys) → ys.length ≤ c → ys.length ≤ 281474976710656 → Calls Tryd.prog 65 #[.slice A ys.length c] W fun e w' => e = .returned (.slice A (trimL ys).length c) ∧ W = w') := fun W B A c ys h1 h2 h3 => trim_any A c ys W B h1 h2 h3
  have E0 : Hid (mnP p xs = trimL (half (· % p) xs xs.length)) := by show _ = _; rw [half_all]; rfl
  obtain ⟨R, hR⟩ : ∃ R, R = PR1 w (mnP p xs) := ⟨_, rfl⟩
  rw [← hR]
  have HR := Lib.hid hR
  clear hd hr hR
  go_enter Tryd.func39, Tryd.ntmps39
  go_wp2_with ((with_reducible refine wpList_copyP (o := ⟨some 13, _, _, _, _, _⟩) rfl _ _ _ _ rfl 24 Tryd.underlying30 ?u1 A (w.heap.size + 1) 0 _ _ _ _ rfl rfl 24 (List.replicate xs.length 0) xs B (w.heap.size + 1) (w.alloc (.cells #[.int .u64 (p : Int), .int .u64 (sp : Int)] 80 (0, 0))) ?c1 ?c2 ?c3 ?c4 ?c5 (Nat.le_refl _) ?_); rotate_right; intro w2 hg2 hb2)
  case u1 => kernel_rfl
  case c1 => exact Blk.new2 (repl_u32 _)
  case c2 => exact hra.out.alloc (by simp; omega) _
  case c3 => simp
  case c4 => simp
  case c5 => exact (Below.refl _ _).alloc (by simp) _
  rw [copy_all _ _ rfl] at hg2
  have f0 := hb2.cell (p := ⟨w.heap.size, 0, none⟩) (by simp)
  have f1 : (w.alloc (.cells #[.int .u64 (p : Int), .int .u64 (sp : Int)] 80 (0, 0))).cell? ⟨w.heap.size, 0, none⟩ = some (.int .u64 (p : Int)) := (Blk.new_ (vs := [.int .u64 (p : Int), .int .u64 (sp : Int)]) rfl).cell 0
  have HF := Lib.hid (f0.trans f1)
  have Hb2 := Lib.hid hb2
  clear f0 f1 hmk hb2
  go_loopw [6, 7, 16] (fun _ _ iv wr => ∃ k : Nat, k ≤ xs.length ∧ iv = .int .i64 (k : Int) ∧ Blk wr (w.heap.size + 1) 24 (u32s (half (· % p) xs k)) ∧ Ch (w.heap.size + 1) w2 wr) (fun _ _ iv _ => xs.length - (intOf iv).toNat)
  case atStart => exact ⟨0, by omega, rfl, by rw [half_zero]; exact hg2, Ch.refl _ _⟩
  case round =>
    clear hg2
    obtain ⟨k, hk, rfl, hblk, hch⟩ := hrel
    have f2 := (hch.below (Nat.le_refl _)).cell (p := ⟨w.heap.size, 0, none⟩) (by simp)
    have f3 := f2.trans HF.out
    clear f2
    by_cases hlt : k < xs.length
    · have hcl := (hblk.cell k).trans (u32s_at (by rw [half_length]; exact hlt))
      rw [half_at hlt] at hcl
      have hfz := hblk.frozen k
      have hx := hdx.out k hlt
      have hset := hblk.set_ k (.int .u32 ((xs[k] % p : Nat) : Int))
      rw [u32s_set, half_set hlt] at hset
      have t5 : (xs[k] : Int) % (p : Int) = ((xs[k] % p : Nat) : Int) := (Int.natCast_emod _ _).symm
      have t6 : xs[k] % p < 4294967296 := by have := Nat.mod_lt xs[k] hp0; omega
      obtain ⟨r, hre⟩ : ∃ r, r = xs[k] % p := ⟨_, rfl⟩
      rw [← hre] at t5 t6 hset
      have Hset := Lib.hid hset
      clear hset hre
      go_wp2
      go_roundw
      case rel => exact ⟨k + 1, by omega, by go_num, Hset.out, hch.setCell _ _⟩
      case measure => simp [intOf]; omega
    · obtain rfl : k = xs.length := by omega
      have HB := Lib.hid hblk
      clear hblk
      go_wp2_with (go_at_call 65; (with_reducible refine (trim_own _ _ _ _ (half_length _ _ _) HB.out (by omega)).mono ?_); rintro _ _ ⟨rfl, rfl⟩)
      rw [HR.out]
      exact PR1.of_trim HB.out (half_length _ _ _) E0.out (by omega) (by omega) (hb0.trans ((Hb2.out.trans (hch.below (Nat.le_refl _))).mono (by omega)))
end
section
open Go

/-- Whatever order the head comes up in; L holds behind it. -/
def HeadQ (P : Program) (md : Region.Mode) (ops : Array Oper) (C : World → Prop) (n : Nat) (L : Array Bool → Act → Prop) : Nat → Array Bool → Act → Prop
  | 0, ls, a => L ls a
  | f + 1, ls, a => Region.ready md ops ls ≠ [] ∧ ∀ i ∈ Region.ready md ops ls, i < n ∧ qOp P ops C i (HeadQ P md ops C n L f (ls.setIfInBounds i true)) a

section
variable {P : Program} {md : Region.Mode} {ops : Array Oper} {C : World → Prop} {n : Nat}

theorem HeadQ.any {g : Nat} {L : Array Bool → Act → Prop} {Q : Exit → Act → World → Prop} (hL : ∀ ls a W, C W → L ls a → wpAny P md ops Q g ls a W) :
    ∀ f ls a W, C W → HeadQ P md ops C n L f ls a → wpAny P md ops Q (f + g) ls a W
  | 0, ls, a, W, hW, h => by rw [Nat.zero_add]; exact hL ls a W hW h
  | f + 1, ls, a, W, hW, h => by
    rw [show f + 1 + g = (f + g) + 1 from by omega]
    exact ⟨fun h0 => absurd h0 h.1, fun i hi => wpOp_of_qOp hW (fun a' W' hW' h' => HeadQ.any hL f _ a' W' hW' h') (h.2 i hi).2⟩

theorem HeadQ.first {i : Nat} {o : Oper} {v : Value} {L : Array Bool → Act → Prop} (ho : ops[i]? = some o) (hsel : Region.noSelect ops = true)
    (hs : Region.sinkB md ops n = true) (hc : Region.chainB md ops n = true) (hn : n < ops.size) (hin : i < n) (hend : ∀ ls a, L ls a → ∀ j ∈ Region.ready md ops ls, n ≤ j) :
    ∀ f ls a, HeadInv md ops n ls → (∀ j oj, ops[j]? = some oj → j ≠ i → ls.getD j true = false → (∀ e ∈ oj.after, Region.binds md e = true → e.on ≠ i) → o.apart ops oj = true) →
      i ∈ Region.ready md ops ls → YieldsIn P ops C o v a → HeadQ P md ops C n L f (ls.setIfInBounds i true) (a.put o.dst v) → HeadQ P md ops C n L (f + 1) ls a := by
  intro f
  induction f with
  | zero =>
    intro ls a inv _ hr hy H
    have hun := (mem_ready.1 hr).1
    refine ⟨fun h => (by rw [h] at hr; cases hr), fun j hj => ?_⟩
    have hjn : j < n := (Nat.lt_or_ge j n).resolve_right fun h => absurd hj (tail_waits hs hc hn inv _ i rfl hin hun j h)
    refine ⟨hjn, ?_⟩
    by_cases hji : j = i
    · subst hji; exact hy.qOp ho H
    · exact absurd (hend _ _ H j (ready_mono hj hji)) (by omega)
  | succ f ih =>
    intro ls a inv hfree hr hy H
    have hun := (mem_ready.1 hr).1
    refine ⟨fun h => (by rw [h] at hr; cases hr), fun j hj => ?_⟩
    have hjn : j < n := (Nat.lt_or_ge j n).resolve_right fun h => absurd hj (tail_waits hs hc hn inv _ i rfl hin hun j h)
    refine ⟨hjn, ?_⟩
    by_cases hji : j = i
    · subst hji; exact hy.qOp ho H
    · have h1 := (H.2 j (ready_mono hj hji)).2
      obtain ⟨hjun, oj, hoj, hall⟩ := mem_ready.1 hj
      have hno : ∀ e ∈ oj.after, Region.binds md e = true → e.on ≠ i := fun e he hb heq => by
        have h2 := hall e he hb
        rw [heq, getD_both hun] at h2
        cases h2
      have h2 := qOp_put hoj (hfree j oj hoj hji hjun hno) (fun cs b => Region.noSelect_spec hsel i o cs b ho) (fun cs b => Region.noSelect_spec hsel j oj cs b hoj) hy h1
      refine qOp_mono (fun a' h3 => ih (ls.setIfInBounds j true) a' (inv.set hj hjn) (fun k ok hk hki hku hkn => hfree k ok hk hki ?_ hkn) (ready_mono hr (Ne.symm hji)) h3.1 ?_) h2
      · by_cases hjk : j = k
        · subst hjk; exact hjun
        · rw [getD_set_ne true hjk] at hku; exact hku
      · rw [Array.setIfInBounds_comm _ _ hji]; exact h3.2

end
end
section
open Go.RowKit

theorem Bases.lt {w : World} (h : Bases w) : 0 < w.heap.size := by
  have h1 := h.1
  rcases Nat.lt_or_ge 0 w.heap.size with hlt | hge
  · exact hlt
  · simp [World.cell?, Array.getElem?_eq_none hge] at h1
theorem Bases.below {w w' : World} (h : Bases w) {B : Nat} (hb : Below B w w') (hB : 0 < B) : Bases w' :=
  ⟨(hb.cell (p := ⟨_, 0, none⟩) hB).trans h.1, (hb.cell (p := ⟨_, 1, none⟩) hB).trans h.2.1, (hb.cell (p := ⟨_, 2, none⟩) hB).trans h.2.2⟩
theorem Bases.later {w w' : World} (h : Bases w) (hb : Below w.heap.size w w') : Bases w' := h.below hb h.lt

/-- A call hands back the normal form of z, and nothing else. -/
def PS (p : Nat) (w : World) (z : Z) (e : Ending) (w' : World) : Prop := ∃ r, PR1 w r e w' ∧ Nf p r ∧ Cg p (zo r) z
theorem PS.mk {p : Nat} {w w' : World} {z : Z} {g n : Nat} {ys : List Nat} (hb : Blk w' g 24 (u32s ys)) (hy : ys.length = n) (hg : w.heap.size ≤ g) (hm : n ≤ 281474976710656) (hw : Below w.heap.size w w') (hd : ∀ x ∈ ys, x < p) (hz : Cg p (zo ys) z) :
    PS p w z (.returned (.slice (some ⟨g, 0, none⟩) (trimL ys).length n)) w' :=
  ⟨trimL ys, PR1.of_trim hb hy rfl hg hm hw, Nf.trim hd, (Cg.trim ys).trans hz⟩
end
end Go.Proofs.YtbafiahmcfkboaaDoor
