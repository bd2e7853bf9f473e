/- The contract of the reference's Left. -/
import Derived.Test.YtogkfpbapjjgfaaRefLen
import Derived.Deep.RegionLaw
import Derived.Deep.RegionHeld3
import Derived.Deep.DeepCutAuto
namespace Go.Proofs.Ytogkfpbapjjgfaa
open Go.RowKit

/-- An append onto a row that is known whole, as one step of a region that draws. -/
theorem step_app {P : Program} {ops : Array Oper} {o : Oper} {a : Act} {w : World} {K : Act → World → Prop} {Q : Exit → Act → World → Prop} {E : Prop} (hgd : o.guard = none) (d s : Operand) (t : TypeId)
    (ho : o.op = .call { callee := .builtin .append, args := #[d, s], argTypes := #[t, t] }) (e : TypeId) (i : TypeInfo) (z : Value) (bytes : Nat) (ht : P.underlying t = some (.slice e)) (hi : P.info? e = some i) (hz : i.zero = some z)
    (hsize : i.size = 1) (hby : i.bytes = bytes) (hzs : z.cells.size = 1) (g n : Nat) (A : Option Addr) (m c : Nat) (hd : a.eval d = .slice (some ⟨g, 0, none⟩) n n) (hs : a.eval s = .slice A m c)
    (xs news : List Value) (B : Nat) (hb : Blk w g e xs) (hn : xs.length = n) (hr : Rd w B A news) (hm : news.length = m) (h1 : ∀ u ∈ news, u.oneCell' = true) (h63 : n + m ≤ 281474976710656) (hbytes : (n + m) * bytes ≤ 140737488355328)
    (h : ∀ v' w', w'.ownsRow g e 1 v' (n + m) (xs ++ news) → w.grownBy w' (some g) → K (a.put o.dst v') w') :
    if Region.wanted o (yielded ops a.tmps) = true then Oper.wp P o a w K Q else E := by
  have hw : Region.wanted o (yielded ops a.tmps) = true := by simp [Region.wanted, hgd]
  rw [if_pos hw]
  have hown : w.ownsRow g e 1 (.slice (some ⟨g, 0, none⟩) n n) n xs :=
    ⟨by omega, .inr ⟨g, n, xs.toArray, rfl, Nat.le_refl _, hb, Nat.le_refl _, by unfold maxLen; omega, by simp [hn], by simp [← hn]⟩⟩
  obtain ⟨v', w', hrun, h2, h3⟩ := run_app (P := P) w g t o.type e i z bytes ht hi hz hsize hby hzs g n n xs hown A m c B news hr hm h1 (by unfold maxLen; omega) hbytes (by have := hb.lt; omega)
  unfold Oper.wp
  simp [execOp, ho, resolve, invoke, builtin, hd, hs, hrun, Result.andThen]
  exact h v' w' h2 h3

set_option maxHeartbeats 400000 in
theorem rleft_any (A : Option Addr) (c : Nat) (xs : List Nat) (n d s : Nat) (w : World) (B : Nat) (hr : Rd w B A (u32s xs)) (hB : B ≤ w.heap.size) (hd : Dig 4294967296 xs) (hn : n = 32 * d + s) (hs : s < 32) (hm : d + (trimL xs).length ≤ 35184372088000) (hm0 : xs.length ≤ 70368744170000) :
    Calls Try.prog 24 #[.slice A xs.length c, .int .i64 (n : Int)] w fun e w' => ∃ zs A' c', e = .returned (.slice A' zs.length c') ∧ Num 4294967296 zs (val 4294967296 xs * 2 ^ n) ∧ Res w' w.heap.size 34 A' c' (u32s zs) ∧ Below w.heap.size w w' := by
  have hl := trimL_length_le xs
  have hmk := fun W => mk32 d (by omega) W
  have q1 : (n : Int) / 32 = (d : Int) := by omega
  have q2 : (n : Int) % 32 = (s : Int) := by omega
  have nb : n < 9223372036854775807 := by omega
  have Hn := Lib.hid hn
  have hwr : IntKind.i64.wrap (d : Int) = (d : Int) := by rw [IntKind.wrap_i64]; omega
  clear hn
  go_enter Try.func24, Try.ntmps24
  go_wp2_with fail
  obtain ⟨i0, hi, hz0, hz1, hz2⟩ := info_parts Try.info32
  have hnc : ∀ W : World, Below w.heap.size w W → Calls Try.prog 17 #[.slice A xs.length c] W fun e w' => ∃ A' c', e = .returned (.slice A' (trimL xs).length c') ∧ Res w' W.heap.size 34 A' c' (u32s (trimL xs)) ∧ Below W.heap.size W w' :=
    fun W hW => rnorm_any A c xs W B (hr.below (hW.mono hB)) (Nat.le_trans hB hW.size) (by omega)
  have Hnc := Lib.hid hnc
  have hl9 : (u32s (List.replicate d 0)).length = d := by simp [u32s]
  have Hl9 := Lib.hid hl9
  have hsum : d + (trimL xs).length ≤ 35184372088000 := by omega
  have hbk : ∀ W : World, Blk (W.alloc (.cells (Array.replicate d (Value.int .u32 0)) 34)) W.heap.size 34 (u32s (List.replicate d 0)) := fun W => Blk.new_ (by simp [u32s])
  have Hbk := Lib.hid hbk
  clear hnc hl9 hbk
  go_cut [5] (fun v wc => ∃ A1 c1, v = .slice A1 (d + (trimL xs).length) c1 ∧ Rd wc wc.heap.size A1 (u32s (List.replicate d 0 ++ trimL xs)) ∧ Below w.heap.size w wc)
  case first =>
    go_region_held3 (fun _ => True) (exact trivial) (first
      | (go_at_call 17; refine (Hnc.out _ (by first | exact (Below.refl _ _).drew | exact ((Below.refl _ _).alloc (Nat.le_refl _) _).drew)).mono ?_; rintro e w1 ⟨A1, c1, rfl, hres, hb⟩)
      | (refine step_app rfl (.tmp 8) (.tmp 10) 24 rfl 34 i0 (.int .u32 0) 4 Try.underlying24 hi hz0 hz1 hz2 rfl _ d _ _ _ rfl rfl (u32s (List.replicate d 0)) (u32s (trimL xs)) _ (by first | exact Hbk.out _ | exact (Hbk.out w).drew.below hb (by show w.heap.size < (w.alloc _).heap.size; rw [size_alloc]; omega)) Hl9.out (by first | exact hres.rd | exact hres.rd.below ((Below.refl _ _).alloc (Nat.le_refl _) _)) (u32s_length _) (one_u32s _) (by omega) (by omega) ?_; intro v' w2 hown hgr))
    all_goals
      go_wp2
      go_meet
      obtain ⟨A9, c9, rfl, hlc9, hrd9, _⟩ := own_res hown (by omega)
      refine ⟨A9, c9, rfl, ?_, ?_⟩
      · have e9 : u32s (List.replicate d 0 ++ trimL xs) = u32s (List.replicate d 0) ++ u32s (trimL xs) := by simp [u32s]
        rw [e9]; exact hrd9
      · have hsz1 := hb.size
        first
          | (have e1 : Below w.heap.size w w1 := ((Below.refl _ _).alloc (Nat.le_refl _) _).drew.trans (hb.mono (by show w.heap.size ≤ (w.alloc _).heap.size; rw [size_alloc]; omega))
             exact e1.trans (below_grown hgr (Nat.le_refl _) e1.size))
          | (have e1 : Below w.heap.size w w1 := (Below.refl _ _).drew.trans hb
             exact (e1.alloc e1.size _).trans (below_grown hgr e1.size (by rw [size_alloc]; have := e1.size; omega)))
  case rest =>
    obtain ⟨A1, c1, rfl, hrd, hbel⟩ := hcut
    have hdl : Dig 4294967296 (List.replicate d 0 ++ trimL xs) := (Dig.zeros_ (by omega) _).append_ hd.trim_
    have hln : Hid ((List.replicate d 0 ++ trimL xs).length = d + (trimL xs).length) := by show _ = _; simp
    have hvl : val 4294967296 (List.replicate d 0 ++ trimL xs) * 2 ^ s = val 4294967296 xs * 2 ^ n := by
      rw [val_append, val_zeros, val_trim, Hn.out, Nat.pow_add, Nat.pow_mul, show (2 : Nat) ^ 32 = 4294967296 from rfl, List.length_replicate, Nat.zero_add, Nat.mul_comm (4294967296 ^ d), Nat.mul_assoc]
    have h2s : 2 ^ s < 2 ^ 32 := Nat.pow_lt_pow_right (by omega) hs
    have e9 : ((2 : Int) ^ s % 4294967296) = ((2 ^ s : Nat) : Int) := by
      rw [show ((2 : Int) ^ s) = ((2 ^ s : Nat) : Int) from by simp]
      exact Int.emod_eq_of_lt (Int.natCast_nonneg _) (Int.ofNat_lt.2 h2s)
    obtain ⟨ts, hts⟩ : ∃ ts, ts = 2 ^ s := ⟨_, rfl⟩
    rw [← hts] at h2s e9 hvl
    have hts32 : ts < 4294967296 := by omega
    have Hvl := Lib.hid hvl
    clear hvl hts h2s
    go_wp2_with fail
    rw [← hln.out]
    refine (rsmall_any A1 c1 _ ts _ _ hrd (Nat.le_refl _) hdl hts32 (by have := hln.out; omega)).mono ?_
    rintro e w5 ⟨zs, A7, c7, rfl, hnz, hres, hb5⟩
    go_wp2
    go_ret
    rw [Hvl.out] at hnz
    exact ⟨zs, A7, c7, rfl, hnz, hres.mono hbel.size, hbel.trans (hb5.mono hbel.size)⟩
end Go.Proofs.Ytogkfpbapjjgfaa
