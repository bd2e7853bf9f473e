/- Appending to a row of one's own; the contract of the reference's shift. -/
import Derived.Test.YtogkfpbapjjgfaaRefCmp
import Derived.Maps.AppendAt
import Derived.OwnWalk
namespace Go.Proofs.Ytogkfpbapjjgfaa
open Go.RowKit

/-- A row of one's own reads as what it holds. -/
theorem own_res {w : World} {base : Nat} {e : TypeId} {v : Value} {n : Nat} {xs : List Value} (h : w.ownsRow base e 1 v n xs) (hm : n ≤ 281474976710656) : ∃ A c, v = .slice A n c ∧ n ≤ c ∧ Rd w w.heap.size A xs ∧ (xs ≠ [] → ∃ g, A = some ⟨g, 0, none⟩ ∧ base ≤ g) := by
  obtain ⟨hl, h1 | ⟨g, cap, cur, rfl, hg, hh, hnc, hcm, hsz, ht⟩⟩ := h
  · obtain ⟨rfl, rfl⟩ := h1
    have : xs = [] := List.eq_nil_of_length_eq_zero (by simpa using hl)
    subst this
    exact ⟨none, 0, rfl, Nat.le_refl _, Rd.nil_, fun h => absurd rfl h⟩
  · refine ⟨_, cap, rfl, hnc, fun _ => ?_, fun _ => ⟨g, rfl, hg⟩⟩
    have hb : Blk w g e cur.toList := by simpa [Blk] using hh
    refine ⟨g, 0, rfl, hb.lt, fun k u hu => ?_⟩
    rw [Nat.zero_add, hb.cell]
    rw [← ht, List.getElem?_take] at hu
    split at hu
    · exact hu
    · cases hu

theorem addr_add (b off j : Nat) : (⟨b, off, none⟩ : Addr).add j = ⟨b, off + j, none⟩ := by unfold Addr.add; split <;> simp_all

/-- Appending what a slice reads as to a row of one's own. -/
theorem run_app {P : Program} (w : World) (base : Nat) (t ty e : TypeId) (i : TypeInfo) (z : Value) (bytes : Nat) (ht : P.underlying t = some (.slice e)) (hi : P.info? e = some i) (hz : i.zero = some z)
    (hsize : i.size = 1) (hby : i.bytes = bytes) (hzs : z.cells.size = 1) (g n cap : Nat) (xs : List Value) (hown : w.ownsRow base e 1 (.slice (some ⟨g, 0, none⟩) n cap) n xs)
    (A : Option Addr) (m c B : Nat) (news : List Value) (hr : Rd w B A news) (hm : news.length = m) (h1 : ∀ u ∈ news, u.oneCell' = true) (h63 : n + m ≤ maxLen) (hbytes : (n + m) * bytes ≤ 140737488355328) (hbase : base ≤ w.heap.size) :
    ∃ v' w', (Builtin.append_ #[t, t] ty #[.slice (some ⟨g, 0, none⟩) n cap, .slice A m c]).run P w = .ok v' w' ∧ w'.ownsRow base e 1 v' (n + m) (xs ++ news) ∧ w.grownBy w' (some g) := by
  rcases A with _ | ad
  · have h0 : news = [] := by
      by_cases h : news = []
      · exact h
      · obtain ⟨_, _, h2, _⟩ := hr h
        cases h2
    subst h0
    obtain rfl : m = 0 := by simpa using hm.symm
    have hown0 := hown
    obtain ⟨hl, h2 | ⟨g', cap', cur, hv, hg, hh, hnc, hcm, hsz, htk⟩⟩ := hown
    · cases h2.1
    · injection hv with e1 e2 e3
      subst e3
      refine ⟨_, w, ?_, by simpa using hown0, World.grownBy.refl w _⟩
      simp [Builtin.append_, run_underlying ht, sizeOf, typeInfo, hi, Builtin.lenOf, Builtin.firstCells, hnc, storeCells]
  · have hcells : ∀ j u, news[j]? = some u → w.cell? (ad.add j) = some u := fun j u hu => by
      obtain ⟨b, off, h2, _, hc⟩ := hr (by rintro rfl; simp at hu)
      injection h2 with h2
      subst h2
      rw [addr_add]
      exact hc j u hu
    obtain ⟨v', w', hrun, h2, h3, _, _⟩ := run_append_own_at (P := P) w base t ty e i z 1 bytes ht hi hz hsize hby hzs (by omega) _ n xs hown ad m c news (by rw [hm]; omega) hcells h1 h63 hbytes hbase
    exact ⟨v', w', hrun, h2, h3⟩

/-- The walk's step at an append whose run is known. -/
theorem wpList_append_run {P : Program} {w : World} {ops : Array Oper} {rest : List Oper} {o : Oper} {a : Act} {Q : Exit → Act → World → Prop} (hgd : o.guard = none) (d s : Operand) (dT sT : TypeId)
    (ho : o.op = .call { callee := .builtin .append, args := #[d, s], argTypes := #[dT, sT] }) (dv sv : Value) (hd : a.eval d = dv) (hs : a.eval s = sv) (v' : Value) (w' : World)
    (hrun : (Builtin.append_ #[dT, sT] o.type #[dv, sv]).run P w = .ok v' w') (h : wpList P ops Q rest (a.put o.dst v') w') : wpList P ops Q (o :: rest) a w := by
  refine wpList_plain hgd fun K hK => ?_
  unfold Oper.wp
  simp [execOp, ho, resolve, invoke, builtin, hd, hs, hrun, Result.andThen]
  exact hK _ _ h

theorem below_grown {w w' : World} {g : Nat} (h : w.grownBy w' (some g)) {B : Nat} (hB : B ≤ g) (hw : B ≤ w.heap.size) : Below B w w' :=
  ⟨h.os, h.tape, h.output, h.size, fun k hk => h.block k (by omega) (fun e => by injection e with e; omega)⟩

set_option maxHeartbeats 400000 in
theorem rshift_any (A : Option Addr) (c : Nat) (xs : List Nat) (x : Nat) (w : World) (B : Nat) (hr : Rd w B A (u32s xs)) (hB : B ≤ w.heap.size) (hd : Dig 4294967296 xs) (hx : x < 4294967296) (hm : xs.length ≤ 35184372088800) :
    Calls Try.prog 38 #[.slice A xs.length c, .int .u32 (x : Int)] w fun e w' => ∃ zs A' c', e = .returned (.slice A' zs.length c') ∧ Num 4294967296 zs (x + 4294967296 * val 4294967296 xs) ∧ Res w' w.heap.size 34 A' c' (u32s zs) ∧ Below w.heap.size w w' := by
  obtain ⟨i0, hi, hz0, hz1, hz2⟩ := info_parts Try.info32
  have hb1 : Blk (w.alloc (.cells #[.int .u32 (x : Int)] 34)) w.heap.size 34 (u32s [x]) := Blk.new_ rfl
  have hown : (w.alloc (.cells #[.int .u32 (x : Int)] 34)).ownsRow w.heap.size 34 1 (.slice (some ⟨w.heap.size, 0, none⟩) 1 1) 1 [.int .u32 (x : Int)] :=
    ⟨rfl, .inr ⟨w.heap.size, 1, #[.int .u32 (x : Int)], rfl, Nat.le_refl _, hb1, Nat.le_refl _, by decide, rfl, rfl⟩⟩
  obtain ⟨v', w1, hrun, hown2, hgr⟩ := run_app (P := Try.prog) (w.alloc (.cells #[.int .u32 (x : Int)] 34)) w.heap.size 24 24 34 i0 (.int .u32 0) 4 Try.underlying24 hi hz0 hz1 hz2 rfl w.heap.size 1 1 _ hown A xs.length c B (u32s xs)
    (hr.below ((Below.refl _ _).alloc hB _)) (u32s_length xs) (one_u32s xs) (by unfold maxLen; omega) (by omega) (by simp)
  obtain ⟨A1, c1, rfl, hlc, hrd, _⟩ := own_res hown2 (by omega)
  have hbel : Below w.heap.size w w1 := ((Below.refl _ _).alloc (Nat.le_refl _) _).trans (below_grown hgr (Nat.le_refl _) (by simp))
  have hl : Hid ((x :: xs).length = 1 + xs.length) := by show _ = _; simp; omega
  have hrd2 : Rd w1 w1.heap.size A1 (u32s (x :: xs)) := hrd
  have hmm : (x :: xs).length ≤ 70368744177664 := by have := hl.out; omega
  clear hown hown2 hgr hb1 hrd
  go_enter Try.func38, Try.ntmps38
  have Hrun := Lib.hid hrun
  clear hrun
  go_wp2_with (first
    | (at_builtin; refine wpList_append_run rfl _ _ _ _ rfl _ _ rfl rfl _ _ Hrun.out ?_)
    | (go_at_call 17; rw [← hl.out]; refine (rnorm_any A1 c1 (x :: xs) w1 _ hrd2 (Nat.le_refl _) hmm).mono ?_; rintro e w2 ⟨A', c', rfl, hres, hb⟩))
  go_ret
  exact ⟨trimL (x :: xs), A', c', rfl, Num.of_trim (hd.cons_ hx), hres.mono hbel.size, hbel.trans (hb.mono hbel.size)⟩
end Go.Proofs.Ytogkfpbapjjgfaa
