/- nat.Bits as an iterator: the contract of its closure. Conditions: the table reads as it is laid; the number lies in a row of its own that rounds keep. -/
import Derived.Test.YtogkfpbapjjgfaaDoorFormsA
import Derived.Test.YtogkfpbapjjgfaaDoorRangeOwnN
namespace Go.Proofs.YtogkfpbapjjgfaaDoor
open Go.RowKit Go.Shelf

attribute [local go_sem] Oper.semAt_some

abbrev encP (x : Pl) : Array Value := #[.int .i64 (x.1 : Int)]
/-- What a round keeps: what lay below n₀; the cells from n₁ on. -/
def KC (n₀ n₁ : Nat) (W W' : World) : Prop := Below n₀ W W' ∧ ∀ (b : Nat) (o : Obj), n₁ ≤ b → W.heap[b]? = some o → o.isCells = true → W'.heap[b]? = some o
theorem KC.refl (n₀ n₁ : Nat) (W : World) : KC n₀ n₁ W W := ⟨Below.refl _ _, fun _ _ _ h _ => h⟩
theorem KC.trans {n₀ n₁ : Nat} {A B C : World} (h : KC n₀ n₁ A B) (k : KC n₀ n₁ B C) : KC n₀ n₁ A C := ⟨h.1.trans k.1, fun b o hb hx hc => k.2 b o hb (h.2 b o hb hx hc) hc⟩
theorem KC.put {n₀ n₁ : Nat} {w : World} (hw : n₀ ≤ w.heap.size) (W : World) (l : Nat) (o o' : Obj) (hn : w.heap.size ≤ l) (hl : W.heap[l]? = some o) (ho : o.isCells = false) (ho2 : o.isWalk = false) : KC n₀ n₁ W (W.putObj l o') :=
  ⟨belowK_b hw W l o o' hn hl ho ho2, fun b ob _ hx hc => by
    refine (World.putObj_heap_other (fun e => ?_)).trans hx
    subst e
    rw [hx] at hl
    cases hl
    rw [ho] at hc; cases hc⟩
theorem KC.res {n₀ n₁ : Nat} {W W' : World} {t : TypeId} {A : Option Addr} {c : Nat} {vs : List Value} (hk : KC n₀ n₁ W W') (h : Res W n₁ t A c vs) : Res W' n₁ t A c vs := ⟨h.1, h.2.1, fun hn => by
  obtain ⟨g, rest, e, hg, hb, hc⟩ := h.2.2 hn
  exact ⟨g, rest, e, hg, hk.2 g _ hg hb rfl, hc⟩⟩

def AllOnes (xs : List Nat) (pre : List Pl) : Prop := Good xs pre ∧ pre.length = pops xs

set_option maxRecDepth 100000 in
set_option maxHeartbeats 2000000 in
theorem bits_own (n Bk n₀ n₁ : Nat) (A : Option Addr) (c : Nat) (xs : List Nat) (hn : 1 ≤ n) (hd : Dig 4294967296 xs) (hm : xs.length ≤ 70368744177664) (w : World) (hBk : Boxed w Bk 23 (.slice A xs.length c))
    (hres : Res w n₁ 31 A c (u32s xs)) (hT : Tab32 w) (hlt : 0 < n₀) (hn0 : n₀ ≤ w.heap.size) :
    SeqOwn n Tryd.prog 43 #[.pointer (some ⟨Bk, 0, none⟩)] encP (KC n₀ n₁) (AllOnes xs) (Good xs) 1152921504606846976 w := by
  intro l J Jx W hW hJ hJx hY h0
  have hbk : Boxed W Bk 23 (.slice A xs.length c) := (hW.block _ hBk.lt).trans hBk
  have hresW := hres.below hW (Nat.le_refl _)
  have hTW := hT.below (hW.mono hn0) hlt
  have HY := Lib.hid hY
  have hpl := pops_le hd
  have hck := hbk.cell
  clear hW hJ hJx hY hBk hres hT hbk
  refine callsIn_of_wp Tryd.func43 rfl trivial ?_ rfl
  simp only [Tryd.ntmps43, List.size_toArray, List.length_cons, List.length_nil, Nat.reduceAdd, Nat.reduceSub, Array.replicate_succ, Array.replicate_zero, List.push_toArray, List.append_toArray, List.nil_append, List.cons_append]
  gi_wp2
  gi_loopw [3, 4, 7] (fun _ _ i wr => ∃ (k : Nat) (pre : List Pl), i = .int .i64 (k : Int) ∧ Limbs xs k pre ∧ J pre wr ∧ Res wr n₁ 31 A c (u32s xs) ∧ Tab32 wr) (fun _ _ i _ => xs.length - (intOf i).toNat)
  case atStart => exact ⟨0, [], rfl, Limbs.start xs, h0, hresW, hTW⟩
  case round =>
    clear hck h0 hresW hTW
    obtain ⟨k, pre, rfl, hlm, hJs, hres, hT⟩ := hrel
    have hk := hlm.le
    by_cases hkl : k < xs.length
    · obtain ⟨b, off, rfl, hb, hcell⟩ := hres.rd (by intro e; have := u32s_length xs; rw [e] at this; simp at this; omega)
      have hx := hcell k _ (u32s_at hkl)
      have hin := hlm.enter hd hkl
      have hxb := hd.at_ k hkl
      obtain ⟨x, hxe⟩ : ∃ x, x = xs[k] := ⟨_, rfl⟩
      rw [← hxe] at hx hin hxb
      have Hin := Lib.hid hin
      clear hcell hlm hxe hin
      gi_wp2_with fail
      gi_loopw [4] (fun xv wr => ∃ (y : Nat) (pre : List Pl), xv = .int .u32 (y : Int) ∧ Inner xs k y pre ∧ J pre wr ∧ Res wr n₁ 31 (some ⟨b, off, none⟩) c (u32s xs) ∧ Tab32 wr) (fun xv _ => (intOf xv).toNat)
      case atStart => exact ⟨x, pre, rfl, Hin.out, hJs, hres, hT⟩
      case round =>
        clear hJs hres hT Hin hx
        obtain ⟨y, pre, rfl, hin, hJs, hres, hT⟩ := hrel
        have hyb := hin.yb
        have Hin := Lib.hid hin
        by_cases h0 : y = 0
        · subst h0
          have Hl := Lib.hid hin.leave
          clear hin Hin
          gi_wp2_with fail
          go_roundw
          case rel => exact ⟨k + 1, pre, by go_num, Hl.out, hJs, hres, hT⟩
          case measure => simp [intOf]; omega
        · have hlow := low_of h0 hyb
          have hand : bits BinOp.and IntKind.u32 (y : Int) ((y : Int) - 1) = ((y &&& (y - 1) : Nat) : Int) := by
            rw [← bits_and_u32_nat y (y - 1) hyb (by omega)]; congr 1; omega
          have Htz := Lib.hid (fun W hW => tz32_any y hyb h0 W hW)
          obtain ⟨t, ht⟩ : ∃ t, t = Lib.ctz 32 y := ⟨_, rfl⟩
          obtain ⟨z, hz⟩ : ∃ z, z = y &&& (y - 1) := ⟨_, rfl⟩
          rw [← hz] at hand hlow
          rw [← ht] at hlow Htz
          have htl := hlow.lt
          have hzl := hlow.less
          have hlen : pre.length < 1152921504606846976 := by
            have h1 := hin.count
            have h2 : pops (xs.take (k + 1)) ≤ 32 * (xs.take (k + 1)).length := pops_le (hd.take_ _)
            rw [List.length_take] at h2
            omega
          have hpb : 32 * k + t < 1152921504606846976 := by omega
          obtain ⟨fn, tmps, assign, body, hy, hR⟩ := HY.out pre ⟨32 * k + t, hpb⟩ wr hJs hlen
          have Hok := Lib.hid (hin.ok hlow)
          have Hst := Lib.hid (hin.step hlow ⟨32 * k + t, hpb⟩ rfl)
          have Hgood := Lib.hid hin.good
          dsimp only [encP] at hy
          rw [show ((32 * k + t : Nat) : Int) = 32 * (k : Int) + (t : Int) from by omega] at hy
          have t1 : ((y : Int) == 0) = false := by simp; omega
          clear hin hlow ht hz hlen
          gi_wp2_with fail
          refine ⟨trivial, (callsIn_wide.2 (Htz.out _ hT)).mono ?_⟩
          rintro e _ ⟨rfl, rfl⟩
          gi_wp2_with fail
          refine hR.mono ?_
          rintro e W3 ⟨_, (⟨rfl, hJ3, hk3⟩ | ⟨rfl, hJx3⟩)⟩
          · have hres3 := hk3.res hres
            have hT3 := hT.below hk3.1 hlt
            clear hy hR hres hT hJs
            gi_wp2_with (simp only [hand])
            go_roundw
            case rel => exact ⟨z, pre ++ [⟨32 * k + t, hpb⟩], rfl, Hst.out, hJ3, hres3, hT3⟩
            case measure => simp [intOf]; omega
          · have Hg := Lib.hid (Hgood.out.step ⟨32 * k + t, hpb⟩ (by have := Hok.out.1; simp only [Int.natCast_add, Int.natCast_mul]; omega) Hok.out.2)
            clear hy hR hres hT hJs
            gi_wp2
            refine bodyPost_ret (results_none rfl _ _ _) rfl ?_
            exact ⟨⟨_, rfl⟩, .inr ⟨pre ++ [⟨32 * k + t, hpb⟩], Hg.out, hJx3⟩⟩
    · obtain rfl : k = xs.length := by omega
      have HA := Lib.hid (show AllOnes xs pre from ⟨hlm.good, by have := hlm.count; rwa [List.take_length] at this⟩)
      clear hlm
      gi_wp2
      go_end0
      exact ⟨⟨_, rfl⟩, .inl ⟨pre, HA.out, hJs⟩⟩
end Go.Proofs.YtogkfpbapjjgfaaDoor
