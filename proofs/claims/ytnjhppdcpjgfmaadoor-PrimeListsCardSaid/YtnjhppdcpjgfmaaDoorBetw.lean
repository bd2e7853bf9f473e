/- prime.Between as an iterator: the contract of its closure. Conditions: bases reads 2, 7, 61; the two ends lie in boxes of their own. -/
import Derived.RangeFuncBox

import Derived.RangeFuncWrites
import Derived.Test.YtnjhppdcpjgfmaaDoorRangeOwn
import Derived.Test.YtnjhppdcpjgfmaaDoorListP
namespace Go.Proofs.YtnjhppdcpjgfmaaDoor
open Go.RowKit Go.Shelf

attribute [local go_sem] Oper.semAt_some

theorem roundAny {l' : Nat} {m m' : Nat} {P : Program} {l : Nat} {f : FuncId} {tmps : Array Value} {assign body : Code} {w : World} {R : Ending → World → Prop} (h : RoundIn Fence.wide m P l f tmps assign body w R) : RoundIn (Fence.wide.inRound l') m' P l f tmps assign body w R := by
  exact ⟨h.1, fun c cs _ => h.2 c cs (room_wide _)⟩
/-- What a round keeps: what lay below n₀; the boxes from n₁ on. -/
def KB (n₀ n₁ : Nat) (W W' : World) : Prop := Below n₀ W W' ∧ ∀ (b : Nat) (t : TypeId) (v : Value), n₁ ≤ b → Boxed W b t v → Boxed W' b t v
theorem KB.trans {n₀ n₁ : Nat} {A B C : World} (h : KB n₀ n₁ A B) (k : KB n₀ n₁ B C) : KB n₀ n₁ A C := ⟨h.1.trans k.1, fun b t v hb hx => k.2 b t v hb (h.2 b t v hb hx)⟩
theorem KB.put {n₀ n₁ : Nat} {w : World} (hw : n₀ ≤ w.heap.size) (W : World) (l : Nat) (o o' : Obj) (hn : w.heap.size ≤ l) (hl : W.heap[l]? = some o) (ho : o.isCells = false) (ho2 : o.isWalk = false) : KB n₀ n₁ W (W.putObj l o') :=
  ⟨belowK_b hw W l o o' hn hl ho ho2, fun b t v _ hx => by
    refine (World.putObj_heap_other (fun e => ?_)).trans hx
    subst e
    rw [show W.heap[_]? = _ from hx] at hl
    cases hl; cases ho⟩
theorem mem_up {a b y : Nat} : y ∈ up a b ↔ a ≤ y ∧ y < b ∧ Pr y := by
  constructor
  · intro h
    obtain ⟨h1, h2⟩ := List.mem_filter.1 h
    obtain ⟨i, hi, rfl⟩ := List.mem_map.1 h1
    have := List.mem_range.1 hi
    refine ⟨by omega, by omega, ?_⟩
    rcases isP_cases (a + i) with ⟨hp, _⟩ | ⟨_, e⟩
    · exact hp
    · rw [e] at h2; cases h2
  · rintro ⟨h1, h2, h3⟩
    exact List.mem_filter.2 ⟨List.mem_map.2 ⟨y - a, List.mem_range.2 (by omega), by omega⟩, isP_true h3⟩
theorem up_cut {a c hi : Nat} (hc : hi + 1 ≤ c) (h : ∀ y ∈ up a c, y ≤ hi) : up a c = up a (hi + 1) := by
  rcases Nat.lt_or_ge (hi + 1) a with h1 | h1
  · have e1 : up a c = [] := List.eq_nil_iff_forall_not_mem.2 fun y hy => by
      have h2 := h y hy
      have := (mem_up.1 hy).1
      omega
    have e2 : up a (hi + 1) = [] := List.eq_nil_iff_forall_not_mem.2 fun y hy => by
      have := mem_up.1 hy
      omega
    rw [e1, e2]
  · have e := up_append h1 hc
    have e2 : up (hi + 1) c = [] := List.eq_nil_iff_forall_not_mem.2 fun y hy => by
      have h2 := h y (by rw [e]; exact List.mem_append_right _ hy)
      have := (mem_up.1 hy).1
      omega
    rw [e, e2, List.append_nil]
theorem ownMono {β : Type} {B B' : Nat} {I : β → World → Prop} (h : OwnFrom B I) (hB : B ≤ B') : OwnFrom B' I := fun s A C row hs hg hr => h s A C row hs hg fun r e => ⟨Nat.le_trans hB (hr r e).1, (hr r e).2⟩
theorem boxed_from {β : Type} (B b : Nat) (t : TypeId) (v : Value) : OwnFrom B (fun (_ : β) W => Boxed W b t v) := fun _ _ _ _ hs hg hr => hs.kept hg fun e => by
  obtain ⟨_, o, ho, hc⟩ := hr _ e.symm
  rw [show _ = _ from hs] at ho; cases ho; cases hc

theorem keepsMono {B B' : Nat} {X Y : World} (h : KeepsFrom B X Y) (hB : B ≤ B') : KeepsFrom B' X Y := ⟨h.size, fun k o hk => h.same k o (Nat.le_trans hB hk)⟩
/-- Between two rounds of the inner loop; and when one has left. -/
def BI (J : List U32 → World → Prop) (Bhi By hi l : Nat) (pre : List U32) (V : World) : Prop :=
  J pre V ∧ Boxed V Bhi 22 (.int .u32 (hi : Int)) ∧ Boxed V By 25 (.func (.yield l) #[] #[]) ∧ ∀ y ∈ pre, y.1 ≤ hi
def BX (J Jx : List U32 → World → Prop) (hi : Nat) (c : Code) (pre : List U32) (V : World) : Prop :=
  c = .ret ∧ ((∃ p x, pre = p ++ [x] ∧ hi < x.1 ∧ (∀ y ∈ p, y.1 ≤ hi) ∧ J p V) ∨ (∃ p x, pre = p ++ [x] ∧ x.1 ≤ hi ∧ Jx pre V))
theorem BI.own {J : List U32 → World → Prop} {B B' Bhi By hi l : Nat} (hJ : OwnFrom B J) (hB : B ≤ B') : OwnFrom B' (BI J Bhi By hi l) :=
  OwnFrom.and (ownMono hJ hB) (OwnFrom.and (boxed_from _ _ _ _) (OwnFrom.and (boxed_from _ _ _ _) (fun _ _ _ _ hs _ _ => hs)))
theorem BX.own {J Jx : List U32 → World → Prop} {B B' hi : Nat} (hJ : OwnFrom B J) (hJx : OwnFrom B Jx) (hB : B ≤ B') (c : Code) : OwnFrom B' (BX J Jx hi c) := by
  rintro s A C row ⟨h1, h2⟩ hg hr
  refine ⟨h1, h2.imp ?_ ?_⟩
  · rintro ⟨p, x, e1, e2, e3, e4⟩
    exact ⟨p, x, e1, e2, e3, ownMono hJ hB p A C row e4 hg hr⟩
  · rintro ⟨p, x, e1, e2, e3⟩
    exact ⟨p, x, e1, e2, ownMono hJx hB s A C row e3 hg hr⟩
def BetwAll (lo hi : Nat) (ys : List U32) : Prop := ys.map (·.1) = up lo (hi + 1)
def BetwPart (lo hi : Nat) (pre : List U32) : Prop := ∃ (p : List U32) (m : U32), pre = p ++ [m] ∧ lo ≤ m.1 ∧ m.1 ≤ hi ∧ Pr m.1 ∧ p.map (·.1) = up lo m.1

set_option maxRecDepth 100000 in
set_option maxHeartbeats 4000000 in
theorem between_own (n Blo Bhi n₀ n₁ lo hi : Nat) (hn : 3 ≤ n) (hlo : lo < 4294967296) (hhi : hi < 4294967296) (w : World) (hBlo : Boxed w Blo 22 (.int .u32 (lo : Int))) (hBhi : Boxed w Bhi 22 (.int .u32 (hi : Int)))
    (h1l : n₁ ≤ Blo) (h1h : n₁ ≤ Bhi) (hw : Bases w) (hlt : 0 < n₀) (hn01 : n₀ ≤ n₁) :
    SeqOwn n Tryd.prog 52 #[.pointer (some ⟨Blo, 0, none⟩), .pointer (some ⟨Bhi, 0, none⟩)] encU (KB n₀ n₁) (BetwAll lo hi) (BetwPart lo hi) 4294967296 w := by
  intro l J Jx W hW hJ hJx hY h0
  have hbl : Boxed W Blo 22 (.int .u32 (lo : Int)) := (hW.block _ hBlo.lt).trans hBlo
  have hbh : Boxed W Bhi 22 (.int .u32 (hi : Int)) := (hW.block _ hBhi.lt).trans hBhi
  have Hw := Lib.hid (hw.keep hW hw.lt)
  have HJ := Lib.hid hJ
  have HJx := Lib.hid hJx
  have HY := Lib.hid hY
  have H0 := Lib.hid h0
  have hn0W : n₀ ≤ W.heap.size := by
    have := hbl.lt
    omega
  have hcl := hbl.cell
  have hltl := hbl.lt
  have hlth := hbh.lt
  have h1 : 1 ≤ n := by omega
  clear hw hJ hJx hY h0 hBlo hBhi hW
  refine callsIn_of_wp_marks Tryd.func52 rfl trivial ?_ rfl
  simp only [Tryd.ntmps52, List.size_toArray, List.length_cons, List.length_nil, Nat.reduceAdd, Nat.reduceSub, Array.replicate_succ, Array.replicate_zero, List.push_toArray, List.append_toArray, List.nil_append, List.cons_append]
  gi_wp2_with fail
  refine ⟨trivial, (callsIn_wide.2 (rising_any lo _)).mono ?_⟩
  rintro e _ ⟨rfl, rfl⟩
  gi_wp2_with fail
  have bY := Boxed.new W 25 (.func (.yield l) #[] #[])
  have bR := Boxed.new (W.alloc (.cells #[.func (.yield l) #[] #[]] 25)) 22 (.int .u32 (lo : Int))
  simp only [World.size_alloc] at bR
  have hB0 : Below W.heap.size W ((W.alloc (.cells #[.func (.yield l) #[] #[]] 25)).alloc (.cells #[.int .u32 (lo : Int)] 22)) := ((Below.refl _ W).alloc (Nat.le_refl _) _).alloc (by simp) _
  refine wpIn_rangeFunc_ownG rfl h1 (gf := 63) (lb := #[.pointer (some ⟨W.heap.size + 1, 0, none⟩)]) rfl trivial (enters_of Tryd.func63 (by kernel_rfl) rfl)
    (rising_stops (n - 1) (by omega) (W.heap.size + 1) n₀ lo hlo _ (by simp) (by simp; omega) bR.cell (Hw.out.keep hB0 (by omega)) hlt) belowK_t (belowK_b (by simp; omega)) (Below.refl _ _) (fun _ => rfl)
    (BI J Bhi W.heap.size hi l) (BX J Jx hi) (BI.own HJ.out (by simp; omega)) (BX.own HJ.out HJx.out (by simp; omega))
    ⟨HJ.out.alloc _ (HJ.out.alloc _ H0.out), (hbh.alloc _).alloc _, bY.alloc _, fun y hy => by cases hy⟩
    ?act ?assign ?body ?done ?stop
  case assign =>
    intro l' x V K hK
    gi_wp2
    exact hK
  case body =>
    intro l' pre x V hI hlen
    obtain ⟨hj, hbh', hby', hall⟩ := hI
    have hch := hbh'.cell
    have hcy := hby'.cell
    obtain ⟨fn, tmps, assign, body, hy, hR⟩ := HY.out pre x V hj hlen
    have Hall := Lib.hid hall
    have Hj := Lib.hid hj
    clear hlen bY bR hB0 hall hj hcl
    obtain ⟨xv, hxv⟩ := x
    by_cases hx : hi < xv
    · have t1 : decide ((hi : Int) < (xv : Int)) = true := by simp; omega
      have HX := Lib.hid (show BX J Jx hi .ret (pre ++ [⟨xv, hxv⟩]) V from ⟨rfl, Or.inl ⟨pre, _, rfl, hx, Hall.out, Hj.out⟩⟩)
      clear hy hR
      gi_wp2
      refine ⟨fun _ h => (by cases h), ?_⟩
      gi_wp2
      exact ⟨KeepsFrom.refl _ _, HX.out⟩
    · have t1 : decide ((hi : Int) < (xv : Int)) = false := by simp; omega
      have hle : xv ≤ hi := by omega
      dsimp only [encU] at hy
      gi_wp2_with fail
      refine ⟨fun h => (by cases h), (roundAny hR).mono ?_⟩
      rintro e V3 ⟨hkf, (⟨rfl, hJ3, hk3⟩ | ⟨rfl, hJx3⟩)⟩
      · have HI3 := Lib.hid (show BI J Bhi W.heap.size hi l (pre ++ [⟨xv, hxv⟩]) V3 from ⟨hJ3, hk3.2 _ _ _ h1h hbh', hk3.2 _ _ _ (by omega) hby', fun y hy2 => by
          rcases List.mem_append.1 hy2 with h | h
          · exact Hall.out y h
          · rw [List.mem_singleton.1 h]; exact hle⟩)
        have HK := Lib.hid hk3.1
        have HF := Lib.hid hkf
        clear hJ3 hk3 hkf hch hcy
        gi_wp2
        exact ⟨keepsMono HF.out (by simp; omega), HK.out, HI3.out⟩
      · have HX := Lib.hid (show BX J Jx hi .ret (pre ++ [⟨xv, hxv⟩]) V3 from ⟨rfl, Or.inr ⟨pre, _, rfl, hle, hJx3⟩⟩)
        have HF := Lib.hid hkf
        clear hJx3 hkf hch hcy
        gi_wp2
        exact ⟨keepsMono HF.out (by simp; omega), HX.out⟩
  case done =>
    rintro D ys V hD hys ⟨hj, hbh', hby', hall⟩ hK
    have HS := Lib.hid (show BetwAll lo hi ys from by
      unfold BetwAll
      rw [show ys.map (·.1) = up lo 4294967296 from hys]
      refine up_cut (by omega) fun y hy => ?_
      rw [← show ys.map (·.1) = up lo 4294967296 from hys] at hy
      obtain ⟨z, hz, rfl⟩ := List.mem_map.1 hy
      exact hall z hz)
    have Hj := Lib.hid (HJ.out.putObj (.deferred none) hj (show W.heap.size ≤ D by simp at hD; omega) hK rfl)
    clear hys hall hj bY bR hB0 hcl
    gi_wp2
    refine ⟨by simp, .inl ⟨_, _, rfl, run_takeDeferred hK, ?_⟩⟩
    exact ⟨_, results_none rfl _ _ _, ⟨_, rfl⟩, .inl ⟨ys, HS.out, Hj.out⟩⟩
  case stop =>
    rintro D c pre V hD ⟨p, q, rfl, hq1, hq2, hq3⟩ ⟨rfl, ⟨p', x, he, hx, hall, hj⟩ | ⟨p', x, he, hx, hjx⟩⟩ hK
    · obtain ⟨rfl, hqx⟩ := List.append_inj' he rfl
      obtain rfl : q = x := by simpa using hqx
      have HS := Lib.hid (show BetwAll lo hi p from by
        unfold BetwAll
        rw [hq3]
        refine up_cut (by omega) fun y hy => ?_
        rw [← hq3] at hy
        obtain ⟨z, hz, rfl⟩ := List.mem_map.1 hy
        exact hall z hz)
      have Hj := Lib.hid (HJ.out.putObj (.deferred none) hj (show W.heap.size ≤ D by simp at hD; omega) hK rfl)
      clear hall hj bY bR hB0 hcl hq3
      gi_wp2
      refine ⟨by simp, .inl ⟨_, _, rfl, run_takeDeferred hK, ?_⟩⟩
      exact ⟨_, results_none rfl _ _ _, ⟨_, rfl⟩, .inl ⟨p, HS.out, Hj.out⟩⟩
    · obtain ⟨rfl, hqx⟩ := List.append_inj' he rfl
      obtain rfl : q = x := by simpa using hqx
      have HS := Lib.hid (show BetwPart lo hi (p ++ [q]) from ⟨p, q, rfl, hq1, hx, hq2, hq3⟩)
      have Hj := Lib.hid (HJx.out.putObj (.deferred none) hjx (show W.heap.size ≤ D by simp at hD; omega) hK rfl)
      clear hjx bY bR hB0 hcl hq3
      gi_wp2
      refine ⟨by simp, .inl ⟨_, _, rfl, run_takeDeferred hK, ?_⟩⟩
      exact ⟨_, results_none rfl _ _ _, ⟨_, rfl⟩, .inr ⟨p ++ [q], HS.out, Hj.out⟩⟩
end Go.Proofs.YtnjhppdcpjgfmaaDoor
