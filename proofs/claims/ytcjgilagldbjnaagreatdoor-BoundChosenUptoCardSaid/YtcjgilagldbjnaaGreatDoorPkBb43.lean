/- bound.Choose. bound.Choose where it refuses. -/
import Derived.Test.YtcjgilagldbjnaaGreatDoorPkBb41
import Derived.Test.YtcjgilagldbjnaaGreatDoorPkBb29
import Derived.Test.YtcjgilagldbjnaaGreatDoorPkBb42
import Derived.Test.YtcjgilagldbjnaaGreatDoorPkBb39
import Derived.Sort.CutIn
import Derived.LoopIn
namespace Go.Proofs.YtcjgilagldbjnaaGreatDoor
section
open Go.RowKit Go.Shelf
attribute [local go_sem] Oper.semAt_some
theorem apart_any (g : Bool) (A : Option Addr) (l0 c : Nat) (w : World) : Calls Tryz.prog 21 #[.agg #[.bool g, .slice A l0 c]] w fun e w' => e = .returned (.func (.func 40) #[] #[.pointer (some ⟨w.heap.size, 0, none⟩)]) ∧ w' = w.alloc (.cells #[.bool g, .slice A l0 c] 25) := by
 go_enter Tryz.func21, Tryz.ntmps21
 go_wp2
 go_ret
 exact ⟨rfl, rfl⟩
section
variable {A C : World} {B B' : Nat} {row : Option Nat}
theorem nc_cell (hg : A.grownBy C row) (hr : ∀ r, row = some r → B ≤ r ∧ ∃ o : Obj, A.heap[r]? = some o ∧ o.isCells = false) {p : Addr} {v : Value} (h : A.cell? p = some v) : C.cell? p = some v :=
 hg.cell h fun e => by
  obtain ⟨_, o, ho, hc⟩ := hr _ e.symm
  cases o <;> simp_all [World.cell?, Obj.isCells]
theorem Rd.nc {P : Option Addr} {vs : List Value} (hg : A.grownBy C row) (hr : ∀ r, row = some r → B ≤ r ∧ ∃ o : Obj, A.heap[r]? = some o ∧ o.isCells = false) (h : Rd A B' P vs) : Rd C B' P vs := fun hn => by
 obtain ⟨b, off, e, hb, hc⟩ := h hn
 exact ⟨b, off, e, hb, fun k v hv => nc_cell hg hr (hc k v hv)⟩
theorem Blk.nc {k : Nat} {t : TypeId} {vs : List Value} (hg : A.grownBy C row) (hr : ∀ r, row = some r → B ≤ r ∧ ∃ o : Obj, A.heap[r]? = some o ∧ o.isCells = false) (h : Blk A k t vs) : Blk C k t vs :=
 (hg.block k h.lt fun e => by
  obtain ⟨_, o, ho, hc⟩ := hr _ e.symm
  have h9 : A.heap[k]? = some (.cells vs.toArray t (0, 0)) := h
  rw [h9] at ho
  cases ho
  cases hc).trans h
theorem Hv.nc {c n K : Nat} {P : Option Addr} {xs : List Nat} (hg : A.grownBy C row) (hr : ∀ r, row = some r → B ≤ r ∧ ∃ o : Obj, A.heap[r]? = some o ∧ o.isCells = false) (h : Hv A P c xs n K) : Hv C P c xs n K := ⟨h.dig, h.val_, (h.rd.nc hg hr).mono hg.size, h.cap, h.len⟩
theorem Rw9.nc {c : Nat} {P : Option Addr} {R : List Nat} (hg : A.grownBy C row) (hr : ∀ r, row = some r → B ≤ r ∧ ∃ o : Obj, A.heap[r]? = some o ∧ o.isCells = false) (h : Rw9 A B' P c R) : Rw9 C B' P c R :=
 h.kept hg (by
  cases hb : (Value.slice P R.length c).ownBlock with
  | none => exact .inl rfl
  | some k =>
   refine .inr fun e => ?_
   obtain ⟨_, o, ho, hc⟩ := hr _ e.symm
   obtain ⟨cc, fz, h2⟩ := Lib.ownsRow_kind h k hb
   rw [h2] at ho
   cases ho
   cases hc)
theorem below_nc {A0 : World} (hg : A.grownBy C row) (hr : ∀ r, row = some r → B ≤ r ∧ ∃ o : Obj, A.heap[r]? = some o ∧ o.isCells = false) (h : Below B' A0 A) (hB : B' ≤ B) (hs : B' ≤ A0.heap.size) : Below B' A0 C :=
 h.trans ⟨hg.os, hg.tape, hg.output, hg.size, fun k hk => hg.block k (by have := h.size; omega) fun e => by have := (hr k e.symm).1; omega⟩
end
theorem ko_below {W W' : World} (hb : Below W.heap.size W W') : KeepsOthers W W' := KeepsOthers.of_grownBy (row := none) ⟨hb.os, hb.tape, hb.output, hb.size, fun k hk _ => hb.block k hk⟩ (fun j o e => by cases e)
def ns (pre : List U32) : List Nat := pre.map (fun x : U32 => x.1)
theorem ns_snoc (pre : List U32) (x : U32) : ns (pre ++ [x]) = ns pre ++ [x.1] := by simp [ns]
def CSt (r Bd : Nat) (W5 : World) (t : Nat) (R : List Nat) (W : World) : Prop := R.length ≤ 10000 ∧ (∀ i, i < R.length → prodL9 (R.take i) ≤ t) ∧ (∀ x ∈ R, x < 4294967296) ∧ Below r W5 W ∧
 ∃ (zs : List Nat) (Am AR : Option Addr) (cm cR : Nat), Blk W r 55 [.slice Am zs.length cm, .slice AR R.length cR] ∧ Hv W Am cm zs (prodL9 R) (R.length + 1) ∧ Rw9 W (Bd + 1) AR cR R
theorem CSt.nc {r Bd t B : Nat} {W5 A C : World} {R : List Nat} {row : Option Nat} (hB : r ≤ B) (hs : r ≤ W5.heap.size) (hg : A.grownBy C row) (hr : ∀ r, row = some r → B ≤ r ∧ ∃ o : Obj, A.heap[r]? = some o ∧ o.isCells = false) (h : CSt r Bd W5 t R A) : CSt r Bd W5 t R C := by
 obtain ⟨h1, h2, h3, h4, zs, Am, AR, cm, cR, h5, h6, h7⟩ := h
 exact ⟨h1, h2, h3, below_nc hg hr h4 hB hs, zs, Am, AR, cm, cR, h5.nc hg hr, h6.nc hg hr, h7.nc hg hr⟩
theorem CSt.below {r Bd t : Nat} {W5 A C : World} {R : List Nat} (hs : r ≤ W5.heap.size) (h : CSt r Bd W5 t R A) (hb : Below A.heap.size A C) : CSt r Bd W5 t R C :=
 CSt.nc (row := none) (Nat.le_refl r) hs ⟨hb.os, hb.tape, hb.output, hb.size, fun k hk _ => hb.block k hk⟩ (fun j e => by cases e) h
def CEx (r Bd h0 gA gB id : Nat) (W5 w : World) (t : Nat) (c : Code) (pre : List U32) (W : World) : Prop := ∃ p x, pre = p ++ [x] ∧
 ((c = .exit id ∧ t < prodL9 (ns p) ∧ CSt r Bd W5 t (ns p) W) ∨
  (c = .ret ∧ p.length = 10000 ∧ (∀ i, i ≤ 10000 → prodL9 ((ns p).take i) ≤ t) ∧ Below h0 w W ∧ Blk W gA 22 [.slice none 0 0] ∧ Blk W gB 28 [.int .i64 4]))
theorem rw9_rd {w : World} {B c : Nat} {A : Option Addr} {R : List Nat} (h : Rw9 w B A c R) : Rd w w.heap.size A (u32s R) ∧ R.length ≤ c := by
 have h0 := h
 obtain ⟨_, ⟨hv, hn⟩ | ⟨g, cap, cur, hv, hbg, hgh, hnc, _⟩⟩ := h
 ·have hR : R = [] := List.length_eq_zero_iff.1 hn
  subst hR
  exact ⟨Rd.nil_, Nat.zero_le _⟩
 ·injection hv with h1 h2 h3
  subst h1 h3
  refine ⟨fun _ => ⟨g, 0, rfl, (Array.getElem?_eq_some_iff.1 hgh).1, fun k v hk => ?_⟩, hnc⟩
  have h9 := h0.cells (g := g) rfl k v hk
  rwa [show (⟨g, 0, none⟩ : Addr).add k = ⟨g, 0 + k, none⟩ from by unfold Addr.add; split <;> simp_all] at h9
def ChOut (w : World) (out : List Nat) (code : Nat) (e : Ending) (W' : World) : Prop := ∃ A' c', e = .returned (.tuple #[.slice A' out.length c', .int .i64 (code : Int)]) ∧ Rd W' W'.heap.size A' (u32s out) ∧ out.length ≤ c' ∧ Below w.heap.size w W'
set_option maxRecDepth 20000 in
set_option maxHeartbeats 6400000 in
theorem choose_in {g g2 : Bool} {A A2 : Option Addr} {c c2 K J code : Nat} {xs ys out : List Nat} {d z : Int} (m : Nat) (hm : 3 ≤ m) (w : World) (h : Zh w g A c xs d K) (h2 : Zh w g2 A2 c2 ys z J) (hK : K ≤ 67108862) (hJ : J ≤ 67108862) (hd : d ≠ 0) (hz : 0 ≤ z) (hw : Bases w)
  (hmany : 10000 < (Cs d 0).length) (hE : ChIs (Cs d 0) (z.natAbs + z.natAbs) out code) :
  CallsIn Fence.wide m Tryz.prog 7 #[.agg #[.bool g, .slice A xs.length c], .agg #[.bool g2, .slice A2 ys.length c2]] w (ChOut w out code) := by
 have SG : Hid (∀ W (_ : Below w.heap.size w W), Calls Tryz.prog 18 #[.agg #[.bool g, .slice A xs.length c]] W fun e w' => e = .returned (.int .i64 d.sign) ∧ Below W.heap.size W w') := fun W hW => (h.next hW).sign (by omega)
 have SG2 : Hid (∀ W (_ : Below w.heap.size w W), Calls Tryz.prog 18 #[.agg #[.bool g2, .slice A2 ys.length c2]] W fun e w' => e = .returned (.int .i64 z.sign) ∧ Below W.heap.size W w') := fun W hW => (h2.next hW).sign (by omega)
 have AD : Hid (∀ W (_ : Below w.heap.size w W), Calls Tryz.prog 19 #[.slice A2 ys.length c2, .slice A2 ys.length c2] W fun e w' => NOut W w' (z.natAbs + z.natAbs) e) := fun W hW => (h2.next hW).hv.addN (h2.next hW).hv (by omega) (by omega)
 have OF : Hid (∀ W, Calls Tryz.prog 20 #[.int .u64 1] W fun e w' => NOut W w' 1 e) := fun W => of_out 1 (by omega) W
 have LS : Hid (∀ (k r : Nat) (ok : Bool), k < 4294967296 → LastIs k r ok → ∀ W (_ : Below w.heap.size w W), Calls Tryz.prog 41 #[.int .u32 (k : Int)] W fun e w' => e = .returned (.tuple #[.int .u32 (r : Int), .bool ok]) ∧ Below W.heap.size W w') := fun k r ok hk hl W hW => last_any k r ok hk hl W (hw.keep hW hw.lt)
 have MD : Hid (∀ p : Nat, 0 < p → p < 4294967296 → ∀ W (_ : Below w.heap.size w W), Calls Tryz.prog 42 #[.agg #[.bool g, .slice A xs.length c], .int .u32 (p : Int)] W fun e w' => e = .returned (.tuple #[.int .u32 (d % (p : Int)), .int .i64 0]) ∧ Below W.heap.size W w') := fun p hp0 hp W hW => zmod_any (h.next hW) (by omega) p hp0 hp
 have HT : Hid (z.natAbs + z.natAbs < 4294967296 ^ (J + 1)) := by have h9 := h2.hv.lt; show _ < _; rw [Nat.pow_succ]; omega
 obtain ⟨l0, hl0⟩ : ∃ l0, l0 = xs.length := ⟨_, rfl⟩
 rw [← hl0] at SG MD ⊢
 have e1 : (d == 0) = false := beq_eq_false_iff_ne.2 hd
 have e2 : (d.sign == 0) = false := beq_eq_false_iff_ne.2 fun h => hd (Int.sign_eq_zero_iff_zero.1 h)
 have e5 : ¬ z < 0 := by omega
 have e3 : decide (z < 0) = false := decide_eq_false e5
 have e4 : decide (z.sign < 0) = false := decide_eq_false fun h => e5 (Int.sign_neg_iff.1 h)
 obtain ⟨t, ht⟩ : ∃ t, t = z.natAbs + z.natAbs := ⟨_, rfl⟩
 rw [← ht] at AD HT hE
 have HE := hi9 hE
 have HM := hi9 hmany
 clear h h2 hE hmany ht hl0 hd hz hw e5
 refine callsIn_of_wp_marks Tryz.func7 rfl trivial ?_ rfl
 simp only [Tryz.ntmps7, List.size_toArray, List.length_cons, List.length_nil, Nat.reduceAdd, Nat.reduceSub, Array.replicate_succ, Array.replicate_zero, List.push_toArray, List.append_toArray, List.nil_append, List.cons_append]
 have k0 : Below w.heap.size w ((((w.alloc (.cells #[.bool g, .slice A l0 c] 25)).alloc (.cells #[.bool g2, .slice A2 ys.length c2] 25)).alloc (.cells #[.slice none 0 0] 22)).alloc (.cells #[.int .i64 0] 28)) := ((bel_two _ _ _).alloc (by simp; omega) _).alloc (by simp; omega) _
 have b0 : Blk ((((w.alloc (.cells #[.bool g, .slice A l0 c] 25)).alloc (.cells #[.bool g2, .slice A2 ys.length c2] 25)).alloc (.cells #[.slice none 0 0] 22)).alloc (.cells #[.int .i64 0] 28)) w.heap.size 25 [.bool g, .slice A l0 c] := (((Blk.new_ rfl).heapAlloc _).heapAlloc _).heapAlloc _
 have b1 : Blk ((((w.alloc (.cells #[.bool g, .slice A l0 c] 25)).alloc (.cells #[.bool g2, .slice A2 ys.length c2] 25)).alloc (.cells #[.slice none 0 0] 22)).alloc (.cells #[.int .i64 0] 28)) (w.heap.size + 1) 25 [.bool g2, .slice A2 ys.length c2] := by
  have h9 : Blk ((w.alloc (.cells #[.bool g, .slice A l0 c] 25)).alloc (.cells #[.bool g2, .slice A2 ys.length c2] 25)) (w.alloc (.cells #[.bool g, .slice A l0 c] 25)).heap.size 25 [.bool g2, .slice A2 ys.length c2] := Blk.new_ rfl
  rw [World.size_alloc] at h9
  exact (h9.heapAlloc _).heapAlloc _
 have b2 : Blk ((((w.alloc (.cells #[.bool g, .slice A l0 c] 25)).alloc (.cells #[.bool g2, .slice A2 ys.length c2] 25)).alloc (.cells #[.slice none 0 0] 22)).alloc (.cells #[.int .i64 0] 28)) (w.heap.size + 1 + 1) 22 [.slice none 0 0] := by
  have h9 : Blk (((w.alloc (.cells #[.bool g, .slice A l0 c] 25)).alloc (.cells #[.bool g2, .slice A2 ys.length c2] 25)).alloc (.cells #[.slice none 0 0] 22)) ((w.alloc (.cells #[.bool g, .slice A l0 c] 25)).alloc (.cells #[.bool g2, .slice A2 ys.length c2] 25)).heap.size 22 [.slice none 0 0] := Blk.new_ rfl
  rw [World.size_alloc, World.size_alloc] at h9
  exact h9.heapAlloc _
 have b3 : Blk ((((w.alloc (.cells #[.bool g, .slice A l0 c] 25)).alloc (.cells #[.bool g2, .slice A2 ys.length c2] 25)).alloc (.cells #[.slice none 0 0] 22)).alloc (.cells #[.int .i64 0] 28)) (w.heap.size + 1 + 1 + 1) 28 [.int .i64 0] := by
  have h9 : Blk ((((w.alloc (.cells #[.bool g, .slice A l0 c] 25)).alloc (.cells #[.bool g2, .slice A2 ys.length c2] 25)).alloc (.cells #[.slice none 0 0] 22)).alloc (.cells #[.int .i64 0] 28)) (((w.alloc (.cells #[.bool g, .slice A l0 c] 25)).alloc (.cells #[.bool g2, .slice A2 ys.length c2] 25)).alloc (.cells #[.slice none 0 0] 22)).heap.size 28 [.int .i64 0] := Blk.new_ rfl
  rwa [World.size_alloc, World.size_alloc, World.size_alloc] at h9
 gi_wp2_with fail
 obtain ⟨W0, hW0⟩ : ∃ v, v = (((w.alloc (.cells #[.bool g, .slice A l0 c] 25)).alloc (.cells #[.bool g2, .slice A2 ys.length c2] 25)).alloc (.cells #[.slice none 0 0] 22)).alloc (.cells #[.int .i64 0] 28) := ⟨_, rfl⟩
 have s0 : Hid (W0.heap.size = w.heap.size + 4) := by show _ = _; rw [hW0]; simp
 rw [← hW0] at k0 b0 b1 b2 b3 ⊢
 obtain ⟨gA, hgA⟩ : ∃ g, g = w.heap.size + 1 + 1 := ⟨_, rfl⟩
 obtain ⟨gB, hgB⟩ : ∃ g, g = w.heap.size + 1 + 1 + 1 := ⟨_, rfl⟩
 rw [← hgB, ← hgA]
 rw [← hgA] at b2
 rw [← hgB] at b3
 have nAB : Hid (gA ≠ gB ∧ w.heap.size ≤ gA ∧ w.heap.size ≤ gB ∧ gA < w.heap.size + 4 ∧ gB < w.heap.size + 4) := by show _ ∧ _; omega
 clear hW0 hgA hgB
 refine ⟨trivial, fun _ => by omega, (callsIn_wide.2 (SG.out _ k0)).mono ?_⟩
 rintro e w1 ⟨rfl, hb⟩
 have s1 := hi9 hb.size
 have k1 := bst k0 hb nl9
 have b0 := b0.below hb b0.lt
 have b1 := b1.below hb b1.lt
 have b2 := b2.below hb b2.lt
 have b3 := b3.below hb b3.lt
 obtain ⟨p0, p1, p2, p3⟩ := b0.two
 obtain ⟨q0, q1, q2, q3⟩ := b1.two
 clear hb SG k0
 gi_wp2_with fail
 refine ⟨trivial, fun _ => by omega, (callsIn_wide.2 (SG2.out _ k1)).mono ?_⟩
 rintro e w2 ⟨rfl, hb⟩
 have s2 := hi9 hb.size
 have k2 := bst k1 hb nl9
 have b0 := b0.below hb b0.lt
 have b1 := b1.below hb b1.lt
 have b2 := b2.below hb b2.lt
 have b3 := b3.below hb b3.lt
 clear p0 p1 p2 p3 q0 q1 q2 q3
 obtain ⟨q0, q1, q2, q3⟩ := b1.two
 clear hb SG2 k1
 gi_wp2_with fail
 refine ⟨trivial, fun _ => by omega, (callsIn_wide.2 (AD.out _ k2)).mono ?_⟩
 rintro e w3 ⟨ts, At, ct, rfl, hts, hrt, hb⟩
 have s3 := hi9 hb.size
 have kA := bel_one w3 (.cells #[.slice At ts.length ct] 51)
 have bT : Blk (w3.alloc (.cells #[.slice At ts.length ct] 51)) w3.heap.size 51 [.slice At ts.length ct] := Blk.new_ rfl
 have k3 := bst (bst k2 hb nl9) kA nl9
 have b0 := (b0.below hb b0.lt).heapAlloc (.cells #[.slice At ts.length ct] 51)
 have b2 := (b2.below hb b2.lt).heapAlloc (.cells #[.slice At ts.length ct] 51)
 have b3 := (b3.below hb b3.lt).heapAlloc (.cells #[.slice At ts.length ct] 51)
 have rT := hrt.rd.below kA
 have vT : Hid (Dig 4294967296 ts ∧ val 4294967296 ts = t ∧ ts.length ≤ ct ∧ ts.length ≤ J + 1) := ⟨hts.1, hts.2.2, by have := hrt.1; rwa [u32s_length] at this, num32_len hts nl9 HT.out⟩
 clear hb q0 q1 q2 q3 b1 kA hts hrt k2 AD
 gi_upto_region 6 with fail
 obtain ⟨W4, hW4⟩ : ∃ v, v = w3.alloc (.cells #[.slice At ts.length ct] 51) := ⟨_, rfl⟩
 have s4 : Hid (W4.heap.size = w3.heap.size + 1) := by show _ = _; rw [hW4]; simp
 rw [← hW4] at bT k3 b0 b2 b3 rT ⊢
 obtain ⟨gT, hgT⟩ : ∃ gT, gT = w3.heap.size := ⟨_, rfl⟩
 rw [← hgT] at bT rT s4 s3 ⊢
 clear hW4 hgT
 gi_wp2_with fail
 refine ⟨trivial, fun _ => by omega, (callsIn_wide.2 (OF.out _)).mono ?_⟩
 rintro e w5 ⟨os, Ao, co, rfl, hzo, hro, hb⟩
 have s5 := hi9 hb.size
 have br : Blk (w5.alloc (.cells #[.slice Ao os.length co, .slice none 0 0] 55)) w5.heap.size 55 [.slice Ao os.length co, .slice none 0 0] := Blk.new_ rfl
 have kO := bel_one w5 (.cells #[.slice Ao os.length co, .slice none 0 0] 55)
 have hmv : Hv (w5.alloc (.cells #[.slice Ao os.length co, .slice none 0 0] 55)) Ao co os (prodL9 []) (0 + 1) := (Hv.of hzo hro (by simp)).next kO
 have b0 := (b0.below hb b0.lt).below kO (by have := b0.lt; have := s5.out; omega)
 have b2 := (b2.below hb b2.lt).below kO (by have := b2.lt; have := s5.out; omega)
 have b3 := (b3.below hb b3.lt).below kO (by have := b3.lt; have := s5.out; omega)
 have bT := (bT.below hb bT.lt).below kO (by have := bT.lt; have := s5.out; omega)
 have rT := (rT.below (hb.mono (by have := s4.out; omega))).below (kO.mono (by have := s4.out; have := s5.out; omega))
 have k5 := bst (bst k3 hb nl9) kO nl9
 clear hb hzo hro kO k3
 gi_upto_region 7 with fail
 obtain ⟨W5, hW5⟩ : ∃ v, v = w5.alloc (.cells #[.slice Ao os.length co, .slice none 0 0] 55) := ⟨_, rfl⟩
 have s6 : Hid (W5.heap.size = w5.heap.size + 1) := by show _ = _; rw [hW5]; simp
 rw [← hW5] at br hmv b0 b2 b3 bT rT k5 ⊢
 obtain ⟨r, hr⟩ : ∃ r, r = w5.heap.size := ⟨_, rfl⟩
 rw [← hr] at br s6 s5 ⊢
 clear hW5 hr OF
 obtain ⟨p0, p1, p2, p3⟩ := b0.two
 gi_wp2_with fail
 refine ⟨trivial, fun _ => by omega, (callsIn_wide.2 (apart_any g A l0 c W5)).mono ?_⟩
 rintro e _ ⟨rfl, rfl⟩
 have kB := bel_one W5 (.cells #[.bool g, .slice A l0 c] 25)
 have bD : Blk (W5.alloc (.cells #[.bool g, .slice A l0 c] 25)) W5.heap.size 25 [.bool g, .slice A l0 c] := Blk.new_ rfl
 clear p0 p1 p2 p3
 have b2 := b2.below kB b2.lt
 have b3 := b3.below kB b3.lt
 have bT := bT.below kB bT.lt
 have br := br.below kB br.lt
 have rT := rT.below (kB.mono (by have := s4.out; have := s5.out; have := s6.out; omega))
 have k5 := bst k5 kB nl9
 have hmv := hmv.next kB
 have rw0 : Rw9 (W5.alloc (.cells #[.bool g, .slice A l0 c] 25)) (W5.heap.size + 1) none 0 [] := World.ownsRow_nil _ _ _ _
 have xN : ∀ (p : Value) (W : World), Sem.run Tryz.prog (binOp BinOp.eql 57 (.func (.func 40) #[] #[p]) .nilFunc) W = .ok (.bool false) W := fun _ _ => by kernel_rfl
 obtain ⟨W6, hW6⟩ : ∃ v, v = W5.alloc (.cells #[.bool g, .slice A l0 c] 25) := ⟨_, rfl⟩
 have s7 : Hid (W6.heap.size = W5.heap.size + 1) := by show _ = _; rw [hW6]; simp
 rw [← hW6] at b2 b3 bT br rT k5 hmv rw0 bD ⊢
 obtain ⟨Bd, hBd⟩ : ∃ r, r = W5.heap.size := ⟨_, rfl⟩
 rw [← hBd] at bD s6 s7 rw0 ⊢
 clear hW6 hBd kB b0
 have hrW : r ≤ W6.heap.size := by have := s6.out; have := s7.out; omega
 have hwr : w.heap.size ≤ r := by have := k5.size; have := nAB.out; have := b2.lt; have := s0.out; have := s1.out; have := s2.out; have := s3.out; have := s4.out; have := s5.out; omega
 have hgT : gT < r := by have := s4.out; have := s5.out; omega
 have hAr : gA < r ∧ gB < r := by have := nAB.out; have := s0.out; have := s1.out; have := s2.out; have := s3.out; have := s4.out; have := s5.out; omega
 have HS : Hid (r < Bd ∧ Bd < W6.heap.size) := by show _ ∧ _; have := s6.out; have := s7.out; omega
 have LS6 : Hid (∀ (k r0 : Nat) (ok : Bool), k < 4294967296 → LastIs k r0 ok → ∀ W (_ : Below r W6 W), Calls Tryz.prog 41 #[.int .u32 (k : Int)] W fun e w' => e = .returned (.tuple #[.int .u32 (r0 : Int), .bool ok]) ∧ Below W.heap.size W w') := fun k r0 ok hk hl W hW => LS.out k r0 ok hk hl W (k5.trans (hW.mono hwr))
 have MD6 : Hid (∀ p : Nat, 0 < p → p < 4294967296 → ∀ W (_ : Below r W6 W), Calls Tryz.prog 42 #[.agg #[.bool g, .slice A l0 c], .int .u32 (p : Int)] W fun e w' => e = .returned (.tuple #[.int .u32 (d % (p : Int)), .int .i64 0]) ∧ Below W.heap.size W w') := fun p hp0 hp W hW => MD.out p hp0 hp W (k5.trans (hW.mono hwr))
 have hC0 : CSt r Bd W6 t [] W6 := ⟨Nat.zero_le _, fun i hi => absurd hi (Nat.not_lt_zero _), (fun _ h => by cases h), br9, os, Ao, none, co, 0, br, hmv, rw0⟩
 have HC0 := hi9 hC0
 have BT := hi9 bT
 have RT := hi9 rT
 have BA := hi9 b2
 have BB := hi9 b3
 have K5 := hi9 k5
 have AR := hi9 hAr
 clear hC0 bT rT b2 b3 k5 hmv rw0 br LS MD s0 s1 s2 s3 s4 s5 s6 s7 hAr
 gi_wp2_with fail
 refine range_own (by omega) (gf := 40) (lb := #[.pointer (some ⟨Bd, 0, none⟩)]) rfl (enters_of Tryz.func40 (by kernel_rfl) rfl)
  (apart_own (m - 1) Bd r g A c l0 d (by omega) W6 bD hrW LS6 MD6) KA.trans (KA.put hrW) (fun _ => rfl)
  (fun pre W => CSt r Bd W6 t (ns pre) W) (fun cc pre W => CEx r Bd w.heap.size gA gB 1 W6 w t cc pre W) (fun s A C row hs hg hr => hs.nc hrW hrW hg hr) (fun cc s A C row hs hg hr => ?ownx) HC0.out ?act ?assign ?body ?done ?stop
 case ownx =>
  obtain ⟨p, x, rfl, h | ⟨h1, h2, h3, h4, h5, h6⟩⟩ := hs
  ·exact ⟨p, x, rfl, .inl ⟨h.1, h.2.1, h.2.2.nc hrW hrW hg hr⟩⟩
  ·exact ⟨p, x, rfl, .inr ⟨h1, h2, h3, below_nc hg hr h4 K5.out.size nl9, h5.nc hg hr, h6.nc hg hr⟩⟩
 case assign =>
  intro l x W K hK
  gi_wp2
  exact hK
 case body =>
  intro l pre x W hI hlen
  clear hlen
  obtain ⟨R, hR⟩ : ∃ R, R = ns pre := ⟨_, rfl⟩
  have hI2 : CSt r Bd W6 t R W := by rw [hR]; exact hI
  have HI2 := hi9 hI2
  obtain ⟨h1, h2, h3, h4, zs, Am, AQ, cm, cR, h5, h6, h7⟩ := hI2
  have bTW := BT.out.below h4 hgT
  have rTW := RT.out.below (h4.mono (Nat.le_of_lt hgT))
  have AB : Hid (Calls Tryz.prog 22 #[.agg #[.slice Am zs.length cm], .agg #[.slice At ts.length ct]] W fun e w' => e = .returned (.bool (decide (t < prodL9 R))) ∧ Below W.heap.size W w') := above_any h6 (J := J + 1) ⟨vT.out.1, vT.out.2.1, rTW.mono (by have := bTW.lt; omega), vT.out.2.2.1, vT.out.2.2.2⟩ (by omega) (by omega)
  obtain ⟨p0, p1, p2, p3⟩ := h5.two
  have p4 := bTW.cell0
  have HR := hi9 hR
  have H4 := hi9 h4
  have H5 := hi9 h5
  have H6 := hi9 h6
  have H7 := hi9 h7
  have H3 := hi9 h3
  have H2 := hi9 h2
  have H1 := hi9 h1
  have XN := hi9 xN
  clear hI hR h4 h5 h6 h7 h3 h2 h1 bTW rTW LS6 MD6 HC0 bD xN
  by_cases hab : t < prodL9 R
  ·rw [decide_eq_true hab] at AB
   have HX : Hid (∀ W', Below W.heap.size W W' → CEx r Bd w.heap.size gA gB 1 W6 w t (.exit 1) (pre ++ [x]) W') := fun W' hb => ⟨pre, x, rfl, .inl ⟨rfl, by rw [← HR.out]; exact hab, by rw [← HR.out]; exact HI2.out.below hrW hb⟩⟩
   clear hab
   gi_wp2_with fail
   refine ⟨trivial, fun _ => by omega, (CallsIn.inRound l (callsIn_wide.2 AB.out)).mono ?_⟩
   rintro e W7 ⟨rfl, hb⟩
   have HK7 := hi9 (ko_below hb)
   have HX7 := hi9 (HX.out _ hb)
   clear hb p0 p1 p2 p3 p4 AB HX
   gi_wp2_with fail
   exact ⟨HK7.out, HX7.out⟩
  ·rw [decide_eq_false hab] at AB
   have HAB := hi9 hab
   clear hab
   by_cases hten : R.length = 10000
   ·have t1 : ((R.length : Int) == 10000) = true := by rw [hten]; rfl
    have H10 := hi9 hten
    clear hten
    gi_wp2_with fail
    refine ⟨trivial, fun _ => by omega, (CallsIn.inRound l (callsIn_wide.2 AB.out)).mono ?_⟩
    rintro e W7 ⟨rfl, hb⟩
    have BA7 := (BA.out.below H4.out AR.out.1).below hb (by have := H5.out.lt; have := AR.out; omega)
    have BB7 := (BB.out.below H4.out AR.out.2).below hb (by have := H5.out.lt; have := AR.out; omega)
    have b5 := H5.out.below hb H5.out.lt
    have HK7 := hi9 (ko_below hb)
    have k7 : Hid (Below w.heap.size w W7) := (K5.out.trans (H4.out.mono hwr)).trans (hb.mono (by have := H5.out.lt; omega))
    have a1 := BA7.cell0
    have a2 := BA7.frozen 0
    have a3 := BB7.cell0
    have a4 := BB7.frozen 0
    have nab := nAB.out.1
    have nba := Ne.symm nab
    have B5 := hi9 b5
    obtain ⟨p0, p1, p2, p3⟩ := b5.two
    have HX7 : Hid (CEx r Bd w.heap.size gA gB 1 W6 w t .ret (pre ++ [x]) ((W7.setCell ⟨gA, 0, none⟩ (.slice none 0 0)).setCell ⟨gB, 0, none⟩ (.int .i64 4))) := by
     refine ⟨pre, x, rfl, .inr ⟨rfl, by have h9 := congrArg List.length HR.out; rw [ns, List.length_map] at h9; rw [← h9]; exact H10.out, fun i hi => ?_, bsc (bsc k7.out nAB.out.2.1 _) nAB.out.2.2.1 _, ?_, ?_⟩⟩
     ·rw [← HR.out]
      by_cases e : i < R.length
      ·exact H2.out i e
      ·rw [List.take_of_length_le (by omega)]
       exact Nat.le_of_not_lt HAB.out
     ·have h9 := (BA7.set_ 0 (.slice none 0 0)).far (p := ⟨gB, 0, none⟩) nab (.int .i64 4)
      simpa using h9
     ·have h9 := (BB7.far (p := ⟨gA, 0, none⟩) nba (.slice none 0 0)).set_ 0 (.int .i64 4)
      simpa using h9
    clear hb AB BA7 BB7 b5 H10
    gi_wp2_with fail
    exact ⟨(HK7.out.trans (KeepsOthers.setCell _ _ _)).trans (KeepsOthers.setCell _ _ _), HX7.out⟩
   ·have t1 : ((R.length : Int) == 10000) = false := beq_eq_false_iff_ne.2 (by omega)
    gi_wp2_with fail
    refine ⟨trivial, fun _ => by omega, (CallsIn.inRound l (callsIn_wide.2 AB.out)).mono ?_⟩
    rintro e W7 ⟨rfl, hb⟩
    have b5 := H5.out.below hb H5.out.lt
    have m5 := H6.out.next hb
    have o5 : Rw9 W7 (Bd + 1) AQ cR R := H7.out.kept (row := none) ⟨hb.os, hb.tape, hb.output, hb.size, fun k hk _ => hb.block k hk⟩ (by cases (Value.slice AQ R.length cR).ownBlock <;> simp)
    have sB : Bd + 1 ≤ W.heap.size := by have := HS.out.2; have := H4.out.size; omega
    have TK : Hid (Calls Tryz.prog 23 #[.pointer (some ⟨r, 0, none⟩), .int .u32 ((x.1 : Nat) : Int)] W7 fun e w' => ∃ zs A' c' g cp, e = .returned (.tuple #[]) ∧ Blk w' r 55 [.slice A' zs.length c', .slice (some ⟨g, 0, none⟩) (R.length + 1) cp] ∧
       Num 4294967296 zs (prodL9 R * x.1) ∧ Res w' (r + 1) 34 A' c' (u32s zs) ∧ Rw9 w' (Bd + 1) (some ⟨g, 0, none⟩) cp (R ++ [x.1]) ∧ Below r W7 w' ∧ (∀ k, k < Bd + 1 → k ≠ r → w'.heap[k]? = W7.heap[k]?) ∧ KeepsOthers W7 w') :=
     take9_any (K := R.length + 1) b5 m5 (by have := H1.out; omega) x.2 (by have := HS.out.1; omega) (by have := hb.size; omega) o5 (by have := H1.out; omega)
    have K7 := hi9 hb
    have hRl : R.length < 10000 := by have := H1.out; omega
    have HRl := hi9 hRl
    obtain ⟨p0, p1, p2, p3⟩ := b5.two
    clear hb AB b5 m5 o5 hten sB hRl
    gi_wp2_with fail
    refine ⟨trivial, fun _ => by omega, (CallsIn.inRound l (callsIn_wide.2 TK.out)).mono ?_⟩
    rintro e W8 ⟨zs8, A8, c8, g8, cp8, rfl, b8, hz8, hr8, o8, h8, e8, ko8⟩
    have hlt9 : ∀ y ∈ R ++ [x.1], y < 4294967296 := fun y hy => by
     rcases List.mem_append.1 hy with h | h
     ·exact H3.out y h
     ·rw [List.mem_singleton.1 h]; exact x.2
    have hm9 : prodL9 R * x.1 < 4294967296 ^ (R.length + 1 + 1) := by
     have h9 := prodL9_lt hlt9
     rwa [prodL9_snoc, List.length_append] at h9
    have Y1 : Hid (KeepsOthers W W8) := (ko_below K7.out).trans ko8
    have Y2 : Hid (KA r Bd W W8) := ⟨(K7.out.mono (Nat.le_of_lt H5.out.lt)).trans h8, fun o ho _ => (e8 Bd (Nat.lt_succ_self _) (by have := HS.out.1; omega)).trans ((K7.out.block Bd (by have := HS.out.2; have := H4.out.size; omega)).trans ho)⟩
    have Y3 : Hid (CSt r Bd W6 t (ns (pre ++ [x])) W8) := by
     show CSt _ _ _ _ _ _
     rw [ns_snoc, ← HR.out]
     refine ⟨by rw [List.length_append]; have := HRl.out; simp; omega, fun i hi => ?_, hlt9, (H4.out.trans (K7.out.mono (Nat.le_of_lt H5.out.lt))).trans h8, zs8, A8, some ⟨g8, 0, none⟩, c8, cp8, by rw [List.length_append]; exact b8, by rw [prodL9_snoc, List.length_append]; exact Hv.of hz8 hr8 hm9, o8⟩
     rw [List.length_append] at hi
     by_cases e : i < R.length
     ·rw [List.take_append_of_le_length (Nat.le_of_lt e)]; exact H2.out i e
     ·have e2 : i = R.length := by simp at hi; omega
      rw [e2, List.take_append_of_le_length nl9, List.take_length]
      exact Nat.le_of_not_lt HAB.out
    clear b8 hz8 hr8 o8 h8 e8 ko8 hlt9 hm9 TK K7 p0 p1 p2 p3 p4
    gi_wp2_with fail
    exact ⟨Y1.out, Y2.out, Y3.out⟩
 case done =>
  rintro D ys9 W hD hys hI hK
  exfalso
  have h1 := hI.1
  have h9 : ns ys9 = Cs d 0 := hys
  rw [h9] at h1
  have := HM.out
  omega
 case stop =>
  rintro D cc pre W hD ⟨p, x, rfl, hx1, hx2, hx3, hx4⟩ ⟨p', x', hpx, hcase⟩ hK
  obtain ⟨rfl, hxx⟩ := List.append_inj' hpx rfl
  clear hpx hxx
  have hnp : ns p = Cs d x.1 := hx2
  have hpre : ns p = (Cs d 0).take (ns p).length := by rw [hnp]; exact Cs_take hx1
  rcases hcase with ⟨rfl, hab, hst⟩ | ⟨rfl, hl, hall, hbel, hA, hB⟩
  ·obtain ⟨hc0, ho0⟩ := HE.out.stop hst.1 (fun i hi => by
    have h9 := hst.2.1 i hi
    rw [hpre, List.take_take, Nat.min_eq_left (Nat.le_of_lt hi)] at h9
    exact h9) (by rw [← hpre]; exact hab)
   rw [← hpre] at ho0
   subst hc0 ho0
   obtain ⟨h1, h2, h3, h4, zs, Am, AQ, cm, cR, h5, h6, h7⟩ := hst
   have BAW := BA.out.below h4 AR.out.1
   have BBW := BB.out.below h4 AR.out.2
   obtain ⟨n, hn⟩ : ∃ n, n = (ns p).length := ⟨_, rfl⟩
   rw [← hn] at h5
   have nab := nAB.out.1
   have nba := Ne.symm nab
   have hA1 : Blk ((W.setCell ⟨gA, 0, none⟩ (.slice AQ n cR)).setCell ⟨gB, 0, none⟩ (.int .i64 0)) gA 22 [.slice AQ n cR] := by
    have h9 := (BAW.set_ 0 (.slice AQ n cR)).far (p := ⟨gB, 0, none⟩) nab (.int .i64 0)
    simpa using h9
   have hB1 : Blk ((W.setCell ⟨gA, 0, none⟩ (.slice AQ n cR)).setCell ⟨gB, 0, none⟩ (.int .i64 0)) gB 28 [.int .i64 0] := by
    have h9 := (BBW.far (p := ⟨gA, 0, none⟩) nba (.slice AQ n cR)).set_ 0 (.int .i64 0)
    simpa using h9
   have hK' := ((KeepsOthers.setCell W ⟨gA, 0, none⟩ (.slice AQ n cR)).trans (KeepsOthers.setCell _ ⟨gB, 0, none⟩ (.int .i64 0))).same D _ hK rfl
   have o1 : Rw9 ((W.setCell ⟨gA, 0, none⟩ (.slice AQ n cR)).setCell ⟨gB, 0, none⟩ (.int .i64 0)) (Bd + 1) AQ cR (ns p) := ownsRow_setCell_below (ownsRow_setCell_below h7 (by show gA < _; have := AR.out; have := HS.out; omega) _) (by show gB < _; have := AR.out; have := HS.out; omega) _
   have hk1 : Below w.heap.size w ((W.setCell ⟨gA, 0, none⟩ (.slice AQ n cR)).setCell ⟨gB, 0, none⟩ (.int .i64 0)) := bsc (bsc (K5.out.trans (h4.mono hwr)) nAB.out.2.1 _) nAB.out.2.2.1 _
   obtain ⟨p0, p1, p2, p3⟩ := h5.two
   have a1 := BAW.cell0
   have a2 := BAW.frozen 0
   have a3 := BBW.cell0
   have a4 := BBW.frozen 0
   have a5 : (W.setCell ⟨gA, 0, none⟩ (.slice AQ n cR)).cell? ⟨gB, 0, none⟩ = some (.int .i64 0) := (BBW.far (p := ⟨gA, 0, none⟩) nba (.slice AQ n cR)).cell0
   have a6 : (W.setCell ⟨gA, 0, none⟩ (.slice AQ n cR)).frozen? ⟨gB, 0, none⟩ = false := (BBW.far (p := ⟨gA, 0, none⟩) nba (.slice AQ n cR)).frozen 0
   have HA1 := hi9 hA1
   have HB1 := hi9 hB1
   have HK1 := hi9 hK'
   have HO1 := hi9 o1
   have Hk1 := hi9 hk1
   have HN := hi9 hn
   have hDw : w.heap.size ≤ D := by have := hD; omega
   clear h1 h2 h3 h4 h5 h6 h7 hA1 hB1 hK' o1 hk1 hn BAW BBW hpre hnp hab hx3 hx4 hx2
   gi_wp2
   refine ⟨by simp, .inl ⟨_, _, rfl, run_takeDeferred HK1.out, ?_⟩⟩
   have f0 := cell_kept HA1.out.cell0 (grownBy_putObj' _ D (.deferred none)) (fun r e => by cases e; exact ⟨_, HK1.out, rfl⟩)
   have f1 := cell_kept HB1.out.cell0 (grownBy_putObj' _ D (.deferred none)) (fun r e => by cases e; exact ⟨_, HK1.out, rfl⟩)
   have o2 := rw9_rd (R := ns p) (c := cR) (A := AQ) (B := Bd + 1) (ownsRow_putObj HO1.out (.deferred none) HK1.out rfl)
   refine ⟨.tuple #[.slice AQ n cR, .int .i64 0], ?_, ⟨AQ, cR, by rw [HN.out]; rfl, o2.1, o2.2, Hk1.out.trans (belowK_b (w := w) nl9 _ D _ _ hDw HK1.out rfl rfl)⟩⟩
   simp [results, Tryz.f7, go_sem, f0, f1]
  ·obtain ⟨hc0, ho0⟩ := HE.out.much (fun i hi => by
    have h9 := hall i hi
    rw [hpre, List.take_take, Nat.min_eq_left (by rw [ns, List.length_map]; omega)] at h9
    exact h9)
   subst hc0 ho0
   have hDw : w.heap.size ≤ D := by have := hD; omega
   clear hpre hnp hx3 hx4 hx2 hall
   gi_wp2
   refine ⟨by simp, .inl ⟨_, _, rfl, run_takeDeferred hK, ?_⟩⟩
   have f0 := cell_kept hA.cell0 (grownBy_putObj' _ D (.deferred none)) (fun r e => by cases e; exact ⟨_, hK, rfl⟩)
   have f1 := cell_kept hB.cell0 (grownBy_putObj' _ D (.deferred none)) (fun r e => by cases e; exact ⟨_, hK, rfl⟩)
   refine ⟨.tuple #[.slice none 0 0, .int .i64 4], ?_, ⟨none, 0, rfl, Rd.nil_, Nat.le_refl _, hbel.trans (belowK_b (w := w) nl9 _ D _ _ hDw hK rfl rfl)⟩⟩
   simp [results, Tryz.f7, go_sem, f0, f1]
end
section
open Go.RowKit Go.Shelf
attribute [local go_sem] Oper.semAt_some
section
variable {w w' : World} {g g2 : Bool} {A A2 : Option Addr} {c c2 K J l1 l2 : Nat} {xs ys : List Nat} {d z : Int}
def cW0 (w : World) (g : Bool) (A : Option Addr) (l1 c : Nat) (g2 : Bool) (A2 : Option Addr) (l2 c2 : Nat) : World :=
 (((w.alloc (.cells #[.bool g, .slice A l1 c] 25)).alloc (.cells #[.bool g2, .slice A2 l2 c2] 25)).alloc (.cells #[.slice none 0 0] 22)).alloc (.cells #[.int .i64 0] 28)
theorem cW0_is (w : World) (g : Bool) (A : Option Addr) (l1 c : Nat) (g2 : Bool) (A2 : Option Addr) (l2 c2 : Nat) : Below w.heap.size w (cW0 w g A l1 c g2 A2 l2 c2) ∧ Blk (cW0 w g A l1 c g2 A2 l2 c2) (w.heap.size + 1) 25 [.bool g2, .slice A2 l2 c2] ∧ Blk (cW0 w g A l1 c g2 A2 l2 c2) (w.heap.size + 1 + 1) 22 [.slice none 0 0] ∧ Blk (cW0 w g A l1 c g2 A2 l2 c2) (w.heap.size + 1 + 1 + 1) 28 [.int .i64 0] := by
 refine ⟨((bel_two _ _ _).alloc (by simp; omega) _).alloc (by simp; omega) _, ?_, ?_, ?_⟩
 ·have h9 : Blk ((w.alloc (.cells #[.bool g, .slice A l1 c] 25)).alloc (.cells #[.bool g2, .slice A2 l2 c2] 25)) (w.alloc (.cells #[.bool g, .slice A l1 c] 25)).heap.size 25 [.bool g2, .slice A2 l2 c2] := Blk.new_ rfl
  rw [World.size_alloc] at h9
  exact (h9.heapAlloc _).heapAlloc _
 ·have h9 : Blk (((w.alloc (.cells #[.bool g, .slice A l1 c] 25)).alloc (.cells #[.bool g2, .slice A2 l2 c2] 25)).alloc (.cells #[.slice none 0 0] 22)) ((w.alloc (.cells #[.bool g, .slice A l1 c] 25)).alloc (.cells #[.bool g2, .slice A2 l2 c2] 25)).heap.size 22 [.slice none 0 0] := Blk.new_ rfl
  rw [World.size_alloc, World.size_alloc] at h9
  exact h9.heapAlloc _
 ·have h9 : Blk (cW0 w g A l1 c g2 A2 l2 c2) (((w.alloc (.cells #[.bool g, .slice A l1 c] 25)).alloc (.cells #[.bool g2, .slice A2 l2 c2] 25)).alloc (.cells #[.slice none 0 0] 22)).heap.size 28 [.int .i64 0] := Blk.new_ rfl
  rwa [World.size_alloc, World.size_alloc, World.size_alloc] at h9
theorem ch_two {w W : World} {gA gB : Nat} {k : Int} (hA : Blk W gA 22 [.slice none 0 0]) (hB : Blk W gB 28 [.int .i64 0]) (hAB : gA ≠ gB) (hk : Below w.heap.size w W) (h1 : w.heap.size ≤ gA) (h2 : w.heap.size ≤ gB) :
  ((W.setCell ⟨gA, 0, none⟩ (.slice none 0 0)).setCell ⟨gB, 0, none⟩ (.int .i64 k)).cell? ⟨gA, 0, none⟩ = some (.slice none 0 0) ∧ ((W.setCell ⟨gA, 0, none⟩ (.slice none 0 0)).setCell ⟨gB, 0, none⟩ (.int .i64 k)).cell? ⟨gB, 0, none⟩ = some (.int .i64 k) ∧ Below w.heap.size w ((W.setCell ⟨gA, 0, none⟩ (.slice none 0 0)).setCell ⟨gB, 0, none⟩ (.int .i64 k)) := by
 have h9 := (hA.set_ 0 (.slice none 0 0)).far (p := ⟨gB, 0, none⟩) hAB (.int .i64 k)
 have h8 := (hB.far (p := ⟨gA, 0, none⟩) (Ne.symm hAB) (.slice none 0 0)).set_ 0 (.int .i64 k)
 exact ⟨by simpa using h9.cell0, by simpa using h8.cell0, bsc (bsc hk h1 _) h2 _⟩
set_option maxRecDepth 20000 in
set_option maxHeartbeats 1600000 in
theorem choose_zero (h : Zh w g A c xs 0 K) (hK : K ≤ 67108864) :
  Calls Tryz.prog 7 #[.agg #[.bool g, .slice A xs.length c], .agg #[.bool g2, .slice A2 l2 c2]] w (ChOut w [] 5) := by
 have SG : Hid (∀ W (_ : Below w.heap.size w W), Calls Tryz.prog 18 #[.agg #[.bool g, .slice A xs.length c]] W fun e w' => e = .returned (.int .i64 0) ∧ Below W.heap.size W w') := fun W hW => (h.next hW).sign hK
 obtain ⟨k0, b1, b2, b3⟩ := cW0_is w g A xs.length c g2 A2 l2 c2
 have B2 := hi9 b2
 have B3 := hi9 b3
 clear h b1 b2 b3
 obtain ⟨m, hm⟩ : ∃ m, 3 ≤ m := ⟨3, Nat.le_refl _⟩
 refine (callsIn_wide (n := m)).1 ?_
 refine callsIn_of_wp_marks Tryz.func7 rfl trivial ?_ rfl
 simp only [Tryz.ntmps7, List.size_toArray, List.length_cons, List.length_nil, Nat.reduceAdd, Nat.reduceSub, Array.replicate_succ, Array.replicate_zero, List.push_toArray, List.append_toArray, List.nil_append, List.cons_append]
 gi_wp2_with fail
 refine ⟨trivial, fun _ => by omega, (callsIn_wide.2 (SG.out _ k0)).mono ?_⟩
 rintro e w1 ⟨rfl, hb⟩
 have b2 := B2.out.below hb B2.out.lt
 have b3 := B3.out.below hb B3.out.lt
 have hT := hi9 (ch_two (k := 5) b2 b3 (by omega) (bst k0 hb nl9) (by omega) (by omega))
 have a1 := b2.cell0
 have a2 := b2.frozen 0
 have a3 := b3.cell0
 have a4 := b3.frozen 0
 clear hb b2 b3 B2 B3 k0
 gi_wp2_with fail
 refine ⟨.tuple #[.slice none 0 0, .int .i64 5], ?_, ⟨none, 0, rfl, Rd.nil_, Nat.le_refl _, hT.out.2.2⟩⟩
 simp [results, Tryz.f7, go_sem, hT.out.1, hT.out.2.1]
set_option maxRecDepth 20000 in
set_option maxHeartbeats 1600000 in
theorem choose_neg (h : Zh w g A c xs d K) (h2 : Zh w g2 A2 c2 ys z J) (hK : K ≤ 67108864) (hJ : J ≤ 67108864) (hd : d ≠ 0) (hz : z < 0) :
  Calls Tryz.prog 7 #[.agg #[.bool g, .slice A xs.length c], .agg #[.bool g2, .slice A2 ys.length c2]] w (ChOut w [] 1) := by
 have SG : Hid (∀ W (_ : Below w.heap.size w W), Calls Tryz.prog 18 #[.agg #[.bool g, .slice A xs.length c]] W fun e w' => e = .returned (.int .i64 d.sign) ∧ Below W.heap.size W w') := fun W hW => (h.next hW).sign hK
 have SG2 : Hid (∀ W (_ : Below w.heap.size w W), Calls Tryz.prog 18 #[.agg #[.bool g2, .slice A2 ys.length c2]] W fun e w' => e = .returned (.int .i64 z.sign) ∧ Below W.heap.size W w') := fun W hW => (h2.next hW).sign hJ
 obtain ⟨k0, b1, b2, b3⟩ := cW0_is w g A xs.length c g2 A2 ys.length c2
 have B1 := hi9 b1
 have B2 := hi9 b2
 have B3 := hi9 b3
 have e1 : (d == 0) = false := beq_eq_false_iff_ne.2 hd
 have e2 : (d.sign == 0) = false := beq_eq_false_iff_ne.2 fun h => hd (Int.sign_eq_zero_iff_zero.1 h)
 have e3 : decide (z < 0) = true := decide_eq_true hz
 have e4 : decide (z.sign < 0) = true := decide_eq_true (Int.sign_neg_iff.2 hz)
 clear h h2 b1 b2 b3 hd hz
 obtain ⟨m, hm⟩ : ∃ m, 3 ≤ m := ⟨3, Nat.le_refl _⟩
 refine (callsIn_wide (n := m)).1 ?_
 refine callsIn_of_wp_marks Tryz.func7 rfl trivial ?_ rfl
 simp only [Tryz.ntmps7, List.size_toArray, List.length_cons, List.length_nil, Nat.reduceAdd, Nat.reduceSub, Array.replicate_succ, Array.replicate_zero, List.push_toArray, List.append_toArray, List.nil_append, List.cons_append]
 gi_wp2_with fail
 refine ⟨trivial, fun _ => by omega, (callsIn_wide.2 (SG.out _ k0)).mono ?_⟩
 rintro e w1 ⟨rfl, hb⟩
 have k1 := bst k0 hb nl9
 have b1 := B1.out.below hb B1.out.lt
 have B2 := hi9 (B2.out.below hb B2.out.lt)
 have B3 := hi9 (B3.out.below hb B3.out.lt)
 obtain ⟨q0, q1, q2, q3⟩ := b1.two
 clear hb b1 B1 k0 SG
 gi_wp2_with fail
 refine ⟨trivial, fun _ => by omega, (callsIn_wide.2 (SG2.out _ k1)).mono ?_⟩
 rintro e w2 ⟨rfl, hb⟩
 have b2 := B2.out.below hb B2.out.lt
 have b3 := B3.out.below hb B3.out.lt
 have hT := hi9 (ch_two (k := 1) b2 b3 (by omega) (bst k1 hb nl9) (by omega) (by omega))
 have a1 := b2.cell0
 have a2 := b2.frozen 0
 have a3 := b3.cell0
 have a4 := b3.frozen 0
 clear hb b2 b3 B2 B3 k1 q0 q1 q2 q3 SG2
 gi_wp2_with fail
 refine ⟨.tuple #[.slice none 0 0, .int .i64 1], ?_, ⟨none, 0, rfl, Rd.nil_, Nat.le_refl _, hT.out.2.2⟩⟩
 simp [results, Tryz.f7, go_sem, hT.out.1, hT.out.2.1]
end
end
end Go.Proofs.YtcjgilagldbjnaaGreatDoor
