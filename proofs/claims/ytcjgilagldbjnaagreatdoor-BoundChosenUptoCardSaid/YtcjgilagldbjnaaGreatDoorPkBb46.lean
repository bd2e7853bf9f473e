/- The contracts of zint's divide, by the signs and the kind of. The contract of nat.Bit. The contracts of zint's Euclid, Trunc, Exact, Near and Of. A drawn region whose last operations stand in one order: a c. -/
import Derived.Test.YtcjgilagldbjnaaGreatDoorPkBb45
import Derived.Test.YtcjgilagldbjnaaGreatDoorPkBb28
import Derived.Test.YtcjgilagldbjnaaGreatDoorPkBb18
import Derived.Test.YtcjgilagldbjnaaGreatDoorPkBb25
import Derived.Deep.RegionHeld
namespace Go.Proofs.YtcjgilagldbjnaaGreatDoor
section
open Go.RowKit
end
section
open Go.RowKit
end
section
open Go.RowKit
end
section
open Go
def HeadH (P : Program) (md : Region.Mode) (ops : Array Oper) (Q : Exit → Act → World → Prop) (S : World → Prop) (n : Nat) (L : Array Bool → Act → World → Prop) : Nat → Array Bool → Act → World → Prop
 | 0, ls, a, w => L ls a w
 | f + 1, ls, a, w => Region.ready md ops ls ≠ [] ∧ ∀ i ∈ Region.ready md ops ls, i < n ∧ wpOp P ops Q i (fun a' w' => S w' ∧ HeadH P md ops Q S n L f (ls.setIfInBounds i true) a' w') a w
section
variable {P : Program} {md : Region.Mode} {ops : Array Oper} {Q : Exit → Act → World → Prop} {S : World → Prop} {n : Nat} {L : Array Bool → Act → World → Prop}
theorem HeadH.any {g : Nat} (hL : ∀ ls a w, L ls a w → wpAny P md ops Q g ls a w) :
  ∀ f ls a w, HeadH P md ops Q S n L f ls a w → wpAny P md ops Q (f + g) ls a w
 | 0, ls, a, w, h => by rw [Nat.zero_add]; exact hL ls a w h
 | f + 1, ls, a, w, h => by
  rw [show f + 1 + g = (f + g) + 1 from by omega]
  exact ⟨fun h0 => absurd h0 h.1, fun i hi => wpOp_mono (fun a' w' h' => HeadH.any hL f _ a' w' h'.2) (h.2 i hi).2⟩
theorem HeadH.first {i : Nat} {o : Oper} {v : Value} (ho : ops[i]? = some o) (hsel : Region.noSelect ops = true) (hs : Region.sinkB md ops n = true) (hc : Region.chainB md ops n = true) (hn : n < ops.size) (hin : i < n)
  (hend : ∀ ls a w, L ls a w → ∀ j ∈ Region.ready md ops ls, n ≤ j) (hQ : ∀ c a w, Q (.panic c) (a.put o.dst v) w → Q (.panic c) a w) :
  ∀ f ls a w, HeadInv md ops n ls → (∀ j oj, ops[j]? = some oj → j ≠ i → ls.getD j true = false → (∀ e ∈ oj.after, Region.binds md e = true → e.on ≠ i) → o.apart ops oj = true) →
   i ∈ Region.ready md ops ls → YieldsIf P ops S o v a → S w → HeadH P md ops Q S n L f (ls.setIfInBounds i true) (a.put o.dst v) w → HeadH P md ops Q S n L (f + 1) ls a w := by
 intro f
 induction f with
 | zero =>
  intro ls a w inv _ hr hy hS H
  have hun := (mem_ready.1 hr).1
  refine ⟨fun h => (by rw [h] at hr; cases hr), fun j hj => ?_⟩
  have hjn : j < n := (Nat.lt_or_ge j n).resolve_right fun h => absurd hj (tail_waits hs hc hn inv _ i rfl hin hun j h)
  refine ⟨hjn, ?_⟩
  by_cases hji : j = i
  ·subst hji; exact hy.wpOp ho hS ⟨hS, H⟩
  ·exact absurd (hend _ _ _ H j (ready_mono hj hji)) (by omega)
 | succ f ih =>
  intro ls a w inv hfree hr hy hS H
  have hun := (mem_ready.1 hr).1
  refine ⟨fun h => (by rw [h] at hr; cases hr), fun j hj => ?_⟩
  have hjn : j < n := (Nat.lt_or_ge j n).resolve_right fun h => absurd hj (tail_waits hs hc hn inv _ i rfl hin hun j h)
  refine ⟨hjn, ?_⟩
  by_cases hji : j = i
  ·subst hji; exact hy.wpOp ho hS ⟨hS, H⟩
  ·have h1 := (H.2 j (ready_mono hj hji)).2
   obtain ⟨hjun, oj, hoj, hall⟩ := mem_ready.1 hj
   have hno : ∀ e ∈ oj.after, Region.binds md e = true → e.on ≠ i := fun e he hb heq => by
    have h2 := hall e he hb
    rw [heq, getD_both hun] at h2
    cases h2
   have h2 := wpOp_putIf hoj (hfree j oj hoj hji hjun hno) (fun cs b => Region.noSelect_spec hsel i o cs b ho) (fun cs b => Region.noSelect_spec hsel j oj cs b hoj) hQ hy h1
   refine wpOp_mono (fun a' w' h3 => ⟨h3.2.1, ih (ls.setIfInBounds j true) a' w' (inv.set hj hjn) (fun k ok hk hki hku hkn => hfree k ok hk hki ?_ hkn) (ready_mono hr (Ne.symm hji)) h3.1 h3.2.1 ?_⟩) h2
   ·by_cases hjk : j = k
    ·subst hjk; exact hjun
    ·rw [getD_set_ne true hjk] at hku; exact hku
   ·rw [Array.setIfInBounds_comm _ _ hji]; exact h3.2.2
end
def tailOkB (md : Region.Mode) (ops : Array Oper) (n : Nat) : Bool := Region.noSelect ops && decide (n < ops.size) && Region.sinkB md ops n && Region.chainB md ops n
def HeadW (P : Program) (md : Region.Mode) (l : List Oper) (Q : Exit → Act → World → Prop) (S : World → Prop) (n : Nat) (f : Nat) (ls : Array Bool) (a : Act) (w : World) : Prop :=
 HeadInv md l.toArray n ls → HeadH P md l.toArray Q S n (fun ls' a' w' => Region.seqB md l.toArray (l.toArray.size - n) n ls' = true ∧ wpList P l.toArray Q (l.drop n) a' w') f ls a w
section
variable {P : Program} {md : Region.Mode} {l : List Oper} {Q : Exit → Act → World → Prop} {S : World → Prop} {n : Nat}
theorem tailOk_spec (h : tailOkB md l.toArray n = true) : Region.noSelect l.toArray = true ∧ n < l.toArray.size ∧ Region.sinkB md l.toArray n = true ∧ Region.chainB md l.toArray n = true := by
 simp only [tailOkB, Bool.and_eq_true, decide_eq_true_eq] at h
 obtain ⟨⟨⟨a, b⟩, c⟩, d⟩ := h
 exact ⟨a, b, c, d⟩
theorem region_held_tail {id : Nat} {a : Act} {w : World} (S : World → Prop) (n : Nat) (hm : P.follows .mixedOrders = true) (hB : tailOkB .any l.toArray n = true) (hS : S w.drew)
  (h : S w.drew → HeadW P .any l Q S n n (Array.replicate l.toArray.size false) a w.drew) : (Code.region id l.toArray true).wp P Q a w := by
 obtain ⟨_, hn, _, _⟩ := tailOk_spec hB
 have hdl : (l.drop n).length = l.toArray.size - n := by simp
 have inv0 : HeadInv .any l.toArray n (Array.replicate l.toArray.size false) :=
  ⟨by simp, fun j oj _ hl => (by rw [getD_replicate_false] at hl; cases hl), fun t _ ht => getD_in (by simpa using ht) (getD_replicate_false _ _)⟩
 have H := h hS inv0
 refine wp_region_any hm ?_
 have hfin := HeadH.any (g := l.toArray.size - n) (fun ls a' W hL => by
  have h1 := wpAny_of_seq (md := .any) (Q' := Q) (l.drop n) n ls a' W (fun j => by simp [List.getElem?_drop]) (by rw [hdl]; exact hL.1) hL.2
  rwa [hdl] at h1) _ _ _ _ H
 rw [show n + (l.toArray.size - n) = l.toArray.size from by omega] at hfin
 exact hfin
theorem HeadW.take {i : Nat} {o : Oper} {v : Value} {f : Nat} {ls : Array Bool} {a : Act} {w : World} (ho : l.toArray[i]? = some o) (hB : tailOkB md l.toArray n = true) (hin : i < n) (hf : Region.free md l.toArray ls i = true) (hr : (Region.ready md l.toArray ls).contains i = true)
  (hQ : ∀ c a w, Q (.panic c) (a.put o.dst v) w → Q (.panic c) a w) (hy : YieldsIf P l.toArray S o v a) (hS : S w) (h : HeadW P md l Q S n f (ls.setIfInBounds i true) (a.put o.dst v) w) : HeadW P md l Q S n (f + 1) ls a w := fun inv => by
 obtain ⟨hsel, hn, hs, hc⟩ := tailOk_spec hB
 have hr' : i ∈ Region.ready md l.toArray ls := by simpa using hr
 exact HeadH.first ho hsel hs hc hn hin (fun ls' a' w' hL => seqB_ready hL.1) hQ f ls a w inv (Region.free_spec ho hf) hr' hy hS (h (inv.set hr' hin))
theorem HeadW.one {i : Nat} {o : Oper} {f : Nat} {ls : Array Bool} {a : Act} {w : World} (hr : Region.ready md l.toArray ls = [i]) (hin : i < n) (ho : l.toArray[i]? = some o)
  (h : ∀ K' : Act → World → Prop, Shut (∀ a w, S w → (S w → HeadW P md l Q S n f (ls.setIfInBounds i true) a w) → K' a w) → if Region.wanted o (yielded l.toArray a.tmps) = true then Oper.wp P o a w K' Q else K' (a.put o.dst undef) w) :
  HeadW P md l Q S n (f + 1) ls a w := fun inv => ⟨by rw [hr]; simp, fun j hj => by
 have hj' := hj
 rw [hr] at hj
 obtain rfl : j = i := by simpa using hj
 exact ⟨hin, wpOp_step ho (fun K' hK => h K' (fun a w hS hW => hK a w ⟨hS, hW hS (inv.set hj' hin)⟩))⟩⟩
theorem HeadW.done {ls : Array Bool} {a : Act} {w : World} (hq : Region.seqB md l.toArray (l.toArray.size - n) n ls = true) (h : wpList P l.toArray Q (l.drop n) a w) : HeadW P md l Q S n 0 ls a w := fun _ => ⟨hq, h⟩
end
end
end Go.Proofs.YtcjgilagldbjnaaGreatDoor
