/- The reckoner: what it means that memory has grown, or been written. No conditions. -/
import Derived.Test.YtadpelhmjmamnaaGreatDoorEvP3
import Derived.OrdersIn
import Derived.RangeFuncLeaves
import Derived.RangeFuncNested
namespace Go.Proofs.YtadpelhmjmamnaaGreatDoor.Ev
open Go Go.RowKit

/-- From w to w' memory has grown by the blocks d, named N to N' - 1; nothing else has turned. -/
structure Grew (P : Program) (ρ ρ' : Env) (N N' : Nat) (d : List (Nat × AB)) (w w' : World) : Prop where
  ext : Ext ρ ρ'
  same : ∀ n, n < N ∨ N' ≤ n → ρ' n = ρ n
  bel : Below w.heap.size w w'
  new : ∀ n p, N ≤ n → n < N' → ρ' n = some p → w.heap.size ≤ p.1 ∧ p.1 < w'.heap.size
  dom : ∀ p ∈ d, N ≤ p.1 ∧ p.1 < N'
  blk : ∀ p ∈ d, ∃ a C, ρ' p.1 = some (a, C) ∧ OR P ρ' C p.2 w'.heap[a]?
  inj : ∀ p ∈ d, ∀ q ∈ d, ∀ a C D, ρ' p.1 = some (a, C) → ρ' q.1 = some (a, D) → p.1 = q.1
/-- From w to w' memory has been written, of what was there only blocks named lo to N - 1; it reads as H'. -/
structure Wrote (P : Program) (ρ ρ' : Env) (N N' lo : Nat) (H' : HP) (w w' : World) : Prop where
  ext : Ext ρ ρ'
  same : ∀ n, n < N ∨ N' ≤ n → ρ' n = ρ n
  sat : Sat P ρ' H' w'
  os : w'.os = w.os
  tape : w'.tape = w.tape
  output : w'.output = w.output
  size : w.heap.size ≤ w'.heap.size
  keep : ∀ x, x < w.heap.size → (∀ n p, lo ≤ n → n < N → ρ n = some p → p.1 ≠ x) → w'.heap[x]? = w.heap[x]?
  new : ∀ n p, N ≤ n → n < N' → ρ' n = some p → w.heap.size ≤ p.1 ∨ ∃ m q, lo ≤ m ∧ m < N ∧ ρ m = some q ∧ q.1 = p.1
  named : ∀ n b, H'.get n = some b → n < N'
def Free (ρ : Env) (N N' : Nat) : Prop := ∀ n, N ≤ n → n < N' → ρ n = none
/-- Names end at N. -/
def Dom (ρ : Env) (N : Nat) : Prop := ∀ n, N ≤ n → ρ n = none
theorem Dom.free {ρ : Env} {N : Nat} (h : Dom ρ N) (N' : Nat) : Free ρ N N' := fun n h1 _ => h n h1
theorem Dom.same {ρ ρ' : Env} {N N' : Nat} (h : Dom ρ N) (hle : N ≤ N') (hs : ∀ n, n < N ∨ N' ≤ n → ρ' n = ρ n) : Dom ρ' N' := fun n hn => (hs n (.inr hn)).trans (h n (by omega))

/-- Everything is let in; ro: within a round of that record. -/
abbrev fe (ro : Option Nat) : Fence := { Fence.wide with round := ro }
/-- What is known of an operation that is reckoned. -/
def OpOk (P : Program) (o : Oper) (ρ : Env) (N : Nat) (out : Out) (a : Act) (w : World) : Prop :=
  match out with
  | .v u d N' => N ≤ N' ∧ (Dom ρ N → ∀ (ro : Option Nat) (m : Nat) (K : Act → World → Prop) (Q : Exit → Act → World → Prop),
      (∀ v w' ρ', Grew P ρ ρ' N N' d w w' → VR ρ' u v → K (a.put o.dst v) w') → o.wpIn (fe ro) m P a w K Q)
  | .w u H' N' lo => N ≤ N' ∧ (Dom ρ N → ∀ (ro : Option Nat) (m : Nat) (K : Act → World → Prop) (Q : Exit → Act → World → Prop),
      (∀ v w' ρ', Wrote P ρ ρ' N N' lo H' w w' → VR ρ' u v → K (a.put o.dst v) w') → o.wpIn (fe ro) m P a w K Q)

theorem Grew.refl (P : Program) (ρ : Env) (N : Nat) (w : World) : Grew P ρ ρ N N [] w w :=
  ⟨.refl ρ, fun _ _ => rfl, .refl _ _, fun n p h1 h2 => by omega, fun p h => by simp at h, fun p h => by simp at h, fun p h => by simp at h⟩
theorem Sat.ext {P : Program} {ρ : Env} {H : HP} {w w' : World} (h : Sat P ρ H w) (hb : Below w.heap.size w w') : Sat P ρ H w' :=
  ⟨fun n b hn => by
    obtain ⟨a, C, h1, h2⟩ := h.blk n b hn
    exact ⟨a, C, h1, by rw [hb.block a (h.lt n a C h1)]; exact h2⟩,
   h.inj, fun n a C hn => Nat.lt_of_lt_of_le (h.lt n a C hn) hb.size⟩
/-- Memory that has grown reads as before, with the new blocks. -/
theorem Grew.sat {P : Program} {ρ ρ' : Env} {N N' : Nat} {d : List (Nat × AB)} {w w' : World} {H H' : HP} (g : Grew P ρ ρ' N N' d w w') (hS : Sat P ρ H w) (_ : Free ρ N N') (hH : ∀ n b, H'.get n = some b → (n, b) ∈ d ∨ H.get n = some b) : Sat P ρ' H' w' := by
  have hold : ∀ n b, H.get n = some b → ∃ a C, ρ n = some (a, C) ∧ ρ' n = some (a, C) ∧ OR P ρ' C b w'.heap[a]? ∧ a < w.heap.size := fun n b hn => by
    obtain ⟨a, C, h1, h2⟩ := hS.blk n b hn
    exact ⟨a, C, h1, g.ext _ _ h1, by rw [g.bel.block a (hS.lt n a C h1)]; exact h2.mono g.ext, hS.lt n a C h1⟩
  refine ⟨fun n b hn => ?_, fun n m b c a C D hn hm h1 h2 => ?_, fun n a C hn => ?_⟩
  · rcases hH n b hn with h | h
    · exact g.blk _ h
    · obtain ⟨a, C, _, h2, h3, _⟩ := hold n b h
      exact ⟨a, C, h2, h3⟩
  · rcases hH n b hn with h | h <;> rcases hH m c hm with k | k
    · exact g.inj (n, b) h (m, c) k a C D h1 h2
    · obtain ⟨a', C', e1, e2, _, hlt⟩ := hold m c k
      rw [h2] at e2; cases e2
      have := (g.new n _ (g.dom _ h).1 (g.dom _ h).2 h1).1
      simp only at this
      omega
    · obtain ⟨a', C', e1, e2, _, hlt⟩ := hold n b h
      rw [h1] at e2; cases e2
      have := (g.new m _ (g.dom _ k).1 (g.dom _ k).2 h2).1
      simp only at this
      omega
    · obtain ⟨a1, C1, e1, e2, _, _⟩ := hold n b h
      obtain ⟨a2, C2, e3, e4, _, _⟩ := hold m c k
      rw [h1] at e2; cases e2
      rw [h2] at e4; cases e4
      exact hS.inj n m b c _ _ _ h k e1 e3
  · rcases Nat.lt_or_ge n N with h | h
    · rw [g.same n (.inl h)] at hn
      exact Nat.lt_of_lt_of_le (hS.lt n a C hn) g.bel.size
    · rcases Nat.lt_or_ge n N' with h' | h'
      · exact (g.new n _ h h' hn).2
      · rw [g.same n (.inr h')] at hn
        exact Nat.lt_of_lt_of_le (hS.lt n a C hn) g.bel.size

def setE (ρ : Env) (N : Nat) (p : Nat × Nat) : Env := fun n => if n = N then some p else ρ n
theorem setE_self (ρ : Env) (N : Nat) (p : Nat × Nat) : setE ρ N p N = some p := if_pos rfl
theorem setE_other {ρ : Env} {N : Nat} {p : Nat × Nat} {n : Nat} (h : n ≠ N) : setE ρ N p n = ρ n := if_neg h
theorem setE_ext {ρ : Env} {N : Nat} {p : Nat × Nat} (h : ρ N = none) : Ext ρ (setE ρ N p) := fun n q hq => by
  rw [setE_other (fun e => by rw [e, h] at hq; cases hq)]; exact hq
/-- One new block. -/
theorem Grew.one {P : Program} {ρ : Env} {N C : Nat} {b : AB} {w w' : World} (hF : Free ρ N (N + 1)) (hb : Below w.heap.size w w') (hs : w.heap.size < w'.heap.size) (ho : OR P (setE ρ N (w.heap.size, C)) C b w'.heap[w.heap.size]?) :
    Grew P ρ (setE ρ N (w.heap.size, C)) N (N + 1) [(N, b)] w w' :=
  ⟨setE_ext (hF N (Nat.le_refl _) (by omega)), fun n h => setE_other (by omega), hb,
   fun n p h1 h2 h3 => by obtain rfl : n = N := by omega
                          rw [setE_self] at h3; cases h3; exact ⟨Nat.le_refl _, hs⟩,
   fun p h => by simp only [List.mem_singleton] at h; subst h; exact ⟨Nat.le_refl _, by simp⟩,
   fun p h => by simp only [List.mem_singleton] at h; subst h; exact ⟨_, _, setE_self _ _ _, ho⟩,
   fun p h q k a C D _ _ => by simp only [List.mem_singleton] at h k; rw [h, k]⟩
theorem below_push (w : World) (o : Obj) : Below w.heap.size w { w with heap := w.heap.push o } := ⟨rfl, rfl, rfl, by simp, fun k hk => by
  show (w.heap.push o)[k]? = _
  rw [Array.getElem?_push, if_neg (by omega)]⟩
theorem push_at (w : World) (o : Obj) : ({ w with heap := w.heap.push o } : World).heap[w.heap.size]? = some o := by simp
theorem OR.new {P : Program} {ρ : Env} {e : TypeId} {l cs : List Value} {o : Option Obj} (ho : o = some (.cells ⟨cs⟩ e (0, 0))) (h : VL ρ l cs) : OR P ρ 0 (.cells false e l) o :=
  ⟨cs, ho, by rw [h.1, List.take_length]; exact h, fun _ => h.1.symm, fun h => by cases h⟩

/-- A block is written. -/
theorem Sat.write {P : Program} {ρ : Env} {H H' : HP} {w : World} {n a C : Nat} {g : Bool} {e : TypeId} {l l' cs cs' : List Value} (hS : Sat P ρ H w) (hb : H.get n = some (.cells g e l)) (hn : ρ n = some (a, C)) (hcs : w.heap[a]? = some (.cells ⟨cs⟩ e (0, 0)))
    (hH : ∀ m, H'.get m = if m = n then some (.cells g e l') else H.get m) (hlen : cs'.length = cs.length) (hl : l'.length = l.length) (hv : VL ρ l' (cs'.take l'.length)) : Sat P ρ H' (w.setRow a ⟨cs'⟩) := by
  have hself := setRow_heap w a ⟨cs⟩ ⟨cs'⟩ e (0, 0) hcs
  refine ⟨fun m b hm => ?_, fun m k b c x D F hm hk h1 h2 => ?_, fun m x D hm => by rw [setRow_size]; exact hS.lt m x D hm⟩
  · rw [hH] at hm
    by_cases e' : m = n
    · subst e'
      rw [if_pos rfl] at hm
      cases hm
      obtain ⟨a', C', h1, cs2, h2, h3, h4, h5⟩ := hS.blk m _ hb
      rw [hn] at h1; cases h1
      rw [hcs] at h2; cases h2
      exact ⟨a, C, hn, cs', hself, hv, fun h => by rw [hlen, hl]; exact h4 h, fun h => by rw [hlen]; exact h5 h⟩
    · rw [if_neg e'] at hm
      obtain ⟨x, D, h1, h2⟩ := hS.blk m b hm
      have hx : x ≠ a := fun ex => by subst ex; exact e' (hS.inj m n b _ x D C hm hb h1 hn)
      exact ⟨x, D, h1, by rw [setRow_other w a x _ hx]; exact h2⟩
  · have get : ∀ i c, H'.get i = some c → ∃ c', H.get i = some c' := fun i c hi => by
      rw [hH] at hi
      by_cases e' : i = n
      · subst e'; exact ⟨_, hb⟩
      · rw [if_neg e'] at hi; exact ⟨c, hi⟩
    obtain ⟨b', hb'⟩ := get m b hm
    obtain ⟨c', hc'⟩ := get k c hk
    exact hS.inj m k b' c' x D F hb' hc' h1 h2
/-- A store of a list of cells into a block. -/
theorem splice_sound {P : Program} {ρ : Env} {H H' : HP} {w : World} {n a C off : Nat} {g : Bool} {e : TypeId} {l us vs : List Value} {N : Nat} (hS : Sat P ρ H w) (hb : H.get n = some (.cells g e l)) (hn : ρ n = some (a, C)) (hN : ∀ n b, H.get n = some b → n < N) (hle : off + us.length ≤ l.length)
    (hH : ∀ m, H'.get m = if m = n then some (.cells g e (l.take off ++ us ++ l.drop (off + us.length))) else H.get m) (hv : VL ρ us vs) (ho : us.all oneC = true) :
    ∃ w', (storeCells ⟨a, off, none⟩ vs).run P w = .ok () w' ∧ Wrote P ρ ρ N N n H' w w' := by
  obtain ⟨a', C', h1, cs, h2, h3, h4, h5⟩ := hS.blk n _ hb
  rw [hn] at h1; cases h1
  have hlen : l.length ≤ cs.length := by have := h3.1; simp at this; omega
  have hul := hv.1
  have hrun := run_storeCells_at (P := P) a off e vs 0 ⟨cs⟩ w h2 (by simp; omega) (hv.one ho)
  simp only [Nat.add_zero] at hrun
  refine ⟨_, hrun, .refl ρ, fun _ _ => rfl, ?_, rfl, rfl, rfl, by simp, fun x hx h => ?_, fun m p h1 h2 => by omega, fun m b hm => ?_⟩
  · refine hS.write hb hn h2 hH ?_ ?_ ?_
    · simp; omega
    · simp; omega
    · have e1 : (l.take off ++ us ++ l.drop (off + us.length)).length = l.length := by simp; omega
      rw [e1]
      have h3' : VL ρ (l.take off ++ us ++ l.drop (off + us.length)) ((cs.take l.length).take off ++ vs ++ (cs.take l.length).drop (off + vs.length)) := by
        rw [← hul]
        exact ((h3.take off).append hv).append (h3.drop _)
      have e2 : (cs.take l.length).take off ++ vs ++ (cs.take l.length).drop (off + vs.length) = (cs.take off ++ vs ++ cs.drop (off + vs.length)).take l.length := by
        rw [List.take_append, List.take_append]
        have t1 : (cs.take off).length = off := by simp; omega
        rw [List.take_take, List.take_take, Nat.min_comm]
        congr 1
        · congr 1
          rw [t1, List.take_of_length_le (by omega)]
        · simp only [List.length_append, t1, List.drop_take]
      rw [e2] at h3'
      exact h3'
  · exact setRow_other w a x _ (fun ex => h n (a, C) (Nat.le_refl _) (hN n _ hb) hn ex.symm)
  · rw [hH] at hm
    by_cases e : m = n
    · rw [e]; exact hN n _ hb
    · rw [if_neg e] at hm; exact hN m b hm
end Go.Proofs.YtadpelhmjmamnaaGreatDoor.Ev
