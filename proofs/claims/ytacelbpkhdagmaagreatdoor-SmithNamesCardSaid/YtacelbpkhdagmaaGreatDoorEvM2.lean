/- The reckoner with a memory of calls: what is one. No conditions. -/
import Derived.Test.YtacelbpkhdagmaaGreatDoorEvM1
namespace Go.Proofs.YtacelbpkhdagmaaGreatDoor.Ev
open Go

theorem findE_inv {us : List Value} {l : List (Nat × AB)} {c : Nat} : ∀ {es : List Ent} {e : Ent}, findE us l c es = some e → e ∈ es ∧ e.us = us ∧ e.l = l ∧ e.c = c
  | [], e, h => by cases h
  | x :: es, e, h => by
    have h' : cond (Nat.beq x.c c && beqL (beqV 8) x.us us && beqL beqP x.l l) (some x) (findE us l c es) = some e := h
    cases hb : (Nat.beq x.c c && beqL (beqV 8) x.us us && beqL beqP x.l l) with
    | false => rw [hb] at h'; obtain ⟨h1, h2⟩ := findE_inv h'; exact ⟨List.mem_cons_of_mem _ h1, h2⟩
    | true =>
      rw [hb] at h'
      cases h'
      rw [Bool.and_eq_true, Bool.and_eq_true] at hb
      exact ⟨List.mem_cons_self, beqL_eq (fun x y => beqV_eq 8 x y) hb.1.2, beqL_eq beqP_eq hb.2, Nat.eq_of_beq_eq_true hb.1.1⟩
theorem isE_inv {e : Ent} {r : Rs Out} (h : isE e r = true) : r = .ok (.v e.u e.d e.n) := by
  unfold isE at h
  split at h
  · rename_i u d n
    rw [Bool.and_eq_true, Bool.and_eq_true] at h
    rw [Nat.eq_of_beq_eq_true h.1.1, beqV_eq 8 _ _ h.1.2, beqL_eq beqP_eq h.2]
  · cases h
end Go.Proofs.YtacelbpkhdagmaaGreatDoor.Ev
