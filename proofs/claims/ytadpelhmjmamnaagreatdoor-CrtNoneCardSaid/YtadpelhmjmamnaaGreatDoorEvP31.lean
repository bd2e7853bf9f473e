/- The reckoner: calls. No conditions. -/
import Derived.Test.YtadpelhmjmamnaaGreatDoorEvP30
namespace Go.Proofs.YtadpelhmjmamnaaGreatDoor.Ev
open Go Go.RowKit

section
variable {P : Program} {G : Nat}
/-- A result, read. -/
def resS (tmps : Array Value) : ResultVar → Sem Value
  | .tmp t => pure (tmps.getD t undef)
  | .cell a t => do loadVar t (← asAddr (tmps.getD a undef))
theorem results_eq (fn : Func) (tmps : Array Value) : results fn tmps = (do
    let vs ← fn.results.mapM (resS tmps)
    pure (if h : vs.size = 1 then vs[0] else .tuple vs)) := by
  unfold results
  congr 1
theorem getD_of {tmps : Array Value} {t : Nat} {v d : Value} (h : tmps[t]? = some v) : tmps.getD t d = v := by
  rw [Array.getD_eq_getD_getElem?, h]; rfl
theorem resK_sound {ρ : Env} {H : HP} {w : World} {T : PT Value} {tmps : Array Value} (hS : Sat P ρ H w) (hT : TR ρ T tmps) : ∀ (rs : List ResultVar) (k : List Value → Rs Out) (r : Out), resK P H T rs k = .ok r → ∃ us vs, k us = .ok r ∧ (rs.mapM (resS tmps)).run P w = .ok vs w ∧ VL ρ us vs
  | [], k, r, h => ⟨[], [], h, by simp, .nil ρ⟩
  | .tmp t :: rs, k, r, h => by
    have h' : (match T.get t with | some v => resK P H T rs fun l => k (v :: l) | none => .bad 210) = .ok r := h
    split at h'
    · rename_i u hu
      obtain ⟨v, hv, hr⟩ := hT t u hu
      obtain ⟨us, vs, h1, h2, h3⟩ := resK_sound hS hT rs _ r h'
      refine ⟨u :: us, v :: vs, h1, ?_, .cons hr h3⟩
      rw [List.mapM_cons]
      simp only [resS, Sem.run_bind, Sem.run_pure, Result.andThen_ok, h2, getD_of hv]
    · cases h'
  | .cell a t :: rs, k, r, h => by
    have h' : (match T.get a with | some (.pointer (some ⟨n, off, _⟩)) => loadC P H t n off fun v => resK P H T rs fun l => k (v :: l) | _ => .bad 211) = .ok r := h
    split at h'
    · rename_i n off s hu
      obtain ⟨v, hv, hr⟩ := hT a _ hu
      cases hr with
      | @ptr _ _ _ b C hn =>
        obtain ⟨u, v2, h1, h2, h3⟩ := load_sound hS hn h'
        obtain ⟨us, vs, h4, h5, h6⟩ := resK_sound hS hT rs _ r h1
        refine ⟨u :: us, v2 :: vs, h4, ?_, .cons h3 h6⟩
        rw [List.mapM_cons]
        simp only [resS, Sem.run_bind, Sem.run_pure, Result.andThen_ok, h5, getD_of hv, asAddr, h2]
    · cases h'
theorem VR.oneV {ρ : Env} {us vs : List Value} (h : VL ρ us vs) : VR ρ (oneV us) (if h : (⟨vs⟩ : Array Value).size = 1 then (⟨vs⟩ : Array Value)[0] else .tuple ⟨vs⟩) := by
  cases us with
  | nil => obtain rfl := h.nil_inv; exact .tuple h.1 h.2
  | cons u us =>
    obtain ⟨v, vs, rfl, h1, h2⟩ := h.cons_inv
    cases us with
    | nil => obtain rfl := h2.nil_inv; exact h1
    | cons u2 us =>
      obtain ⟨v2, vs, rfl, _, _⟩ := h2.cons_inv
      have : ¬ (⟨v :: v2 :: vs⟩ : Array Value).size = 1 := by simp
      rw [dif_neg this]
      exact .tuple h.1 h.2
theorem results_run {ρ : Env} {H : HP} {w : World} {T : PT Value} {tmps : Array Value} {fn : Func} {k : List Value → Rs Out} {r : Out} (hS : Sat P ρ H w) (hT : TR ρ T tmps) (h : resK P H T fn.results.toList k = .ok r) :
    ∃ us v, k us = .ok r ∧ (results fn tmps).run P w = .ok v w ∧ VR ρ (oneV us) v := by
  obtain ⟨us, vs, h1, h2, h3⟩ := resK_sound hS hT _ _ _ h
  refine ⟨us, _, h1, ?_, VR.oneV h3⟩
  have e : fn.results.mapM (resS tmps) = Functor.map List.toArray (fn.results.toList.mapM (resS tmps)) := by
    have := List.mapM_toArray (l := fn.results.toList) (f := resS tmps)
    simpa using this
  rw [results_eq, e]
  simp only [Sem.run_bind, Sem.run_map, h2, Result.andThen_ok, Sem.run_pure]

theorem putArgs_inv : ∀ (l : List Value) (i : Nat) (T : PT Value) (k : PT Value → Rs Out) (r : Out), putArgs l i T k = .ok r → ∃ T', k T' = .ok r ∧ ∀ j y, T'.get j = some y → (i ≤ j ∧ l[j - i]? = some y) ∨ ((j < i ∨ i + l.length ≤ j) ∧ T.get j = some y)
  | [], i, T, k, r, h => ⟨T, h, fun j y e => .inr ⟨by simp; omega, e⟩⟩
  | v :: l, i, T, k, r, h => by
    have h' : T.setK i v (fun T' => putArgs l (Nat.succ i) T' k) (.bad 212) = .ok r := h
    rcases T.setK_spec i v with hb | ⟨T1, y, h1, h2, h3⟩
    · rw [hb] at h'; cases h'
    · rw [h1] at h'
      obtain ⟨T', h4, h5⟩ := putArgs_inv l (i + 1) T1 k r h'
      refine ⟨T', h4, fun j y e => ?_⟩
      rcases h5 j y e with ⟨g1, g2⟩ | ⟨g1, g2⟩
      · have hj : j - i = (j - (i + 1)) + 1 := by omega
        exact .inl ⟨by omega, by rw [hj, List.getElem?_cons_succ]; exact g2⟩
      · rw [h3] at g2
        by_cases ej : j = i
        · rw [if_pos ej] at g2
          subst ej
          exact .inl ⟨Nat.le_refl _, by rw [Nat.sub_self]; exact g2⟩
        · rw [if_neg ej] at g2
          simp only [List.length_cons]
          exact .inr ⟨by omega, g2⟩
theorem putPs_inv : ∀ (ps : List Tmp) (us : List Value) (T : PT Value) (k : PT Value → Rs Out) (r : Out), putPs ps us T k = .ok r → us.length = ps.length ∧ ∃ T', k T' = .ok r ∧ ∀ {ρ : Env} {tmps : Array Value} {vs : List Value}, TR ρ T tmps → VL ρ us vs → TR ρ T' ((ps.zip vs).foldl (fun tmps p => tmps.setIfInBounds p.1 p.2) tmps)
  | [], us, T, k, r, h => by
    cases us with
    | nil => exact ⟨rfl, T, h, fun h1 _ => h1⟩
    | cons u us => cases h
  | p :: ps, us, T, k, r, h => by
    cases us with
    | nil => cases h
    | cons u us =>
      have h' : T.setK p u (fun T' => putPs ps us T' k) (.bad 232) = .ok r := h
      rcases T.setK_spec p u with hb | ⟨T1, y, h1, h2, h3⟩
      · rw [hb] at h'; cases h'
      · rw [h1] at h'
        obtain ⟨e1, T', e2, e3⟩ := putPs_inv ps us T1 k r h'
        refine ⟨by simp [e1], T', e2, fun {ρ tmps vs} hT hv => ?_⟩
        obtain ⟨v, vs, rfl, hv1, hv2⟩ := hv.cons_inv
        exact e3 (hT.set h2 h3 hv1) hv2

theorem extern_ok {f : FuncId} {us vs : List Value} {N : Nat} {out : Out} {ρ : Env} {w : World} (h : externC P f us N = .ok out) (hv : VL ρ us vs) : NextOk P (callFunc f ⟨vs⟩) ρ N out w := by
  unfold externC at h
  cases ha : us.all (flat 3) with
  | false => rw [ha] at h; cases h
  | true =>
    rw [ha, cond_true] at h
    rw [hv.flat_eq 3 ha]
    split at h
    · rename_i v hp
      rw [forceV_eq] at h
      cases hf : flat 3 v with
      | false => rw [hf] at h; cases h
      | true =>
        rw [hf] at h
        cases h
        refine ⟨Nat.le_refl _, fun hD ro m o a K Q hK => ?_⟩
        rw [prun_run hp w]
        exact hK v w ρ (.refl P ρ N w) (flat_le 3 _ hf _)
    · cases h
end
end Go.Proofs.YtadpelhmjmamnaaGreatDoor.Ev
