/- The reckoner: a region some of whose head its first writer does not wait for, in every order. No conditions. -/
import Derived.Test.YtadpelhmjmamnaaGreatDoorEvPF
namespace Go.Proofs.YtadpelhmjmamnaaGreatDoor.Ev
open Go Go.RowKit

theorem mem_floats {ops : Array Oper} {n j : Nat} : j ∈ floats ops n ↔ j < n ∧ ancB ops n j = false := by
  unfold floats
  rw [List.mem_filter, List.mem_range]
  simp
section
variable {P : Program} {G : Nat} {call : CallT} {yld : YldT} {ops : Array Oper} {n : Nat} {ρ0 : Env} {N0 : Nat} {w0 : World} {on : Oper}
variable {T : PT Value} {H : HP} {N lo : Nat} {D : List DE} {T1 : PT Value} {H1 : HP} {N1 lo1 : Nat} {D1 : List DE}
/-- The form of such a region, in words. -/
structure FForm (ops : Array Oper) (n : Nat) (on : Oper) : Prop where
  at_ : ops[n]? = some on
  guard : on.guard = none
  flo : ∀ j, j ∈ floats ops n → ∃ oj, ops[j]? = some oj ∧ floatB ops n on oj = true
  edges : edges1B (ops.toList.take (n + 1)) 0 = true
  anc : ∀ k, n < k → k < ops.size → ∀ j, j ≤ n → ancB ops k j = true
  seq : seq1B ops (ops.size - (n + 1)) (n + 1) (endA ops.size (n + 1)) = true
theorem FForm.of {ops : Array Oper} {n : Nat} (h : okF ops n = true) : ∃ on, FForm ops n on := by
  unfold okF at h
  simp only [Bool.and_eq_true] at h
  obtain ⟨⟨⟨h1, h2⟩, h3⟩, h4⟩ := h
  split at h4
  · rename_i on hon
    simp only [Bool.and_eq_true] at h4
    refine ⟨on, hon, by simpa using h4.1, fun j hj => ?_, h3, fun k hk hks j hj => ?_, h2⟩
    · have h5 := List.all_eq_true.1 h4.2 j hj
      split at h5
      · rename_i oj hoj; exact ⟨oj, hoj, h5⟩
      · cases h5
    · have h5 := List.all_eq_true.1 h1 k (by rw [List.mem_range']; exact ⟨k - (n + 1), by omega, by omega⟩)
      exact List.all_eq_true.1 h5 j (List.mem_range.2 (by omega))
  · cases h4
theorem FForm.lt (F : FForm ops n on) : n < ops.size := (Array.getElem?_eq_some_iff.1 F.at_).1
/-- The first that has not come up is ready. -/
theorem FForm.first (F : FForm ops n on) {ls : Array Bool} (hsz : ls.size = ops.size) {j : Nat} (hj : j ≤ n) (hun : ls.getD j true = false) (hbef : ∀ k, k < j → ls.getD k true = true) : j ∈ Region.ready .any ops ls := by
  have hjo : j < ops.size := Nat.lt_of_le_of_lt hj F.lt
  refine mem_ready.2 ⟨hun, ops[j], Array.getElem?_eq_getElem hjo, fun e he hb => ?_⟩
  have h1 := edges1_spec _ 0 j ops[j] e F.edges (by
    rw [List.getElem?_take_of_lt (by omega), Array.getElem?_toList]; exact Array.getElem?_eq_getElem hjo) he hb
  exact getD_true (by omega) (hbef e.on (by omega))
theorem FForm.no_late (F : FForm ops n on) {ls : Array Bool} (hcl : Closed ops ls) {i j : Nat} (hr : i ∈ Region.ready .any ops ls) (hj : j ≤ n) (hun : ls.getD j true = false) : i ≤ n := by
  rcases Nat.lt_or_ge n i with h | h
  · obtain ⟨_, o, ho, _⟩ := mem_ready.1 hr
    have := ready_anc hcl hr (F.anc i h (Array.getElem?_eq_some_iff.1 ho).1 j hj)
    rw [getD_both hun] at this
    cases this
  · exact h
/-- Behind the first writer. -/
theorem stage2 (F : FForm ops n on) (hc : CallOk P G call) (hy : YldOk P G yld) (hG : Glob G ρ0) (hchk : chkF P G call yld ops T1 H1 N1 (floats ops n) = true) (ro : Option Nat) (m : Nat) (Q : Exit → Act → World → Prop)
    (hend : ∀ a w ρ, Inv P ρ0 N0 w0 T1 H1 N1 lo1 D1 a w ρ → wpOpsIn (fe ro) m P ops Q (List.range' (n + 1) (ops.size - (n + 1))) a w) :
    ∀ k fuel ls a w ρ, MI P ops n ρ0 N0 w0 T1 H1 N1 lo1 D1 ls a w ρ → ls.getD n true = true → (∀ i, n < i → i < ops.size → ls.getD i true = false) → (∀ j, j < n → ls.getD j true = false → ancB ops n j = false) → openC ls n = k → fuel = ops.size - (n + 1) + k → wpAnyIn (fe ro) m P .any ops Q fuel ls a w
  | 0, fuel, ls, a, w, ρ, I, hn, htl, hfl, hk, hfu => by
    have hall := openC_zero _ hk
    obtain rfl : ls = endA ops.size (n + 1) := endA_eq I.size (fun j hj => by
      by_cases e : j = n
      · rw [e]; exact hn
      · exact hall j (by omega)) (fun t h1 h2 => htl t (by omega) h2)
    rw [hfu, Nat.add_zero]
    exact tail_any _ _ _ a w F.seq (hend a w ρ ⟨I.inv.wr, fun t u h => I.tr t u h (fun j o hj hun => by rw [hall j hj] at hun; cases hun), I.inv.le, I.inv.dd, I.inv.dom⟩)
  | k + 1, fuel, ls, a, w, ρ, I, hn, htl, hfl, hk, hfu => by
    obtain ⟨f, rfl⟩ : ∃ f, fuel = f + 1 := ⟨ops.size - (n + 1) + k, by omega⟩
    obtain ⟨j, hj, hun, hbef⟩ := openC_first n (by omega : openC ls n ≠ 0)
    have hjr := F.first I.size (by omega) hun hbef
    refine ⟨fun h0 => (by rw [h0] at hjr; cases hjr), fun i hi => ?_⟩
    have hui : ls.getD i true = false := (mem_ready.1 hi).1
    have hin : i < n := by
      have h1 := F.no_late I.closed hi (show j ≤ n by omega) hun
      rcases Nat.lt_or_ge i n with h | h
      · exact h
      · obtain rfl : i = n := by omega
        rw [hn] at hui; cases hui
    have hif := mem_floats.2 ⟨hin, hfl i hin hui⟩
    obtain ⟨o, d, u, c1, c2, c3, c4⟩ := chkF_inv hchk i hif
    obtain ⟨oj, d1, d2⟩ := F.flo i hif
    rw [c1] at d1
    cases d1
    refine I.float hc hy hG hin (Nat.le_of_lt F.lt) hi c1 c2 c3 c4 d2 ro m Q _ (fun a' w' ρ' I' => ?_)
    have ho := openC_set hui (getD_size' hui) n hin
    exact stage2 F hc hy hG hchk ro m Q hend k f _ a' w' ρ' I' (by rw [getD_set_ne true (by omega)]; exact hn) (fun t h1 h2 => by rw [getD_set_ne true (by omega)]; exact htl t h1 h2)
      (fun t h1 h2 => hfl t h1 (unset (getD_size' hui) h2).2) (by omega) (by omega)
/-- Ahead of the first writer, all being there for which it waits. -/
theorem stage1 (F : FForm ops n on) (hc : CallOk P G call) (hy : YldOk P G yld) (hG : Glob G ρ0) (hchk0 : chkF P G call yld ops T H N (floats ops n) = true) (hchk : chkF P G call yld ops T1 H1 N1 (floats ops n) = true)
    {x : Ex} (hrun : (opsF P G ops [on]).run call yld T H N lo D = .ok (x, ⟨T1, H1, N1, lo1, D1⟩)) {Nend : Nat} (hF : Free ρ0 N0 Nend) (hNend : N1 ≤ Nend) (ro : Option Nat) (m : Nat) (Q : Exit → Act → World → Prop)
    (hend : ∀ a w ρ, Inv P ρ0 N0 w0 T1 H1 N1 lo1 D1 a w ρ → wpOpsIn (fe ro) m P ops Q (List.range' (n + 1) (ops.size - (n + 1))) a w) :
    ∀ k fuel ls a w ρ, MI P ops n ρ0 N0 w0 T H N lo D ls a w ρ → (∀ i, n ≤ i → i < ops.size → ls.getD i true = false) → (∀ j, j < n → ls.getD j true = false → ancB ops n j = false) → openC ls n = k → fuel = ops.size - n + k → wpAnyIn (fe ro) m P .any ops Q fuel ls a w := by
  intro k
  induction k with
  | zero =>
    intro fuel ls a w ρ I htl hfl hk hfu
    have hlt := F.lt
    obtain ⟨f, rfl⟩ : ∃ f, fuel = f + 1 := ⟨ops.size - (n + 1), by omega⟩
    have hall := openC_zero _ hk
    have hnr := F.first I.size (Nat.le_refl n) (htl n (Nat.le_refl _) hlt) hall
    refine ⟨fun h0 => (by rw [h0] at hnr; cases hnr), fun i hi => ?_⟩
    have hui : ls.getD i true = false := (mem_ready.1 hi).1
    have h1 := F.no_late I.closed hi (Nat.le_refl n) (htl n (Nat.le_refl _) hlt)
    obtain rfl : i = n := by
      rcases Nat.lt_or_ge i n with h | h
      · rw [hall i h] at hui; cases hui
      · omega
    refine I.step hc hy hG hi F.at_ F.guard (fun t _ j o hj hun => by rw [hall j hj] at hun; cases hun) (fun d _ j o hj hun => by rw [hall j hj] at hun; cases hun) hrun hF hNend ro m Q _ (fun a' w' ρ' I' => ?_)
    exact stage2 F hc hy hG hchk ro m Q hend 0 f _ a' w' ρ' I' (by simp [Array.getD_eq_getD_getElem?, getD_size' hui]) (fun t h1 h2 => by rw [getD_set_ne true (by omega)]; exact htl t (by omega) h2)
      (fun t h1 h2 => hfl t h1 (unset (getD_size' hui) h2).2) (by rw [openC_same _ (Nat.le_refl _)]; exact hk) (by omega)
  | succ k ih =>
    intro fuel ls a w ρ I htl hfl hk hfu
    have hlt := F.lt
    obtain ⟨f, rfl⟩ : ∃ f, fuel = f + 1 := ⟨ops.size - n + k, by omega⟩
    obtain ⟨j, hj, hun, hbef⟩ := openC_first n (by omega : openC ls n ≠ 0)
    have hjr := F.first I.size (by omega) hun hbef
    refine ⟨fun h0 => (by rw [h0] at hjr; cases hjr), fun i hi => ?_⟩
    have hui : ls.getD i true = false := (mem_ready.1 hi).1
    have h1 := F.no_late I.closed hi (Nat.le_refl n) (htl n (Nat.le_refl _) hlt)
    rcases Nat.lt_or_ge i n with hin | hin
    · have hif := mem_floats.2 ⟨hin, hfl i hin hui⟩
      obtain ⟨o, d, u, c1, c2, c3, c4⟩ := chkF_inv hchk0 i hif
      obtain ⟨oj, d1, d2⟩ := F.flo i hif
      rw [c1] at d1
      cases d1
      refine I.float hc hy hG hin (Nat.le_of_lt hlt) hi c1 c2 c3 c4 d2 ro m Q _ (fun a' w' ρ' I' => ?_)
      have ho := openC_set hui (getD_size' hui) n hin
      exact ih f _ a' w' ρ' I' (fun t h1 h2 => by rw [getD_set_ne true (by omega)]; exact htl t h1 h2) (fun t h1 h2 => hfl t h1 (unset (getD_size' hui) h2).2) (by omega) (by omega)
    · obtain rfl : i = n := by omega
      have flo : ∀ j o, j < i → ls.getD j true = false → ops[j]? = some o → floatB ops i on o = true := fun j o hj hun hoj => by
        obtain ⟨oj, d1, d2⟩ := F.flo j (mem_floats.2 ⟨hj, hfl j hj hun⟩)
        rw [hoj] at d1
        cases d1
        exact d2
      refine I.step hc hy hG hi F.at_ F.guard (fun t ht j o hj hun hoj hd => ?_) (fun d hd j o hj hun hoj hd2 => ?_) hrun hF hNend ro m Q _ (fun a' w' ρ' I' => ?_)
      · have h2 := flo j o hj hun hoj
        unfold floatB at h2
        rw [hd] at h2
        simp only [Bool.and_eq_true, Bool.not_eq_true', List.contains_eq_mem, decide_eq_false_iff_not] at h2
        exact h2.1.2.1 ht
      · have h2 := flo j o hj hun hoj
        unfold floatB at h2
        rw [hd2, hd] at h2
        simp at h2
      · exact stage2 F hc hy hG hchk ro m Q hend (k + 1) f _ a' w' ρ' I' (by simp [Array.getD_eq_getD_getElem?, getD_size' hui]) (fun t h1 h2 => by rw [getD_set_ne true (by omega)]; exact htl t (by omega) h2)
          (fun t h1 h2 => hfl t h1 (unset (getD_size' hui) h2).2) (by rw [openC_same _ (Nat.le_refl _)]; exact hk) (by omega)
end

section
variable {P : Program} {G : Nat} {call : CallT} {yld : YldT} {ops : Array Oper} {on : Oper} {Hb : HP} {Tb Tf : PT Value} {Nb Nf : Nat} {rs : List HRec} {ρb : Env} {wb : World} {ab : Act} {ρ0 : Env} {N0 : Nat} {w0 : World} {lo : Nat} {D : List DE} {H' : HP}
variable {T1 : PT Value} {H1 : HP} {N1 lo1 : Nat} {D1 : List DE}
/-- The head, in whatever order; what its first writer doesn't wait for may come later. -/
theorem stage0 (F : FForm ops rs.length on) (hc : CallOk P G call) (hy : YldOk P G yld) (hG0 : Glob G ρ0) (IB : Inv P ρ0 N0 w0 Tb Hb Nb lo D ab wb ρb) (hF : Free ρb Nb Nf)
    (hch : Chain P G call yld ops Hb Tb Nb [] rs Tf Nf) (hrs : rs.map (·.o) = ops.toList.take rs.length) (hm : rs.map (·.m) = (ancs ops.toList).take rs.length) (hD : dsts1B (ops.toList.take rs.length) = true) (hE : edges1B (ops.toList.take rs.length) 0 = true) (hL : looksB ops (ops.toList.take rs.length) = true)
    (hnone : ∀ j r, rs[j]? = some r → ancB ops rs.length j = false → r.d = []) (hH' : ∀ n b, H'.get n = some b → (∃ d ∈ rs.map (·.d), (n, b) ∈ d) ∨ Hb.get n = some b)
    (hchk0 : chkF P G call yld ops Tf H' Nf (floats ops rs.length) = true) (hchk : chkF P G call yld ops T1 H1 N1 (floats ops rs.length) = true)
    {x : Ex} (hrun : (opsF P G ops [on]).run call yld Tf H' Nf lo D = .ok (x, ⟨T1, H1, N1, lo1, D1⟩)) {Nend : Nat} (hF0 : Free ρ0 N0 Nend) (hNend : N1 ≤ Nend) (ro : Option Nat) (m : Nat) (Q : Exit → Act → World → Prop)
    (hend : ∀ a w ρ, Inv P ρ0 N0 w0 T1 H1 N1 lo1 D1 a w ρ → wpOpsIn (fe ro) m P ops Q (List.range' (rs.length + 1) (ops.size - (rs.length + 1))) a w) :
    ∀ k fuel ls a w ρ D', HInv P ops rs ρb Nb Nf ab wb ls a w ρ D' → openC ls rs.length = k → fuel = ops.size - rs.length + k → wpAnyIn (fe ro) m P .any ops Q fuel ls a w := by
  have hlt := F.lt
  have hrec : ∀ j, j < rs.length → ∃ r, rs[j]? = some r := fun j hj => ⟨_, List.getElem?_eq_getElem hj⟩
  have hopr : ∀ (j : Nat) (r : HRec), rs[j]? = some r → ops[j]? = some r.o ∧ (ops.toList.take rs.length)[j]? = some r.o := fun j r hr => by
    have hj : j < rs.length := (List.getElem?_eq_some_iff.1 hr).1
    have e1 : (rs.map (·.o))[j]? = some r.o := by rw [List.getElem?_map, hr]; rfl
    rw [hrs] at e1
    refine ⟨?_, e1⟩
    rw [List.getElem?_take_of_lt hj, Array.getElem?_toList] at e1; exact e1
  intro k
  induction k with
  | zero =>
    intro fuel ls a w ρ D' I hk hfu
    have hall := openC_zero _ hk
    exact go I (fun j hj hun => by rw [hall j hj] at hun; cases hun) hk hfu
  | succ k ih =>
    intro fuel ls a w ρ D' I hk hfu
    by_cases hs : ∃ j, j < rs.length ∧ ls.getD j true = false ∧ ancB ops rs.length j = true
    · obtain ⟨f, rfl⟩ : ∃ f, fuel = f + 1 := ⟨ops.size - rs.length + k, by omega⟩
      obtain ⟨j, hj, hun, hbef⟩ := openC_first rs.length (by omega : openC ls rs.length ≠ 0)
      have hjr := F.first I.size (by omega) hun hbef
      refine ⟨fun h0 => (by rw [h0] at hjr; cases hjr), fun i hi => ?_⟩
      obtain ⟨q, hq1, hq2, hq3⟩ := hs
      have hir : i < rs.length := by
        have h1 := F.no_late I.closed hi (Nat.le_of_lt hq1) hq2
        rcases Nat.lt_or_ge i rs.length with h | h
        · exact h
        · obtain rfl : i = rs.length := by omega
          have := ready_anc I.closed hi hq3
          rw [getD_both hq2] at this
          cases this
      have hui : ls.getD i true = false := (mem_ready.1 hi).1
      refine head_step hc hy IB.wr.sat IB.wr.named (hG0.mono IB.wr.ext) IB.dom IB.tr hch hrs hm hD hE hL I hir hi ro m Q _ (fun a' w' ρ' D' I' => ?_)
      have ho := openC_set hui (getD_size' hui) rs.length hir
      exact ih f _ a' w' ρ' D' I' (by omega) (by omega)
    · exact go I (fun j hj hun => by
        cases h : ancB ops rs.length j with
        | false => rfl
        | true => exact absurd ⟨j, hj, hun, h⟩ hs) hk hfu
  where
  go {k fuel : Nat} {ls : Array Bool} {a : Act} {w : World} {ρ : Env} {D' : List (Nat × AB)} (I : HInv P ops rs ρb Nb Nf ab wb ls a w ρ D') (hfl : ∀ j, j < rs.length → ls.getD j true = false → ancB ops rs.length j = false) (hk : openC ls rs.length = k) (hfu : fuel = ops.size - rs.length + k) : wpAnyIn (fe ro) m P .any ops Q fuel ls a w := by
    have hopr : ∀ (j : Nat) (r : HRec), rs[j]? = some r → ops[j]? = some r.o ∧ (ops.toList.take rs.length)[j]? = some r.o := fun j r hr => by
      have hj : j < rs.length := (List.getElem?_eq_some_iff.1 hr).1
      have e1 : (rs.map (·.o))[j]? = some r.o := by rw [List.getElem?_map, hr]; rfl
      rw [hrs] at e1
      refine ⟨?_, e1⟩
      rw [List.getElem?_take_of_lt hj, Array.getElem?_toList] at e1; exact e1
    have hlt := F.lt
    have listed : ∀ j, j < rs.length → ls.getD j true = true → ls.getD j false = true := fun j hj h => getD_true (by rw [I.size]; omega) h
    refine stage1 F hc hy hG0 hchk0 hchk hrun hF0 hNend ro m Q hend k fuel ls a w ρ ⟨IB.grew I.grew hF hch.le (fun n b hn => ?_) (nilTR _ _) I.dfr, fun t u hu hh => ?_, fun j o t hj hun hoj hd => ?_, I.closed, I.size⟩ (fun i h1 h2 => I.tail i h1 h2) hfl hk hfu
    · rcases hH' n b hn with ⟨d, g1, g2⟩ | g
      · obtain ⟨r, hr, rfl⟩ := List.mem_map.1 g1
        obtain ⟨j, hj⟩ := List.getElem?_of_mem hr
        have hjl : j < rs.length := (List.getElem?_eq_some_iff.1 hj).1
        cases hv : ls.getD j true with
        | true => exact .inl (I.cov j r _ (listed j hjl hv) hj g2)
        | false => rw [hnone j r hj (hfl j hjl hv)] at g2; simp at g2
      · exact .inr g
    · rcases hch.fin t u hu with ⟨j, r, g1, g2, rfl⟩ | ⟨g1, g2⟩
      · have hjl : j < rs.length := (List.getElem?_eq_some_iff.1 g1).1
        cases hv : ls.getD j true with
        | true =>
          obtain ⟨y, hy1, hy2⟩ := I.got j r t (listed j hjl hv) g1 g2
          exact ⟨y, hy1, hy2.mono (cut_ext _ _)⟩
        | false => exact absurd g2 (hh j r.o hjl hv (hopr j r g1).1)
      · obtain ⟨y, hy1, hy2⟩ := IB.tr t u g2
        refine ⟨y, ?_, hy2.mono I.grew.ext⟩
        rw [I.old t (fun i r _ hr => g1 i r hr)]
        exact hy1
    · obtain ⟨r, hr⟩ : ∃ r, rs[j]? = some r := ⟨_, List.getElem?_eq_getElem hj⟩
      have ho' := (hopr j r hr).1
      rw [hoj] at ho'
      cases ho'
      obtain ⟨c1, c2, c3, c4, c5, c6, c7, c8⟩ := hch.at j r hr
      rcases c6 with ⟨k1, _⟩ | ⟨d, y, k1, k2, k3⟩
      · rw [k1] at hd; cases hd
      · rw [k1] at hd
        cases hd
        rcases c7 t y k2 with ⟨i, q, g1, g2, g3, _⟩ | ⟨_, g2⟩
        · exact absurd k1 (dsts1_ne _ i j q.o r.o hD (hopr i q g2).2 (hopr j r hr).2 (by omega) t g3)
        · obtain ⟨v0, hv0, _⟩ := IB.tr t y g2
          have hold := I.old t (fun i q hli hq hqd => by
            have hij : i ≠ j := fun e => by subst e; rw [getD_both hun] at hli; cases hli
            exact dsts1_ne _ i j q.o r.o hD (hopr i q hq).2 (hopr j r hr).2 hij t hqd k1)
          rw [← hold] at hv0
          exact (Array.getElem?_eq_some_iff.1 hv0).1
end
end Go.Proofs.YtadpelhmjmamnaaGreatDoor.Ev
