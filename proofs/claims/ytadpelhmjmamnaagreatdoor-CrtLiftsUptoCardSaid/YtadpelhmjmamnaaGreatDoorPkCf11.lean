/- The reckoner: a region of which one operation may write, the others do not, in every order. No conditions. The reckoner: a region that draws its order. No conditions. The reckoner: records of ranges over functions. No conditions. The reckoner: a range over a function. No conditions. -/
import Derived.Test.YtadpelhmjmamnaaGreatDoorPkCf10
import Derived.RangeFuncNested
import Derived.RangeFuncCalls
import Derived.LoopNIn
namespace Go.Proofs.YtadpelhmjmamnaaGreatDoor
section
namespace Ev
open Go Go.RowKit

/-- The form of such a region, in words. -/
structure WForm (ops : Array Oper) (k : Nat) : Prop where
  lt : k < ops.size
  edges : edges1B ops.toList 0 = true
  guard : ∀ (j : Nat) (o : Oper), ops[j]? = some o → o.guard = none
  dst : ∀ (j : Nat) (o : Oper), ops[j]? = some o → j ≠ k → ∃ d, o.dst = some d
  look : ∀ (j : Nat) (o : Oper), ops[j]? = some o → ∀ t, t ∈ o.looksAt ops → ∀ (i : Nat) (q : Oper), ops[i]? = some q → q.dst = some t → waits1B o i = true
  own : ∀ (i j : Nat) (p q : Oper), ops[i]? = some p → ops[j]? = some q → i ≠ j → ∀ t, p.dst = some t → q.dst ≠ some t
theorem WForm.of {ops : Array Oper} {k : Nat} (h : okW ops k = true) : WForm ops k := by
  unfold okW at h
  simp only [Bool.and_eq_true] at h
  obtain ⟨⟨h1, h2⟩, h3⟩ := h
  have at_ : ∀ (j : Nat) (o : Oper), ops[j]? = some o → (o, j) ∈ ops.toList.zipIdx := fun j o ho => by
    rw [List.mem_zipIdx_iff_getElem?, Array.getElem?_toList]; exact ho
  have all := fun (j : Nat) (o : Oper) (ho : ops[j]? = some o) => List.all_eq_true.1 h3 (o, j) (at_ j o ho)
  simp only [Bool.and_eq_true] at all
  refine ⟨by have := Nat.le_of_ble_eq_true (show Nat.ble (k + 1) ops.size = true from h1); omega, h2, fun j o ho => by simpa using (all j o ho).1.1.1, fun j o ho hj => ?_, fun j o ho t ht i q hq hd => ?_, fun i j p q hp hq hij t ht hd => ?_⟩
  · have := (all j o ho).1.1.2
    simp only [Bool.or_eq_true, beq_iff_eq] at this
    rcases this with h | h
    · exact Option.isSome_iff_exists.1 h
    · exact absurd h hj
  · have h4 := List.all_eq_true.1 ((all j o ho).1.2) t ht
    have h5 := List.all_eq_true.1 h4 (q, i) (at_ i q hq)
    simp only [Bool.or_eq_true, bne_iff_ne, ne_eq] at h5
    rcases h5 with h5 | h5
    · exact absurd hd h5
    · exact h5
  · have h4 := List.all_eq_true.1 ((all i p hp).2) (q, j) (at_ j q hq)
    simp only [Bool.or_eq_true, beq_iff_eq, bne_iff_ne, ne_eq] at h4
    rcases h4 with (h4 | h4) | h4
    · exact hij h4.symm
    · rw [ht] at h4; cases h4
    · exact h4 (hd.trans ht.symm)
section
variable {P : Program} {G : Nat} {call : CallT} {yld : YldT} {ops : Array Oper} {k : Nat} {ρ0 : Env} {N0 : Nat} {w0 : World}
variable {T : PT Value} {H : HP} {N lo : Nat} {D : List DE} {T1 T2 : PT Value} {H1 : HP} {N1 lo1 : Nat} {D1 : List DE}
theorem runV_inv {x : Ex × St} : ∀ {l : List Nat} {T : PT Value} {kk : PT Value → RX}, runV P G call yld ops H N l T kk = .ok x → ∃ T', kk T' = .ok x ∧ ∀ t u, T'.get t = some u → (∃ (j : Nat) (o : Oper), j ∈ l ∧ ops[j]? = some o ∧ o.dst = some t) ∨ T.get t = some u
  | [], T, kk, h => ⟨T, h, fun t u e => .inr e⟩
  | j :: l, T, kk, h => by
    have h' : (match nth ops.toList j with
      | some o => (match o.dst with
        | some d => (match aop P G call yld o T H N with
          | .ok (.v u _ _) => T.setK d u (fun T' => runV P G call yld ops H N l T' kk) (.bad 261)
          | .ok _ => .bad 262
          | .bad e => .bad e)
        | none => .bad 263)
      | none => .bad 264) = .ok x := h
    rw [nth_eq, Array.getElem?_toList] at h'
    split at h'
    · rename_i o ho
      split at h'
      · rename_i d hd
        split at h'
        · rename_i u _ _ hop
          rcases T.setK_spec d u with hb | ⟨T', y, h1, h2, h3⟩
          · rw [hb] at h'; cases h'
          · rw [h1] at h'
            obtain ⟨T2, g1, g2⟩ := runV_inv h'
            refine ⟨T2, g1, fun t v e => ?_⟩
            rcases g2 t v e with ⟨i, q, k1, k2, k3⟩ | e2
            · exact .inl ⟨i, q, List.mem_cons_of_mem _ k1, k2, k3⟩
            · rw [h3] at e2
              by_cases ht : t = d
              · subst ht; exact .inl ⟨j, o, List.mem_cons_self, ho, hd⟩
              · rw [if_neg ht] at e2; exact .inr e2
        · cases h'
        · cases h'
      · cases h'
    · cases h'
/-- One that writes to nothing comes up. -/
theorem MI.up (F : WForm ops k) (hc : CallOk P G call) (hy : YldOk P G yld) (hG : Glob G ρ0) {ls : Array Bool} {a : Act} {w : World} {ρ : Env} (I : MI P ops ops.size ρ0 N0 w0 T H N lo D ls a w ρ) {i : Nat} (hr : i ∈ Region.ready .any ops ls)
    {o : Oper} {d : Tmp} {u : Value} (ho : ops[i]? = some o) (hd : o.dst = some d) (hop : aop P G call yld o T H N = .ok (.v u [] N)) (hu : T.get d = some u) (ro : Option Nat) (m : Nat) (Q : Exit → Act → World → Prop) (K : Act → World → Prop)
    (hK : ∀ a' w' ρ', MI P ops ops.size ρ0 N0 w0 T H N lo D (ls.setIfInBounds i true) a' w' ρ' → K a' w') : wpOpIn (fe ro) m P ops Q i K a w := by
  have hun : ls.getD i true = false := (mem_ready.1 hr).1
  have hlt : i < ls.size := getD_size' hun
  have hi : i < ops.size := (Array.getElem?_eq_some_iff.1 ho).1
  have hw : Region.wanted o (yielded ops a.tmps) = true := by simp [Region.wanted, F.guard i o ho]
  have hT : ∀ t, Operand.tmp t ∈ o.op.operands → ∀ u, T.get t = some u → ∃ v, a.tmps[t]? = some v ∧ VR ρ u v := fun t ht u hu => I.tr t u hu fun j oj hj hunj hoj hdj => by
    have h3 := waits_ready hr ho (F.look i o ho t (by
      unfold Oper.looksAt
      exact List.mem_append_left _ (List.mem_filterMap.2 ⟨.tmp t, by simpa using ht, rfl⟩)) j oj hoj hdj)
    rw [getD_both hunj] at h3
    cases h3
  have hok := aop_looks hc hy I.inv.wr.sat hT (hG.mono I.inv.wr.ext) I.inv.wr.named hop
  unfold wpOpIn
  rw [ho]
  simp only [hw, if_true]
  refine hok.2 I.inv.dom ro m K Q fun v w' ρ' hgr hv => hK _ w' ρ' ⟨I.inv.grew hgr (fun k h1 h2 => by omega) (Nat.le_refl _) (fun k b hk => .inr hk) (nilTR _ _) (put_defers _ _ _), fun t u' ht hh => ?_, fun j oj t hj hunj hoj hdj => ?_, I.closed.set hr, by simp [I.size]⟩
  · by_cases e : d = t
    · subst e
      rw [hu] at ht
      cases ht
      exact ⟨v, by rw [hd]; exact put_at a v (I.room i o d hi hun ho hd), hv⟩
    · obtain ⟨v0, h1, h2⟩ := I.tr t u' ht fun j oj hj hunj hoj hdj => by
        by_cases ej : i = j
        · subst ej; rw [ho] at hoj; cases hoj; rw [hd] at hdj; cases hdj; exact e rfl
        · exact hh j oj hj (by rw [getD_set_ne true ej]; exact hunj) hoj hdj
      exact ⟨v0, by rw [put_ne a v (by rw [hd]; exact fun h => e (Option.some.inj h))]; exact h1, h2.mono hgr.ext⟩
  · rw [put_size]
    exact I.room j oj t hj (unset hlt hunj).2 hoj hdj
/-- The one that may write comes up. -/
theorem MI.wstep (F : WForm ops k) (hc : CallOk P G call) (hy : YldOk P G yld) (hG : Glob G ρ0) {ls : Array Bool} {a : Act} {w : World} {ρ : Env} (I : MI P ops ops.size ρ0 N0 w0 T H N lo D ls a w ρ) (hr : k ∈ Region.ready .any ops ls)
    {on : Oper} (hon : ops[k]? = some on) {x : Ex} (hrun : (opsF P G ops [on]).run call yld T H N lo D = .ok (x, ⟨T1, H1, N1, lo1, D1⟩)) (hT2 : ∀ t u, T2.get t = some u → (∃ (j : Nat) (o : Oper), j ∈ postW ops k ∧ ops[j]? = some o ∧ o.dst = some t) ∨ T1.get t = some u)
    {Nend : Nat} (hF : Free ρ0 N0 Nend) (hend : N1 ≤ Nend) (ro : Option Nat) (m : Nat) (Q : Exit → Act → World → Prop) (K : Act → World → Prop)
    (hK : ∀ a' w' ρ', MI P ops ops.size ρ0 N0 w0 T2 H1 N1 lo1 D1 (ls.setIfInBounds k true) a' w' ρ' → K a' w') : wpOpIn (fe ro) m P ops Q k K a w := by
  have hun : ls.getD k true = false := (mem_ready.1 hr).1
  have hlt : k < ls.size := getD_size' hun
  have hgd := F.guard k on hon
  have hw : Region.wanted on (yielded ops a.tmps) = true := by simp [Region.wanted, hgd]
  have hT : ∀ t, Operand.tmp t ∈ on.op.operands → ∀ u, T.get t = some u → ∃ v, a.tmps[t]? = some v ∧ VR ρ u v := fun t ht u hu => I.tr t u hu fun j oj hj hunj hoj hdj => by
    have h3 := waits_ready hr hon (F.look k on hon t (by
      unfold Oper.looksAt
      exact List.mem_append_left _ (List.mem_filterMap.2 ⟨.tmp t, by simpa using ht, rfl⟩)) j oj hoj hdj)
    rw [getD_both hunj] at h3
    cases h3
  have h' : (oneF P G on (opsF P G ops [])).run call yld T H N lo D = .ok (x, ⟨T1, H1, N1, lo1, D1⟩) := by
    have e : opsF P G ops [on] = oneF P G on (opsF P G ops []) := by
      show Option.rec (motive := fun _ => OpsC) (oneF P G on (opsF P G ops [])) _ on.guard = _
      rw [hgd]
    rw [e] at hrun; exact hrun
  obtain ⟨out, hop, hrest⟩ := one_inv h'
  have hok := aop_looks hc hy I.inv.wr.sat hT (hG.mono I.inv.wr.ext) I.inv.wr.named hop
  have hTab : ∀ {u : Value} {v : Value} {ρ' : Env}, PutOk on.dst T u T1 → VR ρ' u v → Ext ρ ρ' → ∀ t u', T2.get t = some u' → (∀ j o, j < ops.size → (ls.setIfInBounds k true).getD j true = false → ops[j]? = some o → o.dst ≠ some t) → ∃ v', (a.put on.dst v).tmps[t]? = some v' ∧ VR ρ' u' v' := fun {u v ρ'} hp hv hE t u' ht2 hh => by
    have ht : T1.get t = some u' := by
      rcases hT2 t u' ht2 with ⟨j, o, g1, g2, g3⟩ | g
      · exfalso
        unfold postW at g1
        rw [List.mem_filter, List.mem_range] at g1
        have h2 := g1.2
        rw [Bool.and_eq_true, bne_iff_ne] at h2
        have hunj : ls.getD j true = false := by
          cases hv : ls.getD j true with
          | false => rfl
          | true =>
            have := I.closed j k (getD_true (by rw [I.size]; exact g1.1) hv) h2.2
            rw [getD_both hun] at this
            cases this
        exact hh j o g1.1 (by rw [getD_set_ne true (Ne.symm h2.1)]; exact hunj) g2 g3
      · exact g
    have old : ∀ u', T.get t = some u' → on.dst ≠ some t → ∃ v, a.tmps[t]? = some v ∧ VR ρ u' v := fun u' hu' hne => I.tr t u' hu' fun j o hj hunj hoj hdj => by
      by_cases e : j = k
      · subst e; rw [hon] at hoj; cases hoj; exact hne hdj
      · exact hh j o hj (by rw [getD_set_ne true (Ne.symm e)]; exact hunj) hoj hdj
    rcases hp with ⟨k1, k2⟩ | ⟨d, y, k1, k2, k3⟩
    · rw [k2] at ht
      obtain ⟨v0, e1, e2⟩ := old u' ht (by rw [k1]; simp)
      exact ⟨v0, by rw [k1]; exact e1, e2.mono hE⟩
    · rw [k3] at ht
      by_cases e : t = d
      · subst e
        rw [if_pos rfl] at ht
        cases ht
        exact ⟨v, by rw [k1]; exact put_at a v (I.room k on t F.lt hun hon k1), hv⟩
      · rw [if_neg e] at ht
        have hne : on.dst ≠ some t := by rw [k1]; exact fun h => e (Option.some.inj h).symm
        obtain ⟨v0, e1, e2⟩ := old u' ht hne
        exact ⟨v0, by rw [put_ne a v hne]; exact e1, e2.mono hE⟩
  have hroom : ∀ (v : Value) j o t, j < ops.size → (ls.setIfInBounds k true).getD j true = false → ops[j]? = some o → o.dst = some t → t < (a.put on.dst v).tmps.size := fun v j o t hj hunj hoj hdj => by
    rw [put_size]
    exact I.room j o t hj (unset hlt hunj).2 hoj hdj
  unfold wpOpIn
  rw [hon]
  simp only [hw, if_true]
  cases out with
  | v u d N2 =>
    obtain ⟨hle, T3, H2, hfin, hput, hH2⟩ := hrest
    have hf : Rs.ok (Ex.normal, (⟨T3, H2, N2, lo, D⟩ : St)) = .ok (x, ⟨T1, H1, N1, lo1, D1⟩) := hfin
    cases hf
    exact hok.2 I.inv.dom ro m K Q fun v w' ρ' hgr hv => hK _ w' ρ' ⟨I.inv.grew hgr (I.inv.free hF hend) hle hH2 (nilTR _ _) (put_defers _ _ _), hTab hput hv hgr.ext, hroom v, I.closed.set hr, by simp [I.size]⟩
  | w u H2 N2 lo2 =>
    obtain ⟨hle, T3, hfin, hput⟩ := hrest
    have hf : Rs.ok (Ex.normal, (⟨T3, H2, N2, min lo lo2, D⟩ : St)) = .ok (x, ⟨T1, H1, N1, lo1, D1⟩) := hfin
    cases hf
    exact hok.2 I.inv.dom ro m K Q fun v w' ρ' hgr hv => hK _ w' ρ' ⟨I.inv.wrote hgr hle (nilTR _ _) (put_defers _ _ _), hTab hput hv hgr.ext, hroom v, I.closed.set hr, by simp [I.size]⟩
theorem WForm.first (F : WForm ops k) {ls : Array Bool} (hsz : ls.size = ops.size) {j : Nat} (hj : j < ops.size) (hun : ls.getD j true = false) (hbef : ∀ i, i < j → ls.getD i true = true) : j ∈ Region.ready .any ops ls := by
  refine mem_ready.2 ⟨hun, ops[j], Array.getElem?_eq_getElem hj, fun e he hb => ?_⟩
  have h1 := edges1_spec _ 0 j ops[j] e F.edges (by rw [Array.getElem?_toList]; exact Array.getElem?_eq_getElem hj) he hb
  exact getD_true (by omega) (hbef e.on (by omega))
theorem all_up {ls : Array Bool} (_ : ls.size = ops.size) (h : openC ls ops.size = 0) : (Region.ready .any ops ls).isEmpty = true := by
  cases hr : Region.ready .any ops ls with
  | nil => rfl
  | cons i is =>
    exfalso
    have hi : i ∈ Region.ready .any ops ls := by rw [hr]; exact List.mem_cons_self
    obtain ⟨hui, o, ho, _⟩ := mem_ready.1 hi
    have := openC_zero _ h i (Array.getElem?_eq_some_iff.1 ho).1
    rw [this] at hui; cases hui
/-- Behind the one that may write. -/
theorem wstage1 (F : WForm ops k) (hc : CallOk P G call) (hy : YldOk P G yld) (hG : Glob G ρ0) (hchk : chkF P G call yld ops T2 H1 N1 (behW ops k) = true) (ro : Option Nat) (m : Nat) (Q : Exit → Act → World → Prop)
    (hend : ∀ a w ρ, Inv P ρ0 N0 w0 T2 H1 N1 lo1 D1 a w ρ → Q .normal a w) :
    ∀ c ls a w ρ, MI P ops ops.size ρ0 N0 w0 T2 H1 N1 lo1 D1 ls a w ρ → ls.getD k true = true → (∀ j, j < ops.size → ls.getD j true = false → ancB ops k j = false) → openC ls ops.size = c → wpAnyIn (fe ro) m P .any ops Q c ls a w
  | 0, ls, a, w, ρ, I, hk, hfl, ho => by
    have hall := openC_zero _ ho
    exact ⟨by simpa using all_up I.size ho, hend a w ρ ⟨I.inv.wr, fun t u h => I.tr t u h (fun j o hj hun => by rw [hall j hj] at hun; cases hun), I.inv.le, I.inv.dd, I.inv.dom⟩⟩
  | c + 1, ls, a, w, ρ, I, hk, hfl, ho => by
    obtain ⟨j, hj, hun, hbef⟩ := openC_first ops.size (by omega : openC ls ops.size ≠ 0)
    have hjr := F.first I.size hj hun hbef
    refine ⟨fun h0 => (by rw [h0] at hjr; cases hjr), fun i hi => ?_⟩
    have hui : ls.getD i true = false := (mem_ready.1 hi).1
    obtain ⟨o0, ho0, _⟩ := (mem_ready.1 hi).2
    have hio : i < ops.size := (Array.getElem?_eq_some_iff.1 ho0).1
    have hik : i ≠ k := fun e => by subst e; rw [hk] at hui; cases hui
    have hib : i ∈ behW ops k := by
      unfold behW
      rw [List.mem_filter, List.mem_range]
      refine ⟨hio, ?_⟩
      rw [hfl i hio hui]
      simpa using hik
    obtain ⟨o, d, u, c1, c2, c3, c4⟩ := chkF_inv hchk i hib
    refine I.up F hc hy hG hi c1 c2 c3 c4 ro m Q _ (fun a' w' ρ' I' => ?_)
    have hoc := openC_set hui (getD_size' hui) ops.size hio
    exact wstage1 F hc hy hG hchk ro m Q hend c _ a' w' ρ' I' (by rw [getD_set_ne true hik]; exact hk) (fun t h1 h2 => hfl t h1 (unset (getD_size' hui) h2).2) (by omega)
/-- Ahead of it. -/
theorem wstage0 (F : WForm ops k) (hc : CallOk P G call) (hy : YldOk P G yld) (hG : Glob G ρ0) {on : Oper} (hon : ops[k]? = some on) (hchk0 : chkF P G call yld ops T H N (preW ops k) = true) (hchk : chkF P G call yld ops T2 H1 N1 (behW ops k) = true)
    {x : Ex} (hrun : (opsF P G ops [on]).run call yld T H N lo D = .ok (x, ⟨T1, H1, N1, lo1, D1⟩)) (hT2 : ∀ t u, T2.get t = some u → (∃ (j : Nat) (o : Oper), j ∈ postW ops k ∧ ops[j]? = some o ∧ o.dst = some t) ∨ T1.get t = some u)
    {Nend : Nat} (hF : Free ρ0 N0 Nend) (hNend : N1 ≤ Nend) (ro : Option Nat) (m : Nat) (Q : Exit → Act → World → Prop) (hend : ∀ a w ρ, Inv P ρ0 N0 w0 T2 H1 N1 lo1 D1 a w ρ → Q .normal a w) :
    ∀ c ls a w ρ, MI P ops ops.size ρ0 N0 w0 T H N lo D ls a w ρ → ls.getD k true = false → openC ls ops.size = c → wpAnyIn (fe ro) m P .any ops Q c ls a w
  | 0, ls, a, w, ρ, I, hk, ho => by
    have := openC_zero _ ho k F.lt
    rw [hk] at this; cases this
  | c + 1, ls, a, w, ρ, I, hk, ho => by
    obtain ⟨j, hj, hun, hbef⟩ := openC_first ops.size (by omega : openC ls ops.size ≠ 0)
    have hjr := F.first I.size hj hun hbef
    refine ⟨fun h0 => (by rw [h0] at hjr; cases hjr), fun i hi => ?_⟩
    have hui : ls.getD i true = false := (mem_ready.1 hi).1
    obtain ⟨o0, ho0, _⟩ := (mem_ready.1 hi).2
    have hio : i < ops.size := (Array.getElem?_eq_some_iff.1 ho0).1
    have hoc := openC_set hui (getD_size' hui) ops.size hio
    by_cases hik : i = k
    · subst hik
      refine I.wstep F hc hy hG hi hon hrun hT2 hF hNend ro m Q _ (fun a' w' ρ' I' => ?_)
      refine wstage1 F hc hy hG hchk ro m Q hend c _ a' w' ρ' I' (by simp [Array.getD_eq_getD_getElem?, getD_size' hui]) (fun t h1 h2 => ?_) (by omega)
      cases h : ancB ops i t with
      | false => rfl
      | true =>
        have h3 := ready_anc I.closed hi h
        rw [getD_both (unset (getD_size' hui) h2).2] at h3
        cases h3
    · have hip : i ∈ preW ops k := by
        unfold preW
        rw [List.mem_filter, List.mem_range]
        refine ⟨hio, ?_⟩
        have : ancB ops i k = false := by
          cases h : ancB ops i k with
          | false => rfl
          | true =>
            have h3 := ready_anc I.closed hi h
            rw [getD_both hk] at h3
            cases h3
        rw [this]
        simpa using hik
      obtain ⟨o, d, u, c1, c2, c3, c4⟩ := chkF_inv hchk0 i hip
      refine I.up F hc hy hG hi c1 c2 c3 c4 ro m Q _ (fun a' w' ρ' I' => ?_)
      exact wstage0 F hc hy hG hon hchk0 hchk hrun hT2 hF hNend ro m Q hend c _ a' w' ρ' I' (by rw [getD_set_ne true hik]; exact hk) (by omega)
/-- **A region of which one operation may write.** -/
theorem oneW_sound (hc : CallOk P G call) (hy : YldOk P G yld) {x : Ex} {s' : St} (h : oneW P G call yld ops k T H N lo D = .ok (x, s')) :
    x = .normal ∧ N ≤ s'.N ∧ ∀ ρ0 N0 w0, Free ρ0 N0 s'.N → Glob G ρ0 → ∀ a w ρ, Inv P ρ0 N0 w0 T H N lo D a w ρ → ∀ ro m Q, (∀ a' w' ρ', Inv P ρ0 N0 w0 s'.T s'.H s'.N s'.lo s'.D a' w' ρ' → Q .normal a' w') → wpAnyIn (fe ro) m P .any ops Q ops.size (Array.replicate ops.size false) a w := by
  unfold oneW at h
  cases hb : (okW ops k && roomB T ops k) with
  | false => rw [hb] at h; cases h
  | true =>
    rw [hb] at h
    rw [Bool.and_eq_true] at hb
    have F := WForm.of hb.1
    cases hon : ops[k]? with
    | none => rw [hon] at h; cases h
    | some on =>
      rw [hon] at h
      obtain ⟨T0, h1, hT0⟩ := runV_inv h
      cases hc0 : chkF P G call yld ops T0 H N (preW ops k) with
      | false => rw [hc0] at h1; cases h1
      | true =>
        rw [hc0] at h1
        cases hr : (opsF P G ops [on]).run call yld T0 H N lo D with
        | bad e => rw [hr] at h1; cases h1
        | ok p =>
          obtain ⟨x1, T1, H1, N1, lo1, D1⟩ := p
          rw [hr] at h1
          obtain ⟨T2, h2, hT2⟩ := runV_inv h1
          cases hc1 : chkF P G call yld ops T2 H1 N1 (behW ops k) with
          | false => rw [hc1] at h2; cases h2
          | true =>
            rw [hc1] at h2
            cases h2
            obtain ⟨_, hN1, _⟩ := opsF_sound hc hy [on] [k] ⟨hon, trivial⟩ T0 H N lo D x1 _ hr
            have hN1' : N ≤ N1 := hN1
            refine ⟨rfl, hN1', fun ρ0 N0 w0 hF hG a w ρ I ro m Q hQ => ?_⟩
            have hk : (Array.replicate ops.size false).getD k true = false := by simp [Array.getD_eq_getD_getElem?, F.lt]
            have hno : ∀ i, ¬ (Array.replicate ops.size false).getD i false = true := fun i h => by
              simp [Array.getD_eq_getD_getElem?] at h
              rcases Nat.lt_or_ge i ops.size with hi | hi
              · simp [hi] at h
              · simp [Nat.not_lt.2 hi] at h
            have hopen : ∀ j, j < ops.size → (Array.replicate ops.size false).getD j true = false := fun j hj => by simp [Array.getD_eq_getD_getElem?, hj]
            refine wstage0 F hc hy hG hon hc0 hc1 hr hT2 hF (Nat.le_refl _) ro m Q (fun a' w' ρ' I' => hQ a' w' ρ' I') ops.size _ a w ρ ⟨⟨I.wr, nilTR _ _, I.le, I.dd, I.dom⟩, fun t u ht hh => ?_, fun j o t hj _ ho hd => ?_, fun i j hi => absurd hi (hno i), by simp⟩ hk (openC_new _ _ (Nat.le_refl _))
            · rcases hT0 t u ht with ⟨j, o, g1, g2, g3⟩ | g
              · have hj : j < ops.size := (Array.getElem?_eq_some_iff.1 g2).1
                exact absurd g3 (hh j o hj (hopen j hj) g2)
              · exact I.tr t u g
            · by_cases e : j = k
              · subst e
                rw [hon] at ho
                cases ho
                have h' : (oneF P G on (opsF P G ops [])).run call yld T0 H N lo D = .ok (x1, ⟨T1, H1, N1, lo1, D1⟩) := by
                  have e : opsF P G ops [on] = oneF P G on (opsF P G ops []) := by
                    show Option.rec (motive := fun _ => OpsC) (oneF P G on (opsF P G ops [])) _ on.guard = _
                    rw [F.guard j on hon]
                  rw [e] at hr; exact hr
                obtain ⟨out, _, hrest⟩ := one_inv h'
                have hput : ∃ u T3, PutOk on.dst T0 u T3 := by
                  cases out with
                  | v u d N2 => exact ⟨u, _, hrest.2.choose_spec.choose_spec.2.1⟩
                  | w u H2 N2 lo2 => exact ⟨u, _, hrest.2.choose_spec.2⟩
                obtain ⟨u, T3, hp⟩ := hput
                rcases hp with ⟨k1, _⟩ | ⟨d, y, k1, k2, _⟩
                · rw [k1] at hd; cases hd
                · rw [k1] at hd
                  cases hd
                  rcases hT0 t y k2 with ⟨i, q, g1, g2, g3⟩ | g
                  · unfold preW at g1
                    rw [List.mem_filter] at g1
                    have h2 := g1.2
                    rw [Bool.and_eq_true, bne_iff_ne] at h2
                    exact absurd k1 (F.own i j q on g2 hon h2.1 t g3)
                  · obtain ⟨v0, hv0, _⟩ := I.tr t y g
                    exact (Array.getElem?_eq_some_iff.1 hv0).1
              · have h4 := List.all_eq_true.1 hb.2 (o, j) (by rw [List.mem_zipIdx_iff_getElem?, Array.getElem?_toList]; exact ho)
                simp only [Bool.or_eq_true, beq_iff_eq] at h4
                rcases h4 with h4 | h4
                · exact absurd h4 e
                · rw [hd] at h4
                  obtain ⟨y, hy'⟩ := Option.isSome_iff_exists.1 h4
                  obtain ⟨v0, hv0, _⟩ := I.tr t y hy'
                  exact (Array.getElem?_eq_some_iff.1 hv0).1
end
end Ev
end
section
namespace Ev
open Go Go.RowKit

section
variable {P : Program} {G : Nat} {call : CallT} {yld : YldT} {ops : Array Oper} {H1 : HP} {T1 Tf : PT Value} {N1 Nf : Nat} {rs : List HRec} {ρ1 : Env} {w1 : World} {a1 : Act}
/-- The head comes up, in whatever order; then the tail. -/
theorem head_all (hc : CallOk P G call) (hy : YldOk P G yld) (hS : Sat P ρ1 H1 w1) (hN1 : ∀ n b, H1.get n = some b → n < N1) (hG : Glob G ρ1) (hDm : Dom ρ1 N1) (hT : TR ρ1 T1 a1.tmps)
    (hch : Chain P G call yld ops H1 T1 N1 [] rs Tf Nf) (hrs : rs.map (·.o) = ops.toList.take rs.length) (hm : rs.map (·.m) = (ancs ops.toList).take rs.length) (hD : dsts1B (ops.toList.take rs.length) = true) (hE : edges1B (ops.toList.take rs.length) 0 = true) (hL : looksB ops (ops.toList.take rs.length) = true)
    (hn : rs.length ≤ ops.size) (hanc : ∀ i, rs.length ≤ i → i < ops.size → ∀ j, j < rs.length → ((ancs ops.toList).getD i []).getD j false = true) (hseq : seq1B ops (ops.size - rs.length) rs.length (endA ops.size rs.length) = true)
    (ro : Option Nat) (m : Nat) (Q : Exit → Act → World → Prop)
    (hend : ∀ a w ρ D, HInv P ops rs ρ1 N1 Nf a1 w1 (endA ops.size rs.length) a w ρ D → wpOpsIn (fe ro) m P ops Q (List.range' rs.length (ops.size - rs.length)) a w) :
    ∀ k fuel ls a w ρ D, HInv P ops rs ρ1 N1 Nf a1 w1 ls a w ρ D → openC ls rs.length = k → fuel = ops.size - rs.length + k → wpAnyIn (fe ro) m P .any ops Q fuel ls a w
  | 0, fuel, ls, a, w, ρ, D, I, hk, hfu => by
    obtain rfl : ls = endA ops.size rs.length := endA_eq I.size (openC_zero _ hk) I.tail
    rw [hfu, Nat.add_zero]
    exact tail_any _ _ _ a w hseq (hend a w ρ D I)
  | k + 1, fuel, ls, a, w, ρ, D, I, hk, hfu => by
    obtain ⟨f, rfl⟩ : ∃ f, fuel = f + 1 := ⟨ops.size - rs.length + k, by omega⟩
    obtain ⟨j, hj, hun, hbef⟩ := openC_first rs.length (by omega : openC ls rs.length ≠ 0)
    have hsz := I.size
    have hjr : j ∈ Region.ready .any ops ls := by
      have hjo : j < ops.size := by omega
      refine mem_ready.2 ⟨hun, ops[j], Array.getElem?_eq_getElem hjo, fun e he hb => ?_⟩
      have h1 := edges1_spec _ 0 j ops[j] e hE (by
        rw [List.getElem?_take_of_lt hj, Array.getElem?_toList]; exact Array.getElem?_eq_getElem hjo) he hb
      exact getD_true (by omega) (hbef e.on (by omega))
    refine ⟨fun h0 => (by rw [h0] at hjr; cases hjr), fun i hi => ?_⟩
    have hir : i < rs.length := by
      rcases Nat.lt_or_ge i rs.length with h | h
      · exact h
      · obtain ⟨hui, o, ho, _⟩ := mem_ready.1 hi
        have hio : i < ops.size := (Array.getElem?_eq_some_iff.1 ho).1
        have := ready_anc I.closed hi (hanc i h hio j hj)
        rw [getD_both hun] at this
        cases this
    have hui : ls.getD i true = false := (mem_ready.1 hi).1
    refine head_step hc hy hS hN1 hG hDm hT hch hrs hm hD hE hL I hir hi ro m Q _ (fun a' w' ρ' D' I' => ?_)
    have ho := openC_set hui (getD_size' hui) rs.length hir
    exact head_all hc hy hS hN1 hG hDm hT hch hrs hm hD hE hL hn hanc hseq ro m Q hend k f _ a' w' ρ' D' I' (by omega) (by omega)
end

section
variable {P : Program} {G : Nat} {call : CallT} {yld : YldT} {ops : Array Oper}
theorem drawF_run {okTail : Array Oper → Nat → Bool} {T0 : PT Value} {H0 : HP} {N0 lo : Nat} {D : List DE} {r : Ex × St} (h : (drawF P G okTail ops).run call yld T0 H0 N0 lo D = .ok r) :
    headF call yld (fun tail T N ds =>
      Bool.rec (motive := fun _ => RX) (behind P G call yld ops T0 N0 T H0 N lo D ds)
        (List.rec (motive := fun _ => HP → RX) (fun H => Option.rec (motive := fun _ => RX)
          (.ok (.normal, ⟨T, H, N, lo, D⟩))
          (fun tail => OpsC.rec (motive := fun _ => RX) (fun r => r call yld T H N lo D) tail) tail) (fun d _ ih H => addX d H ih) ds H0)
        (drawB okTail ops ds.length)) H0 (headI P G ops ops.toList (ancs ops.toList)) T0 N0 [] = .ok r := by
  unfold drawF at h
  revert h
  generalize headI P G ops ops.toList (ancs ops.toList) = L
  intro h
  cases L with
  | nil => cases h
  | cons h hs => exact h
theorem seq_full {ops : Array Oper} : (Region.ready .any ops (endA ops.size ops.size)).isEmpty = true := by
  cases hr : Region.ready .any ops (endA ops.size ops.size) with
  | nil => rfl
  | cons i is =>
    exfalso
    have hi : i ∈ Region.ready .any ops (endA ops.size ops.size) := by rw [hr]; exact List.mem_cons_self
    obtain ⟨hui, o, ho, _⟩ := mem_ready.1 hi
    have hio : i < ops.size := (Array.getElem?_eq_some_iff.1 ho).1
    unfold endA at hui
    simp [Array.getD_eq_getD_getElem?, hio] at hui
theorem behind_inv {TS T : PT Value} {H : HP} {NS N lo : Nat} {D : List DE} {ds : List (List (Nat × AB))} {x : Ex} {s' : St} (h : behind P G call yld ops TS NS T H N lo D ds = .ok (x, s')) :
    oneW P G call yld ops ds.length TS H NS lo D = .ok (x, s') ∨ ∃ H' on rest x1 T1 H1 N1 lo1 D1, (∀ n b, H'.get n = some b → (∃ d ∈ ds, (n, b) ∈ d) ∨ H.get n = some b) ∧ ops.toList.drop ds.length = on :: rest ∧ dsts1B (ops.toList.take ds.length) = true ∧ edges1B (ops.toList.take ds.length) 0 = true ∧ looksB ops (ops.toList.take ds.length) = true ∧ okF ops ds.length = true ∧ noneB ds (floats ops ds.length) = true ∧
      (opsF P G ops [on]).run call yld T H' N lo D = .ok (x1, ⟨T1, H1, N1, lo1, D1⟩) ∧ chkF P G call yld ops T H' N (floats ops ds.length) = true ∧ chkF P G call yld ops T1 H1 N1 (floats ops ds.length) = true ∧ (opsF P G ops rest).run call yld T1 H1 N1 lo1 D1 = .ok (x, s') := by
  unfold behind at h
  rw [forceN_eq] at h
  cases hb : drawFB ops ds.length with
  | false => rw [hb] at h; exact .inl h
  | true =>
    rw [hb] at h
    right
    cases hn : noneB ds (floats ops ds.length) with
    | false => rw [hn] at h; cases h
    | true =>
      rw [hn] at h
      obtain ⟨H', h1, h2⟩ := addXs_spec _ H h
      unfold floatF at h1
      split at h1
      · cases h1
      · rename_i on rest hdrop
        have h3 : Bool.rec (motive := fun _ => RX) (.bad 251) (Rs.rec (motive := fun _ => RX) (fun e => .bad e) (fun p => Prod.rec (motive := fun _ => RX) (fun _ s => St.rec (motive := fun _ => RX) (fun T1 H1 N1 lo1 D1 =>
          Bool.rec (motive := fun _ => RX) (.bad 252) ((opsF P G ops rest).run call yld T1 H1 N1 lo1 D1) (chkF P G call yld ops T1 H1 N1 (floats ops ds.length))) s) p) ((opsF P G ops [on]).run call yld T H' N lo D)) (chkF P G call yld ops T H' N (floats ops ds.length)) = .ok (x, s') := h1
        cases hc0 : chkF P G call yld ops T H' N (floats ops ds.length) with
        | false => rw [hc0] at h3; cases h3
        | true =>
          rw [hc0] at h3
          cases hr : (opsF P G ops [on]).run call yld T H' N lo D with
          | bad e => rw [hr] at h3; cases h3
          | ok p =>
            obtain ⟨x1, T1, H1, N1, lo1, D1⟩ := p
            rw [hr] at h3
            have h4 : Bool.rec (motive := fun _ => RX) (.bad 252) ((opsF P G ops rest).run call yld T1 H1 N1 lo1 D1) (chkF P G call yld ops T1 H1 N1 (floats ops ds.length)) = .ok (x, s') := h3
            cases hc1 : chkF P G call yld ops T1 H1 N1 (floats ops ds.length) with
            | false => rw [hc1] at h4; cases h4
            | true =>
              rw [hc1] at h4
              unfold drawFB at hb
              simp only [Bool.and_eq_true] at hb
              exact ⟨H', on, rest, x1, T1, H1, N1, lo1, D1, h2, hdrop, hb.1.1.1, hb.1.1.2, hb.1.2, hb.2, rfl, hr, hc0, hc1, h4⟩
theorem noneB_inv {ds : List (List (Nat × AB))} {fl : List Nat} (h : noneB ds fl = true) {j : Nat} (hj : j ∈ fl) : ds[j]? = some [] := by
  have h1 := List.all_eq_true.1 h j hj
  split at h1
  · rename_i h2; exact h2
  · cases h1
/-- **A region that draws its order.** -/
theorem drawF_sound (hmix : P.follows .mixedOrders = true) (hc : CallOk P G call) (hy : YldOk P G yld) {id : Nat} {T : PT Value} {H : HP} {N lo : Nat} {D : List DE} {x : Ex} {s' : St} (h : (drawF P G okT ops).run call yld T H N lo D = .ok (x, s')) :
    x = .normal ∧ N ≤ s'.N ∧ ∀ ρ0 N0 w0, Free ρ0 N0 s'.N → Glob G ρ0 → ∀ a w ρ, Inv P ρ0 N0 w0 T H N lo D a w ρ → ∀ ro m Q, (∀ a' w' ρ', Inv P ρ0 N0 w0 s'.T s'.H s'.N s'.lo s'.D a' w' ρ' → Q .normal a' w') → (Code.region id ops true).wpIn (fe ro) m P Q a w := by
  have h1 := drawF_run h
  obtain ⟨rs, rest, Tf, Nf, e1, e2, hch, e4⟩ := headF_inv ops.toList (ancs ops.toList) T N [] (ancs_length _) h1
  simp only [List.nil_append, List.length_map] at e4
  have fl : behind P G call yld ops T N Tf H Nf lo D (rs.map (·.d)) = .ok (x, s') → x = .normal ∧ N ≤ s'.N ∧ ∀ ρ0 N0 w0, Free ρ0 N0 s'.N → Glob G ρ0 → ∀ a w ρ, Inv P ρ0 N0 w0 T H N lo D a w ρ → ∀ ro m Q, (∀ a' w' ρ', Inv P ρ0 N0 w0 s'.T s'.H s'.N s'.lo s'.D a' w' ρ' → Q .normal a' w') → (Code.region id ops true).wpIn (fe ro) m P Q a w := fun hbe => by
    rcases behind_inv hbe with h1w | ⟨H', on, rest2, x1, T1, H1, N1, lo1, D1, b1, b2, b3, b4, b5, b6, b7, b8, b9, b10, b11⟩
    · obtain ⟨hx, hle, hw⟩ := oneW_sound hc hy h1w
      exact ⟨hx, hle, fun ρ0 N0 w0 hF hG a w ρ I ro m Q hQ => wpIn_region_any hmix (hw ρ0 N0 w0 hF hG a _ ρ ⟨I.wr.drew, I.tr, I.le, I.dd, I.dom⟩ ro m Q hQ)⟩
    rw [List.length_map] at b2 b3 b4 b5 b6 b7 b9 b10
    obtain ⟨on', F⟩ := FForm.of b6
    have hon : ops[rs.length]? = some on := by
      rw [← Array.getElem?_toList]
      have := congrArg (fun l : List Oper => l[0]?) b2
      simpa using this
    have e' := F.at_
    rw [hon] at e'
    cases e'
    have hlt := F.lt
    have hrest2 : rest2 = ops.toList.drop (rs.length + 1) := by
      have := congrArg (List.drop 1) b2
      rw [List.drop_drop] at this
      simpa using this.symm
    have hrs : rs.map (·.o) = ops.toList.take rs.length := by
      rw [e1]
      exact (List.take_left' (by simp)).symm
    have hle := hch.le
    have hidx1 : Idx ops [rs.length] [on] := ⟨hon, trivial⟩
    obtain ⟨_, hN1, _⟩ := opsF_sound hc hy [on] [rs.length] hidx1 Tf H' Nf lo D x1 _ b8
    obtain ⟨hx, hN', htail⟩ := opsF_sound hc hy rest2 (List.range' (rs.length + 1) (ops.size - (rs.length + 1))) (by
      rw [hrest2]; exact idx_range ops _ _ (by omega)) T1 H1 N1 lo1 D1 x s' b11
    have hN1' : Nf ≤ N1 := hN1
    refine ⟨hx, by omega, fun ρ0 N0 w0 hF hG a w ρ I ro m Q hQ => ?_⟩
    refine wpIn_region_any hmix ?_
    have I1 : Inv P ρ0 N0 w0 T H N lo D a { w with drawn := w.drawn + 1 } ρ := ⟨I.wr.drew, I.tr, I.le, I.dd, I.dom⟩
    have hF1 : Free ρ N Nf := I.free hF (by omega)
    have hno : ∀ i, ¬ (Array.replicate ops.size false).getD i false = true := fun i h => by
      simp [Array.getD_eq_getD_getElem?] at h
      rcases Nat.lt_or_ge i ops.size with hi | hi
      · simp [hi] at h
      · simp [Nat.not_lt.2 hi] at h
    refine stage0 F hc hy hG I1 hF1 hch hrs e2 b3 b4 b5 (fun j r hr ha => ?_) b1 b9 b10 b8 hF hN' ro m Q (fun a' w' ρ' I' => htail ρ0 N0 w0 hF hG a' w' ρ' I' ro m Q hQ) rs.length ops.size _ a _ ρ []
      ⟨.none hF1, fun i r p h => absurd h (hno i), fun i r p h => absurd h (hno i), fun i r p h => absurd h (hno i), fun i r _ hr n h1 h2 => ?_, rfl, fun t _ => rfl, fun i r t h => absurd h (hno i), fun i j h => absurd h (hno i), by simp, fun i h1 h2 => by simp [Array.getD_eq_getD_getElem?, h2]⟩
      (openC_new _ _ (by omega)) (by omega)
    · have hj : j < rs.length := (List.getElem?_eq_some_iff.1 hr).1
      have := noneB_inv b7 (mem_floats.2 ⟨hj, ha⟩)
      rw [List.getElem?_map, hr] at this
      exact Option.some.inj this
    · obtain ⟨_, c2, _, c4, _⟩ := hch.at i r hr
      exact hF1 n (by omega) (by omega)
  cases hb : drawB okT ops rs.length with
  | false => exact fl (by rcases e4 with ⟨_, h2⟩ | ⟨_, h2⟩ <;> (rw [hb] at h2; exact h2))
  | true =>
  have hlen : rs.length + rest.length = ops.size := by
    have := congrArg List.length e1
    rw [List.length_append, List.length_map, Array.length_toList] at this
    exact this.symm
  have hrs : rs.map (·.o) = ops.toList.take rs.length := by
    rw [e1]
    exact (List.take_left' (by simp)).symm
  have hrest : rest = ops.toList.drop rs.length := by
    rw [e1]
    exact (List.drop_left' (by simp)).symm
  have hle := hch.le
  -- what stands from the head on
  have key : ∃ H', dsts1B (ops.toList.take rs.length) = true ∧ edges1B (ops.toList.take rs.length) 0 = true ∧ looksB ops (ops.toList.take rs.length) = true ∧
      (∀ i, rs.length ≤ i → i < ops.size → ∀ j, j < rs.length → ((ancs ops.toList).getD i []).getD j false = true) ∧ seq1B ops (ops.size - rs.length) rs.length (endA ops.size rs.length) = true ∧
      (∀ n b, H'.get n = some b → (∃ d ∈ rs.map (·.d), (n, b) ∈ d) ∨ H.get n = some b) ∧ (opsF P G ops rest).run call yld Tf H' Nf lo D = .ok (x, s') := by
    have form : drawB okT ops rs.length = true → dsts1B (ops.toList.take rs.length) = true ∧ edges1B (ops.toList.take rs.length) 0 = true ∧ looksB ops (ops.toList.take rs.length) = true ∧
        (∀ i, rs.length ≤ i → i < ops.size → ∀ j, j < rs.length → ((ancs ops.toList).getD i []).getD j false = true) ∧ seq1B ops (ops.size - rs.length) rs.length (endA ops.size rs.length) = true := fun hb => by
      unfold drawB at hb
      simp only [Bool.and_eq_true, Bool.or_eq_true] at hb
      obtain ⟨⟨⟨b1, b2⟩, b3⟩, b4⟩ := hb
      refine ⟨b1, b2, b3, ?_⟩
      rcases b4 with b4 | b4
      · have he : rs.length = ops.size := by
          have := Nat.eq_of_beq_eq_true b4
          rwa [Array.length_toList] at this
        refine ⟨fun i h1 h2 => by omega, ?_⟩
        rw [he, Nat.sub_self]
        exact seq_full
      · unfold okT at b4
        simp only [Bool.and_eq_true] at b4
        refine ⟨fun i h1 h2 j hj => ?_, b4.2⟩
        have h3 := List.all_eq_true.1 b4.1 i (by rw [List.mem_range', Array.length_toList]; exact ⟨i - rs.length, by omega, by omega⟩)
        exact List.all_eq_true.1 h3 j (List.mem_range.2 hj)
    rcases e4 with ⟨rfl, h2⟩ | ⟨_, h2⟩
    · rw [hb] at h2
      obtain ⟨H', h3, h4⟩ := addXs_spec _ H h2
      obtain ⟨f1, f2, f3, f4, f5⟩ := form hb
      exact ⟨H', f1, f2, f3, f4, f5, h4, h3⟩
    · rw [hb] at h2
      obtain ⟨H', h3, h4⟩ := addXs_spec _ H h2
      obtain ⟨f1, f2, f3, f4, f5⟩ := form hb
      exact ⟨H', f1, f2, f3, f4, f5, h4, h3⟩
  obtain ⟨H', hD, hE, hL, hanc, hseq, hH', hrun⟩ := key
  obtain ⟨hx, hN', htail⟩ := opsF_sound hc hy rest (List.range' rs.length (ops.size - rs.length)) (by
    rw [hrest]; exact idx_range ops _ _ (by omega)) Tf H' Nf lo D x s' hrun
  refine ⟨hx, Nat.le_trans hle hN', fun ρ0 N0 w0 hF hG a w ρ I ro m Q hQ => ?_⟩
  refine wpIn_region_any hmix ?_
  have I1 : Inv P ρ0 N0 w0 T H N lo D a { w with drawn := w.drawn + 1 } ρ := ⟨I.wr.drew, I.tr, I.le, I.dd, I.dom⟩
  have hF1 : Free ρ N Nf := I.free hF hN'
  have hno : ∀ i, ¬ (Array.replicate ops.size false).getD i false = true := fun i h => by
    simp [Array.getD_eq_getD_getElem?] at h
    rcases Nat.lt_or_ge i ops.size with hi | hi
    · simp [hi] at h
    · simp [Nat.not_lt.2 hi] at h
  refine head_all hc hy I1.wr.sat I1.wr.named (hG.mono I1.wr.ext) I1.dom I1.tr hch hrs e2 hD hE hL (by omega) hanc hseq ro m Q (fun a' w' ρ' D' hi => ?_) rs.length ops.size _ a _ ρ []
    ⟨.none hF1, fun i r p h => absurd h (hno i), fun i r p h => absurd h (hno i), fun i r p h => absurd h (hno i), fun i r _ hr n h1 h2 => ?_, rfl, fun t _ => rfl, fun i r t h => absurd h (hno i), fun i j h => absurd h (hno i), by simp, fun i h1 h2 => by simp [Array.getD_eq_getD_getElem?, h2]⟩
    (openC_new _ _ (by omega)) (by omega)
  · have hdone : ∀ j r, rs[j]? = some r → (endA ops.size rs.length).getD j false = true := fun j r hr => by
      have hj : j < rs.length := (List.getElem?_eq_some_iff.1 hr).1
      have hjo : j < ops.size := by omega
      unfold endA
      simp [Array.getD_eq_getD_getElem?, hjo, hj]
    refine htail ρ0 N0 w0 hF hG a' w' ρ' (I1.grew hi.grew hF1 hle (fun n b hn => ?_) (fun t v hv => ?_) hi.dfr) ro m Q hQ
    · rcases hH' n b hn with ⟨d, g1, g2⟩ | g
      · obtain ⟨r, hr, rfl⟩ := List.mem_map.1 g1
        obtain ⟨j, hj⟩ := List.getElem?_of_mem hr
        exact .inl (hi.cov j r _ (hdone j r hj) hj g2)
      · exact .inr g
    · rcases hch.fin t v hv with ⟨j, r, g1, g2, rfl⟩ | ⟨g1, g2⟩
      · obtain ⟨y, hy1, hy2⟩ := hi.got j r t (hdone j r g1) g1 g2
        exact ⟨y, hy1, hy2.mono (cut_ext _ _)⟩
      · obtain ⟨y, hy1, hy2⟩ := I1.tr t v g2
        refine ⟨y, ?_, hy2.mono hi.grew.ext⟩
        rw [hi.old t (fun i r _ hr => g1 i r hr)]
        exact hy1
  · obtain ⟨_, c2, _, c4, _⟩ := hch.at i r hr
    exact hF1 n (by omega) (by omega)
end
end Ev
end
section
namespace Ev
open Go Go.RowKit

section
variable {P : Program}
/-- A block turns. -/
theorem Sat.putObj {ρ : Env} {H H' : HP} {w : World} {n a C : Nat} {b0 : AB} {obj : Obj} (hS : Sat P ρ H w) (hb : H.get n = some b0) (hn : ρ n = some (a, C))
    (hH : ∀ m c, H'.get m = some c → (m = n ∧ OR P ρ C c (some obj)) ∨ (m ≠ n ∧ H.get m = some c)) : Sat P ρ H' (w.putObj a obj) := by
  have hlt := hS.lt n a C hn
  refine ⟨fun m c hm => ?_, fun m k b c x D F hm hk h1 h2 => ?_, fun m x D hm => by rw [World.putObj_size]; exact hS.lt m x D hm⟩
  · rcases hH m c hm with ⟨rfl, ho⟩ | ⟨hne, h⟩
    · exact ⟨a, C, hn, by rw [World.putObj_heap_same hlt]; exact ho⟩
    · obtain ⟨x, D, h1, h2⟩ := hS.blk m c h
      have hx : x ≠ a := fun ex => by subst ex; exact hne (hS.inj m n c b0 x D C h hb h1 hn)
      exact ⟨x, D, h1, by rw [World.putObj_heap_other hx]; exact h2⟩
  · have get : ∀ i c, H'.get i = some c → ∃ c', H.get i = some c' := fun i c hi => by
      rcases hH i c hi with ⟨rfl, _⟩ | ⟨_, h⟩
      · exact ⟨b0, hb⟩
      · exact ⟨c, h⟩
    obtain ⟨b', hb'⟩ := get m b hm
    obtain ⟨c', hc'⟩ := get k c hk
    exact hS.inj m k b' c' x D F hb' hc' h1 h2
theorem Inv.lower {ρ0 ρ : Env} {N0 N lo lo' : Nat} {w0 w : World} {T : PT Value} {H : HP} {D : List DE} {a : Act} (I : Inv P ρ0 N0 w0 T H N lo D a w ρ) (h : lo' ≤ lo) : Inv P ρ0 N0 w0 T H N lo' D a w ρ :=
  ⟨⟨I.wr.ext, I.wr.same, I.wr.sat, I.wr.os, I.wr.tape, I.wr.output, I.wr.size, fun x hx hk => I.wr.keep x hx (fun n p h1 h2 h3 => hk n p (by omega) h2 h3),
    fun n p h1 h2 h3 => (I.wr.new n p h1 h2 h3).imp id (fun ⟨m, q, e1, e2, e3⟩ => ⟨m, q, by omega, e2, e3⟩), I.wr.named⟩, I.tr, I.le, I.dd, I.dom⟩
/-- A block of a name that is new, or that may be written, turns. -/
theorem Inv.put {ρ0 ρ : Env} {N0 N lo : Nat} {w0 w : World} {T : PT Value} {H H' : HP} {D : List DE} {a : Act} {n b C : Nat} {b0 : AB} {obj : Obj} (I : Inv P ρ0 N0 w0 T H N lo D a w ρ) (hb : H.get n = some b0) (hn : ρ n = some (b, C)) (hlo : N0 ≤ n ∨ lo ≤ n)
    (hH : ∀ m c, H'.get m = some c → (m = n ∧ OR P ρ C c (some obj)) ∨ (m ≠ n ∧ H.get m = some c)) : Inv P ρ0 N0 w0 T H' N lo D a (w.putObj b obj) ρ := by
  have hnN := I.wr.named n b0 hb
  refine ⟨⟨I.wr.ext, I.wr.same, I.wr.sat.putObj hb hn hH, I.wr.os, I.wr.tape, I.wr.output, by rw [World.putObj_size]; exact I.wr.size, fun x hx hk => ?_, I.wr.new, fun m c hm => ?_⟩, I.tr, I.le, I.dd, I.dom⟩
  · have hne : x ≠ b := fun e => by
      subst e
      rcases Nat.lt_or_ge n N0 with h | h
      · have hl : lo ≤ n := hlo.resolve_left (by omega)
        rw [I.wr.same n (.inl h)] at hn
        exact hk n _ hl h hn rfl
      · rcases I.wr.new n _ h hnN hn with g | ⟨m, q, g1, g2, g3, g4⟩
        · simp only at g; omega
        · exact hk m q g1 g2 g3 g4
    rw [World.putObj_heap_other hne]
    exact I.wr.keep x hx hk
  · rcases hH m c hm with ⟨rfl, _⟩ | ⟨_, h⟩
    · exact hnN
    · exact I.wr.named m c h
/-- The frame of a round and its record. -/
def RO (ρ : Env) : Option Nat → Option Nat → Prop
  | none, none => True
  | some l, some b => ∃ C, ρ l = some (b, C)
  | _, _ => False
theorem RO.mono {ρ ρ' : Env} (h : Ext ρ ρ') {rd ro : Option Nat} (r : RO ρ rd ro) : RO ρ' rd ro := by
  cases rd with
  | none => cases ro with | none => trivial | some b => exact r.elim
  | some l => cases ro with | none => exact r.elim | some b => obtain ⟨C, e⟩ := r; exact ⟨C, h _ _ e⟩
def exO : Ex → Exit
  | .normal => .normal
  | .exit i => .exit i
  | .ret => .ret

/-- What a call leads to, read as a contract. -/
theorem NextOk.calls {ρ : Env} {N : Nat} {out : Out} {w : World} {f : FuncId} {args : Array Value} {R : Ending → World → Prop} (h : NextOk P (callFunc f args) ρ N out w) (hent : (callFunc f args).run P w = .ok (.enter f args) w) (ro : Option Nat) (m : Nat)
    (hR : match out with
      | .v u d N' => Dom ρ N ∧ ∀ v w' ρ', Grew P ρ ρ' N N' d w w' → VR ρ' u v → R (.returned v) w'
      | .w u H' N' lo => Dom ρ N ∧ ∀ v w' ρ', Wrote P ρ ρ' N N' lo H' w w' → VR ρ' u v → R (.returned v) w') : CallsIn (fe ro) m P f args w R := by
  have key : ∀ (o : Oper), o.dst = some 0 → o.uponIn (fe ro) (m + 1) P ({ tmps := #[undef], defers := [] } : Act) (fun a' w' => R (.returned (a'.tmps.getD 0 undef)) w') (fun _ _ _ => False) ((callFunc f args).run P w) → CallsIn (fe ro) m P f args w R := fun o ho hu => by
    rw [hent] at hu
    refine CallsIn.mono hu.2 fun e w' he => ?_
    cases e with
    | returned v => simpa [ho, Act.put] using he
    | panicked c => exact he.elim
    | outgrown => obtain ⟨_, _, he⟩ := he; exact he.elim
  cases out with
  | v u d N' =>
    refine key { (default : Oper) with dst := some 0 } rfl (h.2 hR.1 ro (m + 1) { (default : Oper) with dst := some 0 } _ _ _ (fun v w' ρ' hg hv => ?_))
    have := hR.2 v w' ρ' hg hv
    simpa [Act.put] using this
  | w u H' N' lo =>
    refine key { (default : Oper) with dst := some 0 } rfl (h.2 hR.1 ro (m + 1) { (default : Oper) with dst := some 0 } _ _ _ (fun v w' ρ' hg hv => ?_))
    have := hR.2 v w' ρ' hg hv
    simpa [Act.put] using this
theorem run_enter {g : FuncId} {c : Code} {args : Array Value} {w : World} (hname : ∀ (f : FuncId) (fn : Func), P.funcs[f]? = some fn → (fn.name == "runtime.NumGoroutine") = false) (h : bodyO P g = some c) : (callFunc g args).run P w = .ok (.enter g args) w := by
  unfold bodyO at h
  cases hf : P.funcs[g]? with
  | none => rw [hf] at h; cases h
  | some fn =>
    rw [hf] at h
    have h1 := hname g fn hf
    have h2 : ¬ fn.name = "runtime.NumGoroutine" := by simpa using h1
    have h3 : fn.body = some c := h
    simp [callFunc, go_sem, hf, h2, h3]
end
end Ev
end
section
namespace Ev
open Go Go.RowKit

section
variable {P : Program} {G : Nat} {call : CallT} {yld : YldT}
theorem alloc_size (w : World) (o : Obj) : (w.alloc o).heap.size = w.heap.size + 1 := Array.size_push ..
theorem rangeFin_inv {s : St} {l N N2 lo2 : Nat} {D : List DE} {H2 : HP} {x : Ex} {s' : St} (h : rangeFin s l N D H2 N2 lo2 = .ok (x, s')) :
    N ≤ N2 ∧ ∃ st pend T ps as bo d H3, H2.get l = some (.loop st pend T ps as bo d) ∧ (∀ m, H3.get m = if m = l then none else H2.get m) ∧ s' = ⟨s.T, H3, N2, min s.lo lo2, D⟩ ∧
      ((st = .ready ∧ pend = none ∧ x = .normal) ∨ (st = .done ∧ pend = some .ret ∧ x = .ret) ∨ ∃ id, st = .done ∧ pend = some (.exit id) ∧ x = .exit id) := by
  unfold rangeFin at h
  cases hb : Nat.ble N N2 with
  | false => rw [hb] at h; cases h
  | true =>
    rw [hb] at h
    refine ⟨Nat.le_of_ble_eq_true hb, ?_⟩
    simp only at h
    split at h
    · rename_i st pend T ps as bo d hl
      rcases PT.insK_spec 60 H2 l none with hbad | ⟨H3, h1, h2⟩
      · rw [hbad] at h; cases h
      · rw [h1, forceN_eq, min_cond] at h
        refine ⟨st, pend, T, ps, as, bo, d, H3, hl, h2, ?_⟩
        split at h
        · cases h; exact ⟨rfl, .inl ⟨rfl, rfl, rfl⟩⟩
        · cases h; exact ⟨rfl, .inr (.inl ⟨rfl, rfl, rfl⟩)⟩
        · cases h; exact ⟨rfl, .inr (.inr ⟨_, rfl, rfl, rfl⟩)⟩
        · cases h
    · cases h
theorem rangeEnd {s : St} {l N2 : Nat} {D : List DE} {H2 H3 : HP} {x : Ex} {lo b C : Nat} {ρ0 ρ3 : Env} {N0 : Nat} {w0 w3 : World} {a : Act} {st : LoopState} {pend : Option Code} {T : PT Value} {ps : Array Tmp} {as bo : Code} {d : Nat}
    (I : Inv P ρ0 N0 w0 s.T H2 N2 lo D a w3 ρ3) (hb : ρ3 l = some (b, C)) (hl : N0 ≤ l) (h1 : H2.get l = some (.loop st pend T ps as bo d)) (h2 : ∀ m, H3.get m = if m = l then none else H2.get m)
    (h3 : (st = .ready ∧ pend = none ∧ x = .normal) ∨ (st = .done ∧ pend = some .ret ∧ x = .ret) ∨ ∃ id, st = .done ∧ pend = some (.exit id) ∧ x = .exit id)
    (ro : Option Nat) (n : Nat) (Q : Exit → Act → World → Prop) (hQ : ∀ a' w' ρ', Inv P ρ0 N0 w0 s.T H3 N2 lo D a' w' ρ' → Q (exO x) a' w') (v : Value) : rangePost (fe ro) n P b Q a (.returned v) w3 := by
  obtain ⟨b', C', e1, fn, tmps, da, Dd, e2, e3, e4⟩ := I.wr.sat.blk l _ h1
  rw [hb] at e1
  cases e1
  have hst : st ≠ .busy := by rcases h3 with ⟨e, _⟩ | ⟨e, _⟩ | ⟨_, e, _⟩ <;> rw [e] <;> exact fun h => (by cases h)
  have I' := I.put (H' := H3) (obj := .loop { ({ state := st, pending := pend, fn, tmps, params := ps, assign := as, body := bo, defers := da } : Loop) with state := .exhausted }) h1 hb (.inl hl) (fun m c hm => by
    rw [h2] at hm
    by_cases e : m = l
    · rw [if_pos e] at hm; cases hm
    · rw [if_neg e] at hm; exact .inr ⟨e, hm⟩)
  refine ⟨_, _, run_endLoop e2 hst, ?_⟩
  have hq := hQ _ _ _ I'
  rcases h3 with ⟨_, rfl, rfl⟩ | ⟨_, rfl, rfl⟩ | ⟨id, _, rfl, rfl⟩
  · exact hq
  · exact wpIn_ret hq
  · exact wpIn_exit hq
theorem rangeGo_sound (hc : CallOk P G call) (hname : ∀ (f : FuncId) (fn : Func), P.funcs[f]? = some fn → (fn.name == "runtime.NumGoroutine") = false) {s : St} {ps : Array Tmp} {assign body c0 : Code} {g : FuncId} {first captured : List Value} {H : HP} {d l N : Nat} {D : List DE} {x : Ex} {s' : St}
    (hbody : bodyO P g = some c0) (h : rangeGo call s ps assign body g ⟨first⟩ ⟨captured⟩ H d l N D = .ok (x, s')) :
    N ≤ s'.N ∧ ∀ ρ0 N0 w0, Free ρ0 N0 s'.N → Glob G ρ0 → ∀ a w ρ b C (vs ys : List Value), (∀ H1 : HP, (∀ m, H1.get m = if m = l then some (.loop .ready none s.T ps assign body d) else H.get m) → Inv P ρ0 N0 w0 s.T H1 N s.lo D a w ρ) → ρ l = some (b, C) → N0 ≤ l → VL ρ first vs → VL ρ captured ys →
      ∀ ro m n Q, (∀ a' w' ρ', Inv P ρ0 N0 w0 s'.T s'.H s'.N s'.lo s'.D a' w' ρ' → Q (exO x) a' w') → (callFunc g ⟨vs ++ (.func (.yield b) ⟨[]⟩ ⟨[]⟩ :: ys)⟩).run P w = .ok (.enter g ⟨vs ++ (.func (.yield b) ⟨[]⟩ ⟨[]⟩ :: ys)⟩) w ∧ CallsIn (fe ro) m P g ⟨vs ++ (.func (.yield b) ⟨[]⟩ ⟨[]⟩ :: ys)⟩ w (rangePost (fe ro) n P b Q a) := by
  unfold rangeGo at h
  rcases PT.insK_spec 60 H l (some (.loop .ready none s.T ps assign body d)) with hbad | ⟨H1, h1, h2⟩
  · rw [hbad] at h; cases h
  rw [h1, appK_eq, appK_eq] at h
  have h' : Rs.rec (motive := fun _ => RX) (fun e => .bad e) (fun out => Out.rec (motive := fun _ => RX) (fun _ d N2 => addX d H1 fun H2 => rangeFin s l N D H2 N2 N) (fun _ H2 N2 lo2 => rangeFin s l N D H2 N2 lo2) out) (call g (first ++ (.func (.yield l) ⟨[]⟩ ⟨[]⟩ :: captured)) H1 N) = .ok (x, s') := h
  cases hcall : call g (first ++ (.func (.yield l) ⟨[]⟩ ⟨[]⟩ :: captured)) H1 N with
  | bad e => rw [hcall] at h'; cases h'
  | ok out =>
    rw [hcall] at h'
    cases out with
    | v u d2 N2 =>
      obtain ⟨H2, h3, h4⟩ := addX_spec d2 H1 _ _ h'
      obtain ⟨hle, st, pend, T, ps', as, bo, d', H3, f1, f2, rfl, f3⟩ := rangeFin_inv h3
      refine ⟨hle, fun ρ0 N0 w0 hF hG a w ρ b C vs ys hI hb hl hv1 hv2 ro m n Q hQ => ⟨run_enter hname hbody, ?_⟩⟩
      have I := hI H1 h2
      have hVL : VL ρ (first ++ (.func (.yield l) ⟨[]⟩ ⟨[]⟩ :: captured)) (vs ++ (.func (.yield b) ⟨[]⟩ ⟨[]⟩ :: ys)) := hv1.append (.cons (.yld hb) hv2)
      have hn := hc _ _ _ _ _ _ _ _ hcall I.wr.sat (hG.mono I.wr.ext) I.wr.named hVL
      have hF1 : Free ρ N N2 := I.free hF (Nat.le_refl _)
      refine hn.calls (run_enter hname hbody) ro m ⟨I.dom, fun v w' ρ' hg hv => ?_⟩
      have I3 : Inv P ρ0 N0 w0 s.T H2 N2 s.lo D a w' ρ' := I.grew hg hF1 hle h4 (I.tr.mono hg.ext) rfl
      exact rangeEnd (I3.lower (Nat.min_le_left s.lo N)) (hg.ext _ _ hb) hl f1 f2 f3 ro n Q hQ v
    | w u H2 N2 lo2 =>
      obtain ⟨hle, st, pend, T, ps', as, bo, d', H3, f1, f2, rfl, f3⟩ := rangeFin_inv h'
      refine ⟨hle, fun ρ0 N0 w0 hF hG a w ρ b C vs ys hI hb hl hv1 hv2 ro m n Q hQ => ⟨run_enter hname hbody, ?_⟩⟩
      have I := hI H1 h2
      have hVL : VL ρ (first ++ (.func (.yield l) ⟨[]⟩ ⟨[]⟩ :: captured)) (vs ++ (.func (.yield b) ⟨[]⟩ ⟨[]⟩ :: ys)) := hv1.append (.cons (.yld hb) hv2)
      have hn := hc _ _ _ _ _ _ _ _ hcall I.wr.sat (hG.mono I.wr.ext) I.wr.named hVL
      have hF1 : Free ρ N N2 := I.free hF (Nat.le_refl _)
      refine hn.calls (run_enter hname hbody) ro m ⟨I.dom, fun v w' ρ' hg hv => ?_⟩
      have I3 : Inv P ρ0 N0 w0 s.T H2 N2 (min s.lo lo2) D a w' ρ' := I.wrote hg hle (I.tr.mono hg.ext) rfl
      exact rangeEnd I3 (hg.ext _ _ hb) hl f1 f2 f3 ro n Q hQ v
/-- **A range over a function.** -/
theorem rangeC_sound (hc : CallOk P G call) (hname : ∀ (f : FuncId) (fn : Func), P.funcs[f]? = some fn → (fn.name == "runtime.NumGoroutine") = false) {s : St} {ps : Array Tmp} {assign body : Code} {f : Operand} {rd : Option Nat} {x : Ex} {s' : St}
    (h : rangeC P call rd ((argF G f).run s.T) ps assign body s = .ok (x, s')) :
    s.N ≤ s'.N ∧ ∀ ρ0 N0 w0, Free ρ0 N0 s'.N → Glob G ρ0 → ∀ a w ρ, Inv P ρ0 N0 w0 s.T s.H s.N s.lo s.D a w ρ → ∀ ro, RO ρ0 rd ro → ∀ m Q, (∀ a' w' ρ', Inv P ρ0 N0 w0 s'.T s'.H s'.N s'.lo s'.D a' w' ρ' → Q (exO x) a' w') → (Code.rangeFunc f ps assign body).wpIn (fe ro) m P Q a w := by
  rw [argF_eq] at h
  unfold rangeC at h
  split at h
  · rename_i g first captured hf
    obtain ⟨first⟩ := first
    obtain ⟨captured⟩ := captured
    split at h
    · cases h
    · rename_i c0 hbody
      -- what is called
      have value : ∀ {ρ : Env} {a : Act}, TR ρ s.T a.tmps → Glob G ρ → ∃ vs ys, a.eval f = .func (.func g) ⟨vs⟩ ⟨ys⟩ ∧ VL ρ first vs ∧ VL ρ captured ys := fun {ρ a} hT hG => by
        have h1 := aeval_sound hT hG hf
        generalize a.eval f = vf at h1
        cases h1 with
        | func e1 e2 e3 e4 => exact ⟨_, _, rfl, ⟨e1, e2⟩, ⟨e3, e4⟩⟩
      have res : ∀ {a : Act} {vs ys : List Value} (l : Nat) (w : World), a.eval f = .func (.func g) ⟨vs⟩ ⟨ys⟩ → (resolve a.eval (rangeCall f l) 0).run P w = .ok { target := .fn (.func g) ⟨ys⟩, args := ⟨vs ++ [.func (.yield l) ⟨[]⟩ ⟨[]⟩]⟩ } w := fun {a vs ys} l w he => by
        have e : (⟨vs⟩ : Array Value) ++ (rangeCall f l).args.map a.eval = ⟨vs ++ [.func (.yield l) ⟨[]⟩ ⟨[]⟩]⟩ := Array.ext' (by
          simp only [Array.toList_append, Array.toList_map]
          rfl)
        rw [← e]
        simp only [resolve, he, Deferred.ofValue, Sem.run_pure]
      have inv : ∀ {vs ys : List Value} (l : Nat) (w : World), (callFunc g ⟨vs ++ (.func (.yield l) ⟨[]⟩ ⟨[]⟩ :: ys)⟩).run P w = .ok (.enter g ⟨vs ++ (.func (.yield l) ⟨[]⟩ ⟨[]⟩ :: ys)⟩) w → (invoke (.fn (.func g) ⟨ys⟩) ⟨vs ++ [.func (.yield l) ⟨[]⟩ ⟨[]⟩]⟩).run P w = .ok (.enter g ⟨vs ++ (.func (.yield l) ⟨[]⟩ ⟨[]⟩ :: ys)⟩) w := fun {vs ys} l w he => by
        rw [← he]
        simp only [invoke]
        congr 2
        apply Array.ext'
        simp
      split at h
      · -- outermost
        rcases PT.insK_spec 60 s.H s.N (some .dfr) with hbad | ⟨H0, h1, h2⟩
        · rw [hbad] at h; cases h
        rw [h1] at h
        obtain ⟨hle, hgo⟩ := rangeGo_sound hc hname hbody h
        have hle2 : s.N + 2 ≤ s'.N := hle
        refine ⟨by omega, fun ρ0 N0 w0 hF hG a w ρ I ro hro m Q hQ => ?_⟩
        cases ro with
        | some b => exact hro.elim
        | none =>
        obtain ⟨vs, ys, hev, hv1, hv2⟩ := value I.tr (hG.mono I.wr.ext)
        have F0 : Free ρ s.N (s.N + 2) := I.free hF hle2
        have hd : ρ s.N = none := F0 _ (Nat.le_refl _) (by omega)
        have hl : ρ (s.N + 1) = none := F0 _ (by omega) (by omega)
        refine wpIn_rangeFunc fun fn _ => ?_
        have g1 : Grew P ρ (setE ρ s.N (w.heap.size, 0)) s.N (s.N + 1) [(s.N, .dfr)] w (w.alloc (.deferred (some []))) := Grew.one (fun n h1 h2 => F0 n h1 (by omega)) (below_push w _) (by rw [alloc_size]; omega) (by
          show OR P _ 0 .dfr (w.heap.push _)[w.heap.size]?
          rw [Array.getElem?_push_size]; rfl)
        have I1 : Inv P ρ0 N0 w0 s.T H0 (s.N + 1) s.lo s.D a (w.alloc (.deferred (some []))) (setE ρ s.N (w.heap.size, 0)) := I.grew g1 (fun n h1 h2 => F0 n h1 (by omega)) (by omega) (fun n b hn => by
          rw [h2] at hn
          by_cases e : n = s.N
          · rw [if_pos e] at hn; cases hn; subst e; exact .inl List.mem_cons_self
          · rw [if_neg e] at hn; exact .inr hn) (I.tr.mono g1.ext) rfl
        have hl1 : (setE ρ s.N (w.heap.size, 0)) (s.N + 1) = none := by rw [setE_other (by omega)]; exact hl
        have F1 : Free (setE ρ s.N (w.heap.size, 0)) (s.N + 1) (s.N + 1 + 1) := fun n h1 h2 => by
          obtain rfl : n = s.N + 1 := by omega
          exact hl1
        generalize hwd : w.alloc (.deferred (some [])) = wd at g1 I1
        have hsz : wd.heap.size = w.heap.size + 1 := by rw [← hwd]; exact alloc_size _ _
        have g2 : Grew P (setE ρ s.N (w.heap.size, 0)) (setE (setE ρ s.N (w.heap.size, 0)) (s.N + 1) (wd.heap.size, 0)) (s.N + 1) (s.N + 1 + 1) [(s.N + 1, .loop .ready none s.T ps assign body s.N)] wd (wd.alloc (.loop { state := .ready, pending := none, fn, tmps := a.tmps, params := ps, assign, body, defers := w.heap.size })) :=
          Grew.one F1 (below_push wd _) (by rw [alloc_size]; omega) (by
            show OR P _ 0 (.loop _ _ _ _ _ _ _) (wd.heap.push _)[wd.heap.size]?
            rw [Array.getElem?_push_size]
            refine ⟨fn, a.tmps, w.heap.size, 0, rfl, I1.tr.mono (setE_ext hl1), ?_⟩
            rw [setE_other (by omega)]
            exact setE_self _ _ _)
        obtain ⟨hent, hcalls⟩ := hgo ρ0 N0 w0 hF hG { a with defers := [{ target := .collected w.heap.size, args := #[] }] ++ a.defers } (wd.alloc (.loop { state := .ready, pending := none, fn, tmps := a.tmps, params := ps, assign, body, defers := w.heap.size })) _ wd.heap.size 0 vs ys (fun H1 hH1 => by
          have I2 := I1.grew (H' := H1) (T' := s.T) (a' := a) g2 F1 (by omega) (fun n b hn => by
            rw [hH1] at hn
            by_cases e : n = s.N + 1
            · rw [if_pos e] at hn; cases hn; subst e; exact .inl List.mem_cons_self
            · rw [if_neg e] at hn; exact .inr hn) (I1.tr.mono g2.ext) rfl
          refine ⟨I2.wr, I2.tr, I2.le, ⟨⟨w.heap.size, 0, rfl, ?_⟩, I2.dd⟩, I2.dom⟩
          rw [setE_other (by omega)]
          exact setE_self _ _ _) (setE_self _ _ _) (Nat.le_trans I.le (by omega)) (hv1.mono (g1.ext.trans g2.ext)) (hv2.mono (g1.ext.trans g2.ext)) none (m - 1) m Q hQ
        have he := run_enterLoop_outer (P := P) (w := w) fn a.tmps ps assign body
        rw [hwd] at he
        have hl2 : w.heap.size + 1 = wd.heap.size := hsz.symm
        rw [hl2] at he
        exact ⟨wd.heap.size, _, _, _, _, g, _, _, he, res _ _ hev, fun _ _ => trivial, inv _ _ hent, (fun h => (by cases h)), hcalls⟩
      · rename_i l0
        split at h
        · rename_i st0 pend0 T0 ps0 as0 bo0 d hl0
          obtain ⟨hle, hgo⟩ := rangeGo_sound hc hname hbody h
          have hle2 : s.N + 1 ≤ s'.N := hle
          refine ⟨by omega, fun ρ0 N0 w0 hF hG a w ρ I ro hro m Q hQ => ?_⟩
          cases ro with
          | none => exact hro.elim
          | some b0 =>
          obtain ⟨C0, hb0⟩ := hro
          obtain ⟨vs, ys, hev, hv1, hv2⟩ := value I.tr (hG.mono I.wr.ext)
          have F0 : Free ρ s.N (s.N + 1) := I.free hF hle2
          have hl : ρ s.N = none := F0 _ (Nat.le_refl _) (by omega)
          obtain ⟨b0', C0', e1, fn0, tmps0, da, Dd, e2, e3, e4⟩ := I.wr.sat.blk l0 _ hl0
          rw [I.wr.ext _ _ hb0] at e1
          cases e1
          refine wpIn_rangeFunc fun fn _ => ?_
          have g2 : Grew P ρ (setE ρ s.N (w.heap.size, 0)) s.N (s.N + 1) [(s.N, .loop .ready none s.T ps assign body d)] w (w.alloc (.loop { state := .ready, pending := none, fn, tmps := a.tmps, params := ps, assign, body, defers := da })) :=
            Grew.one F0 (below_push w _) (by rw [alloc_size]; omega) (by
              show OR P _ 0 (.loop _ _ _ _ _ _ _) (w.heap.push _)[w.heap.size]?
              rw [Array.getElem?_push_size]
              exact ⟨fn, a.tmps, da, Dd, rfl, I.tr.mono (setE_ext hl), setE_ext hl _ _ e4⟩)
          obtain ⟨hent, hcalls⟩ := hgo ρ0 N0 w0 hF hG { a with defers := [] ++ a.defers } (w.alloc (.loop { state := .ready, pending := none, fn, tmps := a.tmps, params := ps, assign, body, defers := da })) _ w.heap.size 0 vs ys (fun H1 hH1 =>
            I.grew (H' := H1) (T' := s.T) g2 F0 (by omega) (fun n b hn => by
              rw [hH1] at hn
              by_cases e : n = s.N
              · rw [if_pos e] at hn; cases hn; subst e; exact .inl List.mem_cons_self
              · rw [if_neg e] at hn; exact .inr hn) (I.tr.mono g2.ext) rfl) (setE_self _ _ _) I.le (hv1.mono g2.ext) (hv2.mono g2.ext) (some b0) (m - 1) m Q hQ
          exact ⟨w.heap.size, _, _, _, _, g, _, _, run_enterLoop_inner e2 fn a.tmps ps assign body, res _ _ hev, fun _ _ => trivial, inv _ _ hent, (fun h => (by cases h)), hcalls⟩
        · cases h
  · cases h
end
end Ev
end
end Go.Proofs.YtadpelhmjmamnaaGreatDoor
