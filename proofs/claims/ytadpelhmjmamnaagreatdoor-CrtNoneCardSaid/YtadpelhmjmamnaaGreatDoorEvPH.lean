/- The reckoner: a region of which one operation may write, the others do not, in every order. No conditions. -/
import Derived.Test.YtadpelhmjmamnaaGreatDoorEvPG
namespace Go.Proofs.YtadpelhmjmamnaaGreatDoor.Ev
open Go Go.RowKit

/-- The form of such a region, in words. -/
structure WForm (ops : Array Oper) (k : Nat) : Prop where
  lt : k < ops.size
  edges : edges1B ops.toList 0 = true
  guard : ∀ (j : Nat) (o : Oper), ops[j]? = some o → o.guard = none
  dst : ∀ (j : Nat) (o : Oper), ops[j]? = some o → j ≠ k → ∃ d, o.dst = some d
  look : ∀ (j : Nat) (o : Oper), ops[j]? = some o → ∀ t, t ∈ o.looksAt ops → ∀ (i : Nat) (q : Oper), ops[i]? = some q → q.dst = some t → waits1B o i = true
  own : ∀ (i j : Nat) (p q : Oper), ops[i]? = some p → ops[j]? = some q → i ≠ j → ∀ t, p.dst = some t → q.dst ≠ some t
theorem WForm.of {ops : Array Oper} {k : Nat} (h : okW ops k = true) : WForm ops k := by
  unfold okW at h
  simp only [Bool.and_eq_true] at h
  obtain ⟨⟨h1, h2⟩, h3⟩ := h
  have at_ : ∀ (j : Nat) (o : Oper), ops[j]? = some o → (o, j) ∈ ops.toList.zipIdx := fun j o ho => by
    rw [List.mem_zipIdx_iff_getElem?, Array.getElem?_toList]; exact ho
  have all := fun (j : Nat) (o : Oper) (ho : ops[j]? = some o) => List.all_eq_true.1 h3 (o, j) (at_ j o ho)
  simp only [Bool.and_eq_true] at all
  refine ⟨by have := Nat.le_of_ble_eq_true (show Nat.ble (k + 1) ops.size = true from h1); omega, h2, fun j o ho => by simpa using (all j o ho).1.1.1, fun j o ho hj => ?_, fun j o ho t ht i q hq hd => ?_, fun i j p q hp hq hij t ht hd => ?_⟩
  · have := (all j o ho).1.1.2
    simp only [Bool.or_eq_true, beq_iff_eq] at this
    rcases this with h | h
    · exact Option.isSome_iff_exists.1 h
    · exact absurd h hj
  · have h4 := List.all_eq_true.1 ((all j o ho).1.2) t ht
    have h5 := List.all_eq_true.1 h4 (q, i) (at_ i q hq)
    simp only [Bool.or_eq_true, bne_iff_ne, ne_eq] at h5
    rcases h5 with h5 | h5
    · exact absurd hd h5
    · exact h5
  · have h4 := List.all_eq_true.1 ((all i p hp).2) (q, j) (at_ j q hq)
    simp only [Bool.or_eq_true, beq_iff_eq, bne_iff_ne, ne_eq] at h4
    rcases h4 with (h4 | h4) | h4
    · exact hij h4.symm
    · rw [ht] at h4; cases h4
    · exact h4 (hd.trans ht.symm)
section
variable {P : Program} {G : Nat} {call : CallT} {yld : YldT} {ops : Array Oper} {k : Nat} {ρ0 : Env} {N0 : Nat} {w0 : World}
variable {T : PT Value} {H : HP} {N lo : Nat} {D : List DE} {T1 T2 : PT Value} {H1 : HP} {N1 lo1 : Nat} {D1 : List DE}
theorem runV_inv {x : Ex × St} : ∀ {l : List Nat} {T : PT Value} {kk : PT Value → RX}, runV P G call yld ops H N l T kk = .ok x → ∃ T', kk T' = .ok x ∧ ∀ t u, T'.get t = some u → (∃ (j : Nat) (o : Oper), j ∈ l ∧ ops[j]? = some o ∧ o.dst = some t) ∨ T.get t = some u
  | [], T, kk, h => ⟨T, h, fun t u e => .inr e⟩
  | j :: l, T, kk, h => by
    have h' : (match nth ops.toList j with
      | some o => (match o.dst with
        | some d => (match aop P G call yld o T H N with
          | .ok (.v u _ _) => T.setK d u (fun T' => runV P G call yld ops H N l T' kk) (.bad 261)
          | .ok _ => .bad 262
          | .bad e => .bad e)
        | none => .bad 263)
      | none => .bad 264) = .ok x := h
    rw [nth_eq, Array.getElem?_toList] at h'
    split at h'
    · rename_i o ho
      split at h'
      · rename_i d hd
        split at h'
        · rename_i u _ _ hop
          rcases T.setK_spec d u with hb | ⟨T', y, h1, h2, h3⟩
          · rw [hb] at h'; cases h'
          · rw [h1] at h'
            obtain ⟨T2, g1, g2⟩ := runV_inv h'
            refine ⟨T2, g1, fun t v e => ?_⟩
            rcases g2 t v e with ⟨i, q, k1, k2, k3⟩ | e2
            · exact .inl ⟨i, q, List.mem_cons_of_mem _ k1, k2, k3⟩
            · rw [h3] at e2
              by_cases ht : t = d
              · subst ht; exact .inl ⟨j, o, List.mem_cons_self, ho, hd⟩
              · rw [if_neg ht] at e2; exact .inr e2
        · cases h'
        · cases h'
      · cases h'
    · cases h'
/-- One that writes to nothing comes up. -/
theorem MI.up (F : WForm ops k) (hc : CallOk P G call) (hy : YldOk P G yld) (hG : Glob G ρ0) {ls : Array Bool} {a : Act} {w : World} {ρ : Env} (I : MI P ops ops.size ρ0 N0 w0 T H N lo D ls a w ρ) {i : Nat} (hr : i ∈ Region.ready .any ops ls)
    {o : Oper} {d : Tmp} {u : Value} (ho : ops[i]? = some o) (hd : o.dst = some d) (hop : aop P G call yld o T H N = .ok (.v u [] N)) (hu : T.get d = some u) (ro : Option Nat) (m : Nat) (Q : Exit → Act → World → Prop) (K : Act → World → Prop)
    (hK : ∀ a' w' ρ', MI P ops ops.size ρ0 N0 w0 T H N lo D (ls.setIfInBounds i true) a' w' ρ' → K a' w') : wpOpIn (fe ro) m P ops Q i K a w := by
  have hun : ls.getD i true = false := (mem_ready.1 hr).1
  have hlt : i < ls.size := getD_size' hun
  have hi : i < ops.size := (Array.getElem?_eq_some_iff.1 ho).1
  have hw : Region.wanted o (yielded ops a.tmps) = true := by simp [Region.wanted, F.guard i o ho]
  have hT : ∀ t, Operand.tmp t ∈ o.op.operands → ∀ u, T.get t = some u → ∃ v, a.tmps[t]? = some v ∧ VR ρ u v := fun t ht u hu => I.tr t u hu fun j oj hj hunj hoj hdj => by
    have h3 := waits_ready hr ho (F.look i o ho t (by
      unfold Oper.looksAt
      exact List.mem_append_left _ (List.mem_filterMap.2 ⟨.tmp t, by simpa using ht, rfl⟩)) j oj hoj hdj)
    rw [getD_both hunj] at h3
    cases h3
  have hok := aop_looks hc hy I.inv.wr.sat hT (hG.mono I.inv.wr.ext) I.inv.wr.named hop
  unfold wpOpIn
  rw [ho]
  simp only [hw, if_true]
  refine hok.2 I.inv.dom ro m K Q fun v w' ρ' hgr hv => hK _ w' ρ' ⟨I.inv.grew hgr (fun k h1 h2 => by omega) (Nat.le_refl _) (fun k b hk => .inr hk) (nilTR _ _) (put_defers _ _ _), fun t u' ht hh => ?_, fun j oj t hj hunj hoj hdj => ?_, I.closed.set hr, by simp [I.size]⟩
  · by_cases e : d = t
    · subst e
      rw [hu] at ht
      cases ht
      exact ⟨v, by rw [hd]; exact put_at a v (I.room i o d hi hun ho hd), hv⟩
    · obtain ⟨v0, h1, h2⟩ := I.tr t u' ht fun j oj hj hunj hoj hdj => by
        by_cases ej : i = j
        · subst ej; rw [ho] at hoj; cases hoj; rw [hd] at hdj; cases hdj; exact e rfl
        · exact hh j oj hj (by rw [getD_set_ne true ej]; exact hunj) hoj hdj
      exact ⟨v0, by rw [put_ne a v (by rw [hd]; exact fun h => e (Option.some.inj h))]; exact h1, h2.mono hgr.ext⟩
  · rw [put_size]
    exact I.room j oj t hj (unset hlt hunj).2 hoj hdj
/-- The one that may write comes up. -/
theorem MI.wstep (F : WForm ops k) (hc : CallOk P G call) (hy : YldOk P G yld) (hG : Glob G ρ0) {ls : Array Bool} {a : Act} {w : World} {ρ : Env} (I : MI P ops ops.size ρ0 N0 w0 T H N lo D ls a w ρ) (hr : k ∈ Region.ready .any ops ls)
    {on : Oper} (hon : ops[k]? = some on) {x : Ex} (hrun : (opsF P G ops [on]).run call yld T H N lo D = .ok (x, ⟨T1, H1, N1, lo1, D1⟩)) (hT2 : ∀ t u, T2.get t = some u → (∃ (j : Nat) (o : Oper), j ∈ postW ops k ∧ ops[j]? = some o ∧ o.dst = some t) ∨ T1.get t = some u)
    {Nend : Nat} (hF : Free ρ0 N0 Nend) (hend : N1 ≤ Nend) (ro : Option Nat) (m : Nat) (Q : Exit → Act → World → Prop) (K : Act → World → Prop)
    (hK : ∀ a' w' ρ', MI P ops ops.size ρ0 N0 w0 T2 H1 N1 lo1 D1 (ls.setIfInBounds k true) a' w' ρ' → K a' w') : wpOpIn (fe ro) m P ops Q k K a w := by
  have hun : ls.getD k true = false := (mem_ready.1 hr).1
  have hlt : k < ls.size := getD_size' hun
  have hgd := F.guard k on hon
  have hw : Region.wanted on (yielded ops a.tmps) = true := by simp [Region.wanted, hgd]
  have hT : ∀ t, Operand.tmp t ∈ on.op.operands → ∀ u, T.get t = some u → ∃ v, a.tmps[t]? = some v ∧ VR ρ u v := fun t ht u hu => I.tr t u hu fun j oj hj hunj hoj hdj => by
    have h3 := waits_ready hr hon (F.look k on hon t (by
      unfold Oper.looksAt
      exact List.mem_append_left _ (List.mem_filterMap.2 ⟨.tmp t, by simpa using ht, rfl⟩)) j oj hoj hdj)
    rw [getD_both hunj] at h3
    cases h3
  have h' : (oneF P G on (opsF P G ops [])).run call yld T H N lo D = .ok (x, ⟨T1, H1, N1, lo1, D1⟩) := by
    have e : opsF P G ops [on] = oneF P G on (opsF P G ops []) := by
      show Option.rec (motive := fun _ => OpsC) (oneF P G on (opsF P G ops [])) _ on.guard = _
      rw [hgd]
    rw [e] at hrun; exact hrun
  obtain ⟨out, hop, hrest⟩ := one_inv h'
  have hok := aop_looks hc hy I.inv.wr.sat hT (hG.mono I.inv.wr.ext) I.inv.wr.named hop
  have hTab : ∀ {u : Value} {v : Value} {ρ' : Env}, PutOk on.dst T u T1 → VR ρ' u v → Ext ρ ρ' → ∀ t u', T2.get t = some u' → (∀ j o, j < ops.size → (ls.setIfInBounds k true).getD j true = false → ops[j]? = some o → o.dst ≠ some t) → ∃ v', (a.put on.dst v).tmps[t]? = some v' ∧ VR ρ' u' v' := fun {u v ρ'} hp hv hE t u' ht2 hh => by
    have ht : T1.get t = some u' := by
      rcases hT2 t u' ht2 with ⟨j, o, g1, g2, g3⟩ | g
      · exfalso
        unfold postW at g1
        rw [List.mem_filter, List.mem_range] at g1
        have h2 := g1.2
        rw [Bool.and_eq_true, bne_iff_ne] at h2
        have hunj : ls.getD j true = false := by
          cases hv : ls.getD j true with
          | false => rfl
          | true =>
            have := I.closed j k (getD_true (by rw [I.size]; exact g1.1) hv) h2.2
            rw [getD_both hun] at this
            cases this
        exact hh j o g1.1 (by rw [getD_set_ne true (Ne.symm h2.1)]; exact hunj) g2 g3
      · exact g
    have old : ∀ u', T.get t = some u' → on.dst ≠ some t → ∃ v, a.tmps[t]? = some v ∧ VR ρ u' v := fun u' hu' hne => I.tr t u' hu' fun j o hj hunj hoj hdj => by
      by_cases e : j = k
      · subst e; rw [hon] at hoj; cases hoj; exact hne hdj
      · exact hh j o hj (by rw [getD_set_ne true (Ne.symm e)]; exact hunj) hoj hdj
    rcases hp with ⟨k1, k2⟩ | ⟨d, y, k1, k2, k3⟩
    · rw [k2] at ht
      obtain ⟨v0, e1, e2⟩ := old u' ht (by rw [k1]; simp)
      exact ⟨v0, by rw [k1]; exact e1, e2.mono hE⟩
    · rw [k3] at ht
      by_cases e : t = d
      · subst e
        rw [if_pos rfl] at ht
        cases ht
        exact ⟨v, by rw [k1]; exact put_at a v (I.room k on t F.lt hun hon k1), hv⟩
      · rw [if_neg e] at ht
        have hne : on.dst ≠ some t := by rw [k1]; exact fun h => e (Option.some.inj h).symm
        obtain ⟨v0, e1, e2⟩ := old u' ht hne
        exact ⟨v0, by rw [put_ne a v hne]; exact e1, e2.mono hE⟩
  have hroom : ∀ (v : Value) j o t, j < ops.size → (ls.setIfInBounds k true).getD j true = false → ops[j]? = some o → o.dst = some t → t < (a.put on.dst v).tmps.size := fun v j o t hj hunj hoj hdj => by
    rw [put_size]
    exact I.room j o t hj (unset hlt hunj).2 hoj hdj
  unfold wpOpIn
  rw [hon]
  simp only [hw, if_true]
  cases out with
  | v u d N2 =>
    obtain ⟨hle, T3, H2, hfin, hput, hH2⟩ := hrest
    have hf : Rs.ok (Ex.normal, (⟨T3, H2, N2, lo, D⟩ : St)) = .ok (x, ⟨T1, H1, N1, lo1, D1⟩) := hfin
    cases hf
    exact hok.2 I.inv.dom ro m K Q fun v w' ρ' hgr hv => hK _ w' ρ' ⟨I.inv.grew hgr (I.inv.free hF hend) hle hH2 (nilTR _ _) (put_defers _ _ _), hTab hput hv hgr.ext, hroom v, I.closed.set hr, by simp [I.size]⟩
  | w u H2 N2 lo2 =>
    obtain ⟨hle, T3, hfin, hput⟩ := hrest
    have hf : Rs.ok (Ex.normal, (⟨T3, H2, N2, min lo lo2, D⟩ : St)) = .ok (x, ⟨T1, H1, N1, lo1, D1⟩) := hfin
    cases hf
    exact hok.2 I.inv.dom ro m K Q fun v w' ρ' hgr hv => hK _ w' ρ' ⟨I.inv.wrote hgr hle (nilTR _ _) (put_defers _ _ _), hTab hput hv hgr.ext, hroom v, I.closed.set hr, by simp [I.size]⟩
theorem WForm.first (F : WForm ops k) {ls : Array Bool} (hsz : ls.size = ops.size) {j : Nat} (hj : j < ops.size) (hun : ls.getD j true = false) (hbef : ∀ i, i < j → ls.getD i true = true) : j ∈ Region.ready .any ops ls := by
  refine mem_ready.2 ⟨hun, ops[j], Array.getElem?_eq_getElem hj, fun e he hb => ?_⟩
  have h1 := edges1_spec _ 0 j ops[j] e F.edges (by rw [Array.getElem?_toList]; exact Array.getElem?_eq_getElem hj) he hb
  exact getD_true (by omega) (hbef e.on (by omega))
theorem all_up {ls : Array Bool} (_ : ls.size = ops.size) (h : openC ls ops.size = 0) : (Region.ready .any ops ls).isEmpty = true := by
  cases hr : Region.ready .any ops ls with
  | nil => rfl
  | cons i is =>
    exfalso
    have hi : i ∈ Region.ready .any ops ls := by rw [hr]; exact List.mem_cons_self
    obtain ⟨hui, o, ho, _⟩ := mem_ready.1 hi
    have := openC_zero _ h i (Array.getElem?_eq_some_iff.1 ho).1
    rw [this] at hui; cases hui
/-- Behind the one that may write. -/
theorem wstage1 (F : WForm ops k) (hc : CallOk P G call) (hy : YldOk P G yld) (hG : Glob G ρ0) (hchk : chkF P G call yld ops T2 H1 N1 (behW ops k) = true) (ro : Option Nat) (m : Nat) (Q : Exit → Act → World → Prop)
    (hend : ∀ a w ρ, Inv P ρ0 N0 w0 T2 H1 N1 lo1 D1 a w ρ → Q .normal a w) :
    ∀ c ls a w ρ, MI P ops ops.size ρ0 N0 w0 T2 H1 N1 lo1 D1 ls a w ρ → ls.getD k true = true → (∀ j, j < ops.size → ls.getD j true = false → ancB ops k j = false) → openC ls ops.size = c → wpAnyIn (fe ro) m P .any ops Q c ls a w
  | 0, ls, a, w, ρ, I, hk, hfl, ho => by
    have hall := openC_zero _ ho
    exact ⟨by simpa using all_up I.size ho, hend a w ρ ⟨I.inv.wr, fun t u h => I.tr t u h (fun j o hj hun => by rw [hall j hj] at hun; cases hun), I.inv.le, I.inv.dd, I.inv.dom⟩⟩
  | c + 1, ls, a, w, ρ, I, hk, hfl, ho => by
    obtain ⟨j, hj, hun, hbef⟩ := openC_first ops.size (by omega : openC ls ops.size ≠ 0)
    have hjr := F.first I.size hj hun hbef
    refine ⟨fun h0 => (by rw [h0] at hjr; cases hjr), fun i hi => ?_⟩
    have hui : ls.getD i true = false := (mem_ready.1 hi).1
    obtain ⟨o0, ho0, _⟩ := (mem_ready.1 hi).2
    have hio : i < ops.size := (Array.getElem?_eq_some_iff.1 ho0).1
    have hik : i ≠ k := fun e => by subst e; rw [hk] at hui; cases hui
    have hib : i ∈ behW ops k := by
      unfold behW
      rw [List.mem_filter, List.mem_range]
      refine ⟨hio, ?_⟩
      rw [hfl i hio hui]
      simpa using hik
    obtain ⟨o, d, u, c1, c2, c3, c4⟩ := chkF_inv hchk i hib
    refine I.up F hc hy hG hi c1 c2 c3 c4 ro m Q _ (fun a' w' ρ' I' => ?_)
    have hoc := openC_set hui (getD_size' hui) ops.size hio
    exact wstage1 F hc hy hG hchk ro m Q hend c _ a' w' ρ' I' (by rw [getD_set_ne true hik]; exact hk) (fun t h1 h2 => hfl t h1 (unset (getD_size' hui) h2).2) (by omega)
/-- Ahead of it. -/
theorem wstage0 (F : WForm ops k) (hc : CallOk P G call) (hy : YldOk P G yld) (hG : Glob G ρ0) {on : Oper} (hon : ops[k]? = some on) (hchk0 : chkF P G call yld ops T H N (preW ops k) = true) (hchk : chkF P G call yld ops T2 H1 N1 (behW ops k) = true)
    {x : Ex} (hrun : (opsF P G ops [on]).run call yld T H N lo D = .ok (x, ⟨T1, H1, N1, lo1, D1⟩)) (hT2 : ∀ t u, T2.get t = some u → (∃ (j : Nat) (o : Oper), j ∈ postW ops k ∧ ops[j]? = some o ∧ o.dst = some t) ∨ T1.get t = some u)
    {Nend : Nat} (hF : Free ρ0 N0 Nend) (hNend : N1 ≤ Nend) (ro : Option Nat) (m : Nat) (Q : Exit → Act → World → Prop) (hend : ∀ a w ρ, Inv P ρ0 N0 w0 T2 H1 N1 lo1 D1 a w ρ → Q .normal a w) :
    ∀ c ls a w ρ, MI P ops ops.size ρ0 N0 w0 T H N lo D ls a w ρ → ls.getD k true = false → openC ls ops.size = c → wpAnyIn (fe ro) m P .any ops Q c ls a w
  | 0, ls, a, w, ρ, I, hk, ho => by
    have := openC_zero _ ho k F.lt
    rw [hk] at this; cases this
  | c + 1, ls, a, w, ρ, I, hk, ho => by
    obtain ⟨j, hj, hun, hbef⟩ := openC_first ops.size (by omega : openC ls ops.size ≠ 0)
    have hjr := F.first I.size hj hun hbef
    refine ⟨fun h0 => (by rw [h0] at hjr; cases hjr), fun i hi => ?_⟩
    have hui : ls.getD i true = false := (mem_ready.1 hi).1
    obtain ⟨o0, ho0, _⟩ := (mem_ready.1 hi).2
    have hio : i < ops.size := (Array.getElem?_eq_some_iff.1 ho0).1
    have hoc := openC_set hui (getD_size' hui) ops.size hio
    by_cases hik : i = k
    · subst hik
      refine I.wstep F hc hy hG hi hon hrun hT2 hF hNend ro m Q _ (fun a' w' ρ' I' => ?_)
      refine wstage1 F hc hy hG hchk ro m Q hend c _ a' w' ρ' I' (by simp [Array.getD_eq_getD_getElem?, getD_size' hui]) (fun t h1 h2 => ?_) (by omega)
      cases h : ancB ops i t with
      | false => rfl
      | true =>
        have h3 := ready_anc I.closed hi h
        rw [getD_both (unset (getD_size' hui) h2).2] at h3
        cases h3
    · have hip : i ∈ preW ops k := by
        unfold preW
        rw [List.mem_filter, List.mem_range]
        refine ⟨hio, ?_⟩
        have : ancB ops i k = false := by
          cases h : ancB ops i k with
          | false => rfl
          | true =>
            have h3 := ready_anc I.closed hi h
            rw [getD_both hk] at h3
            cases h3
        rw [this]
        simpa using hik
      obtain ⟨o, d, u, c1, c2, c3, c4⟩ := chkF_inv hchk0 i hip
      refine I.up F hc hy hG hi c1 c2 c3 c4 ro m Q _ (fun a' w' ρ' I' => ?_)
      exact wstage0 F hc hy hG hon hchk0 hchk hrun hT2 hF hNend ro m Q hend c _ a' w' ρ' I' (by rw [getD_set_ne true hik]; exact hk) (by omega)
/-- **A region of which one operation may write.** -/
theorem oneW_sound (hc : CallOk P G call) (hy : YldOk P G yld) {x : Ex} {s' : St} (h : oneW P G call yld ops k T H N lo D = .ok (x, s')) :
    x = .normal ∧ N ≤ s'.N ∧ ∀ ρ0 N0 w0, Free ρ0 N0 s'.N → Glob G ρ0 → ∀ a w ρ, Inv P ρ0 N0 w0 T H N lo D a w ρ → ∀ ro m Q, (∀ a' w' ρ', Inv P ρ0 N0 w0 s'.T s'.H s'.N s'.lo s'.D a' w' ρ' → Q .normal a' w') → wpAnyIn (fe ro) m P .any ops Q ops.size (Array.replicate ops.size false) a w := by
  unfold oneW at h
  cases hb : (okW ops k && roomB T ops k) with
  | false => rw [hb] at h; cases h
  | true =>
    rw [hb] at h
    rw [Bool.and_eq_true] at hb
    have F := WForm.of hb.1
    cases hon : ops[k]? with
    | none => rw [hon] at h; cases h
    | some on =>
      rw [hon] at h
      obtain ⟨T0, h1, hT0⟩ := runV_inv h
      cases hc0 : chkF P G call yld ops T0 H N (preW ops k) with
      | false => rw [hc0] at h1; cases h1
      | true =>
        rw [hc0] at h1
        cases hr : (opsF P G ops [on]).run call yld T0 H N lo D with
        | bad e => rw [hr] at h1; cases h1
        | ok p =>
          obtain ⟨x1, T1, H1, N1, lo1, D1⟩ := p
          rw [hr] at h1
          obtain ⟨T2, h2, hT2⟩ := runV_inv h1
          cases hc1 : chkF P G call yld ops T2 H1 N1 (behW ops k) with
          | false => rw [hc1] at h2; cases h2
          | true =>
            rw [hc1] at h2
            cases h2
            obtain ⟨_, hN1, _⟩ := opsF_sound hc hy [on] [k] ⟨hon, trivial⟩ T0 H N lo D x1 _ hr
            have hN1' : N ≤ N1 := hN1
            refine ⟨rfl, hN1', fun ρ0 N0 w0 hF hG a w ρ I ro m Q hQ => ?_⟩
            have hk : (Array.replicate ops.size false).getD k true = false := by simp [Array.getD_eq_getD_getElem?, F.lt]
            have hno : ∀ i, ¬ (Array.replicate ops.size false).getD i false = true := fun i h => by
              simp [Array.getD_eq_getD_getElem?] at h
              rcases Nat.lt_or_ge i ops.size with hi | hi
              · simp [hi] at h
              · simp [Nat.not_lt.2 hi] at h
            have hopen : ∀ j, j < ops.size → (Array.replicate ops.size false).getD j true = false := fun j hj => by simp [Array.getD_eq_getD_getElem?, hj]
            refine wstage0 F hc hy hG hon hc0 hc1 hr hT2 hF (Nat.le_refl _) ro m Q (fun a' w' ρ' I' => hQ a' w' ρ' I') ops.size _ a w ρ ⟨⟨I.wr, nilTR _ _, I.le, I.dd, I.dom⟩, fun t u ht hh => ?_, fun j o t hj _ ho hd => ?_, fun i j hi => absurd hi (hno i), by simp⟩ hk (openC_new _ _ (Nat.le_refl _))
            · rcases hT0 t u ht with ⟨j, o, g1, g2, g3⟩ | g
              · have hj : j < ops.size := (Array.getElem?_eq_some_iff.1 g2).1
                exact absurd g3 (hh j o hj (hopen j hj) g2)
              · exact I.tr t u g
            · by_cases e : j = k
              · subst e
                rw [hon] at ho
                cases ho
                have h' : (oneF P G on (opsF P G ops [])).run call yld T0 H N lo D = .ok (x1, ⟨T1, H1, N1, lo1, D1⟩) := by
                  have e : opsF P G ops [on] = oneF P G on (opsF P G ops []) := by
                    show Option.rec (motive := fun _ => OpsC) (oneF P G on (opsF P G ops [])) _ on.guard = _
                    rw [F.guard j on hon]
                  rw [e] at hr; exact hr
                obtain ⟨out, _, hrest⟩ := one_inv h'
                have hput : ∃ u T3, PutOk on.dst T0 u T3 := by
                  cases out with
                  | v u d N2 => exact ⟨u, _, hrest.2.choose_spec.choose_spec.2.1⟩
                  | w u H2 N2 lo2 => exact ⟨u, _, hrest.2.choose_spec.2⟩
                obtain ⟨u, T3, hp⟩ := hput
                rcases hp with ⟨k1, _⟩ | ⟨d, y, k1, k2, _⟩
                · rw [k1] at hd; cases hd
                · rw [k1] at hd
                  cases hd
                  rcases hT0 t y k2 with ⟨i, q, g1, g2, g3⟩ | g
                  · unfold preW at g1
                    rw [List.mem_filter] at g1
                    have h2 := g1.2
                    rw [Bool.and_eq_true, bne_iff_ne] at h2
                    exact absurd k1 (F.own i j q on g2 hon h2.1 t g3)
                  · obtain ⟨v0, hv0, _⟩ := I.tr t y g
                    exact (Array.getElem?_eq_some_iff.1 hv0).1
              · have h4 := List.all_eq_true.1 hb.2 (o, j) (by rw [List.mem_zipIdx_iff_getElem?, Array.getElem?_toList]; exact ho)
                simp only [Bool.or_eq_true, beq_iff_eq] at h4
                rcases h4 with h4 | h4
                · exact absurd h4 e
                · rw [hd] at h4
                  obtain ⟨y, hy'⟩ := Option.isSome_iff_exists.1 h4
                  obtain ⟨v0, hv0, _⟩ := I.tr t y hy'
                  exact (Array.getElem?_eq_some_iff.1 hv0).1
end
end Go.Proofs.YtadpelhmjmamnaaGreatDoor.Ev
