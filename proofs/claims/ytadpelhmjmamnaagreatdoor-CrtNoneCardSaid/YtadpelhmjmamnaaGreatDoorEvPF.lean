/- The reckoner: a region some of whose head its first writer does not wait for. No conditions. -/
import Derived.Test.YtadpelhmjmamnaaGreatDoorEvP25
import Derived.Test.YtadpelhmjmamnaaGreatDoorEvQ
namespace Go.Proofs.YtadpelhmjmamnaaGreatDoor.Ev
open Go Go.RowKit

theorem addXs_spec {f : HP → RX} {r : Ex × St} : ∀ (ds : List (List (Nat × AB))) (H : HP), (List.rec (motive := fun _ => HP → RX) f (fun d _ ih H => addX d H ih) ds H) = .ok r → ∃ H', f H' = .ok r ∧ ∀ n b, H'.get n = some b → (∃ d ∈ ds, (n, b) ∈ d) ∨ H.get n = some b
  | [], H, h => ⟨H, h, fun n b h => .inr h⟩
  | d :: ds, H, h => by
    have h' : addX d H (fun H => List.rec (motive := fun _ => HP → RX) f (fun d _ ih H => addX d H ih) ds H) = .ok r := h
    obtain ⟨H1, h1, h2⟩ := addX_spec d H _ r h'
    obtain ⟨H2, h3, h4⟩ := addXs_spec ds H1 h1
    refine ⟨H2, h3, fun n b hn => ?_⟩
    rcases h4 n b hn with ⟨d', g1, g2⟩ | g
    · exact .inl ⟨d', List.mem_cons_of_mem _ g1, g2⟩
    · rcases h2 n b g with k | k
      · exact .inl ⟨d, List.mem_cons_self, k⟩
      · exact .inr k
theorem Grew.none {P : Program} {ρ : Env} {N N' : Nat} {w : World} (hF : Free ρ N N') : Grew P ρ ρ N N' [] w w :=
  ⟨.refl ρ, fun _ _ => rfl, .refl _ _, fun n p h1 h2 h3 => by rw [hF n h1 h2] at h3; (cases h3), fun p h => by simp at h, fun p h => by simp at h, fun p h => by simp at h⟩
theorem Wrote.drew {P : Program} {ρ0 ρ : Env} {N0 N lo : Nat} {H : HP} {w0 w : World} (A : Wrote P ρ0 ρ N0 N lo H w0 w) : Wrote P ρ0 ρ N0 N lo H w0 { w with drawn := w.drawn + 1 } :=
  ⟨A.ext, A.same, ⟨A.sat.blk, A.sat.inj, A.sat.lt⟩, A.os, A.tape, A.output, A.size, A.keep, A.new, A.named⟩


theorem nilTR (ρ : Env) (tmps : Array Value) : TR ρ .nil tmps := fun i u h => by rw [PT.get_nil] at h; cases h
/-- What is known while some of the head, not waited for, has not come up. -/
structure MI (P : Program) (ops : Array Oper) (n : Nat) (ρ0 : Env) (N0 : Nat) (w0 : World) (T : PT Value) (H : HP) (N lo : Nat) (D : List DE) (ls : Array Bool) (a : Act) (w : World) (ρ : Env) : Prop where
  inv : Inv P ρ0 N0 w0 .nil H N lo D a w ρ
  tr : ∀ t u, T.get t = some u → (∀ j o, j < n → ls.getD j true = false → ops[j]? = some o → o.dst ≠ some t) → ∃ v, a.tmps[t]? = some v ∧ VR ρ u v
  room : ∀ j o t, j < n → ls.getD j true = false → ops[j]? = some o → o.dst = some t → t < a.tmps.size
  closed : Closed ops ls
  size : ls.size = ops.size
theorem put_size (a : Act) (d : Option Tmp) (v : Value) : (a.put d v).tmps.size = a.tmps.size := by
  cases d with
  | none => rfl
  | some d => simp [Act.put]
theorem put_at (a : Act) {d : Tmp} (v : Value) (h : d < a.tmps.size) : (a.put (some d) v).tmps[d]? = some v := by simp [Act.put, h]
theorem put_ne (a : Act) {d : Option Tmp} (v : Value) {t : Tmp} (h : d ≠ some t) : (a.put d v).tmps[t]? = a.tmps[t]? := by
  cases d with
  | none => rfl
  | some d =>
    have hne : d ≠ t := fun e => h (by rw [e])
    simp only [Act.put]
    rw [Array.getElem?_setIfInBounds_ne hne]
theorem unset {ls : Array Bool} {i j : Nat} (hi : i < ls.size) (h : (ls.setIfInBounds i true).getD j true = false) : j ≠ i ∧ ls.getD j true = false := by
  by_cases e : i = j
  · subst e; simp [Array.getD_eq_getD_getElem?, hi] at h
  · rw [getD_set_ne true e] at h; exact ⟨fun h => e h.symm, h⟩

section
variable {P : Program} {G : Nat} {call : CallT} {yld : YldT} {ops : Array Oper} {n : Nat} {ρ0 : Env} {N0 : Nat} {w0 : World} {T : PT Value} {H : HP} {N lo : Nat} {D : List DE}
theorem chkF_inv : ∀ {fl : List Nat}, chkF P G call yld ops T H N fl = true → ∀ j ∈ fl, ∃ o d u, ops[j]? = some o ∧ o.dst = some d ∧ aop P G call yld o T H N = .ok (.v u [] N) ∧ T.get d = some u
  | [], _, j, hj => by simp at hj
  | i :: fl, h, j, hj => by
    have h' : ((match nth ops.toList i with
      | some o => (match o.dst with
        | some d => (match aop P G call yld o T H N with
          | .ok (.v u [] N') => Nat.beq N' N && (match T.get d with | some u' => beqV 6 u u' | none => false)
          | _ => false)
        | none => false)
      | none => false) && chkF P G call yld ops T H N fl) = true := h
    rw [Bool.and_eq_true] at h'
    rcases List.mem_cons.1 hj with rfl | hj
    · have h1 := h'.1
      rw [nth_eq, Array.getElem?_toList] at h1
      split at h1
      · rename_i o ho
        split at h1
        · rename_i d hd
          split at h1
          · rename_i u N' hop
            rw [Bool.and_eq_true] at h1
            have hN := Nat.eq_of_beq_eq_true h1.1
            subst hN
            split at h1
            · rename_i u' hu
              have := beqV_eq 6 _ _ h1.2
              subst this
              exact ⟨o, d, u, ho, hd, hop, hu⟩
            · exact absurd h1.2 (by simp)
          · cases h1
        · cases h1
      · cases h1
    · exact chkF_inv h'.2 j hj
/-- What is not waited for comes up. -/
theorem MI.float (hc : CallOk P G call) (hy : YldOk P G yld) (hG : Glob G ρ0) {ls : Array Bool} {a : Act} {w : World} {ρ : Env} (I : MI P ops n ρ0 N0 w0 T H N lo D ls a w ρ) {i : Nat} (hi : i < n) (_ : n ≤ ops.size) (hr : i ∈ Region.ready .any ops ls)
    {o on : Oper} {d : Tmp} {u : Value} (ho : ops[i]? = some o) (hd : o.dst = some d) (hop : aop P G call yld o T H N = .ok (.v u [] N)) (hu : T.get d = some u) (hfb : floatB ops n on o = true) (ro : Option Nat) (m : Nat) (Q : Exit → Act → World → Prop) (K : Act → World → Prop)
    (hK : ∀ a' w' ρ', MI P ops n ρ0 N0 w0 T H N lo D (ls.setIfInBounds i true) a' w' ρ' → K a' w') : wpOpIn (fe ro) m P ops Q i K a w := by
  have hun : ls.getD i true = false := (mem_ready.1 hr).1
  have hlt : i < ls.size := getD_size' hun
  unfold floatB at hfb
  simp only [Bool.and_eq_true] at hfb
  obtain ⟨⟨hg, _⟩, hlook⟩ := hfb
  have hguard : o.guard = none := by simpa using hg
  have hw : Region.wanted o (yielded ops a.tmps) = true := by simp [Region.wanted, hguard]
  have hT : ∀ t, Operand.tmp t ∈ o.op.operands → ∀ u, T.get t = some u → ∃ v, a.tmps[t]? = some v ∧ VR ρ u v := fun t ht u hu => I.tr t u hu fun j oj hj hunj hoj hdj => by
    have h1 := List.all_eq_true.1 hlook t (by
      unfold Oper.looksAt
      exact List.mem_append_left _ (List.mem_filterMap.2 ⟨.tmp t, by simpa using ht, rfl⟩))
    have h2 := List.all_eq_true.1 h1 (oj, j) (by
      rw [List.mem_zipIdx_iff_getElem?, List.getElem?_take_of_lt hj, Array.getElem?_toList]; exact hoj)
    simp only [Bool.or_eq_true, bne_iff_ne, ne_eq] at h2
    rcases h2 with h2 | h2
    · exact h2 hdj
    · have h3 := waits_ready hr ho h2
      rw [getD_both hunj] at h3
      cases h3
  have hok := aop_looks hc hy I.inv.wr.sat hT (hG.mono I.inv.wr.ext) I.inv.wr.named hop
  unfold wpOpIn
  rw [ho]
  simp only [hw, if_true]
  refine hok.2 I.inv.dom ro m K Q fun v w' ρ' hgr hv => hK _ w' ρ' ⟨I.inv.grew hgr (fun k h1 h2 => by omega) (Nat.le_refl _) (fun k b hk => .inr hk) (nilTR _ _) (put_defers _ _ _), fun t u' ht hh => ?_, fun j oj t hj hunj hoj hdj => ?_, I.closed.set hr, by simp [I.size]⟩
  · by_cases e : d = t
    · subst e
      rw [hu] at ht
      cases ht
      exact ⟨v, by rw [hd]; exact put_at a v (I.room i o d hi hun ho hd), hv⟩
    · obtain ⟨v0, h1, h2⟩ := I.tr t u' ht fun j oj hj hunj hoj hdj => by
        by_cases ej : i = j
        · subst ej; rw [ho] at hoj; cases hoj; rw [hd] at hdj; cases hdj; exact e rfl
        · exact hh j oj hj (by rw [getD_set_ne true ej]; exact hunj) hoj hdj
      exact ⟨v0, by rw [put_ne a v (by rw [hd]; exact fun h => e (Option.some.inj h))]; exact h1, h2.mono hgr.ext⟩
  · rw [put_size]
    exact I.room j oj t hj (unset hlt hunj).2 hoj hdj

theorem one_inv {o : Oper} {R : OpsC} {r : Ex × St} (h : (oneF P G o R).run call yld T H N lo D = .ok r) :
    ∃ out, aop P G call yld o T H N = .ok out ∧ (match out with
      | .v u d N2 => N ≤ N2 ∧ ∃ T2 H2, R.run call yld T2 H2 N2 lo D = .ok r ∧ PutOk o.dst T u T2 ∧ ∀ n b, H2.get n = some b → (n, b) ∈ d ∨ H.get n = some b
      | .w u H2 N2 lo2 => N ≤ N2 ∧ ∃ T2, R.run call yld T2 H2 N2 (min lo lo2) D = .ok r ∧ PutOk o.dst T u T2) := by
  have hop := opF_ok P G o
  unfold oneF at h
  cases ho : opF P G o with
  | pure f =>
    rw [ho] at hop h
    have h' : f T (fun u => (putF (β := Ex × St) o.dst).run T u (fun T => R.run call yld T H N lo D)) = .ok r := h
    obtain ⟨u, h1, h2⟩ := hop call yld H T _ r h'
    obtain ⟨T2, h3, h4⟩ := put_ok h2
    exact ⟨_, h1 N, Nat.le_refl _, T2, H, h3, h4, fun n b hn => .inr hn⟩
  | gen f =>
    rw [ho] at hop h
    have h' : Rs.rec (motive := fun _ => RX) (fun e => .bad e) (fun out => Out.rec (motive := fun _ => RX)
      (fun u d N' => Bool.rec (motive := fun _ => RX) (.bad 219) ((putF (β := Ex × St) o.dst).run T u (fun T => addX d H (fun H => R.run call yld T H N' lo D))) (Nat.ble N N'))
      (fun u H N' lo' => Bool.rec (motive := fun _ => RX) (.bad 219) ((putF (β := Ex × St) o.dst).run T u (fun T => rawN (Bool.rec (motive := fun _ => Nat) lo' lo (Nat.ble lo lo')) (fun lo => R.run call yld T H N' lo D))) (Nat.ble N N')) out) (f call yld T H N) = .ok r := h
    cases hf : f call yld T H N with
    | bad e => rw [hf] at h'; cases h'
    | ok out =>
      rw [hf] at h'
      refine ⟨out, hop call yld T H N out hf, ?_⟩
      cases out with
      | v u d N2 =>
        have h2 : Bool.rec (motive := fun _ => RX) (.bad 219) ((putF (β := Ex × St) o.dst).run T u (fun T => addX d H (fun H => R.run call yld T H N2 lo D))) (Nat.ble N N2) = .ok r := h'
        cases hb : Nat.ble N N2 with
        | false => rw [hb] at h2; cases h2
        | true =>
          rw [hb] at h2
          obtain ⟨T2, h3, h4⟩ := put_ok h2
          obtain ⟨H2, h5, h6⟩ := addX_spec _ _ _ _ h3
          exact ⟨Nat.le_of_ble_eq_true hb, T2, H2, h5, h4, h6⟩
      | w u H2 N2 lo2 =>
        have h2 : Bool.rec (motive := fun _ => RX) (.bad 219) ((putF (β := Ex × St) o.dst).run T u (fun T => rawN (Bool.rec (motive := fun _ => Nat) lo2 lo (Nat.ble lo lo2)) (fun lo => R.run call yld T H2 N2 lo D))) (Nat.ble N N2) = .ok r := h'
        cases hb : Nat.ble N N2 with
        | false => rw [hb] at h2; cases h2
        | true =>
          rw [hb] at h2
          obtain ⟨T2, h3, h4⟩ := put_ok h2
          rw [rawN_eq] at h3
          have : Bool.rec (motive := fun _ => Nat) lo2 lo (Nat.ble lo lo2) = min lo lo2 := by
            have hm := min_cond lo lo2
            revert hm
            cases Nat.ble lo lo2 <;> exact id
          rw [this] at h3
          exact ⟨Nat.le_of_ble_eq_true hb, T2, h3, h4⟩
/-- The first writer comes up. -/
theorem MI.step (hc : CallOk P G call) (hy : YldOk P G yld) (hG : Glob G ρ0) {ls : Array Bool} {a : Act} {w : World} {ρ : Env} (I : MI P ops n ρ0 N0 w0 T H N lo D ls a w ρ) (hr : n ∈ Region.ready .any ops ls)
    {on : Oper} (hon : ops[n]? = some on) (hgd : on.guard = none) (hlook : ∀ t, t ∈ on.looksAt ops → ∀ j o, j < n → ls.getD j true = false → ops[j]? = some o → o.dst ≠ some t) (_ : ∀ d, on.dst = some d → ∀ j o, j < n → ls.getD j true = false → ops[j]? = some o → o.dst ≠ some d)
    {T1 : PT Value} {H1 : HP} {N1 lo1 : Nat} {D1 : List DE} {x : Ex} (hrun : (opsF P G ops [on]).run call yld T H N lo D = .ok (x, ⟨T1, H1, N1, lo1, D1⟩)) {Nend : Nat} (hF : Free ρ0 N0 Nend) (hend : N1 ≤ Nend) (ro : Option Nat) (m : Nat) (Q : Exit → Act → World → Prop) (K : Act → World → Prop)
    (hK : ∀ a' w' ρ', MI P ops n ρ0 N0 w0 T1 H1 N1 lo1 D1 (ls.setIfInBounds n true) a' w' ρ' → K a' w') : wpOpIn (fe ro) m P ops Q n K a w := by
  have hun : ls.getD n true = false := (mem_ready.1 hr).1
  have hlt : n < ls.size := getD_size' hun
  have hw : Region.wanted on (yielded ops a.tmps) = true := by simp [Region.wanted, hgd]
  have hT : ∀ t, Operand.tmp t ∈ on.op.operands → ∀ u, T.get t = some u → ∃ v, a.tmps[t]? = some v ∧ VR ρ u v := fun t ht u hu => I.tr t u hu (hlook t (by
    unfold Oper.looksAt
    exact List.mem_append_left _ (List.mem_filterMap.2 ⟨.tmp t, by simpa using ht, rfl⟩)))
  have h' : (oneF P G on (opsF P G ops [])).run call yld T H N lo D = .ok (x, ⟨T1, H1, N1, lo1, D1⟩) := by
    have e : opsF P G ops [on] = oneF P G on (opsF P G ops []) := by
      show Option.rec (motive := fun _ => OpsC) (oneF P G on (opsF P G ops [])) _ on.guard = _
      rw [hgd]
    rw [e] at hrun; exact hrun
  obtain ⟨out, hop, hrest⟩ := one_inv h'
  have hok := aop_looks hc hy I.inv.wr.sat hT (hG.mono I.inv.wr.ext) I.inv.wr.named hop
  -- the table behind it
  have hTab : ∀ {u : Value} {T2 : PT Value} {v : Value} {ρ' : Env}, PutOk on.dst T u T2 → VR ρ' u v → Ext ρ ρ' → ∀ t u', T2.get t = some u' → (∀ j o, j < n → (ls.setIfInBounds n true).getD j true = false → ops[j]? = some o → o.dst ≠ some t) → ∃ v', (a.put on.dst v).tmps[t]? = some v' ∧ VR ρ' u' v' := fun {u T2 v ρ'} hp hv hE t u' ht hh => by
    have old : ∀ u', T.get t = some u' → ∃ v, a.tmps[t]? = some v ∧ VR ρ u' v := fun u' hu' => I.tr t u' hu' fun j o hj hunj hoj => hh j o hj (by rw [getD_set_ne true (by omega)]; exact hunj) hoj
    rcases hp with ⟨k1, k2⟩ | ⟨d, y, k1, k2, k3⟩
    · subst k2
      obtain ⟨v0, e1, e2⟩ := old u' ht
      exact ⟨v0, by rw [k1]; exact e1, e2.mono hE⟩
    · rw [k3] at ht
      by_cases e : t = d
      · subst e
        rw [if_pos rfl] at ht
        cases ht
        obtain ⟨v0, e1, _⟩ := old y k2
        exact ⟨v, by rw [k1]; exact put_at a v (Array.getElem?_eq_some_iff.1 e1).1, hv⟩
      · rw [if_neg e] at ht
        obtain ⟨v0, e1, e2⟩ := old u' ht
        exact ⟨v0, by rw [put_ne a v (by rw [k1]; exact fun h => e (Option.some.inj h).symm)]; exact e1, e2.mono hE⟩
  have hroom : ∀ (v : Value) j o t, j < n → (ls.setIfInBounds n true).getD j true = false → ops[j]? = some o → o.dst = some t → t < (a.put on.dst v).tmps.size := fun v j o t hj hunj hoj hdj => by
    rw [put_size]
    exact I.room j o t hj (unset hlt hunj).2 hoj hdj
  unfold wpOpIn
  rw [hon]
  simp only [hw, if_true]
  cases out with
  | v u d N2 =>
    obtain ⟨hle, T2, H2, hfin, hput, hH2⟩ := hrest
    have hf : Rs.ok (Ex.normal, (⟨T2, H2, N2, lo, D⟩ : St)) = .ok (x, ⟨T1, H1, N1, lo1, D1⟩) := hfin
    cases hf
    exact hok.2 I.inv.dom ro m K Q fun v w' ρ' hgr hv => hK _ w' ρ' ⟨I.inv.grew hgr (I.inv.free hF hend) hle hH2 (nilTR _ _) (put_defers _ _ _), hTab hput hv hgr.ext, hroom v, I.closed.set hr, by simp [I.size]⟩
  | w u H2 N2 lo2 =>
    obtain ⟨hle, T2, hfin, hput⟩ := hrest
    have hf : Rs.ok (Ex.normal, (⟨T2, H2, N2, min lo lo2, D⟩ : St)) = .ok (x, ⟨T1, H1, N1, lo1, D1⟩) := hfin
    cases hf
    exact hok.2 I.inv.dom ro m K Q fun v w' ρ' hgr hv => hK _ w' ρ' ⟨I.inv.wrote hgr hle (nilTR _ _) (put_defers _ _ _), hTab hput hv hgr.ext, hroom v, I.closed.set hr, by simp [I.size]⟩
end
end Go.Proofs.YtadpelhmjmamnaaGreatDoor.Ev
