/- The reckoner: a region that draws its order, walked. No conditions. -/
import Derived.Test.YtadpelhmjmamnaaGreatDoorEvP24
namespace Go.Proofs.YtadpelhmjmamnaaGreatDoor.Ev
open Go Go.RowKit

/-- The names ahead of M. -/
def cut (M : Nat) (ρ : Env) : Env := fun n => if n < M then ρ n else none
theorem cut_some {M : Nat} {ρ : Env} {n : Nat} {p : Nat × Nat} : cut M ρ n = some p ↔ n < M ∧ ρ n = some p := by
  unfold cut
  by_cases h : n < M
  · simp [h]
  · simp [h]
theorem cut_ext (M : Nat) (ρ : Env) : Ext (cut M ρ) ρ := fun _ _ h => (cut_some.1 h).2
theorem cut_mono {M M' : Nat} {ρ ρ' : Env} (h : M ≤ M') (k : Ext ρ ρ') : Ext (cut M ρ) (cut M' ρ') := fun n p e => by
  have := cut_some.1 e
  exact cut_some.2 ⟨by omega, k n p this.2⟩
theorem cut_dom (M : Nat) (ρ : Env) : Dom (cut M ρ) M := fun n h => by unfold cut; rw [if_neg (by omega)]
theorem Dom.toCut {ρ ρ' : Env} {N M : Nat} (h : Dom ρ N) (hle : N ≤ M) (k : Ext ρ ρ') : Ext ρ (cut M ρ') := fun n p e => by
  refine cut_some.2 ⟨?_, k n p e⟩
  rcases Nat.lt_or_ge n N with g | g
  · omega
  · rw [h n g] at e; cases e
/-- What has grown beside other names. -/
def mergeE (N N' : Nat) (ρ ρx : Env) : Env := fun n => if N ≤ n ∧ n < N' then ρx n else ρ n
theorem Grew.besides {P : Program} {ρ ρx : Env} {N N' : Nat} {d : List (Nat × AB)} {w w' : World} (g : Grew P (cut N ρ) ρx N N' d w w') (hF : Free ρ N N') (hle : N ≤ N') : Grew P ρ (mergeE N N' ρ ρx) N N' d w w' ∧ Ext ρx (cut N' (mergeE N N' ρ ρx)) := by
  have inside : ∀ n, N ≤ n → n < N' → mergeE N N' ρ ρx n = ρx n := fun n h1 h2 => by unfold mergeE; rw [if_pos ⟨h1, h2⟩]
  have outside : ∀ n, n < N ∨ N' ≤ n → mergeE N N' ρ ρx n = ρ n := fun n h => by unfold mergeE; rw [if_neg (by omega)]
  have hE : Ext ρx (cut N' (mergeE N N' ρ ρx)) := fun n p e => by
    have hd : Dom ρx N' := (cut_dom N ρ).same hle g.same
    have hn : n < N' := by
      rcases Nat.lt_or_ge n N' with h | h
      · exact h
      · rw [hd n h] at e; cases e
    refine cut_some.2 ⟨hn, ?_⟩
    rcases Nat.lt_or_ge n N with h | h
    · rw [outside n (.inl h)]
      rw [g.same n (.inl h)] at e
      exact (cut_some.1 e).2
    · rw [inside n h hn]; exact e
  have hE' : Ext ρx (mergeE N N' ρ ρx) := hE.trans (cut_ext _ _)
  refine ⟨⟨fun n p e => ?_, outside, g.bel, fun n p h1 h2 h3 => ?_, g.dom, fun p hp => ?_, fun p hp q hq a C D e1 e2 => ?_⟩, hE⟩
  · rcases Nat.lt_or_ge n N with h | h
    · rw [outside n (.inl h)]; exact e
    · rcases Nat.lt_or_ge n N' with h' | h'
      · rw [hF n h h'] at e; cases e
      · rw [outside n (.inr h')]; exact e
  · rw [inside n h1 h2] at h3; exact g.new n p h1 h2 h3
  · obtain ⟨a, C, e1, e2⟩ := g.blk p hp
    exact ⟨a, C, hE' _ _ e1, e2.mono hE'⟩
  · rw [inside p.1 (g.dom p hp).1 (g.dom p hp).2] at e1
    rw [inside q.1 (g.dom q hq).1 (g.dom q hq).2] at e2
    exact g.inj p hp q hq a C D e1 e2

section
variable {P : Program} {G : Nat} {call : CallT} {yld : YldT} {ops : Array Oper} {H1 : HP} {T1 Tf : PT Value} {N1 Nf : Nat} {rs : List HRec} {ρ1 : Env} {w1 : World} {a1 : Act}
/-- What is known while the head comes up. -/
structure HInv (P : Program) (ops : Array Oper) (rs : List HRec) (ρ1 : Env) (N1 Nf : Nat) (a1 : Act) (w1 : World) (ls : Array Bool) (a : Act) (w : World) (ρ : Env) (D : List (Nat × AB)) : Prop where
  grew : Grew P ρ1 ρ N1 Nf D w1 w
  cov : ∀ i r p, ls.getD i false = true → rs[i]? = some r → p ∈ r.d → p ∈ D
  own : ∀ i r p, ls.getD i false = true → rs[i]? = some r → p ∈ r.d → r.N ≤ p.1 ∧ p.1 < r.N'
  blk : ∀ i r p, ls.getD i false = true → rs[i]? = some r → p ∈ r.d → ∃ x C, cut r.N' ρ p.1 = some (x, C) ∧ OR P (cut r.N' ρ) C p.2 w.heap[x]?
  free : ∀ i r, ls.getD i true = false → rs[i]? = some r → Free ρ r.N r.N'
  dfr : a.defers = a1.defers
  old : ∀ t, (∀ i r, ls.getD i false = true → rs[i]? = some r → r.o.dst ≠ some t) → a.tmps[t]? = a1.tmps[t]?
  got : ∀ i r t, ls.getD i false = true → rs[i]? = some r → r.o.dst = some t → ∃ v, a.tmps[t]? = some v ∧ VR (cut r.N' ρ) r.u v
  closed : Closed ops ls
  size : ls.size = ops.size
  tail : ∀ i, rs.length ≤ i → i < ops.size → ls.getD i true = false
theorem getD_false_of {ls : Array Bool} {i : Nat} (h : ls.getD i true = false) : ls.getD i false = false := getD_both h
theorem getD_not {ls : Array Bool} {i : Nat} (hi : i < ls.size) (h : ¬ ls.getD i false = true) : ls.getD i true = false := by
  simp [Array.getD_eq_getD_getElem?, hi] at h ⊢
  exact h
theorem dsts1_ne : ∀ (l : List Oper) (i j : Nat) (p q : Oper), dsts1B l = true → l[i]? = some p → l[j]? = some q → i ≠ j → ∀ t, p.dst = some t → q.dst ≠ some t
  | [], _, _, _, _, _, h, _, _ => by simp at h
  | o :: l, i, j, p, q, hD, hp, hq, hne => by
    simp only [dsts1B, Bool.and_eq_true] at hD
    intro t ht
    have hall : ∀ d, o.dst = some d → ∀ o2 ∈ l, o2.dst ≠ some d := fun d hd o2 ho2 => by
      have h1 := hD.1
      rw [hd] at h1
      have := List.all_eq_true.1 h1 o2 ho2
      simpa using this
    cases i with
    | zero =>
      simp at hp; subst hp
      cases j with
      | zero => exact absurd rfl hne
      | succ j => simp at hq; exact hall t ht q (List.mem_of_getElem? hq)
    | succ i =>
      simp at hp
      cases j with
      | zero => simp at hq; subst hq; exact fun h => hall t h p (List.mem_of_getElem? hp) ht
      | succ j => simp at hq; exact dsts1_ne l i j p q hD.2 hp hq (by omega) t ht
/-- One operation of the head, whatever has come up. -/
theorem head_step (hc : CallOk P G call) (hy : YldOk P G yld) (hS : Sat P ρ1 H1 w1) (hN1 : ∀ n b, H1.get n = some b → n < N1) (hG : Glob G ρ1) (hDm : Dom ρ1 N1) (hT : TR ρ1 T1 a1.tmps)
    (hch : Chain P G call yld ops H1 T1 N1 [] rs Tf Nf) (hrs : rs.map (·.o) = ops.toList.take rs.length) (hm : rs.map (·.m) = (ancs ops.toList).take rs.length) (hD : dsts1B (ops.toList.take rs.length) = true) (hE : edges1B (ops.toList.take rs.length) 0 = true) (hL : looksB ops (ops.toList.take rs.length) = true)
    {ls : Array Bool} {a : Act} {w : World} {ρ : Env} {D : List (Nat × AB)} (I : HInv P ops rs ρ1 N1 Nf a1 w1 ls a w ρ D) {i : Nat} (hi : i < rs.length) (hr : i ∈ Region.ready .any ops ls) (ro : Option Nat) (m : Nat) (Q : Exit → Act → World → Prop) (K : Act → World → Prop)
    (hK : ∀ a' w' ρ' D', HInv P ops rs ρ1 N1 Nf a1 w1 (ls.setIfInBounds i true) a' w' ρ' D' → K a' w') : wpOpIn (fe ro) m P ops Q i K a w := by
  obtain ⟨hun, o, ho, hall⟩ := mem_ready.1 hr
  obtain ⟨r, hri⟩ : ∃ r, rs[i]? = some r := ⟨_, List.getElem?_eq_getElem hi⟩
  have hlt : i < ls.size := getD_size' hun
  -- the record speaks of that operation
  have hops : ∀ j q, rs[j]? = some q → ops[j]? = some q.o ∧ (ops.toList.take rs.length)[j]? = some q.o ∧ q.m = (ancs ops.toList).getD j [] := fun j q hq => by
    have hj : j < rs.length := (List.getElem?_eq_some_iff.1 hq).1
    have e1 : (rs.map (·.o))[j]? = some q.o := by rw [List.getElem?_map, hq]; rfl
    rw [hrs] at e1
    have e2 : (rs.map (·.m))[j]? = some q.m := by rw [List.getElem?_map, hq]; rfl
    rw [hm, List.getElem?_take_of_lt hj] at e2
    refine ⟨?_, e1, ?_⟩
    · rw [List.getElem?_take_of_lt hj, Array.getElem?_toList] at e1; exact e1
    · rw [List.getD_eq_getElem?_getD, e2]; rfl
  obtain ⟨ho', hto, hmi⟩ := hops i r hri
  rw [ho] at ho'
  cases ho'
  obtain ⟨c1, c2, c3, c4, c5, c6, c7, c8⟩ := hch.at i r hri
  rw [List.nil_append] at c5
  have hF : Free ρ1 N1 Nf := hDm.free _
  have hE1 : Ext ρ1 (cut r.N ρ) := hDm.toCut c2 I.grew.ext
  -- what it looks at
  have hlook : ∀ t, t ∈ r.o.looksAt ops → ∀ u, r.T.get t = some u → ∃ v, a.tmps[t]? = some v ∧ VR (cut r.N ρ) u v := fun t ht u hu => by
    have hLi : ∀ j q, rs[j]? = some q → q.o.dst = some t → waits1B r.o j = true ∨ ((ancs (ops.toList.take rs.length)).getD j []).getD i false = true := fun j q hq hqd => by
      have h1 := List.all_eq_true.1 hL (r.o, i) (by
        rw [List.mem_zipIdx_iff_getElem?]; exact hto)
      have h2 := List.all_eq_true.1 h1 t ht
      have h3 := List.all_eq_true.1 h2 (q.o, j) (by
        rw [List.mem_zipIdx_iff_getElem?]; exact (hops j q hq).2.1)
      simp only [Bool.or_eq_true, bne_iff_ne, ne_eq] at h3
      rcases h3 with (h3 | h3) | h3
      · exact absurd hqd h3
      · exact .inl h3
      · exact .inr h3
    have hanc : ∀ j, j < rs.length → ((ancs (ops.toList.take rs.length)).getD j []).getD i false = true → i < j ∧ ((ancs ops.toList).getD j []).getD i false = true := fun j hj h => by
      have hjl : j < (ops.toList.take rs.length).length := by
        rw [← hrs]; simpa using hj
      have h1 := (anc_spec (l := ops.toList.take rs.length) (List.getElem?_eq_getElem hjl) h).1
      have hlen : rs.length ≤ ops.toList.length := by
        have h9 := congrArg List.length hrs
        rw [List.length_map, List.length_take] at h9
        exact h9 ▸ Nat.min_le_right rs.length ops.toList.length
      have e1 := (ancs_take ops.toList rs.length hlen).2 j (by omega) (by omega)
      have e2 := (ancs_take ops.toList ops.toList.length (Nat.le_refl _)).2 j (by omega) (by omega)
      rw [List.take_length] at e2
      refine ⟨h1, ?_⟩
      rw [e2, ← e1]
      exact h
    have hdone : ∀ j q, rs[j]? = some q → q.o.dst = some t → j < i → ls.getD j false = true := fun j q hq hqd hji => by
      rcases hLi j q hq hqd with h | h
      · exact waits_ready hr ho h
      · have := (hanc j (by omega) h).1; omega
    have hlater : ∀ j q, rs[j]? = some q → q.o.dst = some t → ls.getD j false = true → j < i := fun j q hq hqd hlj => by
      have hj : j < rs.length := (List.getElem?_eq_some_iff.1 hq).1
      rcases hLi j q hq hqd with h | h
      · unfold waits1B at h
        rw [List.any_eq_true] at h
        obtain ⟨e, he, h2⟩ := h
        rw [Bool.and_eq_true, beq_iff_eq] at h2
        have := edges1_spec _ 0 i r.o e hE hto (by simpa using he) h2.1
        omega
      · have h3 := I.closed j i hlj (hanc j hj h).2
        rw [getD_both hun] at h3
        cases h3
    rcases c7 t u hu with ⟨j, q, g1, g2, g3, rfl⟩ | ⟨g1, g2⟩
    · obtain ⟨v, hv, hvr⟩ := I.got j q t (hdone j q g2 g3 g1) g2 g3
      exact ⟨v, hv, hvr.mono (cut_mono (c8 j q g1 g2) (.refl ρ))⟩
    · obtain ⟨v, hv, hvr⟩ := hT t u g2
      refine ⟨v, ?_, hvr.mono hE1⟩
      rw [I.old t (fun j q hlj hq hqd => g1 j q (hlater j q hq hqd hlj) hq hqd)]
      exact hv
  have hwant : Region.wanted r.o (yielded ops a.tmps) = r.b := want_sound hlook c1
  -- what is known behind it
  have after : ∀ (v : Value) (w' : World) (ρx : Env), Grew P (cut r.N ρ) ρx r.N r.N' r.d w w' → VR ρx r.u v → K (a.put r.o.dst v) w' := fun v w' ρx gx hv => by
    obtain ⟨g, hEx⟩ := gx.besides (I.free i r hun hri) c3
    generalize hρ' : mergeE r.N r.N' ρ ρx = ρ' at g hEx
    refine hK _ w' ρ' (D ++ r.d) ⟨I.grew.sub g c2 c4, fun j q p hlj hq hp => ?_, fun j q p hlj hq hp => ?_, fun j q p hlj hq hp => ?_, fun j q hlj hq => ?_, (put_defers _ _ _).trans I.dfr, fun t ht => ?_, fun j q t hlj hq hqd => ?_, I.closed.set hr, by simp [I.size], fun j hj hjs => ?_⟩
    · by_cases e : i = j
      · subst e; rw [hri] at hq; cases hq; exact List.mem_append_right _ hp
      · rw [getD_set_ne false e] at hlj; exact List.mem_append_left _ (I.cov j q p hlj hq hp)
    · by_cases e : i = j
      · subst e; rw [hri] at hq; cases hq; exact g.dom p hp
      · rw [getD_set_ne false e] at hlj; exact I.own j q p hlj hq hp
    · by_cases e : i = j
      · subst e; rw [hri] at hq; cases hq
        obtain ⟨x, C, e1, e2⟩ := gx.blk p hp
        exact ⟨x, C, hEx _ _ e1, e2.mono hEx⟩
      · rw [getD_set_ne false e] at hlj
        obtain ⟨x, C, e1, e2⟩ := I.blk j q p hlj hq hp
        have hx : x < w.heap.size := by
          have h1 := I.own j q p hlj hq hp
          obtain ⟨_, d2, _, d4, _⟩ := hch.at j q hq
          exact (I.grew.new p.1 (x, C) (by omega) (by omega) (cut_some.1 e1).2).2
        exact ⟨x, C, cut_mono (Nat.le_refl _) g.ext _ _ e1, by rw [g.bel.block x hx]; exact e2.mono (cut_mono (Nat.le_refl _) g.ext)⟩
    · by_cases e : i = j
      · subst e; simp [Array.getD_eq_getD_getElem?, hlt] at hlj
      · rw [getD_set_ne true e] at hlj
        intro n h1 h2
        have hsame : ρ' n = ρ n := g.same n (by
          obtain ⟨d1, d2, d3, d4, _, _, _, d8⟩ := hch.at j q hq
          rcases Nat.lt_or_ge i j with h | h
          · have := d8 i r h hri; omega
          · have := c8 j q (by omega) hq; omega)
        rw [hsame]
        exact I.free j q hlj hq n h1 h2
    · have h0 : r.o.dst ≠ some t := ht i r (by simp [Array.getD_eq_getD_getElem?, hlt]) hri
      have hold := I.old t (fun j q hlj hq => ht j q (by
        by_cases e : i = j
        · subst e; simp [Array.getD_eq_getD_getElem?, hlt]
        · rw [getD_set_ne false e]; exact hlj) hq)
      rw [← hold]
      cases hd : r.o.dst with
      | none => rfl
      | some d =>
        have hne : d ≠ t := fun e => h0 (by rw [hd, e])
        simp only [Act.put]
        rw [Array.getElem?_setIfInBounds_ne hne]
    · by_cases e : i = j
      · subst e
        rw [hri] at hq; cases hq
        rcases c6 with ⟨k1, _⟩ | ⟨d, y, k1, k2, k3⟩
        · rw [k1] at hqd; cases hqd
        · rw [k1] at hqd; cases hqd
          have hsz : t < a.tmps.size := by
            rcases c7 t y k2 with ⟨j, q, g1, g2, g3, _⟩ | ⟨_, g2⟩
            · exact absurd k1 (dsts1_ne _ j i q.o r.o hD (hops j q g2).2.1 hto (by omega) t g3)
            · obtain ⟨v0, hv0, _⟩ := hT t y g2
              have hold := I.old t (fun j2 q2 hlj2 hq2 => fun hqd2 => by
                have hji : j2 ≠ i := fun e => by subst e; rw [getD_both hun] at hlj2; cases hlj2
                exact dsts1_ne _ j2 i q2.o r.o hD (hops j2 q2 hq2).2.1 hto hji t hqd2 k1)
              rw [← hold] at hv0
              exact (Array.getElem?_eq_some_iff.1 hv0).1
          exact ⟨v, by simp [k1, Act.put, hsz], hv.mono hEx⟩
      · rw [getD_set_ne false e] at hlj
        obtain ⟨v2, hv2, hr2⟩ := I.got j q t hlj hq hqd
        refine ⟨v2, ?_, hr2.mono (cut_mono (Nat.le_refl _) g.ext)⟩
        cases hd : r.o.dst with
        | none => exact hv2
        | some d =>
          have hne : d ≠ t := fun e2 => dsts1_ne _ j i q.o r.o hD (hops j q hq).2.1 hto (Ne.symm e) t hqd (by rw [hd, e2])
          simp only [Act.put]
          rw [Array.getElem?_setIfInBounds_ne hne]
          exact hv2
    · rw [getD_set_ne true (by omega)]; exact I.tail j hj hjs
  unfold wpOpIn
  rw [ho]
  simp only [hwant]
  cases hb : r.b with
  | false =>
    rw [hb] at c5
    obtain ⟨e1, e2, e3⟩ := c5
    simp only [Bool.false_eq_true, if_false]
    refine ⟨fun _ _ => trivial, ?_⟩
    refine after undef w (cut r.N ρ) ?_ (by rw [e1]; exact undef_VR _)
    rw [e2, e3]
    exact .refl P (cut r.N ρ) r.N w
  | true =>
    rw [hb] at c5
    simp only [if_true] at c5 ⊢
    have hmask : ∀ n b, (heapFor H1 r.m ((rs.take i).map (·.d))).get n = some b → (∃ j q, j < i ∧ rs[j]? = some q ∧ ls.getD j false = true ∧ (n, b) ∈ q.d) ∨ H1.get n = some b := fun n b h => by
      rcases heapFor_spec _ _ _ n b h with g | ⟨j, d, g1, g2, g3⟩
      · exact .inr g
      · rw [List.getElem?_map] at g2
        cases hq : (rs.take i)[j]? with
        | none => rw [hq] at g2; cases g2
        | some q =>
          rw [hq] at g2
          cases g2
          have hji : j < i := by
            have := (List.getElem?_eq_some_iff.1 hq).1
            simp at this; omega
          rw [List.getElem?_take_of_lt hji] at hq
          rw [hmi] at g1
          exact .inl ⟨j, q, hji, hq, ready_anc I.closed hr g1, g3⟩
    have hsat0 : Sat P ρ (heapFor H1 r.m ((rs.take i).map (·.d))) w := I.grew.sat hS hF (fun n b h => by
      rcases hmask n b h with ⟨j, q, _, hq, hlj, hp⟩ | g
      · exact .inl (I.cov j q _ hlj hq hp)
      · exact .inr g)
    have hsat : Sat P (cut r.N ρ) (heapFor H1 r.m ((rs.take i).map (·.d))) w := ⟨fun n b h => by
      rcases hmask n b h with ⟨j, q, hji, hq, hlj, hp⟩ | g
      · obtain ⟨x, C, e1, e2⟩ := I.blk j q (n, b) hlj hq hp
        have hm := cut_mono (c8 j q hji hq) (Ext.refl ρ)
        exact ⟨x, C, hm _ _ e1, e2.mono hm⟩
      · obtain ⟨x, C, e1, e2⟩ := hS.blk n b g
        exact ⟨x, C, hE1 _ _ e1, by rw [I.grew.bel.block x (hS.lt n x C e1)]; exact e2.mono hE1⟩,
      fun n m b c a C D h1 h2 h3 h4 => hsat0.inj n m b c a C D h1 h2 (cut_ext _ _ _ _ h3) (cut_ext _ _ _ _ h4),
      fun n a C h => hsat0.lt n a C (cut_ext _ _ _ _ h)⟩
    have hnamed : ∀ n b, (heapFor H1 r.m ((rs.take i).map (·.d))).get n = some b → n < r.N := fun n b h => by
      rcases hmask n b h with ⟨j, q, hji, hq, hlj, hp⟩ | g
      · have h1 := (I.own j q _ hlj hq hp).2
        have h2 := c8 j q hji hq
        simp only at h1
        omega
      · exact Nat.lt_of_lt_of_le (hN1 n b g) c2
    have hop := aop_looks hc hy hsat (fun t ht u hu => hlook t (by
      unfold Oper.looksAt
      refine List.mem_append_left _ (List.mem_filterMap.2 ⟨.tmp t, by simpa using ht, rfl⟩)) u hu) (hG.mono hE1) hnamed c5
    exact hop.2 (cut_dom _ _) ro m K Q after
end
end Go.Proofs.YtadpelhmjmamnaaGreatDoor.Ev
