/- The reckoner: a region that draws its order, walked. No conditions. The reckoner: what is one. No conditions. The reckoner: a region some of whose head its first writer does not wait for. No conditions. The reckoner: a region some of whose head its first writer does not wait for, in every order. No conditions. -/
import Derived.Test.YtadpelhmjmamnaaGreatDoorPkCf9
import Derived.Test.YtadpelhmjmamnaaGreatDoorPkCf6
namespace Go.Proofs.YtadpelhmjmamnaaGreatDoor
section
namespace Ev
open Go Go.RowKit

/-- The names ahead of M. -/
def cut (M : Nat) (ρ : Env) : Env := fun n => if n < M then ρ n else none
theorem cut_some {M : Nat} {ρ : Env} {n : Nat} {p : Nat × Nat} : cut M ρ n = some p ↔ n < M ∧ ρ n = some p := by
  unfold cut
  by_cases h : n < M
  · simp [h]
  · simp [h]
theorem cut_ext (M : Nat) (ρ : Env) : Ext (cut M ρ) ρ := fun _ _ h => (cut_some.1 h).2
theorem cut_mono {M M' : Nat} {ρ ρ' : Env} (h : M ≤ M') (k : Ext ρ ρ') : Ext (cut M ρ) (cut M' ρ') := fun n p e => by
  have := cut_some.1 e
  exact cut_some.2 ⟨by omega, k n p this.2⟩
theorem cut_dom (M : Nat) (ρ : Env) : Dom (cut M ρ) M := fun n h => by unfold cut; rw [if_neg (by omega)]
theorem Dom.toCut {ρ ρ' : Env} {N M : Nat} (h : Dom ρ N) (hle : N ≤ M) (k : Ext ρ ρ') : Ext ρ (cut M ρ') := fun n p e => by
  refine cut_some.2 ⟨?_, k n p e⟩
  rcases Nat.lt_or_ge n N with g | g
  · omega
  · rw [h n g] at e; cases e
/-- What has grown beside other names. -/
def mergeE (N N' : Nat) (ρ ρx : Env) : Env := fun n => if N ≤ n ∧ n < N' then ρx n else ρ n
theorem Grew.besides {P : Program} {ρ ρx : Env} {N N' : Nat} {d : List (Nat × AB)} {w w' : World} (g : Grew P (cut N ρ) ρx N N' d w w') (hF : Free ρ N N') (hle : N ≤ N') : Grew P ρ (mergeE N N' ρ ρx) N N' d w w' ∧ Ext ρx (cut N' (mergeE N N' ρ ρx)) := by
  have inside : ∀ n, N ≤ n → n < N' → mergeE N N' ρ ρx n = ρx n := fun n h1 h2 => by unfold mergeE; rw [if_pos ⟨h1, h2⟩]
  have outside : ∀ n, n < N ∨ N' ≤ n → mergeE N N' ρ ρx n = ρ n := fun n h => by unfold mergeE; rw [if_neg (by omega)]
  have hE : Ext ρx (cut N' (mergeE N N' ρ ρx)) := fun n p e => by
    have hd : Dom ρx N' := (cut_dom N ρ).same hle g.same
    have hn : n < N' := by
      rcases Nat.lt_or_ge n N' with h | h
      · exact h
      · rw [hd n h] at e; cases e
    refine cut_some.2 ⟨hn, ?_⟩
    rcases Nat.lt_or_ge n N with h | h
    · rw [outside n (.inl h)]
      rw [g.same n (.inl h)] at e
      exact (cut_some.1 e).2
    · rw [inside n h hn]; exact e
  have hE' : Ext ρx (mergeE N N' ρ ρx) := hE.trans (cut_ext _ _)
  refine ⟨⟨fun n p e => ?_, outside, g.bel, fun n p h1 h2 h3 => ?_, g.dom, fun p hp => ?_, fun p hp q hq a C D e1 e2 => ?_⟩, hE⟩
  · rcases Nat.lt_or_ge n N with h | h
    · rw [outside n (.inl h)]; exact e
    · rcases Nat.lt_or_ge n N' with h' | h'
      · rw [hF n h h'] at e; cases e
      · rw [outside n (.inr h')]; exact e
  · rw [inside n h1 h2] at h3; exact g.new n p h1 h2 h3
  · obtain ⟨a, C, e1, e2⟩ := g.blk p hp
    exact ⟨a, C, hE' _ _ e1, e2.mono hE'⟩
  · rw [inside p.1 (g.dom p hp).1 (g.dom p hp).2] at e1
    rw [inside q.1 (g.dom q hq).1 (g.dom q hq).2] at e2
    exact g.inj p hp q hq a C D e1 e2

section
variable {P : Program} {G : Nat} {call : CallT} {yld : YldT} {ops : Array Oper} {H1 : HP} {T1 Tf : PT Value} {N1 Nf : Nat} {rs : List HRec} {ρ1 : Env} {w1 : World} {a1 : Act}
/-- What is known while the head comes up. -/
structure HInv (P : Program) (ops : Array Oper) (rs : List HRec) (ρ1 : Env) (N1 Nf : Nat) (a1 : Act) (w1 : World) (ls : Array Bool) (a : Act) (w : World) (ρ : Env) (D : List (Nat × AB)) : Prop where
  grew : Grew P ρ1 ρ N1 Nf D w1 w
  cov : ∀ i r p, ls.getD i false = true → rs[i]? = some r → p ∈ r.d → p ∈ D
  own : ∀ i r p, ls.getD i false = true → rs[i]? = some r → p ∈ r.d → r.N ≤ p.1 ∧ p.1 < r.N'
  blk : ∀ i r p, ls.getD i false = true → rs[i]? = some r → p ∈ r.d → ∃ x C, cut r.N' ρ p.1 = some (x, C) ∧ OR P (cut r.N' ρ) C p.2 w.heap[x]?
  free : ∀ i r, ls.getD i true = false → rs[i]? = some r → Free ρ r.N r.N'
  dfr : a.defers = a1.defers
  old : ∀ t, (∀ i r, ls.getD i false = true → rs[i]? = some r → r.o.dst ≠ some t) → a.tmps[t]? = a1.tmps[t]?
  got : ∀ i r t, ls.getD i false = true → rs[i]? = some r → r.o.dst = some t → ∃ v, a.tmps[t]? = some v ∧ VR (cut r.N' ρ) r.u v
  closed : Closed ops ls
  size : ls.size = ops.size
  tail : ∀ i, rs.length ≤ i → i < ops.size → ls.getD i true = false
theorem getD_false_of {ls : Array Bool} {i : Nat} (h : ls.getD i true = false) : ls.getD i false = false := getD_both h
theorem getD_not {ls : Array Bool} {i : Nat} (hi : i < ls.size) (h : ¬ ls.getD i false = true) : ls.getD i true = false := by
  simp [Array.getD_eq_getD_getElem?, hi] at h ⊢
  exact h
theorem dsts1_ne : ∀ (l : List Oper) (i j : Nat) (p q : Oper), dsts1B l = true → l[i]? = some p → l[j]? = some q → i ≠ j → ∀ t, p.dst = some t → q.dst ≠ some t
  | [], _, _, _, _, _, h, _, _ => by simp at h
  | o :: l, i, j, p, q, hD, hp, hq, hne => by
    simp only [dsts1B, Bool.and_eq_true] at hD
    intro t ht
    have hall : ∀ d, o.dst = some d → ∀ o2 ∈ l, o2.dst ≠ some d := fun d hd o2 ho2 => by
      have h1 := hD.1
      rw [hd] at h1
      have := List.all_eq_true.1 h1 o2 ho2
      simpa using this
    cases i with
    | zero =>
      simp at hp; subst hp
      cases j with
      | zero => exact absurd rfl hne
      | succ j => simp at hq; exact hall t ht q (List.mem_of_getElem? hq)
    | succ i =>
      simp at hp
      cases j with
      | zero => simp at hq; subst hq; exact fun h => hall t h p (List.mem_of_getElem? hp) ht
      | succ j => simp at hq; exact dsts1_ne l i j p q hD.2 hp hq (by omega) t ht
/-- One operation of the head, whatever has come up. -/
theorem head_step (hc : CallOk P G call) (hy : YldOk P G yld) (hS : Sat P ρ1 H1 w1) (hN1 : ∀ n b, H1.get n = some b → n < N1) (hG : Glob G ρ1) (hDm : Dom ρ1 N1) (hT : TR ρ1 T1 a1.tmps)
    (hch : Chain P G call yld ops H1 T1 N1 [] rs Tf Nf) (hrs : rs.map (·.o) = ops.toList.take rs.length) (hm : rs.map (·.m) = (ancs ops.toList).take rs.length) (hD : dsts1B (ops.toList.take rs.length) = true) (hE : edges1B (ops.toList.take rs.length) 0 = true) (hL : looksB ops (ops.toList.take rs.length) = true)
    {ls : Array Bool} {a : Act} {w : World} {ρ : Env} {D : List (Nat × AB)} (I : HInv P ops rs ρ1 N1 Nf a1 w1 ls a w ρ D) {i : Nat} (hi : i < rs.length) (hr : i ∈ Region.ready .any ops ls) (ro : Option Nat) (m : Nat) (Q : Exit → Act → World → Prop) (K : Act → World → Prop)
    (hK : ∀ a' w' ρ' D', HInv P ops rs ρ1 N1 Nf a1 w1 (ls.setIfInBounds i true) a' w' ρ' D' → K a' w') : wpOpIn (fe ro) m P ops Q i K a w := by
  obtain ⟨hun, o, ho, hall⟩ := mem_ready.1 hr
  obtain ⟨r, hri⟩ : ∃ r, rs[i]? = some r := ⟨_, List.getElem?_eq_getElem hi⟩
  have hlt : i < ls.size := getD_size' hun
  -- the record speaks of that operation
  have hops : ∀ j q, rs[j]? = some q → ops[j]? = some q.o ∧ (ops.toList.take rs.length)[j]? = some q.o ∧ q.m = (ancs ops.toList).getD j [] := fun j q hq => by
    have hj : j < rs.length := (List.getElem?_eq_some_iff.1 hq).1
    have e1 : (rs.map (·.o))[j]? = some q.o := by rw [List.getElem?_map, hq]; rfl
    rw [hrs] at e1
    have e2 : (rs.map (·.m))[j]? = some q.m := by rw [List.getElem?_map, hq]; rfl
    rw [hm, List.getElem?_take_of_lt hj] at e2
    refine ⟨?_, e1, ?_⟩
    · rw [List.getElem?_take_of_lt hj, Array.getElem?_toList] at e1; exact e1
    · rw [List.getD_eq_getElem?_getD, e2]; rfl
  obtain ⟨ho', hto, hmi⟩ := hops i r hri
  rw [ho] at ho'
  cases ho'
  obtain ⟨c1, c2, c3, c4, c5, c6, c7, c8⟩ := hch.at i r hri
  rw [List.nil_append] at c5
  have hF : Free ρ1 N1 Nf := hDm.free _
  have hE1 : Ext ρ1 (cut r.N ρ) := hDm.toCut c2 I.grew.ext
  -- what it looks at
  have hlook : ∀ t, t ∈ r.o.looksAt ops → ∀ u, r.T.get t = some u → ∃ v, a.tmps[t]? = some v ∧ VR (cut r.N ρ) u v := fun t ht u hu => by
    have hLi : ∀ j q, rs[j]? = some q → q.o.dst = some t → waits1B r.o j = true ∨ ((ancs (ops.toList.take rs.length)).getD j []).getD i false = true := fun j q hq hqd => by
      have h1 := List.all_eq_true.1 hL (r.o, i) (by
        rw [List.mem_zipIdx_iff_getElem?]; exact hto)
      have h2 := List.all_eq_true.1 h1 t ht
      have h3 := List.all_eq_true.1 h2 (q.o, j) (by
        rw [List.mem_zipIdx_iff_getElem?]; exact (hops j q hq).2.1)
      simp only [Bool.or_eq_true, bne_iff_ne, ne_eq] at h3
      rcases h3 with (h3 | h3) | h3
      · exact absurd hqd h3
      · exact .inl h3
      · exact .inr h3
    have hanc : ∀ j, j < rs.length → ((ancs (ops.toList.take rs.length)).getD j []).getD i false = true → i < j ∧ ((ancs ops.toList).getD j []).getD i false = true := fun j hj h => by
      have hjl : j < (ops.toList.take rs.length).length := by
        rw [← hrs]; simpa using hj
      have h1 := (anc_spec (l := ops.toList.take rs.length) (List.getElem?_eq_getElem hjl) h).1
      have hlen : rs.length ≤ ops.toList.length := by
        have h9 := congrArg List.length hrs
        rw [List.length_map, List.length_take] at h9
        exact h9 ▸ Nat.min_le_right rs.length ops.toList.length
      have e1 := (ancs_take ops.toList rs.length hlen).2 j (by omega) (by omega)
      have e2 := (ancs_take ops.toList ops.toList.length (Nat.le_refl _)).2 j (by omega) (by omega)
      rw [List.take_length] at e2
      refine ⟨h1, ?_⟩
      rw [e2, ← e1]
      exact h
    have hdone : ∀ j q, rs[j]? = some q → q.o.dst = some t → j < i → ls.getD j false = true := fun j q hq hqd hji => by
      rcases hLi j q hq hqd with h | h
      · exact waits_ready hr ho h
      · have := (hanc j (by omega) h).1; omega
    have hlater : ∀ j q, rs[j]? = some q → q.o.dst = some t → ls.getD j false = true → j < i := fun j q hq hqd hlj => by
      have hj : j < rs.length := (List.getElem?_eq_some_iff.1 hq).1
      rcases hLi j q hq hqd with h | h
      · unfold waits1B at h
        rw [List.any_eq_true] at h
        obtain ⟨e, he, h2⟩ := h
        rw [Bool.and_eq_true, beq_iff_eq] at h2
        have := edges1_spec _ 0 i r.o e hE hto (by simpa using he) h2.1
        omega
      · have h3 := I.closed j i hlj (hanc j hj h).2
        rw [getD_both hun] at h3
        cases h3
    rcases c7 t u hu with ⟨j, q, g1, g2, g3, rfl⟩ | ⟨g1, g2⟩
    · obtain ⟨v, hv, hvr⟩ := I.got j q t (hdone j q g2 g3 g1) g2 g3
      exact ⟨v, hv, hvr.mono (cut_mono (c8 j q g1 g2) (.refl ρ))⟩
    · obtain ⟨v, hv, hvr⟩ := hT t u g2
      refine ⟨v, ?_, hvr.mono hE1⟩
      rw [I.old t (fun j q hlj hq hqd => g1 j q (hlater j q hq hqd hlj) hq hqd)]
      exact hv
  have hwant : Region.wanted r.o (yielded ops a.tmps) = r.b := want_sound hlook c1
  -- what is known behind it
  have after : ∀ (v : Value) (w' : World) (ρx : Env), Grew P (cut r.N ρ) ρx r.N r.N' r.d w w' → VR ρx r.u v → K (a.put r.o.dst v) w' := fun v w' ρx gx hv => by
    obtain ⟨g, hEx⟩ := gx.besides (I.free i r hun hri) c3
    generalize hρ' : mergeE r.N r.N' ρ ρx = ρ' at g hEx
    refine hK _ w' ρ' (D ++ r.d) ⟨I.grew.sub g c2 c4, fun j q p hlj hq hp => ?_, fun j q p hlj hq hp => ?_, fun j q p hlj hq hp => ?_, fun j q hlj hq => ?_, (put_defers _ _ _).trans I.dfr, fun t ht => ?_, fun j q t hlj hq hqd => ?_, I.closed.set hr, by simp [I.size], fun j hj hjs => ?_⟩
    · by_cases e : i = j
      · subst e; rw [hri] at hq; cases hq; exact List.mem_append_right _ hp
      · rw [getD_set_ne false e] at hlj; exact List.mem_append_left _ (I.cov j q p hlj hq hp)
    · by_cases e : i = j
      · subst e; rw [hri] at hq; cases hq; exact g.dom p hp
      · rw [getD_set_ne false e] at hlj; exact I.own j q p hlj hq hp
    · by_cases e : i = j
      · subst e; rw [hri] at hq; cases hq
        obtain ⟨x, C, e1, e2⟩ := gx.blk p hp
        exact ⟨x, C, hEx _ _ e1, e2.mono hEx⟩
      · rw [getD_set_ne false e] at hlj
        obtain ⟨x, C, e1, e2⟩ := I.blk j q p hlj hq hp
        have hx : x < w.heap.size := by
          have h1 := I.own j q p hlj hq hp
          obtain ⟨_, d2, _, d4, _⟩ := hch.at j q hq
          exact (I.grew.new p.1 (x, C) (by omega) (by omega) (cut_some.1 e1).2).2
        exact ⟨x, C, cut_mono (Nat.le_refl _) g.ext _ _ e1, by rw [g.bel.block x hx]; exact e2.mono (cut_mono (Nat.le_refl _) g.ext)⟩
    · by_cases e : i = j
      · subst e; simp [Array.getD_eq_getD_getElem?, hlt] at hlj
      · rw [getD_set_ne true e] at hlj
        intro n h1 h2
        have hsame : ρ' n = ρ n := g.same n (by
          obtain ⟨d1, d2, d3, d4, _, _, _, d8⟩ := hch.at j q hq
          rcases Nat.lt_or_ge i j with h | h
          · have := d8 i r h hri; omega
          · have := c8 j q (by omega) hq; omega)
        rw [hsame]
        exact I.free j q hlj hq n h1 h2
    · have h0 : r.o.dst ≠ some t := ht i r (by simp [Array.getD_eq_getD_getElem?, hlt]) hri
      have hold := I.old t (fun j q hlj hq => ht j q (by
        by_cases e : i = j
        · subst e; simp [Array.getD_eq_getD_getElem?, hlt]
        · rw [getD_set_ne false e]; exact hlj) hq)
      rw [← hold]
      cases hd : r.o.dst with
      | none => rfl
      | some d =>
        have hne : d ≠ t := fun e => h0 (by rw [hd, e])
        simp only [Act.put]
        rw [Array.getElem?_setIfInBounds_ne hne]
    · by_cases e : i = j
      · subst e
        rw [hri] at hq; cases hq
        rcases c6 with ⟨k1, _⟩ | ⟨d, y, k1, k2, k3⟩
        · rw [k1] at hqd; cases hqd
        · rw [k1] at hqd; cases hqd
          have hsz : t < a.tmps.size := by
            rcases c7 t y k2 with ⟨j, q, g1, g2, g3, _⟩ | ⟨_, g2⟩
            · exact absurd k1 (dsts1_ne _ j i q.o r.o hD (hops j q g2).2.1 hto (by omega) t g3)
            · obtain ⟨v0, hv0, _⟩ := hT t y g2
              have hold := I.old t (fun j2 q2 hlj2 hq2 => fun hqd2 => by
                have hji : j2 ≠ i := fun e => by subst e; rw [getD_both hun] at hlj2; cases hlj2
                exact dsts1_ne _ j2 i q2.o r.o hD (hops j2 q2 hq2).2.1 hto hji t hqd2 k1)
              rw [← hold] at hv0
              exact (Array.getElem?_eq_some_iff.1 hv0).1
          exact ⟨v, by simp [k1, Act.put, hsz], hv.mono hEx⟩
      · rw [getD_set_ne false e] at hlj
        obtain ⟨v2, hv2, hr2⟩ := I.got j q t hlj hq hqd
        refine ⟨v2, ?_, hr2.mono (cut_mono (Nat.le_refl _) g.ext)⟩
        cases hd : r.o.dst with
        | none => exact hv2
        | some d =>
          have hne : d ≠ t := fun e2 => dsts1_ne _ j i q.o r.o hD (hops j q hq).2.1 hto (Ne.symm e) t hqd (by rw [hd, e2])
          simp only [Act.put]
          rw [Array.getElem?_setIfInBounds_ne hne]
          exact hv2
    · rw [getD_set_ne true (by omega)]; exact I.tail j hj hjs
  unfold wpOpIn
  rw [ho]
  simp only [hwant]
  cases hb : r.b with
  | false =>
    rw [hb] at c5
    obtain ⟨e1, e2, e3⟩ := c5
    simp only [Bool.false_eq_true, if_false]
    refine ⟨fun _ _ => trivial, ?_⟩
    refine after undef w (cut r.N ρ) ?_ (by rw [e1]; exact undef_VR _)
    rw [e2, e3]
    exact .refl P (cut r.N ρ) r.N w
  | true =>
    rw [hb] at c5
    simp only [if_true] at c5 ⊢
    have hmask : ∀ n b, (heapFor H1 r.m ((rs.take i).map (·.d))).get n = some b → (∃ j q, j < i ∧ rs[j]? = some q ∧ ls.getD j false = true ∧ (n, b) ∈ q.d) ∨ H1.get n = some b := fun n b h => by
      rcases heapFor_spec _ _ _ n b h with g | ⟨j, d, g1, g2, g3⟩
      · exact .inr g
      · rw [List.getElem?_map] at g2
        cases hq : (rs.take i)[j]? with
        | none => rw [hq] at g2; cases g2
        | some q =>
          rw [hq] at g2
          cases g2
          have hji : j < i := by
            have := (List.getElem?_eq_some_iff.1 hq).1
            simp at this; omega
          rw [List.getElem?_take_of_lt hji] at hq
          rw [hmi] at g1
          exact .inl ⟨j, q, hji, hq, ready_anc I.closed hr g1, g3⟩
    have hsat0 : Sat P ρ (heapFor H1 r.m ((rs.take i).map (·.d))) w := I.grew.sat hS hF (fun n b h => by
      rcases hmask n b h with ⟨j, q, _, hq, hlj, hp⟩ | g
      · exact .inl (I.cov j q _ hlj hq hp)
      · exact .inr g)
    have hsat : Sat P (cut r.N ρ) (heapFor H1 r.m ((rs.take i).map (·.d))) w := ⟨fun n b h => by
      rcases hmask n b h with ⟨j, q, hji, hq, hlj, hp⟩ | g
      · obtain ⟨x, C, e1, e2⟩ := I.blk j q (n, b) hlj hq hp
        have hm := cut_mono (c8 j q hji hq) (Ext.refl ρ)
        exact ⟨x, C, hm _ _ e1, e2.mono hm⟩
      · obtain ⟨x, C, e1, e2⟩ := hS.blk n b g
        exact ⟨x, C, hE1 _ _ e1, by rw [I.grew.bel.block x (hS.lt n x C e1)]; exact e2.mono hE1⟩,
      fun n m b c a C D h1 h2 h3 h4 => hsat0.inj n m b c a C D h1 h2 (cut_ext _ _ _ _ h3) (cut_ext _ _ _ _ h4),
      fun n a C h => hsat0.lt n a C (cut_ext _ _ _ _ h)⟩
    have hnamed : ∀ n b, (heapFor H1 r.m ((rs.take i).map (·.d))).get n = some b → n < r.N := fun n b h => by
      rcases hmask n b h with ⟨j, q, hji, hq, hlj, hp⟩ | g
      · have h1 := (I.own j q _ hlj hq hp).2
        have h2 := c8 j q hji hq
        simp only at h1
        omega
      · exact Nat.lt_of_lt_of_le (hN1 n b g) c2
    have hop := aop_looks hc hy hsat (fun t ht u hu => hlook t (by
      unfold Oper.looksAt
      refine List.mem_append_left _ (List.mem_filterMap.2 ⟨.tmp t, by simpa using ht, rfl⟩)) u hu) (hG.mono hE1) hnamed c5
    exact hop.2 (cut_dom _ _) ro m K Q after
end
end Ev
end
section
namespace Ev
open Go

theorem beqL_eq {α : Type} {f : α → α → Bool} (hf : ∀ x y, f x y = true → x = y) : ∀ {a b : List α}, beqL f a b = true → a = b
  | [], [], _ => rfl
  | [], _ :: _, h => by cases h
  | _ :: _, [], h => by cases h
  | x :: a, y :: b, h => by
    have h' : (f x y && beqL f a b) = true := h
    rw [Bool.and_eq_true] at h'
    rw [hf x y h'.1, beqL_eq hf h'.2]
theorem beqO_eq {a b : Option Nat} (h : beqO a b = true) : a = b := by
  cases a <;> cases b
  · rfl
  · cases h
  · cases h
  · exact congrArg some (Nat.eq_of_beq_eq_true h)
theorem beqA_eq {a b : Option Addr} (h : beqA a b = true) : a = b := by
  cases a <;> cases b
  · rfl
  · cases h
  · cases h
  · rename_i a b
    obtain ⟨n, o, s⟩ := a
    obtain ⟨m, p, t⟩ := b
    have h' : (Nat.beq n m && Nat.beq o p && beqO s t) = true := h
    rw [Bool.and_eq_true, Bool.and_eq_true] at h'
    rw [Nat.eq_of_beq_eq_true h'.1.1, Nat.eq_of_beq_eq_true h'.1.2, beqO_eq h'.2]
theorem beqT_eq {a b : Bool} (h : beqT a b = true) : a = b := by cases a <;> cases b <;> first | rfl | cases h
theorem beqS_eq {a b : ByteArray} (h : beqS a b = true) : a = b := by
  have h1 := beqL_eq (f := fun x y : UInt8 => Nat.beq x.toNat y.toNat) (fun x y h => UInt8.toNat_inj.1 (Nat.eq_of_beq_eq_true h)) h
  cases a
  cases b
  congr 1
  exact Array.ext' h1
theorem eqF_one {a b : Int} (h : eqF a b = true) : a = b := by rw [eqF_eq] at h; exact eq_of_beq h
theorem beqV_eq : ∀ (d : Nat) (a b : Value), beqV d a b = true → a = b := by
  intro d
  induction d with
  | zero => intro a b h; cases h
  | succ d ih =>
    intro a b h
    cases a with
    | bool x => cases b with
      | bool y => exact congrArg Value.bool (beqT_eq h)
      | _ => cases h
    | int j x => cases b with
      | int k y =>
        have h' : (kindEq j k && eqF x y) = true := h
        rw [Bool.and_eq_true] at h'
        rw [kindEq_eq h'.1, eqF_one h'.2]
      | _ => cases h
    | string x => cases b with
      | string y => exact congrArg Value.string (beqS_eq h)
      | _ => cases h
    | pointer x => cases b with
      | pointer y => exact congrArg Value.pointer (beqA_eq h)
      | _ => cases h
    | slice x l c => cases b with
      | slice y m e =>
        have h' : (beqA x y && Nat.beq l m && Nat.beq c e) = true := h
        rw [Bool.and_eq_true, Bool.and_eq_true] at h'
        rw [beqA_eq h'.1.1, Nat.eq_of_beq_eq_true h'.1.2, Nat.eq_of_beq_eq_true h'.2]
      | _ => cases h
    | nilFunc => cases b with
      | nilFunc => rfl
      | _ => cases h
    | nilIface => cases b with
      | nilIface => rfl
      | _ => cases h
    | iface t x => cases b with
      | iface u y =>
        have h' : (Nat.beq t u && beqV d x y) = true := h
        rw [Bool.and_eq_true] at h'
        rw [Nat.eq_of_beq_eq_true h'.1, ih _ _ h'.2]
      | _ => cases h
    | agg xs => cases b with
      | agg ys => exact congrArg Value.agg (Array.ext' (beqL_eq (fun x y => ih x y) h))
      | _ => cases h
    | tuple xs => cases b with
      | tuple ys => exact congrArg Value.tuple (Array.ext' (beqL_eq (fun x y => ih x y) h))
      | _ => cases h
    | float k n => cases h
    | complex k a b => cases h
    | map r => cases h
    | chan r => cases h
    | func f a b => cases h
theorem beqB_eq {a b : AB} (h : beqB a b = true) : a = b := by
  cases a with
  | cells g e l => cases b with
    | cells g' e' m =>
      have h' : (beqT g g' && Nat.beq e e' && beqL (beqV 8) l m) = true := h
      rw [Bool.and_eq_true, Bool.and_eq_true] at h'
      rw [beqT_eq h'.1.1, Nat.eq_of_beq_eq_true h'.1.2, beqL_eq (fun x y => beqV_eq 8 x y) h'.2]
    | _ => cases h
  | _ => cases h
theorem beqP_eq (p q : Nat × AB) (h : beqP p q = true) : p = q := by
  obtain ⟨n, a⟩ := p
  obtain ⟨m, b⟩ := q
  have h' : (Nat.beq n m && beqB a b) = true := h
  rw [Bool.and_eq_true] at h'
  rw [Nat.eq_of_beq_eq_true h'.1, beqB_eq h'.2]
end Ev
end
section
namespace Ev
open Go Go.RowKit

theorem addXs_spec {f : HP → RX} {r : Ex × St} : ∀ (ds : List (List (Nat × AB))) (H : HP), (List.rec (motive := fun _ => HP → RX) f (fun d _ ih H => addX d H ih) ds H) = .ok r → ∃ H', f H' = .ok r ∧ ∀ n b, H'.get n = some b → (∃ d ∈ ds, (n, b) ∈ d) ∨ H.get n = some b
  | [], H, h => ⟨H, h, fun n b h => .inr h⟩
  | d :: ds, H, h => by
    have h' : addX d H (fun H => List.rec (motive := fun _ => HP → RX) f (fun d _ ih H => addX d H ih) ds H) = .ok r := h
    obtain ⟨H1, h1, h2⟩ := addX_spec d H _ r h'
    obtain ⟨H2, h3, h4⟩ := addXs_spec ds H1 h1
    refine ⟨H2, h3, fun n b hn => ?_⟩
    rcases h4 n b hn with ⟨d', g1, g2⟩ | g
    · exact .inl ⟨d', List.mem_cons_of_mem _ g1, g2⟩
    · rcases h2 n b g with k | k
      · exact .inl ⟨d, List.mem_cons_self, k⟩
      · exact .inr k
theorem Grew.none {P : Program} {ρ : Env} {N N' : Nat} {w : World} (hF : Free ρ N N') : Grew P ρ ρ N N' [] w w :=
  ⟨.refl ρ, fun _ _ => rfl, .refl _ _, fun n p h1 h2 h3 => by rw [hF n h1 h2] at h3; (cases h3), fun p h => by simp at h, fun p h => by simp at h, fun p h => by simp at h⟩
theorem Wrote.drew {P : Program} {ρ0 ρ : Env} {N0 N lo : Nat} {H : HP} {w0 w : World} (A : Wrote P ρ0 ρ N0 N lo H w0 w) : Wrote P ρ0 ρ N0 N lo H w0 { w with drawn := w.drawn + 1 } :=
  ⟨A.ext, A.same, ⟨A.sat.blk, A.sat.inj, A.sat.lt⟩, A.os, A.tape, A.output, A.size, A.keep, A.new, A.named⟩


theorem nilTR (ρ : Env) (tmps : Array Value) : TR ρ .nil tmps := fun i u h => by rw [PT.get_nil] at h; cases h
/-- What is known while some of the head, not waited for, has not come up. -/
structure MI (P : Program) (ops : Array Oper) (n : Nat) (ρ0 : Env) (N0 : Nat) (w0 : World) (T : PT Value) (H : HP) (N lo : Nat) (D : List DE) (ls : Array Bool) (a : Act) (w : World) (ρ : Env) : Prop where
  inv : Inv P ρ0 N0 w0 .nil H N lo D a w ρ
  tr : ∀ t u, T.get t = some u → (∀ j o, j < n → ls.getD j true = false → ops[j]? = some o → o.dst ≠ some t) → ∃ v, a.tmps[t]? = some v ∧ VR ρ u v
  room : ∀ j o t, j < n → ls.getD j true = false → ops[j]? = some o → o.dst = some t → t < a.tmps.size
  closed : Closed ops ls
  size : ls.size = ops.size
theorem put_size (a : Act) (d : Option Tmp) (v : Value) : (a.put d v).tmps.size = a.tmps.size := by
  cases d with
  | none => rfl
  | some d => simp [Act.put]
theorem put_at (a : Act) {d : Tmp} (v : Value) (h : d < a.tmps.size) : (a.put (some d) v).tmps[d]? = some v := by simp [Act.put, h]
theorem put_ne (a : Act) {d : Option Tmp} (v : Value) {t : Tmp} (h : d ≠ some t) : (a.put d v).tmps[t]? = a.tmps[t]? := by
  cases d with
  | none => rfl
  | some d =>
    have hne : d ≠ t := fun e => h (by rw [e])
    simp only [Act.put]
    rw [Array.getElem?_setIfInBounds_ne hne]
theorem unset {ls : Array Bool} {i j : Nat} (hi : i < ls.size) (h : (ls.setIfInBounds i true).getD j true = false) : j ≠ i ∧ ls.getD j true = false := by
  by_cases e : i = j
  · subst e; simp [Array.getD_eq_getD_getElem?, hi] at h
  · rw [getD_set_ne true e] at h; exact ⟨fun h => e h.symm, h⟩

section
variable {P : Program} {G : Nat} {call : CallT} {yld : YldT} {ops : Array Oper} {n : Nat} {ρ0 : Env} {N0 : Nat} {w0 : World} {T : PT Value} {H : HP} {N lo : Nat} {D : List DE}
theorem chkF_inv : ∀ {fl : List Nat}, chkF P G call yld ops T H N fl = true → ∀ j ∈ fl, ∃ o d u, ops[j]? = some o ∧ o.dst = some d ∧ aop P G call yld o T H N = .ok (.v u [] N) ∧ T.get d = some u
  | [], _, j, hj => by simp at hj
  | i :: fl, h, j, hj => by
    have h' : ((match nth ops.toList i with
      | some o => (match o.dst with
        | some d => (match aop P G call yld o T H N with
          | .ok (.v u [] N') => Nat.beq N' N && (match T.get d with | some u' => beqV 6 u u' | none => false)
          | _ => false)
        | none => false)
      | none => false) && chkF P G call yld ops T H N fl) = true := h
    rw [Bool.and_eq_true] at h'
    rcases List.mem_cons.1 hj with rfl | hj
    · have h1 := h'.1
      rw [nth_eq, Array.getElem?_toList] at h1
      split at h1
      · rename_i o ho
        split at h1
        · rename_i d hd
          split at h1
          · rename_i u N' hop
            rw [Bool.and_eq_true] at h1
            have hN := Nat.eq_of_beq_eq_true h1.1
            subst hN
            split at h1
            · rename_i u' hu
              have := beqV_eq 6 _ _ h1.2
              subst this
              exact ⟨o, d, u, ho, hd, hop, hu⟩
            · exact absurd h1.2 (by simp)
          · cases h1
        · cases h1
      · cases h1
    · exact chkF_inv h'.2 j hj
/-- What is not waited for comes up. -/
theorem MI.float (hc : CallOk P G call) (hy : YldOk P G yld) (hG : Glob G ρ0) {ls : Array Bool} {a : Act} {w : World} {ρ : Env} (I : MI P ops n ρ0 N0 w0 T H N lo D ls a w ρ) {i : Nat} (hi : i < n) (_ : n ≤ ops.size) (hr : i ∈ Region.ready .any ops ls)
    {o on : Oper} {d : Tmp} {u : Value} (ho : ops[i]? = some o) (hd : o.dst = some d) (hop : aop P G call yld o T H N = .ok (.v u [] N)) (hu : T.get d = some u) (hfb : floatB ops n on o = true) (ro : Option Nat) (m : Nat) (Q : Exit → Act → World → Prop) (K : Act → World → Prop)
    (hK : ∀ a' w' ρ', MI P ops n ρ0 N0 w0 T H N lo D (ls.setIfInBounds i true) a' w' ρ' → K a' w') : wpOpIn (fe ro) m P ops Q i K a w := by
  have hun : ls.getD i true = false := (mem_ready.1 hr).1
  have hlt : i < ls.size := getD_size' hun
  unfold floatB at hfb
  simp only [Bool.and_eq_true] at hfb
  obtain ⟨⟨hg, _⟩, hlook⟩ := hfb
  have hguard : o.guard = none := by simpa using hg
  have hw : Region.wanted o (yielded ops a.tmps) = true := by simp [Region.wanted, hguard]
  have hT : ∀ t, Operand.tmp t ∈ o.op.operands → ∀ u, T.get t = some u → ∃ v, a.tmps[t]? = some v ∧ VR ρ u v := fun t ht u hu => I.tr t u hu fun j oj hj hunj hoj hdj => by
    have h1 := List.all_eq_true.1 hlook t (by
      unfold Oper.looksAt
      exact List.mem_append_left _ (List.mem_filterMap.2 ⟨.tmp t, by simpa using ht, rfl⟩))
    have h2 := List.all_eq_true.1 h1 (oj, j) (by
      rw [List.mem_zipIdx_iff_getElem?, List.getElem?_take_of_lt hj, Array.getElem?_toList]; exact hoj)
    simp only [Bool.or_eq_true, bne_iff_ne, ne_eq] at h2
    rcases h2 with h2 | h2
    · exact h2 hdj
    · have h3 := waits_ready hr ho h2
      rw [getD_both hunj] at h3
      cases h3
  have hok := aop_looks hc hy I.inv.wr.sat hT (hG.mono I.inv.wr.ext) I.inv.wr.named hop
  unfold wpOpIn
  rw [ho]
  simp only [hw, if_true]
  refine hok.2 I.inv.dom ro m K Q fun v w' ρ' hgr hv => hK _ w' ρ' ⟨I.inv.grew hgr (fun k h1 h2 => by omega) (Nat.le_refl _) (fun k b hk => .inr hk) (nilTR _ _) (put_defers _ _ _), fun t u' ht hh => ?_, fun j oj t hj hunj hoj hdj => ?_, I.closed.set hr, by simp [I.size]⟩
  · by_cases e : d = t
    · subst e
      rw [hu] at ht
      cases ht
      exact ⟨v, by rw [hd]; exact put_at a v (I.room i o d hi hun ho hd), hv⟩
    · obtain ⟨v0, h1, h2⟩ := I.tr t u' ht fun j oj hj hunj hoj hdj => by
        by_cases ej : i = j
        · subst ej; rw [ho] at hoj; cases hoj; rw [hd] at hdj; cases hdj; exact e rfl
        · exact hh j oj hj (by rw [getD_set_ne true ej]; exact hunj) hoj hdj
      exact ⟨v0, by rw [put_ne a v (by rw [hd]; exact fun h => e (Option.some.inj h))]; exact h1, h2.mono hgr.ext⟩
  · rw [put_size]
    exact I.room j oj t hj (unset hlt hunj).2 hoj hdj

theorem one_inv {o : Oper} {R : OpsC} {r : Ex × St} (h : (oneF P G o R).run call yld T H N lo D = .ok r) :
    ∃ out, aop P G call yld o T H N = .ok out ∧ (match out with
      | .v u d N2 => N ≤ N2 ∧ ∃ T2 H2, R.run call yld T2 H2 N2 lo D = .ok r ∧ PutOk o.dst T u T2 ∧ ∀ n b, H2.get n = some b → (n, b) ∈ d ∨ H.get n = some b
      | .w u H2 N2 lo2 => N ≤ N2 ∧ ∃ T2, R.run call yld T2 H2 N2 (min lo lo2) D = .ok r ∧ PutOk o.dst T u T2) := by
  have hop := opF_ok P G o
  unfold oneF at h
  cases ho : opF P G o with
  | pure f =>
    rw [ho] at hop h
    have h' : f T (fun u => (putF (β := Ex × St) o.dst).run T u (fun T => R.run call yld T H N lo D)) = .ok r := h
    obtain ⟨u, h1, h2⟩ := hop call yld H T _ r h'
    obtain ⟨T2, h3, h4⟩ := put_ok h2
    exact ⟨_, h1 N, Nat.le_refl _, T2, H, h3, h4, fun n b hn => .inr hn⟩
  | gen f =>
    rw [ho] at hop h
    have h' : Rs.rec (motive := fun _ => RX) (fun e => .bad e) (fun out => Out.rec (motive := fun _ => RX)
      (fun u d N' => Bool.rec (motive := fun _ => RX) (.bad 219) ((putF (β := Ex × St) o.dst).run T u (fun T => addX d H (fun H => R.run call yld T H N' lo D))) (Nat.ble N N'))
      (fun u H N' lo' => Bool.rec (motive := fun _ => RX) (.bad 219) ((putF (β := Ex × St) o.dst).run T u (fun T => rawN (Bool.rec (motive := fun _ => Nat) lo' lo (Nat.ble lo lo')) (fun lo => R.run call yld T H N' lo D))) (Nat.ble N N')) out) (f call yld T H N) = .ok r := h
    cases hf : f call yld T H N with
    | bad e => rw [hf] at h'; cases h'
    | ok out =>
      rw [hf] at h'
      refine ⟨out, hop call yld T H N out hf, ?_⟩
      cases out with
      | v u d N2 =>
        have h2 : Bool.rec (motive := fun _ => RX) (.bad 219) ((putF (β := Ex × St) o.dst).run T u (fun T => addX d H (fun H => R.run call yld T H N2 lo D))) (Nat.ble N N2) = .ok r := h'
        cases hb : Nat.ble N N2 with
        | false => rw [hb] at h2; cases h2
        | true =>
          rw [hb] at h2
          obtain ⟨T2, h3, h4⟩ := put_ok h2
          obtain ⟨H2, h5, h6⟩ := addX_spec _ _ _ _ h3
          exact ⟨Nat.le_of_ble_eq_true hb, T2, H2, h5, h4, h6⟩
      | w u H2 N2 lo2 =>
        have h2 : Bool.rec (motive := fun _ => RX) (.bad 219) ((putF (β := Ex × St) o.dst).run T u (fun T => rawN (Bool.rec (motive := fun _ => Nat) lo2 lo (Nat.ble lo lo2)) (fun lo => R.run call yld T H2 N2 lo D))) (Nat.ble N N2) = .ok r := h'
        cases hb : Nat.ble N N2 with
        | false => rw [hb] at h2; cases h2
        | true =>
          rw [hb] at h2
          obtain ⟨T2, h3, h4⟩ := put_ok h2
          rw [rawN_eq] at h3
          have : Bool.rec (motive := fun _ => Nat) lo2 lo (Nat.ble lo lo2) = min lo lo2 := by
            have hm := min_cond lo lo2
            revert hm
            cases Nat.ble lo lo2 <;> exact id
          rw [this] at h3
          exact ⟨Nat.le_of_ble_eq_true hb, T2, h3, h4⟩
/-- The first writer comes up. -/
theorem MI.step (hc : CallOk P G call) (hy : YldOk P G yld) (hG : Glob G ρ0) {ls : Array Bool} {a : Act} {w : World} {ρ : Env} (I : MI P ops n ρ0 N0 w0 T H N lo D ls a w ρ) (hr : n ∈ Region.ready .any ops ls)
    {on : Oper} (hon : ops[n]? = some on) (hgd : on.guard = none) (hlook : ∀ t, t ∈ on.looksAt ops → ∀ j o, j < n → ls.getD j true = false → ops[j]? = some o → o.dst ≠ some t) (_ : ∀ d, on.dst = some d → ∀ j o, j < n → ls.getD j true = false → ops[j]? = some o → o.dst ≠ some d)
    {T1 : PT Value} {H1 : HP} {N1 lo1 : Nat} {D1 : List DE} {x : Ex} (hrun : (opsF P G ops [on]).run call yld T H N lo D = .ok (x, ⟨T1, H1, N1, lo1, D1⟩)) {Nend : Nat} (hF : Free ρ0 N0 Nend) (hend : N1 ≤ Nend) (ro : Option Nat) (m : Nat) (Q : Exit → Act → World → Prop) (K : Act → World → Prop)
    (hK : ∀ a' w' ρ', MI P ops n ρ0 N0 w0 T1 H1 N1 lo1 D1 (ls.setIfInBounds n true) a' w' ρ' → K a' w') : wpOpIn (fe ro) m P ops Q n K a w := by
  have hun : ls.getD n true = false := (mem_ready.1 hr).1
  have hlt : n < ls.size := getD_size' hun
  have hw : Region.wanted on (yielded ops a.tmps) = true := by simp [Region.wanted, hgd]
  have hT : ∀ t, Operand.tmp t ∈ on.op.operands → ∀ u, T.get t = some u → ∃ v, a.tmps[t]? = some v ∧ VR ρ u v := fun t ht u hu => I.tr t u hu (hlook t (by
    unfold Oper.looksAt
    exact List.mem_append_left _ (List.mem_filterMap.2 ⟨.tmp t, by simpa using ht, rfl⟩)))
  have h' : (oneF P G on (opsF P G ops [])).run call yld T H N lo D = .ok (x, ⟨T1, H1, N1, lo1, D1⟩) := by
    have e : opsF P G ops [on] = oneF P G on (opsF P G ops []) := by
      show Option.rec (motive := fun _ => OpsC) (oneF P G on (opsF P G ops [])) _ on.guard = _
      rw [hgd]
    rw [e] at hrun; exact hrun
  obtain ⟨out, hop, hrest⟩ := one_inv h'
  have hok := aop_looks hc hy I.inv.wr.sat hT (hG.mono I.inv.wr.ext) I.inv.wr.named hop
  -- the table behind it
  have hTab : ∀ {u : Value} {T2 : PT Value} {v : Value} {ρ' : Env}, PutOk on.dst T u T2 → VR ρ' u v → Ext ρ ρ' → ∀ t u', T2.get t = some u' → (∀ j o, j < n → (ls.setIfInBounds n true).getD j true = false → ops[j]? = some o → o.dst ≠ some t) → ∃ v', (a.put on.dst v).tmps[t]? = some v' ∧ VR ρ' u' v' := fun {u T2 v ρ'} hp hv hE t u' ht hh => by
    have old : ∀ u', T.get t = some u' → ∃ v, a.tmps[t]? = some v ∧ VR ρ u' v := fun u' hu' => I.tr t u' hu' fun j o hj hunj hoj => hh j o hj (by rw [getD_set_ne true (by omega)]; exact hunj) hoj
    rcases hp with ⟨k1, k2⟩ | ⟨d, y, k1, k2, k3⟩
    · subst k2
      obtain ⟨v0, e1, e2⟩ := old u' ht
      exact ⟨v0, by rw [k1]; exact e1, e2.mono hE⟩
    · rw [k3] at ht
      by_cases e : t = d
      · subst e
        rw [if_pos rfl] at ht
        cases ht
        obtain ⟨v0, e1, _⟩ := old y k2
        exact ⟨v, by rw [k1]; exact put_at a v (Array.getElem?_eq_some_iff.1 e1).1, hv⟩
      · rw [if_neg e] at ht
        obtain ⟨v0, e1, e2⟩ := old u' ht
        exact ⟨v0, by rw [put_ne a v (by rw [k1]; exact fun h => e (Option.some.inj h).symm)]; exact e1, e2.mono hE⟩
  have hroom : ∀ (v : Value) j o t, j < n → (ls.setIfInBounds n true).getD j true = false → ops[j]? = some o → o.dst = some t → t < (a.put on.dst v).tmps.size := fun v j o t hj hunj hoj hdj => by
    rw [put_size]
    exact I.room j o t hj (unset hlt hunj).2 hoj hdj
  unfold wpOpIn
  rw [hon]
  simp only [hw, if_true]
  cases out with
  | v u d N2 =>
    obtain ⟨hle, T2, H2, hfin, hput, hH2⟩ := hrest
    have hf : Rs.ok (Ex.normal, (⟨T2, H2, N2, lo, D⟩ : St)) = .ok (x, ⟨T1, H1, N1, lo1, D1⟩) := hfin
    cases hf
    exact hok.2 I.inv.dom ro m K Q fun v w' ρ' hgr hv => hK _ w' ρ' ⟨I.inv.grew hgr (I.inv.free hF hend) hle hH2 (nilTR _ _) (put_defers _ _ _), hTab hput hv hgr.ext, hroom v, I.closed.set hr, by simp [I.size]⟩
  | w u H2 N2 lo2 =>
    obtain ⟨hle, T2, hfin, hput⟩ := hrest
    have hf : Rs.ok (Ex.normal, (⟨T2, H2, N2, min lo lo2, D⟩ : St)) = .ok (x, ⟨T1, H1, N1, lo1, D1⟩) := hfin
    cases hf
    exact hok.2 I.inv.dom ro m K Q fun v w' ρ' hgr hv => hK _ w' ρ' ⟨I.inv.wrote hgr hle (nilTR _ _) (put_defers _ _ _), hTab hput hv hgr.ext, hroom v, I.closed.set hr, by simp [I.size]⟩
end
end Ev
end
section
namespace Ev
open Go Go.RowKit

theorem mem_floats {ops : Array Oper} {n j : Nat} : j ∈ floats ops n ↔ j < n ∧ ancB ops n j = false := by
  unfold floats
  rw [List.mem_filter, List.mem_range]
  simp
section
variable {P : Program} {G : Nat} {call : CallT} {yld : YldT} {ops : Array Oper} {n : Nat} {ρ0 : Env} {N0 : Nat} {w0 : World} {on : Oper}
variable {T : PT Value} {H : HP} {N lo : Nat} {D : List DE} {T1 : PT Value} {H1 : HP} {N1 lo1 : Nat} {D1 : List DE}
/-- The form of such a region, in words. -/
structure FForm (ops : Array Oper) (n : Nat) (on : Oper) : Prop where
  at_ : ops[n]? = some on
  guard : on.guard = none
  flo : ∀ j, j ∈ floats ops n → ∃ oj, ops[j]? = some oj ∧ floatB ops n on oj = true
  edges : edges1B (ops.toList.take (n + 1)) 0 = true
  anc : ∀ k, n < k → k < ops.size → ∀ j, j ≤ n → ancB ops k j = true
  seq : seq1B ops (ops.size - (n + 1)) (n + 1) (endA ops.size (n + 1)) = true
theorem FForm.of {ops : Array Oper} {n : Nat} (h : okF ops n = true) : ∃ on, FForm ops n on := by
  unfold okF at h
  simp only [Bool.and_eq_true] at h
  obtain ⟨⟨⟨h1, h2⟩, h3⟩, h4⟩ := h
  split at h4
  · rename_i on hon
    simp only [Bool.and_eq_true] at h4
    refine ⟨on, hon, by simpa using h4.1, fun j hj => ?_, h3, fun k hk hks j hj => ?_, h2⟩
    · have h5 := List.all_eq_true.1 h4.2 j hj
      split at h5
      · rename_i oj hoj; exact ⟨oj, hoj, h5⟩
      · cases h5
    · have h5 := List.all_eq_true.1 h1 k (by rw [List.mem_range']; exact ⟨k - (n + 1), by omega, by omega⟩)
      exact List.all_eq_true.1 h5 j (List.mem_range.2 (by omega))
  · cases h4
theorem FForm.lt (F : FForm ops n on) : n < ops.size := (Array.getElem?_eq_some_iff.1 F.at_).1
/-- The first that has not come up is ready. -/
theorem FForm.first (F : FForm ops n on) {ls : Array Bool} (hsz : ls.size = ops.size) {j : Nat} (hj : j ≤ n) (hun : ls.getD j true = false) (hbef : ∀ k, k < j → ls.getD k true = true) : j ∈ Region.ready .any ops ls := by
  have hjo : j < ops.size := Nat.lt_of_le_of_lt hj F.lt
  refine mem_ready.2 ⟨hun, ops[j], Array.getElem?_eq_getElem hjo, fun e he hb => ?_⟩
  have h1 := edges1_spec _ 0 j ops[j] e F.edges (by
    rw [List.getElem?_take_of_lt (by omega), Array.getElem?_toList]; exact Array.getElem?_eq_getElem hjo) he hb
  exact getD_true (by omega) (hbef e.on (by omega))
theorem FForm.no_late (F : FForm ops n on) {ls : Array Bool} (hcl : Closed ops ls) {i j : Nat} (hr : i ∈ Region.ready .any ops ls) (hj : j ≤ n) (hun : ls.getD j true = false) : i ≤ n := by
  rcases Nat.lt_or_ge n i with h | h
  · obtain ⟨_, o, ho, _⟩ := mem_ready.1 hr
    have := ready_anc hcl hr (F.anc i h (Array.getElem?_eq_some_iff.1 ho).1 j hj)
    rw [getD_both hun] at this
    cases this
  · exact h
/-- Behind the first writer. -/
theorem stage2 (F : FForm ops n on) (hc : CallOk P G call) (hy : YldOk P G yld) (hG : Glob G ρ0) (hchk : chkF P G call yld ops T1 H1 N1 (floats ops n) = true) (ro : Option Nat) (m : Nat) (Q : Exit → Act → World → Prop)
    (hend : ∀ a w ρ, Inv P ρ0 N0 w0 T1 H1 N1 lo1 D1 a w ρ → wpOpsIn (fe ro) m P ops Q (List.range' (n + 1) (ops.size - (n + 1))) a w) :
    ∀ k fuel ls a w ρ, MI P ops n ρ0 N0 w0 T1 H1 N1 lo1 D1 ls a w ρ → ls.getD n true = true → (∀ i, n < i → i < ops.size → ls.getD i true = false) → (∀ j, j < n → ls.getD j true = false → ancB ops n j = false) → openC ls n = k → fuel = ops.size - (n + 1) + k → wpAnyIn (fe ro) m P .any ops Q fuel ls a w
  | 0, fuel, ls, a, w, ρ, I, hn, htl, hfl, hk, hfu => by
    have hall := openC_zero _ hk
    obtain rfl : ls = endA ops.size (n + 1) := endA_eq I.size (fun j hj => by
      by_cases e : j = n
      · rw [e]; exact hn
      · exact hall j (by omega)) (fun t h1 h2 => htl t (by omega) h2)
    rw [hfu, Nat.add_zero]
    exact tail_any _ _ _ a w F.seq (hend a w ρ ⟨I.inv.wr, fun t u h => I.tr t u h (fun j o hj hun => by rw [hall j hj] at hun; cases hun), I.inv.le, I.inv.dd, I.inv.dom⟩)
  | k + 1, fuel, ls, a, w, ρ, I, hn, htl, hfl, hk, hfu => by
    obtain ⟨f, rfl⟩ : ∃ f, fuel = f + 1 := ⟨ops.size - (n + 1) + k, by omega⟩
    obtain ⟨j, hj, hun, hbef⟩ := openC_first n (by omega : openC ls n ≠ 0)
    have hjr := F.first I.size (by omega) hun hbef
    refine ⟨fun h0 => (by rw [h0] at hjr; cases hjr), fun i hi => ?_⟩
    have hui : ls.getD i true = false := (mem_ready.1 hi).1
    have hin : i < n := by
      have h1 := F.no_late I.closed hi (show j ≤ n by omega) hun
      rcases Nat.lt_or_ge i n with h | h
      · exact h
      · obtain rfl : i = n := by omega
        rw [hn] at hui; cases hui
    have hif := mem_floats.2 ⟨hin, hfl i hin hui⟩
    obtain ⟨o, d, u, c1, c2, c3, c4⟩ := chkF_inv hchk i hif
    obtain ⟨oj, d1, d2⟩ := F.flo i hif
    rw [c1] at d1
    cases d1
    refine I.float hc hy hG hin (Nat.le_of_lt F.lt) hi c1 c2 c3 c4 d2 ro m Q _ (fun a' w' ρ' I' => ?_)
    have ho := openC_set hui (getD_size' hui) n hin
    exact stage2 F hc hy hG hchk ro m Q hend k f _ a' w' ρ' I' (by rw [getD_set_ne true (by omega)]; exact hn) (fun t h1 h2 => by rw [getD_set_ne true (by omega)]; exact htl t h1 h2)
      (fun t h1 h2 => hfl t h1 (unset (getD_size' hui) h2).2) (by omega) (by omega)
/-- Ahead of the first writer, all being there for which it waits. -/
theorem stage1 (F : FForm ops n on) (hc : CallOk P G call) (hy : YldOk P G yld) (hG : Glob G ρ0) (hchk0 : chkF P G call yld ops T H N (floats ops n) = true) (hchk : chkF P G call yld ops T1 H1 N1 (floats ops n) = true)
    {x : Ex} (hrun : (opsF P G ops [on]).run call yld T H N lo D = .ok (x, ⟨T1, H1, N1, lo1, D1⟩)) {Nend : Nat} (hF : Free ρ0 N0 Nend) (hNend : N1 ≤ Nend) (ro : Option Nat) (m : Nat) (Q : Exit → Act → World → Prop)
    (hend : ∀ a w ρ, Inv P ρ0 N0 w0 T1 H1 N1 lo1 D1 a w ρ → wpOpsIn (fe ro) m P ops Q (List.range' (n + 1) (ops.size - (n + 1))) a w) :
    ∀ k fuel ls a w ρ, MI P ops n ρ0 N0 w0 T H N lo D ls a w ρ → (∀ i, n ≤ i → i < ops.size → ls.getD i true = false) → (∀ j, j < n → ls.getD j true = false → ancB ops n j = false) → openC ls n = k → fuel = ops.size - n + k → wpAnyIn (fe ro) m P .any ops Q fuel ls a w := by
  intro k
  induction k with
  | zero =>
    intro fuel ls a w ρ I htl hfl hk hfu
    have hlt := F.lt
    obtain ⟨f, rfl⟩ : ∃ f, fuel = f + 1 := ⟨ops.size - (n + 1), by omega⟩
    have hall := openC_zero _ hk
    have hnr := F.first I.size (Nat.le_refl n) (htl n (Nat.le_refl _) hlt) hall
    refine ⟨fun h0 => (by rw [h0] at hnr; cases hnr), fun i hi => ?_⟩
    have hui : ls.getD i true = false := (mem_ready.1 hi).1
    have h1 := F.no_late I.closed hi (Nat.le_refl n) (htl n (Nat.le_refl _) hlt)
    obtain rfl : i = n := by
      rcases Nat.lt_or_ge i n with h | h
      · rw [hall i h] at hui; cases hui
      · omega
    refine I.step hc hy hG hi F.at_ F.guard (fun t _ j o hj hun => by rw [hall j hj] at hun; cases hun) (fun d _ j o hj hun => by rw [hall j hj] at hun; cases hun) hrun hF hNend ro m Q _ (fun a' w' ρ' I' => ?_)
    exact stage2 F hc hy hG hchk ro m Q hend 0 f _ a' w' ρ' I' (by simp [Array.getD_eq_getD_getElem?, getD_size' hui]) (fun t h1 h2 => by rw [getD_set_ne true (by omega)]; exact htl t (by omega) h2)
      (fun t h1 h2 => hfl t h1 (unset (getD_size' hui) h2).2) (by rw [openC_same _ (Nat.le_refl _)]; exact hk) (by omega)
  | succ k ih =>
    intro fuel ls a w ρ I htl hfl hk hfu
    have hlt := F.lt
    obtain ⟨f, rfl⟩ : ∃ f, fuel = f + 1 := ⟨ops.size - n + k, by omega⟩
    obtain ⟨j, hj, hun, hbef⟩ := openC_first n (by omega : openC ls n ≠ 0)
    have hjr := F.first I.size (by omega) hun hbef
    refine ⟨fun h0 => (by rw [h0] at hjr; cases hjr), fun i hi => ?_⟩
    have hui : ls.getD i true = false := (mem_ready.1 hi).1
    have h1 := F.no_late I.closed hi (Nat.le_refl n) (htl n (Nat.le_refl _) hlt)
    rcases Nat.lt_or_ge i n with hin | hin
    · have hif := mem_floats.2 ⟨hin, hfl i hin hui⟩
      obtain ⟨o, d, u, c1, c2, c3, c4⟩ := chkF_inv hchk0 i hif
      obtain ⟨oj, d1, d2⟩ := F.flo i hif
      rw [c1] at d1
      cases d1
      refine I.float hc hy hG hin (Nat.le_of_lt hlt) hi c1 c2 c3 c4 d2 ro m Q _ (fun a' w' ρ' I' => ?_)
      have ho := openC_set hui (getD_size' hui) n hin
      exact ih f _ a' w' ρ' I' (fun t h1 h2 => by rw [getD_set_ne true (by omega)]; exact htl t h1 h2) (fun t h1 h2 => hfl t h1 (unset (getD_size' hui) h2).2) (by omega) (by omega)
    · obtain rfl : i = n := by omega
      have flo : ∀ j o, j < i → ls.getD j true = false → ops[j]? = some o → floatB ops i on o = true := fun j o hj hun hoj => by
        obtain ⟨oj, d1, d2⟩ := F.flo j (mem_floats.2 ⟨hj, hfl j hj hun⟩)
        rw [hoj] at d1
        cases d1
        exact d2
      refine I.step hc hy hG hi F.at_ F.guard (fun t ht j o hj hun hoj hd => ?_) (fun d hd j o hj hun hoj hd2 => ?_) hrun hF hNend ro m Q _ (fun a' w' ρ' I' => ?_)
      · have h2 := flo j o hj hun hoj
        unfold floatB at h2
        rw [hd] at h2
        simp only [Bool.and_eq_true, Bool.not_eq_true', List.contains_eq_mem, decide_eq_false_iff_not] at h2
        exact h2.1.2.1 ht
      · have h2 := flo j o hj hun hoj
        unfold floatB at h2
        rw [hd2, hd] at h2
        simp at h2
      · exact stage2 F hc hy hG hchk ro m Q hend (k + 1) f _ a' w' ρ' I' (by simp [Array.getD_eq_getD_getElem?, getD_size' hui]) (fun t h1 h2 => by rw [getD_set_ne true (by omega)]; exact htl t (by omega) h2)
          (fun t h1 h2 => hfl t h1 (unset (getD_size' hui) h2).2) (by rw [openC_same _ (Nat.le_refl _)]; exact hk) (by omega)
end

section
variable {P : Program} {G : Nat} {call : CallT} {yld : YldT} {ops : Array Oper} {on : Oper} {Hb : HP} {Tb Tf : PT Value} {Nb Nf : Nat} {rs : List HRec} {ρb : Env} {wb : World} {ab : Act} {ρ0 : Env} {N0 : Nat} {w0 : World} {lo : Nat} {D : List DE} {H' : HP}
variable {T1 : PT Value} {H1 : HP} {N1 lo1 : Nat} {D1 : List DE}
/-- The head, in whatever order; what its first writer doesn't wait for may come later. -/
theorem stage0 (F : FForm ops rs.length on) (hc : CallOk P G call) (hy : YldOk P G yld) (hG0 : Glob G ρ0) (IB : Inv P ρ0 N0 w0 Tb Hb Nb lo D ab wb ρb) (hF : Free ρb Nb Nf)
    (hch : Chain P G call yld ops Hb Tb Nb [] rs Tf Nf) (hrs : rs.map (·.o) = ops.toList.take rs.length) (hm : rs.map (·.m) = (ancs ops.toList).take rs.length) (hD : dsts1B (ops.toList.take rs.length) = true) (hE : edges1B (ops.toList.take rs.length) 0 = true) (hL : looksB ops (ops.toList.take rs.length) = true)
    (hnone : ∀ j r, rs[j]? = some r → ancB ops rs.length j = false → r.d = []) (hH' : ∀ n b, H'.get n = some b → (∃ d ∈ rs.map (·.d), (n, b) ∈ d) ∨ Hb.get n = some b)
    (hchk0 : chkF P G call yld ops Tf H' Nf (floats ops rs.length) = true) (hchk : chkF P G call yld ops T1 H1 N1 (floats ops rs.length) = true)
    {x : Ex} (hrun : (opsF P G ops [on]).run call yld Tf H' Nf lo D = .ok (x, ⟨T1, H1, N1, lo1, D1⟩)) {Nend : Nat} (hF0 : Free ρ0 N0 Nend) (hNend : N1 ≤ Nend) (ro : Option Nat) (m : Nat) (Q : Exit → Act → World → Prop)
    (hend : ∀ a w ρ, Inv P ρ0 N0 w0 T1 H1 N1 lo1 D1 a w ρ → wpOpsIn (fe ro) m P ops Q (List.range' (rs.length + 1) (ops.size - (rs.length + 1))) a w) :
    ∀ k fuel ls a w ρ D', HInv P ops rs ρb Nb Nf ab wb ls a w ρ D' → openC ls rs.length = k → fuel = ops.size - rs.length + k → wpAnyIn (fe ro) m P .any ops Q fuel ls a w := by
  have hlt := F.lt
  have hrec : ∀ j, j < rs.length → ∃ r, rs[j]? = some r := fun j hj => ⟨_, List.getElem?_eq_getElem hj⟩
  have hopr : ∀ (j : Nat) (r : HRec), rs[j]? = some r → ops[j]? = some r.o ∧ (ops.toList.take rs.length)[j]? = some r.o := fun j r hr => by
    have hj : j < rs.length := (List.getElem?_eq_some_iff.1 hr).1
    have e1 : (rs.map (·.o))[j]? = some r.o := by rw [List.getElem?_map, hr]; rfl
    rw [hrs] at e1
    refine ⟨?_, e1⟩
    rw [List.getElem?_take_of_lt hj, Array.getElem?_toList] at e1; exact e1
  intro k
  induction k with
  | zero =>
    intro fuel ls a w ρ D' I hk hfu
    have hall := openC_zero _ hk
    exact go I (fun j hj hun => by rw [hall j hj] at hun; cases hun) hk hfu
  | succ k ih =>
    intro fuel ls a w ρ D' I hk hfu
    by_cases hs : ∃ j, j < rs.length ∧ ls.getD j true = false ∧ ancB ops rs.length j = true
    · obtain ⟨f, rfl⟩ : ∃ f, fuel = f + 1 := ⟨ops.size - rs.length + k, by omega⟩
      obtain ⟨j, hj, hun, hbef⟩ := openC_first rs.length (by omega : openC ls rs.length ≠ 0)
      have hjr := F.first I.size (by omega) hun hbef
      refine ⟨fun h0 => (by rw [h0] at hjr; cases hjr), fun i hi => ?_⟩
      obtain ⟨q, hq1, hq2, hq3⟩ := hs
      have hir : i < rs.length := by
        have h1 := F.no_late I.closed hi (Nat.le_of_lt hq1) hq2
        rcases Nat.lt_or_ge i rs.length with h | h
        · exact h
        · obtain rfl : i = rs.length := by omega
          have := ready_anc I.closed hi hq3
          rw [getD_both hq2] at this
          cases this
      have hui : ls.getD i true = false := (mem_ready.1 hi).1
      refine head_step hc hy IB.wr.sat IB.wr.named (hG0.mono IB.wr.ext) IB.dom IB.tr hch hrs hm hD hE hL I hir hi ro m Q _ (fun a' w' ρ' D' I' => ?_)
      have ho := openC_set hui (getD_size' hui) rs.length hir
      exact ih f _ a' w' ρ' D' I' (by omega) (by omega)
    · exact go I (fun j hj hun => by
        cases h : ancB ops rs.length j with
        | false => rfl
        | true => exact absurd ⟨j, hj, hun, h⟩ hs) hk hfu
  where
  go {k fuel : Nat} {ls : Array Bool} {a : Act} {w : World} {ρ : Env} {D' : List (Nat × AB)} (I : HInv P ops rs ρb Nb Nf ab wb ls a w ρ D') (hfl : ∀ j, j < rs.length → ls.getD j true = false → ancB ops rs.length j = false) (hk : openC ls rs.length = k) (hfu : fuel = ops.size - rs.length + k) : wpAnyIn (fe ro) m P .any ops Q fuel ls a w := by
    have hopr : ∀ (j : Nat) (r : HRec), rs[j]? = some r → ops[j]? = some r.o ∧ (ops.toList.take rs.length)[j]? = some r.o := fun j r hr => by
      have hj : j < rs.length := (List.getElem?_eq_some_iff.1 hr).1
      have e1 : (rs.map (·.o))[j]? = some r.o := by rw [List.getElem?_map, hr]; rfl
      rw [hrs] at e1
      refine ⟨?_, e1⟩
      rw [List.getElem?_take_of_lt hj, Array.getElem?_toList] at e1; exact e1
    have hlt := F.lt
    have listed : ∀ j, j < rs.length → ls.getD j true = true → ls.getD j false = true := fun j hj h => getD_true (by rw [I.size]; omega) h
    refine stage1 F hc hy hG0 hchk0 hchk hrun hF0 hNend ro m Q hend k fuel ls a w ρ ⟨IB.grew I.grew hF hch.le (fun n b hn => ?_) (nilTR _ _) I.dfr, fun t u hu hh => ?_, fun j o t hj hun hoj hd => ?_, I.closed, I.size⟩ (fun i h1 h2 => I.tail i h1 h2) hfl hk hfu
    · rcases hH' n b hn with ⟨d, g1, g2⟩ | g
      · obtain ⟨r, hr, rfl⟩ := List.mem_map.1 g1
        obtain ⟨j, hj⟩ := List.getElem?_of_mem hr
        have hjl : j < rs.length := (List.getElem?_eq_some_iff.1 hj).1
        cases hv : ls.getD j true with
        | true => exact .inl (I.cov j r _ (listed j hjl hv) hj g2)
        | false => rw [hnone j r hj (hfl j hjl hv)] at g2; simp at g2
      · exact .inr g
    · rcases hch.fin t u hu with ⟨j, r, g1, g2, rfl⟩ | ⟨g1, g2⟩
      · have hjl : j < rs.length := (List.getElem?_eq_some_iff.1 g1).1
        cases hv : ls.getD j true with
        | true =>
          obtain ⟨y, hy1, hy2⟩ := I.got j r t (listed j hjl hv) g1 g2
          exact ⟨y, hy1, hy2.mono (cut_ext _ _)⟩
        | false => exact absurd g2 (hh j r.o hjl hv (hopr j r g1).1)
      · obtain ⟨y, hy1, hy2⟩ := IB.tr t u g2
        refine ⟨y, ?_, hy2.mono I.grew.ext⟩
        rw [I.old t (fun i r _ hr => g1 i r hr)]
        exact hy1
    · obtain ⟨r, hr⟩ : ∃ r, rs[j]? = some r := ⟨_, List.getElem?_eq_getElem hj⟩
      have ho' := (hopr j r hr).1
      rw [hoj] at ho'
      cases ho'
      obtain ⟨c1, c2, c3, c4, c5, c6, c7, c8⟩ := hch.at j r hr
      rcases c6 with ⟨k1, _⟩ | ⟨d, y, k1, k2, k3⟩
      · rw [k1] at hd; cases hd
      · rw [k1] at hd
        cases hd
        rcases c7 t y k2 with ⟨i, q, g1, g2, g3, _⟩ | ⟨_, g2⟩
        · exact absurd k1 (dsts1_ne _ i j q.o r.o hD (hopr i q g2).2 (hopr j r hr).2 (by omega) t g3)
        · obtain ⟨v0, hv0, _⟩ := IB.tr t y g2
          have hold := I.old t (fun i q hli hq hqd => by
            have hij : i ≠ j := fun e => by subst e; rw [getD_both hun] at hli; cases hli
            exact dsts1_ne _ i j q.o r.o hD (hopr i q hq).2 (hopr j r hr).2 hij t hqd k1)
          rw [← hold] at hv0
          exact (Array.getElem?_eq_some_iff.1 hv0).1
end
end Ev
end
end Go.Proofs.YtadpelhmjmamnaaGreatDoor
