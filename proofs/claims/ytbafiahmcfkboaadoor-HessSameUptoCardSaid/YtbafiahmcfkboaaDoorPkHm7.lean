/- The reckoner: a region that draws its order. No conditions. The reckoner: a region that draws its order, walked. No conditions. The reckoner: what is one. No conditions. The reckoner: a region some of whose head its first writer does not wait for. No conditions. -/
import Derived.Test.YtbafiahmcfkboaaDoorPkHm6
import Derived.StillTail
import Derived.Test.YtbafiahmcfkboaaDoorPkHm3
namespace Go.Proofs.YtbafiahmcfkboaaDoor
section
namespace Ev
open Go Go.RowKit

/-- The tail from n on: each of it waits for the whole head, and they come in one order. -/
def okT (ops : Array Oper) (n : Nat) : Bool :=
  ((List.range' n (ops.toList.length - n)).all fun k => (List.range n).all fun j => ((ancs ops.toList).getD k []).getD j false) && seq1B ops (ops.size - n) n (endA ops.size n)

section
variable {l : List Oper}
def ancRow (acc : List (List Bool)) (o : Oper) : List Bool := (List.range acc.length).map fun j => waits1B o j || (List.range acc.length).any fun i => waits1B o i && ((acc.getD i []).getD j false)
theorem ancs_snoc (l : List Oper) (o : Oper) : ancs (l ++ [o]) = ancs l ++ [ancRow (ancs l) o] := by
  unfold ancs
  rw [List.foldl_append]
  rfl
theorem ancs_take (l : List Oper) : ∀ k, k ≤ l.length → (ancs (l.take k)).length = k ∧ ∀ i (h : i < l.length), i < k → (ancs (l.take k)).getD i [] = ancRow (ancs (l.take i)) l[i]
  | 0, _ => ⟨by simp [ancs], fun i _ h => by omega⟩
  | k + 1, h => by
    obtain ⟨h1, h2⟩ := ancs_take l k (by omega)
    have hk : k < l.length := by omega
    rw [List.take_succ_eq_append_getElem hk, ancs_snoc]
    refine ⟨by simp [h1], fun i hi hik => ?_⟩
    by_cases e : i = k
    · subst e
      simp only [List.getD_eq_getElem?_getD]
      rw [List.getElem?_append_right (by omega), h1]
      simp
    · have := h2 i hi (by omega)
      simp only [List.getD_eq_getElem?_getD] at this ⊢
      rw [List.getElem?_append_left (by omega)]
      exact this
theorem ancs_length (l : List Oper) : (ancs l).length = l.length := by
  have := (ancs_take l l.length (Nat.le_refl _)).1
  rwa [List.take_length] at this
theorem anc_spec {i j : Nat} {o : Oper} (ho : l[i]? = some o) (h : ((ancs l).getD i []).getD j false = true) : j < i ∧ (waits1B o j = true ∨ ∃ k, waits1B o k = true ∧ k < i ∧ ((ancs l).getD k []).getD j false = true) := by
  have hi : i < l.length := (List.getElem?_eq_some_iff.1 ho).1
  have hio : l[i] = o := (List.getElem?_eq_some_iff.1 ho).2
  have hall := (ancs_take l l.length (Nat.le_refl _)).2
  rw [List.take_length] at hall
  rw [hall i hi hi, hio] at h
  have hli := (ancs_take l i (by omega)).1
  unfold ancRow at h
  rw [hli] at h
  simp only [List.getD_eq_getElem?_getD, List.getElem?_map] at h
  rcases Nat.lt_or_ge j i with hj | hj
  · rw [List.getElem?_range hj] at h
    simp only [Option.map_some, Option.getD_some, Bool.or_eq_true, List.any_eq_true, List.mem_range, Bool.and_eq_true] at h
    refine ⟨hj, h.imp id ?_⟩
    rintro ⟨k, hk, h1, h2⟩
    refine ⟨k, h1, hk, ?_⟩
    rw [hall k (by omega) (by omega)]
    have h3 := (ancs_take l i (by omega)).2 k (by omega) hk
    simp only [List.getD_eq_getElem?_getD] at h3 ⊢
    rw [← h3]
    exact h2
  · rw [List.getElem?_eq_none (by simp; omega)] at h
    simp at h
end
theorem waits_ready {ops : Array Oper} {ls : Array Bool} {i j : Nat} {o : Oper} (hr : i ∈ Region.ready .any ops ls) (ho : ops[i]? = some o) (h : waits1B o j = true) : ls.getD j false = true := by
  obtain ⟨_, o', ho', hall⟩ := mem_ready.1 hr
  rw [ho] at ho'
  cases ho'
  unfold waits1B at h
  rw [List.any_eq_true] at h
  obtain ⟨e, he, h2⟩ := h
  rw [Bool.and_eq_true, beq_iff_eq] at h2
  rw [← h2.2]
  exact hall e (by simpa using he) h2.1
def Closed (ops : Array Oper) (ls : Array Bool) : Prop := ∀ i j, ls.getD i false = true → ((ancs ops.toList).getD i []).getD j false = true → ls.getD j false = true
theorem ready_anc {ops : Array Oper} {ls : Array Bool} {i j : Nat} (hc : Closed ops ls) (hr : i ∈ Region.ready .any ops ls) (h : ((ancs ops.toList).getD i []).getD j false = true) : ls.getD j false = true := by
  obtain ⟨_, o, ho, _⟩ := mem_ready.1 hr
  rcases (anc_spec (by rw [Array.getElem?_toList]; exact ho) h).2 with h1 | ⟨k, h1, _, h2⟩
  · exact waits_ready hr ho h1
  · exact hc k j (waits_ready hr ho h1) h2
theorem Closed.set {ops : Array Oper} {ls : Array Bool} {i : Nat} (hc : Closed ops ls) (hr : i ∈ Region.ready .any ops ls) : Closed ops (ls.setIfInBounds i true) := fun k j hk hm => by
  have key : ls.getD j false = true → (ls.setIfInBounds i true).getD j false = true := fun h => by
    by_cases e : i = j
    · subst e
      have hlt : i < ls.size := by
        rcases Nat.lt_or_ge i ls.size with h2 | h2
        · exact h2
        · simp [Array.getD_eq_getD_getElem?, Array.getElem?_eq_none h2] at h
      simp [Array.getD_eq_getD_getElem?, hlt]
    · rw [getD_set_ne false e]; exact h
  by_cases e : i = k
  · subst e; exact key (ready_anc hc hr hm)
  · rw [getD_set_ne false e] at hk; exact key (hc k j hk hm)

theorem addD_spec : ∀ (d : List (Nat × AB)) (H : HP) (n : Nat) (b : AB), (List.rec (motive := fun _ => HP → HP) (fun H => H) (fun (p : Nat × AB) _ ih H => ih (PT.insK 60 H p.1 (some p.2) (fun H' => H') .nil)) d H).get n = some b → (n, b) ∈ d ∨ H.get n = some b
  | [], H, n, b, h => .inr h
  | p :: d, H, n, b, h => by
    rcases addD_spec d _ n b h with g | g
    · exact .inl (List.mem_cons_of_mem _ g)
    · rcases PT.insK_spec 60 H p.1 (some p.2) with hb | ⟨H', h1, h2⟩
      · rw [hb] at g; cases g
      · rw [h1, h2] at g
        by_cases e : n = p.1
        · rw [if_pos e] at g; cases g; subst e; exact .inl List.mem_cons_self
        · rw [if_neg e] at g; exact .inr g
theorem heapFor_spec : ∀ (mask : List Bool) (ds : List (List (Nat × AB))) (H : HP) (n : Nat) (b : AB), (heapFor H mask ds).get n = some b → H.get n = some b ∨ ∃ j d, mask.getD j false = true ∧ ds[j]? = some d ∧ (n, b) ∈ d
  | [], ds, H, n, b, h => .inl h
  | q :: mask, [], H, n, b, h => .inl h
  | q :: mask, d :: ds, H, n, b, h => by
    have h' : (heapFor (cond q (List.rec (motive := fun _ => HP → HP) (fun H => H) (fun (p : Nat × AB) _ ih H => ih (PT.insK 60 H p.1 (some p.2) (fun H' => H') .nil)) d H) H) mask ds).get n = some b := h
    rcases heapFor_spec mask ds _ n b h' with g | ⟨j, d', g1, g2, g3⟩
    · cases q with
      | false => exact .inl g
      | true =>
        rcases addD_spec d H n b g with k | k
        · exact .inr ⟨0, d, rfl, rfl, k⟩
        · exact .inl k
    · exact .inr ⟨j + 1, d', by simpa using g1, by simpa using g2, g3⟩

/-- How many of the first n have not come up. -/
def openC (ls : Array Bool) : Nat → Nat
  | 0 => 0
  | n + 1 => openC ls n + (if ls.getD n true then 0 else 1)
theorem openC_same {ls : Array Bool} {i : Nat} : ∀ m, m ≤ i → openC (ls.setIfInBounds i true) m = openC ls m
  | 0, _ => rfl
  | m + 1, h => by
    simp only [openC]
    rw [openC_same m (by omega), getD_set_ne true (by omega)]
theorem openC_set {ls : Array Bool} {i : Nat} (hi : ls.getD i true = false) (hl : i < ls.size) : ∀ n, i < n → openC (ls.setIfInBounds i true) n + 1 = openC ls n
  | 0, h => by omega
  | n + 1, h => by
    simp only [openC]
    by_cases hn : n = i
    · subst hn
      have e1 : (ls.setIfInBounds n true).getD n true = true := by simp [Array.getD_eq_getD_getElem?]
      rw [openC_same n (Nat.le_refl _), e1, hi]
      simp
    · rw [getD_set_ne true (Ne.symm hn)]
      have := openC_set hi hl n (by omega)
      omega
theorem openC_zero {ls : Array Bool} : ∀ n, openC ls n = 0 → ∀ j, j < n → ls.getD j true = true
  | 0, _, j, h => by omega
  | n + 1, h, j, hj => by
    simp only [openC] at h
    by_cases e : j = n
    · subst e
      cases hv : ls.getD j true with
      | true => rfl
      | false => rw [hv] at h; simp at h
    · exact openC_zero n (by omega) j (by omega)
theorem openC_first {ls : Array Bool} : ∀ n, openC ls n ≠ 0 → ∃ j, j < n ∧ ls.getD j true = false ∧ ∀ k, k < j → ls.getD k true = true
  | 0, h => absurd rfl h
  | n + 1, h => by
    by_cases h0 : openC ls n = 0
    · refine ⟨n, by omega, ?_, openC_zero n h0⟩
      cases hv : ls.getD n true with
      | false => rfl
      | true => simp only [openC, h0, hv] at h; exact absurd rfl h
    · obtain ⟨j, hj, h1, h2⟩ := openC_first n h0
      exact ⟨j, by omega, h1, h2⟩
theorem openC_new (m : Nat) : ∀ k, k ≤ m → openC (Array.replicate m false) k = k
  | 0, _ => rfl
  | k + 1, h => by
    simp only [openC]
    rw [openC_new m k (by omega)]
    have : (Array.replicate m false).getD k true = false := by simp [Array.getD_eq_getD_getElem?, show k < m from h]
    rw [this]
    rfl
theorem edges1_spec : ∀ (l : List Oper) (i k : Nat) (o : Oper) (e : Edge), edges1B l i = true → l[k]? = some o → e ∈ o.after → Region.binds .any e = true → e.on < i + k
  | [], _, _, _, _, _, h, _, _ => by simp at h
  | o :: l, i, k, o2, e, hE, h, he, hb => by
    simp only [edges1B, Bool.and_eq_true] at hE
    cases k with
    | zero =>
      simp only [List.getElem?_cons_zero, Option.some.injEq] at h
      subst h
      have := (Array.all_eq_true'.1 hE.1) e he
      rw [hb] at this
      simpa using this
    | succ k =>
      simp only [List.getElem?_cons_succ] at h
      have := edges1_spec l (i + 1) k o2 e hE.2 h he hb
      omega
theorem getD_size' {ls : Array Bool} {i : Nat} (h : ls.getD i true = false) : i < ls.size := by
  rcases Nat.lt_or_ge i ls.size with h2 | h2
  · exact h2
  · simp [Array.getD_eq_getD_getElem?, Array.getElem?_eq_none h2] at h
theorem getD_true {ls : Array Bool} {i : Nat} (hi : i < ls.size) (h : ls.getD i true = true) : ls.getD i false = true := by
  simpa [Array.getD_eq_getD_getElem?, hi] using h
theorem endA_eq {m n : Nat} {ls : Array Bool} (hls : ls.size = m) (h1 : ∀ j, j < n → ls.getD j true = true) (h2 : ∀ t, n ≤ t → t < m → ls.getD t true = false) : ls = endA m n := by
  unfold endA
  apply Array.ext
  · simp [hls]
  · intro i hi hi2
    have e : ls.getD i true = ls[i] := by simp [Array.getD_eq_getD_getElem?, hi]
    rw [← e]
    simp only [List.getElem_toArray, List.getElem_map, List.getElem_range]
    by_cases h : i < n
    · rw [h1 i h, decide_eq_true h]
    · rw [h2 i (by omega) (by omega), decide_eq_false h]
/-- A tail in one order. -/
theorem tail_any {F : Fence} {m : Nat} {P : Program} {ops : Array Oper} {Q : Exit → Act → World → Prop} : ∀ (k i : Nat) (ls : Array Bool) (a : Act) (w : World), seq1B ops k i ls = true → wpOpsIn F m P ops Q (List.range' i k) a w → wpAnyIn F m P .any ops Q k ls a w
  | 0, i, ls, a, w, h, hw => ⟨by simpa [seq1B] using h, hw⟩
  | k + 1, i, ls, a, w, h, hw => by
    simp only [seq1B, Bool.and_eq_true, beq_iff_eq] at h
    rw [List.range'_succ, wpOpsIn_cons] at hw
    refine ⟨fun h0 => (by rw [h.1] at h0; cases h0), fun j hj => ?_⟩
    rw [h.1] at hj
    obtain rfl : j = i := by simpa using hj
    exact wpOpIn_mono (fun a' w' hk => tail_any k (j + 1) _ a' w' h.2 hk) hw
end Ev
end
section
namespace Ev
open Go Go.RowKit

/-- The names ahead of M. -/
def cut (M : Nat) (ρ : Env) : Env := fun n => if n < M then ρ n else none
theorem cut_some {M : Nat} {ρ : Env} {n : Nat} {p : Nat × Nat} : cut M ρ n = some p ↔ n < M ∧ ρ n = some p := by
  unfold cut
  by_cases h : n < M
  · simp [h]
  · simp [h]
theorem cut_ext (M : Nat) (ρ : Env) : Ext (cut M ρ) ρ := fun _ _ h => (cut_some.1 h).2
theorem cut_mono {M M' : Nat} {ρ ρ' : Env} (h : M ≤ M') (k : Ext ρ ρ') : Ext (cut M ρ) (cut M' ρ') := fun n p e => by
  have := cut_some.1 e
  exact cut_some.2 ⟨by omega, k n p this.2⟩
theorem cut_dom (M : Nat) (ρ : Env) : Dom (cut M ρ) M := fun n h => by unfold cut; rw [if_neg (by omega)]
theorem Dom.toCut {ρ ρ' : Env} {N M : Nat} (h : Dom ρ N) (hle : N ≤ M) (k : Ext ρ ρ') : Ext ρ (cut M ρ') := fun n p e => by
  refine cut_some.2 ⟨?_, k n p e⟩
  rcases Nat.lt_or_ge n N with g | g
  · omega
  · rw [h n g] at e; cases e
/-- What has grown beside other names. -/
def mergeE (N N' : Nat) (ρ ρx : Env) : Env := fun n => if N ≤ n ∧ n < N' then ρx n else ρ n
theorem Grew.besides {P : Program} {ρ ρx : Env} {N N' : Nat} {d : List (Nat × AB)} {w w' : World} (g : Grew P (cut N ρ) ρx N N' d w w') (hF : Free ρ N N') (hle : N ≤ N') : Grew P ρ (mergeE N N' ρ ρx) N N' d w w' ∧ Ext ρx (cut N' (mergeE N N' ρ ρx)) := by
  have inside : ∀ n, N ≤ n → n < N' → mergeE N N' ρ ρx n = ρx n := fun n h1 h2 => by unfold mergeE; rw [if_pos ⟨h1, h2⟩]
  have outside : ∀ n, n < N ∨ N' ≤ n → mergeE N N' ρ ρx n = ρ n := fun n h => by unfold mergeE; rw [if_neg (by omega)]
  have hE : Ext ρx (cut N' (mergeE N N' ρ ρx)) := fun n p e => by
    have hd : Dom ρx N' := (cut_dom N ρ).same hle g.same
    have hn : n < N' := by
      rcases Nat.lt_or_ge n N' with h | h
      · exact h
      · rw [hd n h] at e; cases e
    refine cut_some.2 ⟨hn, ?_⟩
    rcases Nat.lt_or_ge n N with h | h
    · rw [outside n (.inl h)]
      rw [g.same n (.inl h)] at e
      exact (cut_some.1 e).2
    · rw [inside n h hn]; exact e
  have hE' : Ext ρx (mergeE N N' ρ ρx) := hE.trans (cut_ext _ _)
  refine ⟨⟨fun n p e => ?_, outside, g.bel, fun n p h1 h2 h3 => ?_, g.dom, fun p hp => ?_, fun p hp q hq a C D e1 e2 => ?_⟩, hE⟩
  · rcases Nat.lt_or_ge n N with h | h
    · rw [outside n (.inl h)]; exact e
    · rcases Nat.lt_or_ge n N' with h' | h'
      · rw [hF n h h'] at e; cases e
      · rw [outside n (.inr h')]; exact e
  · rw [inside n h1 h2] at h3; exact g.new n p h1 h2 h3
  · obtain ⟨a, C, e1, e2⟩ := g.blk p hp
    exact ⟨a, C, hE' _ _ e1, e2.mono hE'⟩
  · rw [inside p.1 (g.dom p hp).1 (g.dom p hp).2] at e1
    rw [inside q.1 (g.dom q hq).1 (g.dom q hq).2] at e2
    exact g.inj p hp q hq a C D e1 e2

section
variable {P : Program} {G : Nat} {call : CallT} {yld : YldT} {ops : Array Oper} {H1 : HP} {T1 Tf : PT Value} {N1 Nf : Nat} {rs : List HRec} {ρ1 : Env} {w1 : World} {a1 : Act}
/-- What is known while the head comes up. -/
structure HInv (P : Program) (ops : Array Oper) (rs : List HRec) (ρ1 : Env) (N1 Nf : Nat) (a1 : Act) (w1 : World) (ls : Array Bool) (a : Act) (w : World) (ρ : Env) (D : List (Nat × AB)) : Prop where
  grew : Grew P ρ1 ρ N1 Nf D w1 w
  cov : ∀ i r p, ls.getD i false = true → rs[i]? = some r → p ∈ r.d → p ∈ D
  own : ∀ i r p, ls.getD i false = true → rs[i]? = some r → p ∈ r.d → r.N ≤ p.1 ∧ p.1 < r.N'
  blk : ∀ i r p, ls.getD i false = true → rs[i]? = some r → p ∈ r.d → ∃ x C, cut r.N' ρ p.1 = some (x, C) ∧ OR P (cut r.N' ρ) C p.2 w.heap[x]?
  free : ∀ i r, ls.getD i true = false → rs[i]? = some r → Free ρ r.N r.N'
  dfr : a.defers = a1.defers
  old : ∀ t, (∀ i r, ls.getD i false = true → rs[i]? = some r → r.o.dst ≠ some t) → a.tmps[t]? = a1.tmps[t]?
  got : ∀ i r t, ls.getD i false = true → rs[i]? = some r → r.o.dst = some t → ∃ v, a.tmps[t]? = some v ∧ VR (cut r.N' ρ) r.u v
  closed : Closed ops ls
  size : ls.size = ops.size
  tail : ∀ i, rs.length ≤ i → i < ops.size → ls.getD i true = false
theorem dsts1_ne : ∀ (l : List Oper) (i j : Nat) (p q : Oper), dsts1B l = true → l[i]? = some p → l[j]? = some q → i ≠ j → ∀ t, p.dst = some t → q.dst ≠ some t
  | [], _, _, _, _, _, h, _, _ => by simp at h
  | o :: l, i, j, p, q, hD, hp, hq, hne => by
    simp only [dsts1B, Bool.and_eq_true] at hD
    intro t ht
    have hall : ∀ d, o.dst = some d → ∀ o2 ∈ l, o2.dst ≠ some d := fun d hd o2 ho2 => by
      have h1 := hD.1
      rw [hd] at h1
      have := List.all_eq_true.1 h1 o2 ho2
      simpa using this
    cases i with
    | zero =>
      simp at hp; subst hp
      cases j with
      | zero => exact absurd rfl hne
      | succ j => simp at hq; exact hall t ht q (List.mem_of_getElem? hq)
    | succ i =>
      simp at hp
      cases j with
      | zero => simp at hq; subst hq; exact fun h => hall t h p (List.mem_of_getElem? hp) ht
      | succ j => simp at hq; exact dsts1_ne l i j p q hD.2 hp hq (by omega) t ht
/-- One operation of the head, whatever has come up. -/
theorem head_step (hc : CallOk P G call) (hy : YldOk P G yld) (hS : Sat P ρ1 H1 w1) (hN1 : ∀ n b, H1.get n = some b → n < N1) (hG : Glob G ρ1) (hDm : Dom ρ1 N1) (hT : TR ρ1 T1 a1.tmps)
    (hch : Chain P G call yld ops H1 T1 N1 [] rs Tf Nf) (hrs : rs.map (·.o) = ops.toList.take rs.length) (hm : rs.map (·.m) = (ancs ops.toList).take rs.length) (hD : dsts1B (ops.toList.take rs.length) = true) (hE : edges1B (ops.toList.take rs.length) 0 = true) (hL : looksB ops (ops.toList.take rs.length) = true)
    {ls : Array Bool} {a : Act} {w : World} {ρ : Env} {D : List (Nat × AB)} (I : HInv P ops rs ρ1 N1 Nf a1 w1 ls a w ρ D) {i : Nat} (hi : i < rs.length) (hr : i ∈ Region.ready .any ops ls) (ro : Option Nat) (m : Nat) (Q : Exit → Act → World → Prop) (K : Act → World → Prop)
    (hK : ∀ a' w' ρ' D', HInv P ops rs ρ1 N1 Nf a1 w1 (ls.setIfInBounds i true) a' w' ρ' D' → K a' w') : wpOpIn (fe ro) m P ops Q i K a w := by
  obtain ⟨hun, o, ho, hall⟩ := mem_ready.1 hr
  obtain ⟨r, hri⟩ : ∃ r, rs[i]? = some r := ⟨_, List.getElem?_eq_getElem hi⟩
  have hlt : i < ls.size := getD_size' hun
  -- the record speaks of that operation
  have hops : ∀ j q, rs[j]? = some q → ops[j]? = some q.o ∧ (ops.toList.take rs.length)[j]? = some q.o ∧ q.m = (ancs ops.toList).getD j [] := fun j q hq => by
    have hj : j < rs.length := (List.getElem?_eq_some_iff.1 hq).1
    have e1 : (rs.map (·.o))[j]? = some q.o := by rw [List.getElem?_map, hq]; rfl
    rw [hrs] at e1
    have e2 : (rs.map (·.m))[j]? = some q.m := by rw [List.getElem?_map, hq]; rfl
    rw [hm, List.getElem?_take_of_lt hj] at e2
    refine ⟨?_, e1, ?_⟩
    · rw [List.getElem?_take_of_lt hj, Array.getElem?_toList] at e1; exact e1
    · rw [List.getD_eq_getElem?_getD, e2]; rfl
  obtain ⟨ho', hto, hmi⟩ := hops i r hri
  rw [ho] at ho'
  cases ho'
  obtain ⟨c1, c2, c3, c4, c5, c6, c7, c8⟩ := hch.at i r hri
  rw [List.nil_append] at c5
  have hF : Free ρ1 N1 Nf := hDm.free _
  have hE1 : Ext ρ1 (cut r.N ρ) := hDm.toCut c2 I.grew.ext
  -- what it looks at
  have hlook : ∀ t, t ∈ r.o.looksAt ops → ∀ u, r.T.get t = some u → ∃ v, a.tmps[t]? = some v ∧ VR (cut r.N ρ) u v := fun t ht u hu => by
    have hLi : ∀ j q, rs[j]? = some q → q.o.dst = some t → waits1B r.o j = true ∨ ((ancs (ops.toList.take rs.length)).getD j []).getD i false = true := fun j q hq hqd => by
      have h1 := List.all_eq_true.1 hL (r.o, i) (by
        rw [List.mem_zipIdx_iff_getElem?]; exact hto)
      have h2 := List.all_eq_true.1 h1 t ht
      have h3 := List.all_eq_true.1 h2 (q.o, j) (by
        rw [List.mem_zipIdx_iff_getElem?]; exact (hops j q hq).2.1)
      simp only [Bool.or_eq_true, bne_iff_ne, ne_eq] at h3
      rcases h3 with (h3 | h3) | h3
      · exact absurd hqd h3
      · exact .inl h3
      · exact .inr h3
    have hanc : ∀ j, j < rs.length → ((ancs (ops.toList.take rs.length)).getD j []).getD i false = true → i < j ∧ ((ancs ops.toList).getD j []).getD i false = true := fun j hj h => by
      have hjl : j < (ops.toList.take rs.length).length := by
        rw [← hrs]; simpa using hj
      have h1 := (anc_spec (l := ops.toList.take rs.length) (List.getElem?_eq_getElem hjl) h).1
      have hlen : rs.length ≤ ops.toList.length := by
        have h9 := congrArg List.length hrs
        rw [List.length_map, List.length_take] at h9
        exact h9 ▸ Nat.min_le_right rs.length ops.toList.length
      have e1 := (ancs_take ops.toList rs.length hlen).2 j (by omega) (by omega)
      have e2 := (ancs_take ops.toList ops.toList.length (Nat.le_refl _)).2 j (by omega) (by omega)
      rw [List.take_length] at e2
      refine ⟨h1, ?_⟩
      rw [e2, ← e1]
      exact h
    have hdone : ∀ j q, rs[j]? = some q → q.o.dst = some t → j < i → ls.getD j false = true := fun j q hq hqd hji => by
      rcases hLi j q hq hqd with h | h
      · exact waits_ready hr ho h
      · have := (hanc j (by omega) h).1; omega
    have hlater : ∀ j q, rs[j]? = some q → q.o.dst = some t → ls.getD j false = true → j < i := fun j q hq hqd hlj => by
      have hj : j < rs.length := (List.getElem?_eq_some_iff.1 hq).1
      rcases hLi j q hq hqd with h | h
      · unfold waits1B at h
        rw [List.any_eq_true] at h
        obtain ⟨e, he, h2⟩ := h
        rw [Bool.and_eq_true, beq_iff_eq] at h2
        have := edges1_spec _ 0 i r.o e hE hto (by simpa using he) h2.1
        omega
      · have h3 := I.closed j i hlj (hanc j hj h).2
        rw [getD_both hun] at h3
        cases h3
    rcases c7 t u hu with ⟨j, q, g1, g2, g3, rfl⟩ | ⟨g1, g2⟩
    · obtain ⟨v, hv, hvr⟩ := I.got j q t (hdone j q g2 g3 g1) g2 g3
      exact ⟨v, hv, hvr.mono (cut_mono (c8 j q g1 g2) (.refl ρ))⟩
    · obtain ⟨v, hv, hvr⟩ := hT t u g2
      refine ⟨v, ?_, hvr.mono hE1⟩
      rw [I.old t (fun j q hlj hq hqd => g1 j q (hlater j q hq hqd hlj) hq hqd)]
      exact hv
  have hwant : Region.wanted r.o (yielded ops a.tmps) = r.b := want_sound hlook c1
  -- what is known behind it
  have after : ∀ (v : Value) (w' : World) (ρx : Env), Grew P (cut r.N ρ) ρx r.N r.N' r.d w w' → VR ρx r.u v → K (a.put r.o.dst v) w' := fun v w' ρx gx hv => by
    obtain ⟨g, hEx⟩ := gx.besides (I.free i r hun hri) c3
    generalize hρ' : mergeE r.N r.N' ρ ρx = ρ' at g hEx
    refine hK _ w' ρ' (D ++ r.d) ⟨I.grew.sub g c2 c4, fun j q p hlj hq hp => ?_, fun j q p hlj hq hp => ?_, fun j q p hlj hq hp => ?_, fun j q hlj hq => ?_, (put_defers _ _ _).trans I.dfr, fun t ht => ?_, fun j q t hlj hq hqd => ?_, I.closed.set hr, by simp [I.size], fun j hj hjs => ?_⟩
    · by_cases e : i = j
      · subst e; rw [hri] at hq; cases hq; exact List.mem_append_right _ hp
      · rw [getD_set_ne false e] at hlj; exact List.mem_append_left _ (I.cov j q p hlj hq hp)
    · by_cases e : i = j
      · subst e; rw [hri] at hq; cases hq; exact g.dom p hp
      · rw [getD_set_ne false e] at hlj; exact I.own j q p hlj hq hp
    · by_cases e : i = j
      · subst e; rw [hri] at hq; cases hq
        obtain ⟨x, C, e1, e2⟩ := gx.blk p hp
        exact ⟨x, C, hEx _ _ e1, e2.mono hEx⟩
      · rw [getD_set_ne false e] at hlj
        obtain ⟨x, C, e1, e2⟩ := I.blk j q p hlj hq hp
        have hx : x < w.heap.size := by
          have h1 := I.own j q p hlj hq hp
          obtain ⟨_, d2, _, d4, _⟩ := hch.at j q hq
          exact (I.grew.new p.1 (x, C) (by omega) (by omega) (cut_some.1 e1).2).2
        exact ⟨x, C, cut_mono (Nat.le_refl _) g.ext _ _ e1, by rw [g.bel.block x hx]; exact e2.mono (cut_mono (Nat.le_refl _) g.ext)⟩
    · by_cases e : i = j
      · subst e; simp [Array.getD_eq_getD_getElem?, hlt] at hlj
      · rw [getD_set_ne true e] at hlj
        intro n h1 h2
        have hsame : ρ' n = ρ n := g.same n (by
          obtain ⟨d1, d2, d3, d4, _, _, _, d8⟩ := hch.at j q hq
          rcases Nat.lt_or_ge i j with h | h
          · have := d8 i r h hri; omega
          · have := c8 j q (by omega) hq; omega)
        rw [hsame]
        exact I.free j q hlj hq n h1 h2
    · have h0 : r.o.dst ≠ some t := ht i r (by simp [Array.getD_eq_getD_getElem?, hlt]) hri
      have hold := I.old t (fun j q hlj hq => ht j q (by
        by_cases e : i = j
        · subst e; simp [Array.getD_eq_getD_getElem?, hlt]
        · rw [getD_set_ne false e]; exact hlj) hq)
      rw [← hold]
      cases hd : r.o.dst with
      | none => rfl
      | some d =>
        have hne : d ≠ t := fun e => h0 (by rw [hd, e])
        simp only [Act.put]
        rw [Array.getElem?_setIfInBounds_ne hne]
    · by_cases e : i = j
      · subst e
        rw [hri] at hq; cases hq
        rcases c6 with ⟨k1, _⟩ | ⟨d, y, k1, k2, k3⟩
        · rw [k1] at hqd; cases hqd
        · rw [k1] at hqd; cases hqd
          have hsz : t < a.tmps.size := by
            rcases c7 t y k2 with ⟨j, q, g1, g2, g3, _⟩ | ⟨_, g2⟩
            · exact absurd k1 (dsts1_ne _ j i q.o r.o hD (hops j q g2).2.1 hto (by omega) t g3)
            · obtain ⟨v0, hv0, _⟩ := hT t y g2
              have hold := I.old t (fun j2 q2 hlj2 hq2 => fun hqd2 => by
                have hji : j2 ≠ i := fun e => by subst e; rw [getD_both hun] at hlj2; cases hlj2
                exact dsts1_ne _ j2 i q2.o r.o hD (hops j2 q2 hq2).2.1 hto hji t hqd2 k1)
              rw [← hold] at hv0
              exact (Array.getElem?_eq_some_iff.1 hv0).1
          exact ⟨v, by simp [k1, Act.put, hsz], hv.mono hEx⟩
      · rw [getD_set_ne false e] at hlj
        obtain ⟨v2, hv2, hr2⟩ := I.got j q t hlj hq hqd
        refine ⟨v2, ?_, hr2.mono (cut_mono (Nat.le_refl _) g.ext)⟩
        cases hd : r.o.dst with
        | none => exact hv2
        | some d =>
          have hne : d ≠ t := fun e2 => dsts1_ne _ j i q.o r.o hD (hops j q hq).2.1 hto (Ne.symm e) t hqd (by rw [hd, e2])
          simp only [Act.put]
          rw [Array.getElem?_setIfInBounds_ne hne]
          exact hv2
    · rw [getD_set_ne true (by omega)]; exact I.tail j hj hjs
  unfold wpOpIn
  rw [ho]
  simp only [hwant]
  cases hb : r.b with
  | false =>
    rw [hb] at c5
    obtain ⟨e1, e2, e3⟩ := c5
    simp only [Bool.false_eq_true, if_false]
    refine ⟨fun _ _ => trivial, ?_⟩
    refine after undef w (cut r.N ρ) ?_ (by rw [e1]; exact undef_VR _)
    rw [e2, e3]
    exact .refl P (cut r.N ρ) r.N w
  | true =>
    rw [hb] at c5
    simp only [if_true] at c5 ⊢
    have hmask : ∀ n b, (heapFor H1 r.m ((rs.take i).map (·.d))).get n = some b → (∃ j q, j < i ∧ rs[j]? = some q ∧ ls.getD j false = true ∧ (n, b) ∈ q.d) ∨ H1.get n = some b := fun n b h => by
      rcases heapFor_spec _ _ _ n b h with g | ⟨j, d, g1, g2, g3⟩
      · exact .inr g
      · rw [List.getElem?_map] at g2
        cases hq : (rs.take i)[j]? with
        | none => rw [hq] at g2; cases g2
        | some q =>
          rw [hq] at g2
          cases g2
          have hji : j < i := by
            have := (List.getElem?_eq_some_iff.1 hq).1
            simp at this; omega
          rw [List.getElem?_take_of_lt hji] at hq
          rw [hmi] at g1
          exact .inl ⟨j, q, hji, hq, ready_anc I.closed hr g1, g3⟩
    have hsat0 : Sat P ρ (heapFor H1 r.m ((rs.take i).map (·.d))) w := I.grew.sat hS hF (fun n b h => by
      rcases hmask n b h with ⟨j, q, _, hq, hlj, hp⟩ | g
      · exact .inl (I.cov j q _ hlj hq hp)
      · exact .inr g)
    have hsat : Sat P (cut r.N ρ) (heapFor H1 r.m ((rs.take i).map (·.d))) w := ⟨fun n b h => by
      rcases hmask n b h with ⟨j, q, hji, hq, hlj, hp⟩ | g
      · obtain ⟨x, C, e1, e2⟩ := I.blk j q (n, b) hlj hq hp
        have hm := cut_mono (c8 j q hji hq) (Ext.refl ρ)
        exact ⟨x, C, hm _ _ e1, e2.mono hm⟩
      · obtain ⟨x, C, e1, e2⟩ := hS.blk n b g
        exact ⟨x, C, hE1 _ _ e1, by rw [I.grew.bel.block x (hS.lt n x C e1)]; exact e2.mono hE1⟩,
      fun n m b c a C D h1 h2 h3 h4 => hsat0.inj n m b c a C D h1 h2 (cut_ext _ _ _ _ h3) (cut_ext _ _ _ _ h4),
      fun n a C h => hsat0.lt n a C (cut_ext _ _ _ _ h)⟩
    have hnamed : ∀ n b, (heapFor H1 r.m ((rs.take i).map (·.d))).get n = some b → n < r.N := fun n b h => by
      rcases hmask n b h with ⟨j, q, hji, hq, hlj, hp⟩ | g
      · have h1 := (I.own j q _ hlj hq hp).2
        have h2 := c8 j q hji hq
        simp only at h1
        omega
      · exact Nat.lt_of_lt_of_le (hN1 n b g) c2
    have hop := aop_looks hc hy hsat (fun t ht u hu => hlook t (by
      unfold Oper.looksAt
      refine List.mem_append_left _ (List.mem_filterMap.2 ⟨.tmp t, by simpa using ht, rfl⟩)) u hu) (hG.mono hE1) hnamed c5
    exact hop.2 (cut_dom _ _) ro m K Q after
end
end Ev
end
section
namespace Ev
open Go

theorem beqL_eq {α : Type} {f : α → α → Bool} (hf : ∀ x y, f x y = true → x = y) : ∀ {a b : List α}, beqL f a b = true → a = b
  | [], [], _ => rfl
  | [], _ :: _, h => by cases h
  | _ :: _, [], h => by cases h
  | x :: a, y :: b, h => by
    have h' : (f x y && beqL f a b) = true := h
    rw [Bool.and_eq_true] at h'
    rw [hf x y h'.1, beqL_eq hf h'.2]
theorem beqO_eq {a b : Option Nat} (h : beqO a b = true) : a = b := by
  cases a <;> cases b
  · rfl
  · cases h
  · cases h
  · exact congrArg some (Nat.eq_of_beq_eq_true h)
theorem beqA_eq {a b : Option Addr} (h : beqA a b = true) : a = b := by
  cases a <;> cases b
  · rfl
  · cases h
  · cases h
  · rename_i a b
    obtain ⟨n, o, s⟩ := a
    obtain ⟨m, p, t⟩ := b
    have h' : (Nat.beq n m && Nat.beq o p && beqO s t) = true := h
    rw [Bool.and_eq_true, Bool.and_eq_true] at h'
    rw [Nat.eq_of_beq_eq_true h'.1.1, Nat.eq_of_beq_eq_true h'.1.2, beqO_eq h'.2]
theorem beqT_eq {a b : Bool} (h : beqT a b = true) : a = b := by cases a <;> cases b <;> first | rfl | cases h
theorem beqS_eq {a b : ByteArray} (h : beqS a b = true) : a = b := by
  have h1 := beqL_eq (f := fun x y : UInt8 => Nat.beq x.toNat y.toNat) (fun x y h => UInt8.toNat_inj.1 (Nat.eq_of_beq_eq_true h)) h
  cases a
  cases b
  congr 1
  exact Array.ext' h1
theorem eqF_one {a b : Int} (h : eqF a b = true) : a = b := by rw [eqF_eq] at h; exact eq_of_beq h
theorem beqV_eq : ∀ (d : Nat) (a b : Value), beqV d a b = true → a = b := by
  intro d
  induction d with
  | zero => intro a b h; cases h
  | succ d ih =>
    intro a b h
    cases a with
    | bool x => cases b with
      | bool y => exact congrArg Value.bool (beqT_eq h)
      | _ => cases h
    | int j x => cases b with
      | int k y =>
        have h' : (kindEq j k && eqF x y) = true := h
        rw [Bool.and_eq_true] at h'
        rw [kindEq_eq h'.1, eqF_one h'.2]
      | _ => cases h
    | string x => cases b with
      | string y => exact congrArg Value.string (beqS_eq h)
      | _ => cases h
    | pointer x => cases b with
      | pointer y => exact congrArg Value.pointer (beqA_eq h)
      | _ => cases h
    | slice x l c => cases b with
      | slice y m e =>
        have h' : (beqA x y && Nat.beq l m && Nat.beq c e) = true := h
        rw [Bool.and_eq_true, Bool.and_eq_true] at h'
        rw [beqA_eq h'.1.1, Nat.eq_of_beq_eq_true h'.1.2, Nat.eq_of_beq_eq_true h'.2]
      | _ => cases h
    | nilFunc => cases b with
      | nilFunc => rfl
      | _ => cases h
    | nilIface => cases b with
      | nilIface => rfl
      | _ => cases h
    | iface t x => cases b with
      | iface u y =>
        have h' : (Nat.beq t u && beqV d x y) = true := h
        rw [Bool.and_eq_true] at h'
        rw [Nat.eq_of_beq_eq_true h'.1, ih _ _ h'.2]
      | _ => cases h
    | agg xs => cases b with
      | agg ys => exact congrArg Value.agg (Array.ext' (beqL_eq (fun x y => ih x y) h))
      | _ => cases h
    | tuple xs => cases b with
      | tuple ys => exact congrArg Value.tuple (Array.ext' (beqL_eq (fun x y => ih x y) h))
      | _ => cases h
    | float k n => cases h
    | complex k a b => cases h
    | map r => cases h
    | chan r => cases h
    | func f a b => cases h
end Ev
end
section
namespace Ev
open Go Go.RowKit

theorem addXs_spec {f : HP → RX} {r : Ex × St} : ∀ (ds : List (List (Nat × AB))) (H : HP), (List.rec (motive := fun _ => HP → RX) f (fun d _ ih H => addX d H ih) ds H) = .ok r → ∃ H', f H' = .ok r ∧ ∀ n b, H'.get n = some b → (∃ d ∈ ds, (n, b) ∈ d) ∨ H.get n = some b
  | [], H, h => ⟨H, h, fun n b h => .inr h⟩
  | d :: ds, H, h => by
    have h' : addX d H (fun H => List.rec (motive := fun _ => HP → RX) f (fun d _ ih H => addX d H ih) ds H) = .ok r := h
    obtain ⟨H1, h1, h2⟩ := addX_spec d H _ r h'
    obtain ⟨H2, h3, h4⟩ := addXs_spec ds H1 h1
    refine ⟨H2, h3, fun n b hn => ?_⟩
    rcases h4 n b hn with ⟨d', g1, g2⟩ | g
    · exact .inl ⟨d', List.mem_cons_of_mem _ g1, g2⟩
    · rcases h2 n b g with k | k
      · exact .inl ⟨d, List.mem_cons_self, k⟩
      · exact .inr k
theorem Grew.none {P : Program} {ρ : Env} {N N' : Nat} {w : World} (hF : Free ρ N N') : Grew P ρ ρ N N' [] w w :=
  ⟨.refl ρ, fun _ _ => rfl, .refl _ _, fun n p h1 h2 h3 => by rw [hF n h1 h2] at h3; (cases h3), fun p h => by simp at h, fun p h => by simp at h, fun p h => by simp at h⟩
theorem Wrote.drew {P : Program} {ρ0 ρ : Env} {N0 N lo : Nat} {H : HP} {w0 w : World} (A : Wrote P ρ0 ρ N0 N lo H w0 w) : Wrote P ρ0 ρ N0 N lo H w0 { w with drawn := w.drawn + 1 } :=
  ⟨A.ext, A.same, ⟨A.sat.blk, A.sat.inj, A.sat.lt⟩, A.os, A.tape, A.output, A.size, A.keep, A.new, A.named⟩


theorem nilTR (ρ : Env) (tmps : Array Value) : TR ρ .nil tmps := fun i u h => by rw [PT.get_nil] at h; cases h
/-- What is known while some of the head, not waited for, has not come up. -/
structure MI (P : Program) (ops : Array Oper) (n : Nat) (ρ0 : Env) (N0 : Nat) (w0 : World) (T : PT Value) (H : HP) (N lo : Nat) (D : List DE) (ls : Array Bool) (a : Act) (w : World) (ρ : Env) : Prop where
  inv : Inv P ρ0 N0 w0 .nil H N lo D a w ρ
  tr : ∀ t u, T.get t = some u → (∀ j o, j < n → ls.getD j true = false → ops[j]? = some o → o.dst ≠ some t) → ∃ v, a.tmps[t]? = some v ∧ VR ρ u v
  room : ∀ j o t, j < n → ls.getD j true = false → ops[j]? = some o → o.dst = some t → t < a.tmps.size
  closed : Closed ops ls
  size : ls.size = ops.size
theorem put_size (a : Act) (d : Option Tmp) (v : Value) : (a.put d v).tmps.size = a.tmps.size := by
  cases d with
  | none => rfl
  | some d => simp [Act.put]
theorem put_at (a : Act) {d : Tmp} (v : Value) (h : d < a.tmps.size) : (a.put (some d) v).tmps[d]? = some v := by simp [Act.put, h]
theorem put_ne (a : Act) {d : Option Tmp} (v : Value) {t : Tmp} (h : d ≠ some t) : (a.put d v).tmps[t]? = a.tmps[t]? := by
  cases d with
  | none => rfl
  | some d =>
    have hne : d ≠ t := fun e => h (by rw [e])
    simp only [Act.put]
    rw [Array.getElem?_setIfInBounds_ne hne]
theorem unset {ls : Array Bool} {i j : Nat} (hi : i < ls.size) (h : (ls.setIfInBounds i true).getD j true = false) : j ≠ i ∧ ls.getD j true = false := by
  by_cases e : i = j
  · subst e; simp [Array.getD_eq_getD_getElem?, hi] at h
  · rw [getD_set_ne true e] at h; exact ⟨fun h => e h.symm, h⟩

section
variable {P : Program} {G : Nat} {call : CallT} {yld : YldT} {ops : Array Oper} {n : Nat} {ρ0 : Env} {N0 : Nat} {w0 : World} {T : PT Value} {H : HP} {N lo : Nat} {D : List DE}
theorem chkF_inv : ∀ {fl : List Nat}, chkF P G call yld ops T H N fl = true → ∀ j ∈ fl, ∃ o d u, ops[j]? = some o ∧ o.dst = some d ∧ aop P G call yld o T H N = .ok (.v u [] N) ∧ T.get d = some u
  | [], _, j, hj => by simp at hj
  | i :: fl, h, j, hj => by
    have h' : ((match nth ops.toList i with
      | some o => (match o.dst with
        | some d => (match aop P G call yld o T H N with
          | .ok (.v u [] N') => Nat.beq N' N && (match T.get d with | some u' => beqV 6 u u' | none => false)
          | _ => false)
        | none => false)
      | none => false) && chkF P G call yld ops T H N fl) = true := h
    rw [Bool.and_eq_true] at h'
    rcases List.mem_cons.1 hj with rfl | hj
    · have h1 := h'.1
      rw [nth_eq, Array.getElem?_toList] at h1
      split at h1
      · rename_i o ho
        split at h1
        · rename_i d hd
          split at h1
          · rename_i u N' hop
            rw [Bool.and_eq_true] at h1
            have hN := Nat.eq_of_beq_eq_true h1.1
            subst hN
            split at h1
            · rename_i u' hu
              have := beqV_eq 6 _ _ h1.2
              subst this
              exact ⟨o, d, u, ho, hd, hop, hu⟩
            · exact absurd h1.2 (by simp)
          · cases h1
        · cases h1
      · cases h1
    · exact chkF_inv h'.2 j hj
/-- What is not waited for comes up. -/
theorem MI.float (hc : CallOk P G call) (hy : YldOk P G yld) (hG : Glob G ρ0) {ls : Array Bool} {a : Act} {w : World} {ρ : Env} (I : MI P ops n ρ0 N0 w0 T H N lo D ls a w ρ) {i : Nat} (hi : i < n) (_ : n ≤ ops.size) (hr : i ∈ Region.ready .any ops ls)
    {o on : Oper} {d : Tmp} {u : Value} (ho : ops[i]? = some o) (hd : o.dst = some d) (hop : aop P G call yld o T H N = .ok (.v u [] N)) (hu : T.get d = some u) (hfb : floatB ops n on o = true) (ro : Option Nat) (m : Nat) (Q : Exit → Act → World → Prop) (K : Act → World → Prop)
    (hK : ∀ a' w' ρ', MI P ops n ρ0 N0 w0 T H N lo D (ls.setIfInBounds i true) a' w' ρ' → K a' w') : wpOpIn (fe ro) m P ops Q i K a w := by
  have hun : ls.getD i true = false := (mem_ready.1 hr).1
  have hlt : i < ls.size := getD_size' hun
  unfold floatB at hfb
  simp only [Bool.and_eq_true] at hfb
  obtain ⟨⟨hg, _⟩, hlook⟩ := hfb
  have hguard : o.guard = none := by simpa using hg
  have hw : Region.wanted o (yielded ops a.tmps) = true := by simp [Region.wanted, hguard]
  have hT : ∀ t, Operand.tmp t ∈ o.op.operands → ∀ u, T.get t = some u → ∃ v, a.tmps[t]? = some v ∧ VR ρ u v := fun t ht u hu => I.tr t u hu fun j oj hj hunj hoj hdj => by
    have h1 := List.all_eq_true.1 hlook t (by
      unfold Oper.looksAt
      exact List.mem_append_left _ (List.mem_filterMap.2 ⟨.tmp t, by simpa using ht, rfl⟩))
    have h2 := List.all_eq_true.1 h1 (oj, j) (by
      rw [List.mem_zipIdx_iff_getElem?, List.getElem?_take_of_lt hj, Array.getElem?_toList]; exact hoj)
    simp only [Bool.or_eq_true, bne_iff_ne, ne_eq] at h2
    rcases h2 with h2 | h2
    · exact h2 hdj
    · have h3 := waits_ready hr ho h2
      rw [getD_both hunj] at h3
      cases h3
  have hok := aop_looks hc hy I.inv.wr.sat hT (hG.mono I.inv.wr.ext) I.inv.wr.named hop
  unfold wpOpIn
  rw [ho]
  simp only [hw, if_true]
  refine hok.2 I.inv.dom ro m K Q fun v w' ρ' hgr hv => hK _ w' ρ' ⟨I.inv.grew hgr (fun k h1 h2 => by omega) (Nat.le_refl _) (fun k b hk => .inr hk) (nilTR _ _) (put_defers _ _ _), fun t u' ht hh => ?_, fun j oj t hj hunj hoj hdj => ?_, I.closed.set hr, by simp [I.size]⟩
  · by_cases e : d = t
    · subst e
      rw [hu] at ht
      cases ht
      exact ⟨v, by rw [hd]; exact put_at a v (I.room i o d hi hun ho hd), hv⟩
    · obtain ⟨v0, h1, h2⟩ := I.tr t u' ht fun j oj hj hunj hoj hdj => by
        by_cases ej : i = j
        · subst ej; rw [ho] at hoj; cases hoj; rw [hd] at hdj; cases hdj; exact e rfl
        · exact hh j oj hj (by rw [getD_set_ne true ej]; exact hunj) hoj hdj
      exact ⟨v0, by rw [put_ne a v (by rw [hd]; exact fun h => e (Option.some.inj h))]; exact h1, h2.mono hgr.ext⟩
  · rw [put_size]
    exact I.room j oj t hj (unset hlt hunj).2 hoj hdj

theorem one_inv {o : Oper} {R : OpsC} {r : Ex × St} (h : (oneF P G o R).run call yld T H N lo D = .ok r) :
    ∃ out, aop P G call yld o T H N = .ok out ∧ (match out with
      | .v u d N2 => N ≤ N2 ∧ ∃ T2 H2, R.run call yld T2 H2 N2 lo D = .ok r ∧ PutOk o.dst T u T2 ∧ ∀ n b, H2.get n = some b → (n, b) ∈ d ∨ H.get n = some b
      | .w u H2 N2 lo2 => N ≤ N2 ∧ ∃ T2, R.run call yld T2 H2 N2 (min lo lo2) D = .ok r ∧ PutOk o.dst T u T2) := by
  have hop := opF_ok P G o
  unfold oneF at h
  cases ho : opF P G o with
  | pure f =>
    rw [ho] at hop h
    have h' : f T (fun u => (putF (β := Ex × St) o.dst).run T u (fun T => R.run call yld T H N lo D)) = .ok r := h
    obtain ⟨u, h1, h2⟩ := hop call yld H T _ r h'
    obtain ⟨T2, h3, h4⟩ := put_ok h2
    exact ⟨_, h1 N, Nat.le_refl _, T2, H, h3, h4, fun n b hn => .inr hn⟩
  | gen f =>
    rw [ho] at hop h
    have h' : Rs.rec (motive := fun _ => RX) (fun e => .bad e) (fun out => Out.rec (motive := fun _ => RX)
      (fun u d N' => Bool.rec (motive := fun _ => RX) (.bad 219) ((putF (β := Ex × St) o.dst).run T u (fun T => addX d H (fun H => R.run call yld T H N' lo D))) (Nat.ble N N'))
      (fun u H N' lo' => Bool.rec (motive := fun _ => RX) (.bad 219) ((putF (β := Ex × St) o.dst).run T u (fun T => rawN (Bool.rec (motive := fun _ => Nat) lo' lo (Nat.ble lo lo')) (fun lo => R.run call yld T H N' lo D))) (Nat.ble N N')) out) (f call yld T H N) = .ok r := h
    cases hf : f call yld T H N with
    | bad e => rw [hf] at h'; cases h'
    | ok out =>
      rw [hf] at h'
      refine ⟨out, hop call yld T H N out hf, ?_⟩
      cases out with
      | v u d N2 =>
        have h2 : Bool.rec (motive := fun _ => RX) (.bad 219) ((putF (β := Ex × St) o.dst).run T u (fun T => addX d H (fun H => R.run call yld T H N2 lo D))) (Nat.ble N N2) = .ok r := h'
        cases hb : Nat.ble N N2 with
        | false => rw [hb] at h2; cases h2
        | true =>
          rw [hb] at h2
          obtain ⟨T2, h3, h4⟩ := put_ok h2
          obtain ⟨H2, h5, h6⟩ := addX_spec _ _ _ _ h3
          exact ⟨Nat.le_of_ble_eq_true hb, T2, H2, h5, h4, h6⟩
      | w u H2 N2 lo2 =>
        have h2 : Bool.rec (motive := fun _ => RX) (.bad 219) ((putF (β := Ex × St) o.dst).run T u (fun T => rawN (Bool.rec (motive := fun _ => Nat) lo2 lo (Nat.ble lo lo2)) (fun lo => R.run call yld T H2 N2 lo D))) (Nat.ble N N2) = .ok r := h'
        cases hb : Nat.ble N N2 with
        | false => rw [hb] at h2; cases h2
        | true =>
          rw [hb] at h2
          obtain ⟨T2, h3, h4⟩ := put_ok h2
          rw [rawN_eq] at h3
          have : Bool.rec (motive := fun _ => Nat) lo2 lo (Nat.ble lo lo2) = min lo lo2 := by
            have hm := min_cond lo lo2
            revert hm
            cases Nat.ble lo lo2 <;> exact id
          rw [this] at h3
          exact ⟨Nat.le_of_ble_eq_true hb, T2, h3, h4⟩
/-- The first writer comes up. -/
theorem MI.step (hc : CallOk P G call) (hy : YldOk P G yld) (hG : Glob G ρ0) {ls : Array Bool} {a : Act} {w : World} {ρ : Env} (I : MI P ops n ρ0 N0 w0 T H N lo D ls a w ρ) (hr : n ∈ Region.ready .any ops ls)
    {on : Oper} (hon : ops[n]? = some on) (hgd : on.guard = none) (hlook : ∀ t, t ∈ on.looksAt ops → ∀ j o, j < n → ls.getD j true = false → ops[j]? = some o → o.dst ≠ some t) (_ : ∀ d, on.dst = some d → ∀ j o, j < n → ls.getD j true = false → ops[j]? = some o → o.dst ≠ some d)
    {T1 : PT Value} {H1 : HP} {N1 lo1 : Nat} {D1 : List DE} {x : Ex} (hrun : (opsF P G ops [on]).run call yld T H N lo D = .ok (x, ⟨T1, H1, N1, lo1, D1⟩)) {Nend : Nat} (hF : Free ρ0 N0 Nend) (hend : N1 ≤ Nend) (ro : Option Nat) (m : Nat) (Q : Exit → Act → World → Prop) (K : Act → World → Prop)
    (hK : ∀ a' w' ρ', MI P ops n ρ0 N0 w0 T1 H1 N1 lo1 D1 (ls.setIfInBounds n true) a' w' ρ' → K a' w') : wpOpIn (fe ro) m P ops Q n K a w := by
  have hun : ls.getD n true = false := (mem_ready.1 hr).1
  have hlt : n < ls.size := getD_size' hun
  have hw : Region.wanted on (yielded ops a.tmps) = true := by simp [Region.wanted, hgd]
  have hT : ∀ t, Operand.tmp t ∈ on.op.operands → ∀ u, T.get t = some u → ∃ v, a.tmps[t]? = some v ∧ VR ρ u v := fun t ht u hu => I.tr t u hu (hlook t (by
    unfold Oper.looksAt
    exact List.mem_append_left _ (List.mem_filterMap.2 ⟨.tmp t, by simpa using ht, rfl⟩)))
  have h' : (oneF P G on (opsF P G ops [])).run call yld T H N lo D = .ok (x, ⟨T1, H1, N1, lo1, D1⟩) := by
    have e : opsF P G ops [on] = oneF P G on (opsF P G ops []) := by
      show Option.rec (motive := fun _ => OpsC) (oneF P G on (opsF P G ops [])) _ on.guard = _
      rw [hgd]
    rw [e] at hrun; exact hrun
  obtain ⟨out, hop, hrest⟩ := one_inv h'
  have hok := aop_looks hc hy I.inv.wr.sat hT (hG.mono I.inv.wr.ext) I.inv.wr.named hop
  -- the table behind it
  have hTab : ∀ {u : Value} {T2 : PT Value} {v : Value} {ρ' : Env}, PutOk on.dst T u T2 → VR ρ' u v → Ext ρ ρ' → ∀ t u', T2.get t = some u' → (∀ j o, j < n → (ls.setIfInBounds n true).getD j true = false → ops[j]? = some o → o.dst ≠ some t) → ∃ v', (a.put on.dst v).tmps[t]? = some v' ∧ VR ρ' u' v' := fun {u T2 v ρ'} hp hv hE t u' ht hh => by
    have old : ∀ u', T.get t = some u' → ∃ v, a.tmps[t]? = some v ∧ VR ρ u' v := fun u' hu' => I.tr t u' hu' fun j o hj hunj hoj => hh j o hj (by rw [getD_set_ne true (by omega)]; exact hunj) hoj
    rcases hp with ⟨k1, k2⟩ | ⟨d, y, k1, k2, k3⟩
    · subst k2
      obtain ⟨v0, e1, e2⟩ := old u' ht
      exact ⟨v0, by rw [k1]; exact e1, e2.mono hE⟩
    · rw [k3] at ht
      by_cases e : t = d
      · subst e
        rw [if_pos rfl] at ht
        cases ht
        obtain ⟨v0, e1, _⟩ := old y k2
        exact ⟨v, by rw [k1]; exact put_at a v (Array.getElem?_eq_some_iff.1 e1).1, hv⟩
      · rw [if_neg e] at ht
        obtain ⟨v0, e1, e2⟩ := old u' ht
        exact ⟨v0, by rw [put_ne a v (by rw [k1]; exact fun h => e (Option.some.inj h).symm)]; exact e1, e2.mono hE⟩
  have hroom : ∀ (v : Value) j o t, j < n → (ls.setIfInBounds n true).getD j true = false → ops[j]? = some o → o.dst = some t → t < (a.put on.dst v).tmps.size := fun v j o t hj hunj hoj hdj => by
    rw [put_size]
    exact I.room j o t hj (unset hlt hunj).2 hoj hdj
  unfold wpOpIn
  rw [hon]
  simp only [hw, if_true]
  cases out with
  | v u d N2 =>
    obtain ⟨hle, T2, H2, hfin, hput, hH2⟩ := hrest
    have hf : Rs.ok (Ex.normal, (⟨T2, H2, N2, lo, D⟩ : St)) = .ok (x, ⟨T1, H1, N1, lo1, D1⟩) := hfin
    cases hf
    exact hok.2 I.inv.dom ro m K Q fun v w' ρ' hgr hv => hK _ w' ρ' ⟨I.inv.grew hgr (I.inv.free hF hend) hle hH2 (nilTR _ _) (put_defers _ _ _), hTab hput hv hgr.ext, hroom v, I.closed.set hr, by simp [I.size]⟩
  | w u H2 N2 lo2 =>
    obtain ⟨hle, T2, hfin, hput⟩ := hrest
    have hf : Rs.ok (Ex.normal, (⟨T2, H2, N2, min lo lo2, D⟩ : St)) = .ok (x, ⟨T1, H1, N1, lo1, D1⟩) := hfin
    cases hf
    exact hok.2 I.inv.dom ro m K Q fun v w' ρ' hgr hv => hK _ w' ρ' ⟨I.inv.wrote hgr hle (nilTR _ _) (put_defers _ _ _), hTab hput hv hgr.ext, hroom v, I.closed.set hr, by simp [I.size]⟩
end
end Ev
end
end Go.Proofs.YtbafiahmcfkboaaDoor
