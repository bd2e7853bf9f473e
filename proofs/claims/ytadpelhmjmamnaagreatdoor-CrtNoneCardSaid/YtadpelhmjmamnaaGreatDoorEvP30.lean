/- The reckoner: names that go with an answer. No conditions. -/
import Derived.Test.YtadpelhmjmamnaaGreatDoorEvP29
namespace Go.Proofs.YtadpelhmjmamnaaGreatDoor.Ev
open Go Go.RowKit

theorem mapO_at {α β : Type} {f : α → Option β} : ∀ {l : List α} {l' : List β}, mapO f l = some l' → l'.length = l.length ∧ ∀ (i : Nat) (y : β), l'[i]? = some y → ∃ x, l[i]? = some x ∧ f x = some y
  | [], l', h => by
    have h' : some [] = some l' := h
    cases h'
    exact ⟨rfl, fun i y e => by simp at e⟩
  | x :: l, l', h => by
    have h' : (match f x with | some y => (match mapO f l with | some l => some (y :: l) | none => none) | none => none) = some l' := h
    split at h'
    · rename_i y hy
      split at h'
      · rename_i l2 hl
        cases h'
        obtain ⟨h1, h2⟩ := mapO_at hl
        refine ⟨by simp [h1], fun i z e => ?_⟩
        cases i with
        | zero => simp at e; subst e; exact ⟨x, rfl, hy⟩
        | succ i => simp at e; obtain ⟨u, g1, g2⟩ := h2 i z e; exact ⟨u, by simpa using g1, g2⟩
      · cases h'
    · cases h'
theorem mapO_VL {ρ ρx : Env} {f : Value → Option Value} (hf : ∀ u v u', VR ρ u v → f u = some u' → VR ρx u' v) {us vs us' : List Value} (hv : VL ρ us vs) (h : mapO f us = some us') : VL ρx us' vs := by
  obtain ⟨h1, h2⟩ := mapO_at h
  refine ⟨h1.trans hv.1, fun i u' v e1 e2 => ?_⟩
  obtain ⟨u, g1, g2⟩ := h2 i u' e1
  exact hf u v u' (hv.2 i u v g1 e2) g2

/-- Where the names that go along stand anew. -/
def JN (N : Nat) (σ : PT Nat) (cnt : Nat) : Prop := N ≤ cnt ∧ (∀ n m, σ.get n = some m → N ≤ n ∧ N ≤ m ∧ m < cnt) ∧ ∀ n n' m, σ.get n = some m → σ.get n' = some m → n = n'
open Classical in
noncomputable def anew (N cnt : Nat) (σ : PT Nat) (ρ ρ' : Env) : Env := fun m => if N ≤ m ∧ m < cnt then (if h : ∃ n, σ.get n = some m then ρ' (Classical.choose h) else none) else ρ m
theorem anew_at {N cnt : Nat} {σ : PT Nat} {ρ ρ' : Env} (J : JN N σ cnt) {n m : Nat} (h : σ.get n = some m) : anew N cnt σ ρ ρ' m = ρ' n := by
  have h1 := J.2.1 n m h
  unfold anew
  rw [if_pos h1.2]
  have hex : ∃ n, σ.get n = some m := ⟨n, h⟩
  rw [dif_pos hex]
  rw [J.2.2 _ n m (Classical.choose_spec hex) h]
theorem anew_out {N cnt : Nat} {σ : PT Nat} {ρ ρ' : Env} {m : Nat} (h : m < N ∨ cnt ≤ m) : anew N cnt σ ρ ρ' m = ρ m := by
  unfold anew
  rw [if_neg (by omega)]
theorem anew_in {N cnt : Nat} {σ : PT Nat} {ρ ρ' : Env} {m : Nat} {p : Nat × Nat} (h1 : N ≤ m) (h2 : m < cnt) (h : anew N cnt σ ρ ρ' m = some p) : ∃ n, σ.get n = some m ∧ ρ' n = some p := by
  unfold anew at h
  rw [if_pos ⟨h1, h2⟩] at h
  by_cases hex : ∃ n, σ.get n = some m
  · rw [dif_pos hex] at h
    exact ⟨_, Classical.choose_spec hex, h⟩
  · rw [dif_neg hex] at h; cases h
section
variable {N cnt : Nat} {σ : PT Nat} {ρ ρ' : Env}
theorem renN_sound (J : JN N σ cnt) (hs : ∀ n, n < N → ρ' n = ρ n) {n m : Nat} (h : renN N σ n = some m) : anew N cnt σ ρ ρ' m = ρ' n := by
  unfold renN at h
  cases hb : Nat.blt n N with
  | true =>
    rw [hb] at h
    cases h
    have hlt : n < N := by
      have := Nat.le_of_ble_eq_true (show Nat.ble (n + 1) N = true from hb); omega
    rw [anew_out (.inl hlt), hs n hlt]
  | false => rw [hb] at h; exact anew_at J h
theorem renV_sound (J : JN N σ cnt) (hs : ∀ n, n < N → ρ' n = ρ n) : ∀ (d : Nat) (u v u' : Value), VR ρ' u v → renV N σ d u = some u' → VR (anew N cnt σ ρ ρ') u' v := by
  intro d
  induction d with
  | zero => intro u v u' _ h; cases h
  | succ d ih =>
    intro u v u' hv h
    have same : ∀ u, (cond (flat 1 u) (some u) none : Option Value) = some u' → VR ρ' u v → VR (anew N cnt σ ρ ρ') u' v := fun u h hv => by
      cases hf : flat 1 u with
      | false => rw [hf] at h; cases h
      | true =>
        rw [hf] at h
        cases h
        rw [flat_eq 1 _ hf hv]
        exact flat_le 1 _ hf _
    cases hv with
    | @ptr n o s a C hn =>
      have h' : (match renN N σ n with | some m => some (.pointer (some ⟨m, o, s⟩)) | none => none : Option Value) = some u' := h
      split at h'
      · rename_i m hm; cases h'; exact .ptr ((renN_sound J hs hm).trans hn)
      · cases h'
    | @sl n o l c a C hn =>
      have h' : (match renN N σ n with | some m => some (.slice (some ⟨m, o, none⟩) l c) | none => none : Option Value) = some u' := h
      split at h'
      · rename_i m hm; cases h'; exact .sl ((renN_sound J hs hm).trans hn)
      · cases h'
    | @soft n o q l l' c a C hn h1 h2 h3 =>
      have h' : (match renN N σ n with | some m => some (.slice (some ⟨m, o, some q⟩) l l') | none => none : Option Value) = some u' := h
      split at h'
      · rename_i m hm; cases h'; exact .soft ((renN_sound J hs hm).trans hn) h1 h2 h3
      · cases h'
    | @map n a C hn =>
      have h' : (match renN N σ n with | some m => some (.map (some m)) | none => none : Option Value) = some u' := h
      split at h'
      · rename_i m hm; cases h'; exact .map ((renN_sound J hs hm).trans hn)
      · cases h'
    | @iface t u v hv =>
      have h' : (match renV N σ d u with | some v => some (.iface t v) | none => none : Option Value) = some u' := h
      split at h'
      · rename_i v2 hm; cases h'; exact .iface (ih _ _ _ hv hm)
      · cases h'
    | @agg us vs h1 h2 =>
      have h' : (match mapO (renV N σ d) us with | some l => some (.agg ⟨l⟩) | none => none : Option Value) = some u' := h
      split at h'
      · rename_i l hl
        cases h'
        have := mapO_VL (fun u v u' => ih u v u') ⟨h1, h2⟩ hl
        exact .agg this.1 this.2
      · cases h'
    | @tuple us vs h1 h2 =>
      have h' : (match mapO (renV N σ d) us with | some l => some (.tuple ⟨l⟩) | none => none : Option Value) = some u' := h
      split at h'
      · rename_i l hl
        cases h'
        have := mapO_VL (fun u v u' => ih u v u') ⟨h1, h2⟩ hl
        exact .tuple this.1 this.2
      · cases h'
    | @func f us vs xs ys h1 h2 h3 h4 =>
      have h' : (match mapO (renV N σ d) us, mapO (renV N σ d) xs with | some a, some b => some (.func (.func f) ⟨a⟩ ⟨b⟩) | _, _ => none : Option Value) = some u' := h
      split at h'
      · rename_i a b ha hb
        cases h'
        have k1 := mapO_VL (fun u v u' => ih u v u') ⟨h1, h2⟩ ha
        have k2 := mapO_VL (fun u v u' => ih u v u') ⟨h3, h4⟩ hb
        exact .func k1.1 k1.2 k2.1 k2.2
      · cases h'
    | @meth f us vs xs ys h1 h2 h3 h4 => exact same (.func (.method f) ⟨us⟩ ⟨xs⟩) h (.meth h1 h2 h3 h4)
    | @yld n a C hn => exact same (.func (.yield n) ⟨[]⟩ ⟨[]⟩) h (.yld hn)
    | bool b => exact same (.bool b) h (.bool b)
    | int k n => exact same (.int k n) h (.int k n)
    | float k n => exact same (.float k n) h (.float k n)
    | complex k a b => exact same (.complex k a b) h (.complex k a b)
    | string s => exact same (.string s) h (.string s)
    | nilp => exact same (.pointer none) h .nilp
    | nils l c => exact same (.slice none l c) h (.nils l c)
    | nilm => exact same (.map none) h .nilm
    | nilc => exact same (.chan none) h .nilc
    | nilf => exact same .nilFunc h .nilf
    | nili => exact same .nilIface h .nili
theorem renB_sound {P : Program} (J : JN N σ cnt) (hs : ∀ n, n < N → ρ' n = ρ n) {C : Nat} {b b' : AB} {o : Option Obj} (ho : OR P ρ' C b o) (h : renB N σ b = some b') : OR P (anew N cnt σ ρ ρ') C b' o := by
  have hV := renV_sound (ρ := ρ) (ρ' := ρ') J hs 6
  cases b with
  | cells g e l =>
    have h' : (match mapO (renV N σ 6) l with | some l => some (.cells g e l) | none => none : Option AB) = some b' := h
    split at h'
    · rename_i l2 hl
      cases h'
      obtain ⟨cs, h1, h2, h3, h4⟩ := ho
      have hlen := (mapO_at hl).1
      refine ⟨cs, h1, by rw [hlen]; exact mapO_VL (fun u v u' => hV u v u') h2 hl, fun hg => by rw [hlen]; exact h3 hg, h4⟩
    · cases h'
  | map l =>
    have h' : (match mapO (renE N σ) l with | some l => some (.map l) | none => none : Option AB) = some b' := h
    split at h'
    · rename_i l2 hl
      cases h'
      obtain ⟨es, clock, h1, h2, h3⟩ := ho
      obtain ⟨hlen, hat⟩ := mapO_at hl
      have both : ∀ (i : Nat) (y : Value × Value), l2[i]? = some y → ∃ x, l[i]? = some x ∧ renV N σ 6 x.1 = some y.1 ∧ renV N σ 6 x.2 = some y.2 := fun i y hy => by
        obtain ⟨x, g1, g2⟩ := hat i y hy
        refine ⟨x, g1, ?_⟩
        unfold renE at g2
        split at g2
        · rename_i a b ha hb; cases g2; exact ⟨ha, hb⟩
        · cases g2
      refine ⟨es, clock, h1, ⟨by simpa [hlen] using h2.1, fun i u v e1 e2 => ?_⟩, ⟨by simpa [hlen] using h3.1, fun i u v e1 e2 => ?_⟩⟩
      · rw [List.getElem?_map] at e1
        cases hy : l2[i]? with
        | none => rw [hy] at e1; cases e1
        | some y =>
          rw [hy] at e1
          cases e1
          obtain ⟨x, g1, g2, g3⟩ := both i y hy
          exact hV _ _ _ (h2.2 i x.1 v (by rw [List.getElem?_map, g1]; rfl) e2) g2
      · rw [List.getElem?_map] at e1
        cases hy : l2[i]? with
        | none => rw [hy] at e1; cases e1
        | some y =>
          rw [hy] at e1
          cases e1
          obtain ⟨x, g1, g2, g3⟩ := both i y hy
          exact hV _ _ _ (h3.2 i x.2 v (by rw [List.getElem?_map, g1]; rfl) e2) g3
    · cases h'
  | dfr => cases h
  | loop st pend T ps as bo d => cases h
end
theorem gather_inv {N : Nat} {H : HP} {σ : PT Nat} : ∀ {olds : List Nat} {l : List (Nat × AB)}, gather N H σ olds = some l → ∀ p ∈ l, ∃ n b, H.get n = some b ∧ σ.get n = some p.1 ∧ renB N σ b = some p.2
  | [], l, h, p, hp => by
    have h' : some [] = some l := h
    cases h'
    simp at hp
  | n :: olds, l, h, p, hp => by
    have h' : (match gather N H σ olds with
      | none => none
      | some l => (match H.get n with
        | none => some l
        | some b => (match σ.get n, renB N σ b with | some m, some b => some ((m, b) :: l) | _, _ => none))) = some l := h
    split at h'
    · cases h'
    · rename_i l2 hl
      split at h'
      · cases h'; exact gather_inv hl p hp
      · rename_i b hb
        split at h'
        · rename_i m b2 hm hb2
          cases h'
          rcases List.mem_cons.1 hp with rfl | hp
          · exact ⟨n, b, hb, hm, hb2⟩
          · exact gather_inv hl p hp
        · cases h'
theorem JN.put {N cnt n : Nat} {σ σ' : PT Nat} (J : JN N σ cnt) (hn : N ≤ n) (h : ∀ j, σ'.get j = if j = n then some cnt else σ.get j) : JN N σ' (cnt + 1) := by
  refine ⟨by have := J.1; omega, fun i m e => ?_, fun i i' m e1 e2 => ?_⟩
  · rw [h] at e
    by_cases g : i = n
    · rw [if_pos g] at e; cases e; have := J.1; omega
    · rw [if_neg g] at e; have := J.2.1 i m e; omega
  · rw [h] at e1 e2
    by_cases g : i = n <;> by_cases g' : i' = n
    · omega
    · rw [if_pos g] at e1; rw [if_neg g'] at e2; cases e1; have := J.2.1 i' _ e2; omega
    · rw [if_neg g] at e1; rw [if_pos g'] at e2; cases e2; have := J.2.1 i _ e1; omega
    · rw [if_neg g] at e1; rw [if_neg g'] at e2; exact J.2.2 i i' m e1 e2
theorem disc_inv {β : Type} {N : Nat} {H : HP} {k : List Nat → PT Nat → Nat → Rs β} {r : β} : ∀ (fuel : Nat) (todo : List Value) (olds : List Nat) (σ : PT Nat) (cnt : Nat), disc N H fuel todo olds σ cnt k = .ok r → JN N σ cnt →
    ∃ olds' σ' cnt', k olds' σ' cnt' = .ok r ∧ JN N σ' cnt' := by
  intro fuel
  induction fuel with
  | zero => intro todo olds σ cnt h; cases h
  | succ fuel ih =>
    intro todo olds σ cnt h J
    cases todo with
    | nil => exact ⟨olds, σ, cnt, h, J⟩
    | cons v rest =>
      have place : ∀ n, discAt N H (fun todo olds σ cnt k => disc N H fuel todo olds σ cnt k) n rest olds σ cnt k = .ok r → ∃ olds' σ' cnt', k olds' σ' cnt' = .ok r ∧ JN N σ' cnt' := fun n h => by
        unfold discAt at h
        cases hb : Nat.blt n N with
        | true => rw [hb] at h; exact ih _ _ _ _ h J
        | false =>
          rw [hb] at h
          have hn : N ≤ n := by have := ble_false (m := n + 1) (n := N) hb; omega
          simp only [cond] at h
          split at h
          · exact ih _ _ _ _ h J
          · rcases PT.insK_spec 60 σ n (some cnt) with hbad | ⟨σ', h1, h2⟩
            · rw [hbad] at h; cases h
            · rw [h1] at h
              have J' := J.put hn h2
              split at h
              · rw [appK_eq] at h; exact ih _ _ _ _ h J'
              · rw [appK_eq] at h; exact ih _ _ _ _ h J'
              · exact ih _ _ _ _ h J'
      have app : ∀ l : List Value, (appK l rest fun todo => disc N H fuel todo olds σ cnt k) = .ok r → ∃ olds' σ' cnt', k olds' σ' cnt' = .ok r ∧ JN N σ' cnt' := fun l h => by
        rw [appK_eq] at h; exact ih _ _ _ _ h J
      have on : disc N H fuel rest olds σ cnt k = .ok r → ∃ olds' σ' cnt', k olds' σ' cnt' = .ok r ∧ JN N σ' cnt' := fun h => ih _ _ _ _ h J
      cases v with
      | pointer a => cases a with
        | none => exact on h
        | some a => exact place a.block h
      | slice a l c => cases a with
        | none => exact on h
        | some a => exact place a.block h
      | map a => cases a with
        | none => exact on h
        | some a => exact place a h
      | iface t v => exact ih _ _ _ _ (show disc N H fuel (v :: rest) olds σ cnt k = .ok r from h) J
      | agg cs => exact app _ h
      | tuple cs => exact app _ h
      | func f a b =>
        have h' : (appK a.toList rest fun todo => appK b.toList todo fun todo => disc N H fuel todo olds σ cnt k) = .ok r := h
        rw [appK_eq, appK_eq] at h'
        exact ih _ _ _ _ h' J
      | bool b => exact on h
      | int k n => exact on h
      | float k n => exact on h
      | complex k a b => exact on h
      | string s => exact on h
      | chan a => exact on h
      | nilFunc => exact on h
      | nilIface => exact on h
/-- **What a call that wrote to nothing hands back.** -/
theorem packC_inv {N : Nat} {H' : HP} {u : Value} {out : Out} (h : packC N H' u = .ok out) (hf : flat 3 u = false) : ∃ fuel, disc N H' fuel [u] [] .nil N (packEnd N H' u) = Rs.ok out := by
  rw [packC.eq_1, hf, cond_false] at h
  exact ⟨packFuel, h⟩
theorem packC_sound {P : Program} {ρ ρ' : Env} {N N' lo : Nat} {H' : HP} {w w' : World} {u v : Value} {out : Out} (W : Wrote P ρ ρ' N N' lo H' w w') (hD : Dom ρ N) (hle : N ≤ N') (hlo : N ≤ lo) (hv : VR ρ' u v) (h : packC N H' u = .ok out) :
    ∃ u' d N2, out = .v u' d N2 ∧ N ≤ N2 ∧ ∃ ρ2, Grew P ρ ρ2 N N2 d w w' ∧ VR ρ2 u' v := by
  have hbel : Below w.heap.size w w' := ⟨W.os, W.tape, W.output, W.size, fun x hx => W.keep x hx (fun n p h1 h2 => by omega)⟩
  have hD' : Dom ρ' N' := hD.same hle W.same
  cases hf : flat 3 u with
  | true =>
    unfold packC at h
    rw [hf] at h
    cases h
    rw [flat_eq 3 _ hf hv]
    exact ⟨_, _, _, rfl, Nat.le_refl _, ρ, ⟨.refl ρ, fun _ _ => rfl, hbel, fun n p h1 h2 => by omega, fun p h => by simp at h, fun p h => by simp at h, fun p h => by simp at h⟩, flat_le 3 _ hf _⟩
  | false =>
    obtain ⟨fuel, h'⟩ := packC_inv h hf
    obtain ⟨olds, σ, cnt, h1, J⟩ := disc_inv _ _ _ _ _ h' ⟨Nat.le_refl _, fun n m e => by rw [PT.get_nil] at e; (cases e), fun n n' m e => by rw [PT.get_nil] at e; (cases e)⟩
    have hs : ∀ n, n < N → ρ' n = ρ n := fun n hn => W.same n (.inl hn)
    unfold packEnd at h1
    split at h1
    · rename_i u' l hu hl
      cases h1
      have hnew : ∀ n m p, σ.get n = some m → ρ' n = some p → w.heap.size ≤ p.1 := fun n m p e1 e2 => by
        have hn := (J.2.1 n m e1).1
        have hn' : n < N' := by
          rcases Nat.lt_or_ge n N' with g | g
          · exact g
          · rw [hD' n g] at e2; cases e2
        rcases W.new n p hn hn' e2 with g | ⟨m', q, g1, g2, _⟩
        · exact g
        · omega
      refine ⟨u', l, cnt, rfl, J.1, anew N cnt σ ρ ρ', ⟨fun n p e => ?_, fun n e => anew_out e, hbel, fun m p e1 e2 e3 => ?_, fun p hp => ?_, fun p hp => ?_, fun p hp q hq a C D e1 e2 => ?_⟩, renV_sound J hs 6 _ _ _ hv hu⟩
      · have hn : n < N := by
          rcases Nat.lt_or_ge n N with g | g
          · exact g
          · rw [hD n g] at e; cases e
        rw [anew_out (.inl hn)]; exact e
      · obtain ⟨n, g1, g2⟩ := anew_in e1 e2 e3
        exact ⟨hnew n m p g1 g2, W.sat.lt n p.1 p.2 g2⟩
      · obtain ⟨n, b, g1, g2, g3⟩ := gather_inv hl p hp
        exact (J.2.1 n p.1 g2).2
      · obtain ⟨n, b, g1, g2, g3⟩ := gather_inv hl p hp
        obtain ⟨a, C, k1, k2⟩ := W.sat.blk n b g1
        exact ⟨a, C, (anew_at J g2).trans k1, renB_sound J hs k2 g3⟩
      · obtain ⟨i, b, g1, g2, g3⟩ := gather_inv hl p hp
        obtain ⟨j, c, k1, k2, k3⟩ := gather_inv hl q hq
        rw [anew_at J g2] at e1
        rw [anew_at J k2] at e2
        have hij := W.sat.inj i j b c a C D g1 k1 e1 e2
        subst hij
        rw [g2] at k2
        exact Option.some.inj k2
    · cases h1
end Go.Proofs.YtadpelhmjmamnaaGreatDoor.Ev
