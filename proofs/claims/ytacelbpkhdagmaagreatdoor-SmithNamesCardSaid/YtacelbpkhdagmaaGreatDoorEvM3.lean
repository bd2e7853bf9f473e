/- The reckoner with a memory of calls: a call that is remembered. No conditions. -/
import Derived.Test.YtacelbpkhdagmaaGreatDoorEvM2
namespace Go.Proofs.YtacelbpkhdagmaaGreatDoor.Ev
open Go Go.RowKit

section
variable {N : Nat} {σ : PT Nat} {ρ1 ρ2 : Env}
theorem renV_gen (hr : ∀ n m, renN N σ n = some m → ρ2 m = ρ1 n) : ∀ (d : Nat) (u v u' : Value), VR ρ1 u v → renV N σ d u = some u' → VR ρ2 u' v := by
  intro d
  induction d with
  | zero => intro u v u' _ h; cases h
  | succ d ih =>
    intro u v u' hv h
    have same : ∀ u, (cond (flat 1 u) (some u) none : Option Value) = some u' → VR ρ1 u v → VR ρ2 u' v := fun u h hv => by
      cases hf : flat 1 u with
      | false => rw [hf] at h; cases h
      | true =>
        rw [hf] at h
        cases h
        rw [flat_eq 1 _ hf hv]
        exact flat_le 1 _ hf _
    cases hv with
    | @ptr n o s a C hn =>
      have h' : (match renN N σ n with | some m => some (.pointer (some ⟨m, o, s⟩)) | none => none : Option Value) = some u' := h
      split at h'
      · rename_i m hm; cases h'; exact .ptr ((hr _ _ hm).trans hn)
      · cases h'
    | @sl n o l c a C hn =>
      have h' : (match renN N σ n with | some m => some (.slice (some ⟨m, o, none⟩) l c) | none => none : Option Value) = some u' := h
      split at h'
      · rename_i m hm; cases h'; exact .sl ((hr _ _ hm).trans hn)
      · cases h'
    | @soft n o q l l' c a C hn h1 h2 h3 =>
      have h' : (match renN N σ n with | some m => some (.slice (some ⟨m, o, some q⟩) l l') | none => none : Option Value) = some u' := h
      split at h'
      · rename_i m hm; cases h'; exact .soft ((hr _ _ hm).trans hn) h1 h2 h3
      · cases h'
    | @map n a C hn =>
      have h' : (match renN N σ n with | some m => some (.map (some m)) | none => none : Option Value) = some u' := h
      split at h'
      · rename_i m hm; cases h'; exact .map ((hr _ _ hm).trans hn)
      · cases h'
    | @iface t u v hv =>
      have h' : (match renV N σ d u with | some v => some (.iface t v) | none => none : Option Value) = some u' := h
      split at h'
      · rename_i v2 hm; cases h'; exact .iface (ih _ _ _ hv hm)
      · cases h'
    | @agg us vs h1 h2 =>
      have h' : (match mapO (renV N σ d) us with | some l => some (.agg ⟨l⟩) | none => none : Option Value) = some u' := h
      split at h'
      · rename_i l hl
        cases h'
        have := mapO_VL (fun u v u' => ih u v u') ⟨h1, h2⟩ hl
        exact .agg this.1 this.2
      · cases h'
    | @tuple us vs h1 h2 =>
      have h' : (match mapO (renV N σ d) us with | some l => some (.tuple ⟨l⟩) | none => none : Option Value) = some u' := h
      split at h'
      · rename_i l hl
        cases h'
        have := mapO_VL (fun u v u' => ih u v u') ⟨h1, h2⟩ hl
        exact .tuple this.1 this.2
      · cases h'
    | @func f us vs xs ys h1 h2 h3 h4 =>
      have h' : (match mapO (renV N σ d) us, mapO (renV N σ d) xs with | some a, some b => some (.func (.func f) ⟨a⟩ ⟨b⟩) | _, _ => none : Option Value) = some u' := h
      split at h'
      · rename_i a b ha hb
        cases h'
        have k1 := mapO_VL (fun u v u' => ih u v u') ⟨h1, h2⟩ ha
        have k2 := mapO_VL (fun u v u' => ih u v u') ⟨h3, h4⟩ hb
        exact .func k1.1 k1.2 k2.1 k2.2
      · cases h'
    | @meth f us vs xs ys h1 h2 h3 h4 => exact same (.func (.method f) ⟨us⟩ ⟨xs⟩) h (.meth h1 h2 h3 h4)
    | @yld n a C hn => exact same (.func (.yield n) ⟨[]⟩ ⟨[]⟩) h (.yld hn)
    | bool b => exact same (.bool b) h (.bool b)
    | int k n => exact same (.int k n) h (.int k n)
    | float k n => exact same (.float k n) h (.float k n)
    | complex k a b => exact same (.complex k a b) h (.complex k a b)
    | string s => exact same (.string s) h (.string s)
    | nilp => exact same (.pointer none) h .nilp
    | nils l c => exact same (.slice none l c) h (.nils l c)
    | nilm => exact same (.map none) h .nilm
    | nilc => exact same (.chan none) h .nilc
    | nilf => exact same .nilFunc h .nilf
    | nili => exact same .nilIface h .nili
theorem renB_gen {P : Program} (hr : ∀ n m, renN N σ n = some m → ρ2 m = ρ1 n) {C : Nat} {b b' : AB} {o : Option Obj} (ho : OR P ρ1 C b o) (h : renB N σ b = some b') : OR P ρ2 C b' o := by
  have hV := renV_gen hr 6
  cases b with
  | cells g e l =>
    have h' : (match mapO (renV N σ 6) l with | some l => some (.cells g e l) | none => none : Option AB) = some b' := h
    split at h'
    · rename_i l2 hl
      cases h'
      obtain ⟨cs, h1, h2, h3, h4⟩ := ho
      have hlen := (mapO_at hl).1
      refine ⟨cs, h1, by rw [hlen]; exact mapO_VL (fun u v u' => hV u v u') h2 hl, fun hg => by rw [hlen]; exact h3 hg, h4⟩
    · cases h'
  | map l =>
    have h' : (match mapO (renE N σ) l with | some l => some (.map l) | none => none : Option AB) = some b' := h
    split at h'
    · rename_i l2 hl
      cases h'
      obtain ⟨es, clock, h1, h2, h3⟩ := ho
      obtain ⟨hlen, hat⟩ := mapO_at hl
      have both : ∀ (i : Nat) (y : Value × Value), l2[i]? = some y → ∃ x, l[i]? = some x ∧ renV N σ 6 x.1 = some y.1 ∧ renV N σ 6 x.2 = some y.2 := fun i y hy => by
        obtain ⟨x, g1, g2⟩ := hat i y hy
        refine ⟨x, g1, ?_⟩
        unfold renE at g2
        split at g2
        · rename_i a b ha hb; cases g2; exact ⟨ha, hb⟩
        · cases g2
      refine ⟨es, clock, h1, ⟨by simpa [hlen] using h2.1, fun i u v e1 e2 => ?_⟩, ⟨by simpa [hlen] using h3.1, fun i u v e1 e2 => ?_⟩⟩
      · rw [List.getElem?_map] at e1
        cases hy : l2[i]? with
        | none => rw [hy] at e1; cases e1
        | some y =>
          rw [hy] at e1
          cases e1
          obtain ⟨x, g1, g2, g3⟩ := both i y hy
          exact hV _ _ _ (h2.2 i x.1 v (by rw [List.getElem?_map, g1]; rfl) e2) g2
      · rw [List.getElem?_map] at e1
        cases hy : l2[i]? with
        | none => rw [hy] at e1; cases e1
        | some y =>
          rw [hy] at e1
          cases e1
          obtain ⟨x, g1, g2, g3⟩ := both i y hy
          exact hV _ _ _ (h3.2 i x.2 v (by rw [List.getElem?_map, g1]; rfl) e2) g3
    · cases h'
  | dfr => cases h
  | loop st pend T ps as bo d => cases h
end

theorem oldT_inv {N : Nat} {σ : PT Nat} : ∀ {olds : List Nat} {k : PT Nat → Rs Out} {r : Out}, oldT N σ olds k = .ok r → ∃ τ, k τ = .ok r ∧ ∀ m n, τ.get m = some n → σ.get n = some m ∧ n < N
  | [], k, r, h => ⟨.nil, h, fun m n e => by rw [PT.get_nil] at e; cases e⟩
  | x :: olds, k, r, h => by
    have h' : oldT N σ olds (fun τ => match σ.get x with
      | some m => cond (Nat.blt x N) (PT.insK 60 τ m (some x) k (.bad 301)) (.bad 302)
      | none => .bad 303) = .ok r := h
    obtain ⟨τ, h1, h2⟩ := oldT_inv h'
    cases hx : σ.get x with
    | none => rw [hx] at h1; cases h1
    | some m =>
      rw [hx] at h1
      cases hb : Nat.blt x N with
      | false => rw [hb] at h1; cases h1
      | true =>
        rw [hb] at h1
        have h1 : PT.insK 60 τ m (some x) k (.bad 301) = .ok r := h1
        have hlt : x < N := by
          have := Nat.le_of_ble_eq_true (show Nat.ble (x + 1) N = true from hb); omega
        rcases PT.insK_spec 60 τ m (some x) with hbad | ⟨τ', g1, g2⟩
        · rw [hbad] at h1; cases h1
        · rw [g1] at h1
          refine ⟨τ', h1, fun i n e => ?_⟩
          rw [g2] at e
          by_cases hi : i = m
          · rw [if_pos hi] at e; cases e; subst hi; exact ⟨hx, hlt⟩
          · rw [if_neg hi] at e; exact h2 i n e
theorem newT_inv {c N : Nat} : ∀ {j : Nat} {τ : PT Nat} {k : PT Nat → Rs Out} {r : Out}, newT c N j τ k = .ok r → ∃ τ', k τ' = .ok r ∧ ∀ m n, τ'.get m = some n → τ.get m = some n ∨ (c ≤ m ∧ m < c + j ∧ n = N + (m - c))
  | 0, τ, k, r, h => ⟨τ, h, fun m n e => .inl e⟩
  | j + 1, τ, k, r, h => by
    have h' : (forceN (Nat.add c j) fun m => forceN (Nat.add N j) fun n => PT.insK 60 τ m (some n) (fun τ' => newT c N j τ' k) (.bad 304)) = .ok r := h
    rw [forceN_eq, forceN_eq] at h'
    rcases PT.insK_spec 60 τ (Nat.add c j) (some (Nat.add N j)) with hbad | ⟨τ1, g1, g2⟩
    · rw [hbad] at h'; cases h'
    · rw [g1] at h'
      obtain ⟨τ', h1, h2⟩ := newT_inv h'
      refine ⟨τ', h1, fun m n e => ?_⟩
      rcases h2 m n e with h3 | h3
      · rw [g2] at h3
        by_cases hm : m = Nat.add c j
        · rw [if_pos hm] at h3
          cases h3
          have : m = c + j := hm
          exact .inr ⟨by omega, by omega, by show N + j = N + (m - c); omega⟩
        · rw [if_neg hm] at h3; exact .inl h3
      · exact .inr ⟨h3.1, by omega, h3.2.2⟩

/-- The remembered are right. -/
def EntOk (P : Program) (G : Nat) (tabs : List (Nat × List Value)) (f : FuncId) (e : Ent) : Prop := ∃ call, CallOk P G call ∧ ∀ te, call f e.us (tabH (e.l ++ tabE te tabs)) e.c = .ok (.v e.u e.d e.n)
def TblOk (P : Program) (G : Nat) (tabs : List (Nat × List Value)) (tbl : MT) : Prop := ∀ f t key es, tbl.get f = some t → t.get key = some es → ∀ e ∈ es, EntOk P G tabs f e
/-- The names below G alone. -/
def cutE (G : Nat) (ρ : Env) : Env := fun n => if n < G then ρ n else none
/-- What was there by its own names, what is new by the names from N on. -/
def joinE (N c : Nat) (ρ ρ' : Env) : Env := fun n => if n < N then ρ n else ρ' (n - N + c)

/-- Tables of values without places, in the program's variables. -/
def tabsB (G : Nat) (tabs : List (Nat × List Value)) : Bool := tabs.all fun p => Nat.blt p.1 G && p.2.all (flat 5)
theorem tabChk_inv {H : HP} : ∀ {tabs : List (Nat × List Value)}, tabChk H tabs = true → ∀ p ∈ tabs, ∃ e, H.get p.1 = some (.cells false e p.2)
  | [], _, p, hp => by simp at hp
  | q :: tabs, h, p, hp => by
    have h' : ((match H.get q.1 with | some (.cells false _ l) => beqL (beqV 8) l q.2 | _ => false) && tabChk H tabs) = true := h
    rw [Bool.and_eq_true] at h'
    rcases List.mem_cons.1 hp with rfl | hp
    · have h1 := h'.1
      split at h1
      · rename_i e l hl
        have := beqL_eq (fun x y => beqV_eq 8 x y) h1
        subst this
        exact ⟨e, hl⟩
      · cases h1
    · exact tabChk_inv h'.2 p hp
theorem back_ok {P : Program} {G : Nat} {f : FuncId} {vs : List Value} {N : Nat} {out : Out} {ρ : Env} {w : World} {olds : List Nat} {σ : PT Nat} {e : Ent} (J : JN G σ e.c) (hG : Glob G ρ)
    (hnext : NextOk P (callFunc f ⟨vs⟩) (anew G e.c σ (cutE G ρ) ρ) e.c (.v e.u e.d e.n) w) (h : back G N σ olds e = .ok out) : NextOk P (callFunc f ⟨vs⟩) ρ N out w := by
  obtain ⟨hle, hrun⟩ := hnext
  have hdom : Dom (anew G e.c σ (cutE G ρ) ρ) e.c := fun n hn => by
    rw [anew_out (.inr hn)]
    have := J.1
    exact if_neg (by omega)
  have hrun' := hrun hdom
  unfold back at h
  cases hf : flat 3 e.u with
  | true =>
    rw [hf, cond_true] at h
    split at h
    · cases h
      refine ⟨Nat.le_refl _, fun hD ro m o a K Q hK => hrun' ro m o a K Q fun v w' ρ' g hv => ?_⟩
      refine hK v w' ρ ⟨.refl ρ, fun _ _ => rfl, g.bel, fun n p h1 h2 => by omega, fun p h => by simp at h, fun p h => by simp at h, fun p h => by simp at h⟩ ?_
      rw [flat_eq 3 _ hf hv]
      exact flat_le 3 _ hf _
    · cases h
  | false =>
    rw [hf, cond_false] at h
    obtain ⟨τ0, h1, hτ0⟩ := oldT_inv h
    rw [forceN_eq] at h1
    obtain ⟨τ, h2, hτ⟩ := newT_inv h1
    split at h2
    · rename_i u d hu hd
      rw [forceN_eq] at h2
      cases h2
      refine ⟨Nat.le_add_right _ _, fun hD ro m o a K Q hK => hrun' ro m o a K Q fun v w' ρ' g hv => ?_⟩
      have hGN : G ≤ N := by
        rcases Nat.lt_or_ge N G with h | h
        · obtain ⟨C, hC⟩ := hG N h
          rw [hD N (Nat.le_refl _)] at hC; cases hC
        · exact h
      have hsub : e.c + Nat.sub e.n e.c = e.n := by show e.c + (e.n - e.c) = e.n; omega
      have hadd : ∀ j, Nat.add N j = N + j := fun _ => rfl
      -- names
      have hat : ∀ m n, τ.get m = some n → joinE N e.c ρ ρ' n = ρ' m := fun m n hm => by
        rcases hτ m n hm with h3 | ⟨h3, h4, rfl⟩
        · obtain ⟨h5, h6⟩ := hτ0 m n h3
          have hm' := (J.2.1 n m h5).2.2
          unfold joinE
          rw [if_pos h6, g.same m (.inl hm'), anew_at J h5]
        · unfold joinE
          rw [if_neg (by omega)]
          congr 1
          omega
      have hr : ∀ n m, renN G τ n = some m → joinE N e.c ρ ρ' m = ρ' n := fun n m hm => by
        unfold renN at hm
        cases hb : Nat.blt n G with
        | true =>
          rw [hb] at hm
          cases hm
          have hlt : n < G := by
            have := Nat.le_of_ble_eq_true (show Nat.ble (n + 1) G = true from hb); omega
          have := J.1
          unfold joinE
          rw [if_pos (by omega), g.same n (.inl (by omega)), anew_out (.inl hlt)]
          exact (if_pos hlt).symm
        | false => rw [hb] at hm; exact hat n m hm
      have hdn : ∀ p ∈ d, ∃ q ∈ e.d, τ.get q.1 = some p.1 ∧ renB G τ q.2 = some p.2 ∧ e.c ≤ q.1 ∧ q.1 < e.n ∧ p.1 = N + (q.1 - e.c) := fun p hp => by
        obtain ⟨i, hi⟩ := List.getElem?_of_mem hp
        obtain ⟨q, g1, g2⟩ := (mapO_at hd).2 i p hi
        have hq := List.mem_of_getElem? g1
        unfold renP at g2
        split at g2
        · rename_i m b hm hb
          cases g2
          obtain ⟨k1, k2⟩ := g.dom q hq
          refine ⟨q, hq, hm, hb, k1, k2, ?_⟩
          rcases hτ _ _ hm with h3 | ⟨h3, h4, h5⟩
          · obtain ⟨h5, h6⟩ := hτ0 _ _ h3
            have := (J.2.1 _ _ h5).2.2
            omega
          · exact h5
        · cases g2
      refine hK v w' (joinE N e.c ρ ρ') ⟨fun n p hp => ?_, fun n hn => ?_, g.bel, fun n p g1 g2 g3 => ?_, fun p hp => ?_, fun p hp => ?_, fun p hp q hq a C D e1 e2 => ?_⟩ (renV_gen hr 6 _ _ _ hv hu)
      · have hn : n < N := by
          rcases Nat.lt_or_ge n N with h | h
          · exact h
          · rw [hD n h] at hp; cases hp
        unfold joinE
        rw [if_pos hn]; exact hp
      · unfold joinE
        rcases Nat.lt_or_ge n N with h | h
        · rw [if_pos h]
        · have h5 : Nat.add N (Nat.sub e.n e.c) ≤ n := by omega
          have h6 : N + (e.n - e.c) ≤ n := h5
          rw [if_neg (by omega), g.same _ (.inr (by omega)), hdom _ (by omega), hD n h]
      · have h6 : n < N + (e.n - e.c) := g2
        unfold joinE at g3
        rw [if_neg (by omega)] at g3
        exact g.new _ p (by omega) (by omega) g3
      · obtain ⟨q, _, _, _, k1, k2, k3⟩ := hdn p hp
        rw [hadd]
        have : e.c + Nat.sub e.n e.c = e.n := hsub
        omega
      · obtain ⟨q, hq, k1, k2, _⟩ := hdn p hp
        obtain ⟨a, C, h3, h4⟩ := g.blk q hq
        exact ⟨a, C, (hat _ _ k1).trans h3, renB_gen hr h4 k2⟩
      · obtain ⟨x, hx, k1, _, _, _, k2⟩ := hdn p hp
        obtain ⟨y, hy, k3, _, _, _, k4⟩ := hdn q hq
        rw [hat _ _ k1] at e1
        rw [hat _ _ k3] at e2
        have := g.inj x hx y hy a C D e1 e2
        omega
    · cases h2
/-- **A call, remembered or not.** -/
theorem memoC_ok {P : Program} {G : Nat} {tabs : List (Nat × List Value)} {tbl : MT} {call : CallT} (ht : tabsB G tabs = true) (hT : TblOk P G tabs tbl) (hc : CallOk P G call) : CallOk P G (memoC G tabs tbl call) := by
  intro f us vs H N out ρ w h hS hG hN hv
  have own : call f us H N = .ok out → NextOk P (callFunc f ⟨vs⟩) ρ N out w := fun h => hc f us vs H N out ρ w h hS hG hN hv
  unfold memoC at h
  split at h
  · exact own h
  · rename_i t ht'
    obtain ⟨fuel, h⟩ : ∃ fuel, disc G H fuel us [] .nil G (memoEnd G tabs t (call f us H N) us H N) = Rs.ok out := ⟨packFuel, h⟩
    obtain ⟨olds, σ, cnt, h1, J⟩ := disc_inv _ _ _ _ _ h ⟨Nat.le_refl _, fun n m e => by rw [PT.get_nil] at e; (cases e), fun n n' m e => by rw [PT.get_nil] at e; (cases e)⟩
    unfold memoEnd at h1
    split at h1
    · rename_i us' l hu hl
      split at h1
      · rename_i es hes
        split at h1
        · rename_i e he
          cases htc : tabChk H tabs with
          | false => rw [htc] at h1; exact own h1
          | true =>
          rw [htc] at h1
          obtain ⟨hmem, e1, e2, e3⟩ := findE_inv he
          obtain ⟨call', hc', hcall⟩ := hT f t _ es ht' hes e hmem
          subst e1
          subst e2
          subst e3
          have hs : ∀ n, n < G → ρ n = cutE G ρ n := fun n hn => (if_pos hn).symm
          have hGe : Glob G (anew G e.c σ (cutE G ρ) ρ) := fun g hg => by
            obtain ⟨C, hC⟩ := hG g hg
            exact ⟨C, by rw [anew_out (.inl hg), ← hs g hg]; exact hC⟩
          -- the tables' types, as they stand
          obtain ⟨te, hte⟩ : ∃ te : Nat → TypeId, ∀ p ∈ tabs, H.get p.1 = some (.cells false (te p.1) p.2) := ⟨fun g => match H.get g with | some (.cells _ e _) => e | _ => 0, fun p hp => by
            obtain ⟨e', he'⟩ := tabChk_inv htc p hp
            simp only [he']⟩
          have hmem' : ∀ n b, (tabH (e.l ++ tabE te tabs)).get n = some b → (∃ m c, H.get m = some c ∧ σ.get m = some n ∧ renB G σ c = some b) ∨ (n < G ∧ H.get n = some b ∧ ∃ l, b = .cells false (te n) l ∧ l.all (flat 5) = true) := fun n b hn => by
            rcases List.mem_append.1 (tabH_spec _ n b hn) with h | h
            · exact .inl (gather_inv hl (n, b) h)
            · unfold tabE at h
              obtain ⟨p, hp, e1⟩ := List.mem_map.1 h
              have h2 := List.all_eq_true.1 ht p hp
              rw [Bool.and_eq_true] at h2
              cases e1
              exact .inr ⟨by have := Nat.le_of_ble_eq_true (show Nat.ble (p.1 + 1) G = true from h2.1); omega, hte p hp, p.2, rfl, h2.2⟩
          have hSe : Sat P (anew G e.c σ (cutE G ρ) ρ) (tabH (e.l ++ tabE te tabs)) w := by
            refine ⟨fun n b hn => ?_, fun n m b c a C D h1 h2 e1 e2 => ?_, fun n a C hn => ?_⟩
            · rcases hmem' n b hn with ⟨m, c, g1, g2, g3⟩ | ⟨g1, g2, l, rfl, g3⟩
              · obtain ⟨a, C, k1, k2⟩ := hS.blk m c g1
                exact ⟨a, C, (anew_at J g2).trans k1, renB_sound J hs k2 g3⟩
              · obtain ⟨a, C, k1, cs, k2, k3, k4, k5⟩ := hS.blk n _ g2
                refine ⟨a, C, by rw [anew_out (.inl g1), ← hs n g1]; exact k1, cs, k2, ?_, k4, k5⟩
                rw [k3.flat_eq 5 g3]
                exact VL.same g3 _
            · rcases hmem' n b h1 with ⟨i, b', g1, g2, g3⟩ | ⟨g1, g2, _⟩ <;> rcases hmem' m c h2 with ⟨j, c', k1, k2, k3⟩ | ⟨k1, k2, _⟩
              · rw [anew_at J g2] at e1
                rw [anew_at J k2] at e2
                have hij := hS.inj i j b' c' a C D g1 k1 e1 e2
                subst hij
                rw [g2] at k2
                exact Option.some.inj k2
              · rw [anew_at J g2] at e1
                rw [anew_out (.inl k1), ← hs m k1] at e2
                have hij := hS.inj i m b' c a C D g1 k2 e1 e2
                have := (J.2.1 i n g2).1
                omega
              · rw [anew_out (.inl g1), ← hs n g1] at e1
                rw [anew_at J k2] at e2
                have hij := hS.inj n j b c' a C D g2 k1 e1 e2
                have := (J.2.1 j m k2).1
                omega
              · rw [anew_out (.inl g1), ← hs n g1] at e1
                rw [anew_out (.inl k1), ← hs m k1] at e2
                exact hS.inj n m b c a C D g2 k2 e1 e2
            · rcases Nat.lt_or_ge n G with g | g
              · rw [anew_out (.inl g), ← hs n g] at hn
                exact hS.lt n a C hn
              · rcases Nat.lt_or_ge n e.c with g' | g'
                · obtain ⟨m, _, k2⟩ := anew_in g g' hn
                  exact hS.lt m a C k2
                · rw [anew_out (.inr g')] at hn
                  have : cutE G ρ n = none := if_neg (by omega)
                  rw [this] at hn; cases hn
          exact back_ok J hG (hc' f e.us vs (tabH (e.l ++ tabE te tabs)) e.c _ _ w (hcall te) hSe hGe (fun n b hn => by
            rcases hmem' n b hn with ⟨m, c, _, g2, _⟩ | ⟨g1, _⟩
            · exact (J.2.1 m n g2).2.2
            · have := J.1; omega) (mapO_VL (fun u v u' => renV_sound J hs 6 u v u') hv hu)) h1
        · exact own h1
      · exact own h1
    · exact own h1
/-- **Calls and rounds, some remembered.** -/
theorem machM_ok {P : Program} {G : Nat} {tabs : List (Nat × List Value)} {tbl : MT} (ht : tabsB G tabs = true) (hT : TblOk P G tabs tbl) (hmix : P.follows .mixedOrders = true) (hname : ∀ (f : FuncId) (fn : Func), P.funcs[f]? = some fn → (fn.name == "runtime.NumGoroutine") = false) : ∀ n, CallOk P G (machM P G okT tabs tbl n).call ∧ YldOk P G (machM P G okT tabs tbl n).yld
  | 0 => ⟨(fun f us vs H N out ρ w h => by cases h), (fun l b C us vs H N out ρ w h => by cases h)⟩
  | n + 1 => by
    obtain ⟨h1, h2⟩ := machM_ok ht hT hmix hname n
    exact ⟨memoC_ok ht hT fun f us vs H N out ρ w h hS hG hN hv => NextRun.ok (show ckOut N ((fnF P G okT f).run (machM P G okT tabs tbl n) us H N) = .ok out from h) fun hr => fnF_ok hmix hname h1 h2 f us vs H N out ρ w hr hS hG hN hv,
      fun l b C us vs H N out ρ w h hS hG hN hb hv => NextRun.ok (show ckOut N (yieldC P G okT (machM P G okT tabs tbl n) l us H N) = .ok out from h) fun hr => yieldC_ok hmix hname h1 h2 l b C us vs H N out ρ w hr hS hG hN hb hv⟩

theorem TblOk.nil (P : Program) (G : Nat) (tabs : List (Nat × List Value)) : TblOk P G tabs .nil := fun f t key es h => by rw [PT.get_nil] at h; cases h
/-- What goes on with a table that is right, goes on with a table that is right. -/
theorem addK1_ok {P : Program} {G : Nat} {tabs : List (Nat × List Value)} {tbl : MT} {f : FuncId} (hT : TblOk P G tabs tbl) {t : PT (List Ent)} {key : Nat} {es : List Ent} (h1 : ∀ key' es', t.get key' = some es' → ∀ x ∈ es', EntOk P G tabs f x) (h2 : ∀ x ∈ es, EntOk P G tabs f x) : ∃ tbl', TblOk P G tabs tbl' ∧ ∀ {β : Type} (k : MT → β), addK1 tbl f t key es k = k tbl' := by
  rcases PT.insK_spec 60 t key (some es) with hbad | ⟨t', g1, g2⟩
  · exact ⟨tbl, hT, fun k => hbad _ _ _⟩
  · rcases PT.insK_spec 60 tbl f (some t') with hbad | ⟨tbl', k1, k2⟩
    · exact ⟨tbl, hT, fun k => (g1 _ _ _).trans (hbad _ _ _)⟩
    · refine ⟨tbl', fun f' t'' key' es' e1 e2 => ?_, fun k => (g1 _ _ _).trans (k1 _ _ _)⟩
      rw [k2] at e1
      by_cases hi : f' = f
      · rw [if_pos hi] at e1
        cases e1
        subst hi
        rw [g2] at e2
        by_cases hk : key' = key
        · rw [if_pos hk] at e2; cases e2; exact h2
        · rw [if_neg hk] at e2; exact h1 _ _ e2
      · rw [if_neg hi] at e1; exact hT f' t'' key' es' e1 e2
theorem addEK_ok {P : Program} {G : Nat} {tabs : List (Nat × List Value)} {tbl : MT} {f : FuncId} {e : Ent} (hT : TblOk P G tabs tbl) (he : EntOk P G tabs f e) : ∃ tbl', TblOk P G tabs tbl' ∧ ∀ {β : Type} (k : MT → β), addEK tbl f e k = k tbl' := by
  have one : ∀ x ∈ [e], EntOk P G tabs f x := fun x hx => by rw [List.mem_singleton] at hx; subst hx; exact he
  cases ht : tbl.get f with
  | none =>
    obtain ⟨tbl', h1, h2⟩ := addK1_ok (key := keyC e.us e.l) hT (t := .nil) (fun key' es' h => by rw [PT.get_nil] at h; cases h) one
    exact ⟨tbl', h1, fun k => by unfold addEK; rw [forceN_eq, ht]; exact h2 k⟩
  | some t =>
    have h0 : ∀ key' es', t.get key' = some es' → ∀ x ∈ es', EntOk P G tabs f x := fun key' es' h => hT f t key' es' ht h
    cases hk : t.get (keyC e.us e.l) with
    | none =>
      obtain ⟨tbl', h1, h2⟩ := addK1_ok (key := keyC e.us e.l) hT h0 one
      exact ⟨tbl', h1, fun k => by unfold addEK; rw [forceN_eq, ht]; simp only [hk]; exact h2 k⟩
    | some es =>
      obtain ⟨tbl', h1, h2⟩ := addK1_ok (key := keyC e.us e.l) (es := e :: es) hT h0 (fun x hx => by
        rcases List.mem_cons.1 hx with rfl | hx
        · exact he
        · exact h0 _ _ hk x hx)
      exact ⟨tbl', h1, fun k => by unfold addEK; rw [forceN_eq, ht]; simp only [hk]; exact h2 k⟩
/-- **A table with more that is checked.** -/
theorem chkE_ok {P : Program} {G : Nat} {tabs : List (Nat × List Value)} (ht : tabsB G tabs = true) (hmix : P.follows .mixedOrders = true) (hname : ∀ (f : FuncId) (fn : Func), P.funcs[f]? = some fn → (fn.name == "runtime.NumGoroutine") = false) {n : Nat} : ∀ {es : List (FuncId × Ent)} {tbl : MT}, TblOk P G tabs tbl → (∀ te, chkE P G okT tabs te n es tbl = true) → TblOk P G tabs (addL es tbl)
  | [], _, hT, _ => hT
  | q :: es, tbl, hT, h => by
    have h' : ∀ te, (isE q.2 ((machM P G okT tabs tbl n).call q.1 q.2.us (tabH (q.2.l ++ tabE te tabs)) q.2.c) && addEK tbl q.1 q.2 (chkE P G okT tabs te n es)) = true := h
    obtain ⟨tbl', h1, h2⟩ := addEK_ok hT (f := q.1) (e := q.2) ⟨_, (machM_ok ht hT hmix hname n).1, fun te => by
      have := h' te
      rw [Bool.and_eq_true] at this
      exact isE_inv this.1⟩
    have := chkE_ok ht hmix hname h1 (n := n) (es := es) fun te => by
      have := h' te
      rw [Bool.and_eq_true, h2] at this
      exact this.2
    have e : addL (q :: es) tbl = addEK tbl q.1 q.2 (addL es) := rfl
    rw [e, h2]
    exact this
/-- **A closed call that is reckoned to answer true, some calls being remembered, answers true.** -/
theorem reckonedM {P : Program} {G : Nat} {tabs : List (Nat × List Value)} {tbl : MT} (ht : tabsB G tabs = true) (hT : TblOk P G tabs tbl) (hmix : P.follows .mixedOrders = true) (hname : ∀ (f : FuncId) (fn : Func), P.funcs[f]? = some fn → (fn.name == "runtime.NumGoroutine") = false) {l : List (Nat × AB)} {w : World} (hG : G ≤ w.heap.size) (hl : ∀ p ∈ l, p.1 < G ∧ Laid w p)
    {f : FuncId} (hent : (bodyO P f).isSome = true) (n : Nat) (h : yesB ((machM P G okT tabs tbl n).call f [] (tabH l) G) = true) (m : Nat) : CallsIn Fence.wide m P f #[] w fun e w' => e = .returned (.bool true) ∧ Below w.heap.size w w' := by
  have hglob : Glob G (globE G) := fun g hg => ⟨0, if_pos hg⟩
  have hdom : Dom (globE G) G := fun n hn => if_neg (by omega)
  obtain ⟨c, hc⟩ := Option.isSome_iff_exists.1 hent
  cases hr : (machM P G okT tabs tbl n).call f [] (tabH l) G with
  | bad e => rw [hr] at h; cases h
  | ok out =>
    rw [hr] at h
    have hok := (machM_ok ht hT (G := G) hmix hname n).1 f [] [] (tabH l) G out (globE G) w hr (sat_tab hG hl) hglob (fun n b hb => (hl _ (tabH_spec l n b hb)).1) (.nil _)
    refine hok.calls (run_enter hname hc) none m ?_
    cases out with
    | w u H N lo => cases h
    | v u d N' =>
      refine ⟨hdom, fun v w' ρ' hg hv => ⟨?_, hg.bel⟩⟩
      have hu : u = .bool true := by
        have h' : VB.rec (motive := fun _ => Bool) (fun b => b) false (vB u) = true := h
        cases u with
        | bool b =>
          have h2 : b = true := h'
          rw [h2]
        | _ => cases h'
      subst hu
      cases hv
      rfl
end Go.Proofs.YtacelbpkhdagmaaGreatDoor.Ev
