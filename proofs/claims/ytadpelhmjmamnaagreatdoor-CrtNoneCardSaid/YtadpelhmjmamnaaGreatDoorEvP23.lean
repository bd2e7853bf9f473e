/- The reckoner: what the head of a drawn region was found to do. No conditions. -/
import Derived.Test.YtadpelhmjmamnaaGreatDoorEvP22
namespace Go.Proofs.YtadpelhmjmamnaaGreatDoor.Ev
open Go Go.RowKit

/-- One operation of the head, as it was reckoned. -/
structure HRec where
  o : Oper
  m : List Bool
  T : PT Value
  N : Nat
  b : Bool
  u : Value
  d : List (Nat × AB)
  N' : Nat
  T' : PT Value
def PutOk (dst : Option Tmp) (T : PT Value) (u : Value) (T' : PT Value) : Prop := (dst = none ∧ T' = T) ∨ ∃ d y, dst = some d ∧ T.get d = some y ∧ ∀ j, T'.get j = if j = d then some u else T.get j
theorem put_ok {β : Type} {dst : Option Tmp} {T : PT Value} {u : Value} {k : PT Value → Rs β} {r : β} (h : (putF (β := β) dst).run T u k = .ok r) : ∃ T', k T' = .ok r ∧ PutOk dst T u T' := by
  cases dst with
  | none => exact ⟨T, h, .inl ⟨rfl, rfl⟩⟩
  | some d =>
    have h' : (setF (pathN (d + 1) d)).run T u k = .ok r := h
    rw [setF_eq _ _ _ _ _ (Nat.lt_succ_self d)] at h'
    rcases T.setK_spec d u with hb | ⟨T', y, h1, h2, h3⟩
    · rw [hb] at h'; cases h'
    · rw [h1] at h'
      exact ⟨T', h', .inr ⟨d, y, rfl, h2, h3⟩⟩
section
variable {P : Program} {G : Nat} {call : CallT} {yld : YldT} {ops : Array Oper} {H : HP}
/-- The operations of the head, one behind the other. -/
def Chain (P : Program) (G : Nat) (call : CallT) (yld : YldT) (ops : Array Oper) (H : HP) : PT Value → Nat → List (List (Nat × AB)) → List HRec → PT Value → Nat → Prop
  | T, N, _, [], Tf, Nf => Tf = T ∧ Nf = N
  | T, N, ds, r :: rs, Tf, Nf => r.T = T ∧ r.N = N ∧ (wantF ops r.o).run T = some r.b ∧ N ≤ r.N' ∧
      (if r.b then aop P G call yld r.o T (heapFor H r.m ds) N = .ok (.v r.u r.d r.N') else r.u = undef ∧ r.d = [] ∧ r.N' = N) ∧
      PutOk r.o.dst T r.u r.T' ∧ Chain P G call yld ops H r.T' r.N' (ds ++ [r.d]) rs Tf Nf
theorem headF_inv {k : Option OpsC → PT Value → Nat → List (List (Nat × AB)) → RX} {res : Ex × St} : ∀ (l : List Oper) (an : List (List Bool)) (T : PT Value) (N : Nat) (ds : List (List (Nat × AB))), an.length = l.length → headF call yld k H (headI P G ops l an) T N ds = .ok res →
    ∃ rs rest Tf Nf, l = rs.map (·.o) ++ rest ∧ rs.map (·.m) = an.take rs.length ∧ Chain P G call yld ops H T N ds rs Tf Nf ∧ ((rest = [] ∧ k none Tf Nf (ds ++ rs.map (·.d)) = .ok res) ∨ (rest ≠ [] ∧ k (some (opsF P G ops rest)) Tf Nf (ds ++ rs.map (·.d)) = .ok res))
  | [], an, T, N, ds, hl, h => ⟨[], [], T, N, rfl, by simp, ⟨rfl, rfl⟩, .inl ⟨rfl, by
    show k none T N (ds ++ []) = .ok res
    rw [List.append_nil]; exact h⟩⟩
  | o :: l, [], T, N, ds, hl, h => by simp at hl
  | o :: l, m :: an, T, N, ds, hl, h => by
    have h' : Option.rec (motive := fun _ => RX) (.bad 207) (fun b => Bool.rec (motive := fun _ => RX)
        ((putF (β := Ex × St) o.dst).run T undef fun T' => appK ds [[]] fun ds' => headF call yld k H (headI P G ops l an) T' N ds')
        (OpC.rec (motive := fun _ => RX) (fun f => f T (fun u => (putF (β := Ex × St) o.dst).run T u fun T' => appK ds [[]] fun ds' => headF call yld k H (headI P G ops l an) T' N ds'))
          (fun f => Rs.rec (motive := fun _ => RX) (fun e => .bad e) (fun out => Out.rec (motive := fun _ => RX)
            (fun u d N' => Bool.rec (motive := fun _ => RX) (.bad 219) ((putF (β := Ex × St) o.dst).run T u fun T' => appK ds [d] fun ds' => headF call yld k H (headI P G ops l an) T' N' ds') (Nat.ble N N'))
            (fun _ _ _ _ => k (some (opsF P G ops (o :: l))) T N ds) out) (f call yld T (heapFor H m ds) N)) (opF P G o)) b) ((wantF ops o).run T) = .ok res := h
    have go : ∀ (b : Bool) (u : Value) (d : List (Nat × AB)) (N' : Nat), (wantF ops o).run T = some b → N ≤ N' → (if b then aop P G call yld o T (heapFor H m ds) N = .ok (.v u d N') else u = undef ∧ d = [] ∧ N' = N) →
        ((putF (β := Ex × St) o.dst).run T u fun T' => appK ds [d] fun ds' => headF call yld k H (headI P G ops l an) T' N' ds') = .ok res →
        ∃ rs rest Tf Nf, o :: l = rs.map (·.o) ++ rest ∧ rs.map (·.m) = (m :: an).take rs.length ∧ Chain P G call yld ops H T N ds rs Tf Nf ∧ ((rest = [] ∧ k none Tf Nf (ds ++ rs.map (·.d)) = .ok res) ∨ (rest ≠ [] ∧ k (some (opsF P G ops rest)) Tf Nf (ds ++ rs.map (·.d)) = .ok res)) := fun b u d N' hw hle hb hput => by
      obtain ⟨T', h1, h2⟩ := put_ok hput
      rw [appK_eq] at h1
      obtain ⟨rs, rest, Tf, Nf, e1, e2, e3, e4⟩ := headF_inv l an T' N' (ds ++ [d]) (by simpa using hl) h1
      refine ⟨⟨o, m, T, N, b, u, d, N', T'⟩ :: rs, rest, Tf, Nf, by simp [e1], by simp [e2], ⟨rfl, rfl, hw, hle, hb, h2, e3⟩, ?_⟩
      simpa using e4
    cases hw : (wantF ops o).run T with
    | none => rw [hw] at h'; cases h'
    | some b =>
      rw [hw] at h'
      cases b with
      | false => exact go false undef [] N hw (Nat.le_refl _) (by simp) h'
      | true =>
        have hop := opF_ok P G o
        cases ho : opF P G o with
        | pure f =>
          rw [ho] at hop h'
          obtain ⟨u, h1, h2⟩ := hop call yld (heapFor H m ds) T _ res h'
          exact go true u [] N hw (Nat.le_refl _) (by simp [h1]) h2
        | gen f =>
          rw [ho] at hop h'
          have h2 : Rs.rec (motive := fun _ => RX) (fun e => .bad e) (fun out => Out.rec (motive := fun _ => RX)
            (fun u d N' => Bool.rec (motive := fun _ => RX) (.bad 219) ((putF (β := Ex × St) o.dst).run T u fun T' => appK ds [d] fun ds' => headF call yld k H (headI P G ops l an) T' N' ds') (Nat.ble N N'))
            (fun _ _ _ _ => k (some (opsF P G ops (o :: l))) T N ds) out) (f call yld T (heapFor H m ds) N) = .ok res := h'
          cases hf : f call yld T (heapFor H m ds) N with
          | bad e => rw [hf] at h2; cases h2
          | ok out =>
            rw [hf] at h2
            have haop := hop call yld T _ N out hf
            cases out with
            | v u d N' =>
              have h3 : Bool.rec (motive := fun _ => RX) (.bad 219) ((putF (β := Ex × St) o.dst).run T u fun T' => appK ds [d] fun ds' => headF call yld k H (headI P G ops l an) T' N' ds') (Nat.ble N N') = .ok res := h2
              cases hb : Nat.ble N N' with
              | false => rw [hb] at h3; cases h3
              | true =>
                rw [hb] at h3
                exact go true u d N' hw (Nat.le_of_ble_eq_true hb) (by simp [haop]) h3
            | w u H' N' lo =>
              exact ⟨[], o :: l, T, N, rfl, by simp, ⟨rfl, rfl⟩, .inr ⟨by simp, by simpa using h2⟩⟩
theorem Chain.le : ∀ {rs : List HRec} {T : PT Value} {N : Nat} {ds : List (List (Nat × AB))} {Tf : PT Value} {Nf : Nat}, Chain P G call yld ops H T N ds rs Tf Nf → N ≤ Nf
  | [], _, _, _, _, _, h => by obtain ⟨_, rfl⟩ := h; exact Nat.le_refl _
  | r :: rs, _, _, _, _, _, h => Nat.le_trans h.2.2.2.1 (Chain.le h.2.2.2.2.2.2)
/-- What is known of the operation at place i. -/
theorem Chain.at : ∀ {rs : List HRec} {T : PT Value} {N : Nat} {ds : List (List (Nat × AB))} {Tf : PT Value} {Nf : Nat}, Chain P G call yld ops H T N ds rs Tf Nf → ∀ (i : Nat) (r : HRec), rs[i]? = some r →
    (wantF ops r.o).run r.T = some r.b ∧ N ≤ r.N ∧ r.N ≤ r.N' ∧ r.N' ≤ Nf ∧ (if r.b then aop P G call yld r.o r.T (heapFor H r.m (ds ++ (rs.take i).map (·.d))) r.N = .ok (.v r.u r.d r.N') else r.u = undef ∧ r.d = [] ∧ r.N' = r.N) ∧ PutOk r.o.dst r.T r.u r.T' ∧
    (∀ t v, r.T.get t = some v → (∃ (j : Nat) (r' : HRec), j < i ∧ rs[j]? = some r' ∧ r'.o.dst = some t ∧ v = r'.u) ∨ ((∀ (j : Nat) (r' : HRec), j < i → rs[j]? = some r' → r'.o.dst ≠ some t) ∧ T.get t = some v)) ∧ (∀ (j : Nat) (r' : HRec), j < i → rs[j]? = some r' → r'.N' ≤ r.N)
  | [], _, _, _, _, _, _, i, r, hr => by simp at hr
  | q :: rs, T, N, ds, Tf, Nf, h, i, r, hr => by
    obtain ⟨h1, h2, h3, h4, h5, h6, h7⟩ := h
    cases i with
    | zero =>
      simp at hr
      subst hr
      subst h1
      subst h2
      refine ⟨h3, Nat.le_refl _, h4, Chain.le h7, by simpa using h5, h6, fun t v hv => .inr ⟨fun j r' hj => by omega, hv⟩, fun j r' hj => by omega⟩
    | succ i =>
      simp at hr
      obtain ⟨e1, e2, e3, e4, e5, e6, e7, e8⟩ := Chain.at h7 i r hr
      refine ⟨e1, Nat.le_trans h4 e2, e3, e4, ?_, e6, fun t v hv => ?_, fun j r' hj hr' => ?_⟩
      · simpa [List.append_assoc] using e5
      · rcases e7 t v hv with ⟨j, r', g1, g2, g3, g4⟩ | ⟨g1, g2⟩
        · exact .inl ⟨j + 1, r', by omega, by simpa using g2, g3, g4⟩
        · have put : (q.o.dst = some t ∧ v = q.u) ∨ (q.o.dst ≠ some t ∧ T.get t = some v) := by
            rcases h6 with ⟨k1, k2⟩ | ⟨d, y, k1, k2, k3⟩
            · rw [k2] at g2; exact .inr ⟨by rw [k1]; simp, g2⟩
            · rw [k3] at g2
              by_cases e : t = d
              · subst e; rw [if_pos rfl] at g2; cases g2; exact .inl ⟨k1, rfl⟩
              · rw [if_neg e] at g2; exact .inr ⟨by rw [k1]; simp; exact fun h => e h.symm, g2⟩
          rcases put with ⟨k1, k2⟩ | ⟨k1, k2⟩
          · exact .inl ⟨0, q, by omega, rfl, k1, k2⟩
          · refine .inr ⟨fun j r' hj hr' => ?_, k2⟩
            cases j with
            | zero => simp at hr'; subst hr'; exact k1
            | succ j => simp at hr'; exact g1 j r' (by omega) hr'
      · cases j with
        | zero => simp at hr'; subst hr'; exact e2
        | succ j => simp at hr'; exact e8 j r' (by omega) hr'
/-- The table at the end. -/
theorem Chain.fin : ∀ {rs : List HRec} {T : PT Value} {N : Nat} {ds : List (List (Nat × AB))} {Tf : PT Value} {Nf : Nat}, Chain P G call yld ops H T N ds rs Tf Nf →
    ∀ t v, Tf.get t = some v → (∃ (j : Nat) (r' : HRec), rs[j]? = some r' ∧ r'.o.dst = some t ∧ v = r'.u) ∨ ((∀ (j : Nat) (r' : HRec), rs[j]? = some r' → r'.o.dst ≠ some t) ∧ T.get t = some v)
  | [], _, _, _, _, _, h, t, v, hv => by obtain ⟨rfl, _⟩ := h; exact .inr ⟨fun j r' h => by simp at h, hv⟩
  | q :: rs, T, N, ds, Tf, Nf, h, t, v, hv => by
    obtain ⟨h1, h2, h3, h4, h5, h6, h7⟩ := h
    rcases Chain.fin h7 t v hv with ⟨j, r', g2, g3, g4⟩ | ⟨g1, g2⟩
    · exact .inl ⟨j + 1, r', by simpa using g2, g3, g4⟩
    · have put : (q.o.dst = some t ∧ v = q.u) ∨ (q.o.dst ≠ some t ∧ T.get t = some v) := by
        rcases h6 with ⟨k1, k2⟩ | ⟨d, y, k1, k2, k3⟩
        · rw [k2] at g2; exact .inr ⟨by rw [k1]; simp, g2⟩
        · rw [k3] at g2
          by_cases e : t = d
          · subst e; rw [if_pos rfl] at g2; cases g2; exact .inl ⟨k1, rfl⟩
          · rw [if_neg e] at g2; exact .inr ⟨by rw [k1]; simp; exact fun h => e h.symm, g2⟩
      rcases put with ⟨k1, k2⟩ | ⟨k1, k2⟩
      · exact .inl ⟨0, q, rfl, k1, k2⟩
      · refine .inr ⟨fun j r' hr' => ?_, k2⟩
        cases j with
        | zero => simp at hr'; subst hr'; exact k1
        | succ j => simp at hr'; exact g1 j r' hr'
end
/-- Growth within growth. -/
theorem Grew.sub {P : Program} {ρ1 ρ ρ' : Env} {N1 Nf N N' : Nat} {D d : List (Nat × AB)} {w1 w w' : World} (A : Grew P ρ1 ρ N1 Nf D w1 w) (B : Grew P ρ ρ' N N' d w w') (h1 : N1 ≤ N) (h2 : N' ≤ Nf) : Grew P ρ1 ρ' N1 Nf (D ++ d) w1 w' where
  ext := A.ext.trans B.ext
  same n h := (B.same n (by omega)).trans (A.same n h)
  bel := A.bel.trans (B.bel.mono A.bel.size)
  new n p g1 g2 g3 := by
    by_cases h : N ≤ n ∧ n < N'
    · have := B.new n p h.1 h.2 g3
      exact ⟨Nat.le_trans A.bel.size this.1, this.2⟩
    · rw [B.same n (by omega)] at g3
      have := A.new n p g1 g2 g3
      exact ⟨this.1, Nat.lt_of_lt_of_le this.2 B.bel.size⟩
  dom p hp := by
    rcases List.mem_append.1 hp with h | h
    · exact A.dom p h
    · have := B.dom p h; omega
  blk p hp := by
    rcases List.mem_append.1 hp with h | h
    · obtain ⟨a, C, e1, e2⟩ := A.blk p h
      have hd := A.dom p h
      have hlt := (A.new p.1 (a, C) hd.1 hd.2 e1).2
      exact ⟨a, C, B.ext _ _ e1, by rw [B.bel.block a hlt]; exact e2.mono B.ext⟩
    · exact B.blk p h
  inj p hp q hq a C E e1 e2 := by
    have old : ∀ p ∈ D, ∀ a C, ρ' p.1 = some (a, C) → ρ p.1 = some (a, C) ∧ a < w.heap.size := fun p hp a C e => by
      obtain ⟨a2, C2, k1, _⟩ := A.blk p hp
      have := B.ext _ _ k1
      rw [e] at this
      cases this
      have hd := A.dom p hp
      exact ⟨k1, (A.new p.1 (a, C) hd.1 hd.2 k1).2⟩
    have fresh : ∀ p ∈ d, ∀ a C, ρ' p.1 = some (a, C) → w.heap.size ≤ a := fun p hp a C e => by
      have hd := B.dom p hp
      exact (B.new p.1 (a, C) hd.1 hd.2 e).1
    rcases List.mem_append.1 hp with h | h <;> rcases List.mem_append.1 hq with k | k
    · exact A.inj p h q k a C E (old p h a C e1).1 (old q k a E e2).1
    · have := (old p h a C e1).2; have := fresh q k a E e2; omega
    · have := (old q k a E e2).2; have := fresh p h a C e1; omega
    · exact B.inj p h q k a C E e1 e2
end Go.Proofs.YtadpelhmjmamnaaGreatDoor.Ev
