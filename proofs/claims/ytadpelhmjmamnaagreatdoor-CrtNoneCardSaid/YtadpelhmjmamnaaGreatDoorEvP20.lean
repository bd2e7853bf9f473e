/- The reckoner: steps one behind the other. No conditions. -/
import Derived.Test.YtadpelhmjmamnaaGreatDoorEvP19
namespace Go.Proofs.YtadpelhmjmamnaaGreatDoor.Ev
open Go Go.RowKit

section
variable {P : Program} {ρ0 ρ ρ' : Env} {N0 N N' lo lo' : Nat} {H H' : HP} {d : List (Nat × AB)} {w0 w w' : World}
theorem Wrote.refl (hS : Sat P ρ H w) (hn : ∀ n b, H.get n = some b → n < N) : Wrote P ρ ρ N N N H w w :=
  ⟨.refl ρ, fun _ _ => rfl, hS, rfl, rfl, rfl, Nat.le_refl _, fun _ _ _ => rfl, fun n p h1 h2 => by omega, hn⟩
theorem Wrote.grew (A : Wrote P ρ0 ρ N0 N lo H w0 w) (hle : N0 ≤ N) (B : Grew P ρ ρ' N N' d w w') (hF : Free ρ N N') (hN : N ≤ N') (hH : ∀ n b, H'.get n = some b → (n, b) ∈ d ∨ H.get n = some b) : Wrote P ρ0 ρ' N0 N' lo H' w0 w' :=
  ⟨A.ext.trans B.ext, fun n h => (B.same n (by omega)).trans (A.same n (by omega)), B.sat A.sat hF hH, B.bel.os.trans A.os, B.bel.tape.trans A.tape, B.bel.output.trans A.output, Nat.le_trans A.size B.bel.size,
   fun x hx h => (B.bel.block x (Nat.lt_of_lt_of_le hx A.size)).trans (A.keep x hx h),
   fun n p h1 h2 h3 => by
    rcases Nat.lt_or_ge n N with h | h
    · rw [B.same n (.inl h)] at h3; exact A.new n p h1 h h3
    · exact .inl (Nat.le_trans A.size (B.new n p h h2 h3).1),
   fun n b hn => by
    rcases hH n b hn with h | h
    · exact (B.dom _ h).2
    · exact Nat.lt_of_lt_of_le (A.named n b h) hN⟩
theorem min_cond (a b : Nat) : cond (Nat.ble a b) a b = min a b := by
  cases h : Nat.ble a b with
  | true => have := Nat.le_of_ble_eq_true h; simp; omega
  | false => have := ble_false h; simp; omega
theorem Wrote.wrote (A : Wrote P ρ0 ρ N0 N lo H w0 w) (hle : N0 ≤ N) (B : Wrote P ρ ρ' N N' lo' H' w w') (hN : N ≤ N') : Wrote P ρ0 ρ' N0 N' (min lo lo') H' w0 w' :=
  ⟨A.ext.trans B.ext, fun n h => (B.same n (by omega)).trans (A.same n (by omega)), B.sat, B.os.trans A.os, B.tape.trans A.tape, B.output.trans A.output, Nat.le_trans A.size B.size,
   fun x hx h => (B.keep x (Nat.lt_of_lt_of_le hx A.size) (fun n p h1 h2 h3 => by
      rcases Nat.lt_or_ge n N0 with g | g
      · rw [A.same n (.inl g)] at h3; exact h n p (by omega) g h3
      · rcases A.new n p g h2 h3 with e | ⟨m, q, e1, e2, e3, e4⟩
        · omega
        · rw [← e4]; exact h m q (by omega) e2 e3)).trans (A.keep x hx (fun n p h1 h2 h3 => h n p (by omega) h2 h3)),
   fun n p h1 h2 h3 => by
    rcases Nat.lt_or_ge n N with h | h
    · rw [B.same n (.inl h)] at h3
      rcases A.new n p h1 h h3 with e | ⟨m, q, e1, e2, e3, e4⟩
      · exact .inl e
      · exact .inr ⟨m, q, by omega, e2, e3, e4⟩
    · rcases B.new n p h h2 h3 with e | ⟨m, q, e1, e2, e3, e4⟩
      · exact .inl (Nat.le_trans A.size e)
      · rcases Nat.lt_or_ge m N0 with g | g
        · rw [A.same m (.inl g)] at e3; exact .inr ⟨m, q, by omega, g, e3, e4⟩
        · rcases A.new m q g e2 e3 with k | ⟨m2, q2, k1, k2, k3, k4⟩
          · rw [← e4]; exact .inl k
          · exact .inr ⟨m2, q2, by omega, k2, k3, k4.trans e4⟩,
   B.named⟩
end

/-- What is left to the end: a mark, or a call. -/
def DE1 (ρ : Env) : DE → Deferred → Prop
  | .mark n, d => ∃ r C, d.target = .collected r ∧ ρ n = some (r, C)
  | .call g us, d => ∃ fv cap vs, d.target = .fn fv cap ∧ invoke d.target d.args = callFunc g ⟨vs⟩ ∧ VL ρ us vs
def DR (ρ : Env) : List DE → List Deferred → Prop
  | [], [] => True
  | n :: D, d :: ds => DE1 ρ n d ∧ DR ρ D ds
  | _, _ => False
theorem DE1.mono {ρ ρ' : Env} (h : Ext ρ ρ') : ∀ {e : DE} {d : Deferred}, DE1 ρ e d → DE1 ρ' e d
  | .mark _, _, ⟨r, C, h1, h2⟩ => ⟨r, C, h1, h _ _ h2⟩
  | .call _ _, _, ⟨fv, cap, vs, h1, h2, h3⟩ => ⟨fv, cap, vs, h1, h2, h3.mono h⟩
theorem DR.mono {ρ ρ' : Env} (h : Ext ρ ρ') : ∀ {D : List DE} {ds : List Deferred}, DR ρ D ds → DR ρ' D ds
  | [], [], _ => trivial
  | _ :: _, _ :: _, ⟨h1, h3⟩ => ⟨h1.mono h, h3.mono h⟩
  | [], _ :: _, k => k
  | _ :: _, [], k => k
/-- What holds within a call: base: where it began. -/
structure Inv (P : Program) (ρ0 : Env) (N0 : Nat) (w0 : World) (T : PT Value) (H : HP) (N lo : Nat) (D : List DE) (a : Act) (w : World) (ρ : Env) : Prop where
  wr : Wrote P ρ0 ρ N0 N lo H w0 w
  tr : TR ρ T a.tmps
  le : N0 ≤ N
  dd : DR ρ D a.defers
  dom : Dom ρ N
theorem Inv.free {P : Program} {ρ0 : Env} {N0 : Nat} {w0 : World} {T : PT Value} {H : HP} {N lo : Nat} {D : List DE} {a : Act} {w : World} {ρ : Env} (I : Inv P ρ0 N0 w0 T H N lo D a w ρ) {N' N2 : Nat} (hF : Free ρ0 N0 N2) (h : N' ≤ N2) : Free ρ N N' := fun n h1 h2 => by
  rw [I.wr.same n (.inr h1)]
  exact hF n (Nat.le_trans I.le h1) (by omega)

section
variable {P : Program} {G : Nat}
theorem put_get {β : Type} {dst : Option Tmp} {T : PT Value} {u : Value} {k : PT Value → Rs β} {r : β} (h : (putF (β := β) dst).run T u k = .ok r) :
    ∃ T', k T' = .ok r ∧ ∀ {ρ : Env} {tmps : Array Value} {v : Value} {ds : List Deferred}, TR ρ T tmps → VR ρ u v → TR ρ T' ((({ tmps, defers := ds } : Act).put dst v).tmps) := by
  cases dst with
  | none => exact ⟨T, h, fun h1 _ => h1⟩
  | some d =>
    have h' : (setF (pathN (d + 1) d)).run T u k = .ok r := h
    rw [setF_eq _ _ _ _ _ (Nat.lt_succ_self d)] at h'
    rcases T.setK_spec d u with hb | ⟨T', y, h1, h2, h3⟩
    · rw [hb] at h'; cases h'
    · rw [h1] at h'
      exact ⟨T', h', fun hT hv => hT.set h2 h3 hv⟩
theorem addX_spec : ∀ (d : List (Nat × AB)) (H : HP) (k : HP → RX) (r : Ex × St), addX d H k = .ok r → ∃ H', k H' = .ok r ∧ ∀ n b, H'.get n = some b → (n, b) ∈ d ∨ H.get n = some b
  | [], H, k, r, h => ⟨H, h, fun n b h => .inr h⟩
  | p :: d, H, k, r, h => by
    have h' : PT.insK 60 H p.1 (some p.2) (fun H' => addX d H' k) (.bad 203) = .ok r := h
    rcases PT.insK_spec 60 H p.1 (some p.2) with hb | ⟨H', h1, h2⟩
    · rw [hb] at h'; cases h'
    · rw [h1] at h'
      obtain ⟨H2, h3, h4⟩ := addX_spec d H' k r h'
      refine ⟨H2, h3, fun n b hn => ?_⟩
      rcases h4 n b hn with g | g
      · exact .inl (List.mem_cons_of_mem _ g)
      · rw [h2] at g
        by_cases e : n = p.1
        · rw [if_pos e] at g; cases g; subst e; exact .inl List.mem_cons_self
        · rw [if_neg e] at g; exact .inr g
theorem put_defers (a : Act) (d : Option Tmp) (v : Value) : (a.put d v).defers = a.defers := by cases d <;> rfl
/-- A step that has grown memory. -/
theorem Inv.grew {ρ0 ρ ρ' : Env} {N0 N N' lo : Nat} {w0 w w' : World} {T T' : PT Value} {H H' : HP} {D : List DE} {a a' : Act} {d : List (Nat × AB)} (I : Inv P ρ0 N0 w0 T H N lo D a w ρ) (B : Grew P ρ ρ' N N' d w w') (hF : Free ρ N N') (hN : N ≤ N')
    (hH : ∀ n b, H'.get n = some b → (n, b) ∈ d ∨ H.get n = some b) (hT : TR ρ' T' a'.tmps) (hd : a'.defers = a.defers) : Inv P ρ0 N0 w0 T' H' N' lo D a' w' ρ' :=
  ⟨I.wr.grew I.le B hF hN hH, hT, Nat.le_trans I.le hN, by rw [hd]; exact I.dd.mono B.ext, I.dom.same hN B.same⟩
theorem Inv.wrote {ρ0 ρ ρ' : Env} {N0 N N' lo lo' : Nat} {w0 w w' : World} {T T' : PT Value} {H H' : HP} {D : List DE} {a a' : Act} (I : Inv P ρ0 N0 w0 T H N lo D a w ρ) (B : Wrote P ρ ρ' N N' lo' H' w w') (hN : N ≤ N')
    (hT : TR ρ' T' a'.tmps) (hd : a'.defers = a.defers) : Inv P ρ0 N0 w0 T' H' N' (min lo lo') D a' w' ρ' :=
  ⟨I.wr.wrote I.le B hN, hT, Nat.le_trans I.le hN, by rw [hd]; exact I.dd.mono B.ext, I.dom.same hN B.same⟩
end
end Go.Proofs.YtadpelhmjmamnaaGreatDoor.Ev
