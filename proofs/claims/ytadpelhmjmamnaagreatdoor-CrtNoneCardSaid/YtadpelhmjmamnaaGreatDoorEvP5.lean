/- The reckoner: operations that make, load and store. No conditions. -/
import Derived.Test.YtadpelhmjmamnaaGreatDoorEvP4
namespace Go.Proofs.YtadpelhmjmamnaaGreatDoor.Ev
open Go Go.RowKit

section
variable {P : Program} {o : Oper} {a : Act} {w w' : World} {K : Act → World → Prop} {Q : Exit → Act → World → Prop}
theorem wp_value {ro : Option Nat} {m : Nat} {v : Value} (h : (execOp a.eval o).run P w = .ok (.value v) w') (hk : K (a.put o.dst v) w') (hd : ∀ c, o.op ≠ .defer c := by exact fun _ h => (by cases h)) : o.wpIn (fe ro) m P a w K Q :=
  ⟨fun _ _ => trivial, by rw [Oper.semAt_eq _ _ _ hd, h]; exact hk⟩
theorem wp_skipped {ro : Option Nat} {m : Nat} (h : (execOp a.eval o).run P w = .ok .skip w') (hk : K (a.put o.dst undef) w') (hd : ∀ c, o.op ≠ .defer c := by exact fun _ h => (by cases h)) : o.wpIn (fe ro) m P a w K Q :=
  ⟨fun _ _ => trivial, by rw [Oper.semAt_eq _ _ _ hd, h]; exact hk⟩
end
/-- The names of the program's variables. -/
def Glob (G : Nat) (ρ : Env) : Prop := ∀ g, g < G → ∃ C, ρ g = some (g, C)
theorem Glob.mono {G : Nat} {ρ ρ' : Env} (h : Ext ρ ρ') (k : Glob G ρ) : Glob G ρ' := fun g hg => let ⟨C, e⟩ := k g hg; ⟨C, h _ _ e⟩
theorem aeval_sound {G : Nat} {ρ : Env} {T : PT Value} {a : Act} {x : Operand} {u : Value} (hT : TR ρ T a.tmps) (hG : Glob G ρ) (h : aeval G T x = some u) : VR ρ u (a.eval x) := by
  cases x with
  | tmp t =>
    obtain ⟨v, h1, h2⟩ := hT t u h
    have : a.eval (.tmp t) = v := by simp [Act.eval, h1]
    rw [this]; exact h2
  | const v =>
    have h' : cond (flat 5 v) (some v) none = some u := h
    cases hf : flat 5 v with
    | true => rw [hf] at h'; simp only [cond_true, Option.some.injEq] at h'; subst h'; exact flat_le 5 v hf ρ
    | false => rw [hf] at h'; cases h'
  | global g =>
    have h' : cond (Nat.blt g G) (some (.pointer (some ⟨g, 0, none⟩))) none = some u := h
    cases hf : Nat.blt g G with
    | true =>
      rw [hf] at h'; cases h'
      obtain ⟨C, e⟩ := hG g (by simp [Nat.blt, Nat.ble_eq] at hf; omega)
      exact VR.ptr e
    | false => rw [hf] at h'; cases h'
  | func f => cases h; exact .func rfl (fun i u v h => by simp at h) rfl (fun i u v h => by simp at h)
theorem vals_sound {G : Nat} {ρ : Env} {T : PT Value} {a : Act} (hT : TR ρ T a.tmps) (hG : Glob G ρ) : ∀ (l : List Operand) (k : List Value → Rs Out) (r : Out), vals G T l k = .ok r → ∃ us, k us = .ok r ∧ VL ρ us (l.map a.eval) ∧ ∀ (i : Nat) (x : Operand), l[i]? = some x → ∃ u, us[i]? = some u ∧ aeval G T x = some u
  | [], k, r, h => ⟨[], h, .nil ρ, fun i x hx => by simp at hx⟩
  | x :: l, k, r, h => by
    have h' : (match aeval G T x with | some v => vals G T l (fun l => k (v :: l)) | none => .bad 81) = .ok r := h
    cases hx : aeval G T x with
    | none => rw [hx] at h'; cases h'
    | some u =>
      rw [hx] at h'
      obtain ⟨us, h1, h2, h3⟩ := vals_sound hT hG l _ r h'
      refine ⟨u :: us, h1, .cons (aeval_sound hT hG hx) h2, fun i y hy => ?_⟩
      cases i with
      | zero => simp at hy; subst hy; exact ⟨u, rfl, hx⟩
      | succ i => simp at hy; exact h3 i y hy

theorem VL.same {l : List Value} (h : l.all (flat 5) = true) (ρ : Env) : VL ρ l l := ⟨rfl, fun i u v e1 e2 => by
  rw [e1] at e2; cases e2
  exact flat_le 5 u (List.all_eq_true.1 h u (List.mem_of_getElem? e1)) ρ⟩
theorem run_zero {P : Program} {t : TypeId} {l : List Value} (h : zeroO P t = some l) : ∃ z, z.cells.toList = l ∧ (∀ ρ, VL ρ l l) ∧ ∀ w, (zeroValue t).run P w = .ok z w := by
  unfold zeroO at h
  cases hi : P.info? t with
  | none => rw [hi] at h; cases h
  | some i =>
    rw [hi] at h
    cases hz : i.zero with
    | none => simp only [hz] at h; cases h
    | some z =>
      simp only [hz] at h
      cases hf : z.cells.toList.all (flat 5) with
      | false => rw [hf] at h; cases h
      | true =>
        rw [hf] at h
        simp only [cond_true, Option.some.injEq] at h
        subst h
        exact ⟨z, rfl, fun ρ => .same hf ρ, fun w => by simp [zeroValue, typeInfo, hi, hz]⟩
theorem info_size {P : Program} {t : TypeId} {s : Nat} (h : sizeO P t = some s) : (P.info? t).map (·.size) = some s := by
  unfold sizeO at h
  cases hi : P.info? t with
  | none => rw [hi] at h; cases h
  | some i => rw [hi] at h; simp only [Option.some.injEq] at h; subst h; rfl

/-- A block that is made: a variable. -/
theorem new_sound {P : Program} {ρ : Env} {N : Nat} {e : TypeId} {us vs : List Value} {w : World} (hF : Free ρ N (N + 1)) (hv : VL ρ us vs) :
    Grew P ρ (setE ρ N (w.heap.size, 0)) N (N + 1) [(N, .cells false e us)] w { w with heap := w.heap.push (.cells ⟨vs⟩ e (0, 0)) } :=
  Grew.one hF (below_push w _) (by simp) (.new (push_at w _) (hv.mono (setE_ext (hF N (Nat.le_refl _) (by omega)))))

section ops
variable {P : Program} {G : Nat} {ρ : Env} {T : PT Value} {H : HP} {N : Nat} {out : Out} {a : Act} {w : World} {dst : Option Tmp} {type : TypeId} {pos : String} {after : Array Edge} {guard : Option (Nat × Bool)}
theorem newC_ok {e : TypeId} {us : List Value} {o : Oper} (hd : ∀ c, o.op ≠ .defer c) (h : newC N e us = .ok out) (vs : List Value) (hv : VL ρ us vs)
    (hr : (execOp a.eval o).run P w = .ok (.value (.pointer (some ⟨w.heap.size, 0, none⟩))) { w with heap := w.heap.push (.cells ⟨vs⟩ e (0, 0)) }) : OpOk P o ρ N out a w := by
  cases h
  exact ⟨Nat.le_succ N, fun hF ro mm K Q hK => wp_value hr (hK _ _ _ (new_sound (hF.free _) hv) (.ptr (setE_self ρ N _))) hd⟩
theorem alloc_ok {e : TypeId} (h : (match zeroO P e with | some l => newC N e l | none => .bad 102) = Rs.ok out) : OpOk P ⟨dst, .alloc e, type, pos, after, guard⟩ ρ N out a w := by
  cases hl : zeroO P e with
  | none => rw [hl] at h; cases h
  | some l =>
    rw [hl] at h
    obtain ⟨z, h1, hfl, h2⟩ := run_zero hl
    refine newC_ok (fun _ h => (by cases h)) h l (hfl ρ) ?_
    · simp only [execOp, Instr.alloc, Sem.run_bind, h2, Result.andThen_ok]
      simp [newVar, newRow, ← h1]
theorem box_ok {e : TypeId} {x : Operand} (hT : TR ρ T a.tmps) (hG : Glob G ρ) (h : (match aeval G T x with | some v => newC N e v.cells.toList | none => .bad 103) = Rs.ok out) : OpOk P ⟨dst, .box e x, type, pos, after, guard⟩ ρ N out a w := by
  cases hx : aeval G T x with
  | none => rw [hx] at h; cases h
  | some u =>
    rw [hx] at h
    have hr := aeval_sound hT hG hx
    refine newC_ok (fun _ h => (by cases h)) h (a.eval x).cells.toList hr.cells ?_
    simp [execOp, Instr.box, newVar, newRow]
theorem load_ok {t : TypeId} {x : Operand} (hS : Sat P ρ H w) (hT : TR ρ T a.tmps) (hG : Glob G ρ) (h : (match aeval G T x with | some (.pointer (some ⟨n, off, _⟩)) => loadC P H t n off fun v => Rs.ok (.v v [] N) | _ => .bad 104) = Rs.ok out) : OpOk P ⟨dst, .load t x, type, pos, after, guard⟩ ρ N out a w := by
  split at h
  · rename_i n off s hx
    have hr := aeval_sound hT hG hx
    generalize hv : a.eval x = v at hr
    cases hr with
    | @ptr _ _ _ b C hn =>
      obtain ⟨u, v, hk, hrun, hvr⟩ := load_sound hS hn h
      cases hk
      exact ⟨Nat.le_refl _, fun hF ro mm K Q hK => wp_value (v := v) (w' := w) (by simp [execOp, Instr.loadAt, Instr.sureAddr, hv, hrun]) (hK _ _ _ (.refl P ρ N w) hvr)⟩
  · cases h
theorem lt_of_name (hF : ∀ n p, ρ n = some p → n < N) {n : Nat} {p : Nat × Nat} (h : ρ n = some p) : n < N := hF n p h
theorem store_ok {t : TypeId} {x y : Operand} (hS : Sat P ρ H w) (hT : TR ρ T a.tmps) (hG : Glob G ρ) (hN : ∀ n b, H.get n = some b → n < N) (h : (match aeval G T x, aeval G T y with | some (.pointer (some ⟨n, off, _⟩)), some v => storeC P H t n off v fun H' => Rs.ok (.w undef H' N n) | _, _ => .bad 105) = Rs.ok out) : OpOk P ⟨dst, .store t x y, type, pos, after, guard⟩ ρ N out a w := by
  split at h
  · rename_i n off s u hx hy
    have hr := aeval_sound hT hG hx
    have hry := aeval_sound hT hG hy
    generalize hv : a.eval x = v at hr
    cases hr with
    | @ptr _ _ _ b C hn =>
      unfold storeC at h
      split at h
      · rename_i g e l hb
        split at h
        · rename_i sz hs
          cases hc : (Nat.beq u.cells.toList.length sz && u.cells.toList.all oneC) with
          | false => rw [hc] at h; cases h
          | true =>
            rw [hc] at h
            simp only [cond_true, spliceK_eq] at h
            rw [Bool.and_eq_true] at hc
            obtain ⟨hc1, hc2⟩ := hc
            have hc1 : u.cells.toList.length = sz := by simpa using hc1
            split at h
            · rename_i hle
              rcases PT.insK_spec 60 H n (some (AB.cells g e (l.take off ++ u.cells.toList ++ l.drop (off + u.cells.toList.length)))) with hbad | ⟨H', hok, hget⟩
              · rw [hbad] at h; cases h
              · rw [hok] at h
                cases h
                obtain ⟨w', hrun, hW⟩ := splice_sound (N := N) hS hb hn hN hle hget hry.cells hc2
                refine ⟨Nat.le_refl _, fun hF ro mm K Q hK => wp_skipped (w' := w') ?_ (hK _ _ _ hW (by exact .tuple rfl (fun i u v h => by simp at h)))⟩
                have hsz : (a.eval y).cells.size = sz := by have := hry.cells.1; simp at this hc1; omega
                simp [execOp, Instr.storeAt, Instr.sureAddr, hv, storeVar, run_sizeOf hs, hsz, hrun]
            · cases h
        · cases h
      · cases h
  · cases h
end ops
end Go.Proofs.YtadpelhmjmamnaaGreatDoor.Ev
