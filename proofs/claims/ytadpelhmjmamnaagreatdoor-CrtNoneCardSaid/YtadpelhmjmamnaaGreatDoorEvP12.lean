/- The reckoner: operations on values, each against the model. No conditions. -/
import Derived.Test.YtadpelhmjmamnaaGreatDoorEvP11
namespace Go.Proofs.YtadpelhmjmamnaaGreatDoor.Ev
open Go Go.RowKit

section
variable {P : Program} {G : Nat} {ρ : Env} {T : PT Value} {H : HP} {N : Nat} {out : Out} {a : Act} {w : World} {dst : Option Tmp} {type : TypeId} {pos : String} {after : Array Edge} {guard : Option (Nat × Bool)}
theorem nilEq_VR {d : Option TypeDesc} {u v u' v' : Value} {b : Bool} (h1 : VR ρ u u') (h2 : VR ρ v v') (h : nilEq d u v = some b) : nilEq d u' v' = some b := by
  unfold nilEq at h
  split at h <;> cases h <;> cases h1 <;> cases h2 <;> rfl
theorem eqGuard_nil {op : BinOp} {t : TypeId} {x y : Operand} {d : Option TypeDesc} {u v : Value} {b : Bool} (h : nilEq d u v = some b) : (eqGuard op t x y u v).run P w = .ok () w := by
  unfold nilEq at h
  split at h <;> cases h <;> cases op <;> rfl
theorem binOp_nil {op : BinOp} {t : TypeId} {u v : Value} {b : Bool} (ho : op = .eql ∨ op = .neq) (h : nilEq (P.underlying t) u v = some b) : (binOp op t u v).run P w = .ok (.bool (if op = .eql then b else !b)) w := by
  have h2 := nilEq_run (P := P) (w := w) h 9999
  have h3 : (Op.equal t u v).run P w = .ok b w := h2
  have h4 : binOp op t u v = (if op = .eql then (do pure (.bool (← Op.equal t u v))) else (do pure (.bool (!(← Op.equal t u v))))) := by
    unfold nilEq at h
    rcases ho with rfl | rfl <;> (split at h <;> first | (cases h; done) | rfl)
  rw [h4]
  rcases ho with rfl | rfl
  · simp [h3]
  · simp [h3]
theorem binC_sound {op : BinOp} {t : TypeId} {x y : Operand} {u v u' v' r : Value} (h1 : VR ρ u u') (h2 : VR ρ v v') (h : binC P op t u v = some r) :
    (do eqGuard op t x y u' v'; binOp op t u' v' : Sem Value).run P w = .ok r w ∧ VR ρ r r := by
  unfold binC at h
  split at h
  · rename_i j a k b
    cases h1
    cases h2
    have hg := eqGuard_int (P := P) (w := w) op t x y j k a b
    rw [Sem.run_bind, hg, Result.andThen_ok]
    split at h
    · refine ⟨fastSh_run h, ?_⟩
      unfold fastSh at h; split at h <;> first | (cases h; done) | skip
      rename_i m n
      cases hn : Nat.ble n 64 with
      | false => rw [hn] at h; cases h
      | true =>
        rw [hn] at h; simp only [cond_true] at h
        cases hb : Nat.ble n j.bits with
        | false => rw [hb] at h; cases h
        | true => rw [hb] at h; cases h; constructor
    · refine ⟨fastSh_run h, ?_⟩
      unfold fastSh at h; split at h <;> first | (cases h; done) | skip
      rename_i m n
      cases hn : Nat.ble n 64 with
      | false => rw [hn] at h; cases h
      | true =>
        rw [hn] at h; simp only [cond_true] at h
        cases hb : Nat.ble n j.bits with
        | false => rw [hb] at h; cases h
        | true => rw [hb] at h; cases h; constructor
    · cases hk : kindEq j k with
      | false => rw [hk] at h; cases h
      | true =>
        rw [hk] at h
        simp only [cond_true] at h
        obtain rfl := kindEq_eq hk
        refine ⟨fastBin_run h, ?_⟩
        cases op <;> simp only [fastBin] at h <;> first
          | (cases h; constructor; done)
          | (split at h <;> first | (cases h; done) | (cases h; constructor; done) | (rename_i m n; cases hc : (Nat.blt m (topN j) && Nat.blt n (topN j)) <;> rw [hc] at h <;> cases h <;> constructor))
          | (cases h; done)
  · split at h
    · cases hn : nilEq (P.underlying t) u v with
      | none => rw [hn] at h; cases h
      | some b =>
        rw [hn] at h; cases h
        have hn' := nilEq_VR h1 h2 hn
        refine ⟨?_, .bool _⟩
        rw [Sem.run_bind, eqGuard_nil hn', Result.andThen_ok, binOp_nil (.inl rfl) hn']
        rfl
    · cases hn : nilEq (P.underlying t) u v with
      | none => rw [hn] at h; cases h
      | some b =>
        rw [hn] at h; cases h
        have hn' := nilEq_VR h1 h2 hn
        refine ⟨?_, .bool _⟩
        rw [Sem.run_bind, eqGuard_nil hn', Result.andThen_ok, binOp_nil (.inr rfl) hn']
        rfl
    · cases h
theorem binOp_ok {op : BinOp} {t yt : TypeId} {x y : Operand} (hT : TR ρ T a.tmps) (hG : Glob G ρ)
    (h : (match aeval G T x, aeval G T y with
      | some u, some v => (match binC P op t u v with
        | some r => forceV r fun r => Rs.ok (.v r [] N)
        | none => flatC P G T N ⟨dst, .binOp op t x y yt, type, pos, after, guard⟩)
      | _, _ => .bad 116) = Rs.ok out) : OpOk P ⟨dst, .binOp op t x y yt, type, pos, after, guard⟩ ρ N out a w := by
  split at h
  · rename_i u v hx hy
    split at h
    · rename_i r hr
      rw [forceV_eq] at h
      cases h
      obtain ⟨h1, h2⟩ := binC_sound (w := w) (x := x) (y := y) (aeval_sound hT hG hx) (aeval_sound hT hG hy) hr
      refine pure_ok rfl (v := r) ?_ h2 (fun _ h => (by cases h))
      simp only [execOp]
      rw [Sem.run_bind, h1]
      rfl
    · exact flat_ok hT hG h (fun _ h => (by cases h)) (fun _ _ h => (by cases h))
  · cases h
theorem unOp_ok {op : UnOp} {t : TypeId} {x : Operand} (hT : TR ρ T a.tmps) (hG : Glob G ρ)
    (h : (match aeval G T x with
    | some u => (match unC op u with
      | some r => forceV r fun r => Rs.ok (.v r [] N)
      | none => flatC P G T N ⟨dst, .unOp op t x, type, pos, after, guard⟩)
    | none => .bad 160) = Rs.ok out) : OpOk P ⟨dst, .unOp op t x, type, pos, after, guard⟩ ρ N out a w := by
  split at h
  · rename_i u hx
    split at h
    · rename_i r hr
      rw [forceV_eq] at h
      cases h
      have h1 := aeval_sound hT hG hx
      unfold unC at hr
      split at hr
      · cases hr
        generalize hv : a.eval x = v at h1
        cases h1
        exact pure_ok rfl (by simp only [execOp, hv]; rfl) (.bool _) (fun _ h => (by cases h))
      · cases hr
        generalize hv : a.eval x = v at h1
        cases h1
        exact pure_ok rfl (by simp only [execOp, hv, Op.unary, Op.intArith, wrapF_eq]; rfl) (.int _ _) (fun _ h => (by cases h))
      · cases hr
    · exact flat_ok hT hG h (fun _ h => (by cases h)) (fun _ _ h => (by cases h))
  · cases h
theorem convert_ok {s d : TypeId} {x : Operand} (hT : TR ρ T a.tmps) (hG : Glob G ρ)
    (h : (match aeval G T x with
    | some u => (match convC P s d u with
      | some r => forceV r fun r => Rs.ok (.v r [] N)
      | none => flatC P G T N ⟨dst, .convert s d x, type, pos, after, guard⟩)
    | none => .bad 161) = Rs.ok out) : OpOk P ⟨dst, .convert s d x, type, pos, after, guard⟩ ρ N out a w := by
  split at h
  · rename_i u hx
    split at h
    · rename_i r hr
      rw [forceV_eq] at h
      cases h
      have h1 := aeval_sound hT hG hx
      unfold convC at hr
      split at hr
      · rename_i ds k j n hs hd
        cases hr
        generalize hv : a.eval x = v at h1
        cases h1
        refine pure_ok rfl (v := .int k (wrapF k n)) ?_ (.int _ _) (fun _ h => (by cases h))
        have : ∀ (dd : TypeDesc), (convert s d (.int j n)).run P w = .ok (.int k (wrapF k n)) w := fun _ => by
          simp only [convert, underlying, Sem.run_bind, run_program, Result.andThen_ok, hs, hd, Sem.run_pure, wrapF_eq]
          cases ds <;> rfl
        simp only [execOp, hv, Sem.run_bind, this ds]
        rfl
      · cases hr
    · exact flat_ok hT hG h (fun _ h => (by cases h)) (fun _ _ h => (by cases h))
  · cases h
end
end Go.Proofs.YtadpelhmjmamnaaGreatDoor.Ev
