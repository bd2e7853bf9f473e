/- The reckoner: an operation goes by its operands alone. No conditions. -/
import Derived.Test.YtadpelhmjmamnaaGreatDoorEvP21
namespace Go.Proofs.YtadpelhmjmamnaaGreatDoor.Ev
open Go Go.RowKit

theorem PT.only {α : Type} (T : PT α) : ∀ (p : Nat → Bool), ∃ T' : PT α, ∀ t, T'.get t = if p t then T.get t else none := by
  induction T with
  | nil => intro p; exact ⟨.nil, fun t => by cases p t <;> rfl⟩
  | node l v r ihl ihr =>
    intro p
    obtain ⟨l', hl⟩ := ihl (fun m => p (2 * m + 1))
    obtain ⟨r', hr⟩ := ihr (fun m => p (2 * m + 2))
    refine ⟨.node l' (if p 0 then v else none) r', fun t => ?_⟩
    rcases PT.three t with rfl | ⟨m, rfl⟩ | ⟨m, rfl⟩
    · rfl
    · rw [PT.get_odd, PT.get_odd]; exact hl m
    · rw [PT.get_even, PT.get_even]; exact hr m
section
variable {P : Program} {G : Nat} {call : CallT} {yld : YldT} {T T' : PT Value} {H : HP} {N : Nat}
theorem vals_congr : ∀ (l : List Operand) (k : List Value → Rs Out), (∀ x ∈ l, aeval G T x = aeval G T' x) → vals G T l k = vals G T' l k
  | [], k, h => rfl
  | x :: l, k, h => by
    have e : ∀ T, vals G T (x :: l) k = match aeval G T x with | some v => vals G T l (fun l => k (v :: l)) | none => .bad 81 := fun _ => rfl
    rw [e, e, h x List.mem_cons_self]
    cases aeval G T' x with
    | none => rfl
    | some v => exact vals_congr l _ (fun y hy => h y (List.mem_cons_of_mem _ hy))
theorem flatC_congr {o : Oper} (hs : ∀ cs b, o.op ≠ .select cs b) (h : ∀ x ∈ o.op.operands, aeval G T x = aeval G T' x) : flatC P G T N o = flatC P G T' N o := by
  unfold flatC
  have e : execOp (aevalD G T) o = execOp (aevalD G T') o := execOp_congr o hs (fun x hx => by simp only [aevalD, h x hx])
  rw [vals_congr _ _ (fun x hx => h x (by simpa using hx)), e]
theorem orFlat_congr {o : Oper} {r : Rs Value} (hs : ∀ cs b, o.op ≠ .select cs b) (h : ∀ x ∈ o.op.operands, aeval G T x = aeval G T' x) : orFlat P G T N o r = orFlat P G T' N o r := by
  unfold orFlat
  cases r with
  | ok v => rfl
  | bad e => exact flatC_congr hs h
theorem optO_congr {x : Option Operand} (h : ∀ y, x = some y → aeval G T y = aeval G T' y) : optO G T x = optO G T' x := by
  unfold optO
  cases x with
  | none => rfl
  | some y => simp only [h y rfl]
theorem aop_congr {o : Oper} (h : ∀ x ∈ o.op.operands, aeval G T x = aeval G T' x) : aop P G call yld o T H N = aop P G call yld o T' H N := by
  obtain ⟨dst, op, type, pos, after, guard⟩ := o
  have fl : (∀ cs b, op ≠ .select cs b) → flatC P G T N ⟨dst, op, type, pos, after, guard⟩ = flatC P G T' N ⟨dst, op, type, pos, after, guard⟩ := fun hs => flatC_congr hs h
  have orf : (∀ cs b, op ≠ .select cs b) → ∀ r, orFlat P G T N ⟨dst, op, type, pos, after, guard⟩ r = orFlat P G T' N ⟨dst, op, type, pos, after, guard⟩ r := fun hs r => orFlat_congr hs h
  cases op with
  | move x => simp only [aop, h x (by simp [Op.operands])]
  | assign x => simp only [aop, h x (by simp [Op.operands])]
  | pick c x y => simp only [aop, h c (by simp [Op.operands]), h x (by simp [Op.operands]), h y (by simp [Op.operands])]
  | box e x => simp only [aop, h x (by simp [Op.operands])]
  | load t x => simp only [aop, h x (by simp [Op.operands])]
  | store t x y => simp only [aop, h x (by simp [Op.operands]), h y (by simp [Op.operands])]
  | makeSlice t x y => simp only [aop, h x (by simp [Op.operands]), h y (by simp [Op.operands])]
  | build t parts =>
    simp only [aop]
    rw [vals_congr _ _ (fun x hx => h x (by simpa [Op.operands] using hx))]
    congr 1
    funext vs
    exact orf (fun _ _ e => (by cases e)) _
  | buildSlice t len parts =>
    simp only [aop]
    exact vals_congr _ _ (fun x hx => h x (by simpa [Op.operands] using hx))
  | nilCheck x => simp only [aop, h x (by simp [Op.operands]), orf (fun _ _ e => (by cases e))]
  | binOp op t x y yt => simp only [aop, h x (by simp [Op.operands]), h y (by simp [Op.operands]), fl (fun _ _ e => (by cases e))]
  | unOp op t x => simp only [aop, h x (by simp [Op.operands]), fl (fun _ _ e => (by cases e))]
  | convert s d x => simp only [aop, h x (by simp [Op.operands]), fl (fun _ _ e => (by cases e))]
  | makeInterface t x => simp only [aop, h x (by simp [Op.operands]), orf (fun _ _ e => (by cases e))]
  | makeFunc fn first captured =>
    cases fn with
    | func f =>
      simp only [aop]
      rw [vals_congr _ _ (fun x hx => h x (by simp [Op.operands]; exact .inl (by simpa using hx)))]
      congr 1
      funext vs
      exact vals_congr _ _ (fun x hx => h x (by simp [Op.operands]; exact .inr (by simpa using hx)))
    | method f =>
      simp only [aop]
      rw [vals_congr _ _ (fun x hx => h x (by simp [Op.operands]; exact .inl (by simpa using hx)))]
      congr 1
      funext vs
      exact vals_congr _ _ (fun x hx => h x (by simp [Op.operands]; exact .inr (by simpa using hx)))
    | _ => rfl
  | slice t x lo hi mx =>
    simp only [aop, h x (by simp [Op.operands]), orf (fun _ _ e => (by cases e)), optO_congr (x := lo) (fun y hy => h y (by subst hy; simp [Op.operands])), optO_congr (x := hi) (fun y hy => h y (by subst hy; simp [Op.operands])), optO_congr (x := mx) (fun y hy => h y (by subst hy; simp [Op.operands]))]
  | fieldAddr t x f => simp only [aop, h x (by simp [Op.operands]), orf (fun _ _ e => (by cases e))]
  | field t x f => simp only [aop, h x (by simp [Op.operands]), orf (fun _ _ e => (by cases e))]
  | indexAddr t x i => simp only [aop, h x (by simp [Op.operands]), h i (by simp [Op.operands]), orf (fun _ _ e => (by cases e))]
  | index t x i => simp only [aop, h x (by simp [Op.operands]), h i (by simp [Op.operands]), orf (fun _ _ e => (by cases e))]
  | lookup t x i ok => simp only [aop, h x (by simp [Op.operands]), h i (by simp [Op.operands]), fl (fun _ _ e => (by cases e))]
  | mapUpdate t x i y => simp only [aop, h x (by simp [Op.operands]), h i (by simp [Op.operands]), h y (by simp [Op.operands])]
  | typeAssert x xt t ok => simp only [aop, h x (by simp [Op.operands]), orf (fun _ _ e => (by cases e))]
  | extract x i => simp only [aop, h x (by simp [Op.operands]), orf (fun _ _ e => (by cases e))]
  | call c =>
    obtain ⟨callee, args, ts⟩ := c
    cases callee with
    | invoke r m =>
      simp only [aop, h r (by simp [Op.operands, Call.operands])]
      have hv : ∀ k, vals G T args.toList k = vals G T' args.toList k := fun k => vals_congr _ _ (fun x hx => h x (by simp [Op.operands, Call.operands]; exact .inr (by simpa using hx)))
      simp only [hv]
    | value f =>
      simp only [aop, h f (by simp [Op.operands, Call.operands])]
      have hv : ∀ k, vals G T args.toList k = vals G T' args.toList k := fun k => vals_congr _ _ (fun x hx => h x (by simp [Op.operands, Call.operands]; exact .inr (by simpa using hx)))
      simp only [hv]
    | builtin b =>
      obtain ⟨args⟩ := args
      obtain ⟨ts⟩ := ts
      have ha : ∀ x ∈ args, aeval G T x = aeval G T' x := fun x hx => h x (by simpa [Op.operands, Call.operands] using hx)
      have hfl := fl (fun _ _ e => (by cases e))
      show builtinC P G _ T H N b args ts = builtinC P G _ T' H N b args ts
      unfold builtinC
      split
      · rename_i x y st xt
        rw [ha x (by simp), ha y (by simp)]
      · rename_i x y st xt
        rw [ha x (by simp), ha y (by simp)]
      · rename_i x t
        simp only [ha x (by simp), hfl]
      · rename_i x t
        simp only [ha x (by simp), hfl]
      · exact hfl
  | makeMap t r => cases r <;> rfl
  | _ => rfl
/-- An operation by its operands alone. -/
theorem aop_looks {ρ : Env} {out : Out} {a : Act} {w : World} {o : Oper} (hc : CallOk P G call) (hy : YldOk P G yld) (hS : Sat P ρ H w) (hT : ∀ t, Operand.tmp t ∈ o.op.operands → ∀ u, T.get t = some u → ∃ v, a.tmps[t]? = some v ∧ VR ρ u v) (hG : Glob G ρ) (hN : ∀ n b, H.get n = some b → n < N) (h : aop P G call yld o T H N = .ok out) : OpOk P o ρ N out a w := by
  obtain ⟨T', hT'⟩ := PT.only T (fun t => o.op.operands.toList.any fun x => match x with | .tmp s => s == t | _ => false)
  have hmem : ∀ t, (o.op.operands.toList.any fun x => match x with | .tmp s => s == t | _ => false) = true ↔ Operand.tmp t ∈ o.op.operands := fun t => by
    rw [List.any_eq_true]
    constructor
    · rintro ⟨x, hx, h⟩
      cases x with
      | tmp s => simp only [beq_iff_eq] at h; subst h; simpa using hx
      | _ => cases h
    · intro h; exact ⟨_, by simpa using h, by simp⟩
  have hcong : aop P G call yld o T H N = aop P G call yld o T' H N := aop_congr (fun x hx => by
    cases x with
    | tmp t =>
      show T.get t = T'.get t
      rw [hT', if_pos ((hmem t).2 hx)]
    | _ => rfl)
  rw [hcong] at h
  refine aop_ok hc hy hS (fun t u hu => ?_) hG hN h
  rw [hT'] at hu
  split at hu
  · rename_i hm; exact hT t ((hmem t).1 hm) u hu
  · cases hu
end
end Go.Proofs.YtadpelhmjmamnaaGreatDoor.Ev
