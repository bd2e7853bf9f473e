/- The reckoner made ready does what the reckoner does: operations. No conditions. -/
import Derived.Test.YtadpelhmjmamnaaGreatDoorEvP17
namespace Go.Proofs.YtadpelhmjmamnaaGreatDoor.Ev
open Go Go.RowKit

theorem getF_nil (T : PT Value) : (getF []).run T = T.get 0 := by cases T <;> rfl
theorem getF_cons (b : Bool) (p : List Bool) (T : PT Value) : (getF (b :: p)).run T = match T with | .nil => none | .node l _ r => (getF p).run (if b then l else r) := by
  cases b <;> cases T <;> rfl
theorem pathN_succ (d i : Nat) : pathN (d + 1) i = cond (Nat.beq i 0) [] (cond (Nat.beq (Nat.mod i 2) 1) (true :: pathN d (Nat.div i 2)) (false :: pathN d (Nat.pred (Nat.div i 2)))) := rfl
theorem pathN_odd (d m : Nat) : pathN (d + 1) (2 * m + 1) = true :: pathN d m := by
  have h2 : Nat.mod (2 * m + 1) 2 = 1 := by show (2 * m + 1) % 2 = 1; omega
  have h3 : Nat.div (2 * m + 1) 2 = m := by show (2 * m + 1) / 2 = m; omega
  rw [pathN_succ, h2, h3]; rfl
theorem pathN_even (d m : Nat) : pathN (d + 1) (2 * m + 2) = false :: pathN d m := by
  have h2 : Nat.mod (2 * m + 2) 2 = 0 := by show (2 * m + 2) % 2 = 0; omega
  have h3 : Nat.div (2 * m + 2) 2 = m + 1 := by show (2 * m + 2) / 2 = m + 1; omega
  rw [pathN_succ, h2, h3]; rfl
theorem getF_eq : ∀ (d i : Nat) (T : PT Value), i < d → (getF (pathN d i)).run T = T.get i
  | 0, i, T, h => by omega
  | d + 1, i, T, h => by
    rcases PT.three i with rfl | ⟨m, rfl⟩ | ⟨m, rfl⟩
    · exact getF_nil T
    · rw [pathN_odd, getF_cons]
      cases T with
      | nil => rfl
      | node l v r => simp only [if_true]; rw [getF_eq d m l (by omega), PT.get_odd]
    · rw [pathN_even, getF_cons]
      cases T with
      | nil => rfl
      | node l v r => simp only [Bool.false_eq_true, if_false]; rw [getF_eq d m r (by omega), PT.get_even]
section
variable {β : Type}
theorem setF_cons (b : Bool) (p : List Bool) (T : PT Value) (x : Value) (k : PT Value → Rs β) : (setF (b :: p)).run T x k = match T with | .nil => .bad 204 | .node l v r => if b then (setF p).run l x (fun l' => k (.node l' v r)) else (setF p).run r x (fun r' => k (.node l v r')) := by
  cases b <;> cases T <;> rfl
theorem setF_eq : ∀ (d i : Nat) (T : PT Value) (x : Value) (k : PT Value → Rs β), i < d → (setF (pathN d i)).run T x k = T.setK i x k (.bad 204)
  | 0, i, T, x, k, h => by omega
  | d + 1, i, T, x, k, h => by
    rcases PT.three i with rfl | ⟨m, rfl⟩ | ⟨m, rfl⟩
    · cases T <;> rfl
    · rw [pathN_odd, setF_cons]
      cases T with
      | nil => rfl
      | node l v r => simp only [if_true]; rw [setF_eq d m l x _ (by omega), PT.setK_odd]
    · rw [pathN_even, setF_cons]
      cases T with
      | nil => rfl
      | node l v r => simp only [Bool.false_eq_true, if_false]; rw [setF_eq d m r x _ (by omega), PT.setK_even]
end
theorem argF_eq (G : Nat) (x : Operand) (T : PT Value) : (argF G x).run T = aeval G T x := by
  cases x with
  | tmp t => exact getF_eq (t + 1) t T (Nat.lt_succ_self t)
  | const v =>
    show (cond (flat 5 v) (⟨fun _ => some v⟩ : GetC) ⟨fun _ => none⟩).run T = cond (flat 5 v) (some v) none
    cases flat 5 v <;> rfl
  | global g =>
    show (cond (Nat.blt g G) (⟨fun _ => some (.pointer (some ⟨g, 0, none⟩))⟩ : GetC) ⟨fun _ => none⟩).run T = cond (Nat.blt g G) (some (.pointer (some ⟨g, 0, none⟩))) none
    cases Nat.blt g G <;> rfl
  | func f => rfl
theorem valsF_eq (G : Nat) : ∀ (l : List Operand) (T : PT Value) (k : List Value → Rs Out), (valsF G l).run T k = vals G T l k
  | [], T, k => rfl
  | x :: l, T, k => by
    have h : (valsF G (x :: l)).run T k = Option.rec (motive := fun _ => Rs Out) (.bad 81) (fun v => (valsF G l).run T (fun l => k (v :: l))) ((argF G x).run T) := rfl
    have h2 : vals G T (x :: l) k = match aeval G T x with | some v => vals G T l (fun l => k (v :: l)) | none => .bad 81 := rfl
    rw [h, h2, argF_eq]
    cases aeval G T x with
    | none => rfl
    | some v => exact valsF_eq G l T _

theorem rawN_eq (n : Nat) (k : Nat → RX) : rawN n k = k n := by cases n <;> rfl
theorem rawI_eq (j : IntKind) (n : Int) (k : Value → RX) : rawI j n k = k (.int j n) := by cases n with | ofNat m => cases m <;> rfl | negSucc m => cases m <;> rfl
theorem wrapK_eq (j : IntKind) (n : Int) (k : Value → RX) : wrapK j n k = k (.int j (wrapF j n)) := by
  cases n with
  | negSucc m => exact rawI_eq j _ k
  | ofNat m =>
    show Bool.rec (motive := fun _ => RX) (rawI j (j.wrap (.ofNat m)) k) (Nat.rec (motive := fun _ => RX) (k (.int j (.ofNat 0))) (fun m _ => k (.int j (.ofNat (Nat.succ m)))) m) (Nat.blt m (topN j)) = k (.int j (cond (Nat.blt m (topN j)) (.ofNat m) (j.wrap (.ofNat m))))
    cases Nat.blt m (topN j) with
    | false => exact rawI_eq j _ k
    | true => cases m <;> rfl
theorem ltI_eq (a b : Int) : ltI a b = ltF a b := by cases a <;> cases b <;> rfl
theorem eqI_eq (a b : Int) : eqI a b = eqF a b := by cases a <;> cases b <;> rfl
theorem kindB_eq (j k : IntKind) : kindB j k = kindEq j k := by cases j <;> rfl

section
variable {P : Program} {G : Nat} {o : Oper}
theorem vals_inv {T : PT Value} : ∀ (l : List Operand) (k : List Value → Rs Out) (r : Out), vals G T l k = .ok r → ∃ us, k us = .ok r ∧ ∀ k' : List Value → Rs Out, vals G T l k' = k' us
  | [], k, r, h => ⟨[], h, fun _ => rfl⟩
  | x :: l, k, r, h => by
    have h' : (match aeval G T x with | some v => vals G T l (fun l => k (v :: l)) | none => .bad 81) = .ok r := h
    cases hx : aeval G T x with
    | none => rw [hx] at h'; cases h'
    | some v =>
      rw [hx] at h'
      obtain ⟨us, h1, h2⟩ := vals_inv l _ r h'
      refine ⟨v :: us, h1, fun k' => ?_⟩
      have : vals G T (x :: l) k' = match aeval G T x with | some v => vals G T l (fun l => k' (v :: l)) | none => .bad 81 := rfl
      rw [this, hx]
      exact h2 _
theorem flatC_inv {T : PT Value} {N0 : Nat} {out : Out} (h : flatC P G T N0 o = .ok out) : ∃ u, out = .v u [] N0 ∧ ∀ N, flatC P G T N o = .ok (.v u [] N) := by
  unfold flatC at h
  obtain ⟨us, h1, h2⟩ := vals_inv _ _ _ h
  cases hf : us.all (flat 5) with
  | false => rw [hf] at h1; cases h1
  | true =>
    rw [hf] at h1
    simp only [cond_true] at h1
    split at h1
    · rename_i v hp
      rw [forceV_eq] at h1
      cases hfv : flat 5 v with
      | false => rw [hfv] at h1; cases h1
      | true =>
        rw [hfv] at h1
        cases h1
        refine ⟨v, rfl, fun N => ?_⟩
        unfold flatC
        rw [h2, hf]
        simp only [cond_true, hp, forceV_eq, hfv]
    · cases h1
theorem flatF_spec {T : PT Value} {k : Value → RX} {r : Ex × St} (h : flatF P G o T k = .ok r) : ∃ u, (∀ N, flatC P G T N o = .ok (.v u [] N)) ∧ k u = .ok r := by
  unfold flatF at h
  cases hf : flatC P G T 0 o with
  | bad e => rw [hf] at h; cases h
  | ok out =>
    obtain ⟨u, rfl, h2⟩ := flatC_inv hf
    rw [hf] at h
    exact ⟨u, h2, h⟩
theorem orF_spec {T : PT Value} {q : Rs Value} {k : Value → RX} {r : Ex × St} (h : orF P G o T q k = .ok r) : ∃ u, (∀ N, orFlat P G T N o q = .ok (.v u [] N)) ∧ k u = .ok r := by
  cases q with
  | ok v => exact ⟨v, fun _ => rfl, h⟩
  | bad e => exact flatF_spec h

/-- What is asked of an operation that is made ready. -/
def OpFOk (P : Program) (G : Nat) (o : Oper) : OpC → Prop
  | .pure f => ∀ call yld H T k r, f T k = .ok r → ∃ u, (∀ N, aop P G call yld o T H N = .ok (.v u [] N)) ∧ k u = .ok r
  | .gen f => ∀ call yld T H N out, f call yld T H N = .ok out → aop P G call yld o T H N = .ok out
theorem pure1 {X : Operand} {body : Value → PT Value → (Value → RX) → RX} {e : Nat} (h : ∀ u T k r call yld H, aeval G T X = some u → body u T k = .ok r → ∃ v, (∀ N, aop P G call yld o T H N = .ok (.v v [] N)) ∧ k v = .ok r) :
    OpFOk P G o (match argF G X with | ⟨x⟩ => .pure fun T k => Option.rec (motive := fun _ => RX) (.bad e) (fun v => body v T k) (x T)) := by
  intro call yld H T k r hr
  have hr' : Option.rec (motive := fun _ => RX) (.bad e) (fun v => body v T k) ((argF G X).run T) = .ok r := hr
  rw [argF_eq] at hr'
  cases hx : aeval G T X with
  | none => rw [hx] at hr'; cases hr'
  | some u => rw [hx] at hr'; exact h u T k r call yld H hx hr'
/-- The fast way through an operation on two numbers. -/
def FastOk (op : BinOp) (f : IntKind → Int → Int → (Value → RX) → RX → RX) : Prop := ∀ j a b k e, f j a b k e = match fastBin op j a b with | some v => k v | none => e
theorem binC_int {op : BinOp} (hop : op ≠ .shl ∧ op ≠ .shr) (t : TypeId) (j l : IntKind) (a b : Int) : binC P op t (.int j a) (.int l b) = cond (kindEq j l) (fastBin op j a b) none := by
  cases op <;> first | rfl | exact absurd rfl hop.1 | exact absurd rfl hop.2
theorem binI_spec {op : BinOp} {t yt : TypeId} {X Y : Operand} {f : IntKind → Int → Int → (Value → RX) → RX → RX} (ho : o.op = .binOp op t X Y yt) (hop : op ≠ .shl ∧ op ≠ .shr) (hf : FastOk op f) :
    OpFOk P G o (binI P G o f op t (argF G X).run (argF G Y).run) := by
  intro call yld H T k r hr
  have haop : ∀ u v, aeval G T X = some u → aeval G T Y = some v → ∀ N, aop P G call yld o T H N = (match binC P op t u v with | some r => forceV r fun r => .ok (.v r [] N) | none => flatC P G T N o) := fun u v hx hy N => by
    unfold aop; rw [ho]; simp only [hx, hy]; rfl
  have hr' : Option.rec (motive := fun _ => RX) (.bad 116) (fun u => Option.rec (motive := fun _ => RX) (.bad 116) (fun v => VI.rec (motive := fun _ => RX)
      (fun j a => VI.rec (motive := fun _ => RX) (fun l b => Bool.rec (motive := fun _ => RX) (flatF P G o T k) (f j a b k (flatF P G o T k)) (kindB j l)) (Option.rec (motive := fun _ => RX) (flatF P G o T k) (fun r => forceV r k) (binC P op t u v)) (vI v))
      (Option.rec (motive := fun _ => RX) (flatF P G o T k) (fun r => forceV r k) (binC P op t u v)) (vI u)) ((argF G Y).run T)) ((argF G X).run T) = .ok r := hr
  rw [argF_eq, argF_eq] at hr'
  cases hx : aeval G T X with
  | none => rw [hx] at hr'; cases hr'
  | some u =>
    rw [hx] at hr'
    cases hy : aeval G T Y with
    | none => rw [hy] at hr'; cases hr'
    | some v =>
      rw [hy] at hr'
      have ha := haop u v hx hy
      have slow : Option.rec (motive := fun _ => RX) (flatF P G o T k) (fun r => forceV r k) (binC P op t u v) = .ok r → ∃ u, (∀ N, aop P G call yld o T H N = .ok (.v u [] N)) ∧ k u = .ok r := fun h => by
        cases hb : binC P op t u v with
        | none =>
          rw [hb] at h ha
          obtain ⟨u, h1, h2⟩ := flatF_spec h
          exact ⟨u, fun N => (ha N).trans (h1 N), h2⟩
        | some q =>
          rw [hb] at h ha
          simp only [forceV_eq] at h ha
          exact ⟨q, ha, h⟩
      cases u with
      | int j a =>
        cases v with
        | int l b =>
          have hr2 : Bool.rec (motive := fun _ => RX) (flatF P G o T k) (f j a b k (flatF P G o T k)) (kindB j l) = .ok r := hr'
          rw [kindB_eq] at hr2
          rw [binC_int hop] at ha
          cases hk : kindEq j l with
          | false =>
            rw [hk] at hr2 ha
            obtain ⟨u, h1, h2⟩ := flatF_spec hr2
            exact ⟨u, fun N => (ha N).trans (h1 N), h2⟩
          | true =>
            rw [hk] at hr2 ha
            have hr3 : f j a b k (flatF P G o T k) = .ok r := hr2
            rw [hf] at hr3
            simp only [cond_true] at ha
            cases hq : fastBin op j a b with
            | none =>
              rw [hq] at hr3 ha
              obtain ⟨u, h1, h2⟩ := flatF_spec hr3
              exact ⟨u, fun N => (ha N).trans (h1 N), h2⟩
            | some q =>
              rw [hq] at hr3 ha
              simp only [forceV_eq] at ha
              exact ⟨q, ha, hr3⟩
        | _ => exact slow hr'
      | _ => exact slow hr'
theorem binS_spec {op : BinOp} {t yt : TypeId} {X Y : Operand} (ho : o.op = .binOp op t X Y yt) : OpFOk P G o (binS P G o op t (argF G X).run (argF G Y).run) := by
  intro call yld H T k r hr
  have haop : ∀ u v, aeval G T X = some u → aeval G T Y = some v → ∀ N, aop P G call yld o T H N = (match binC P op t u v with | some r => forceV r fun r => .ok (.v r [] N) | none => flatC P G T N o) := fun u v hx hy N => by
    unfold aop; rw [ho]; simp only [hx, hy]; rfl
  have hr' : Option.rec (motive := fun _ => RX) (.bad 116) (fun u => Option.rec (motive := fun _ => RX) (.bad 116) (fun v => Option.rec (motive := fun _ => RX) (flatF P G o T k) (fun r => forceV r k) (binC P op t u v)) ((argF G Y).run T)) ((argF G X).run T) = .ok r := hr
  rw [argF_eq, argF_eq] at hr'
  cases hx : aeval G T X with
  | none => rw [hx] at hr'; cases hr'
  | some u =>
    rw [hx] at hr'
    cases hy : aeval G T Y with
    | none => rw [hy] at hr'; cases hr'
    | some v =>
      rw [hy] at hr'
      have ha := haop u v hx hy
      have h : Option.rec (motive := fun _ => RX) (flatF P G o T k) (fun r => forceV r k) (binC P op t u v) = .ok r := hr'
      cases hb : binC P op t u v with
      | none =>
        rw [hb] at h ha
        obtain ⟨u, h1, h2⟩ := flatF_spec h
        exact ⟨u, fun N => (ha N).trans (h1 N), h2⟩
      | some q =>
        rw [hb] at h ha
        simp only [forceV_eq] at h ha
        exact ⟨q, ha, h⟩
theorem fast_add : FastOk .add addI := fun j _ _ k _ => wrapK_eq j _ k
theorem fast_sub : FastOk .sub subI := fun j _ _ k _ => wrapK_eq j _ k
theorem fast_mul : FastOk .mul mulI := fun j _ _ k _ => wrapK_eq j _ k
theorem brec (k : Value → RX) (b : Bool) : Bool.rec (motive := fun _ => RX) (k (.bool false)) (k (.bool true)) b = k (.bool b) := by cases b <;> rfl
theorem brecN (k : Value → RX) (b : Bool) : Bool.rec (motive := fun _ => RX) (k (.bool true)) (k (.bool false)) b = k (.bool (!b)) := by cases b <;> rfl
theorem fast_lss : FastOk .lss lssI := fun j a b k e => by unfold lssI; rw [brec, ltI_eq]; rfl
theorem fast_gtr : FastOk .gtr gtrI := fun j a b k e => by unfold gtrI; rw [brec, ltI_eq]; rfl
theorem fast_leq : FastOk .leq leqI := fun j a b k e => by unfold leqI; rw [brecN, ltI_eq]; rfl
theorem fast_geq : FastOk .geq geqI := fun j a b k e => by unfold geqI; rw [brecN, ltI_eq]; rfl
theorem fast_eql : FastOk .eql eqlI := fun j a b k e => by unfold eqlI; rw [brec, eqI_eq]; rfl
theorem fast_neq : FastOk .neq neqI := fun j a b k e => by unfold neqI; rw [brecN, eqI_eq]; rfl
theorem fast_slow (op : BinOp) : FastOk op (slowI op) := fun j a b k e => by
  unfold slowI
  cases fastBin op j a b with
  | none => rfl
  | some v => exact forceV_eq v k
end
end Go.Proofs.YtadpelhmjmamnaaGreatDoor.Ev
