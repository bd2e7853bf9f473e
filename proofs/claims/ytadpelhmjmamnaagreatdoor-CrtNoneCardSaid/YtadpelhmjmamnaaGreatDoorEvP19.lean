/- The reckoner made ready does what the reckoner does: every operation. No conditions. -/
import Derived.Test.YtadpelhmjmamnaaGreatDoorEvP18
namespace Go.Proofs.YtadpelhmjmamnaaGreatDoor.Ev
open Go Go.RowKit

section
variable {P : Program} {G : Nat} {o : Oper}
theorem load_spec {t : TypeId} {X : Operand} (ho : o.op = .load t X) : OpFOk P G o (loadF P (argF G X).run t) := by
  have haop : ∀ call yld T H N, aop P G call yld o T H N = (match aeval G T X with | some (.pointer (some ⟨n, off, _⟩)) => loadC P H t n off fun v => .ok (.v v [] N) | _ => .bad 104) := fun call yld T H N => by
    unfold aop; rw [ho]; rfl
  unfold loadF
  split
  · rename_i hagg
    intro call yld T H N out h
    rw [haop]
    have h' : Option.rec (motive := fun _ => Rs Out) (.bad 104) (fun u => VP.rec (motive := fun _ => Rs Out) (fun n off => Option.rec (motive := fun _ => Rs Out) (.bad 15) (fun b => AB.rec (motive := fun _ => Rs Out) (fun _ _ l => Option.rec (motive := fun _ => Rs Out) (.bad 13) (fun v => .ok (.v v [] N)) (nth l off)) (fun _ => .bad 15) (.bad 15) (fun _ _ _ _ _ _ _ => .bad 15) b) (H.get n)) (.bad 104) (vP u)) ((argF G X).run T) = .ok out := h
    rw [argF_eq] at h'
    cases hx : aeval G T X with
    | none => rw [hx] at h'; cases h'
    | some u =>
      rw [hx] at h'
      cases u with
      | pointer ad =>
        cases ad with
        | none => cases h'
        | some ad =>
          obtain ⟨n, off, s⟩ := ad
          have h2 : Option.rec (motive := fun _ => Rs Out) (.bad 15) (fun b => AB.rec (motive := fun _ => Rs Out) (fun _ _ l => Option.rec (motive := fun _ => Rs Out) (.bad 13) (fun v => .ok (.v v [] N)) (nth l off)) (fun _ => .bad 15) (.bad 15) (fun _ _ _ _ _ _ _ => .bad 15) b) (H.get n) = Rs.ok out := h'
          simp only [loadC]
          cases hg : H.get n with
          | none => rw [hg] at h2; cases h2
          | some b =>
            rw [hg] at h2
            cases b with
            | cells g e l =>
              simp only [hagg]
              have h3 : Option.rec (motive := fun _ => Rs Out) (.bad 13) (fun v => .ok (.v v [] N)) (nth l off) = Rs.ok out := h2
              cases hn : nth l off with
              | none => rw [hn] at h3; cases h3
              | some v => rw [hn] at h3; exact h3
            | _ => cases h2
      | _ => cases h'
  · intro call yld T H N out h
    rw [haop]
    have h' : (match (argF G X).run T with | some (.pointer (some ⟨n, off, _⟩)) => loadC P H t n off fun v => .ok (.v v [] N) | _ => .bad 104) = Rs.ok out := h
    rwa [argF_eq] at h'
theorem two_args {X Y : Operand} {T : PT Value} {e : Nat} {body : Value → Value → RX} {r : Ex × St} (h : Option.rec (motive := fun _ => RX) (.bad e) (fun u => Option.rec (motive := fun _ => RX) (.bad e) (fun v => body u v) ((argF G Y).run T)) ((argF G X).run T) = .ok r) :
    ∃ u v, aeval G T X = some u ∧ aeval G T Y = some v ∧ body u v = .ok r := by
  rw [argF_eq, argF_eq] at h
  cases hx : aeval G T X with
  | none => rw [hx] at h; cases h
  | some u =>
    rw [hx] at h
    cases hy : aeval G T Y with
    | none => rw [hy] at h; cases h
    | some v => rw [hy] at h; exact ⟨u, v, rfl, rfl, h⟩
theorem idx_spec {t : TypeId} {X I : Operand} (ho : o.op = .indexAddr t X I) : OpFOk P G o (idxF P G o t (argF G X).run (argF G I).run) := by
  have haop : ∀ call yld H T u v, aeval G T X = some u → aeval G T I = some v → ∀ N, aop P G call yld o T H N = orFlat P G T N o (indexAddrC P t u v) := fun call yld H T u v hx hi N => by
    unfold aop; rw [ho]; simp only [hx, hi]
  unfold idxF
  split
  · rename_i e sz hso
    intro call yld H T k r h
    obtain ⟨u, v, hx, hi, h⟩ := two_args (G := G) h
    have ha := haop call yld H T u v hx hi
    have gen : orF P G o T (indexAddrC P t u v) k = .ok r → ∃ u, (∀ N, aop P G call yld o T H N = .ok (.v u [] N)) ∧ k u = .ok r := fun h => by
      obtain ⟨q, h1, h2⟩ := orF_spec h
      exact ⟨q, fun N => (ha N).trans (h1 N), h2⟩
    cases u with
    | slice ad len cap =>
      cases ad with
      | none => exact gen h
      | some ad =>
        obtain ⟨n, b, s⟩ := ad
        have bad : indexAddrC P t (.slice (some ⟨n, b, s⟩) len cap) v = .bad (match indexAddrC P t (.slice (some ⟨n, b, s⟩) len cap) v with | .bad e => e | .ok _ => 0) → flatF P G o T k = .ok r → ∃ u, (∀ N, aop P G call yld o T H N = .ok (.v u [] N)) ∧ k u = .ok r := fun hb h => by
          obtain ⟨q, h1, h2⟩ := flatF_spec h
          refine ⟨q, fun N => (ha N).trans ?_, h2⟩
          rw [hb]; exact h1 N
        cases v with
        | int j i =>
          cases i with
          | ofNat i =>
            have h' : Bool.rec (motive := fun _ => RX) (flatF P G o T k) (rawN (Nat.add b (Nat.mul i sz)) fun b => k (.pointer (some ⟨n, b, none⟩))) (Nat.blt i len) = .ok r := h
            have hia : indexAddrC P t (.slice (some ⟨n, b, s⟩) len cap) (.int j (.ofNat i)) = cond (Nat.blt i len) (forceN (Nat.add b (Nat.mul i sz)) fun o => .ok (.pointer (some ⟨n, o, none⟩))) (.bad 89) := by
              simp only [indexAddrC, hso]
            cases hb : Nat.blt i len with
            | true =>
              rw [hb] at h' hia
              have h2 : rawN (Nat.add b (Nat.mul i sz)) (fun b => k (.pointer (some ⟨n, b, none⟩))) = .ok r := h'
              rw [rawN_eq] at h2
              simp only [cond_true, forceN_eq] at hia
              exact ⟨_, fun N => (ha N).trans (by rw [hia]; rfl), h2⟩
            | false =>
              rw [hb] at h' hia
              exact bad (by rw [hia]; rfl) h'
          | negSucc i => exact bad rfl h
        | _ => exact bad rfl h
    | _ => exact gen h
  · intro call yld H T k r h
    obtain ⟨u, v, hx, hi, h⟩ := two_args (G := G) h
    obtain ⟨q, h1, h2⟩ := orF_spec h
    exact ⟨q, fun N => (haop call yld H T u v hx hi N).trans (h1 N), h2⟩
theorem one_arg {X : Operand} {T : PT Value} {e : Nat} {body : Value → RX} {r : Ex × St} (h : Option.rec (motive := fun _ => RX) (.bad e) (fun u => body u) ((argF G X).run T) = .ok r) : ∃ u, aeval G T X = some u ∧ body u = .ok r := by
  rw [argF_eq] at h
  cases hx : aeval G T X with
  | none => rw [hx] at h; cases h
  | some u => rw [hx] at h; exact ⟨u, rfl, h⟩
theorem fld_spec {t : TypeId} {X : Operand} {f : Nat} (ho : o.op = .fieldAddr t X f) : OpFOk P G o (fldF P G o t f (argF G X).run) := by
  have haop : ∀ call yld H T u, aeval G T X = some u → ∀ N, aop P G call yld o T H N = orFlat P G T N o (fieldAddrC P t u f) := fun call yld H T u hx N => by
    unfold aop; rw [ho]; simp only [hx]
  have gen : OpFOk P G o (.pure fun T k => Option.rec (motive := fun _ => RX) (.bad 118) (fun u => orF P G o T (fieldAddrC P t u f) k) ((argF G X).run T)) := fun call yld H T k r h => by
    obtain ⟨u, hx, h⟩ := one_arg (G := G) h
    obtain ⟨q, h1, h2⟩ := orF_spec h
    exact ⟨q, fun N => (haop call yld H T u hx N).trans (h1 N), h2⟩
  unfold fldF
  split
  · rename_i ft off hf
    split
    · rename_i s hs
      cases h0 : Nat.beq s 0 with
      | true => exact gen
      | false =>
        intro call yld H T k r h
        obtain ⟨u, hx, h⟩ := one_arg (G := G) h
        have ha := haop call yld H T u hx
        have gen2 : orF P G o T (fieldAddrC P t u f) k = .ok r → ∃ u, (∀ N, aop P G call yld o T H N = .ok (.v u [] N)) ∧ k u = .ok r := fun h => by
          obtain ⟨q, h1, h2⟩ := orF_spec h
          exact ⟨q, fun N => (ha N).trans (h1 N), h2⟩
        cases u with
        | pointer ad =>
          cases ad with
          | none => exact gen2 h
          | some ad =>
            obtain ⟨n, b, q⟩ := ad
            have h2 : rawN (Nat.add b off) (fun b => k (.pointer (some ⟨n, b, none⟩))) = .ok r := h
            rw [rawN_eq] at h2
            refine ⟨_, fun N => (ha N).trans ?_, h2⟩
            have : fieldAddrC P t (.pointer (some ⟨n, b, q⟩)) f = .ok (.pointer (some ⟨n, Nat.add b off, none⟩)) := by
              simp only [fieldAddrC, hf, hs, h0, cond_false, forceN_eq]
            rw [this]; rfl
        | _ => exact gen2 h
    · exact gen
  · exact gen
theorem simple_spec {X : Operand} {e : Nat} {body : Value → Rs Value} (haop : ∀ call yld H T u, aeval G T X = some u → ∀ N, aop P G call yld o T H N = orFlat P G T N o (body u)) :
    OpFOk P G o (.pure fun T k => Option.rec (motive := fun _ => RX) (.bad e) (fun v => orF P G o T (body v) k) ((argF G X).run T)) := fun call yld H T k r h => by
  obtain ⟨u, hx, h⟩ := one_arg (G := G) h
  obtain ⟨q, h1, h2⟩ := orF_spec h
  exact ⟨q, fun N => (haop call yld H T u hx N).trans (h1 N), h2⟩
theorem opt_spec {X : Operand} {e : Nat} {body : Value → Option Value} (haop : ∀ call yld H T u, aeval G T X = some u → ∀ N, aop P G call yld o T H N = (match body u with | some r => forceV r fun r => .ok (.v r [] N) | none => flatC P G T N o)) :
    OpFOk P G o (.pure fun T k => Option.rec (motive := fun _ => RX) (.bad e) (fun u => Option.rec (motive := fun _ => RX) (flatF P G o T k) (fun r => forceV r k) (body u)) ((argF G X).run T)) := fun call yld H T k r h => by
  obtain ⟨u, hx, h⟩ := one_arg (G := G) h
  have ha := haop call yld H T u hx
  cases hb : body u with
  | none =>
    rw [hb] at h ha
    obtain ⟨u, h1, h2⟩ := flatF_spec h
    exact ⟨u, fun N => (ha N).trans (h1 N), h2⟩
  | some q =>
    rw [hb] at h ha
    simp only [forceV_eq] at h ha
    exact ⟨q, ha, h⟩
theorem conv_spec {s d : TypeId} {X : Operand} (ho : o.op = .convert s d X) : OpFOk P G o (opF P G o) := by
  have haop : ∀ call yld H T u, aeval G T X = some u → ∀ N, aop P G call yld o T H N = (match convC P s d u with | some r => forceV r fun r => .ok (.v r [] N) | none => flatC P G T N o) := fun call yld H T u hx N => by
    unfold aop; rw [ho]; simp only [hx]; rfl
  have gen : OpFOk P G o (.pure fun T k => Option.rec (motive := fun _ => RX) (.bad 161) (fun u => Option.rec (motive := fun _ => RX) (flatF P G o T k) (fun r => forceV r k) (convC P s d u)) ((argF G X).run T)) := opt_spec haop
  unfold opF
  rw [ho]
  simp only []
  split
  · rename_i x ds j hx hs hd
    have hx' : x = (argF G X).run := by rw [hx]
    subst hx'
    intro call yld H T k r h
    obtain ⟨u, hxu, h⟩ := one_arg (G := G) h
    have ha := haop call yld H T u hxu
    cases u with
    | int l n =>
      have h2 : wrapK j n k = .ok r := h
      rw [wrapK_eq] at h2
      refine ⟨_, fun N => (ha N).trans ?_, h2⟩
      simp only [convC, hs, hd, forceV_eq]
    | _ =>
      have hnone : ∀ (u : Value), (∀ l n, u ≠ .int l n) → convC P s d u = none := fun u hu => by
        unfold convC
        split
        · exact absurd rfl (hu _ _)
        · rfl
      rw [hnone _ (by intro l n e; cases e)] at ha
      obtain ⟨u, h1, h2⟩ := flatF_spec (show flatF P G o T k = .ok r from h)
      exact ⟨u, fun N => (ha N).trans (h1 N), h2⟩
  · rename_i x hx _
    have hx' : x = (argF G X).run := by rw [hx]
    subst hx'
    exact gen
theorem gen_same (P : Program) (G : Nat) (o : Oper) : OpFOk P G o (.gen fun call yld T H N => aop P G call yld o T H N) := fun _ _ _ _ _ _ h => h
theorem call_spec {f : Operand} {args : Array Operand} {ts : Array TypeId} (ho : o.op = .call { callee := .value f, args, argTypes := ts }) :
    OpFOk P G o (.gen fun call yld T H N => Option.rec (motive := fun _ => Rs Out) (.bad 112) (fun u => VF.rec (motive := fun _ => Rs Out) (fun g a b => (valsF G args.toList).run T fun vs => appK vs b fun l => appK a l fun l => call g l H N) (fun n => (valsF G args.toList).run T fun vs => yld n vs H N) (.bad 112) (vF u)) ((argF G f).run T)) := by
  intro call yld T H N out h
  have h' : Option.rec (motive := fun _ => Rs Out) (.bad 112) (fun u => VF.rec (motive := fun _ => Rs Out) (fun g a b => (valsF G args.toList).run T fun vs => appK vs b fun l => appK a l fun l => call g l H N) (fun n => (valsF G args.toList).run T fun vs => yld n vs H N) (.bad 112) (vF u)) ((argF G f).run T) = .ok out := h
  rw [argF_eq] at h'
  unfold aop
  rw [ho]
  simp only [valsF_eq] at h'
  cases hf : aeval G T f with
  | none => rw [hf] at h'; cases h'
  | some u =>
    rw [hf] at h'
    cases u with
    | func fn a b =>
      cases fn with
      | func g => simp only [hf]; exact h'
      | yield n => simp only [hf]; exact h'
      | _ => cases h'
    | _ => cases h'
/-- **An operation, made ready.** -/
theorem opF_ok (P : Program) (G : Nat) (o : Oper) : OpFOk P G o (opF P G o) := by
  obtain ⟨dst, op, type, pos, after, guard⟩ := o
  cases op with
  | move x =>
    intro call yld H T k r h
    obtain ⟨u, hx, h⟩ := one_arg (G := G) (X := x) (e := 101) (body := fun v => k v) h
    exact ⟨u, fun N => by simp only [aop, hx], h⟩
  | assign x =>
    intro call yld H T k r h
    obtain ⟨u, hx, h⟩ := one_arg (G := G) (X := x) (e := 101) (body := fun v => k v) h
    exact ⟨u, fun N => by simp only [aop, hx], h⟩
  | load t x => exact load_spec rfl
  | fieldAddr t x f => exact fld_spec rfl
  | field t x f => exact simple_spec (X := x) (e := 119) (fun call yld H T u hx N => by simp only [aop, hx])
  | indexAddr t x i => exact idx_spec rfl
  | extract x i => exact simple_spec (X := x) (e := 144) (fun call yld H T u hx N => by simp only [aop, hx])
  | nilCheck x => exact simple_spec (X := x) (e := 115) (fun call yld H T u hx N => by simp only [aop, hx])
  | unOp op t x => exact opt_spec (X := x) (e := 160) (fun call yld H T u hx N => by simp only [aop, hx]; rfl)
  | convert s d x => exact conv_spec rfl
  | binOp op t x y yt =>
    cases op with
    | add => exact binI_spec rfl ⟨by simp, by simp⟩ fast_add
    | sub => exact binI_spec rfl ⟨by simp, by simp⟩ fast_sub
    | mul => exact binI_spec rfl ⟨by simp, by simp⟩ fast_mul
    | lss => exact binI_spec rfl ⟨by simp, by simp⟩ fast_lss
    | gtr => exact binI_spec rfl ⟨by simp, by simp⟩ fast_gtr
    | leq => exact binI_spec rfl ⟨by simp, by simp⟩ fast_leq
    | geq => exact binI_spec rfl ⟨by simp, by simp⟩ fast_geq
    | eql => exact binI_spec rfl ⟨by simp, by simp⟩ fast_eql
    | neq => exact binI_spec rfl ⟨by simp, by simp⟩ fast_neq
    | quo => exact binI_spec rfl ⟨by simp, by simp⟩ (fast_slow _)
    | rem => exact binI_spec rfl ⟨by simp, by simp⟩ (fast_slow _)
    | and => exact binI_spec rfl ⟨by simp, by simp⟩ (fast_slow _)
    | or => exact binI_spec rfl ⟨by simp, by simp⟩ (fast_slow _)
    | xor => exact binI_spec rfl ⟨by simp, by simp⟩ (fast_slow _)
    | _ => exact binS_spec rfl
  | call c =>
    obtain ⟨callee, args, ts⟩ := c
    cases callee with
    | value f => exact call_spec rfl
    | invoke r m => exact gen_same P G _
    | builtin b => exact gen_same P G _
  | _ => exact gen_same P G _
end
end Go.Proofs.YtadpelhmjmamnaaGreatDoor.Ev
