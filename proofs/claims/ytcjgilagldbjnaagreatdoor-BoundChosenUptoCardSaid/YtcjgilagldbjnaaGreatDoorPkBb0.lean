/- A reckoner for closed runs: its data (tables, memory by name. -/
import Derived.Orders
namespace Go.Proofs.YtcjgilagldbjnaaGreatDoor
namespace Ev
open Go
inductive PT (α : Type) where
 | nil
 | node (l : PT α) (v : Option α) (r : PT α)
namespace PT
variable {α β : Type}
noncomputable def get (t : PT α) : Nat → Option α :=
 PT.rec (motive := fun _ => Nat → Option α) (fun _ => none)
  (fun _ v _ gl gr i => Bool.rec (motive := fun _ => Option α) (Bool.rec (motive := fun _ => Option α) (gr (Nat.sub (Nat.div i 2) 1)) (gl (Nat.div i 2)) (Nat.beq (Nat.mod i 2) 1)) v (Nat.beq i 0)) t
noncomputable def setK (t : PT α) : Nat → α → (PT α → β) → β → β :=
 PT.rec (motive := fun _ => Nat → α → (PT α → β) → β → β) (fun _ _ _ e => e)
  (fun l v r sl sr i x k e => Bool.rec (motive := fun _ => β) (Bool.rec (motive := fun _ => β) (sr (Nat.sub (Nat.div i 2) 1) x (fun r' => k (node l v r')) e) (sl (Nat.div i 2) x (fun l' => k (node l' v r)) e) (Nat.beq (Nat.mod i 2) 1))
   (Option.rec (motive := fun _ => β) e (fun _ => k (node l (some x) r)) v) (Nat.beq i 0)) t
noncomputable def insK (d : Nat) : PT α → Nat → Option α → (PT α → β) → β → β :=
 Nat.rec (motive := fun _ => PT α → Nat → Option α → (PT α → β) → β → β) (fun _ _ _ _ e => e)
  (fun _ ih t i x k e => PT.rec (motive := fun _ => β)
   (Bool.rec (motive := fun _ => β) (Bool.rec (motive := fun _ => β) (ih nil (Nat.sub (Nat.div i 2) 1) x (fun r' => k (node nil none r')) e) (ih nil (Nat.div i 2) x (fun l' => k (node l' none nil)) e) (Nat.beq (Nat.mod i 2) 1)) (k (node nil x nil)) (Nat.beq i 0))
   (fun l v r _ _ => Bool.rec (motive := fun _ => β) (Bool.rec (motive := fun _ => β) (ih r (Nat.sub (Nat.div i 2) 1) x (fun r' => k (node l v r')) e) (ih l (Nat.div i 2) x (fun l' => k (node l' v r)) e) (Nat.beq (Nat.mod i 2) 1)) (k (node l x r)) (Nat.beq i 0)) t) d
noncomputable def full (x : α) (d : Nat) : Nat → PT α :=
 Nat.rec (motive := fun _ => Nat → PT α) (fun _ => nil) (fun _ ih n => cond (Nat.beq n 0) nil (node (ih (Nat.div n 2)) (some x) (ih (Nat.div (Nat.pred n) 2)))) d
end PT
inductive AB where
 | cells (g : Bool) (e : TypeId) (l : List Value)
 | map (l : List (Value × Value))
 | dfr
 | loop (st : LoopState) (pend : Option Code) (T : PT Value) (ps : Array Tmp) (assign body : Code) (d : Nat)
abbrev HP := PT AB
inductive Out where
 | v (u : Value) (d : List (Nat × AB)) (N : Nat)
 | w (u : Value) (H : HP) (N lo : Nat)
inductive Rs (α : Type) where
 | bad (why : Nat)
 | ok (a : α)
section force
variable {β : Type}
noncomputable def forceN (n : Nat) (k : Nat → β) : β := Nat.rec (motive := fun _ => β) (k 0) (fun m _ => k (Nat.succ m)) n
noncomputable def forceI (n : Int) (k : Int → β) : β := match n with | .ofNat m => forceN m fun m => k (.ofNat m) | .negSucc m => forceN m fun m => k (.negSucc m)
noncomputable def forceB (b : Bool) (k : Bool → β) : β := match b with | true => k true | false => k false
noncomputable def forceV (v : Value) (k : Value → β) : β := match v with
 | .int q n => forceI n fun n => k (.int q n)
 | .bool b => forceB b fun b => k (.bool b)
 | .slice (some ⟨b, o, s⟩) l c => forceN b fun b => forceN o fun o => forceN l fun l => forceN c fun c => k (.slice (some ⟨b, o, s⟩) l c)
 | .pointer (some ⟨b, o, s⟩) => forceN b fun b => forceN o fun o => k (.pointer (some ⟨b, o, s⟩))
 | .agg cs => k (.agg cs)
 | v => k v
end force
def prun {α : Type} (P : Program) : Sem α → Option α
 | .pure a => some a
 | .program k => prun P (k P)
 | .mark _ k => prun P k
 | _ => none
theorem prun_run {α : Type} {P : Program} {s : Sem α} {a : α} (h : prun P s = some a) (w : World) : s.run P w = .ok a w := by
 induction s generalizing w with
 | pure b => simp only [prun, Option.some.injEq] at h; subst h; rfl
 | program k ih => exact ih P (by simpa [prun] using h) w
 | mark m k ih => exact ih (by simpa [prun] using h) w
 | _ => cases h
def flat : Nat → Value → Bool
 | 0, _ => false
 | n + 1, v => match v with
  | .bool _ | .int _ _ | .float _ _ | .complex _ _ _ | .string _ | .pointer none | .slice none _ _ | .map none | .chan none | .nilFunc | .nilIface => true
  | .agg cs => cs.toList.all (flat n)
  | .tuple cs => cs.toList.all (flat n)
  | .iface _ v => flat n v
  | .func (.func _) f c => f.toList.all (flat n) && c.toList.all (flat n)
  | _ => false
noncomputable def aeval (G : Nat) (T : PT Value) : Operand → Option Value
 | .tmp t => T.get t
 | .const v => cond (flat 5 v) (some v) none
 | .global g => cond (Nat.blt g G) (some (.pointer (some ⟨g, 0, none⟩))) none
 | .func f => some (.func (.func f) #[] #[])
end Ev
end Go.Proofs.YtcjgilagldbjnaaGreatDoor
