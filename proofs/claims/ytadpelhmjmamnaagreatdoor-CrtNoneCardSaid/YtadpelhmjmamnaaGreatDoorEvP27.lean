/- The reckoner: records of ranges over functions. No conditions. -/
import Derived.Test.YtadpelhmjmamnaaGreatDoorEvP26
import Derived.RangeFuncNested
import Derived.RangeFuncCalls
import Derived.LoopNIn
namespace Go.Proofs.YtadpelhmjmamnaaGreatDoor.Ev
open Go Go.RowKit

section
variable {P : Program}
/-- A block turns. -/
theorem Sat.putObj {ρ : Env} {H H' : HP} {w : World} {n a C : Nat} {b0 : AB} {obj : Obj} (hS : Sat P ρ H w) (hb : H.get n = some b0) (hn : ρ n = some (a, C))
    (hH : ∀ m c, H'.get m = some c → (m = n ∧ OR P ρ C c (some obj)) ∨ (m ≠ n ∧ H.get m = some c)) : Sat P ρ H' (w.putObj a obj) := by
  have hlt := hS.lt n a C hn
  refine ⟨fun m c hm => ?_, fun m k b c x D F hm hk h1 h2 => ?_, fun m x D hm => by rw [World.putObj_size]; exact hS.lt m x D hm⟩
  · rcases hH m c hm with ⟨rfl, ho⟩ | ⟨hne, h⟩
    · exact ⟨a, C, hn, by rw [World.putObj_heap_same hlt]; exact ho⟩
    · obtain ⟨x, D, h1, h2⟩ := hS.blk m c h
      have hx : x ≠ a := fun ex => by subst ex; exact hne (hS.inj m n c b0 x D C h hb h1 hn)
      exact ⟨x, D, h1, by rw [World.putObj_heap_other hx]; exact h2⟩
  · have get : ∀ i c, H'.get i = some c → ∃ c', H.get i = some c' := fun i c hi => by
      rcases hH i c hi with ⟨rfl, _⟩ | ⟨_, h⟩
      · exact ⟨b0, hb⟩
      · exact ⟨c, h⟩
    obtain ⟨b', hb'⟩ := get m b hm
    obtain ⟨c', hc'⟩ := get k c hk
    exact hS.inj m k b' c' x D F hb' hc' h1 h2
theorem Inv.lower {ρ0 ρ : Env} {N0 N lo lo' : Nat} {w0 w : World} {T : PT Value} {H : HP} {D : List DE} {a : Act} (I : Inv P ρ0 N0 w0 T H N lo D a w ρ) (h : lo' ≤ lo) : Inv P ρ0 N0 w0 T H N lo' D a w ρ :=
  ⟨⟨I.wr.ext, I.wr.same, I.wr.sat, I.wr.os, I.wr.tape, I.wr.output, I.wr.size, fun x hx hk => I.wr.keep x hx (fun n p h1 h2 h3 => hk n p (by omega) h2 h3),
    fun n p h1 h2 h3 => (I.wr.new n p h1 h2 h3).imp id (fun ⟨m, q, e1, e2, e3⟩ => ⟨m, q, by omega, e2, e3⟩), I.wr.named⟩, I.tr, I.le, I.dd, I.dom⟩
/-- A block of a name that is new, or that may be written, turns. -/
theorem Inv.put {ρ0 ρ : Env} {N0 N lo : Nat} {w0 w : World} {T : PT Value} {H H' : HP} {D : List DE} {a : Act} {n b C : Nat} {b0 : AB} {obj : Obj} (I : Inv P ρ0 N0 w0 T H N lo D a w ρ) (hb : H.get n = some b0) (hn : ρ n = some (b, C)) (hlo : N0 ≤ n ∨ lo ≤ n)
    (hH : ∀ m c, H'.get m = some c → (m = n ∧ OR P ρ C c (some obj)) ∨ (m ≠ n ∧ H.get m = some c)) : Inv P ρ0 N0 w0 T H' N lo D a (w.putObj b obj) ρ := by
  have hnN := I.wr.named n b0 hb
  refine ⟨⟨I.wr.ext, I.wr.same, I.wr.sat.putObj hb hn hH, I.wr.os, I.wr.tape, I.wr.output, by rw [World.putObj_size]; exact I.wr.size, fun x hx hk => ?_, I.wr.new, fun m c hm => ?_⟩, I.tr, I.le, I.dd, I.dom⟩
  · have hne : x ≠ b := fun e => by
      subst e
      rcases Nat.lt_or_ge n N0 with h | h
      · have hl : lo ≤ n := hlo.resolve_left (by omega)
        rw [I.wr.same n (.inl h)] at hn
        exact hk n _ hl h hn rfl
      · rcases I.wr.new n _ h hnN hn with g | ⟨m, q, g1, g2, g3, g4⟩
        · simp only at g; omega
        · exact hk m q g1 g2 g3 g4
    rw [World.putObj_heap_other hne]
    exact I.wr.keep x hx hk
  · rcases hH m c hm with ⟨rfl, _⟩ | ⟨_, h⟩
    · exact hnN
    · exact I.wr.named m c h
/-- The frame of a round and its record. -/
def RO (ρ : Env) : Option Nat → Option Nat → Prop
  | none, none => True
  | some l, some b => ∃ C, ρ l = some (b, C)
  | _, _ => False
theorem RO.mono {ρ ρ' : Env} (h : Ext ρ ρ') {rd ro : Option Nat} (r : RO ρ rd ro) : RO ρ' rd ro := by
  cases rd with
  | none => cases ro with | none => trivial | some b => exact r.elim
  | some l => cases ro with | none => exact r.elim | some b => obtain ⟨C, e⟩ := r; exact ⟨C, h _ _ e⟩
def exO : Ex → Exit
  | .normal => .normal
  | .exit i => .exit i
  | .ret => .ret

/-- What a call leads to, read as a contract. -/
theorem NextOk.calls {ρ : Env} {N : Nat} {out : Out} {w : World} {f : FuncId} {args : Array Value} {R : Ending → World → Prop} (h : NextOk P (callFunc f args) ρ N out w) (hent : (callFunc f args).run P w = .ok (.enter f args) w) (ro : Option Nat) (m : Nat)
    (hR : match out with
      | .v u d N' => Dom ρ N ∧ ∀ v w' ρ', Grew P ρ ρ' N N' d w w' → VR ρ' u v → R (.returned v) w'
      | .w u H' N' lo => Dom ρ N ∧ ∀ v w' ρ', Wrote P ρ ρ' N N' lo H' w w' → VR ρ' u v → R (.returned v) w') : CallsIn (fe ro) m P f args w R := by
  have key : ∀ (o : Oper), o.dst = some 0 → o.uponIn (fe ro) (m + 1) P ({ tmps := #[undef], defers := [] } : Act) (fun a' w' => R (.returned (a'.tmps.getD 0 undef)) w') (fun _ _ _ => False) ((callFunc f args).run P w) → CallsIn (fe ro) m P f args w R := fun o ho hu => by
    rw [hent] at hu
    refine CallsIn.mono hu.2 fun e w' he => ?_
    cases e with
    | returned v => simpa [ho, Act.put] using he
    | panicked c => exact he.elim
    | outgrown => obtain ⟨_, _, he⟩ := he; exact he.elim
  cases out with
  | v u d N' =>
    refine key { (default : Oper) with dst := some 0 } rfl (h.2 hR.1 ro (m + 1) { (default : Oper) with dst := some 0 } _ _ _ (fun v w' ρ' hg hv => ?_))
    have := hR.2 v w' ρ' hg hv
    simpa [Act.put] using this
  | w u H' N' lo =>
    refine key { (default : Oper) with dst := some 0 } rfl (h.2 hR.1 ro (m + 1) { (default : Oper) with dst := some 0 } _ _ _ (fun v w' ρ' hg hv => ?_))
    have := hR.2 v w' ρ' hg hv
    simpa [Act.put] using this
theorem run_enter {g : FuncId} {c : Code} {args : Array Value} {w : World} (hname : ∀ (f : FuncId) (fn : Func), P.funcs[f]? = some fn → (fn.name == "runtime.NumGoroutine") = false) (h : bodyO P g = some c) : (callFunc g args).run P w = .ok (.enter g args) w := by
  unfold bodyO at h
  cases hf : P.funcs[g]? with
  | none => rw [hf] at h; cases h
  | some fn =>
    rw [hf] at h
    have h1 := hname g fn hf
    have h2 : ¬ fn.name = "runtime.NumGoroutine" := by simpa using h1
    have h3 : fn.body = some c := h
    simp [callFunc, go_sem, hf, h2, h3]
end
end Go.Proofs.YtadpelhmjmamnaaGreatDoor.Ev
