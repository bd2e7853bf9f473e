/- The reckoner: records of ranges over functions. The reckoner: a range over a function. The reckoner: code. The reckoner: names that go with an answer. The reckoner: calls. -/
import Derived.Test.YtcjgilagldbjnaaGreatDoorPkBb9
import Derived.RangeFuncNested
import Derived.RangeFuncCalls
import Derived.LoopNIn
import Derived.Scope
namespace Go.Proofs.YtcjgilagldbjnaaGreatDoor
section
namespace Ev
open Go Go.RowKit
section
variable {P : Program}
theorem Sat.putObj {ρ : Env} {H H' : HP} {w : World} {n a C : Nat} {b0 : AB} {obj : Obj} (hS : Sat P ρ H w) (hb : H.get n = some b0) (hn : ρ n = some (a, C))
  (hH : ∀ m c, H'.get m = some c → (m = n ∧ OR P ρ C c (some obj)) ∨ (m ≠ n ∧ H.get m = some c)) : Sat P ρ H' (w.putObj a obj) := by
 have hlt := hS.lt n a C hn
 refine ⟨fun m c hm => ?_, fun m k b c x D F hm hk h1 h2 => ?_, fun m x D hm => by rw [World.putObj_size]; exact hS.lt m x D hm⟩
 ·rcases hH m c hm with ⟨rfl, ho⟩ | ⟨hne, h⟩
  ·exact ⟨a, C, hn, by rw [World.putObj_heap_same hlt]; exact ho⟩
  ·obtain ⟨x, D, h1, h2⟩ := hS.blk m c h
   have hx : x ≠ a := fun ex => by subst ex; exact hne (hS.inj m n c b0 x D C h hb h1 hn)
   exact ⟨x, D, h1, by rw [World.putObj_heap_other hx]; exact h2⟩
 ·have get : ∀ i c, H'.get i = some c → ∃ c', H.get i = some c' := fun i c hi => by
   rcases hH i c hi with ⟨rfl, _⟩ | ⟨_, h⟩
   ·exact ⟨b0, hb⟩
   ·exact ⟨c, h⟩
  obtain ⟨b', hb'⟩ := get m b hm
  obtain ⟨c', hc'⟩ := get k c hk
  exact hS.inj m k b' c' x D F hb' hc' h1 h2
theorem Inv.lower {ρ0 ρ : Env} {N0 N lo lo' : Nat} {w0 w : World} {T : PT Value} {H : HP} {D : List DE} {a : Act} (I : Inv P ρ0 N0 w0 T H N lo D a w ρ) (h : lo' ≤ lo) : Inv P ρ0 N0 w0 T H N lo' D a w ρ :=
 ⟨⟨I.wr.ext, I.wr.same, I.wr.sat, I.wr.os, I.wr.tape, I.wr.output, I.wr.size, fun x hx hk => I.wr.keep x hx (fun n p h1 h2 h3 => hk n p (by omega) h2 h3),
  fun n p h1 h2 h3 => (I.wr.new n p h1 h2 h3).imp id (fun ⟨m, q, e1, e2, e3⟩ => ⟨m, q, by omega, e2, e3⟩), I.wr.named⟩, I.tr, I.le, I.dd, I.dom⟩
theorem Inv.put {ρ0 ρ : Env} {N0 N lo : Nat} {w0 w : World} {T : PT Value} {H H' : HP} {D : List DE} {a : Act} {n b C : Nat} {b0 : AB} {obj : Obj} (I : Inv P ρ0 N0 w0 T H N lo D a w ρ) (hb : H.get n = some b0) (hn : ρ n = some (b, C)) (hlo : N0 ≤ n ∨ lo ≤ n)
  (hH : ∀ m c, H'.get m = some c → (m = n ∧ OR P ρ C c (some obj)) ∨ (m ≠ n ∧ H.get m = some c)) : Inv P ρ0 N0 w0 T H' N lo D a (w.putObj b obj) ρ := by
 have hnN := I.wr.named n b0 hb
 refine ⟨⟨I.wr.ext, I.wr.same, I.wr.sat.putObj hb hn hH, I.wr.os, I.wr.tape, I.wr.output, by rw [World.putObj_size]; exact I.wr.size, fun x hx hk => ?_, I.wr.new, fun m c hm => ?_⟩, I.tr, I.le, I.dd, I.dom⟩
 ·have hne : x ≠ b := fun e => by
   subst e
   rcases Nat.lt_or_ge n N0 with h | h
   ·have hl : lo ≤ n := hlo.resolve_left (by omega)
    rw [I.wr.same n (.inl h)] at hn
    exact hk n _ hl h hn rfl
   ·rcases I.wr.new n _ h hnN hn with g | ⟨m, q, g1, g2, g3, g4⟩
    ·simp only at g; omega
    ·exact hk m q g1 g2 g3 g4
  rw [World.putObj_heap_other hne]
  exact I.wr.keep x hx hk
 ·rcases hH m c hm with ⟨rfl, _⟩ | ⟨_, h⟩
  ·exact hnN
  ·exact I.wr.named m c h
def RO (ρ : Env) : Option Nat → Option Nat → Prop
 | none, none => True
 | some l, some b => ∃ C, ρ l = some (b, C)
 | _, _ => False
theorem RO.mono {ρ ρ' : Env} (h : Ext ρ ρ') {rd ro : Option Nat} (r : RO ρ rd ro) : RO ρ' rd ro := by
 cases rd with
 | none => cases ro with | none => trivial | some b => exact r.elim
 | some l => cases ro with | none => exact r.elim | some b => obtain ⟨C, e⟩ := r; exact ⟨C, h _ _ e⟩
def exO : Ex → Exit
 | .normal => .normal
 | .exit i => .exit i
 | .ret => .ret
theorem NextOk.calls {ρ : Env} {N : Nat} {out : Out} {w : World} {f : FuncId} {args : Array Value} {R : Ending → World → Prop} (h : NextOk P (callFunc f args) ρ N out w) (hent : (callFunc f args).run P w = .ok (.enter f args) w) (ro : Option Nat) (m : Nat)
  (hR : match out with
   | .v u d N' => Dom ρ N ∧ ∀ v w' ρ', Grew P ρ ρ' N N' d w w' → VR ρ' u v → R (.returned v) w'
   | .w u H' N' lo => Dom ρ N ∧ ∀ v w' ρ', Wrote P ρ ρ' N N' lo H' w w' → VR ρ' u v → R (.returned v) w') : CallsIn (fe ro) m P f args w R := by
 have key : ∀ (o : Oper), o.dst = some 0 → o.uponIn (fe ro) (m + 1) P ({ tmps := #[undef], defers := [] } : Act) (fun a' w' => R (.returned (a'.tmps.getD 0 undef)) w') (fun _ _ _ => False) ((callFunc f args).run P w) → CallsIn (fe ro) m P f args w R := fun o ho hu => by
  rw [hent] at hu
  refine CallsIn.mono hu.2 fun e w' he => ?_
  cases e with
  | returned v => simpa [ho, Act.put] using he
  | panicked c => exact he.elim
  | outgrown => obtain ⟨_, _, he⟩ := he; exact he.elim
 cases out with
 | v u d N' =>
  refine key { (default : Oper) with dst := some 0 } rfl (h.2 hR.1 ro (m + 1) { (default : Oper) with dst := some 0 } _ _ _ (fun v w' ρ' hg hv => ?_))
  have := hR.2 v w' ρ' hg hv
  simpa [Act.put] using this
 | w u H' N' lo =>
  refine key { (default : Oper) with dst := some 0 } rfl (h.2 hR.1 ro (m + 1) { (default : Oper) with dst := some 0 } _ _ _ (fun v w' ρ' hg hv => ?_))
  have := hR.2 v w' ρ' hg hv
  simpa [Act.put] using this
theorem run_enter {g : FuncId} {c : Code} {args : Array Value} {w : World} (hname : ∀ (f : FuncId) (fn : Func), P.funcs[f]? = some fn → (fn.name == "runtime.NumGoroutine") = false) (h : bodyO P g = some c) : (callFunc g args).run P w = .ok (.enter g args) w := by
 unfold bodyO at h
 cases hf : P.funcs[g]? with
 | none => rw [hf] at h; cases h
 | some fn =>
  rw [hf] at h
  have h1 := hname g fn hf
  have h2 : ¬ fn.name = "runtime.NumGoroutine" := by simpa using h1
  have h3 : fn.body = some c := h
  simp [callFunc, go_sem, hf, h2, h3]
end
end Ev
end
section
namespace Ev
open Go Go.RowKit
section
variable {P : Program} {G : Nat} {call : CallT} {yld : YldT}
theorem alloc_size (w : World) (o : Obj) : (w.alloc o).heap.size = w.heap.size + 1 := Array.size_push ..
theorem rangeFin_inv {s : St} {l N N2 lo2 : Nat} {D : List DE} {H2 : HP} {x : Ex} {s' : St} (h : rangeFin s l N D H2 N2 lo2 = .ok (x, s')) :
  N ≤ N2 ∧ ∃ st pend T ps as bo d H3, H2.get l = some (.loop st pend T ps as bo d) ∧ (∀ m, H3.get m = if m = l then none else H2.get m) ∧ s' = ⟨s.T, H3, N2, min s.lo lo2, D⟩ ∧
   ((st = .ready ∧ pend = none ∧ x = .normal) ∨ (st = .done ∧ pend = some .ret ∧ x = .ret) ∨ ∃ id, st = .done ∧ pend = some (.exit id) ∧ x = .exit id) := by
 unfold rangeFin at h
 cases hb : Nat.ble N N2 with
 | false => rw [hb] at h; cases h
 | true =>
  rw [hb] at h
  refine ⟨Nat.le_of_ble_eq_true hb, ?_⟩
  simp only at h
  split at h
  ·rename_i st pend T ps as bo d hl
   rcases PT.insK_spec 60 H2 l none with hbad | ⟨H3, h1, h2⟩
   ·rw [hbad] at h; cases h
   ·rw [h1, forceN_eq, min_cond] at h
    refine ⟨st, pend, T, ps, as, bo, d, H3, hl, h2, ?_⟩
    split at h
    ·cases h; exact ⟨rfl, .inl ⟨rfl, rfl, rfl⟩⟩
    ·cases h; exact ⟨rfl, .inr (.inl ⟨rfl, rfl, rfl⟩)⟩
    ·cases h; exact ⟨rfl, .inr (.inr ⟨_, rfl, rfl, rfl⟩)⟩
    ·cases h
  ·cases h
theorem rangeEnd {s : St} {l N2 : Nat} {D : List DE} {H2 H3 : HP} {x : Ex} {lo b C : Nat} {ρ0 ρ3 : Env} {N0 : Nat} {w0 w3 : World} {a : Act} {st : LoopState} {pend : Option Code} {T : PT Value} {ps : Array Tmp} {as bo : Code} {d : Nat}
  (I : Inv P ρ0 N0 w0 s.T H2 N2 lo D a w3 ρ3) (hb : ρ3 l = some (b, C)) (hl : N0 ≤ l) (h1 : H2.get l = some (.loop st pend T ps as bo d)) (h2 : ∀ m, H3.get m = if m = l then none else H2.get m)
  (h3 : (st = .ready ∧ pend = none ∧ x = .normal) ∨ (st = .done ∧ pend = some .ret ∧ x = .ret) ∨ ∃ id, st = .done ∧ pend = some (.exit id) ∧ x = .exit id)
  (ro : Option Nat) (n : Nat) (Q : Exit → Act → World → Prop) (hQ : ∀ a' w' ρ', Inv P ρ0 N0 w0 s.T H3 N2 lo D a' w' ρ' → Q (exO x) a' w') (v : Value) : rangePost (fe ro) n P b Q a (.returned v) w3 := by
 obtain ⟨b', C', e1, fn, tmps, da, Dd, e2, e3, e4⟩ := I.wr.sat.blk l _ h1
 rw [hb] at e1
 cases e1
 have hst : st ≠ .busy := by rcases h3 with ⟨e, _⟩ | ⟨e, _⟩ | ⟨_, e, _⟩ <;> rw [e] <;> exact fun h => (by cases h)
 have I' := I.put (H' := H3) (obj := .loop { ({ state := st, pending := pend, fn, tmps, params := ps, assign := as, body := bo, defers := da } : Loop) with state := .exhausted }) h1 hb (.inl hl) (fun m c hm => by
  rw [h2] at hm
  by_cases e : m = l
  ·rw [if_pos e] at hm; cases hm
  ·rw [if_neg e] at hm; exact .inr ⟨e, hm⟩)
 refine ⟨_, _, run_endLoop e2 hst, ?_⟩
 have hq := hQ _ _ _ I'
 rcases h3 with ⟨_, rfl, rfl⟩ | ⟨_, rfl, rfl⟩ | ⟨id, _, rfl, rfl⟩
 ·exact hq
 ·exact wpIn_ret hq
 ·exact wpIn_exit hq
theorem rangeGo_sound (hc : CallOk P G call) (hname : ∀ (f : FuncId) (fn : Func), P.funcs[f]? = some fn → (fn.name == "runtime.NumGoroutine") = false) {s : St} {ps : Array Tmp} {assign body c0 : Code} {g : FuncId} {first captured : List Value} {H : HP} {d l N : Nat} {D : List DE} {x : Ex} {s' : St}
  (hbody : bodyO P g = some c0) (h : rangeGo call s ps assign body g ⟨first⟩ ⟨captured⟩ H d l N D = .ok (x, s')) :
  N ≤ s'.N ∧ ∀ ρ0 N0 w0, Free ρ0 N0 s'.N → Glob G ρ0 → ∀ a w ρ b C (vs ys : List Value), (∀ H1 : HP, (∀ m, H1.get m = if m = l then some (.loop .ready none s.T ps assign body d) else H.get m) → Inv P ρ0 N0 w0 s.T H1 N s.lo D a w ρ) → ρ l = some (b, C) → N0 ≤ l → VL ρ first vs → VL ρ captured ys →
   ∀ ro m n Q, (∀ a' w' ρ', Inv P ρ0 N0 w0 s'.T s'.H s'.N s'.lo s'.D a' w' ρ' → Q (exO x) a' w') → (callFunc g ⟨vs ++ (.func (.yield b) ⟨[]⟩ ⟨[]⟩ :: ys)⟩).run P w = .ok (.enter g ⟨vs ++ (.func (.yield b) ⟨[]⟩ ⟨[]⟩ :: ys)⟩) w ∧ CallsIn (fe ro) m P g ⟨vs ++ (.func (.yield b) ⟨[]⟩ ⟨[]⟩ :: ys)⟩ w (rangePost (fe ro) n P b Q a) := by
 unfold rangeGo at h
 rcases PT.insK_spec 60 H l (some (.loop .ready none s.T ps assign body d)) with hbad | ⟨H1, h1, h2⟩
 ·rw [hbad] at h; cases h
 rw [h1, appK_eq, appK_eq] at h
 have h' : Rs.rec (motive := fun _ => RX) (fun e => .bad e) (fun out => Out.rec (motive := fun _ => RX) (fun _ d N2 => addX d H1 fun H2 => rangeFin s l N D H2 N2 N) (fun _ H2 N2 lo2 => rangeFin s l N D H2 N2 lo2) out) (call g (first ++ (.func (.yield l) ⟨[]⟩ ⟨[]⟩ :: captured)) H1 N) = .ok (x, s') := h
 cases hcall : call g (first ++ (.func (.yield l) ⟨[]⟩ ⟨[]⟩ :: captured)) H1 N with
 | bad e => rw [hcall] at h'; cases h'
 | ok out =>
  rw [hcall] at h'
  cases out with
  | v u d2 N2 =>
   obtain ⟨H2, h3, h4⟩ := addX_spec d2 H1 _ _ h'
   obtain ⟨hle, st, pend, T, ps', as, bo, d', H3, f1, f2, rfl, f3⟩ := rangeFin_inv h3
   refine ⟨hle, fun ρ0 N0 w0 hF hG a w ρ b C vs ys hI hb hl hv1 hv2 ro m n Q hQ => ⟨run_enter hname hbody, ?_⟩⟩
   have I := hI H1 h2
   have hVL : VL ρ (first ++ (.func (.yield l) ⟨[]⟩ ⟨[]⟩ :: captured)) (vs ++ (.func (.yield b) ⟨[]⟩ ⟨[]⟩ :: ys)) := hv1.append (.cons (.yld hb) hv2)
   have hn := hc _ _ _ _ _ _ _ _ hcall I.wr.sat (hG.mono I.wr.ext) I.wr.named hVL
   have hF1 : Free ρ N N2 := I.free hF (Nat.le_refl _)
   refine hn.calls (run_enter hname hbody) ro m ⟨I.dom, fun v w' ρ' hg hv => ?_⟩
   have I3 : Inv P ρ0 N0 w0 s.T H2 N2 s.lo D a w' ρ' := I.grew hg hF1 hle h4 (I.tr.mono hg.ext) rfl
   exact rangeEnd (I3.lower (Nat.min_le_left s.lo N)) (hg.ext _ _ hb) hl f1 f2 f3 ro n Q hQ v
  | w u H2 N2 lo2 =>
   obtain ⟨hle, st, pend, T, ps', as, bo, d', H3, f1, f2, rfl, f3⟩ := rangeFin_inv h'
   refine ⟨hle, fun ρ0 N0 w0 hF hG a w ρ b C vs ys hI hb hl hv1 hv2 ro m n Q hQ => ⟨run_enter hname hbody, ?_⟩⟩
   have I := hI H1 h2
   have hVL : VL ρ (first ++ (.func (.yield l) ⟨[]⟩ ⟨[]⟩ :: captured)) (vs ++ (.func (.yield b) ⟨[]⟩ ⟨[]⟩ :: ys)) := hv1.append (.cons (.yld hb) hv2)
   have hn := hc _ _ _ _ _ _ _ _ hcall I.wr.sat (hG.mono I.wr.ext) I.wr.named hVL
   have hF1 : Free ρ N N2 := I.free hF (Nat.le_refl _)
   refine hn.calls (run_enter hname hbody) ro m ⟨I.dom, fun v w' ρ' hg hv => ?_⟩
   have I3 : Inv P ρ0 N0 w0 s.T H2 N2 (min s.lo lo2) D a w' ρ' := I.wrote hg hle (I.tr.mono hg.ext) rfl
   exact rangeEnd I3 (hg.ext _ _ hb) hl f1 f2 f3 ro n Q hQ v
theorem rangeC_sound (hc : CallOk P G call) (hname : ∀ (f : FuncId) (fn : Func), P.funcs[f]? = some fn → (fn.name == "runtime.NumGoroutine") = false) {s : St} {ps : Array Tmp} {assign body : Code} {f : Operand} {rd : Option Nat} {x : Ex} {s' : St}
  (h : rangeC P call rd ((argF G f).run s.T) ps assign body s = .ok (x, s')) :
  s.N ≤ s'.N ∧ ∀ ρ0 N0 w0, Free ρ0 N0 s'.N → Glob G ρ0 → ∀ a w ρ, Inv P ρ0 N0 w0 s.T s.H s.N s.lo s.D a w ρ → ∀ ro, RO ρ0 rd ro → ∀ m Q, (∀ a' w' ρ', Inv P ρ0 N0 w0 s'.T s'.H s'.N s'.lo s'.D a' w' ρ' → Q (exO x) a' w') → (Code.rangeFunc f ps assign body).wpIn (fe ro) m P Q a w := by
 rw [argF_eq] at h
 unfold rangeC at h
 split at h
 ·rename_i g first captured hf
  obtain ⟨first⟩ := first
  obtain ⟨captured⟩ := captured
  split at h
  ·cases h
  ·rename_i c0 hbody
   -- what is called
   have value : ∀ {ρ : Env} {a : Act}, TR ρ s.T a.tmps → Glob G ρ → ∃ vs ys, a.eval f = .func (.func g) ⟨vs⟩ ⟨ys⟩ ∧ VL ρ first vs ∧ VL ρ captured ys := fun {ρ a} hT hG => by
    have h1 := aeval_sound hT hG hf
    generalize a.eval f = vf at h1
    cases h1 with
    | func e1 e2 e3 e4 => exact ⟨_, _, rfl, ⟨e1, e2⟩, ⟨e3, e4⟩⟩
   have res : ∀ {a : Act} {vs ys : List Value} (l : Nat) (w : World), a.eval f = .func (.func g) ⟨vs⟩ ⟨ys⟩ → (resolve a.eval (rangeCall f l) 0).run P w = .ok { target := .fn (.func g) ⟨ys⟩, args := ⟨vs ++ [.func (.yield l) ⟨[]⟩ ⟨[]⟩]⟩ } w := fun {a vs ys} l w he => by
    have e : (⟨vs⟩ : Array Value) ++ (rangeCall f l).args.map a.eval = ⟨vs ++ [.func (.yield l) ⟨[]⟩ ⟨[]⟩]⟩ := Array.ext' (by
     simp only [Array.toList_append, Array.toList_map]
     rfl)
    rw [← e]
    simp only [resolve, he, Deferred.ofValue, Sem.run_pure]
   have inv : ∀ {vs ys : List Value} (l : Nat) (w : World), (callFunc g ⟨vs ++ (.func (.yield l) ⟨[]⟩ ⟨[]⟩ :: ys)⟩).run P w = .ok (.enter g ⟨vs ++ (.func (.yield l) ⟨[]⟩ ⟨[]⟩ :: ys)⟩) w → (invoke (.fn (.func g) ⟨ys⟩) ⟨vs ++ [.func (.yield l) ⟨[]⟩ ⟨[]⟩]⟩).run P w = .ok (.enter g ⟨vs ++ (.func (.yield l) ⟨[]⟩ ⟨[]⟩ :: ys)⟩) w := fun {vs ys} l w he => by
    rw [← he]
    simp only [invoke]
    congr 2
    apply Array.ext'
    simp
   split at h
   ·-- outermost
    rcases PT.insK_spec 60 s.H s.N (some .dfr) with hbad | ⟨H0, h1, h2⟩
    ·rw [hbad] at h; cases h
    rw [h1] at h
    obtain ⟨hle, hgo⟩ := rangeGo_sound hc hname hbody h
    have hle2 : s.N + 2 ≤ s'.N := hle
    refine ⟨by omega, fun ρ0 N0 w0 hF hG a w ρ I ro hro m Q hQ => ?_⟩
    cases ro with
    | some b => exact hro.elim
    | none =>
    obtain ⟨vs, ys, hev, hv1, hv2⟩ := value I.tr (hG.mono I.wr.ext)
    have F0 : Free ρ s.N (s.N + 2) := I.free hF hle2
    have hd : ρ s.N = none := F0 _ (Nat.le_refl _) (by omega)
    have hl : ρ (s.N + 1) = none := F0 _ (by omega) (by omega)
    refine wpIn_rangeFunc fun fn _ => ?_
    have g1 : Grew P ρ (setE ρ s.N (w.heap.size, 0)) s.N (s.N + 1) [(s.N, .dfr)] w (w.alloc (.deferred (some []))) := Grew.one (fun n h1 h2 => F0 n h1 (by omega)) (below_push w _) (by rw [alloc_size]; omega) (by
     show OR P _ 0 .dfr (w.heap.push _)[w.heap.size]?
     rw [Array.getElem?_push_size]; rfl)
    have I1 : Inv P ρ0 N0 w0 s.T H0 (s.N + 1) s.lo s.D a (w.alloc (.deferred (some []))) (setE ρ s.N (w.heap.size, 0)) := I.grew g1 (fun n h1 h2 => F0 n h1 (by omega)) (by omega) (fun n b hn => by
     rw [h2] at hn
     by_cases e : n = s.N
     ·rw [if_pos e] at hn; cases hn; subst e; exact .inl List.mem_cons_self
     ·rw [if_neg e] at hn; exact .inr hn) (I.tr.mono g1.ext) rfl
    have hl1 : (setE ρ s.N (w.heap.size, 0)) (s.N + 1) = none := by rw [setE_other (by omega)]; exact hl
    have F1 : Free (setE ρ s.N (w.heap.size, 0)) (s.N + 1) (s.N + 1 + 1) := fun n h1 h2 => by
     obtain rfl : n = s.N + 1 := by omega
     exact hl1
    generalize hwd : w.alloc (.deferred (some [])) = wd at g1 I1
    have hsz : wd.heap.size = w.heap.size + 1 := by rw [← hwd]; exact alloc_size _ _
    have g2 : Grew P (setE ρ s.N (w.heap.size, 0)) (setE (setE ρ s.N (w.heap.size, 0)) (s.N + 1) (wd.heap.size, 0)) (s.N + 1) (s.N + 1 + 1) [(s.N + 1, .loop .ready none s.T ps assign body s.N)] wd (wd.alloc (.loop { state := .ready, pending := none, fn, tmps := a.tmps, params := ps, assign, body, defers := w.heap.size })) :=
     Grew.one F1 (below_push wd _) (by rw [alloc_size]; omega) (by
      show OR P _ 0 (.loop _ _ _ _ _ _ _) (wd.heap.push _)[wd.heap.size]?
      rw [Array.getElem?_push_size]
      refine ⟨fn, a.tmps, w.heap.size, 0, rfl, I1.tr.mono (setE_ext hl1), ?_⟩
      rw [setE_other (by omega)]
      exact setE_self _ _ _)
    obtain ⟨hent, hcalls⟩ := hgo ρ0 N0 w0 hF hG { a with defers := [{ target := .collected w.heap.size, args := #[] }] ++ a.defers } (wd.alloc (.loop { state := .ready, pending := none, fn, tmps := a.tmps, params := ps, assign, body, defers := w.heap.size })) _ wd.heap.size 0 vs ys (fun H1 hH1 => by
     have I2 := I1.grew (H' := H1) (T' := s.T) (a' := a) g2 F1 (by omega) (fun n b hn => by
      rw [hH1] at hn
      by_cases e : n = s.N + 1
      ·rw [if_pos e] at hn; cases hn; subst e; exact .inl List.mem_cons_self
      ·rw [if_neg e] at hn; exact .inr hn) (I1.tr.mono g2.ext) rfl
     refine ⟨I2.wr, I2.tr, I2.le, ⟨⟨w.heap.size, 0, rfl, ?_⟩, I2.dd⟩, I2.dom⟩
     rw [setE_other (by omega)]
     exact setE_self _ _ _) (setE_self _ _ _) (Nat.le_trans I.le (by omega)) (hv1.mono (g1.ext.trans g2.ext)) (hv2.mono (g1.ext.trans g2.ext)) none (m - 1) m Q hQ
    have he := run_enterLoop_outer (P := P) (w := w) fn a.tmps ps assign body
    rw [hwd] at he
    have hl2 : w.heap.size + 1 = wd.heap.size := hsz.symm
    rw [hl2] at he
    exact ⟨wd.heap.size, _, _, _, _, g, _, _, he, res _ _ hev, fun _ _ => trivial, inv _ _ hent, (fun h => (by cases h)), hcalls⟩
   ·rename_i l0
    split at h
    ·rename_i st0 pend0 T0 ps0 as0 bo0 d hl0
     obtain ⟨hle, hgo⟩ := rangeGo_sound hc hname hbody h
     have hle2 : s.N + 1 ≤ s'.N := hle
     refine ⟨by omega, fun ρ0 N0 w0 hF hG a w ρ I ro hro m Q hQ => ?_⟩
     cases ro with
     | none => exact hro.elim
     | some b0 =>
     obtain ⟨C0, hb0⟩ := hro
     obtain ⟨vs, ys, hev, hv1, hv2⟩ := value I.tr (hG.mono I.wr.ext)
     have F0 : Free ρ s.N (s.N + 1) := I.free hF hle2
     have hl : ρ s.N = none := F0 _ (Nat.le_refl _) (by omega)
     obtain ⟨b0', C0', e1, fn0, tmps0, da, Dd, e2, e3, e4⟩ := I.wr.sat.blk l0 _ hl0
     rw [I.wr.ext _ _ hb0] at e1
     cases e1
     refine wpIn_rangeFunc fun fn _ => ?_
     have g2 : Grew P ρ (setE ρ s.N (w.heap.size, 0)) s.N (s.N + 1) [(s.N, .loop .ready none s.T ps assign body d)] w (w.alloc (.loop { state := .ready, pending := none, fn, tmps := a.tmps, params := ps, assign, body, defers := da })) :=
      Grew.one F0 (below_push w _) (by rw [alloc_size]; omega) (by
       show OR P _ 0 (.loop _ _ _ _ _ _ _) (w.heap.push _)[w.heap.size]?
       rw [Array.getElem?_push_size]
       exact ⟨fn, a.tmps, da, Dd, rfl, I.tr.mono (setE_ext hl), setE_ext hl _ _ e4⟩)
     obtain ⟨hent, hcalls⟩ := hgo ρ0 N0 w0 hF hG { a with defers := [] ++ a.defers } (w.alloc (.loop { state := .ready, pending := none, fn, tmps := a.tmps, params := ps, assign, body, defers := da })) _ w.heap.size 0 vs ys (fun H1 hH1 =>
      I.grew (H' := H1) (T' := s.T) g2 F0 (by omega) (fun n b hn => by
       rw [hH1] at hn
       by_cases e : n = s.N
       ·rw [if_pos e] at hn; cases hn; subst e; exact .inl List.mem_cons_self
       ·rw [if_neg e] at hn; exact .inr hn) (I.tr.mono g2.ext) rfl) (setE_self _ _ _) I.le (hv1.mono g2.ext) (hv2.mono g2.ext) (some b0) (m - 1) m Q hQ
     exact ⟨w.heap.size, _, _, _, _, g, _, _, run_enterLoop_inner e2 fn a.tmps ps assign body, res _ _ hev, fun _ _ => trivial, inv _ _ hent, (fun h => (by cases h)), hcalls⟩
    ·cases h
 ·cases h
end
end Ev
end
section
namespace Ev
open Go Go.RowKit
section
variable {F : Fence} {n : Nat} {P : Program} {b : Frame} {a : Act} {k : List Item} {cs : List Frame} {w : World} {Q : Exit → Act → World → Prop}
theorem stepR_scope {c : Code} : step P (lone (b.atR a (.code (.scope c) :: k)) cs w) = .next (lone (b.atR a (.code c :: .inScope c :: k)) cs w) :=
 step_lone_go (by simp [stepG, stepG.exec, Frame.atR])
theorem stepR_inScope {c : Code} : step P (lone (b.atR a (.inScope c :: k)) cs w) = .next (lone (b.atR a k) cs w) :=
 step_lone_go (by simp [stepG, stepG.exec, Frame.atR])
theorem wpIn_scope_straight {c : Code} (h : c.wpIn F n P (Exit.noGoto Q) a w) : (Code.scope c).wpIn F n P Q a w := by
 intro b k cs hro hb hr
 have h0 : (lone (b.atR a (.code (.scope c) :: k)) cs w).fenced P F := fenced_calm hb hr rfl
 obtain ⟨e, a₁, w₁, hq, harr⟩ := h b (.inScope c :: k) cs hro hb hr
 cases e with
 | normal => exact ⟨.normal, a₁, w₁, hq, .head h0 stepR_scope (StepsIn.trans harr (.one (fenced_calm hb hr rfl) stepR_inScope))⟩
 | exit id => exact ⟨.exit id, a₁, w₁, hq, fun k' hk => .head h0 stepR_scope (harr.1 k' (by simp [exitTo, hk])), fun hr' hk => by
   obtain ⟨k₁, h1, h2⟩ := harr.2 hr' (by simp [exitTo, hk])
   exact ⟨k₁, h1, .head h0 stepR_scope h2⟩⟩
 | goto l => exact hq.elim
 | ret => exact ⟨.ret, a₁, w₁, hq, .of_steps (e := .ret) (.one h0 stepR_scope) harr⟩
 | panic ch => exact ⟨.panic ch, a₁, w₁, hq, .of_steps (e := .panic ch) (.one h0 stepR_scope) harr⟩
 | outgrown => exact ⟨.outgrown, a₁, w₁, hq, .of_steps (e := .outgrown) (.one h0 stepR_scope) harr⟩
end
section
variable {P : Program} {G : Nat} {call : CallT} {yld : YldT}
def CodeOk (P : Program) (G : Nat) (c : Code) (rd : Option Nat) (s : St) (x : Ex) (s' : St) : Prop :=
 s.N ≤ s'.N ∧ ∀ ρ0 N0 w0, Free ρ0 N0 s'.N → Glob G ρ0 → ∀ a w ρ, Inv P ρ0 N0 w0 s.T s.H s.N s.lo s.D a w ρ → ∀ ro, RO ρ0 rd ro → ∀ m Q, (∀ a' w' ρ', Inv P ρ0 N0 w0 s'.T s'.H s'.N s'.lo s'.D a' w' ρ' → Q (exO x) a' w') → c.wpIn (fe ro) m P Q a w
theorem CodeOk.seq {c1 c2 : Code} {rd : Option Nat} {s s1 s' : St} {x : Ex} (h1 : CodeOk P G c1 rd s .normal s1) (h2 : CodeOk P G c2 rd s1 x s') : CodeOk P G (.seq c1 c2) rd s x s' :=
 ⟨Nat.le_trans h1.1 h2.1, fun ρ0 N0 w0 hF hG a w ρ I ro hro m Q hQ => wpIn_seq (h1.2 ρ0 N0 w0 (fun n e1 e2 => hF n e1 (Nat.lt_of_lt_of_le e2 h2.1)) hG a w ρ I ro hro m _ fun a' w' ρ' I' =>
  h2.2 ρ0 N0 w0 hF hG a' w' ρ' I' ro hro m Q hQ)⟩
theorem lastD_inv {ops : Array Oper} {init : List Oper} {o : Oper} {f : Operand} (h : lastD ops = some (init, o, f)) : ops.toList = init ++ [o] ∧ o.guard = none ∧ ∃ ts, o.op = .defer { callee := .value f, args := ⟨[]⟩, argTypes := ts } := by
 unfold lastD at h
 split at h
 ·rename_i o' r hr
  split at h
  ·rename_i f' ts hg ho
   cases h
   refine ⟨?_, hg, ts, ho⟩
   have := congrArg List.reverse hr
   simpa using this
  ·cases h
 ·cases h
theorem regF_sound (hc : CallOk P G call) (hy : YldOk P G yld) {ops : Array Oper} {lf : Nat} {rd : Option Nat} {s : St} {x : Ex} {s' : St} (h : (regF P G ops).run call yld lf rd s = .ok (x, s')) :
  x = .normal ∧ s.N ≤ s'.N ∧ ∀ ρ0 N0 w0, Free ρ0 N0 s'.N → Glob G ρ0 → ∀ a w ρ, Inv P ρ0 N0 w0 s.T s.H s.N s.lo s.D a w ρ → ∀ ro, RO ρ0 rd ro → ∀ m Q, (∀ a' w' ρ', Inv P ρ0 N0 w0 s'.T s'.H s'.N s'.lo s'.D a' w' ρ' → Q .normal a' w') → wpOpsIn (fe ro) m P ops Q (List.range' 0 ops.size) a w := by
 unfold regF at h
 split at h
 ·rename_i init o f hl
  obtain ⟨hops, hgd, ts, hop⟩ := lastD_inv hl
  unfold deferF at h
  have hsz : ops.size = init.length + 1 := by
   have := congrArg List.length hops
   simpa using this
  have hidx : Idx ops (List.range' 0 init.length) init := by
   have h1 : ∀ (l : List Oper) (k : Nat), (∀ i, i < l.length → ops[k + i]? = l[i]?) → Idx ops (List.range' k l.length) l := by
    intro l
    induction l with
    | nil => intro k _; exact trivial
    | cons q l ih =>
     intro k hk
     rw [List.length_cons, List.range'_succ]
     refine ⟨by simpa using hk 0 (by simp), ih (k + 1) fun i hi => ?_⟩
     have := hk (i + 1) (by simp; omega)
     rw [List.getElem?_cons_succ] at this
     rw [← this]
     congr 1
     omega
   refine h1 init 0 fun i hi => ?_
   rw [Nat.zero_add, ← Array.getElem?_toList, hops, List.getElem?_append_left hi]
  have hlast : ops[init.length]? = some o := by
   rw [← Array.getElem?_toList, hops, List.getElem?_append_right (Nat.le_refl _), Nat.sub_self]; rfl
  cases rd with
  | some b => cases h
  | none =>
   have h' : Rs.rec (motive := fun _ => RX) (fun e => .bad e) (fun p => Prod.rec (motive := fun _ => RX) (fun _ s1 => St.rec (motive := fun _ => RX) (fun T H N lo D =>
    Option.rec (motive := fun _ => RX) (.bad 272) (fun u => VF.rec (motive := fun _ => RX) (fun h a b => (putF (β := Ex × St) o.dst).run T undef fun T' => appK a b fun us => .ok (.normal, ⟨T', H, N, lo, .call h us :: D⟩)) (fun _ => .bad 273) (.bad 274) (vF u)) ((argF G f).run T)) s1) p) ((opsF P G ops init).run call yld s.T s.H s.N s.lo s.D) = .ok (x, s') := h
   cases hr : (opsF P G ops init).run call yld s.T s.H s.N s.lo s.D with
   | bad e => rw [hr] at h'; cases h'
   | ok p =>
    obtain ⟨x1, T1, H1, N1, lo1, D1⟩ := p
    rw [hr] at h'
    have h2 : Option.rec (motive := fun _ => RX) (.bad 272) (fun u => VF.rec (motive := fun _ => RX) (fun h a b => (putF (β := Ex × St) o.dst).run T1 undef fun T' => appK a b fun us => .ok (.normal, ⟨T', H1, N1, lo1, .call h us :: D1⟩)) (fun _ => .bad 273) (.bad 274) (vF u)) ((argF G f).run T1) = .ok (x, s') := h'
    rw [argF_eq] at h2
    cases hf : aeval G T1 f with
    | none => rw [hf] at h2; cases h2
    | some u =>
     rw [hf] at h2
     have h3 : VF.rec (motive := fun _ => RX) (fun h a b => (putF (β := Ex × St) o.dst).run T1 undef fun T' => appK a b fun us => .ok (.normal, ⟨T', H1, N1, lo1, .call h us :: D1⟩)) (fun _ => .bad 273) (.bad 274) (vF u) = .ok (x, s') := h2
     cases u with
     | func fn first captured =>
      obtain ⟨first⟩ := first
      obtain ⟨captured⟩ := captured
      cases fn with
      | func g =>
       have h4 : (putF (β := Ex × St) o.dst).run T1 undef (fun T' => appK first captured fun us => .ok (.normal, ⟨T', H1, N1, lo1, .call g us :: D1⟩)) = .ok (x, s') := h3
       obtain ⟨T2, h5, h6⟩ := put_get h4
       rw [appK_eq] at h5
       cases h5
       obtain ⟨_, e2, e3⟩ := opsF_on hc hy init (List.range' 0 init.length) hidx s.T s.H s.N s.lo s.D x1 _ hr
       refine ⟨rfl, e2, fun ρ0 N0 w0 hF hG a w ρ I ro hro m Q hQ => ?_⟩
       cases ro with
       | some b => exact hro.elim
       | none =>
       have hrange : List.range' 0 ops.size = List.range' 0 init.length ++ [init.length] := by
        rw [hsz, List.range'_concat]
        simp
       rw [hrange]
       refine e3 ρ0 N0 w0 hF hG a w ρ I none m Q [init.length] fun a1 w1 ρ1 I1 => ?_
       have hv := aeval_sound I1.tr (hG.mono I1.wr.ext) hf
       generalize hvf : a1.eval f = vf at hv
       cases hv with
       | @func _ us0 vs0 xs0 ys0 k1 k2 k3 k4 =>
       rw [wpOpsIn_cons]
       unfold wpOpIn
       rw [hlast]
       have hw : Region.wanted o (yielded ops a1.tmps) = true := by simp [Region.wanted, hgd]
       simp only [hw, if_true]
       have hrun : (execOp a1.eval o).run P w1 = .ok (.defer { target := .fn (.func g) ⟨ys0⟩, args := ⟨vs0⟩ }) w1 := by
        unfold execOp
        rw [hop]
        have e : (⟨vs0⟩ : Array Value) ++ (⟨[]⟩ : Array Operand).map a1.eval = ⟨vs0⟩ := Array.ext' (by simp)
        simp only [resolve, hvf, Deferred.ofValue, Sem.run_bind, Sem.run_pure, Result.andThen_ok, e]
       refine ⟨fun _ _ => trivial, ?_⟩
       show o.uponIn (fe none) m P a1 _ Q ((o.semAt none a1.eval).run P w1)
       rw [Oper.semAt_none, hrun, Oper.uponIn_defer]
       refine hQ _ w1 ρ1 ⟨I1.wr, h6 (ds := { target := .fn (.func g) ⟨ys0⟩, args := ⟨vs0⟩ } :: a1.defers) I1.tr (undef_VR ρ1), I1.le, ?_, I1.dom⟩
       rw [put_defers]
       refine ⟨⟨.func g, ⟨ys0⟩, vs0 ++ ys0, rfl, ?_, VL.append ⟨k1, k2⟩ ⟨k3, k4⟩⟩, I1.dd⟩
       simp only [invoke]
       congr 1
       exact Array.ext' (by simp)
      | _ => cases h3
     | _ => cases h3
 ·have h' : (opsF P G ops ops.toList).run call yld s.T s.H s.N s.lo s.D = .ok (x, s') := h
  obtain ⟨rfl, e1, e2⟩ := opsF_sound hc hy ops.toList (List.range' 0 ops.size) (by
   have := idx_range ops ops.size 0 (by omega)
   simpa using this) _ _ _ _ _ _ _ h'
  exact ⟨rfl, e1, fun ρ0 N0 w0 hF hG a w ρ I ro _ m Q hQ => e2 ρ0 N0 w0 hF hG a w ρ I ro m Q hQ⟩
theorem comp_sound (hmix : P.follows .mixedOrders = true) (hname : ∀ (f : FuncId) (fn : Func), P.funcs[f]? = some fn → (fn.name == "runtime.NumGoroutine") = false) (hc : CallOk P G call) (hy : YldOk P G yld) : ∀ (c : Code) (lf : Nat) (rd : Option Nat) (s : St) (x : Ex) (s' : St), (comp P G okT c).run call yld lf rd s = .ok (x, s') → CodeOk P G c rd s x s' := by
 intro c
 induction c with
 | skip =>
  intro lf rd s x s' h
  have h' : Rs.ok (Ex.normal, s) = .ok (x, s') := h
  cases h'
  exact ⟨Nat.le_refl _, fun ρ0 N0 w0 hF hG a w ρ I ro hro m Q hQ => wpIn_skip (hQ a w ρ I)⟩
 | label l =>
  intro lf rd s x s' h
  have h' : Rs.ok (Ex.normal, s) = .ok (x, s') := h
  cases h'
  exact ⟨Nat.le_refl _, fun ρ0 N0 w0 hF hG a w ρ I ro hro m Q hQ => wpIn_label (hQ a w ρ I)⟩
 | exit id =>
  intro lf rd s x s' h
  have h' : Rs.ok (Ex.exit id, s) = .ok (x, s') := h
  cases h'
  exact ⟨Nat.le_refl _, fun ρ0 N0 w0 hF hG a w ρ I ro hro m Q hQ => wpIn_exit (hQ a w ρ I)⟩
 | ret =>
  intro lf rd s x s' h
  have h' : Rs.ok (Ex.ret, s) = .ok (x, s') := h
  cases h'
  exact ⟨Nat.le_refl _, fun ρ0 N0 w0 hF hG a w ρ I ro hro m Q hQ => wpIn_ret (hQ a w ρ I)⟩
 | goto l => intro lf rd s x s' h; have h' : Rs.bad 223 = Rs.ok (x, s') := h; cases h'
 | refuse l => intro lf rd s x s' h; have h' : Rs.bad 224 = Rs.ok (x, s') := h; cases h'
 | scope c ih =>
  intro lf rd s x s' h
  have h' : (comp P G okT c).run call yld lf rd s = .ok (x, s') := h
  obtain ⟨e1, e2⟩ := ih lf rd s x s' h'
  refine ⟨e1, fun ρ0 N0 w0 hF hG a w ρ I ro hro m Q hQ => wpIn_scope_straight (e2 ρ0 N0 w0 hF hG a w ρ I ro hro m _ fun a' w' ρ' I' => ?_)⟩
  have := hQ a' w' ρ' I'
  cases x <;> exact this
 | block id c ih =>
  intro lf rd s x s' h
  have h' : Rs.rec (motive := fun _ => RX) (fun e => .bad e) (fun p => Prod.rec (motive := fun _ => RX) (fun x s => Ex.rec (motive := fun _ => RX) (.ok (.normal, s)) (fun j => Bool.rec (motive := fun _ => RX) (.ok (.exit j, s)) (.ok (.normal, s)) (Nat.beq j id)) (.ok (.ret, s)) x) p) ((comp P G okT c).run call yld lf rd s) = .ok (x, s') := h
  cases hr : (comp P G okT c).run call yld lf rd s with
  | bad e => rw [hr] at h'; cases h'
  | ok p =>
   obtain ⟨y, s1⟩ := p
   obtain ⟨e1, e2⟩ := ih lf rd s y s1 hr
   rw [hr] at h'
   cases y with
   | normal =>
    cases h'
    exact ⟨e1, fun ρ0 N0 w0 hF hG a w ρ I ro hro m Q hQ => wpIn_block (e2 ρ0 N0 w0 hF hG a w ρ I ro hro m _ fun a' w' ρ' I' => hQ a' w' ρ' I')⟩
   | ret =>
    cases h'
    exact ⟨e1, fun ρ0 N0 w0 hF hG a w ρ I ro hro m Q hQ => wpIn_block (e2 ρ0 N0 w0 hF hG a w ρ I ro hro m _ fun a' w' ρ' I' => hQ a' w' ρ' I')⟩
   | exit j =>
    have h2 : Bool.rec (motive := fun _ => RX) (.ok (.exit j, s1)) (.ok (.normal, s1)) (Nat.beq j id) = .ok (x, s') := h'
    cases hb : Nat.beq j id with
    | true =>
     rw [hb] at h2
     cases h2
     have hj := Nat.eq_of_beq_eq_true hb
     refine ⟨e1, fun ρ0 N0 w0 hF hG a w ρ I ro hro m Q hQ => wpIn_block (e2 ρ0 N0 w0 hF hG a w ρ I ro hro m _ fun a' w' ρ' I' => ?_)⟩
     have := hQ a' w' ρ' I'
     simpa [exO, Exit.inBlock, hj] using this
    | false =>
     rw [hb] at h2
     cases h2
     have hj : j ≠ id := fun e => by subst e; rw [Nat.beq_refl] at hb; cases hb
     refine ⟨e1, fun ρ0 N0 w0 hF hG a w ρ I ro hro m Q hQ => wpIn_block (e2 ρ0 N0 w0 hF hG a w ρ I ro hro m _ fun a' w' ρ' I' => ?_)⟩
     have := hQ a' w' ρ' I'
     simpa [exO, Exit.inBlock, hj] using this
 | seq c1 c2 ih1 ih2 =>
  intro lf rd s x s' h
  have h' : Rs.rec (motive := fun _ => RX) (fun e => .bad e) (fun p => Prod.rec (motive := fun _ => RX) (fun x s => Ex.rec (motive := fun _ => RX) ((comp P G okT c2).run call yld lf rd s) (fun i => .ok (.exit i, s)) (.ok (.ret, s)) x) p) ((comp P G okT c1).run call yld lf rd s) = .ok (x, s') := h
  cases hr : (comp P G okT c1).run call yld lf rd s with
  | bad e => rw [hr] at h'; cases h'
  | ok p =>
   obtain ⟨y, s1⟩ := p
   have h1 := ih1 lf rd s y s1 hr
   rw [hr] at h'
   cases y with
   | normal =>
    have h2 : (comp P G okT c2).run call yld lf rd s1 = .ok (x, s') := h'
    exact h1.seq (ih2 lf rd s1 x s' h2)
   | ret =>
    cases h'
    exact ⟨h1.1, fun ρ0 N0 w0 hF hG a w ρ I ro hro m Q hQ => wpIn_seq (h1.2 ρ0 N0 w0 hF hG a w ρ I ro hro m _ fun a' w' ρ' I' => hQ a' w' ρ' I')⟩
   | exit j =>
    cases h'
    exact ⟨h1.1, fun ρ0 N0 w0 hF hG a w ρ I ro hro m Q hQ => wpIn_seq (h1.2 ρ0 N0 w0 hF hG a w ρ I ro hro m _ fun a' w' ρ' I' => hQ a' w' ρ' I')⟩
 | cond c c1 c2 ih1 ih2 =>
  intro lf rd s x s' h
  have h' : (Option.rec (motive := fun _ => RX) (.bad 221) (fun v => VB.rec (motive := fun _ => RX) (fun t => Bool.rec (motive := fun _ => RX) ((comp P G okT c2).run call yld lf rd s) ((comp P G okT c1).run call yld lf rd s) t) (.bad 221) (vB v)) ((argF G c).run s.T)) = .ok (x, s') := h
  rw [argF_eq] at h'
  cases hv : aeval G s.T c with
  | none => rw [hv] at h'; cases h'
  | some v =>
   rw [hv] at h'
   have h2 : VB.rec (motive := fun _ => RX) (fun t => Bool.rec (motive := fun _ => RX) ((comp P G okT c2).run call yld lf rd s) ((comp P G okT c1).run call yld lf rd s) t) (.bad 221) (vB v) = .ok (x, s') := h'
   cases v with
   | bool t =>
    have hev : ∀ {ρ : Env} {a : Act}, TR ρ s.T a.tmps → Glob G ρ → a.eval c = .bool t := fun {ρ a} hT hG => by
     have h1 := aeval_sound hT hG hv
     generalize a.eval c = vf at h1
     cases h1
     rfl
    cases t with
    | true =>
     obtain ⟨e1, e2⟩ := ih1 lf rd s x s' h2
     exact ⟨e1, fun ρ0 N0 w0 hF hG a w ρ I ro hro m Q hQ => wpIn_cond_true (hev I.tr (hG.mono I.wr.ext)) (e2 ρ0 N0 w0 hF hG a w ρ I ro hro m Q hQ)⟩
    | false =>
     obtain ⟨e1, e2⟩ := ih2 lf rd s x s' h2
     exact ⟨e1, fun ρ0 N0 w0 hF hG a w ρ I ro hro m Q hQ => wpIn_cond_false (hev I.tr (hG.mono I.wr.ext)) (e2 ρ0 N0 w0 hF hG a w ρ I ro hro m Q hQ)⟩
   | _ => cases h2
 | loop c ih =>
  intro lf rd s x s' h
  have key : ∀ (k : Nat) (s : St), (Nat.rec (motive := fun _ => St → RX) (fun _ => .bad 222) (fun _ ih s => Rs.rec (motive := fun _ => RX) (fun e => .bad e) (fun p => Prod.rec (motive := fun _ => RX) (fun x s => Ex.rec (motive := fun _ => RX) (ih s) (fun i => .ok (.exit i, s)) (.ok (.ret, s)) x) p) ((comp P G okT c).run call yld lf rd s)) k s : RX) = .ok (x, s') →
    s.N ≤ s'.N ∧ ∀ ρ0 N0 w0, Free ρ0 N0 s'.N → Glob G ρ0 → ∀ a w ρ, Inv P ρ0 N0 w0 s.T s.H s.N s.lo s.D a w ρ → ∀ ro, RO ρ0 rd ro → ∀ m Q, (∀ a' w' ρ', Inv P ρ0 N0 w0 s'.T s'.H s'.N s'.lo s'.D a' w' ρ' → Q (exO x) a' w') → Code.roundsIn (fe ro) m P c Q k a w := by
   intro k
   induction k with
   | zero => intro s h; cases h
   | succ k ihk =>
    intro s h
    have h' : Rs.rec (motive := fun _ => RX) (fun e => .bad e) (fun p => Prod.rec (motive := fun _ => RX) (fun x s => Ex.rec (motive := fun _ => RX) (Nat.rec (motive := fun _ => St → RX) (fun _ => .bad 222) (fun _ ih s => Rs.rec (motive := fun _ => RX) (fun e => .bad e) (fun p => Prod.rec (motive := fun _ => RX) (fun x s => Ex.rec (motive := fun _ => RX) (ih s) (fun i => .ok (.exit i, s)) (.ok (.ret, s)) x) p) ((comp P G okT c).run call yld lf rd s)) k s) (fun i => .ok (.exit i, s)) (.ok (.ret, s)) x) p) ((comp P G okT c).run call yld lf rd s) = .ok (x, s') := h
    cases hr : (comp P G okT c).run call yld lf rd s with
    | bad e => rw [hr] at h'; cases h'
    | ok p =>
     obtain ⟨y, s1⟩ := p
     have h1 := ih lf rd s y s1 hr
     rw [hr] at h'
     cases y with
     | normal =>
      obtain ⟨e1, e2⟩ := ihk s1 h'
      exact ⟨Nat.le_trans h1.1 e1, fun ρ0 N0 w0 hF hG a w ρ I ro hro m Q hQ => h1.2 ρ0 N0 w0 (fun n g1 g2 => hF n g1 (Nat.lt_of_lt_of_le g2 e1)) hG a w ρ I ro hro m _ fun a' w' ρ' I' => e2 ρ0 N0 w0 hF hG a' w' ρ' I' ro hro m Q hQ⟩
     | ret =>
      cases h'
      exact ⟨h1.1, fun ρ0 N0 w0 hF hG a w ρ I ro hro m Q hQ => h1.2 ρ0 N0 w0 hF hG a w ρ I ro hro m _ fun a' w' ρ' I' => hQ a' w' ρ' I'⟩
     | exit j =>
      cases h'
      exact ⟨h1.1, fun ρ0 N0 w0 hF hG a w ρ I ro hro m Q hQ => h1.2 ρ0 N0 w0 hF hG a w ρ I ro hro m _ fun a' w' ρ' I' => hQ a' w' ρ' I'⟩
  obtain ⟨e1, e2⟩ := key lf s h
  exact ⟨e1, fun ρ0 N0 w0 hF hG a w ρ I ro hro m Q hQ => wpIn_loop_rounds lf (e2 ρ0 N0 w0 hF hG a w ρ I ro hro m Q hQ)⟩
 | rangeFunc f ps assign body ih1 ih2 =>
  intro lf rd s x s' h
  exact rangeC_sound hc hname (show rangeC P call rd ((argF G f).run s.T) ps assign body s = .ok (x, s') from h)
 | region id ops draw =>
  intro lf rd s x s' h
  cases draw with
  | false =>
   obtain ⟨rfl, e1, e2⟩ := regF_sound hc hy (show (regF P G ops).run call yld lf rd s = .ok (x, s') from h)
   refine ⟨e1, fun ρ0 N0 w0 hF hG a w ρ I ro hro m Q hQ => wpIn_region ?_⟩
   rw [List.range_eq_range']
   exact e2 ρ0 N0 w0 hF hG a w ρ I ro hro m Q hQ
  | true =>
   have h' : (drawF P G okT ops).run call yld s.T s.H s.N s.lo s.D = .ok (x, s') := h
   obtain ⟨rfl, e1, e2⟩ := drawF_sound (id := id) hmix hc hy h'
   exact ⟨e1, fun ρ0 N0 w0 hF hG a w ρ I ro hro m Q hQ => e2 ρ0 N0 w0 hF hG a w ρ I ro m Q hQ⟩
end
end Ev
end
section
namespace Ev
open Go Go.RowKit
theorem mapO_at {α β : Type} {f : α → Option β} : ∀ {l : List α} {l' : List β}, mapO f l = some l' → l'.length = l.length ∧ ∀ (i : Nat) (y : β), l'[i]? = some y → ∃ x, l[i]? = some x ∧ f x = some y
 | [], l', h => by
  have h' : some [] = some l' := h
  cases h'
  exact ⟨rfl, fun i y e => by simp at e⟩
 | x :: l, l', h => by
  have h' : (match f x with | some y => (match mapO f l with | some l => some (y :: l) | none => none) | none => none) = some l' := h
  split at h'
  ·rename_i y hy
   split at h'
   ·rename_i l2 hl
    cases h'
    obtain ⟨h1, h2⟩ := mapO_at hl
    refine ⟨by simp [h1], fun i z e => ?_⟩
    cases i with
    | zero => simp at e; subst e; exact ⟨x, rfl, hy⟩
    | succ i => simp at e; obtain ⟨u, g1, g2⟩ := h2 i z e; exact ⟨u, by simpa using g1, g2⟩
   ·cases h'
  ·cases h'
theorem mapO_VL {ρ ρx : Env} {f : Value → Option Value} (hf : ∀ u v u', VR ρ u v → f u = some u' → VR ρx u' v) {us vs us' : List Value} (hv : VL ρ us vs) (h : mapO f us = some us') : VL ρx us' vs := by
 obtain ⟨h1, h2⟩ := mapO_at h
 refine ⟨h1.trans hv.1, fun i u' v e1 e2 => ?_⟩
 obtain ⟨u, g1, g2⟩ := h2 i u' e1
 exact hf u v u' (hv.2 i u v g1 e2) g2
def JN (N : Nat) (σ : PT Nat) (cnt : Nat) : Prop := N ≤ cnt ∧ (∀ n m, σ.get n = some m → N ≤ n ∧ N ≤ m ∧ m < cnt) ∧ ∀ n n' m, σ.get n = some m → σ.get n' = some m → n = n'
open Classical in
noncomputable def anew (N cnt : Nat) (σ : PT Nat) (ρ ρ' : Env) : Env := fun m => if N ≤ m ∧ m < cnt then (if h : ∃ n, σ.get n = some m then ρ' (Classical.choose h) else none) else ρ m
theorem anew_at {N cnt : Nat} {σ : PT Nat} {ρ ρ' : Env} (J : JN N σ cnt) {n m : Nat} (h : σ.get n = some m) : anew N cnt σ ρ ρ' m = ρ' n := by
 have h1 := J.2.1 n m h
 unfold anew
 rw [if_pos h1.2]
 have hex : ∃ n, σ.get n = some m := ⟨n, h⟩
 rw [dif_pos hex]
 rw [J.2.2 _ n m (Classical.choose_spec hex) h]
theorem anew_out {N cnt : Nat} {σ : PT Nat} {ρ ρ' : Env} {m : Nat} (h : m < N ∨ cnt ≤ m) : anew N cnt σ ρ ρ' m = ρ m := by
 unfold anew
 rw [if_neg (by omega)]
theorem anew_in {N cnt : Nat} {σ : PT Nat} {ρ ρ' : Env} {m : Nat} {p : Nat × Nat} (h1 : N ≤ m) (h2 : m < cnt) (h : anew N cnt σ ρ ρ' m = some p) : ∃ n, σ.get n = some m ∧ ρ' n = some p := by
 unfold anew at h
 rw [if_pos ⟨h1, h2⟩] at h
 by_cases hex : ∃ n, σ.get n = some m
 ·rw [dif_pos hex] at h
  exact ⟨_, Classical.choose_spec hex, h⟩
 ·rw [dif_neg hex] at h; cases h
section
variable {N cnt : Nat} {σ : PT Nat} {ρ ρ' : Env}
theorem renN_sound (J : JN N σ cnt) (hs : ∀ n, n < N → ρ' n = ρ n) {n m : Nat} (h : renN N σ n = some m) : anew N cnt σ ρ ρ' m = ρ' n := by
 unfold renN at h
 cases hb : Nat.blt n N with
 | true =>
  rw [hb] at h
  cases h
  have hlt : n < N := by
   have := Nat.le_of_ble_eq_true (show Nat.ble (n + 1) N = true from hb); omega
  rw [anew_out (.inl hlt), hs n hlt]
 | false => rw [hb] at h; exact anew_at J h
theorem renV_sound (J : JN N σ cnt) (hs : ∀ n, n < N → ρ' n = ρ n) : ∀ (d : Nat) (u v u' : Value), VR ρ' u v → renV N σ d u = some u' → VR (anew N cnt σ ρ ρ') u' v := by
 intro d
 induction d with
 | zero => intro u v u' _ h; cases h
 | succ d ih =>
  intro u v u' hv h
  have same : ∀ u, (cond (flat 1 u) (some u) none : Option Value) = some u' → VR ρ' u v → VR (anew N cnt σ ρ ρ') u' v := fun u h hv => by
   cases hf : flat 1 u with
   | false => rw [hf] at h; cases h
   | true =>
    rw [hf] at h
    cases h
    rw [flat_eq 1 _ hf hv]
    exact flat_le 1 _ hf _
  cases hv with
  | @ptr n o s a C hn =>
   have h' : (match renN N σ n with | some m => some (.pointer (some ⟨m, o, s⟩)) | none => none : Option Value) = some u' := h
   split at h'
   ·rename_i m hm; cases h'; exact .ptr ((renN_sound J hs hm).trans hn)
   ·cases h'
  | @sl n o l c a C hn =>
   have h' : (match renN N σ n with | some m => some (.slice (some ⟨m, o, none⟩) l c) | none => none : Option Value) = some u' := h
   split at h'
   ·rename_i m hm; cases h'; exact .sl ((renN_sound J hs hm).trans hn)
   ·cases h'
  | @soft n o q l l' c a C hn h1 h2 h3 =>
   have h' : (match renN N σ n with | some m => some (.slice (some ⟨m, o, some q⟩) l l') | none => none : Option Value) = some u' := h
   split at h'
   ·rename_i m hm; cases h'; exact .soft ((renN_sound J hs hm).trans hn) h1 h2 h3
   ·cases h'
  | @map n a C hn =>
   have h' : (match renN N σ n with | some m => some (.map (some m)) | none => none : Option Value) = some u' := h
   split at h'
   ·rename_i m hm; cases h'; exact .map ((renN_sound J hs hm).trans hn)
   ·cases h'
  | @iface t u v hv =>
   have h' : (match renV N σ d u with | some v => some (.iface t v) | none => none : Option Value) = some u' := h
   split at h'
   ·rename_i v2 hm; cases h'; exact .iface (ih _ _ _ hv hm)
   ·cases h'
  | @agg us vs h1 h2 =>
   have h' : (match mapO (renV N σ d) us with | some l => some (.agg ⟨l⟩) | none => none : Option Value) = some u' := h
   split at h'
   ·rename_i l hl
    cases h'
    have := mapO_VL (fun u v u' => ih u v u') ⟨h1, h2⟩ hl
    exact .agg this.1 this.2
   ·cases h'
  | @tuple us vs h1 h2 =>
   have h' : (match mapO (renV N σ d) us with | some l => some (.tuple ⟨l⟩) | none => none : Option Value) = some u' := h
   split at h'
   ·rename_i l hl
    cases h'
    have := mapO_VL (fun u v u' => ih u v u') ⟨h1, h2⟩ hl
    exact .tuple this.1 this.2
   ·cases h'
  | @func f us vs xs ys h1 h2 h3 h4 =>
   have h' : (match mapO (renV N σ d) us, mapO (renV N σ d) xs with | some a, some b => some (.func (.func f) ⟨a⟩ ⟨b⟩) | _, _ => none : Option Value) = some u' := h
   split at h'
   ·rename_i a b ha hb
    cases h'
    have k1 := mapO_VL (fun u v u' => ih u v u') ⟨h1, h2⟩ ha
    have k2 := mapO_VL (fun u v u' => ih u v u') ⟨h3, h4⟩ hb
    exact .func k1.1 k1.2 k2.1 k2.2
   ·cases h'
  | @meth f us vs xs ys h1 h2 h3 h4 => exact same (.func (.method f) ⟨us⟩ ⟨xs⟩) h (.meth h1 h2 h3 h4)
  | @yld n a C hn => exact same (.func (.yield n) ⟨[]⟩ ⟨[]⟩) h (.yld hn)
  | bool b => exact same (.bool b) h (.bool b)
  | int k n => exact same (.int k n) h (.int k n)
  | float k n => exact same (.float k n) h (.float k n)
  | complex k a b => exact same (.complex k a b) h (.complex k a b)
  | string s => exact same (.string s) h (.string s)
  | nilp => exact same (.pointer none) h .nilp
  | nils l c => exact same (.slice none l c) h (.nils l c)
  | nilm => exact same (.map none) h .nilm
  | nilc => exact same (.chan none) h .nilc
  | nilf => exact same .nilFunc h .nilf
  | nili => exact same .nilIface h .nili
theorem renB_sound {P : Program} (J : JN N σ cnt) (hs : ∀ n, n < N → ρ' n = ρ n) {C : Nat} {b b' : AB} {o : Option Obj} (ho : OR P ρ' C b o) (h : renB N σ b = some b') : OR P (anew N cnt σ ρ ρ') C b' o := by
 have hV := renV_sound (ρ := ρ) (ρ' := ρ') J hs 6
 cases b with
 | cells g e l =>
  have h' : (match mapO (renV N σ 6) l with | some l => some (.cells g e l) | none => none : Option AB) = some b' := h
  split at h'
  ·rename_i l2 hl
   cases h'
   obtain ⟨cs, h1, h2, h3, h4⟩ := ho
   have hlen := (mapO_at hl).1
   refine ⟨cs, h1, by rw [hlen]; exact mapO_VL (fun u v u' => hV u v u') h2 hl, fun hg => by rw [hlen]; exact h3 hg, h4⟩
  ·cases h'
 | map l =>
  have h' : (match mapO (renE N σ) l with | some l => some (.map l) | none => none : Option AB) = some b' := h
  split at h'
  ·rename_i l2 hl
   cases h'
   obtain ⟨es, clock, h1, h2, h3⟩ := ho
   obtain ⟨hlen, hat⟩ := mapO_at hl
   have both : ∀ (i : Nat) (y : Value × Value), l2[i]? = some y → ∃ x, l[i]? = some x ∧ renV N σ 6 x.1 = some y.1 ∧ renV N σ 6 x.2 = some y.2 := fun i y hy => by
    obtain ⟨x, g1, g2⟩ := hat i y hy
    refine ⟨x, g1, ?_⟩
    unfold renE at g2
    split at g2
    ·rename_i a b ha hb; cases g2; exact ⟨ha, hb⟩
    ·cases g2
   refine ⟨es, clock, h1, ⟨by simpa [hlen] using h2.1, fun i u v e1 e2 => ?_⟩, ⟨by simpa [hlen] using h3.1, fun i u v e1 e2 => ?_⟩⟩
   ·rw [List.getElem?_map] at e1
    cases hy : l2[i]? with
    | none => rw [hy] at e1; cases e1
    | some y =>
     rw [hy] at e1
     cases e1
     obtain ⟨x, g1, g2, g3⟩ := both i y hy
     exact hV _ _ _ (h2.2 i x.1 v (by rw [List.getElem?_map, g1]; rfl) e2) g2
   ·rw [List.getElem?_map] at e1
    cases hy : l2[i]? with
    | none => rw [hy] at e1; cases e1
    | some y =>
     rw [hy] at e1
     cases e1
     obtain ⟨x, g1, g2, g3⟩ := both i y hy
     exact hV _ _ _ (h3.2 i x.2 v (by rw [List.getElem?_map, g1]; rfl) e2) g3
  ·cases h'
 | dfr => cases h
 | loop st pend T ps as bo d => cases h
end
theorem gather_inv {N : Nat} {H : HP} {σ : PT Nat} : ∀ {olds : List Nat} {l : List (Nat × AB)}, gather N H σ olds = some l → ∀ p ∈ l, ∃ n b, H.get n = some b ∧ σ.get n = some p.1 ∧ renB N σ b = some p.2
 | [], l, h, p, hp => by
  have h' : some [] = some l := h
  cases h'
  simp at hp
 | n :: olds, l, h, p, hp => by
  have h' : (match gather N H σ olds with
   | none => none
   | some l => (match H.get n with
    | none => some l
    | some b => (match σ.get n, renB N σ b with | some m, some b => some ((m, b) :: l) | _, _ => none))) = some l := h
  split at h'
  ·cases h'
  ·rename_i l2 hl
   split at h'
   ·cases h'; exact gather_inv hl p hp
   ·rename_i b hb
    split at h'
    ·rename_i m b2 hm hb2
     cases h'
     rcases List.mem_cons.1 hp with rfl | hp
     ·exact ⟨n, b, hb, hm, hb2⟩
     ·exact gather_inv hl p hp
    ·cases h'
theorem JN.put {N cnt n : Nat} {σ σ' : PT Nat} (J : JN N σ cnt) (hn : N ≤ n) (h : ∀ j, σ'.get j = if j = n then some cnt else σ.get j) : JN N σ' (cnt + 1) := by
 refine ⟨by have := J.1; omega, fun i m e => ?_, fun i i' m e1 e2 => ?_⟩
 ·rw [h] at e
  by_cases g : i = n
  ·rw [if_pos g] at e; cases e; have := J.1; omega
  ·rw [if_neg g] at e; have := J.2.1 i m e; omega
 ·rw [h] at e1 e2
  by_cases g : i = n <;> by_cases g' : i' = n
  ·omega
  ·rw [if_pos g] at e1; rw [if_neg g'] at e2; cases e1; have := J.2.1 i' _ e2; omega
  ·rw [if_neg g] at e1; rw [if_pos g'] at e2; cases e2; have := J.2.1 i _ e1; omega
  ·rw [if_neg g] at e1; rw [if_neg g'] at e2; exact J.2.2 i i' m e1 e2
theorem disc_inv {β : Type} {N : Nat} {H : HP} {k : List Nat → PT Nat → Nat → Rs β} {r : β} : ∀ (fuel : Nat) (todo : List Value) (olds : List Nat) (σ : PT Nat) (cnt : Nat), disc N H fuel todo olds σ cnt k = .ok r → JN N σ cnt →
  ∃ olds' σ' cnt', k olds' σ' cnt' = .ok r ∧ JN N σ' cnt' := by
 intro fuel
 induction fuel with
 | zero => intro todo olds σ cnt h; cases h
 | succ fuel ih =>
  intro todo olds σ cnt h J
  cases todo with
  | nil => exact ⟨olds, σ, cnt, h, J⟩
  | cons v rest =>
   have place : ∀ n, discAt N H (fun todo olds σ cnt k => disc N H fuel todo olds σ cnt k) n rest olds σ cnt k = .ok r → ∃ olds' σ' cnt', k olds' σ' cnt' = .ok r ∧ JN N σ' cnt' := fun n h => by
    unfold discAt at h
    cases hb : Nat.blt n N with
    | true => rw [hb] at h; exact ih _ _ _ _ h J
    | false =>
     rw [hb] at h
     have hn : N ≤ n := by have := ble_false (m := n + 1) (n := N) hb; omega
     simp only [cond] at h
     split at h
     ·exact ih _ _ _ _ h J
     ·rcases PT.insK_spec 60 σ n (some cnt) with hbad | ⟨σ', h1, h2⟩
      ·rw [hbad] at h; cases h
      ·rw [h1] at h
       have J' := J.put hn h2
       split at h
       ·rw [appK_eq] at h; exact ih _ _ _ _ h J'
       ·rw [appK_eq] at h; exact ih _ _ _ _ h J'
       ·exact ih _ _ _ _ h J'
   have app : ∀ l : List Value, (appK l rest fun todo => disc N H fuel todo olds σ cnt k) = .ok r → ∃ olds' σ' cnt', k olds' σ' cnt' = .ok r ∧ JN N σ' cnt' := fun l h => by
    rw [appK_eq] at h; exact ih _ _ _ _ h J
   have on : disc N H fuel rest olds σ cnt k = .ok r → ∃ olds' σ' cnt', k olds' σ' cnt' = .ok r ∧ JN N σ' cnt' := fun h => ih _ _ _ _ h J
   cases v with
   | pointer a => cases a with
    | none => exact on h
    | some a => exact place a.block h
   | slice a l c => cases a with
    | none => exact on h
    | some a => exact place a.block h
   | map a => cases a with
    | none => exact on h
    | some a => exact place a h
   | iface t v => exact ih _ _ _ _ (show disc N H fuel (v :: rest) olds σ cnt k = .ok r from h) J
   | agg cs => exact app _ h
   | tuple cs => exact app _ h
   | func f a b =>
    have h' : (appK a.toList rest fun todo => appK b.toList todo fun todo => disc N H fuel todo olds σ cnt k) = .ok r := h
    rw [appK_eq, appK_eq] at h'
    exact ih _ _ _ _ h' J
   | bool b => exact on h
   | int k n => exact on h
   | float k n => exact on h
   | complex k a b => exact on h
   | string s => exact on h
   | chan a => exact on h
   | nilFunc => exact on h
   | nilIface => exact on h
theorem packC_inv {N : Nat} {H' : HP} {u : Value} {out : Out} (h : packC N H' u = .ok out) (hf : flat 3 u = false) : ∃ fuel, disc N H' fuel [u] [] .nil N (packEnd N H' u) = Rs.ok out := by
 rw [packC.eq_1, hf, cond_false] at h
 exact ⟨packFuel, h⟩
theorem packC_sound {P : Program} {ρ ρ' : Env} {N N' lo : Nat} {H' : HP} {w w' : World} {u v : Value} {out : Out} (W : Wrote P ρ ρ' N N' lo H' w w') (hD : Dom ρ N) (hle : N ≤ N') (hlo : N ≤ lo) (hv : VR ρ' u v) (h : packC N H' u = .ok out) :
  ∃ u' d N2, out = .v u' d N2 ∧ N ≤ N2 ∧ ∃ ρ2, Grew P ρ ρ2 N N2 d w w' ∧ VR ρ2 u' v := by
 have hbel : Below w.heap.size w w' := ⟨W.os, W.tape, W.output, W.size, fun x hx => W.keep x hx (fun n p h1 h2 => by omega)⟩
 have hD' : Dom ρ' N' := hD.same hle W.same
 cases hf : flat 3 u with
 | true =>
  unfold packC at h
  rw [hf] at h
  cases h
  rw [flat_eq 3 _ hf hv]
  exact ⟨_, _, _, rfl, Nat.le_refl _, ρ, ⟨.refl ρ, fun _ _ => rfl, hbel, fun n p h1 h2 => by omega, fun p h => by simp at h, fun p h => by simp at h, fun p h => by simp at h⟩, flat_le 3 _ hf _⟩
 | false =>
  obtain ⟨fuel, h'⟩ := packC_inv h hf
  obtain ⟨olds, σ, cnt, h1, J⟩ := disc_inv _ _ _ _ _ h' ⟨Nat.le_refl _, fun n m e => by rw [PT.get_nil] at e; (cases e), fun n n' m e => by rw [PT.get_nil] at e; (cases e)⟩
  have hs : ∀ n, n < N → ρ' n = ρ n := fun n hn => W.same n (.inl hn)
  unfold packEnd at h1
  split at h1
  ·rename_i u' l hu hl
   cases h1
   have hnew : ∀ n m p, σ.get n = some m → ρ' n = some p → w.heap.size ≤ p.1 := fun n m p e1 e2 => by
    have hn := (J.2.1 n m e1).1
    have hn' : n < N' := by
     rcases Nat.lt_or_ge n N' with g | g
     ·exact g
     ·rw [hD' n g] at e2; cases e2
    rcases W.new n p hn hn' e2 with g | ⟨m', q, g1, g2, _⟩
    ·exact g
    ·omega
   refine ⟨u', l, cnt, rfl, J.1, anew N cnt σ ρ ρ', ⟨fun n p e => ?_, fun n e => anew_out e, hbel, fun m p e1 e2 e3 => ?_, fun p hp => ?_, fun p hp => ?_, fun p hp q hq a C D e1 e2 => ?_⟩, renV_sound J hs 6 _ _ _ hv hu⟩
   ·have hn : n < N := by
     rcases Nat.lt_or_ge n N with g | g
     ·exact g
     ·rw [hD n g] at e; cases e
    rw [anew_out (.inl hn)]; exact e
   ·obtain ⟨n, g1, g2⟩ := anew_in e1 e2 e3
    exact ⟨hnew n m p g1 g2, W.sat.lt n p.1 p.2 g2⟩
   ·obtain ⟨n, b, g1, g2, g3⟩ := gather_inv hl p hp
    exact (J.2.1 n p.1 g2).2
   ·obtain ⟨n, b, g1, g2, g3⟩ := gather_inv hl p hp
    obtain ⟨a, C, k1, k2⟩ := W.sat.blk n b g1
    exact ⟨a, C, (anew_at J g2).trans k1, renB_sound J hs k2 g3⟩
   ·obtain ⟨i, b, g1, g2, g3⟩ := gather_inv hl p hp
    obtain ⟨j, c, k1, k2, k3⟩ := gather_inv hl q hq
    rw [anew_at J g2] at e1
    rw [anew_at J k2] at e2
    have hij := W.sat.inj i j b c a C D g1 k1 e1 e2
    subst hij
    rw [g2] at k2
    exact Option.some.inj k2
  ·cases h1
end Ev
end
section
namespace Ev
open Go Go.RowKit
section
variable {P : Program} {G : Nat}
def resS (tmps : Array Value) : ResultVar → Sem Value
 | .tmp t => pure (tmps.getD t undef)
 | .cell a t => do loadVar t (← asAddr (tmps.getD a undef))
theorem results_eq (fn : Func) (tmps : Array Value) : results fn tmps = (do
  let vs ← fn.results.mapM (resS tmps)
  pure (if h : vs.size = 1 then vs[0] else .tuple vs)) := by
 unfold results
 congr 1
theorem getD_of {tmps : Array Value} {t : Nat} {v d : Value} (h : tmps[t]? = some v) : tmps.getD t d = v := by
 rw [Array.getD_eq_getD_getElem?, h]; rfl
theorem resK_sound {ρ : Env} {H : HP} {w : World} {T : PT Value} {tmps : Array Value} (hS : Sat P ρ H w) (hT : TR ρ T tmps) : ∀ (rs : List ResultVar) (k : List Value → Rs Out) (r : Out), resK P H T rs k = .ok r → ∃ us vs, k us = .ok r ∧ (rs.mapM (resS tmps)).run P w = .ok vs w ∧ VL ρ us vs
 | [], k, r, h => ⟨[], [], h, by simp, .nil ρ⟩
 | .tmp t :: rs, k, r, h => by
  have h' : (match T.get t with | some v => resK P H T rs fun l => k (v :: l) | none => .bad 210) = .ok r := h
  split at h'
  ·rename_i u hu
   obtain ⟨v, hv, hr⟩ := hT t u hu
   obtain ⟨us, vs, h1, h2, h3⟩ := resK_sound hS hT rs _ r h'
   refine ⟨u :: us, v :: vs, h1, ?_, .cons hr h3⟩
   rw [List.mapM_cons]
   simp only [resS, Sem.run_bind, Sem.run_pure, Result.andThen_ok, h2, getD_of hv]
  ·cases h'
 | .cell a t :: rs, k, r, h => by
  have h' : (match T.get a with | some (.pointer (some ⟨n, off, _⟩)) => loadC P H t n off fun v => resK P H T rs fun l => k (v :: l) | _ => .bad 211) = .ok r := h
  split at h'
  ·rename_i n off s hu
   obtain ⟨v, hv, hr⟩ := hT a _ hu
   cases hr with
   | @ptr _ _ _ b C hn =>
    obtain ⟨u, v2, h1, h2, h3⟩ := load_sound hS hn h'
    obtain ⟨us, vs, h4, h5, h6⟩ := resK_sound hS hT rs _ r h1
    refine ⟨u :: us, v2 :: vs, h4, ?_, .cons h3 h6⟩
    rw [List.mapM_cons]
    simp only [resS, Sem.run_bind, Sem.run_pure, Result.andThen_ok, h5, getD_of hv, asAddr, h2]
  ·cases h'
theorem VR.oneV {ρ : Env} {us vs : List Value} (h : VL ρ us vs) : VR ρ (oneV us) (if h : (⟨vs⟩ : Array Value).size = 1 then (⟨vs⟩ : Array Value)[0] else .tuple ⟨vs⟩) := by
 cases us with
 | nil => obtain rfl := h.nil_inv; exact .tuple h.1 h.2
 | cons u us =>
  obtain ⟨v, vs, rfl, h1, h2⟩ := h.cons_inv
  cases us with
  | nil => obtain rfl := h2.nil_inv; exact h1
  | cons u2 us =>
   obtain ⟨v2, vs, rfl, _, _⟩ := h2.cons_inv
   have : ¬ (⟨v :: v2 :: vs⟩ : Array Value).size = 1 := by simp
   rw [dif_neg this]
   exact .tuple h.1 h.2
theorem results_run {ρ : Env} {H : HP} {w : World} {T : PT Value} {tmps : Array Value} {fn : Func} {k : List Value → Rs Out} {r : Out} (hS : Sat P ρ H w) (hT : TR ρ T tmps) (h : resK P H T fn.results.toList k = .ok r) :
  ∃ us v, k us = .ok r ∧ (results fn tmps).run P w = .ok v w ∧ VR ρ (oneV us) v := by
 obtain ⟨us, vs, h1, h2, h3⟩ := resK_sound hS hT _ _ _ h
 refine ⟨us, _, h1, ?_, VR.oneV h3⟩
 have e : fn.results.mapM (resS tmps) = Functor.map List.toArray (fn.results.toList.mapM (resS tmps)) := by
  have := List.mapM_toArray (l := fn.results.toList) (f := resS tmps)
  simpa using this
 rw [results_eq, e]
 simp only [Sem.run_bind, Sem.run_map, h2, Result.andThen_ok, Sem.run_pure]
theorem putArgs_inv : ∀ (l : List Value) (i : Nat) (T : PT Value) (k : PT Value → Rs Out) (r : Out), putArgs l i T k = .ok r → ∃ T', k T' = .ok r ∧ ∀ j y, T'.get j = some y → (i ≤ j ∧ l[j - i]? = some y) ∨ ((j < i ∨ i + l.length ≤ j) ∧ T.get j = some y)
 | [], i, T, k, r, h => ⟨T, h, fun j y e => .inr ⟨by simp; omega, e⟩⟩
 | v :: l, i, T, k, r, h => by
  have h' : T.setK i v (fun T' => putArgs l (Nat.succ i) T' k) (.bad 212) = .ok r := h
  rcases T.setK_spec i v with hb | ⟨T1, y, h1, h2, h3⟩
  ·rw [hb] at h'; cases h'
  ·rw [h1] at h'
   obtain ⟨T', h4, h5⟩ := putArgs_inv l (i + 1) T1 k r h'
   refine ⟨T', h4, fun j y e => ?_⟩
   rcases h5 j y e with ⟨g1, g2⟩ | ⟨g1, g2⟩
   ·have hj : j - i = (j - (i + 1)) + 1 := by omega
    exact .inl ⟨by omega, by rw [hj, List.getElem?_cons_succ]; exact g2⟩
   ·rw [h3] at g2
    by_cases ej : j = i
    ·rw [if_pos ej] at g2
     subst ej
     exact .inl ⟨Nat.le_refl _, by rw [Nat.sub_self]; exact g2⟩
    ·rw [if_neg ej] at g2
     simp only [List.length_cons]
     exact .inr ⟨by omega, g2⟩
theorem putPs_inv : ∀ (ps : List Tmp) (us : List Value) (T : PT Value) (k : PT Value → Rs Out) (r : Out), putPs ps us T k = .ok r → us.length = ps.length ∧ ∃ T', k T' = .ok r ∧ ∀ {ρ : Env} {tmps : Array Value} {vs : List Value}, TR ρ T tmps → VL ρ us vs → TR ρ T' ((ps.zip vs).foldl (fun tmps p => tmps.setIfInBounds p.1 p.2) tmps)
 | [], us, T, k, r, h => by
  cases us with
  | nil => exact ⟨rfl, T, h, fun h1 _ => h1⟩
  | cons u us => cases h
 | p :: ps, us, T, k, r, h => by
  cases us with
  | nil => cases h
  | cons u us =>
   have h' : T.setK p u (fun T' => putPs ps us T' k) (.bad 232) = .ok r := h
   rcases T.setK_spec p u with hb | ⟨T1, y, h1, h2, h3⟩
   ·rw [hb] at h'; cases h'
   ·rw [h1] at h'
    obtain ⟨e1, T', e2, e3⟩ := putPs_inv ps us T1 k r h'
    refine ⟨by simp [e1], T', e2, fun {ρ tmps vs} hT hv => ?_⟩
    obtain ⟨v, vs, rfl, hv1, hv2⟩ := hv.cons_inv
    exact e3 (hT.set h2 h3 hv1) hv2
theorem extern_ok {f : FuncId} {us vs : List Value} {N : Nat} {out : Out} {ρ : Env} {w : World} (h : externC P f us N = .ok out) (hv : VL ρ us vs) : NextOk P (callFunc f ⟨vs⟩) ρ N out w := by
 unfold externC at h
 cases ha : us.all (flat 3) with
 | false => rw [ha] at h; cases h
 | true =>
  rw [ha, cond_true] at h
  rw [hv.flat_eq 3 ha]
  split at h
  ·rename_i v hp
   rw [forceV_eq] at h
   cases hf : flat 3 v with
   | false => rw [hf] at h; cases h
   | true =>
    rw [hf] at h
    cases h
    refine ⟨Nat.le_refl _, fun hD ro m o a K Q hK => ?_⟩
    rw [prun_run hp w]
    exact hK v w ρ (.refl P ρ N w) (flat_le 3 _ hf _)
  ·cases h
end
end Ev
end
end Go.Proofs.YtcjgilagldbjnaaGreatDoor
