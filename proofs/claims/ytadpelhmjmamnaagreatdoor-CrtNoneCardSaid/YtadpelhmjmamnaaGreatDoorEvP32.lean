/- The reckoner: calls and rounds, so many one within another. No conditions. -/
import Derived.Test.YtadpelhmjmamnaaGreatDoorEvPD
namespace Go.Proofs.YtadpelhmjmamnaaGreatDoor.Ev
open Go Go.RowKit

section
variable {P : Program} {G : Nat}
/-- What a call leads to, but for the count of names. -/
def NextRun (P : Program) (s : Sem Next) (ρ : Env) (N : Nat) (out : Out) (w : World) : Prop :=
  match out with
  | .v u d N' => N ≤ N' → Dom ρ N → ∀ (ro : Option Nat) (m : Nat) (o : Oper) (a : Act) (K : Act → World → Prop) (Q : Exit → Act → World → Prop),
      (∀ v w' ρ', Grew P ρ ρ' N N' d w w' → VR ρ' u v → K (a.put o.dst v) w') → o.uponIn (fe ro) m P a K Q (s.run P w)
  | .w u H' N' lo => N ≤ N' → Dom ρ N → ∀ (ro : Option Nat) (m : Nat) (o : Oper) (a : Act) (K : Act → World → Prop) (Q : Exit → Act → World → Prop),
      (∀ v w' ρ', Wrote P ρ ρ' N N' lo H' w w' → VR ρ' u v → K (a.put o.dst v) w') → o.uponIn (fe ro) m P a K Q (s.run P w)
theorem ckOut_inv {N : Nat} {r : Rs Out} {out : Out} (h : ckOut N r = .ok out) : r = .ok out ∧ match out with | .v _ _ N' => N ≤ N' | .w _ _ N' _ => N ≤ N' := by
  cases r with
  | bad e => cases h
  | ok o =>
    cases o with
    | v u d N' =>
      have h' : Bool.rec (motive := fun _ => Rs Out) (.bad 219) (.ok (.v u d N')) (Nat.ble N N') = Rs.ok out := h
      cases hb : Nat.ble N N' with
      | false => rw [hb] at h'; cases h'
      | true => rw [hb] at h'; cases h'; exact ⟨rfl, Nat.le_of_ble_eq_true hb⟩
    | w u H N' lo =>
      have h' : Bool.rec (motive := fun _ => Rs Out) (.bad 219) (.ok (.w u H N' lo)) (Nat.ble N N') = Rs.ok out := h
      cases hb : Nat.ble N N' with
      | false => rw [hb] at h'; cases h'
      | true => rw [hb] at h'; cases h'; exact ⟨rfl, Nat.le_of_ble_eq_true hb⟩
theorem NextRun.ok {s : Sem Next} {ρ : Env} {N : Nat} {out : Out} {w : World} {r : Rs Out} (h : ckOut N r = .ok out) (hr : r = .ok out → NextRun P s ρ N out w) : NextOk P s ρ N out w := by
  obtain ⟨h1, h2⟩ := ckOut_inv h
  have h3 := hr h1
  cases out with
  | v u d N' => exact ⟨h2, h3 h2⟩
  | w u H N' lo => exact ⟨h2, h3 h2⟩
/-- What is asked of what a call ends in. -/
def EndOk (P : Program) (ρ : Env) (N : Nat) (w : World) (out : Out) (R : Ending → World → Prop) : Prop :=
  match out with
  | .v u d N' => ∀ v w' ρ', Grew P ρ ρ' N N' d w w' → VR ρ' u v → R (.returned v) w'
  | .w u H' N' lo => ∀ v w' ρ', Wrote P ρ ρ' N N' lo H' w w' → VR ρ' u v → R (.returned v) w'
theorem finC_sound (hmix : P.follows .mixedOrders = true) (hname : ∀ (f : FuncId) (fn : Func), P.funcs[f]? = some fn → (fn.name == "runtime.NumGoroutine") = false) {mc : Mc} (hc : CallOk P G mc.call) (hy : YldOk P G mc.yld) {fn : Func} {n N : Nat} {s : St} {out : Out} (h : finC P G okT mc fn N s = .ok out) {ρ : Env} {w : World} (hG : Glob G ρ) (hD : Dom ρ N) {R : Ending → World → Prop}
    (hR : EndOk P ρ N w out R) :
    ∀ a w' ρ', Inv P ρ N w s.T s.H s.N s.lo s.D a w' ρ' → LeavesInM (fe none) n P fn a.tmps R a.defers .returning w' := by
  intro a w' ρ' I
  unfold finC at h
  obtain ⟨H', N', lo, h1, hle, h2⟩ := marks_sound hmix hname hc hy (fn := fn) (n := n) (R := R) (N0 := N) (ρ0 := ρ) (w0 := w) (T := s.T) hG _ _ _ _ _ _ h
  refine h2 a.tmps a.defers w' ρ' (hD.free _) I fun w2 ρ2 I2 => ?_
  obtain ⟨us, v, h3, h4, h5⟩ := results_run I2.wr.sat I2.tr h1
  refine ⟨v, h4, ?_⟩
  cases hb : Nat.ble N lo with
  | true =>
    rw [hb, cond_true] at h3
    obtain ⟨u', d, N2, rfl, hle, ρ3, hg, hv⟩ := packC_sound I2.wr hD I2.le (Nat.le_of_ble_eq_true hb) h5 h3
    exact hR v w2 ρ3 hg hv
  | false =>
    rw [hb, cond_false] at h3
    cases h3
    exact hR v w2 ρ2 I2.wr h5
/-- The frame of a call, at its start. -/
theorem start_TR {ρ : Env} {us vs : List Value} {n : Nat} {T : PT Value} (hv : VL ρ us vs) (h : ∀ j y, T.get j = some y → (0 ≤ j ∧ us[j - 0]? = some y) ∨ ((j < 0 ∨ 0 + us.length ≤ j) ∧ (PT.full undef 60 n).get j = some y)) :
    TR ρ T ((⟨vs⟩ : Array Value) ++ Array.replicate (n - (⟨vs⟩ : Array Value).size) undef) := fun j y e => by
  have hlen : (⟨vs⟩ : Array Value).size = us.length := by rw [hv.1]; rfl
  rcases h j y e with ⟨_, g⟩ | ⟨g1, g2⟩
  · rw [Nat.sub_zero] at g
    obtain ⟨v, h1, h2⟩ := hv.at g
    have hj : j < (⟨vs⟩ : Array Value).size := (List.getElem?_eq_some_iff.1 h1).1
    refine ⟨v, ?_, h2⟩
    rw [Array.getElem?_append_left hj]
    simpa using h1
  · obtain ⟨rfl, g3⟩ := PT.full_get undef 60 n j y g2
    refine ⟨undef, ?_, undef_VR ρ⟩
    rw [Array.getElem?_append_right (by omega)]
    simp only [Array.getElem?_replicate]
    rw [if_pos (by omega)]
/-- **A call of a function.** -/
theorem fnF_ok (hmix : P.follows .mixedOrders = true) (hname : ∀ (f : FuncId) (fn : Func), P.funcs[f]? = some fn → (fn.name == "runtime.NumGoroutine") = false) {mc : Mc} (hc : CallOk P G mc.call) (hy : YldOk P G mc.yld) :
    ∀ f us vs H N out ρ w, (fnF P G okT f).run mc us H N = .ok out → Sat P ρ H w → Glob G ρ → (∀ n b, H.get n = some b → n < N) → VL ρ us vs → NextRun P (callFunc f ⟨vs⟩) ρ N out w := by
  intro f us vs H N out ρ w h hS hG hN hv
  unfold fnF at h
  split at h
  · cases h
  · rename_i fn hf
    split at h
    · have := extern_ok (P := P) h hv (ρ := ρ) (w := w)
      cases out with
      | v u d N' => exact fun _ => this.2
      | w u H' N' lo => exact fun _ => this.2
    · rename_i c hb
      have h' : (putArgs us 0 (PT.full undef 60 fn.ntmps) fun T =>
        match (comp P G okT c).run mc.call mc.yld loopFuel none ⟨T, H, N, N, []⟩ with
        | .ok (.normal, s) => finC P G okT mc fn N s
        | .ok (.ret, s) => finC P G okT mc fn N s
        | .ok (.exit _, _) => .bad 214
        | .bad e => .bad (Nat.add (Nat.mul e 1000) f)) = .ok out := h
      obtain ⟨T, h1, h2⟩ := putArgs_inv _ _ _ _ _ h'
      have hbody : bodyO P f = some c := by unfold bodyO; rw [hf]; exact hb
      have hent := run_enter (args := ⟨vs⟩) (w := w) hname hbody
      have hI : Dom ρ N → Inv P ρ N w T H N N [] { tmps := (⟨vs⟩ : Array Value) ++ Array.replicate (fn.ntmps - (⟨vs⟩ : Array Value).size) undef, defers := [] } w ρ := fun hD => ⟨.refl hS hN, start_TR hv h2, Nat.le_refl _, trivial, hD⟩
      -- how the body ends
      have body : ∃ x s, (comp P G okT c).run mc.call mc.yld loopFuel none ⟨T, H, N, N, []⟩ = .ok (x, s) ∧ finC P G okT mc fn N s = .ok out ∧ (x = .normal ∨ x = .ret) := by
        revert h1
        generalize (comp P G okT c).run mc.call mc.yld loopFuel none ⟨T, H, N, N, []⟩ = res
        intro h1
        cases res with
        | bad e => cases h1
        | ok p =>
          obtain ⟨x, s⟩ := p
          cases x with
          | normal => exact ⟨_, s, rfl, h1, .inl rfl⟩
          | ret => exact ⟨_, s, rfl, h1, .inr rfl⟩
          | exit i => cases h1
      obtain ⟨x, s, hrun, hfin, hx⟩ := body
      obtain ⟨hle, hok⟩ := comp_sound hmix hname hc hy c loopFuel none _ x s hrun
      have main : Dom ρ N → ∀ (ro : Option Nat) (m : Nat) (R : Ending → World → Prop), EndOk P ρ N w out R → CallsIn (fe ro) m P f ⟨vs⟩ w R := fun hD ro m R hR => by
        have hcalls : CallsIn (fe none) m P f ⟨vs⟩ w R := callsIn_of_wp_marks hf hb trivial (hok ρ N w (hD.free _) hG _ w ρ (hI hD) none trivial m _ fun a' w' ρ' I => by
          have := finC_sound (n := m) hmix hname hc hy hfin hG hD hR a' w' ρ' I
          rcases hx with rfl | rfl <;> exact this)
        cases ro with
        | none => exact hcalls
        | some b => exact CallsIn.inRound b hcalls
      cases out with
      | v u d N' =>
        refine fun _ hD ro m o a K Q hK => ?_
        rw [hent]
        exact ⟨(fun h => (by cases h)), main hD ro (m - 1) _ (fun v w' ρ' g hv => hK v w' ρ' g hv)⟩
      | w u H' N' lo =>
        refine fun _ hD ro m o a K Q hK => ?_
        rw [hent]
        exact ⟨(fun h => (by cases h)), main hD ro (m - 1) _ (fun v w' ρ' g hv => hK v w' ρ' g hv)⟩
end
end Go.Proofs.YtadpelhmjmamnaaGreatDoor.Ev
