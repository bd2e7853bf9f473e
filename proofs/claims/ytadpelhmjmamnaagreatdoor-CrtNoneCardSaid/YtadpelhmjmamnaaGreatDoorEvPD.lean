/- The reckoner: calls that are left to a function's end. No conditions. -/
import Derived.Test.YtadpelhmjmamnaaGreatDoorEvP31
import Derived.RecoverIn
namespace Go.Proofs.YtadpelhmjmamnaaGreatDoor.Ev
open Go Go.RowKit

section
variable {P : Program} {G : Nat} {call : CallT} {yld : YldT}
/-- What code of such a call leads to, nobody panicking. -/
def CodeOkS (P : Program) (G : Nat) (c : Code) (s : St) (x : Ex) (s' : St) : Prop := s.N ≤ s'.N ∧ ∀ ρ0 N0 w0, Free ρ0 N0 s'.N → Glob G ρ0 → ∀ a w ρ, Inv P ρ0 N0 w0 s.T s.H s.N s.lo s.D a w ρ → ∀ (m : Nat) (c0 : Frame) (cs : List Frame) (Q : Exit → Act → List Frame → World → Prop), c0.mode = .returning →
  (∀ a' w' ρ', Inv P ρ0 N0 w0 s'.T s'.H s'.N s'.lo s'.D a' w' ρ' → Q (exO x) a' (c0 :: cs) w') → c.wpSIn (fe none) m P Q a (c0 :: cs) w
theorem CodeOk.lift {c : Code} {s : St} {x : Ex} {s' : St} (h : CodeOk P G c none s x s') : CodeOkS P G c s x s' :=
  ⟨h.1, fun ρ0 N0 w0 hF hG a w ρ I m _ _ _ _ hQ => wpSIn_of_wpIn rfl (h.2 ρ0 N0 w0 hF hG a w ρ I none trivial m _ hQ)⟩
theorem liftS_run (c : Cd) (lf : Nat) (s : St) : (liftS c).run call yld lf s = c.run call yld lf none s := by cases c; rfl
/-- An operation that looks at no memory, run. -/
theorem flat_run {ρ : Env} {T : PT Value} {N : Nat} {o : Oper} {out : Out} {a : Act} (hT : TR ρ T a.tmps) (hG : Glob G ρ) (h : flatC P G T N o = .ok out) (hs : ∀ cs b, o.op ≠ .select cs b) :
    ∃ v, out = .v v [] N ∧ (∀ w, (execOp a.eval o).run P w = .ok (.value v) w) ∧ VR ρ v v := by
  unfold flatC at h
  obtain ⟨us, h1, hv, hat⟩ := vals_sound hT hG _ _ _ h
  cases hf : us.all (flat 5) with
  | false => rw [hf] at h1; cases h1
  | true =>
    rw [hf] at h1
    simp only [cond_true] at h1
    have heq := hv.flat_eq 5 hf
    have hcong : execOp (aevalD G T) o = execOp a.eval o := execOp_congr o hs (fun x hx => by
      obtain ⟨i, hi, hix⟩ := List.getElem_of_mem (show x ∈ o.op.operands.toList by simpa using hx)
      have hi' : o.op.operands.toList[i]? = some x := by rw [List.getElem?_eq_getElem hi, hix]
      obtain ⟨u, hu, hau⟩ := hat i x hi'
      have h2 : (o.op.operands.toList.map a.eval)[i]? = some (a.eval x) := by rw [List.getElem?_map, hi']; rfl
      rw [heq, hu] at h2
      cases h2
      simp only [aevalD, hau])
    rw [hcong] at h1
    split at h1
    · rename_i v hp
      rw [forceV_eq] at h1
      cases hfv : flat 5 v with
      | false => rw [hfv] at h1; cases h1
      | true =>
        rw [hfv] at h1
        cases h1
        exact ⟨v, rfl, fun w => prun_run hp w, flat_le 5 v hfv ρ⟩
    · cases h1
theorem isRec_run {o : Oper} (h : isRec o = true) {a : Act} {w : World} : (execOp a.eval o).run P w = .ok .recover w ∧ o.about P w a.eval = none := by
  unfold isRec at h
  split at h
  · rename_i ts ho
    constructor
    · unfold execOp
      rw [ho]
      simp only [resolve, invoke, Sem.run_bind, Sem.run_pure, Result.andThen_ok, builtin]
    · unfold Oper.about
      rw [ho]
      simp [resolve, Target.leads]
  · cases h
theorem opsS_sound {ops : Array Oper} {ρ0 : Env} {N0 : Nat} {w0 : World} {H : HP} {N lo : Nat} {D : List DE} {ρ : Env} {w : World} (hG : Glob G ρ) {c0 : Frame} {cs : List Frame} (hm : c0.mode = .returning) (m : Nat) (Q : Exit → Act → List Frame → World → Prop) {r : Ex × St} : ∀ (l : List Oper) (is : List Nat), Idx ops is l → ∀ (T : PT Value) (k : PT Value → RX), opsS P G l T k = .ok r →
    ∃ T', k T' = .ok r ∧ ∀ a, Inv P ρ0 N0 w0 T H N lo D a w ρ → (∀ a', Inv P ρ0 N0 w0 T' H N lo D a' w ρ → Q .normal a' (c0 :: cs) w) → wpOpsSIn (fe none) m P ops Q is a (c0 :: cs) w
  | [], is, hi, T, k, h => by
    cases is with
    | nil => exact ⟨T, h, fun a I hQ => hQ a I⟩
    | cons i is => exact hi.elim
  | o :: l, is, hi, T, k, h => by
    cases is with
    | nil => exact hi.elim
    | cons i is =>
      obtain ⟨hio, hi'⟩ := hi
      have h' : (match o.guard with
        | some _ => (.bad 280 : RX)
        | none => cond (isRec o) ((putF (β := Ex × St) o.dst).run T .nilIface fun T => opsS P G l T k) (cond (notSel o)
          (Rs.rec (motive := fun _ => RX) (fun e => .bad e) (fun out => Out.rec (motive := fun _ => RX) (fun u _ _ => (putF (β := Ex × St) o.dst).run T u fun T => opsS P G l T k) (fun _ _ _ _ => .bad 281) out) (flatC P G T 0 o)) (.bad 282))) = .ok r := h
      cases hg : o.guard with
      | some g => rw [hg] at h'; cases h'
      | none =>
        rw [hg] at h'
        have hw : ∀ a : Act, Region.wanted o (yielded ops a.tmps) = true := fun a => by simp [Region.wanted, hg]
        cases hr : isRec o with
        | true =>
          rw [hr] at h'
          obtain ⟨T1, h1, h2⟩ := put_get (show (putF (β := Ex × St) o.dst).run T .nilIface (fun T => opsS P G l T k) = .ok r from h')
          obtain ⟨T', h3, h4⟩ := opsS_sound hG hm m Q l is hi' T1 k h1
          refine ⟨T', h3, fun a I hQ => ?_⟩
          obtain ⟨hrun, habout⟩ := isRec_run (P := P) hr (a := a) (w := w)
          unfold wpOpsSIn
          rw [hio]
          simp only [hw, if_true]
          refine ⟨fun f hf => (by rw [habout] at hf; cases hf), ?_⟩
          rw [hrun]
          have hrec : recoverD (c0 :: cs) = none := by simp [recoverD, hm]
          simp only [hrec]
          exact h4 _ ⟨I.wr, h2 (ds := a.defers) I.tr .nili, I.le, by rw [put_defers]; exact I.dd, I.dom⟩ hQ
        | false =>
          rw [hr] at h'
          cases hn : notSel o with
          | false => rw [hn] at h'; cases h'
          | true =>
            rw [hn] at h'
            have hs : ∀ cs b, o.op ≠ .select cs b := fun cs b e => by unfold notSel at hn; rw [e] at hn; cases hn
            cases hf : flatC P G T 0 o with
            | bad e => rw [hf] at h'; cases h'
            | ok out =>
              rw [hf] at h'
              cases out with
              | w u H' N' lo' => cases h'
              | v u d N' =>
                obtain ⟨T1, h1, h2⟩ := put_get (show (putF (β := Ex × St) o.dst).run T u (fun T => opsS P G l T k) = .ok r from h')
                obtain ⟨T', h3, h4⟩ := opsS_sound hG hm m Q l is hi' T1 k h1
                refine ⟨T', h3, fun a I hQ => ?_⟩
                obtain ⟨v, e1, e2, e3⟩ := flat_run I.tr hG hf hs
                cases e1
                unfold wpOpsSIn
                rw [hio]
                simp only [hw, if_true]
                refine ⟨fun _ _ => trivial, ?_⟩
                rw [e2 w]
                exact h4 _ ⟨I.wr, h2 (ds := a.defers) I.tr e3, I.le, by rw [put_defers]; exact I.dd, I.dom⟩ hQ
theorem compS_sound (hmix : P.follows .mixedOrders = true) (hname : ∀ (f : FuncId) (fn : Func), P.funcs[f]? = some fn → (fn.name == "runtime.NumGoroutine") = false) (hc : CallOk P G call) (hy : YldOk P G yld) : ∀ (c : Code) (lf : Nat) (s : St) (x : Ex) (s' : St), (compS P G okT c).run call yld lf s = .ok (x, s') → CodeOkS P G c s x s' := by
  intro c
  have lift : ∀ (c : Code) (lf : Nat) (s : St) (x : Ex) (s' : St), (liftS (comp P G okT c)).run call yld lf s = .ok (x, s') → CodeOkS P G c s x s' := fun c lf s x s' h => by
    rw [liftS_run] at h
    exact (comp_sound hmix hname hc hy c lf none s x s' h).lift
  induction c with
  | seq c1 c2 ih1 ih2 =>
    intro lf s x s' h
    have h' : Rs.rec (motive := fun _ => RX) (fun e => .bad e) (fun p => Prod.rec (motive := fun _ => RX) (fun x s => Ex.rec (motive := fun _ => RX) ((compS P G okT c2).run call yld lf s) (fun i => .ok (.exit i, s)) (.ok (.ret, s)) x) p) ((compS P G okT c1).run call yld lf s) = .ok (x, s') := h
    cases hr : (compS P G okT c1).run call yld lf s with
    | bad e => rw [hr] at h'; cases h'
    | ok p =>
      obtain ⟨y, s1⟩ := p
      have h1 := ih1 lf s y s1 hr
      rw [hr] at h'
      cases y with
      | normal =>
        have h2 := ih2 lf s1 x s' (show (compS P G okT c2).run call yld lf s1 = .ok (x, s') from h')
        exact ⟨Nat.le_trans h1.1 h2.1, fun ρ0 N0 w0 hF hG a w ρ I m c0 cs Q hm hQ => wpSIn_seq (h1.2 ρ0 N0 w0 (fun n g1 g2 => hF n g1 (Nat.lt_of_lt_of_le g2 h2.1)) hG a w ρ I m c0 cs _ hm fun a' w' ρ' I' => h2.2 ρ0 N0 w0 hF hG a' w' ρ' I' m c0 cs Q hm hQ)⟩
      | ret =>
        cases h'
        exact ⟨h1.1, fun ρ0 N0 w0 hF hG a w ρ I m c0 cs Q hm hQ => wpSIn_seq (h1.2 ρ0 N0 w0 hF hG a w ρ I m c0 cs _ hm fun a' w' ρ' I' => hQ a' w' ρ' I')⟩
      | exit j =>
        cases h'
        exact ⟨h1.1, fun ρ0 N0 w0 hF hG a w ρ I m c0 cs Q hm hQ => wpSIn_seq (h1.2 ρ0 N0 w0 hF hG a w ρ I m c0 cs _ hm fun a' w' ρ' I' => hQ a' w' ρ' I')⟩
  | cond c c1 c2 ih1 ih2 =>
    intro lf s x s' h
    have h' : (Option.rec (motive := fun _ => RX) (.bad 221) (fun v => VB.rec (motive := fun _ => RX) (fun t => Bool.rec (motive := fun _ => RX) ((compS P G okT c2).run call yld lf s) ((compS P G okT c1).run call yld lf s) t) (.bad 221) (vB v)) ((argF G c).run s.T)) = .ok (x, s') := h
    rw [argF_eq] at h'
    cases hv : aeval G s.T c with
    | none => rw [hv] at h'; cases h'
    | some v =>
      rw [hv] at h'
      have h2 : VB.rec (motive := fun _ => RX) (fun t => Bool.rec (motive := fun _ => RX) ((compS P G okT c2).run call yld lf s) ((compS P G okT c1).run call yld lf s) t) (.bad 221) (vB v) = .ok (x, s') := h'
      cases v with
      | bool t =>
        have hev : ∀ {ρ : Env} {a : Act}, TR ρ s.T a.tmps → Glob G ρ → a.eval c = .bool t := fun {ρ a} hT hG => by
          have h1 := aeval_sound hT hG hv
          generalize a.eval c = vf at h1
          cases h1
          rfl
        cases t with
        | true =>
          obtain ⟨e1, e2⟩ := ih1 lf s x s' h2
          exact ⟨e1, fun ρ0 N0 w0 hF hG a w ρ I m c0 cs Q hm hQ => wpSIn_cond (t := true) (hev I.tr (hG.mono I.wr.ext)) (e2 ρ0 N0 w0 hF hG a w ρ I m c0 cs Q hm hQ)⟩
        | false =>
          obtain ⟨e1, e2⟩ := ih2 lf s x s' h2
          exact ⟨e1, fun ρ0 N0 w0 hF hG a w ρ I m c0 cs Q hm hQ => wpSIn_cond (t := false) (hev I.tr (hG.mono I.wr.ext)) (e2 ρ0 N0 w0 hF hG a w ρ I m c0 cs Q hm hQ)⟩
      | _ => cases h2
  | region id ops draw =>
    intro lf s x s' h
    have h' : (cond (ops.toList.any isRec) (cond draw (⟨fun _ _ _ _ => .bad 283⟩ : CdS) ⟨fun _ _ _ s => St.rec (motive := fun _ => RX) (fun T H N lo D => opsS P G ops.toList T fun T => .ok (.normal, ⟨T, H, N, lo, D⟩)) s⟩) (liftS (comp P G okT (.region id ops draw)))).run call yld lf s = .ok (x, s') := h
    cases ha : ops.toList.any isRec with
    | false => rw [ha] at h'; exact lift _ lf s x s' h'
    | true =>
      rw [ha] at h'
      cases draw with
      | true => cases h'
      | false =>
        have h2 : opsS P G ops.toList s.T (fun T => .ok (.normal, ⟨T, s.H, s.N, s.lo, s.D⟩)) = .ok (x, s') := h'
        have hidx : Idx ops (List.range ops.size) ops.toList := by
          rw [List.range_eq_range']
          have := idx_range ops ops.size 0 (by omega)
          simpa using this
        refine ⟨?_, fun ρ0 N0 w0 hF hG a w ρ I m c0 cs Q hm hQ => ?_⟩
        · obtain ⟨T', h3, _⟩ := opsS_out h2
          cases h3
          exact Nat.le_refl _
        · obtain ⟨T', h3, h4⟩ := opsS_sound (ρ0 := ρ0) (N0 := N0) (w0 := w0) (H := s.H) (N := s.N) (lo := s.lo) (D := s.D) (ρ := ρ) (w := w) (hG.mono I.wr.ext) hm m Q ops.toList _ hidx s.T _ h2
          cases h3
          exact wpSIn_region (h4 a I fun a' I' => hQ a' w ρ I')
  | skip => exact fun lf s x s' h => lift .skip lf s x s' h
  | label l => exact fun lf s x s' h => lift (.label l) lf s x s' h
  | exit id => exact fun lf s x s' h => lift (.exit id) lf s x s' h
  | ret => exact fun lf s x s' h => lift .ret lf s x s' h
  | goto l => exact fun lf s x s' h => lift (.goto l) lf s x s' h
  | refuse l => exact fun lf s x s' h => lift (.refuse l) lf s x s' h
  | scope c _ => exact fun lf s x s' h => lift (.scope c) lf s x s' h
  | block id c _ => exact fun lf s x s' h => lift (.block id c) lf s x s' h
  | loop c _ => exact fun lf s x s' h => lift (.loop c) lf s x s' h
  | rangeFunc f ps assign body _ _ => exact fun lf s x s' h => lift (.rangeFunc f ps assign body) lf s x s' h
  where
  opsS_out {r : Ex × St} : ∀ {l : List Oper} {T : PT Value} {k : PT Value → RX}, opsS P G l T k = .ok r → ∃ T', k T' = .ok r ∧ True
  | [], T, k, h => ⟨T, h, trivial⟩
  | o :: l, T, k, h => by
    have h' : (match o.guard with
      | some _ => (.bad 280 : RX)
      | none => cond (isRec o) ((putF (β := Ex × St) o.dst).run T .nilIface fun T => opsS P G l T k) (cond (notSel o)
        (Rs.rec (motive := fun _ => RX) (fun e => .bad e) (fun out => Out.rec (motive := fun _ => RX) (fun u _ _ => (putF (β := Ex × St) o.dst).run T u fun T => opsS P G l T k) (fun _ _ _ _ => .bad 281) out) (flatC P G T 0 o)) (.bad 282))) = .ok r := h
    cases hg : o.guard with
    | some g => rw [hg] at h'; cases h'
    | none =>
      rw [hg] at h'
      cases hr : isRec o with
      | true =>
        rw [hr] at h'
        obtain ⟨T1, h1, _⟩ := put_get (show (putF (β := Ex × St) o.dst).run T .nilIface (fun T => opsS P G l T k) = .ok r from h')
        exact opsS_out h1
      | false =>
        rw [hr] at h'
        cases hn : notSel o with
        | false => rw [hn] at h'; cases h'
        | true =>
          rw [hn] at h'
          cases hf : flatC P G T 0 o with
          | bad e => rw [hf] at h'; cases h'
          | ok out =>
            rw [hf] at h'
            cases out with
            | w u H' N' lo' => cases h'
            | v u d N' =>
              obtain ⟨T1, h1, _⟩ := put_get (show (putF (β := Ex × St) o.dst).run T u (fun T => opsS P G l T k) = .ok r from h')
              exact opsS_out h1

/-- What such a call leads to. -/
def DNext (P : Program) (g : FuncId) (vs : List Value) (ρ : Env) (N : Nat) (out : Out) (w : World) : Prop :=
  match out with
  | .v _ d N' => Dom ρ N → ∀ (n : Nat) (R : Ending → FrameMode → World → Prop), (∀ v w' ρ', Grew P ρ ρ' N N' d w w' → R (.returned v) .returning w') → CallsDIn (fe none) n P g ⟨vs⟩ .returning w R
  | .w _ H' N' lo => Dom ρ N → ∀ (n : Nat) (R : Ending → FrameMode → World → Prop), (∀ v w' ρ', Wrote P ρ ρ' N N' lo H' w w' → R (.returned v) .returning w') → CallsDIn (fe none) n P g ⟨vs⟩ .returning w R
def GOW (P : Program) (ρ : Env) (N : Nat) (w w' : World) (out : Out) : Prop := match out with
  | .v _ d N' => ∃ ρ2, Grew P ρ ρ2 N N' d w w'
  | .w _ H' N' lo => ∃ ρ2, Wrote P ρ ρ2 N N' lo H' w w'
theorem start_TR' {ρ : Env} {us vs : List Value} {n : Nat} {T : PT Value} (hv : VL ρ us vs) (h : ∀ j y, T.get j = some y → (0 ≤ j ∧ us[j - 0]? = some y) ∨ ((j < 0 ∨ 0 + us.length ≤ j) ∧ (PT.full undef 60 n).get j = some y)) :
    TR ρ T ((⟨vs⟩ : Array Value) ++ Array.replicate (n - (⟨vs⟩ : Array Value).size) undef) := fun j y e => by
  have hlen : (⟨vs⟩ : Array Value).size = us.length := by rw [hv.1]; rfl
  rcases h j y e with ⟨_, g⟩ | ⟨g1, g2⟩
  · rw [Nat.sub_zero] at g
    obtain ⟨v, h1, h2⟩ := hv.at g
    have hj : j < (⟨vs⟩ : Array Value).size := (List.getElem?_eq_some_iff.1 h1).1
    refine ⟨v, ?_, h2⟩
    rw [Array.getElem?_append_left hj]
    simpa using h1
  · obtain ⟨rfl, g3⟩ := PT.full_get undef 60 n j y g2
    refine ⟨undef, ?_, undef_VR ρ⟩
    rw [Array.getElem?_append_right (by omega)]
    simp only [Array.getElem?_replicate]
    rw [if_pos (by omega)]
theorem dfnF_ok (hmix : P.follows .mixedOrders = true) (hname : ∀ (f : FuncId) (fn : Func), P.funcs[f]? = some fn → (fn.name == "runtime.NumGoroutine") = false) {mc : Mc} (hc : CallOk P G mc.call) (hy : YldOk P G mc.yld) :
    ∀ f us vs H N out ρ w, (dfnF P G okT f).run mc us H N = .ok out → Sat P ρ H w → Glob G ρ → (∀ n b, H.get n = some b → n < N) → VL ρ us vs → (∃ c, bodyO P f = some c) ∧ DNext P f vs ρ N out w := by
  intro f us vs H N out ρ w h hS hG hN hv
  unfold dfnF at h
  split at h
  · cases h
  · rename_i fn hf
    split at h
    · cases h
    · rename_i c hb
      have h' : (putArgs us 0 (PT.full undef 60 fn.ntmps) fun T =>
        match (compS P G okT c).run mc.call mc.yld loopFuel ⟨T, H, N, N, []⟩ with
        | .ok (.normal, s) => finD P fn N s
        | .ok (.ret, s) => finD P fn N s
        | .ok (.exit _, _) => .bad 287
        | .bad e => .bad (Nat.add (Nat.mul e 1000) f)) = .ok out := h
      obtain ⟨T, h1, h2⟩ := putArgs_inv _ _ _ _ _ h'
      have hbody : bodyO P f = some c := by unfold bodyO; rw [hf]; exact hb
      refine ⟨⟨c, hbody⟩, ?_⟩
      have hI : Dom ρ N → Inv P ρ N w T H N N [] { tmps := (⟨vs⟩ : Array Value) ++ Array.replicate (fn.ntmps - (⟨vs⟩ : Array Value).size) undef, defers := [] } w ρ := fun hD => ⟨.refl hS hN, start_TR' hv h2, Nat.le_refl _, trivial, hD⟩
      have body : ∃ x s, (compS P G okT c).run mc.call mc.yld loopFuel ⟨T, H, N, N, []⟩ = .ok (x, s) ∧ finD P fn N s = .ok out ∧ (x = .normal ∨ x = .ret) := by
        revert h1
        generalize (compS P G okT c).run mc.call mc.yld loopFuel ⟨T, H, N, N, []⟩ = res
        intro h1
        cases res with
        | bad e => cases h1
        | ok p =>
          obtain ⟨x, s⟩ := p
          cases x with
          | normal => exact ⟨_, s, rfl, h1, .inl rfl⟩
          | ret => exact ⟨_, s, rfl, h1, .inr rfl⟩
          | exit i => cases h1
      obtain ⟨x, s, hrun, hfin, hx⟩ := body
      obtain ⟨hle, hok⟩ := compS_sound hmix hname hc hy c loopFuel _ x s hrun
      have main : Dom ρ N → ∀ (n : Nat) (R : Ending → FrameMode → World → Prop), (∀ a' w' ρ', Inv P ρ N w s.T s.H s.N s.lo s.D a' w' ρ' → a'.defers = [] ∧ ∃ v, (results fn a'.tmps).run P w' = .ok v w' ∧ R (.returned v) .returning w') → CallsDIn (fe none) n P f ⟨vs⟩ .returning w R := fun hD n R hR =>
        callsDIn_of_wpSIn hf hb trivial fun c0 cs hm => hok ρ N w (hD.free _) hG _ w ρ (hI hD) n c0 cs _ hm fun a' w' ρ' I => by
          obtain ⟨e1, v, e2, e3⟩ := hR a' w' ρ' I
          have hc0 : c0 :: cs = ({ c0 with mode := .returning } : Frame) :: cs := by rw [← hm]
          rcases hx with rfl | rfl
          · exact ⟨e1, .returning, hc0, v, e2, e3⟩
          · exact ⟨e1, .returning, hc0, v, e2, e3⟩
      unfold finD at hfin
      split at hfin
      · rename_i hsD
        have nodef : ∀ {a' : Act} {w' : World} {ρ' : Env}, Inv P ρ N w s.T s.H s.N s.lo s.D a' w' ρ' → a'.defers = [] := fun {a' w' ρ'} I => by
          have hd := I.dd
          rw [hsD] at hd
          cases hds : a'.defers with
          | nil => rfl
          | cons d ds => rw [hds] at hd; exact hd.elim
        have ends : Dom ρ N → ∀ a' w' ρ', Inv P ρ N w s.T s.H s.N s.lo s.D a' w' ρ' → ∃ v, (results fn a'.tmps).run P w' = .ok v w' ∧ GOW P ρ N w w' out := fun hD a' w' ρ' I => by
          obtain ⟨us2, v, h3, h4, h5⟩ := results_run I.wr.sat I.tr hfin
          refine ⟨v, h4, ?_⟩
          cases hbl : Nat.ble N s.lo with
          | true =>
            rw [hbl, cond_true] at h3
            obtain ⟨u', d, N2, rfl, hle2, ρ2, hg, _⟩ := packC_sound I.wr hD I.le (Nat.le_of_ble_eq_true hbl) h5 h3
            exact ⟨ρ2, hg⟩
          | false =>
            rw [hbl, cond_false] at h3
            cases h3
            exact ⟨ρ', I.wr⟩
        cases out with
        | v u d N' =>
          exact fun hD n R hR => main hD n R fun a' w' ρ' I => by
            obtain ⟨v, e1, ρ2, e2⟩ := ends hD a' w' ρ' I
            exact ⟨nodef I, v, e1, hR v w' ρ2 e2⟩
        | w u H' N' lo =>
          exact fun hD n R hR => main hD n R fun a' w' ρ' I => by
            obtain ⟨v, e1, ρ2, e2⟩ := ends hD a' w' ρ' I
            exact ⟨nodef I, v, e1, hR v w' ρ2 e2⟩
      · cases hfin
theorem addK_spec {β : Type} : ∀ (d : List (Nat × AB)) (H : HP) (k : HP → Rs β) (r : β), addK d H k = .ok r → ∃ H', k H' = .ok r ∧ ∀ n b, H'.get n = some b → (n, b) ∈ d ∨ H.get n = some b
  | [], H, k, r, h => ⟨H, h, fun n b h => .inr h⟩
  | p :: d, H, k, r, h => by
    have h' : PT.insK 60 H p.1 (some p.2) (fun H' => addK d H' k) (.bad 203) = .ok r := h
    rcases PT.insK_spec 60 H p.1 (some p.2) with hb | ⟨H', h1, h2⟩
    · rw [hb] at h'; cases h'
    · rw [h1] at h'
      obtain ⟨H2, h3, h4⟩ := addK_spec d H' k r h'
      refine ⟨H2, h3, fun n b hn => ?_⟩
      rcases h4 n b hn with g | g
      · exact .inl (List.mem_cons_of_mem _ g)
      · rw [h2] at g
        by_cases e : n = p.1
        · rw [if_pos e] at g; cases g; subst e; exact .inl List.mem_cons_self
        · rw [if_neg e] at g; exact .inr g
/-- What is left is done: marks are taken, calls made. -/
theorem marks_sound (hmix : P.follows .mixedOrders = true) (hname : ∀ (f : FuncId) (fn : Func), P.funcs[f]? = some fn → (fn.name == "runtime.NumGoroutine") = false) {mc : Mc} (hc : CallOk P G mc.call) (hy : YldOk P G mc.yld) {fn : Func} {n : Nat} {R : Ending → World → Prop} {N0 : Nat} {ρ0 : Env} {w0 : World} {T : PT Value} (hG : Glob G ρ0) :
    ∀ (D : List DE) (H : HP) (N lo : Nat) (k : HP → Nat → Nat → Rs Out) (r : Out), marksK (fun g us H N => (dfnF P G okT g).run mc us H N) D H N lo k = .ok r →
    ∃ H' N' lo', k H' N' lo' = .ok r ∧ N ≤ N' ∧ ∀ (tmps : Array Value) (ds : List Deferred) (w : World) (ρ : Env), Free ρ0 N0 N' → Inv P ρ0 N0 w0 T H N lo D { tmps, defers := ds } w ρ → (∀ w' ρ', Inv P ρ0 N0 w0 T H' N' lo' [] { tmps, defers := [] } w' ρ' → LeavesIn (fe none) n P fn tmps R [] .returning w') → LeavesInM (fe none) n P fn tmps R ds .returning w
  | [], H, N, lo, k, r, h => ⟨H, N, lo, h, Nat.le_refl _, fun tmps ds w ρ hF I hQ => by
    cases ds with
    | nil => exact hQ w ρ I
    | cons d ds => exact I.dd.elim⟩
  | .mark b :: D, H, N, lo, k, r, h => by
    have h' : (match H.get b with
      | some .dfr => PT.insK 60 H b none (fun H' => forceN (cond (Nat.ble lo b) lo b) fun lo' => marksK (fun g us H N => (dfnF P G okT g).run mc us H N) D H' N lo' k) (.bad 217)
      | _ => .bad 218) = .ok r := h
    split at h'
    · rename_i hb
      rcases PT.insK_spec 60 H b none with hbad | ⟨H1, h1, h2⟩
      · rw [hbad] at h'; cases h'
      · rw [h1, forceN_eq, min_cond] at h'
        obtain ⟨H', N', lo', h3, hle, h4⟩ := marks_sound hmix hname hc hy (fn := fn) (n := n) (R := R) (N0 := N0) (ρ0 := ρ0) (w0 := w0) (T := T) hG D H1 N (min lo b) k r h'
        refine ⟨H', N', lo', h3, hle, fun tmps ds w ρ hF I hQ => ?_⟩
        cases ds with
        | nil => exact I.dd.elim
        | cons d ds =>
          obtain ⟨⟨x, C, e1, e2⟩, hdd⟩ := I.dd
          obtain ⟨x', C', e3, e4⟩ := I.wr.sat.blk b _ hb
          rw [e2] at e3
          cases e3
          have I' := ((I.lower (Nat.min_le_left lo b)).put (H' := H1) (obj := .deferred none) hb e2 (.inr (Nat.min_le_right lo b)) (fun m c hm => by
            rw [h2] at hm
            by_cases e : m = b
            · rw [if_pos e] at hm; cases hm
            · rw [if_neg e] at hm; exact .inr ⟨e, hm⟩))
          refine ⟨(fun h => (by cases h)), .inl ⟨x, _, e1, run_takeDeferred (show w.heap[x]? = some (.deferred (some [])) from e4), ?_⟩⟩
          exact h4 tmps ds _ ρ hF ⟨I'.wr, I'.tr, I'.le, hdd, I'.dom⟩ hQ
    · cases h'
  | .call g us :: D, H, N, lo, k, r, h => by
    have h' : (match (dfnF P G okT g).run mc us H N with
      | .ok (.v _ d N') => cond (Nat.ble N N') (addK d H fun H' => marksK (fun g us H N => (dfnF P G okT g).run mc us H N) D H' N' lo k) (.bad 219)
      | .ok (.w _ H' N' lo') => cond (Nat.ble N N') (forceN (cond (Nat.ble lo lo') lo lo') fun lo => marksK (fun g us H N => (dfnF P G okT g).run mc us H N) D H' N' lo k) (.bad 219)
      | .bad e => .bad e) = .ok r := h
    cases hr : (dfnF P G okT g).run mc us H N with
    | bad e => rw [hr] at h'; cases h'
    | ok out =>
      rw [hr] at h'
      have ok := fun {vs : List Value} {ρ : Env} {w : World} (hS : Sat P ρ H w) (hg : Glob G ρ) (hN : ∀ n b, H.get n = some b → n < N) (hv : VL ρ us vs) => dfnF_ok hmix hname hc hy g us vs H N out ρ w hr hS hg hN hv
      cases out with
      | v u d N1 =>
        have h2 : cond (Nat.ble N N1) (addK d H fun H' => marksK (fun g us H N => (dfnF P G okT g).run mc us H N) D H' N1 lo k) (.bad 219) = .ok r := h'
        cases hb : Nat.ble N N1 with
        | false => rw [hb] at h2; cases h2
        | true =>
          rw [hb] at h2
          have hle1 := Nat.le_of_ble_eq_true hb
          obtain ⟨H1, h3, hH1⟩ := addK_spec d H _ r h2
          obtain ⟨H', N', lo', h4, hle, h5⟩ := marks_sound hmix hname hc hy (fn := fn) (n := n) (R := R) (N0 := N0) (ρ0 := ρ0) (w0 := w0) (T := T) hG D H1 N1 lo k r h3
          refine ⟨H', N', lo', h4, Nat.le_trans hle1 hle, fun tmps ds w ρ hF I hQ => ?_⟩
          cases ds with
          | nil => exact I.dd.elim
          | cons dd ds =>
            obtain ⟨⟨fv, cap, vs, t1, t2, t3⟩, hdd⟩ := I.dd
            obtain ⟨⟨c, hbody⟩, hn⟩ := ok I.wr.sat (hG.mono I.wr.ext) I.wr.named t3
            refine ⟨(fun h => (by cases h)), .inr ⟨(fun h => (by cases h)), fv, cap, g, ⟨vs⟩, t1, by rw [t2]; exact run_enter hname hbody, fun _ _ => trivial, hn I.dom (n - 1) _ fun v w' ρ' hg => ?_⟩⟩
            have I1 := I.grew (H' := H1) (T' := T) (a' := { tmps, defers := dd :: ds }) hg (I.free hF hle) hle1 hH1 (I.tr.mono hg.ext) rfl
            exact h5 tmps ds w' ρ' hF ⟨I1.wr, I1.tr, I1.le, I1.dd.2, I1.dom⟩ hQ
      | w u H1 N1 lo1 =>
        have h2 : cond (Nat.ble N N1) (forceN (cond (Nat.ble lo lo1) lo lo1) fun lo => marksK (fun g us H N => (dfnF P G okT g).run mc us H N) D H1 N1 lo k) (.bad 219) = .ok r := h'
        cases hb : Nat.ble N N1 with
        | false => rw [hb] at h2; cases h2
        | true =>
          rw [hb, cond_true, forceN_eq, min_cond] at h2
          have hle1 := Nat.le_of_ble_eq_true hb
          obtain ⟨H', N', lo', h4, hle, h5⟩ := marks_sound hmix hname hc hy (fn := fn) (n := n) (R := R) (N0 := N0) (ρ0 := ρ0) (w0 := w0) (T := T) hG D H1 N1 (min lo lo1) k r h2
          refine ⟨H', N', lo', h4, Nat.le_trans hle1 hle, fun tmps ds w ρ hF I hQ => ?_⟩
          cases ds with
          | nil => exact I.dd.elim
          | cons dd ds =>
            obtain ⟨⟨fv, cap, vs, t1, t2, t3⟩, hdd⟩ := I.dd
            obtain ⟨⟨c, hbody⟩, hn⟩ := ok I.wr.sat (hG.mono I.wr.ext) I.wr.named t3
            refine ⟨(fun h => (by cases h)), .inr ⟨(fun h => (by cases h)), fv, cap, g, ⟨vs⟩, t1, by rw [t2]; exact run_enter hname hbody, fun _ _ => trivial, hn I.dom (n - 1) _ fun v w' ρ' hg => ?_⟩⟩
            have I1 := I.wrote (T' := T) (a' := { tmps, defers := dd :: ds }) hg hle1 (I.tr.mono hg.ext) rfl
            exact h5 tmps ds w' ρ' hF ⟨I1.wr, I1.tr, I1.le, I1.dd.2, I1.dom⟩ hQ
end
end Go.Proofs.YtadpelhmjmamnaaGreatDoor.Ev
