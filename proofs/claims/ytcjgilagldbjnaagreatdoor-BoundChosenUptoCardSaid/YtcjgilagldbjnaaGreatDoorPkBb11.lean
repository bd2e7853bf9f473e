/- The reckoner: calls that are left to a function's end. The reckoner: calls and rounds, so many one within another. The reckoner: rounds; so many calls one within another. The reckoner, met with a law's row: what a listed table give. Numbers: primes, Fermat's little theorem, orders. -/
import Derived.Test.YtcjgilagldbjnaaGreatDoorPkBb10
import Derived.RecoverIn
import Derived.Lib.LaidTab
import Derived.Stop.LaidErr
import Derived.KernelRfl
namespace Go.Proofs.YtcjgilagldbjnaaGreatDoor
section
namespace Ev
open Go Go.RowKit
section
variable {P : Program} {G : Nat} {call : CallT} {yld : YldT}
def CodeOkS (P : Program) (G : Nat) (c : Code) (s : St) (x : Ex) (s' : St) : Prop := s.N ≤ s'.N ∧ ∀ ρ0 N0 w0, Free ρ0 N0 s'.N → Glob G ρ0 → ∀ a w ρ, Inv P ρ0 N0 w0 s.T s.H s.N s.lo s.D a w ρ → ∀ (m : Nat) (c0 : Frame) (cs : List Frame) (Q : Exit → Act → List Frame → World → Prop), c0.mode = .returning →
 (∀ a' w' ρ', Inv P ρ0 N0 w0 s'.T s'.H s'.N s'.lo s'.D a' w' ρ' → Q (exO x) a' (c0 :: cs) w') → c.wpSIn (fe none) m P Q a (c0 :: cs) w
theorem CodeOk.lift {c : Code} {s : St} {x : Ex} {s' : St} (h : CodeOk P G c none s x s') : CodeOkS P G c s x s' :=
 ⟨h.1, fun ρ0 N0 w0 hF hG a w ρ I m _ _ _ _ hQ => wpSIn_of_wpIn rfl (h.2 ρ0 N0 w0 hF hG a w ρ I none trivial m _ hQ)⟩
theorem liftS_run (c : Cd) (lf : Nat) (s : St) : (liftS c).run call yld lf s = c.run call yld lf none s := by cases c; rfl
theorem flat_run {ρ : Env} {T : PT Value} {N : Nat} {o : Oper} {out : Out} {a : Act} (hT : TR ρ T a.tmps) (hG : Glob G ρ) (h : flatC P G T N o = .ok out) (hs : ∀ cs b, o.op ≠ .select cs b) :
  ∃ v, out = .v v [] N ∧ (∀ w, (execOp a.eval o).run P w = .ok (.value v) w) ∧ VR ρ v v := by
 unfold flatC at h
 obtain ⟨us, h1, hv, hat⟩ := vals_sound hT hG _ _ _ h
 cases hf : us.all (flat 5) with
 | false => rw [hf] at h1; cases h1
 | true =>
  rw [hf] at h1
  simp only [cond_true] at h1
  have heq := hv.flat_eq 5 hf
  have hcong : execOp (aevalD G T) o = execOp a.eval o := execOp_congr o hs (fun x hx => by
   obtain ⟨i, hi, hix⟩ := List.getElem_of_mem (show x ∈ o.op.operands.toList by simpa using hx)
   have hi' : o.op.operands.toList[i]? = some x := by rw [List.getElem?_eq_getElem hi, hix]
   obtain ⟨u, hu, hau⟩ := hat i x hi'
   have h2 : (o.op.operands.toList.map a.eval)[i]? = some (a.eval x) := by rw [List.getElem?_map, hi']; rfl
   rw [heq, hu] at h2
   cases h2
   simp only [aevalD, hau])
  rw [hcong] at h1
  split at h1
  ·rename_i v hp
   rw [forceV_eq] at h1
   cases hfv : flat 5 v with
   | false => rw [hfv] at h1; cases h1
   | true =>
    rw [hfv] at h1
    cases h1
    exact ⟨v, rfl, fun w => prun_run hp w, flat_le 5 v hfv ρ⟩
  ·cases h1
theorem isRec_run {o : Oper} (h : isRec o = true) {a : Act} {w : World} : (execOp a.eval o).run P w = .ok .recover w ∧ o.about P w a.eval = none := by
 unfold isRec at h
 split at h
 ·rename_i ts ho
  constructor
  ·unfold execOp
   rw [ho]
   simp only [resolve, invoke, Sem.run_bind, Sem.run_pure, Result.andThen_ok, builtin]
  ·unfold Oper.about
   rw [ho]
   simp [resolve, Target.leads]
 ·cases h
theorem opsS_sound {ops : Array Oper} {ρ0 : Env} {N0 : Nat} {w0 : World} {H : HP} {N lo : Nat} {D : List DE} {ρ : Env} {w : World} (hG : Glob G ρ) {c0 : Frame} {cs : List Frame} (hm : c0.mode = .returning) (m : Nat) (Q : Exit → Act → List Frame → World → Prop) {r : Ex × St} : ∀ (l : List Oper) (is : List Nat), Idx ops is l → ∀ (T : PT Value) (k : PT Value → RX), opsS P G l T k = .ok r →
  ∃ T', k T' = .ok r ∧ ∀ a, Inv P ρ0 N0 w0 T H N lo D a w ρ → (∀ a', Inv P ρ0 N0 w0 T' H N lo D a' w ρ → Q .normal a' (c0 :: cs) w) → wpOpsSIn (fe none) m P ops Q is a (c0 :: cs) w
 | [], is, hi, T, k, h => by
  cases is with
  | nil => exact ⟨T, h, fun a I hQ => hQ a I⟩
  | cons i is => exact hi.elim
 | o :: l, is, hi, T, k, h => by
  cases is with
  | nil => exact hi.elim
  | cons i is =>
   obtain ⟨hio, hi'⟩ := hi
   have h' : (match o.guard with
    | some _ => (.bad 280 : RX)
    | none => cond (isRec o) ((putF (β := Ex × St) o.dst).run T .nilIface fun T => opsS P G l T k) (cond (notSel o)
     (Rs.rec (motive := fun _ => RX) (fun e => .bad e) (fun out => Out.rec (motive := fun _ => RX) (fun u _ _ => (putF (β := Ex × St) o.dst).run T u fun T => opsS P G l T k) (fun _ _ _ _ => .bad 281) out) (flatC P G T 0 o)) (.bad 282))) = .ok r := h
   cases hg : o.guard with
   | some g => rw [hg] at h'; cases h'
   | none =>
    rw [hg] at h'
    have hw : ∀ a : Act, Region.wanted o (yielded ops a.tmps) = true := fun a => by simp [Region.wanted, hg]
    cases hr : isRec o with
    | true =>
     rw [hr] at h'
     obtain ⟨T1, h1, h2⟩ := put_get (show (putF (β := Ex × St) o.dst).run T .nilIface (fun T => opsS P G l T k) = .ok r from h')
     obtain ⟨T', h3, h4⟩ := opsS_sound hG hm m Q l is hi' T1 k h1
     refine ⟨T', h3, fun a I hQ => ?_⟩
     obtain ⟨hrun, habout⟩ := isRec_run (P := P) hr (a := a) (w := w)
     unfold wpOpsSIn
     rw [hio]
     simp only [hw, if_true]
     refine ⟨fun f hf => (by rw [habout] at hf; cases hf), ?_⟩
     rw [hrun]
     have hrec : recoverD (c0 :: cs) = none := by simp [recoverD, hm]
     simp only [hrec]
     exact h4 _ ⟨I.wr, h2 (ds := a.defers) I.tr .nili, I.le, by rw [put_defers]; exact I.dd, I.dom⟩ hQ
    | false =>
     rw [hr] at h'
     cases hn : notSel o with
     | false => rw [hn] at h'; cases h'
     | true =>
      rw [hn] at h'
      have hs : ∀ cs b, o.op ≠ .select cs b := fun cs b e => by unfold notSel at hn; rw [e] at hn; cases hn
      cases hf : flatC P G T 0 o with
      | bad e => rw [hf] at h'; cases h'
      | ok out =>
       rw [hf] at h'
       cases out with
       | w u H' N' lo' => cases h'
       | v u d N' =>
        obtain ⟨T1, h1, h2⟩ := put_get (show (putF (β := Ex × St) o.dst).run T u (fun T => opsS P G l T k) = .ok r from h')
        obtain ⟨T', h3, h4⟩ := opsS_sound hG hm m Q l is hi' T1 k h1
        refine ⟨T', h3, fun a I hQ => ?_⟩
        obtain ⟨v, e1, e2, e3⟩ := flat_run I.tr hG hf hs
        cases e1
        unfold wpOpsSIn
        rw [hio]
        simp only [hw, if_true]
        refine ⟨fun _ _ => trivial, ?_⟩
        rw [e2 w]
        exact h4 _ ⟨I.wr, h2 (ds := a.defers) I.tr e3, I.le, by rw [put_defers]; exact I.dd, I.dom⟩ hQ
theorem compS_sound (hmix : P.follows .mixedOrders = true) (hname : ∀ (f : FuncId) (fn : Func), P.funcs[f]? = some fn → (fn.name == "runtime.NumGoroutine") = false) (hc : CallOk P G call) (hy : YldOk P G yld) : ∀ (c : Code) (lf : Nat) (s : St) (x : Ex) (s' : St), (compS P G okT c).run call yld lf s = .ok (x, s') → CodeOkS P G c s x s' := by
 intro c
 have lift : ∀ (c : Code) (lf : Nat) (s : St) (x : Ex) (s' : St), (liftS (comp P G okT c)).run call yld lf s = .ok (x, s') → CodeOkS P G c s x s' := fun c lf s x s' h => by
  rw [liftS_run] at h
  exact (comp_sound hmix hname hc hy c lf none s x s' h).lift
 induction c with
 | seq c1 c2 ih1 ih2 =>
  intro lf s x s' h
  have h' : Rs.rec (motive := fun _ => RX) (fun e => .bad e) (fun p => Prod.rec (motive := fun _ => RX) (fun x s => Ex.rec (motive := fun _ => RX) ((compS P G okT c2).run call yld lf s) (fun i => .ok (.exit i, s)) (.ok (.ret, s)) x) p) ((compS P G okT c1).run call yld lf s) = .ok (x, s') := h
  cases hr : (compS P G okT c1).run call yld lf s with
  | bad e => rw [hr] at h'; cases h'
  | ok p =>
   obtain ⟨y, s1⟩ := p
   have h1 := ih1 lf s y s1 hr
   rw [hr] at h'
   cases y with
   | normal =>
    have h2 := ih2 lf s1 x s' (show (compS P G okT c2).run call yld lf s1 = .ok (x, s') from h')
    exact ⟨Nat.le_trans h1.1 h2.1, fun ρ0 N0 w0 hF hG a w ρ I m c0 cs Q hm hQ => wpSIn_seq (h1.2 ρ0 N0 w0 (fun n g1 g2 => hF n g1 (Nat.lt_of_lt_of_le g2 h2.1)) hG a w ρ I m c0 cs _ hm fun a' w' ρ' I' => h2.2 ρ0 N0 w0 hF hG a' w' ρ' I' m c0 cs Q hm hQ)⟩
   | ret =>
    cases h'
    exact ⟨h1.1, fun ρ0 N0 w0 hF hG a w ρ I m c0 cs Q hm hQ => wpSIn_seq (h1.2 ρ0 N0 w0 hF hG a w ρ I m c0 cs _ hm fun a' w' ρ' I' => hQ a' w' ρ' I')⟩
   | exit j =>
    cases h'
    exact ⟨h1.1, fun ρ0 N0 w0 hF hG a w ρ I m c0 cs Q hm hQ => wpSIn_seq (h1.2 ρ0 N0 w0 hF hG a w ρ I m c0 cs _ hm fun a' w' ρ' I' => hQ a' w' ρ' I')⟩
 | cond c c1 c2 ih1 ih2 =>
  intro lf s x s' h
  have h' : (Option.rec (motive := fun _ => RX) (.bad 221) (fun v => VB.rec (motive := fun _ => RX) (fun t => Bool.rec (motive := fun _ => RX) ((compS P G okT c2).run call yld lf s) ((compS P G okT c1).run call yld lf s) t) (.bad 221) (vB v)) ((argF G c).run s.T)) = .ok (x, s') := h
  rw [argF_eq] at h'
  cases hv : aeval G s.T c with
  | none => rw [hv] at h'; cases h'
  | some v =>
   rw [hv] at h'
   have h2 : VB.rec (motive := fun _ => RX) (fun t => Bool.rec (motive := fun _ => RX) ((compS P G okT c2).run call yld lf s) ((compS P G okT c1).run call yld lf s) t) (.bad 221) (vB v) = .ok (x, s') := h'
   cases v with
   | bool t =>
    have hev : ∀ {ρ : Env} {a : Act}, TR ρ s.T a.tmps → Glob G ρ → a.eval c = .bool t := fun {ρ a} hT hG => by
     have h1 := aeval_sound hT hG hv
     generalize a.eval c = vf at h1
     cases h1
     rfl
    cases t with
    | true =>
     obtain ⟨e1, e2⟩ := ih1 lf s x s' h2
     exact ⟨e1, fun ρ0 N0 w0 hF hG a w ρ I m c0 cs Q hm hQ => wpSIn_cond (t := true) (hev I.tr (hG.mono I.wr.ext)) (e2 ρ0 N0 w0 hF hG a w ρ I m c0 cs Q hm hQ)⟩
    | false =>
     obtain ⟨e1, e2⟩ := ih2 lf s x s' h2
     exact ⟨e1, fun ρ0 N0 w0 hF hG a w ρ I m c0 cs Q hm hQ => wpSIn_cond (t := false) (hev I.tr (hG.mono I.wr.ext)) (e2 ρ0 N0 w0 hF hG a w ρ I m c0 cs Q hm hQ)⟩
   | _ => cases h2
 | region id ops draw =>
  intro lf s x s' h
  have h' : (cond (ops.toList.any isRec) (cond draw (⟨fun _ _ _ _ => .bad 283⟩ : CdS) ⟨fun _ _ _ s => St.rec (motive := fun _ => RX) (fun T H N lo D => opsS P G ops.toList T fun T => .ok (.normal, ⟨T, H, N, lo, D⟩)) s⟩) (liftS (comp P G okT (.region id ops draw)))).run call yld lf s = .ok (x, s') := h
  cases ha : ops.toList.any isRec with
  | false => rw [ha] at h'; exact lift _ lf s x s' h'
  | true =>
   rw [ha] at h'
   cases draw with
   | true => cases h'
   | false =>
    have h2 : opsS P G ops.toList s.T (fun T => .ok (.normal, ⟨T, s.H, s.N, s.lo, s.D⟩)) = .ok (x, s') := h'
    have hidx : Idx ops (List.range ops.size) ops.toList := by
     rw [List.range_eq_range']
     have := idx_range ops ops.size 0 (by omega)
     simpa using this
    refine ⟨?_, fun ρ0 N0 w0 hF hG a w ρ I m c0 cs Q hm hQ => ?_⟩
    ·obtain ⟨T', h3, _⟩ := opsS_out h2
     cases h3
     exact Nat.le_refl _
    ·obtain ⟨T', h3, h4⟩ := opsS_sound (ρ0 := ρ0) (N0 := N0) (w0 := w0) (H := s.H) (N := s.N) (lo := s.lo) (D := s.D) (ρ := ρ) (w := w) (hG.mono I.wr.ext) hm m Q ops.toList _ hidx s.T _ h2
     cases h3
     exact wpSIn_region (h4 a I fun a' I' => hQ a' w ρ I')
 | skip => exact fun lf s x s' h => lift .skip lf s x s' h
 | label l => exact fun lf s x s' h => lift (.label l) lf s x s' h
 | exit id => exact fun lf s x s' h => lift (.exit id) lf s x s' h
 | ret => exact fun lf s x s' h => lift .ret lf s x s' h
 | goto l => exact fun lf s x s' h => lift (.goto l) lf s x s' h
 | refuse l => exact fun lf s x s' h => lift (.refuse l) lf s x s' h
 | scope c _ => exact fun lf s x s' h => lift (.scope c) lf s x s' h
 | block id c _ => exact fun lf s x s' h => lift (.block id c) lf s x s' h
 | loop c _ => exact fun lf s x s' h => lift (.loop c) lf s x s' h
 | rangeFunc f ps assign body _ _ => exact fun lf s x s' h => lift (.rangeFunc f ps assign body) lf s x s' h
 where
 opsS_out {r : Ex × St} : ∀ {l : List Oper} {T : PT Value} {k : PT Value → RX}, opsS P G l T k = .ok r → ∃ T', k T' = .ok r ∧ True
 | [], T, k, h => ⟨T, h, trivial⟩
 | o :: l, T, k, h => by
  have h' : (match o.guard with
   | some _ => (.bad 280 : RX)
   | none => cond (isRec o) ((putF (β := Ex × St) o.dst).run T .nilIface fun T => opsS P G l T k) (cond (notSel o)
    (Rs.rec (motive := fun _ => RX) (fun e => .bad e) (fun out => Out.rec (motive := fun _ => RX) (fun u _ _ => (putF (β := Ex × St) o.dst).run T u fun T => opsS P G l T k) (fun _ _ _ _ => .bad 281) out) (flatC P G T 0 o)) (.bad 282))) = .ok r := h
  cases hg : o.guard with
  | some g => rw [hg] at h'; cases h'
  | none =>
   rw [hg] at h'
   cases hr : isRec o with
   | true =>
    rw [hr] at h'
    obtain ⟨T1, h1, _⟩ := put_get (show (putF (β := Ex × St) o.dst).run T .nilIface (fun T => opsS P G l T k) = .ok r from h')
    exact opsS_out h1
   | false =>
    rw [hr] at h'
    cases hn : notSel o with
    | false => rw [hn] at h'; cases h'
    | true =>
     rw [hn] at h'
     cases hf : flatC P G T 0 o with
     | bad e => rw [hf] at h'; cases h'
     | ok out =>
      rw [hf] at h'
      cases out with
      | w u H' N' lo' => cases h'
      | v u d N' =>
       obtain ⟨T1, h1, _⟩ := put_get (show (putF (β := Ex × St) o.dst).run T u (fun T => opsS P G l T k) = .ok r from h')
       exact opsS_out h1
def DNext (P : Program) (g : FuncId) (vs : List Value) (ρ : Env) (N : Nat) (out : Out) (w : World) : Prop :=
 match out with
 | .v _ d N' => Dom ρ N → ∀ (n : Nat) (R : Ending → FrameMode → World → Prop), (∀ v w' ρ', Grew P ρ ρ' N N' d w w' → R (.returned v) .returning w') → CallsDIn (fe none) n P g ⟨vs⟩ .returning w R
 | .w _ H' N' lo => Dom ρ N → ∀ (n : Nat) (R : Ending → FrameMode → World → Prop), (∀ v w' ρ', Wrote P ρ ρ' N N' lo H' w w' → R (.returned v) .returning w') → CallsDIn (fe none) n P g ⟨vs⟩ .returning w R
def GOW (P : Program) (ρ : Env) (N : Nat) (w w' : World) (out : Out) : Prop := match out with
 | .v _ d N' => ∃ ρ2, Grew P ρ ρ2 N N' d w w'
 | .w _ H' N' lo => ∃ ρ2, Wrote P ρ ρ2 N N' lo H' w w'
theorem start_TR' {ρ : Env} {us vs : List Value} {n : Nat} {T : PT Value} (hv : VL ρ us vs) (h : ∀ j y, T.get j = some y → (0 ≤ j ∧ us[j - 0]? = some y) ∨ ((j < 0 ∨ 0 + us.length ≤ j) ∧ (PT.full undef 60 n).get j = some y)) :
  TR ρ T ((⟨vs⟩ : Array Value) ++ Array.replicate (n - (⟨vs⟩ : Array Value).size) undef) := fun j y e => by
 have hlen : (⟨vs⟩ : Array Value).size = us.length := by rw [hv.1]; rfl
 rcases h j y e with ⟨_, g⟩ | ⟨g1, g2⟩
 ·rw [Nat.sub_zero] at g
  obtain ⟨v, h1, h2⟩ := hv.at g
  have hj : j < (⟨vs⟩ : Array Value).size := (List.getElem?_eq_some_iff.1 h1).1
  refine ⟨v, ?_, h2⟩
  rw [Array.getElem?_append_left hj]
  simpa using h1
 ·obtain ⟨rfl, g3⟩ := PT.full_get undef 60 n j y g2
  refine ⟨undef, ?_, undef_VR ρ⟩
  rw [Array.getElem?_append_right (by omega)]
  simp only [Array.getElem?_replicate]
  rw [if_pos (by omega)]
theorem dfnF_ok (hmix : P.follows .mixedOrders = true) (hname : ∀ (f : FuncId) (fn : Func), P.funcs[f]? = some fn → (fn.name == "runtime.NumGoroutine") = false) {mc : Mc} (hc : CallOk P G mc.call) (hy : YldOk P G mc.yld) :
  ∀ f us vs H N out ρ w, (dfnF P G okT f).run mc us H N = .ok out → Sat P ρ H w → Glob G ρ → (∀ n b, H.get n = some b → n < N) → VL ρ us vs → (∃ c, bodyO P f = some c) ∧ DNext P f vs ρ N out w := by
 intro f us vs H N out ρ w h hS hG hN hv
 unfold dfnF at h
 split at h
 ·cases h
 ·rename_i fn hf
  split at h
  ·cases h
  ·rename_i c hb
   have h' : (putArgs us 0 (PT.full undef 60 fn.ntmps) fun T =>
    match (compS P G okT c).run mc.call mc.yld loopFuel ⟨T, H, N, N, []⟩ with
    | .ok (.normal, s) => finD P fn N s
    | .ok (.ret, s) => finD P fn N s
    | .ok (.exit _, _) => .bad 287
    | .bad e => .bad (Nat.add (Nat.mul e 1000) f)) = .ok out := h
   obtain ⟨T, h1, h2⟩ := putArgs_inv _ _ _ _ _ h'
   have hbody : bodyO P f = some c := by unfold bodyO; rw [hf]; exact hb
   refine ⟨⟨c, hbody⟩, ?_⟩
   have hI : Dom ρ N → Inv P ρ N w T H N N [] { tmps := (⟨vs⟩ : Array Value) ++ Array.replicate (fn.ntmps - (⟨vs⟩ : Array Value).size) undef, defers := [] } w ρ := fun hD => ⟨.refl hS hN, start_TR' hv h2, Nat.le_refl _, trivial, hD⟩
   have body : ∃ x s, (compS P G okT c).run mc.call mc.yld loopFuel ⟨T, H, N, N, []⟩ = .ok (x, s) ∧ finD P fn N s = .ok out ∧ (x = .normal ∨ x = .ret) := by
    revert h1
    generalize (compS P G okT c).run mc.call mc.yld loopFuel ⟨T, H, N, N, []⟩ = res
    intro h1
    cases res with
    | bad e => cases h1
    | ok p =>
     obtain ⟨x, s⟩ := p
     cases x with
     | normal => exact ⟨_, s, rfl, h1, .inl rfl⟩
     | ret => exact ⟨_, s, rfl, h1, .inr rfl⟩
     | exit i => cases h1
   obtain ⟨x, s, hrun, hfin, hx⟩ := body
   obtain ⟨hle, hok⟩ := compS_sound hmix hname hc hy c loopFuel _ x s hrun
   have main : Dom ρ N → ∀ (n : Nat) (R : Ending → FrameMode → World → Prop), (∀ a' w' ρ', Inv P ρ N w s.T s.H s.N s.lo s.D a' w' ρ' → a'.defers = [] ∧ ∃ v, (results fn a'.tmps).run P w' = .ok v w' ∧ R (.returned v) .returning w') → CallsDIn (fe none) n P f ⟨vs⟩ .returning w R := fun hD n R hR =>
    callsDIn_of_wpSIn hf hb trivial fun c0 cs hm => hok ρ N w (hD.free _) hG _ w ρ (hI hD) n c0 cs _ hm fun a' w' ρ' I => by
     obtain ⟨e1, v, e2, e3⟩ := hR a' w' ρ' I
     have hc0 : c0 :: cs = ({ c0 with mode := .returning } : Frame) :: cs := by rw [← hm]
     rcases hx with rfl | rfl
     ·exact ⟨e1, .returning, hc0, v, e2, e3⟩
     ·exact ⟨e1, .returning, hc0, v, e2, e3⟩
   unfold finD at hfin
   split at hfin
   ·rename_i hsD
    have nodef : ∀ {a' : Act} {w' : World} {ρ' : Env}, Inv P ρ N w s.T s.H s.N s.lo s.D a' w' ρ' → a'.defers = [] := fun {a' w' ρ'} I => by
     have hd := I.dd
     rw [hsD] at hd
     cases hds : a'.defers with
     | nil => rfl
     | cons d ds => rw [hds] at hd; exact hd.elim
    have ends : Dom ρ N → ∀ a' w' ρ', Inv P ρ N w s.T s.H s.N s.lo s.D a' w' ρ' → ∃ v, (results fn a'.tmps).run P w' = .ok v w' ∧ GOW P ρ N w w' out := fun hD a' w' ρ' I => by
     obtain ⟨us2, v, h3, h4, h5⟩ := results_run I.wr.sat I.tr hfin
     refine ⟨v, h4, ?_⟩
     cases hbl : Nat.ble N s.lo with
     | true =>
      rw [hbl, cond_true] at h3
      obtain ⟨u', d, N2, rfl, hle2, ρ2, hg, _⟩ := packC_sound I.wr hD I.le (Nat.le_of_ble_eq_true hbl) h5 h3
      exact ⟨ρ2, hg⟩
     | false =>
      rw [hbl, cond_false] at h3
      cases h3
      exact ⟨ρ', I.wr⟩
    cases out with
    | v u d N' =>
     exact fun hD n R hR => main hD n R fun a' w' ρ' I => by
      obtain ⟨v, e1, ρ2, e2⟩ := ends hD a' w' ρ' I
      exact ⟨nodef I, v, e1, hR v w' ρ2 e2⟩
    | w u H' N' lo =>
     exact fun hD n R hR => main hD n R fun a' w' ρ' I => by
      obtain ⟨v, e1, ρ2, e2⟩ := ends hD a' w' ρ' I
      exact ⟨nodef I, v, e1, hR v w' ρ2 e2⟩
   ·cases hfin
theorem addK_spec {β : Type} : ∀ (d : List (Nat × AB)) (H : HP) (k : HP → Rs β) (r : β), addK d H k = .ok r → ∃ H', k H' = .ok r ∧ ∀ n b, H'.get n = some b → (n, b) ∈ d ∨ H.get n = some b
 | [], H, k, r, h => ⟨H, h, fun n b h => .inr h⟩
 | p :: d, H, k, r, h => by
  have h' : PT.insK 60 H p.1 (some p.2) (fun H' => addK d H' k) (.bad 203) = .ok r := h
  rcases PT.insK_spec 60 H p.1 (some p.2) with hb | ⟨H', h1, h2⟩
  ·rw [hb] at h'; cases h'
  ·rw [h1] at h'
   obtain ⟨H2, h3, h4⟩ := addK_spec d H' k r h'
   refine ⟨H2, h3, fun n b hn => ?_⟩
   rcases h4 n b hn with g | g
   ·exact .inl (List.mem_cons_of_mem _ g)
   ·rw [h2] at g
    by_cases e : n = p.1
    ·rw [if_pos e] at g; cases g; subst e; exact .inl List.mem_cons_self
    ·rw [if_neg e] at g; exact .inr g
theorem marks_sound (hmix : P.follows .mixedOrders = true) (hname : ∀ (f : FuncId) (fn : Func), P.funcs[f]? = some fn → (fn.name == "runtime.NumGoroutine") = false) {mc : Mc} (hc : CallOk P G mc.call) (hy : YldOk P G mc.yld) {fn : Func} {n : Nat} {R : Ending → World → Prop} {N0 : Nat} {ρ0 : Env} {w0 : World} {T : PT Value} (hG : Glob G ρ0) :
  ∀ (D : List DE) (H : HP) (N lo : Nat) (k : HP → Nat → Nat → Rs Out) (r : Out), marksK (fun g us H N => (dfnF P G okT g).run mc us H N) D H N lo k = .ok r →
  ∃ H' N' lo', k H' N' lo' = .ok r ∧ N ≤ N' ∧ ∀ (tmps : Array Value) (ds : List Deferred) (w : World) (ρ : Env), Free ρ0 N0 N' → Inv P ρ0 N0 w0 T H N lo D { tmps, defers := ds } w ρ → (∀ w' ρ', Inv P ρ0 N0 w0 T H' N' lo' [] { tmps, defers := [] } w' ρ' → LeavesIn (fe none) n P fn tmps R [] .returning w') → LeavesInM (fe none) n P fn tmps R ds .returning w
 | [], H, N, lo, k, r, h => ⟨H, N, lo, h, Nat.le_refl _, fun tmps ds w ρ hF I hQ => by
  cases ds with
  | nil => exact hQ w ρ I
  | cons d ds => exact I.dd.elim⟩
 | .mark b :: D, H, N, lo, k, r, h => by
  have h' : (match H.get b with
   | some .dfr => PT.insK 60 H b none (fun H' => forceN (cond (Nat.ble lo b) lo b) fun lo' => marksK (fun g us H N => (dfnF P G okT g).run mc us H N) D H' N lo' k) (.bad 217)
   | _ => .bad 218) = .ok r := h
  split at h'
  ·rename_i hb
   rcases PT.insK_spec 60 H b none with hbad | ⟨H1, h1, h2⟩
   ·rw [hbad] at h'; cases h'
   ·rw [h1, forceN_eq, min_cond] at h'
    obtain ⟨H', N', lo', h3, hle, h4⟩ := marks_sound hmix hname hc hy (fn := fn) (n := n) (R := R) (N0 := N0) (ρ0 := ρ0) (w0 := w0) (T := T) hG D H1 N (min lo b) k r h'
    refine ⟨H', N', lo', h3, hle, fun tmps ds w ρ hF I hQ => ?_⟩
    cases ds with
    | nil => exact I.dd.elim
    | cons d ds =>
     obtain ⟨⟨x, C, e1, e2⟩, hdd⟩ := I.dd
     obtain ⟨x', C', e3, e4⟩ := I.wr.sat.blk b _ hb
     rw [e2] at e3
     cases e3
     have I' := ((I.lower (Nat.min_le_left lo b)).put (H' := H1) (obj := .deferred none) hb e2 (.inr (Nat.min_le_right lo b)) (fun m c hm => by
      rw [h2] at hm
      by_cases e : m = b
      ·rw [if_pos e] at hm; cases hm
      ·rw [if_neg e] at hm; exact .inr ⟨e, hm⟩))
     refine ⟨(fun h => (by cases h)), .inl ⟨x, _, e1, run_takeDeferred (show w.heap[x]? = some (.deferred (some [])) from e4), ?_⟩⟩
     exact h4 tmps ds _ ρ hF ⟨I'.wr, I'.tr, I'.le, hdd, I'.dom⟩ hQ
  ·cases h'
 | .call g us :: D, H, N, lo, k, r, h => by
  have h' : (match (dfnF P G okT g).run mc us H N with
   | .ok (.v _ d N') => cond (Nat.ble N N') (addK d H fun H' => marksK (fun g us H N => (dfnF P G okT g).run mc us H N) D H' N' lo k) (.bad 219)
   | .ok (.w _ H' N' lo') => cond (Nat.ble N N') (forceN (cond (Nat.ble lo lo') lo lo') fun lo => marksK (fun g us H N => (dfnF P G okT g).run mc us H N) D H' N' lo k) (.bad 219)
   | .bad e => .bad e) = .ok r := h
  cases hr : (dfnF P G okT g).run mc us H N with
  | bad e => rw [hr] at h'; cases h'
  | ok out =>
   rw [hr] at h'
   have ok := fun {vs : List Value} {ρ : Env} {w : World} (hS : Sat P ρ H w) (hg : Glob G ρ) (hN : ∀ n b, H.get n = some b → n < N) (hv : VL ρ us vs) => dfnF_ok hmix hname hc hy g us vs H N out ρ w hr hS hg hN hv
   cases out with
   | v u d N1 =>
    have h2 : cond (Nat.ble N N1) (addK d H fun H' => marksK (fun g us H N => (dfnF P G okT g).run mc us H N) D H' N1 lo k) (.bad 219) = .ok r := h'
    cases hb : Nat.ble N N1 with
    | false => rw [hb] at h2; cases h2
    | true =>
     rw [hb] at h2
     have hle1 := Nat.le_of_ble_eq_true hb
     obtain ⟨H1, h3, hH1⟩ := addK_spec d H _ r h2
     obtain ⟨H', N', lo', h4, hle, h5⟩ := marks_sound hmix hname hc hy (fn := fn) (n := n) (R := R) (N0 := N0) (ρ0 := ρ0) (w0 := w0) (T := T) hG D H1 N1 lo k r h3
     refine ⟨H', N', lo', h4, Nat.le_trans hle1 hle, fun tmps ds w ρ hF I hQ => ?_⟩
     cases ds with
     | nil => exact I.dd.elim
     | cons dd ds =>
      obtain ⟨⟨fv, cap, vs, t1, t2, t3⟩, hdd⟩ := I.dd
      obtain ⟨⟨c, hbody⟩, hn⟩ := ok I.wr.sat (hG.mono I.wr.ext) I.wr.named t3
      refine ⟨(fun h => (by cases h)), .inr ⟨(fun h => (by cases h)), fv, cap, g, ⟨vs⟩, t1, by rw [t2]; exact run_enter hname hbody, fun _ _ => trivial, hn I.dom (n - 1) _ fun v w' ρ' hg => ?_⟩⟩
      have I1 := I.grew (H' := H1) (T' := T) (a' := { tmps, defers := dd :: ds }) hg (I.free hF hle) hle1 hH1 (I.tr.mono hg.ext) rfl
      exact h5 tmps ds w' ρ' hF ⟨I1.wr, I1.tr, I1.le, I1.dd.2, I1.dom⟩ hQ
   | w u H1 N1 lo1 =>
    have h2 : cond (Nat.ble N N1) (forceN (cond (Nat.ble lo lo1) lo lo1) fun lo => marksK (fun g us H N => (dfnF P G okT g).run mc us H N) D H1 N1 lo k) (.bad 219) = .ok r := h'
    cases hb : Nat.ble N N1 with
    | false => rw [hb] at h2; cases h2
    | true =>
     rw [hb, cond_true, forceN_eq, min_cond] at h2
     have hle1 := Nat.le_of_ble_eq_true hb
     obtain ⟨H', N', lo', h4, hle, h5⟩ := marks_sound hmix hname hc hy (fn := fn) (n := n) (R := R) (N0 := N0) (ρ0 := ρ0) (w0 := w0) (T := T) hG D H1 N1 (min lo lo1) k r h2
     refine ⟨H', N', lo', h4, Nat.le_trans hle1 hle, fun tmps ds w ρ hF I hQ => ?_⟩
     cases ds with
     | nil => exact I.dd.elim
     | cons dd ds =>
      obtain ⟨⟨fv, cap, vs, t1, t2, t3⟩, hdd⟩ := I.dd
      obtain ⟨⟨c, hbody⟩, hn⟩ := ok I.wr.sat (hG.mono I.wr.ext) I.wr.named t3
      refine ⟨(fun h => (by cases h)), .inr ⟨(fun h => (by cases h)), fv, cap, g, ⟨vs⟩, t1, by rw [t2]; exact run_enter hname hbody, fun _ _ => trivial, hn I.dom (n - 1) _ fun v w' ρ' hg => ?_⟩⟩
      have I1 := I.wrote (T' := T) (a' := { tmps, defers := dd :: ds }) hg hle1 (I.tr.mono hg.ext) rfl
      exact h5 tmps ds w' ρ' hF ⟨I1.wr, I1.tr, I1.le, I1.dd.2, I1.dom⟩ hQ
end
end Ev
end
section
namespace Ev
open Go Go.RowKit
section
variable {P : Program} {G : Nat}
def NextRun (P : Program) (s : Sem Next) (ρ : Env) (N : Nat) (out : Out) (w : World) : Prop :=
 match out with
 | .v u d N' => N ≤ N' → Dom ρ N → ∀ (ro : Option Nat) (m : Nat) (o : Oper) (a : Act) (K : Act → World → Prop) (Q : Exit → Act → World → Prop),
   (∀ v w' ρ', Grew P ρ ρ' N N' d w w' → VR ρ' u v → K (a.put o.dst v) w') → o.uponIn (fe ro) m P a K Q (s.run P w)
 | .w u H' N' lo => N ≤ N' → Dom ρ N → ∀ (ro : Option Nat) (m : Nat) (o : Oper) (a : Act) (K : Act → World → Prop) (Q : Exit → Act → World → Prop),
   (∀ v w' ρ', Wrote P ρ ρ' N N' lo H' w w' → VR ρ' u v → K (a.put o.dst v) w') → o.uponIn (fe ro) m P a K Q (s.run P w)
theorem ckOut_inv {N : Nat} {r : Rs Out} {out : Out} (h : ckOut N r = .ok out) : r = .ok out ∧ match out with | .v _ _ N' => N ≤ N' | .w _ _ N' _ => N ≤ N' := by
 cases r with
 | bad e => cases h
 | ok o =>
  cases o with
  | v u d N' =>
   have h' : Bool.rec (motive := fun _ => Rs Out) (.bad 219) (.ok (.v u d N')) (Nat.ble N N') = Rs.ok out := h
   cases hb : Nat.ble N N' with
   | false => rw [hb] at h'; cases h'
   | true => rw [hb] at h'; cases h'; exact ⟨rfl, Nat.le_of_ble_eq_true hb⟩
  | w u H N' lo =>
   have h' : Bool.rec (motive := fun _ => Rs Out) (.bad 219) (.ok (.w u H N' lo)) (Nat.ble N N') = Rs.ok out := h
   cases hb : Nat.ble N N' with
   | false => rw [hb] at h'; cases h'
   | true => rw [hb] at h'; cases h'; exact ⟨rfl, Nat.le_of_ble_eq_true hb⟩
theorem NextRun.ok {s : Sem Next} {ρ : Env} {N : Nat} {out : Out} {w : World} {r : Rs Out} (h : ckOut N r = .ok out) (hr : r = .ok out → NextRun P s ρ N out w) : NextOk P s ρ N out w := by
 obtain ⟨h1, h2⟩ := ckOut_inv h
 have h3 := hr h1
 cases out with
 | v u d N' => exact ⟨h2, h3 h2⟩
 | w u H N' lo => exact ⟨h2, h3 h2⟩
def EndOk (P : Program) (ρ : Env) (N : Nat) (w : World) (out : Out) (R : Ending → World → Prop) : Prop :=
 match out with
 | .v u d N' => ∀ v w' ρ', Grew P ρ ρ' N N' d w w' → VR ρ' u v → R (.returned v) w'
 | .w u H' N' lo => ∀ v w' ρ', Wrote P ρ ρ' N N' lo H' w w' → VR ρ' u v → R (.returned v) w'
theorem finC_sound (hmix : P.follows .mixedOrders = true) (hname : ∀ (f : FuncId) (fn : Func), P.funcs[f]? = some fn → (fn.name == "runtime.NumGoroutine") = false) {mc : Mc} (hc : CallOk P G mc.call) (hy : YldOk P G mc.yld) {fn : Func} {n N : Nat} {s : St} {out : Out} (h : finC P G okT mc fn N s = .ok out) {ρ : Env} {w : World} (hG : Glob G ρ) (hD : Dom ρ N) {R : Ending → World → Prop}
  (hR : EndOk P ρ N w out R) :
  ∀ a w' ρ', Inv P ρ N w s.T s.H s.N s.lo s.D a w' ρ' → LeavesInM (fe none) n P fn a.tmps R a.defers .returning w' := by
 intro a w' ρ' I
 unfold finC at h
 obtain ⟨H', N', lo, h1, hle, h2⟩ := marks_sound hmix hname hc hy (fn := fn) (n := n) (R := R) (N0 := N) (ρ0 := ρ) (w0 := w) (T := s.T) hG _ _ _ _ _ _ h
 refine h2 a.tmps a.defers w' ρ' (hD.free _) I fun w2 ρ2 I2 => ?_
 obtain ⟨us, v, h3, h4, h5⟩ := results_run I2.wr.sat I2.tr h1
 refine ⟨v, h4, ?_⟩
 cases hb : Nat.ble N lo with
 | true =>
  rw [hb, cond_true] at h3
  obtain ⟨u', d, N2, rfl, hle, ρ3, hg, hv⟩ := packC_sound I2.wr hD I2.le (Nat.le_of_ble_eq_true hb) h5 h3
  exact hR v w2 ρ3 hg hv
 | false =>
  rw [hb, cond_false] at h3
  cases h3
  exact hR v w2 ρ2 I2.wr h5
theorem start_TR {ρ : Env} {us vs : List Value} {n : Nat} {T : PT Value} (hv : VL ρ us vs) (h : ∀ j y, T.get j = some y → (0 ≤ j ∧ us[j - 0]? = some y) ∨ ((j < 0 ∨ 0 + us.length ≤ j) ∧ (PT.full undef 60 n).get j = some y)) :
  TR ρ T ((⟨vs⟩ : Array Value) ++ Array.replicate (n - (⟨vs⟩ : Array Value).size) undef) := fun j y e => by
 have hlen : (⟨vs⟩ : Array Value).size = us.length := by rw [hv.1]; rfl
 rcases h j y e with ⟨_, g⟩ | ⟨g1, g2⟩
 ·rw [Nat.sub_zero] at g
  obtain ⟨v, h1, h2⟩ := hv.at g
  have hj : j < (⟨vs⟩ : Array Value).size := (List.getElem?_eq_some_iff.1 h1).1
  refine ⟨v, ?_, h2⟩
  rw [Array.getElem?_append_left hj]
  simpa using h1
 ·obtain ⟨rfl, g3⟩ := PT.full_get undef 60 n j y g2
  refine ⟨undef, ?_, undef_VR ρ⟩
  rw [Array.getElem?_append_right (by omega)]
  simp only [Array.getElem?_replicate]
  rw [if_pos (by omega)]
theorem fnF_ok (hmix : P.follows .mixedOrders = true) (hname : ∀ (f : FuncId) (fn : Func), P.funcs[f]? = some fn → (fn.name == "runtime.NumGoroutine") = false) {mc : Mc} (hc : CallOk P G mc.call) (hy : YldOk P G mc.yld) :
  ∀ f us vs H N out ρ w, (fnF P G okT f).run mc us H N = .ok out → Sat P ρ H w → Glob G ρ → (∀ n b, H.get n = some b → n < N) → VL ρ us vs → NextRun P (callFunc f ⟨vs⟩) ρ N out w := by
 intro f us vs H N out ρ w h hS hG hN hv
 unfold fnF at h
 split at h
 ·cases h
 ·rename_i fn hf
  split at h
  ·have := extern_ok (P := P) h hv (ρ := ρ) (w := w)
   cases out with
   | v u d N' => exact fun _ => this.2
   | w u H' N' lo => exact fun _ => this.2
  ·rename_i c hb
   have h' : (putArgs us 0 (PT.full undef 60 fn.ntmps) fun T =>
    match (comp P G okT c).run mc.call mc.yld loopFuel none ⟨T, H, N, N, []⟩ with
    | .ok (.normal, s) => finC P G okT mc fn N s
    | .ok (.ret, s) => finC P G okT mc fn N s
    | .ok (.exit _, _) => .bad 214
    | .bad e => .bad (Nat.add (Nat.mul e 1000) f)) = .ok out := h
   obtain ⟨T, h1, h2⟩ := putArgs_inv _ _ _ _ _ h'
   have hbody : bodyO P f = some c := by unfold bodyO; rw [hf]; exact hb
   have hent := run_enter (args := ⟨vs⟩) (w := w) hname hbody
   have hI : Dom ρ N → Inv P ρ N w T H N N [] { tmps := (⟨vs⟩ : Array Value) ++ Array.replicate (fn.ntmps - (⟨vs⟩ : Array Value).size) undef, defers := [] } w ρ := fun hD => ⟨.refl hS hN, start_TR hv h2, Nat.le_refl _, trivial, hD⟩
   -- how the body ends
   have body : ∃ x s, (comp P G okT c).run mc.call mc.yld loopFuel none ⟨T, H, N, N, []⟩ = .ok (x, s) ∧ finC P G okT mc fn N s = .ok out ∧ (x = .normal ∨ x = .ret) := by
    revert h1
    generalize (comp P G okT c).run mc.call mc.yld loopFuel none ⟨T, H, N, N, []⟩ = res
    intro h1
    cases res with
    | bad e => cases h1
    | ok p =>
     obtain ⟨x, s⟩ := p
     cases x with
     | normal => exact ⟨_, s, rfl, h1, .inl rfl⟩
     | ret => exact ⟨_, s, rfl, h1, .inr rfl⟩
     | exit i => cases h1
   obtain ⟨x, s, hrun, hfin, hx⟩ := body
   obtain ⟨hle, hok⟩ := comp_sound hmix hname hc hy c loopFuel none _ x s hrun
   have main : Dom ρ N → ∀ (ro : Option Nat) (m : Nat) (R : Ending → World → Prop), EndOk P ρ N w out R → CallsIn (fe ro) m P f ⟨vs⟩ w R := fun hD ro m R hR => by
    have hcalls : CallsIn (fe none) m P f ⟨vs⟩ w R := callsIn_of_wp_marks hf hb trivial (hok ρ N w (hD.free _) hG _ w ρ (hI hD) none trivial m _ fun a' w' ρ' I => by
     have := finC_sound (n := m) hmix hname hc hy hfin hG hD hR a' w' ρ' I
     rcases hx with rfl | rfl <;> exact this)
    cases ro with
    | none => exact hcalls
    | some b => exact CallsIn.inRound b hcalls
   cases out with
   | v u d N' =>
    refine fun _ hD ro m o a K Q hK => ?_
    rw [hent]
    exact ⟨(fun h => (by cases h)), main hD ro (m - 1) _ (fun v w' ρ' g hv => hK v w' ρ' g hv)⟩
   | w u H' N' lo =>
    refine fun _ hD ro m o a K Q hK => ?_
    rw [hent]
    exact ⟨(fun h => (by cases h)), main hD ro (m - 1) _ (fun v w' ρ' g hv => hK v w' ρ' g hv)⟩
end
end Ev
end
section
namespace Ev
open Go Go.RowKit
section
variable {P : Program} {G : Nat}
theorem roundEnd_inv {l : Nat} {x : Ex} {s : St} {out : Out} (h : roundEnd l x s = .ok out) : ∃ st pend T ps as bo d H3 st' jump v, s.H.get l = some (.loop st pend T ps as bo d) ∧ (∀ m, H3.get m = if m = l then some (.loop st' jump T ps as bo d) else s.H.get m) ∧ out = .w (.bool v) H3 s.N (min s.lo l) ∧
  ((x = .normal ∧ st' = .ready ∧ jump = none ∧ v = true) ∨ (x = .ret ∧ st' = .done ∧ jump = some .ret ∧ v = false) ∨ ∃ id, x = .exit id ∧ st' = .done ∧ jump = some (.exit id) ∧ v = false) := by
 unfold roundEnd at h
 split at h
 ·rename_i st pend T ps as bo d hl
  rw [forceN_eq, min_cond] at h
  cases x with
  | normal =>
   rcases PT.insK_spec 60 s.H l (some (.loop .ready none T ps as bo d)) with hbad | ⟨H3, h1, h2⟩
   ·simp only [hbad] at h; cases h
   ·simp only [h1] at h; cases h
    exact ⟨_, _, _, _, _, _, _, H3, _, _, _, hl, h2, rfl, .inl ⟨rfl, rfl, rfl, rfl⟩⟩
  | ret =>
   rcases PT.insK_spec 60 s.H l (some (.loop .done (some .ret) T ps as bo d)) with hbad | ⟨H3, h1, h2⟩
   ·simp only [hbad] at h; cases h
   ·simp only [h1] at h; cases h
    exact ⟨_, _, _, _, _, _, _, H3, _, _, _, hl, h2, rfl, .inr (.inl ⟨rfl, rfl, rfl, rfl⟩)⟩
  | exit id =>
   rcases PT.insK_spec 60 s.H l (some (.loop .done (some (.exit id)) T ps as bo d)) with hbad | ⟨H3, h1, h2⟩
   ·simp only [hbad] at h; cases h
   ·simp only [h1] at h; cases h
    exact ⟨_, _, _, _, _, _, _, H3, _, _, _, hl, h2, rfl, .inr (.inr ⟨_, rfl, rfl, rfl, rfl⟩)⟩
 ·cases h
theorem yieldC_inv {mc : Mc} {l : Nat} {us : List Value} {H : HP} {N : Nat} {out : Out} (h : yieldC P G okT mc l us H N = .ok out) :
  ∃ st pend T ps assign body d T1 s1 pend1 Tr1 ps1 as1 bo1 d1 H2 x s2, H.get l = some (.loop st pend T ps assign body d) ∧ us.length = ps.toList.length ∧ (∀ {ρ : Env} {tmps : Array Value} {vs : List Value}, TR ρ T tmps → VL ρ us vs → TR ρ T1 ((ps.toList.zip vs).foldl (fun tmps p => tmps.setIfInBounds p.1 p.2) tmps)) ∧
   (comp P G okT assign).run mc.call mc.yld loopFuel (some l) ⟨T1, H, N, N, []⟩ = .ok (.normal, s1) ∧ s1.H.get l = some (.loop .ready pend1 Tr1 ps1 as1 bo1 d1) ∧ (∀ m, H2.get m = if m = l then some (.loop .busy pend1 Tr1 ps1 as1 bo1 d1) else s1.H.get m) ∧
   (comp P G okT body).run mc.call mc.yld loopFuel (some l) ⟨s1.T, H2, s1.N, min s1.lo l, s1.D⟩ = .ok (x, s2) ∧ roundEnd l x s2 = .ok out := by
 unfold yieldC at h
 split at h
 ·rename_i st pend T ps assign body d hl
  obtain ⟨hlen, T1, h1, h2⟩ := putPs_inv _ _ _ _ _ h
  cases hr : (comp P G okT assign).run mc.call mc.yld loopFuel (some l) ⟨T1, H, N, N, []⟩ with
  | bad e => rw [hr] at h1; cases h1
  | ok p =>
   obtain ⟨x1, s1⟩ := p
   rw [hr] at h1
   have h3 : roundMid P G okT mc l body x1 s1 = .ok out := h1
   unfold roundMid at h3
   cases x1 with
   | ret => cases h3
   | exit i => cases h3
   | normal =>
    simp only at h3
    split at h3
    ·rename_i pend1 Tr1 ps1 as1 bo1 d1 hl1
     rcases PT.insK_spec 60 s1.H l (some (.loop .busy pend1 Tr1 ps1 as1 bo1 d1)) with hbad | ⟨H2, h4, h5⟩
     ·rw [hbad] at h3; cases h3
     ·rw [h4, forceN_eq, min_cond] at h3
      cases hr2 : (comp P G okT body).run mc.call mc.yld loopFuel (some l) ⟨s1.T, H2, s1.N, min s1.lo l, s1.D⟩ with
      | bad e => rw [hr2] at h3; cases h3
      | ok p =>
       obtain ⟨x2, s2⟩ := p
       rw [hr2] at h3
       exact ⟨st, pend, T, ps, assign, body, d, T1, s1, pend1, Tr1, ps1, as1, bo1, d1, H2, x2, s2, hl, hlen, h2, hr, hl1, h5, hr2, h3⟩
    ·cases h3
 ·cases h
theorem yieldC_ok (hmix : P.follows .mixedOrders = true) (hname : ∀ (f : FuncId) (fn : Func), P.funcs[f]? = some fn → (fn.name == "runtime.NumGoroutine") = false) {mc : Mc} (hc : CallOk P G mc.call) (hy : YldOk P G mc.yld) :
  ∀ l b C us vs H N out ρ w, yieldC P G okT mc l us H N = .ok out → Sat P ρ H w → Glob G ρ → (∀ n b, H.get n = some b → n < N) → ρ l = some (b, C) → VL ρ us vs → NextRun P (Instr.yield b ⟨vs⟩) ρ N out w := by
 intro l b C us vs H N out ρ w h hS hG hN hb hv
 obtain ⟨st, pend, T, ps, assign, body, d, T1, s1, pend1, Tr1, ps1, as1, bo1, d1, H2, x, s2, hl, hlen, hT1, hr1, hl1, hH2, hr2, hend⟩ := yieldC_inv h
 obtain ⟨st2, pend2, Tr2, ps2, as2, bo2, d2, H3, st', jump, v, hl2, hH3, rfl, hx⟩ := roundEnd_inv hend
 obtain ⟨hle1, hok1⟩ := comp_sound hmix hname hc hy assign loopFuel (some l) _ .normal s1 hr1
 obtain ⟨hle2, hok2⟩ := comp_sound hmix hname hc hy body loopFuel (some l) _ x s2 hr2
 have hle1' : N ≤ s1.N := hle1
 have hle2' : s1.N ≤ s2.N := hle2
 obtain ⟨b', C', e1, fn, tmps, da, Dd, e2, e3, e4⟩ := hS.blk l _ hl
 rw [hb] at e1
 cases e1
 have hsz : (⟨vs⟩ : Array Value).size = ps.size := by
  have := hv.1
  show vs.length = ps.size
  rw [← this, hlen, Array.length_toList]
 refine fun _ hD ro m o a K Q hK => ?_
 rw [run_yield e2 hsz]
 refine ⟨(fun h => (by cases h)), ?_⟩
 refine roundIn_of_wpIn trivial ?_
 have hI0 : Inv P ρ N w T1 H N N [] { tmps := (ps.zip ⟨vs⟩).foldl (fun tmps (x : Tmp × Value) => tmps.setIfInBounds x.1 x.2) tmps, defers := [] } w ρ := by
  refine ⟨.refl hS hN, ?_, Nat.le_refl _, trivial, hD⟩
  have := hT1 e3 hv
  rw [← Array.foldl_toList, Array.toList_zip]
  exact this
 refine hok1 ρ N w (hD.free _) hG _ w ρ hI0 (some b) ⟨C, hb⟩ (m - 1) _ fun a1 w1 ρ1 I1 => ?_
 have hb1 : ρ1 l = some (b, C) := I1.wr.ext _ _ hb
 obtain ⟨b', C', e1, fn1, tmps1, da1, Dd1, f2, f3, f4⟩ := I1.wr.sat.blk l _ hl1
 rw [hb1] at e1
 cases e1
 refine ⟨_, run_beginRound f2 rfl, ?_⟩
 have I2 : Inv P ρ N w s1.T H2 s1.N (min s1.lo l) s1.D a1 _ ρ1 := (I1.lower (Nat.min_le_left s1.lo l)).put (H' := H2) (obj := .loop { ({ state := .ready, pending := pend1, fn := fn1, tmps := tmps1, params := ps1, assign := as1, body := bo1, defers := da1 } : Loop) with state := .busy }) hl1 hb1 (.inr (Nat.min_le_right s1.lo l)) (fun m c hm => by
  rw [hH2] at hm
  by_cases e : m = l
  ·rw [if_pos e] at hm; cases hm; exact .inl ⟨e, fn1, tmps1, da1, Dd1, rfl, f3, f4⟩
  ·rw [if_neg e] at hm; exact .inr ⟨e, hm⟩)
 refine hok2 ρ N w (hD.free _) hG a1 _ ρ1 I2 (some b) ⟨C, hb⟩ (m - 1) _ fun a2 w3 ρ2 I3 => ?_
 have hb2 : ρ2 l = some (b, C) := I3.wr.ext _ _ hb
 obtain ⟨b', C', e1, fn2, tmps2, da2, Dd2, g2, g3, g4⟩ := I3.wr.sat.blk l _ hl2
 rw [hb2] at e1
 cases e1
 have I4 : Inv P ρ N w s2.T H3 s2.N (min s2.lo l) s2.D a2 _ ρ2 := (I3.lower (Nat.min_le_left s2.lo l)).put (H' := H3) (obj := .loop { ({ state := st2, pending := pend2, fn := fn2, tmps := tmps2, params := ps2, assign := as2, body := bo2, defers := da2 } : Loop) with state := st', pending := jump }) hl2 hb2 (.inr (Nat.min_le_right s2.lo l)) (fun m c hm => by
  rw [hH3] at hm
  by_cases e : m = l
  ·rw [if_pos e] at hm; cases hm; exact .inl ⟨e, fn2, tmps2, da2, Dd2, rfl, g3, g4⟩
  ·rw [if_neg e] at hm; exact .inr ⟨e, hm⟩)
 have hfin := hK (.bool v) _ ρ2 I4.wr (.bool v)
 rcases hx with ⟨rfl, rfl, rfl, rfl⟩ | ⟨rfl, rfl, rfl, rfl⟩ | ⟨id, rfl, rfl, rfl, rfl⟩
 ·exact ⟨_, _, run_endRound none g2, hfin⟩
 ·exact ⟨_, _, run_endRound (some .ret) g2, hfin⟩
 ·exact ⟨_, _, run_endRound (some (.exit id)) g2, hfin⟩
theorem mach_ok (hmix : P.follows .mixedOrders = true) (hname : ∀ (f : FuncId) (fn : Func), P.funcs[f]? = some fn → (fn.name == "runtime.NumGoroutine") = false) : ∀ n, CallOk P G (mach P G okT n).call ∧ YldOk P G (mach P G okT n).yld
 | 0 => ⟨(fun f us vs H N out ρ w h => by cases h), (fun l b C us vs H N out ρ w h => by cases h)⟩
 | n + 1 => by
  obtain ⟨h1, h2⟩ := mach_ok hmix hname n
  exact ⟨fun f us vs H N out ρ w h hS hG hN hv => NextRun.ok (show ckOut N ((fnF P G okT f).run (mach P G okT n) us H N) = .ok out from h) fun hr => fnF_ok hmix hname h1 h2 f us vs H N out ρ w hr hS hG hN hv,
   fun l b C us vs H N out ρ w h hS hG hN hb hv => NextRun.ok (show ckOut N (yieldC P G okT (mach P G okT n) l us H N) = .ok out from h) fun hr => yieldC_ok hmix hname h1 h2 l b C us vs H N out ρ w hr hS hG hN hb hv⟩
noncomputable def yesB (r : Rs Out) : Bool :=
 Rs.rec (motive := fun _ => Bool) (fun _ => false) (fun out => Out.rec (motive := fun _ => Bool) (fun u _ _ => VB.rec (motive := fun _ => Bool) (fun b => b) false (vB u)) (fun _ _ _ _ => false) out) r
noncomputable def tabH (l : List (Nat × AB)) : HP := List.rec (motive := fun _ => HP) .nil (fun p _ ih => PT.insK 60 ih p.1 (some p.2) (fun t => t) .nil) l
theorem tabH_spec : ∀ (l : List (Nat × AB)) (n : Nat) (b : AB), (tabH l).get n = some b → (n, b) ∈ l
 | [], n, b, h => by cases h
 | p :: l, n, b, h => by
  have h' : (PT.insK 60 (tabH l) p.1 (some p.2) (fun t => t) .nil).get n = some b := h
  rcases PT.insK_spec 60 (tabH l) p.1 (some p.2) with hb | ⟨H', h1, h2⟩
  ·rw [hb] at h'; cases h'
  ·rw [h1, h2] at h'
   by_cases e : n = p.1
   ·rw [if_pos e] at h'; cases h'; subst e; exact List.mem_cons_self
   ·rw [if_neg e] at h'; exact List.mem_cons_of_mem _ (tabH_spec l n b h')
def globE (G : Nat) : Env := fun n => if n < G then some (n, 0) else none
def Laid (w : World) (p : Nat × AB) : Prop := match p.2 with
 | .cells false e l => w.heap[p.1]? = some (.cells ⟨l⟩ e (0, 0)) ∧ l.all (flat 5) = true
 | _ => False
theorem sat_tab {l : List (Nat × AB)} {w : World} (hG : G ≤ w.heap.size) (hl : ∀ p ∈ l, p.1 < G ∧ Laid w p) : Sat P (globE G) (tabH l) w := by
 have at' : ∀ n, n < G → globE G n = some (n, 0) := fun n h => if_pos h
 refine ⟨fun n b h => ?_, fun n m b c a C D h1 h2 e1 e2 => ?_, fun n a C h => ?_⟩
 ·obtain ⟨h1, h2⟩ := hl _ (tabH_spec l n b h)
  refine ⟨n, 0, at' n h1, ?_⟩
  cases b with
  | cells g e cs =>
   cases g with
   | true => exact h2.elim
   | false =>
    obtain ⟨h3, h4⟩ := h2
    exact ⟨cs, h3, by rw [List.take_length]; exact VL.same h4 _, fun _ => rfl, fun h => (by cases h)⟩
  | _ => exact h2.elim
 ·obtain ⟨k1, _⟩ := hl _ (tabH_spec l n b h1)
  obtain ⟨k2, _⟩ := hl _ (tabH_spec l m c h2)
  simp only at k1 k2
  rw [at' n k1] at e1
  rw [at' m k2] at e2
  cases e1
  cases e2
  rfl
 ·unfold globE at h
  by_cases hn : n < G
  ·rw [if_pos hn] at h; cases h; omega
  ·rw [if_neg hn] at h; cases h
theorem reckoned (hmix : P.follows .mixedOrders = true) (hname : ∀ (f : FuncId) (fn : Func), P.funcs[f]? = some fn → (fn.name == "runtime.NumGoroutine") = false) {l : List (Nat × AB)} {w : World} (hG : G ≤ w.heap.size) (hl : ∀ p ∈ l, p.1 < G ∧ Laid w p)
  {f : FuncId} (hent : (bodyO P f).isSome = true) (n : Nat) (h : yesB ((mach P G okT n).call f [] (tabH l) G) = true) (m : Nat) : CallsIn Fence.wide m P f #[] w fun e w' => e = .returned (.bool true) ∧ Below w.heap.size w w' := by
 have hglob : Glob G (globE G) := fun g hg => ⟨0, if_pos hg⟩
 have hdom : Dom (globE G) G := fun n hn => if_neg (by omega)
 obtain ⟨c, hc⟩ := Option.isSome_iff_exists.1 hent
 cases hr : (mach P G okT n).call f [] (tabH l) G with
 | bad e => rw [hr] at h; cases h
 | ok out =>
  rw [hr] at h
  have hok := (mach_ok (G := G) hmix hname n).1 f [] [] (tabH l) G out (globE G) w hr (sat_tab hG hl) hglob (fun n b hb => (hl _ (tabH_spec l n b hb)).1) (.nil _)
  refine hok.calls (run_enter hname hc) none m ?_
  cases out with
  | w u H N lo => cases h
  | v u d N' =>
   refine ⟨hdom, fun v w' ρ' hg hv => ⟨?_, hg.bel⟩⟩
   have hu : u = .bool true := by
    have h' : VB.rec (motive := fun _ => Bool) (fun b => b) false (vB u) = true := h
    cases u with
    | bool b =>
     have h2 : b = true := h'
     rw [h2]
    | _ => cases h'
   subst hu
   cases hv
   rfl
end
end Ev
end
section
namespace Ev
open Go Go.RowKit
theorem row_of_head {P : Program} {W : World} {name : String} {k : IntKind} (zs : List Int) {rest : List (String × DataW Unit)} {g : Nat} {t e : TypeId} {n : Nat}
  (hg : P.globalNamed name = some g) (hty : (P.globals[g]?).map (·.type) = some t) (ht : P.underlying t = some (.array n e)) (he : P.underlying e = some (.int k)) (hce : P.cellsOf e = 1) (hct : P.cellsOf t = n) (hz : 0 < zs.length)
  (h : laidMet P ((name, Lib.tabData k zs) :: rest) W) : ∃ e', W.heap[g]? = some (.cells ⟨zs.map fun z => Value.int k z⟩ e' (0, 0)) := by
 have hT := Lib.tabIs_of_head hg hty ht he hce hct h
 obtain ⟨ps, ⟨g', t', cs, fuel, p, q, hg', ht', hvar, hd, hq, rfl⟩, hnd, hps⟩ := h
 obtain rfl := Option.some.inj (hg.symm.trans hg')
 unfold Lib.TabIs at hT
 rw [hT] at hvar
 have hcs := Option.some.inj hvar
 have hsz : 0 < cs.size := by rw [← hcs]; simpa using hz
 obtain ⟨⟨c, t2, h1⟩, _⟩ := hps g 0 (List.mem_append_left _ (List.mem_append_left _ (List.mem_map.2 ⟨0, List.mem_range.2 hsz, rfl⟩)))
 refine ⟨t2, ?_⟩
 unfold World.var? at hT
 rw [hg] at hT
 simp only [Option.bind_some, h1] at hT
 rw [h1, Option.some.inj hT]
theorem size_of {w : World} {g : Nat} {o : Obj} (h : w.heap[g]? = some o) : g + 1 ≤ w.heap.size := by
 rcases Nat.lt_or_ge g w.heap.size with h1 | h1
 ·exact h1
 ·rw [Array.getElem?_eq_none h1] at h; cases h
theorem names_of {P : Program} (h : (P.funcs.toList.all fun fn => !(fn.name == "runtime.NumGoroutine")) = true) (f : FuncId) (fn : Func) (hf : P.funcs[f]? = some fn) : (fn.name == "runtime.NumGoroutine") = false := by
 have := List.all_eq_true.1 h fn (List.mem_of_getElem? (by rw [Array.getElem?_toList]; exact hf))
 simpa using this
section
variable {P : Program} {G : Nat}
theorem reckoned_args (hmix : P.follows .mixedOrders = true) (hname : ∀ (f : FuncId) (fn : Func), P.funcs[f]? = some fn → (fn.name == "runtime.NumGoroutine") = false) {l : List (Nat × AB)} {w : World} (hG : G ≤ w.heap.size) (hl : ∀ p ∈ l, p.1 < G ∧ Laid w p)
  {f : FuncId} {us : List Value} (hus : us.all (flat 5) = true) (hent : (bodyO P f).isSome = true) (n : Nat) (h : yesB ((mach P G okT n).call f us (tabH l) G) = true) (m : Nat) : CallsIn Fence.wide m P f ⟨us⟩ w fun e w' => e = .returned (.bool true) ∧ Below w.heap.size w w' := by
 have hglob : Glob G (globE G) := fun g hg => ⟨0, if_pos hg⟩
 have hdom : Dom (globE G) G := fun n hn => if_neg (by omega)
 obtain ⟨c, hc⟩ := Option.isSome_iff_exists.1 hent
 cases hr : (mach P G okT n).call f us (tabH l) G with
 | bad e => rw [hr] at h; cases h
 | ok out =>
  rw [hr] at h
  have hok := (mach_ok (G := G) hmix hname n).1 f us us (tabH l) G out (globE G) w hr (sat_tab hG hl) hglob (fun n b hb => (hl _ (tabH_spec l n b hb)).1) (VL.same hus _)
  refine hok.calls (run_enter hname hc) none m ?_
  cases out with
  | w u H N lo => cases h
  | v u d N' =>
   refine ⟨hdom, fun v w' ρ' hg hv => ⟨?_, hg.bel⟩⟩
   have hu : u = .bool true := by
    have h' : VB.rec (motive := fun _ => Bool) (fun b => b) false (vB u) = true := h
    cases u with
    | bool b =>
     have h2 : b = true := h'
     rw [h2]
    | _ => cases h'
   subst hu
   cases hv
   rfl
end
end Ev
end
section
def Pr (p : Nat) : Prop := 2 ≤ p ∧ ∀ e, e ∣ p → e = 1 ∨ e = p
theorem Pr.two {p : Nat} (h : Pr p) : 2 ≤ p := h.1
theorem Pr.pos {p : Nat} (h : Pr p) : 0 < p := by have := h.1; omega
theorem Pr.gcd {p : Nat} (h : Pr p) {a : Nat} (ha : ¬ p ∣ a) : Nat.gcd p a = 1 := by
 rcases h.2 _ (Nat.gcd_dvd_left p a) with e | e
 ·exact e
 ·exact absurd (e ▸ Nat.gcd_dvd_right p a) ha
theorem Pr.dvd_mul {p : Nat} (h : Pr p) {a b : Nat} (hab : p ∣ a * b) : p ∣ a ∨ p ∣ b := by
 by_cases ha : p ∣ a
 ·exact Or.inl ha
 ·exact Or.inr (Nat.Coprime.dvd_of_dvd_mul_left (h.gcd ha) hab)
theorem Pr.dvd_pow {p : Nat} (h : Pr p) {a : Nat} : ∀ {k : Nat}, p ∣ a ^ k → p ∣ a
 | 0, hk => by
  have := Nat.le_of_dvd (by omega) (by simpa using hk : p ∣ 1)
  have := h.1
  omega
 | k + 1, hk => by
  rw [Nat.pow_succ] at hk
  rcases h.dvd_mul hk with h1 | h1
  ·exact h.dvd_pow h1
  ·exact h1
theorem Pr.not_dvd_one {p : Nat} (h : Pr p) : ¬ p ∣ 1 := fun hd => by
 have := Nat.le_of_dvd (by omega) hd
 have := h.1
 omega
theorem Pr.not_dvd_lt {p a : Nat} (_h : Pr p) (ha : 0 < a) (hlt : a < p) : ¬ p ∣ a := fun hd => by
 have := Nat.le_of_dvd ha hd
 omega
theorem exists_pr : ∀ (n : Nat), 2 ≤ n → ∃ p, Pr p ∧ p ∣ n := by
 intro n
 induction n using Nat.strongRecOn with
 | _ n ih =>
  intro h
  by_cases hp : Pr n
  ·exact ⟨n, hp, Nat.dvd_refl n⟩
  ·have hx : ∃ e, e ∣ n ∧ e ≠ 1 ∧ e ≠ n := by
    refine Classical.byContradiction fun hn => hp ⟨h, fun e he => ?_⟩
    by_cases h1 : e = 1
    ·exact Or.inl h1
    ·by_cases h2 : e = n
     ·exact Or.inr h2
     ·exact absurd ⟨e, he, h1, h2⟩ hn
   obtain ⟨e, he, h1, h2⟩ := hx
   have hle := Nat.le_of_dvd (by omega) he
   have h0 : e ≠ 0 := fun h0 => by subst h0; have := Nat.eq_zero_of_zero_dvd he; omega
   obtain ⟨p, hp1, hp2⟩ := ih e (by omega) (by omega)
   exact ⟨p, hp1, Nat.dvd_trans hp2 he⟩
theorem exists_greatest (n : Nat) (h : 2 ≤ n) : ∃ q, Pr q ∧ q ∣ n ∧ ∀ p, Pr p → p ∣ n → p ≤ q := by
 have key : ∀ k, k ≤ n → (∀ p, Pr p → p ∣ n → p ≤ k) → ∃ q, Pr q ∧ q ∣ n ∧ ∀ p, Pr p → p ∣ n → p ≤ q := by
  intro k
  induction k with
  | zero =>
   intro _ hk
   obtain ⟨p, hp, hd⟩ := exists_pr n h
   have := hk p hp hd
   have := hp.1
   omega
  | succ k ih =>
   intro hkn hk
   by_cases hq : Pr (k + 1) ∧ (k + 1) ∣ n
   ·exact ⟨k + 1, hq.1, hq.2, hk⟩
   ·refine ih (by omega) fun p hp hd => ?_
    have h1 := hk p hp hd
    rcases Nat.lt_or_ge p (k + 1) with h2 | h2
    ·omega
    ·obtain rfl : p = k + 1 := by omega
     exact absurd ⟨hp, hd⟩ hq
 exact key n (Nat.le_refl _) fun p _ hd => Nat.le_of_dvd (by omega) hd
/-! Fermat's little theorem -/
def ch : Nat → Nat → Nat
 | _, 0 => 1
 | 0, _ + 1 => 0
 | n + 1, k + 1 => ch n k + ch n (k + 1)
theorem ch_zero (n : Nat) : ch n 0 = 1 := by cases n <;> rfl
theorem ch_over : ∀ (n k : Nat), n < k → ch n k = 0
 | 0, 0, h => by omega
 | 0, k + 1, _ => rfl
 | n + 1, 0, h => by omega
 | n + 1, k + 1, h => by rw [ch, ch_over n k (by omega), ch_over n (k + 1) (by omega)]
theorem ch_self : ∀ n, ch n n = 1
 | 0 => rfl
 | n + 1 => by rw [ch, ch_self n, ch_over n (n + 1) (by omega)]
theorem ch_one : ∀ n, ch n 1 = n
 | 0 => rfl
 | n + 1 => by rw [ch, ch_one n, ch_zero]; omega
theorem ch_mul : ∀ (n k : Nat), (n + 1) * ch n k = ch (n + 1) (k + 1) * (k + 1)
 | 0, 0 => rfl
 | 0, k + 1 => by simp [ch]
 | n + 1, 0 => by rw [ch_zero, ch_one]
 | n + 1, k + 1 => by
  have h1 := ch_mul n k
  have h2 := ch_mul n (k + 1)
  have e1 : ch (n + 1) (k + 1) = ch n k + ch n (k + 1) := rfl
  have e2 : ch (n + 2) (k + 2) = ch (n + 1) (k + 1) + ch (n + 1) (k + 2) := rfl
  show (n + 2) * ch (n + 1) (k + 1) = ch (n + 2) (k + 2) * (k + 2)
  have h3 : (n + 1) * ch n k + (n + 1) * ch n (k + 1) = (n + 1) * ch (n + 1) (k + 1) := by rw [e1, Nat.mul_add]
  have h4 : ch (n + 1) (k + 1) * (k + 2) = ch (n + 1) (k + 1) * (k + 1) + ch (n + 1) (k + 1) := Nat.mul_succ _ _
  have h5 : (n + 2) * ch (n + 1) (k + 1) = (n + 1) * ch (n + 1) (k + 1) + ch (n + 1) (k + 1) := Nat.succ_mul _ _
  have h6 : (n + 1) * ch n (k + 1) = ch (n + 1) (k + 2) * (k + 2) := h2
  have h7 : ch (n + 2) (k + 2) * (k + 2) = ch (n + 1) (k + 1) * (k + 2) + ch (n + 1) (k + 2) * (k + 2) := by rw [e2, Nat.add_mul]
  omega
theorem Pr.dvd_ch {p k : Nat} (h : Pr p) (h0 : 0 < k) (hk : k < p) : p ∣ ch p k := by
 obtain ⟨n, rfl⟩ : ∃ n, p = n + 1 := ⟨p - 1, by have := h.1; omega⟩
 obtain ⟨j, rfl⟩ : ∃ j, k = j + 1 := ⟨k - 1, by omega⟩
 have hm := ch_mul n j
 rcases h.dvd_mul (show (n + 1) ∣ ch (n + 1) (j + 1) * (j + 1) from hm ▸ Nat.dvd_mul_right _ _) with h1 | h1
 ·exact h1
 ·exact absurd h1 (h.not_dvd_lt (by omega) hk)
def bs (a n : Nat) : Nat → Nat
 | 0 => 1
 | k + 1 => bs a n k + ch n (k + 1) * a ^ (k + 1)
theorem bs_succ (a n : Nat) : ∀ k, bs a (n + 1) (k + 1) = bs a n (k + 1) + a * bs a n k
 | 0 => by simp [bs, ch, ch_zero, Nat.add_mul]; omega
 | k + 1 => by
  rw [bs, bs_succ a n k, bs]
  rw [show bs a n (k + 1 + 1) = bs a n k + ch n (k + 1) * a ^ (k + 1) + ch n (k + 1 + 1) * a ^ (k + 1 + 1) from rfl, show ch (n + 1) (k + 1 + 1) = ch n (k + 1) + ch n (k + 1 + 1) from rfl, Nat.add_mul, Nat.mul_add, show a * (ch n (k + 1) * a ^ (k + 1)) = ch n (k + 1) * a ^ (k + 1 + 1) from by rw [Nat.pow_succ a (k + 1)]; ac_rfl]
  omega
theorem bs_all (a : Nat) : ∀ n, (a + 1) ^ n = bs a n n
 | 0 => rfl
 | n + 1 => by
  rw [bs_succ, bs, ch_over n (n + 1) (by omega), Nat.zero_mul, Nat.add_zero, ← bs_all a n, Nat.pow_succ, Nat.mul_add, Nat.mul_one, Nat.mul_comm]
  omega
theorem Pr.bs_mod {p : Nat} (h : Pr p) (a : Nat) : ∀ k, k < p → bs a p k % p = 1
 | 0, _ => Nat.mod_eq_of_lt h.1
 | k + 1, hk => by
  obtain ⟨c, hc⟩ := h.dvd_ch (show 0 < k + 1 by omega) hk
  rw [bs, hc, Nat.mul_assoc, Nat.add_mul_mod_self_left, h.bs_mod a k (by omega)]
theorem Pr.fermat' {p : Nat} (h : Pr p) : ∀ a : Nat, a ^ p % p = a % p
 | 0 => by
  have := h.1
  rw [Nat.zero_pow (by omega)]
 | a + 1 => by
  have h2 := h.1
  obtain ⟨n, hn⟩ : ∃ n, p = n + 1 := ⟨p - 1, by omega⟩
  have e : bs a p p = bs a p n + a ^ p := by
   have : bs a p (n + 1) = bs a p n + ch p (n + 1) * a ^ (n + 1) := rfl
   rw [← hn, ch_self, Nat.one_mul] at this
   exact this
  rw [bs_all, e, Nat.add_mod, h.bs_mod a n (by omega), h.fermat' a, ← Nat.add_mod_mod 1 (a % p) p, Nat.mod_mod, Nat.add_mod_mod, Nat.add_comm]
theorem Pr.fermat {p a : Nat} (h : Pr p) (ha : ¬ p ∣ a) : a ^ (p - 1) % p = 1 := by
 have h2 := h.1
 have hf := h.fermat' a
 have ha0 : 0 < a := Nat.pos_of_ne_zero fun h0 => ha (h0 ▸ Nat.dvd_zero p)
 have hpos : 0 < a ^ (p - 1) := Nat.pow_pos ha0
 have e : a ^ p = a * a ^ (p - 1) := by
  obtain ⟨n, rfl⟩ : ∃ n, p = n + 1 := ⟨p - 1, by omega⟩
  rw [Nat.add_sub_cancel, Nat.pow_succ, Nat.mul_comm]
 have hd : p ∣ a * (a ^ (p - 1) - 1) := by
  rw [Nat.mul_sub, ← e, Nat.mul_one]
  exact (Nat.dvd_of_mod_eq_zero (Nat.sub_mod_eq_zero_of_mod_eq hf))
 rcases h.dvd_mul hd with h1 | h1
 ·exact absurd h1 ha
 ·obtain ⟨c, hc⟩ := h1
  have : a ^ (p - 1) = 1 + p * c := by omega
  rw [this, Nat.add_mul_mod_self_left, Nat.mod_eq_of_lt h2]
end
end Go.Proofs.YtcjgilagldbjnaaGreatDoor
