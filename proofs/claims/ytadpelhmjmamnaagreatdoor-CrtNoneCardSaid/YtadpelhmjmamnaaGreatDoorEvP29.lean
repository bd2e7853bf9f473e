/- The reckoner: code. No conditions. -/
import Derived.Test.YtadpelhmjmamnaaGreatDoorEvP28
import Derived.Scope
namespace Go.Proofs.YtadpelhmjmamnaaGreatDoor.Ev
open Go Go.RowKit

section
variable {F : Fence} {n : Nat} {P : Program} {b : Frame} {a : Act} {k : List Item} {cs : List Frame} {w : World} {Q : Exit → Act → World → Prop}
theorem stepR_scope {c : Code} : step P (lone (b.atR a (.code (.scope c) :: k)) cs w) = .next (lone (b.atR a (.code c :: .inScope c :: k)) cs w) :=
  step_lone_go (by simp [stepG, stepG.exec, Frame.atR])
theorem stepR_inScope {c : Code} : step P (lone (b.atR a (.inScope c :: k)) cs w) = .next (lone (b.atR a k) cs w) :=
  step_lone_go (by simp [stepG, stepG.exec, Frame.atR])
/-- A scope through which the run goes without a goto. -/
theorem wpIn_scope_straight {c : Code} (h : c.wpIn F n P (Exit.noGoto Q) a w) : (Code.scope c).wpIn F n P Q a w := by
  intro b k cs hro hb hr
  have h0 : (lone (b.atR a (.code (.scope c) :: k)) cs w).fenced P F := fenced_calm hb hr rfl
  obtain ⟨e, a₁, w₁, hq, harr⟩ := h b (.inScope c :: k) cs hro hb hr
  cases e with
  | normal => exact ⟨.normal, a₁, w₁, hq, .head h0 stepR_scope (StepsIn.trans harr (.one (fenced_calm hb hr rfl) stepR_inScope))⟩
  | exit id => exact ⟨.exit id, a₁, w₁, hq, fun k' hk => .head h0 stepR_scope (harr.1 k' (by simp [exitTo, hk])), fun hr' hk => by
      obtain ⟨k₁, h1, h2⟩ := harr.2 hr' (by simp [exitTo, hk])
      exact ⟨k₁, h1, .head h0 stepR_scope h2⟩⟩
  | goto l => exact hq.elim
  | ret => exact ⟨.ret, a₁, w₁, hq, .of_steps (e := .ret) (.one h0 stepR_scope) harr⟩
  | panic ch => exact ⟨.panic ch, a₁, w₁, hq, .of_steps (e := .panic ch) (.one h0 stepR_scope) harr⟩
  | outgrown => exact ⟨.outgrown, a₁, w₁, hq, .of_steps (e := .outgrown) (.one h0 stepR_scope) harr⟩
end

section
variable {P : Program} {G : Nat} {call : CallT} {yld : YldT}
/-- What it means that code is reckoned rightly. -/
def CodeOk (P : Program) (G : Nat) (c : Code) (rd : Option Nat) (s : St) (x : Ex) (s' : St) : Prop :=
  s.N ≤ s'.N ∧ ∀ ρ0 N0 w0, Free ρ0 N0 s'.N → Glob G ρ0 → ∀ a w ρ, Inv P ρ0 N0 w0 s.T s.H s.N s.lo s.D a w ρ → ∀ ro, RO ρ0 rd ro → ∀ m Q, (∀ a' w' ρ', Inv P ρ0 N0 w0 s'.T s'.H s'.N s'.lo s'.D a' w' ρ' → Q (exO x) a' w') → c.wpIn (fe ro) m P Q a w
theorem CodeOk.seq {c1 c2 : Code} {rd : Option Nat} {s s1 s' : St} {x : Ex} (h1 : CodeOk P G c1 rd s .normal s1) (h2 : CodeOk P G c2 rd s1 x s') : CodeOk P G (.seq c1 c2) rd s x s' :=
  ⟨Nat.le_trans h1.1 h2.1, fun ρ0 N0 w0 hF hG a w ρ I ro hro m Q hQ => wpIn_seq (h1.2 ρ0 N0 w0 (fun n e1 e2 => hF n e1 (Nat.lt_of_lt_of_le e2 h2.1)) hG a w ρ I ro hro m _ fun a' w' ρ' I' =>
    h2.2 ρ0 N0 w0 hF hG a' w' ρ' I' ro hro m Q hQ)⟩
/-- **Code.** -/
theorem lastD_inv {ops : Array Oper} {init : List Oper} {o : Oper} {f : Operand} (h : lastD ops = some (init, o, f)) : ops.toList = init ++ [o] ∧ o.guard = none ∧ ∃ ts, o.op = .defer { callee := .value f, args := ⟨[]⟩, argTypes := ts } := by
  unfold lastD at h
  split at h
  · rename_i o' r hr
    split at h
    · rename_i f' ts hg ho
      cases h
      refine ⟨?_, hg, ts, ho⟩
      have := congrArg List.reverse hr
      simpa using this
    · cases h
  · cases h
theorem regF_sound (hc : CallOk P G call) (hy : YldOk P G yld) {ops : Array Oper} {lf : Nat} {rd : Option Nat} {s : St} {x : Ex} {s' : St} (h : (regF P G ops).run call yld lf rd s = .ok (x, s')) :
    x = .normal ∧ s.N ≤ s'.N ∧ ∀ ρ0 N0 w0, Free ρ0 N0 s'.N → Glob G ρ0 → ∀ a w ρ, Inv P ρ0 N0 w0 s.T s.H s.N s.lo s.D a w ρ → ∀ ro, RO ρ0 rd ro → ∀ m Q, (∀ a' w' ρ', Inv P ρ0 N0 w0 s'.T s'.H s'.N s'.lo s'.D a' w' ρ' → Q .normal a' w') → wpOpsIn (fe ro) m P ops Q (List.range' 0 ops.size) a w := by
  unfold regF at h
  split at h
  · rename_i init o f hl
    obtain ⟨hops, hgd, ts, hop⟩ := lastD_inv hl
    unfold deferF at h
    have hsz : ops.size = init.length + 1 := by
      have := congrArg List.length hops
      simpa using this
    have hidx : Idx ops (List.range' 0 init.length) init := by
      have h1 : ∀ (l : List Oper) (k : Nat), (∀ i, i < l.length → ops[k + i]? = l[i]?) → Idx ops (List.range' k l.length) l := by
        intro l
        induction l with
        | nil => intro k _; exact trivial
        | cons q l ih =>
          intro k hk
          rw [List.length_cons, List.range'_succ]
          refine ⟨by simpa using hk 0 (by simp), ih (k + 1) fun i hi => ?_⟩
          have := hk (i + 1) (by simp; omega)
          rw [List.getElem?_cons_succ] at this
          rw [← this]
          congr 1
          omega
      refine h1 init 0 fun i hi => ?_
      rw [Nat.zero_add, ← Array.getElem?_toList, hops, List.getElem?_append_left hi]
    have hlast : ops[init.length]? = some o := by
      rw [← Array.getElem?_toList, hops, List.getElem?_append_right (Nat.le_refl _), Nat.sub_self]; rfl
    cases rd with
    | some b => cases h
    | none =>
      have h' : Rs.rec (motive := fun _ => RX) (fun e => .bad e) (fun p => Prod.rec (motive := fun _ => RX) (fun _ s1 => St.rec (motive := fun _ => RX) (fun T H N lo D =>
        Option.rec (motive := fun _ => RX) (.bad 272) (fun u => VF.rec (motive := fun _ => RX) (fun h a b => (putF (β := Ex × St) o.dst).run T undef fun T' => appK a b fun us => .ok (.normal, ⟨T', H, N, lo, .call h us :: D⟩)) (fun _ => .bad 273) (.bad 274) (vF u)) ((argF G f).run T)) s1) p) ((opsF P G ops init).run call yld s.T s.H s.N s.lo s.D) = .ok (x, s') := h
      cases hr : (opsF P G ops init).run call yld s.T s.H s.N s.lo s.D with
      | bad e => rw [hr] at h'; cases h'
      | ok p =>
        obtain ⟨x1, T1, H1, N1, lo1, D1⟩ := p
        rw [hr] at h'
        have h2 : Option.rec (motive := fun _ => RX) (.bad 272) (fun u => VF.rec (motive := fun _ => RX) (fun h a b => (putF (β := Ex × St) o.dst).run T1 undef fun T' => appK a b fun us => .ok (.normal, ⟨T', H1, N1, lo1, .call h us :: D1⟩)) (fun _ => .bad 273) (.bad 274) (vF u)) ((argF G f).run T1) = .ok (x, s') := h'
        rw [argF_eq] at h2
        cases hf : aeval G T1 f with
        | none => rw [hf] at h2; cases h2
        | some u =>
          rw [hf] at h2
          have h3 : VF.rec (motive := fun _ => RX) (fun h a b => (putF (β := Ex × St) o.dst).run T1 undef fun T' => appK a b fun us => .ok (.normal, ⟨T', H1, N1, lo1, .call h us :: D1⟩)) (fun _ => .bad 273) (.bad 274) (vF u) = .ok (x, s') := h2
          cases u with
          | func fn first captured =>
            obtain ⟨first⟩ := first
            obtain ⟨captured⟩ := captured
            cases fn with
            | func g =>
              have h4 : (putF (β := Ex × St) o.dst).run T1 undef (fun T' => appK first captured fun us => .ok (.normal, ⟨T', H1, N1, lo1, .call g us :: D1⟩)) = .ok (x, s') := h3
              obtain ⟨T2, h5, h6⟩ := put_get h4
              rw [appK_eq] at h5
              cases h5
              obtain ⟨_, e2, e3⟩ := opsF_on hc hy init (List.range' 0 init.length) hidx s.T s.H s.N s.lo s.D x1 _ hr
              refine ⟨rfl, e2, fun ρ0 N0 w0 hF hG a w ρ I ro hro m Q hQ => ?_⟩
              cases ro with
              | some b => exact hro.elim
              | none =>
              have hrange : List.range' 0 ops.size = List.range' 0 init.length ++ [init.length] := by
                rw [hsz, List.range'_concat]
                simp
              rw [hrange]
              refine e3 ρ0 N0 w0 hF hG a w ρ I none m Q [init.length] fun a1 w1 ρ1 I1 => ?_
              have hv := aeval_sound I1.tr (hG.mono I1.wr.ext) hf
              generalize hvf : a1.eval f = vf at hv
              cases hv with
              | @func _ us0 vs0 xs0 ys0 k1 k2 k3 k4 =>
              rw [wpOpsIn_cons]
              unfold wpOpIn
              rw [hlast]
              have hw : Region.wanted o (yielded ops a1.tmps) = true := by simp [Region.wanted, hgd]
              simp only [hw, if_true]
              have hrun : (execOp a1.eval o).run P w1 = .ok (.defer { target := .fn (.func g) ⟨ys0⟩, args := ⟨vs0⟩ }) w1 := by
                unfold execOp
                rw [hop]
                have e : (⟨vs0⟩ : Array Value) ++ (⟨[]⟩ : Array Operand).map a1.eval = ⟨vs0⟩ := Array.ext' (by simp)
                simp only [resolve, hvf, Deferred.ofValue, Sem.run_bind, Sem.run_pure, Result.andThen_ok, e]
              refine ⟨fun _ _ => trivial, ?_⟩
              show o.uponIn (fe none) m P a1 _ Q ((o.semAt none a1.eval).run P w1)
              rw [Oper.semAt_none, hrun, Oper.uponIn_defer]
              refine hQ _ w1 ρ1 ⟨I1.wr, h6 (ds := { target := .fn (.func g) ⟨ys0⟩, args := ⟨vs0⟩ } :: a1.defers) I1.tr (undef_VR ρ1), I1.le, ?_, I1.dom⟩
              rw [put_defers]
              refine ⟨⟨.func g, ⟨ys0⟩, vs0 ++ ys0, rfl, ?_, VL.append ⟨k1, k2⟩ ⟨k3, k4⟩⟩, I1.dd⟩
              simp only [invoke]
              congr 1
              exact Array.ext' (by simp)
            | _ => cases h3
          | _ => cases h3
  · have h' : (opsF P G ops ops.toList).run call yld s.T s.H s.N s.lo s.D = .ok (x, s') := h
    obtain ⟨rfl, e1, e2⟩ := opsF_sound hc hy ops.toList (List.range' 0 ops.size) (by
      have := idx_range ops ops.size 0 (by omega)
      simpa using this) _ _ _ _ _ _ _ h'
    exact ⟨rfl, e1, fun ρ0 N0 w0 hF hG a w ρ I ro _ m Q hQ => e2 ρ0 N0 w0 hF hG a w ρ I ro m Q hQ⟩
theorem comp_sound (hmix : P.follows .mixedOrders = true) (hname : ∀ (f : FuncId) (fn : Func), P.funcs[f]? = some fn → (fn.name == "runtime.NumGoroutine") = false) (hc : CallOk P G call) (hy : YldOk P G yld) : ∀ (c : Code) (lf : Nat) (rd : Option Nat) (s : St) (x : Ex) (s' : St), (comp P G okT c).run call yld lf rd s = .ok (x, s') → CodeOk P G c rd s x s' := by
  intro c
  induction c with
  | skip =>
    intro lf rd s x s' h
    have h' : Rs.ok (Ex.normal, s) = .ok (x, s') := h
    cases h'
    exact ⟨Nat.le_refl _, fun ρ0 N0 w0 hF hG a w ρ I ro hro m Q hQ => wpIn_skip (hQ a w ρ I)⟩
  | label l =>
    intro lf rd s x s' h
    have h' : Rs.ok (Ex.normal, s) = .ok (x, s') := h
    cases h'
    exact ⟨Nat.le_refl _, fun ρ0 N0 w0 hF hG a w ρ I ro hro m Q hQ => wpIn_label (hQ a w ρ I)⟩
  | exit id =>
    intro lf rd s x s' h
    have h' : Rs.ok (Ex.exit id, s) = .ok (x, s') := h
    cases h'
    exact ⟨Nat.le_refl _, fun ρ0 N0 w0 hF hG a w ρ I ro hro m Q hQ => wpIn_exit (hQ a w ρ I)⟩
  | ret =>
    intro lf rd s x s' h
    have h' : Rs.ok (Ex.ret, s) = .ok (x, s') := h
    cases h'
    exact ⟨Nat.le_refl _, fun ρ0 N0 w0 hF hG a w ρ I ro hro m Q hQ => wpIn_ret (hQ a w ρ I)⟩
  | goto l => intro lf rd s x s' h; have h' : Rs.bad 223 = Rs.ok (x, s') := h; cases h'
  | refuse l => intro lf rd s x s' h; have h' : Rs.bad 224 = Rs.ok (x, s') := h; cases h'
  | scope c ih =>
    intro lf rd s x s' h
    have h' : (comp P G okT c).run call yld lf rd s = .ok (x, s') := h
    obtain ⟨e1, e2⟩ := ih lf rd s x s' h'
    refine ⟨e1, fun ρ0 N0 w0 hF hG a w ρ I ro hro m Q hQ => wpIn_scope_straight (e2 ρ0 N0 w0 hF hG a w ρ I ro hro m _ fun a' w' ρ' I' => ?_)⟩
    have := hQ a' w' ρ' I'
    cases x <;> exact this
  | block id c ih =>
    intro lf rd s x s' h
    have h' : Rs.rec (motive := fun _ => RX) (fun e => .bad e) (fun p => Prod.rec (motive := fun _ => RX) (fun x s => Ex.rec (motive := fun _ => RX) (.ok (.normal, s)) (fun j => Bool.rec (motive := fun _ => RX) (.ok (.exit j, s)) (.ok (.normal, s)) (Nat.beq j id)) (.ok (.ret, s)) x) p) ((comp P G okT c).run call yld lf rd s) = .ok (x, s') := h
    cases hr : (comp P G okT c).run call yld lf rd s with
    | bad e => rw [hr] at h'; cases h'
    | ok p =>
      obtain ⟨y, s1⟩ := p
      obtain ⟨e1, e2⟩ := ih lf rd s y s1 hr
      rw [hr] at h'
      cases y with
      | normal =>
        cases h'
        exact ⟨e1, fun ρ0 N0 w0 hF hG a w ρ I ro hro m Q hQ => wpIn_block (e2 ρ0 N0 w0 hF hG a w ρ I ro hro m _ fun a' w' ρ' I' => hQ a' w' ρ' I')⟩
      | ret =>
        cases h'
        exact ⟨e1, fun ρ0 N0 w0 hF hG a w ρ I ro hro m Q hQ => wpIn_block (e2 ρ0 N0 w0 hF hG a w ρ I ro hro m _ fun a' w' ρ' I' => hQ a' w' ρ' I')⟩
      | exit j =>
        have h2 : Bool.rec (motive := fun _ => RX) (.ok (.exit j, s1)) (.ok (.normal, s1)) (Nat.beq j id) = .ok (x, s') := h'
        cases hb : Nat.beq j id with
        | true =>
          rw [hb] at h2
          cases h2
          have hj := Nat.eq_of_beq_eq_true hb
          refine ⟨e1, fun ρ0 N0 w0 hF hG a w ρ I ro hro m Q hQ => wpIn_block (e2 ρ0 N0 w0 hF hG a w ρ I ro hro m _ fun a' w' ρ' I' => ?_)⟩
          have := hQ a' w' ρ' I'
          simpa [exO, Exit.inBlock, hj] using this
        | false =>
          rw [hb] at h2
          cases h2
          have hj : j ≠ id := fun e => by subst e; rw [Nat.beq_refl] at hb; cases hb
          refine ⟨e1, fun ρ0 N0 w0 hF hG a w ρ I ro hro m Q hQ => wpIn_block (e2 ρ0 N0 w0 hF hG a w ρ I ro hro m _ fun a' w' ρ' I' => ?_)⟩
          have := hQ a' w' ρ' I'
          simpa [exO, Exit.inBlock, hj] using this
  | seq c1 c2 ih1 ih2 =>
    intro lf rd s x s' h
    have h' : Rs.rec (motive := fun _ => RX) (fun e => .bad e) (fun p => Prod.rec (motive := fun _ => RX) (fun x s => Ex.rec (motive := fun _ => RX) ((comp P G okT c2).run call yld lf rd s) (fun i => .ok (.exit i, s)) (.ok (.ret, s)) x) p) ((comp P G okT c1).run call yld lf rd s) = .ok (x, s') := h
    cases hr : (comp P G okT c1).run call yld lf rd s with
    | bad e => rw [hr] at h'; cases h'
    | ok p =>
      obtain ⟨y, s1⟩ := p
      have h1 := ih1 lf rd s y s1 hr
      rw [hr] at h'
      cases y with
      | normal =>
        have h2 : (comp P G okT c2).run call yld lf rd s1 = .ok (x, s') := h'
        exact h1.seq (ih2 lf rd s1 x s' h2)
      | ret =>
        cases h'
        exact ⟨h1.1, fun ρ0 N0 w0 hF hG a w ρ I ro hro m Q hQ => wpIn_seq (h1.2 ρ0 N0 w0 hF hG a w ρ I ro hro m _ fun a' w' ρ' I' => hQ a' w' ρ' I')⟩
      | exit j =>
        cases h'
        exact ⟨h1.1, fun ρ0 N0 w0 hF hG a w ρ I ro hro m Q hQ => wpIn_seq (h1.2 ρ0 N0 w0 hF hG a w ρ I ro hro m _ fun a' w' ρ' I' => hQ a' w' ρ' I')⟩
  | cond c c1 c2 ih1 ih2 =>
    intro lf rd s x s' h
    have h' : (Option.rec (motive := fun _ => RX) (.bad 221) (fun v => VB.rec (motive := fun _ => RX) (fun t => Bool.rec (motive := fun _ => RX) ((comp P G okT c2).run call yld lf rd s) ((comp P G okT c1).run call yld lf rd s) t) (.bad 221) (vB v)) ((argF G c).run s.T)) = .ok (x, s') := h
    rw [argF_eq] at h'
    cases hv : aeval G s.T c with
    | none => rw [hv] at h'; cases h'
    | some v =>
      rw [hv] at h'
      have h2 : VB.rec (motive := fun _ => RX) (fun t => Bool.rec (motive := fun _ => RX) ((comp P G okT c2).run call yld lf rd s) ((comp P G okT c1).run call yld lf rd s) t) (.bad 221) (vB v) = .ok (x, s') := h'
      cases v with
      | bool t =>
        have hev : ∀ {ρ : Env} {a : Act}, TR ρ s.T a.tmps → Glob G ρ → a.eval c = .bool t := fun {ρ a} hT hG => by
          have h1 := aeval_sound hT hG hv
          generalize a.eval c = vf at h1
          cases h1
          rfl
        cases t with
        | true =>
          obtain ⟨e1, e2⟩ := ih1 lf rd s x s' h2
          exact ⟨e1, fun ρ0 N0 w0 hF hG a w ρ I ro hro m Q hQ => wpIn_cond_true (hev I.tr (hG.mono I.wr.ext)) (e2 ρ0 N0 w0 hF hG a w ρ I ro hro m Q hQ)⟩
        | false =>
          obtain ⟨e1, e2⟩ := ih2 lf rd s x s' h2
          exact ⟨e1, fun ρ0 N0 w0 hF hG a w ρ I ro hro m Q hQ => wpIn_cond_false (hev I.tr (hG.mono I.wr.ext)) (e2 ρ0 N0 w0 hF hG a w ρ I ro hro m Q hQ)⟩
      | _ => cases h2
  | loop c ih =>
    intro lf rd s x s' h
    have key : ∀ (k : Nat) (s : St), (Nat.rec (motive := fun _ => St → RX) (fun _ => .bad 222) (fun _ ih s => Rs.rec (motive := fun _ => RX) (fun e => .bad e) (fun p => Prod.rec (motive := fun _ => RX) (fun x s => Ex.rec (motive := fun _ => RX) (ih s) (fun i => .ok (.exit i, s)) (.ok (.ret, s)) x) p) ((comp P G okT c).run call yld lf rd s)) k s : RX) = .ok (x, s') →
        s.N ≤ s'.N ∧ ∀ ρ0 N0 w0, Free ρ0 N0 s'.N → Glob G ρ0 → ∀ a w ρ, Inv P ρ0 N0 w0 s.T s.H s.N s.lo s.D a w ρ → ∀ ro, RO ρ0 rd ro → ∀ m Q, (∀ a' w' ρ', Inv P ρ0 N0 w0 s'.T s'.H s'.N s'.lo s'.D a' w' ρ' → Q (exO x) a' w') → Code.roundsIn (fe ro) m P c Q k a w := by
      intro k
      induction k with
      | zero => intro s h; cases h
      | succ k ihk =>
        intro s h
        have h' : Rs.rec (motive := fun _ => RX) (fun e => .bad e) (fun p => Prod.rec (motive := fun _ => RX) (fun x s => Ex.rec (motive := fun _ => RX) (Nat.rec (motive := fun _ => St → RX) (fun _ => .bad 222) (fun _ ih s => Rs.rec (motive := fun _ => RX) (fun e => .bad e) (fun p => Prod.rec (motive := fun _ => RX) (fun x s => Ex.rec (motive := fun _ => RX) (ih s) (fun i => .ok (.exit i, s)) (.ok (.ret, s)) x) p) ((comp P G okT c).run call yld lf rd s)) k s) (fun i => .ok (.exit i, s)) (.ok (.ret, s)) x) p) ((comp P G okT c).run call yld lf rd s) = .ok (x, s') := h
        cases hr : (comp P G okT c).run call yld lf rd s with
        | bad e => rw [hr] at h'; cases h'
        | ok p =>
          obtain ⟨y, s1⟩ := p
          have h1 := ih lf rd s y s1 hr
          rw [hr] at h'
          cases y with
          | normal =>
            obtain ⟨e1, e2⟩ := ihk s1 h'
            exact ⟨Nat.le_trans h1.1 e1, fun ρ0 N0 w0 hF hG a w ρ I ro hro m Q hQ => h1.2 ρ0 N0 w0 (fun n g1 g2 => hF n g1 (Nat.lt_of_lt_of_le g2 e1)) hG a w ρ I ro hro m _ fun a' w' ρ' I' => e2 ρ0 N0 w0 hF hG a' w' ρ' I' ro hro m Q hQ⟩
          | ret =>
            cases h'
            exact ⟨h1.1, fun ρ0 N0 w0 hF hG a w ρ I ro hro m Q hQ => h1.2 ρ0 N0 w0 hF hG a w ρ I ro hro m _ fun a' w' ρ' I' => hQ a' w' ρ' I'⟩
          | exit j =>
            cases h'
            exact ⟨h1.1, fun ρ0 N0 w0 hF hG a w ρ I ro hro m Q hQ => h1.2 ρ0 N0 w0 hF hG a w ρ I ro hro m _ fun a' w' ρ' I' => hQ a' w' ρ' I'⟩
    obtain ⟨e1, e2⟩ := key lf s h
    exact ⟨e1, fun ρ0 N0 w0 hF hG a w ρ I ro hro m Q hQ => wpIn_loop_rounds lf (e2 ρ0 N0 w0 hF hG a w ρ I ro hro m Q hQ)⟩
  | rangeFunc f ps assign body ih1 ih2 =>
    intro lf rd s x s' h
    exact rangeC_sound hc hname (show rangeC P call rd ((argF G f).run s.T) ps assign body s = .ok (x, s') from h)
  | region id ops draw =>
    intro lf rd s x s' h
    cases draw with
    | false =>
      obtain ⟨rfl, e1, e2⟩ := regF_sound hc hy (show (regF P G ops).run call yld lf rd s = .ok (x, s') from h)
      refine ⟨e1, fun ρ0 N0 w0 hF hG a w ρ I ro hro m Q hQ => wpIn_region ?_⟩
      rw [List.range_eq_range']
      exact e2 ρ0 N0 w0 hF hG a w ρ I ro hro m Q hQ
    | true =>
      have h' : (drawF P G okT ops).run call yld s.T s.H s.N s.lo s.D = .ok (x, s') := h
      obtain ⟨rfl, e1, e2⟩ := drawF_sound (id := id) hmix hc hy h'
      exact ⟨e1, fun ρ0 N0 w0 hF hG a w ρ I ro hro m Q hQ => e2 ρ0 N0 w0 hF hG a w ρ I ro m Q hQ⟩
end
end Go.Proofs.YtadpelhmjmamnaaGreatDoor.Ev
