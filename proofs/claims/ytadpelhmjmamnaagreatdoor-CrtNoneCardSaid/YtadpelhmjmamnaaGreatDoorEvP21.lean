/- The reckoner: a region in one order. No conditions. -/
import Derived.Test.YtadpelhmjmamnaaGreatDoorEvP20
namespace Go.Proofs.YtadpelhmjmamnaaGreatDoor.Ev
open Go Go.RowKit

section
variable {P : Program} {G : Nat} {call : CallT} {yld : YldT}
/-- The operations by their numbers. -/
def Idx (ops : Array Oper) : List Nat → List Oper → Prop
  | [], [] => True
  | i :: is, o :: l => ops[i]? = some o ∧ Idx ops is l
  | _, _ => False
theorem idx_range (ops : Array Oper) : ∀ (n k : Nat), k + n = ops.size → Idx ops (List.range' k n) (ops.toList.drop k)
  | 0, k, h => by
    rw [List.drop_eq_nil_of_le (by rw [Array.length_toList]; omega)]
    trivial
  | n + 1, k, h => by
    have hk : k < ops.toList.length := by rw [Array.length_toList]; omega
    rw [List.drop_eq_getElem_cons hk, List.range'_succ]
    exact ⟨by rw [← Array.getElem?_toList, List.getElem?_eq_getElem hk], idx_range ops n (k + 1) (by omega)⟩
/-- The guard, as it stands. -/
theorem want_sound {ops : Array Oper} {o : Oper} {T : PT Value} {ρ : Env} {a : Act} {b : Bool} (hT : ∀ t, t ∈ o.looksAt ops → ∀ u, T.get t = some u → ∃ v, a.tmps[t]? = some v ∧ VR ρ u v) (h : (wantF ops o).run T = some b) : Region.wanted o (yielded ops a.tmps) = b := by
  unfold wantF at h
  unfold Region.wanted
  cases hg : o.guard with
  | none => rw [hg] at h; simp at h; rw [← h]
  | some g =>
    obtain ⟨j, want⟩ := g
    rw [hg] at h
    simp only [nth_eq] at h
    cases hj : ops.toList[j]? with
    | none => rw [hj] at h; cases h
    | some oj =>
      rw [hj] at h
      simp only at h
      cases hd : oj.dst with
      | none => rw [hd] at h; cases h
      | some d =>
        rw [hd] at h
        have hrun : (match (getF (pathN (d + 1) d)).run T with | some (.bool b) => some (b == want) | some _ => some false | none => none) = some b := h
        rw [getF_eq _ _ _ (Nat.lt_succ_self d)] at hrun
        have hj' : ops[j]? = some oj := by rw [← Array.getElem?_toList]; exact hj
        have hmem : d ∈ o.looksAt ops := by
          unfold Oper.looksAt
          rw [hg]
          refine List.mem_append_right _ ?_
          simp [hj', hd]
        have hy : ∀ v, a.tmps[d]? = some v → yielded ops a.tmps j = match v with | .bool b => some b | _ => none := fun v hv => by
          unfold yielded
          rw [hj']
          simp only [Option.bind_some, hd, hv]
          cases v <;> rfl
        split at hrun
        · rename_i b' hb'
          obtain ⟨v, hv, hr⟩ := hT d hmem _ hb'
          cases hr
          simp only [Option.some.injEq] at hrun
          simp only [hy _ hv]
          rw [← hrun]
          cases b' <;> cases want <;> rfl
        · rename_i u hnb hu
          obtain ⟨v, hv, hr⟩ := hT d hmem u hu
          simp only [Option.some.injEq] at hrun
          rw [← hrun]
          have : yielded ops a.tmps j = none := by
            rw [hy _ hv]
            cases hr <;> first | rfl | exact absurd rfl (hnb _)
          simp only [this]
          cases want <;> rfl
        · cases hrun
theorem undef_VR (ρ : Env) : VR ρ undef undef := .tuple rfl (fun i u v h => by simp at h)

/-- An operation's answer laid in its slot, its new blocks added. -/
def After (dst : Option Tmp) (T T2 : PT Value) (u : Value) : Prop := ∀ {ρ : Env} {tmps : Array Value} {v : Value} {ds : List Deferred}, TR ρ T tmps → VR ρ u v → TR ρ T2 ((({ tmps, defers := ds } : Act).put dst v).tmps)
theorem oneF_inv {o : Oper} {R : OpsC} {T : PT Value} {H : HP} {N lo : Nat} {D : List DE} {r : Ex × St} (h : (oneF P G o R).run call yld T H N lo D = .ok r) :
    ∃ out, aop P G call yld o T H N = .ok out ∧ (match out with
      | .v u d N2 => N ≤ N2 ∧ ∃ T2 H2, R.run call yld T2 H2 N2 lo D = .ok r ∧ After o.dst T T2 u ∧ ∀ n b, H2.get n = some b → (n, b) ∈ d ∨ H.get n = some b
      | .w u H2 N2 lo2 => N ≤ N2 ∧ ∃ T2, R.run call yld T2 H2 N2 (min lo lo2) D = .ok r ∧ After o.dst T T2 u) := by
  have hop := opF_ok P G o
  unfold oneF at h
  cases ho : opF P G o with
  | pure f =>
    rw [ho] at hop h
    have h' : f T (fun u => (putF (β := Ex × St) o.dst).run T u (fun T => R.run call yld T H N lo D)) = .ok r := h
    obtain ⟨u, h1, h2⟩ := hop call yld H T _ r h'
    obtain ⟨T2, h3, h4⟩ := put_get h2
    exact ⟨_, h1 N, Nat.le_refl _, T2, H, h3, h4, fun n b hn => .inr hn⟩
  | gen f =>
    rw [ho] at hop h
    have h' : Rs.rec (motive := fun _ => RX) (fun e => .bad e) (fun out => Out.rec (motive := fun _ => RX)
      (fun u d N' => Bool.rec (motive := fun _ => RX) (.bad 219) ((putF (β := Ex × St) o.dst).run T u (fun T => addX d H (fun H => R.run call yld T H N' lo D))) (Nat.ble N N'))
      (fun u H N' lo' => Bool.rec (motive := fun _ => RX) (.bad 219) ((putF (β := Ex × St) o.dst).run T u (fun T => rawN (Bool.rec (motive := fun _ => Nat) lo' lo (Nat.ble lo lo')) (fun lo => R.run call yld T H N' lo D))) (Nat.ble N N')) out) (f call yld T H N) = .ok r := h
    cases hf : f call yld T H N with
    | bad e => rw [hf] at h'; cases h'
    | ok out =>
      rw [hf] at h'
      refine ⟨out, hop call yld T H N out hf, ?_⟩
      cases out with
      | v u d N2 =>
        have h2 : Bool.rec (motive := fun _ => RX) (.bad 219) ((putF (β := Ex × St) o.dst).run T u (fun T => addX d H (fun H => R.run call yld T H N2 lo D))) (Nat.ble N N2) = .ok r := h'
        cases hb : Nat.ble N N2 with
        | false => rw [hb] at h2; cases h2
        | true =>
          rw [hb] at h2
          obtain ⟨T2, h3, h4⟩ := put_get h2
          obtain ⟨H2, h5, h6⟩ := addX_spec _ _ _ _ h3
          exact ⟨Nat.le_of_ble_eq_true hb, T2, H2, h5, h4, h6⟩
      | w u H2 N2 lo2 =>
        have h2 : Bool.rec (motive := fun _ => RX) (.bad 219) ((putF (β := Ex × St) o.dst).run T u (fun T => rawN (Bool.rec (motive := fun _ => Nat) lo2 lo (Nat.ble lo lo2)) (fun lo => R.run call yld T H2 N2 lo D))) (Nat.ble N N2) = .ok r := h'
        cases hb : Nat.ble N N2 with
        | false => rw [hb] at h2; cases h2
        | true =>
          rw [hb] at h2
          obtain ⟨T2, h3, h4⟩ := put_get h2
          rw [rawN_eq] at h3
          have : Bool.rec (motive := fun _ => Nat) lo2 lo (Nat.ble lo lo2) = min lo lo2 := by
            have hm := min_cond lo lo2
            revert hm
            cases Nat.ble lo lo2 <;> exact id
          rw [this] at h3
          exact ⟨Nat.le_of_ble_eq_true hb, T2, h3, h4⟩
/-- What holds behind code. -/
theorem opsF_on (hc : CallOk P G call) (hy : YldOk P G yld) {ops : Array Oper} : ∀ (l : List Oper) (is : List Nat), Idx ops is l → ∀ T H N lo D x s', (opsF P G ops l).run call yld T H N lo D = .ok (x, s') →
    x = .normal ∧ N ≤ s'.N ∧ ∀ ρ0 N0 w0, Free ρ0 N0 s'.N → Glob G ρ0 → ∀ a w ρ, Inv P ρ0 N0 w0 T H N lo D a w ρ → ∀ ro m Q l2, (∀ a' w' ρ', Inv P ρ0 N0 w0 s'.T s'.H s'.N s'.lo s'.D a' w' ρ' → wpOpsIn (fe ro) m P ops Q l2 a' w') → wpOpsIn (fe ro) m P ops Q (is ++ l2) a w
  | [], is, hi, T, H, N, lo, D, x, s', h => by
    have h' : Rs.ok (Ex.normal, (⟨T, H, N, lo, D⟩ : St)) = .ok (x, s') := h
    cases h'
    cases is with
    | nil => exact ⟨rfl, Nat.le_refl _, fun ρ0 N0 w0 hF hG a w ρ I ro m Q l2 hQ => hQ a w ρ I⟩
    | cons i is => exact hi.elim
  | o :: l, is, hi, T, H, N, lo, D, x, s', h => by
    cases is with
    | nil => exact hi.elim
    | cons i is =>
      obtain ⟨hio, hi'⟩ := hi
      -- the operation is carried out
      have yes : ∀ x s', (oneF P G o (opsF P G ops l)).run call yld T H N lo D = .ok (x, s') → x = .normal ∧ N ≤ s'.N ∧ ∀ ρ0 N0 w0, Free ρ0 N0 s'.N → Glob G ρ0 → ∀ a w ρ, Inv P ρ0 N0 w0 T H N lo D a w ρ → Region.wanted o (yielded ops a.tmps) = true →
          ∀ ro m Q l2, (∀ a' w' ρ', Inv P ρ0 N0 w0 s'.T s'.H s'.N s'.lo s'.D a' w' ρ' → wpOpsIn (fe ro) m P ops Q l2 a' w') → wpOpsIn (fe ro) m P ops Q ((i :: is) ++ l2) a w := fun x s' h => by
        obtain ⟨out, hout, hrest⟩ := oneF_inv h
        cases out with
        | v u d N2 =>
          obtain ⟨hle, T2, H2, hrun, hput, hH2⟩ := hrest
          obtain ⟨e1, e2, e3⟩ := opsF_on hc hy l is hi' T2 H2 N2 lo D x s' hrun
          refine ⟨e1, Nat.le_trans hle e2, fun ρ0 N0 w0 hF hG a w ρ I hw ro m Q l2 hQ => ?_⟩
          have hop := aop_ok hc hy I.wr.sat I.tr (hG.mono I.wr.ext) I.wr.named hout
          rw [List.cons_append, wpOpsIn_cons]
          unfold wpOpIn
          rw [hio]
          simp only [hw, if_true]
          have hF1 : Free ρ N N2 := I.free hF e2
          exact hop.2 I.dom ro m _ Q (fun v w' ρ' hg hv => e3 ρ0 N0 w0 hF hG _ w' ρ' (I.grew hg hF1 hle hH2 (hput (ds := a.defers) (I.tr.mono hg.ext) hv) (put_defers _ _ _)) ro m Q l2 hQ)
        | w u H2 N2 lo2 =>
          obtain ⟨hle, T2, hrun, hput⟩ := hrest
          obtain ⟨e1, e2, e3⟩ := opsF_on hc hy l is hi' T2 H2 N2 _ D x s' hrun
          refine ⟨e1, Nat.le_trans hle e2, fun ρ0 N0 w0 hF hG a w ρ I hw ro m Q l2 hQ => ?_⟩
          have hop := aop_ok hc hy I.wr.sat I.tr (hG.mono I.wr.ext) I.wr.named hout
          rw [List.cons_append, wpOpsIn_cons]
          unfold wpOpIn
          rw [hio]
          simp only [hw, if_true]
          have hF1 : Free ρ N N2 := I.free hF e2
          exact hop.2 I.dom ro m _ Q (fun v w' ρ' hg hv => e3 ρ0 N0 w0 hF hG _ w' ρ' (I.wrote hg hle (hput (ds := a.defers) (I.tr.mono hg.ext) hv) (put_defers _ _ _)) ro m Q l2 hQ)
      cases hg : o.guard with
      | none =>
        have h' : (oneF P G o (opsF P G ops l)).run call yld T H N lo D = .ok (x, s') := by
          have e : opsF P G ops (o :: l) = oneF P G o (opsF P G ops l) := by
            show Option.rec (motive := fun _ => OpsC) (oneF P G o (opsF P G ops l)) _ o.guard = _
            rw [hg]
          rw [e] at h; exact h
        obtain ⟨e1, e2, e3⟩ := yes x s' h'
        exact ⟨e1, e2, fun ρ0 N0 w0 hF hG a w ρ I ro m Q l2 hQ => e3 ρ0 N0 w0 hF hG a w ρ I (by simp [Region.wanted, hg]) ro m Q l2 hQ⟩
      | some g =>
        have h' : Option.rec (motive := fun _ => RX) (.bad 205) (fun b => Bool.rec (motive := fun _ => RX) ((putF (β := Ex × St) o.dst).run T undef (fun T => (opsF P G ops l).run call yld T H N lo D)) ((oneF P G o (opsF P G ops l)).run call yld T H N lo D) b) ((wantF ops o).run T) = .ok (x, s') := by
          have e : opsF P G ops (o :: l) = ⟨fun call yld T H N lo D => Option.rec (motive := fun _ => RX) (.bad 205) (fun b => Bool.rec (motive := fun _ => RX) ((putF (β := Ex × St) o.dst).run T undef (fun T => (opsF P G ops l).run call yld T H N lo D)) ((oneF P G o (opsF P G ops l)).run call yld T H N lo D) b) ((wantF ops o).run T)⟩ := by
            show Option.rec (motive := fun _ => OpsC) _ (fun _ => _) o.guard = _
            rw [hg]
            rfl
          rw [e] at h; exact h
        cases hw : (wantF ops o).run T with
        | none => rw [hw] at h'; cases h'
        | some b =>
          rw [hw] at h'
          have hwant : ∀ {a : Act} {ρ : Env}, TR ρ T a.tmps → Region.wanted o (yielded ops a.tmps) = b := fun hT => want_sound (fun t _ u hu => hT t u hu) hw
          cases b with
          | true =>
            obtain ⟨e1, e2, e3⟩ := yes x s' h'
            exact ⟨e1, e2, fun ρ0 N0 w0 hF hG a w ρ I ro m Q l2 hQ => e3 ρ0 N0 w0 hF hG a w ρ I (hwant I.tr) ro m Q l2 hQ⟩
          | false =>
            obtain ⟨T2, h2, hput⟩ := put_get (show (putF (β := Ex × St) o.dst).run T undef (fun T => (opsF P G ops l).run call yld T H N lo D) = .ok (x, s') from h')
            obtain ⟨e1, e2, e3⟩ := opsF_on hc hy l is hi' T2 H N lo D x s' h2
            refine ⟨e1, e2, fun ρ0 N0 w0 hF hG a w ρ I ro m Q l2 hQ => ?_⟩
            rw [List.cons_append, wpOpsIn_cons]
            unfold wpOpIn
            rw [hio]
            simp only [hwant I.tr, Bool.false_eq_true, if_false]
            exact ⟨fun _ _ => trivial, e3 ρ0 N0 w0 hF hG _ w ρ ⟨I.wr, hput (ds := a.defers) I.tr (undef_VR ρ), I.le, by rw [put_defers]; exact I.dd, I.dom⟩ ro m Q l2 hQ⟩
theorem opsF_sound (hc : CallOk P G call) (hy : YldOk P G yld) {ops : Array Oper} (l : List Oper) (is : List Nat) (hi : Idx ops is l) (T : PT Value) (H : HP) (N lo : Nat) (D : List DE) (x : Ex) (s' : St) (h : (opsF P G ops l).run call yld T H N lo D = .ok (x, s')) :
    x = .normal ∧ N ≤ s'.N ∧ ∀ ρ0 N0 w0, Free ρ0 N0 s'.N → Glob G ρ0 → ∀ a w ρ, Inv P ρ0 N0 w0 T H N lo D a w ρ → ∀ ro m Q, (∀ a' w' ρ', Inv P ρ0 N0 w0 s'.T s'.H s'.N s'.lo s'.D a' w' ρ' → Q .normal a' w') → wpOpsIn (fe ro) m P ops Q is a w := by
  obtain ⟨e1, e2, e3⟩ := opsF_on hc hy l is hi T H N lo D x s' h
  refine ⟨e1, e2, fun ρ0 N0 w0 hF hG a w ρ I ro m Q hQ => ?_⟩
  have := e3 ρ0 N0 w0 hF hG a w ρ I ro m Q [] hQ
  rwa [List.append_nil] at this
end
end Go.Proofs.YtadpelhmjmamnaaGreatDoor.Ev
