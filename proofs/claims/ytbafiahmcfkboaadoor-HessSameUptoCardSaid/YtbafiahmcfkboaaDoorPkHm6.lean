/- The reckoner: steps one behind the other. No conditions. The reckoner: a region in one order. No conditions. The reckoner: an operation goes by its operands alone. No conditions. The reckoner: what the head of a drawn region was found to do. No conditions. -/
import Derived.Test.YtbafiahmcfkboaaDoorPkHm5
namespace Go.Proofs.YtbafiahmcfkboaaDoor
section
namespace Ev
open Go Go.RowKit

section
variable {P : Program} {ρ0 ρ ρ' : Env} {N0 N N' lo lo' : Nat} {H H' : HP} {d : List (Nat × AB)} {w0 w w' : World}
theorem Wrote.refl (hS : Sat P ρ H w) (hn : ∀ n b, H.get n = some b → n < N) : Wrote P ρ ρ N N N H w w :=
  ⟨.refl ρ, fun _ _ => rfl, hS, rfl, rfl, rfl, Nat.le_refl _, fun _ _ _ => rfl, fun n p h1 h2 => by omega, hn⟩
theorem Wrote.grew (A : Wrote P ρ0 ρ N0 N lo H w0 w) (hle : N0 ≤ N) (B : Grew P ρ ρ' N N' d w w') (hF : Free ρ N N') (hN : N ≤ N') (hH : ∀ n b, H'.get n = some b → (n, b) ∈ d ∨ H.get n = some b) : Wrote P ρ0 ρ' N0 N' lo H' w0 w' :=
  ⟨A.ext.trans B.ext, fun n h => (B.same n (by omega)).trans (A.same n (by omega)), B.sat A.sat hF hH, B.bel.os.trans A.os, B.bel.tape.trans A.tape, B.bel.output.trans A.output, Nat.le_trans A.size B.bel.size,
   fun x hx h => (B.bel.block x (Nat.lt_of_lt_of_le hx A.size)).trans (A.keep x hx h),
   fun n p h1 h2 h3 => by
    rcases Nat.lt_or_ge n N with h | h
    · rw [B.same n (.inl h)] at h3; exact A.new n p h1 h h3
    · exact .inl (Nat.le_trans A.size (B.new n p h h2 h3).1),
   fun n b hn => by
    rcases hH n b hn with h | h
    · exact (B.dom _ h).2
    · exact Nat.lt_of_lt_of_le (A.named n b h) hN⟩
theorem min_cond (a b : Nat) : cond (Nat.ble a b) a b = min a b := by
  cases h : Nat.ble a b with
  | true => have := Nat.le_of_ble_eq_true h; simp; omega
  | false => have := ble_false h; simp; omega
theorem Wrote.wrote (A : Wrote P ρ0 ρ N0 N lo H w0 w) (hle : N0 ≤ N) (B : Wrote P ρ ρ' N N' lo' H' w w') (hN : N ≤ N') : Wrote P ρ0 ρ' N0 N' (min lo lo') H' w0 w' :=
  ⟨A.ext.trans B.ext, fun n h => (B.same n (by omega)).trans (A.same n (by omega)), B.sat, B.os.trans A.os, B.tape.trans A.tape, B.output.trans A.output, Nat.le_trans A.size B.size,
   fun x hx h => (B.keep x (Nat.lt_of_lt_of_le hx A.size) (fun n p h1 h2 h3 => by
      rcases Nat.lt_or_ge n N0 with g | g
      · rw [A.same n (.inl g)] at h3; exact h n p (by omega) g h3
      · rcases A.new n p g h2 h3 with e | ⟨m, q, e1, e2, e3, e4⟩
        · omega
        · rw [← e4]; exact h m q (by omega) e2 e3)).trans (A.keep x hx (fun n p h1 h2 h3 => h n p (by omega) h2 h3)),
   fun n p h1 h2 h3 => by
    rcases Nat.lt_or_ge n N with h | h
    · rw [B.same n (.inl h)] at h3
      rcases A.new n p h1 h h3 with e | ⟨m, q, e1, e2, e3, e4⟩
      · exact .inl e
      · exact .inr ⟨m, q, by omega, e2, e3, e4⟩
    · rcases B.new n p h h2 h3 with e | ⟨m, q, e1, e2, e3, e4⟩
      · exact .inl (Nat.le_trans A.size e)
      · rcases Nat.lt_or_ge m N0 with g | g
        · rw [A.same m (.inl g)] at e3; exact .inr ⟨m, q, by omega, g, e3, e4⟩
        · rcases A.new m q g e2 e3 with k | ⟨m2, q2, k1, k2, k3, k4⟩
          · rw [← e4]; exact .inl k
          · exact .inr ⟨m2, q2, by omega, k2, k3, k4.trans e4⟩,
   B.named⟩
end

/-- What is left to the end: a mark, or a call. -/
def DE1 (ρ : Env) : DE → Deferred → Prop
  | .mark n, d => ∃ r C, d.target = .collected r ∧ ρ n = some (r, C)
  | .call g us, d => ∃ fv cap vs, d.target = .fn fv cap ∧ invoke d.target d.args = callFunc g ⟨vs⟩ ∧ VL ρ us vs
def DR (ρ : Env) : List DE → List Deferred → Prop
  | [], [] => True
  | n :: D, d :: ds => DE1 ρ n d ∧ DR ρ D ds
  | _, _ => False
theorem DE1.mono {ρ ρ' : Env} (h : Ext ρ ρ') : ∀ {e : DE} {d : Deferred}, DE1 ρ e d → DE1 ρ' e d
  | .mark _, _, ⟨r, C, h1, h2⟩ => ⟨r, C, h1, h _ _ h2⟩
  | .call _ _, _, ⟨fv, cap, vs, h1, h2, h3⟩ => ⟨fv, cap, vs, h1, h2, h3.mono h⟩
theorem DR.mono {ρ ρ' : Env} (h : Ext ρ ρ') : ∀ {D : List DE} {ds : List Deferred}, DR ρ D ds → DR ρ' D ds
  | [], [], _ => trivial
  | _ :: _, _ :: _, ⟨h1, h3⟩ => ⟨h1.mono h, h3.mono h⟩
  | [], _ :: _, k => k
  | _ :: _, [], k => k
/-- What holds within a call: base: where it began. -/
structure Inv (P : Program) (ρ0 : Env) (N0 : Nat) (w0 : World) (T : PT Value) (H : HP) (N lo : Nat) (D : List DE) (a : Act) (w : World) (ρ : Env) : Prop where
  wr : Wrote P ρ0 ρ N0 N lo H w0 w
  tr : TR ρ T a.tmps
  le : N0 ≤ N
  dd : DR ρ D a.defers
  dom : Dom ρ N
theorem Inv.free {P : Program} {ρ0 : Env} {N0 : Nat} {w0 : World} {T : PT Value} {H : HP} {N lo : Nat} {D : List DE} {a : Act} {w : World} {ρ : Env} (I : Inv P ρ0 N0 w0 T H N lo D a w ρ) {N' N2 : Nat} (hF : Free ρ0 N0 N2) (h : N' ≤ N2) : Free ρ N N' := fun n h1 h2 => by
  rw [I.wr.same n (.inr h1)]
  exact hF n (Nat.le_trans I.le h1) (by omega)

section
variable {P : Program} {G : Nat}
theorem put_get {β : Type} {dst : Option Tmp} {T : PT Value} {u : Value} {k : PT Value → Rs β} {r : β} (h : (putF (β := β) dst).run T u k = .ok r) :
    ∃ T', k T' = .ok r ∧ ∀ {ρ : Env} {tmps : Array Value} {v : Value} {ds : List Deferred}, TR ρ T tmps → VR ρ u v → TR ρ T' ((({ tmps, defers := ds } : Act).put dst v).tmps) := by
  cases dst with
  | none => exact ⟨T, h, fun h1 _ => h1⟩
  | some d =>
    have h' : (setF (pathN (d + 1) d)).run T u k = .ok r := h
    rw [setF_eq _ _ _ _ _ (Nat.lt_succ_self d)] at h'
    rcases T.setK_spec d u with hb | ⟨T', y, h1, h2, h3⟩
    · rw [hb] at h'; cases h'
    · rw [h1] at h'
      exact ⟨T', h', fun hT hv => hT.set h2 h3 hv⟩
theorem addX_spec : ∀ (d : List (Nat × AB)) (H : HP) (k : HP → RX) (r : Ex × St), addX d H k = .ok r → ∃ H', k H' = .ok r ∧ ∀ n b, H'.get n = some b → (n, b) ∈ d ∨ H.get n = some b
  | [], H, k, r, h => ⟨H, h, fun n b h => .inr h⟩
  | p :: d, H, k, r, h => by
    have h' : PT.insK 60 H p.1 (some p.2) (fun H' => addX d H' k) (.bad 203) = .ok r := h
    rcases PT.insK_spec 60 H p.1 (some p.2) with hb | ⟨H', h1, h2⟩
    · rw [hb] at h'; cases h'
    · rw [h1] at h'
      obtain ⟨H2, h3, h4⟩ := addX_spec d H' k r h'
      refine ⟨H2, h3, fun n b hn => ?_⟩
      rcases h4 n b hn with g | g
      · exact .inl (List.mem_cons_of_mem _ g)
      · rw [h2] at g
        by_cases e : n = p.1
        · rw [if_pos e] at g; cases g; subst e; exact .inl List.mem_cons_self
        · rw [if_neg e] at g; exact .inr g
theorem put_defers (a : Act) (d : Option Tmp) (v : Value) : (a.put d v).defers = a.defers := by cases d <;> rfl
/-- A step that has grown memory. -/
theorem Inv.grew {ρ0 ρ ρ' : Env} {N0 N N' lo : Nat} {w0 w w' : World} {T T' : PT Value} {H H' : HP} {D : List DE} {a a' : Act} {d : List (Nat × AB)} (I : Inv P ρ0 N0 w0 T H N lo D a w ρ) (B : Grew P ρ ρ' N N' d w w') (hF : Free ρ N N') (hN : N ≤ N')
    (hH : ∀ n b, H'.get n = some b → (n, b) ∈ d ∨ H.get n = some b) (hT : TR ρ' T' a'.tmps) (hd : a'.defers = a.defers) : Inv P ρ0 N0 w0 T' H' N' lo D a' w' ρ' :=
  ⟨I.wr.grew I.le B hF hN hH, hT, Nat.le_trans I.le hN, by rw [hd]; exact I.dd.mono B.ext, I.dom.same hN B.same⟩
theorem Inv.wrote {ρ0 ρ ρ' : Env} {N0 N N' lo lo' : Nat} {w0 w w' : World} {T T' : PT Value} {H H' : HP} {D : List DE} {a a' : Act} (I : Inv P ρ0 N0 w0 T H N lo D a w ρ) (B : Wrote P ρ ρ' N N' lo' H' w w') (hN : N ≤ N')
    (hT : TR ρ' T' a'.tmps) (hd : a'.defers = a.defers) : Inv P ρ0 N0 w0 T' H' N' (min lo lo') D a' w' ρ' :=
  ⟨I.wr.wrote I.le B hN, hT, Nat.le_trans I.le hN, by rw [hd]; exact I.dd.mono B.ext, I.dom.same hN B.same⟩
end
end Ev
end
section
namespace Ev
open Go Go.RowKit

section
variable {P : Program} {G : Nat} {call : CallT} {yld : YldT}
/-- The operations by their numbers. -/
def Idx (ops : Array Oper) : List Nat → List Oper → Prop
  | [], [] => True
  | i :: is, o :: l => ops[i]? = some o ∧ Idx ops is l
  | _, _ => False
theorem idx_range (ops : Array Oper) : ∀ (n k : Nat), k + n = ops.size → Idx ops (List.range' k n) (ops.toList.drop k)
  | 0, k, h => by
    rw [List.drop_eq_nil_of_le (by rw [Array.length_toList]; omega)]
    trivial
  | n + 1, k, h => by
    have hk : k < ops.toList.length := by rw [Array.length_toList]; omega
    rw [List.drop_eq_getElem_cons hk, List.range'_succ]
    exact ⟨by rw [← Array.getElem?_toList, List.getElem?_eq_getElem hk], idx_range ops n (k + 1) (by omega)⟩
/-- The guard, as it stands. -/
theorem want_sound {ops : Array Oper} {o : Oper} {T : PT Value} {ρ : Env} {a : Act} {b : Bool} (hT : ∀ t, t ∈ o.looksAt ops → ∀ u, T.get t = some u → ∃ v, a.tmps[t]? = some v ∧ VR ρ u v) (h : (wantF ops o).run T = some b) : Region.wanted o (yielded ops a.tmps) = b := by
  unfold wantF at h
  unfold Region.wanted
  cases hg : o.guard with
  | none => rw [hg] at h; simp at h; rw [← h]
  | some g =>
    obtain ⟨j, want⟩ := g
    rw [hg] at h
    simp only [nth_eq] at h
    cases hj : ops.toList[j]? with
    | none => rw [hj] at h; cases h
    | some oj =>
      rw [hj] at h
      simp only at h
      cases hd : oj.dst with
      | none => rw [hd] at h; cases h
      | some d =>
        rw [hd] at h
        have hrun : (match (getF (pathN (d + 1) d)).run T with | some (.bool b) => some (b == want) | some _ => some false | none => none) = some b := h
        rw [getF_eq _ _ _ (Nat.lt_succ_self d)] at hrun
        have hj' : ops[j]? = some oj := by rw [← Array.getElem?_toList]; exact hj
        have hmem : d ∈ o.looksAt ops := by
          unfold Oper.looksAt
          rw [hg]
          refine List.mem_append_right _ ?_
          simp [hj', hd]
        have hy : ∀ v, a.tmps[d]? = some v → yielded ops a.tmps j = match v with | .bool b => some b | _ => none := fun v hv => by
          unfold yielded
          rw [hj']
          simp only [Option.bind_some, hd, hv]
          cases v <;> rfl
        split at hrun
        · rename_i b' hb'
          obtain ⟨v, hv, hr⟩ := hT d hmem _ hb'
          cases hr
          simp only [Option.some.injEq] at hrun
          simp only [hy _ hv]
          rw [← hrun]
          cases b' <;> cases want <;> rfl
        · rename_i u hnb hu
          obtain ⟨v, hv, hr⟩ := hT d hmem u hu
          simp only [Option.some.injEq] at hrun
          rw [← hrun]
          have : yielded ops a.tmps j = none := by
            rw [hy _ hv]
            cases hr <;> first | rfl | exact absurd rfl (hnb _)
          simp only [this]
          cases want <;> rfl
        · cases hrun
theorem undef_VR (ρ : Env) : VR ρ undef undef := .tuple rfl (fun i u v h => by simp at h)

/-- An operation's answer laid in its slot, its new blocks added. -/
def After (dst : Option Tmp) (T T2 : PT Value) (u : Value) : Prop := ∀ {ρ : Env} {tmps : Array Value} {v : Value} {ds : List Deferred}, TR ρ T tmps → VR ρ u v → TR ρ T2 ((({ tmps, defers := ds } : Act).put dst v).tmps)
theorem oneF_inv {o : Oper} {R : OpsC} {T : PT Value} {H : HP} {N lo : Nat} {D : List DE} {r : Ex × St} (h : (oneF P G o R).run call yld T H N lo D = .ok r) :
    ∃ out, aop P G call yld o T H N = .ok out ∧ (match out with
      | .v u d N2 => N ≤ N2 ∧ ∃ T2 H2, R.run call yld T2 H2 N2 lo D = .ok r ∧ After o.dst T T2 u ∧ ∀ n b, H2.get n = some b → (n, b) ∈ d ∨ H.get n = some b
      | .w u H2 N2 lo2 => N ≤ N2 ∧ ∃ T2, R.run call yld T2 H2 N2 (min lo lo2) D = .ok r ∧ After o.dst T T2 u) := by
  have hop := opF_ok P G o
  unfold oneF at h
  cases ho : opF P G o with
  | pure f =>
    rw [ho] at hop h
    have h' : f T (fun u => (putF (β := Ex × St) o.dst).run T u (fun T => R.run call yld T H N lo D)) = .ok r := h
    obtain ⟨u, h1, h2⟩ := hop call yld H T _ r h'
    obtain ⟨T2, h3, h4⟩ := put_get h2
    exact ⟨_, h1 N, Nat.le_refl _, T2, H, h3, h4, fun n b hn => .inr hn⟩
  | gen f =>
    rw [ho] at hop h
    have h' : Rs.rec (motive := fun _ => RX) (fun e => .bad e) (fun out => Out.rec (motive := fun _ => RX)
      (fun u d N' => Bool.rec (motive := fun _ => RX) (.bad 219) ((putF (β := Ex × St) o.dst).run T u (fun T => addX d H (fun H => R.run call yld T H N' lo D))) (Nat.ble N N'))
      (fun u H N' lo' => Bool.rec (motive := fun _ => RX) (.bad 219) ((putF (β := Ex × St) o.dst).run T u (fun T => rawN (Bool.rec (motive := fun _ => Nat) lo' lo (Nat.ble lo lo')) (fun lo => R.run call yld T H N' lo D))) (Nat.ble N N')) out) (f call yld T H N) = .ok r := h
    cases hf : f call yld T H N with
    | bad e => rw [hf] at h'; cases h'
    | ok out =>
      rw [hf] at h'
      refine ⟨out, hop call yld T H N out hf, ?_⟩
      cases out with
      | v u d N2 =>
        have h2 : Bool.rec (motive := fun _ => RX) (.bad 219) ((putF (β := Ex × St) o.dst).run T u (fun T => addX d H (fun H => R.run call yld T H N2 lo D))) (Nat.ble N N2) = .ok r := h'
        cases hb : Nat.ble N N2 with
        | false => rw [hb] at h2; cases h2
        | true =>
          rw [hb] at h2
          obtain ⟨T2, h3, h4⟩ := put_get h2
          obtain ⟨H2, h5, h6⟩ := addX_spec _ _ _ _ h3
          exact ⟨Nat.le_of_ble_eq_true hb, T2, H2, h5, h4, h6⟩
      | w u H2 N2 lo2 =>
        have h2 : Bool.rec (motive := fun _ => RX) (.bad 219) ((putF (β := Ex × St) o.dst).run T u (fun T => rawN (Bool.rec (motive := fun _ => Nat) lo2 lo (Nat.ble lo lo2)) (fun lo => R.run call yld T H2 N2 lo D))) (Nat.ble N N2) = .ok r := h'
        cases hb : Nat.ble N N2 with
        | false => rw [hb] at h2; cases h2
        | true =>
          rw [hb] at h2
          obtain ⟨T2, h3, h4⟩ := put_get h2
          rw [rawN_eq] at h3
          have : Bool.rec (motive := fun _ => Nat) lo2 lo (Nat.ble lo lo2) = min lo lo2 := by
            have hm := min_cond lo lo2
            revert hm
            cases Nat.ble lo lo2 <;> exact id
          rw [this] at h3
          exact ⟨Nat.le_of_ble_eq_true hb, T2, h3, h4⟩
/-- What holds behind code. -/
theorem opsF_on (hc : CallOk P G call) (hy : YldOk P G yld) {ops : Array Oper} : ∀ (l : List Oper) (is : List Nat), Idx ops is l → ∀ T H N lo D x s', (opsF P G ops l).run call yld T H N lo D = .ok (x, s') →
    x = .normal ∧ N ≤ s'.N ∧ ∀ ρ0 N0 w0, Free ρ0 N0 s'.N → Glob G ρ0 → ∀ a w ρ, Inv P ρ0 N0 w0 T H N lo D a w ρ → ∀ ro m Q l2, (∀ a' w' ρ', Inv P ρ0 N0 w0 s'.T s'.H s'.N s'.lo s'.D a' w' ρ' → wpOpsIn (fe ro) m P ops Q l2 a' w') → wpOpsIn (fe ro) m P ops Q (is ++ l2) a w
  | [], is, hi, T, H, N, lo, D, x, s', h => by
    have h' : Rs.ok (Ex.normal, (⟨T, H, N, lo, D⟩ : St)) = .ok (x, s') := h
    cases h'
    cases is with
    | nil => exact ⟨rfl, Nat.le_refl _, fun ρ0 N0 w0 hF hG a w ρ I ro m Q l2 hQ => hQ a w ρ I⟩
    | cons i is => exact hi.elim
  | o :: l, is, hi, T, H, N, lo, D, x, s', h => by
    cases is with
    | nil => exact hi.elim
    | cons i is =>
      obtain ⟨hio, hi'⟩ := hi
      -- the operation is carried out
      have yes : ∀ x s', (oneF P G o (opsF P G ops l)).run call yld T H N lo D = .ok (x, s') → x = .normal ∧ N ≤ s'.N ∧ ∀ ρ0 N0 w0, Free ρ0 N0 s'.N → Glob G ρ0 → ∀ a w ρ, Inv P ρ0 N0 w0 T H N lo D a w ρ → Region.wanted o (yielded ops a.tmps) = true →
          ∀ ro m Q l2, (∀ a' w' ρ', Inv P ρ0 N0 w0 s'.T s'.H s'.N s'.lo s'.D a' w' ρ' → wpOpsIn (fe ro) m P ops Q l2 a' w') → wpOpsIn (fe ro) m P ops Q ((i :: is) ++ l2) a w := fun x s' h => by
        obtain ⟨out, hout, hrest⟩ := oneF_inv h
        cases out with
        | v u d N2 =>
          obtain ⟨hle, T2, H2, hrun, hput, hH2⟩ := hrest
          obtain ⟨e1, e2, e3⟩ := opsF_on hc hy l is hi' T2 H2 N2 lo D x s' hrun
          refine ⟨e1, Nat.le_trans hle e2, fun ρ0 N0 w0 hF hG a w ρ I hw ro m Q l2 hQ => ?_⟩
          have hop := aop_ok hc hy I.wr.sat I.tr (hG.mono I.wr.ext) I.wr.named hout
          rw [List.cons_append, wpOpsIn_cons]
          unfold wpOpIn
          rw [hio]
          simp only [hw, if_true]
          have hF1 : Free ρ N N2 := I.free hF e2
          exact hop.2 I.dom ro m _ Q (fun v w' ρ' hg hv => e3 ρ0 N0 w0 hF hG _ w' ρ' (I.grew hg hF1 hle hH2 (hput (ds := a.defers) (I.tr.mono hg.ext) hv) (put_defers _ _ _)) ro m Q l2 hQ)
        | w u H2 N2 lo2 =>
          obtain ⟨hle, T2, hrun, hput⟩ := hrest
          obtain ⟨e1, e2, e3⟩ := opsF_on hc hy l is hi' T2 H2 N2 _ D x s' hrun
          refine ⟨e1, Nat.le_trans hle e2, fun ρ0 N0 w0 hF hG a w ρ I hw ro m Q l2 hQ => ?_⟩
          have hop := aop_ok hc hy I.wr.sat I.tr (hG.mono I.wr.ext) I.wr.named hout
          rw [List.cons_append, wpOpsIn_cons]
          unfold wpOpIn
          rw [hio]
          simp only [hw, if_true]
          have hF1 : Free ρ N N2 := I.free hF e2
          exact hop.2 I.dom ro m _ Q (fun v w' ρ' hg hv => e3 ρ0 N0 w0 hF hG _ w' ρ' (I.wrote hg hle (hput (ds := a.defers) (I.tr.mono hg.ext) hv) (put_defers _ _ _)) ro m Q l2 hQ)
      cases hg : o.guard with
      | none =>
        have h' : (oneF P G o (opsF P G ops l)).run call yld T H N lo D = .ok (x, s') := by
          have e : opsF P G ops (o :: l) = oneF P G o (opsF P G ops l) := by
            show Option.rec (motive := fun _ => OpsC) (oneF P G o (opsF P G ops l)) _ o.guard = _
            rw [hg]
          rw [e] at h; exact h
        obtain ⟨e1, e2, e3⟩ := yes x s' h'
        exact ⟨e1, e2, fun ρ0 N0 w0 hF hG a w ρ I ro m Q l2 hQ => e3 ρ0 N0 w0 hF hG a w ρ I (by simp [Region.wanted, hg]) ro m Q l2 hQ⟩
      | some g =>
        have h' : Option.rec (motive := fun _ => RX) (.bad 205) (fun b => Bool.rec (motive := fun _ => RX) ((putF (β := Ex × St) o.dst).run T undef (fun T => (opsF P G ops l).run call yld T H N lo D)) ((oneF P G o (opsF P G ops l)).run call yld T H N lo D) b) ((wantF ops o).run T) = .ok (x, s') := by
          have e : opsF P G ops (o :: l) = ⟨fun call yld T H N lo D => Option.rec (motive := fun _ => RX) (.bad 205) (fun b => Bool.rec (motive := fun _ => RX) ((putF (β := Ex × St) o.dst).run T undef (fun T => (opsF P G ops l).run call yld T H N lo D)) ((oneF P G o (opsF P G ops l)).run call yld T H N lo D) b) ((wantF ops o).run T)⟩ := by
            show Option.rec (motive := fun _ => OpsC) _ (fun _ => _) o.guard = _
            rw [hg]
            rfl
          rw [e] at h; exact h
        cases hw : (wantF ops o).run T with
        | none => rw [hw] at h'; cases h'
        | some b =>
          rw [hw] at h'
          have hwant : ∀ {a : Act} {ρ : Env}, TR ρ T a.tmps → Region.wanted o (yielded ops a.tmps) = b := fun hT => want_sound (fun t _ u hu => hT t u hu) hw
          cases b with
          | true =>
            obtain ⟨e1, e2, e3⟩ := yes x s' h'
            exact ⟨e1, e2, fun ρ0 N0 w0 hF hG a w ρ I ro m Q l2 hQ => e3 ρ0 N0 w0 hF hG a w ρ I (hwant I.tr) ro m Q l2 hQ⟩
          | false =>
            obtain ⟨T2, h2, hput⟩ := put_get (show (putF (β := Ex × St) o.dst).run T undef (fun T => (opsF P G ops l).run call yld T H N lo D) = .ok (x, s') from h')
            obtain ⟨e1, e2, e3⟩ := opsF_on hc hy l is hi' T2 H N lo D x s' h2
            refine ⟨e1, e2, fun ρ0 N0 w0 hF hG a w ρ I ro m Q l2 hQ => ?_⟩
            rw [List.cons_append, wpOpsIn_cons]
            unfold wpOpIn
            rw [hio]
            simp only [hwant I.tr, Bool.false_eq_true, if_false]
            exact ⟨fun _ _ => trivial, e3 ρ0 N0 w0 hF hG _ w ρ ⟨I.wr, hput (ds := a.defers) I.tr (undef_VR ρ), I.le, by rw [put_defers]; exact I.dd, I.dom⟩ ro m Q l2 hQ⟩
theorem opsF_sound (hc : CallOk P G call) (hy : YldOk P G yld) {ops : Array Oper} (l : List Oper) (is : List Nat) (hi : Idx ops is l) (T : PT Value) (H : HP) (N lo : Nat) (D : List DE) (x : Ex) (s' : St) (h : (opsF P G ops l).run call yld T H N lo D = .ok (x, s')) :
    x = .normal ∧ N ≤ s'.N ∧ ∀ ρ0 N0 w0, Free ρ0 N0 s'.N → Glob G ρ0 → ∀ a w ρ, Inv P ρ0 N0 w0 T H N lo D a w ρ → ∀ ro m Q, (∀ a' w' ρ', Inv P ρ0 N0 w0 s'.T s'.H s'.N s'.lo s'.D a' w' ρ' → Q .normal a' w') → wpOpsIn (fe ro) m P ops Q is a w := by
  obtain ⟨e1, e2, e3⟩ := opsF_on hc hy l is hi T H N lo D x s' h
  refine ⟨e1, e2, fun ρ0 N0 w0 hF hG a w ρ I ro m Q hQ => ?_⟩
  have := e3 ρ0 N0 w0 hF hG a w ρ I ro m Q [] hQ
  rwa [List.append_nil] at this
end
end Ev
end
section
namespace Ev
open Go Go.RowKit

theorem PT.only {α : Type} (T : PT α) : ∀ (p : Nat → Bool), ∃ T' : PT α, ∀ t, T'.get t = if p t then T.get t else none := by
  induction T with
  | nil => intro p; exact ⟨.nil, fun t => by cases p t <;> rfl⟩
  | node l v r ihl ihr =>
    intro p
    obtain ⟨l', hl⟩ := ihl (fun m => p (2 * m + 1))
    obtain ⟨r', hr⟩ := ihr (fun m => p (2 * m + 2))
    refine ⟨.node l' (if p 0 then v else none) r', fun t => ?_⟩
    rcases PT.three t with rfl | ⟨m, rfl⟩ | ⟨m, rfl⟩
    · rfl
    · rw [PT.get_odd, PT.get_odd]; exact hl m
    · rw [PT.get_even, PT.get_even]; exact hr m
section
variable {P : Program} {G : Nat} {call : CallT} {yld : YldT} {T T' : PT Value} {H : HP} {N : Nat}
theorem vals_congr : ∀ (l : List Operand) (k : List Value → Rs Out), (∀ x ∈ l, aeval G T x = aeval G T' x) → vals G T l k = vals G T' l k
  | [], k, h => rfl
  | x :: l, k, h => by
    have e : ∀ T, vals G T (x :: l) k = match aeval G T x with | some v => vals G T l (fun l => k (v :: l)) | none => .bad 81 := fun _ => rfl
    rw [e, e, h x List.mem_cons_self]
    cases aeval G T' x with
    | none => rfl
    | some v => exact vals_congr l _ (fun y hy => h y (List.mem_cons_of_mem _ hy))
theorem flatC_congr {o : Oper} (hs : ∀ cs b, o.op ≠ .select cs b) (h : ∀ x ∈ o.op.operands, aeval G T x = aeval G T' x) : flatC P G T N o = flatC P G T' N o := by
  unfold flatC
  have e : execOp (aevalD G T) o = execOp (aevalD G T') o := execOp_congr o hs (fun x hx => by simp only [aevalD, h x hx])
  rw [vals_congr _ _ (fun x hx => h x (by simpa using hx)), e]
theorem orFlat_congr {o : Oper} {r : Rs Value} (hs : ∀ cs b, o.op ≠ .select cs b) (h : ∀ x ∈ o.op.operands, aeval G T x = aeval G T' x) : orFlat P G T N o r = orFlat P G T' N o r := by
  unfold orFlat
  cases r with
  | ok v => rfl
  | bad e => exact flatC_congr hs h
theorem optO_congr {x : Option Operand} (h : ∀ y, x = some y → aeval G T y = aeval G T' y) : optO G T x = optO G T' x := by
  unfold optO
  cases x with
  | none => rfl
  | some y => simp only [h y rfl]
theorem aop_congr {o : Oper} (h : ∀ x ∈ o.op.operands, aeval G T x = aeval G T' x) : aop P G call yld o T H N = aop P G call yld o T' H N := by
  obtain ⟨dst, op, type, pos, after, guard⟩ := o
  have fl : (∀ cs b, op ≠ .select cs b) → flatC P G T N ⟨dst, op, type, pos, after, guard⟩ = flatC P G T' N ⟨dst, op, type, pos, after, guard⟩ := fun hs => flatC_congr hs h
  have orf : (∀ cs b, op ≠ .select cs b) → ∀ r, orFlat P G T N ⟨dst, op, type, pos, after, guard⟩ r = orFlat P G T' N ⟨dst, op, type, pos, after, guard⟩ r := fun hs r => orFlat_congr hs h
  cases op with
  | move x => simp only [aop, h x (by simp [Op.operands])]
  | assign x => simp only [aop, h x (by simp [Op.operands])]
  | pick c x y => simp only [aop, h c (by simp [Op.operands]), h x (by simp [Op.operands]), h y (by simp [Op.operands])]
  | box e x => simp only [aop, h x (by simp [Op.operands])]
  | load t x => simp only [aop, h x (by simp [Op.operands])]
  | store t x y => simp only [aop, h x (by simp [Op.operands]), h y (by simp [Op.operands])]
  | makeSlice t x y => simp only [aop, h x (by simp [Op.operands]), h y (by simp [Op.operands])]
  | build t parts =>
    simp only [aop]
    rw [vals_congr _ _ (fun x hx => h x (by simpa [Op.operands] using hx))]
    congr 1
    funext vs
    exact orf (fun _ _ e => (by cases e)) _
  | buildSlice t len parts =>
    simp only [aop]
    exact vals_congr _ _ (fun x hx => h x (by simpa [Op.operands] using hx))
  | nilCheck x => simp only [aop, h x (by simp [Op.operands]), orf (fun _ _ e => (by cases e))]
  | binOp op t x y yt => simp only [aop, h x (by simp [Op.operands]), h y (by simp [Op.operands]), fl (fun _ _ e => (by cases e))]
  | unOp op t x => simp only [aop, h x (by simp [Op.operands]), fl (fun _ _ e => (by cases e))]
  | convert s d x => simp only [aop, h x (by simp [Op.operands]), fl (fun _ _ e => (by cases e))]
  | makeInterface t x => simp only [aop, h x (by simp [Op.operands]), orf (fun _ _ e => (by cases e))]
  | makeFunc fn first captured =>
    cases fn with
    | func f =>
      simp only [aop]
      rw [vals_congr _ _ (fun x hx => h x (by simp [Op.operands]; exact .inl (by simpa using hx)))]
      congr 1
      funext vs
      exact vals_congr _ _ (fun x hx => h x (by simp [Op.operands]; exact .inr (by simpa using hx)))
    | method f =>
      simp only [aop]
      rw [vals_congr _ _ (fun x hx => h x (by simp [Op.operands]; exact .inl (by simpa using hx)))]
      congr 1
      funext vs
      exact vals_congr _ _ (fun x hx => h x (by simp [Op.operands]; exact .inr (by simpa using hx)))
    | _ => rfl
  | slice t x lo hi mx =>
    simp only [aop, h x (by simp [Op.operands]), orf (fun _ _ e => (by cases e)), optO_congr (x := lo) (fun y hy => h y (by subst hy; simp [Op.operands])), optO_congr (x := hi) (fun y hy => h y (by subst hy; simp [Op.operands])), optO_congr (x := mx) (fun y hy => h y (by subst hy; simp [Op.operands]))]
  | fieldAddr t x f => simp only [aop, h x (by simp [Op.operands]), orf (fun _ _ e => (by cases e))]
  | field t x f => simp only [aop, h x (by simp [Op.operands]), orf (fun _ _ e => (by cases e))]
  | indexAddr t x i => simp only [aop, h x (by simp [Op.operands]), h i (by simp [Op.operands]), orf (fun _ _ e => (by cases e))]
  | index t x i => simp only [aop, h x (by simp [Op.operands]), h i (by simp [Op.operands]), orf (fun _ _ e => (by cases e))]
  | lookup t x i ok => simp only [aop, h x (by simp [Op.operands]), h i (by simp [Op.operands]), fl (fun _ _ e => (by cases e))]
  | mapUpdate t x i y => simp only [aop, h x (by simp [Op.operands]), h i (by simp [Op.operands]), h y (by simp [Op.operands])]
  | typeAssert x xt t ok => simp only [aop, h x (by simp [Op.operands]), orf (fun _ _ e => (by cases e))]
  | extract x i => simp only [aop, h x (by simp [Op.operands]), orf (fun _ _ e => (by cases e))]
  | call c =>
    obtain ⟨callee, args, ts⟩ := c
    cases callee with
    | invoke r m =>
      simp only [aop, h r (by simp [Op.operands, Call.operands])]
      have hv : ∀ k, vals G T args.toList k = vals G T' args.toList k := fun k => vals_congr _ _ (fun x hx => h x (by simp [Op.operands, Call.operands]; exact .inr (by simpa using hx)))
      simp only [hv]
    | value f =>
      simp only [aop, h f (by simp [Op.operands, Call.operands])]
      have hv : ∀ k, vals G T args.toList k = vals G T' args.toList k := fun k => vals_congr _ _ (fun x hx => h x (by simp [Op.operands, Call.operands]; exact .inr (by simpa using hx)))
      simp only [hv]
    | builtin b =>
      obtain ⟨args⟩ := args
      obtain ⟨ts⟩ := ts
      have ha : ∀ x ∈ args, aeval G T x = aeval G T' x := fun x hx => h x (by simpa [Op.operands, Call.operands] using hx)
      have hfl := fl (fun _ _ e => (by cases e))
      show builtinC P G _ T H N b args ts = builtinC P G _ T' H N b args ts
      unfold builtinC
      split
      · rename_i x y st xt
        rw [ha x (by simp), ha y (by simp)]
      · rename_i x y st xt
        rw [ha x (by simp), ha y (by simp)]
      · rename_i x t
        simp only [ha x (by simp), hfl]
      · rename_i x t
        simp only [ha x (by simp), hfl]
      · exact hfl
  | makeMap t r => cases r <;> rfl
  | _ => rfl
/-- An operation by its operands alone. -/
theorem aop_looks {ρ : Env} {out : Out} {a : Act} {w : World} {o : Oper} (hc : CallOk P G call) (hy : YldOk P G yld) (hS : Sat P ρ H w) (hT : ∀ t, Operand.tmp t ∈ o.op.operands → ∀ u, T.get t = some u → ∃ v, a.tmps[t]? = some v ∧ VR ρ u v) (hG : Glob G ρ) (hN : ∀ n b, H.get n = some b → n < N) (h : aop P G call yld o T H N = .ok out) : OpOk P o ρ N out a w := by
  obtain ⟨T', hT'⟩ := PT.only T (fun t => o.op.operands.toList.any fun x => match x with | .tmp s => s == t | _ => false)
  have hmem : ∀ t, (o.op.operands.toList.any fun x => match x with | .tmp s => s == t | _ => false) = true ↔ Operand.tmp t ∈ o.op.operands := fun t => by
    rw [List.any_eq_true]
    constructor
    · rintro ⟨x, hx, h⟩
      cases x with
      | tmp s => simp only [beq_iff_eq] at h; subst h; simpa using hx
      | _ => cases h
    · intro h; exact ⟨_, by simpa using h, by simp⟩
  have hcong : aop P G call yld o T H N = aop P G call yld o T' H N := aop_congr (fun x hx => by
    cases x with
    | tmp t =>
      show T.get t = T'.get t
      rw [hT', if_pos ((hmem t).2 hx)]
    | _ => rfl)
  rw [hcong] at h
  refine aop_ok hc hy hS (fun t u hu => ?_) hG hN h
  rw [hT'] at hu
  split at hu
  · rename_i hm; exact hT t ((hmem t).1 hm) u hu
  · cases hu
end
end Ev
end
section
namespace Ev
open Go Go.RowKit

/-- One operation of the head, as it was reckoned. -/
structure HRec where
  o : Oper
  m : List Bool
  T : PT Value
  N : Nat
  b : Bool
  u : Value
  d : List (Nat × AB)
  N' : Nat
  T' : PT Value
def PutOk (dst : Option Tmp) (T : PT Value) (u : Value) (T' : PT Value) : Prop := (dst = none ∧ T' = T) ∨ ∃ d y, dst = some d ∧ T.get d = some y ∧ ∀ j, T'.get j = if j = d then some u else T.get j
theorem put_ok {β : Type} {dst : Option Tmp} {T : PT Value} {u : Value} {k : PT Value → Rs β} {r : β} (h : (putF (β := β) dst).run T u k = .ok r) : ∃ T', k T' = .ok r ∧ PutOk dst T u T' := by
  cases dst with
  | none => exact ⟨T, h, .inl ⟨rfl, rfl⟩⟩
  | some d =>
    have h' : (setF (pathN (d + 1) d)).run T u k = .ok r := h
    rw [setF_eq _ _ _ _ _ (Nat.lt_succ_self d)] at h'
    rcases T.setK_spec d u with hb | ⟨T', y, h1, h2, h3⟩
    · rw [hb] at h'; cases h'
    · rw [h1] at h'
      exact ⟨T', h', .inr ⟨d, y, rfl, h2, h3⟩⟩
section
variable {P : Program} {G : Nat} {call : CallT} {yld : YldT} {ops : Array Oper} {H : HP}
/-- The operations of the head, one behind the other. -/
def Chain (P : Program) (G : Nat) (call : CallT) (yld : YldT) (ops : Array Oper) (H : HP) : PT Value → Nat → List (List (Nat × AB)) → List HRec → PT Value → Nat → Prop
  | T, N, _, [], Tf, Nf => Tf = T ∧ Nf = N
  | T, N, ds, r :: rs, Tf, Nf => r.T = T ∧ r.N = N ∧ (wantF ops r.o).run T = some r.b ∧ N ≤ r.N' ∧
      (if r.b then aop P G call yld r.o T (heapFor H r.m ds) N = .ok (.v r.u r.d r.N') else r.u = undef ∧ r.d = [] ∧ r.N' = N) ∧
      PutOk r.o.dst T r.u r.T' ∧ Chain P G call yld ops H r.T' r.N' (ds ++ [r.d]) rs Tf Nf
theorem headF_inv {k : Option OpsC → PT Value → Nat → List (List (Nat × AB)) → RX} {res : Ex × St} : ∀ (l : List Oper) (an : List (List Bool)) (T : PT Value) (N : Nat) (ds : List (List (Nat × AB))), an.length = l.length → headF call yld k H (headI P G ops l an) T N ds = .ok res →
    ∃ rs rest Tf Nf, l = rs.map (·.o) ++ rest ∧ rs.map (·.m) = an.take rs.length ∧ Chain P G call yld ops H T N ds rs Tf Nf ∧ ((rest = [] ∧ k none Tf Nf (ds ++ rs.map (·.d)) = .ok res) ∨ (rest ≠ [] ∧ k (some (opsF P G ops rest)) Tf Nf (ds ++ rs.map (·.d)) = .ok res))
  | [], an, T, N, ds, hl, h => ⟨[], [], T, N, rfl, by simp, ⟨rfl, rfl⟩, .inl ⟨rfl, by
    show k none T N (ds ++ []) = .ok res
    rw [List.append_nil]; exact h⟩⟩
  | o :: l, [], T, N, ds, hl, h => by simp at hl
  | o :: l, m :: an, T, N, ds, hl, h => by
    have h' : Option.rec (motive := fun _ => RX) (.bad 207) (fun b => Bool.rec (motive := fun _ => RX)
        ((putF (β := Ex × St) o.dst).run T undef fun T' => appK ds [[]] fun ds' => headF call yld k H (headI P G ops l an) T' N ds')
        (OpC.rec (motive := fun _ => RX) (fun f => f T (fun u => (putF (β := Ex × St) o.dst).run T u fun T' => appK ds [[]] fun ds' => headF call yld k H (headI P G ops l an) T' N ds'))
          (fun f => Rs.rec (motive := fun _ => RX) (fun e => .bad e) (fun out => Out.rec (motive := fun _ => RX)
            (fun u d N' => Bool.rec (motive := fun _ => RX) (.bad 219) ((putF (β := Ex × St) o.dst).run T u fun T' => appK ds [d] fun ds' => headF call yld k H (headI P G ops l an) T' N' ds') (Nat.ble N N'))
            (fun _ _ _ _ => k (some (opsF P G ops (o :: l))) T N ds) out) (f call yld T (heapFor H m ds) N)) (opF P G o)) b) ((wantF ops o).run T) = .ok res := h
    have go : ∀ (b : Bool) (u : Value) (d : List (Nat × AB)) (N' : Nat), (wantF ops o).run T = some b → N ≤ N' → (if b then aop P G call yld o T (heapFor H m ds) N = .ok (.v u d N') else u = undef ∧ d = [] ∧ N' = N) →
        ((putF (β := Ex × St) o.dst).run T u fun T' => appK ds [d] fun ds' => headF call yld k H (headI P G ops l an) T' N' ds') = .ok res →
        ∃ rs rest Tf Nf, o :: l = rs.map (·.o) ++ rest ∧ rs.map (·.m) = (m :: an).take rs.length ∧ Chain P G call yld ops H T N ds rs Tf Nf ∧ ((rest = [] ∧ k none Tf Nf (ds ++ rs.map (·.d)) = .ok res) ∨ (rest ≠ [] ∧ k (some (opsF P G ops rest)) Tf Nf (ds ++ rs.map (·.d)) = .ok res)) := fun b u d N' hw hle hb hput => by
      obtain ⟨T', h1, h2⟩ := put_ok hput
      rw [appK_eq] at h1
      obtain ⟨rs, rest, Tf, Nf, e1, e2, e3, e4⟩ := headF_inv l an T' N' (ds ++ [d]) (by simpa using hl) h1
      refine ⟨⟨o, m, T, N, b, u, d, N', T'⟩ :: rs, rest, Tf, Nf, by simp [e1], by simp [e2], ⟨rfl, rfl, hw, hle, hb, h2, e3⟩, ?_⟩
      simpa using e4
    cases hw : (wantF ops o).run T with
    | none => rw [hw] at h'; cases h'
    | some b =>
      rw [hw] at h'
      cases b with
      | false => exact go false undef [] N hw (Nat.le_refl _) (by simp) h'
      | true =>
        have hop := opF_ok P G o
        cases ho : opF P G o with
        | pure f =>
          rw [ho] at hop h'
          obtain ⟨u, h1, h2⟩ := hop call yld (heapFor H m ds) T _ res h'
          exact go true u [] N hw (Nat.le_refl _) (by simp [h1]) h2
        | gen f =>
          rw [ho] at hop h'
          have h2 : Rs.rec (motive := fun _ => RX) (fun e => .bad e) (fun out => Out.rec (motive := fun _ => RX)
            (fun u d N' => Bool.rec (motive := fun _ => RX) (.bad 219) ((putF (β := Ex × St) o.dst).run T u fun T' => appK ds [d] fun ds' => headF call yld k H (headI P G ops l an) T' N' ds') (Nat.ble N N'))
            (fun _ _ _ _ => k (some (opsF P G ops (o :: l))) T N ds) out) (f call yld T (heapFor H m ds) N) = .ok res := h'
          cases hf : f call yld T (heapFor H m ds) N with
          | bad e => rw [hf] at h2; cases h2
          | ok out =>
            rw [hf] at h2
            have haop := hop call yld T _ N out hf
            cases out with
            | v u d N' =>
              have h3 : Bool.rec (motive := fun _ => RX) (.bad 219) ((putF (β := Ex × St) o.dst).run T u fun T' => appK ds [d] fun ds' => headF call yld k H (headI P G ops l an) T' N' ds') (Nat.ble N N') = .ok res := h2
              cases hb : Nat.ble N N' with
              | false => rw [hb] at h3; cases h3
              | true =>
                rw [hb] at h3
                exact go true u d N' hw (Nat.le_of_ble_eq_true hb) (by simp [haop]) h3
            | w u H' N' lo =>
              exact ⟨[], o :: l, T, N, rfl, by simp, ⟨rfl, rfl⟩, .inr ⟨by simp, by simpa using h2⟩⟩
theorem Chain.le : ∀ {rs : List HRec} {T : PT Value} {N : Nat} {ds : List (List (Nat × AB))} {Tf : PT Value} {Nf : Nat}, Chain P G call yld ops H T N ds rs Tf Nf → N ≤ Nf
  | [], _, _, _, _, _, h => by obtain ⟨_, rfl⟩ := h; exact Nat.le_refl _
  | r :: rs, _, _, _, _, _, h => Nat.le_trans h.2.2.2.1 (Chain.le h.2.2.2.2.2.2)
/-- What is known of the operation at place i. -/
theorem Chain.at : ∀ {rs : List HRec} {T : PT Value} {N : Nat} {ds : List (List (Nat × AB))} {Tf : PT Value} {Nf : Nat}, Chain P G call yld ops H T N ds rs Tf Nf → ∀ (i : Nat) (r : HRec), rs[i]? = some r →
    (wantF ops r.o).run r.T = some r.b ∧ N ≤ r.N ∧ r.N ≤ r.N' ∧ r.N' ≤ Nf ∧ (if r.b then aop P G call yld r.o r.T (heapFor H r.m (ds ++ (rs.take i).map (·.d))) r.N = .ok (.v r.u r.d r.N') else r.u = undef ∧ r.d = [] ∧ r.N' = r.N) ∧ PutOk r.o.dst r.T r.u r.T' ∧
    (∀ t v, r.T.get t = some v → (∃ (j : Nat) (r' : HRec), j < i ∧ rs[j]? = some r' ∧ r'.o.dst = some t ∧ v = r'.u) ∨ ((∀ (j : Nat) (r' : HRec), j < i → rs[j]? = some r' → r'.o.dst ≠ some t) ∧ T.get t = some v)) ∧ (∀ (j : Nat) (r' : HRec), j < i → rs[j]? = some r' → r'.N' ≤ r.N)
  | [], _, _, _, _, _, _, i, r, hr => by simp at hr
  | q :: rs, T, N, ds, Tf, Nf, h, i, r, hr => by
    obtain ⟨h1, h2, h3, h4, h5, h6, h7⟩ := h
    cases i with
    | zero =>
      simp at hr
      subst hr
      subst h1
      subst h2
      refine ⟨h3, Nat.le_refl _, h4, Chain.le h7, by simpa using h5, h6, fun t v hv => .inr ⟨fun j r' hj => by omega, hv⟩, fun j r' hj => by omega⟩
    | succ i =>
      simp at hr
      obtain ⟨e1, e2, e3, e4, e5, e6, e7, e8⟩ := Chain.at h7 i r hr
      refine ⟨e1, Nat.le_trans h4 e2, e3, e4, ?_, e6, fun t v hv => ?_, fun j r' hj hr' => ?_⟩
      · simpa [List.append_assoc] using e5
      · rcases e7 t v hv with ⟨j, r', g1, g2, g3, g4⟩ | ⟨g1, g2⟩
        · exact .inl ⟨j + 1, r', by omega, by simpa using g2, g3, g4⟩
        · have put : (q.o.dst = some t ∧ v = q.u) ∨ (q.o.dst ≠ some t ∧ T.get t = some v) := by
            rcases h6 with ⟨k1, k2⟩ | ⟨d, y, k1, k2, k3⟩
            · rw [k2] at g2; exact .inr ⟨by rw [k1]; simp, g2⟩
            · rw [k3] at g2
              by_cases e : t = d
              · subst e; rw [if_pos rfl] at g2; cases g2; exact .inl ⟨k1, rfl⟩
              · rw [if_neg e] at g2; exact .inr ⟨by rw [k1]; simp; exact fun h => e h.symm, g2⟩
          rcases put with ⟨k1, k2⟩ | ⟨k1, k2⟩
          · exact .inl ⟨0, q, by omega, rfl, k1, k2⟩
          · refine .inr ⟨fun j r' hj hr' => ?_, k2⟩
            cases j with
            | zero => simp at hr'; subst hr'; exact k1
            | succ j => simp at hr'; exact g1 j r' (by omega) hr'
      · cases j with
        | zero => simp at hr'; subst hr'; exact e2
        | succ j => simp at hr'; exact e8 j r' (by omega) hr'
/-- The table at the end. -/
theorem Chain.fin : ∀ {rs : List HRec} {T : PT Value} {N : Nat} {ds : List (List (Nat × AB))} {Tf : PT Value} {Nf : Nat}, Chain P G call yld ops H T N ds rs Tf Nf →
    ∀ t v, Tf.get t = some v → (∃ (j : Nat) (r' : HRec), rs[j]? = some r' ∧ r'.o.dst = some t ∧ v = r'.u) ∨ ((∀ (j : Nat) (r' : HRec), rs[j]? = some r' → r'.o.dst ≠ some t) ∧ T.get t = some v)
  | [], _, _, _, _, _, h, t, v, hv => by obtain ⟨rfl, _⟩ := h; exact .inr ⟨fun j r' h => by simp at h, hv⟩
  | q :: rs, T, N, ds, Tf, Nf, h, t, v, hv => by
    obtain ⟨h1, h2, h3, h4, h5, h6, h7⟩ := h
    rcases Chain.fin h7 t v hv with ⟨j, r', g2, g3, g4⟩ | ⟨g1, g2⟩
    · exact .inl ⟨j + 1, r', by simpa using g2, g3, g4⟩
    · have put : (q.o.dst = some t ∧ v = q.u) ∨ (q.o.dst ≠ some t ∧ T.get t = some v) := by
        rcases h6 with ⟨k1, k2⟩ | ⟨d, y, k1, k2, k3⟩
        · rw [k2] at g2; exact .inr ⟨by rw [k1]; simp, g2⟩
        · rw [k3] at g2
          by_cases e : t = d
          · subst e; rw [if_pos rfl] at g2; cases g2; exact .inl ⟨k1, rfl⟩
          · rw [if_neg e] at g2; exact .inr ⟨by rw [k1]; simp; exact fun h => e h.symm, g2⟩
      rcases put with ⟨k1, k2⟩ | ⟨k1, k2⟩
      · exact .inl ⟨0, q, rfl, k1, k2⟩
      · refine .inr ⟨fun j r' hr' => ?_, k2⟩
        cases j with
        | zero => simp at hr'; subst hr'; exact k1
        | succ j => simp at hr'; exact g1 j r' hr'
end
/-- Growth within growth. -/
theorem Grew.sub {P : Program} {ρ1 ρ ρ' : Env} {N1 Nf N N' : Nat} {D d : List (Nat × AB)} {w1 w w' : World} (A : Grew P ρ1 ρ N1 Nf D w1 w) (B : Grew P ρ ρ' N N' d w w') (h1 : N1 ≤ N) (h2 : N' ≤ Nf) : Grew P ρ1 ρ' N1 Nf (D ++ d) w1 w' where
  ext := A.ext.trans B.ext
  same n h := (B.same n (by omega)).trans (A.same n h)
  bel := A.bel.trans (B.bel.mono A.bel.size)
  new n p g1 g2 g3 := by
    by_cases h : N ≤ n ∧ n < N'
    · have := B.new n p h.1 h.2 g3
      exact ⟨Nat.le_trans A.bel.size this.1, this.2⟩
    · rw [B.same n (by omega)] at g3
      have := A.new n p g1 g2 g3
      exact ⟨this.1, Nat.lt_of_lt_of_le this.2 B.bel.size⟩
  dom p hp := by
    rcases List.mem_append.1 hp with h | h
    · exact A.dom p h
    · have := B.dom p h; omega
  blk p hp := by
    rcases List.mem_append.1 hp with h | h
    · obtain ⟨a, C, e1, e2⟩ := A.blk p h
      have hd := A.dom p h
      have hlt := (A.new p.1 (a, C) hd.1 hd.2 e1).2
      exact ⟨a, C, B.ext _ _ e1, by rw [B.bel.block a hlt]; exact e2.mono B.ext⟩
    · exact B.blk p h
  inj p hp q hq a C E e1 e2 := by
    have old : ∀ p ∈ D, ∀ a C, ρ' p.1 = some (a, C) → ρ p.1 = some (a, C) ∧ a < w.heap.size := fun p hp a C e => by
      obtain ⟨a2, C2, k1, _⟩ := A.blk p hp
      have := B.ext _ _ k1
      rw [e] at this
      cases this
      have hd := A.dom p hp
      exact ⟨k1, (A.new p.1 (a, C) hd.1 hd.2 k1).2⟩
    have fresh : ∀ p ∈ d, ∀ a C, ρ' p.1 = some (a, C) → w.heap.size ≤ a := fun p hp a C e => by
      have hd := B.dom p hp
      exact (B.new p.1 (a, C) hd.1 hd.2 e).1
    rcases List.mem_append.1 hp with h | h <;> rcases List.mem_append.1 hq with k | k
    · exact A.inj p h q k a C E (old p h a C e1).1 (old q k a E e2).1
    · have := (old p h a C e1).2; have := fresh q k a E e2; omega
    · have := (old q k a E e2).2; have := fresh p h a C e1; omega
    · exact B.inj p h q k a C E e1 e2
end Ev
end
end Go.Proofs.YtbafiahmcfkboaaDoor
