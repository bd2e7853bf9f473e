/- The reckoner: what is one. The reckoner: a region some of whose head its first writer d. The reckoner: a region some of whose head its first writer d. The reckoner: a region of which one operation may write, the. The reckoner: a region that draws its order. -/
import Derived.Test.YtcjgilagldbjnaaGreatDoorPkBb6
import Derived.Test.YtcjgilagldbjnaaGreatDoorPkBb8
namespace Go.Proofs.YtcjgilagldbjnaaGreatDoor
section
namespace Ev
open Go
theorem beqL_eq {α : Type} {f : α → α → Bool} (hf : ∀ x y, f x y = true → x = y) : ∀ {a b : List α}, beqL f a b = true → a = b
 | [], [], _ => rfl
 | [], _ :: _, h => by cases h
 | _ :: _, [], h => by cases h
 | x :: a, y :: b, h => by
  have h' : (f x y && beqL f a b) = true := h
  rw [Bool.and_eq_true] at h'
  rw [hf x y h'.1, beqL_eq hf h'.2]
theorem beqO_eq {a b : Option Nat} (h : beqO a b = true) : a = b := by
 cases a <;> cases b
 ·rfl
 ·cases h
 ·cases h
 ·exact congrArg some (Nat.eq_of_beq_eq_true h)
theorem beqA_eq {a b : Option Addr} (h : beqA a b = true) : a = b := by
 cases a <;> cases b
 ·rfl
 ·cases h
 ·cases h
 ·rename_i a b
  obtain ⟨n, o, s⟩ := a
  obtain ⟨m, p, t⟩ := b
  have h' : (Nat.beq n m && Nat.beq o p && beqO s t) = true := h
  rw [Bool.and_eq_true, Bool.and_eq_true] at h'
  rw [Nat.eq_of_beq_eq_true h'.1.1, Nat.eq_of_beq_eq_true h'.1.2, beqO_eq h'.2]
theorem beqT_eq {a b : Bool} (h : beqT a b = true) : a = b := by cases a <;> cases b <;> first | rfl | cases h
theorem beqS_eq {a b : ByteArray} (h : beqS a b = true) : a = b := by
 have h1 := beqL_eq (f := fun x y : UInt8 => Nat.beq x.toNat y.toNat) (fun x y h => UInt8.toNat_inj.1 (Nat.eq_of_beq_eq_true h)) h
 cases a
 cases b
 congr 1
 exact Array.ext' h1
theorem eqF_one {a b : Int} (h : eqF a b = true) : a = b := by rw [eqF_eq] at h; exact eq_of_beq h
theorem beqV_eq : ∀ (d : Nat) (a b : Value), beqV d a b = true → a = b := by
 intro d
 induction d with
 | zero => intro a b h; cases h
 | succ d ih =>
  intro a b h
  cases a with
  | bool x => cases b with
   | bool y => exact congrArg Value.bool (beqT_eq h)
   | _ => cases h
  | int j x => cases b with
   | int k y =>
    have h' : (kindEq j k && eqF x y) = true := h
    rw [Bool.and_eq_true] at h'
    rw [kindEq_eq h'.1, eqF_one h'.2]
   | _ => cases h
  | string x => cases b with
   | string y => exact congrArg Value.string (beqS_eq h)
   | _ => cases h
  | pointer x => cases b with
   | pointer y => exact congrArg Value.pointer (beqA_eq h)
   | _ => cases h
  | slice x l c => cases b with
   | slice y m e =>
    have h' : (beqA x y && Nat.beq l m && Nat.beq c e) = true := h
    rw [Bool.and_eq_true, Bool.and_eq_true] at h'
    rw [beqA_eq h'.1.1, Nat.eq_of_beq_eq_true h'.1.2, Nat.eq_of_beq_eq_true h'.2]
   | _ => cases h
  | nilFunc => cases b with
   | nilFunc => rfl
   | _ => cases h
  | nilIface => cases b with
   | nilIface => rfl
   | _ => cases h
  | iface t x => cases b with
   | iface u y =>
    have h' : (Nat.beq t u && beqV d x y) = true := h
    rw [Bool.and_eq_true] at h'
    rw [Nat.eq_of_beq_eq_true h'.1, ih _ _ h'.2]
   | _ => cases h
  | agg xs => cases b with
   | agg ys => exact congrArg Value.agg (Array.ext' (beqL_eq (fun x y => ih x y) h))
   | _ => cases h
  | tuple xs => cases b with
   | tuple ys => exact congrArg Value.tuple (Array.ext' (beqL_eq (fun x y => ih x y) h))
   | _ => cases h
  | float k n => cases h
  | complex k a b => cases h
  | map r => cases h
  | chan r => cases h
  | func f a b => cases h
theorem beqB_eq {a b : AB} (h : beqB a b = true) : a = b := by
 cases a with
 | cells g e l => cases b with
  | cells g' e' m =>
   have h' : (beqT g g' && Nat.beq e e' && beqL (beqV 8) l m) = true := h
   rw [Bool.and_eq_true, Bool.and_eq_true] at h'
   rw [beqT_eq h'.1.1, Nat.eq_of_beq_eq_true h'.1.2, beqL_eq (fun x y => beqV_eq 8 x y) h'.2]
  | _ => cases h
 | _ => cases h
theorem beqP_eq (p q : Nat × AB) (h : beqP p q = true) : p = q := by
 obtain ⟨n, a⟩ := p
 obtain ⟨m, b⟩ := q
 have h' : (Nat.beq n m && beqB a b) = true := h
 rw [Bool.and_eq_true] at h'
 rw [Nat.eq_of_beq_eq_true h'.1, beqB_eq h'.2]
end Ev
end
section
namespace Ev
open Go Go.RowKit
theorem addXs_spec {f : HP → RX} {r : Ex × St} : ∀ (ds : List (List (Nat × AB))) (H : HP), (List.rec (motive := fun _ => HP → RX) f (fun d _ ih H => addX d H ih) ds H) = .ok r → ∃ H', f H' = .ok r ∧ ∀ n b, H'.get n = some b → (∃ d ∈ ds, (n, b) ∈ d) ∨ H.get n = some b
 | [], H, h => ⟨H, h, fun n b h => .inr h⟩
 | d :: ds, H, h => by
  have h' : addX d H (fun H => List.rec (motive := fun _ => HP → RX) f (fun d _ ih H => addX d H ih) ds H) = .ok r := h
  obtain ⟨H1, h1, h2⟩ := addX_spec d H _ r h'
  obtain ⟨H2, h3, h4⟩ := addXs_spec ds H1 h1
  refine ⟨H2, h3, fun n b hn => ?_⟩
  rcases h4 n b hn with ⟨d', g1, g2⟩ | g
  ·exact .inl ⟨d', List.mem_cons_of_mem _ g1, g2⟩
  ·rcases h2 n b g with k | k
   ·exact .inl ⟨d, List.mem_cons_self, k⟩
   ·exact .inr k
theorem Grew.none {P : Program} {ρ : Env} {N N' : Nat} {w : World} (hF : Free ρ N N') : Grew P ρ ρ N N' [] w w :=
 ⟨.refl ρ, fun _ _ => rfl, .refl _ _, fun n p h1 h2 h3 => by rw [hF n h1 h2] at h3; (cases h3), fun p h => by simp at h, fun p h => by simp at h, fun p h => by simp at h⟩
theorem Wrote.drew {P : Program} {ρ0 ρ : Env} {N0 N lo : Nat} {H : HP} {w0 w : World} (A : Wrote P ρ0 ρ N0 N lo H w0 w) : Wrote P ρ0 ρ N0 N lo H w0 { w with drawn := w.drawn + 1 } :=
 ⟨A.ext, A.same, ⟨A.sat.blk, A.sat.inj, A.sat.lt⟩, A.os, A.tape, A.output, A.size, A.keep, A.new, A.named⟩
theorem nilTR (ρ : Env) (tmps : Array Value) : TR ρ .nil tmps := fun i u h => by rw [PT.get_nil] at h; cases h
structure MI (P : Program) (ops : Array Oper) (n : Nat) (ρ0 : Env) (N0 : Nat) (w0 : World) (T : PT Value) (H : HP) (N lo : Nat) (D : List DE) (ls : Array Bool) (a : Act) (w : World) (ρ : Env) : Prop where
 inv : Inv P ρ0 N0 w0 .nil H N lo D a w ρ
 tr : ∀ t u, T.get t = some u → (∀ j o, j < n → ls.getD j true = false → ops[j]? = some o → o.dst ≠ some t) → ∃ v, a.tmps[t]? = some v ∧ VR ρ u v
 room : ∀ j o t, j < n → ls.getD j true = false → ops[j]? = some o → o.dst = some t → t < a.tmps.size
 closed : Closed ops ls
 size : ls.size = ops.size
theorem put_size (a : Act) (d : Option Tmp) (v : Value) : (a.put d v).tmps.size = a.tmps.size := by
 cases d with
 | none => rfl
 | some d => simp [Act.put]
theorem put_at (a : Act) {d : Tmp} (v : Value) (h : d < a.tmps.size) : (a.put (some d) v).tmps[d]? = some v := by simp [Act.put, h]
theorem put_ne (a : Act) {d : Option Tmp} (v : Value) {t : Tmp} (h : d ≠ some t) : (a.put d v).tmps[t]? = a.tmps[t]? := by
 cases d with
 | none => rfl
 | some d =>
  have hne : d ≠ t := fun e => h (by rw [e])
  simp only [Act.put]
  rw [Array.getElem?_setIfInBounds_ne hne]
theorem unset {ls : Array Bool} {i j : Nat} (hi : i < ls.size) (h : (ls.setIfInBounds i true).getD j true = false) : j ≠ i ∧ ls.getD j true = false := by
 by_cases e : i = j
 ·subst e; simp [Array.getD_eq_getD_getElem?, hi] at h
 ·rw [getD_set_ne true e] at h; exact ⟨fun h => e h.symm, h⟩
section
variable {P : Program} {G : Nat} {call : CallT} {yld : YldT} {ops : Array Oper} {n : Nat} {ρ0 : Env} {N0 : Nat} {w0 : World} {T : PT Value} {H : HP} {N lo : Nat} {D : List DE}
theorem chkF_inv : ∀ {fl : List Nat}, chkF P G call yld ops T H N fl = true → ∀ j ∈ fl, ∃ o d u, ops[j]? = some o ∧ o.dst = some d ∧ aop P G call yld o T H N = .ok (.v u [] N) ∧ T.get d = some u
 | [], _, j, hj => by simp at hj
 | i :: fl, h, j, hj => by
  have h' : ((match nth ops.toList i with
   | some o => (match o.dst with
    | some d => (match aop P G call yld o T H N with
     | .ok (.v u [] N') => Nat.beq N' N && (match T.get d with | some u' => beqV 6 u u' | none => false)
     | _ => false)
    | none => false)
   | none => false) && chkF P G call yld ops T H N fl) = true := h
  rw [Bool.and_eq_true] at h'
  rcases List.mem_cons.1 hj with rfl | hj
  ·have h1 := h'.1
   rw [nth_eq, Array.getElem?_toList] at h1
   split at h1
   ·rename_i o ho
    split at h1
    ·rename_i d hd
     split at h1
     ·rename_i u N' hop
      rw [Bool.and_eq_true] at h1
      have hN := Nat.eq_of_beq_eq_true h1.1
      subst hN
      split at h1
      ·rename_i u' hu
       have := beqV_eq 6 _ _ h1.2
       subst this
       exact ⟨o, d, u, ho, hd, hop, hu⟩
      ·exact absurd h1.2 (by simp)
     ·cases h1
    ·cases h1
   ·cases h1
  ·exact chkF_inv h'.2 j hj
theorem MI.float (hc : CallOk P G call) (hy : YldOk P G yld) (hG : Glob G ρ0) {ls : Array Bool} {a : Act} {w : World} {ρ : Env} (I : MI P ops n ρ0 N0 w0 T H N lo D ls a w ρ) {i : Nat} (hi : i < n) (_ : n ≤ ops.size) (hr : i ∈ Region.ready .any ops ls)
  {o on : Oper} {d : Tmp} {u : Value} (ho : ops[i]? = some o) (hd : o.dst = some d) (hop : aop P G call yld o T H N = .ok (.v u [] N)) (hu : T.get d = some u) (hfb : floatB ops n on o = true) (ro : Option Nat) (m : Nat) (Q : Exit → Act → World → Prop) (K : Act → World → Prop)
  (hK : ∀ a' w' ρ', MI P ops n ρ0 N0 w0 T H N lo D (ls.setIfInBounds i true) a' w' ρ' → K a' w') : wpOpIn (fe ro) m P ops Q i K a w := by
 have hun : ls.getD i true = false := (mem_ready.1 hr).1
 have hlt : i < ls.size := getD_size' hun
 unfold floatB at hfb
 simp only [Bool.and_eq_true] at hfb
 obtain ⟨⟨hg, _⟩, hlook⟩ := hfb
 have hguard : o.guard = none := by simpa using hg
 have hw : Region.wanted o (yielded ops a.tmps) = true := by simp [Region.wanted, hguard]
 have hT : ∀ t, Operand.tmp t ∈ o.op.operands → ∀ u, T.get t = some u → ∃ v, a.tmps[t]? = some v ∧ VR ρ u v := fun t ht u hu => I.tr t u hu fun j oj hj hunj hoj hdj => by
  have h1 := List.all_eq_true.1 hlook t (by
   unfold Oper.looksAt
   exact List.mem_append_left _ (List.mem_filterMap.2 ⟨.tmp t, by simpa using ht, rfl⟩))
  have h2 := List.all_eq_true.1 h1 (oj, j) (by
   rw [List.mem_zipIdx_iff_getElem?, List.getElem?_take_of_lt hj, Array.getElem?_toList]; exact hoj)
  simp only [Bool.or_eq_true, bne_iff_ne, ne_eq] at h2
  rcases h2 with h2 | h2
  ·exact h2 hdj
  ·have h3 := waits_ready hr ho h2
   rw [getD_both hunj] at h3
   cases h3
 have hok := aop_looks hc hy I.inv.wr.sat hT (hG.mono I.inv.wr.ext) I.inv.wr.named hop
 unfold wpOpIn
 rw [ho]
 simp only [hw, if_true]
 refine hok.2 I.inv.dom ro m K Q fun v w' ρ' hgr hv => hK _ w' ρ' ⟨I.inv.grew hgr (fun k h1 h2 => by omega) (Nat.le_refl _) (fun k b hk => .inr hk) (nilTR _ _) (put_defers _ _ _), fun t u' ht hh => ?_, fun j oj t hj hunj hoj hdj => ?_, I.closed.set hr, by simp [I.size]⟩
 ·by_cases e : d = t
  ·subst e
   rw [hu] at ht
   cases ht
   exact ⟨v, by rw [hd]; exact put_at a v (I.room i o d hi hun ho hd), hv⟩
  ·obtain ⟨v0, h1, h2⟩ := I.tr t u' ht fun j oj hj hunj hoj hdj => by
    by_cases ej : i = j
    ·subst ej; rw [ho] at hoj; cases hoj; rw [hd] at hdj; cases hdj; exact e rfl
    ·exact hh j oj hj (by rw [getD_set_ne true ej]; exact hunj) hoj hdj
   exact ⟨v0, by rw [put_ne a v (by rw [hd]; exact fun h => e (Option.some.inj h))]; exact h1, h2.mono hgr.ext⟩
 ·rw [put_size]
  exact I.room j oj t hj (unset hlt hunj).2 hoj hdj
theorem one_inv {o : Oper} {R : OpsC} {r : Ex × St} (h : (oneF P G o R).run call yld T H N lo D = .ok r) :
  ∃ out, aop P G call yld o T H N = .ok out ∧ (match out with
   | .v u d N2 => N ≤ N2 ∧ ∃ T2 H2, R.run call yld T2 H2 N2 lo D = .ok r ∧ PutOk o.dst T u T2 ∧ ∀ n b, H2.get n = some b → (n, b) ∈ d ∨ H.get n = some b
   | .w u H2 N2 lo2 => N ≤ N2 ∧ ∃ T2, R.run call yld T2 H2 N2 (min lo lo2) D = .ok r ∧ PutOk o.dst T u T2) := by
 have hop := opF_ok P G o
 unfold oneF at h
 cases ho : opF P G o with
 | pure f =>
  rw [ho] at hop h
  have h' : f T (fun u => (putF (β := Ex × St) o.dst).run T u (fun T => R.run call yld T H N lo D)) = .ok r := h
  obtain ⟨u, h1, h2⟩ := hop call yld H T _ r h'
  obtain ⟨T2, h3, h4⟩ := put_ok h2
  exact ⟨_, h1 N, Nat.le_refl _, T2, H, h3, h4, fun n b hn => .inr hn⟩
 | gen f =>
  rw [ho] at hop h
  have h' : Rs.rec (motive := fun _ => RX) (fun e => .bad e) (fun out => Out.rec (motive := fun _ => RX)
   (fun u d N' => Bool.rec (motive := fun _ => RX) (.bad 219) ((putF (β := Ex × St) o.dst).run T u (fun T => addX d H (fun H => R.run call yld T H N' lo D))) (Nat.ble N N'))
   (fun u H N' lo' => Bool.rec (motive := fun _ => RX) (.bad 219) ((putF (β := Ex × St) o.dst).run T u (fun T => rawN (Bool.rec (motive := fun _ => Nat) lo' lo (Nat.ble lo lo')) (fun lo => R.run call yld T H N' lo D))) (Nat.ble N N')) out) (f call yld T H N) = .ok r := h
  cases hf : f call yld T H N with
  | bad e => rw [hf] at h'; cases h'
  | ok out =>
   rw [hf] at h'
   refine ⟨out, hop call yld T H N out hf, ?_⟩
   cases out with
   | v u d N2 =>
    have h2 : Bool.rec (motive := fun _ => RX) (.bad 219) ((putF (β := Ex × St) o.dst).run T u (fun T => addX d H (fun H => R.run call yld T H N2 lo D))) (Nat.ble N N2) = .ok r := h'
    cases hb : Nat.ble N N2 with
    | false => rw [hb] at h2; cases h2
    | true =>
     rw [hb] at h2
     obtain ⟨T2, h3, h4⟩ := put_ok h2
     obtain ⟨H2, h5, h6⟩ := addX_spec _ _ _ _ h3
     exact ⟨Nat.le_of_ble_eq_true hb, T2, H2, h5, h4, h6⟩
   | w u H2 N2 lo2 =>
    have h2 : Bool.rec (motive := fun _ => RX) (.bad 219) ((putF (β := Ex × St) o.dst).run T u (fun T => rawN (Bool.rec (motive := fun _ => Nat) lo2 lo (Nat.ble lo lo2)) (fun lo => R.run call yld T H2 N2 lo D))) (Nat.ble N N2) = .ok r := h'
    cases hb : Nat.ble N N2 with
    | false => rw [hb] at h2; cases h2
    | true =>
     rw [hb] at h2
     obtain ⟨T2, h3, h4⟩ := put_ok h2
     rw [rawN_eq] at h3
     have : Bool.rec (motive := fun _ => Nat) lo2 lo (Nat.ble lo lo2) = min lo lo2 := by
      have hm := min_cond lo lo2
      revert hm
      cases Nat.ble lo lo2 <;> exact id
     rw [this] at h3
     exact ⟨Nat.le_of_ble_eq_true hb, T2, h3, h4⟩
theorem MI.step (hc : CallOk P G call) (hy : YldOk P G yld) (hG : Glob G ρ0) {ls : Array Bool} {a : Act} {w : World} {ρ : Env} (I : MI P ops n ρ0 N0 w0 T H N lo D ls a w ρ) (hr : n ∈ Region.ready .any ops ls)
  {on : Oper} (hon : ops[n]? = some on) (hgd : on.guard = none) (hlook : ∀ t, t ∈ on.looksAt ops → ∀ j o, j < n → ls.getD j true = false → ops[j]? = some o → o.dst ≠ some t) (_ : ∀ d, on.dst = some d → ∀ j o, j < n → ls.getD j true = false → ops[j]? = some o → o.dst ≠ some d)
  {T1 : PT Value} {H1 : HP} {N1 lo1 : Nat} {D1 : List DE} {x : Ex} (hrun : (opsF P G ops [on]).run call yld T H N lo D = .ok (x, ⟨T1, H1, N1, lo1, D1⟩)) {Nend : Nat} (hF : Free ρ0 N0 Nend) (hend : N1 ≤ Nend) (ro : Option Nat) (m : Nat) (Q : Exit → Act → World → Prop) (K : Act → World → Prop)
  (hK : ∀ a' w' ρ', MI P ops n ρ0 N0 w0 T1 H1 N1 lo1 D1 (ls.setIfInBounds n true) a' w' ρ' → K a' w') : wpOpIn (fe ro) m P ops Q n K a w := by
 have hun : ls.getD n true = false := (mem_ready.1 hr).1
 have hlt : n < ls.size := getD_size' hun
 have hw : Region.wanted on (yielded ops a.tmps) = true := by simp [Region.wanted, hgd]
 have hT : ∀ t, Operand.tmp t ∈ on.op.operands → ∀ u, T.get t = some u → ∃ v, a.tmps[t]? = some v ∧ VR ρ u v := fun t ht u hu => I.tr t u hu (hlook t (by
  unfold Oper.looksAt
  exact List.mem_append_left _ (List.mem_filterMap.2 ⟨.tmp t, by simpa using ht, rfl⟩)))
 have h' : (oneF P G on (opsF P G ops [])).run call yld T H N lo D = .ok (x, ⟨T1, H1, N1, lo1, D1⟩) := by
  have e : opsF P G ops [on] = oneF P G on (opsF P G ops []) := by
   show Option.rec (motive := fun _ => OpsC) (oneF P G on (opsF P G ops [])) _ on.guard = _
   rw [hgd]
  rw [e] at hrun; exact hrun
 obtain ⟨out, hop, hrest⟩ := one_inv h'
 have hok := aop_looks hc hy I.inv.wr.sat hT (hG.mono I.inv.wr.ext) I.inv.wr.named hop
 -- the table behind it
 have hTab : ∀ {u : Value} {T2 : PT Value} {v : Value} {ρ' : Env}, PutOk on.dst T u T2 → VR ρ' u v → Ext ρ ρ' → ∀ t u', T2.get t = some u' → (∀ j o, j < n → (ls.setIfInBounds n true).getD j true = false → ops[j]? = some o → o.dst ≠ some t) → ∃ v', (a.put on.dst v).tmps[t]? = some v' ∧ VR ρ' u' v' := fun {u T2 v ρ'} hp hv hE t u' ht hh => by
  have old : ∀ u', T.get t = some u' → ∃ v, a.tmps[t]? = some v ∧ VR ρ u' v := fun u' hu' => I.tr t u' hu' fun j o hj hunj hoj => hh j o hj (by rw [getD_set_ne true (by omega)]; exact hunj) hoj
  rcases hp with ⟨k1, k2⟩ | ⟨d, y, k1, k2, k3⟩
  ·subst k2
   obtain ⟨v0, e1, e2⟩ := old u' ht
   exact ⟨v0, by rw [k1]; exact e1, e2.mono hE⟩
  ·rw [k3] at ht
   by_cases e : t = d
   ·subst e
    rw [if_pos rfl] at ht
    cases ht
    obtain ⟨v0, e1, _⟩ := old y k2
    exact ⟨v, by rw [k1]; exact put_at a v (Array.getElem?_eq_some_iff.1 e1).1, hv⟩
   ·rw [if_neg e] at ht
    obtain ⟨v0, e1, e2⟩ := old u' ht
    exact ⟨v0, by rw [put_ne a v (by rw [k1]; exact fun h => e (Option.some.inj h).symm)]; exact e1, e2.mono hE⟩
 have hroom : ∀ (v : Value) j o t, j < n → (ls.setIfInBounds n true).getD j true = false → ops[j]? = some o → o.dst = some t → t < (a.put on.dst v).tmps.size := fun v j o t hj hunj hoj hdj => by
  rw [put_size]
  exact I.room j o t hj (unset hlt hunj).2 hoj hdj
 unfold wpOpIn
 rw [hon]
 simp only [hw, if_true]
 cases out with
 | v u d N2 =>
  obtain ⟨hle, T2, H2, hfin, hput, hH2⟩ := hrest
  have hf : Rs.ok (Ex.normal, (⟨T2, H2, N2, lo, D⟩ : St)) = .ok (x, ⟨T1, H1, N1, lo1, D1⟩) := hfin
  cases hf
  exact hok.2 I.inv.dom ro m K Q fun v w' ρ' hgr hv => hK _ w' ρ' ⟨I.inv.grew hgr (I.inv.free hF hend) hle hH2 (nilTR _ _) (put_defers _ _ _), hTab hput hv hgr.ext, hroom v, I.closed.set hr, by simp [I.size]⟩
 | w u H2 N2 lo2 =>
  obtain ⟨hle, T2, hfin, hput⟩ := hrest
  have hf : Rs.ok (Ex.normal, (⟨T2, H2, N2, min lo lo2, D⟩ : St)) = .ok (x, ⟨T1, H1, N1, lo1, D1⟩) := hfin
  cases hf
  exact hok.2 I.inv.dom ro m K Q fun v w' ρ' hgr hv => hK _ w' ρ' ⟨I.inv.wrote hgr hle (nilTR _ _) (put_defers _ _ _), hTab hput hv hgr.ext, hroom v, I.closed.set hr, by simp [I.size]⟩
end
end Ev
end
section
namespace Ev
open Go Go.RowKit
theorem mem_floats {ops : Array Oper} {n j : Nat} : j ∈ floats ops n ↔ j < n ∧ ancB ops n j = false := by
 unfold floats
 rw [List.mem_filter, List.mem_range]
 simp
section
variable {P : Program} {G : Nat} {call : CallT} {yld : YldT} {ops : Array Oper} {n : Nat} {ρ0 : Env} {N0 : Nat} {w0 : World} {on : Oper}
variable {T : PT Value} {H : HP} {N lo : Nat} {D : List DE} {T1 : PT Value} {H1 : HP} {N1 lo1 : Nat} {D1 : List DE}
structure FForm (ops : Array Oper) (n : Nat) (on : Oper) : Prop where
 at_ : ops[n]? = some on
 guard : on.guard = none
 flo : ∀ j, j ∈ floats ops n → ∃ oj, ops[j]? = some oj ∧ floatB ops n on oj = true
 edges : edges1B (ops.toList.take (n + 1)) 0 = true
 anc : ∀ k, n < k → k < ops.size → ∀ j, j ≤ n → ancB ops k j = true
 seq : seq1B ops (ops.size - (n + 1)) (n + 1) (endA ops.size (n + 1)) = true
theorem FForm.of {ops : Array Oper} {n : Nat} (h : okF ops n = true) : ∃ on, FForm ops n on := by
 unfold okF at h
 simp only [Bool.and_eq_true] at h
 obtain ⟨⟨⟨h1, h2⟩, h3⟩, h4⟩ := h
 split at h4
 ·rename_i on hon
  simp only [Bool.and_eq_true] at h4
  refine ⟨on, hon, by simpa using h4.1, fun j hj => ?_, h3, fun k hk hks j hj => ?_, h2⟩
  ·have h5 := List.all_eq_true.1 h4.2 j hj
   split at h5
   ·rename_i oj hoj; exact ⟨oj, hoj, h5⟩
   ·cases h5
  ·have h5 := List.all_eq_true.1 h1 k (by rw [List.mem_range']; exact ⟨k - (n + 1), by omega, by omega⟩)
   exact List.all_eq_true.1 h5 j (List.mem_range.2 (by omega))
 ·cases h4
theorem FForm.lt (F : FForm ops n on) : n < ops.size := (Array.getElem?_eq_some_iff.1 F.at_).1
theorem FForm.first (F : FForm ops n on) {ls : Array Bool} (hsz : ls.size = ops.size) {j : Nat} (hj : j ≤ n) (hun : ls.getD j true = false) (hbef : ∀ k, k < j → ls.getD k true = true) : j ∈ Region.ready .any ops ls := by
 have hjo : j < ops.size := Nat.lt_of_le_of_lt hj F.lt
 refine mem_ready.2 ⟨hun, ops[j], Array.getElem?_eq_getElem hjo, fun e he hb => ?_⟩
 have h1 := edges1_spec _ 0 j ops[j] e F.edges (by
  rw [List.getElem?_take_of_lt (by omega), Array.getElem?_toList]; exact Array.getElem?_eq_getElem hjo) he hb
 exact getD_true (by omega) (hbef e.on (by omega))
theorem FForm.no_late (F : FForm ops n on) {ls : Array Bool} (hcl : Closed ops ls) {i j : Nat} (hr : i ∈ Region.ready .any ops ls) (hj : j ≤ n) (hun : ls.getD j true = false) : i ≤ n := by
 rcases Nat.lt_or_ge n i with h | h
 ·obtain ⟨_, o, ho, _⟩ := mem_ready.1 hr
  have := ready_anc hcl hr (F.anc i h (Array.getElem?_eq_some_iff.1 ho).1 j hj)
  rw [getD_both hun] at this
  cases this
 ·exact h
theorem stage2 (F : FForm ops n on) (hc : CallOk P G call) (hy : YldOk P G yld) (hG : Glob G ρ0) (hchk : chkF P G call yld ops T1 H1 N1 (floats ops n) = true) (ro : Option Nat) (m : Nat) (Q : Exit → Act → World → Prop)
  (hend : ∀ a w ρ, Inv P ρ0 N0 w0 T1 H1 N1 lo1 D1 a w ρ → wpOpsIn (fe ro) m P ops Q (List.range' (n + 1) (ops.size - (n + 1))) a w) :
  ∀ k fuel ls a w ρ, MI P ops n ρ0 N0 w0 T1 H1 N1 lo1 D1 ls a w ρ → ls.getD n true = true → (∀ i, n < i → i < ops.size → ls.getD i true = false) → (∀ j, j < n → ls.getD j true = false → ancB ops n j = false) → openC ls n = k → fuel = ops.size - (n + 1) + k → wpAnyIn (fe ro) m P .any ops Q fuel ls a w
 | 0, fuel, ls, a, w, ρ, I, hn, htl, hfl, hk, hfu => by
  have hall := openC_zero _ hk
  obtain rfl : ls = endA ops.size (n + 1) := endA_eq I.size (fun j hj => by
   by_cases e : j = n
   ·rw [e]; exact hn
   ·exact hall j (by omega)) (fun t h1 h2 => htl t (by omega) h2)
  rw [hfu, Nat.add_zero]
  exact tail_any _ _ _ a w F.seq (hend a w ρ ⟨I.inv.wr, fun t u h => I.tr t u h (fun j o hj hun => by rw [hall j hj] at hun; cases hun), I.inv.le, I.inv.dd, I.inv.dom⟩)
 | k + 1, fuel, ls, a, w, ρ, I, hn, htl, hfl, hk, hfu => by
  obtain ⟨f, rfl⟩ : ∃ f, fuel = f + 1 := ⟨ops.size - (n + 1) + k, by omega⟩
  obtain ⟨j, hj, hun, hbef⟩ := openC_first n (by omega : openC ls n ≠ 0)
  have hjr := F.first I.size (by omega) hun hbef
  refine ⟨fun h0 => (by rw [h0] at hjr; cases hjr), fun i hi => ?_⟩
  have hui : ls.getD i true = false := (mem_ready.1 hi).1
  have hin : i < n := by
   have h1 := F.no_late I.closed hi (show j ≤ n by omega) hun
   rcases Nat.lt_or_ge i n with h | h
   ·exact h
   ·obtain rfl : i = n := by omega
    rw [hn] at hui; cases hui
  have hif := mem_floats.2 ⟨hin, hfl i hin hui⟩
  obtain ⟨o, d, u, c1, c2, c3, c4⟩ := chkF_inv hchk i hif
  obtain ⟨oj, d1, d2⟩ := F.flo i hif
  rw [c1] at d1
  cases d1
  refine I.float hc hy hG hin (Nat.le_of_lt F.lt) hi c1 c2 c3 c4 d2 ro m Q _ (fun a' w' ρ' I' => ?_)
  have ho := openC_set hui (getD_size' hui) n hin
  exact stage2 F hc hy hG hchk ro m Q hend k f _ a' w' ρ' I' (by rw [getD_set_ne true (by omega)]; exact hn) (fun t h1 h2 => by rw [getD_set_ne true (by omega)]; exact htl t h1 h2)
   (fun t h1 h2 => hfl t h1 (unset (getD_size' hui) h2).2) (by omega) (by omega)
theorem stage1 (F : FForm ops n on) (hc : CallOk P G call) (hy : YldOk P G yld) (hG : Glob G ρ0) (hchk0 : chkF P G call yld ops T H N (floats ops n) = true) (hchk : chkF P G call yld ops T1 H1 N1 (floats ops n) = true)
  {x : Ex} (hrun : (opsF P G ops [on]).run call yld T H N lo D = .ok (x, ⟨T1, H1, N1, lo1, D1⟩)) {Nend : Nat} (hF : Free ρ0 N0 Nend) (hNend : N1 ≤ Nend) (ro : Option Nat) (m : Nat) (Q : Exit → Act → World → Prop)
  (hend : ∀ a w ρ, Inv P ρ0 N0 w0 T1 H1 N1 lo1 D1 a w ρ → wpOpsIn (fe ro) m P ops Q (List.range' (n + 1) (ops.size - (n + 1))) a w) :
  ∀ k fuel ls a w ρ, MI P ops n ρ0 N0 w0 T H N lo D ls a w ρ → (∀ i, n ≤ i → i < ops.size → ls.getD i true = false) → (∀ j, j < n → ls.getD j true = false → ancB ops n j = false) → openC ls n = k → fuel = ops.size - n + k → wpAnyIn (fe ro) m P .any ops Q fuel ls a w := by
 intro k
 induction k with
 | zero =>
  intro fuel ls a w ρ I htl hfl hk hfu
  have hlt := F.lt
  obtain ⟨f, rfl⟩ : ∃ f, fuel = f + 1 := ⟨ops.size - (n + 1), by omega⟩
  have hall := openC_zero _ hk
  have hnr := F.first I.size (Nat.le_refl n) (htl n (Nat.le_refl _) hlt) hall
  refine ⟨fun h0 => (by rw [h0] at hnr; cases hnr), fun i hi => ?_⟩
  have hui : ls.getD i true = false := (mem_ready.1 hi).1
  have h1 := F.no_late I.closed hi (Nat.le_refl n) (htl n (Nat.le_refl _) hlt)
  obtain rfl : i = n := by
   rcases Nat.lt_or_ge i n with h | h
   ·rw [hall i h] at hui; cases hui
   ·omega
  refine I.step hc hy hG hi F.at_ F.guard (fun t _ j o hj hun => by rw [hall j hj] at hun; cases hun) (fun d _ j o hj hun => by rw [hall j hj] at hun; cases hun) hrun hF hNend ro m Q _ (fun a' w' ρ' I' => ?_)
  exact stage2 F hc hy hG hchk ro m Q hend 0 f _ a' w' ρ' I' (by simp [Array.getD_eq_getD_getElem?, getD_size' hui]) (fun t h1 h2 => by rw [getD_set_ne true (by omega)]; exact htl t (by omega) h2)
   (fun t h1 h2 => hfl t h1 (unset (getD_size' hui) h2).2) (by rw [openC_same _ (Nat.le_refl _)]; exact hk) (by omega)
 | succ k ih =>
  intro fuel ls a w ρ I htl hfl hk hfu
  have hlt := F.lt
  obtain ⟨f, rfl⟩ : ∃ f, fuel = f + 1 := ⟨ops.size - n + k, by omega⟩
  obtain ⟨j, hj, hun, hbef⟩ := openC_first n (by omega : openC ls n ≠ 0)
  have hjr := F.first I.size (by omega) hun hbef
  refine ⟨fun h0 => (by rw [h0] at hjr; cases hjr), fun i hi => ?_⟩
  have hui : ls.getD i true = false := (mem_ready.1 hi).1
  have h1 := F.no_late I.closed hi (Nat.le_refl n) (htl n (Nat.le_refl _) hlt)
  rcases Nat.lt_or_ge i n with hin | hin
  ·have hif := mem_floats.2 ⟨hin, hfl i hin hui⟩
   obtain ⟨o, d, u, c1, c2, c3, c4⟩ := chkF_inv hchk0 i hif
   obtain ⟨oj, d1, d2⟩ := F.flo i hif
   rw [c1] at d1
   cases d1
   refine I.float hc hy hG hin (Nat.le_of_lt hlt) hi c1 c2 c3 c4 d2 ro m Q _ (fun a' w' ρ' I' => ?_)
   have ho := openC_set hui (getD_size' hui) n hin
   exact ih f _ a' w' ρ' I' (fun t h1 h2 => by rw [getD_set_ne true (by omega)]; exact htl t h1 h2) (fun t h1 h2 => hfl t h1 (unset (getD_size' hui) h2).2) (by omega) (by omega)
  ·obtain rfl : i = n := by omega
   have flo : ∀ j o, j < i → ls.getD j true = false → ops[j]? = some o → floatB ops i on o = true := fun j o hj hun hoj => by
    obtain ⟨oj, d1, d2⟩ := F.flo j (mem_floats.2 ⟨hj, hfl j hj hun⟩)
    rw [hoj] at d1
    cases d1
    exact d2
   refine I.step hc hy hG hi F.at_ F.guard (fun t ht j o hj hun hoj hd => ?_) (fun d hd j o hj hun hoj hd2 => ?_) hrun hF hNend ro m Q _ (fun a' w' ρ' I' => ?_)
   ·have h2 := flo j o hj hun hoj
    unfold floatB at h2
    rw [hd] at h2
    simp only [Bool.and_eq_true, Bool.not_eq_true', List.contains_eq_mem, decide_eq_false_iff_not] at h2
    exact h2.1.2.1 ht
   ·have h2 := flo j o hj hun hoj
    unfold floatB at h2
    rw [hd2, hd] at h2
    simp at h2
   ·exact stage2 F hc hy hG hchk ro m Q hend (k + 1) f _ a' w' ρ' I' (by simp [Array.getD_eq_getD_getElem?, getD_size' hui]) (fun t h1 h2 => by rw [getD_set_ne true (by omega)]; exact htl t (by omega) h2)
     (fun t h1 h2 => hfl t h1 (unset (getD_size' hui) h2).2) (by rw [openC_same _ (Nat.le_refl _)]; exact hk) (by omega)
end
section
variable {P : Program} {G : Nat} {call : CallT} {yld : YldT} {ops : Array Oper} {on : Oper} {Hb : HP} {Tb Tf : PT Value} {Nb Nf : Nat} {rs : List HRec} {ρb : Env} {wb : World} {ab : Act} {ρ0 : Env} {N0 : Nat} {w0 : World} {lo : Nat} {D : List DE} {H' : HP}
variable {T1 : PT Value} {H1 : HP} {N1 lo1 : Nat} {D1 : List DE}
theorem stage0 (F : FForm ops rs.length on) (hc : CallOk P G call) (hy : YldOk P G yld) (hG0 : Glob G ρ0) (IB : Inv P ρ0 N0 w0 Tb Hb Nb lo D ab wb ρb) (hF : Free ρb Nb Nf)
  (hch : Chain P G call yld ops Hb Tb Nb [] rs Tf Nf) (hrs : rs.map (·.o) = ops.toList.take rs.length) (hm : rs.map (·.m) = (ancs ops.toList).take rs.length) (hD : dsts1B (ops.toList.take rs.length) = true) (hE : edges1B (ops.toList.take rs.length) 0 = true) (hL : looksB ops (ops.toList.take rs.length) = true)
  (hnone : ∀ j r, rs[j]? = some r → ancB ops rs.length j = false → r.d = []) (hH' : ∀ n b, H'.get n = some b → (∃ d ∈ rs.map (·.d), (n, b) ∈ d) ∨ Hb.get n = some b)
  (hchk0 : chkF P G call yld ops Tf H' Nf (floats ops rs.length) = true) (hchk : chkF P G call yld ops T1 H1 N1 (floats ops rs.length) = true)
  {x : Ex} (hrun : (opsF P G ops [on]).run call yld Tf H' Nf lo D = .ok (x, ⟨T1, H1, N1, lo1, D1⟩)) {Nend : Nat} (hF0 : Free ρ0 N0 Nend) (hNend : N1 ≤ Nend) (ro : Option Nat) (m : Nat) (Q : Exit → Act → World → Prop)
  (hend : ∀ a w ρ, Inv P ρ0 N0 w0 T1 H1 N1 lo1 D1 a w ρ → wpOpsIn (fe ro) m P ops Q (List.range' (rs.length + 1) (ops.size - (rs.length + 1))) a w) :
  ∀ k fuel ls a w ρ D', HInv P ops rs ρb Nb Nf ab wb ls a w ρ D' → openC ls rs.length = k → fuel = ops.size - rs.length + k → wpAnyIn (fe ro) m P .any ops Q fuel ls a w := by
 have hlt := F.lt
 have hrec : ∀ j, j < rs.length → ∃ r, rs[j]? = some r := fun j hj => ⟨_, List.getElem?_eq_getElem hj⟩
 have hopr : ∀ (j : Nat) (r : HRec), rs[j]? = some r → ops[j]? = some r.o ∧ (ops.toList.take rs.length)[j]? = some r.o := fun j r hr => by
  have hj : j < rs.length := (List.getElem?_eq_some_iff.1 hr).1
  have e1 : (rs.map (·.o))[j]? = some r.o := by rw [List.getElem?_map, hr]; rfl
  rw [hrs] at e1
  refine ⟨?_, e1⟩
  rw [List.getElem?_take_of_lt hj, Array.getElem?_toList] at e1; exact e1
 intro k
 induction k with
 | zero =>
  intro fuel ls a w ρ D' I hk hfu
  have hall := openC_zero _ hk
  exact go I (fun j hj hun => by rw [hall j hj] at hun; cases hun) hk hfu
 | succ k ih =>
  intro fuel ls a w ρ D' I hk hfu
  by_cases hs : ∃ j, j < rs.length ∧ ls.getD j true = false ∧ ancB ops rs.length j = true
  ·obtain ⟨f, rfl⟩ : ∃ f, fuel = f + 1 := ⟨ops.size - rs.length + k, by omega⟩
   obtain ⟨j, hj, hun, hbef⟩ := openC_first rs.length (by omega : openC ls rs.length ≠ 0)
   have hjr := F.first I.size (by omega) hun hbef
   refine ⟨fun h0 => (by rw [h0] at hjr; cases hjr), fun i hi => ?_⟩
   obtain ⟨q, hq1, hq2, hq3⟩ := hs
   have hir : i < rs.length := by
    have h1 := F.no_late I.closed hi (Nat.le_of_lt hq1) hq2
    rcases Nat.lt_or_ge i rs.length with h | h
    ·exact h
    ·obtain rfl : i = rs.length := by omega
     have := ready_anc I.closed hi hq3
     rw [getD_both hq2] at this
     cases this
   have hui : ls.getD i true = false := (mem_ready.1 hi).1
   refine head_step hc hy IB.wr.sat IB.wr.named (hG0.mono IB.wr.ext) IB.dom IB.tr hch hrs hm hD hE hL I hir hi ro m Q _ (fun a' w' ρ' D' I' => ?_)
   have ho := openC_set hui (getD_size' hui) rs.length hir
   exact ih f _ a' w' ρ' D' I' (by omega) (by omega)
  ·exact go I (fun j hj hun => by
    cases h : ancB ops rs.length j with
    | false => rfl
    | true => exact absurd ⟨j, hj, hun, h⟩ hs) hk hfu
 where
 go {k fuel : Nat} {ls : Array Bool} {a : Act} {w : World} {ρ : Env} {D' : List (Nat × AB)} (I : HInv P ops rs ρb Nb Nf ab wb ls a w ρ D') (hfl : ∀ j, j < rs.length → ls.getD j true = false → ancB ops rs.length j = false) (hk : openC ls rs.length = k) (hfu : fuel = ops.size - rs.length + k) : wpAnyIn (fe ro) m P .any ops Q fuel ls a w := by
  have hopr : ∀ (j : Nat) (r : HRec), rs[j]? = some r → ops[j]? = some r.o ∧ (ops.toList.take rs.length)[j]? = some r.o := fun j r hr => by
   have hj : j < rs.length := (List.getElem?_eq_some_iff.1 hr).1
   have e1 : (rs.map (·.o))[j]? = some r.o := by rw [List.getElem?_map, hr]; rfl
   rw [hrs] at e1
   refine ⟨?_, e1⟩
   rw [List.getElem?_take_of_lt hj, Array.getElem?_toList] at e1; exact e1
  have hlt := F.lt
  have listed : ∀ j, j < rs.length → ls.getD j true = true → ls.getD j false = true := fun j hj h => getD_true (by rw [I.size]; omega) h
  refine stage1 F hc hy hG0 hchk0 hchk hrun hF0 hNend ro m Q hend k fuel ls a w ρ ⟨IB.grew I.grew hF hch.le (fun n b hn => ?_) (nilTR _ _) I.dfr, fun t u hu hh => ?_, fun j o t hj hun hoj hd => ?_, I.closed, I.size⟩ (fun i h1 h2 => I.tail i h1 h2) hfl hk hfu
  ·rcases hH' n b hn with ⟨d, g1, g2⟩ | g
   ·obtain ⟨r, hr, rfl⟩ := List.mem_map.1 g1
    obtain ⟨j, hj⟩ := List.getElem?_of_mem hr
    have hjl : j < rs.length := (List.getElem?_eq_some_iff.1 hj).1
    cases hv : ls.getD j true with
    | true => exact .inl (I.cov j r _ (listed j hjl hv) hj g2)
    | false => rw [hnone j r hj (hfl j hjl hv)] at g2; simp at g2
   ·exact .inr g
  ·rcases hch.fin t u hu with ⟨j, r, g1, g2, rfl⟩ | ⟨g1, g2⟩
   ·have hjl : j < rs.length := (List.getElem?_eq_some_iff.1 g1).1
    cases hv : ls.getD j true with
    | true =>
     obtain ⟨y, hy1, hy2⟩ := I.got j r t (listed j hjl hv) g1 g2
     exact ⟨y, hy1, hy2.mono (cut_ext _ _)⟩
    | false => exact absurd g2 (hh j r.o hjl hv (hopr j r g1).1)
   ·obtain ⟨y, hy1, hy2⟩ := IB.tr t u g2
    refine ⟨y, ?_, hy2.mono I.grew.ext⟩
    rw [I.old t (fun i r _ hr => g1 i r hr)]
    exact hy1
  ·obtain ⟨r, hr⟩ : ∃ r, rs[j]? = some r := ⟨_, List.getElem?_eq_getElem hj⟩
   have ho' := (hopr j r hr).1
   rw [hoj] at ho'
   cases ho'
   obtain ⟨c1, c2, c3, c4, c5, c6, c7, c8⟩ := hch.at j r hr
   rcases c6 with ⟨k1, _⟩ | ⟨d, y, k1, k2, k3⟩
   ·rw [k1] at hd; cases hd
   ·rw [k1] at hd
    cases hd
    rcases c7 t y k2 with ⟨i, q, g1, g2, g3, _⟩ | ⟨_, g2⟩
    ·exact absurd k1 (dsts1_ne _ i j q.o r.o hD (hopr i q g2).2 (hopr j r hr).2 (by omega) t g3)
    ·obtain ⟨v0, hv0, _⟩ := IB.tr t y g2
     have hold := I.old t (fun i q hli hq hqd => by
      have hij : i ≠ j := fun e => by subst e; rw [getD_both hun] at hli; cases hli
      exact dsts1_ne _ i j q.o r.o hD (hopr i q hq).2 (hopr j r hr).2 hij t hqd k1)
     rw [← hold] at hv0
     exact (Array.getElem?_eq_some_iff.1 hv0).1
end
end Ev
end
section
namespace Ev
open Go Go.RowKit
structure WForm (ops : Array Oper) (k : Nat) : Prop where
 lt : k < ops.size
 edges : edges1B ops.toList 0 = true
 guard : ∀ (j : Nat) (o : Oper), ops[j]? = some o → o.guard = none
 dst : ∀ (j : Nat) (o : Oper), ops[j]? = some o → j ≠ k → ∃ d, o.dst = some d
 look : ∀ (j : Nat) (o : Oper), ops[j]? = some o → ∀ t, t ∈ o.looksAt ops → ∀ (i : Nat) (q : Oper), ops[i]? = some q → q.dst = some t → waits1B o i = true
 own : ∀ (i j : Nat) (p q : Oper), ops[i]? = some p → ops[j]? = some q → i ≠ j → ∀ t, p.dst = some t → q.dst ≠ some t
theorem WForm.of {ops : Array Oper} {k : Nat} (h : okW ops k = true) : WForm ops k := by
 unfold okW at h
 simp only [Bool.and_eq_true] at h
 obtain ⟨⟨h1, h2⟩, h3⟩ := h
 have at_ : ∀ (j : Nat) (o : Oper), ops[j]? = some o → (o, j) ∈ ops.toList.zipIdx := fun j o ho => by
  rw [List.mem_zipIdx_iff_getElem?, Array.getElem?_toList]; exact ho
 have all := fun (j : Nat) (o : Oper) (ho : ops[j]? = some o) => List.all_eq_true.1 h3 (o, j) (at_ j o ho)
 simp only [Bool.and_eq_true] at all
 refine ⟨by have := Nat.le_of_ble_eq_true (show Nat.ble (k + 1) ops.size = true from h1); omega, h2, fun j o ho => by simpa using (all j o ho).1.1.1, fun j o ho hj => ?_, fun j o ho t ht i q hq hd => ?_, fun i j p q hp hq hij t ht hd => ?_⟩
 ·have := (all j o ho).1.1.2
  simp only [Bool.or_eq_true, beq_iff_eq] at this
  rcases this with h | h
  ·exact Option.isSome_iff_exists.1 h
  ·exact absurd h hj
 ·have h4 := List.all_eq_true.1 ((all j o ho).1.2) t ht
  have h5 := List.all_eq_true.1 h4 (q, i) (at_ i q hq)
  simp only [Bool.or_eq_true, bne_iff_ne, ne_eq] at h5
  rcases h5 with h5 | h5
  ·exact absurd hd h5
  ·exact h5
 ·have h4 := List.all_eq_true.1 ((all i p hp).2) (q, j) (at_ j q hq)
  simp only [Bool.or_eq_true, beq_iff_eq, bne_iff_ne, ne_eq] at h4
  rcases h4 with (h4 | h4) | h4
  ·exact hij h4.symm
  ·rw [ht] at h4; cases h4
  ·exact h4 (hd.trans ht.symm)
section
variable {P : Program} {G : Nat} {call : CallT} {yld : YldT} {ops : Array Oper} {k : Nat} {ρ0 : Env} {N0 : Nat} {w0 : World}
variable {T : PT Value} {H : HP} {N lo : Nat} {D : List DE} {T1 T2 : PT Value} {H1 : HP} {N1 lo1 : Nat} {D1 : List DE}
theorem runV_inv {x : Ex × St} : ∀ {l : List Nat} {T : PT Value} {kk : PT Value → RX}, runV P G call yld ops H N l T kk = .ok x → ∃ T', kk T' = .ok x ∧ ∀ t u, T'.get t = some u → (∃ (j : Nat) (o : Oper), j ∈ l ∧ ops[j]? = some o ∧ o.dst = some t) ∨ T.get t = some u
 | [], T, kk, h => ⟨T, h, fun t u e => .inr e⟩
 | j :: l, T, kk, h => by
  have h' : (match nth ops.toList j with
   | some o => (match o.dst with
    | some d => (match aop P G call yld o T H N with
     | .ok (.v u _ _) => T.setK d u (fun T' => runV P G call yld ops H N l T' kk) (.bad 261)
     | .ok _ => .bad 262
     | .bad e => .bad e)
    | none => .bad 263)
   | none => .bad 264) = .ok x := h
  rw [nth_eq, Array.getElem?_toList] at h'
  split at h'
  ·rename_i o ho
   split at h'
   ·rename_i d hd
    split at h'
    ·rename_i u _ _ hop
     rcases T.setK_spec d u with hb | ⟨T', y, h1, h2, h3⟩
     ·rw [hb] at h'; cases h'
     ·rw [h1] at h'
      obtain ⟨T2, g1, g2⟩ := runV_inv h'
      refine ⟨T2, g1, fun t v e => ?_⟩
      rcases g2 t v e with ⟨i, q, k1, k2, k3⟩ | e2
      ·exact .inl ⟨i, q, List.mem_cons_of_mem _ k1, k2, k3⟩
      ·rw [h3] at e2
       by_cases ht : t = d
       ·subst ht; exact .inl ⟨j, o, List.mem_cons_self, ho, hd⟩
       ·rw [if_neg ht] at e2; exact .inr e2
    ·cases h'
    ·cases h'
   ·cases h'
  ·cases h'
theorem MI.up (F : WForm ops k) (hc : CallOk P G call) (hy : YldOk P G yld) (hG : Glob G ρ0) {ls : Array Bool} {a : Act} {w : World} {ρ : Env} (I : MI P ops ops.size ρ0 N0 w0 T H N lo D ls a w ρ) {i : Nat} (hr : i ∈ Region.ready .any ops ls)
  {o : Oper} {d : Tmp} {u : Value} (ho : ops[i]? = some o) (hd : o.dst = some d) (hop : aop P G call yld o T H N = .ok (.v u [] N)) (hu : T.get d = some u) (ro : Option Nat) (m : Nat) (Q : Exit → Act → World → Prop) (K : Act → World → Prop)
  (hK : ∀ a' w' ρ', MI P ops ops.size ρ0 N0 w0 T H N lo D (ls.setIfInBounds i true) a' w' ρ' → K a' w') : wpOpIn (fe ro) m P ops Q i K a w := by
 have hun : ls.getD i true = false := (mem_ready.1 hr).1
 have hlt : i < ls.size := getD_size' hun
 have hi : i < ops.size := (Array.getElem?_eq_some_iff.1 ho).1
 have hw : Region.wanted o (yielded ops a.tmps) = true := by simp [Region.wanted, F.guard i o ho]
 have hT : ∀ t, Operand.tmp t ∈ o.op.operands → ∀ u, T.get t = some u → ∃ v, a.tmps[t]? = some v ∧ VR ρ u v := fun t ht u hu => I.tr t u hu fun j oj hj hunj hoj hdj => by
  have h3 := waits_ready hr ho (F.look i o ho t (by
   unfold Oper.looksAt
   exact List.mem_append_left _ (List.mem_filterMap.2 ⟨.tmp t, by simpa using ht, rfl⟩)) j oj hoj hdj)
  rw [getD_both hunj] at h3
  cases h3
 have hok := aop_looks hc hy I.inv.wr.sat hT (hG.mono I.inv.wr.ext) I.inv.wr.named hop
 unfold wpOpIn
 rw [ho]
 simp only [hw, if_true]
 refine hok.2 I.inv.dom ro m K Q fun v w' ρ' hgr hv => hK _ w' ρ' ⟨I.inv.grew hgr (fun k h1 h2 => by omega) (Nat.le_refl _) (fun k b hk => .inr hk) (nilTR _ _) (put_defers _ _ _), fun t u' ht hh => ?_, fun j oj t hj hunj hoj hdj => ?_, I.closed.set hr, by simp [I.size]⟩
 ·by_cases e : d = t
  ·subst e
   rw [hu] at ht
   cases ht
   exact ⟨v, by rw [hd]; exact put_at a v (I.room i o d hi hun ho hd), hv⟩
  ·obtain ⟨v0, h1, h2⟩ := I.tr t u' ht fun j oj hj hunj hoj hdj => by
    by_cases ej : i = j
    ·subst ej; rw [ho] at hoj; cases hoj; rw [hd] at hdj; cases hdj; exact e rfl
    ·exact hh j oj hj (by rw [getD_set_ne true ej]; exact hunj) hoj hdj
   exact ⟨v0, by rw [put_ne a v (by rw [hd]; exact fun h => e (Option.some.inj h))]; exact h1, h2.mono hgr.ext⟩
 ·rw [put_size]
  exact I.room j oj t hj (unset hlt hunj).2 hoj hdj
theorem MI.wstep (F : WForm ops k) (hc : CallOk P G call) (hy : YldOk P G yld) (hG : Glob G ρ0) {ls : Array Bool} {a : Act} {w : World} {ρ : Env} (I : MI P ops ops.size ρ0 N0 w0 T H N lo D ls a w ρ) (hr : k ∈ Region.ready .any ops ls)
  {on : Oper} (hon : ops[k]? = some on) {x : Ex} (hrun : (opsF P G ops [on]).run call yld T H N lo D = .ok (x, ⟨T1, H1, N1, lo1, D1⟩)) (hT2 : ∀ t u, T2.get t = some u → (∃ (j : Nat) (o : Oper), j ∈ postW ops k ∧ ops[j]? = some o ∧ o.dst = some t) ∨ T1.get t = some u)
  {Nend : Nat} (hF : Free ρ0 N0 Nend) (hend : N1 ≤ Nend) (ro : Option Nat) (m : Nat) (Q : Exit → Act → World → Prop) (K : Act → World → Prop)
  (hK : ∀ a' w' ρ', MI P ops ops.size ρ0 N0 w0 T2 H1 N1 lo1 D1 (ls.setIfInBounds k true) a' w' ρ' → K a' w') : wpOpIn (fe ro) m P ops Q k K a w := by
 have hun : ls.getD k true = false := (mem_ready.1 hr).1
 have hlt : k < ls.size := getD_size' hun
 have hgd := F.guard k on hon
 have hw : Region.wanted on (yielded ops a.tmps) = true := by simp [Region.wanted, hgd]
 have hT : ∀ t, Operand.tmp t ∈ on.op.operands → ∀ u, T.get t = some u → ∃ v, a.tmps[t]? = some v ∧ VR ρ u v := fun t ht u hu => I.tr t u hu fun j oj hj hunj hoj hdj => by
  have h3 := waits_ready hr hon (F.look k on hon t (by
   unfold Oper.looksAt
   exact List.mem_append_left _ (List.mem_filterMap.2 ⟨.tmp t, by simpa using ht, rfl⟩)) j oj hoj hdj)
  rw [getD_both hunj] at h3
  cases h3
 have h' : (oneF P G on (opsF P G ops [])).run call yld T H N lo D = .ok (x, ⟨T1, H1, N1, lo1, D1⟩) := by
  have e : opsF P G ops [on] = oneF P G on (opsF P G ops []) := by
   show Option.rec (motive := fun _ => OpsC) (oneF P G on (opsF P G ops [])) _ on.guard = _
   rw [hgd]
  rw [e] at hrun; exact hrun
 obtain ⟨out, hop, hrest⟩ := one_inv h'
 have hok := aop_looks hc hy I.inv.wr.sat hT (hG.mono I.inv.wr.ext) I.inv.wr.named hop
 have hTab : ∀ {u : Value} {v : Value} {ρ' : Env}, PutOk on.dst T u T1 → VR ρ' u v → Ext ρ ρ' → ∀ t u', T2.get t = some u' → (∀ j o, j < ops.size → (ls.setIfInBounds k true).getD j true = false → ops[j]? = some o → o.dst ≠ some t) → ∃ v', (a.put on.dst v).tmps[t]? = some v' ∧ VR ρ' u' v' := fun {u v ρ'} hp hv hE t u' ht2 hh => by
  have ht : T1.get t = some u' := by
   rcases hT2 t u' ht2 with ⟨j, o, g1, g2, g3⟩ | g
   ·exfalso
    unfold postW at g1
    rw [List.mem_filter, List.mem_range] at g1
    have h2 := g1.2
    rw [Bool.and_eq_true, bne_iff_ne] at h2
    have hunj : ls.getD j true = false := by
     cases hv : ls.getD j true with
     | false => rfl
     | true =>
      have := I.closed j k (getD_true (by rw [I.size]; exact g1.1) hv) h2.2
      rw [getD_both hun] at this
      cases this
    exact hh j o g1.1 (by rw [getD_set_ne true (Ne.symm h2.1)]; exact hunj) g2 g3
   ·exact g
  have old : ∀ u', T.get t = some u' → on.dst ≠ some t → ∃ v, a.tmps[t]? = some v ∧ VR ρ u' v := fun u' hu' hne => I.tr t u' hu' fun j o hj hunj hoj hdj => by
   by_cases e : j = k
   ·subst e; rw [hon] at hoj; cases hoj; exact hne hdj
   ·exact hh j o hj (by rw [getD_set_ne true (Ne.symm e)]; exact hunj) hoj hdj
  rcases hp with ⟨k1, k2⟩ | ⟨d, y, k1, k2, k3⟩
  ·rw [k2] at ht
   obtain ⟨v0, e1, e2⟩ := old u' ht (by rw [k1]; simp)
   exact ⟨v0, by rw [k1]; exact e1, e2.mono hE⟩
  ·rw [k3] at ht
   by_cases e : t = d
   ·subst e
    rw [if_pos rfl] at ht
    cases ht
    exact ⟨v, by rw [k1]; exact put_at a v (I.room k on t F.lt hun hon k1), hv⟩
   ·rw [if_neg e] at ht
    have hne : on.dst ≠ some t := by rw [k1]; exact fun h => e (Option.some.inj h).symm
    obtain ⟨v0, e1, e2⟩ := old u' ht hne
    exact ⟨v0, by rw [put_ne a v hne]; exact e1, e2.mono hE⟩
 have hroom : ∀ (v : Value) j o t, j < ops.size → (ls.setIfInBounds k true).getD j true = false → ops[j]? = some o → o.dst = some t → t < (a.put on.dst v).tmps.size := fun v j o t hj hunj hoj hdj => by
  rw [put_size]
  exact I.room j o t hj (unset hlt hunj).2 hoj hdj
 unfold wpOpIn
 rw [hon]
 simp only [hw, if_true]
 cases out with
 | v u d N2 =>
  obtain ⟨hle, T3, H2, hfin, hput, hH2⟩ := hrest
  have hf : Rs.ok (Ex.normal, (⟨T3, H2, N2, lo, D⟩ : St)) = .ok (x, ⟨T1, H1, N1, lo1, D1⟩) := hfin
  cases hf
  exact hok.2 I.inv.dom ro m K Q fun v w' ρ' hgr hv => hK _ w' ρ' ⟨I.inv.grew hgr (I.inv.free hF hend) hle hH2 (nilTR _ _) (put_defers _ _ _), hTab hput hv hgr.ext, hroom v, I.closed.set hr, by simp [I.size]⟩
 | w u H2 N2 lo2 =>
  obtain ⟨hle, T3, hfin, hput⟩ := hrest
  have hf : Rs.ok (Ex.normal, (⟨T3, H2, N2, min lo lo2, D⟩ : St)) = .ok (x, ⟨T1, H1, N1, lo1, D1⟩) := hfin
  cases hf
  exact hok.2 I.inv.dom ro m K Q fun v w' ρ' hgr hv => hK _ w' ρ' ⟨I.inv.wrote hgr hle (nilTR _ _) (put_defers _ _ _), hTab hput hv hgr.ext, hroom v, I.closed.set hr, by simp [I.size]⟩
theorem WForm.first (F : WForm ops k) {ls : Array Bool} (hsz : ls.size = ops.size) {j : Nat} (hj : j < ops.size) (hun : ls.getD j true = false) (hbef : ∀ i, i < j → ls.getD i true = true) : j ∈ Region.ready .any ops ls := by
 refine mem_ready.2 ⟨hun, ops[j], Array.getElem?_eq_getElem hj, fun e he hb => ?_⟩
 have h1 := edges1_spec _ 0 j ops[j] e F.edges (by rw [Array.getElem?_toList]; exact Array.getElem?_eq_getElem hj) he hb
 exact getD_true (by omega) (hbef e.on (by omega))
theorem all_up {ls : Array Bool} (_ : ls.size = ops.size) (h : openC ls ops.size = 0) : (Region.ready .any ops ls).isEmpty = true := by
 cases hr : Region.ready .any ops ls with
 | nil => rfl
 | cons i is =>
  exfalso
  have hi : i ∈ Region.ready .any ops ls := by rw [hr]; exact List.mem_cons_self
  obtain ⟨hui, o, ho, _⟩ := mem_ready.1 hi
  have := openC_zero _ h i (Array.getElem?_eq_some_iff.1 ho).1
  rw [this] at hui; cases hui
theorem wstage1 (F : WForm ops k) (hc : CallOk P G call) (hy : YldOk P G yld) (hG : Glob G ρ0) (hchk : chkF P G call yld ops T2 H1 N1 (behW ops k) = true) (ro : Option Nat) (m : Nat) (Q : Exit → Act → World → Prop)
  (hend : ∀ a w ρ, Inv P ρ0 N0 w0 T2 H1 N1 lo1 D1 a w ρ → Q .normal a w) :
  ∀ c ls a w ρ, MI P ops ops.size ρ0 N0 w0 T2 H1 N1 lo1 D1 ls a w ρ → ls.getD k true = true → (∀ j, j < ops.size → ls.getD j true = false → ancB ops k j = false) → openC ls ops.size = c → wpAnyIn (fe ro) m P .any ops Q c ls a w
 | 0, ls, a, w, ρ, I, hk, hfl, ho => by
  have hall := openC_zero _ ho
  exact ⟨by simpa using all_up I.size ho, hend a w ρ ⟨I.inv.wr, fun t u h => I.tr t u h (fun j o hj hun => by rw [hall j hj] at hun; cases hun), I.inv.le, I.inv.dd, I.inv.dom⟩⟩
 | c + 1, ls, a, w, ρ, I, hk, hfl, ho => by
  obtain ⟨j, hj, hun, hbef⟩ := openC_first ops.size (by omega : openC ls ops.size ≠ 0)
  have hjr := F.first I.size hj hun hbef
  refine ⟨fun h0 => (by rw [h0] at hjr; cases hjr), fun i hi => ?_⟩
  have hui : ls.getD i true = false := (mem_ready.1 hi).1
  obtain ⟨o0, ho0, _⟩ := (mem_ready.1 hi).2
  have hio : i < ops.size := (Array.getElem?_eq_some_iff.1 ho0).1
  have hik : i ≠ k := fun e => by subst e; rw [hk] at hui; cases hui
  have hib : i ∈ behW ops k := by
   unfold behW
   rw [List.mem_filter, List.mem_range]
   refine ⟨hio, ?_⟩
   rw [hfl i hio hui]
   simpa using hik
  obtain ⟨o, d, u, c1, c2, c3, c4⟩ := chkF_inv hchk i hib
  refine I.up F hc hy hG hi c1 c2 c3 c4 ro m Q _ (fun a' w' ρ' I' => ?_)
  have hoc := openC_set hui (getD_size' hui) ops.size hio
  exact wstage1 F hc hy hG hchk ro m Q hend c _ a' w' ρ' I' (by rw [getD_set_ne true hik]; exact hk) (fun t h1 h2 => hfl t h1 (unset (getD_size' hui) h2).2) (by omega)
theorem wstage0 (F : WForm ops k) (hc : CallOk P G call) (hy : YldOk P G yld) (hG : Glob G ρ0) {on : Oper} (hon : ops[k]? = some on) (hchk0 : chkF P G call yld ops T H N (preW ops k) = true) (hchk : chkF P G call yld ops T2 H1 N1 (behW ops k) = true)
  {x : Ex} (hrun : (opsF P G ops [on]).run call yld T H N lo D = .ok (x, ⟨T1, H1, N1, lo1, D1⟩)) (hT2 : ∀ t u, T2.get t = some u → (∃ (j : Nat) (o : Oper), j ∈ postW ops k ∧ ops[j]? = some o ∧ o.dst = some t) ∨ T1.get t = some u)
  {Nend : Nat} (hF : Free ρ0 N0 Nend) (hNend : N1 ≤ Nend) (ro : Option Nat) (m : Nat) (Q : Exit → Act → World → Prop) (hend : ∀ a w ρ, Inv P ρ0 N0 w0 T2 H1 N1 lo1 D1 a w ρ → Q .normal a w) :
  ∀ c ls a w ρ, MI P ops ops.size ρ0 N0 w0 T H N lo D ls a w ρ → ls.getD k true = false → openC ls ops.size = c → wpAnyIn (fe ro) m P .any ops Q c ls a w
 | 0, ls, a, w, ρ, I, hk, ho => by
  have := openC_zero _ ho k F.lt
  rw [hk] at this; cases this
 | c + 1, ls, a, w, ρ, I, hk, ho => by
  obtain ⟨j, hj, hun, hbef⟩ := openC_first ops.size (by omega : openC ls ops.size ≠ 0)
  have hjr := F.first I.size hj hun hbef
  refine ⟨fun h0 => (by rw [h0] at hjr; cases hjr), fun i hi => ?_⟩
  have hui : ls.getD i true = false := (mem_ready.1 hi).1
  obtain ⟨o0, ho0, _⟩ := (mem_ready.1 hi).2
  have hio : i < ops.size := (Array.getElem?_eq_some_iff.1 ho0).1
  have hoc := openC_set hui (getD_size' hui) ops.size hio
  by_cases hik : i = k
  ·subst hik
   refine I.wstep F hc hy hG hi hon hrun hT2 hF hNend ro m Q _ (fun a' w' ρ' I' => ?_)
   refine wstage1 F hc hy hG hchk ro m Q hend c _ a' w' ρ' I' (by simp [Array.getD_eq_getD_getElem?, getD_size' hui]) (fun t h1 h2 => ?_) (by omega)
   cases h : ancB ops i t with
   | false => rfl
   | true =>
    have h3 := ready_anc I.closed hi h
    rw [getD_both (unset (getD_size' hui) h2).2] at h3
    cases h3
  ·have hip : i ∈ preW ops k := by
    unfold preW
    rw [List.mem_filter, List.mem_range]
    refine ⟨hio, ?_⟩
    have : ancB ops i k = false := by
     cases h : ancB ops i k with
     | false => rfl
     | true =>
      have h3 := ready_anc I.closed hi h
      rw [getD_both hk] at h3
      cases h3
    rw [this]
    simpa using hik
   obtain ⟨o, d, u, c1, c2, c3, c4⟩ := chkF_inv hchk0 i hip
   refine I.up F hc hy hG hi c1 c2 c3 c4 ro m Q _ (fun a' w' ρ' I' => ?_)
   exact wstage0 F hc hy hG hon hchk0 hchk hrun hT2 hF hNend ro m Q hend c _ a' w' ρ' I' (by rw [getD_set_ne true hik]; exact hk) (by omega)
theorem oneW_sound (hc : CallOk P G call) (hy : YldOk P G yld) {x : Ex} {s' : St} (h : oneW P G call yld ops k T H N lo D = .ok (x, s')) :
  x = .normal ∧ N ≤ s'.N ∧ ∀ ρ0 N0 w0, Free ρ0 N0 s'.N → Glob G ρ0 → ∀ a w ρ, Inv P ρ0 N0 w0 T H N lo D a w ρ → ∀ ro m Q, (∀ a' w' ρ', Inv P ρ0 N0 w0 s'.T s'.H s'.N s'.lo s'.D a' w' ρ' → Q .normal a' w') → wpAnyIn (fe ro) m P .any ops Q ops.size (Array.replicate ops.size false) a w := by
 unfold oneW at h
 cases hb : (okW ops k && roomB T ops k) with
 | false => rw [hb] at h; cases h
 | true =>
  rw [hb] at h
  rw [Bool.and_eq_true] at hb
  have F := WForm.of hb.1
  cases hon : ops[k]? with
  | none => rw [hon] at h; cases h
  | some on =>
   rw [hon] at h
   obtain ⟨T0, h1, hT0⟩ := runV_inv h
   cases hc0 : chkF P G call yld ops T0 H N (preW ops k) with
   | false => rw [hc0] at h1; cases h1
   | true =>
    rw [hc0] at h1
    cases hr : (opsF P G ops [on]).run call yld T0 H N lo D with
    | bad e => rw [hr] at h1; cases h1
    | ok p =>
     obtain ⟨x1, T1, H1, N1, lo1, D1⟩ := p
     rw [hr] at h1
     obtain ⟨T2, h2, hT2⟩ := runV_inv h1
     cases hc1 : chkF P G call yld ops T2 H1 N1 (behW ops k) with
     | false => rw [hc1] at h2; cases h2
     | true =>
      rw [hc1] at h2
      cases h2
      obtain ⟨_, hN1, _⟩ := opsF_sound hc hy [on] [k] ⟨hon, trivial⟩ T0 H N lo D x1 _ hr
      have hN1' : N ≤ N1 := hN1
      refine ⟨rfl, hN1', fun ρ0 N0 w0 hF hG a w ρ I ro m Q hQ => ?_⟩
      have hk : (Array.replicate ops.size false).getD k true = false := by simp [Array.getD_eq_getD_getElem?, F.lt]
      have hno : ∀ i, ¬ (Array.replicate ops.size false).getD i false = true := fun i h => by
       simp [Array.getD_eq_getD_getElem?] at h
       rcases Nat.lt_or_ge i ops.size with hi | hi
       ·simp [hi] at h
       ·simp [Nat.not_lt.2 hi] at h
      have hopen : ∀ j, j < ops.size → (Array.replicate ops.size false).getD j true = false := fun j hj => by simp [Array.getD_eq_getD_getElem?, hj]
      refine wstage0 F hc hy hG hon hc0 hc1 hr hT2 hF (Nat.le_refl _) ro m Q (fun a' w' ρ' I' => hQ a' w' ρ' I') ops.size _ a w ρ ⟨⟨I.wr, nilTR _ _, I.le, I.dd, I.dom⟩, fun t u ht hh => ?_, fun j o t hj _ ho hd => ?_, fun i j hi => absurd hi (hno i), by simp⟩ hk (openC_new _ _ (Nat.le_refl _))
      ·rcases hT0 t u ht with ⟨j, o, g1, g2, g3⟩ | g
       ·have hj : j < ops.size := (Array.getElem?_eq_some_iff.1 g2).1
        exact absurd g3 (hh j o hj (hopen j hj) g2)
       ·exact I.tr t u g
      ·by_cases e : j = k
       ·subst e
        rw [hon] at ho
        cases ho
        have h' : (oneF P G on (opsF P G ops [])).run call yld T0 H N lo D = .ok (x1, ⟨T1, H1, N1, lo1, D1⟩) := by
         have e : opsF P G ops [on] = oneF P G on (opsF P G ops []) := by
          show Option.rec (motive := fun _ => OpsC) (oneF P G on (opsF P G ops [])) _ on.guard = _
          rw [F.guard j on hon]
         rw [e] at hr; exact hr
        obtain ⟨out, _, hrest⟩ := one_inv h'
        have hput : ∃ u T3, PutOk on.dst T0 u T3 := by
         cases out with
         | v u d N2 => exact ⟨u, _, hrest.2.choose_spec.choose_spec.2.1⟩
         | w u H2 N2 lo2 => exact ⟨u, _, hrest.2.choose_spec.2⟩
        obtain ⟨u, T3, hp⟩ := hput
        rcases hp with ⟨k1, _⟩ | ⟨d, y, k1, k2, _⟩
        ·rw [k1] at hd; cases hd
        ·rw [k1] at hd
         cases hd
         rcases hT0 t y k2 with ⟨i, q, g1, g2, g3⟩ | g
         ·unfold preW at g1
          rw [List.mem_filter] at g1
          have h2 := g1.2
          rw [Bool.and_eq_true, bne_iff_ne] at h2
          exact absurd k1 (F.own i j q on g2 hon h2.1 t g3)
         ·obtain ⟨v0, hv0, _⟩ := I.tr t y g
          exact (Array.getElem?_eq_some_iff.1 hv0).1
       ·have h4 := List.all_eq_true.1 hb.2 (o, j) (by rw [List.mem_zipIdx_iff_getElem?, Array.getElem?_toList]; exact ho)
        simp only [Bool.or_eq_true, beq_iff_eq] at h4
        rcases h4 with h4 | h4
        ·exact absurd h4 e
        ·rw [hd] at h4
         obtain ⟨y, hy'⟩ := Option.isSome_iff_exists.1 h4
         obtain ⟨v0, hv0, _⟩ := I.tr t y hy'
         exact (Array.getElem?_eq_some_iff.1 hv0).1
end
end Ev
end
section
namespace Ev
open Go Go.RowKit
section
variable {P : Program} {G : Nat} {call : CallT} {yld : YldT} {ops : Array Oper} {H1 : HP} {T1 Tf : PT Value} {N1 Nf : Nat} {rs : List HRec} {ρ1 : Env} {w1 : World} {a1 : Act}
theorem head_all (hc : CallOk P G call) (hy : YldOk P G yld) (hS : Sat P ρ1 H1 w1) (hN1 : ∀ n b, H1.get n = some b → n < N1) (hG : Glob G ρ1) (hDm : Dom ρ1 N1) (hT : TR ρ1 T1 a1.tmps)
  (hch : Chain P G call yld ops H1 T1 N1 [] rs Tf Nf) (hrs : rs.map (·.o) = ops.toList.take rs.length) (hm : rs.map (·.m) = (ancs ops.toList).take rs.length) (hD : dsts1B (ops.toList.take rs.length) = true) (hE : edges1B (ops.toList.take rs.length) 0 = true) (hL : looksB ops (ops.toList.take rs.length) = true)
  (hn : rs.length ≤ ops.size) (hanc : ∀ i, rs.length ≤ i → i < ops.size → ∀ j, j < rs.length → ((ancs ops.toList).getD i []).getD j false = true) (hseq : seq1B ops (ops.size - rs.length) rs.length (endA ops.size rs.length) = true)
  (ro : Option Nat) (m : Nat) (Q : Exit → Act → World → Prop)
  (hend : ∀ a w ρ D, HInv P ops rs ρ1 N1 Nf a1 w1 (endA ops.size rs.length) a w ρ D → wpOpsIn (fe ro) m P ops Q (List.range' rs.length (ops.size - rs.length)) a w) :
  ∀ k fuel ls a w ρ D, HInv P ops rs ρ1 N1 Nf a1 w1 ls a w ρ D → openC ls rs.length = k → fuel = ops.size - rs.length + k → wpAnyIn (fe ro) m P .any ops Q fuel ls a w
 | 0, fuel, ls, a, w, ρ, D, I, hk, hfu => by
  obtain rfl : ls = endA ops.size rs.length := endA_eq I.size (openC_zero _ hk) I.tail
  rw [hfu, Nat.add_zero]
  exact tail_any _ _ _ a w hseq (hend a w ρ D I)
 | k + 1, fuel, ls, a, w, ρ, D, I, hk, hfu => by
  obtain ⟨f, rfl⟩ : ∃ f, fuel = f + 1 := ⟨ops.size - rs.length + k, by omega⟩
  obtain ⟨j, hj, hun, hbef⟩ := openC_first rs.length (by omega : openC ls rs.length ≠ 0)
  have hsz := I.size
  have hjr : j ∈ Region.ready .any ops ls := by
   have hjo : j < ops.size := by omega
   refine mem_ready.2 ⟨hun, ops[j], Array.getElem?_eq_getElem hjo, fun e he hb => ?_⟩
   have h1 := edges1_spec _ 0 j ops[j] e hE (by
    rw [List.getElem?_take_of_lt hj, Array.getElem?_toList]; exact Array.getElem?_eq_getElem hjo) he hb
   exact getD_true (by omega) (hbef e.on (by omega))
  refine ⟨fun h0 => (by rw [h0] at hjr; cases hjr), fun i hi => ?_⟩
  have hir : i < rs.length := by
   rcases Nat.lt_or_ge i rs.length with h | h
   ·exact h
   ·obtain ⟨hui, o, ho, _⟩ := mem_ready.1 hi
    have hio : i < ops.size := (Array.getElem?_eq_some_iff.1 ho).1
    have := ready_anc I.closed hi (hanc i h hio j hj)
    rw [getD_both hun] at this
    cases this
  have hui : ls.getD i true = false := (mem_ready.1 hi).1
  refine head_step hc hy hS hN1 hG hDm hT hch hrs hm hD hE hL I hir hi ro m Q _ (fun a' w' ρ' D' I' => ?_)
  have ho := openC_set hui (getD_size' hui) rs.length hir
  exact head_all hc hy hS hN1 hG hDm hT hch hrs hm hD hE hL hn hanc hseq ro m Q hend k f _ a' w' ρ' D' I' (by omega) (by omega)
end
section
variable {P : Program} {G : Nat} {call : CallT} {yld : YldT} {ops : Array Oper}
theorem drawF_run {okTail : Array Oper → Nat → Bool} {T0 : PT Value} {H0 : HP} {N0 lo : Nat} {D : List DE} {r : Ex × St} (h : (drawF P G okTail ops).run call yld T0 H0 N0 lo D = .ok r) :
  headF call yld (fun tail T N ds =>
   Bool.rec (motive := fun _ => RX) (behind P G call yld ops T0 N0 T H0 N lo D ds)
    (List.rec (motive := fun _ => HP → RX) (fun H => Option.rec (motive := fun _ => RX)
     (.ok (.normal, ⟨T, H, N, lo, D⟩))
     (fun tail => OpsC.rec (motive := fun _ => RX) (fun r => r call yld T H N lo D) tail) tail) (fun d _ ih H => addX d H ih) ds H0)
    (drawB okTail ops ds.length)) H0 (headI P G ops ops.toList (ancs ops.toList)) T0 N0 [] = .ok r := by
 unfold drawF at h
 revert h
 generalize headI P G ops ops.toList (ancs ops.toList) = L
 intro h
 cases L with
 | nil => cases h
 | cons h hs => exact h
theorem seq_full {ops : Array Oper} : (Region.ready .any ops (endA ops.size ops.size)).isEmpty = true := by
 cases hr : Region.ready .any ops (endA ops.size ops.size) with
 | nil => rfl
 | cons i is =>
  exfalso
  have hi : i ∈ Region.ready .any ops (endA ops.size ops.size) := by rw [hr]; exact List.mem_cons_self
  obtain ⟨hui, o, ho, _⟩ := mem_ready.1 hi
  have hio : i < ops.size := (Array.getElem?_eq_some_iff.1 ho).1
  unfold endA at hui
  simp [Array.getD_eq_getD_getElem?, hio] at hui
theorem behind_inv {TS T : PT Value} {H : HP} {NS N lo : Nat} {D : List DE} {ds : List (List (Nat × AB))} {x : Ex} {s' : St} (h : behind P G call yld ops TS NS T H N lo D ds = .ok (x, s')) :
  oneW P G call yld ops ds.length TS H NS lo D = .ok (x, s') ∨ ∃ H' on rest x1 T1 H1 N1 lo1 D1, (∀ n b, H'.get n = some b → (∃ d ∈ ds, (n, b) ∈ d) ∨ H.get n = some b) ∧ ops.toList.drop ds.length = on :: rest ∧ dsts1B (ops.toList.take ds.length) = true ∧ edges1B (ops.toList.take ds.length) 0 = true ∧ looksB ops (ops.toList.take ds.length) = true ∧ okF ops ds.length = true ∧ noneB ds (floats ops ds.length) = true ∧
   (opsF P G ops [on]).run call yld T H' N lo D = .ok (x1, ⟨T1, H1, N1, lo1, D1⟩) ∧ chkF P G call yld ops T H' N (floats ops ds.length) = true ∧ chkF P G call yld ops T1 H1 N1 (floats ops ds.length) = true ∧ (opsF P G ops rest).run call yld T1 H1 N1 lo1 D1 = .ok (x, s') := by
 unfold behind at h
 rw [forceN_eq] at h
 cases hb : drawFB ops ds.length with
 | false => rw [hb] at h; exact .inl h
 | true =>
  rw [hb] at h
  right
  cases hn : noneB ds (floats ops ds.length) with
  | false => rw [hn] at h; cases h
  | true =>
   rw [hn] at h
   obtain ⟨H', h1, h2⟩ := addXs_spec _ H h
   unfold floatF at h1
   split at h1
   ·cases h1
   ·rename_i on rest hdrop
    have h3 : Bool.rec (motive := fun _ => RX) (.bad 251) (Rs.rec (motive := fun _ => RX) (fun e => .bad e) (fun p => Prod.rec (motive := fun _ => RX) (fun _ s => St.rec (motive := fun _ => RX) (fun T1 H1 N1 lo1 D1 =>
     Bool.rec (motive := fun _ => RX) (.bad 252) ((opsF P G ops rest).run call yld T1 H1 N1 lo1 D1) (chkF P G call yld ops T1 H1 N1 (floats ops ds.length))) s) p) ((opsF P G ops [on]).run call yld T H' N lo D)) (chkF P G call yld ops T H' N (floats ops ds.length)) = .ok (x, s') := h1
    cases hc0 : chkF P G call yld ops T H' N (floats ops ds.length) with
    | false => rw [hc0] at h3; cases h3
    | true =>
     rw [hc0] at h3
     cases hr : (opsF P G ops [on]).run call yld T H' N lo D with
     | bad e => rw [hr] at h3; cases h3
     | ok p =>
      obtain ⟨x1, T1, H1, N1, lo1, D1⟩ := p
      rw [hr] at h3
      have h4 : Bool.rec (motive := fun _ => RX) (.bad 252) ((opsF P G ops rest).run call yld T1 H1 N1 lo1 D1) (chkF P G call yld ops T1 H1 N1 (floats ops ds.length)) = .ok (x, s') := h3
      cases hc1 : chkF P G call yld ops T1 H1 N1 (floats ops ds.length) with
      | false => rw [hc1] at h4; cases h4
      | true =>
       rw [hc1] at h4
       unfold drawFB at hb
       simp only [Bool.and_eq_true] at hb
       exact ⟨H', on, rest, x1, T1, H1, N1, lo1, D1, h2, hdrop, hb.1.1.1, hb.1.1.2, hb.1.2, hb.2, rfl, hr, hc0, hc1, h4⟩
theorem noneB_inv {ds : List (List (Nat × AB))} {fl : List Nat} (h : noneB ds fl = true) {j : Nat} (hj : j ∈ fl) : ds[j]? = some [] := by
 have h1 := List.all_eq_true.1 h j hj
 split at h1
 ·rename_i h2; exact h2
 ·cases h1
theorem drawF_sound (hmix : P.follows .mixedOrders = true) (hc : CallOk P G call) (hy : YldOk P G yld) {id : Nat} {T : PT Value} {H : HP} {N lo : Nat} {D : List DE} {x : Ex} {s' : St} (h : (drawF P G okT ops).run call yld T H N lo D = .ok (x, s')) :
  x = .normal ∧ N ≤ s'.N ∧ ∀ ρ0 N0 w0, Free ρ0 N0 s'.N → Glob G ρ0 → ∀ a w ρ, Inv P ρ0 N0 w0 T H N lo D a w ρ → ∀ ro m Q, (∀ a' w' ρ', Inv P ρ0 N0 w0 s'.T s'.H s'.N s'.lo s'.D a' w' ρ' → Q .normal a' w') → (Code.region id ops true).wpIn (fe ro) m P Q a w := by
 have h1 := drawF_run h
 obtain ⟨rs, rest, Tf, Nf, e1, e2, hch, e4⟩ := headF_inv ops.toList (ancs ops.toList) T N [] (ancs_length _) h1
 simp only [List.nil_append, List.length_map] at e4
 have fl : behind P G call yld ops T N Tf H Nf lo D (rs.map (·.d)) = .ok (x, s') → x = .normal ∧ N ≤ s'.N ∧ ∀ ρ0 N0 w0, Free ρ0 N0 s'.N → Glob G ρ0 → ∀ a w ρ, Inv P ρ0 N0 w0 T H N lo D a w ρ → ∀ ro m Q, (∀ a' w' ρ', Inv P ρ0 N0 w0 s'.T s'.H s'.N s'.lo s'.D a' w' ρ' → Q .normal a' w') → (Code.region id ops true).wpIn (fe ro) m P Q a w := fun hbe => by
  rcases behind_inv hbe with h1w | ⟨H', on, rest2, x1, T1, H1, N1, lo1, D1, b1, b2, b3, b4, b5, b6, b7, b8, b9, b10, b11⟩
  ·obtain ⟨hx, hle, hw⟩ := oneW_sound hc hy h1w
   exact ⟨hx, hle, fun ρ0 N0 w0 hF hG a w ρ I ro m Q hQ => wpIn_region_any hmix (hw ρ0 N0 w0 hF hG a _ ρ ⟨I.wr.drew, I.tr, I.le, I.dd, I.dom⟩ ro m Q hQ)⟩
  rw [List.length_map] at b2 b3 b4 b5 b6 b7 b9 b10
  obtain ⟨on', F⟩ := FForm.of b6
  have hon : ops[rs.length]? = some on := by
   rw [← Array.getElem?_toList]
   have := congrArg (fun l : List Oper => l[0]?) b2
   simpa using this
  have e' := F.at_
  rw [hon] at e'
  cases e'
  have hlt := F.lt
  have hrest2 : rest2 = ops.toList.drop (rs.length + 1) := by
   have := congrArg (List.drop 1) b2
   rw [List.drop_drop] at this
   simpa using this.symm
  have hrs : rs.map (·.o) = ops.toList.take rs.length := by
   rw [e1]
   exact (List.take_left' (by simp)).symm
  have hle := hch.le
  have hidx1 : Idx ops [rs.length] [on] := ⟨hon, trivial⟩
  obtain ⟨_, hN1, _⟩ := opsF_sound hc hy [on] [rs.length] hidx1 Tf H' Nf lo D x1 _ b8
  obtain ⟨hx, hN', htail⟩ := opsF_sound hc hy rest2 (List.range' (rs.length + 1) (ops.size - (rs.length + 1))) (by
   rw [hrest2]; exact idx_range ops _ _ (by omega)) T1 H1 N1 lo1 D1 x s' b11
  have hN1' : Nf ≤ N1 := hN1
  refine ⟨hx, by omega, fun ρ0 N0 w0 hF hG a w ρ I ro m Q hQ => ?_⟩
  refine wpIn_region_any hmix ?_
  have I1 : Inv P ρ0 N0 w0 T H N lo D a { w with drawn := w.drawn + 1 } ρ := ⟨I.wr.drew, I.tr, I.le, I.dd, I.dom⟩
  have hF1 : Free ρ N Nf := I.free hF (by omega)
  have hno : ∀ i, ¬ (Array.replicate ops.size false).getD i false = true := fun i h => by
   simp [Array.getD_eq_getD_getElem?] at h
   rcases Nat.lt_or_ge i ops.size with hi | hi
   ·simp [hi] at h
   ·simp [Nat.not_lt.2 hi] at h
  refine stage0 F hc hy hG I1 hF1 hch hrs e2 b3 b4 b5 (fun j r hr ha => ?_) b1 b9 b10 b8 hF hN' ro m Q (fun a' w' ρ' I' => htail ρ0 N0 w0 hF hG a' w' ρ' I' ro m Q hQ) rs.length ops.size _ a _ ρ []
   ⟨.none hF1, fun i r p h => absurd h (hno i), fun i r p h => absurd h (hno i), fun i r p h => absurd h (hno i), fun i r _ hr n h1 h2 => ?_, rfl, fun t _ => rfl, fun i r t h => absurd h (hno i), fun i j h => absurd h (hno i), by simp, fun i h1 h2 => by simp [Array.getD_eq_getD_getElem?, h2]⟩
   (openC_new _ _ (by omega)) (by omega)
  ·have hj : j < rs.length := (List.getElem?_eq_some_iff.1 hr).1
   have := noneB_inv b7 (mem_floats.2 ⟨hj, ha⟩)
   rw [List.getElem?_map, hr] at this
   exact Option.some.inj this
  ·obtain ⟨_, c2, _, c4, _⟩ := hch.at i r hr
   exact hF1 n (by omega) (by omega)
 cases hb : drawB okT ops rs.length with
 | false => exact fl (by rcases e4 with ⟨_, h2⟩ | ⟨_, h2⟩ <;> (rw [hb] at h2; exact h2))
 | true =>
 have hlen : rs.length + rest.length = ops.size := by
  have := congrArg List.length e1
  rw [List.length_append, List.length_map, Array.length_toList] at this
  exact this.symm
 have hrs : rs.map (·.o) = ops.toList.take rs.length := by
  rw [e1]
  exact (List.take_left' (by simp)).symm
 have hrest : rest = ops.toList.drop rs.length := by
  rw [e1]
  exact (List.drop_left' (by simp)).symm
 have hle := hch.le
 -- what stands from the head on
 have key : ∃ H', dsts1B (ops.toList.take rs.length) = true ∧ edges1B (ops.toList.take rs.length) 0 = true ∧ looksB ops (ops.toList.take rs.length) = true ∧
   (∀ i, rs.length ≤ i → i < ops.size → ∀ j, j < rs.length → ((ancs ops.toList).getD i []).getD j false = true) ∧ seq1B ops (ops.size - rs.length) rs.length (endA ops.size rs.length) = true ∧
   (∀ n b, H'.get n = some b → (∃ d ∈ rs.map (·.d), (n, b) ∈ d) ∨ H.get n = some b) ∧ (opsF P G ops rest).run call yld Tf H' Nf lo D = .ok (x, s') := by
  have form : drawB okT ops rs.length = true → dsts1B (ops.toList.take rs.length) = true ∧ edges1B (ops.toList.take rs.length) 0 = true ∧ looksB ops (ops.toList.take rs.length) = true ∧
    (∀ i, rs.length ≤ i → i < ops.size → ∀ j, j < rs.length → ((ancs ops.toList).getD i []).getD j false = true) ∧ seq1B ops (ops.size - rs.length) rs.length (endA ops.size rs.length) = true := fun hb => by
   unfold drawB at hb
   simp only [Bool.and_eq_true, Bool.or_eq_true] at hb
   obtain ⟨⟨⟨b1, b2⟩, b3⟩, b4⟩ := hb
   refine ⟨b1, b2, b3, ?_⟩
   rcases b4 with b4 | b4
   ·have he : rs.length = ops.size := by
     have := Nat.eq_of_beq_eq_true b4
     rwa [Array.length_toList] at this
    refine ⟨fun i h1 h2 => by omega, ?_⟩
    rw [he, Nat.sub_self]
    exact seq_full
   ·unfold okT at b4
    simp only [Bool.and_eq_true] at b4
    refine ⟨fun i h1 h2 j hj => ?_, b4.2⟩
    have h3 := List.all_eq_true.1 b4.1 i (by rw [List.mem_range', Array.length_toList]; exact ⟨i - rs.length, by omega, by omega⟩)
    exact List.all_eq_true.1 h3 j (List.mem_range.2 hj)
  rcases e4 with ⟨rfl, h2⟩ | ⟨_, h2⟩
  ·rw [hb] at h2
   obtain ⟨H', h3, h4⟩ := addXs_spec _ H h2
   obtain ⟨f1, f2, f3, f4, f5⟩ := form hb
   exact ⟨H', f1, f2, f3, f4, f5, h4, h3⟩
  ·rw [hb] at h2
   obtain ⟨H', h3, h4⟩ := addXs_spec _ H h2
   obtain ⟨f1, f2, f3, f4, f5⟩ := form hb
   exact ⟨H', f1, f2, f3, f4, f5, h4, h3⟩
 obtain ⟨H', hD, hE, hL, hanc, hseq, hH', hrun⟩ := key
 obtain ⟨hx, hN', htail⟩ := opsF_sound hc hy rest (List.range' rs.length (ops.size - rs.length)) (by
  rw [hrest]; exact idx_range ops _ _ (by omega)) Tf H' Nf lo D x s' hrun
 refine ⟨hx, Nat.le_trans hle hN', fun ρ0 N0 w0 hF hG a w ρ I ro m Q hQ => ?_⟩
 refine wpIn_region_any hmix ?_
 have I1 : Inv P ρ0 N0 w0 T H N lo D a { w with drawn := w.drawn + 1 } ρ := ⟨I.wr.drew, I.tr, I.le, I.dd, I.dom⟩
 have hF1 : Free ρ N Nf := I.free hF hN'
 have hno : ∀ i, ¬ (Array.replicate ops.size false).getD i false = true := fun i h => by
  simp [Array.getD_eq_getD_getElem?] at h
  rcases Nat.lt_or_ge i ops.size with hi | hi
  ·simp [hi] at h
  ·simp [Nat.not_lt.2 hi] at h
 refine head_all hc hy I1.wr.sat I1.wr.named (hG.mono I1.wr.ext) I1.dom I1.tr hch hrs e2 hD hE hL (by omega) hanc hseq ro m Q (fun a' w' ρ' D' hi => ?_) rs.length ops.size _ a _ ρ []
  ⟨.none hF1, fun i r p h => absurd h (hno i), fun i r p h => absurd h (hno i), fun i r p h => absurd h (hno i), fun i r _ hr n h1 h2 => ?_, rfl, fun t _ => rfl, fun i r t h => absurd h (hno i), fun i j h => absurd h (hno i), by simp, fun i h1 h2 => by simp [Array.getD_eq_getD_getElem?, h2]⟩
  (openC_new _ _ (by omega)) (by omega)
 ·have hdone : ∀ j r, rs[j]? = some r → (endA ops.size rs.length).getD j false = true := fun j r hr => by
   have hj : j < rs.length := (List.getElem?_eq_some_iff.1 hr).1
   have hjo : j < ops.size := by omega
   unfold endA
   simp [Array.getD_eq_getD_getElem?, hjo, hj]
  refine htail ρ0 N0 w0 hF hG a' w' ρ' (I1.grew hi.grew hF1 hle (fun n b hn => ?_) (fun t v hv => ?_) hi.dfr) ro m Q hQ
  ·rcases hH' n b hn with ⟨d, g1, g2⟩ | g
   ·obtain ⟨r, hr, rfl⟩ := List.mem_map.1 g1
    obtain ⟨j, hj⟩ := List.getElem?_of_mem hr
    exact .inl (hi.cov j r _ (hdone j r hj) hj g2)
   ·exact .inr g
  ·rcases hch.fin t v hv with ⟨j, r, g1, g2, rfl⟩ | ⟨g1, g2⟩
   ·obtain ⟨y, hy1, hy2⟩ := hi.got j r t (hdone j r g1) g1 g2
    exact ⟨y, hy1, hy2.mono (cut_ext _ _)⟩
   ·obtain ⟨y, hy1, hy2⟩ := I1.tr t v g2
    refine ⟨y, ?_, hy2.mono hi.grew.ext⟩
    rw [hi.old t (fun i r _ hr => g1 i r hr)]
    exact hy1
 ·obtain ⟨_, c2, _, c4, _⟩ := hch.at i r hr
  exact hF1 n (by omega) (by omega)
end
end Ev
end
end Go.Proofs.YtcjgilagldbjnaaGreatDoor
