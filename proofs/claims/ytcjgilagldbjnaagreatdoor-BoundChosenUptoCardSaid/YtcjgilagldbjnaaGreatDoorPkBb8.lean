/- The reckoner: a region in one order. The reckoner: an operation goes by its operands alone. The reckoner: what the head of a drawn region was found to d. The reckoner: a region that draws its order. The reckoner: a region that draws its order, walked. -/
import Derived.Test.YtcjgilagldbjnaaGreatDoorPkBb7
import Derived.StillTail
namespace Go.Proofs.YtcjgilagldbjnaaGreatDoor
section
namespace Ev
open Go Go.RowKit
section
variable {P : Program} {G : Nat} {call : CallT} {yld : YldT}
def Idx (ops : Array Oper) : List Nat → List Oper → Prop
 | [], [] => True
 | i :: is, o :: l => ops[i]? = some o ∧ Idx ops is l
 | _, _ => False
theorem idx_range (ops : Array Oper) : ∀ (n k : Nat), k + n = ops.size → Idx ops (List.range' k n) (ops.toList.drop k)
 | 0, k, h => by
  rw [List.drop_eq_nil_of_le (by rw [Array.length_toList]; omega)]
  trivial
 | n + 1, k, h => by
  have hk : k < ops.toList.length := by rw [Array.length_toList]; omega
  rw [List.drop_eq_getElem_cons hk, List.range'_succ]
  exact ⟨by rw [← Array.getElem?_toList, List.getElem?_eq_getElem hk], idx_range ops n (k + 1) (by omega)⟩
theorem want_sound {ops : Array Oper} {o : Oper} {T : PT Value} {ρ : Env} {a : Act} {b : Bool} (hT : ∀ t, t ∈ o.looksAt ops → ∀ u, T.get t = some u → ∃ v, a.tmps[t]? = some v ∧ VR ρ u v) (h : (wantF ops o).run T = some b) : Region.wanted o (yielded ops a.tmps) = b := by
 unfold wantF at h
 unfold Region.wanted
 cases hg : o.guard with
 | none => rw [hg] at h; simp at h; rw [← h]
 | some g =>
  obtain ⟨j, want⟩ := g
  rw [hg] at h
  simp only [nth_eq] at h
  cases hj : ops.toList[j]? with
  | none => rw [hj] at h; cases h
  | some oj =>
   rw [hj] at h
   simp only at h
   cases hd : oj.dst with
   | none => rw [hd] at h; cases h
   | some d =>
    rw [hd] at h
    have hrun : (match (getF (pathN (d + 1) d)).run T with | some (.bool b) => some (b == want) | some _ => some false | none => none) = some b := h
    rw [getF_eq _ _ _ (Nat.lt_succ_self d)] at hrun
    have hj' : ops[j]? = some oj := by rw [← Array.getElem?_toList]; exact hj
    have hmem : d ∈ o.looksAt ops := by
     unfold Oper.looksAt
     rw [hg]
     refine List.mem_append_right _ ?_
     simp [hj', hd]
    have hy : ∀ v, a.tmps[d]? = some v → yielded ops a.tmps j = match v with | .bool b => some b | _ => none := fun v hv => by
     unfold yielded
     rw [hj']
     simp only [Option.bind_some, hd, hv]
     cases v <;> rfl
    split at hrun
    ·rename_i b' hb'
     obtain ⟨v, hv, hr⟩ := hT d hmem _ hb'
     cases hr
     simp only [Option.some.injEq] at hrun
     simp only [hy _ hv]
     rw [← hrun]
     cases b' <;> cases want <;> rfl
    ·rename_i u hnb hu
     obtain ⟨v, hv, hr⟩ := hT d hmem u hu
     simp only [Option.some.injEq] at hrun
     rw [← hrun]
     have : yielded ops a.tmps j = none := by
      rw [hy _ hv]
      cases hr <;> first | rfl | exact absurd rfl (hnb _)
     simp only [this]
     cases want <;> rfl
    ·cases hrun
theorem undef_VR (ρ : Env) : VR ρ undef undef := .tuple rfl (fun i u v h => by simp at h)
def After (dst : Option Tmp) (T T2 : PT Value) (u : Value) : Prop := ∀ {ρ : Env} {tmps : Array Value} {v : Value} {ds : List Deferred}, TR ρ T tmps → VR ρ u v → TR ρ T2 ((({ tmps, defers := ds } : Act).put dst v).tmps)
theorem oneF_inv {o : Oper} {R : OpsC} {T : PT Value} {H : HP} {N lo : Nat} {D : List DE} {r : Ex × St} (h : (oneF P G o R).run call yld T H N lo D = .ok r) :
  ∃ out, aop P G call yld o T H N = .ok out ∧ (match out with
   | .v u d N2 => N ≤ N2 ∧ ∃ T2 H2, R.run call yld T2 H2 N2 lo D = .ok r ∧ After o.dst T T2 u ∧ ∀ n b, H2.get n = some b → (n, b) ∈ d ∨ H.get n = some b
   | .w u H2 N2 lo2 => N ≤ N2 ∧ ∃ T2, R.run call yld T2 H2 N2 (min lo lo2) D = .ok r ∧ After o.dst T T2 u) := by
 have hop := opF_ok P G o
 unfold oneF at h
 cases ho : opF P G o with
 | pure f =>
  rw [ho] at hop h
  have h' : f T (fun u => (putF (β := Ex × St) o.dst).run T u (fun T => R.run call yld T H N lo D)) = .ok r := h
  obtain ⟨u, h1, h2⟩ := hop call yld H T _ r h'
  obtain ⟨T2, h3, h4⟩ := put_get h2
  exact ⟨_, h1 N, Nat.le_refl _, T2, H, h3, h4, fun n b hn => .inr hn⟩
 | gen f =>
  rw [ho] at hop h
  have h' : Rs.rec (motive := fun _ => RX) (fun e => .bad e) (fun out => Out.rec (motive := fun _ => RX)
   (fun u d N' => Bool.rec (motive := fun _ => RX) (.bad 219) ((putF (β := Ex × St) o.dst).run T u (fun T => addX d H (fun H => R.run call yld T H N' lo D))) (Nat.ble N N'))
   (fun u H N' lo' => Bool.rec (motive := fun _ => RX) (.bad 219) ((putF (β := Ex × St) o.dst).run T u (fun T => rawN (Bool.rec (motive := fun _ => Nat) lo' lo (Nat.ble lo lo')) (fun lo => R.run call yld T H N' lo D))) (Nat.ble N N')) out) (f call yld T H N) = .ok r := h
  cases hf : f call yld T H N with
  | bad e => rw [hf] at h'; cases h'
  | ok out =>
   rw [hf] at h'
   refine ⟨out, hop call yld T H N out hf, ?_⟩
   cases out with
   | v u d N2 =>
    have h2 : Bool.rec (motive := fun _ => RX) (.bad 219) ((putF (β := Ex × St) o.dst).run T u (fun T => addX d H (fun H => R.run call yld T H N2 lo D))) (Nat.ble N N2) = .ok r := h'
    cases hb : Nat.ble N N2 with
    | false => rw [hb] at h2; cases h2
    | true =>
     rw [hb] at h2
     obtain ⟨T2, h3, h4⟩ := put_get h2
     obtain ⟨H2, h5, h6⟩ := addX_spec _ _ _ _ h3
     exact ⟨Nat.le_of_ble_eq_true hb, T2, H2, h5, h4, h6⟩
   | w u H2 N2 lo2 =>
    have h2 : Bool.rec (motive := fun _ => RX) (.bad 219) ((putF (β := Ex × St) o.dst).run T u (fun T => rawN (Bool.rec (motive := fun _ => Nat) lo2 lo (Nat.ble lo lo2)) (fun lo => R.run call yld T H2 N2 lo D))) (Nat.ble N N2) = .ok r := h'
    cases hb : Nat.ble N N2 with
    | false => rw [hb] at h2; cases h2
    | true =>
     rw [hb] at h2
     obtain ⟨T2, h3, h4⟩ := put_get h2
     rw [rawN_eq] at h3
     have : Bool.rec (motive := fun _ => Nat) lo2 lo (Nat.ble lo lo2) = min lo lo2 := by
      have hm := min_cond lo lo2
      revert hm
      cases Nat.ble lo lo2 <;> exact id
     rw [this] at h3
     exact ⟨Nat.le_of_ble_eq_true hb, T2, h3, h4⟩
theorem opsF_on (hc : CallOk P G call) (hy : YldOk P G yld) {ops : Array Oper} : ∀ (l : List Oper) (is : List Nat), Idx ops is l → ∀ T H N lo D x s', (opsF P G ops l).run call yld T H N lo D = .ok (x, s') →
  x = .normal ∧ N ≤ s'.N ∧ ∀ ρ0 N0 w0, Free ρ0 N0 s'.N → Glob G ρ0 → ∀ a w ρ, Inv P ρ0 N0 w0 T H N lo D a w ρ → ∀ ro m Q l2, (∀ a' w' ρ', Inv P ρ0 N0 w0 s'.T s'.H s'.N s'.lo s'.D a' w' ρ' → wpOpsIn (fe ro) m P ops Q l2 a' w') → wpOpsIn (fe ro) m P ops Q (is ++ l2) a w
 | [], is, hi, T, H, N, lo, D, x, s', h => by
  have h' : Rs.ok (Ex.normal, (⟨T, H, N, lo, D⟩ : St)) = .ok (x, s') := h
  cases h'
  cases is with
  | nil => exact ⟨rfl, Nat.le_refl _, fun ρ0 N0 w0 hF hG a w ρ I ro m Q l2 hQ => hQ a w ρ I⟩
  | cons i is => exact hi.elim
 | o :: l, is, hi, T, H, N, lo, D, x, s', h => by
  cases is with
  | nil => exact hi.elim
  | cons i is =>
   obtain ⟨hio, hi'⟩ := hi
   -- the operation is carried out
   have yes : ∀ x s', (oneF P G o (opsF P G ops l)).run call yld T H N lo D = .ok (x, s') → x = .normal ∧ N ≤ s'.N ∧ ∀ ρ0 N0 w0, Free ρ0 N0 s'.N → Glob G ρ0 → ∀ a w ρ, Inv P ρ0 N0 w0 T H N lo D a w ρ → Region.wanted o (yielded ops a.tmps) = true →
     ∀ ro m Q l2, (∀ a' w' ρ', Inv P ρ0 N0 w0 s'.T s'.H s'.N s'.lo s'.D a' w' ρ' → wpOpsIn (fe ro) m P ops Q l2 a' w') → wpOpsIn (fe ro) m P ops Q ((i :: is) ++ l2) a w := fun x s' h => by
    obtain ⟨out, hout, hrest⟩ := oneF_inv h
    cases out with
    | v u d N2 =>
     obtain ⟨hle, T2, H2, hrun, hput, hH2⟩ := hrest
     obtain ⟨e1, e2, e3⟩ := opsF_on hc hy l is hi' T2 H2 N2 lo D x s' hrun
     refine ⟨e1, Nat.le_trans hle e2, fun ρ0 N0 w0 hF hG a w ρ I hw ro m Q l2 hQ => ?_⟩
     have hop := aop_ok hc hy I.wr.sat I.tr (hG.mono I.wr.ext) I.wr.named hout
     rw [List.cons_append, wpOpsIn_cons]
     unfold wpOpIn
     rw [hio]
     simp only [hw, if_true]
     have hF1 : Free ρ N N2 := I.free hF e2
     exact hop.2 I.dom ro m _ Q (fun v w' ρ' hg hv => e3 ρ0 N0 w0 hF hG _ w' ρ' (I.grew hg hF1 hle hH2 (hput (ds := a.defers) (I.tr.mono hg.ext) hv) (put_defers _ _ _)) ro m Q l2 hQ)
    | w u H2 N2 lo2 =>
     obtain ⟨hle, T2, hrun, hput⟩ := hrest
     obtain ⟨e1, e2, e3⟩ := opsF_on hc hy l is hi' T2 H2 N2 _ D x s' hrun
     refine ⟨e1, Nat.le_trans hle e2, fun ρ0 N0 w0 hF hG a w ρ I hw ro m Q l2 hQ => ?_⟩
     have hop := aop_ok hc hy I.wr.sat I.tr (hG.mono I.wr.ext) I.wr.named hout
     rw [List.cons_append, wpOpsIn_cons]
     unfold wpOpIn
     rw [hio]
     simp only [hw, if_true]
     have hF1 : Free ρ N N2 := I.free hF e2
     exact hop.2 I.dom ro m _ Q (fun v w' ρ' hg hv => e3 ρ0 N0 w0 hF hG _ w' ρ' (I.wrote hg hle (hput (ds := a.defers) (I.tr.mono hg.ext) hv) (put_defers _ _ _)) ro m Q l2 hQ)
   cases hg : o.guard with
   | none =>
    have h' : (oneF P G o (opsF P G ops l)).run call yld T H N lo D = .ok (x, s') := by
     have e : opsF P G ops (o :: l) = oneF P G o (opsF P G ops l) := by
      show Option.rec (motive := fun _ => OpsC) (oneF P G o (opsF P G ops l)) _ o.guard = _
      rw [hg]
     rw [e] at h; exact h
    obtain ⟨e1, e2, e3⟩ := yes x s' h'
    exact ⟨e1, e2, fun ρ0 N0 w0 hF hG a w ρ I ro m Q l2 hQ => e3 ρ0 N0 w0 hF hG a w ρ I (by simp [Region.wanted, hg]) ro m Q l2 hQ⟩
   | some g =>
    have h' : Option.rec (motive := fun _ => RX) (.bad 205) (fun b => Bool.rec (motive := fun _ => RX) ((putF (β := Ex × St) o.dst).run T undef (fun T => (opsF P G ops l).run call yld T H N lo D)) ((oneF P G o (opsF P G ops l)).run call yld T H N lo D) b) ((wantF ops o).run T) = .ok (x, s') := by
     have e : opsF P G ops (o :: l) = ⟨fun call yld T H N lo D => Option.rec (motive := fun _ => RX) (.bad 205) (fun b => Bool.rec (motive := fun _ => RX) ((putF (β := Ex × St) o.dst).run T undef (fun T => (opsF P G ops l).run call yld T H N lo D)) ((oneF P G o (opsF P G ops l)).run call yld T H N lo D) b) ((wantF ops o).run T)⟩ := by
      show Option.rec (motive := fun _ => OpsC) _ (fun _ => _) o.guard = _
      rw [hg]
      rfl
     rw [e] at h; exact h
    cases hw : (wantF ops o).run T with
    | none => rw [hw] at h'; cases h'
    | some b =>
     rw [hw] at h'
     have hwant : ∀ {a : Act} {ρ : Env}, TR ρ T a.tmps → Region.wanted o (yielded ops a.tmps) = b := fun hT => want_sound (fun t _ u hu => hT t u hu) hw
     cases b with
     | true =>
      obtain ⟨e1, e2, e3⟩ := yes x s' h'
      exact ⟨e1, e2, fun ρ0 N0 w0 hF hG a w ρ I ro m Q l2 hQ => e3 ρ0 N0 w0 hF hG a w ρ I (hwant I.tr) ro m Q l2 hQ⟩
     | false =>
      obtain ⟨T2, h2, hput⟩ := put_get (show (putF (β := Ex × St) o.dst).run T undef (fun T => (opsF P G ops l).run call yld T H N lo D) = .ok (x, s') from h')
      obtain ⟨e1, e2, e3⟩ := opsF_on hc hy l is hi' T2 H N lo D x s' h2
      refine ⟨e1, e2, fun ρ0 N0 w0 hF hG a w ρ I ro m Q l2 hQ => ?_⟩
      rw [List.cons_append, wpOpsIn_cons]
      unfold wpOpIn
      rw [hio]
      simp only [hwant I.tr, Bool.false_eq_true, if_false]
      exact ⟨fun _ _ => trivial, e3 ρ0 N0 w0 hF hG _ w ρ ⟨I.wr, hput (ds := a.defers) I.tr (undef_VR ρ), I.le, by rw [put_defers]; exact I.dd, I.dom⟩ ro m Q l2 hQ⟩
theorem opsF_sound (hc : CallOk P G call) (hy : YldOk P G yld) {ops : Array Oper} (l : List Oper) (is : List Nat) (hi : Idx ops is l) (T : PT Value) (H : HP) (N lo : Nat) (D : List DE) (x : Ex) (s' : St) (h : (opsF P G ops l).run call yld T H N lo D = .ok (x, s')) :
  x = .normal ∧ N ≤ s'.N ∧ ∀ ρ0 N0 w0, Free ρ0 N0 s'.N → Glob G ρ0 → ∀ a w ρ, Inv P ρ0 N0 w0 T H N lo D a w ρ → ∀ ro m Q, (∀ a' w' ρ', Inv P ρ0 N0 w0 s'.T s'.H s'.N s'.lo s'.D a' w' ρ' → Q .normal a' w') → wpOpsIn (fe ro) m P ops Q is a w := by
 obtain ⟨e1, e2, e3⟩ := opsF_on hc hy l is hi T H N lo D x s' h
 refine ⟨e1, e2, fun ρ0 N0 w0 hF hG a w ρ I ro m Q hQ => ?_⟩
 have := e3 ρ0 N0 w0 hF hG a w ρ I ro m Q [] hQ
 rwa [List.append_nil] at this
end
end Ev
end
section
namespace Ev
open Go Go.RowKit
theorem PT.only {α : Type} (T : PT α) : ∀ (p : Nat → Bool), ∃ T' : PT α, ∀ t, T'.get t = if p t then T.get t else none := by
 induction T with
 | nil => intro p; exact ⟨.nil, fun t => by cases p t <;> rfl⟩
 | node l v r ihl ihr =>
  intro p
  obtain ⟨l', hl⟩ := ihl (fun m => p (2 * m + 1))
  obtain ⟨r', hr⟩ := ihr (fun m => p (2 * m + 2))
  refine ⟨.node l' (if p 0 then v else none) r', fun t => ?_⟩
  rcases PT.three t with rfl | ⟨m, rfl⟩ | ⟨m, rfl⟩
  ·rfl
  ·rw [PT.get_odd, PT.get_odd]; exact hl m
  ·rw [PT.get_even, PT.get_even]; exact hr m
section
variable {P : Program} {G : Nat} {call : CallT} {yld : YldT} {T T' : PT Value} {H : HP} {N : Nat}
theorem vals_congr : ∀ (l : List Operand) (k : List Value → Rs Out), (∀ x ∈ l, aeval G T x = aeval G T' x) → vals G T l k = vals G T' l k
 | [], k, h => rfl
 | x :: l, k, h => by
  have e : ∀ T, vals G T (x :: l) k = match aeval G T x with | some v => vals G T l (fun l => k (v :: l)) | none => .bad 81 := fun _ => rfl
  rw [e, e, h x List.mem_cons_self]
  cases aeval G T' x with
  | none => rfl
  | some v => exact vals_congr l _ (fun y hy => h y (List.mem_cons_of_mem _ hy))
theorem flatC_congr {o : Oper} (hs : ∀ cs b, o.op ≠ .select cs b) (h : ∀ x ∈ o.op.operands, aeval G T x = aeval G T' x) : flatC P G T N o = flatC P G T' N o := by
 unfold flatC
 have e : execOp (aevalD G T) o = execOp (aevalD G T') o := execOp_congr o hs (fun x hx => by simp only [aevalD, h x hx])
 rw [vals_congr _ _ (fun x hx => h x (by simpa using hx)), e]
theorem orFlat_congr {o : Oper} {r : Rs Value} (hs : ∀ cs b, o.op ≠ .select cs b) (h : ∀ x ∈ o.op.operands, aeval G T x = aeval G T' x) : orFlat P G T N o r = orFlat P G T' N o r := by
 unfold orFlat
 cases r with
 | ok v => rfl
 | bad e => exact flatC_congr hs h
theorem optO_congr {x : Option Operand} (h : ∀ y, x = some y → aeval G T y = aeval G T' y) : optO G T x = optO G T' x := by
 unfold optO
 cases x with
 | none => rfl
 | some y => simp only [h y rfl]
theorem aop_congr {o : Oper} (h : ∀ x ∈ o.op.operands, aeval G T x = aeval G T' x) : aop P G call yld o T H N = aop P G call yld o T' H N := by
 obtain ⟨dst, op, type, pos, after, guard⟩ := o
 have fl : (∀ cs b, op ≠ .select cs b) → flatC P G T N ⟨dst, op, type, pos, after, guard⟩ = flatC P G T' N ⟨dst, op, type, pos, after, guard⟩ := fun hs => flatC_congr hs h
 have orf : (∀ cs b, op ≠ .select cs b) → ∀ r, orFlat P G T N ⟨dst, op, type, pos, after, guard⟩ r = orFlat P G T' N ⟨dst, op, type, pos, after, guard⟩ r := fun hs r => orFlat_congr hs h
 cases op with
 | move x => simp only [aop, h x (by simp [Op.operands])]
 | assign x => simp only [aop, h x (by simp [Op.operands])]
 | pick c x y => simp only [aop, h c (by simp [Op.operands]), h x (by simp [Op.operands]), h y (by simp [Op.operands])]
 | box e x => simp only [aop, h x (by simp [Op.operands])]
 | load t x => simp only [aop, h x (by simp [Op.operands])]
 | store t x y => simp only [aop, h x (by simp [Op.operands]), h y (by simp [Op.operands])]
 | makeSlice t x y => simp only [aop, h x (by simp [Op.operands]), h y (by simp [Op.operands])]
 | build t parts =>
  simp only [aop]
  rw [vals_congr _ _ (fun x hx => h x (by simpa [Op.operands] using hx))]
  congr 1
  funext vs
  exact orf (fun _ _ e => (by cases e)) _
 | buildSlice t len parts =>
  simp only [aop]
  exact vals_congr _ _ (fun x hx => h x (by simpa [Op.operands] using hx))
 | nilCheck x => simp only [aop, h x (by simp [Op.operands]), orf (fun _ _ e => (by cases e))]
 | binOp op t x y yt => simp only [aop, h x (by simp [Op.operands]), h y (by simp [Op.operands]), fl (fun _ _ e => (by cases e))]
 | unOp op t x => simp only [aop, h x (by simp [Op.operands]), fl (fun _ _ e => (by cases e))]
 | convert s d x => simp only [aop, h x (by simp [Op.operands]), fl (fun _ _ e => (by cases e))]
 | makeInterface t x => simp only [aop, h x (by simp [Op.operands]), orf (fun _ _ e => (by cases e))]
 | makeFunc fn first captured =>
  cases fn with
  | func f =>
   simp only [aop]
   rw [vals_congr _ _ (fun x hx => h x (by simp [Op.operands]; exact .inl (by simpa using hx)))]
   congr 1
   funext vs
   exact vals_congr _ _ (fun x hx => h x (by simp [Op.operands]; exact .inr (by simpa using hx)))
  | method f =>
   simp only [aop]
   rw [vals_congr _ _ (fun x hx => h x (by simp [Op.operands]; exact .inl (by simpa using hx)))]
   congr 1
   funext vs
   exact vals_congr _ _ (fun x hx => h x (by simp [Op.operands]; exact .inr (by simpa using hx)))
  | _ => rfl
 | slice t x lo hi mx =>
  simp only [aop, h x (by simp [Op.operands]), orf (fun _ _ e => (by cases e)), optO_congr (x := lo) (fun y hy => h y (by subst hy; simp [Op.operands])), optO_congr (x := hi) (fun y hy => h y (by subst hy; simp [Op.operands])), optO_congr (x := mx) (fun y hy => h y (by subst hy; simp [Op.operands]))]
 | fieldAddr t x f => simp only [aop, h x (by simp [Op.operands]), orf (fun _ _ e => (by cases e))]
 | field t x f => simp only [aop, h x (by simp [Op.operands]), orf (fun _ _ e => (by cases e))]
 | indexAddr t x i => simp only [aop, h x (by simp [Op.operands]), h i (by simp [Op.operands]), orf (fun _ _ e => (by cases e))]
 | index t x i => simp only [aop, h x (by simp [Op.operands]), h i (by simp [Op.operands]), orf (fun _ _ e => (by cases e))]
 | lookup t x i ok => simp only [aop, h x (by simp [Op.operands]), h i (by simp [Op.operands]), fl (fun _ _ e => (by cases e))]
 | mapUpdate t x i y => simp only [aop, h x (by simp [Op.operands]), h i (by simp [Op.operands]), h y (by simp [Op.operands])]
 | typeAssert x xt t ok => simp only [aop, h x (by simp [Op.operands]), orf (fun _ _ e => (by cases e))]
 | extract x i => simp only [aop, h x (by simp [Op.operands]), orf (fun _ _ e => (by cases e))]
 | call c =>
  obtain ⟨callee, args, ts⟩ := c
  cases callee with
  | invoke r m =>
   simp only [aop, h r (by simp [Op.operands, Call.operands])]
   have hv : ∀ k, vals G T args.toList k = vals G T' args.toList k := fun k => vals_congr _ _ (fun x hx => h x (by simp [Op.operands, Call.operands]; exact .inr (by simpa using hx)))
   simp only [hv]
  | value f =>
   simp only [aop, h f (by simp [Op.operands, Call.operands])]
   have hv : ∀ k, vals G T args.toList k = vals G T' args.toList k := fun k => vals_congr _ _ (fun x hx => h x (by simp [Op.operands, Call.operands]; exact .inr (by simpa using hx)))
   simp only [hv]
  | builtin b =>
   obtain ⟨args⟩ := args
   obtain ⟨ts⟩ := ts
   have ha : ∀ x ∈ args, aeval G T x = aeval G T' x := fun x hx => h x (by simpa [Op.operands, Call.operands] using hx)
   have hfl := fl (fun _ _ e => (by cases e))
   show builtinC P G _ T H N b args ts = builtinC P G _ T' H N b args ts
   unfold builtinC
   split
   ·rename_i x y st xt
    rw [ha x (by simp), ha y (by simp)]
   ·rename_i x y st xt
    rw [ha x (by simp), ha y (by simp)]
   ·rename_i x t
    simp only [ha x (by simp), hfl]
   ·rename_i x t
    simp only [ha x (by simp), hfl]
   ·exact hfl
 | makeMap t r => cases r <;> rfl
 | _ => rfl
theorem aop_looks {ρ : Env} {out : Out} {a : Act} {w : World} {o : Oper} (hc : CallOk P G call) (hy : YldOk P G yld) (hS : Sat P ρ H w) (hT : ∀ t, Operand.tmp t ∈ o.op.operands → ∀ u, T.get t = some u → ∃ v, a.tmps[t]? = some v ∧ VR ρ u v) (hG : Glob G ρ) (hN : ∀ n b, H.get n = some b → n < N) (h : aop P G call yld o T H N = .ok out) : OpOk P o ρ N out a w := by
 obtain ⟨T', hT'⟩ := PT.only T (fun t => o.op.operands.toList.any fun x => match x with | .tmp s => s == t | _ => false)
 have hmem : ∀ t, (o.op.operands.toList.any fun x => match x with | .tmp s => s == t | _ => false) = true ↔ Operand.tmp t ∈ o.op.operands := fun t => by
  rw [List.any_eq_true]
  constructor
  ·rintro ⟨x, hx, h⟩
   cases x with
   | tmp s => simp only [beq_iff_eq] at h; subst h; simpa using hx
   | _ => cases h
  ·intro h; exact ⟨_, by simpa using h, by simp⟩
 have hcong : aop P G call yld o T H N = aop P G call yld o T' H N := aop_congr (fun x hx => by
  cases x with
  | tmp t =>
   show T.get t = T'.get t
   rw [hT', if_pos ((hmem t).2 hx)]
  | _ => rfl)
 rw [hcong] at h
 refine aop_ok hc hy hS (fun t u hu => ?_) hG hN h
 rw [hT'] at hu
 split at hu
 ·rename_i hm; exact hT t ((hmem t).1 hm) u hu
 ·cases hu
end
end Ev
end
section
namespace Ev
open Go Go.RowKit
structure HRec where
 o : Oper
 m : List Bool
 T : PT Value
 N : Nat
 b : Bool
 u : Value
 d : List (Nat × AB)
 N' : Nat
 T' : PT Value
def PutOk (dst : Option Tmp) (T : PT Value) (u : Value) (T' : PT Value) : Prop := (dst = none ∧ T' = T) ∨ ∃ d y, dst = some d ∧ T.get d = some y ∧ ∀ j, T'.get j = if j = d then some u else T.get j
theorem put_ok {β : Type} {dst : Option Tmp} {T : PT Value} {u : Value} {k : PT Value → Rs β} {r : β} (h : (putF (β := β) dst).run T u k = .ok r) : ∃ T', k T' = .ok r ∧ PutOk dst T u T' := by
 cases dst with
 | none => exact ⟨T, h, .inl ⟨rfl, rfl⟩⟩
 | some d =>
  have h' : (setF (pathN (d + 1) d)).run T u k = .ok r := h
  rw [setF_eq _ _ _ _ _ (Nat.lt_succ_self d)] at h'
  rcases T.setK_spec d u with hb | ⟨T', y, h1, h2, h3⟩
  ·rw [hb] at h'; cases h'
  ·rw [h1] at h'
   exact ⟨T', h', .inr ⟨d, y, rfl, h2, h3⟩⟩
section
variable {P : Program} {G : Nat} {call : CallT} {yld : YldT} {ops : Array Oper} {H : HP}
def Chain (P : Program) (G : Nat) (call : CallT) (yld : YldT) (ops : Array Oper) (H : HP) : PT Value → Nat → List (List (Nat × AB)) → List HRec → PT Value → Nat → Prop
 | T, N, _, [], Tf, Nf => Tf = T ∧ Nf = N
 | T, N, ds, r :: rs, Tf, Nf => r.T = T ∧ r.N = N ∧ (wantF ops r.o).run T = some r.b ∧ N ≤ r.N' ∧
   (if r.b then aop P G call yld r.o T (heapFor H r.m ds) N = .ok (.v r.u r.d r.N') else r.u = undef ∧ r.d = [] ∧ r.N' = N) ∧
   PutOk r.o.dst T r.u r.T' ∧ Chain P G call yld ops H r.T' r.N' (ds ++ [r.d]) rs Tf Nf
theorem headF_inv {k : Option OpsC → PT Value → Nat → List (List (Nat × AB)) → RX} {res : Ex × St} : ∀ (l : List Oper) (an : List (List Bool)) (T : PT Value) (N : Nat) (ds : List (List (Nat × AB))), an.length = l.length → headF call yld k H (headI P G ops l an) T N ds = .ok res →
  ∃ rs rest Tf Nf, l = rs.map (·.o) ++ rest ∧ rs.map (·.m) = an.take rs.length ∧ Chain P G call yld ops H T N ds rs Tf Nf ∧ ((rest = [] ∧ k none Tf Nf (ds ++ rs.map (·.d)) = .ok res) ∨ (rest ≠ [] ∧ k (some (opsF P G ops rest)) Tf Nf (ds ++ rs.map (·.d)) = .ok res))
 | [], an, T, N, ds, hl, h => ⟨[], [], T, N, rfl, by simp, ⟨rfl, rfl⟩, .inl ⟨rfl, by
  show k none T N (ds ++ []) = .ok res
  rw [List.append_nil]; exact h⟩⟩
 | o :: l, [], T, N, ds, hl, h => by simp at hl
 | o :: l, m :: an, T, N, ds, hl, h => by
  have h' : Option.rec (motive := fun _ => RX) (.bad 207) (fun b => Bool.rec (motive := fun _ => RX)
    ((putF (β := Ex × St) o.dst).run T undef fun T' => appK ds [[]] fun ds' => headF call yld k H (headI P G ops l an) T' N ds')
    (OpC.rec (motive := fun _ => RX) (fun f => f T (fun u => (putF (β := Ex × St) o.dst).run T u fun T' => appK ds [[]] fun ds' => headF call yld k H (headI P G ops l an) T' N ds'))
     (fun f => Rs.rec (motive := fun _ => RX) (fun e => .bad e) (fun out => Out.rec (motive := fun _ => RX)
      (fun u d N' => Bool.rec (motive := fun _ => RX) (.bad 219) ((putF (β := Ex × St) o.dst).run T u fun T' => appK ds [d] fun ds' => headF call yld k H (headI P G ops l an) T' N' ds') (Nat.ble N N'))
      (fun _ _ _ _ => k (some (opsF P G ops (o :: l))) T N ds) out) (f call yld T (heapFor H m ds) N)) (opF P G o)) b) ((wantF ops o).run T) = .ok res := h
  have go : ∀ (b : Bool) (u : Value) (d : List (Nat × AB)) (N' : Nat), (wantF ops o).run T = some b → N ≤ N' → (if b then aop P G call yld o T (heapFor H m ds) N = .ok (.v u d N') else u = undef ∧ d = [] ∧ N' = N) →
    ((putF (β := Ex × St) o.dst).run T u fun T' => appK ds [d] fun ds' => headF call yld k H (headI P G ops l an) T' N' ds') = .ok res →
    ∃ rs rest Tf Nf, o :: l = rs.map (·.o) ++ rest ∧ rs.map (·.m) = (m :: an).take rs.length ∧ Chain P G call yld ops H T N ds rs Tf Nf ∧ ((rest = [] ∧ k none Tf Nf (ds ++ rs.map (·.d)) = .ok res) ∨ (rest ≠ [] ∧ k (some (opsF P G ops rest)) Tf Nf (ds ++ rs.map (·.d)) = .ok res)) := fun b u d N' hw hle hb hput => by
   obtain ⟨T', h1, h2⟩ := put_ok hput
   rw [appK_eq] at h1
   obtain ⟨rs, rest, Tf, Nf, e1, e2, e3, e4⟩ := headF_inv l an T' N' (ds ++ [d]) (by simpa using hl) h1
   refine ⟨⟨o, m, T, N, b, u, d, N', T'⟩ :: rs, rest, Tf, Nf, by simp [e1], by simp [e2], ⟨rfl, rfl, hw, hle, hb, h2, e3⟩, ?_⟩
   simpa using e4
  cases hw : (wantF ops o).run T with
  | none => rw [hw] at h'; cases h'
  | some b =>
   rw [hw] at h'
   cases b with
   | false => exact go false undef [] N hw (Nat.le_refl _) (by simp) h'
   | true =>
    have hop := opF_ok P G o
    cases ho : opF P G o with
    | pure f =>
     rw [ho] at hop h'
     obtain ⟨u, h1, h2⟩ := hop call yld (heapFor H m ds) T _ res h'
     exact go true u [] N hw (Nat.le_refl _) (by simp [h1]) h2
    | gen f =>
     rw [ho] at hop h'
     have h2 : Rs.rec (motive := fun _ => RX) (fun e => .bad e) (fun out => Out.rec (motive := fun _ => RX)
      (fun u d N' => Bool.rec (motive := fun _ => RX) (.bad 219) ((putF (β := Ex × St) o.dst).run T u fun T' => appK ds [d] fun ds' => headF call yld k H (headI P G ops l an) T' N' ds') (Nat.ble N N'))
      (fun _ _ _ _ => k (some (opsF P G ops (o :: l))) T N ds) out) (f call yld T (heapFor H m ds) N) = .ok res := h'
     cases hf : f call yld T (heapFor H m ds) N with
     | bad e => rw [hf] at h2; cases h2
     | ok out =>
      rw [hf] at h2
      have haop := hop call yld T _ N out hf
      cases out with
      | v u d N' =>
       have h3 : Bool.rec (motive := fun _ => RX) (.bad 219) ((putF (β := Ex × St) o.dst).run T u fun T' => appK ds [d] fun ds' => headF call yld k H (headI P G ops l an) T' N' ds') (Nat.ble N N') = .ok res := h2
       cases hb : Nat.ble N N' with
       | false => rw [hb] at h3; cases h3
       | true =>
        rw [hb] at h3
        exact go true u d N' hw (Nat.le_of_ble_eq_true hb) (by simp [haop]) h3
      | w u H' N' lo =>
       exact ⟨[], o :: l, T, N, rfl, by simp, ⟨rfl, rfl⟩, .inr ⟨by simp, by simpa using h2⟩⟩
theorem Chain.le : ∀ {rs : List HRec} {T : PT Value} {N : Nat} {ds : List (List (Nat × AB))} {Tf : PT Value} {Nf : Nat}, Chain P G call yld ops H T N ds rs Tf Nf → N ≤ Nf
 | [], _, _, _, _, _, h => by obtain ⟨_, rfl⟩ := h; exact Nat.le_refl _
 | r :: rs, _, _, _, _, _, h => Nat.le_trans h.2.2.2.1 (Chain.le h.2.2.2.2.2.2)
theorem Chain.at : ∀ {rs : List HRec} {T : PT Value} {N : Nat} {ds : List (List (Nat × AB))} {Tf : PT Value} {Nf : Nat}, Chain P G call yld ops H T N ds rs Tf Nf → ∀ (i : Nat) (r : HRec), rs[i]? = some r →
  (wantF ops r.o).run r.T = some r.b ∧ N ≤ r.N ∧ r.N ≤ r.N' ∧ r.N' ≤ Nf ∧ (if r.b then aop P G call yld r.o r.T (heapFor H r.m (ds ++ (rs.take i).map (·.d))) r.N = .ok (.v r.u r.d r.N') else r.u = undef ∧ r.d = [] ∧ r.N' = r.N) ∧ PutOk r.o.dst r.T r.u r.T' ∧
  (∀ t v, r.T.get t = some v → (∃ (j : Nat) (r' : HRec), j < i ∧ rs[j]? = some r' ∧ r'.o.dst = some t ∧ v = r'.u) ∨ ((∀ (j : Nat) (r' : HRec), j < i → rs[j]? = some r' → r'.o.dst ≠ some t) ∧ T.get t = some v)) ∧ (∀ (j : Nat) (r' : HRec), j < i → rs[j]? = some r' → r'.N' ≤ r.N)
 | [], _, _, _, _, _, _, i, r, hr => by simp at hr
 | q :: rs, T, N, ds, Tf, Nf, h, i, r, hr => by
  obtain ⟨h1, h2, h3, h4, h5, h6, h7⟩ := h
  cases i with
  | zero =>
   simp at hr
   subst hr
   subst h1
   subst h2
   refine ⟨h3, Nat.le_refl _, h4, Chain.le h7, by simpa using h5, h6, fun t v hv => .inr ⟨fun j r' hj => by omega, hv⟩, fun j r' hj => by omega⟩
  | succ i =>
   simp at hr
   obtain ⟨e1, e2, e3, e4, e5, e6, e7, e8⟩ := Chain.at h7 i r hr
   refine ⟨e1, Nat.le_trans h4 e2, e3, e4, ?_, e6, fun t v hv => ?_, fun j r' hj hr' => ?_⟩
   ·simpa [List.append_assoc] using e5
   ·rcases e7 t v hv with ⟨j, r', g1, g2, g3, g4⟩ | ⟨g1, g2⟩
    ·exact .inl ⟨j + 1, r', by omega, by simpa using g2, g3, g4⟩
    ·have put : (q.o.dst = some t ∧ v = q.u) ∨ (q.o.dst ≠ some t ∧ T.get t = some v) := by
      rcases h6 with ⟨k1, k2⟩ | ⟨d, y, k1, k2, k3⟩
      ·rw [k2] at g2; exact .inr ⟨by rw [k1]; simp, g2⟩
      ·rw [k3] at g2
       by_cases e : t = d
       ·subst e; rw [if_pos rfl] at g2; cases g2; exact .inl ⟨k1, rfl⟩
       ·rw [if_neg e] at g2; exact .inr ⟨by rw [k1]; simp; exact fun h => e h.symm, g2⟩
     rcases put with ⟨k1, k2⟩ | ⟨k1, k2⟩
     ·exact .inl ⟨0, q, by omega, rfl, k1, k2⟩
     ·refine .inr ⟨fun j r' hj hr' => ?_, k2⟩
      cases j with
      | zero => simp at hr'; subst hr'; exact k1
      | succ j => simp at hr'; exact g1 j r' (by omega) hr'
   ·cases j with
    | zero => simp at hr'; subst hr'; exact e2
    | succ j => simp at hr'; exact e8 j r' (by omega) hr'
theorem Chain.fin : ∀ {rs : List HRec} {T : PT Value} {N : Nat} {ds : List (List (Nat × AB))} {Tf : PT Value} {Nf : Nat}, Chain P G call yld ops H T N ds rs Tf Nf →
  ∀ t v, Tf.get t = some v → (∃ (j : Nat) (r' : HRec), rs[j]? = some r' ∧ r'.o.dst = some t ∧ v = r'.u) ∨ ((∀ (j : Nat) (r' : HRec), rs[j]? = some r' → r'.o.dst ≠ some t) ∧ T.get t = some v)
 | [], _, _, _, _, _, h, t, v, hv => by obtain ⟨rfl, _⟩ := h; exact .inr ⟨fun j r' h => by simp at h, hv⟩
 | q :: rs, T, N, ds, Tf, Nf, h, t, v, hv => by
  obtain ⟨h1, h2, h3, h4, h5, h6, h7⟩ := h
  rcases Chain.fin h7 t v hv with ⟨j, r', g2, g3, g4⟩ | ⟨g1, g2⟩
  ·exact .inl ⟨j + 1, r', by simpa using g2, g3, g4⟩
  ·have put : (q.o.dst = some t ∧ v = q.u) ∨ (q.o.dst ≠ some t ∧ T.get t = some v) := by
    rcases h6 with ⟨k1, k2⟩ | ⟨d, y, k1, k2, k3⟩
    ·rw [k2] at g2; exact .inr ⟨by rw [k1]; simp, g2⟩
    ·rw [k3] at g2
     by_cases e : t = d
     ·subst e; rw [if_pos rfl] at g2; cases g2; exact .inl ⟨k1, rfl⟩
     ·rw [if_neg e] at g2; exact .inr ⟨by rw [k1]; simp; exact fun h => e h.symm, g2⟩
   rcases put with ⟨k1, k2⟩ | ⟨k1, k2⟩
   ·exact .inl ⟨0, q, rfl, k1, k2⟩
   ·refine .inr ⟨fun j r' hr' => ?_, k2⟩
    cases j with
    | zero => simp at hr'; subst hr'; exact k1
    | succ j => simp at hr'; exact g1 j r' hr'
end
theorem Grew.sub {P : Program} {ρ1 ρ ρ' : Env} {N1 Nf N N' : Nat} {D d : List (Nat × AB)} {w1 w w' : World} (A : Grew P ρ1 ρ N1 Nf D w1 w) (B : Grew P ρ ρ' N N' d w w') (h1 : N1 ≤ N) (h2 : N' ≤ Nf) : Grew P ρ1 ρ' N1 Nf (D ++ d) w1 w' where
 ext := A.ext.trans B.ext
 same n h := (B.same n (by omega)).trans (A.same n h)
 bel := A.bel.trans (B.bel.mono A.bel.size)
 new n p g1 g2 g3 := by
  by_cases h : N ≤ n ∧ n < N'
  ·have := B.new n p h.1 h.2 g3
   exact ⟨Nat.le_trans A.bel.size this.1, this.2⟩
  ·rw [B.same n (by omega)] at g3
   have := A.new n p g1 g2 g3
   exact ⟨this.1, Nat.lt_of_lt_of_le this.2 B.bel.size⟩
 dom p hp := by
  rcases List.mem_append.1 hp with h | h
  ·exact A.dom p h
  ·have := B.dom p h; omega
 blk p hp := by
  rcases List.mem_append.1 hp with h | h
  ·obtain ⟨a, C, e1, e2⟩ := A.blk p h
   have hd := A.dom p h
   have hlt := (A.new p.1 (a, C) hd.1 hd.2 e1).2
   exact ⟨a, C, B.ext _ _ e1, by rw [B.bel.block a hlt]; exact e2.mono B.ext⟩
  ·exact B.blk p h
 inj p hp q hq a C E e1 e2 := by
  have old : ∀ p ∈ D, ∀ a C, ρ' p.1 = some (a, C) → ρ p.1 = some (a, C) ∧ a < w.heap.size := fun p hp a C e => by
   obtain ⟨a2, C2, k1, _⟩ := A.blk p hp
   have := B.ext _ _ k1
   rw [e] at this
   cases this
   have hd := A.dom p hp
   exact ⟨k1, (A.new p.1 (a, C) hd.1 hd.2 k1).2⟩
  have fresh : ∀ p ∈ d, ∀ a C, ρ' p.1 = some (a, C) → w.heap.size ≤ a := fun p hp a C e => by
   have hd := B.dom p hp
   exact (B.new p.1 (a, C) hd.1 hd.2 e).1
  rcases List.mem_append.1 hp with h | h <;> rcases List.mem_append.1 hq with k | k
  ·exact A.inj p h q k a C E (old p h a C e1).1 (old q k a E e2).1
  ·have := (old p h a C e1).2; have := fresh q k a E e2; omega
  ·have := (old q k a E e2).2; have := fresh p h a C e1; omega
  ·exact B.inj p h q k a C E e1 e2
end Ev
end
section
namespace Ev
open Go Go.RowKit
def okT (ops : Array Oper) (n : Nat) : Bool :=
 ((List.range' n (ops.toList.length - n)).all fun k => (List.range n).all fun j => ((ancs ops.toList).getD k []).getD j false) && seq1B ops (ops.size - n) n (endA ops.size n)
section
variable {l : List Oper}
def ancRow (acc : List (List Bool)) (o : Oper) : List Bool := (List.range acc.length).map fun j => waits1B o j || (List.range acc.length).any fun i => waits1B o i && ((acc.getD i []).getD j false)
theorem ancs_snoc (l : List Oper) (o : Oper) : ancs (l ++ [o]) = ancs l ++ [ancRow (ancs l) o] := by
 unfold ancs
 rw [List.foldl_append]
 rfl
theorem ancs_take (l : List Oper) : ∀ k, k ≤ l.length → (ancs (l.take k)).length = k ∧ ∀ i (h : i < l.length), i < k → (ancs (l.take k)).getD i [] = ancRow (ancs (l.take i)) l[i]
 | 0, _ => ⟨by simp [ancs], fun i _ h => by omega⟩
 | k + 1, h => by
  obtain ⟨h1, h2⟩ := ancs_take l k (by omega)
  have hk : k < l.length := by omega
  rw [List.take_succ_eq_append_getElem hk, ancs_snoc]
  refine ⟨by simp [h1], fun i hi hik => ?_⟩
  by_cases e : i = k
  ·subst e
   simp only [List.getD_eq_getElem?_getD]
   rw [List.getElem?_append_right (by omega), h1]
   simp
  ·have := h2 i hi (by omega)
   simp only [List.getD_eq_getElem?_getD] at this ⊢
   rw [List.getElem?_append_left (by omega)]
   exact this
theorem ancs_length (l : List Oper) : (ancs l).length = l.length := by
 have := (ancs_take l l.length (Nat.le_refl _)).1
 rwa [List.take_length] at this
theorem anc_spec {i j : Nat} {o : Oper} (ho : l[i]? = some o) (h : ((ancs l).getD i []).getD j false = true) : j < i ∧ (waits1B o j = true ∨ ∃ k, waits1B o k = true ∧ k < i ∧ ((ancs l).getD k []).getD j false = true) := by
 have hi : i < l.length := (List.getElem?_eq_some_iff.1 ho).1
 have hio : l[i] = o := (List.getElem?_eq_some_iff.1 ho).2
 have hall := (ancs_take l l.length (Nat.le_refl _)).2
 rw [List.take_length] at hall
 rw [hall i hi hi, hio] at h
 have hli := (ancs_take l i (by omega)).1
 unfold ancRow at h
 rw [hli] at h
 simp only [List.getD_eq_getElem?_getD, List.getElem?_map] at h
 rcases Nat.lt_or_ge j i with hj | hj
 ·rw [List.getElem?_range hj] at h
  simp only [Option.map_some, Option.getD_some, Bool.or_eq_true, List.any_eq_true, List.mem_range, Bool.and_eq_true] at h
  refine ⟨hj, h.imp id ?_⟩
  rintro ⟨k, hk, h1, h2⟩
  refine ⟨k, h1, hk, ?_⟩
  rw [hall k (by omega) (by omega)]
  have h3 := (ancs_take l i (by omega)).2 k (by omega) hk
  simp only [List.getD_eq_getElem?_getD] at h3 ⊢
  rw [← h3]
  exact h2
 ·rw [List.getElem?_eq_none (by simp; omega)] at h
  simp at h
end
theorem waits_ready {ops : Array Oper} {ls : Array Bool} {i j : Nat} {o : Oper} (hr : i ∈ Region.ready .any ops ls) (ho : ops[i]? = some o) (h : waits1B o j = true) : ls.getD j false = true := by
 obtain ⟨_, o', ho', hall⟩ := mem_ready.1 hr
 rw [ho] at ho'
 cases ho'
 unfold waits1B at h
 rw [List.any_eq_true] at h
 obtain ⟨e, he, h2⟩ := h
 rw [Bool.and_eq_true, beq_iff_eq] at h2
 rw [← h2.2]
 exact hall e (by simpa using he) h2.1
def Closed (ops : Array Oper) (ls : Array Bool) : Prop := ∀ i j, ls.getD i false = true → ((ancs ops.toList).getD i []).getD j false = true → ls.getD j false = true
theorem ready_anc {ops : Array Oper} {ls : Array Bool} {i j : Nat} (hc : Closed ops ls) (hr : i ∈ Region.ready .any ops ls) (h : ((ancs ops.toList).getD i []).getD j false = true) : ls.getD j false = true := by
 obtain ⟨_, o, ho, _⟩ := mem_ready.1 hr
 rcases (anc_spec (by rw [Array.getElem?_toList]; exact ho) h).2 with h1 | ⟨k, h1, _, h2⟩
 ·exact waits_ready hr ho h1
 ·exact hc k j (waits_ready hr ho h1) h2
theorem Closed.set {ops : Array Oper} {ls : Array Bool} {i : Nat} (hc : Closed ops ls) (hr : i ∈ Region.ready .any ops ls) : Closed ops (ls.setIfInBounds i true) := fun k j hk hm => by
 have key : ls.getD j false = true → (ls.setIfInBounds i true).getD j false = true := fun h => by
  by_cases e : i = j
  ·subst e
   have hlt : i < ls.size := by
    rcases Nat.lt_or_ge i ls.size with h2 | h2
    ·exact h2
    ·simp [Array.getD_eq_getD_getElem?, Array.getElem?_eq_none h2] at h
   simp [Array.getD_eq_getD_getElem?, hlt]
  ·rw [getD_set_ne false e]; exact h
 by_cases e : i = k
 ·subst e; exact key (ready_anc hc hr hm)
 ·rw [getD_set_ne false e] at hk; exact key (hc k j hk hm)
theorem addD_spec : ∀ (d : List (Nat × AB)) (H : HP) (n : Nat) (b : AB), (List.rec (motive := fun _ => HP → HP) (fun H => H) (fun (p : Nat × AB) _ ih H => ih (PT.insK 60 H p.1 (some p.2) (fun H' => H') .nil)) d H).get n = some b → (n, b) ∈ d ∨ H.get n = some b
 | [], H, n, b, h => .inr h
 | p :: d, H, n, b, h => by
  rcases addD_spec d _ n b h with g | g
  ·exact .inl (List.mem_cons_of_mem _ g)
  ·rcases PT.insK_spec 60 H p.1 (some p.2) with hb | ⟨H', h1, h2⟩
   ·rw [hb] at g; cases g
   ·rw [h1, h2] at g
    by_cases e : n = p.1
    ·rw [if_pos e] at g; cases g; subst e; exact .inl List.mem_cons_self
    ·rw [if_neg e] at g; exact .inr g
theorem heapFor_spec : ∀ (mask : List Bool) (ds : List (List (Nat × AB))) (H : HP) (n : Nat) (b : AB), (heapFor H mask ds).get n = some b → H.get n = some b ∨ ∃ j d, mask.getD j false = true ∧ ds[j]? = some d ∧ (n, b) ∈ d
 | [], ds, H, n, b, h => .inl h
 | q :: mask, [], H, n, b, h => .inl h
 | q :: mask, d :: ds, H, n, b, h => by
  have h' : (heapFor (cond q (List.rec (motive := fun _ => HP → HP) (fun H => H) (fun (p : Nat × AB) _ ih H => ih (PT.insK 60 H p.1 (some p.2) (fun H' => H') .nil)) d H) H) mask ds).get n = some b := h
  rcases heapFor_spec mask ds _ n b h' with g | ⟨j, d', g1, g2, g3⟩
  ·cases q with
   | false => exact .inl g
   | true =>
    rcases addD_spec d H n b g with k | k
    ·exact .inr ⟨0, d, rfl, rfl, k⟩
    ·exact .inl k
  ·exact .inr ⟨j + 1, d', by simpa using g1, by simpa using g2, g3⟩
def openC (ls : Array Bool) : Nat → Nat
 | 0 => 0
 | n + 1 => openC ls n + (if ls.getD n true then 0 else 1)
theorem openC_same {ls : Array Bool} {i : Nat} : ∀ m, m ≤ i → openC (ls.setIfInBounds i true) m = openC ls m
 | 0, _ => rfl
 | m + 1, h => by
  simp only [openC]
  rw [openC_same m (by omega), getD_set_ne true (by omega)]
theorem openC_set {ls : Array Bool} {i : Nat} (hi : ls.getD i true = false) (hl : i < ls.size) : ∀ n, i < n → openC (ls.setIfInBounds i true) n + 1 = openC ls n
 | 0, h => by omega
 | n + 1, h => by
  simp only [openC]
  by_cases hn : n = i
  ·subst hn
   have e1 : (ls.setIfInBounds n true).getD n true = true := by simp [Array.getD_eq_getD_getElem?]
   rw [openC_same n (Nat.le_refl _), e1, hi]
   simp
  ·rw [getD_set_ne true (Ne.symm hn)]
   have := openC_set hi hl n (by omega)
   omega
theorem openC_zero {ls : Array Bool} : ∀ n, openC ls n = 0 → ∀ j, j < n → ls.getD j true = true
 | 0, _, j, h => by omega
 | n + 1, h, j, hj => by
  simp only [openC] at h
  by_cases e : j = n
  ·subst e
   cases hv : ls.getD j true with
   | true => rfl
   | false => rw [hv] at h; simp at h
  ·exact openC_zero n (by omega) j (by omega)
theorem openC_first {ls : Array Bool} : ∀ n, openC ls n ≠ 0 → ∃ j, j < n ∧ ls.getD j true = false ∧ ∀ k, k < j → ls.getD k true = true
 | 0, h => absurd rfl h
 | n + 1, h => by
  by_cases h0 : openC ls n = 0
  ·refine ⟨n, by omega, ?_, openC_zero n h0⟩
   cases hv : ls.getD n true with
   | false => rfl
   | true => simp only [openC, h0, hv] at h; exact absurd rfl h
  ·obtain ⟨j, hj, h1, h2⟩ := openC_first n h0
   exact ⟨j, by omega, h1, h2⟩
theorem openC_new (m : Nat) : ∀ k, k ≤ m → openC (Array.replicate m false) k = k
 | 0, _ => rfl
 | k + 1, h => by
  simp only [openC]
  rw [openC_new m k (by omega)]
  have : (Array.replicate m false).getD k true = false := by simp [Array.getD_eq_getD_getElem?, show k < m from h]
  rw [this]
  rfl
theorem edges1_spec : ∀ (l : List Oper) (i k : Nat) (o : Oper) (e : Edge), edges1B l i = true → l[k]? = some o → e ∈ o.after → Region.binds .any e = true → e.on < i + k
 | [], _, _, _, _, _, h, _, _ => by simp at h
 | o :: l, i, k, o2, e, hE, h, he, hb => by
  simp only [edges1B, Bool.and_eq_true] at hE
  cases k with
  | zero =>
   simp only [List.getElem?_cons_zero, Option.some.injEq] at h
   subst h
   have := (Array.all_eq_true'.1 hE.1) e he
   rw [hb] at this
   simpa using this
  | succ k =>
   simp only [List.getElem?_cons_succ] at h
   have := edges1_spec l (i + 1) k o2 e hE.2 h he hb
   omega
theorem getD_size' {ls : Array Bool} {i : Nat} (h : ls.getD i true = false) : i < ls.size := by
 rcases Nat.lt_or_ge i ls.size with h2 | h2
 ·exact h2
 ·simp [Array.getD_eq_getD_getElem?, Array.getElem?_eq_none h2] at h
theorem getD_true {ls : Array Bool} {i : Nat} (hi : i < ls.size) (h : ls.getD i true = true) : ls.getD i false = true := by
 simpa [Array.getD_eq_getD_getElem?, hi] using h
theorem endA_eq {m n : Nat} {ls : Array Bool} (hls : ls.size = m) (h1 : ∀ j, j < n → ls.getD j true = true) (h2 : ∀ t, n ≤ t → t < m → ls.getD t true = false) : ls = endA m n := by
 unfold endA
 apply Array.ext
 ·simp [hls]
 ·intro i hi hi2
  have e : ls.getD i true = ls[i] := by simp [Array.getD_eq_getD_getElem?, hi]
  rw [← e]
  simp only [List.getElem_toArray, List.getElem_map, List.getElem_range]
  by_cases h : i < n
  ·rw [h1 i h, decide_eq_true h]
  ·rw [h2 i (by omega) (by omega), decide_eq_false h]
theorem tail_any {F : Fence} {m : Nat} {P : Program} {ops : Array Oper} {Q : Exit → Act → World → Prop} : ∀ (k i : Nat) (ls : Array Bool) (a : Act) (w : World), seq1B ops k i ls = true → wpOpsIn F m P ops Q (List.range' i k) a w → wpAnyIn F m P .any ops Q k ls a w
 | 0, i, ls, a, w, h, hw => ⟨by simpa [seq1B] using h, hw⟩
 | k + 1, i, ls, a, w, h, hw => by
  simp only [seq1B, Bool.and_eq_true, beq_iff_eq] at h
  rw [List.range'_succ, wpOpsIn_cons] at hw
  refine ⟨fun h0 => (by rw [h.1] at h0; cases h0), fun j hj => ?_⟩
  rw [h.1] at hj
  obtain rfl : j = i := by simpa using hj
  exact wpOpIn_mono (fun a' w' hk => tail_any k (j + 1) _ a' w' h.2 hk) hw
end Ev
end
section
namespace Ev
open Go Go.RowKit
def cut (M : Nat) (ρ : Env) : Env := fun n => if n < M then ρ n else none
theorem cut_some {M : Nat} {ρ : Env} {n : Nat} {p : Nat × Nat} : cut M ρ n = some p ↔ n < M ∧ ρ n = some p := by
 unfold cut
 by_cases h : n < M
 ·simp [h]
 ·simp [h]
theorem cut_ext (M : Nat) (ρ : Env) : Ext (cut M ρ) ρ := fun _ _ h => (cut_some.1 h).2
theorem cut_mono {M M' : Nat} {ρ ρ' : Env} (h : M ≤ M') (k : Ext ρ ρ') : Ext (cut M ρ) (cut M' ρ') := fun n p e => by
 have := cut_some.1 e
 exact cut_some.2 ⟨by omega, k n p this.2⟩
theorem cut_dom (M : Nat) (ρ : Env) : Dom (cut M ρ) M := fun n h => by unfold cut; rw [if_neg (by omega)]
theorem Dom.toCut {ρ ρ' : Env} {N M : Nat} (h : Dom ρ N) (hle : N ≤ M) (k : Ext ρ ρ') : Ext ρ (cut M ρ') := fun n p e => by
 refine cut_some.2 ⟨?_, k n p e⟩
 rcases Nat.lt_or_ge n N with g | g
 ·omega
 ·rw [h n g] at e; cases e
def mergeE (N N' : Nat) (ρ ρx : Env) : Env := fun n => if N ≤ n ∧ n < N' then ρx n else ρ n
theorem Grew.besides {P : Program} {ρ ρx : Env} {N N' : Nat} {d : List (Nat × AB)} {w w' : World} (g : Grew P (cut N ρ) ρx N N' d w w') (hF : Free ρ N N') (hle : N ≤ N') : Grew P ρ (mergeE N N' ρ ρx) N N' d w w' ∧ Ext ρx (cut N' (mergeE N N' ρ ρx)) := by
 have inside : ∀ n, N ≤ n → n < N' → mergeE N N' ρ ρx n = ρx n := fun n h1 h2 => by unfold mergeE; rw [if_pos ⟨h1, h2⟩]
 have outside : ∀ n, n < N ∨ N' ≤ n → mergeE N N' ρ ρx n = ρ n := fun n h => by unfold mergeE; rw [if_neg (by omega)]
 have hE : Ext ρx (cut N' (mergeE N N' ρ ρx)) := fun n p e => by
  have hd : Dom ρx N' := (cut_dom N ρ).same hle g.same
  have hn : n < N' := by
   rcases Nat.lt_or_ge n N' with h | h
   ·exact h
   ·rw [hd n h] at e; cases e
  refine cut_some.2 ⟨hn, ?_⟩
  rcases Nat.lt_or_ge n N with h | h
  ·rw [outside n (.inl h)]
   rw [g.same n (.inl h)] at e
   exact (cut_some.1 e).2
  ·rw [inside n h hn]; exact e
 have hE' : Ext ρx (mergeE N N' ρ ρx) := hE.trans (cut_ext _ _)
 refine ⟨⟨fun n p e => ?_, outside, g.bel, fun n p h1 h2 h3 => ?_, g.dom, fun p hp => ?_, fun p hp q hq a C D e1 e2 => ?_⟩, hE⟩
 ·rcases Nat.lt_or_ge n N with h | h
  ·rw [outside n (.inl h)]; exact e
  ·rcases Nat.lt_or_ge n N' with h' | h'
   ·rw [hF n h h'] at e; cases e
   ·rw [outside n (.inr h')]; exact e
 ·rw [inside n h1 h2] at h3; exact g.new n p h1 h2 h3
 ·obtain ⟨a, C, e1, e2⟩ := g.blk p hp
  exact ⟨a, C, hE' _ _ e1, e2.mono hE'⟩
 ·rw [inside p.1 (g.dom p hp).1 (g.dom p hp).2] at e1
  rw [inside q.1 (g.dom q hq).1 (g.dom q hq).2] at e2
  exact g.inj p hp q hq a C D e1 e2
section
variable {P : Program} {G : Nat} {call : CallT} {yld : YldT} {ops : Array Oper} {H1 : HP} {T1 Tf : PT Value} {N1 Nf : Nat} {rs : List HRec} {ρ1 : Env} {w1 : World} {a1 : Act}
structure HInv (P : Program) (ops : Array Oper) (rs : List HRec) (ρ1 : Env) (N1 Nf : Nat) (a1 : Act) (w1 : World) (ls : Array Bool) (a : Act) (w : World) (ρ : Env) (D : List (Nat × AB)) : Prop where
 grew : Grew P ρ1 ρ N1 Nf D w1 w
 cov : ∀ i r p, ls.getD i false = true → rs[i]? = some r → p ∈ r.d → p ∈ D
 own : ∀ i r p, ls.getD i false = true → rs[i]? = some r → p ∈ r.d → r.N ≤ p.1 ∧ p.1 < r.N'
 blk : ∀ i r p, ls.getD i false = true → rs[i]? = some r → p ∈ r.d → ∃ x C, cut r.N' ρ p.1 = some (x, C) ∧ OR P (cut r.N' ρ) C p.2 w.heap[x]?
 free : ∀ i r, ls.getD i true = false → rs[i]? = some r → Free ρ r.N r.N'
 dfr : a.defers = a1.defers
 old : ∀ t, (∀ i r, ls.getD i false = true → rs[i]? = some r → r.o.dst ≠ some t) → a.tmps[t]? = a1.tmps[t]?
 got : ∀ i r t, ls.getD i false = true → rs[i]? = some r → r.o.dst = some t → ∃ v, a.tmps[t]? = some v ∧ VR (cut r.N' ρ) r.u v
 closed : Closed ops ls
 size : ls.size = ops.size
 tail : ∀ i, rs.length ≤ i → i < ops.size → ls.getD i true = false
theorem getD_false_of {ls : Array Bool} {i : Nat} (h : ls.getD i true = false) : ls.getD i false = false := getD_both h
theorem getD_not {ls : Array Bool} {i : Nat} (hi : i < ls.size) (h : ¬ ls.getD i false = true) : ls.getD i true = false := by
 simp [Array.getD_eq_getD_getElem?, hi] at h ⊢
 exact h
theorem dsts1_ne : ∀ (l : List Oper) (i j : Nat) (p q : Oper), dsts1B l = true → l[i]? = some p → l[j]? = some q → i ≠ j → ∀ t, p.dst = some t → q.dst ≠ some t
 | [], _, _, _, _, _, h, _, _ => by simp at h
 | o :: l, i, j, p, q, hD, hp, hq, hne => by
  simp only [dsts1B, Bool.and_eq_true] at hD
  intro t ht
  have hall : ∀ d, o.dst = some d → ∀ o2 ∈ l, o2.dst ≠ some d := fun d hd o2 ho2 => by
   have h1 := hD.1
   rw [hd] at h1
   have := List.all_eq_true.1 h1 o2 ho2
   simpa using this
  cases i with
  | zero =>
   simp at hp; subst hp
   cases j with
   | zero => exact absurd rfl hne
   | succ j => simp at hq; exact hall t ht q (List.mem_of_getElem? hq)
  | succ i =>
   simp at hp
   cases j with
   | zero => simp at hq; subst hq; exact fun h => hall t h p (List.mem_of_getElem? hp) ht
   | succ j => simp at hq; exact dsts1_ne l i j p q hD.2 hp hq (by omega) t ht
theorem head_step (hc : CallOk P G call) (hy : YldOk P G yld) (hS : Sat P ρ1 H1 w1) (hN1 : ∀ n b, H1.get n = some b → n < N1) (hG : Glob G ρ1) (hDm : Dom ρ1 N1) (hT : TR ρ1 T1 a1.tmps)
  (hch : Chain P G call yld ops H1 T1 N1 [] rs Tf Nf) (hrs : rs.map (·.o) = ops.toList.take rs.length) (hm : rs.map (·.m) = (ancs ops.toList).take rs.length) (hD : dsts1B (ops.toList.take rs.length) = true) (hE : edges1B (ops.toList.take rs.length) 0 = true) (hL : looksB ops (ops.toList.take rs.length) = true)
  {ls : Array Bool} {a : Act} {w : World} {ρ : Env} {D : List (Nat × AB)} (I : HInv P ops rs ρ1 N1 Nf a1 w1 ls a w ρ D) {i : Nat} (hi : i < rs.length) (hr : i ∈ Region.ready .any ops ls) (ro : Option Nat) (m : Nat) (Q : Exit → Act → World → Prop) (K : Act → World → Prop)
  (hK : ∀ a' w' ρ' D', HInv P ops rs ρ1 N1 Nf a1 w1 (ls.setIfInBounds i true) a' w' ρ' D' → K a' w') : wpOpIn (fe ro) m P ops Q i K a w := by
 obtain ⟨hun, o, ho, hall⟩ := mem_ready.1 hr
 obtain ⟨r, hri⟩ : ∃ r, rs[i]? = some r := ⟨_, List.getElem?_eq_getElem hi⟩
 have hlt : i < ls.size := getD_size' hun
 -- the record speaks of that operation
 have hops : ∀ j q, rs[j]? = some q → ops[j]? = some q.o ∧ (ops.toList.take rs.length)[j]? = some q.o ∧ q.m = (ancs ops.toList).getD j [] := fun j q hq => by
  have hj : j < rs.length := (List.getElem?_eq_some_iff.1 hq).1
  have e1 : (rs.map (·.o))[j]? = some q.o := by rw [List.getElem?_map, hq]; rfl
  rw [hrs] at e1
  have e2 : (rs.map (·.m))[j]? = some q.m := by rw [List.getElem?_map, hq]; rfl
  rw [hm, List.getElem?_take_of_lt hj] at e2
  refine ⟨?_, e1, ?_⟩
  ·rw [List.getElem?_take_of_lt hj, Array.getElem?_toList] at e1; exact e1
  ·rw [List.getD_eq_getElem?_getD, e2]; rfl
 obtain ⟨ho', hto, hmi⟩ := hops i r hri
 rw [ho] at ho'
 cases ho'
 obtain ⟨c1, c2, c3, c4, c5, c6, c7, c8⟩ := hch.at i r hri
 rw [List.nil_append] at c5
 have hF : Free ρ1 N1 Nf := hDm.free _
 have hE1 : Ext ρ1 (cut r.N ρ) := hDm.toCut c2 I.grew.ext
 -- what it looks at
 have hlook : ∀ t, t ∈ r.o.looksAt ops → ∀ u, r.T.get t = some u → ∃ v, a.tmps[t]? = some v ∧ VR (cut r.N ρ) u v := fun t ht u hu => by
  have hLi : ∀ j q, rs[j]? = some q → q.o.dst = some t → waits1B r.o j = true ∨ ((ancs (ops.toList.take rs.length)).getD j []).getD i false = true := fun j q hq hqd => by
   have h1 := List.all_eq_true.1 hL (r.o, i) (by
    rw [List.mem_zipIdx_iff_getElem?]; exact hto)
   have h2 := List.all_eq_true.1 h1 t ht
   have h3 := List.all_eq_true.1 h2 (q.o, j) (by
    rw [List.mem_zipIdx_iff_getElem?]; exact (hops j q hq).2.1)
   simp only [Bool.or_eq_true, bne_iff_ne, ne_eq] at h3
   rcases h3 with (h3 | h3) | h3
   ·exact absurd hqd h3
   ·exact .inl h3
   ·exact .inr h3
  have hanc : ∀ j, j < rs.length → ((ancs (ops.toList.take rs.length)).getD j []).getD i false = true → i < j ∧ ((ancs ops.toList).getD j []).getD i false = true := fun j hj h => by
   have hjl : j < (ops.toList.take rs.length).length := by
    rw [← hrs]; simpa using hj
   have h1 := (anc_spec (l := ops.toList.take rs.length) (List.getElem?_eq_getElem hjl) h).1
   have hlen : rs.length ≤ ops.toList.length := by
    have h9 := congrArg List.length hrs
    rw [List.length_map, List.length_take] at h9
    exact h9 ▸ Nat.min_le_right rs.length ops.toList.length
   have e1 := (ancs_take ops.toList rs.length hlen).2 j (by omega) (by omega)
   have e2 := (ancs_take ops.toList ops.toList.length (Nat.le_refl _)).2 j (by omega) (by omega)
   rw [List.take_length] at e2
   refine ⟨h1, ?_⟩
   rw [e2, ← e1]
   exact h
  have hdone : ∀ j q, rs[j]? = some q → q.o.dst = some t → j < i → ls.getD j false = true := fun j q hq hqd hji => by
   rcases hLi j q hq hqd with h | h
   ·exact waits_ready hr ho h
   ·have := (hanc j (by omega) h).1; omega
  have hlater : ∀ j q, rs[j]? = some q → q.o.dst = some t → ls.getD j false = true → j < i := fun j q hq hqd hlj => by
   have hj : j < rs.length := (List.getElem?_eq_some_iff.1 hq).1
   rcases hLi j q hq hqd with h | h
   ·unfold waits1B at h
    rw [List.any_eq_true] at h
    obtain ⟨e, he, h2⟩ := h
    rw [Bool.and_eq_true, beq_iff_eq] at h2
    have := edges1_spec _ 0 i r.o e hE hto (by simpa using he) h2.1
    omega
   ·have h3 := I.closed j i hlj (hanc j hj h).2
    rw [getD_both hun] at h3
    cases h3
  rcases c7 t u hu with ⟨j, q, g1, g2, g3, rfl⟩ | ⟨g1, g2⟩
  ·obtain ⟨v, hv, hvr⟩ := I.got j q t (hdone j q g2 g3 g1) g2 g3
   exact ⟨v, hv, hvr.mono (cut_mono (c8 j q g1 g2) (.refl ρ))⟩
  ·obtain ⟨v, hv, hvr⟩ := hT t u g2
   refine ⟨v, ?_, hvr.mono hE1⟩
   rw [I.old t (fun j q hlj hq hqd => g1 j q (hlater j q hq hqd hlj) hq hqd)]
   exact hv
 have hwant : Region.wanted r.o (yielded ops a.tmps) = r.b := want_sound hlook c1
 -- what is known behind it
 have after : ∀ (v : Value) (w' : World) (ρx : Env), Grew P (cut r.N ρ) ρx r.N r.N' r.d w w' → VR ρx r.u v → K (a.put r.o.dst v) w' := fun v w' ρx gx hv => by
  obtain ⟨g, hEx⟩ := gx.besides (I.free i r hun hri) c3
  generalize hρ' : mergeE r.N r.N' ρ ρx = ρ' at g hEx
  refine hK _ w' ρ' (D ++ r.d) ⟨I.grew.sub g c2 c4, fun j q p hlj hq hp => ?_, fun j q p hlj hq hp => ?_, fun j q p hlj hq hp => ?_, fun j q hlj hq => ?_, (put_defers _ _ _).trans I.dfr, fun t ht => ?_, fun j q t hlj hq hqd => ?_, I.closed.set hr, by simp [I.size], fun j hj hjs => ?_⟩
  ·by_cases e : i = j
   ·subst e; rw [hri] at hq; cases hq; exact List.mem_append_right _ hp
   ·rw [getD_set_ne false e] at hlj; exact List.mem_append_left _ (I.cov j q p hlj hq hp)
  ·by_cases e : i = j
   ·subst e; rw [hri] at hq; cases hq; exact g.dom p hp
   ·rw [getD_set_ne false e] at hlj; exact I.own j q p hlj hq hp
  ·by_cases e : i = j
   ·subst e; rw [hri] at hq; cases hq
    obtain ⟨x, C, e1, e2⟩ := gx.blk p hp
    exact ⟨x, C, hEx _ _ e1, e2.mono hEx⟩
   ·rw [getD_set_ne false e] at hlj
    obtain ⟨x, C, e1, e2⟩ := I.blk j q p hlj hq hp
    have hx : x < w.heap.size := by
     have h1 := I.own j q p hlj hq hp
     obtain ⟨_, d2, _, d4, _⟩ := hch.at j q hq
     exact (I.grew.new p.1 (x, C) (by omega) (by omega) (cut_some.1 e1).2).2
    exact ⟨x, C, cut_mono (Nat.le_refl _) g.ext _ _ e1, by rw [g.bel.block x hx]; exact e2.mono (cut_mono (Nat.le_refl _) g.ext)⟩
  ·by_cases e : i = j
   ·subst e; simp [Array.getD_eq_getD_getElem?, hlt] at hlj
   ·rw [getD_set_ne true e] at hlj
    intro n h1 h2
    have hsame : ρ' n = ρ n := g.same n (by
     obtain ⟨d1, d2, d3, d4, _, _, _, d8⟩ := hch.at j q hq
     rcases Nat.lt_or_ge i j with h | h
     ·have := d8 i r h hri; omega
     ·have := c8 j q (by omega) hq; omega)
    rw [hsame]
    exact I.free j q hlj hq n h1 h2
  ·have h0 : r.o.dst ≠ some t := ht i r (by simp [Array.getD_eq_getD_getElem?, hlt]) hri
   have hold := I.old t (fun j q hlj hq => ht j q (by
    by_cases e : i = j
    ·subst e; simp [Array.getD_eq_getD_getElem?, hlt]
    ·rw [getD_set_ne false e]; exact hlj) hq)
   rw [← hold]
   cases hd : r.o.dst with
   | none => rfl
   | some d =>
    have hne : d ≠ t := fun e => h0 (by rw [hd, e])
    simp only [Act.put]
    rw [Array.getElem?_setIfInBounds_ne hne]
  ·by_cases e : i = j
   ·subst e
    rw [hri] at hq; cases hq
    rcases c6 with ⟨k1, _⟩ | ⟨d, y, k1, k2, k3⟩
    ·rw [k1] at hqd; cases hqd
    ·rw [k1] at hqd; cases hqd
     have hsz : t < a.tmps.size := by
      rcases c7 t y k2 with ⟨j, q, g1, g2, g3, _⟩ | ⟨_, g2⟩
      ·exact absurd k1 (dsts1_ne _ j i q.o r.o hD (hops j q g2).2.1 hto (by omega) t g3)
      ·obtain ⟨v0, hv0, _⟩ := hT t y g2
       have hold := I.old t (fun j2 q2 hlj2 hq2 => fun hqd2 => by
        have hji : j2 ≠ i := fun e => by subst e; rw [getD_both hun] at hlj2; cases hlj2
        exact dsts1_ne _ j2 i q2.o r.o hD (hops j2 q2 hq2).2.1 hto hji t hqd2 k1)
       rw [← hold] at hv0
       exact (Array.getElem?_eq_some_iff.1 hv0).1
     exact ⟨v, by simp [k1, Act.put, hsz], hv.mono hEx⟩
   ·rw [getD_set_ne false e] at hlj
    obtain ⟨v2, hv2, hr2⟩ := I.got j q t hlj hq hqd
    refine ⟨v2, ?_, hr2.mono (cut_mono (Nat.le_refl _) g.ext)⟩
    cases hd : r.o.dst with
    | none => exact hv2
    | some d =>
     have hne : d ≠ t := fun e2 => dsts1_ne _ j i q.o r.o hD (hops j q hq).2.1 hto (Ne.symm e) t hqd (by rw [hd, e2])
     simp only [Act.put]
     rw [Array.getElem?_setIfInBounds_ne hne]
     exact hv2
  ·rw [getD_set_ne true (by omega)]; exact I.tail j hj hjs
 unfold wpOpIn
 rw [ho]
 simp only [hwant]
 cases hb : r.b with
 | false =>
  rw [hb] at c5
  obtain ⟨e1, e2, e3⟩ := c5
  simp only [Bool.false_eq_true, if_false]
  refine ⟨fun _ _ => trivial, ?_⟩
  refine after undef w (cut r.N ρ) ?_ (by rw [e1]; exact undef_VR _)
  rw [e2, e3]
  exact .refl P (cut r.N ρ) r.N w
 | true =>
  rw [hb] at c5
  simp only [if_true] at c5 ⊢
  have hmask : ∀ n b, (heapFor H1 r.m ((rs.take i).map (·.d))).get n = some b → (∃ j q, j < i ∧ rs[j]? = some q ∧ ls.getD j false = true ∧ (n, b) ∈ q.d) ∨ H1.get n = some b := fun n b h => by
   rcases heapFor_spec _ _ _ n b h with g | ⟨j, d, g1, g2, g3⟩
   ·exact .inr g
   ·rw [List.getElem?_map] at g2
    cases hq : (rs.take i)[j]? with
    | none => rw [hq] at g2; cases g2
    | some q =>
     rw [hq] at g2
     cases g2
     have hji : j < i := by
      have := (List.getElem?_eq_some_iff.1 hq).1
      simp at this; omega
     rw [List.getElem?_take_of_lt hji] at hq
     rw [hmi] at g1
     exact .inl ⟨j, q, hji, hq, ready_anc I.closed hr g1, g3⟩
  have hsat0 : Sat P ρ (heapFor H1 r.m ((rs.take i).map (·.d))) w := I.grew.sat hS hF (fun n b h => by
   rcases hmask n b h with ⟨j, q, _, hq, hlj, hp⟩ | g
   ·exact .inl (I.cov j q _ hlj hq hp)
   ·exact .inr g)
  have hsat : Sat P (cut r.N ρ) (heapFor H1 r.m ((rs.take i).map (·.d))) w := ⟨fun n b h => by
   rcases hmask n b h with ⟨j, q, hji, hq, hlj, hp⟩ | g
   ·obtain ⟨x, C, e1, e2⟩ := I.blk j q (n, b) hlj hq hp
    have hm := cut_mono (c8 j q hji hq) (Ext.refl ρ)
    exact ⟨x, C, hm _ _ e1, e2.mono hm⟩
   ·obtain ⟨x, C, e1, e2⟩ := hS.blk n b g
    exact ⟨x, C, hE1 _ _ e1, by rw [I.grew.bel.block x (hS.lt n x C e1)]; exact e2.mono hE1⟩,
   fun n m b c a C D h1 h2 h3 h4 => hsat0.inj n m b c a C D h1 h2 (cut_ext _ _ _ _ h3) (cut_ext _ _ _ _ h4),
   fun n a C h => hsat0.lt n a C (cut_ext _ _ _ _ h)⟩
  have hnamed : ∀ n b, (heapFor H1 r.m ((rs.take i).map (·.d))).get n = some b → n < r.N := fun n b h => by
   rcases hmask n b h with ⟨j, q, hji, hq, hlj, hp⟩ | g
   ·have h1 := (I.own j q _ hlj hq hp).2
    have h2 := c8 j q hji hq
    simp only at h1
    omega
   ·exact Nat.lt_of_lt_of_le (hN1 n b g) c2
  have hop := aop_looks hc hy hsat (fun t ht u hu => hlook t (by
   unfold Oper.looksAt
   refine List.mem_append_left _ (List.mem_filterMap.2 ⟨.tmp t, by simpa using ht, rfl⟩)) u hu) (hG.mono hE1) hnamed c5
  exact hop.2 (cut_dom _ _) ro m K Q after
end
end Ev
end
end Go.Proofs.YtcjgilagldbjnaaGreatDoor
