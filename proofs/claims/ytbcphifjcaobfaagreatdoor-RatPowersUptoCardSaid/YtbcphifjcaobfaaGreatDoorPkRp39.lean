/- Small laws of answers that are the same. A region that draws its order: one obligation for each opera. A region that draws its order, by what is known of each oper. The walk of the law RatSums. -/
import Derived.Test.YtbcphifjcaobfaaGreatDoorPkRp38
import Derived.Test.YtbcphifjcaobfaaGreatDoorPkRp29
import Derived.Test.YtbcphifjcaobfaaGreatDoorPkRp16
import Derived.Test.YtbcphifjcaobfaaGreatDoorPkRp9
namespace Go.Proofs.YtbcphifjcaobfaaGreatDoor
section
open Go.RowKit
section
variable {w : World} {B B2 B3 B4 : Nat} {a0 a1 a2 a3 b0 b1 b2 b3 : Value} {K N : Nat} {z y x v : Int} {q r : Rat}
theorem FN.nsame (h : FN w B3 a0 a1 a2 a3 0 0) : Calls Tryz.prog 19 #[.agg #[a0, a1, a2, a3], .agg #[.bool false, .slice none 0 0, .bool false, .slice none 0 0]] w fun e w' => e = .returned (.bool true) ∧ Below w.heap.size w w' :=
 h.lsame (B4 := 0) FN.zero (K := 1) (by decide) (by decide) (by decide)
theorem num_sign_ne (h : q ≠ 0) : (q.num.sign == 0) = false := beq_eq_false_iff_ne.2 (fun e => h (Rat.num_eq_zero.1 (Int.sign_eq_zero_iff_zero.1 e)))
theorem may_yes (h : FV B w a0 a1 a2 a3 z y K) (hd : decide (y ≠ 0) = true) (hK : K ≤ 67108864) : Calls Tryz.prog 16 #[.agg #[a0, a1, a2, a3]] w fun e w' => e = .returned (.bool true) ∧ Below w.heap.size w w' := by
 have := h.rmay hK
 rwa [hd] at this
theorem sgn_to {s t : Int} (h : Calls Tryz.prog 23 #[.agg #[a0, a1, a2, a3]] w fun e w' => e = .returned (.int .i64 s) ∧ Below w.heap.size w w') (e : t = s) : Calls Tryz.prog 23 #[.agg #[a0, a1, a2, a3]] w fun e w' => e = .returned (.int .i64 t) ∧ Below w.heap.size w w' := e ▸ h
end
end
section
open Go Go.RowKit
def foldPut (vs : Nat → Value) : List Oper → Nat → Act → Act
 | [], _, a => a
 | o :: l, i, a => foldPut vs l (i + 1) (a.put o.dst (vs i))
def dstsB (N : Nat) : List Oper → Bool
 | [] => true
 | o :: l => (match o.dst with | some d => decide (d < N) && l.all (fun o2 => o2.dst != some d) | none => false) && dstsB N l
def edgesB (md : Region.Mode) : List Oper → Nat → Bool
 | [], _ => true
 | o :: l, i => o.after.all (fun e => !Region.binds md e || decide (e.on < i)) && edgesB md l (i + 1)
theorem put_size (a : Act) (d : Option Tmp) (v : Value) : (a.put d v).tmps.size = a.tmps.size := by cases d <;> simp [Act.put]
theorem put_defers (a : Act) (d : Option Tmp) (v : Value) : (a.put d v).defers = a.defers := by cases d <;> rfl
theorem put_same (a : Act) (d : Tmp) (v : Value) (h : d < a.tmps.size) : (a.put (some d) v).tmps.getD d undef = v := by simp [Act.put, h]
theorem put_other (a : Act) (d s : Tmp) (v : Value) (h : s ≠ d) : (a.put (some d) v).tmps.getD s undef = a.tmps.getD s undef := by
 simp only [Act.put, Array.getD_eq_getD_getElem?]
 rw [Array.getElem?_setIfInBounds_ne (Ne.symm h)]
theorem dstsB_cons {N : Nat} {o : Oper} {l : List Oper} (h : dstsB N (o :: l) = true) : ∃ d, o.dst = some d ∧ d < N ∧ (∀ o2 ∈ l, o2.dst ≠ some d) ∧ dstsB N l = true := by
 simp only [dstsB, Bool.and_eq_true] at h
 obtain ⟨h1, h2⟩ := h
 cases hd : o.dst with
 | none => rw [hd] at h1; cases h1
 | some d =>
  rw [hd] at h1
  simp only [Bool.and_eq_true, decide_eq_true_eq, List.all_eq_true, bne_iff_ne, ne_eq] at h1
  exact ⟨d, rfl, h1.1, h1.2, h2⟩
theorem foldPut_size (vs : Nat → Value) : ∀ (l : List Oper) (i : Nat) (a : Act), (foldPut vs l i a).tmps.size = a.tmps.size
 | [], _, _ => rfl
 | _ :: l, i, _ => (foldPut_size vs l (i + 1) _).trans (put_size _ _ _)
theorem foldPut_defers (vs : Nat → Value) : ∀ (l : List Oper) (i : Nat) (a : Act), (foldPut vs l i a).defers = a.defers
 | [], _, _ => rfl
 | _ :: l, i, _ => (foldPut_defers vs l (i + 1) _).trans (put_defers _ _ _)
theorem foldPut_old (vs : Nat → Value) (s : Tmp) : ∀ (l : List Oper) (i : Nat) (a : Act), (∀ o ∈ l, o.dst ≠ some s) → (foldPut vs l i a).tmps.getD s undef = a.tmps.getD s undef
 | [], _, _, _ => rfl
 | o :: l, i, a, h => by
  rw [foldPut, foldPut_old vs s l (i + 1) _ (fun o2 h2 => h o2 (List.mem_cons_of_mem _ h2))]
  cases hd : o.dst with
  | none => rfl
  | some d => exact put_other a d s _ (fun e => h o List.mem_cons_self (by rw [hd, e]))
theorem foldPut_got (vs : Nat → Value) {N : Nat} : ∀ (l : List Oper) (i : Nat) (a : Act), a.tmps.size = N → dstsB N l = true → ∀ (k : Nat) (o : Oper) (d : Tmp), l[k]? = some o → o.dst = some d → (foldPut vs l i a).tmps.getD d undef = vs (i + k)
 | [], _, _, _, _, _, _, _, h, _ => by simp at h
 | o :: l, i, a, hN, hD, k, o2, d, h, hd => by
  obtain ⟨d0, e0, hlt, hne, hD'⟩ := dstsB_cons hD
  cases k with
  | zero =>
   simp only [List.getElem?_cons_zero, Option.some.injEq] at h
   subst h
   rw [hd] at e0
   cases e0
   rw [foldPut, foldPut_old vs d l (i + 1) _ hne, hd, put_same a d _ (by rw [hN]; exact hlt)]
   rfl
  | succ k =>
   simp only [List.getElem?_cons_succ] at h
   rw [foldPut, foldPut_got vs l (i + 1) _ (by rw [put_size]; exact hN) hD' k o2 d h hd]
   congr 1
   omega
theorem act_ext {a b : Act} (h1 : a.tmps.size = b.tmps.size) (h2 : ∀ s, s < a.tmps.size → a.tmps.getD s undef = b.tmps.getD s undef) (h3 : a.defers = b.defers) : a = b := by
 cases a with
 | mk ta da =>
  cases b with
  | mk tb db =>
   simp only at h1 h2 h3
   subst h3
   have : ta = tb := by
    apply Array.ext h1
    intro i hi hi2
    have := h2 i hi
    simpa [Array.getD_eq_getD_getElem?, hi, hi2] using this
   rw [this]
theorem edgesB_spec {md : Region.Mode} : ∀ (l : List Oper) (i k : Nat) (o : Oper) (e : Edge), edgesB md l i = true → l[k]? = some o → e ∈ o.after → Region.binds md e = true → e.on < i + k
 | [], _, _, _, _, _, h, _, _ => by simp at h
 | o :: l, i, k, o2, e, hE, h, he, hb => by
  simp only [edgesB, Bool.and_eq_true] at hE
  cases k with
  | zero =>
   simp only [List.getElem?_cons_zero, Option.some.injEq] at h
   subst h
   have := (Array.all_eq_true'.1 hE.1) e he
   rw [hb] at this
   simpa using this
  | succ k =>
   simp only [List.getElem?_cons_succ] at h
   have := edgesB_spec l (i + 1) k o2 e hE.2 h he hb
   omega
theorem dstsB_at {N : Nat} : ∀ (l : List Oper) (k : Nat) (o : Oper), dstsB N l = true → l[k]? = some o → ∃ d, o.dst = some d ∧ d < N
 | [], _, _, _, h => by simp at h
 | o :: l, k, o2, hD, h => by
  obtain ⟨d0, e0, hlt, hne, hD'⟩ := dstsB_cons hD
  cases k with
  | zero => simp only [List.getElem?_cons_zero, Option.some.injEq] at h; subst h; exact ⟨d0, e0, hlt⟩
  | succ k => simp only [List.getElem?_cons_succ] at h; exact dstsB_at l k o2 hD' h
theorem dstsB_ne {N : Nat} : ∀ (l : List Oper) (k j : Nat) (o o2 : Oper), dstsB N l = true → l[k]? = some o → l[j]? = some o2 → k ≠ j → o.dst ≠ o2.dst
 | [], _, _, _, _, _, h, _, _ => by simp at h
 | o :: l, k, j, p, p2, hD, h, h2, hne => by
  obtain ⟨d0, e0, hlt, hnd, hD'⟩ := dstsB_cons hD
  cases k with
  | zero =>
   cases j with
   | zero => exact absurd rfl hne
   | succ j =>
    simp only [List.getElem?_cons_zero, Option.some.injEq] at h
    simp only [List.getElem?_cons_succ] at h2
    subst h
    rw [e0]
    exact fun e => hnd p2 (List.mem_of_getElem? h2) e.symm
  | succ k =>
   cases j with
   | zero =>
    simp only [List.getElem?_cons_zero, Option.some.injEq] at h2
    simp only [List.getElem?_cons_succ] at h
    subst h2
    rw [e0]
    exact hnd p (List.mem_of_getElem? h)
   | succ j =>
    simp only [List.getElem?_cons_succ] at h h2
    exact dstsB_ne l k j p p2 hD' h h2 (by omega)
def openN (ls : Array Bool) : Nat → Nat
 | 0 => 0
 | n + 1 => openN ls n + (if ls.getD n true then 0 else 1)
theorem openN_set {ls : Array Bool} {i : Nat} (hi : ls.getD i true = false) (hl : i < ls.size) : ∀ n, i < n → openN (ls.setIfInBounds i true) n + 1 = openN ls n
 | 0, h => by omega
 | n + 1, h => by
  simp only [openN]
  by_cases hn : n = i
  ·subst hn
   have e1 : (ls.setIfInBounds n true).getD n true = true := by simp [Array.getD_eq_getD_getElem?]
   have e2 : openN (ls.setIfInBounds n true) n = openN ls n := by
    have : ∀ m, m ≤ n → openN (ls.setIfInBounds n true) m = openN ls m := by
     intro m
     induction m with
     | zero => intro _; rfl
     | succ m ih =>
      intro hm
      simp only [openN]
      rw [ih (by omega), getD_set_ne true (by omega)]
    exact this n nl9
   rw [e1, hi, e2]
   simp
  ·rw [getD_set_ne true (Ne.symm hn)]
   have := openN_set hi hl n (by omega)
   omega
theorem openN_zero {ls : Array Bool} : ∀ n, openN ls n = 0 → ∀ j, j < n → ls.getD j true = true
 | 0, _, j, h => by omega
 | n + 1, h, j, hj => by
  simp only [openN] at h
  by_cases e : j = n
  ·subst e
   cases hv : ls.getD j true with
   | true => rfl
   | false => rw [hv] at h; simp at h
  ·exact openN_zero n (by omega) j (by omega)
theorem openN_first {ls : Array Bool} : ∀ n, openN ls n ≠ 0 → ∃ j, j < n ∧ ls.getD j true = false ∧ ∀ k, k < j → ls.getD k true = true
 | 0, h => absurd rfl h
 | n + 1, h => by
  by_cases h0 : openN ls n = 0
  ·refine ⟨n, by omega, ?_, openN_zero n h0⟩
   cases hv : ls.getD n true with
   | false => rfl
   | true => simp only [openN, h0, hv] at h; exact absurd rfl h
  ·obtain ⟨j, hj, h1, h2⟩ := openN_first n h0
   exact ⟨j, by omega, h1, h2⟩
def blkOf : Value → Nat
 | .pointer (some a) => a.block
 | _ => 0
structure Kn (md : Region.Mode) (l : List Oper) (n : Nat) (φ : Nat → World → Value → Prop) (al : Nat → Bool) (a0 : Act) (w0 : World) (ls : Array Bool) (a : Act) (w : World) : Prop where
 dfr : a.defers = a0.defers
 len : a.tmps.size = a0.tmps.size
 old : ∀ s, (∀ o ∈ l.take n, o.dst ≠ some s) → a.tmps.getD s undef = a0.tmps.getD s undef
 got : ∀ i o d, i < n → l[i]? = some o → ls.getD i false = true → o.dst = some d → φ i w (a.tmps.getD d undef)
 bel : Below w0.heap.size w0 w
 dis : ∀ i j o o2 d d2, i < n → j < n → i ≠ j → al i = true → al j = true → l[i]? = some o → l[j]? = some o2 → ls.getD i false = true → ls.getD j false = true → o.dst = some d → o2.dst = some d2 → blkOf (a.tmps.getD d undef) ≠ blkOf (a.tmps.getD d2 undef)
section
variable {P : Program} {md : Region.Mode} {l : List Oper} {Q : Exit → Act → World → Prop} {n : Nat} {φ : Nat → World → Value → Prop} {al : Nat → Bool} {a0 : Act} {w0 : World}
def Obl (P : Program) (md : Region.Mode) (l : List Oper) (Q : Exit → Act → World → Prop) (n : Nat) (φ : Nat → World → Value → Prop) (al : Nat → Bool) (a0 : Act) (w0 : World) : Prop :=
 ∀ i o, i < n → l[i]? = some o → ∀ a w, Below w0.heap.size w0 w → (∀ s, (∀ o ∈ l.take n, o.dst ≠ some s) → a.tmps.getD s undef = a0.tmps.getD s undef) →
  (∀ j oj d, (o.after.any fun e => Region.binds md e && e.on == j) = true → l[j]? = some oj → oj.dst = some d → φ j w (a.tmps.getD d undef) ∧ d < a.tmps.size) →
  ∀ K : Act → World → Prop, (∀ v w', φ i w' v → (al i = true → w.heap.size ≤ blkOf v) → Below w.heap.size w w' → K (a.put o.dst v) w') → if Region.wanted o (yielded l.toArray a.tmps) = true then Oper.wp P o a w K Q else K (a.put o.dst undef) w
theorem Kn.step (hst : ∀ i w w' v, φ i w v → Below w.heap.size w w' → φ i w' v) (hal : ∀ i w v, al i = true → φ i w v → blkOf v < w.heap.size) (_ : n ≤ l.length) (hD : dstsB a0.tmps.size (l.take n) = true) (hE : edgesB md (l.take n) 0 = true) (hO : Obl P md l Q n φ al a0 w0)
  {ls : Array Bool} {a : Act} {w : World} (k : Kn md l n φ al a0 w0 ls a w) (_ : ls.size = l.length) {i : Nat} (hi : i < n) (hr : i ∈ Region.ready md l.toArray ls) :
  wpOp P l.toArray Q i (fun a' w' => Kn md l n φ al a0 w0 (ls.setIfInBounds i true) a' w') a w := by
 obtain ⟨hun, o, ho, hall⟩ := mem_ready.1 hr
 have ho' : l[i]? = some o := by simpa using ho
 have hot : (l.take n)[i]? = some o := by rw [List.getElem?_take_of_lt hi]; exact ho'
 obtain ⟨d0, ed, hlt⟩ := dstsB_at _ _ _ hD hot
 refine wpOp_step ho (fun K hK => ?_)
 refine hO i o hi ho' a w k.bel k.old (fun j oj d hj hoj hdj => ?_) K (fun v w' hv hnew hb => hK _ _ ?_)
 ·rw [Array.any_eq_true'] at hj
  obtain ⟨e, he, hj⟩ := hj
  rw [Bool.and_eq_true, beq_iff_eq] at hj
  obtain ⟨hb, rfl⟩ := hj
  have hlj := hall e he hb
  have hlt2 := edgesB_spec _ 0 i o e hE hot he hb
  have hjn : e.on < n := by omega
  refine ⟨k.got e.on oj d hjn hoj hlj hdj, ?_⟩
  obtain ⟨d2, e2, h2⟩ := dstsB_at _ _ _ hD (show (l.take n)[e.on]? = some oj by rw [List.getElem?_take_of_lt hjn]; exact hoj)
  rw [hdj] at e2
  cases e2
  rw [k.len]; exact h2
 ·rw [ed]
  have hlt' : d0 < a.tmps.size := by rw [k.len]; exact hlt
  have hgot : ∀ j oj d, j < n → l[j]? = some oj → (ls.setIfInBounds i true).getD j false = true → oj.dst = some d → j ≠ i → ls.getD j false = true ∧ (a.put (some d0) v).tmps.getD d undef = a.tmps.getD d undef := fun j oj d hj hoj hlj hdj hji => by
   have hne : d ≠ d0 := fun e => dstsB_ne _ j i oj o hD (by rw [List.getElem?_take_of_lt hj]; exact hoj) hot hji (by rw [hdj, ed, e])
   rw [getD_set_ne false (Ne.symm hji)] at hlj
   exact ⟨hlj, put_other a d0 d v hne⟩
  refine ⟨(put_defers _ _ _).trans k.dfr, (put_size _ _ _).trans k.len, fun s hs => ?_, fun j oj d hj hoj hlj hdj => ?_, k.bel.trans (hb.mono k.bel.size), fun j1 j2 o1 o2 d1 d2 h1 h2 hne ha1 ha2 ho1 ho2 hl1 hl2 hd1 hd2 => ?_⟩
  ·rw [put_other a d0 s v (fun e => hs o (List.mem_of_getElem? hot) (by rw [ed, e]))]
   exact k.old s hs
  ·by_cases hji : j = i
   ·subst hji
    rw [ho'] at hoj
    cases hoj
    rw [ed] at hdj
    cases hdj
    rw [put_same a d0 v hlt']
    exact hv
   ·have hne : d ≠ d0 := fun e => dstsB_ne _ j i oj o hD (by rw [List.getElem?_take_of_lt hj]; exact hoj) hot hji (by rw [hdj, ed, e])
    rw [put_other a d0 d v hne]
    rw [getD_set_ne false (Ne.symm hji)] at hlj
    exact hst j w w' _ (k.got j oj d hj hoj hlj hdj) hb
  ·by_cases e1 : j1 = i
   ·subst e1
    have e2 : j2 ≠ j1 := Ne.symm hne
    rw [ho'] at ho1
    cases ho1
    rw [ed] at hd1
    cases hd1
    obtain ⟨hl, hq⟩ := hgot j2 o2 d2 h2 ho2 hl2 hd2 e2
    rw [put_same a d0 v hlt', hq]
    have h3 := hal j2 w _ ha2 (k.got j2 o2 d2 h2 ho2 hl hd2)
    have h4 := hnew ha1
    omega
   ·by_cases e2 : j2 = i
    ·subst e2
     rw [ho'] at ho2
     cases ho2
     rw [ed] at hd2
     cases hd2
     obtain ⟨hl, hq⟩ := hgot j1 o1 d1 h1 ho1 hl1 hd1 e1
     rw [put_same a d0 v hlt', hq]
     have h3 := hal j1 w _ ha1 (k.got j1 o1 d1 h1 ho1 hl hd1)
     have h4 := hnew ha2
     omega
    ·obtain ⟨hla, hqa⟩ := hgot j1 o1 d1 h1 ho1 hl1 hd1 e1
     obtain ⟨hlb, hqb⟩ := hgot j2 o2 d2 h2 ho2 hl2 hd2 e2
     rw [hqa, hqb]
     exact k.dis j1 j2 o1 o2 d1 d2 h1 h2 hne ha1 ha2 ho1 ho2 hla hlb hd1 hd2
theorem Kn.done (hD : dstsB a0.tmps.size (l.take n) = true) (hn : n ≤ l.length) {ls : Array Bool} {a : Act} {w : World} (k : Kn md l n φ al a0 w0 ls a w) (hls : ls.size = l.length) (h0 : openN ls n = 0) :
  ∃ vs : Nat → Value, a = foldPut vs (l.take n) 0 a0 ∧ (∀ i, i < n → φ i w (vs i)) ∧ ∀ i j, i < n → j < n → i ≠ j → al i = true → al j = true → blkOf (vs i) ≠ blkOf (vs j) := by
 have hone : ∀ i, i < n → ls.getD i false = true := fun i hi => by
  have := openN_zero n h0 i hi
  have hs : i < ls.size := by omega
  simpa [Array.getD_eq_getD_getElem?, hs] using this
 let vs : Nat → Value := fun i => match l[i]? with | some o => (match o.dst with | some d => a.tmps.getD d undef | none => undef) | none => undef
 have hvs : ∀ i o d, l[i]? = some o → o.dst = some d → vs i = a.tmps.getD d undef := fun i o d h hd => by
  show (match l[i]? with | some o => (match o.dst with | some d => a.tmps.getD d undef | none => undef) | none => undef) = _
  rw [h]; simp only []; rw [hd]
 refine ⟨vs, act_ext ?_ (fun s hs => ?_) ?_, fun i hi => ?_, fun i j hi hj hne ha1 ha2 => ?_⟩
 ·rw [foldPut_size]; exact k.len
 ·by_cases hx : ∀ o ∈ l.take n, o.dst ≠ some s
  ·rw [foldPut_old vs s _ _ _ hx]; exact k.old s hx
  ·obtain ⟨o, hx1, hd⟩ : ∃ o, o ∈ l.take n ∧ o.dst = some s := Classical.byContradiction fun h => hx fun o ho hd => h ⟨o, ho, hd⟩
   obtain ⟨i, hi, hio⟩ := List.getElem_of_mem hx1
   have hio' : (l.take n)[i]? = some o := by rw [List.getElem?_eq_getElem hi, hio]
   rw [foldPut_got vs _ 0 a0 rfl hD i o s hio' hd, Nat.zero_add]
   rw [List.length_take] at hi
   rw [hvs i o s (by rw [← hio', List.getElem?_take_of_lt (by omega)]) hd]
 ·rw [foldPut_defers]; exact k.dfr
 ·obtain ⟨o, ho⟩ : ∃ o, l[i]? = some o := ⟨_, List.getElem?_eq_getElem (by omega)⟩
  obtain ⟨d, hd, _⟩ := dstsB_at _ _ _ hD (show (l.take n)[i]? = some o by rw [List.getElem?_take_of_lt hi]; exact ho)
  rw [hvs i o d ho hd]
  exact k.got i o d hi ho (hone i hi) hd
 ·obtain ⟨o, ho⟩ : ∃ o, l[i]? = some o := ⟨_, List.getElem?_eq_getElem (by omega)⟩
  obtain ⟨d, hd, _⟩ := dstsB_at _ _ _ hD (show (l.take n)[i]? = some o by rw [List.getElem?_take_of_lt hi]; exact ho)
  obtain ⟨o2, ho2⟩ : ∃ o, l[j]? = some o := ⟨_, List.getElem?_eq_getElem (by omega)⟩
  obtain ⟨d2, hd2, _⟩ := dstsB_at _ _ _ hD (show (l.take n)[j]? = some o2 by rw [List.getElem?_take_of_lt hj]; exact ho2)
  rw [hvs i o d ho hd, hvs j o2 d2 ho2 hd2]
  exact k.dis i j o o2 d d2 hi hj hne ha1 ha2 ho ho2 (hone i hi) (hone j hj) hd hd2
theorem size_set {ls : Array Bool} {i : Nat} : (ls.setIfInBounds i true).size = ls.size := by simp
theorem getD_size {ls : Array Bool} {i : Nat} (h : ls.getD i true = false) : i < ls.size := by
 rcases Nat.lt_or_ge i ls.size with h2 | h2
 ·exact h2
 ·simp [Array.getD_eq_getD_getElem?, Array.getElem?_eq_none h2] at h
theorem ready_first (hn : n ≤ l.length) (hE : edgesB md (l.take n) 0 = true) {ls : Array Bool} (hls : ls.size = l.length) (h : openN ls n ≠ 0) : Region.ready md l.toArray ls ≠ [] := by
 obtain ⟨j, hj, h1, h2⟩ := openN_first n h
 obtain ⟨o, ho⟩ : ∃ o, l[j]? = some o := ⟨_, List.getElem?_eq_getElem (by omega)⟩
 have hot : (l.take n)[j]? = some o := by rw [List.getElem?_take_of_lt hj]; exact ho
 intro h0
 have : j ∈ Region.ready md l.toArray ls := mem_ready.2 ⟨h1, o, by simpa using ho, fun e he hb => by
  have hlt := edgesB_spec _ 0 j o e hE hot he hb
  have h3 := h2 e.on (by omega)
  have hs : e.on < ls.size := by omega
  simpa [Array.getD_eq_getD_getElem?, hs] using h3⟩
 rw [h0] at this
 cases this
theorem Kn.any (hst : ∀ i w w' v, φ i w v → Below w.heap.size w w' → φ i w' v) (hal : ∀ i w v, al i = true → φ i w v → blkOf v < w.heap.size) (hn : n = l.length) (hD : dstsB a0.tmps.size (l.take n) = true) (hE : edgesB md (l.take n) 0 = true) (hO : Obl P md l Q n φ al a0 w0)
  (hq : ∀ (vs : Nat → Value) w, Below w0.heap.size w0 w → (∀ i, i < n → φ i w (vs i)) → (∀ i j, i < n → j < n → i ≠ j → al i = true → al j = true → blkOf (vs i) ≠ blkOf (vs j)) → Q .normal (foldPut vs (l.take n) 0 a0) w) :
  ∀ f ls a w, ls.size = l.length → openN ls n = f → Kn md l n φ al a0 w0 ls a w → wpAny P md l.toArray Q f ls a w
 | 0, ls, a, w, hls, hf, k => by
  refine ⟨?_, ?_⟩
  ·have h1 := openN_zero n hf
   match hr : Region.ready md l.toArray ls with
   | [] => rfl
   | i :: r =>
    have hi : i ∈ Region.ready md l.toArray ls := by rw [hr]; exact List.mem_cons_self
    obtain ⟨hun, o, ho, _⟩ := mem_ready.1 hi
    have := getD_size hun
    rw [h1 i (by omega)] at hun
    cases hun
  ·obtain ⟨vs, rfl, hv, hdd⟩ := k.done hD (by omega) hls hf
   exact hq vs w k.bel hv hdd
 | f + 1, ls, a, w, hls, hf, k => by
  refine ⟨fun h0 => absurd h0 (ready_first (by omega) hE hls (by omega)), fun i hi => ?_⟩
  have hun := (mem_ready.1 hi).1
  have hlt := getD_size hun
  exact wpOp_mono (fun a' w' k' => Kn.any hst hal hn hD hE hO hq f _ a' w' (size_set.trans hls) (by have := openN_set hun hlt n (by omega); omega) k') (k.step hst hal (by omega) hD hE hO hls (by omega) hi)
theorem Kn.new {m : Nat} : Kn md l n φ al a0 w0 (Array.replicate m false) a0 w0.drew :=
 ⟨rfl, rfl, fun _ _ => rfl, fun i o d _ _ h _ => (by rw [getD_replicate_false] at h; cases h), bdw br9, fun i j o o2 d d2 _ _ _ _ _ _ _ h => by rw [getD_replicate_false] at h; cases h⟩
def endLs (m n : Nat) : Array Bool := ((List.range m).map fun i => decide (i < n)).toArray
theorem endLs_eq {m : Nat} {ls : Array Bool} (hls : ls.size = m) (h1 : ∀ j, j < n → ls.getD j true = true) (h2 : ∀ t, n ≤ t → t < m → ls.getD t true = false) : ls = endLs m n := by
 unfold endLs
 apply Array.ext
 ·simp [hls]
 ·intro i hi hi2
  have e : ls.getD i true = ls[i] := by simp [Array.getD_eq_getD_getElem?, hi]
  rw [← e]
  simp only [List.getElem_toArray, List.getElem_map, List.getElem_range]
  by_cases h : i < n
  ·rw [h1 i h, decide_eq_true h]
  ·rw [h2 i (by omega) (by omega), decide_eq_false h]
theorem Kn.head (hSq : Region.seqB md l.toArray (l.length - n) n (endLs l.length n) = true) (hst : ∀ i w w' v, φ i w v → Below w.heap.size w w' → φ i w' v) (hal : ∀ i w v, al i = true → φ i w v → blkOf v < w.heap.size) (hD : dstsB a0.tmps.size (l.take n) = true) (hE : edgesB md (l.take n) 0 = true) (hO : Obl P md l Q n φ al a0 w0) (hT : tailOkB md l.toArray n = true)
  (hq : ∀ (vs : Nat → Value) w, Below w0.heap.size w0 w → (∀ i, i < n → φ i w (vs i)) → (∀ i j, i < n → j < n → i ≠ j → al i = true → al j = true → blkOf (vs i) ≠ blkOf (vs j)) → wpList P l.toArray Q (l.drop n) (foldPut vs (l.take n) 0 a0) w) :
  ∀ f ls a w, ls.size = l.length → openN ls n = f → HeadInv md l.toArray n ls → Kn md l n φ al a0 w0 ls a w →
   HeadH P md l.toArray Q (fun _ => True) n (fun ls' a' w' => Region.seqB md l.toArray (l.toArray.size - n) n ls' = true ∧ wpList P l.toArray Q (l.drop n) a' w') f ls a w
 | 0, ls, a, w, hls, hf, inv, k => by
  obtain ⟨hsel, hn, hs, hc⟩ := tailOk_spec hT
  have hnl : n < l.length := by simpa using hn
  obtain ⟨vs, rfl, hv, hdd⟩ := k.done hD (by omega) hls hf
  refine ⟨?_, hq vs w k.bel hv hdd⟩
  have e := endLs_eq hls (openN_zero n hf) (fun t h1 h2 => inv.tail t h1 (by simpa using h2))
  rw [e]
  simpa using hSq
 | f + 1, ls, a, w, hls, hf, inv, k => by
  obtain ⟨hsel, hn, hs, hc⟩ := tailOk_spec hT
  have hnl : n < l.length := by simpa using hn
  refine ⟨ready_first (by omega) hE hls (by omega), fun i hi => ?_⟩
  have hun := (mem_ready.1 hi).1
  have hlt := getD_size hun
  obtain ⟨j, hj, h1, _⟩ := openN_first n (ls := ls) (by omega)
  have hin : i < n := (Nat.lt_or_ge i n).resolve_right fun h => absurd hi (tail_waits hs hc hn inv _ j rfl hj h1 i h)
  refine ⟨hin, wpOp_mono (fun a' w' k' => ⟨trivial, Kn.head hSq hst hal hD hE hO hT hq f _ a' w' (size_set.trans hls) (by have := openN_set hun hlt n hin; omega) (inv.set hi hin) k'⟩) (k.step hst hal (by omega) hD hE hO hls hin hi)⟩
end
end
section
open Go Go.RowKit
structure SP where
 p : World → Value → Prop
 st : ∀ w w' v, p w v → Below w.heap.size w w' → p w' v
 al : Bool
 lt : ∀ w v, al = true → p w v → blkOf v < w.heap.size
def SP.any : SP := ⟨fun _ _ => True, fun _ _ _ _ _ => trivial, false, fun _ _ h => by cases h⟩
def SP.is (v0 : Value) : SP := ⟨fun _ v => v = v0, fun _ _ _ h _ => h, false, fun _ _ h => by cases h⟩
def SP.of (p : World → Value → Prop) (st : ∀ w w' v, p w v → Below w.heap.size w w' → p w' v) : SP := ⟨p, st, false, fun _ _ h => by cases h⟩
def SP.var (B : Nat) (t : TypeId) (cs : List Value) : SP := ⟨fun w v => ∃ g, v = .pointer (some ⟨g, 0, none⟩) ∧ B ≤ g ∧ Blk w g t cs, fun w w' v ⟨g, e, hB, hk⟩ hb => ⟨g, e, hB, hk.below hb hk.lt⟩, true, fun w v _ ⟨g, e, _, hk⟩ => by rw [e]; exact hk.lt⟩
def waitsB (o : Oper) (j : Nat) : Bool := o.after.toList.any fun e => Region.binds .any e && e.on == j
theorem SP.new {B : Nat} {t : TypeId} {cs : List Value} {cs' : Array Value} {W : World} (hB : B ≤ W.heap.size) (e : cs' = cs.toArray) : (SP.var B t cs).p (W.alloc (.cells cs' t (0, 0))) (.pointer (some ⟨W.heap.size, 0, none⟩)) := ⟨_, rfl, hB, Blk.new_ e⟩
def freeB (l : List Oper) (s : Nat) : Bool := l.all fun o => o.dst != some s
def OblAt (P : Program) (l : List Oper) (Q : Exit → Act → World → Prop) (n : Nat) (L : List SP) (a0 : Act) (w0 : World) (i : Nat) (o : Oper) : Prop :=
 ∀ a w, Below w0.heap.size w0 w → (∀ s, freeB (l.take n) s = true → a.tmps.getD s undef = a0.tmps.getD s undef) →
  (∀ j oj d, waitsB o j = true → l[j]? = some oj → oj.dst = some d → (L.getD j SP.any).p w (a.tmps.getD d undef) ∧ d < a.tmps.size) →
  ∀ K : Act → World → Prop, (∀ v w', (L.getD i SP.any).p w' v → ((L.getD i SP.any).al = true → w.heap.size ≤ blkOf v) → Below w.heap.size w w' → K (a.put o.dst v) w') → if Region.wanted o (yielded l.toArray a.tmps) = true then Oper.wp P o a w K Q else K (a.put o.dst undef) w
def OblL (P : Program) (l : List Oper) (Q : Exit → Act → World → Prop) (n : Nat) (L : List SP) (a0 : Act) (w0 : World) : List Oper → Nat → Prop
 | [], _ => True
 | o :: r, i => OblAt P l Q n L a0 w0 i o ∧ OblL P l Q n L a0 w0 r (i + 1)
section
variable {P : Program} {l : List Oper} {Q : Exit → Act → World → Prop} {n : Nat} {L : List SP} {a0 : Act} {w0 : World}
theorem OblL.at {r : List Oper} : ∀ {i : Nat}, OblL P l Q n L a0 w0 r i → ∀ k o, r[k]? = some o → OblAt P l Q n L a0 w0 (i + k) o := by
 induction r with
 | nil => intro i _ k o h; simp at h
 | cons p r ih =>
  intro i h k o hk
  cases k with
  | zero => simp only [List.getElem?_cons_zero, Option.some.injEq] at hk; subst hk; exact h.1
  | succ k =>
   simp only [List.getElem?_cons_succ] at hk
   have := ih h.2 k o hk
   rwa [show i + 1 + k = i + (k + 1) from by omega] at this
end
end
section
open Go.RowKit
def set4 (W : World) (g : Nat) (a b c d : Value) : World := (((W.setCell ⟨g, 0, none⟩ a).setCell ⟨g, 1, none⟩ b).setCell ⟨g, 2, none⟩ c).setCell ⟨g, 3, none⟩ d
section
variable {W w w' : World} {g k B : Nat} {t : TypeId} {vs : List Value} {x y z u a b c d : Value} {K : Nat} {n m : Int} {q : Rat} {p0 p1 p2 p3 : Value}
theorem set4_same (h : Blk W g t [x, y, z, u]) : Blk (set4 W g a b c d) g t [a, b, c, d] := blk_quad h _ _ _ _
theorem set4_far (h : Blk W k t vs) (hne : k ≠ g) : Blk (set4 W g a b c d) k t vs :=
 (((h.far (p := ⟨g, 0, none⟩) hne a).far (p := ⟨g, 1, none⟩) hne b).far (p := ⟨g, 2, none⟩) hne c).far (p := ⟨g, 3, none⟩) hne d
theorem set4_below (h : Below B w W) (hg : B ≤ g) : Below B w (set4 W g a b c d) := bsc (bsc (bsc (bsc h hg _) hg _) hg _) hg _
theorem QV.set4 (h : QV B W p0 p1 p2 p3 q K) (hB : B ≤ g) (hk : Blk W g 27 [x, y, z, u]) : QV B (set4 W g a b c d) p0 p1 p2 p3 q K :=
 (((h.var hB hk ne_ru a).var hB (hk.set_ 0 a) ne_ru b).var hB ((hk.set_ 0 a).set_ 1 b) ne_ru c).var hB (((hk.set_ 0 a).set_ 1 b).set_ 2 c) ne_ru d
end
def SP.copy (K : Nat) (g : Bool) (xs : List Nat) (z : Int) (g2 : Bool) (ys : List Nat) (y : Int) : SP := SP.of (fun w v => ∃ A' c' A2' c2', v = .agg #[.bool g, .slice A' xs.length c', .bool g2, .slice A2' ys.length c2'] ∧ FX 0 w (.bool g) (.slice A' xs.length c') (.bool g2) (.slice A2' ys.length c2') g xs z g2 ys y K) (fun _ _ _ ⟨A, c, A2, c2, e, h⟩ hb => ⟨A, c, A2, c2, e, h.next hb⟩)
def SP.qv (B : Nat) (q : Rat) (K : Nat) : SP := SP.of (fun w v => ∃ (s0 : Bool) (s1 : Option Addr) (s2 s3 : Nat) (s4 : Bool) (s5 : Option Addr) (s6 s7 : Nat), v = .agg #[.bool s0, .slice s1 s2 s3, .bool s4, .slice s5 s6 s7] ∧ QV B w (.bool s0) (.slice s1 s2 s3) (.bool s4) (.slice s5 s6 s7) q K) (fun _ _ _ ⟨s0, s1, s2, s3, s4, s5, s6, s7, e, h⟩ hb => ⟨s0, s1, s2, s3, s4, s5, s6, s7, e, h.next hb⟩)
def SP.fn (B : Nat) (n m : Int) : SP := SP.of (fun w v => ∃ (s0 : Bool) (s1 : Option Addr) (s2 s3 : Nat) (s4 : Bool) (s5 : Option Addr) (s6 s7 : Nat), v = .agg #[.bool s0, .slice s1 s2 s3, .bool s4, .slice s5 s6 s7] ∧ FN w B (.bool s0) (.slice s1 s2 s3) (.bool s4) (.slice s5 s6 s7) n m) (fun _ _ _ ⟨s0, s1, s2, s3, s4, s5, s6, s7, e, h⟩ hb => ⟨s0, s1, s2, s3, s4, s5, s6, s7, e, h.next hb⟩)
section
variable {w : World} {B B2 B3 B4 : Nat} {K N : Nat} {z y x v n m : Int} {q r : Rat} {ga gb gc gd : Bool} {xa xb xc xd : List Nat} {a0 a4 : Bool} {a1 a5 : Option Addr} {a2 a3 a6 a7 : Nat} {b0 b4 : Bool} {b1 b5 : Option Addr} {b2 b3 b6 b7 : Nat}
theorem IN.own {W : World} {s0 : Bool} {s1 : Option Addr} {s2 s3 : Nat} (h : IN W B (.bool s0) (.slice s1 s2 s3) z) (hB : B ≤ W.heap.size) : ∃ gs, B ≤ gs ∧ (0 < s2 → s1 = some ⟨gs, 0, none⟩ ∧ ∃ L, Blk W gs 50 L ∧ s2 ≤ L.length) ∧ s2 ≤ 281474976710656 := by
 obtain ⟨A, c, zs, e1, e2, n, r⟩ := h.open_
 injection e2 with e3 e4 e5
 subst e3 e4 e5
 by_cases hn : zs = []
 ·subst hn
  exact ⟨W.heap.size, hB, fun h => absurd h (by simp), by simp⟩
 ·obtain ⟨g, rest, e, hg, hb, _⟩ := r.2.2 (ne_nil_u hn)
  exact ⟨g, hg, fun _ => ⟨e, _, hb, by simp [u32s]⟩, res_len r⟩
end
end
end Go.Proofs.YtbcphifjcaobfaaGreatDoor
