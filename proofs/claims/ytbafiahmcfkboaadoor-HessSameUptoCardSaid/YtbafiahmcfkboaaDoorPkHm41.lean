/- A drawn region whose last operations stand in one order: a condition on the worlds holds till the head has come up; what it fixes may be taken first. No conditions. A matrix whose rows grow by append, one behind the other; what HessSame looks at. Conditions: as each states. -/
import Derived.Test.YtbafiahmcfkboaaDoorPkHm36
import Derived.Deep.RegionHeld
import Derived.Test.YtbafiahmcfkboaaDoorPkHm33
import Derived.Test.YtbafiahmcfkboaaDoorPkHm40
namespace Go.Proofs.YtbafiahmcfkboaaDoor
section
open Go

/-- Whatever order the head comes up in, S holding behind each of its operations; L holds behind it. -/
def HeadH (P : Program) (md : Region.Mode) (ops : Array Oper) (Q : Exit → Act → World → Prop) (S : World → Prop) (n : Nat) (L : Array Bool → Act → World → Prop) : Nat → Array Bool → Act → World → Prop
  | 0, ls, a, w => L ls a w
  | f + 1, ls, a, w => Region.ready md ops ls ≠ [] ∧ ∀ i ∈ Region.ready md ops ls, i < n ∧ wpOp P ops Q i (fun a' w' => S w' ∧ HeadH P md ops Q S n L f (ls.setIfInBounds i true) a' w') a w

section
variable {P : Program} {md : Region.Mode} {ops : Array Oper} {Q : Exit → Act → World → Prop} {S : World → Prop} {n : Nat} {L : Array Bool → Act → World → Prop}

theorem HeadH.any {g : Nat} (hL : ∀ ls a w, L ls a w → wpAny P md ops Q g ls a w) :
    ∀ f ls a w, HeadH P md ops Q S n L f ls a w → wpAny P md ops Q (f + g) ls a w
  | 0, ls, a, w, h => by rw [Nat.zero_add]; exact hL ls a w h
  | f + 1, ls, a, w, h => by
    rw [show f + 1 + g = (f + g) + 1 from by omega]
    exact ⟨fun h0 => absurd h0 h.1, fun i hi => wpOp_mono (fun a' w' h' => HeadH.any hL f _ a' w' h'.2) (h.2 i hi).2⟩

theorem HeadH.first {i : Nat} {o : Oper} {v : Value} (ho : ops[i]? = some o) (hsel : Region.noSelect ops = true) (hs : Region.sinkB md ops n = true) (hc : Region.chainB md ops n = true) (hn : n < ops.size) (hin : i < n)
    (hend : ∀ ls a w, L ls a w → ∀ j ∈ Region.ready md ops ls, n ≤ j) (hQ : ∀ c a w, Q (.panic c) (a.put o.dst v) w → Q (.panic c) a w) :
    ∀ f ls a w, HeadInv md ops n ls → (∀ j oj, ops[j]? = some oj → j ≠ i → ls.getD j true = false → (∀ e ∈ oj.after, Region.binds md e = true → e.on ≠ i) → o.apart ops oj = true) →
      i ∈ Region.ready md ops ls → YieldsIf P ops S o v a → S w → HeadH P md ops Q S n L f (ls.setIfInBounds i true) (a.put o.dst v) w → HeadH P md ops Q S n L (f + 1) ls a w := by
  intro f
  induction f with
  | zero =>
    intro ls a w inv _ hr hy hS H
    have hun := (mem_ready.1 hr).1
    refine ⟨fun h => (by rw [h] at hr; cases hr), fun j hj => ?_⟩
    have hjn : j < n := (Nat.lt_or_ge j n).resolve_right fun h => absurd hj (tail_waits hs hc hn inv _ i rfl hin hun j h)
    refine ⟨hjn, ?_⟩
    by_cases hji : j = i
    · subst hji; exact hy.wpOp ho hS ⟨hS, H⟩
    · exact absurd (hend _ _ _ H j (ready_mono hj hji)) (by omega)
  | succ f ih =>
    intro ls a w inv hfree hr hy hS H
    have hun := (mem_ready.1 hr).1
    refine ⟨fun h => (by rw [h] at hr; cases hr), fun j hj => ?_⟩
    have hjn : j < n := (Nat.lt_or_ge j n).resolve_right fun h => absurd hj (tail_waits hs hc hn inv _ i rfl hin hun j h)
    refine ⟨hjn, ?_⟩
    by_cases hji : j = i
    · subst hji; exact hy.wpOp ho hS ⟨hS, H⟩
    · have h1 := (H.2 j (ready_mono hj hji)).2
      obtain ⟨hjun, oj, hoj, hall⟩ := mem_ready.1 hj
      have hno : ∀ e ∈ oj.after, Region.binds md e = true → e.on ≠ i := fun e he hb heq => by
        have h2 := hall e he hb
        rw [heq, getD_both hun] at h2
        cases h2
      have h2 := wpOp_putIf hoj (hfree j oj hoj hji hjun hno) (fun cs b => Region.noSelect_spec hsel i o cs b ho) (fun cs b => Region.noSelect_spec hsel j oj cs b hoj) hQ hy h1
      refine wpOp_mono (fun a' w' h3 => ⟨h3.2.1, ih (ls.setIfInBounds j true) a' w' (inv.set hj hjn) (fun k ok hk hki hku hkn => hfree k ok hk hki ?_ hkn) (ready_mono hr (Ne.symm hji)) h3.1 h3.2.1 ?_⟩) h2
      · by_cases hjk : j = k
        · subst hjk; exact hjun
        · rw [getD_set_ne true hjk] at hku; exact hku
      · rw [Array.setIfInBounds_comm _ _ hji]; exact h3.2.2
end

/-- The region's form: a head of n operations that all wait in the end for its last one, and a tail in one order. -/
def tailOkB (md : Region.Mode) (ops : Array Oper) (n : Nat) : Bool := Region.noSelect ops && decide (n < ops.size) && Region.sinkB md ops n && Region.chainB md ops n
/-- The walk's state in the head. -/
def HeadW (P : Program) (md : Region.Mode) (l : List Oper) (Q : Exit → Act → World → Prop) (S : World → Prop) (n : Nat) (f : Nat) (ls : Array Bool) (a : Act) (w : World) : Prop :=
  HeadInv md l.toArray n ls → HeadH P md l.toArray Q S n (fun ls' a' w' => Region.seqB md l.toArray (l.toArray.size - n) n ls' = true ∧ wpList P l.toArray Q (l.drop n) a' w') f ls a w
section
variable {P : Program} {md : Region.Mode} {l : List Oper} {Q : Exit → Act → World → Prop} {S : World → Prop} {n : Nat}
theorem tailOk_spec (h : tailOkB md l.toArray n = true) : Region.noSelect l.toArray = true ∧ n < l.toArray.size ∧ Region.sinkB md l.toArray n = true ∧ Region.chainB md l.toArray n = true := by
  simp only [tailOkB, Bool.and_eq_true, decide_eq_true_eq] at h
  obtain ⟨⟨⟨a, b⟩, c⟩, d⟩ := h
  exact ⟨a, b, c, d⟩
theorem region_held_tail {id : Nat} {a : Act} {w : World} (S : World → Prop) (n : Nat) (hm : P.follows .mixedOrders = true) (hB : tailOkB .any l.toArray n = true) (hS : S w.drew)
    (h : S w.drew → HeadW P .any l Q S n n (Array.replicate l.toArray.size false) a w.drew) : (Code.region id l.toArray true).wp P Q a w := by
  obtain ⟨_, hn, _, _⟩ := tailOk_spec hB
  have hdl : (l.drop n).length = l.toArray.size - n := by simp
  have inv0 : HeadInv .any l.toArray n (Array.replicate l.toArray.size false) :=
    ⟨by simp, fun j oj _ hl => (by rw [getD_replicate_false] at hl; cases hl), fun t _ ht => getD_in (by simpa using ht) (getD_replicate_false _ _)⟩
  have H := h hS inv0
  refine wp_region_any hm ?_
  have hfin := HeadH.any (g := l.toArray.size - n) (fun ls a' W hL => by
    have h1 := wpAny_of_seq (md := .any) (Q' := Q) (l.drop n) n ls a' W (fun j => by simp [List.getElem?_drop]) (by rw [hdl]; exact hL.1) hL.2
    rwa [hdl] at h1) _ _ _ _ H
  rw [show n + (l.toArray.size - n) = l.toArray.size from by omega] at hfin
  exact hfin
theorem HeadW.take {i : Nat} {o : Oper} {v : Value} {f : Nat} {ls : Array Bool} {a : Act} {w : World} (ho : l.toArray[i]? = some o) (hB : tailOkB md l.toArray n = true) (hin : i < n) (hf : Region.free md l.toArray ls i = true) (hr : (Region.ready md l.toArray ls).contains i = true)
    (hQ : ∀ c a w, Q (.panic c) (a.put o.dst v) w → Q (.panic c) a w) (hy : YieldsIf P l.toArray S o v a) (hS : S w) (h : HeadW P md l Q S n f (ls.setIfInBounds i true) (a.put o.dst v) w) : HeadW P md l Q S n (f + 1) ls a w := fun inv => by
  obtain ⟨hsel, hn, hs, hc⟩ := tailOk_spec hB
  have hr' : i ∈ Region.ready md l.toArray ls := by simpa using hr
  exact HeadH.first ho hsel hs hc hn hin (fun ls' a' w' hL => seqB_ready hL.1) hQ f ls a w inv (Region.free_spec ho hf) hr' hy hS (h (inv.set hr' hin))
theorem HeadW.one {i : Nat} {o : Oper} {f : Nat} {ls : Array Bool} {a : Act} {w : World} (hr : Region.ready md l.toArray ls = [i]) (hin : i < n) (ho : l.toArray[i]? = some o)
    (h : ∀ K' : Act → World → Prop, Shut (∀ a w, S w → (S w → HeadW P md l Q S n f (ls.setIfInBounds i true) a w) → K' a w) → if Region.wanted o (yielded l.toArray a.tmps) = true then Oper.wp P o a w K' Q else K' (a.put o.dst undef) w) :
    HeadW P md l Q S n (f + 1) ls a w := fun inv => ⟨by rw [hr]; simp, fun j hj => by
  have hj' := hj
  rw [hr] at hj
  obtain rfl : j = i := by simpa using hj
  exact ⟨hin, wpOp_step ho (fun K' hK => h K' (fun a w hS hW => hK a w ⟨hS, hW hS (inv.set hj' hin)⟩))⟩⟩
theorem HeadW.done {ls : Array Bool} {a : Act} {w : World} (hq : Region.seqB md l.toArray (l.toArray.size - n) n ls = true) (h : wpList P l.toArray Q (l.drop n) a w) : HeadW P md l Q S n 0 ls a w := fun _ => ⟨hq, h⟩
end
end
section
open Go.RowKit

/-- One operation: an append whose run is known. -/
theorem step_appR {P : Program} {w : World} {o : Oper} {a : Act} {K : Act → World → Prop} {Q : Exit → Act → World → Prop} (d s : Operand) (dT sT : TypeId)
    (ho : o.op = .call { callee := .builtin .append, args := #[d, s], argTypes := #[dT, sT] }) (dv sv : Value) (hd : a.eval d = dv) (hs : a.eval s = sv) (v' : Value) (w' : World)
    (hrun : (Builtin.append_ #[dT, sT] o.type #[dv, sv]).run P w = .ok v' w') (h : K (a.put o.dst v') w') : Oper.wp P o a w K Q := by
  unfold Oper.wp
  simp [execOp, ho, resolve, invoke, builtin, hd, hs, hrun, Result.andThen]
  exact h
theorem Res.md {L : List Nat} {w w' : World} {B : Nat} {t : TypeId} {A : Option Addr} {c : Nat} {vs : List Value} (h : Res w B t A c vs) (hm : Md L w w') (hL : ∀ x ∈ L, x < B) : Res w' B t A c vs := ⟨h.1, h.2.1, fun hn => by
  obtain ⟨g, rest, e, hg, hk, hc⟩ := h.2.2 hn
  exact ⟨g, rest, e, hg, hk.md hm (fun hx => by have := hL g hx; omega), hc⟩⟩
theorem Md.far {L : List Nat} {a b c : World} (h : Md L a b) (k : Below a.heap.size b c) : Md L a c :=
  ⟨k.os.trans h.os, k.tape.trans h.tape, k.output.trans h.output, Nat.le_trans h.size k.size, fun i hi hn => (k.block i hi).trans (h.block i hi hn)⟩
/-- The headers of whole rows. -/
def hdW (n : Nat) (hs : List (Option Addr × Nat)) : List Value := hs.map fun h => .slice h.1 n h.2
theorem hdW_length (n : Nat) (hs : List (Option Addr × Nat)) : (hdW n hs).length = hs.length := by simp [hdW]
theorem hdW_snoc (n : Nat) (hs : List (Option Addr × Nat)) (A : Option Addr) (c : Nat) (vs : List Value) : hdW n (hs ++ [(A, c)]) ++ vs = hdW n hs ++ .slice A n c :: vs := by simp [hdW]
/-- The first rows are whole, the others as vs says. -/
structure Tm (w : World) (g n : Nat) (hs : List (Option Addr × Nat)) (E : Mf) (vs : List Value) : Prop where
  top : Blk w g 29 (hdW n hs ++ vs)
  row : ∀ i (h : i < hs.length), Res w (g + 1) 24 hs[i].1 hs[i].2 (u32s ((List.range n).map (E i)))
section
variable {w w' : World} {g n : Nat} {hs : List (Option Addr × Nat)} {E : Mf} {vs : List Value} {v : Value}
theorem Tm.cur (h : Blk w g 29 (hdW n hs ++ v :: vs)) : w.cell? ⟨g, hs.length, none⟩ = some v ∧ w.frozen? ⟨g, hs.length, none⟩ = false := by
  refine ⟨?_, h.frozen _⟩
  rw [h.cell, List.getElem?_append_right (by rw [hdW_length]; exact Nat.le_refl _), hdW_length, Nat.sub_self]; rfl
theorem Tm.put (h : Blk w g 29 (hdW n hs ++ v :: vs)) (u : Value) : Blk (w.setCell ⟨g, hs.length, none⟩ u) g 29 (hdW n hs ++ u :: vs) := by
  have h1 := h.set_ hs.length u
  rw [List.set_append_right _ _ (by rw [hdW_length]; exact Nat.le_refl _), hdW_length, Nat.sub_self] at h1
  exact h1
theorem Tm.next (h : Tm w g n hs E (v :: vs)) {A : Option Addr} {c : Nat} (hm : Md [g] w w') (hb : Blk w' g 29 (hdW n hs ++ .slice A n c :: vs)) (hr : Res w' (g + 1) 24 A c (u32s ((List.range n).map (E hs.length)))) : Tm w' g n (hs ++ [(A, c)]) E vs := by
  refine ⟨by rw [hdW_snoc]; exact hb, fun i hi => ?_⟩
  by_cases e : i < hs.length
  · rw [List.getElem_append_left e]
    exact (h.row i e).md hm fun x hx => by rw [List.mem_singleton.1 hx]; omega
  · have hi2 : i = hs.length := by simp at hi; omega
    subst hi2
    rw [List.getElem_append_right (Nat.le_refl _)]
    simpa using hr
theorem Tm.md (h : Tm w g n hs E vs) (hb : Below w.heap.size w w') : Tm w' g n hs E vs :=
  ⟨h.top.below hb h.top.lt, fun i hi => (h.row i hi).below hb (Nat.le_refl _)⟩
theorem Tm.reads (h : Tm w g n hs E []) (hl : hs.length = n) (hn : n ≤ 1000) : RdM w w.heap.size (some ⟨g, 0, none⟩) (mtab n n E) := fun _ =>
  ⟨g, 0, rfl, h.top.lt, fun i hi => by
    have hi2 : i < hs.length := by rw [hl]; rw [mtab_length] at hi; exact hi
    have hr := h.row i hi2
    have e : (mtab n n E)[i] = (List.range n).map (E i) := mtab_at hi
    have hln : (mtab n n E)[i].length = n := by rw [e]; simp
    refine ⟨hs[i].1, hs[i].2, ?_, ?_, by rw [hln]; omega, ?_⟩
    · rw [hln, Nat.zero_add, h.top.cell, List.append_nil]
      unfold hdW
      rw [List.getElem?_map, List.getElem?_eq_getElem hi2]; rfl
    · have h1 := hr.1
      rw [u32s_length] at h1
      rw [e]; exact h1
    · rw [e]; exact hr.rd⟩
end
theorem Rd.pair {w : World} {B : Nat} {A : Option Addr} {xs : List Nat} (h : Rd w B A (u32s xs)) {n m y z : Nat} (h1 : xs[n]? = some z) (h2 : xs[m]? = some y) :
    ∃ b off, A = some ⟨b, off, none⟩ ∧ b < B ∧ w.cell? ⟨b, off + n, none⟩ = some (.int .u32 (z : Int)) ∧ w.cell? ⟨b, off + m, none⟩ = some (.int .u32 (y : Int)) := by
  obtain ⟨b, off, e, hb, hc⟩ := h (by rintro e; have := congrArg List.length e; rw [u32s_length] at this; obtain ⟨h3, _⟩ := List.getElem?_eq_some_iff.1 h1; simp at this; simp [this] at h3)
  exact ⟨b, off, e, hb, hc n _ (by unfold u32s; rw [List.getElem?_map, h1]; rfl), hc m _ (by unfold u32s; rw [List.getElem?_map, h2]; rfl)⟩
theorem u32s_snocR (n : Nat) (f : Nat → Nat) : (List.range n).map f ++ [f n] = (List.range (n + 1)).map f := by rw [List.range_succ, List.map_append, List.map_singleton]
theorem trN_le {H : Mf} {b : Nat} (h : ∀ i, H i i ≤ b) : ∀ n, trN H n ≤ n * b
  | 0 => by simp [trN]
  | n + 1 => by
    show trN H n + H n n ≤ (n + 1) * b
    have h1 := trN_le h n
    have h2 := h n
    have h3 : (n + 1) * b = n * b + b := by rw [Nat.add_mul, Nat.one_mul]
    omega
theorem repl_cons (k : Nat) (h : 0 < k) : List.replicate k (Value.slice none 0 0) = .slice none 0 0 :: List.replicate (k - 1) (.slice none 0 0) := by
  obtain ⟨q, rfl⟩ : ∃ q, k = q + 1 := ⟨k - 1, by omega⟩
  rw [List.replicate_succ, Nat.add_sub_cancel]

/-- What HessSame looks at: one list of coefficients, for the matrix, for its Hessenberg matrix, for its transpose. -/
theorem same_says {p n : Nat} {M : List (List Nat)} (hp : Pr p) (hl : M.length = n) (hrow : ∀ r ∈ M, r.length = n) (hn : 0 < n) :
    ∃ (H : Mf) (L : List Nat), H = (rdS p n (n - 1) 0 ⟨inN p M, idN, idN⟩).h ∧ Lt p n n H ∧ L = polR (chT p (rdS p n (n - 1) 0 ⟨inN p M, zrN, zrN⟩).h n) n ∧ L = polR (chT p (rdS p n (n - 1) 0 ⟨inN p (mtab n n H), zrN, zrN⟩).h n) n ∧
      L = polR (chT p (rdS p n (n - 1) 0 ⟨inN p (mtab n n fun i k => en M k i), zrN, zrN⟩).h n) n ∧ L.length = n + 1 ∧ L[n]? = some 1 ∧ ∃ y, L[n - 1]? = some y ∧ y < p ∧ p ∣ y + trN (inN p M) n := by
  haveI : NeZero p := ⟨by have := hp.pos; omega⟩
  have key : ∀ N : List (List Nat), Kp p n (inN p N) (rdS p n (n - 1) 0 ⟨inN p N, idN, idN⟩) ∧ ∀ i k, k + 1 < i → i < n → (rdS p n (n - 1) 0 ⟨inN p N, idN, idN⟩).h i k = 0 := fun N => by
    have h0 : Kp p n (inN p N) ⟨inN p N, idN, idN⟩ := ⟨In.start n _, fun _ _ _ _ => Nat.mod_lt _ hp.pos, .idN hp.two, .idN hp.two⟩
    obtain ⟨h1, h2⟩ := rdS_ok hp (n - 1) 0 _ (by omega) h0 fun a b hb _ _ => absurd hb (Nat.not_lt_zero _)
    exact ⟨h1, fun i k hk hi => h2 i k (by omega) hk hi⟩
  have same : ∀ N : List (List Nat), (rdS p n (n - 1) 0 ⟨inN p N, zrN, zrN⟩).h = (rdS p n (n - 1) 0 ⟨inN p N, idN, idN⟩).h := fun N => rdS_h _ _ _ _ rfl
  obtain ⟨kM, zM⟩ := key M
  obtain ⟨kT, zT⟩ := key (mtab n n fun i k => en M k i)
  refine ⟨_, polR (chT p (rdS p n (n - 1) 0 ⟨inN p M, zrN, zrN⟩).h n) n, rfl, kM.bh, rfl, ?_, ?_, polR_length _ _, ?_, ?_⟩
  · rw [char_again kM.bh zM, same]
  · rw [same, same]
    unfold polR
    refine List.map_congr_left fun j hj => ?_
    have hj2 : j < n + 1 := by simpa using hj
    refine (char_turn hp.two kM.inn kT.inn zM zT (fun i k hi hk => ?_) j (by omega)).symm
    unfold inN
    rw [en_mtab hi hk]
  · rw [List.getElem?_eq_getElem (by rw [polR_length]; omega), polR_at, chT_top]
  · refine ⟨_, by rw [List.getElem?_eq_getElem (by rw [polR_length]; omega), polR_at], chT_lt hp.two _ _ _ _, ?_⟩
    rw [same]
    obtain ⟨q, rfl⟩ : ∃ q, n = q + 1 := ⟨n - 1, by omega⟩
    exact kM.inn.next hp.pos
end
end Go.Proofs.YtbafiahmcfkboaaDoor
