/- For the walk of NatForms: what the loop over the places holds, and a loop whose two ways out meet again. No conditions. -/
import Derived.Test.YtogkfpbapjjgfaaDoorBitsIt
namespace Go.Proofs.YtogkfpbapjjgfaaDoor
open Go.RowKit Go.Shelf

theorem at0_trim (xs : List Nat) : ∀ k, at0 (trimL xs) k = at0 xs k := by
  induction xs with
  | nil => intro k; rfl
  | cons x xs ih =>
    intro k
    simp only [trimL]
    split
    · rename_i e
      split
      · rename_i h0
        cases k with
        | zero => rw [h0]; rfl
        | succ k =>
          have := ih k
          rw [e] at this
          simpa [at0] using this
      · cases k with
        | zero => rfl
        | succ k =>
          have := ih k
          rw [e] at this
          simpa [at0] using this
    · rename_i e
      cases k with
      | zero => rfl
      | succ k =>
        have := ih k
        rw [e] at this
        simpa [at0] using this
theorem bitAt_trim (xs : List Nat) (i : Nat) : bitAt (trimL xs) i = bitAt xs i := by
  unfold bitAt
  rw [at0_trim]

/-- All cells but block b6's lie as they lay. -/
def Hold (b6 : Nat) (V W : World) : Prop := ∀ (b : Nat) (o : Obj), b ≠ b6 → V.heap[b]? = some o → o.isCells = true → W.heap[b]? = some o
theorem Hold.refl (b6 : Nat) (V : World) : Hold b6 V V := fun _ _ _ h _ => h
theorem Hold.below {b6 : Nat} {V W W' : World} (h : Hold b6 V W) (hb : Below V.heap.size W W') : Hold b6 V W' := fun b o hn hv hc => (hb.block b (Array.getElem?_eq_some_iff.1 hv).1).trans (h b o hn hv hc)
theorem Hold.own {b6 B : Nat} {V A C : World} {row : Option Nat} (h : Hold b6 V A) (hg : A.grownBy C row) (hr : ∀ r, row = some r → B ≤ r ∧ ∃ o : Obj, A.heap[r]? = some o ∧ o.isCells = false) : Hold b6 V C := fun b o hn hv hc => by
  have h1 := h b o hn hv hc
  refine (hg.block b (Array.getElem?_eq_some_iff.1 h1).1 fun e => ?_).trans h1
  obtain ⟨_, o', ho', hc'⟩ := hr _ e.symm
  rw [h1] at ho'
  cases ho'
  rw [hc] at hc'; cases hc'
theorem Hold.set {b6 p : Nat} {V W : World} (h : Hold b6 V W) (hp : p = b6 ∨ V.heap.size ≤ p) (u : Value) : Hold b6 V (W.setCell ⟨p, 0, none⟩ u) := fun b o hn hv hc => by
  have hb := (Array.getElem?_eq_some_iff.1 hv).1
  exact (Below.heap_setCell W ⟨p, 0, none⟩ u b (by show b ≠ p; omega)).trans (h b o hn hv hc)
theorem Blk.hold {b6 g : Nat} {V W : World} {t : TypeId} {vs : List Value} (h : Blk V g t vs) (hk : Hold b6 V W) (hg : g ≠ b6) : Blk W g t vs := hk g _ hg h rfl
theorem Res.hold {b6 B : Nat} {V W : World} {t : TypeId} {A : Option Addr} {c : Nat} {vs : List Value} (h : Res V B t A c vs) (hk : Hold b6 V W) (hB : b6 < B) : Res W B t A c vs := ⟨h.1, h.2.1, fun hn => by
  obtain ⟨g, rest, e, hg, hb, hc⟩ := h.2.2 hn
  exact ⟨g, rest, e, hg, hb.hold hk (by omega), hc⟩⟩
theorem boxed_own {A C : World} {B b : Nat} {t : TypeId} {v : Value} {row : Option Nat} (h : Boxed A b t v) (hg : A.grownBy C row) (hr : ∀ r, row = some r → B ≤ r ∧ ∃ o : Obj, A.heap[r]? = some o ∧ o.isCells = false) : Boxed C b t v := h.kept hg fun e => by
  obtain ⟨_, o, ho, hc⟩ := hr _ e.symm
  rw [show _ = _ from h] at ho; cases ho; cases hc
theorem boxed_far {W : World} {b b' : Nat} {t : TypeId} {v : Value} (h : Boxed W b t v) (hne : b ≠ b') (u : Value) : Boxed (W.setCell ⟨b', 0, none⟩ u) b t v := (Below.heap_setCell W ⟨b', 0, none⟩ u b hne).trans h

/-- What the loop holds: the cells of V; the two counters in the boxes that follow V's; the result's box. -/
def JF (w V : World) (last count : Int) (W : World) : Prop :=
  Hold (w.heap.size + 1) V W ∧ Below w.heap.size w W ∧ Boxed W V.heap.size 3 (.int .i64 last) ∧ Boxed W (V.heap.size + 1) 3 (.int .i64 count) ∧ ∃ u, Boxed W (w.heap.size + 1) 4 u
theorem JF.own {w V A C : World} {last count : Int} {B : Nat} {row : Option Nat} (h : JF w V last count A) (hB : w.heap.size ≤ B) (hg : A.grownBy C row) (hr : ∀ r, row = some r → B ≤ r ∧ ∃ o : Obj, A.heap[r]? = some o ∧ o.isCells = false) : JF w V last count C := by
  obtain ⟨h1, h2, h3, h4, u, h5⟩ := h
  exact ⟨h1.own hg hr, h2.trans ⟨hg.os, hg.tape, hg.output, Nat.le_trans (Nat.le_refl _) hg.size, fun k hk => hg.block k (by have := h2.size; omega) fun e => by have := (hr k e.symm).1; omega⟩, boxed_own h3 hg hr, boxed_own h4 hg hr, u, boxed_own h5 hg hr⟩
theorem JF.put {w V W : World} {last count : Int} (h : JF w V last count W) (hw : w.heap.size + 2 ≤ V.heap.size) (l2 c2 : Int) : JF w V l2 c2 ((W.setCell ⟨V.heap.size, 0, none⟩ (.int .i64 l2)).setCell ⟨V.heap.size + 1, 0, none⟩ (.int .i64 c2)) := by
  obtain ⟨h1, h2, h3, h4, u, h5⟩ := h
  refine ⟨(h1.set (Or.inr (Nat.le_refl _)) _).set (Or.inr (by omega)) _, (h2.setCell (p := ⟨V.heap.size, 0, none⟩) (by show w.heap.size ≤ V.heap.size; omega) _).setCell (p := ⟨V.heap.size + 1, 0, none⟩) (by show w.heap.size ≤ V.heap.size + 1; omega) _, boxed_far (Boxed.set _ h3) (by omega) _, Boxed.set _ (boxed_far h4 (by omega) _), u, boxed_far (boxed_far h5 (by omega) _) (by omega) _⟩
theorem JF.below {w V W W' : World} {last count : Int} (h : JF w V last count W) (hb : Below W.heap.size W W') : JF w V last count W' := by
  obtain ⟨h1, h2, h3, h4, u, h5⟩ := h
  have hs := h4.lt
  exact ⟨h1.below (hb.mono (by omega)), h2.trans (hb.mono h2.size), (hb.block _ h3.lt).trans h3, (hb.block _ h4.lt).trans h4, u, (hb.block _ h5.lt).trans h5⟩

def JI (w V : World) (pre : List Pl) (W : World) : Prop := JF w V (lastI pre) (pre.length : Int) W ∧ pre.length ≤ 3000
def JX (ps : List Nat) (w V : World) (c : Code) (pre : List Pl) (W : World) : Prop :=
  (c = .ret ∧ ∃ p x, pre = p ++ [x] ∧ ¬ (lastI p < (x.1 : Int) ∧ bitAt ps x.1 = 1)) ∨ (c = .exit 2 ∧ ∃ l : Int, JF w V l 3001 W)
theorem JI.own {w V : World} {B : Nat} (hB : w.heap.size ≤ B) : OwnFrom B (JI w V) := fun _ _ _ _ h hg hr => ⟨h.1.own hB hg hr, h.2⟩
theorem JX.own {ps : List Nat} {w V : World} {B : Nat} (hB : w.heap.size ≤ B) (c : Code) : OwnFrom B (JX ps w V c) := fun _ _ _ _ h hg hr => h.imp id fun ⟨h1, l, h2⟩ => ⟨h1, l, h2.own hB hg hr⟩
theorem kc_put {w V W : World} {last count : Int} (h : JF w V last count W) (u v : Value) (n₁ : Nat) (h1 : w.heap.size ≤ V.heap.size) (hn : V.heap.size + 2 ≤ n₁) : KC w.heap.size n₁ W ((W.setCell ⟨V.heap.size, 0, none⟩ u).setCell ⟨V.heap.size + 1, 0, none⟩ v) :=
  ⟨((Below.refl _ W).setCell (p := ⟨V.heap.size, 0, none⟩) (by show w.heap.size ≤ V.heap.size; omega) _).setCell (p := ⟨V.heap.size + 1, 0, none⟩) (by show w.heap.size ≤ V.heap.size + 1; omega) _, fun b o hb hx _ =>
    (Below.heap_setCell _ ⟨V.heap.size + 1, 0, none⟩ v b (by show b ≠ V.heap.size + 1; omega)).trans ((Below.heap_setCell _ ⟨V.heap.size, 0, none⟩ u b (by show b ≠ V.heap.size; omega)).trans hx)⟩
theorem kc_trans_dr {n₀ n₁ : Nat} {A B C : World} (h : Dr A B) (k : KC n₀ n₁ B C) : KC n₀ n₁ A C := by
  obtain ⟨n, rfl⟩ := h
  exact ⟨(Dr.below ⟨n, rfl⟩ _).trans k.1, k.2⟩

theorem Res.ch {gx B : Nat} {W W' : World} {t : TypeId} {A : Option Addr} {c : Nat} {vs : List Value} (h : Res W B t A c vs) (hc : Ch gx W W') (hne : gx < B ∨ W.heap.size ≤ gx) : Res W' B t A c vs := ⟨h.1, h.2.1, fun hn => by
  obtain ⟨g, rest, e, hg, hb, hl⟩ := h.2.2 hn
  exact ⟨g, rest, e, hg, hb.ch hc (by have := hb.lt; omega), hl⟩⟩
/-- The function's end: the result's box, and the record of what is deferred. -/
theorem forms_end {w W : World} {D : Nat} (hb : Below w.heap.size w W) (hx : ∃ u, Boxed W (w.heap.size + 1) 4 u) (hD : w.heap.size ≤ D) (hK : W.heap[D]? = some (.deferred (some []))) :
    (W.setCell ⟨w.heap.size + 1, 0, none⟩ (.bool true)).heap[D]? = some (.deferred (some [])) ∧ ((W.setCell ⟨w.heap.size + 1, 0, none⟩ (.bool true)).putObj D (.deferred none)).cell? ⟨w.heap.size + 1, 0, none⟩ = some (.bool true) ∧
      Below w.heap.size w ((W.setCell ⟨w.heap.size + 1, 0, none⟩ (.bool true)).putObj D (.deferred none)) := by
  obtain ⟨u, hu⟩ := hx
  have hK1 := (KeepsOthers.setCell W ⟨w.heap.size + 1, 0, none⟩ (.bool true)).same D _ hK rfl
  refine ⟨hK1, cell_kept (World.cell?_setCell_same' _ _ _ (by rw [hu.cell]; rfl)) (grownBy_putObj' _ D (.deferred none)) (fun r e => by cases e; exact ⟨_, hK1, rfl⟩), ?_⟩
  exact (hb.setCell (p := ⟨w.heap.size + 1, 0, none⟩) (by simp) (.bool true)).trans (belowK_b (w := w) (Nat.le_refl _) _ D _ _ (by omega) hK1 rfl rfl)
/-- A loop over an iterator whose two ways out, at its end and by 'break', meet again. -/
theorem range_fin {P : Program} {n : Nat} {α : Type} {g : Operand} {ps : Array Tmp} {assign body : Code} {Q : Exit → Act → World → Prop} {a : Act} {w : World} (h1 : 1 ≤ n) {gf : Nat} {lb : Array Value} (hg : a.eval g = .func (.func gf) #[] lb)
    (eg : ∀ args w, (callFunc gf args).run P w = .ok (.enter gf args) w) {encs : α → Array Value} {Kp : World → World → Prop} {S Sp : List α → Prop} {N : Nat} (hseq : SeqOwn (n - 1) P gf lb encs Kp S Sp N w)
    (hKt : ∀ {A B C : World}, Kp A B → Kp B C → Kp A C) (hKb : ∀ (W : World) (l : Nat) (o o' : Obj), w.heap.size ≤ l → W.heap[l]? = some o → o.isCells = false → o.isWalk = false → Kp W (W.putObj l o')) (hps : ∀ x, (encs x).size = ps.size)
    (I : List α → World → Prop) (Ix : Code → List α → World → Prop) (hI : OwnFrom w.heap.size I) (hIx : ∀ c, OwnFrom w.heap.size (Ix c)) (h0 : I [] w) (a₁ : α → Act) (id : Nat) (Fin : World → Prop)
    (hexit : ∀ a' W, Q .normal a' W → Q (.exit id) a' W) (hd : ∀ xs W, S xs → I xs W → Fin W) (hs : ∀ c pre W, Sp pre → Ix c pre W → c = .exit id ∧ Fin W)
    (hfin : ∀ (D : Nat) (W : World), w.heap.size ≤ D → Fin W → W.heap[D]? = some (.deferred (some [])) → Q .normal { a with defers := { target := .collected D, args := #[] } :: a.defers } W)
    (hassign : ∀ (l : Nat) (x : α) (W : World) (K : Act → World → Prop), K (a₁ x) W →
      assign.wpIn (Fence.wide.inRound l) (n - 1 - 1) P (Exit.then K (fun _ _ _ => False)) { tmps := (ps.zip (encs x)).foldl (fun t (p, v) => t.setIfInBounds p v) a.tmps, defers := [] } W)
    (hbody : ∀ (l : Nat) (pre : List α) (x : α) (W : World), I pre W → pre.length < N → body.wpIn (Fence.wide.inRound l) (n - 1 - 1) P (ownPostK Kp I Ix (pre ++ [x]) W) (a₁ x) W) :
    (Code.rangeFunc g ps assign body).wpIn Fence.wide n P Q a w :=
  range_own h1 hg eg hseq hKt hKb hps I Ix hI hIx h0 a₁ hassign hbody (fun D xs W hD hS hI hK => hfin D W hD (hd xs W hS hI) hK)
    (fun D c pre W hD hS hI hK => by
      obtain ⟨rfl, hF⟩ := hs c pre W hS hI
      exact wpIn_exit (hexit _ _ (hfin D W hD hF hK)))
end Go.Proofs.YtogkfpbapjjgfaaDoor
