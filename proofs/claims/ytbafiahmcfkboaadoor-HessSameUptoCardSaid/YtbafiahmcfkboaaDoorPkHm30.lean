/- The contract of made. Conditions: the entries come from a function that only draws. Rows that grow by append, elements of one cell. No conditions beyond the law's. Matrices and rows that grow by append. No conditions beyond the law's. The reference's Norm and Mul of layer 21; the law's copied. Conditions: the sizes. -/
import Derived.Test.YtbafiahmcfkboaaDoorPkHm23
import Derived.Deep.CutBlock
import Derived.RegionTactic
import Derived.Deep.RegionHeld3
import Derived.Maps.AppendAt
import Derived.OwnWalk
import Derived.OneCell
import Derived.Test.YtbafiahmcfkboaaDoorPkHm29
namespace Go.Proofs.YtbafiahmcfkboaaDoor
section
open Go.RowKit

/-- A matrix by its entries. -/
def mtab (r c : Nat) (E : Nat → Nat → Nat) : List (List Nat) := (List.range r).map fun i => (List.range c).map (E i)
theorem mtab_length (r c : Nat) (E : Nat → Nat → Nat) : (mtab r c E).length = r := by simp [mtab]
theorem mtab_at {r c : Nat} {E : Nat → Nat → Nat} {i : Nat} (h : i < (mtab r c E).length) : (mtab r c E)[i] = (List.range c).map (E i) := by simp [mtab]
end
section
open Go.RowKit

/-- v is a slice at the head of a row of one's own, from block B on, or nil; it holds xs. -/
def Ro (w : World) (B : Nat) (e : TypeId) (v : Value) (xs : List Value) : Prop := w.ownsRow B e 1 v xs.length xs
theorem Ro.nil_ (w : World) (B : Nat) (e : TypeId) : Ro w B e (.slice none 0 0) [] := ⟨rfl, .inl ⟨rfl, rfl⟩⟩
theorem addr_add (b off j : Nat) : (⟨b, off, none⟩ : Addr).add j = ⟨b, off + j, none⟩ := by unfold Addr.add; split <;> simp_all
theorem Ro.form {w : World} {B : Nat} {e : TypeId} {v : Value} {xs : List Value} (h : Ro w B e v xs) (hm : xs.length ≤ 281474976710656) : ∃ A c, v = .slice A xs.length c ∧ Res w B e A c xs ∧ (∀ a, A = some a → a.block < w.heap.size) := by
  obtain ⟨hl, h1 | ⟨g, cap, cur, rfl, hg, hh, hnc, hcm, hsz, ht⟩⟩ := h
  · obtain ⟨rfl, h0⟩ := h1
    have : xs = [] := List.eq_nil_of_length_eq_zero h0
    subst this
    exact ⟨none, 0, rfl, Res.none_, fun a h => by cases h⟩
  · have hb : Blk w g e cur.toList := by simpa [Blk] using hh
    refine ⟨_, cap, rfl, ⟨hnc, hm, fun _ => ⟨g, cur.toList.drop (xs.length), rfl, hg, ?_, ?_⟩⟩, fun a h => ?_⟩
    · have h9 : cur.toList.take xs.length = xs := by simpa using ht
      have h8 : xs ++ cur.toList.drop xs.length = cur.toList := by
        conv => lhs; lhs; rw [← h9]
        exact List.take_append_drop _ _
      rw [h8]; exact hb
    · rw [List.length_drop]; simp at hsz; simp [hsz]; omega
    · obtain rfl : (⟨g, 0, none⟩ : Addr) = a := by simpa using h
      exact hb.lt
theorem Ro.capLe {w : World} {B : Nat} {e : TypeId} {A : Option Addr} {n c : Nat} {xs : List Value} (h : Ro w B e (.slice A n c) xs) : c ≤ maxLen := by
  obtain ⟨hl, h1 | ⟨g, cap, cur, hv, hg, hh, hnc, hcm, hsz, ht⟩⟩ := h
  · obtain ⟨h1, _⟩ := h1
    injection h1 with _ _ h3
    subst h3; unfold maxLen; omega
  · injection hv with _ _ h3
    subst h3; exact hcm
/-- A row of which the header is written out. -/
theorem Ro.res {w : World} {B : Nat} {e : TypeId} {A : Option Addr} {n c : Nat} {xs : List Value} (h : Ro w B e (.slice A n c) xs) (hm : xs.length ≤ 281474976710656) : n = xs.length ∧ Res w B e A c xs ∧ (∀ a, A = some a → a.block < w.heap.size) := by
  obtain ⟨A', c', h1, h2, h3⟩ := h.form hm
  injection h1 with e1 e2 e3
  subst e1 e2 e3
  exact ⟨rfl, h2, h3⟩
theorem Ro.rd {w : World} {B : Nat} {e : TypeId} {A : Option Addr} {n c : Nat} {xs : List Value} (h : Ro w B e (.slice A n c) xs) : n = xs.length ∧ xs.length ≤ c ∧ Rd w w.heap.size A xs := by
  obtain ⟨hl, ⟨h1, h0⟩ | ⟨g, cap, cur, hv, hg, hh, hnc, hcm, hsz, ht⟩⟩ := h
  · injection h1 with e1 e2 e3
    subst e1 e2 e3
    have : xs = [] := List.eq_nil_of_length_eq_zero h0
    subst this
    exact ⟨rfl, Nat.le_refl _, Rd.nil_⟩
  · injection hv with e1 e2 e3
    subst e1 e2 e3
    have hb : Blk w g e cur.toList := by simpa [Blk] using hh
    have h9 : cur.toList.take xs.length = xs := by simpa using ht
    exact ⟨rfl, hnc, Rd.of_blk hb hb.lt 0 (fun k v hv => by
      rw [Nat.zero_add]
      rw [← h9, List.getElem?_take] at hv
      split at hv
      · exact hv
      · cases hv)⟩
theorem Ro.below {w w' : World} {B B' : Nat} {e : TypeId} {v : Value} {xs : List Value} (h : Ro w B e v xs) (hb : Below B' w w') (hB : w.heap.size ≤ B') : Ro w' B e v xs := by
  obtain ⟨hl, h1 | ⟨g, cap, cur, hv, hg, hh, r⟩⟩ := h
  · exact ⟨hl, .inl h1⟩
  · have hlt : g < w.heap.size := (Array.getElem?_eq_some_iff.1 hh).1
    exact ⟨hl, .inr ⟨g, cap, cur, hv, hg, (hb.block g (by omega)).trans hh, r⟩⟩
theorem Ro.tn {w w' : World} {B k : Nat} {e : TypeId} {v : Value} {xs : List Value} (h : Ro w B e v xs) (ht : Tn k w w') (hk : k < B) : Ro w' B e v xs := by
  obtain ⟨hl, h1 | ⟨g, cap, cur, hv, hg, hh, r⟩⟩ := h
  · exact ⟨hl, .inl h1⟩
  · have hlt : g < w.heap.size := (Array.getElem?_eq_some_iff.1 hh).1
    exact ⟨hl, .inr ⟨g, cap, cur, hv, hg, (ht.block g hlt (by omega)).trans hh, r⟩⟩
theorem Ro.drewN {w : World} {B : Nat} {e : TypeId} {v : Value} {xs : List Value} (h : Ro w B e v xs) (n : Nat) : Ro (w.drewN n) B e v xs := h
theorem Ro.mono {w : World} {B B' : Nat} {e : TypeId} {v : Value} {xs : List Value} (h : Ro w B e v xs) (hB : B' ≤ B) : Ro w B' e v xs := by
  obtain ⟨hl, h1 | ⟨g, cap, cur, hv, hg, r⟩⟩ := h
  · exact ⟨hl, .inl h1⟩
  · exact ⟨hl, .inr ⟨g, cap, cur, hv, by omega, r⟩⟩
theorem Ro.of_blk {w : World} {B g : Nat} {e : TypeId} {xs : List Value} (h : Blk w g e xs) (hg : B ≤ g) (hm : xs.length ≤ maxLen) : Ro w B e (.slice (some ⟨g, 0, none⟩) xs.length xs.length) xs :=
  ⟨by simp, .inr ⟨g, xs.length, xs.toArray, rfl, hg, h, Nat.le_refl _, hm, by simp, by simp⟩⟩

/-- What an append to a row has turned: the row's block at most; new ones may lie behind. -/
theorem below_grown' {w w' : World} {row : Option Nat} (h : w.grownBy w' row) {B : Nat} (hB : ∀ k, row = some k → B ≤ k) (hw : B ≤ w.heap.size) : Below B w w' := (Below.refl B w).grown h hw hB
theorem Ro.block {w : World} {B : Nat} {e : TypeId} {v : Value} {xs : List Value} (h : Ro w B e v xs) : ∀ k, v.ownBlock = some k → B ≤ k := fun k hk => by
  obtain ⟨hl, ⟨rfl, _⟩ | ⟨g, cap, cur, rfl, hg, _⟩⟩ := h
  · simp [Value.ownBlock] at hk
  · simp [Value.ownBlock] at hk; omega

/-- Appending what a slice reads as to a row of one's own. -/
theorem ro_app {P : Program} (w : World) (B : Nat) (t ty e : TypeId) (i : TypeInfo) (z : Value) (bytes : Nat) (ht : P.underlying t = some (.slice e)) (hi : P.info? e = some i) (hz : i.zero = some z)
    (hsize : i.size = 1) (hby : i.bytes = bytes) (hzs : z.cells.size = 1) (v : Value) (xs : List Value) (hown : Ro w B e v xs)
    (A : Option Addr) (m c B2 : Nat) (news : List Value) (hr : Rd w B2 A news) (hm : news.length = m) (h1 : ∀ u ∈ news, u.oneCell' = true) (h63 : xs.length + m ≤ maxLen) (hbytes : (xs.length + m) * bytes ≤ 140737488355328) (hbase : B ≤ w.heap.size) :
    ∃ A' c' w', (Builtin.append_ #[t, t] ty #[v, .slice A m c]).run P w = .ok (.slice A' (xs ++ news).length c') w' ∧ Ro w' B e (.slice A' (xs ++ news).length c') (xs ++ news) ∧ w.grownBy w' v.ownBlock := by
  have fin : ∀ v' w', (Builtin.append_ #[t, t] ty #[v, .slice A m c]).run P w = .ok v' w' → w'.ownsRow B e 1 v' (xs.length + m) (xs ++ news) → w.grownBy w' v.ownBlock → ∃ A' c' w', (Builtin.append_ #[t, t] ty #[v, .slice A m c]).run P w = .ok (.slice A' (xs ++ news).length c') w' ∧ Ro w' B e (.slice A' (xs ++ news).length c') (xs ++ news) ∧ w.grownBy w' v.ownBlock := fun v' w' hrun h2 h3 => by
    have hl : (xs ++ news).length = xs.length + m := by rw [List.length_append, hm]
    rw [← hl] at h2
    have h4 : Ro w' B e v' (xs ++ news) := h2
    obtain ⟨hl2, ⟨rfl, h0⟩ | ⟨g, cap, cur, rfl, r⟩⟩ := h2
    · rw [h0]
      exact ⟨none, 0, w', hrun, h4, h3⟩
    · exact ⟨_, _, w', hrun, h4, h3⟩
  rcases A with _ | ad
  · have h0 : news = [] := by
      by_cases h : news = []
      · exact h
      · obtain ⟨_, _, h2, _⟩ := hr h
        cases h2
    subst h0
    obtain rfl : m = 0 := by simpa using hm.symm
    refine fin v w ?_ (by rw [List.append_nil, Nat.add_zero]; exact hown) (World.grownBy.refl w _)
    obtain ⟨hl, ⟨rfl, h0⟩ | ⟨g', cap', cur, rfl, hg, hh, hnc, hcm, hsz, htk⟩⟩ := hown
    · simp [Builtin.append_, run_underlying ht, sizeOf, typeInfo, hi, Builtin.lenOf, Builtin.firstCells]
    · simp [Builtin.append_, run_underlying ht, sizeOf, typeInfo, hi, Builtin.lenOf, Builtin.firstCells, hnc, storeCells]
  · have hcells : ∀ j u, news[j]? = some u → w.cell? (ad.add j) = some u := fun j u hu => by
      obtain ⟨b, off, h2, _, hc⟩ := hr (by rintro rfl; simp at hu)
      injection h2 with h2
      subst h2
      rw [addr_add]
      exact hc j u hu
    obtain ⟨v', w', hrun, h2, h3, _, _⟩ := run_append_own_at (P := P) w B t ty e i z 1 bytes ht hi hz hsize hby hzs (by omega) _ xs.length xs hown ad m c news (by rw [hm]; omega) hcells h1 h63 hbytes hbase
    exact fin v' w' hrun h2 h3

/-- The walk's step at an append whose run is known. -/
theorem wpList_append_run {P : Program} {w : World} {ops : Array Oper} {rest : List Oper} {o : Oper} {a : Act} {Q : Exit → Act → World → Prop} (hgd : o.guard = none) (d s : Operand) (dT sT : TypeId)
    (ho : o.op = .call { callee := .builtin .append, args := #[d, s], argTypes := #[dT, sT] }) (dv sv : Value) (hd : a.eval d = dv) (hs : a.eval s = sv) (v' : Value) (w' : World)
    (hrun : (Builtin.append_ #[dT, sT] o.type #[dv, sv]).run P w = .ok v' w') (h : wpList P ops Q rest (a.put o.dst v') w') : wpList P ops Q (o :: rest) a w := by
  refine wpList_plain hgd fun K hK => ?_
  unfold Oper.wp
  simp [execOp, ho, resolve, invoke, builtin, hd, hs, hrun, Result.andThen]
  exact hK _ _ h
end
section
open Go.RowKit

theorem one_u32s (xs : List Nat) : ∀ u ∈ u32s xs, u.oneCell' = true := fun u hu => by
  obtain ⟨x, _, rfl⟩ := List.mem_map.1 hu; rfl
/-- One number more on a row of one's own. -/
theorem app_u32 (w : World) (B : Nat) (v : Value) (l : List Nat) (x : Nat) (h : Ro w B 24 v (u32s l)) (hB : B ≤ w.heap.size) (hl : l.length ≤ 17592186044416) :
    ∃ A' c' w', (Builtin.append_ #[29, 29] 29 #[v, .slice (some ⟨w.heap.size, 0, none⟩) 1 1]).run Tryd.prog (w.alloc (.cells #[.int .u32 (x : Int)] 24)) = .ok (.slice A' (l.length + 1) c') w' ∧
      Ro w' B 24 (.slice A' (l.length + 1) c') (u32s (l ++ [x])) ∧ Below B w w' := by
  obtain ⟨i0, hi, hz0, hz1, hz2⟩ := info_parts Tryd.info32
  have hb : Below w.heap.size w (w.alloc (.cells #[.int .u32 (x : Int)] 24)) := (Below.refl _ _).alloc (Nat.le_refl _) _
  have h2 : Ro (w.alloc (.cells #[.int .u32 (x : Int)] 24)) B 24 v (u32s l) := h.below hb (Nat.le_refl _)
  have hbk : Blk (w.alloc (.cells #[.int .u32 (x : Int)] 24)) w.heap.size 24 [.int .u32 (x : Int)] := Blk.new_ rfl
  have hrd : Rd (w.alloc (.cells #[.int .u32 (x : Int)] 24)) (w.heap.size + 1) (some ⟨w.heap.size, 0, none⟩) [.int .u32 (x : Int)] := Rd.of_blk hbk (by omega) 0 (fun k u hu => by rw [Nat.zero_add]; exact hu)
  obtain ⟨A', c', w', hrun, h3, h4⟩ := ro_app (P := Tryd.prog) _ B 29 29 24 i0 (.int .u32 0) 4 Tryd.underlying29 hi hz0 hz1 hz2 rfl v (u32s l) h2 (some ⟨w.heap.size, 0, none⟩) 1 1 _ [.int .u32 (x : Int)] hrd rfl (one_u32s [x]) (by rw [u32s_length]; unfold maxLen; omega) (by rw [u32s_length]; omega) (by simp; omega)
  have hl2 : (u32s l ++ [Value.int .u32 (x : Int)]).length = l.length + 1 := by simp [u32s]
  rw [hl2] at hrun h3
  refine ⟨A', c', w', hrun, ?_, (hb.mono hB).trans (below_grown' h4 h.block (by simp; omega))⟩
  rw [u32s_snoc]; exact h3
/-- A block of another element type is another block. -/
theorem Res.grown {w w' : World} {B : Nat} {t t2 : TypeId} {A : Option Addr} {c : Nat} {vs : List Value} {row : Option Nat} (h : Res w B t A c vs) (hg : w.grownBy w' row) (hrow : ∀ k, row = some k → ∃ us, Blk w k t2 us) (hne : t ≠ t2) : Res w' B t A c vs := ⟨h.1, h.2.1, fun hn => by
  obtain ⟨g, rest, e, hB, hb, hc⟩ := h.2.2 hn
  refine ⟨g, rest, e, hB, (hg.block g hb.lt (fun e2 => ?_)).trans hb, hc⟩
  obtain ⟨us, hu⟩ := hrow g e2.symm
  unfold Blk at hb hu
  rw [hb] at hu
  injection hu with hu
  injection hu with _ hu _
  exact hne hu⟩
theorem Ro.rowBlk {w : World} {B : Nat} {e : TypeId} {v : Value} {xs : List Value} (h : Ro w B e v xs) : ∀ k, v.ownBlock = some k → ∃ us, Blk w k e us := fun k hk => by
  obtain ⟨hl, ⟨rfl, _⟩ | ⟨g, cap, cur, rfl, hg, hh, _⟩⟩ := h
  · simp [Value.ownBlock] at hk
  · obtain rfl : g = k := by simpa [Value.ownBlock] using hk
    exact ⟨cur.toList, by simpa [Blk] using hh⟩

/-- A matrix that grows by append: the headers' row is v, from block B on, all rows below block U. -/
def OwA (w : World) (B U : Nat) (v : Value) (M : List (List Nat)) : Prop :=
  ∃ hs : List (Option Addr × Nat), ∃ hl : hs.length = M.length, Ro w B 29 v (hdrs hs M) ∧ (∀ i (h : i < M.length), Res w B 24 (hs[i]'(hl ▸ h)).1 (hs[i]'(hl ▸ h)).2 (u32s M[i])) ∧ UB U hs ∧
    (∀ i j (hi : i < M.length) (hj : j < M.length), i ≠ j → M[i] ≠ [] → M[j] ≠ [] → (hs[i]'(hl ▸ hi)).1 ≠ (hs[j]'(hl ▸ hj)).1)
theorem OwA.nil_ (w : World) (B U : Nat) : OwA w B U (.slice none 0 0) [] :=
  ⟨[], rfl, Ro.nil_ _ _ _, (fun i h => absurd h (Nat.not_lt_zero _)), (fun _ h => by cases h), (fun i j hi => absurd hi (Nat.not_lt_zero _))⟩
theorem OwA.mono {w : World} {B U U' : Nat} {v : Value} {M : List (List Nat)} (h : OwA w B U v M) (hU : U ≤ U') : OwA w B U' v M := by
  obtain ⟨hs, hl, h1, h2, h3, h4⟩ := h
  exact ⟨hs, hl, h1, h2, h3.mono hU, h4⟩
theorem OwA.below {w w' : World} {B B' U : Nat} {v : Value} {M : List (List Nat)} (h : OwA w B U v M) (hb : Below B' w w') (hB : w.heap.size ≤ B') : OwA w' B U v M := by
  obtain ⟨hs, hl, h1, h2, h3, h4⟩ := h
  exact ⟨hs, hl, h1.below hb hB, fun i hi => (h2 i hi).below hb hB, h3, h4⟩
/-- It reads as its rows. -/
theorem OwA.rd {w : World} {B U : Nat} {A : Option Addr} {n c : Nat} {M : List (List Nat)} (h : OwA w B U (.slice A n c) M) (_ : U ≤ w.heap.size) : n = M.length ∧ M.length ≤ c ∧ RdM w w.heap.size A M := by
  obtain ⟨hs, hl, h1, h2, h3, h4⟩ := h
  obtain ⟨e1, e2, e3⟩ := h1.rd
  rw [hdrs_length hl] at e1 e2
  refine ⟨e1, e2, fun hn => ?_⟩
  obtain ⟨b, off, e4, e5, e6⟩ := e3 (fun e => hn (List.eq_nil_of_length_eq_zero (by rw [← hdrs_length hl, e]; rfl)))
  refine ⟨b, off, e4, e5, fun i hi => ⟨_, _, e6 i _ (hdrs_at (hl ▸ hi) hi), ?_, ?_, (h2 i hi).rd⟩⟩
  · have := (h2 i hi).1; rw [u32s_length] at this; exact this
  · have := (h2 i hi).2.1; rw [u32s_length] at this; exact this
/-- It is a matrix of one's own. -/
theorem OwA.own {w : World} {B U : Nat} {A : Option Addr} {n c : Nat} {M : List (List Nat)} (h : OwA w B U (.slice A n c) M) (hn : M ≠ []) : ∃ g hs, A = some ⟨g, 0, none⟩ ∧ Own w B g hs M ∧ UB U hs ∧ g < w.heap.size := by
  obtain ⟨hs, hl, h1, h2, h3, h4⟩ := h
  obtain ⟨hl1, ⟨hv, h0⟩ | ⟨g, cap, cur, hv, hg, hh, hnc, hcm, hsz, ht⟩⟩ := h1
  · rw [hdrs_length hl] at h0
    exact absurd (List.eq_nil_of_length_eq_zero h0) hn
  · injection hv with e1 e2 e3
    subst e1 e2 e3
    have hb : Blk w g 29 cur.toList := by simpa [Blk] using hh
    have h9 : cur.toList.take (hdrs hs M).length = hdrs hs M := by simpa using ht
    refine ⟨g, hs, rfl, ⟨hl, ⟨cur.toList.drop (hdrs hs M).length, ?_⟩, hg, h2, fun i hi hne e => ?_, h4⟩, h3, hb.lt⟩
    · have h8 : hdrs hs M ++ cur.toList.drop (hdrs hs M).length = cur.toList := by
        conv => lhs; lhs; rw [← h9]
        exact List.take_append_drop _ _
      rw [h8]; exact hb
    · obtain ⟨g1, rest, e1, _, hb1, _⟩ := (h2 i hi).2.2 (fun e => hne (u32s_nil_iff.1 e))
      rw [e] at e1
      obtain rfl : g = g1 := by simpa using e1
      unfold Blk at hb hb1
      rw [hb] at hb1
      injection hb1 with hb1
      injection hb1 with _ hb1 _
      exact absurd hb1 (by decide)
end
section
open Go.RowKit
end
end Go.Proofs.YtbafiahmcfkboaaDoor
