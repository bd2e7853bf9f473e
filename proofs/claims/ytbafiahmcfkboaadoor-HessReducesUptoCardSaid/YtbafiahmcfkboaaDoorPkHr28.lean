/- The contract of made. Conditions: the entries come from a function that only draws. Rows that grow by append, elements of one cell. No conditions beyond the law's. Matrices and rows that grow by append. No conditions beyond the law's. The reference's Norm and Mul of layer 21; the law's copied. Conditions: the sizes. -/
import Derived.Test.YtbafiahmcfkboaaDoorPkHr22
import Derived.Deep.CutBlock
import Derived.RegionTactic
import Derived.Deep.RegionHeld3
import Derived.Test.YtbafiahmcfkboaaDoorPkHr21
import Derived.Maps.AppendAt
import Derived.OwnWalk
import Derived.OneCell
import Derived.Test.YtbafiahmcfkboaaDoorPkHr27
namespace Go.Proofs.YtbafiahmcfkboaaDoor
section
open Go.RowKit

/-- A matrix by its entries. -/
def mtab (r c : Nat) (E : Nat → Nat → Nat) : List (List Nat) := (List.range r).map fun i => (List.range c).map (E i)
theorem mtab_length (r c : Nat) (E : Nat → Nat → Nat) : (mtab r c E).length = r := by simp [mtab]
theorem mtab_at {r c : Nat} {E : Nat → Nat → Nat} {i : Nat} (h : i < (mtab r c E).length) : (mtab r c E)[i] = (List.range c).map (E i) := by simp [mtab]
/-- The first rows of it, the others empty. -/
def tabTo (r c : Nat) (E : Nat → Nat → Nat) (k : Nat) : List (List Nat) := mtab k c E ++ List.replicate (r - k) []
theorem tabTo_length {r c : Nat} {E : Nat → Nat → Nat} {k : Nat} (h : k ≤ r) : (tabTo r c E k).length = r := by simp [tabTo, mtab]; omega
theorem tabTo_all (r c : Nat) (E : Nat → Nat → Nat) : tabTo r c E r = mtab r c E := by simp [tabTo]
theorem tabTo_set {r c : Nat} {E : Nat → Nat → Nat} {k : Nat} (h : k < r) : (tabTo r c E k).set k ((List.range c).map (E k)) = tabTo r c E (k + 1) := by
  unfold tabTo mtab
  rw [List.set_append_right _ _ (by simp), List.range_succ, List.map_append, List.length_map, List.length_range, Nat.sub_self]
  obtain ⟨m, hm⟩ : ∃ m, r - k = m + 1 := ⟨r - k - 1, by omega⟩
  rw [hm, show r - (k + 1) = m from by omega, List.replicate_succ]
  simp
theorem tabTo_at {r c : Nat} {E : Nat → Nat → Nat} {k : Nat} (h : k < (tabTo r c E k).length) : (tabTo r c E k)[k] = [] := by
  unfold tabTo at h ⊢
  rw [List.getElem_append_right (by simp [mtab])]
  simp
/-- A row's first entries, the others nought. -/
def rowTo (c : Nat) (f : Nat → Nat) (k : Nat) : List Nat := (List.range k).map f ++ List.replicate (c - k) 0
theorem rowTo_length {c : Nat} {f : Nat → Nat} {k : Nat} (h : k ≤ c) : (rowTo c f k).length = c := by simp [rowTo]; omega
theorem rowTo_all (c : Nat) (f : Nat → Nat) : rowTo c f c = (List.range c).map f := by simp [rowTo]
theorem rowTo_zero (c : Nat) (f : Nat → Nat) : rowTo c f 0 = List.replicate c 0 := by simp [rowTo]
theorem rowTo_set {c : Nat} {f : Nat → Nat} {k : Nat} (h : k < c) : (rowTo c f k).set k (f k) = rowTo c f (k + 1) := by
  unfold rowTo
  rw [List.set_append_right _ _ (by simp), List.range_succ, List.map_append, List.length_map, List.length_range, Nat.sub_self]
  obtain ⟨m, hm⟩ : ∃ m, c - k = m + 1 := ⟨c - k - 1, by omega⟩
  rw [hm, show c - (k + 1) = m from by omega, List.replicate_succ]
  simp

theorem own_start (w : World) (r c : Nat) (E : Nat → Nat → Nat) (_ : r ≤ 281474976710656) : Own (w.alloc (.cells (List.replicate r (Value.slice none 0 0)).toArray 29 (0, 0))) w.heap.size w.heap.size (List.replicate r (none, 0)) (tabTo r c E 0) := by
  have e : tabTo r c E 0 = List.replicate r [] := by simp [tabTo, mtab]
  rw [e]
  refine ⟨by simp, ⟨[], ?_⟩, Nat.le_refl _, fun i hi => ?_, fun i hi hne => absurd (by simp) hne, fun i j hi hj _ hne => absurd (by simp) hne⟩
  · rw [List.append_nil]
    have e2 : hdrs (List.replicate r (none, 0)) (List.replicate r []) = List.replicate r (Value.slice none 0 0) := by
      simp [hdrs]
    rw [e2]; exact Blk.new _ _ _
  · simp only [List.getElem_replicate]
    exact Res.none_

end
section
open Go.RowKit

/-- v is a slice at the head of a row of one's own, from block B on, or nil; it holds xs. -/
def Ro (w : World) (B : Nat) (e : TypeId) (v : Value) (xs : List Value) : Prop := w.ownsRow B e 1 v xs.length xs
theorem Ro.nil_ (w : World) (B : Nat) (e : TypeId) : Ro w B e (.slice none 0 0) [] := ⟨rfl, .inl ⟨rfl, rfl⟩⟩
theorem addr_add (b off j : Nat) : (⟨b, off, none⟩ : Addr).add j = ⟨b, off + j, none⟩ := by unfold Addr.add; split <;> simp_all
theorem Ro.form {w : World} {B : Nat} {e : TypeId} {v : Value} {xs : List Value} (h : Ro w B e v xs) (hm : xs.length ≤ 281474976710656) : ∃ A c, v = .slice A xs.length c ∧ Res w B e A c xs ∧ (∀ a, A = some a → a.block < w.heap.size) := by
  obtain ⟨hl, h1 | ⟨g, cap, cur, rfl, hg, hh, hnc, hcm, hsz, ht⟩⟩ := h
  · obtain ⟨rfl, h0⟩ := h1
    have : xs = [] := List.eq_nil_of_length_eq_zero h0
    subst this
    exact ⟨none, 0, rfl, Res.none_, fun a h => by cases h⟩
  · have hb : Blk w g e cur.toList := by simpa [Blk] using hh
    refine ⟨_, cap, rfl, ⟨hnc, hm, fun _ => ⟨g, cur.toList.drop (xs.length), rfl, hg, ?_, ?_⟩⟩, fun a h => ?_⟩
    · have h9 : cur.toList.take xs.length = xs := by simpa using ht
      have h8 : xs ++ cur.toList.drop xs.length = cur.toList := by
        conv => lhs; lhs; rw [← h9]
        exact List.take_append_drop _ _
      rw [h8]; exact hb
    · rw [List.length_drop]; simp at hsz; simp [hsz]; omega
    · obtain rfl : (⟨g, 0, none⟩ : Addr) = a := by simpa using h
      exact hb.lt
theorem Ro.capLe {w : World} {B : Nat} {e : TypeId} {A : Option Addr} {n c : Nat} {xs : List Value} (h : Ro w B e (.slice A n c) xs) : c ≤ maxLen := by
  obtain ⟨hl, h1 | ⟨g, cap, cur, hv, hg, hh, hnc, hcm, hsz, ht⟩⟩ := h
  · obtain ⟨h1, _⟩ := h1
    injection h1 with _ _ h3
    subst h3; unfold maxLen; omega
  · injection hv with _ _ h3
    subst h3; exact hcm
/-- A row of which the header is written out. -/
theorem Ro.res {w : World} {B : Nat} {e : TypeId} {A : Option Addr} {n c : Nat} {xs : List Value} (h : Ro w B e (.slice A n c) xs) (hm : xs.length ≤ 281474976710656) : n = xs.length ∧ Res w B e A c xs ∧ (∀ a, A = some a → a.block < w.heap.size) := by
  obtain ⟨A', c', h1, h2, h3⟩ := h.form hm
  injection h1 with e1 e2 e3
  subst e1 e2 e3
  exact ⟨rfl, h2, h3⟩
theorem Ro.rd {w : World} {B : Nat} {e : TypeId} {A : Option Addr} {n c : Nat} {xs : List Value} (h : Ro w B e (.slice A n c) xs) : n = xs.length ∧ xs.length ≤ c ∧ Rd w w.heap.size A xs := by
  obtain ⟨hl, ⟨h1, h0⟩ | ⟨g, cap, cur, hv, hg, hh, hnc, hcm, hsz, ht⟩⟩ := h
  · injection h1 with e1 e2 e3
    subst e1 e2 e3
    have : xs = [] := List.eq_nil_of_length_eq_zero h0
    subst this
    exact ⟨rfl, Nat.le_refl _, Rd.nil_⟩
  · injection hv with e1 e2 e3
    subst e1 e2 e3
    have hb : Blk w g e cur.toList := by simpa [Blk] using hh
    have h9 : cur.toList.take xs.length = xs := by simpa using ht
    exact ⟨rfl, hnc, Rd.of_blk hb hb.lt 0 (fun k v hv => by
      rw [Nat.zero_add]
      rw [← h9, List.getElem?_take] at hv
      split at hv
      · exact hv
      · cases hv)⟩
theorem Ro.below {w w' : World} {B B' : Nat} {e : TypeId} {v : Value} {xs : List Value} (h : Ro w B e v xs) (hb : Below B' w w') (hB : w.heap.size ≤ B') : Ro w' B e v xs := by
  obtain ⟨hl, h1 | ⟨g, cap, cur, hv, hg, hh, r⟩⟩ := h
  · exact ⟨hl, .inl h1⟩
  · have hlt : g < w.heap.size := (Array.getElem?_eq_some_iff.1 hh).1
    exact ⟨hl, .inr ⟨g, cap, cur, hv, hg, (hb.block g (by omega)).trans hh, r⟩⟩
theorem Ro.tn {w w' : World} {B k : Nat} {e : TypeId} {v : Value} {xs : List Value} (h : Ro w B e v xs) (ht : Tn k w w') (hk : k < B) : Ro w' B e v xs := by
  obtain ⟨hl, h1 | ⟨g, cap, cur, hv, hg, hh, r⟩⟩ := h
  · exact ⟨hl, .inl h1⟩
  · have hlt : g < w.heap.size := (Array.getElem?_eq_some_iff.1 hh).1
    exact ⟨hl, .inr ⟨g, cap, cur, hv, hg, (ht.block g hlt (by omega)).trans hh, r⟩⟩
theorem Ro.drewN {w : World} {B : Nat} {e : TypeId} {v : Value} {xs : List Value} (h : Ro w B e v xs) (n : Nat) : Ro (w.drewN n) B e v xs := h
theorem Ro.mono {w : World} {B B' : Nat} {e : TypeId} {v : Value} {xs : List Value} (h : Ro w B e v xs) (hB : B' ≤ B) : Ro w B' e v xs := by
  obtain ⟨hl, h1 | ⟨g, cap, cur, hv, hg, r⟩⟩ := h
  · exact ⟨hl, .inl h1⟩
  · exact ⟨hl, .inr ⟨g, cap, cur, hv, by omega, r⟩⟩
theorem Ro.of_blk {w : World} {B g : Nat} {e : TypeId} {xs : List Value} (h : Blk w g e xs) (hg : B ≤ g) (hm : xs.length ≤ maxLen) : Ro w B e (.slice (some ⟨g, 0, none⟩) xs.length xs.length) xs :=
  ⟨by simp, .inr ⟨g, xs.length, xs.toArray, rfl, hg, h, Nat.le_refl _, hm, by simp, by simp⟩⟩

/-- What an append to a row has turned: the row's block at most; new ones may lie behind. -/
theorem below_grown' {w w' : World} {row : Option Nat} (h : w.grownBy w' row) {B : Nat} (hB : ∀ k, row = some k → B ≤ k) (hw : B ≤ w.heap.size) : Below B w w' := (Below.refl B w).grown h hw hB
theorem Ro.block {w : World} {B : Nat} {e : TypeId} {v : Value} {xs : List Value} (h : Ro w B e v xs) : ∀ k, v.ownBlock = some k → B ≤ k := fun k hk => by
  obtain ⟨hl, ⟨rfl, _⟩ | ⟨g, cap, cur, rfl, hg, _⟩⟩ := h
  · simp [Value.ownBlock] at hk
  · simp [Value.ownBlock] at hk; omega

/-- Appending what a slice reads as to a row of one's own. -/
theorem ro_app {P : Program} (w : World) (B : Nat) (t ty e : TypeId) (i : TypeInfo) (z : Value) (bytes : Nat) (ht : P.underlying t = some (.slice e)) (hi : P.info? e = some i) (hz : i.zero = some z)
    (hsize : i.size = 1) (hby : i.bytes = bytes) (hzs : z.cells.size = 1) (v : Value) (xs : List Value) (hown : Ro w B e v xs)
    (A : Option Addr) (m c B2 : Nat) (news : List Value) (hr : Rd w B2 A news) (hm : news.length = m) (h1 : ∀ u ∈ news, u.oneCell' = true) (h63 : xs.length + m ≤ maxLen) (hbytes : (xs.length + m) * bytes ≤ 140737488355328) (hbase : B ≤ w.heap.size) :
    ∃ A' c' w', (Builtin.append_ #[t, t] ty #[v, .slice A m c]).run P w = .ok (.slice A' (xs ++ news).length c') w' ∧ Ro w' B e (.slice A' (xs ++ news).length c') (xs ++ news) ∧ w.grownBy w' v.ownBlock := by
  have fin : ∀ v' w', (Builtin.append_ #[t, t] ty #[v, .slice A m c]).run P w = .ok v' w' → w'.ownsRow B e 1 v' (xs.length + m) (xs ++ news) → w.grownBy w' v.ownBlock → ∃ A' c' w', (Builtin.append_ #[t, t] ty #[v, .slice A m c]).run P w = .ok (.slice A' (xs ++ news).length c') w' ∧ Ro w' B e (.slice A' (xs ++ news).length c') (xs ++ news) ∧ w.grownBy w' v.ownBlock := fun v' w' hrun h2 h3 => by
    have hl : (xs ++ news).length = xs.length + m := by rw [List.length_append, hm]
    rw [← hl] at h2
    have h4 : Ro w' B e v' (xs ++ news) := h2
    obtain ⟨hl2, ⟨rfl, h0⟩ | ⟨g, cap, cur, rfl, r⟩⟩ := h2
    · rw [h0]
      exact ⟨none, 0, w', hrun, h4, h3⟩
    · exact ⟨_, _, w', hrun, h4, h3⟩
  rcases A with _ | ad
  · have h0 : news = [] := by
      by_cases h : news = []
      · exact h
      · obtain ⟨_, _, h2, _⟩ := hr h
        cases h2
    subst h0
    obtain rfl : m = 0 := by simpa using hm.symm
    refine fin v w ?_ (by rw [List.append_nil, Nat.add_zero]; exact hown) (World.grownBy.refl w _)
    obtain ⟨hl, ⟨rfl, h0⟩ | ⟨g', cap', cur, rfl, hg, hh, hnc, hcm, hsz, htk⟩⟩ := hown
    · simp [Builtin.append_, run_underlying ht, sizeOf, typeInfo, hi, Builtin.lenOf, Builtin.firstCells]
    · simp [Builtin.append_, run_underlying ht, sizeOf, typeInfo, hi, Builtin.lenOf, Builtin.firstCells, hnc, storeCells]
  · have hcells : ∀ j u, news[j]? = some u → w.cell? (ad.add j) = some u := fun j u hu => by
      obtain ⟨b, off, h2, _, hc⟩ := hr (by rintro rfl; simp at hu)
      injection h2 with h2
      subst h2
      rw [addr_add]
      exact hc j u hu
    obtain ⟨v', w', hrun, h2, h3, _, _⟩ := run_append_own_at (P := P) w B t ty e i z 1 bytes ht hi hz hsize hby hzs (by omega) _ xs.length xs hown ad m c news (by rw [hm]; omega) hcells h1 h63 hbytes hbase
    exact fin v' w' hrun h2 h3

/-- The walk's step at an append whose run is known. -/
theorem wpList_append_run {P : Program} {w : World} {ops : Array Oper} {rest : List Oper} {o : Oper} {a : Act} {Q : Exit → Act → World → Prop} (hgd : o.guard = none) (d s : Operand) (dT sT : TypeId)
    (ho : o.op = .call { callee := .builtin .append, args := #[d, s], argTypes := #[dT, sT] }) (dv sv : Value) (hd : a.eval d = dv) (hs : a.eval s = sv) (v' : Value) (w' : World)
    (hrun : (Builtin.append_ #[dT, sT] o.type #[dv, sv]).run P w = .ok v' w') (h : wpList P ops Q rest (a.put o.dst v') w') : wpList P ops Q (o :: rest) a w := by
  refine wpList_plain hgd fun K hK => ?_
  unfold Oper.wp
  simp [execOp, ho, resolve, invoke, builtin, hd, hs, hrun, Result.andThen]
  exact hK _ _ h
end
section
open Go.RowKit

theorem one_u32s (xs : List Nat) : ∀ u ∈ u32s xs, u.oneCell' = true := fun u hu => by
  obtain ⟨x, _, rfl⟩ := List.mem_map.1 hu; rfl
/-- One number more on a row of one's own. -/
theorem app_u32 (w : World) (B : Nat) (v : Value) (l : List Nat) (x : Nat) (h : Ro w B 24 v (u32s l)) (hB : B ≤ w.heap.size) (hl : l.length ≤ 17592186044416) :
    ∃ A' c' w', (Builtin.append_ #[29, 29] 29 #[v, .slice (some ⟨w.heap.size, 0, none⟩) 1 1]).run Tryd.prog (w.alloc (.cells #[.int .u32 (x : Int)] 24)) = .ok (.slice A' (l.length + 1) c') w' ∧
      Ro w' B 24 (.slice A' (l.length + 1) c') (u32s (l ++ [x])) ∧ Below B w w' := by
  obtain ⟨i0, hi, hz0, hz1, hz2⟩ := info_parts Tryd.info32
  have hb : Below w.heap.size w (w.alloc (.cells #[.int .u32 (x : Int)] 24)) := (Below.refl _ _).alloc (Nat.le_refl _) _
  have h2 : Ro (w.alloc (.cells #[.int .u32 (x : Int)] 24)) B 24 v (u32s l) := h.below hb (Nat.le_refl _)
  have hbk : Blk (w.alloc (.cells #[.int .u32 (x : Int)] 24)) w.heap.size 24 [.int .u32 (x : Int)] := Blk.new_ rfl
  have hrd : Rd (w.alloc (.cells #[.int .u32 (x : Int)] 24)) (w.heap.size + 1) (some ⟨w.heap.size, 0, none⟩) [.int .u32 (x : Int)] := Rd.of_blk hbk (by omega) 0 (fun k u hu => by rw [Nat.zero_add]; exact hu)
  obtain ⟨A', c', w', hrun, h3, h4⟩ := ro_app (P := Tryd.prog) _ B 29 29 24 i0 (.int .u32 0) 4 Tryd.underlying29 hi hz0 hz1 hz2 rfl v (u32s l) h2 (some ⟨w.heap.size, 0, none⟩) 1 1 _ [.int .u32 (x : Int)] hrd rfl (one_u32s [x]) (by rw [u32s_length]; unfold maxLen; omega) (by rw [u32s_length]; omega) (by simp; omega)
  have hl2 : (u32s l ++ [Value.int .u32 (x : Int)]).length = l.length + 1 := by simp [u32s]
  rw [hl2] at hrun h3
  refine ⟨A', c', w', hrun, ?_, (hb.mono hB).trans (below_grown' h4 h.block (by simp; omega))⟩
  rw [u32s_snoc]; exact h3
/-- A slice that is read, appended to a row of one's own. -/
theorem app_u32s (w : World) (B : Nat) (v : Value) (l news : List Nat) (h : Ro w B 24 v (u32s l)) (hB : B ≤ w.heap.size) (A : Option Addr) (c B2 : Nat) (hr : Rd w B2 A (u32s news)) (hl : l.length + news.length ≤ 35184372088832) :
    ∃ A' c' w', (Builtin.append_ #[29, 29] 29 #[v, .slice A news.length c]).run Tryd.prog w = .ok (.slice A' (l ++ news).length c') w' ∧
      Ro w' B 24 (.slice A' (l ++ news).length c') (u32s (l ++ news)) ∧ w.grownBy w' v.ownBlock := by
  obtain ⟨i0, hi, hz0, hz1, hz2⟩ := info_parts Tryd.info32
  obtain ⟨A', c', w', hrun, h3, h4⟩ := ro_app (P := Tryd.prog) w B 29 29 24 i0 (.int .u32 0) 4 Tryd.underlying29 hi hz0 hz1 hz2 rfl v (u32s l) h A news.length c B2 (u32s news) hr (u32s_length _) (one_u32s news) (by rw [u32s_length]; unfold maxLen; omega) (by rw [u32s_length]; omega) hB
  have e : u32s l ++ u32s news = u32s (l ++ news) := (u32s_append l news).symm
  rw [e, u32s_length] at hrun h3
  exact ⟨A', c', w', hrun, h3, h4⟩

/-- A block of another element type is another block. -/
theorem Res.grown {w w' : World} {B : Nat} {t t2 : TypeId} {A : Option Addr} {c : Nat} {vs : List Value} {row : Option Nat} (h : Res w B t A c vs) (hg : w.grownBy w' row) (hrow : ∀ k, row = some k → ∃ us, Blk w k t2 us) (hne : t ≠ t2) : Res w' B t A c vs := ⟨h.1, h.2.1, fun hn => by
  obtain ⟨g, rest, e, hB, hb, hc⟩ := h.2.2 hn
  refine ⟨g, rest, e, hB, (hg.block g hb.lt (fun e2 => ?_)).trans hb, hc⟩
  obtain ⟨us, hu⟩ := hrow g e2.symm
  unfold Blk at hb hu
  rw [hb] at hu
  injection hu with hu
  injection hu with _ hu _
  exact hne hu⟩
theorem Ro.rowBlk {w : World} {B : Nat} {e : TypeId} {v : Value} {xs : List Value} (h : Ro w B e v xs) : ∀ k, v.ownBlock = some k → ∃ us, Blk w k e us := fun k hk => by
  obtain ⟨hl, ⟨rfl, _⟩ | ⟨g, cap, cur, rfl, hg, hh, _⟩⟩ := h
  · simp [Value.ownBlock] at hk
  · obtain rfl : g = k := by simpa [Value.ownBlock] using hk
    exact ⟨cur.toList, by simpa [Blk] using hh⟩

/-- A matrix that grows by append: the headers' row is v, from block B on, all rows below block U. -/
def OwA (w : World) (B U : Nat) (v : Value) (M : List (List Nat)) : Prop :=
  ∃ hs : List (Option Addr × Nat), ∃ hl : hs.length = M.length, Ro w B 29 v (hdrs hs M) ∧ (∀ i (h : i < M.length), Res w B 24 (hs[i]'(hl ▸ h)).1 (hs[i]'(hl ▸ h)).2 (u32s M[i])) ∧ UB U hs ∧
    (∀ i j (hi : i < M.length) (hj : j < M.length), i ≠ j → M[i] ≠ [] → M[j] ≠ [] → (hs[i]'(hl ▸ hi)).1 ≠ (hs[j]'(hl ▸ hj)).1)
theorem OwA.nil_ (w : World) (B U : Nat) : OwA w B U (.slice none 0 0) [] :=
  ⟨[], rfl, Ro.nil_ _ _ _, (fun i h => absurd h (Nat.not_lt_zero _)), (fun _ h => by cases h), (fun i j hi => absurd hi (Nat.not_lt_zero _))⟩
theorem OwA.mono {w : World} {B U U' : Nat} {v : Value} {M : List (List Nat)} (h : OwA w B U v M) (hU : U ≤ U') : OwA w B U' v M := by
  obtain ⟨hs, hl, h1, h2, h3, h4⟩ := h
  exact ⟨hs, hl, h1, h2, h3.mono hU, h4⟩
theorem OwA.below {w w' : World} {B B' U : Nat} {v : Value} {M : List (List Nat)} (h : OwA w B U v M) (hb : Below B' w w') (hB : w.heap.size ≤ B') : OwA w' B U v M := by
  obtain ⟨hs, hl, h1, h2, h3, h4⟩ := h
  exact ⟨hs, hl, h1.below hb hB, fun i hi => (h2 i hi).below hb hB, h3, h4⟩
theorem OwA.lowB {w : World} {B B' U : Nat} {v : Value} {M : List (List Nat)} (h : OwA w B U v M) (hB : B' ≤ B) : OwA w B' U v M := by
  obtain ⟨hs, hl, h1, h2, h3, h4⟩ := h
  exact ⟨hs, hl, h1.mono hB, fun i hi => (h2 i hi).mono hB, h3, h4⟩
theorem hdrs_one {hs : List (Option Addr × Nat)} {M : List (List Nat)} : ∀ u ∈ hdrs hs M, u.oneCell' = true := fun u hu => by
  obtain ⟨i, hi, rfl⟩ := List.mem_iff_getElem.1 hu
  simp only [hdrs, List.getElem_zipWith]; rfl
/-- One row more: it lies at U or behind. -/
theorem app_row (w : World) (B U : Nat) (v : Value) (M : List (List Nat)) (h : OwA w B U v M) (A : Option Addr) (c : Nat) (r : List Nat) (hr : Res w U 24 A c (u32s r)) (hBU : B ≤ U) (hB : B ≤ w.heap.size) (hA : ∀ a, A = some a → a.block < w.heap.size) (hUw : U ≤ w.heap.size) (hcap : c ≤ maxLen) (hm : M.length ≤ 1099511627776) :
    ∃ A' c' w', (Builtin.append_ #[23, 23] 23 #[v, .slice (some ⟨w.heap.size, 0, none⟩) 1 1]).run Tryd.prog (w.alloc (.cells #[.slice A r.length c] 29)) = .ok (.slice A' (M.length + 1) c') w' ∧
      OwA w' B w'.heap.size (.slice A' (M.length + 1) c') (M ++ [r]) ∧ Below B w w' := by
  obtain ⟨hs, hl, h1, h2, h3, h4⟩ := h
  obtain ⟨i0, hi, hz0, hz1, hz2⟩ := info_parts Tryd.infoRow
  have hb : Below w.heap.size w (w.alloc (.cells #[.slice A r.length c] 29)) := (Below.refl _ _).alloc (Nat.le_refl _) _
  have h1' := h1.below hb (Nat.le_refl _)
  have hbk : Blk (w.alloc (.cells #[.slice A r.length c] 29)) w.heap.size 29 [.slice A r.length c] := Blk.new_ rfl
  have hrd : Rd (w.alloc (.cells #[.slice A r.length c] 29)) (w.heap.size + 1) (some ⟨w.heap.size, 0, none⟩) [.slice A r.length c] := Rd.of_blk hbk (by omega) 0 (fun k u hu => by rw [Nat.zero_add]; exact hu)
  have hdl := hdrs_length hl
  obtain ⟨A', c', w', hrun, g3, g4⟩ := ro_app (P := Tryd.prog) _ B 23 23 29 i0 (.slice none 0 0) 24 Tryd.underlying23 hi hz0 hz1 hz2 rfl v (hdrs hs M) h1' (some ⟨w.heap.size, 0, none⟩) 1 1 _ [.slice A r.length c] hrd rfl (by simp [Value.oneCell']) (by rw [hdl]; unfold maxLen; omega) (by rw [hdl]; omega) (by simp; omega)
  have hl2 : (hdrs hs M ++ [Value.slice A r.length c]).length = M.length + 1 := by rw [List.length_append, hdl]; rfl
  rw [hl2] at hrun g3
  have e9 : hdrs hs M ++ [Value.slice A r.length c] = hdrs (hs ++ [(A, c)]) (M ++ [r]) := (hdrs_snoc hl (A, c) r).symm
  rw [e9] at g3
  have hsz := g4.size
  refine ⟨A', c', w', hrun, ⟨hs ++ [(A, c)], by simp [hl], by simpa using g3, fun i hi => ?_, ?_, fun i j hi hj hij ni nj => ?_⟩, (hb.mono hB).trans (below_grown' g4 h1'.block (by simp; omega))⟩
  · have hrow : ∀ k, v.ownBlock = some k → ∃ us, Blk (w.alloc (.cells #[.slice A r.length c] 29)) k 29 us := h1'.rowBlk
    by_cases hi2 : i < M.length
    · have hih : i < hs.length := hl ▸ hi2
      simp only [List.getElem_append_left hi2, List.getElem_append_left hih]
      exact ((h2 i hi2).below hb (Nat.le_refl _)).grown g4 hrow (by decide)
    · have hie : i = M.length := by rw [List.length_append] at hi; simp at hi; omega
      subst hie
      have e1 : (M ++ [r])[M.length] = r := by simp
      have e2 : (hs ++ [(A, c)])[M.length]'(by simp [hl]) = (A, c) := by
        rw [List.getElem_append_right (by omega)]; simp [hl]
      simp only [e1, e2]
      exact ((hr.mono hBU).below hb (Nat.le_refl _)).grown g4 hrow (by decide)
  · have hw1 : w.heap.size ≤ w'.heap.size := by simp at hsz; omega
    intro x hx
    rcases List.mem_append.1 hx with hx | hx
    · exact ⟨fun a ha => Nat.lt_of_lt_of_le ((h3 x hx).1 a ha) (by omega), (h3 x hx).2⟩
    · rw [List.mem_singleton] at hx
      subst hx
      exact ⟨fun a ha => Nat.lt_of_lt_of_le (hA a ha) hw1, hcap⟩
  · have key : ∀ i (hi2 : i < M.length), M[i] ≠ [] → r ≠ [] → (hs[i]'(hl ▸ hi2)).1 ≠ A := fun i hi2 n1 n2 e => by
      obtain ⟨g1, _, e1, _, _, _⟩ := (h2 i hi2).2.2 (fun e => n1 (u32s_nil_iff.1 e))
      obtain ⟨g2, _, e2, hlo, _, _⟩ := hr.2.2 (fun e => n2 (u32s_nil_iff.1 e))
      have hlt := h3.at_ (hl ▸ hi2) e1
      rw [e1, e2] at e
      simp only [Option.some.injEq, Addr.mk.injEq, and_true] at e
      omega
    have hend : ∀ i, i < (M ++ [r]).length → ¬ i < M.length → i = M.length := fun i h1 h2 => by rw [List.length_append] at h1; simp at h1; omega
    have e1 : (M ++ [r])[M.length]'(by simp) = r := by simp
    have e2 : (hs ++ [(A, c)])[M.length]'(by simp [hl]) = (A, c) := by
      rw [List.getElem_append_right (by omega)]; simp [hl]
    by_cases hi2 : i < M.length
    · have hih : i < hs.length := hl ▸ hi2
      simp only [List.getElem_append_left hi2] at ni
      by_cases hj2 : j < M.length
      · have hjh : j < hs.length := hl ▸ hj2
        simp only [List.getElem_append_left hj2] at nj
        simp only [List.getElem_append_left hih, List.getElem_append_left hjh]
        exact h4 i j hi2 hj2 hij ni nj
      · obtain rfl := hend j hj hj2
        rw [e1] at nj
        simp only [List.getElem_append_left hih, e2]
        exact key i hi2 ni nj
    · obtain rfl := hend i hi hi2
      rw [e1] at ni
      by_cases hj2 : j < M.length
      · have hjh : j < hs.length := hl ▸ hj2
        simp only [List.getElem_append_left hj2] at nj
        simp only [List.getElem_append_left hjh, e2]
        exact fun e => key j hj2 nj ni e.symm
      · obtain rfl := hend j hj hj2
        exact absurd rfl hij
/-- It reads as its rows. -/
theorem OwA.rd {w : World} {B U : Nat} {A : Option Addr} {n c : Nat} {M : List (List Nat)} (h : OwA w B U (.slice A n c) M) (_ : U ≤ w.heap.size) : n = M.length ∧ M.length ≤ c ∧ RdM w w.heap.size A M := by
  obtain ⟨hs, hl, h1, h2, h3, h4⟩ := h
  obtain ⟨e1, e2, e3⟩ := h1.rd
  rw [hdrs_length hl] at e1 e2
  refine ⟨e1, e2, fun hn => ?_⟩
  obtain ⟨b, off, e4, e5, e6⟩ := e3 (fun e => hn (List.eq_nil_of_length_eq_zero (by rw [← hdrs_length hl, e]; rfl)))
  refine ⟨b, off, e4, e5, fun i hi => ⟨_, _, e6 i _ (hdrs_at (hl ▸ hi) hi), ?_, ?_, (h2 i hi).rd⟩⟩
  · have := (h2 i hi).1; rw [u32s_length] at this; exact this
  · have := (h2 i hi).2.1; rw [u32s_length] at this; exact this
/-- It is a matrix of one's own. -/
theorem OwA.own {w : World} {B U : Nat} {A : Option Addr} {n c : Nat} {M : List (List Nat)} (h : OwA w B U (.slice A n c) M) (hn : M ≠ []) : ∃ g hs, A = some ⟨g, 0, none⟩ ∧ Own w B g hs M ∧ UB U hs ∧ g < w.heap.size := by
  obtain ⟨hs, hl, h1, h2, h3, h4⟩ := h
  obtain ⟨hl1, ⟨hv, h0⟩ | ⟨g, cap, cur, hv, hg, hh, hnc, hcm, hsz, ht⟩⟩ := h1
  · rw [hdrs_length hl] at h0
    exact absurd (List.eq_nil_of_length_eq_zero h0) hn
  · injection hv with e1 e2 e3
    subst e1 e2 e3
    have hb : Blk w g 29 cur.toList := by simpa [Blk] using hh
    have h9 : cur.toList.take (hdrs hs M).length = hdrs hs M := by simpa using ht
    refine ⟨g, hs, rfl, ⟨hl, ⟨cur.toList.drop (hdrs hs M).length, ?_⟩, hg, h2, fun i hi hne e => ?_, h4⟩, h3, hb.lt⟩
    · have h8 : hdrs hs M ++ cur.toList.drop (hdrs hs M).length = cur.toList := by
        conv => lhs; lhs; rw [← h9]
        exact List.take_append_drop _ _
      rw [h8]; exact hb
    · obtain ⟨g1, rest, e1, _, hb1, _⟩ := (h2 i hi).2.2 (fun e => hne (u32s_nil_iff.1 e))
      rw [e] at e1
      obtain rfl : g = g1 := by simpa using e1
      unfold Blk at hb hb1
      rw [hb] at hb1
      injection hb1 with hb1
      injection hb1 with _ hb1 _
      exact absurd hb1 (by decide)
end
section
open Go.RowKit

theorem take_snoc {α : Type} {l : List α} {i : Nat} (h : i < l.length) : l.take (i + 1) = l.take i ++ [l[i]] := by
  rw [List.take_add_one, List.getElem?_eq_getElem h]; rfl
/-- A row made in a new row: how it is put behind a matrix that grows. -/
theorem app_new {ws w' : World} {B : Nat} {v : Value} {M : List (List Nat)} {A : Option Addr} {n c : Nat} {r : List Nat} (h : OwA ws B ws.heap.size v M) (hb : Below ws.heap.size ws w') (hB : B ≤ ws.heap.size) (hr : Ro w' ws.heap.size 24 (.slice A n c) (u32s r)) (hl : r.length ≤ 281474976710656) (hm : M.length ≤ 1099511627776) :
    ∃ A' c' w2, (Builtin.append_ #[23, 23] 23 #[v, .slice (some ⟨w'.heap.size, 0, none⟩) 1 1]).run Tryd.prog (w'.alloc (.cells #[.slice A n c] 29)) = .ok (.slice A' (M.length + 1) c') w2 ∧
      OwA w2 B w2.heap.size (.slice A' (M.length + 1) c') (M ++ [r]) ∧ Below B ws w2 := by
  obtain ⟨e1, hres, hA⟩ := hr.res (by rw [u32s_length]; exact hl)
  rw [u32s_length] at e1
  subst e1
  have hcap := hr.capLe
  obtain ⟨A', c', w2, h1, h2, h3⟩ := app_row w' B ws.heap.size v M (h.below hb (Nat.le_refl _)) A c r hres hB (Nat.le_trans hB hb.size) hA hb.size hcap hm
  exact ⟨A', c', w2, h1, h2, (hb.mono hB).trans h3⟩
/-- A row of which the first k places are laid. -/
theorem rowTo_u32 {n k x : Nat} {f : Nat → Nat} (h : k < n) (hx : f k = x) : (u32s (rowTo n f k)).set k (.int .u32 (x : Int)) = u32s (rowTo n f (k + 1)) := by
  rw [u32s_set, ← hx, rowTo_set h]
theorem zeros_row (n : Nat) (f : Nat → Nat) : Array.replicate n (Value.int .u32 0) = (u32s (rowTo n f 0)).toArray := by
  rw [rowTo_zero]; simp [u32s]
theorem rowTo_get {n k : Nat} {f : Nat → Nat} (h : k < n) : (u32s (rowTo n f k))[k]? = some (.int .u32 0) := by
  rw [u32s_at (by rw [rowTo_length (by omega)]; exact h)]
  have : (rowTo n f k)[k]'(by rw [rowTo_length (by omega)]; exact h) = 0 := by
    unfold rowTo
    rw [List.getElem_append_right (by simp)]
    simp
  rw [this]; rfl
theorem range_getD (xs : List Nat) : (List.range xs.length).map (fun k => xs.getD k 0) = xs := by
  apply List.ext_getElem
  · simp
  · intro i h1 h2
    simp [List.getD_eq_getElem?_getD, List.getElem?_eq_getElem h2]

set_option maxRecDepth 20000 in
set_option maxHeartbeats 1600000 in
theorem rnorm_any (p : Nat) (A : Option Addr) (c : Nat) (M : List (List Nat)) (w : World) (B : Nat) (hp0 : 0 < p) (hp : p < 4294967296) (hr : RdM w B A M) (hB : B ≤ w.heap.size) (hm : M.length ≤ 1000) (hwid : ∀ r ∈ M, r.length ≤ 1000) (hd : ∀ r ∈ M, ∀ x ∈ r, x < p) :
    Calls Tryd.prog 17 #[.slice A M.length c, .int .u32 (p : Int)] w fun e w' => ∃ A' c', e = .returned (.slice A' M.length c') ∧ OwA w' w.heap.size w'.heap.size (.slice A' M.length c') M ∧ Below w.heap.size w w' := by
  have t0 : ((p : Int) == 0) = false := beq_eq_false_iff_ne.2 (by omega)
  have Hwid := Lib.hid hwid
  have Hd := Lib.hid hd
  clear hwid hd
  go_enter Tryd.func17, Tryd.ntmps17
  go_wp2
  go_loopw [5, 13] (fun ov iv wr => ∃ (i : Nat) (Ao : Option Addr) (co : Nat), i ≤ M.length ∧ iv = .int .i64 (i : Int) ∧ ov = .slice Ao i co ∧ OwA wr w.heap.size wr.heap.size (.slice Ao i co) (M.take i) ∧ Below w.heap.size w wr) (fun _ iv _ => M.length - (intOf iv).toNat)
  case atStart => exact ⟨0, none, 0, by omega, rfl, rfl, OwA.nil_ _ _ _, Below.refl _ _⟩
  case round =>
    obtain ⟨i, Ao, co, hi, rfl, rfl, hoA, hbel⟩ := hrel
    by_cases hlt : i < M.length
    · obtain ⟨b, off, Ai, ci, rfl, hb, hx, hl, hm1, hrd⟩ := (hr.below (hbel.mono hB)).at_ hlt
      have hwi := Hwid.out _ (List.getElem_mem hlt)
      have hdi : Hid (∀ k (h : k < M[i].length), M[i][k] < p) := fun k h => Hd.out _ (List.getElem_mem hlt) _ (List.getElem_mem h)
      have hsn : M.take (i + 1) = M.take i ++ [M[i]] := take_snoc hlt
      have htl : (M.take i).length = i := by rw [List.length_take]; omega
      obtain ⟨xs, hxs⟩ : ∃ xs, xs = M[i] := ⟨_, rfl⟩
      rw [← hxs] at hx hrd hl hm1 hwi hsn hdi
      have Hsn := Lib.hid hsn
      have Htl := Lib.hid htl
      obtain ⟨n, hn⟩ : ∃ n, n = xs.length := ⟨_, rfl⟩
      rw [← hn] at hx hl hm1 hwi
      have Hn := Lib.hid hn
      have hmr := fun W => mkRow n (by omega) W
      obtain ⟨ws, hws⟩ : ∃ ws, ws = wr := ⟨_, rfl⟩
      have Hws := Lib.hid hws
      have HoA := Lib.hid hoA
      have hBs : B ≤ ws.heap.size := by rw [hws]; exact Nat.le_trans hB hbel.size
      have hrd : Rd ws ws.heap.size Ai (u32s xs) := by rw [hws] at hBs ⊢; exact hrd.mono hBs
      have Hrd := Lib.hid hrd
      have Hbel := Lib.hid hbel
      clear hxs hsn htl hoA hbel hrd hn
      go_upto_region 7 with (fail)
      have HK0 : Hid (Blk (wr.alloc (.cells (Array.replicate n (Value.int .u32 0)) 24)) wr.heap.size 24 (u32s (rowTo n (fun k => xs.getD k 0) 0))) := Blk.new_ (zeros_row n _)
      have HB0 : Hid (Below ws.heap.size ws (wr.alloc (.cells (Array.replicate n (Value.int .u32 0)) 24))) := by rw [hws]; exact (Below.refl _ _).alloc (Nat.le_refl _) _
      obtain ⟨W0, hW0⟩ : ∃ W0, W0 = wr.alloc (.cells (Array.replicate n (Value.int .u32 0)) 24) := ⟨_, rfl⟩
      rw [← hW0] at HK0 HB0 ⊢
      rw [← hws] at HK0 ⊢
      obtain ⟨g, hg⟩ : ∃ g, g = ws.heap.size := ⟨_, rfl⟩
      rw [← hg] at HK0 ⊢
      have Hg := Lib.hid hg
      clear hws hW0 hg
      go_loopw [22] (fun jv wq => ∃ (j : Nat), j ≤ n ∧ jv = .int .i64 (j : Int) ∧ Hid (Blk wq g 24 (u32s (rowTo n (fun k => xs.getD k 0) j))) ∧ Hid (Below ws.heap.size ws wq)) (fun jv _ => n - (intOf jv).toNat)
      case atStart => exact ⟨0, by omega, rfl, HK0.out, HB0.out⟩
      case round =>
        obtain ⟨j, hj, rfl, hbk, hbq⟩ := hrel
        by_cases hjl : j < n
        · have hjx : j < xs.length := by rw [← Hn.out]; exact hjl
          obtain ⟨b5, off5, rfl, hb5, hx5⟩ := (Hrd.out.below hbq.out).at32 hjx
          have hxp := hdi.out j hjx
          have hge : xs.getD j 0 = xs[j] := by simp [List.getD_eq_getElem?_getD, List.getElem?_eq_getElem hjx]
          obtain ⟨x, hx9⟩ : ∃ x, x = xs[j] := ⟨_, rfl⟩
          rw [← hx9] at hx5 hxp hge
          have t5 : (x : Int) % (p : Int) = (x : Int) := Int.emod_eq_of_lt (by omega) (by omega)
          have c1 : wr.cell? ⟨g, j, none⟩ = some (.int .u32 0) := by rw [hbk.out.cell, rowTo_get hjl]
          have f1 := hbk.out.frozen j
          have hgl := hbk.out.lt
          have hset := hbk.out.set_ j (.int .u32 (x : Int))
          rw [rowTo_u32 hjl hge] at hset
          have Hset := Lib.hid hset
          clear hx9 hset hge hxp
          go_wp2
          go_roundw
          case rel => exact ⟨j + 1, by omega, by go_num, Hset.out, hbq.out.trans ((Ch.setCell (Ch.refl g _) _ _).below (by rw [Hg.out]; exact Nat.le_refl _))⟩
          case measure => simp [intOf]; omega
        · obtain rfl : j = n := by omega
          have hro9 : Ro wr ws.heap.size 24 (.slice (some ⟨g, 0, none⟩) j j) (u32s xs) := by
            have h := hbk.out
            rw [rowTo_all] at h
            have e : (List.range j).map (fun k => xs.getD k 0) = xs := by rw [Hn.out]; exact range_getD xs
            rw [e] at h
            have h2 := Ro.of_blk (B := ws.heap.size) h (by rw [Hg.out]; exact Nat.le_refl _) (by rw [u32s_length, ← Hn.out]; unfold maxLen; omega)
            rw [u32s_length, ← Hn.out] at h2
            exact h2
          rw [← Hws.out] at HoA Hbel
          obtain ⟨A9, c9, w9, hrun, hoA9, hb9⟩ := app_new HoA.out hbq.out Hbel.out.size hro9 (by rw [← Hn.out]; omega) (by rw [Htl.out]; omega)
          rw [← Hsn.out, Htl.out] at hoA9
          rw [Htl.out] at hrun
          have Hrun := Lib.hid hrun
          clear hrun hbk
          go_wp2_with (first | (at_builtin; refine wpList_append_run rfl _ _ _ _ rfl _ _ rfl rfl _ _ Hrun.out ?_))
          go_roundw
          case rel => exact ⟨i + 1, A9, c9, by omega, by go_num, by go_num, hoA9, Hbel.out.trans hb9⟩
          case measure => simp [intOf]; omega
    · have hie : i = M.length := by omega
      have hoA9 : OwA wr w.heap.size wr.heap.size (.slice Ao i co) M := by rw [hie, List.take_length] at hoA; rw [hie]; exact hoA
      have Hie := Lib.hid hie
      clear hoA hie
      go_wp2
      go_ret
      rw [← Hie.out]
      exact ⟨Ao, co, rfl, hoA9, hbel⟩
end
end Go.Proofs.YtbafiahmcfkboaaDoor
