/- Square matrices in memory of one's own, given by their entries; what may turn. No conditions. The contracts of hess's plus, negative, swapRows, swapColumns, addRow, addColumn. Conditions: as each states. -/
import Derived.Test.YtbafiahmcfkboaaDoorPkHm23
import Derived.RegionTactic
import Derived.Deep.RegionHeld3
import Derived.Deep.DeepCutAuto
import Derived.WalkMore
import Derived.Deep.QuietTactic
import Derived.BigQuiet
namespace Go.Proofs.YtbafiahmcfkboaaDoor
section
open Go.RowKit

/-- Of the blocks that are there, those of L alone may have turned; new ones may lie behind. -/
structure Md (L : List Nat) (w w' : World) : Prop where
  os : w'.os = w.os
  tape : w'.tape = w.tape
  output : w'.output = w.output
  size : w.heap.size ≤ w'.heap.size
  block : ∀ k, k < w.heap.size → k ∉ L → w'.heap[k]? = w.heap[k]?
theorem Md.refl (L : List Nat) (w : World) : Md L w w := ⟨rfl, rfl, rfl, Nat.le_refl _, fun _ _ _ => rfl⟩
theorem Md.trans {L : List Nat} {a b c : World} (h : Md L a b) (k : Md L b c) : Md L a c :=
  ⟨k.os.trans h.os, k.tape.trans h.tape, k.output.trans h.output, Nat.le_trans h.size k.size, fun i hi hg => (k.block i (Nat.lt_of_lt_of_le hi h.size) hg).trans (h.block i hi hg)⟩
theorem Md.mono {L L' : List Nat} {a b : World} (h : Md L a b) (hl : ∀ x ∈ L, x ∈ L') : Md L' a b := ⟨h.os, h.tape, h.output, h.size, fun k hk hn => h.block k hk fun hm => hn (hl k hm)⟩
theorem Md.of_below {L : List Nat} {w w' : World} (h : Below w.heap.size w w') : Md L w w' := ⟨h.os, h.tape, h.output, h.size, fun k hk _ => h.block k hk⟩
theorem Md.drewN {L : List Nat} {a w : World} (h : Md L a w) (n : Nat) : Md L a (w.drewN n) := ⟨h.os, h.tape, h.output, h.size, h.block⟩
theorem Md.drew {L : List Nat} {a w : World} (h : Md L a w) : Md L a w.drew := ⟨h.os, h.tape, h.output, h.size, h.block⟩
theorem Md.dr {L : List Nat} {a w w' : World} (h : Md L a w) (hd : Dr w w') : Md L a w' := by
  obtain ⟨n, rfl⟩ := hd
  exact h.drewN n
theorem Md.setCell {L : List Nat} {a w : World} {g : Nat} (h : Md L a w) (hg : g ∈ L) (i : Nat) (u : Value) : Md L a (w.setCell ⟨g, i, none⟩ u) :=
  h.trans ⟨rfl, rfl, rfl, by simp [World.setCell], fun k _ hk => Below.heap_setCell _ _ _ _ fun e => hk (e ▸ hg)⟩
theorem Md.below {L : List Nat} {B : Nat} {w w' : World} (h : Md L w w') (hL : ∀ x ∈ L, B ≤ x) (hB : B ≤ w.heap.size) : Below B w w' :=
  ⟨h.os, h.tape, h.output, h.size, fun k hk => h.block k (by omega) fun hm => by have := hL k hm; omega⟩
theorem Blk.md {L : List Nat} {w w' : World} {g : Nat} {t : TypeId} {vs : List Value} (hb : Blk w g t vs) (h : Md L w w') (hg : g ∉ L) : Blk w' g t vs := (h.block g hb.lt hg).trans hb

/-- Two places exchanged. -/
def sx {α : Type} (d : α) (l : List α) (i k : Nat) : List α := (l.set i (l.getD k d)).set k (l.getD i d)
theorem sx_length {α : Type} (d : α) (l : List α) (i k : Nat) : (sx d l i k).length = l.length := by simp [sx]
theorem sx_mem {α : Type} {d : α} {l : List α} {i k : Nat} (hi : i < l.length) (hk : k < l.length) {x : α} (h : x ∈ sx d l i k) : x ∈ l := by
  unfold sx at h
  rw [List.getD_eq_getElem?_getD, List.getD_eq_getElem?_getD, List.getElem?_eq_getElem hi, List.getElem?_eq_getElem hk] at h
  rcases List.mem_or_eq_of_mem_set h with h | rfl
  · rcases List.mem_or_eq_of_mem_set h with h | rfl
    · exact h
    · exact List.getElem_mem hk
  · exact List.getElem_mem hi
theorem sx_at {α : Type} (d : α) (l : List α) (i k j : Nat) (hi : i < l.length) (hk : k < l.length) (hj : j < l.length) (h : j < (sx d l i k).length) :
    (sx d l i k)[j] = if j = k then l[i] else if j = i then l[k] else l[j] := by
  unfold sx
  simp only [List.getElem_set, List.getD_eq_getElem?_getD, List.getElem?_eq_getElem hi, List.getElem?_eq_getElem hk, Option.getD_some]
  by_cases h1 : k = j
  · subst h1; simp
  · rw [if_neg h1, if_neg (Ne.symm h1)]
    by_cases h2 : i = j
    · subst h2; simp
    · rw [if_neg h2, if_neg (Ne.symm h2)]

/-- A row by its entries. -/
def rowN (n : Nat) (f : Nat → Nat) : List Value := u32s ((List.range n).map f)
theorem rowN_at {n k : Nat} (f : Nat → Nat) (h : k < n) : (rowN n f)[k]? = some (.int .u32 (f k : Int)) := by
  unfold rowN
  rw [u32s_at (by simpa using h)]; simp
theorem rowN_length (n : Nat) (f : Nat → Nat) : (rowN n f).length = n := by simp [rowN, u32s]
theorem rowN_congr {n : Nat} {f g : Nat → Nat} (h : ∀ k, k < n → f k = g k) : rowN n f = rowN n g := by
  unfold rowN
  rw [List.map_congr_left (g := g) fun k hk => h k (by simpa using hk)]
theorem rowN_set {n : Nat} (f : Nat → Nat) (k x : Nat) : (rowN n f).set k (.int .u32 (x : Int)) = rowN n fun j => if j = k then x else f j := by
  apply List.ext_getElem?
  intro i
  by_cases hi : i < n
  · rw [rowN_at _ hi, List.getElem?_set]
    by_cases e : k = i
    · subst e; rw [if_pos rfl, if_pos (by rw [rowN_length]; exact hi), if_pos rfl]
    · rw [if_neg e, rowN_at _ hi, if_neg (Ne.symm e)]
  · rw [List.getElem?_eq_none (by rw [List.length_set, rowN_length]; omega), List.getElem?_eq_none (by rw [rowN_length]; omega)]
/-- The headers. -/
def hdN (bs : List Nat) (n : Nat) : List Value := bs.map fun b => .slice (some ⟨b, 0, none⟩) n n
theorem hdN_at {bs : List Nat} {n i : Nat} (h : i < bs.length) : (hdN bs n)[i]? = some (.slice (some ⟨bs[i], 0, none⟩) n n) := by simp [hdN, List.getElem?_eq_getElem h]
theorem hdN_set (bs : List Nat) (n i b : Nat) : (hdN bs n).set i (.slice (some ⟨b, 0, none⟩) n n) = hdN (bs.set i b) n := by simp [hdN, List.map_set]

/-- A matrix: block g holds the headers, each row lies in a block of its own. -/
structure Mt (w : World) (g : Nat) (bs : List Nat) (n : Nat) (E : Nat → Nat → Nat) : Prop where
  top : Blk w g 29 (hdN bs n)
  row : ∀ i (h : i < bs.length), Blk w bs[i] 24 (rowN n (E i))
  nd : bs.Nodup
  ng : g ∉ bs
section
variable {w w' : World} {g n : Nat} {bs : List Nat} {E : Nat → Nat → Nat}
theorem Mt.keep (h : Mt w g bs n E) (hk : ∀ k, k = g ∨ k ∈ bs → w'.heap[k]? = w.heap[k]?) : Mt w' g bs n E :=
  ⟨(hk g (.inl rfl)).trans h.top, fun i hi => (hk _ (.inr (List.getElem_mem hi))).trans (h.row i hi), h.nd, h.ng⟩
theorem Mt.lt (h : Mt w g bs n E) : ∀ k, k = g ∨ k ∈ bs → k < w.heap.size := fun k hk => by
  rcases hk with rfl | hk
  · exact h.top.lt
  · obtain ⟨i, hi, rfl⟩ := List.mem_iff_getElem.1 hk
    exact (h.row i hi).lt
theorem Mt.md {L : List Nat} (h : Mt w g bs n E) (hm : Md L w w') (hL : ∀ k, k = g ∨ k ∈ bs → k ∉ L) : Mt w' g bs n E := h.keep fun k hk => hm.block k (h.lt k hk) (hL k hk)
theorem Mt.below (h : Mt w g bs n E) (hb : Below w.heap.size w w') : Mt w' g bs n E := h.keep fun k hk => hb.block k (h.lt k hk)
theorem Mt.drewN (h : Mt w g bs n E) (m : Nat) : Mt (w.drewN m) g bs n E := ⟨h.top, h.row, h.nd, h.ng⟩
theorem Mt.dr (h : Mt w g bs n E) (hd : Dr w w') : Mt w' g bs n E := by
  obtain ⟨m, rfl⟩ := hd
  exact h.drewN m
theorem Mt.congr {F : Nat → Nat → Nat} (h : Mt w g bs n E) (he : ∀ i k, i < bs.length → k < n → E i k = F i k) : Mt w g bs n F :=
  ⟨h.top, fun i hi => by rw [← rowN_congr fun k hk => he i k hi hk]; exact h.row i hi, h.nd, h.ng⟩
theorem Mt.head (h : Mt w g bs n E) {i : Nat} (hi : i < bs.length) : w.cell? ⟨g, i, none⟩ = some (.slice (some ⟨bs[i], 0, none⟩) n n) ∧ w.frozen? ⟨g, i, none⟩ = false := ⟨by rw [h.top.cell, hdN_at hi], h.top.frozen i⟩
theorem Mt.cell (h : Mt w g bs n E) {i k : Nat} (hi : i < bs.length) (hk : k < n) : w.cell? ⟨bs[i], k, none⟩ = some (.int .u32 (E i k : Int)) ∧ w.frozen? ⟨bs[i], k, none⟩ = false := ⟨by rw [(h.row i hi).cell, rowN_at _ hk], (h.row i hi).frozen k⟩
/-- One entry stored. -/
theorem Mt.put (h : Mt w g bs n E) {i k : Nat} (hi : i < bs.length) (x : Nat) : Mt (w.setCell ⟨bs[i], k, none⟩ (.int .u32 (x : Int))) g bs n fun a b => if a = i ∧ b = k then x else E a b := by
  refine ⟨h.top.far (fun e => h.ng (e ▸ List.getElem_mem hi)) _, fun j hj => ?_, h.nd, h.ng⟩
  by_cases e : j = i
  · subst e
    have := (h.row j hj).set_ k (.int .u32 (x : Int))
    rw [rowN_set] at this
    rw [rowN_congr (g := fun b => if b = k then x else E j b) fun b _ => by simp]
    exact this
  · rw [rowN_congr (g := E j) fun b _ => by rw [if_neg fun e2 => e e2.1]]
    exact (h.row j hj).far (fun e2 => e ((List.getElem_inj h.nd).1 e2)) _
/-- Two rows exchanged. -/
theorem Mt.swap (h : Mt w g bs n E) {i k : Nat} (hi : i < bs.length) (hk : k < bs.length) :
    Mt ((w.setCell ⟨g, i, none⟩ (.slice (some ⟨bs[k], 0, none⟩) n n)).setCell ⟨g, k, none⟩ (.slice (some ⟨bs[i], 0, none⟩) n n)) g (sx 0 bs i k) n fun a => E (if a = k then i else if a = i then k else a) := by
  have e0 : sx 0 bs i k = (bs.set i bs[k]).set k bs[i] := by
    unfold sx
    rw [List.getD_eq_getElem?_getD, List.getD_eq_getElem?_getD, List.getElem?_eq_getElem hi, List.getElem?_eq_getElem hk]; rfl
  have hmem : ∀ x, x ∈ sx 0 bs i k → x ∈ bs := fun x hx => sx_mem hi hk hx
  refine ⟨?_, fun j hj => ?_, ?_, fun hm => h.ng (hmem _ hm)⟩
  · have := (h.top.set_ i (.slice (some ⟨bs[k], 0, none⟩) n n)).set_ k (.slice (some ⟨bs[i], 0, none⟩) n n)
    rw [hdN_set, hdN_set] at this
    rw [e0]; exact this
  · have hjl : j < bs.length := by rw [sx_length] at hj; exact hj
    have hfar : ∀ (a : Nat) (ha : a < bs.length) F, Blk w bs[a] 24 F → Blk ((w.setCell ⟨g, i, none⟩ (.slice (some ⟨bs[k], 0, none⟩) n n)).setCell ⟨g, k, none⟩ (.slice (some ⟨bs[i], 0, none⟩) n n)) bs[a] 24 F := fun a ha F hF =>
      (hF.far (p := ⟨g, i, none⟩) (fun e => h.ng ((show bs[a] = g from e) ▸ List.getElem_mem ha)) _).far (p := ⟨g, k, none⟩) (fun e => h.ng ((show bs[a] = g from e) ▸ List.getElem_mem ha)) _
    rw [sx_at 0 bs i k j hi hk hjl hj]
    by_cases h1 : j = k
    · rw [if_pos h1, if_pos h1]; exact hfar i hi _ (h.row i hi)
    · rw [if_neg h1, if_neg h1]
      by_cases h2 : j = i
      · rw [if_pos h2, if_pos h2]; exact hfar k hk _ (h.row k hk)
      · rw [if_neg h2, if_neg h2]; exact hfar j hjl _ (h.row j hjl)
  · rw [List.nodup_iff_pairwise_ne, List.pairwise_iff_getElem]
    intro a b ha hb hab e
    have ha2 : a < bs.length := by rw [sx_length] at ha; exact ha
    have hb2 : b < bs.length := by rw [sx_length] at hb; exact hb
    rw [sx_at 0 bs i k a hi hk ha2 ha, sx_at 0 bs i k b hi hk hb2 hb] at e
    have hin : ∀ {x y : Nat} (hx : x < bs.length) (hy : y < bs.length), bs[x] = bs[y] → x = y := fun hx hy e => (List.getElem_inj h.nd).1 e
    split at e <;> split at e <;> (try split at e) <;> (try split at e) <;> (have := hin (by assumption) (by assumption) e; omega)
theorem Mt.reads (h : Mt w g bs n E) (hn : n ≤ 281474976710656) : RdM w w.heap.size (some ⟨g, 0, none⟩) ((List.range bs.length).map fun i => (List.range n).map (E i)) := fun _ =>
  ⟨g, 0, rfl, h.top.lt, fun i hi => by
    have hi2 : i < bs.length := by simpa using hi
    refine ⟨some ⟨bs[i], 0, none⟩, n, ?_, by simp, by simpa using hn, ?_⟩
    · rw [Nat.zero_add, (h.head hi2).1]; simp
    · simp only [List.getElem_map, List.getElem_range]
      exact Rd.of_blk (h.row i hi2) (h.row i hi2).lt 0 fun k v hv => by rw [Nat.zero_add]; exact hv⟩
end
end
section
open Go.RowKit

def plN (p x y c : Nat) : Nat := (x + y * c) % p
theorem plN_lt {p : Nat} (hp : 0 < p) (x y c : Nat) : plN p x y c < p := Nat.mod_lt _ hp
def ngN (p x : Nat) : Nat := if x = 0 then 0 else p - x
theorem ngN_lt {p x : Nat} (hx : x < p) : ngN p x < p := by unfold ngN; split <;> omega
/-- Where the matrix on its way stands: its prime. -/
def Pw (w : World) (gw p : Nat) : Prop := w.cell? ⟨gw, 0, none⟩ = some (.int .u64 (p : Int))
theorem Pw.keep {w w' : World} {gw p : Nat} (h : Pw w gw p) (hk : w'.heap[gw]? = w.heap[gw]?) : Pw w' gw p := (World.cell?_of_block (a := ⟨gw, 0, none⟩) hk).trans h
theorem Pw.lt {w : World} {gw p : Nat} (h : Pw w gw p) : gw < w.heap.size := by
  rcases Nat.lt_or_ge gw w.heap.size with hlt | hge
  · exact hlt
  · unfold Pw World.cell? at h
    rw [Array.getElem?_eq_none hge] at h; cases h
theorem Pw.md {L : List Nat} {w w' : World} {gw p : Nat} (h : Pw w gw p) (hm : Md L w w') (hg : gw ∉ L) : Pw w' gw p := h.keep (hm.block gw h.lt hg)
theorem Pw.dr {w w' : World} {gw p : Nat} (h : Pw w gw p) (hd : Dr w w') : Pw w' gw p := by
  obtain ⟨n, rfl⟩ := hd
  exact h

set_option maxHeartbeats 800000 in
theorem hplus_any (gw p x y c : Nat) (w : World) (hp0 : 0 < p) (hp : p < 4294967296) (hx : x < 4294967296) (hy : y < 4294967296) (hc : c < 4294967296) (hw : Pw w gw p) :
    Calls Tryd.prog 37 #[.pointer (some ⟨gw, 0, none⟩), .int .u32 (x : Int), .int .u32 (y : Int), .int .u32 (c : Int)] w fun e w' => e = .returned (.int .u32 (plN p x y c : Int)) ∧ w = w' := by
  have hyc : y * c ≤ 4294967295 * 4294967295 := Nat.mul_le_mul (by omega) (by omega)
  obtain ⟨m, hm⟩ : ∃ m, m = y * c := ⟨_, rfl⟩
  obtain ⟨s, hs⟩ : ∃ s, s = x + m := ⟨_, rfl⟩
  have hr : plN p x y c = s % p := by unfold plN; rw [← hm, ← hs]
  have hrl := plN_lt hp0 x y c
  obtain ⟨r, hre⟩ : ∃ r, r = plN p x y c := ⟨_, rfl⟩
  rw [← hre] at hr hrl ⊢
  rw [← hm] at hyc
  have t1 : (y : Int) * (c : Int) = (m : Int) := by rw [hm]; simp
  have t2 : (x : Int) + (m : Int) = (s : Int) := by omega
  have t3 : (s : Int) % (p : Int) = (r : Int) := by rw [hr]; simp
  have t4 : ((p : Int) == 0) = false := by simp; omega
  have hsb : s < 18446744073709551616 := by omega
  have h0 : w.cell? ⟨gw, 0, none⟩ = some (.int .u64 (p : Int)) := hw
  clear hm hs hr hre hw
  go_enter Tryd.func37, Tryd.ntmps37
  go_wp2
  go_ret
  exact ⟨rfl, rfl⟩

set_option maxHeartbeats 800000 in
theorem hneg_any (gw p x : Nat) (w : World) (hp : p < 4294967296) (hx : x < p) (hw : Pw w gw p) :
    Calls Tryd.prog 40 #[.pointer (some ⟨gw, 0, none⟩), .int .u32 (x : Int)] w fun e w' => e = .returned (.int .u32 (ngN p x : Int)) ∧ w = w' := by
  have h0 : w.cell? ⟨gw, 0, none⟩ = some (.int .u64 (p : Int)) := hw
  unfold ngN
  clear hw
  by_cases hz : x = 0
  · subst hz
    go_enter Tryd.func40, Tryd.ntmps40
    go_wp2
    go_ret
    exact ⟨rfl, rfl⟩
  · have t1 : ((x : Int) == 0) = false := by simp; omega
    rw [if_neg hz]
    obtain ⟨r, hr⟩ : ∃ r, r = p - x := ⟨_, rfl⟩
    rw [← hr]
    have t2 : (p : Int) - (x : Int) = (r : Int) := by omega
    have hrl : r < 4294967296 := by omega
    clear hr
    go_enter Tryd.func40, Tryd.ntmps40
    go_wp2
    go_ret
    exact ⟨rfl, rfl⟩

/-- Places i and k exchanged. -/
def tr (i k a : Nat) : Nat := if a = k then i else if a = i then k else a
/-- A matrix that may be nil. -/
def Mo (w : World) (A : Option Addr) (g : Nat) (bs : List Nat) (n : Nat) (E : Nat → Nat → Nat) : Prop := bs = [] ∨ (A = some ⟨g, 0, none⟩ ∧ Mt w g bs n E)
theorem Mo.md {w w' : World} {A : Option Addr} {g n : Nat} {bs L : List Nat} {E : Nat → Nat → Nat} (h : Mo w A g bs n E) (hm : Md L w w') (hL : bs ≠ [] → ∀ k, k = g ∨ k ∈ bs → k ∉ L) : Mo w' A g bs n E := by
  rcases h with h | ⟨h1, h2⟩
  · exact .inl h
  · by_cases hb : bs = []
    · exact .inl hb
    · exact .inr ⟨h1, h2.md hm (hL hb)⟩
theorem Mo.congr {w : World} {A : Option Addr} {g n : Nat} {bs : List Nat} {E F : Nat → Nat → Nat} (h : Mo w A g bs n E) (he : ∀ i k, i < bs.length → k < n → E i k = F i k) : Mo w A g bs n F := by
  rcases h with h | ⟨h1, h2⟩
  · exact .inl h
  · exact .inr ⟨h1, h2.congr he⟩
theorem Mo.mt {w : World} {A : Option Addr} {g n i : Nat} {bs : List Nat} {E : Nat → Nat → Nat} (h : Mo w A g bs n E) (hi : i < bs.length) : A = some ⟨g, 0, none⟩ ∧ Mt w g bs n E := by
  rcases h with h | h
  · rw [h] at hi; simp at hi
  · exact h

set_option maxHeartbeats 1600000 in
theorem swapRows_any (g n i k m c : Nat) (bs : List Nat) (E : Nat → Nat → Nat) (w : World) (h : Mt w g bs n E) (hi : i < bs.length) (hk : k < bs.length) (hm : bs.length = m) (_ : m ≤ 1000) :
    Calls Tryd.prog 60 #[.slice (some ⟨g, 0, none⟩) m c, .int .i64 (i : Int), .int .i64 (k : Int)] w fun e w' => e = .returned (.tuple #[]) ∧ Mt w' g (sx 0 bs i k) n (fun a => E (tr i k a)) ∧ Md [g] w w' := by
  have h1 := h.head hi
  have h2 := h.head hk
  have h3 := Lib.hid (h.swap hi hk)
  obtain ⟨a1, f1⟩ := h1
  obtain ⟨a2, f2⟩ := h2
  obtain ⟨bi, hbi⟩ : ∃ bi, bi = bs[i] := ⟨_, rfl⟩
  obtain ⟨bk, hbk⟩ : ∃ bk, bk = bs[k] := ⟨_, rfl⟩
  rw [← hbi] at a1 h3
  rw [← hbk] at a2 h3
  have hg := h.top.lt
  rw [hm] at hi hk
  clear h hm
  by_cases hik : i = k
  · subst hik
    obtain rfl : bi = bk := hbi.trans hbk.symm
    clear hbi hbk a2 f2
    go_enter Tryd.func60, Tryd.ntmps60
    go_wp2_with fail
    go_region
    all_goals go_wp2_with fail
    all_goals go_end0
    all_goals exact ⟨rfl, h3.out.drewN 1, (((Md.refl [g] w).setCell (List.mem_singleton.2 rfl) _ _).setCell (List.mem_singleton.2 rfl) _ _).drew⟩
  · clear hbi hbk
    go_enter Tryd.func60, Tryd.ntmps60
    go_wp2_with fail
    go_region
    all_goals go_wp2_with fail
    all_goals go_end0
    all_goals exact ⟨rfl, h3.out.drewN 1, (((Md.refl [g] w).setCell (List.mem_singleton.2 rfl) _ _).setCell (List.mem_singleton.2 rfl) _ _).drew⟩

/-- The first j rows done. -/
def upto (j : Nat) (E F : Nat → Nat → Nat) : Nat → Nat → Nat := fun a b => if a < j then F a b else E a b
set_option maxHeartbeats 1600000 in
theorem swapCols_any (A : Option Addr) (g n i k m c : Nat) (bs : List Nat) (E : Nat → Nat → Nat) (w : World) (h : Mo w A g bs n E) (hi : i < n) (hk : k < n) (hm : bs.length = m) (hl : m ≤ 1000) (_ : n ≤ 1000) :
    Calls Tryd.prog 61 #[.slice A m c, .int .i64 (i : Int), .int .i64 (k : Int)] w fun e w' => e = .returned (.tuple #[]) ∧ Mo w' A g bs n (fun a b => E a (tr i k b)) ∧ Md bs w w' := by
  go_enter Tryd.func61, Tryd.ntmps61
  go_wp2_with fail
  go_loopw [10] (fun jv wr => ∃ j : Nat, j ≤ m ∧ jv = .int .i64 (j : Int) ∧ Hid (Mo wr A g bs n (upto j E fun a b => E a (tr i k b))) ∧ Hid (Md bs w wr)) (fun jv _ => m - (intOf jv).toNat)
  case atStart => exact ⟨0, Nat.zero_le _, rfl, h.congr fun a b _ _ => by simp [upto], Md.refl _ _⟩
  case round =>
    obtain ⟨j, hj, rfl, hmo, hmd⟩ := hrel
    by_cases hjl : j < m
    · have hjb : j < bs.length := by omega
      obtain ⟨rfl, hmt⟩ := hmo.out.mt hjb
      have a0 := (hmt.head hjb).1
      obtain ⟨a1, f1⟩ := hmt.cell hjb hi
      obtain ⟨a2, f2⟩ := hmt.cell hjb hk
      have hp := Lib.hid (((hmt.put (k := i) hjb (E j k)).put (k := k) hjb (E j i)).congr (F := upto (j + 1) E fun a b => E a (tr i k b)) fun a b ha hb => by
        unfold upto tr
        by_cases e1 : a = j
        · subst e1
          rw [if_pos (Nat.lt_succ_self _)]
          by_cases e2 : b = k
          · subst e2; simp
          · by_cases e3 : b = i
            · subst e3; simp [e2]
            · simp [e2, e3]
        · by_cases e2 : a < j
          · simp [e1, e2, show a < j + 1 by omega]
          · simp [e1, e2, show ¬ a < j + 1 by omega])
      have hbm : bs[j] ∈ bs := List.getElem_mem hjb
      have e1 : upto j E (fun a b => E a (tr i k b)) j i = E j i := by unfold upto; rw [if_neg (Nat.lt_irrefl _)]
      have e2 : upto j E (fun a b => E a (tr i k b)) j k = E j k := by unfold upto; rw [if_neg (Nat.lt_irrefl _)]
      rw [e1] at a1
      rw [e2] at a2
      obtain ⟨bj, hbj⟩ : ∃ bj, bj = bs[j] := ⟨_, rfl⟩
      rw [← hbj] at a0 a1 f1 a2 f2 hp hbm
      obtain ⟨x, hx⟩ : ∃ x, x = E j i := ⟨_, rfl⟩
      obtain ⟨y, hy⟩ : ∃ y, y = E j k := ⟨_, rfl⟩
      rw [← hx] at a1 hp
      rw [← hy] at a2 hp
      have hbl := hmt.lt bj (.inr hbm)
      have hgl := hmt.top.lt
      clear hmt e1 e2 hbj hmo
      by_cases hik : i = k
      · subst hik
        obtain rfl : x = y := hx.trans hy.symm
        clear hx hy a2 f2
        go_upto_region 3 with (fail)
        go_region
        all_goals go_wp2_with fail
        all_goals go_roundw
        all_goals first
          | exact ⟨j + 1, by omega, by go_num, .inr ⟨rfl, hp.out.drewN 1⟩, ((hmd.out.setCell hbm _ _).setCell hbm _ _).drew⟩
          | (simp [intOf] <;> omega)
      · clear hx hy
        go_upto_region 3 with (fail)
        go_region
        all_goals go_wp2_with fail
        all_goals go_roundw
        all_goals first
          | exact ⟨j + 1, by omega, by go_num, .inr ⟨rfl, hp.out.drewN 1⟩, ((hmd.out.setCell hbm _ _).setCell hbm _ _).drew⟩
          | (simp [intOf] <;> omega)
    · obtain rfl : j = m := by omega
      go_wp2
      go_end0
      exact ⟨rfl, hmo.out.congr fun a b ha _ => by unfold upto; rw [if_pos (by omega)], hmd.out⟩
end
end Go.Proofs.YtbafiahmcfkboaaDoor
