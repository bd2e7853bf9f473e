/- A matrix that is being made, row by row; the contract of identity. Conditions: as each states. The contract of begun. Conditions: bases reads 2, 7, 61; the sizes. The contract of Reduce. Conditions: bases reads 2, 7, 61; the sizes. The reference's Prime, Fits, Words, Same, Is of layer 21. Conditions: the sizes. -/
import Derived.Test.YtbafiahmcfkboaaDoorPkHm28
namespace Go.Proofs.YtbafiahmcfkboaaDoor
section
open Go.RowKit

/-- The first rows of a matrix of N rows are made. -/
structure Mp (w : World) (g : Nat) (bs : List Nat) (n N : Nat) (E : Nat → Nat → Nat) : Prop where
  top : Blk w g 29 (hdN bs n ++ List.replicate (N - bs.length) (.slice none 0 0))
  row : ∀ i (h : i < bs.length), Blk w bs[i] 24 (rowN n (E i))
  nd : bs.Nodup
  ng : g ∉ bs
  le : bs.length ≤ N
section
variable {w w' : World} {g n N : Nat} {bs : List Nat} {E : Nat → Nat → Nat}
theorem Mp.lt (h : Mp w g bs n N E) : ∀ k, k = g ∨ k ∈ bs → k < w.heap.size := fun k hk => by
  rcases hk with rfl | hk
  · exact h.top.lt
  · obtain ⟨i, hi, rfl⟩ := List.mem_iff_getElem.1 hk
    exact (h.row i hi).lt
theorem Mp.keep (h : Mp w g bs n N E) (hk : ∀ k, k = g ∨ k ∈ bs → w'.heap[k]? = w.heap[k]?) : Mp w' g bs n N E :=
  ⟨(hk g (.inl rfl)).trans h.top, fun i hi => (hk _ (.inr (List.getElem_mem hi))).trans (h.row i hi), h.nd, h.ng, h.le⟩
theorem Mp.below (h : Mp w g bs n N E) (hb : Below w.heap.size w w') : Mp w' g bs n N E := h.keep fun k hk => hb.block k (h.lt k hk)
theorem Mp.drewN (h : Mp w g bs n N E) (m : Nat) : Mp (w.drewN m) g bs n N E := ⟨h.top, h.row, h.nd, h.ng, h.le⟩
theorem Mp.dr (h : Mp w g bs n N E) (hd : Dr w w') : Mp w' g bs n N E := by
  obtain ⟨m, rfl⟩ := hd
  exact h.drewN m
theorem Mp.congr {F : Nat → Nat → Nat} (h : Mp w g bs n N E) (he : ∀ i k, i < bs.length → k < n → E i k = F i k) : Mp w g bs n N F :=
  ⟨h.top, fun i hi => by rw [← rowN_congr fun k hk => he i k hi hk]; exact h.row i hi, h.nd, h.ng, h.le⟩
theorem Mp.head (h : Mp w g bs n N E) {i : Nat} (hi : i < bs.length) : w.cell? ⟨g, i, none⟩ = some (.slice (some ⟨bs[i], 0, none⟩) n n) ∧ w.frozen? ⟨g, i, none⟩ = false := by
  refine ⟨?_, h.top.frozen i⟩
  rw [h.top.cell, List.getElem?_append_left (by simpa [hdN] using hi), hdN_at hi]
theorem Mp.next (h : Mp w g bs n N E) (hl : bs.length < N) : w.cell? ⟨g, bs.length, none⟩ = some (.slice none 0 0) ∧ w.frozen? ⟨g, bs.length, none⟩ = false := by
  refine ⟨?_, h.top.frozen _⟩
  have e : bs.length - (hdN bs n).length = 0 := by simp [hdN]
  rw [h.top.cell, List.getElem?_append_right (by simp [hdN]), e, List.getElem?_replicate, if_pos (by omega)]
theorem Mp.cell (h : Mp w g bs n N E) {i k : Nat} (hi : i < bs.length) (hk : k < n) : w.cell? ⟨bs[i], k, none⟩ = some (.int .u32 (E i k : Int)) ∧ w.frozen? ⟨bs[i], k, none⟩ = false := ⟨by rw [(h.row i hi).cell, rowN_at _ hk], (h.row i hi).frozen k⟩
theorem Mp.put (h : Mp w g bs n N E) {i k : Nat} (hi : i < bs.length) (x : Nat) : Mp (w.setCell ⟨bs[i], k, none⟩ (.int .u32 (x : Int))) g bs n N fun a b => if a = i ∧ b = k then x else E a b := by
  refine ⟨h.top.far (fun e => h.ng (e ▸ List.getElem_mem hi)) _, fun j hj => ?_, h.nd, h.ng, h.le⟩
  by_cases e : j = i
  · subst e
    have := (h.row j hj).set_ k (.int .u32 (x : Int))
    rw [rowN_set] at this
    rw [rowN_congr (g := fun b => if b = k then x else E j b) fun b _ => by simp]
    exact this
  · rw [rowN_congr (g := E j) fun b _ => by rw [if_neg fun e2 => e e2.1]]
    exact (h.row j hj).far (fun e2 => e ((List.getElem_inj h.nd).1 e2)) _
/-- A new row in block b. -/
theorem Mp.push (h : Mp w g bs n N E) {b : Nat} (hl : bs.length < N) (hb : Blk w b 24 (rowN n fun _ => 0)) (hg : b ≠ g) (hn : b ∉ bs) : Mp (w.setCell ⟨g, bs.length, none⟩ (.slice (some ⟨b, 0, none⟩) n n)) g (bs ++ [b]) n N fun i k => if i < bs.length then E i k else 0 := by
  have hlen : (bs ++ [b]).length = bs.length + 1 := by simp
  refine ⟨?_, fun i hi => ?_, ?_, ?_, by omega⟩
  · have := h.top.set_ bs.length (.slice (some ⟨b, 0, none⟩) n n)
    rw [List.set_append_right _ _ (by simp [hdN])] at this
    have e : bs.length - (hdN bs n).length = 0 := by simp [hdN]
    rw [e] at this
    obtain ⟨m, hm⟩ : ∃ m, N - bs.length = m + 1 := ⟨N - bs.length - 1, by omega⟩
    rw [hm, List.replicate_succ, List.set_cons_zero] at this
    rw [hlen, show N - (bs.length + 1) = m by omega]
    have e2 : hdN (bs ++ [b]) n = hdN bs n ++ [.slice (some ⟨b, 0, none⟩) n n] := by simp [hdN]
    rw [e2, List.append_assoc]; exact this
  · by_cases hi2 : i < bs.length
    · rw [List.getElem_append_left hi2, rowN_congr (g := E i) fun k _ => if_pos hi2]
      exact (h.row i hi2).far (p := ⟨g, bs.length, none⟩) (fun e => h.ng ((show bs[i] = g from e) ▸ List.getElem_mem hi2)) _
    · obtain rfl : i = bs.length := by omega
      rw [List.getElem_append_right (Nat.le_refl _), rowN_congr (g := fun _ => 0) fun k _ => if_neg (Nat.lt_irrefl _)]
      simp only [Nat.sub_self, List.getElem_cons_zero]
      exact hb.far (p := ⟨g, bs.length, none⟩) hg _
  · rw [List.nodup_append]
    exact ⟨h.nd, by simp, fun x hx y hy e => hn (by rw [List.mem_singleton.1 hy] at e; exact e ▸ hx)⟩
  · rw [List.mem_append, List.mem_singleton]
    rintro (h1 | h1)
    · exact h.ng h1
    · exact hg h1.symm
theorem Mp.done (h : Mp w g bs n N E) (hl : bs.length = N) : Mt w g bs n E := ⟨by have := h.top; rw [hl, Nat.sub_self] at this; simpa using this, h.row, h.nd, h.ng⟩
theorem Mp.start (w : World) (n N : Nat) (E : Nat → Nat → Nat) : Mp (w.alloc (.cells (Array.replicate N (Value.slice none 0 0)) 29)) w.heap.size [] n N E :=
  ⟨by rw [show N - ([] : List Nat).length = N from rfl]; exact Blk.new_ (by simp [hdN]), fun i h => absurd h (Nat.not_lt_zero _), List.nodup_nil, List.not_mem_nil, Nat.zero_le _⟩
theorem rowN_zero (n : Nat) : (List.replicate n (Value.int .u32 0)) = rowN n fun _ => 0 := by
  unfold rowN u32s
  rw [List.map_map]
  apply List.ext_getElem?
  intro i
  by_cases hi : i < n <;> simp [hi]
end

def idN : Mf := fun i k => if i = k then 1 else 0

set_option maxRecDepth 20000 in
set_option maxHeartbeats 1600000 in
theorem identity_any (n : Nat) (w : World) (hn : n ≤ 1000) :
    Calls Tryd.prog 29 #[.int .i64 (n : Int)] w fun e w' => ∃ g bs, e = .returned (.slice (some ⟨g, 0, none⟩) n n) ∧ Mt w' g bs n idN ∧ bs.length = n ∧ (∀ x ∈ g :: bs, w.heap.size ≤ x ∧ x < w'.heap.size) ∧ Below w.heap.size w w' := by
  have hmt := fun W => mkTop n (by omega) W
  have hmr := fun W => mkRow n (by omega) W
  go_enter Tryd.func29, Tryd.ntmps29
  go_wp2_with fail
  have H0 : Hid (Mp (w.alloc (.cells (Array.replicate n (Value.slice none 0 0)) 29)) w.heap.size [] n n idN) := Mp.start w n n idN
  have Hb0 : Hid (Below w.heap.size w (w.alloc (.cells (Array.replicate n (Value.slice none 0 0)) 29))) := (Below.refl _ _).alloc (Nat.le_refl _) _
  obtain ⟨W0, hW0⟩ : ∃ W0, W0 = w.alloc (.cells (Array.replicate n (Value.slice none 0 0)) 29) := ⟨_, rfl⟩
  rw [← hW0] at H0 Hb0 ⊢
  clear hW0
  obtain ⟨g, hg⟩ : ∃ g, g = w.heap.size := ⟨_, rfl⟩
  rw [← hg] at H0 ⊢
  have Hg := Lib.hid hg
  clear hg
  go_loopw [9] (fun iv wr => ∃ (i : Nat) (bs : List Nat), i ≤ n ∧ iv = .int .i64 (i : Int) ∧ bs.length = i ∧ Hid (Mp wr g bs n n idN) ∧ Hid (∀ x ∈ bs, g ≤ x) ∧ Hid (Below w.heap.size w wr)) (fun iv _ => n - (intOf iv).toNat)
  case atStart => exact ⟨0, [], Nat.zero_le _, rfl, rfl, H0.out, fun _ h => absurd h List.not_mem_nil, Hb0.out⟩
  case round =>
    obtain ⟨i, bs, hi, rfl, hbl, hmp, hlo, hbw⟩ := hrel
    by_cases hin : i < n
    · obtain ⟨c1, f1⟩ := hmp.out.next (by omega)
      rw [hbl] at c1 f1
      have hgl := hmp.out.top.lt
      have hp : Mp ((wr.alloc (.cells (Array.replicate n (Value.int .u32 0)) 24)).setCell ⟨g, i, none⟩ (.slice (some ⟨wr.heap.size, 0, none⟩) n n)) g (bs ++ [wr.heap.size]) n n fun a b => if a < bs.length then idN a b else 0 := by
        have h1 := hmp.out.below ((Below.refl wr.heap.size wr).alloc (Nat.le_refl _) (.cells (Array.replicate n (Value.int .u32 0)) 24))
        have h2 := h1.push (b := wr.heap.size) (by omega) (by rw [← rowN_zero]; exact Blk.new_ (by simp)) (by omega) (fun hm => by have := hmp.out.lt _ (.inr hm); omega)
        rw [hbl] at h2
        rw [hbl]; exact h2
      have hlen : (bs ++ [wr.heap.size]).length = i + 1 := by simp [hbl]
      have hb2 : Below w.heap.size w ((wr.alloc (.cells (Array.replicate n (Value.int .u32 0)) 24)).setCell ⟨g, i, none⟩ (.slice (some ⟨wr.heap.size, 0, none⟩) n n)) := (hbw.out.alloc hbw.out.size _).trans ((Ch.setCell (Ch.refl g _) _ _).below (by rw [Hg.out]; exact Nat.le_refl _))
      obtain ⟨W1, hW1⟩ : ∃ W1, W1 = (wr.alloc (.cells (Array.replicate n (Value.int .u32 0)) 24)).setCell ⟨g, i, none⟩ (.slice (some ⟨wr.heap.size, 0, none⟩) n n) := ⟨_, rfl⟩
      rw [← hW1] at hp hb2
      have hil : i < (bs ++ [wr.heap.size]).length := by omega
      have hgi : (bs ++ [wr.heap.size])[i] = wr.heap.size := by
        rw [List.getElem_append_right (by omega)]; simp [hbl]
      obtain ⟨c2, f2⟩ := hp.head hil
      obtain ⟨c3, f3⟩ := hp.cell hil hin
      have hpt := hp.put (k := i) hil 1
      rw [hgi] at c2 c3 f3 hpt
      have Hpt := Lib.hid (hpt.congr (F := idN) fun a b ha hb => by
        unfold idN
        by_cases e1 : a = i
        · subst e1
          by_cases e2 : b = a
          · subst e2; simp
          · rw [if_neg (fun e => e2 e.2), if_neg (by omega), if_neg (fun e => e2 e.symm)]
        · rw [if_neg (fun e => e1 e.1), if_pos (by omega)])
      have Hb2 := Lib.hid hb2
      have Hlo2 : Hid (∀ x ∈ bs ++ [wr.heap.size], g ≤ x) := fun x hx => by
        rcases List.mem_append.1 hx with hx | hx
        · exact hlo.out x hx
        · rw [List.mem_singleton.1 hx]; omega
      have Hlen := Lib.hid hlen
      have hal : ∀ o, (wr.alloc o).cell? ⟨g, i, none⟩ = some (.slice none 0 0) ∧ (wr.alloc o).frozen? ⟨g, i, none⟩ = false := fun o => ⟨(World.cell?_alloc_past _ _ _ hgl).trans c1, (World.frozen?_alloc_past _ _ _ hgl).trans f1⟩
      obtain ⟨gb, hgb⟩ : ∃ gb, gb = wr.heap.size := ⟨_, rfl⟩
      rw [← hgb] at Hpt Hlo2 Hlen hW1 c2 c3 f3 hgl
      have HGB : Hid (w.heap.size ≤ gb) := by show _ ≤ _; rw [hgb]; exact hbw.out.size
      clear hp hpt hb2 hlen hil hgi hbl c1 f1 f2
      go_upto_region 6 with (fail)
      rw [← hgb, ← hW1]
      clear hal hW1 hgb
      go_wp2
      go_roundw
      case rel => exact ⟨i + 1, bs ++ [gb], by omega, by go_num, Hlen.out, Hpt.out, Hlo2.out, Hb2.out.trans ((Ch.setCell (Ch.refl gb _) _ _).below HGB.out)⟩
      case measure => simp [intOf]; omega
    · obtain rfl : i = n := by omega
      go_wp2
      go_ret
      exact ⟨g, bs, rfl, hmp.out.done hbl, hbl, fun x hx => by
        rcases List.mem_cons.1 hx with rfl | hx
        · exact ⟨Nat.le_of_eq Hg.out.symm, hmp.out.top.lt⟩
        · exact ⟨by have := hlo.out x hx; have := Hg.out; omega, hmp.out.lt _ (.inr hx)⟩, hbw.out⟩
end
section
open Go.RowKit

/-- An entry; nought where there is none. -/
def en (M : List (List Nat)) (i k : Nat) : Nat := (M.getD i []).getD k 0
theorem en_at {M : List (List Nat)} {i k : Nat} (hi : i < M.length) (hk : k < M[i].length) : en M i k = M[i][k] := by
  simp [en, List.getD_eq_getElem?_getD, List.getElem?_eq_getElem hi, List.getElem?_eq_getElem hk]
/-- The error's number of a matrix and a prime; 0: it fits. -/
def Ft (p : Nat) (M : List (List Nat)) (k : Nat) : Prop := (k = 40 ∧ ¬ Pr p) ∨ (Pr p ∧ ((k = 2 ∧ ¬ Rect M) ∨ (Rect M ∧ ((k = 3 ∧ (M.length = 0 ∨ M.length ≠ cols M)) ∨ (0 < M.length ∧ M.length = cols M ∧ ((k = 4 ∧ 24 < M.length) ∨ (k = 0 ∧ M.length ≤ 24)))))))
theorem Ft.ex (p : Nat) (M : List (List Nat)) : ∃ k, Ft p M k := by
  by_cases h1 : Pr p
  · by_cases h2 : Rect M
    · by_cases h3 : M.length = 0 ∨ M.length ≠ cols M
      · exact ⟨3, .inr ⟨h1, .inr ⟨h2, .inl ⟨rfl, h3⟩⟩⟩⟩
      · have h4 : 0 < M.length ∧ M.length = cols M := by omega
        by_cases h5 : 24 < M.length
        · exact ⟨4, .inr ⟨h1, .inr ⟨h2, .inr ⟨h4.1, h4.2, .inl ⟨rfl, h5⟩⟩⟩⟩⟩
        · exact ⟨0, .inr ⟨h1, .inr ⟨h2, .inr ⟨h4.1, h4.2, .inr ⟨rfl, by omega⟩⟩⟩⟩⟩
    · exact ⟨2, .inr ⟨h1, .inl ⟨rfl, h2⟩⟩⟩
  · exact ⟨40, .inl ⟨rfl, h1⟩⟩
theorem Ft.unique {p : Nat} {M : List (List Nat)} {k l : Nat} (h : Ft p M k) (h2 : Ft p M l) : k = l := by
  rcases h with ⟨rfl, a⟩ | ⟨a, h⟩
  · rcases h2 with ⟨rfl, _⟩ | ⟨b, _⟩
    · rfl
    · exact absurd b a
  · rcases h2 with ⟨_, b⟩ | ⟨_, h2⟩
    · exact absurd a b
    · rcases h with ⟨rfl, c⟩ | ⟨c, h⟩
      · rcases h2 with ⟨rfl, _⟩ | ⟨d, _⟩
        · rfl
        · exact absurd d c
      · rcases h2 with ⟨_, d⟩ | ⟨_, h2⟩
        · exact absurd c d
        · omega
theorem rect_of {M : List (List Nat)} (h : ∀ i (hi : i < M.length), M[i].length = cols M) : Rect M := fun r hr => by
  obtain ⟨i, hi, rfl⟩ := List.mem_iff_getElem.1 hr
  exact h i hi
/-- The matrix that fits, below p. -/
def inN (p : Nat) (M : List (List Nat)) : Mf := fun i k => en M i k % p
def zrN : Mf := fun _ _ => 0

theorem setCell_alloc (w : World) (a : Addr) (v : Value) (o : Obj) (h : a.block < w.heap.size) : (w.setCell a v).alloc o = (w.alloc o).setCell a v := by
  unfold World.setCell World.alloc
  congr 1
  apply Array.ext_getElem?
  intro k
  simp only [Array.getElem?_push, Array.getElem?_modify, Array.size_modify]
  by_cases h1 : k = w.heap.size
  · subst h1
    simp only [if_true, if_neg (show ¬ a.block = w.heap.size by omega)]
  · simp only [if_neg h1]

theorem begun_no (A : Option Addr) (m c p : Nat) (w : World) (hpr : ¬ Pr p) (hp : p < 4294967296) (hw : Bases w) :
    Calls Tryd.prog 22 #[.slice A m c, .int .u32 (p : Int)] w fun e w' => e = .returned (.tuple #[.pointer none, .int .i64 40]) ∧ Below w.heap.size w w' := by
  have H := Lib.hid ((is_no p hpr hp w hw).mono fun _ _ h => (⟨h.1, h.2.symm⟩ : _ = _ ∧ w = _))
  clear hw hpr
  go_enter Tryd.func22, Tryd.ntmps22
  go_wp2_with (go_at_call 30; (with_reducible refine H.out.mono ?_); rintro _ _ ⟨rfl, rfl⟩)
  go_ret2
  exact ⟨rfl, Below.refl _ _⟩

theorem begun_nil (A : Option Addr) (c p : Nat) (w : World) (hpr : Pr p) (hp : p < 4294967296) (hw : Bases w) :
    Calls Tryd.prog 22 #[.slice A 0 c, .int .u32 (p : Int)] w fun e w' => e = .returned (.tuple #[.pointer none, .int .i64 3]) ∧ Below w.heap.size w w' := by
  have H := Lib.hid ((is_yes p hpr hp w hw).mono fun _ _ h => (⟨h.1, h.2.symm⟩ : _ = _ ∧ w = _))
  clear hw hpr
  go_enter Tryd.func22, Tryd.ntmps22
  go_upto_region 4 with (go_at_call 30; (with_reducible refine H.out.mono ?_); rintro _ _ ⟨rfl, rfl⟩)
  go_loop [18] (fun v => v = .int .i64 0) (fun _ => 0)
  case atStart => rfl
  case round =>
    subst hrel
    go_wp2
    go_ret2
    exact ⟨rfl, Below.refl _ _⟩

set_option maxRecDepth 20000 in
set_option maxHeartbeats 6400000 in
theorem begun_any (A : Option Addr) (c p : Nat) (M : List (List Nat)) (w : World) (hpr : Pr p) (hp : p < 4294967296) (hw : Bases w) (hG : 0 < w.heap.size) (hr : RdM w w.heap.size A M) (hM : M ≠ []) (hm : M.length ≤ 1048576) (hd : DigM 4294967296 M) :
    Calls Tryd.prog 22 #[.slice A M.length c, .int .u32 (p : Int)] w fun e w' => (∃ k : Nat, Ft p M k ∧ k ≠ 0 ∧ e = .returned (.tuple #[.pointer none, .int .i64 (k : Int)]) ∧ Below w.heap.size w w') ∨ (Ft p M 0 ∧ ∃ gw, e = .returned (.tuple #[.pointer (some ⟨gw, 0, none⟩), .int .i64 0]) ∧ WS w' w.heap.size gw p M.length false ⟨inN p M, zrN, zrN⟩ ∧ Below w.heap.size w w') := by
  have hp0 := hpr.pos
  have H := Lib.hid ((is_yes p hpr hp w hw).mono fun _ _ h => (⟨h.1, h.2.symm⟩ : _ = _ ∧ w = _))
  have hl0 : 0 < M.length := List.length_pos_iff.2 hM
  have hc0 := cols_eq M hl0
  obtain ⟨b, off, rfl, hb, hcells⟩ := hr hM
  have HC : Hid (∀ i (h : i < M.length), ∃ Ai ci, w.cell? ⟨b, off + i, none⟩ = some (.slice Ai M[i].length ci) ∧ Rd w w.heap.size Ai (u32s M[i])) := fun i h => by
    obtain ⟨Ai, ci, a1, _, _, a4⟩ := hcells i h
    exact ⟨Ai, ci, a1, a4⟩
  have HPR : Hid (Pr p) := hpr
  obtain ⟨A0, c0, z0, _⟩ := HC.out 0 hl0
  rw [← hc0, Nat.add_zero] at z0
  have HLL : Hid (∀ i (h : i < M.length), M[i].length ≤ 281474976710656) := fun i h => by
    obtain ⟨_, _, _, _, a3, _⟩ := hcells i h
    exact a3
  have hcl : cols M ≤ 281474976710656 := by rw [hc0]; exact HLL.out 0 hl0
  have HD : Hid (DigM 4294967296 M) := hd
  have hgb : 0 < w.heap.size := hG
  obtain ⟨n, hn⟩ : ∃ n, n = M.length := ⟨_, rfl⟩
  obtain ⟨q, hq⟩ : ∃ q, q = cols M := ⟨_, rfl⟩
  have Hn := Lib.hid hn
  have Hq := Lib.hid hq
  rw [← hn] at hl0 hm ⊢
  rw [← hq] at z0 hcl
  clear hpr hw hr hcells hM hd hn hq hc0
  go_enter Tryd.func22, Tryd.ntmps22
  go_upto_region 4 with (go_at_call 30; (with_reducible refine H.out.mono ?_); rintro _ _ ⟨rfl, rfl⟩)
  go_loop [18] (fun v => ∃ j : Nat, j ≤ n ∧ v = .int .i64 (j : Int) ∧ Hid (∀ i (h : i < M.length), i < j → M[i].length = q)) (fun v => n - (intOf v).toNat)
  case atStart => exact ⟨0, Nat.zero_le _, rfl, fun i _ h => absurd h (Nat.not_lt_zero _)⟩
  case round =>
    obtain ⟨j, hj, rfl, hrow⟩ := hrel
    by_cases hjn : j < n
    · have hjM : j < M.length := by rw [← Hn.out]; exact hjn
      obtain ⟨Aj, cj, z1, _⟩ := HC.out j hjM
      obtain ⟨lj, hlj⟩ : ∃ lj, lj = M[j].length := ⟨_, rfl⟩
      rw [← hlj] at z1
      have Hlj := Lib.hid hlj
      clear hlj
      by_cases hlq : lj = q
      · have hrow2 : Hid (∀ i (h : i < M.length), i < j + 1 → M[i].length = q) := fun i h h2 => by
          by_cases e : i = j
          · subst e; rw [← Hlj.out]; exact hlq
          · exact hrow.out i h (by omega)
        subst hlq
        have t1 : ((lj : Int) != (lj : Int)) = false := by simp
        go_wp2
        go_round
        case rel => exact ⟨j + 1, by omega, by go_num, hrow2⟩
        case measure => simp [intOf]; omega
      · have hft : Hid (Ft p M 2) := .inr ⟨HPR.out, .inl ⟨rfl, fun hr => hlq (by rw [Hlj.out, Hq.out]; exact hr.at_ j hjM)⟩⟩
        have t1 : ((lj : Int) != (q : Int)) = true := by simp; omega
        clear hlq
        go_wp2
        go_ret2
        exact .inl ⟨2, hft.out, by decide, rfl, Below.refl _ _⟩
    · have hje : j = n := by omega
      subst hje
      have hRect : Hid (Rect M) := rect_of fun i hi => by rw [← Hq.out]; exact hrow.out i hi (by rw [Hn.out]; exact hi)
      have t0 : ((j : Int) == 0) = false := by simp; omega
      by_cases hnq : j = q
      · subst hnq
        have t1 : ((j : Int) != (j : Int)) = false := by simp
        by_cases h24 : 24 < j
        · have hft : Hid (Ft p M 4) := .inr ⟨HPR.out, .inr ⟨hRect.out, .inr ⟨by rw [← Hn.out]; omega, by rw [← Hn.out, ← Hq.out], .inl ⟨rfl, by rw [← Hn.out]; exact h24⟩⟩⟩⟩
          go_wp2
          go_ret2
          exact .inl ⟨4, hft.out, by decide, rfl, Below.refl _ _⟩
        · have hft : Hid (Ft p M 0) := .inr ⟨HPR.out, .inr ⟨hRect.out, .inr ⟨by rw [← Hn.out]; omega, by rw [← Hn.out, ← Hq.out], .inr ⟨rfl, by rw [← Hn.out]; omega⟩⟩⟩⟩
          have hmt := fun W => mkTop j (by omega) W
          have hmr := fun W => mkRow j (by omega) W
          have t24 : decide ((24 : Int) < (j : Int)) = false := by simp; omega
          have hRl : Hid (∀ i (h : i < M.length), M[i].length = j) := fun i h => hrow.out i h (by rw [Hn.out]; exact h)
          have hj24 : j ≤ 24 := by omega
          clear h24
          go_upto_region 14 with (fail)
          have HM0 : Hid (Mp ((w.alloc (.cells (Array.replicate j (Value.slice none 0 0)) 29)).alloc (.cells #[.int .u64 (p : Int), .slice (some ⟨w.heap.size, 0, none⟩) j j, .slice none 0 0, .slice none 0 0] 59)) w.heap.size [] j j (inN p M)) := (Mp.start w j j _).below ((Below.refl _ _).alloc (Nat.le_refl _) _)
          have Hbk0 : Hid (Blk ((w.alloc (.cells (Array.replicate j (Value.slice none 0 0)) 29)).alloc (.cells #[.int .u64 (p : Int), .slice (some ⟨w.heap.size, 0, none⟩) j j, .slice none 0 0, .slice none 0 0] 59)) (w.heap.size + 1) 59 [.int .u64 (p : Int), .slice (some ⟨w.heap.size, 0, none⟩) j j, .slice none 0 0, .slice none 0 0]) := by
            have h1 := Blk.new_ (w := w.alloc (.cells (Array.replicate j (Value.slice none 0 0)) 29)) (t := 59) (cs := #[.int .u64 (p : Int), .slice (some ⟨w.heap.size, 0, none⟩) j j, .slice none 0 0, .slice none 0 0]) (vs := [.int .u64 (p : Int), .slice (some ⟨w.heap.size, 0, none⟩) j j, .slice none 0 0, .slice none 0 0]) rfl
            rwa [show (w.alloc (.cells (Array.replicate j (Value.slice none 0 0)) 29)).heap.size = w.heap.size + 1 by simp] at h1
          have Hb0 : Hid (Below w.heap.size w ((w.alloc (.cells (Array.replicate j (Value.slice none 0 0)) 29)).alloc (.cells #[.int .u64 (p : Int), .slice (some ⟨w.heap.size, 0, none⟩) j j, .slice none 0 0, .slice none 0 0] 59))) := ((Below.refl _ _).alloc (Nat.le_refl _) _).alloc (by simp) _
          obtain ⟨W0, hW0⟩ : ∃ W0, W0 = (w.alloc (.cells (Array.replicate j (Value.slice none 0 0)) 29)).alloc (.cells #[.int .u64 (p : Int), .slice (some ⟨w.heap.size, 0, none⟩) j j, .slice none 0 0, .slice none 0 0] 59) := ⟨_, rfl⟩
          rw [← hW0] at HM0 Hbk0 Hb0 ⊢
          clear hW0
          obtain ⟨g, hg⟩ : ∃ g, g = w.heap.size := ⟨_, rfl⟩
          obtain ⟨gw, hgw⟩ : ∃ gw, gw = w.heap.size + 1 := ⟨_, rfl⟩
          rw [← hg] at HM0
          rw [← hgw, ← hg] at Hbk0
          rw [← hgw]
          have Hg := Lib.hid hg
          have Hgw := Lib.hid hgw
          have hgg : g < gw := by omega
          clear hg hgw
          go_upto_region 15 with (fail)
          go_loopw [56] (fun iv wr => ∃ (i : Nat) (bs : List Nat), i ≤ j ∧ iv = .int .i64 (i : Int) ∧ bs.length = i ∧ Hid (Mp wr g bs j j (inN p M)) ∧ Hid (∀ x ∈ bs, gw < x) ∧ Hid (Blk wr gw 59 [.int .u64 (p : Int), .slice (some ⟨g, 0, none⟩) j j, .slice none 0 0, .slice none 0 0]) ∧ Hid (Below w.heap.size w wr)) (fun iv _ => j - (intOf iv).toNat)
          case atStart => exact ⟨0, [], Nat.zero_le _, rfl, rfl, HM0.out, fun _ h => absurd h List.not_mem_nil, Hbk0.out, Hb0.out⟩
          case round =>
            obtain ⟨wo, rfl⟩ : ∃ wo, wo = wr := ⟨_, rfl⟩
            obtain ⟨i, bs, hi, rfl, hbl, hmp, hlo, hbk, hbw⟩ := hrel
            by_cases hij : i < j
            · have hiM : i < M.length := by rw [← Hn.out]; exact hij
              obtain ⟨Ai, ci, z1, zr⟩ := HC.out i hiM
              have z2 := (hbw.out.cell (p := ⟨b, off + i, none⟩) hb).trans z1
              rw [hRl.out i hiM] at z2
              have Zr := Lib.hid zr
              obtain ⟨c1, f1⟩ := hmp.out.next (by omega)
              rw [hbl] at c1 f1
              have hgl := hmp.out.top.lt
              have hwl := hbk.out.lt
              have d1 := hbk.out.cell 1
              simp only [List.getElem?_cons_zero, List.getElem?_cons_succ] at d1
              have hbo : b < wo.heap.size := Nat.lt_of_lt_of_le hb hbw.out.size
              have hal : ∀ o, (wo.alloc o).cell? ⟨g, i, none⟩ = some (.slice none 0 0) ∧ (wo.alloc o).frozen? ⟨g, i, none⟩ = false ∧ (wo.alloc o).cell? ⟨gw, 1, none⟩ = some (.slice (some ⟨g, 0, none⟩) j j) := fun o => ⟨(World.cell?_alloc_past _ _ _ hgl).trans c1, (World.frozen?_alloc_past _ _ _ hgl).trans f1, (World.cell?_alloc_past _ _ _ hwl).trans d1⟩
              clear z1 zr
              go_upto_region 17 with (fail)
              go_region
              have hp : Mp ((wo.alloc (.cells (Array.replicate j (Value.int .u32 0)) 24)).setCell ⟨g, i, none⟩ (.slice (some ⟨wo.heap.size, 0, none⟩) j j)) g (bs ++ [wo.heap.size]) j j fun a c => if a < i then inN p M a c else 0 := by
                have h1 := hmp.out.below ((Below.refl wo.heap.size wo).alloc (Nat.le_refl _) (.cells (Array.replicate j (Value.int .u32 0)) 24))
                have h2 := h1.push (b := wo.heap.size) (by omega) (by rw [← rowN_zero]; exact Blk.new_ (by simp)) (by omega) (fun hm => by have := hmp.out.lt _ (.inr hm); omega)
                rw [hbl] at h2
                exact h2
              have hbk1 : Blk ((wo.alloc (.cells (Array.replicate j (Value.int .u32 0)) 24)).setCell ⟨g, i, none⟩ (.slice (some ⟨wo.heap.size, 0, none⟩) j j)) gw 59 [.int .u64 (p : Int), .slice (some ⟨g, 0, none⟩) j j, .slice none 0 0, .slice none 0 0] := (hbk.out.heapAlloc _).far (p := ⟨g, i, none⟩) (show gw ≠ g by omega) _
              have hb2 : Below w.heap.size w ((wo.alloc (.cells (Array.replicate j (Value.int .u32 0)) 24)).setCell ⟨g, i, none⟩ (.slice (some ⟨wo.heap.size, 0, none⟩) j j)) := (hbw.out.alloc hbw.out.size _).trans ((Ch.setCell (Ch.refl g _) _ _).below (by rw [Hg.out]; exact Nat.le_refl _))
              rw [setCell_alloc _ _ _ _ (show g < wo.heap.size from hgl)]
              have Hlo2 : Hid (∀ x ∈ bs ++ [wo.heap.size], gw < x) := fun x hx => by
                rcases List.mem_append.1 hx with hx | hx
                · exact hlo.out x hx
                · rw [List.mem_singleton.1 hx]; exact hwl
              obtain ⟨W1, hW1⟩ : ∃ W1, W1 = ((wo.alloc (.cells (Array.replicate j (Value.int .u32 0)) 24)).setCell ⟨g, i, none⟩ (.slice (some ⟨wo.heap.size, 0, none⟩) j j)).drew := ⟨_, rfl⟩
              have HP : Hid (Mp W1 g (bs ++ [wo.heap.size]) j j fun a c => if a < i then inN p M a c else 0) := by rw [hW1]; exact hp.drewN 1
              have HK : Hid (Blk W1 gw 59 [.int .u64 (p : Int), .slice (some ⟨g, 0, none⟩) j j, .slice none 0 0, .slice none 0 0]) := by rw [hW1]; exact hbk1
              have HB2 : Hid (Below w.heap.size w W1) := by rw [hW1]; exact hb2.trans ((Dr.refl _).drew.below _)
              have Hlen : Hid ((bs ++ [wo.heap.size]).length = i + 1) := by show _ = _; simp [hbl]
              have Hgi : Hid (∀ h, (bs ++ [wo.heap.size])[i]'h = wo.heap.size) := fun h => by rw [List.getElem_append_right (by omega)]; simp [hbl]
              rw [← hW1]
              obtain ⟨gb, hgb2⟩ : ∃ gb, gb = wo.heap.size := ⟨_, rfl⟩
              rw [← hgb2] at HP Hlo2 Hlen Hgi
              obtain ⟨bs2, hbs2⟩ : ∃ bs2, bs2 = bs ++ [gb] := ⟨_, rfl⟩
              rw [← hbs2] at HP Hlo2 Hlen
              have Hgi2 : Hid (∀ h, bs2[i]'h = gb) := by
                show ∀ h, bs2[i]'h = gb
                subst hbs2
                exact Hgi.out
              clear hp hbk1 hb2 hW1 hal c1 f1 d1 hgl hwl hbo hgb2 hbs2 Hgi hmp hlo hbk hbw hbl z2
              have hrw : M[i].length = j := hRl.out i hiM
              have HX : Hid (∀ k (h : k < j), ∃ (bx ox x : Nat), Ai = some ⟨bx, ox, none⟩ ∧ bx < w.heap.size ∧ w.cell? ⟨bx, ox + k, none⟩ = some (.int .u32 (x : Int)) ∧ x < 4294967296 ∧ x % p = inN p M i k) := fun k hk => by
                have hk2 : k < M[i].length := by rw [hrw]; exact hk
                obtain ⟨bx, ox, e1, e2, e3⟩ := Zr.out.at32 hk2
                exact ⟨bx, ox, _, e1, e2, e3, HD.out.at_ hiM hk2, by unfold inN; rw [en_at hiM hk2]⟩
              clear hrw Zr
              go_upto_region 19 with (fail)
              go_loopw [72] (fun kv wr => ∃ k : Nat, k ≤ j ∧ kv = .int .i64 (k : Int) ∧ Hid (Mp wr g bs2 j j fun a c => if a < i then inN p M a c else if c < k then inN p M i c else 0) ∧ Hid (Blk wr gw 59 [.int .u64 (p : Int), .slice (some ⟨g, 0, none⟩) j j, .slice none 0 0, .slice none 0 0]) ∧ Hid (Below w.heap.size w wr)) (fun kv _ => j - (intOf kv).toNat)
              case atStart => exact ⟨0, Nat.zero_le _, rfl, HP.out.congr fun a c _ _ => by simp, HK.out, HB2.out⟩
              case round =>
                obtain ⟨k, hk, rfl, hmp, hbk, hbw⟩ := hrel
                by_cases hkj : k < j
                · obtain ⟨bx, ox, x, rfl, hbx, hx, hxl, hxp⟩ := HX.out k hkj
                  have hx2 := (hbw.out.cell (p := ⟨bx, ox + k, none⟩) hbx).trans hx
                  have hil : i < bs2.length := by have := Hlen.out; omega
                  obtain ⟨c2, _⟩ := hmp.out.head hil
                  obtain ⟨c3, f3⟩ := hmp.out.cell hil hkj
                  have hpt := hmp.out.put (k := k) hil (x % p)
                  rw [Hgi2.out hil] at c2 c3 f3 hpt
                  have hpt2 := hpt.congr (F := fun a c => if a < i then inN p M a c else if c < k + 1 then inN p M i c else 0) fun a c ha hc => by
                    have := Hlen.out
                    by_cases e1 : a = i
                    · subst e1
                      by_cases e2 : c = k
                      · subst e2; simp [hxp]
                      · by_cases e3 : c < k
                        · simp [e2, e3, show c < k + 1 by omega]
                        · simp [e2, e3, show ¬ c < k + 1 by omega]
                    · simp [e1, show a < i by omega]
                  have Hpt := Lib.hid hpt2
                  have hgl2 := hmp.out.top.lt
                  have hgbl : gb < wr.heap.size := by have := hmp.out.lt _ (.inr (List.getElem_mem hil)); rw [Hgi2.out hil] at this; exact this
                  have hgbw : gw < gb := Hlo2.out gb (by rw [← Hgi2.out hil]; exact List.getElem_mem hil)
                  have hwl2 := hbk.out.lt
                  have d1 := hbk.out.cell 1
                  simp only [List.getElem?_cons_zero, List.getElem?_cons_succ] at d1
                  obtain ⟨y, hy⟩ : ∃ y, y = x % p := ⟨_, rfl⟩
                  have t5 : (x : Int) % (p : Int) = (y : Int) := by rw [hy]; simp
                  have t6 : ((p : Int) == 0) = false := by simp; omega
                  rw [← hy] at Hpt
                  have Hbk2 : Hid (Blk (wr.setCell ⟨gb, k, none⟩ (.int .u32 (y : Int))) gw 59 [.int .u64 (p : Int), .slice (some ⟨g, 0, none⟩) j j, .slice none 0 0, .slice none 0 0]) := hbk.out.far (p := ⟨gb, k, none⟩) (show gw ≠ gb by omega) _
                  have Hbw2 : Hid (Below w.heap.size w (wr.setCell ⟨gb, k, none⟩ (.int .u32 (y : Int)))) := hbw.out.trans ((Ch.setCell (Ch.refl gb _) _ _).below (by have := Hgw.out; omega))
                  clear hx hpt hpt2 hy hil hxp
                  go_upto_region 21 with (fail)
                  go_region
                  all_goals go_wp2_with fail
                  all_goals go_roundw
                  all_goals first
                    | exact ⟨k + 1, by omega, by go_num, Hpt.out.drewN 1, Hbk2.out, Hbw2.out.trans ((Dr.refl _).drew.below _)⟩
                    | (simp [intOf] <;> omega)
                · obtain rfl : k = j := by omega
                  have Hmp2 : Hid (Mp wr g bs2 k k (inN p M)) := hmp.out.congr fun a c ha hc => by
                    have := Hlen.out
                    by_cases e1 : a < i
                    · simp [e1]
                    · obtain rfl : a = i := by omega
                      simp [hc]
                  go_wp2
                  go_roundw
                  case rel => exact ⟨i + 1, bs2, by omega, by go_num, Hlen.out, Hmp2.out, Hlo2.out, hbk.out, hbw.out⟩
                  case measure => simp [intOf]; omega
            · obtain rfl : i = j := by omega
              have Hws : Hid (WS wo w.heap.size gw p i false ⟨inN p M, zrN, zrN⟩) := by
                have h1 := Hg.out
                have h2 := Hgw.out
                refine ⟨g, 0, 0, bs, [], [], hbk.out, hmp.out.done hbl, hbl, .inl rfl, rfl, .inl rfl, rfl, by omega, fun x hx => ?_, fun x hx => absurd hx List.not_mem_nil, fun x hx => absurd hx List.not_mem_nil, fun hm => ?_, List.not_mem_nil, List.not_mem_nil, fun x _ => List.not_mem_nil, fun x _ => List.not_mem_nil, fun x hx => absurd hx List.not_mem_nil, fun a c _ _ => Nat.mod_lt _ hp0, fun a c _ _ => hp0, fun a c _ _ => hp0⟩
                · rcases List.mem_cons.1 hx with rfl | hx
                  · omega
                  · have := hlo.out x hx; omega
                · rcases List.mem_cons.1 hm with h | hm
                  · omega
                  · have := hlo.out _ hm; omega
              go_wp2
              go_ret2
              exact .inr ⟨hft.out, gw, rfl, Hws.out, hbw.out⟩
      · have hft : Hid (Ft p M 3) := .inr ⟨HPR.out, .inr ⟨hRect.out, .inl ⟨rfl, .inr (by rw [← Hn.out, ← Hq.out]; exact hnq)⟩⟩⟩
        have t1 : ((j : Int) != (q : Int)) = true := by simp; omega
        clear hnq
        go_wp2
        go_ret2
        exact .inl ⟨3, hft.out, by decide, rfl, Below.refl _ _⟩
end
section
open Go.RowKit

theorem begun_all (A : Option Addr) (c p : Nat) (M : List (List Nat)) (w : World) (hp : p < 4294967296) (hw : Bases w) (hG : 0 < w.heap.size) (hr : RdM w w.heap.size A M) (hm : M.length ≤ 1048576) (hd : DigM 4294967296 M) :
    Calls Tryd.prog 22 #[.slice A M.length c, .int .u32 (p : Int)] w fun e w' => (∃ k : Nat, Ft p M k ∧ k ≠ 0 ∧ e = .returned (.tuple #[.pointer none, .int .i64 (k : Int)]) ∧ Below w.heap.size w w') ∨ (Ft p M 0 ∧ ∃ gw, e = .returned (.tuple #[.pointer (some ⟨gw, 0, none⟩), .int .i64 0]) ∧ WS w' w.heap.size gw p M.length false ⟨inN p M, zrN, zrN⟩ ∧ Below w.heap.size w w') := by
  by_cases hpr : Pr p
  · by_cases hM : M = []
    · subst hM
      refine (begun_nil A c p w hpr hp hw).mono fun _ _ h => .inl ⟨3, .inr ⟨hpr, .inr ⟨fun r hr => absurd hr List.not_mem_nil, .inl ⟨rfl, .inl rfl⟩⟩⟩, by decide, h.1, h.2⟩
    · exact begun_any A c p M w hpr hp hw hG hr hM hm hd
  · exact (begun_no A M.length c p w hpr hp hw).mono fun _ _ h => .inl ⟨40, .inl ⟨rfl, hpr⟩, by decide, h.1, h.2⟩
theorem Ft.some {p : Nat} {M : List (List Nat)} (h : Ft p M 0) : Pr p ∧ Rect M ∧ 0 < M.length ∧ M.length = cols M ∧ M.length ≤ 24 := by
  rcases h with ⟨h, _⟩ | ⟨h1, ⟨h, _⟩ | ⟨h2, ⟨h, _⟩ | ⟨h3, h4, ⟨h, _⟩ | ⟨_, h5⟩⟩⟩⟩
  · omega
  · omega
  · omega
  · omega
  · exact ⟨h1, h2, h3, h4, h5⟩
theorem Lt.idN {p m n : Nat} (hp : 1 < p) : Lt p m n idN := fun a b _ _ => by unfold Go.Proofs.YtbafiahmcfkboaaDoor.idN; split <;> omega
/-- The transform begun. -/
theorem WS.up {w0 w2 : World} {B gw p n gs gr : Nat} {bs br : List Nat} {H S0 R0 : Mf} (hp : 1 < p) (h : WS w0 B gw p n false ⟨H, S0, R0⟩) (hB : B ≤ w0.heap.size) (hb : Below w0.heap.size w0 w2) (hs : Mt w2 gs bs n idN) (ls : bs.length = n) (hr : Mt w2 gr br n idN) (lr : br.length = n) {U : Nat} (hU : w0.heap.size ≤ U) (h1 : ∀ x ∈ gs :: bs, w0.heap.size ≤ x ∧ x < U) (h2 : ∀ x ∈ gr :: br, U ≤ x) :
    WS ((w2.setCell ⟨gw, 2, none⟩ (.slice (some ⟨gs, 0, none⟩) n n)).setCell ⟨gw, 3, none⟩ (.slice (some ⟨gr, 0, none⟩) n n)) B gw p n true ⟨H, idN, idN⟩ := by
  obtain ⟨gh, gs0, gr0, bh, bs0, br0, h⟩ := h
  have hgw := h.blk.lt
  have hlt : ∀ x ∈ gh :: bh, x < w0.heap.size := fun x hx => h.h.lt x (by simpa using hx)
  have far : ∀ {g2 n2 : Nat} {b2 : List Nat} {E2 : Mf}, Mt w2 g2 b2 n2 E2 → gw ∉ g2 :: b2 → Mt ((w2.setCell ⟨gw, 2, none⟩ (.slice (some ⟨gs, 0, none⟩) n n)).setCell ⟨gw, 3, none⟩ (.slice (some ⟨gr, 0, none⟩) n n)) g2 b2 n2 E2 := fun h2 hn =>
    h2.md (L := [gw]) (((Md.refl _ _).setCell List.mem_cons_self _ _).setCell List.mem_cons_self _ _) fun k hk e => hn (by rw [List.mem_singleton.1 e] at hk; simpa using hk)
  have n1 : gw ∉ gs :: bs := fun hm => by have := (h1 _ hm).1; omega
  have n2 : gw ∉ gr :: br := fun hm => by have := h2 _ hm; omega
  refine ⟨gh, gs, gr, bh, bs, br, ?_, far (h.h.below hb) h.d1, h.hl, .inr ⟨rfl, far hs n1⟩, ls, .inr ⟨rfl, far hr n2⟩, lr, h.low, h.loh, fun x hx => ?_, fun x hx => ?_, h.d1, n1, n2, fun x hx hm => ?_, fun x hx hm => ?_, fun x hx hm => ?_, h.bH, .idN hp, .idN hp⟩
  · have hk := ((h.blk.below hb hgw).set_ 2 (.slice (some ⟨gs, 0, none⟩) n n)).set_ 3 (.slice (some ⟨gr, 0, none⟩) n n)
    exact hk
  · have := (h1 x hx).1; omega
  · have := h2 x hx; omega
  · have := hlt x hx; have := (h1 x hm).1; omega
  · have := hlt x hx; have := h2 x hm; omega
  · have := (h1 x hx).2; have := h2 x hm; omega

theorem begun_ok (A : Option Addr) (c p : Nat) (M : List (List Nat)) (w : World) (hp : p < 4294967296) (hw : Bases w) (hG : 0 < w.heap.size) (hr : RdM w w.heap.size A M) (hm : M.length ≤ 1048576) (hd : DigM 4294967296 M) (hk : Ft p M 0) :
    Calls Tryd.prog 22 #[.slice A M.length c, .int .u32 (p : Int)] w fun e w' => ∃ gw, e = .returned (.tuple #[.pointer (some ⟨gw, 0, none⟩), .int .i64 0]) ∧ WS w' w.heap.size gw p M.length false ⟨inN p M, zrN, zrN⟩ ∧ Below w.heap.size w w' := (begun_all A c p M w hp hw hG hr hm hd).mono fun e w' h => by
  rcases h with ⟨l, h1, h2, _⟩ | ⟨_, h2⟩
  · exact absurd (h1.unique hk) h2
  · exact h2

set_option maxRecDepth 20000 in
set_option maxHeartbeats 3200000 in
theorem hReduce_ok (A : Option Addr) (c p : Nat) (M : List (List Nat)) (w : World) (hp : p < 4294967296) (hw : Bases w) (hG : 0 < w.heap.size) (hr : RdM w w.heap.size A M) (hm : M.length ≤ 1048576) (hd : DigM 4294967296 M) (hk : Ft p M 0) :
    Calls Tryd.prog 16 #[.slice A M.length c, .int .u32 (p : Int)] w fun e w' => ∃ gh gs gr bh bs br, e = .returned (.tuple #[.slice (some ⟨gh, 0, none⟩) M.length M.length, .slice (some ⟨gs, 0, none⟩) M.length M.length, .slice (some ⟨gr, 0, none⟩) M.length M.length, .int .i64 0]) ∧ Mt w' gh bh M.length (rdS p M.length (M.length - 1) 0 ⟨inN p M, idN, idN⟩).h ∧ bh.length = M.length ∧ Mt w' gs bs M.length (rdS p M.length (M.length - 1) 0 ⟨inN p M, idN, idN⟩).s ∧ bs.length = M.length ∧ Mt w' gr br M.length (rdS p M.length (M.length - 1) 0 ⟨inN p M, idN, idN⟩).r ∧ br.length = M.length ∧ Below w.heap.size w w' := by
  have HB := Lib.hid (begun_ok A c p M w hp hw hG hr hm hd hk)
  have HBS : Hid (∀ W, Below w.heap.size w W → Bases W) := fun W hW => ⟨(hW.cell (p := ⟨_, 0, none⟩) hG).trans hw.1, (hW.cell (p := ⟨_, 1, none⟩) hG).trans hw.2.1, (hW.cell (p := ⟨_, 2, none⟩) hG).trans hw.2.2⟩
  obtain ⟨hpr, _, hn0, _, hn24⟩ := hk.some
  obtain ⟨n, hn⟩ : ∃ n, n = M.length := ⟨_, rfl⟩
  rw [← hn] at HB hn0 hn24 ⊢
  obtain ⟨x0, hx0⟩ : ∃ x0, x0 = (⟨inN p M, idN, idN⟩ : St) := ⟨_, rfl⟩
  rw [← hx0]
  have hp1 : 1 < p := hpr.two
  have HID : Hid (∀ W, Calls Tryd.prog 29 #[.int .i64 (n : Int)] W fun e w' => ∃ g bs, e = .returned (.slice (some ⟨g, 0, none⟩) n n) ∧ Mt w' g bs n idN ∧ bs.length = n ∧ (∀ x ∈ g :: bs, W.heap.size ≤ x ∧ x < w'.heap.size) ∧ Below W.heap.size W w') := fun W => identity_any n W (by omega)
  have HUP : Hid (∀ (w0 w2 : World) gw gs gr bs br U, WS w0 w.heap.size gw p n false ⟨inN p M, zrN, zrN⟩ → w.heap.size ≤ w0.heap.size → Below w0.heap.size w0 w2 → Mt w2 gs bs n idN → bs.length = n → Mt w2 gr br n idN → br.length = n → w0.heap.size ≤ U → (∀ x ∈ gs :: bs, w0.heap.size ≤ x ∧ x < U) → (∀ x ∈ gr :: br, U ≤ x) → WS ((w2.setCell ⟨gw, 2, none⟩ (.slice (some ⟨gs, 0, none⟩) n n)).setCell ⟨gw, 3, none⟩ (.slice (some ⟨gr, 0, none⟩) n n)) w.heap.size gw p n true x0) := fun w0 w2 gw gs gr bs br U h1 h2 h3 h4 h5 h6 h7 h8 h9 h10 => by rw [hx0]; exact h1.up hp1 h2 h3 h4 h5 h6 h7 h8 h9 h10
  have HRD : Hid (∀ W gw, WS W w.heap.size gw p n true x0 → Below w.heap.size w W → Calls Tryd.prog 23 #[.pointer (some ⟨gw, 0, none⟩)] W fun e w' => e = .returned (.tuple #[]) ∧ WS w' w.heap.size gw p n true (rdS p n (n - 1) 0 x0) ∧ Below w.heap.size W w') := fun W gw h1 h2 => reduce_any W w.heap.size gw p n true x0 hpr hp (HBS.out W h2) hG h1 h2.size hn0 (by omega)
  clear hw hr hm hd hn hG hx0 hk hpr hp1
  go_enter Tryd.func16, Tryd.ntmps16
  go_upto_region 4 with (go_at_call 22; (with_reducible refine HB.out.mono ?_); rintro _ w1 ⟨gw, rfl, hws, hb1⟩; have HW1 := Lib.hid hws; have Hb1 := Lib.hid hb1; obtain ⟨hgwB, hgw, _⟩ := hws.lt; clear hws hb1)
  have hk1 : Hid (∃ v, Blk w1 gw 59 [.int .u64 (p : Int), v, .slice none 0 0, .slice none 0 0]) := by
    obtain ⟨_, _, _, _, _, _, h⟩ := HW1.out
    exact ⟨_, h.blk⟩
  obtain ⟨v1, hk1⟩ := hk1.out
  have Hk1 := Lib.hid hk1
  clear hk1
  go_upto_region 5 with (first
    | (go_at_call 29; (with_reducible refine (HID.out w1).mono ?_); rintro _ w2 ⟨gs, bs, rfl, hs, ls, hsb, hb2⟩; have Hs := Lib.hid hs; have Ls := Lib.hid ls; have Hsb := Lib.hid hsb; have Hb2 := Lib.hid hb2; clear hs ls hsb hb2)
    | (go_at_call 29; (with_reducible refine (HID.out w2).mono ?_); rintro _ w3 ⟨gr, br, rfl, hs, ls, hsb, hb3⟩; have Hr := Lib.hid hs; have Lr := Lib.hid ls; have Hrb := Lib.hid hsb; have Hb3 := Lib.hid hb3; have Hk3 := Lib.hid ((Hk1.out.below (Hb2.out.trans (hb3.mono Hb2.out.size)) Hk1.out.lt)); have k2 := Hk3.out.cell 2; have k3 := Hk3.out.cell 3; have g2 := Hk3.out.frozen 2; have g3 := Hk3.out.frozen 3; simp only [List.getElem?_cons_zero, List.getElem?_cons_succ] at k2 k3; clear hs ls hsb hb3))
  have HW4 : Hid (WS ((w3.setCell ⟨gw, 2, none⟩ (.slice (some ⟨gs, 0, none⟩) n n)).setCell ⟨gw, 3, none⟩ (.slice (some ⟨gr, 0, none⟩) n n)) w.heap.size gw p n true x0) := HUP.out w1 w3 gw gs gr bs br w2.heap.size HW1.out Hb1.out.size (Hb2.out.trans (Hb3.out.mono Hb2.out.size)) (Hs.out.below Hb3.out) Ls.out Hr.out Lr.out Hb2.out.size Hsb.out (fun x hx => (Hrb.out x hx).1)
  have HB4 : Hid (Below w.heap.size w ((w3.setCell ⟨gw, 2, none⟩ (.slice (some ⟨gs, 0, none⟩) n n)).setCell ⟨gw, 3, none⟩ (.slice (some ⟨gr, 0, none⟩) n n))) := ((Hb1.out.trans (Hb2.out.mono Hb1.out.size)).trans (Hb3.out.mono (Nat.le_trans Hb1.out.size Hb2.out.size))).trans ((((Ch.refl gw _).setCell _ _).setCell _ _).below hgwB)
  obtain ⟨w4, hw4⟩ : ∃ w4, w4 = (w3.setCell ⟨gw, 2, none⟩ (.slice (some ⟨gs, 0, none⟩) n n)).setCell ⟨gw, 3, none⟩ (.slice (some ⟨gr, 0, none⟩) n n) := ⟨_, rfl⟩
  rw [← hw4] at HW4 HB4 ⊢
  clear hw4 k2 k3 g2 g3
  go_upto_region 6 with (go_at_call 23; (with_reducible refine (HRD.out w4 gw HW4.out HB4.out).mono ?_); rintro _ w5 ⟨rfl, hws, hb5⟩; obtain ⟨gh', gs', gr', bh', bs', br', hws⟩ := hws; have HW5 := Lib.hid hws; have Hb5 := Lib.hid hb5; obtain ⟨e0, e1, e2, e3⟩ := hws.cellsT; have hgw5 := hws.blk.lt; clear hws hb5)
  go_region
  all_goals go_wp2_with fail
  all_goals refine bodyPost_ret (v := .tuple #[.slice (some ⟨gh', 0, none⟩) n n, .slice (some ⟨gs', 0, none⟩) n n, .slice (some ⟨gr', 0, none⟩) n n, .int .i64 0]) (by simp [results, Tryd.results16, go_sem]) rfl ?_
  all_goals exact ⟨gh', gs', gr', bh', bs', br', rfl, HW5.out.h.drewN 1, HW5.out.hl, (HW5.out.s.mt (i := 0) (by rw [show bs'.length = n from HW5.out.sl]; exact hn0)).2.drewN 1, HW5.out.sl, (HW5.out.r.mt (i := 0) (by rw [show br'.length = n from HW5.out.rl]; exact hn0)).2.drewN 1, HW5.out.rl, (HB4.out.trans Hb5.out).trans ((Dr.refl _).drew.below _)⟩
end
section
open Go.RowKit

set_option maxHeartbeats 1600000 in
theorem rprime_any (p : Nat) (b : Bool) (hb : b = true ↔ Pr p) (hp : p < 4294967296) (w : World) :
    Calls Tryd.prog 20 #[.int .u32 (p : Int)] w fun e w' => e = .returned (.bool b) ∧ w = w' := by
  have Hb := Lib.hid hb
  clear hb
  by_cases h2 : p < 2
  · have hbf : b = false := by
      cases b
      · rfl
      · have := (Hb.out.1 rfl).two; omega
    subst hbf
    go_enter Tryd.func20, Tryd.ntmps20
    go_wp2
    go_ret
    exact ⟨rfl, rfl⟩
  · go_enter Tryd.func20, Tryd.ntmps20
    go_wp2
    go_loop [3] (fun v => ∃ d : Nat, v = .int .u64 (d : Int) ∧ 2 ≤ d ∧ d ≤ 65537 ∧ Hid (NoDiv p d)) (fun v => 65538 - (intOf v).toNat)
    case atStart => exact ⟨2, rfl, by omega, by omega, NoDiv.two p⟩
    case round =>
      obtain ⟨d, rfl, hd2, hd, hno⟩ := hrel
      obtain ⟨s, hs⟩ : ∃ s, s = d * d := ⟨_, rfl⟩
      have hsl : s ≤ 65537 * 65537 := by rw [hs]; exact Nat.mul_le_mul hd hd
      have t1 : (d : Int) * (d : Int) = (s : Int) := by rw [hs]; simp
      have Hs := Lib.hid hs
      clear hs
      by_cases hsp : s ≤ p
      · have hdp : d < p := by
          have h := Hs.out
          rcases Nat.lt_or_ge d p with h3 | h3
          · exact h3
          · have h4 := Nat.mul_le_mul_left d hd2
            omega
        have hd3 : d ≤ 65536 := by
          rcases Nat.lt_or_ge 65536 d with h3 | h3
          · obtain rfl : d = 65537 := by omega
            have := Hs.out
            omega
          · exact h3
        have t3 : ((d : Int) == 0) = false := by simp; omega
        by_cases h0 : p % d = 0
        · have t2 : (p : Int) % (d : Int) = 0 := by rw [show (p : Int) % (d : Int) = ((p % d : Nat) : Int) from by simp, h0]; rfl
          have hbf : b = false := by
            cases b
            · rfl
            · exact absurd h0 ((Hb.out.1 rfl).none d hd2 hdp)
          subst hbf
          clear h0
          go_wp2
          go_ret
          exact ⟨rfl, rfl⟩
        · obtain ⟨r, hr⟩ : ∃ r, r = p % d := ⟨_, rfl⟩
          have t2 : (p : Int) % (d : Int) = (r : Int) := by rw [hr]; simp
          have t4 : ((r : Int) == 0) = false := by simp; omega
          have hno2 : Hid (NoDiv p (d + 1)) := hno.out.succ h0
          clear h0 hr
          go_wp2
          go_round
          case rel => exact ⟨d + 1, by go_num, by omega, by omega, hno2⟩
          case measure => simp [intOf]; omega
      · have hbt : b = true := Hb.out.2 (pr_iff_least.2 (hno.out.ends (by have := Hs.out; omega) (by omega)))
        subst hbt
        go_wp2
        go_ret
        exact ⟨rfl, rfl⟩

set_option maxRecDepth 20000 in
set_option maxHeartbeats 1600000 in
theorem fits_any (A : Option Addr) (c p : Nat) (M : List (List Nat)) (w : World) (B : Nat) (hp : p < 4294967296) (hr : RdM w B A M) (hm : M.length ≤ 1048576) (k : Nat) (hk : Ft p M k) :
    Calls Tryd.prog 10 #[.slice A M.length c, .int .u32 (p : Int)] w fun e w' => e = .returned (.int .i64 (k : Int)) ∧ w = w' := by
  by_cases hpr : Pr p
  · have HP := Lib.hid (fun W => rprime_any p true ⟨fun _ => hpr, fun _ => rfl⟩ hp W)
    have HK := Lib.hid hk
    have HPR : Hid (Pr p) := hpr
    by_cases hM : M = []
    · subst hM
      obtain rfl : k = 3 := HK.out.unique (.inr ⟨hpr, .inr ⟨fun r hr => absurd hr List.not_mem_nil, .inl ⟨rfl, .inl rfl⟩⟩⟩)
      clear hk hpr
      go_enter Tryd.func10, Tryd.ntmps10
      go_upto_region 4 with (go_at_call 20; (with_reducible refine (HP.out _).mono ?_); rintro _ _ ⟨rfl, rfl⟩)
      go_loop [12] (fun v => v = .int .i64 0) (fun _ => 0)
      case atStart => rfl
      case round =>
        subst hrel
        go_wp2
        go_ret
        exact ⟨rfl, rfl⟩
    · have hl0 : 0 < M.length := List.length_pos_iff.2 hM
      have hc0 := cols_eq M hl0
      obtain ⟨b, off, rfl, hb, hcells⟩ := hr hM
      have HC : Hid (∀ i (h : i < M.length), ∃ Ai ci, w.cell? ⟨b, off + i, none⟩ = some (.slice Ai M[i].length ci)) := fun i h => by
        obtain ⟨Ai, ci, a1, _⟩ := hcells i h
        exact ⟨Ai, ci, a1⟩
      obtain ⟨A0, c0, z0⟩ := HC.out 0 hl0
      rw [← hc0, Nat.add_zero] at z0
      obtain ⟨n, hn⟩ : ∃ n, n = M.length := ⟨_, rfl⟩
      obtain ⟨q, hq⟩ : ∃ q, q = cols M := ⟨_, rfl⟩
      have Hn := Lib.hid hn
      have Hq := Lib.hid hq
      rw [← hn] at hl0 hm ⊢
      rw [← hq] at z0
      clear hpr hr hcells hM hn hq hc0 hk
      go_enter Tryd.func10, Tryd.ntmps10
      go_upto_region 4 with (go_at_call 20; (with_reducible refine (HP.out _).mono ?_); rintro _ _ ⟨rfl, rfl⟩)
      go_loop [12] (fun v => ∃ j : Nat, j ≤ n ∧ v = .int .i64 (j : Int) ∧ Hid (∀ i (h : i < M.length), i < j → M[i].length = q)) (fun v => n - (intOf v).toNat)
      case atStart => exact ⟨0, Nat.zero_le _, rfl, fun i _ h => absurd h (Nat.not_lt_zero _)⟩
      case round =>
        obtain ⟨j, hj, rfl, hrow⟩ := hrel
        by_cases hjn : j < n
        · have hjM : j < M.length := by rw [← Hn.out]; exact hjn
          obtain ⟨Aj, cj, z1⟩ := HC.out j hjM
          obtain ⟨lj, hlj⟩ : ∃ lj, lj = M[j].length := ⟨_, rfl⟩
          rw [← hlj] at z1
          have Hlj := Lib.hid hlj
          clear hlj
          by_cases hlq : lj = q
          · have hrow2 : Hid (∀ i (h : i < M.length), i < j + 1 → M[i].length = q) := fun i h h2 => by
              by_cases e : i = j
              · subst e; rw [← Hlj.out]; exact hlq
              · exact hrow.out i h (by omega)
            subst hlq
            have t1 : ((lj : Int) != (lj : Int)) = false := by simp
            go_wp2
            go_round
            case rel => exact ⟨j + 1, by omega, by go_num, hrow2⟩
            case measure => simp [intOf]; omega
          · obtain rfl : k = 2 := HK.out.unique (.inr ⟨HPR.out, .inl ⟨rfl, fun hr => hlq (by rw [Hlj.out, Hq.out]; exact hr.at_ j hjM)⟩⟩)
            have t1 : ((lj : Int) != (q : Int)) = true := by simp; omega
            clear hlq
            go_wp2
            go_ret
            exact ⟨rfl, rfl⟩
        · have hje : j = n := by omega
          subst hje
          have hRect : Hid (Rect M) := rect_of fun i hi => by rw [← Hq.out]; exact hrow.out i hi (by rw [Hn.out]; exact hi)
          have t0 : ((j : Int) == 0) = false := by simp; omega
          by_cases hnq : j = q
          · subst hnq
            have t1 : ((j : Int) != (j : Int)) = false := by simp
            by_cases h24 : 24 < j
            · obtain rfl : k = 4 := HK.out.unique (.inr ⟨HPR.out, .inr ⟨hRect.out, .inr ⟨by rw [← Hn.out]; omega, by rw [← Hn.out, ← Hq.out], .inl ⟨rfl, by rw [← Hn.out]; exact h24⟩⟩⟩⟩)
              go_wp2
              go_ret
              exact ⟨rfl, rfl⟩
            · obtain rfl : k = 0 := HK.out.unique (.inr ⟨HPR.out, .inr ⟨hRect.out, .inr ⟨by rw [← Hn.out]; omega, by rw [← Hn.out, ← Hq.out], .inr ⟨rfl, by rw [← Hn.out]; omega⟩⟩⟩⟩)
              go_wp2
              go_ret
              exact ⟨rfl, rfl⟩
          · obtain rfl : k = 3 := HK.out.unique (.inr ⟨HPR.out, .inr ⟨hRect.out, .inl ⟨rfl, .inr (by rw [← Hn.out, ← Hq.out]; exact hnq)⟩⟩⟩)
            have t1 : ((j : Int) != (q : Int)) = true := by simp; omega
            clear hnq
            go_wp2
            go_ret
            exact ⟨rfl, rfl⟩
  · obtain rfl : k = 40 := hk.unique (.inl ⟨rfl, hpr⟩)
    have HP := Lib.hid (fun W => rprime_any p false ⟨fun e => absurd e (by decide), fun h => absurd h hpr⟩ hp W)
    clear hk hpr hr
    go_enter Tryd.func10, Tryd.ntmps10
    go_wp2_with (go_at_call 20; (with_reducible refine (HP.out _).mono ?_); rintro _ _ ⟨rfl, rfl⟩)
    go_ret
    exact ⟨rfl, rfl⟩

set_option maxHeartbeats 1600000 in
theorem words_any (A1 A2 : Option Addr) (c1 c2 : Nat) (xs : List Nat) (w : World) (B : Nat) (h1 : Rd w B A1 (u32s xs)) (h2 : Rd w B A2 (u32s xs)) (hm : xs.length ≤ 281474976710656) :
    Calls Tryd.prog 14 #[.slice A1 xs.length c1, .slice A2 xs.length c2] w fun e w' => e = .returned (.bool true) ∧ Dr w w' := by
  have H1 := Lib.hid h1
  have H2 := Lib.hid h2
  have t0 : ((xs.length : Int) != (xs.length : Int)) = false := by simp
  obtain ⟨n, hn⟩ : ∃ n, n = xs.length := ⟨_, rfl⟩
  rw [← hn] at t0 hm ⊢
  have Hn := Lib.hid hn
  clear h1 h2 hn
  go_enter Tryd.func14, Tryd.ntmps14
  go_wp2_with fail
  go_loopw [13] (fun v wr => ∃ j : Nat, j ≤ n ∧ v = .int .i64 (j : Int) ∧ Hid (Dr w wr)) (fun v _ => n - (intOf v).toNat)
  case atStart => exact ⟨0, Nat.zero_le _, rfl, Dr.refl _⟩
  case round =>
    obtain ⟨j, hj, rfl, hdr⟩ := hrel
    by_cases hjn : j < n
    · have hjx : j < xs.length := by rw [← Hn.out]; exact hjn
      obtain ⟨b1, o1, rfl, _, e1⟩ := (H1.out.dr hdr.out).at32 hjx
      obtain ⟨b2, o2, rfl, _, e2⟩ := (H2.out.dr hdr.out).at32 hjx
      obtain ⟨x, hx⟩ : ∃ x, x = xs[j] := ⟨_, rfl⟩
      rw [← hx] at e1 e2
      have t1 : ((x : Int) != (x : Int)) = false := by simp
      clear hx
      go_upto_region 6 with (fail)
      go_region
      all_goals go_wp2_with fail
      all_goals go_roundw
      all_goals first
        | exact ⟨j + 1, by omega, by go_num, hdr.out.drew⟩
        | (simp [intOf] <;> omega)
    · obtain rfl : j = n := by omega
      go_wp2
      go_ret
      exact ⟨rfl, hdr.out⟩
end
end Go.Proofs.YtbafiahmcfkboaaDoor
