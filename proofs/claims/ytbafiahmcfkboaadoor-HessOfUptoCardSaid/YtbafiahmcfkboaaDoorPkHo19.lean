/- Rows of integers; the contract of hess.Of, over a contract of zint.Mod. Conditions: bases reads 2, 7, 61; the sizes. -/
import Derived.Test.YtbafiahmcfkboaaDoorPkHo18
namespace Go.Proofs.YtbafiahmcfkboaaDoor
open Go.RowKit

/-- An integer as it lies in a row: its sign, its limbs' slice, what it is. -/
structure Ie where
  g : Bool
  A : Option Addr
  n : Nat
  c : Nat
  z : Int
instance : Inhabited Ie := ⟨⟨false, none, 0, 0, 0⟩⟩
/-- Rows of integers read so. -/
def RZ (ok : World → Ie → Prop) (w : World) (A : Option Addr) (M : List (List Ie)) : Prop :=
  M ≠ [] → ∃ b off, A = some ⟨b, off, none⟩ ∧ b < w.heap.size ∧ ∀ i (h : i < M.length), ∃ Ai ci, w.cell? ⟨b, off + i, none⟩ = some (.slice Ai M[i].length ci) ∧
    ∀ k (h2 : k < M[i].length), ∃ b2 o2, Ai = some ⟨b2, o2, none⟩ ∧ b2 < w.heap.size ∧ w.cell? ⟨b2, o2 + k * 2, none⟩ = some (.bool M[i][k].g) ∧ w.cell? ⟨b2, o2 + k * 2 + 1, none⟩ = some (.slice M[i][k].A M[i][k].n M[i][k].c) ∧ ok w M[i][k]
theorem RZ.below {ok : World → Ie → Prop} {w w' : World} {A : Option Addr} {M : List (List Ie)} (hok : ∀ W W' e, ok W e → Below W.heap.size W W' → ok W' e) (h : RZ ok w A M) (hb : Below w.heap.size w w') : RZ ok w' A M := fun hn => by
  obtain ⟨b, off, e, hlt, h2⟩ := h hn
  refine ⟨b, off, e, Nat.lt_of_lt_of_le hlt hb.size, fun i hi => ?_⟩
  obtain ⟨Ai, ci, h3, h4⟩ := h2 i hi
  refine ⟨Ai, ci, (hb.cell (p := ⟨b, _, none⟩) hlt).trans h3, fun k hk => ?_⟩
  obtain ⟨b2, o2, e2, hl2, h5, h6, h7⟩ := h4 k hk
  exact ⟨b2, o2, e2, Nat.lt_of_lt_of_le hl2 hb.size, (hb.cell (p := ⟨b2, _, none⟩) hl2).trans h5, (hb.cell (p := ⟨b2, _, none⟩) hl2).trans h6, hok _ _ _ h7 hb⟩
def colZ (M : List (List Ie)) : Nat := (M.headD []).length
theorem colZ_eq (M : List (List Ie)) (h : 0 < M.length) : colZ M = M[0].length := by
  cases M with
  | nil => simp at h
  | cons _ _ => rfl
def RectZ (M : List (List Ie)) : Prop := ∀ i (h : i < M.length), M[i].length = colZ M
/-- The error's number of rows of integers and a prime; 0: they fit. -/
def Fo (p : Nat) (M : List (List Ie)) (k : Nat) : Prop := (k = 40 ∧ ¬ Pr p) ∨ (Pr p ∧ ((k = 2 ∧ ¬ RectZ M) ∨ (RectZ M ∧ ((k = 4 ∧ 0 < M.length ∧ (24 < M.length ∨ 24 < colZ M)) ∨ (k = 0 ∧ (M.length = 0 ∨ (M.length ≤ 24 ∧ colZ M ≤ 24)))))))
theorem Fo.ex (p : Nat) (M : List (List Ie)) : ∃ k, Fo p M k := by
  by_cases h1 : Pr p
  · by_cases h2 : RectZ M
    · by_cases h3 : 0 < M.length ∧ (24 < M.length ∨ 24 < colZ M)
      · exact ⟨4, .inr ⟨h1, .inr ⟨h2, .inl ⟨rfl, h3⟩⟩⟩⟩
      · exact ⟨0, .inr ⟨h1, .inr ⟨h2, .inr ⟨rfl, by omega⟩⟩⟩⟩
    · exact ⟨2, .inr ⟨h1, .inl ⟨rfl, h2⟩⟩⟩
  · exact ⟨40, .inl ⟨rfl, h1⟩⟩
theorem Fo.unique {p : Nat} {M : List (List Ie)} {k l : Nat} (h : Fo p M k) (h2 : Fo p M l) : k = l := by
  rcases h with ⟨rfl, a⟩ | ⟨a, h⟩
  · rcases h2 with ⟨rfl, _⟩ | ⟨b, _⟩
    · rfl
    · exact absurd b a
  · rcases h2 with ⟨_, b⟩ | ⟨_, h2⟩
    · exact absurd a b
    · rcases h with ⟨rfl, c⟩ | ⟨c, h⟩
      · rcases h2 with ⟨rfl, _⟩ | ⟨d, _⟩
        · rfl
        · exact absurd d c
      · rcases h2 with ⟨_, d⟩ | ⟨_, h2⟩
        · exact absurd c d
        · omega
/-- The entry modulo p. -/
def zEn (p : Nat) (M : List (List Ie)) : Mf := fun i k => (((M.getD i []).getD k default).z % (p : Int)).toNat
theorem zEn_at {p : Nat} (hp : 0 < p) {M : List (List Ie)} {i k : Nat} (hi : i < M.length) (hk : k < M[i].length) : ((zEn p M i k : Nat) : Int) = M[i][k].z % (p : Int) := by
  have e : (M.getD i []).getD k default = M[i][k] := by simp [List.getD_eq_getElem?_getD, List.getElem?_eq_getElem hi, List.getElem?_eq_getElem hk]
  unfold zEn
  rw [e]
  exact Int.toNat_of_nonneg (Int.emod_nonneg _ (by omega))
theorem setCell_alloc9 (w : World) (a : Addr) (v : Value) (o : Obj) (h : a.block < w.heap.size) : (w.setCell a v).alloc o = (w.alloc o).setCell a v := by
  unfold World.setCell World.alloc
  congr 1
  apply Array.ext_getElem?
  intro k
  simp only [Array.getElem?_push, Array.getElem?_modify, Array.size_modify]
  by_cases h1 : k = w.heap.size
  · subst h1
    simp only [if_true, if_neg (show ¬ a.block = w.heap.size by omega)]
  · simp only [if_neg h1]

theorem hOf_no (A : Option Addr) (m c p : Nat) (w : World) (hpr : ¬ Pr p) (hp : p < 4294967296) (hw : Bases w) :
    Calls Tryd.prog 19 #[.slice A m c, .int .u32 (p : Int)] w fun e w' => e = .returned (.tuple #[.slice none 0 0, .int .i64 40]) ∧ Below w.heap.size w w' := by
  have H := Lib.hid ((is_no p hpr hp w hw).mono fun _ _ h => (⟨h.1, h.2.symm⟩ : _ = _ ∧ w = _))
  clear hw hpr
  go_enter Tryd.func19, Tryd.ntmps19
  go_wp2_with (go_at_call 30; (with_reducible refine H.out.mono ?_); rintro _ _ ⟨rfl, rfl⟩)
  go_ret2
  exact ⟨rfl, Below.refl _ _⟩
set_option maxRecDepth 20000 in
theorem hOf_nil (A : Option Addr) (c p : Nat) (w : World) (hpr : Pr p) (hp : p < 4294967296) (hw : Bases w) :
    Calls Tryd.prog 19 #[.slice A 0 c, .int .u32 (p : Int)] w fun e w' => ∃ A', e = .returned (.tuple #[.slice A' 0 0, .int .i64 0]) ∧ Below w.heap.size w w' := by
  have H := Lib.hid ((is_yes p hpr hp w hw).mono fun _ _ h => (⟨h.1, h.2.symm⟩ : _ = _ ∧ w = _))
  have hmt : ∀ W : World, (Instr.makeSlice 23 (.int .i64 0) (.int .i64 0)).run Tryd.prog W = .ok (.slice (some ⟨W.heap.size, 0, none⟩) 0 0) (W.alloc (.cells #[] 29)) := fun W => mkTop 0 (by omega) W
  clear hw hpr
  go_enter Tryd.func19, Tryd.ntmps19
  go_upto_region 4 with (go_at_call 30; (with_reducible refine H.out.mono ?_); rintro _ _ ⟨rfl, rfl⟩)
  go_loop [18] (fun v => v = .int .i64 0) (fun _ => 0)
  case atStart => rfl
  case round =>
    subst hrel
    go_upto_region 13 with (fail)
    go_loopw [50] (fun v wr => v = .int .i64 0 ∧ Below w.heap.size w wr) (fun _ _ => 0)
    case atStart => exact ⟨rfl, (Below.refl _ _).alloc (Nat.le_refl _) _⟩
    case round =>
      obtain ⟨rfl, hb⟩ := hrel
      go_wp2
      go_ret2
      exact ⟨_, rfl, hb⟩

set_option maxRecDepth 20000 in
set_option maxHeartbeats 6400000 in
theorem hOf_any (ok : World → Ie → Prop) (hok : ∀ W W' e, ok W e → Below W.heap.size W W' → ok W' e) (A : Option Addr) (c p : Nat) (M : List (List Ie)) (w : World) (hpr : Pr p) (hp : p < 4294967296) (hw : Bases w) (hr : RZ ok w A M) (hM : M ≠ []) (hm : M.length ≤ 1048576) (hwid : ∀ i (h : i < M.length), M[i].length ≤ 1048576)
    (hz : ∀ W (e : Ie), ok W e → Calls Tryd.prog 31 #[.agg #[.bool e.g, .slice e.A e.n e.c], .int .u32 (p : Int)] W fun r w' => r = .returned (.tuple #[.int .u32 (e.z % (p : Int)), .int .i64 0]) ∧ Below W.heap.size W w') :
    Calls Tryd.prog 19 #[.slice A M.length c, .int .u32 (p : Int)] w fun e w' => (∃ k : Nat, Fo p M k ∧ k ≠ 0 ∧ e = .returned (.tuple #[.slice none 0 0, .int .i64 (k : Int)]) ∧ Below w.heap.size w w') ∨ (Fo p M 0 ∧ ∃ g bs, e = .returned (.tuple #[.slice (some ⟨g, 0, none⟩) M.length M.length, .int .i64 0]) ∧ Mt w' g bs (colZ M) (zEn p M) ∧ bs.length = M.length ∧ Below w.heap.size w w') := by
  have hp0 := hpr.pos
  have H := Lib.hid ((is_yes p hpr hp w hw).mono fun _ _ h => (⟨h.1, h.2.symm⟩ : _ = _ ∧ w = _))
  have hl0 : 0 < M.length := List.length_pos_iff.2 hM
  have hc0 := colZ_eq M hl0
  have HZ := Lib.hid hz
  have HOK := Lib.hid hok
  have HRZ := Lib.hid hr
  obtain ⟨b, off, rfl, hb, hcells⟩ := hr hM
  have HC : Hid (∀ i (h : i < M.length), ∃ Ai ci, w.cell? ⟨b, off + i, none⟩ = some (.slice Ai M[i].length ci)) := fun i h => by
    obtain ⟨Ai, ci, a1, _⟩ := hcells i h
    exact ⟨Ai, ci, a1⟩
  have HPR : Hid (Pr p) := hpr
  have HM : Hid (M ≠ []) := hM
  obtain ⟨A0, c0, z0⟩ := HC.out 0 hl0
  rw [← hc0, Nat.add_zero] at z0
  have hcl : colZ M ≤ 1048576 := by rw [hc0]; exact hwid 0 hl0
  obtain ⟨n, hn⟩ : ∃ n, n = M.length := ⟨_, rfl⟩
  obtain ⟨q, hq⟩ : ∃ q, q = colZ M := ⟨_, rfl⟩
  have Hn := Lib.hid hn
  have Hq := Lib.hid hq
  rw [← hn] at hl0 hm ⊢
  rw [← hq] at z0 hcl ⊢
  clear hpr hw hr hcells hM hn hq hc0 hz hok hwid
  go_enter Tryd.func19, Tryd.ntmps19
  go_upto_region 4 with (go_at_call 30; (with_reducible refine H.out.mono ?_); rintro _ _ ⟨rfl, rfl⟩)
  go_loop [18] (fun v => ∃ j : Nat, j ≤ n ∧ v = .int .i64 (j : Int) ∧ Hid (∀ i (h : i < M.length), i < j → M[i].length = q)) (fun v => n - (intOf v).toNat)
  case atStart => exact ⟨0, Nat.zero_le _, rfl, fun i _ h => absurd h (Nat.not_lt_zero _)⟩
  case round =>
    obtain ⟨j, hj, rfl, hrow⟩ := hrel
    by_cases hjn : j < n
    · have hjM : j < M.length := by rw [← Hn.out]; exact hjn
      obtain ⟨Aj, cj, z1⟩ := HC.out j hjM
      obtain ⟨lj, hlj⟩ : ∃ lj, lj = M[j].length := ⟨_, rfl⟩
      rw [← hlj] at z1
      have Hlj := Lib.hid hlj
      clear hlj
      by_cases hlq : lj = q
      · have hrow2 : Hid (∀ i (h : i < M.length), i < j + 1 → M[i].length = q) := fun i h h2 => by
          by_cases e : i = j
          · subst e; rw [← Hlj.out]; exact hlq
          · exact hrow.out i h (by omega)
        subst hlq
        have t1 : ((lj : Int) != (lj : Int)) = false := by simp
        go_wp2
        go_round
        case rel => exact ⟨j + 1, by omega, by go_num, hrow2⟩
        case measure => simp [intOf]; omega
      · have hft : Hid (Fo p M 2) := .inr ⟨HPR.out, .inl ⟨rfl, fun hr => hlq (by rw [Hlj.out, Hq.out]; exact hr j hjM)⟩⟩
        have t1 : ((lj : Int) != (q : Int)) = true := by simp; omega
        clear hlq
        go_wp2
        go_ret2
        exact .inl ⟨2, hft.out, by decide, rfl, Below.refl _ _⟩
    · have hje : j = n := by omega
      subst hje
      have hRect : Hid (RectZ M) := fun i hi => by rw [← Hq.out]; exact hrow.out i hi (by rw [Hn.out]; exact hi)
      have t00 : decide ((0 : Int) < (j : Int)) = true := by simp; omega
      by_cases hbig : 24 < j ∨ 24 < q
      · have hft : Hid (Fo p M 4) := .inr ⟨HPR.out, .inr ⟨hRect.out, .inl ⟨rfl, by rw [← Hn.out]; omega, by rw [← Hn.out, ← Hq.out]; exact hbig⟩⟩⟩
        by_cases h24 : 24 < j
        · have t1 : decide ((24 : Int) < (j : Int)) = true := by simp; omega
          clear hbig
          go_wp2
          go_ret2
          exact .inl ⟨4, hft.out, by decide, rfl, Below.refl _ _⟩
        · have t1 : decide ((24 : Int) < (j : Int)) = false := by simp; omega
          have t2 : decide ((24 : Int) < (q : Int)) = true := by simp; omega
          clear hbig
          go_wp2
          go_ret2
          exact .inl ⟨4, hft.out, by decide, rfl, Below.refl _ _⟩
      · have hj24 : j ≤ 24 := by omega
        have hq24 : q ≤ 24 := by omega
        have hft : Hid (Fo p M 0) := .inr ⟨HPR.out, .inr ⟨hRect.out, .inr ⟨rfl, .inr (by rw [← Hn.out, ← Hq.out]; exact ⟨hj24, hq24⟩)⟩⟩⟩
        have t1 : decide ((24 : Int) < (j : Int)) = false := by simp; omega
        have t2 : decide ((24 : Int) < (q : Int)) = false := by simp; omega
        have hmt := fun W => mkTop j (by omega) W
        have hmr := fun W => mkRow q (by omega) W
        have hRl : Hid (∀ i (h : i < M.length), M[i].length = q) := fun i h => hrow.out i h (by rw [Hn.out]; exact h)
        clear hbig
        go_upto_region 13 with (fail)
        have HM0 : Hid (Mp (w.alloc (.cells (Array.replicate j (Value.slice none 0 0)) 29)) w.heap.size [] q j (zEn p M)) := Mp.start w q j _
        have Hb0 : Hid (Below w.heap.size w (w.alloc (.cells (Array.replicate j (Value.slice none 0 0)) 29))) := (Below.refl _ _).alloc (Nat.le_refl _) _
        obtain ⟨W0, hW0⟩ : ∃ W0, W0 = w.alloc (.cells (Array.replicate j (Value.slice none 0 0)) 29) := ⟨_, rfl⟩
        rw [← hW0] at HM0 Hb0 ⊢
        clear hW0
        obtain ⟨g, hg⟩ : ∃ g, g = w.heap.size := ⟨_, rfl⟩
        rw [← hg] at HM0 ⊢
        have Hg := Lib.hid hg
        clear hg
        go_loopw [50] (fun iv wr => ∃ (i : Nat) (bs : List Nat), i ≤ j ∧ iv = .int .i64 (i : Int) ∧ bs.length = i ∧ Hid (Mp wr g bs q j (zEn p M)) ∧ Hid (∀ x ∈ bs, g < x) ∧ Hid (Below w.heap.size w wr)) (fun iv _ => j - (intOf iv).toNat)
        case atStart => exact ⟨0, [], Nat.zero_le _, rfl, rfl, HM0.out, fun _ h => absurd h List.not_mem_nil, Hb0.out⟩
        case round =>
          obtain ⟨wo, rfl⟩ : ∃ wo, wo = wr := ⟨_, rfl⟩
          obtain ⟨i, bs, hi, rfl, hbl, hmp, hlo, hbw⟩ := hrel
          by_cases hij : i < j
          · have hiM : i < M.length := by rw [← Hn.out]; exact hij
            obtain ⟨Ai, ci, z1⟩ := HC.out i hiM
            have z2 := (hbw.out.cell (p := ⟨b, off + i, none⟩) hb).trans z1
            rw [hRl.out i hiM] at z2
            obtain ⟨c1, f1⟩ := hmp.out.next (by omega)
            rw [hbl] at c1 f1
            have hgl := hmp.out.top.lt
            have hal : ∀ o, (wo.alloc o).cell? ⟨g, i, none⟩ = some (.slice none 0 0) ∧ (wo.alloc o).frozen? ⟨g, i, none⟩ = false := fun o => ⟨(World.cell?_alloc_past _ _ _ hgl).trans c1, (World.frozen?_alloc_past _ _ _ hgl).trans f1⟩
            have HX : Hid (∀ k (h : k < q), ∃ (bx ox : Nat) (e : Ie), Ai = some ⟨bx, ox, none⟩ ∧ bx < w.heap.size ∧ w.cell? ⟨bx, ox + k * 2, none⟩ = some (.bool e.g) ∧ w.cell? ⟨bx, ox + k * 2 + 1, none⟩ = some (.slice e.A e.n e.c) ∧ ok w e ∧ ((zEn p M i k : Nat) : Int) = e.z % (p : Int)) := fun k hk => by
              obtain ⟨b', off', e1, _, h2⟩ := HRZ.out HM.out
              obtain ⟨Ai2, ci2, e3, e4⟩ := h2 i hiM
              injection e1 with e1
              injection e1 with e5 e6
              subst e5 e6
              rw [z1] at e3
              injection e3 with e3
              injection e3 with e7 _ _
              subst e7
              have hk2 : k < M[i].length := by rw [hRl.out i hiM]; exact hk
              obtain ⟨bx, ox, g1, g2, g3, g4, g5⟩ := e4 k hk2
              exact ⟨bx, ox, M[i][k], g1, g2, g3, g4, g5, zEn_at hp0 hiM hk2⟩
            have hp : Mp ((wo.alloc (.cells (Array.replicate q (Value.int .u32 0)) 24)).setCell ⟨g, i, none⟩ (.slice (some ⟨wo.heap.size, 0, none⟩) q q)) g (bs ++ [wo.heap.size]) q j fun a c => if a < i then zEn p M a c else 0 := by
              have h1 := hmp.out.below ((Below.refl wo.heap.size wo).alloc (Nat.le_refl _) (.cells (Array.replicate q (Value.int .u32 0)) 24))
              have h2 := h1.push (b := wo.heap.size) (by omega) (by rw [← rowN_zero]; exact Blk.new_ (by simp)) (by omega) (fun hm => by have := hmp.out.lt _ (.inr hm); omega)
              rw [hbl] at h2
              exact h2
            have hb2 : Below w.heap.size w ((wo.alloc (.cells (Array.replicate q (Value.int .u32 0)) 24)).setCell ⟨g, i, none⟩ (.slice (some ⟨wo.heap.size, 0, none⟩) q q)) := (hbw.out.alloc hbw.out.size _).trans ((Ch.setCell (Ch.refl g _) _ _).below (by rw [Hg.out]; exact Nat.le_refl _))
            have Hlo2 : Hid (∀ x ∈ bs ++ [wo.heap.size], g < x) := fun x hx => by
              rcases List.mem_append.1 hx with hx | hx
              · exact hlo.out x hx
              · rw [List.mem_singleton.1 hx]; exact hgl
            go_upto_region 16 with (fail)
            rw [setCell_alloc9 _ _ _ _ (show g < wo.heap.size from hgl)]
            obtain ⟨W1, hW1⟩ : ∃ W1, W1 = ((wo.alloc (.cells (Array.replicate q (Value.int .u32 0)) 24)).setCell ⟨g, i, none⟩ (.slice (some ⟨wo.heap.size, 0, none⟩) q q)) := ⟨_, rfl⟩
            rw [← hW1] at hp hb2 ⊢
            have HP := Lib.hid hp
            have HB2 := Lib.hid hb2
            have Hlen : Hid ((bs ++ [wo.heap.size]).length = i + 1) := by show _ = _; simp [hbl]
            have Hgi : Hid (∀ h, (bs ++ [wo.heap.size])[i]'h = wo.heap.size) := fun h => by rw [List.getElem_append_right (by omega)]; simp [hbl]
            obtain ⟨gb, hgb2⟩ : ∃ gb, gb = wo.heap.size := ⟨_, rfl⟩
            rw [← hgb2] at HP Hlo2 Hlen Hgi ⊢
            obtain ⟨bs2, hbs2⟩ : ∃ bs2, bs2 = bs ++ [gb] := ⟨_, rfl⟩
            rw [← hbs2] at HP Hlo2 Hlen
            have Hgi2 : Hid (∀ h, bs2[i]'h = gb) := by
              show ∀ h, bs2[i]'h = gb
              subst hbs2
              exact Hgi.out
            have Hgb : Hid (w.heap.size ≤ gb) := by show _ ≤ _; rw [hgb2]; exact hbw.out.size
            clear hp hb2 hW1 hal c1 f1 hgl hgb2 hbs2 Hgi hmp hlo hbw hbl z2 z1
            go_upto_region 17 with (fail)
            go_loopw [63] (fun kv wr => ∃ k : Nat, k ≤ q ∧ kv = .int .i64 (k : Int) ∧ Hid (Mp wr g bs2 q j fun a c => if a < i then zEn p M a c else if c < k then zEn p M i c else 0) ∧ Hid (Below w.heap.size w wr)) (fun kv _ => q - (intOf kv).toNat)
            case atStart => exact ⟨0, Nat.zero_le _, rfl, HP.out.congr fun a c _ _ => by simp, HB2.out⟩
            case round =>
              obtain ⟨k, hk, rfl, hmp, hbw⟩ := hrel
              by_cases hkj : k < q
              · obtain ⟨bx, ox, e, rfl, hbx, hx1, hx2, hxo, hxp⟩ := HX.out k hkj
                have hx3 := (hbw.out.cell (p := ⟨bx, ox + k * 2, none⟩) hbx).trans hx1
                have hx4 := (hbw.out.cell (p := ⟨bx, ox + k * 2 + 1, none⟩) hbx).trans hx2
                have hbx2 : bx < wr.heap.size := Nat.lt_of_lt_of_le hbx hbw.out.size
                have hil : i < bs2.length := by have := Hlen.out; omega
                obtain ⟨y, hy⟩ : ∃ y, y = zEn p M i k := ⟨_, rfl⟩
                rw [← hy] at hxp
                have hylt : y < p := by
                  have h1 := Int.emod_lt_of_pos e.z (show (0 : Int) < (p : Int) by omega)
                  omega
                have HPUT : Hid (∀ W, Below wr.heap.size wr W → Mp (W.setCell ⟨gb, k, none⟩ (.int .u32 (y : Int))) g bs2 q j (fun a c => if a < i then zEn p M a c else if c < k + 1 then zEn p M i c else 0) ∧ W.cell? ⟨g, i, none⟩ = some (.slice (some ⟨gb, 0, none⟩) q q) ∧ W.cell? ⟨gb, k, none⟩ = some (.int .u32 0) ∧ W.frozen? ⟨gb, k, none⟩ = false ∧ g < W.heap.size ∧ gb < W.heap.size) := fun W hW => by
                  have h1 := hmp.out.below hW
                  have h2 := (h1.put (k := k) hil y).congr (F := fun a c => if a < i then zEn p M a c else if c < k + 1 then zEn p M i c else 0) fun a c ha hc => by
                    have := Hlen.out
                    by_cases e1 : a = i
                    · subst e1
                      by_cases e2 : c = k
                      · subst e2; simp [hy]
                      · by_cases e3 : c < k
                        · simp [e2, e3, show c < k + 1 by omega]
                        · simp [e2, e3, show ¬ c < k + 1 by omega]
                    · simp [e1, show a < i by omega]
                  obtain ⟨d1, _⟩ := h1.head hil
                  obtain ⟨d2, d3⟩ := h1.cell hil hkj
                  have d4 := h1.lt bs2[i] (.inr (List.getElem_mem hil))
                  rw [Hgi2.out hil] at h2 d1 d2 d3 d4
                  refine ⟨h2, d1, ?_, d3, h1.top.lt, d4⟩
                  rw [d2]
                  simp
                have hgg : g ≠ gb := fun e => by
                  have := Hlo2.out gb (by rw [← Hgi2.out hil]; exact List.getElem_mem hil)
                  omega
                have HPR0 := HPUT.out wr (Below.refl _ _)
                have hgbl := HPR0.2.2.2.2.2
                have hgl5 := HPR0.2.2.2.2.1
                clear HPR0
                have HZ2 : Hid (∀ W, Below w.heap.size w W → Calls Tryd.prog 31 #[.agg #[.bool e.g, .slice e.A e.n e.c], .int .u32 (p : Int)] W fun r w' => r = .returned (.tuple #[.int .u32 (y : Int), .int .i64 0]) ∧ Below W.heap.size W w') := fun W hW => by
                  rw [hxp]
                  exact HZ.out W e (HOK.out _ _ _ hxo hW)
                obtain ⟨eg, heg⟩ : ∃ v, v = e.g := ⟨_, rfl⟩
                obtain ⟨eA, heA⟩ : ∃ v, v = e.A := ⟨_, rfl⟩
                obtain ⟨en', hen⟩ : ∃ v, v = e.n := ⟨_, rfl⟩
                obtain ⟨ec, hec⟩ : ∃ v, v = e.c := ⟨_, rfl⟩
                rw [← heg] at hx1 hx3 HZ2
                rw [← heA, ← hen, ← hec] at hx2 hx4 HZ2
                clear hy hxp hxo heg heA hen hec hx1 hx2
                go_upto_region 19 with (fail)
                have hb2 : Below wr.heap.size wr (wr.alloc (.cells #[.bool eg, .slice eA en' ec] 51)) := (Below.refl _ _).alloc (Nat.le_refl _) _
                have hbk : Blk (wr.alloc (.cells #[.bool eg, .slice eA en' ec] 51)) wr.heap.size 51 [.bool eg, .slice eA en' ec] := Blk.new_ rfl
                obtain ⟨W2, hW2⟩ : ∃ W2, W2 = wr.alloc (.cells #[.bool eg, .slice eA en' ec] 51) := ⟨_, rfl⟩
                rw [← hW2] at hb2 hbk ⊢
                obtain ⟨gx, hgx⟩ : ∃ gx, gx = wr.heap.size := ⟨_, rfl⟩
                have ne1 : gx ≠ gb := by omega
                have ne2 : gb ≠ gx := Ne.symm ne1
                have hgg2 : gb ≠ g := Ne.symm hgg
                rw [← hgx] at hbk ⊢
                have k0 := hbk.cell 0
                have k1 := hbk.cell 1
                simp only [List.getElem?_cons_zero, List.getElem?_cons_succ] at k0 k1
                obtain ⟨_, d1, d2, d3, dl1, dl2⟩ := HPUT.out W2 hb2
                have kl := hbk.lt
                have Hb2 := Lib.hid hb2
                have HBW : Hid (Below w.heap.size w W2) := hbw.out.trans (hb2.mono hbw.out.size)
                clear hW2 hgx hbk hb2 hx3 hx4 hbx2
                go_region_held3 (fun W => W.cell? ⟨g, i, none⟩ = some (.slice (some ⟨gb, 0, none⟩) q q) ∧ W.cell? ⟨gx, 0, none⟩ = some (.bool eg) ∧ W.cell? ⟨gx, 1, none⟩ = some (.slice eA en' ec)) (go_keep) (first | (go_at_call 31; (with_reducible refine (HZ2.out _ (by first | exact HBW.out | exact HBW.out.drew)).mono ?_); rintro _ w5 ⟨rfl, hb5⟩; have hx5 : Below W2.heap.size W2 w5 := (by first | exact hb5 | exact (Below.refl _ _).drew.trans hb5); have Hx5 : Hid (Below wr.heap.size wr w5) := Hb2.out.trans (hx5.mono Hb2.out.size); obtain ⟨hp5, m1, m2, m3, ml1, ml2⟩ := HPUT.out w5 Hx5.out; have HP5 := Lib.hid hp5; have n0 := (hx5.cell (p := ⟨gx, 0, none⟩) kl).trans k0; have n1 := (hx5.cell (p := ⟨gx, 1, none⟩) kl).trans k1; have nl := Nat.lt_of_lt_of_le kl hx5.size; clear hb5 hx5 hp5))
                all_goals go_wp2_with fail
                all_goals go_roundw
                all_goals first
                  | exact ⟨k + 1, by omega, by go_num, HP5.out.dr ⟨_, rfl⟩, (hbw.out.trans (Hx5.out.mono hbw.out.size)).trans (((Ch.setCell (Ch.refl gb _) _ _).below Hgb.out).trans (Dr.below ⟨_, rfl⟩ _))⟩
                  | exact ⟨k + 1, by omega, by go_num, HP5.out, (hbw.out.trans (Hx5.out.mono hbw.out.size)).trans ((Ch.setCell (Ch.refl gb _) _ _).below Hgb.out)⟩
                  | (simp [intOf] <;> omega)
              · obtain rfl : k = q := by omega
                have Hmp2 : Hid (Mp wr g bs2 k j (zEn p M)) := hmp.out.congr fun a c ha hc => by
                  have := Hlen.out
                  by_cases e1 : a < i
                  · simp [e1]
                  · obtain rfl : a = i := by omega
                    simp [hc]
                go_wp2
                go_roundw
                case rel => exact ⟨i + 1, bs2, by omega, by go_num, Hlen.out, Hmp2.out, Hlo2.out, hbw.out⟩
                case measure => simp [intOf]; omega
          · obtain rfl : i = j := by omega
            go_wp2
            go_ret2
            exact .inr ⟨hft.out, g, bs, rfl, hmp.out.done hbl, hbl, hbw.out⟩
end Go.Proofs.YtbafiahmcfkboaaDoor
