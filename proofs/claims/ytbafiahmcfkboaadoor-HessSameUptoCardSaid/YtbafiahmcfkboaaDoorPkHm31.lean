/- A row of polynomials that grows by append, each polynomial a row of one's own. Conditions: the sizes. The contract of (*work).char: the polynomials of a Hessenberg matrix's first rows and columns. Conditions: the sizes. Plain numbers: the reduction leaves a Hessenberg matrix as it is; the polynomial looks at the matrix's own places alone. No conditions. Plain numbers: the polynomial's top coefficient is 1, the next one is minus the trace. No conditions. -/
import Derived.Test.YtbafiahmcfkboaaDoorPkHm30
import Derived.Test.YtbafiahmcfkboaaDoorPkHm28
import Derived.Laws.CopyOwn
import Derived.OwnWalk
import Derived.OneCell
namespace Go.Proofs.YtbafiahmcfkboaaDoor
section
open Go.RowKit

theorem Tryd.infoPol : (Tryd.prog.info? 30).map (fun i => (i.zero, i.size, i.bytes)) = some (some (.slice none 0 0), 1, 24) := by kernel_rfl
/-- A row of polynomials that grows by append: the headers' row is v, from block B on, all rows below block U. -/
def OwP (w : World) (B U : Nat) (v : Value) (M : List (List Nat)) : Prop :=
  ∃ hs : List (Option Addr × Nat), ∃ hl : hs.length = M.length, Ro w B 30 v (hdrs hs M) ∧ (∀ i (h : i < M.length), Res w B 24 (hs[i]'(hl ▸ h)).1 (hs[i]'(hl ▸ h)).2 (u32s M[i])) ∧ UB U hs ∧
    (∀ i j (hi : i < M.length) (hj : j < M.length), i ≠ j → M[i] ≠ [] → M[j] ≠ [] → (hs[i]'(hl ▸ hi)).1 ≠ (hs[j]'(hl ▸ hj)).1)
theorem OwP.nil_ (w : World) (B U : Nat) : OwP w B U (.slice none 0 0) [] :=
  ⟨[], rfl, Ro.nil_ _ _ _, (fun i h => absurd h (Nat.not_lt_zero _)), (fun _ h => by cases h), (fun i j hi => absurd hi (Nat.not_lt_zero _))⟩
theorem OwP.mono {w : World} {B U U' : Nat} {v : Value} {M : List (List Nat)} (h : OwP w B U v M) (hU : U ≤ U') : OwP w B U' v M := by
  obtain ⟨hs, hl, h1, h2, h3, h4⟩ := h
  exact ⟨hs, hl, h1, h2, h3.mono hU, h4⟩
theorem OwP.below {w w' : World} {B B' U : Nat} {v : Value} {M : List (List Nat)} (h : OwP w B U v M) (hb : Below B' w w') (hB : w.heap.size ≤ B') : OwP w' B U v M := by
  obtain ⟨hs, hl, h1, h2, h3, h4⟩ := h
  exact ⟨hs, hl, h1.below hb hB, fun i hi => (h2 i hi).below hb hB, h3, h4⟩
/-- One row more: it lies at U or behind. -/
theorem app_pol (w : World) (B U : Nat) (v : Value) (M : List (List Nat)) (h : OwP w B U v M) (A : Option Addr) (c : Nat) (r : List Nat) (hr : Res w U 24 A c (u32s r)) (hBU : B ≤ U) (hB : B ≤ w.heap.size) (hA : ∀ a, A = some a → a.block < w.heap.size) (hUw : U ≤ w.heap.size) (hcap : c ≤ maxLen) (hm : M.length ≤ 1099511627776) :
    ∃ A' c' w', (Builtin.append_ #[84, 84] 84 #[v, .slice (some ⟨w.heap.size, 0, none⟩) 1 1]).run Tryd.prog (w.alloc (.cells #[.slice A r.length c] 30)) = .ok (.slice A' (M.length + 1) c') w' ∧
      OwP w' B w'.heap.size (.slice A' (M.length + 1) c') (M ++ [r]) ∧ Below B w w' := by
  obtain ⟨hs, hl, h1, h2, h3, h4⟩ := h
  obtain ⟨i0, hi, hz0, hz1, hz2⟩ := info_parts Tryd.infoPol
  have hb : Below w.heap.size w (w.alloc (.cells #[.slice A r.length c] 30)) := (Below.refl _ _).alloc (Nat.le_refl _) _
  have h1' := h1.below hb (Nat.le_refl _)
  have hbk : Blk (w.alloc (.cells #[.slice A r.length c] 30)) w.heap.size 30 [.slice A r.length c] := Blk.new_ rfl
  have hrd : Rd (w.alloc (.cells #[.slice A r.length c] 30)) (w.heap.size + 1) (some ⟨w.heap.size, 0, none⟩) [.slice A r.length c] := Rd.of_blk hbk (by omega) 0 (fun k u hu => by rw [Nat.zero_add]; exact hu)
  have hdl := hdrs_length hl
  obtain ⟨A', c', w', hrun, g3, g4⟩ := ro_app (P := Tryd.prog) _ B 84 84 30 i0 (.slice none 0 0) 24 Tryd.underlying84 hi hz0 hz1 hz2 rfl v (hdrs hs M) h1' (some ⟨w.heap.size, 0, none⟩) 1 1 _ [.slice A r.length c] hrd rfl (by simp [Value.oneCell']) (by rw [hdl]; unfold maxLen; omega) (by rw [hdl]; omega) (by simp; omega)
  have hl2 : (hdrs hs M ++ [Value.slice A r.length c]).length = M.length + 1 := by rw [List.length_append, hdl]; rfl
  rw [hl2] at hrun g3
  have e9 : hdrs hs M ++ [Value.slice A r.length c] = hdrs (hs ++ [(A, c)]) (M ++ [r]) := (hdrs_snoc hl (A, c) r).symm
  rw [e9] at g3
  have hsz := g4.size
  refine ⟨A', c', w', hrun, ⟨hs ++ [(A, c)], by simp [hl], by simpa using g3, fun i hi => ?_, ?_, fun i j hi hj hij ni nj => ?_⟩, (hb.mono hB).trans (below_grown' g4 h1'.block (by simp; omega))⟩
  · have hrow : ∀ k, v.ownBlock = some k → ∃ us, Blk (w.alloc (.cells #[.slice A r.length c] 30)) k 30 us := h1'.rowBlk
    by_cases hi2 : i < M.length
    · have hih : i < hs.length := hl ▸ hi2
      simp only [List.getElem_append_left hi2, List.getElem_append_left hih]
      exact ((h2 i hi2).below hb (Nat.le_refl _)).grown g4 hrow (by decide)
    · have hie : i = M.length := by rw [List.length_append] at hi; simp at hi; omega
      subst hie
      have e1 : (M ++ [r])[M.length] = r := by simp
      have e2 : (hs ++ [(A, c)])[M.length]'(by simp [hl]) = (A, c) := by
        rw [List.getElem_append_right (by omega)]; simp [hl]
      simp only [e1, e2]
      exact ((hr.mono hBU).below hb (Nat.le_refl _)).grown g4 hrow (by decide)
  · have hw1 : w.heap.size ≤ w'.heap.size := by simp at hsz; omega
    intro x hx
    rcases List.mem_append.1 hx with hx | hx
    · exact ⟨fun a ha => Nat.lt_of_lt_of_le ((h3 x hx).1 a ha) (by omega), (h3 x hx).2⟩
    · rw [List.mem_singleton] at hx
      subst hx
      exact ⟨fun a ha => Nat.lt_of_lt_of_le (hA a ha) hw1, hcap⟩
  · have key : ∀ i (hi2 : i < M.length), M[i] ≠ [] → r ≠ [] → (hs[i]'(hl ▸ hi2)).1 ≠ A := fun i hi2 n1 n2 e => by
      obtain ⟨g1, _, e1, _, _, _⟩ := (h2 i hi2).2.2 (fun e => n1 (u32s_nil_iff.1 e))
      obtain ⟨g2, _, e2, hlo, _, _⟩ := hr.2.2 (fun e => n2 (u32s_nil_iff.1 e))
      have hlt := h3.at_ (hl ▸ hi2) e1
      rw [e1, e2] at e
      simp only [Option.some.injEq, Addr.mk.injEq, and_true] at e
      omega
    have hend : ∀ i, i < (M ++ [r]).length → ¬ i < M.length → i = M.length := fun i h1 h2 => by rw [List.length_append] at h1; simp at h1; omega
    have e1 : (M ++ [r])[M.length]'(by simp) = r := by simp
    have e2 : (hs ++ [(A, c)])[M.length]'(by simp [hl]) = (A, c) := by
      rw [List.getElem_append_right (by omega)]; simp [hl]
    by_cases hi2 : i < M.length
    · have hih : i < hs.length := hl ▸ hi2
      simp only [List.getElem_append_left hi2] at ni
      by_cases hj2 : j < M.length
      · have hjh : j < hs.length := hl ▸ hj2
        simp only [List.getElem_append_left hj2] at nj
        simp only [List.getElem_append_left hih, List.getElem_append_left hjh]
        exact h4 i j hi2 hj2 hij ni nj
      · obtain rfl := hend j hj hj2
        rw [e1] at nj
        simp only [List.getElem_append_left hih, e2]
        exact key i hi2 ni nj
    · obtain rfl := hend i hi hi2
      rw [e1] at ni
      by_cases hj2 : j < M.length
      · have hjh : j < hs.length := hl ▸ hj2
        simp only [List.getElem_append_left hj2] at nj
        simp only [List.getElem_append_left hjh, e2]
        exact fun e => key j hj2 nj ni e.symm
      · obtain rfl := hend j hj hj2
        exact absurd rfl hij
/-- It reads as its rows. -/
theorem OwP.rd {w : World} {B U : Nat} {A : Option Addr} {n c : Nat} {M : List (List Nat)} (h : OwP w B U (.slice A n c) M) (_ : U ≤ w.heap.size) : n = M.length ∧ M.length ≤ c ∧ RdM w w.heap.size A M := by
  obtain ⟨hs, hl, h1, h2, h3, h4⟩ := h
  obtain ⟨e1, e2, e3⟩ := h1.rd
  rw [hdrs_length hl] at e1 e2
  refine ⟨e1, e2, fun hn => ?_⟩
  obtain ⟨b, off, e4, e5, e6⟩ := e3 (fun e => hn (List.eq_nil_of_length_eq_zero (by rw [← hdrs_length hl, e]; rfl)))
  refine ⟨b, off, e4, e5, fun i hi => ⟨_, _, e6 i _ (hdrs_at (hl ▸ hi) hi), ?_, ?_, (h2 i hi).rd⟩⟩
  · have := (h2 i hi).1; rw [u32s_length] at this; exact this
  · have := (h2 i hi).2.1; rw [u32s_length] at this; exact this
theorem app_pnew {ws w' : World} {B : Nat} {v : Value} {M : List (List Nat)} {A : Option Addr} {n c : Nat} {r : List Nat} (h : OwP ws B ws.heap.size v M) (hb : Below ws.heap.size ws w') (hB : B ≤ ws.heap.size) (hr : Ro w' ws.heap.size 24 (.slice A n c) (u32s r)) (hl : r.length ≤ 281474976710656) (hm : M.length ≤ 1099511627776) :
    ∃ A' c' w2, (Builtin.append_ #[84, 84] 84 #[v, .slice (some ⟨w'.heap.size, 0, none⟩) 1 1]).run Tryd.prog (w'.alloc (.cells #[.slice A n c] 30)) = .ok (.slice A' (M.length + 1) c') w2 ∧
      OwP w2 B w2.heap.size (.slice A' (M.length + 1) c') (M ++ [r]) ∧ Below B ws w2 := by
  obtain ⟨e1, hres, hA⟩ := hr.res (by rw [u32s_length]; exact hl)
  rw [u32s_length] at e1
  subst e1
  have hcap := hr.capLe
  obtain ⟨A', c', w2, h1, h2, h3⟩ := app_pol w' B ws.heap.size v M (h.below hb (Nat.le_refl _)) A c r hres hB (Nat.le_trans hB hb.size) hA hb.size hcap hm
  exact ⟨A', c', w2, h1, h2, (hb.mono hB).trans h3⟩
end
section
open Go.RowKit

/-- A step inwards from the last column: the polynomials ahead of it are T's. -/
def chD (p : Nat) (H : Mf) (k : Nat) (T : Mf) : Nat → (Nat → Nat) → Nat → (Nat → Nat)
  | 0, nx, _ => nx
  | i + 1, nx, t => chD p H k T i (fun j => if j < i + 1 then plN p (nx j) (T i j) (ngN p (plN p 0 (H i k) t)) else nx j) (if 0 < i then plN p 0 t (H i (i - 1)) else t)
def shf (f : Nat → Nat) : Nat → Nat := fun j => if j = 0 then 0 else f (j - 1)
/-- The polynomials of the first rows and columns. -/
def chT (p : Nat) (H : Mf) : Nat → Mf
  | 0 => fun _ j => if j = 0 then 1 else 0
  | k + 1 => fun i => if i = k + 1 then chD p H k (chT p H k) (k + 1) (shf (chT p H k k)) 1 else chT p H k i
def polR (T : Mf) (i : Nat) : List Nat := (List.range (i + 1)).map (T i)
def polM (T : Mf) (k : Nat) : List (List Nat) := (List.range (k + 1)).map (polR T)
theorem polR_length (T : Mf) (i : Nat) : (polR T i).length = i + 1 := by simp [polR]
theorem polM_length (T : Mf) (k : Nat) : (polM T k).length = k + 1 := by simp [polM]
theorem polM_at {T : Mf} {k i : Nat} (h : i < (polM T k).length) : (polM T k)[i] = polR T i := by simp [polM]
theorem polR_at {T : Mf} {i j : Nat} (h : j < (polR T i).length) : (polR T i)[j] = T i j := by simp [polR]
theorem polM_snoc (p : Nat) (H : Mf) (k : Nat) : polM (chT p H (k + 1)) (k + 1) = polM (chT p H k) k ++ [polR (chT p H (k + 1)) (k + 1)] := by
  unfold polM
  rw [List.range_succ (n := k + 1), List.map_append, List.map_singleton]
  congr 1
  refine List.map_congr_left fun i hi => ?_
  have hi2 : i < k + 1 := by simpa using hi
  unfold polR
  refine List.map_congr_left fun j _ => ?_
  rw [show chT p H (k + 1) i = chT p H k i from by show (if i = k + 1 then _ else _) = _; rw [if_neg (by omega)]]
theorem chD_lt {p : Nat} (hp : 0 < p) (H : Mf) (k : Nat) (T : Mf) : ∀ m (nx : Nat → Nat) t, (∀ j, nx j < p) → ∀ j, chD p H k T m nx t j < p
  | 0, nx, t, h, j => h j
  | i + 1, nx, t, h, j => by
    unfold chD
    refine chD_lt hp H k T i _ _ (fun a => ?_) j
    show (if _ then _ else _) < p
    split
    · exact plN_lt hp _ _ _
    · exact h a
theorem shf_lt {p : Nat} (hp : 0 < p) {f : Nat → Nat} (h : ∀ j, f j < p) (j : Nat) : shf f j < p := by unfold shf; split; exact hp; exact h _
theorem chT_lt {p : Nat} (hp : 1 < p) (H : Mf) : ∀ k i j, chT p H k i j < p
  | 0, i, j => by show (if _ then _ else _) < p; split <;> omega
  | k + 1, i, j => by
    show (if _ then _ else _ : Nat → Nat) j < p
    split
    · exact chD_lt (by omega) H k _ _ _ _ (shf_lt (by omega) (chT_lt hp H k k)) j
    · exact chT_lt hp H k i j
/-- A polynomial being made, as a function of its places. -/
def Nx (w : World) (g n : Nat) (f : Nat → Nat) : Prop := Blk w g 24 (u32s ((List.range n).map f))
section
variable {w w' : World} {g n : Nat} {f : Nat → Nat}
theorem Nx.lt (h : Nx w g n f) : g < w.heap.size := Blk.lt h
theorem Nx.at_ (h : Nx w g n f) {j : Nat} (hj : j < n) : w.cell? ⟨g, j, none⟩ = some (.int .u32 (f j : Int)) ∧ w.frozen? ⟨g, j, none⟩ = false := by
  refine ⟨?_, Blk.frozen h j⟩
  rw [Blk.cell h, u32s_at (by simpa using hj)]
  simp
theorem Nx.congr (h : Nx w g n f) {f2 : Nat → Nat} (e : ∀ j, j < n → f j = f2 j) : Nx w g n f2 := by
  unfold Nx at h ⊢
  rwa [show (List.range n).map f2 = (List.range n).map f from List.map_congr_left fun j hj => (e j (by simpa using hj)).symm]
theorem Nx.put (h : Nx w g n f) (j x : Nat) : Nx (w.setCell ⟨g, j, none⟩ (.int .u32 (x : Int))) g n (fun a => if a = j then x else f a) := by
  have h2 := Blk.set_ h j (.int .u32 (x : Int))
  unfold Nx
  rw [show u32s ((List.range n).map fun a => if a = j then x else f a) = (u32s ((List.range n).map f)).set j (.int .u32 (x : Int)) from ?_]
  · exact h2
  · refine List.ext_getElem (by simp [u32s]) fun a h1 h2 => ?_
    simp only [u32s, List.getElem_map, List.getElem_range, List.getElem_set]
    by_cases e : a = j
    · subst e; simp
    · rw [if_neg e, if_neg (fun h => e h.symm)]
end
theorem mkPl (n : Nat) (h : n ≤ 70368744177664) (w : World) : (Instr.makeSlice 30 (.int .i64 (n : Int)) (.int .i64 (n : Int))).run Tryd.prog w = .ok (.slice (some ⟨w.heap.size, 0, none⟩) n n) (w.alloc (.cells (List.replicate n (Value.int .u32 0)).toArray 24)) := by
  obtain ⟨i0, hi, hz0, hz1, hz2⟩ := info_parts Tryd.info32
  have hr := run_make (P := Tryd.prog) w 30 24 i0 (.int .u32 0) Tryd.underlying30 hi hz0 .i64 .i64 n n (by omega) (by omega) (by rw [hz2]; omega) (by omega)
  rw [hz1, Int.toNat_natCast, made_one _ _ rfl] at hr
  exact hr
theorem repl_nat (n : Nat) : Array.replicate n (Value.int .u32 0) = (u32s (List.replicate n 0)).toArray := by simp [u32s]
theorem wpList_copyR {P : Program} {w : World} {ops : Array Oper} {rest : List Oper} {o : Oper} {a : Act} {Q : Exit → Act → World → Prop} (hgd : o.guard = none) (d s : Operand) (dT sT : TypeId)
    (ho : o.op = .call { callee := .builtin .copy, args := #[d, s], argTypes := #[dT, sT] }) (elem : TypeId) (hu : P.underlying dT = some (.slice elem)) (hsz : (P.info? elem).map (·.size) = some 1)
    (sp : Option Addr) (g off dLen dCap sLen sCap : Nat) (hd : a.eval d = .slice (some ⟨g, off, none⟩) dLen dCap) (hs : a.eval s = .slice sp sLen sCap) (t : TypeId) (zs xs : List Nat) (B C : Nat) (w0 : World)
    (hg : Blk w g t (u32s zs)) (hr : Rd w B sp (u32s xs)) (hn : xs.length = Nat.min sLen dLen) (hfit : off + xs.length ≤ zs.length) (hb : Below C w0 w) (hC : C ≤ g)
    (h : ∀ w', Blk w' g t (u32s (zs.take off ++ (xs ++ zs.drop (off + xs.length)))) → Below C w0 w' → wpList P ops Q rest (a.put o.dst (goInt (u32s xs).length)) w') :
    wpList P ops Q (o :: rest) a w := by
  refine wpList_copy_splice hgd d s dT sT ho elem hu hsz _ _ _ _ _ _ hd hs g off (u32s zs) t hg (u32s xs) (by rw [u32s_length]; exact hn) (fun h0 => ⟨rfl, ?_⟩) (by rw [u32s_length, u32s_length]; exact hfit) (one_u32s xs) C w0 hb hC (fun w' h1 h2 => h w' ?_ h2)
  · obtain ⟨b, o2, e, _, hc⟩ := hr (by intro e; rw [e] at h0; simp at h0)
    exact ⟨_, e, fun j v hv => by rw [show (⟨b, o2, none⟩ : Addr).add j = ⟨b, o2 + j, none⟩ by unfold Addr.add; split <;> simp_all]; exact hc j v hv⟩
  · have h9 := h1.out
    have e : splice (u32s zs) off (u32s xs) = u32s (zs.take off ++ (xs ++ zs.drop (off + xs.length))) := by
      simp [splice, u32s]
    rw [e] at h9
    exact h9
theorem OwP.start (w : World) : OwP ((w.alloc (.cells #[.int .u32 1] 24)).alloc (.cells #[.slice (some ⟨w.heap.size, 0, none⟩) 1 1] 30)) w.heap.size (w.heap.size + 2) (.slice (some ⟨w.heap.size + 1, 0, none⟩) 1 1) [[1]] := by
  have b0 : Blk (w.alloc (.cells #[.int .u32 1] 24)) w.heap.size 24 (u32s [1]) := Blk.new_ rfl
  have b1 : Blk ((w.alloc (.cells #[.int .u32 1] 24)).alloc (.cells #[.slice (some ⟨w.heap.size, 0, none⟩) 1 1] 30)) (w.alloc (.cells #[.int .u32 1] 24)).heap.size 30 [.slice (some ⟨w.heap.size, 0, none⟩) 1 1] := Blk.new_ rfl
  have e1 : (w.alloc (.cells #[.int .u32 1] 24)).heap.size = w.heap.size + 1 := by simp
  rw [e1] at b1
  have b2 : Blk ((w.alloc (.cells #[.int .u32 1] 24)).alloc (.cells #[.slice (some ⟨w.heap.size, 0, none⟩) 1 1] 30)) w.heap.size 24 (u32s [1]) := b0.below ((Below.refl _ _).alloc (Nat.le_refl _) _) (by omega)
  refine ⟨[(some ⟨w.heap.size, 0, none⟩, 1)], rfl, Ro.of_blk b1 (by omega) (by show 1 ≤ maxLen; unfold maxLen; omega), fun i hi => ?_, fun h hh => ?_, fun i j hi hj hij => ?_⟩
  · obtain rfl : i = 0 := by simpa using hi
    exact Res.of_blk0 b2 (Nat.le_refl _) (by show 1 ≤ 281474976710656; omega)
  · rw [List.mem_singleton] at hh
    subst hh
    exact ⟨fun a ha => by injection ha with ha; subst ha; show w.heap.size < _; omega, by show 1 ≤ maxLen; unfold maxLen; omega⟩
  · have h1 : i < 1 := hi
    have h2 : j < 1 := hj
    omega
theorem copy_shf (T : Mf) (k : Nat) : (List.replicate (k + 2) 0).take 1 ++ (polR T k ++ (List.replicate (k + 2) 0).drop (1 + (polR T k).length)) = (List.range (k + 2)).map (shf (T k)) := by
  rw [polR_length, List.drop_eq_nil_of_le (by simp; omega), List.append_nil]
  apply List.ext_getElem
  · simp only [List.length_append, List.length_take, List.length_replicate, List.length_map, List.length_range, polR_length]; omega
  · intro j h1 h2
    rw [List.getElem_map, List.getElem_range]
    by_cases e : j = 0
    · subst e; rfl
    · rw [List.getElem_append_right (by simp; omega)]
      simp [polR, shf, e, show min 1 (k + 2) = 1 by omega]
theorem Nx.dr {w w' : World} {g n : Nat} {f : Nat → Nat} (h : Nx w g n f) (hd : Dr w w') : Nx w' g n f := Blk.below h (hd.below w.heap.size) (Blk.lt h)
end
section
open Go.RowKit

theorem tr_self (i a : Nat) : tr i i a = a := by
  unfold tr
  split
  · rename_i h; exact h.symm
  · rfl
theorem exS_self (i : Nat) (x : St) : exS i i x = x := by
  obtain ⟨h, s, r⟩ := x
  unfold exS
  simp only [tr_self]
theorem pvS_none (E : Mf) (k : Nat) : ∀ m j, (∀ i, j ≤ i → i < j + m → E i k = 0) → pvS E k m j = j + m
  | 0, _, _ => rfl
  | m + 1, j, h => by
    unfold pvS
    rw [if_pos (h j (Nat.le_refl _) (by omega)), pvS_none E k m (j + 1) fun i h1 h2 => h i (by omega) (by omega)]
    omega
theorem colS_self (p k u : Nat) (x : St) : ∀ m i, (∀ j, i ≤ j → j < i + m → x.h j k = 0) → colS p k u m i x = x
  | 0, _, _ => rfl
  | m + 1, i, h => by
    unfold colS
    rw [if_pos (h i (Nat.le_refl _) (by omega))]
    exact colS_self p k u x m (i + 1) fun j h1 h2 => h j (by omega) (by omega)
theorem stS_self (p n k : Nat) (x : St) (hk : k + 1 < n) (h : ∀ i, k + 1 < i → i < n → x.h i k = 0) : stS p n k x = x := by
  unfold stS
  by_cases h0 : x.h (k + 1) k = 0
  · have e := pvS_none x.h k (n - (k + 1)) (k + 1) fun i h1 h2 => by
      rcases Nat.eq_or_lt_of_le h1 with h3 | h3
      · subst h3; exact h0
      · exact h i h3 (by omega)
    rw [if_pos (by rw [e]; omega)]
  · have e := pvS_here (E := x.h) (k := k) (m := n - (k + 1)) (j := k + 1) (by omega) h0
    rw [e, if_neg (by omega), exS_self]
    exact colS_self p k _ x _ _ fun j h1 h2 => h j (by omega) (by omega)
theorem rdS_self (p n : Nat) (x : St) (h : ∀ i k, k + 1 < i → i < n → x.h i k = 0) : ∀ m k, k + m ≤ n - 1 → rdS p n m k x = x
  | 0, _, _ => rfl
  | m + 1, k, hk => by
    unfold rdS
    rw [stS_self p n k x (by omega) fun i h1 h2 => h i k h1 h2]
    exact rdS_self p n x h m (k + 1) (by omega)
theorem chD_congr {p : Nat} {H H2 : Mf} {k : Nat} (T : Mf) (h : ∀ i j, i ≤ k → j ≤ k → H i j = H2 i j) : ∀ m (nx : Nat → Nat) t, m ≤ k + 1 → chD p H k T m nx t = chD p H2 k T m nx t
  | 0, _, _, _ => rfl
  | i + 1, nx, t, hm => by
    unfold chD
    rw [h i k (by omega) (Nat.le_refl _), h i (i - 1) (by omega) (by omega)]
    exact chD_congr T h i _ _ (by omega)
theorem chT_congr {p : Nat} {H H2 : Mf} : ∀ n, (∀ i j, i < n → j < n → H i j = H2 i j) → chT p H n = chT p H2 n
  | 0, _ => rfl
  | k + 1, h => by
    have e := chT_congr (p := p) k fun i j h1 h2 => h i j (by omega) (by omega)
    funext i
    show (if i = k + 1 then chD p H k (chT p H k) (k + 1) (shf (chT p H k k)) 1 else chT p H k i) = (if i = k + 1 then chD p H2 k (chT p H2 k) (k + 1) (shf (chT p H2 k k)) 1 else chT p H2 k i)
    rw [e, chD_congr (chT p H2 k) (fun i j h1 h2 => h i j (by omega) (by omega)) (k + 1) _ _ (Nat.le_refl _)]
end
section
open Go.RowKit

theorem chD_top (p : Nat) (H : Mf) (k : Nat) (T : Mf) : ∀ m (nx : Nat → Nat) t j, m ≤ j → chD p H k T m nx t j = nx j
  | 0, _, _, _, _ => rfl
  | i + 1, nx, t, j, h => by
    unfold chD
    rw [chD_top p H k T i _ _ j (by omega)]
    show (if j < i + 1 then _ else nx j) = nx j
    rw [if_neg (by omega)]
theorem chT_self (p : Nat) (H : Mf) (k : Nat) : chT p H (k + 1) (k + 1) = chD p H k (chT p H k) (k + 1) (shf (chT p H k k)) 1 := by
  show (if k + 1 = k + 1 then _ else _ : Nat → Nat) = _
  rw [if_pos rfl]
/-- The top coefficient. -/
theorem chT_top (p : Nat) (H : Mf) : ∀ k, chT p H k k k = 1
  | 0 => rfl
  | k + 1 => by
    rw [chT_self, chD_top p H k _ (k + 1) _ _ (k + 1) (Nat.le_refl _)]
    show (if k + 1 = 0 then 0 else chT p H k k (k + 1 - 1)) = 1
    rw [if_neg (by omega)]
    exact chT_top p H k
/-- The sum of the diagonal's first numbers. -/
def trN (H : Mf) : Nat → Nat
  | 0 => 0
  | n + 1 => trN H n + H n n
/-- The coefficient next to the top. -/
theorem chT_next (p : Nat) (H : Mf) (k : Nat) : chT p H (k + 1) (k + 1) k = plN p (shf (chT p H k k) k) 1 (ngN p (plN p 0 (H k k) 1)) := by
  rw [chT_self]
  show chD p H k (chT p H k) k _ _ k = _
  rw [chD_top p H k _ k _ _ k (Nat.le_refl _)]
  show (if k < k + 1 then plN p (shf (chT p H k k) k) (chT p H k k k) (ngN p (plN p 0 (H k k) 1)) else _) = _
  rw [if_pos (by omega), chT_top]
theorem ngN_dvd {p x : Nat} (h : x < p) : p ∣ ngN p x + x := by
  unfold ngN
  split
  · rename_i e; subst e; exact ⟨0, by simp⟩
  · exact ⟨1, by omega⟩
theorem chT_trace {p : Nat} (hp : 0 < p) (H : Mf) : ∀ n, p ∣ chT p H (n + 1) (n + 1) n + trN H (n + 1)
  | n => by
    have key : ∀ s, plN p s 1 (ngN p (plN p 0 (H n n) 1)) % p = (s + ngN p (H n n % p)) % p := fun s => by
      unfold plN
      rw [Nat.mod_mod, Nat.mul_one, Nat.zero_add, Nat.one_mul]
    have hd := ngN_dvd (Nat.mod_lt (H n n) hp)
    have hs : p ∣ shf (chT p H n n) n + trN H n := by
      cases n with
      | zero => exact ⟨0, by simp [shf, trN]⟩
      | succ m =>
        have h := chT_trace hp H m
        show p ∣ (if m + 1 = 0 then 0 else chT p H (m + 1) (m + 1) (m + 1 - 1)) + trN H (m + 1)
        rw [if_neg (by omega)]
        exact h
    rw [chT_next]
    obtain ⟨c, hc⟩ : ∃ c, c = plN p (shf (chT p H n n) n) 1 (ngN p (plN p 0 (H n n) 1)) := ⟨_, rfl⟩
    obtain ⟨s, hse⟩ : ∃ s, s = shf (chT p H n n) n := ⟨_, rfl⟩
    obtain ⟨g, hg⟩ : ∃ g, g = ngN p (H n n % p) := ⟨_, rfl⟩
    have h1 : c % p = (s + g) % p := by rw [hc, hg, hse]; exact key _
    rw [← hse] at hs
    rw [← hg] at hd
    rw [← hc]
    have h2 := Nat.div_add_mod (H n n) p
    show p ∣ c + (trN H n + H n n)
    apply Nat.dvd_of_mod_eq_zero
    have h3 : (c + (trN H n + H n n)) % p = ((s + g) + (trN H n + H n n)) % p := by
      rw [Nat.add_mod, h1, ← Nat.add_mod]
    rw [h3]
    apply Nat.mod_eq_zero_of_dvd
    have h4 : p ∣ p * (H n n / p) := ⟨_, rfl⟩
    have h5 : s + g + (trN H n + H n n) = (s + trN H n) + (g + H n n % p) + p * (H n n / p) := by omega
    rw [h5]
    exact Nat.dvd_add (Nat.dvd_add hs hd) h4
end
end Go.Proofs.YtbafiahmcfkboaaDoor
