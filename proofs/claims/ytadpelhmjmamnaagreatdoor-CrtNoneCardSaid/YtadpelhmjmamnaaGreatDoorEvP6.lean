/- The reckoner: make and slices' literals. No conditions. -/
import Derived.Test.YtadpelhmjmamnaaGreatDoorEvP5
namespace Go.Proofs.YtadpelhmjmamnaaGreatDoor.Ev
open Go Go.RowKit

theorem zrep (z : List Value) : ∀ c, (List.range (c * z.length)).map (fun i => z.getD (i % z.length) default) = (List.replicate c z).flatten
  | 0 => by simp
  | c + 1 => by
    rw [Nat.add_mul, Nat.one_mul, Nat.add_comm, List.range_add, List.map_append, List.map_map, List.replicate_succ, List.flatten_cons, ← zrep z c]
    congr 1
    · apply List.ext_getElem
      · simp
      · intro i h1 h2
        simp [Nat.mod_eq_of_lt h2, h2]
    · apply List.map_congr_left
      intro i _
      simp
theorem zrow (z : Array Value) (c : Nat) : ((Array.range (c * z.size)).map fun i => z[i % z.size]!) = ⟨(List.replicate c z.toList).flatten⟩ := by
  rw [← zrep z.toList c]
  apply Array.ext'
  simp only [Array.toList_map, Array.toList_range, Array.length_toList]
  apply List.map_congr_left
  intro i _
  rcases Nat.lt_or_ge (i % z.size) z.size with h | h
  · simp [List.getD, h]
  · simp [List.getD, h]
theorem VL.repl {ρ : Env} {z : List Value} (h : VL ρ z z) : ∀ c, VL ρ (repl c z) (List.replicate c z).flatten
  | 0 => .nil ρ
  | c + 1 => by
    rw [List.replicate_succ, List.flatten_cons]
    exact h.append (VL.repl h c)
theorem rowO_spec {P : Program} {t e : TypeId} {sz b : Nat} {z : List Value} (h : rowO P t = some (e, sz, b, z)) :
    P.underlying t = some (.slice e) ∧ sizeO P e = some sz ∧ z.length = sz ∧ sz ≤ 256 ∧ zeroO P e = some z ∧ ∃ i, P.info? e = some i ∧ i.bytes = b := by
  unfold rowO at h
  split at h
  · rename_i e' sz' hs
    unfold sliceO at hs
    split at hs
    · rename_i e2 hu
      split at hs
      · rename_i s2 hs2
        cases hs
        split at h
        · rename_i i z' hi hz
          cases hc : (Nat.beq z'.length sz' && Nat.ble sz' 256) with
          | false => rw [hc] at h; cases h
          | true =>
            rw [hc] at h
            cases h
            rw [Bool.and_eq_true, Nat.beq_eq, Nat.ble_eq] at hc
            exact ⟨hu, hs2, hc.1, hc.2, hz, i, hi, rfl⟩
        · cases h
      · cases hs
    · cases hs
  · cases h
theorem wrap_small {c : Nat} (h : c ≤ 65536) : IntKind.i64.wrap (c : Int) = c := by
  have h1 : (c : Int) % (2 ^ 64 : Int) = c := by omega
  have h2 : ¬ ((c : Int) ≥ 2 ^ (64 - 1)) := by omega
  show (if (true && decide ((c : Int) % (2 ^ 64 : Int) ≥ 2 ^ (64 - 1))) = true then (c : Int) % (2 ^ 64 : Int) - 2 ^ 64 else (c : Int) % (2 ^ 64 : Int)) = c
  simp only [h1, h2, decide_false, Bool.and_false, Bool.false_eq_true, if_false]

section ops
variable {P : Program} {G : Nat} {ρ : Env} {T : PT Value} {H : HP} {N : Nat} {out : Out} {a : Act} {w : World} {dst : Option Tmp} {type : TypeId} {pos : String} {after : Array Edge} {guard : Option (Nat × Bool)}
theorem run_makeSlice {t e : TypeId} {sz b l c : Nat} {z : List Value} {j k : IntKind} (h : rowO P t = some (e, sz, b, z)) (h1 : l ≤ c) (h2 : c ≤ 65536) (h3 : b * c ≤ 281474976710656) :
    (Instr.makeSlice t (.int j (l : Int)) (.int k (c : Int))).run P w = .ok (.slice (some ⟨w.heap.size, 0, none⟩) l c) { w with heap := w.heap.push (.cells ⟨(List.replicate c z).flatten⟩ e (0, 0)) } := by
  obtain ⟨hu, hs, hl, hsz, hz, i, hi, rfl⟩ := rowO_spec h
  obtain ⟨zv, hz1, _, hz2⟩ := run_zero hz
  have e1 : IntKind.i64.wrap (c : Int) = c := wrap_small h2
  have e2 : IntKind.i64.wrap (l : Int) = l := wrap_small (by omega)
  have g3 : ¬ ((2 : Int) ^ 48 < (i.bytes : Int) * (c : Int)) := by
    have : (i.bytes : Int) * (c : Int) = ((i.bytes * c : Nat) : Int) := by simp
    rw [this]; omega
  have hzs : zv.cells.size = sz := by rw [← Array.length_toList, hz1, hl]
  simp only [Instr.makeSlice, underlying, typeInfo, Sem.run_bind, run_program, Result.andThen_ok, hu, hi, Sem.run_pure, asInt, asIntOf]
  rw [e1, e2]
  have c1 : ¬ ((c : Int) < 0) := by omega
  have c2 : ¬ ((l : Int) < 0) := by omega
  have c3 : ¬ ((l : Int) > c) := by omega
  simp only [c1, c2, c3, g3, decide_false, Bool.or_self, Bool.false_eq_true, if_false, gt_iff_lt, Int.toNat_natCast]
  simp only [Sem.run_bind, run_askRoom, Result.andThen_ok, run_sizeOf hs]
  by_cases hn : c * sz = 0
  · have hfl : (List.replicate c z).flatten = [] := by
      apply List.length_eq_zero_iff.1
      simp [hl, hn]
    have e0 : ∀ (f : Nat → Value), (Array.range 0).map f = ⟨[]⟩ := fun f => Array.ext' (by simp)
    simp only [hn, if_true, Sem.run_bind, Sem.run_pure, Result.andThen_ok, e0, hfl]
    simp [newRow]
  · simp only [if_neg hn, Sem.run_bind, hz2, Result.andThen_ok, Sem.run_pure]
    rw [← hzs, zrow, hz1]
    simp [newRow]
theorem makeSlice_ok {t : TypeId} {x y : Operand} (hT : TR ρ T a.tmps) (hG : Glob G ρ) (h : (match aeval G T x, aeval G T y with | some l, some c => makeSliceC P N t l c | _, _ => .bad 106) = Rs.ok out) : OpOk P ⟨dst, .makeSlice t x y, type, pos, after, guard⟩ ρ N out a w := by
  split at h
  · rename_i u v hx hy
    have hrx := aeval_sound hT hG hx
    have hry := aeval_sound hT hG hy
    unfold makeSliceC at h
    split at h
    · rename_i e sz b z j l k c hrow
      generalize hvx : a.eval x = vx at hrx
      generalize hvy : a.eval y = vy at hry
      cases hrx
      cases hry
      cases hc : (Nat.ble l c && Nat.ble c 65536 && Nat.ble (Nat.mul b c) 281474976710656) with
      | false => rw [hc] at h; cases h
      | true =>
        rw [hc] at h
        cases h
        simp only [Bool.and_eq_true, Nat.ble_eq] at hc
        obtain ⟨_, _, _, _, hz, _⟩ := rowO_spec hrow
        obtain ⟨_, _, hfl, _⟩ := run_zero hz
        refine ⟨Nat.le_succ N, fun hF ro mm K Q hK => wp_value (v := .slice (some ⟨w.heap.size, 0, none⟩) l c) (w' := { w with heap := w.heap.push (.cells ⟨(List.replicate c z).flatten⟩ e (0, 0)) }) ?_ (hK _ _ _ (new_sound (hF.free _) ((hfl ρ).repl c)) (.sl (setE_self ρ N _)))⟩
        have := run_makeSlice (P := P) (w := w) (j := j) (k := k) hrow hc.1.1 hc.1.2 hc.2
        simp only [execOp, hvx, hvy, Int.ofNat_eq_natCast, Sem.run_bind, this]
        rfl
    · cases h
  · cases h

theorem VL.set {ρ : Env} {us vs : List Value} {u v : Value} (h : VL ρ us vs) (r : VR ρ u v) (i : Nat) : VL ρ (us.set i u) (vs.set i v) :=
  ⟨by simp [h.1], fun k x y h1 h2 => by
    rw [List.getElem?_set] at h1 h2
    by_cases e : i = k
    · subst e
      rw [if_pos rfl] at h1 h2
      split at h1
      · split at h2
        · cases h1; cases h2; exact r
        · cases h2
      · cases h1
    · rw [if_neg e] at h1 h2
      exact h.2 k x y h1 h2⟩
theorem VL.laid {ρ : Env} (off : Nat) : ∀ (xs ys : List Value) (j : Nat) (us vs : Array Value), VL ρ xs ys → VL ρ us.toList vs.toList →
    VL ρ ((xs.zipIdx j).foldl (fun cs (p : Value × Nat) => cs.setIfInBounds (off + p.2) p.1) us).toList ((ys.zipIdx j).foldl (fun cs (p : Value × Nat) => cs.setIfInBounds (off + p.2) p.1) vs).toList
  | [], ys, j, us, vs, h, k => by obtain rfl := h.nil_inv; exact k
  | x :: xs, ys, j, us, vs, h, k => by
    obtain ⟨y, ys, rfl, h1, h2⟩ := h.cons_inv
    simp only [List.zipIdx_cons, List.foldl_cons]
    refine VL.laid off xs ys (j + 1) _ _ h2 ?_
    rw [Array.toList_setIfInBounds, Array.toList_setIfInBounds]
    exact k.set h1 _
theorem fill_sound {ρ : Env} {place : Nat → Option (Nat × Nat)} : ∀ (ps : List Nat) (us vs : List Value) (cs ds r : Array Value), VL ρ us vs → VL ρ cs.toList ds.toList → Instr.fill place cs (ps.zip us) = some r →
    ∃ r', Instr.fill place ds (ps.zip vs) = some r' ∧ VL ρ r.toList r'.toList
  | [], us, vs, cs, ds, r, _, hc, h => by simp [Instr.fill] at h ⊢; subst h; exact hc
  | p :: ps, [], vs, cs, ds, r, hv, hc, h => by obtain rfl := hv.nil_inv; simp [Instr.fill] at h ⊢; subst h; exact hc
  | p :: ps, u :: us, vs, cs, ds, r, hv, hc, h => by
    obtain ⟨v, vs, rfl, h1, h2⟩ := hv.cons_inv
    simp only [List.zip_cons_cons, Instr.fill] at h ⊢
    cases hp : place p with
    | none => rw [hp] at h; cases h
    | some q =>
      obtain ⟨off, size⟩ := q
      rw [hp] at h
      have hs : u.cells.size = v.cells.size := by have := h1.cells.1; simpa using this
      have hcs : cs.size = ds.size := by have := hc.1; simpa using this
      simp only [hs, hcs] at h ⊢
      split at h
      · cases h
      · rename_i hn
        rw [if_neg hn]
        refine fill_sound ps us vs _ _ r h2 ?_ h
        have := VL.laid (ρ := ρ) off u.cells.toList v.cells.toList 0 cs ds h1.cells hc
        have e1 : ∀ (x : Array Value) (y : Array Value), x.zipIdx.foldl (fun cs (p : Value × Nat) => cs.setIfInBounds (off + p.2) p.1) y = (x.toList.zipIdx 0).foldl (fun cs (p : Value × Nat) => cs.setIfInBounds (off + p.2) p.1) y := fun x y => by
          rw [← Array.foldl_toList, Array.toList_zipIdx]
        simp only [e1]
        exact this
theorem zip_map (l : List (Nat × Operand)) (f : Operand → Value) : (l.map (·.1)).zip ((l.map (·.2)).map f) = l.map fun (i, x) => (i, f x) := by
  induction l with
  | nil => rfl
  | cons p l ih => simp only [List.map_cons, List.zip_cons_cons, ih]
theorem buildSlice_ok {t : TypeId} {len : Nat} {parts : Array (Nat × Operand)} (hT : TR ρ T a.tmps) (hG : Glob G ρ) (h : vals G T (parts.toList.map (·.2)) (fun vs => buildSliceC P N t len (List.zip (parts.toList.map (·.1)) vs)) = Rs.ok out) : OpOk P ⟨dst, .buildSlice t len parts, type, pos, after, guard⟩ ρ N out a w := by
  obtain ⟨us, h1, hv, _⟩ := vals_sound hT hG _ _ _ h
  unfold buildSliceC at h1
  split at h1
  · rename_i e sz b z hrow
    split at h1
    · rename_i l hfill
      cases hc : Nat.ble len 60000 with
      | false => rw [hc] at h1; cases h1
      | true =>
        rw [hc] at h1
        cases h1
        rw [Nat.ble_eq] at hc
        obtain ⟨hu, hs, hl, hsz, hz, i, hi, _⟩ := rowO_spec hrow
        obtain ⟨zv, hz1, hfl, hz2⟩ := run_zero hz
        obtain ⟨⟨r'⟩, hf2, hv2⟩ := fill_sound (ρ := ρ) _ _ _ _ ⟨(List.replicate len z).flatten⟩ _ hv ((hfl ρ).repl len) hfill
        refine ⟨Nat.le_succ N, fun hF ro mm K Q hK => wp_value (v := .slice (some ⟨w.heap.size, 0, none⟩) len len) (w' := { w with heap := w.heap.push (.cells ⟨r'⟩ e (0, 0)) }) ?_ (hK _ _ _ (new_sound (hF.free _) hv2) (.sl (setE_self ρ N _)))⟩
        have hzs : zv.cells.size = sz := by rw [← Array.length_toList, hz1, hl]
        have hsmall : ¬ (len * sz > 2 ^ 24) := by
          have : len * sz ≤ 60000 * 256 := Nat.mul_le_mul hc hsz
          omega
        simp only [execOp, Instr.buildSlice, underlying, Sem.run_bind, run_program, Result.andThen_ok, hu, Sem.run_pure, run_sizeOf hs, if_neg hsmall]
        have hpl : (parts.map fun (x : Nat × Operand) => match x with | (i, x) => (i, a.eval x)).toList = (parts.toList.map (·.1)).zip ((parts.toList.map (·.2)).map a.eval) := by
          rw [zip_map]; simp
        by_cases hn : len * sz = 0
        · have hfz : (List.replicate len z).flatten = [] := by
            apply List.length_eq_zero_iff.1
            simp [hl, hn]
          rw [hfz] at hf2
          have e0 : ∀ (f : Nat → Value), (Array.range 0).map f = ⟨[]⟩ := fun f => Array.ext' (by simp)
          simp only [hn, if_true, Sem.run_bind, Sem.run_pure, Result.andThen_ok, e0]
          simp only [hpl, hf2]
          simp [newRow]
        · simp only [if_neg hn, Sem.run_bind, hz2, Result.andThen_ok, Sem.run_pure]
          simp only [hpl]
          have e0 : ((Array.range (len * sz)).map fun x => zv.cells[x % zv.cells.size]!) = ⟨(List.replicate len z).flatten⟩ := by rw [← hz1, ← zrow, hzs]
          rw [e0, hf2]
          simp [newRow]
    · cases h1
  · cases h1
end ops
end Go.Proofs.YtadpelhmjmamnaaGreatDoor.Ev
