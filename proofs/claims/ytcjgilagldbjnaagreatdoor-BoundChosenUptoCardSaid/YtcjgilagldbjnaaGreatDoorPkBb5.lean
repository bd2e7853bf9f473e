/- The reckoner: make and slices' literals. The reckoner: copy. The reckoner: append. The reckoner: append, by names. The reckoner: what looks at no memory. -/
import Derived.Test.YtcjgilagldbjnaaGreatDoorPkBb4
namespace Go.Proofs.YtcjgilagldbjnaaGreatDoor
section
namespace Ev
open Go Go.RowKit
theorem zrep (z : List Value) : ∀ c, (List.range (c * z.length)).map (fun i => z.getD (i % z.length) default) = (List.replicate c z).flatten
 | 0 => by simp
 | c + 1 => by
  rw [Nat.add_mul, Nat.one_mul, Nat.add_comm, List.range_add, List.map_append, List.map_map, List.replicate_succ, List.flatten_cons, ← zrep z c]
  congr 1
  ·apply List.ext_getElem
   ·simp
   ·intro i h1 h2
    simp [Nat.mod_eq_of_lt h2, h2]
  ·apply List.map_congr_left
   intro i _
   simp
theorem zrow (z : Array Value) (c : Nat) : ((Array.range (c * z.size)).map fun i => z[i % z.size]!) = ⟨(List.replicate c z.toList).flatten⟩ := by
 rw [← zrep z.toList c]
 apply Array.ext'
 simp only [Array.toList_map, Array.toList_range, Array.length_toList]
 apply List.map_congr_left
 intro i _
 rcases Nat.lt_or_ge (i % z.size) z.size with h | h
 ·simp [List.getD, h]
 ·simp [List.getD, h]
theorem VL.repl {ρ : Env} {z : List Value} (h : VL ρ z z) : ∀ c, VL ρ (repl c z) (List.replicate c z).flatten
 | 0 => .nil ρ
 | c + 1 => by
  rw [List.replicate_succ, List.flatten_cons]
  exact h.append (VL.repl h c)
theorem rowO_spec {P : Program} {t e : TypeId} {sz b : Nat} {z : List Value} (h : rowO P t = some (e, sz, b, z)) :
  P.underlying t = some (.slice e) ∧ sizeO P e = some sz ∧ z.length = sz ∧ sz ≤ 256 ∧ zeroO P e = some z ∧ ∃ i, P.info? e = some i ∧ i.bytes = b := by
 unfold rowO at h
 split at h
 ·rename_i e' sz' hs
  unfold sliceO at hs
  split at hs
  ·rename_i e2 hu
   split at hs
   ·rename_i s2 hs2
    cases hs
    split at h
    ·rename_i i z' hi hz
     cases hc : (Nat.beq z'.length sz' && Nat.ble sz' 256) with
     | false => rw [hc] at h; cases h
     | true =>
      rw [hc] at h
      cases h
      rw [Bool.and_eq_true, Nat.beq_eq, Nat.ble_eq] at hc
      exact ⟨hu, hs2, hc.1, hc.2, hz, i, hi, rfl⟩
    ·cases h
   ·cases hs
  ·cases hs
 ·cases h
theorem wrap_small {c : Nat} (h : c ≤ 65536) : IntKind.i64.wrap (c : Int) = c := by
 have h1 : (c : Int) % (2 ^ 64 : Int) = c := by omega
 have h2 : ¬ ((c : Int) ≥ 2 ^ (64 - 1)) := by omega
 show (if (true && decide ((c : Int) % (2 ^ 64 : Int) ≥ 2 ^ (64 - 1))) = true then (c : Int) % (2 ^ 64 : Int) - 2 ^ 64 else (c : Int) % (2 ^ 64 : Int)) = c
 simp only [h1, h2, decide_false, Bool.and_false, Bool.false_eq_true, if_false]
section ops
variable {P : Program} {G : Nat} {ρ : Env} {T : PT Value} {H : HP} {N : Nat} {out : Out} {a : Act} {w : World} {dst : Option Tmp} {type : TypeId} {pos : String} {after : Array Edge} {guard : Option (Nat × Bool)}
theorem run_makeSlice {t e : TypeId} {sz b l c : Nat} {z : List Value} {j k : IntKind} (h : rowO P t = some (e, sz, b, z)) (h1 : l ≤ c) (h2 : c ≤ 65536) (h3 : b * c ≤ 281474976710656) :
  (Instr.makeSlice t (.int j (l : Int)) (.int k (c : Int))).run P w = .ok (.slice (some ⟨w.heap.size, 0, none⟩) l c) { w with heap := w.heap.push (.cells ⟨(List.replicate c z).flatten⟩ e (0, 0)) } := by
 obtain ⟨hu, hs, hl, hsz, hz, i, hi, rfl⟩ := rowO_spec h
 obtain ⟨zv, hz1, _, hz2⟩ := run_zero hz
 have e1 : IntKind.i64.wrap (c : Int) = c := wrap_small h2
 have e2 : IntKind.i64.wrap (l : Int) = l := wrap_small (by omega)
 have g3 : ¬ ((2 : Int) ^ 48 < (i.bytes : Int) * (c : Int)) := by
  have : (i.bytes : Int) * (c : Int) = ((i.bytes * c : Nat) : Int) := by simp
  rw [this]; omega
 have hzs : zv.cells.size = sz := by rw [← Array.length_toList, hz1, hl]
 simp only [Instr.makeSlice, underlying, typeInfo, Sem.run_bind, run_program, Result.andThen_ok, hu, hi, Sem.run_pure, asInt, asIntOf]
 rw [e1, e2]
 have c1 : ¬ ((c : Int) < 0) := by omega
 have c2 : ¬ ((l : Int) < 0) := by omega
 have c3 : ¬ ((l : Int) > c) := by omega
 simp only [c1, c2, c3, g3, decide_false, Bool.or_self, Bool.false_eq_true, if_false, gt_iff_lt, Int.toNat_natCast]
 simp only [Sem.run_bind, run_askRoom, Result.andThen_ok, run_sizeOf hs]
 by_cases hn : c * sz = 0
 ·have hfl : (List.replicate c z).flatten = [] := by
   apply List.length_eq_zero_iff.1
   simp [hl, hn]
  have e0 : ∀ (f : Nat → Value), (Array.range 0).map f = ⟨[]⟩ := fun f => Array.ext' (by simp)
  simp only [hn, if_true, Sem.run_bind, Sem.run_pure, Result.andThen_ok, e0, hfl]
  simp [newRow]
 ·simp only [if_neg hn, Sem.run_bind, hz2, Result.andThen_ok, Sem.run_pure]
  rw [← hzs, zrow, hz1]
  simp [newRow]
theorem makeSlice_ok {t : TypeId} {x y : Operand} (hT : TR ρ T a.tmps) (hG : Glob G ρ) (h : (match aeval G T x, aeval G T y with | some l, some c => makeSliceC P N t l c | _, _ => .bad 106) = Rs.ok out) : OpOk P ⟨dst, .makeSlice t x y, type, pos, after, guard⟩ ρ N out a w := by
 split at h
 ·rename_i u v hx hy
  have hrx := aeval_sound hT hG hx
  have hry := aeval_sound hT hG hy
  unfold makeSliceC at h
  split at h
  ·rename_i e sz b z j l k c hrow
   generalize hvx : a.eval x = vx at hrx
   generalize hvy : a.eval y = vy at hry
   cases hrx
   cases hry
   cases hc : (Nat.ble l c && Nat.ble c 65536 && Nat.ble (Nat.mul b c) 281474976710656) with
   | false => rw [hc] at h; cases h
   | true =>
    rw [hc] at h
    cases h
    simp only [Bool.and_eq_true, Nat.ble_eq] at hc
    obtain ⟨_, _, _, _, hz, _⟩ := rowO_spec hrow
    obtain ⟨_, _, hfl, _⟩ := run_zero hz
    refine ⟨Nat.le_succ N, fun hF ro mm K Q hK => wp_value (v := .slice (some ⟨w.heap.size, 0, none⟩) l c) (w' := { w with heap := w.heap.push (.cells ⟨(List.replicate c z).flatten⟩ e (0, 0)) }) ?_ (hK _ _ _ (new_sound (hF.free _) ((hfl ρ).repl c)) (.sl (setE_self ρ N _)))⟩
    have := run_makeSlice (P := P) (w := w) (j := j) (k := k) hrow hc.1.1 hc.1.2 hc.2
    simp only [execOp, hvx, hvy, Int.ofNat_eq_natCast, Sem.run_bind, this]
    rfl
  ·cases h
 ·cases h
theorem VL.set {ρ : Env} {us vs : List Value} {u v : Value} (h : VL ρ us vs) (r : VR ρ u v) (i : Nat) : VL ρ (us.set i u) (vs.set i v) :=
 ⟨by simp [h.1], fun k x y h1 h2 => by
  rw [List.getElem?_set] at h1 h2
  by_cases e : i = k
  ·subst e
   rw [if_pos rfl] at h1 h2
   split at h1
   ·split at h2
    ·cases h1; cases h2; exact r
    ·cases h2
   ·cases h1
  ·rw [if_neg e] at h1 h2
   exact h.2 k x y h1 h2⟩
theorem VL.laid {ρ : Env} (off : Nat) : ∀ (xs ys : List Value) (j : Nat) (us vs : Array Value), VL ρ xs ys → VL ρ us.toList vs.toList →
  VL ρ ((xs.zipIdx j).foldl (fun cs (p : Value × Nat) => cs.setIfInBounds (off + p.2) p.1) us).toList ((ys.zipIdx j).foldl (fun cs (p : Value × Nat) => cs.setIfInBounds (off + p.2) p.1) vs).toList
 | [], ys, j, us, vs, h, k => by obtain rfl := h.nil_inv; exact k
 | x :: xs, ys, j, us, vs, h, k => by
  obtain ⟨y, ys, rfl, h1, h2⟩ := h.cons_inv
  simp only [List.zipIdx_cons, List.foldl_cons]
  refine VL.laid off xs ys (j + 1) _ _ h2 ?_
  rw [Array.toList_setIfInBounds, Array.toList_setIfInBounds]
  exact k.set h1 _
theorem fill_sound {ρ : Env} {place : Nat → Option (Nat × Nat)} : ∀ (ps : List Nat) (us vs : List Value) (cs ds r : Array Value), VL ρ us vs → VL ρ cs.toList ds.toList → Instr.fill place cs (ps.zip us) = some r →
  ∃ r', Instr.fill place ds (ps.zip vs) = some r' ∧ VL ρ r.toList r'.toList
 | [], us, vs, cs, ds, r, _, hc, h => by simp [Instr.fill] at h ⊢; subst h; exact hc
 | p :: ps, [], vs, cs, ds, r, hv, hc, h => by obtain rfl := hv.nil_inv; simp [Instr.fill] at h ⊢; subst h; exact hc
 | p :: ps, u :: us, vs, cs, ds, r, hv, hc, h => by
  obtain ⟨v, vs, rfl, h1, h2⟩ := hv.cons_inv
  simp only [List.zip_cons_cons, Instr.fill] at h ⊢
  cases hp : place p with
  | none => rw [hp] at h; cases h
  | some q =>
   obtain ⟨off, size⟩ := q
   rw [hp] at h
   have hs : u.cells.size = v.cells.size := by have := h1.cells.1; simpa using this
   have hcs : cs.size = ds.size := by have := hc.1; simpa using this
   simp only [hs, hcs] at h ⊢
   split at h
   ·cases h
   ·rename_i hn
    rw [if_neg hn]
    refine fill_sound ps us vs _ _ r h2 ?_ h
    have := VL.laid (ρ := ρ) off u.cells.toList v.cells.toList 0 cs ds h1.cells hc
    have e1 : ∀ (x : Array Value) (y : Array Value), x.zipIdx.foldl (fun cs (p : Value × Nat) => cs.setIfInBounds (off + p.2) p.1) y = (x.toList.zipIdx 0).foldl (fun cs (p : Value × Nat) => cs.setIfInBounds (off + p.2) p.1) y := fun x y => by
     rw [← Array.foldl_toList, Array.toList_zipIdx]
    simp only [e1]
    exact this
theorem zip_map (l : List (Nat × Operand)) (f : Operand → Value) : (l.map (·.1)).zip ((l.map (·.2)).map f) = l.map fun (i, x) => (i, f x) := by
 induction l with
 | nil => rfl
 | cons p l ih => simp only [List.map_cons, List.zip_cons_cons, ih]
theorem buildSlice_ok {t : TypeId} {len : Nat} {parts : Array (Nat × Operand)} (hT : TR ρ T a.tmps) (hG : Glob G ρ) (h : vals G T (parts.toList.map (·.2)) (fun vs => buildSliceC P N t len (List.zip (parts.toList.map (·.1)) vs)) = Rs.ok out) : OpOk P ⟨dst, .buildSlice t len parts, type, pos, after, guard⟩ ρ N out a w := by
 obtain ⟨us, h1, hv, _⟩ := vals_sound hT hG _ _ _ h
 unfold buildSliceC at h1
 split at h1
 ·rename_i e sz b z hrow
  split at h1
  ·rename_i l hfill
   cases hc : Nat.ble len 60000 with
   | false => rw [hc] at h1; cases h1
   | true =>
    rw [hc] at h1
    cases h1
    rw [Nat.ble_eq] at hc
    obtain ⟨hu, hs, hl, hsz, hz, i, hi, _⟩ := rowO_spec hrow
    obtain ⟨zv, hz1, hfl, hz2⟩ := run_zero hz
    obtain ⟨⟨r'⟩, hf2, hv2⟩ := fill_sound (ρ := ρ) _ _ _ _ ⟨(List.replicate len z).flatten⟩ _ hv ((hfl ρ).repl len) hfill
    refine ⟨Nat.le_succ N, fun hF ro mm K Q hK => wp_value (v := .slice (some ⟨w.heap.size, 0, none⟩) len len) (w' := { w with heap := w.heap.push (.cells ⟨r'⟩ e (0, 0)) }) ?_ (hK _ _ _ (new_sound (hF.free _) hv2) (.sl (setE_self ρ N _)))⟩
    have hzs : zv.cells.size = sz := by rw [← Array.length_toList, hz1, hl]
    have hsmall : ¬ (len * sz > 2 ^ 24) := by
     have : len * sz ≤ 60000 * 256 := Nat.mul_le_mul hc hsz
     omega
    simp only [execOp, Instr.buildSlice, underlying, Sem.run_bind, run_program, Result.andThen_ok, hu, Sem.run_pure, run_sizeOf hs, if_neg hsmall]
    have hpl : (parts.map fun (x : Nat × Operand) => match x with | (i, x) => (i, a.eval x)).toList = (parts.toList.map (·.1)).zip ((parts.toList.map (·.2)).map a.eval) := by
     rw [zip_map]; simp
    by_cases hn : len * sz = 0
    ·have hfz : (List.replicate len z).flatten = [] := by
      apply List.length_eq_zero_iff.1
      simp [hl, hn]
     rw [hfz] at hf2
     have e0 : ∀ (f : Nat → Value), (Array.range 0).map f = ⟨[]⟩ := fun f => Array.ext' (by simp)
     simp only [hn, if_true, Sem.run_bind, Sem.run_pure, Result.andThen_ok, e0]
     simp only [hpl, hf2]
     simp [newRow]
    ·simp only [if_neg hn, Sem.run_bind, hz2, Result.andThen_ok, Sem.run_pure]
     simp only [hpl]
     have e0 : ((Array.range (len * sz)).map fun x => zv.cells[x % zv.cells.size]!) = ⟨(List.replicate len z).flatten⟩ := by rw [← hz1, ← zrow, hzs]
     rw [e0, hf2]
     simp [newRow]
  ·cases h1
 ·cases h1
end ops
end Ev
end
section
namespace Ev
open Go Go.RowKit
section ops
variable {P : Program} {G : Nat} {ρ : Env} {T : PT Value} {H : HP} {N : Nat} {out : Out} {a : Act} {w : World} {dst : Option Tmp} {type : TypeId} {pos : String} {after : Array Edge} {guard : Option (Nat × Bool)}
theorem cells_sound {β : Type} {sz n : Nat} {u v : Value} {k : List Value → Rs β} {r : β} (hS : Sat P ρ H w) (hr : VR ρ u v) (h : cellsC H sz u n k = .ok r) :
  ∃ us vs, k us = .ok r ∧ (∀ w' : World, Below w.heap.size w w' → (Builtin.firstCells sz n v).run P w' = .ok ⟨vs⟩ w') ∧ VL ρ us vs := by
 unfold cellsC at h
 have nilcase : ∀ l c, v = .slice none l c → (Nat.rec (motive := fun _ => Rs β) (k []) (fun _ _ => .bad 31) n : Rs β) = .ok r → ∃ us vs, k us = .ok r ∧ (∀ w' : World, Below w.heap.size w w' → (Builtin.firstCells sz n v).run P w' = .ok ⟨vs⟩ w') ∧ VL ρ us vs := fun l c hv h => by
  subst hv
  cases n with
  | zero => exact ⟨[], [], h, fun _ _ => rfl, .nil ρ⟩
  | succ n => cases h
 have some_case : ∀ m o b C l c, ρ m = some (b, C) → v = .slice (some ⟨b, o, none⟩) l c → (match H.get m with | some (.cells _ _ l) => takeK (dropN l o) (n * sz) k (.bad 32) | _ => .bad 33) = Rs.ok r → ∃ us vs, k us = .ok r ∧ (∀ w' : World, Below w.heap.size w w' → (Builtin.firstCells sz n v).run P w' = .ok ⟨vs⟩ w') ∧ VL ρ us vs := fun m o b C l c hm hv h => by
  subst hv
  split at h
  ·rename_i g e l hb
   obtain ⟨a', C', h1, cs, h2, h3, h4, h5⟩ := hS.blk m _ hb
   rw [hm] at h1; cases h1
   rw [takeK_eq, dropN_eq] at h
   split at h
   ·rename_i hle
    simp only [List.length_drop] at hle
    have hlen : l.length ≤ cs.length := by have := h3.1; simp at this; omega
    rcases Nat.eq_zero_or_pos (n * sz) with h0 | hpos
    ·refine ⟨[], [], by simpa [h0] using h, fun w' _ => ?_, .nil ρ⟩
     simp [Builtin.firstCells, h0, loadCells, loadCellsFrom]
    ·refine ⟨_, (cs.drop o).take (n * sz), h, fun w' hb' => ?_, ?_⟩
     ·have h2' : w'.heap[b]? = some (.cells ⟨cs⟩ e (0, 0)) := by rw [hb'.block b (hS.lt m b C hm)]; exact h2
      simp only [Builtin.firstCells, run_loadCells_at h2' (show o + n * sz ≤ cs.length by omega)]
     ·have := (h3.drop o).take (n * sz)
      rwa [List.drop_take, List.take_take, Nat.min_eq_left (by omega)] at this
   ·cases h
  ·cases h
 cases hr with
 | nils l c => exact nilcase l c rfl h
 | sl e => exact some_case _ _ _ _ _ _ e rfl h
 | soft e h1 h2 h3 => exact some_case _ _ _ _ _ _ e rfl h
 | string s =>
  refine ⟨_, (s.extract 0 n).data.toList.map (fun b => .int .u8 b.toNat), h, fun w' _ => ?_, rfl, fun i u v h1 h2 => ?_⟩
  ·simp only [Builtin.firstCells, Sem.run_pure]
   congr 1
   apply Array.ext'
   simp
  rw [h1] at h2; cases h2
  rw [List.getElem?_map] at h1
  cases hx : (s.extract 0 n).data.toList[i]? with
  | none => rw [hx] at h1; cases h1
  | some b => rw [hx] at h1; cases h1; constructor
 | _ => cases h
theorem len_sound {β : Type} {u v : Value} {k : Nat → Rs β} {r : β} (hr : VR ρ u v) (h : lenC u k = .ok r) : ∃ n, k n = .ok r ∧ ∀ w : World, (Builtin.lenOf v).run P w = .ok n w := by
 cases hr with
 | nils l c => exact ⟨_, h, fun _ => rfl⟩
 | sl e => exact ⟨_, h, fun _ => rfl⟩
 | soft e h1 h2 h3 => exact ⟨_, h, fun _ => rfl⟩
 | string s => exact ⟨_, h, fun _ => rfl⟩
 | _ => cases h
theorem sliceO_spec {t e : TypeId} {sz : Nat} (h : sliceO P t = some (e, sz)) : P.underlying t = some (.slice e) ∧ sizeO P e = some sz := by
 unfold sliceO at h
 split at h
 ·rename_i e2 hu
  split at h
  ·rename_i s2 hs2; cases h; exact ⟨hu, hs2⟩
  ·cases h
 ·cases h
theorem run_call_builtin {b : Builtin} {args : Array Operand} {ts : Array TypeId} {v : Value} {w' : World} (hb : ∀ consts, (builtin b ts type consts (args.map a.eval)).run P w = .ok (.value v) w') :
  (execOp a.eval ⟨dst, .call { callee := .builtin b, args, argTypes := ts }, type, pos, after, guard⟩).run P w = .ok (.value v) w' := by
 simp only [execOp, resolve, Sem.run_bind, Sem.run_pure, Result.andThen_ok, invoke]
 exact hb _
theorem ble_false {m n : Nat} (h : Nat.ble m n = false) : n < m := by
 rcases Nat.lt_or_ge n m with h2 | h2
 ·exact h2
 ·rw [Nat.ble_eq_true_of_le h2] at h; cases h
theorem VR.slice {u v : Value} {base : Option Addr} {l c : Nat} (hr : VR ρ u v) (hu : u = .slice base l c) : ∃ bs c', v = .slice bs l c' ∧ (base = none → bs = none ∧ c' = c) ∧
  ∀ b o s, base = some ⟨b, o, s⟩ → ∃ ba C, bs = some ⟨ba, o, none⟩ ∧ ρ b = some (ba, C) ∧ (s = none → c' = c) ∧ (∀ q, s = some q → c = l ∧ l ≤ c' ∧ (o = 0 → c' = C)) := by
 subst hu
 cases hr with
 | nils l c => exact ⟨none, _, rfl, fun _ => ⟨rfl, rfl⟩, fun b o s h => (by cases h)⟩
 | sl e => exact ⟨_, _, rfl, fun h => (by cases h), fun b o s h => by cases h; exact ⟨_, _, rfl, e, fun _ => rfl, fun q h => by cases h⟩⟩
 | soft e h1 h2 h3 => exact ⟨_, _, rfl, fun h => (by cases h), fun b o s h => by cases h; exact ⟨_, _, rfl, e, fun h => (by cases h), fun q _ => ⟨h1, h2, h3⟩⟩⟩
theorem lay_sound {b off ba C : Nat} {us vs : List Value} {u : Value} (hS : Sat P ρ H w) (hb : ρ b = some (ba, C)) (hN : ∀ n b, H.get n = some b → n < N) (hv : VL ρ us vs) (h : layC H N b off us u = .ok out) :
  ∃ H' w', out = .w u H' N b ∧ (storeCells ⟨ba, off, none⟩ vs).run P w = .ok () w' ∧ Wrote P ρ ρ N N b H' w w' := by
 unfold layC at h
 split at h
 ·rename_i g e l hg
  cases hc : us.all oneC with
  | false => rw [hc] at h; cases h
  | true =>
   rw [hc] at h
   simp only [cond_true, spliceK_eq] at h
   split at h
   ·rename_i hle
    rcases PT.insK_spec 60 H b (some (AB.cells g e (l.take off ++ us ++ l.drop (off + us.length)))) with hbad | ⟨H', hok, hget⟩
    ·rw [hbad] at h; cases h
    ·rw [hok] at h
     cases h
     obtain ⟨w', hrun, hW⟩ := splice_sound (N := N) hS hg hb hN hle hget hv hc
     exact ⟨H', w', rfl, hrun, hW⟩
   ·cases h
 ·cases h
theorem copy_ok {x y : Operand} {st xt : TypeId} (hS : Sat P ρ H w) (hT : TR ρ T a.tmps) (hG : Glob G ρ) (hN : ∀ n b, H.get n = some b → n < N)
  (h : (match aeval G T x, aeval G T y with | some s, some v => copyC P H N st s v | _, _ => .bad 109) = Rs.ok out) : OpOk P ⟨dst, .call { callee := .builtin .copy, args := ⟨[x, y]⟩, argTypes := ⟨[st, xt]⟩ }, type, pos, after, guard⟩ ρ N out a w := by
 split at h
 ·rename_i u v hx hy
  have hrx := aeval_sound hT hG hx
  have hry := aeval_sound hT hG hy
  unfold copyC at h
  split at h
  ·rename_i e sz base dl cap hso
   obtain ⟨hu, hs⟩ := sliceO_spec hso
   obtain ⟨m, h1, hlen⟩ := len_sound (P := P) hry h
   rw [forceN_eq] at h1
   obtain ⟨us, vs, h2, hcells, hv⟩ := cells_sound hS hry h1
   have hmin : cond (Nat.ble m dl) m dl = Nat.min m dl := by
    cases hb : Nat.ble m dl with
    | true => exact (Nat.min_eq_left (Nat.le_of_ble_eq_true hb)).symm
    | false => exact (Nat.min_eq_right (Nat.le_of_lt (ble_false hb))).symm
   rw [hmin] at h2 hcells
   obtain ⟨bs, cap', hax, hnone, hbase⟩ := hrx.slice rfl
   have hrun : ∀ (w' : World), (∀ ba, bs = some ba → (storeCells ba vs).run P w = .ok () w') → (bs = none → w' = w) → ∀ consts, (builtin .copy ⟨[st, xt]⟩ type consts ((⟨[x, y]⟩ : Array Operand).map a.eval)).run P w = .ok (.value (.int .i64 (Nat.min m dl : Nat))) w' := fun w' hst hno consts => by
    have hargs : (⟨[x, y]⟩ : Array Operand).map a.eval = #[a.eval x, a.eval y] := Array.ext' (by simp)
    rw [hargs, hax]
    simp only [builtin, Builtin.copy_, Sem.run_bind]
    simp only [underlying, Sem.run_bind, run_program, Result.andThen_ok, hu, Sem.run_pure, List.getElem?_toArray, List.getElem?_cons_zero, List.getElem?_cons_succ, hlen, run_sizeOf hs, hcells w (.refl _ _)]
    cases bs with
    | none => simp [hno rfl, goInt]
    | some ba => simp [hst ba rfl, goInt]
   split at h2
   ·cases h2
    obtain rfl := hv.nil_inv
    exact ⟨Nat.le_refl _, fun hF ro mm K Q hK => wp_value (w' := w) (run_call_builtin (hrun w (fun ba _ => rfl) (fun _ => rfl))) (hK _ _ _ (.refl P ρ N w) (.int _ _))⟩
   ·split at h2
    ·rename_i b o s
     obtain ⟨ba, C, rfl, hb, _⟩ := hbase b o s rfl
     obtain ⟨H', w', rfl, hst, hW⟩ := lay_sound hS hb hN hv h2
     exact ⟨Nat.le_refl _, fun hF ro mm K Q hK => wp_value (w' := w') (run_call_builtin (hrun w' (fun ba' e => by cases e; exact hst) (fun h => by cases h))) (hK _ _ _ hW (.int _ _))⟩
    ·cases h2
  ·cases h
 ·cases h
end ops
end Ev
end
section
namespace Ev
open Go Go.RowKit
theorem growBy_le (n : Nat) : ∀ (r c : Nat), Builtin.growBy n r c ≤ max c (n + (n + 768) / 4)
 | 0, c => by simp only [Builtin.growBy]; omega
 | r + 1, c => by
  simp only [Builtin.growBy]
  split
  ·omega
  ·have := growBy_le n r (c + (c + 768) / 4)
   omega
theorem next_le {need sc : Nat} (h : sc < need) (hn : need ≤ 65536) : Builtin.nextslicecap need sc ≤ 131072 := by
 unfold Builtin.nextslicecap
 split
 ·omega
 ·split
  ·omega
  ·have := growBy_le need 4 sc
   omega
theorem notInt_spec {P : Program} {t : TypeId} (h : notInt P t = true) : ∃ d, P.underlying t = some d ∧ ∀ k, d ≠ .int k := by
 unfold notInt at h
 cases hu : P.underlying t with
 | none => rw [hu] at h; cases h
 | some d => rw [hu] at h; exact ⟨d, rfl, fun k e => by subst e; cases h⟩
theorem zeroCells_length (z : Array Value) (n : Nat) : (Builtin.zeroCells z n).size = n * z.size := by simp [Builtin.zeroCells]
theorem bind_ok {P : Program} {α β : Type} {s : Sem α} {f : α → Sem β} {w w' : World} {a : α} (h : s.run P w = .ok a w') : (s >>= f).run P w = (f a).run P w' := by rw [Sem.run_bind, h]; rfl
section ops
variable {P : Program} {G : Nat} {ρ : Env} {T : PT Value} {H : HP} {N : Nat} {out : Out} {a : Act} {w : World} {dst : Option Tmp} {type : TypeId} {pos : String} {after : Array Edge} {guard : Option (Nat × Bool)}
theorem run_append {st xt e : TypeId} {sz by_ n sl sc : Nat} {z : List Value} {bs : Option Addr} {v : Value} (hrow : rowO P st = some (e, sz, by_, z)) (hx : notInt P xt = true) (hlen : ∀ w : World, (Builtin.lenOf v).run P w = .ok n w)
  (hby : by_ ≤ 65536) (hneed : sl + n ≤ 65536) (zv : Value) (hz2 : ∀ w, (zeroValue e).run P w = .ok zv w) :
  (Builtin.append_ #[st, xt] type #[.slice bs sl sc, v]).run P w = if sl + n ≤ sc then
   ((Builtin.firstCells sz n v).run P w).andThen (fun new w => (match bs with | some a => (storeCells (a.add (sl * sz)) new.toList).run P w | none => .ok () w).andThen fun _ w => .ok (.slice bs (sl + n) sc) w)
  else ((Builtin.firstCells sz sl (.slice bs sl sc)).run P { w with drawn := w.drawn + 1 }).andThen (fun old w2 => ((Builtin.firstCells sz n v).run P w2).andThen fun new w2 =>
   .ok (.slice (some ⟨w2.heap.size, 0, none⟩) (sl + n) (sl + n + (w.tape w.drawn (.appendCap (sl + n) sc e)) % (2 ^ 63 - (sl + n)))) { w2 with heap := w2.heap.push (.cells (old ++ new ++ Builtin.zeroCells zv.cells (sl + n + (w.tape w.drawn (.appendCap (sl + n) sc e)) % (2 ^ 63 - (sl + n)) - (sl + n))) e (0, 0)) }) := by
 obtain ⟨hu, hs, hl, hsz, hz, i, hi, rfl⟩ := rowO_spec hrow
 obtain ⟨d, hd, hdi⟩ := notInt_spec hx
 have run_under : ∀ {t : TypeId} {d : TypeDesc}, P.underlying t = some d → ∀ w : World, (underlying t).run P w = .ok d w := fun h w => by simp [underlying, h]
 have run_info : ∀ {t : TypeId} {i : TypeInfo}, P.info? t = some i → ∀ w : World, (typeInfo t).run P w = .ok i w := fun h w => by simp [typeInfo, h]
 unfold Builtin.append_
 simp only [List.getElem?_toArray, List.getElem?_cons_zero, List.getElem?_cons_succ]
 refine (bind_ok (run_under hu w)).trans ?_
 simp only []
 refine (bind_ok (run_sizeOf hs w)).trans ?_
 refine (bind_ok (run_under hd w)).trans ?_
 refine (bind_ok (a := false) (w' := w) ?_).trans ?_
 ·cases d <;> first | rfl | exact absurd rfl (hdi _)
 simp only [Bool.false_eq_true, if_false]
 refine (bind_ok (hlen w)).trans ?_
 by_cases hr : sl + n ≤ sc
 ·rw [if_pos hr]
  rw [if_pos hr]
  cases bs with
  | none => simp
  | some a => simp
 ·rw [if_neg hr]
  have hlt : sc < sl + n := by omega
  have g1 : ¬ (((sl + n : Nat) : Int) > IntKind.i64.max) := by
   have : IntKind.i64.max = 9223372036854775807 := by decide
   omega
  have g2 : ¬ (Builtin.nextslicecap (sl + n) sc * i.bytes > 2 ^ 48) := by
   have h1 := next_le hlt hneed
   have : Builtin.nextslicecap (sl + n) sc * i.bytes ≤ 131072 * 65536 := Nat.mul_le_mul h1 hby
   omega
  rw [if_neg hr]
  refine (bind_ok (run_info hi w)).trans ?_
  rw [if_neg (fun h => g1 h.1)]
  refine (bind_ok (run_info hi w)).trans ?_
  rw [if_neg g2]
  refine (bind_ok (a := (Question.appendCap (sl + n) sc e).cut (w.tape w.drawn (.appendCap (sl + n) sc e))) (w' := { w with drawn := w.drawn + 1 }) (by rw [run_choose]; rfl)).trans ?_
  refine (bind_ok (run_info hi _)).trans ?_
  refine (bind_ok (run_askRoom P _ _)).trans ?_
  simp only [Bool.not_false, if_true, Sem.run_bind, hz2, newRow, run_newObj, Sem.run_pure, Result.andThen_ok]
  rfl
end ops
end Ev
end
section
namespace Ev
open Go Go.RowKit
section ops
variable {P : Program} {G : Nat} {ρ : Env} {T : PT Value} {H : HP} {N : Nat} {out : Out} {a : Act} {w : World} {dst : Option Tmp} {type : TypeId} {pos : String} {after : Array Edge} {guard : Option (Nat × Bool)}
theorem grown_sound {e : TypeId} {sz need cap : Nat} {us vs : List Value} {zc cells : Array Value} (hF : Free ρ N (N + 1)) (hcells : cells.toList = vs ++ zc.toList) (hv : VL ρ us vs) (hl : us.length = need * sz) (hc : need ≤ cap) (hs : sizeO P e = some sz) (hz : zc.size = (cap - need) * sz) :
  Grew P ρ (setE ρ N (w.heap.size, cap)) N (N + 1) [(N, .cells true e us)] w { w with heap := w.heap.push (.cells cells e (0, 0)), drawn := w.drawn + 1 } := by
 refine Grew.one hF ⟨rfl, rfl, rfl, by simp, fun k hk => ?_⟩ (by simp) ?_
 ·show (w.heap.push _)[k]? = _
  rw [Array.getElem?_push, if_neg (by omega)]
 ·refine ⟨vs ++ zc.toList, ?_, ?_, fun h => (by cases h), fun _ => ⟨sz, hs, ?_⟩⟩
  ·show (w.heap.push _)[w.heap.size]? = _
   rw [Array.getElem?_push, if_pos rfl, ← hcells]
  ·rw [hv.1, List.take_left]
   exact hv.mono (setE_ext (hF N (Nat.le_refl _) (by omega)))
  ·show (vs ++ zc.toList).length = _
   have hz' : zc.toList.length = (cap - need) * sz := by simpa using hz
   rw [List.length_append, hz', ← hv.1, hl, ← Nat.add_mul]
   congr 1
   omega
theorem append_ok {x y : Operand} {st xt : TypeId} (hS : Sat P ρ H w) (hT : TR ρ T a.tmps) (hG : Glob G ρ) (hN : ∀ n b, H.get n = some b → n < N)
  (h : (match aeval G T x, aeval G T y with | some s, some v => appendC P H N st xt s v | _, _ => .bad 108) = Rs.ok out) : OpOk P ⟨dst, .call { callee := .builtin .append, args := ⟨[x, y]⟩, argTypes := ⟨[st, xt]⟩ }, type, pos, after, guard⟩ ρ N out a w := by
 split at h
 ·rename_i u v hx hy
  have hrx := aeval_sound hT hG hx
  have hry := aeval_sound hT hG hy
  unfold appendC at h
  split at h
  ·rename_i e sz by_ z base sl sc hrow
   obtain ⟨m, h1, hlen⟩ := len_sound (P := P) hry h
   obtain ⟨us, vs, h2, hcells, hv⟩ := cells_sound hS hry h1
   rw [forceN_eq] at h2
   cases hc : (notInt P xt && Nat.ble (Nat.add sl m) 65536 && Nat.ble by_ 65536 && Nat.blt 0 by_) with
   | false => rw [hc] at h2; cases h2
   | true =>
    rw [hc] at h2
    simp only [cond_true] at h2
    simp only [Bool.and_eq_true] at hc
    obtain ⟨⟨⟨hni, hneed⟩, hby⟩, _⟩ := hc
    have hneed : sl + m ≤ 65536 := Nat.le_of_ble_eq_true hneed
    have hby : by_ ≤ 65536 := Nat.le_of_ble_eq_true hby
    obtain ⟨hu, hs, hzl, _, hz, _⟩ := rowO_spec hrow
    obtain ⟨zv, hz1, _, hz2⟩ := run_zero hz
    obtain ⟨bs, sc', hax, hnone, hbase⟩ := hrx.slice rfl
    have hargs : (⟨[x, y]⟩ : Array Operand).map a.eval = #[.slice bs sl sc', a.eval y] := Array.ext' (by simp [hax])
    have hrun : ∀ (r : Value) (w' : World), (Builtin.append_ #[st, xt] type #[.slice bs sl sc', a.eval y]).run P w = .ok r w' → ∀ consts, (builtin .append ⟨[st, xt]⟩ type consts ((⟨[x, y]⟩ : Array Operand).map a.eval)).run P w = .ok (.value r) w' := fun r w' h consts => by
     rw [hargs]
     simp only [builtin, Sem.run_bind, h]
     rfl
    have happ := run_append (P := P) (w := w) (type := type) (bs := bs) (sc := sc') hrow hni hlen hby hneed zv hz2
    have hdrew : Below w.heap.size w { w with drawn := w.drawn + 1 } := ⟨rfl, rfl, rfl, Nat.le_refl _, fun _ _ => rfl⟩
    -- what stands there, with what is appended, in a row of its own
    have hnewrow : ∀ (old old' : List Value), (∀ w' : World, Below w.heap.size w w' → (Builtin.firstCells sz sl (.slice bs sl sc')).run P w' = .ok ⟨old'⟩ w') → VL ρ old old' → (old ++ us).length = (sl + m) * sz → sc' < sl + m →
      ∃ cap cells w', (Builtin.append_ #[st, xt] type #[.slice bs sl sc', a.eval y]).run P w = .ok (.slice (some ⟨w.heap.size, 0, none⟩) (sl + m) cap) w' ∧ w' = { w with heap := w.heap.push (.cells cells e (0, 0)), drawn := w.drawn + 1 } ∧ sl + m ≤ cap ∧
       (Free ρ N (N + 1) → Grew P ρ (setE ρ N (w.heap.size, cap)) N (N + 1) [(N, .cells true e (old ++ us))] w w') := fun old old' hold hvo hl hsc => by
     rw [if_neg (by omega), hold _ hdrew] at happ
     simp only [Result.andThen_ok] at happ
     rw [hcells _ hdrew] at happ
     simp only [Result.andThen_ok] at happ
     refine ⟨_, _, _, happ, rfl, Nat.le_add_right _ _, fun hF => ?_⟩
     refine grown_sound (vs := old' ++ vs) (zc := Builtin.zeroCells zv.cells (sl + m + (w.tape w.drawn (.appendCap (sl + m) sc' e)) % (2 ^ 63 - (sl + m)) - (sl + m))) hF (by simp) (hvo.append hv) hl (Nat.le_add_right _ _) hs ?_
     rw [zeroCells_length, ← Array.length_toList, hz1, hzl]
    have hgrownC : ∀ (old old' : List Value), (∀ w' : World, Below w.heap.size w w' → (Builtin.firstCells sz sl (.slice bs sl sc')).run P w' = .ok ⟨old'⟩ w') → VL ρ old old' → sc' < sl + m → grownC N e sz (old ++ us) (Nat.add sl m) = .ok out →
      OpOk P ⟨dst, .call { callee := .builtin .append, args := ⟨[x, y]⟩, argTypes := ⟨[st, xt]⟩ }, type, pos, after, guard⟩ ρ N out a w := fun old old' hold hvo hsc hgr => by
     unfold grownC at hgr
     cases hb : Nat.beq (old ++ us).length (Nat.mul (Nat.add sl m) sz) with
     | false => rw [hb] at hgr; cases hgr
     | true =>
      rw [hb] at hgr
      cases hgr
      obtain ⟨cap, cells, w', hr, _, hcap, hg⟩ := hnewrow old old' hold hvo (Nat.eq_of_beq_eq_true hb) hsc
      exact ⟨Nat.le_succ N, fun hF ro mm K Q hK => wp_value (run_call_builtin (hrun _ _ hr)) (hK _ _ _ (hg (hF.free _)) (.soft (setE_self ρ N _) rfl hcap (fun _ => rfl)))⟩
    split at h2
    ·-- nil
     obtain ⟨rfl, rfl⟩ := hnone rfl
     cases hz0 : (Nat.beq sl 0 && Nat.beq sc' 0) with
     | false => rw [hz0] at h2; cases h2
     | true =>
      rw [hz0] at h2
      simp only [Bool.and_eq_true, Nat.beq_eq] at hz0
      obtain ⟨rfl, rfl⟩ := hz0
      simp only [cond_true] at h2
      cases hm : Nat.beq m 0 with
      | true =>
       rw [hm] at h2
       cases h2
       obtain rfl : m = 0 := Nat.eq_of_beq_eq_true hm
       rw [if_pos (by omega), hcells _ (.refl _ _)] at happ
       simp only [Result.andThen_ok] at happ
       exact ⟨Nat.le_refl _, fun hF ro mm K Q hK => wp_value (run_call_builtin (hrun _ _ happ)) (hK _ _ _ (.refl P ρ N w) (.nils _ _))⟩
      | false =>
       rw [hm] at h2
       have hm0 : 0 < m := by
        rcases Nat.eq_zero_or_pos m with h | h
        ·subst h; cases hm
        ·exact h
       exact hgrownC [] [] (fun w' _ => rfl) (.nil ρ) (by omega) h2
    ·-- a known capacity
     rename_i b o
     obtain ⟨ba, C, rfl, hb, hsc, _⟩ := hbase b o none rfl
     obtain rfl := hsc rfl
     cases hle : Nat.ble (Nat.add sl m) sc' with
     | true =>
      rw [hle] at h2
      have hle : sl + m ≤ sc' := Nat.le_of_ble_eq_true hle
      rw [if_pos hle, hcells _ (.refl _ _)] at happ
      simp only [Result.andThen_ok] at happ
      simp only [cond_true] at h2
      split at h2
      ·cases h2
       obtain rfl := hv.nil_inv
       exact ⟨Nat.le_refl _, fun hF ro mm K Q hK => wp_value (run_call_builtin (hrun _ _ happ)) (hK _ _ _ (.refl P ρ N w) (.sl hb))⟩
      ·obtain ⟨H', w', rfl, hst, hW⟩ := lay_sound hS hb hN hv h2
       have hst' : (storeCells ((⟨ba, o, none⟩ : Addr).add (sl * sz)) vs).run P w = .ok () w' := by rw [add_off]; exact hst
       simp only [hst', Result.andThen_ok] at happ
       exact ⟨Nat.le_refl _, fun hF ro mm K Q hK => wp_value (run_call_builtin (hrun _ _ happ)) (hK _ _ _ hW (.sl hb))⟩
     | false =>
      rw [hle] at h2
      have hlt : sc' < sl + m := ble_false hle
      simp only [cond_false] at h2
      rw [← hax] at hgrownC
      obtain ⟨old, old', h3, hold, hvo⟩ := cells_sound hS hrx h2
      rw [appK_eq] at h3
      exact hgrownC old old' hold hvo hlt h3
    ·-- a capacity that is not known
     rename_i b o q
     obtain ⟨ba, C, rfl, hb, _, hq⟩ := hbase b o (some q) rfl
     obtain ⟨hsl, hlc, hC⟩ := hq q rfl
     cases hm : Nat.beq m 0 with
     | true =>
      rw [hm] at h2
      simp only [cond_true] at h2
      split at h2
      ·cases h2
       obtain rfl := hv.nil_inv
       obtain rfl : m = 0 := Nat.eq_of_beq_eq_true hm
       rw [if_pos (by omega), hcells _ (.refl _ _)] at happ
       simp only [Result.andThen_ok] at happ
       exact ⟨Nat.le_refl _, fun hF ro mm K Q hK => wp_value (run_call_builtin (hrun _ _ happ)) (hK _ _ _ (.refl P ρ N w) (.soft hb hsl hlc hC))⟩
      ·cases h2
     | false =>
      rw [hm] at h2
      simp only [cond_false] at h2
      cases ho : Nat.beq o 0 with
      | false => rw [ho] at h2; cases h2
      | true =>
       rw [ho] at h2
       obtain rfl : o = 0 := Nat.eq_of_beq_eq_true ho
       obtain rfl := hC rfl
       simp only [cond_true] at h2
       split at h2
       ·rename_i e' l hg
        cases hc2 : (Nat.beq e' e && us.all oneC) with
        | false => rw [hc2] at h2; cases h2
        | true =>
         rw [hc2] at h2
         rw [Bool.and_eq_true] at hc2
         obtain ⟨he', hone⟩ := hc2
         obtain rfl : e' = e := Nat.eq_of_beq_eq_true he'
         simp only [cond_true, takeK_eq, appK_eq] at h2
         split at h2
         ·rename_i hle
          cases hln : Nat.beq (l.take (sl * sz) ++ us).length (Nat.mul (Nat.add sl m) sz) with
          | false => rw [hln] at h2; cases h2
          | true =>
           rw [hln] at h2
           have hln : (l.take (sl * sz) ++ us).length = (sl + m) * sz := Nat.eq_of_beq_eq_true hln
           simp only [cond_true] at h2
           rcases PT.insK_spec 60 H b (none : Option AB) with hbad | ⟨H1, hok1, hget1⟩
           ·rw [hbad] at h2; cases h2
           ·rw [hok1] at h2
            rcases PT.insK_spec 60 H1 N (some (AB.cells true e' (l.take (sl * sz) ++ us))) with hbad | ⟨H2, hok2, hget2⟩
            ·rw [hbad] at h2; cases h2
            ·rw [hok2] at h2
             cases h2
             have hbN := hN b _ hg
             obtain ⟨ba', C', hb', cs, hcs, hvl, _, hC2⟩ := hS.blk b _ hg
             rw [hb] at hb'; cases hb'
             obtain ⟨sz', hs', hcl⟩ := hC2 rfl
             rw [hs] at hs'; cases hs'
             have hlen2 : l.length ≤ cs.length := by have := hvl.1; simp at this; omega
             have hvo : VL ρ (l.take (sl * sz)) (cs.take (sl * sz)) := by
              have := hvl.take (sl * sz)
              rwa [List.take_take, Nat.min_eq_left hle] at this
             have hget : ∀ n, H2.get n = if n = N then some (.cells true e' (l.take (sl * sz) ++ us)) else if n = b then none else H.get n := fun n => by rw [hget2, hget1]
             have hnamed : ∀ n b', H2.get n = some b' → n < N.succ := fun n b' hn => by
              rw [hget] at hn
              by_cases e1 : n = N
              ·rw [e1]; exact Nat.lt_succ_self N
              ·rw [if_neg e1] at hn
               split at hn
               ·cases hn
               ·exact Nat.lt_succ_of_lt (hN n b' hn)
             refine ⟨Nat.le_succ N, fun hD => ?_⟩
             have hF : Free ρ N (N + 1) := hD.free _
             have hFN := hF N (Nat.le_refl _) (Nat.lt_succ_self _)
             rcases Nat.lt_or_ge sc' (sl + m) with hlt | hge
             ·-- a row of its own
              have hold : ∀ w' : World, Below w.heap.size w w' → (Builtin.firstCells sz sl (.slice (some ⟨ba, 0, none⟩) sl sc')).run P w' = .ok ⟨cs.take (sl * sz)⟩ w' := fun w' hb' => by
               have hcs' : w'.heap[ba]? = some (.cells ⟨cs⟩ e' (0, 0)) := by rw [hb'.block ba (hS.lt b ba _ hb)]; exact hcs
               have := run_loadCells_at (P := P) (off := 0) (s := sl * sz) hcs' (by omega)
               simpa [Builtin.firstCells] using this
              obtain ⟨cap, cells, w', hr, hw', hcap, hgr⟩ := hnewrow _ _ hold hvo hln hlt
              have hg' := hgr hF
              intro ro mm K Q hK
              refine wp_value (run_call_builtin (hrun _ _ hr)) (hK _ _ (setE ρ N (w.heap.size, cap)) ?_ (.soft (setE_self ρ N _) rfl hcap (fun _ => rfl)))
              have hsat := hg'.sat (H := H) (H' := H2) hS hF (fun n b' hn => by
               rw [hget] at hn
               by_cases e1 : n = N
               ·subst e1; rw [if_pos rfl] at hn; cases hn; exact .inl (by simp)
               ·rw [if_neg e1] at hn
                split at hn
                ·cases hn
                ·exact .inr hn)
              exact ⟨hg'.ext, hg'.same, hsat, hg'.bel.os, hg'.bel.tape, hg'.bel.output, hg'.bel.size, fun x hx _ => hg'.bel.block x hx, fun n p h1 h2 h3 => .inl (hg'.new n p h1 h2 h3).1, hnamed⟩
             ·-- in place
              have hrunst := run_storeCells_at (P := P) ba (sl * sz) e' vs 0 ⟨cs⟩ w hcs (by
               have h1 := hv.1
               simp only [List.length_append, List.length_take] at hln
               have h2 : (sl + m) * sz ≤ sc' * sz := Nat.mul_le_mul_right sz hge
               simp; omega) (hv.one hone)
              simp only [Nat.add_zero] at hrunst
              rw [if_pos hge, hcells _ (.refl _ _)] at happ
              simp only [Result.andThen_ok, add_off, Nat.zero_add, hrunst] at happ
              intro ro mm K Q hK
              refine wp_value (run_call_builtin (hrun _ _ happ)) (hK _ _ (setE ρ N (ba, sc')) ?_ (.soft (setE_self ρ N _) rfl hge (fun _ => rfl)))
              have hself := setRow_heap w ba ⟨cs⟩ ((cs.take (sl * sz) ++ vs ++ cs.drop (sl * sz + vs.length))).toArray e' (0, 0) hcs
              have hext : Ext ρ (setE ρ N (ba, sc')) := setE_ext hFN
              have hlo : (l.take (sl * sz)).length = sl * sz := by simp; omega
              have hlc' : (cs.take (sl * sz)).length = sl * sz := by simp; omega
              have hmem : ∀ n b', H2.get n = some b' → n ≠ N → n ≠ b ∧ H.get n = some b' := fun n b' hn e1 => by
               rw [hget, if_neg e1] at hn
               split at hn
               ·cases hn
               ·rename_i e2; exact ⟨e2, hn⟩
              refine ⟨hext, fun n h => setE_other (by omega), ⟨fun n b' hn => ?_, fun n k b' c x D F hn hk h1 h2 => ?_, fun n x D hn => ?_⟩, rfl, rfl, rfl, by simp, fun x hx hno => ?_, fun n p h1 h2 h3 => ?_, hnamed⟩
              ·by_cases e1 : n = N
               ·subst e1
                rw [hget, if_pos rfl] at hn
                cases hn
                refine ⟨ba, sc', setE_self _ _ _, _, hself, ?_, fun h => (by cases h), fun _ => ⟨sz, hs, ?_⟩⟩
                ·have e3 : (l.take (sl * sz) ++ us).length = (cs.take (sl * sz) ++ vs).length := by simp only [List.length_append, hlo, hlc', hv.1]
                 rw [e3, List.take_left]
                 exact (hvo.append hv).mono hext
                ·have h1 := hv.1
                 simp only [List.length_append, hlo] at hln
                 simp only [List.length_append, hlc', List.length_drop]
                 have h2 : (sl + m) * sz ≤ sc' * sz := Nat.mul_le_mul_right sz hge
                 omega
               ·obtain ⟨e2, hn'⟩ := hmem n b' hn e1
                obtain ⟨x, D, h1, h2⟩ := hS.blk n b' hn'
                have hx : x ≠ ba := fun ex => by subst ex; exact e2 (hS.inj n b b' _ x D sc' hn' hg h1 hb)
                exact ⟨x, D, hext _ _ h1, by rw [setRow_other w ba x _ hx]; exact h2.mono hext⟩
              ·by_cases e1 : n = N <;> by_cases e2 : k = N
               ·rw [e1, e2]
               ·subst e1
                rw [setE_self] at h1; cases h1
                rw [setE_other e2] at h2
                obtain ⟨e3, hk'⟩ := hmem k c hk e2
                exact absurd (hS.inj k b c _ ba F sc' hk' hg h2 hb) e3
               ·subst e2
                rw [setE_self] at h2; cases h2
                rw [setE_other e1] at h1
                obtain ⟨e3, hn'⟩ := hmem n b' hn e1
                exact absurd (hS.inj n b b' _ ba D sc' hn' hg h1 hb) e3
               ·rw [setE_other e1] at h1
                rw [setE_other e2] at h2
                exact hS.inj n k b' c x D F (hmem n b' hn e1).2 (hmem k c hk e2).2 h1 h2
              ·rw [setRow_size]
               by_cases e1 : n = N
               ·subst e1; rw [setE_self] at hn; cases hn; exact hS.lt b _ _ hb
               ·rw [setE_other e1] at hn; exact hS.lt n x D hn
              ·exact setRow_other w ba x _ (fun ex => hno b (ba, sc') (Nat.le_refl _) hbN hb ex.symm)
              ·obtain rfl : n = N := by omega
               rw [setE_self] at h3; cases h3
               exact .inr ⟨b, (ba, sc'), Nat.le_refl _, hbN, hb, rfl⟩
         ·cases h2
       ·cases h2
  ·cases h
 ·cases h
end ops
end Ev
end
section
namespace Ev
open Go Go.RowKit
theorem flat_eq : ∀ (n : Nat) (u : Value), flat n u = true → ∀ {ρ : Env} {v : Value}, VR ρ u v → v = u := by
 intro n
 induction n with
 | zero => intro u h; cases h
 | succ n ih =>
  intro u h ρ v hr
  have hl : ∀ (us vs : List Value), us.all (flat n) = true → us.length = vs.length → (∀ (i : Nat) (u v : Value), us[i]? = some u → vs[i]? = some v → VR ρ u v) → vs = us := fun us vs hu hlen hall => by
   apply List.ext_getElem? 
   intro i
   cases hx : us[i]? with
   | none =>
    have : us.length ≤ i := List.getElem?_eq_none_iff.1 hx
    exact List.getElem?_eq_none_iff.2 (by omega)
   | some x =>
    have hi : i < us.length := (List.getElem?_eq_some_iff.1 hx).1
    have hy : vs[i]? = some vs[i] := List.getElem?_eq_getElem (by omega)
    rw [hy]
    rw [ih x (List.all_eq_true.1 hu x (List.mem_of_getElem? hx)) (hall i x vs[i] hx hy)]
  cases hr with
  | ptr e => cases h
  | sl e => cases h
  | soft e => cases h
  | map e => cases h
  | yld e => cases h
  | meth h1 h2 h3 h4 => cases h
  | iface r => rw [ih _ h r]
  | agg h1 h2 => rw [hl _ _ h h1 h2]
  | tuple h1 h2 => rw [hl _ _ h h1 h2]
  | @func f us vs xs ys h1 h2 h3 h4 =>
   have h' : (us.all (flat n) && xs.all (flat n)) = true := h
   rw [Bool.and_eq_true] at h'
   rw [hl _ _ h'.1 h1 h2, hl _ _ h'.2 h3 h4]
  | _ => rfl
section ops
variable {P : Program} {G : Nat} {ρ : Env} {T : PT Value} {H : HP} {N : Nat} {out : Out} {a : Act} {w : World} {o : Oper}
theorem pure_ok {u v : Value} (h : out = .v u [] N) (hrun : (execOp a.eval o).run P w = .ok (.value v) w) (hv : VR ρ u v) (hd : ∀ c, o.op ≠ .defer c) : OpOk P o ρ N out a w := by
 subst h
 exact ⟨Nat.le_refl _, fun hF ro mm K Q hK => wp_value hrun (hK _ _ _ (.refl P ρ N w) hv) hd⟩
theorem VL.flat_eq {us vs : List Value} (h : VL ρ us vs) (n : Nat) (hf : us.all (flat n) = true) : vs = us := by
 induction us generalizing vs with
 | nil => exact h.nil_inv
 | cons u us ih =>
  obtain ⟨v, vs, rfl, h1, h2⟩ := h.cons_inv
  simp only [List.all_cons, Bool.and_eq_true] at hf
  rw [Ev.flat_eq n u hf.1 h1, ih h2 hf.2]
theorem flat_ok (hT : TR ρ T a.tmps) (hG : Glob G ρ) (h : flatC P G T N o = .ok out) (hd : ∀ c, o.op ≠ .defer c) (hs : ∀ cs b, o.op ≠ .select cs b) : OpOk P o ρ N out a w := by
 unfold flatC at h
 obtain ⟨us, h1, hv, hat⟩ := vals_sound hT hG _ _ _ h
 cases hf : us.all (flat 5) with
 | false => rw [hf] at h1; cases h1
 | true =>
  rw [hf] at h1
  simp only [cond_true] at h1
  have heq := hv.flat_eq 5 hf
  have hcong : execOp (aevalD G T) o = execOp a.eval o := execOp_congr o hs (fun x hx => by
   obtain ⟨i, hi, hix⟩ := List.getElem_of_mem (show x ∈ o.op.operands.toList by simpa using hx)
   have hi' : o.op.operands.toList[i]? = some x := by rw [List.getElem?_eq_getElem hi, hix]
   obtain ⟨u, hu, hau⟩ := hat i x hi'
   have h2 : (o.op.operands.toList.map a.eval)[i]? = some (a.eval x) := by rw [List.getElem?_map, hi']; rfl
   rw [heq, hu] at h2
   cases h2
   simp only [aevalD, hau])
  rw [hcong] at h1
  split at h1
  ·rename_i v hp
   rw [forceV_eq] at h1
   cases hfv : flat 5 v with
   | false => rw [hfv] at h1; cases h1
   | true =>
    rw [hfv] at h1
    cases h1
    exact pure_ok rfl (prun_run hp w) (flat_le 5 v hfv ρ) hd
  ·cases h1
theorem orFlat_ok {r : Rs Value} (hT : TR ρ T a.tmps) (hG : Glob G ρ) (h : orFlat P G T N o r = .ok out) (hd : ∀ c, o.op ≠ .defer c) (hs : ∀ cs b, o.op ≠ .select cs b)
  (hr : ∀ u, r = .ok u → ∃ v, (execOp a.eval o).run P w = .ok (.value v) w ∧ VR ρ u v) : OpOk P o ρ N out a w := by
 unfold orFlat at h
 split at h
 ·cases h
  obtain ⟨v, h1, h2⟩ := hr _ rfl
  exact pure_ok rfl h1 h2 hd
 ·exact flat_ok hT hG h hd hs
end ops
/-! ### Whole numbers -/
theorem topN_unsigned (k : IntKind) : k.signed = false → (topN k : Int) = 2 ^ k.bits := by cases k <;> decide
theorem topN_signed (k : IntKind) : k.signed = true → (topN k : Int) = 2 ^ (k.bits - 1) := by cases k <;> decide
theorem wrap_lt {k : IntKind} {m : Nat} (h : m < topN k) : k.wrap (m : Int) = m := by
 have hb : (topN k : Int) ≤ 2 ^ k.bits := by cases k <;> decide
 have h1 : (m : Int) % (2 ^ k.bits : Int) = m := Int.emod_eq_of_lt (by omega) (by omega)
 unfold IntKind.wrap
 simp only [h1]
 cases hs : k.signed with
 | false => simp
 | true =>
  have := topN_signed k hs
  have : ¬ ((m : Int) ≥ 2 ^ (k.bits - 1)) := by omega
  simp [this]
theorem wrapF_eq (k : IntKind) (n : Int) : wrapF k n = k.wrap n := by
 unfold wrapF
 cases n with
 | negSucc m => rfl
 | ofNat m =>
  simp only []
  cases h : Nat.blt m (topN k) with
  | false => rfl
  | true =>
   have : m < topN k := by simp [Nat.blt, Nat.ble_eq] at h; omega
   exact (wrap_lt this).symm
theorem ltF_eq (a b : Int) : ltF a b = decide (a < b) := by
 cases a <;> cases b <;> simp only [ltF]
 ·rename_i m n
  rw [Bool.eq_iff_iff]; simp [Nat.blt, Nat.ble_eq]; omega
 ·rename_i m n
  simp; omega
 ·rename_i m n
  simp; omega
 ·rename_i m n
  rw [Bool.eq_iff_iff]; simp [Nat.blt, Nat.ble_eq]; omega
theorem eqF_eq (a b : Int) : eqF a b = (a == b) := by
 cases a <;> cases b <;> simp only [eqF] <;> rw [Bool.eq_iff_iff] <;> simp <;> omega
theorem bits_and {k : IntKind} {m n : Nat} (f : Nat → Nat → Nat) (g : ∀ {w : Nat}, BitVec w → BitVec w → BitVec w) (hg : ∀ {w : Nat} (x y : BitVec w), (g x y).toNat = f x.toNat y.toNat) (hm : m < topN k) (hn : n < topN k) (hf : ∀ {b : Nat} {x y : Nat}, x < 2 ^ b → y < 2 ^ b → f x y < 2 ^ b) :
  k.wrap ((g (BitVec.ofInt k.bits (m : Int)) (BitVec.ofInt k.bits (n : Int))).toNat : Int) = (f m n : Nat) := by
 have hb : ∃ b, topN k = 2 ^ b ∧ topN k ≤ 2 ^ k.bits := by cases k <;> first | exact ⟨7, by decide, by decide⟩ | exact ⟨8, by decide, by decide⟩ | exact ⟨15, by decide, by decide⟩ | exact ⟨16, by decide, by decide⟩ | exact ⟨31, by decide, by decide⟩ | exact ⟨32, by decide, by decide⟩ | exact ⟨63, by decide, by decide⟩ | exact ⟨64, by decide, by decide⟩
 obtain ⟨b, h1, h2⟩ := hb
 have e1 : (BitVec.ofInt k.bits (m : Int)).toNat = m := by
  rw [BitVec.ofInt_natCast, BitVec.toNat_ofNat, Nat.mod_eq_of_lt (by omega)]
 have e2 : (BitVec.ofInt k.bits (n : Int)).toNat = n := by
  rw [BitVec.ofInt_natCast, BitVec.toNat_ofNat, Nat.mod_eq_of_lt (by omega)]
 rw [hg, e1, e2]
 exact wrap_lt (by rw [h1]; exact hf (by omega) (by omega))
end Ev
end
end Go.Proofs.YtcjgilagldbjnaaGreatDoor
