/- The reckoner: operations that make, load and store. No conditions. The reckoner: make and slices' literals. No conditions. The reckoner: copy. No conditions. The reckoner: append. No conditions. -/
import Derived.Test.YtadpelhmjmamnaaGreatDoorPkCf4
namespace Go.Proofs.YtadpelhmjmamnaaGreatDoor
section
namespace Ev
open Go Go.RowKit

section
variable {P : Program} {o : Oper} {a : Act} {w w' : World} {K : Act → World → Prop} {Q : Exit → Act → World → Prop}
theorem wp_value {ro : Option Nat} {m : Nat} {v : Value} (h : (execOp a.eval o).run P w = .ok (.value v) w') (hk : K (a.put o.dst v) w') (hd : ∀ c, o.op ≠ .defer c := by exact fun _ h => (by cases h)) : o.wpIn (fe ro) m P a w K Q :=
  ⟨fun _ _ => trivial, by rw [Oper.semAt_eq _ _ _ hd, h]; exact hk⟩
theorem wp_skipped {ro : Option Nat} {m : Nat} (h : (execOp a.eval o).run P w = .ok .skip w') (hk : K (a.put o.dst undef) w') (hd : ∀ c, o.op ≠ .defer c := by exact fun _ h => (by cases h)) : o.wpIn (fe ro) m P a w K Q :=
  ⟨fun _ _ => trivial, by rw [Oper.semAt_eq _ _ _ hd, h]; exact hk⟩
end
/-- The names of the program's variables. -/
def Glob (G : Nat) (ρ : Env) : Prop := ∀ g, g < G → ∃ C, ρ g = some (g, C)
theorem Glob.mono {G : Nat} {ρ ρ' : Env} (h : Ext ρ ρ') (k : Glob G ρ) : Glob G ρ' := fun g hg => let ⟨C, e⟩ := k g hg; ⟨C, h _ _ e⟩
theorem aeval_sound {G : Nat} {ρ : Env} {T : PT Value} {a : Act} {x : Operand} {u : Value} (hT : TR ρ T a.tmps) (hG : Glob G ρ) (h : aeval G T x = some u) : VR ρ u (a.eval x) := by
  cases x with
  | tmp t =>
    obtain ⟨v, h1, h2⟩ := hT t u h
    have : a.eval (.tmp t) = v := by simp [Act.eval, h1]
    rw [this]; exact h2
  | const v =>
    have h' : cond (flat 5 v) (some v) none = some u := h
    cases hf : flat 5 v with
    | true => rw [hf] at h'; simp only [cond_true, Option.some.injEq] at h'; subst h'; exact flat_le 5 v hf ρ
    | false => rw [hf] at h'; cases h'
  | global g =>
    have h' : cond (Nat.blt g G) (some (.pointer (some ⟨g, 0, none⟩))) none = some u := h
    cases hf : Nat.blt g G with
    | true =>
      rw [hf] at h'; cases h'
      obtain ⟨C, e⟩ := hG g (by simp [Nat.blt, Nat.ble_eq] at hf; omega)
      exact VR.ptr e
    | false => rw [hf] at h'; cases h'
  | func f => cases h; exact .func rfl (fun i u v h => by simp at h) rfl (fun i u v h => by simp at h)
theorem vals_sound {G : Nat} {ρ : Env} {T : PT Value} {a : Act} (hT : TR ρ T a.tmps) (hG : Glob G ρ) : ∀ (l : List Operand) (k : List Value → Rs Out) (r : Out), vals G T l k = .ok r → ∃ us, k us = .ok r ∧ VL ρ us (l.map a.eval) ∧ ∀ (i : Nat) (x : Operand), l[i]? = some x → ∃ u, us[i]? = some u ∧ aeval G T x = some u
  | [], k, r, h => ⟨[], h, .nil ρ, fun i x hx => by simp at hx⟩
  | x :: l, k, r, h => by
    have h' : (match aeval G T x with | some v => vals G T l (fun l => k (v :: l)) | none => .bad 81) = .ok r := h
    cases hx : aeval G T x with
    | none => rw [hx] at h'; cases h'
    | some u =>
      rw [hx] at h'
      obtain ⟨us, h1, h2, h3⟩ := vals_sound hT hG l _ r h'
      refine ⟨u :: us, h1, .cons (aeval_sound hT hG hx) h2, fun i y hy => ?_⟩
      cases i with
      | zero => simp at hy; subst hy; exact ⟨u, rfl, hx⟩
      | succ i => simp at hy; exact h3 i y hy

theorem VL.same {l : List Value} (h : l.all (flat 5) = true) (ρ : Env) : VL ρ l l := ⟨rfl, fun i u v e1 e2 => by
  rw [e1] at e2; cases e2
  exact flat_le 5 u (List.all_eq_true.1 h u (List.mem_of_getElem? e1)) ρ⟩
theorem run_zero {P : Program} {t : TypeId} {l : List Value} (h : zeroO P t = some l) : ∃ z, z.cells.toList = l ∧ (∀ ρ, VL ρ l l) ∧ ∀ w, (zeroValue t).run P w = .ok z w := by
  unfold zeroO at h
  cases hi : P.info? t with
  | none => rw [hi] at h; cases h
  | some i =>
    rw [hi] at h
    cases hz : i.zero with
    | none => simp only [hz] at h; cases h
    | some z =>
      simp only [hz] at h
      cases hf : z.cells.toList.all (flat 5) with
      | false => rw [hf] at h; cases h
      | true =>
        rw [hf] at h
        simp only [cond_true, Option.some.injEq] at h
        subst h
        exact ⟨z, rfl, fun ρ => .same hf ρ, fun w => by simp [zeroValue, typeInfo, hi, hz]⟩
theorem info_size {P : Program} {t : TypeId} {s : Nat} (h : sizeO P t = some s) : (P.info? t).map (·.size) = some s := by
  unfold sizeO at h
  cases hi : P.info? t with
  | none => rw [hi] at h; cases h
  | some i => rw [hi] at h; simp only [Option.some.injEq] at h; subst h; rfl

/-- A block that is made: a variable. -/
theorem new_sound {P : Program} {ρ : Env} {N : Nat} {e : TypeId} {us vs : List Value} {w : World} (hF : Free ρ N (N + 1)) (hv : VL ρ us vs) :
    Grew P ρ (setE ρ N (w.heap.size, 0)) N (N + 1) [(N, .cells false e us)] w { w with heap := w.heap.push (.cells ⟨vs⟩ e (0, 0)) } :=
  Grew.one hF (below_push w _) (by simp) (.new (push_at w _) (hv.mono (setE_ext (hF N (Nat.le_refl _) (by omega)))))

section ops
variable {P : Program} {G : Nat} {ρ : Env} {T : PT Value} {H : HP} {N : Nat} {out : Out} {a : Act} {w : World} {dst : Option Tmp} {type : TypeId} {pos : String} {after : Array Edge} {guard : Option (Nat × Bool)}
theorem newC_ok {e : TypeId} {us : List Value} {o : Oper} (hd : ∀ c, o.op ≠ .defer c) (h : newC N e us = .ok out) (vs : List Value) (hv : VL ρ us vs)
    (hr : (execOp a.eval o).run P w = .ok (.value (.pointer (some ⟨w.heap.size, 0, none⟩))) { w with heap := w.heap.push (.cells ⟨vs⟩ e (0, 0)) }) : OpOk P o ρ N out a w := by
  cases h
  exact ⟨Nat.le_succ N, fun hF ro mm K Q hK => wp_value hr (hK _ _ _ (new_sound (hF.free _) hv) (.ptr (setE_self ρ N _))) hd⟩
theorem alloc_ok {e : TypeId} (h : (match zeroO P e with | some l => newC N e l | none => .bad 102) = Rs.ok out) : OpOk P ⟨dst, .alloc e, type, pos, after, guard⟩ ρ N out a w := by
  cases hl : zeroO P e with
  | none => rw [hl] at h; cases h
  | some l =>
    rw [hl] at h
    obtain ⟨z, h1, hfl, h2⟩ := run_zero hl
    refine newC_ok (fun _ h => (by cases h)) h l (hfl ρ) ?_
    · simp only [execOp, Instr.alloc, Sem.run_bind, h2, Result.andThen_ok]
      simp [newVar, newRow, ← h1]
theorem box_ok {e : TypeId} {x : Operand} (hT : TR ρ T a.tmps) (hG : Glob G ρ) (h : (match aeval G T x with | some v => newC N e v.cells.toList | none => .bad 103) = Rs.ok out) : OpOk P ⟨dst, .box e x, type, pos, after, guard⟩ ρ N out a w := by
  cases hx : aeval G T x with
  | none => rw [hx] at h; cases h
  | some u =>
    rw [hx] at h
    have hr := aeval_sound hT hG hx
    refine newC_ok (fun _ h => (by cases h)) h (a.eval x).cells.toList hr.cells ?_
    simp [execOp, Instr.box, newVar, newRow]
theorem load_ok {t : TypeId} {x : Operand} (hS : Sat P ρ H w) (hT : TR ρ T a.tmps) (hG : Glob G ρ) (h : (match aeval G T x with | some (.pointer (some ⟨n, off, _⟩)) => loadC P H t n off fun v => Rs.ok (.v v [] N) | _ => .bad 104) = Rs.ok out) : OpOk P ⟨dst, .load t x, type, pos, after, guard⟩ ρ N out a w := by
  split at h
  · rename_i n off s hx
    have hr := aeval_sound hT hG hx
    generalize hv : a.eval x = v at hr
    cases hr with
    | @ptr _ _ _ b C hn =>
      obtain ⟨u, v, hk, hrun, hvr⟩ := load_sound hS hn h
      cases hk
      exact ⟨Nat.le_refl _, fun hF ro mm K Q hK => wp_value (v := v) (w' := w) (by simp [execOp, Instr.loadAt, Instr.sureAddr, hv, hrun]) (hK _ _ _ (.refl P ρ N w) hvr)⟩
  · cases h
theorem lt_of_name (hF : ∀ n p, ρ n = some p → n < N) {n : Nat} {p : Nat × Nat} (h : ρ n = some p) : n < N := hF n p h
theorem store_ok {t : TypeId} {x y : Operand} (hS : Sat P ρ H w) (hT : TR ρ T a.tmps) (hG : Glob G ρ) (hN : ∀ n b, H.get n = some b → n < N) (h : (match aeval G T x, aeval G T y with | some (.pointer (some ⟨n, off, _⟩)), some v => storeC P H t n off v fun H' => Rs.ok (.w undef H' N n) | _, _ => .bad 105) = Rs.ok out) : OpOk P ⟨dst, .store t x y, type, pos, after, guard⟩ ρ N out a w := by
  split at h
  · rename_i n off s u hx hy
    have hr := aeval_sound hT hG hx
    have hry := aeval_sound hT hG hy
    generalize hv : a.eval x = v at hr
    cases hr with
    | @ptr _ _ _ b C hn =>
      unfold storeC at h
      split at h
      · rename_i g e l hb
        split at h
        · rename_i sz hs
          cases hc : (Nat.beq u.cells.toList.length sz && u.cells.toList.all oneC) with
          | false => rw [hc] at h; cases h
          | true =>
            rw [hc] at h
            simp only [cond_true, spliceK_eq] at h
            rw [Bool.and_eq_true] at hc
            obtain ⟨hc1, hc2⟩ := hc
            have hc1 : u.cells.toList.length = sz := by simpa using hc1
            split at h
            · rename_i hle
              rcases PT.insK_spec 60 H n (some (AB.cells g e (l.take off ++ u.cells.toList ++ l.drop (off + u.cells.toList.length)))) with hbad | ⟨H', hok, hget⟩
              · rw [hbad] at h; cases h
              · rw [hok] at h
                cases h
                obtain ⟨w', hrun, hW⟩ := splice_sound (N := N) hS hb hn hN hle hget hry.cells hc2
                refine ⟨Nat.le_refl _, fun hF ro mm K Q hK => wp_skipped (w' := w') ?_ (hK _ _ _ hW (by exact .tuple rfl (fun i u v h => by simp at h)))⟩
                have hsz : (a.eval y).cells.size = sz := by have := hry.cells.1; simp at this hc1; omega
                simp [execOp, Instr.storeAt, Instr.sureAddr, hv, storeVar, run_sizeOf hs, hsz, hrun]
            · cases h
        · cases h
      · cases h
  · cases h
end ops
end Ev
end
section
namespace Ev
open Go Go.RowKit

theorem zrep (z : List Value) : ∀ c, (List.range (c * z.length)).map (fun i => z.getD (i % z.length) default) = (List.replicate c z).flatten
  | 0 => by simp
  | c + 1 => by
    rw [Nat.add_mul, Nat.one_mul, Nat.add_comm, List.range_add, List.map_append, List.map_map, List.replicate_succ, List.flatten_cons, ← zrep z c]
    congr 1
    · apply List.ext_getElem
      · simp
      · intro i h1 h2
        simp [Nat.mod_eq_of_lt h2, h2]
    · apply List.map_congr_left
      intro i _
      simp
theorem zrow (z : Array Value) (c : Nat) : ((Array.range (c * z.size)).map fun i => z[i % z.size]!) = ⟨(List.replicate c z.toList).flatten⟩ := by
  rw [← zrep z.toList c]
  apply Array.ext'
  simp only [Array.toList_map, Array.toList_range, Array.length_toList]
  apply List.map_congr_left
  intro i _
  rcases Nat.lt_or_ge (i % z.size) z.size with h | h
  · simp [List.getD, h]
  · simp [List.getD, h]
theorem VL.repl {ρ : Env} {z : List Value} (h : VL ρ z z) : ∀ c, VL ρ (repl c z) (List.replicate c z).flatten
  | 0 => .nil ρ
  | c + 1 => by
    rw [List.replicate_succ, List.flatten_cons]
    exact h.append (VL.repl h c)
theorem rowO_spec {P : Program} {t e : TypeId} {sz b : Nat} {z : List Value} (h : rowO P t = some (e, sz, b, z)) :
    P.underlying t = some (.slice e) ∧ sizeO P e = some sz ∧ z.length = sz ∧ sz ≤ 256 ∧ zeroO P e = some z ∧ ∃ i, P.info? e = some i ∧ i.bytes = b := by
  unfold rowO at h
  split at h
  · rename_i e' sz' hs
    unfold sliceO at hs
    split at hs
    · rename_i e2 hu
      split at hs
      · rename_i s2 hs2
        cases hs
        split at h
        · rename_i i z' hi hz
          cases hc : (Nat.beq z'.length sz' && Nat.ble sz' 256) with
          | false => rw [hc] at h; cases h
          | true =>
            rw [hc] at h
            cases h
            rw [Bool.and_eq_true, Nat.beq_eq, Nat.ble_eq] at hc
            exact ⟨hu, hs2, hc.1, hc.2, hz, i, hi, rfl⟩
        · cases h
      · cases hs
    · cases hs
  · cases h
theorem wrap_small {c : Nat} (h : c ≤ 65536) : IntKind.i64.wrap (c : Int) = c := by
  have h1 : (c : Int) % (2 ^ 64 : Int) = c := by omega
  have h2 : ¬ ((c : Int) ≥ 2 ^ (64 - 1)) := by omega
  show (if (true && decide ((c : Int) % (2 ^ 64 : Int) ≥ 2 ^ (64 - 1))) = true then (c : Int) % (2 ^ 64 : Int) - 2 ^ 64 else (c : Int) % (2 ^ 64 : Int)) = c
  simp only [h1, h2, decide_false, Bool.and_false, Bool.false_eq_true, if_false]

section ops
variable {P : Program} {G : Nat} {ρ : Env} {T : PT Value} {H : HP} {N : Nat} {out : Out} {a : Act} {w : World} {dst : Option Tmp} {type : TypeId} {pos : String} {after : Array Edge} {guard : Option (Nat × Bool)}
theorem run_makeSlice {t e : TypeId} {sz b l c : Nat} {z : List Value} {j k : IntKind} (h : rowO P t = some (e, sz, b, z)) (h1 : l ≤ c) (h2 : c ≤ 65536) (h3 : b * c ≤ 281474976710656) :
    (Instr.makeSlice t (.int j (l : Int)) (.int k (c : Int))).run P w = .ok (.slice (some ⟨w.heap.size, 0, none⟩) l c) { w with heap := w.heap.push (.cells ⟨(List.replicate c z).flatten⟩ e (0, 0)) } := by
  obtain ⟨hu, hs, hl, hsz, hz, i, hi, rfl⟩ := rowO_spec h
  obtain ⟨zv, hz1, _, hz2⟩ := run_zero hz
  have e1 : IntKind.i64.wrap (c : Int) = c := wrap_small h2
  have e2 : IntKind.i64.wrap (l : Int) = l := wrap_small (by omega)
  have g3 : ¬ ((2 : Int) ^ 48 < (i.bytes : Int) * (c : Int)) := by
    have : (i.bytes : Int) * (c : Int) = ((i.bytes * c : Nat) : Int) := by simp
    rw [this]; omega
  have hzs : zv.cells.size = sz := by rw [← Array.length_toList, hz1, hl]
  simp only [Instr.makeSlice, underlying, typeInfo, Sem.run_bind, run_program, Result.andThen_ok, hu, hi, Sem.run_pure, asInt, asIntOf]
  rw [e1, e2]
  have c1 : ¬ ((c : Int) < 0) := by omega
  have c2 : ¬ ((l : Int) < 0) := by omega
  have c3 : ¬ ((l : Int) > c) := by omega
  simp only [c1, c2, c3, g3, decide_false, Bool.or_self, Bool.false_eq_true, if_false, gt_iff_lt, Int.toNat_natCast]
  simp only [Sem.run_bind, run_askRoom, Result.andThen_ok, run_sizeOf hs]
  by_cases hn : c * sz = 0
  · have hfl : (List.replicate c z).flatten = [] := by
      apply List.length_eq_zero_iff.1
      simp [hl, hn]
    have e0 : ∀ (f : Nat → Value), (Array.range 0).map f = ⟨[]⟩ := fun f => Array.ext' (by simp)
    simp only [hn, if_true, Sem.run_bind, Sem.run_pure, Result.andThen_ok, e0, hfl]
    simp [newRow]
  · simp only [if_neg hn, Sem.run_bind, hz2, Result.andThen_ok, Sem.run_pure]
    rw [← hzs, zrow, hz1]
    simp [newRow]
theorem makeSlice_ok {t : TypeId} {x y : Operand} (hT : TR ρ T a.tmps) (hG : Glob G ρ) (h : (match aeval G T x, aeval G T y with | some l, some c => makeSliceC P N t l c | _, _ => .bad 106) = Rs.ok out) : OpOk P ⟨dst, .makeSlice t x y, type, pos, after, guard⟩ ρ N out a w := by
  split at h
  · rename_i u v hx hy
    have hrx := aeval_sound hT hG hx
    have hry := aeval_sound hT hG hy
    unfold makeSliceC at h
    split at h
    · rename_i e sz b z j l k c hrow
      generalize hvx : a.eval x = vx at hrx
      generalize hvy : a.eval y = vy at hry
      cases hrx
      cases hry
      cases hc : (Nat.ble l c && Nat.ble c 65536 && Nat.ble (Nat.mul b c) 281474976710656) with
      | false => rw [hc] at h; cases h
      | true =>
        rw [hc] at h
        cases h
        simp only [Bool.and_eq_true, Nat.ble_eq] at hc
        obtain ⟨_, _, _, _, hz, _⟩ := rowO_spec hrow
        obtain ⟨_, _, hfl, _⟩ := run_zero hz
        refine ⟨Nat.le_succ N, fun hF ro mm K Q hK => wp_value (v := .slice (some ⟨w.heap.size, 0, none⟩) l c) (w' := { w with heap := w.heap.push (.cells ⟨(List.replicate c z).flatten⟩ e (0, 0)) }) ?_ (hK _ _ _ (new_sound (hF.free _) ((hfl ρ).repl c)) (.sl (setE_self ρ N _)))⟩
        have := run_makeSlice (P := P) (w := w) (j := j) (k := k) hrow hc.1.1 hc.1.2 hc.2
        simp only [execOp, hvx, hvy, Int.ofNat_eq_natCast, Sem.run_bind, this]
        rfl
    · cases h
  · cases h

theorem VL.set {ρ : Env} {us vs : List Value} {u v : Value} (h : VL ρ us vs) (r : VR ρ u v) (i : Nat) : VL ρ (us.set i u) (vs.set i v) :=
  ⟨by simp [h.1], fun k x y h1 h2 => by
    rw [List.getElem?_set] at h1 h2
    by_cases e : i = k
    · subst e
      rw [if_pos rfl] at h1 h2
      split at h1
      · split at h2
        · cases h1; cases h2; exact r
        · cases h2
      · cases h1
    · rw [if_neg e] at h1 h2
      exact h.2 k x y h1 h2⟩
theorem VL.laid {ρ : Env} (off : Nat) : ∀ (xs ys : List Value) (j : Nat) (us vs : Array Value), VL ρ xs ys → VL ρ us.toList vs.toList →
    VL ρ ((xs.zipIdx j).foldl (fun cs (p : Value × Nat) => cs.setIfInBounds (off + p.2) p.1) us).toList ((ys.zipIdx j).foldl (fun cs (p : Value × Nat) => cs.setIfInBounds (off + p.2) p.1) vs).toList
  | [], ys, j, us, vs, h, k => by obtain rfl := h.nil_inv; exact k
  | x :: xs, ys, j, us, vs, h, k => by
    obtain ⟨y, ys, rfl, h1, h2⟩ := h.cons_inv
    simp only [List.zipIdx_cons, List.foldl_cons]
    refine VL.laid off xs ys (j + 1) _ _ h2 ?_
    rw [Array.toList_setIfInBounds, Array.toList_setIfInBounds]
    exact k.set h1 _
theorem fill_sound {ρ : Env} {place : Nat → Option (Nat × Nat)} : ∀ (ps : List Nat) (us vs : List Value) (cs ds r : Array Value), VL ρ us vs → VL ρ cs.toList ds.toList → Instr.fill place cs (ps.zip us) = some r →
    ∃ r', Instr.fill place ds (ps.zip vs) = some r' ∧ VL ρ r.toList r'.toList
  | [], us, vs, cs, ds, r, _, hc, h => by simp [Instr.fill] at h ⊢; subst h; exact hc
  | p :: ps, [], vs, cs, ds, r, hv, hc, h => by obtain rfl := hv.nil_inv; simp [Instr.fill] at h ⊢; subst h; exact hc
  | p :: ps, u :: us, vs, cs, ds, r, hv, hc, h => by
    obtain ⟨v, vs, rfl, h1, h2⟩ := hv.cons_inv
    simp only [List.zip_cons_cons, Instr.fill] at h ⊢
    cases hp : place p with
    | none => rw [hp] at h; cases h
    | some q =>
      obtain ⟨off, size⟩ := q
      rw [hp] at h
      have hs : u.cells.size = v.cells.size := by have := h1.cells.1; simpa using this
      have hcs : cs.size = ds.size := by have := hc.1; simpa using this
      simp only [hs, hcs] at h ⊢
      split at h
      · cases h
      · rename_i hn
        rw [if_neg hn]
        refine fill_sound ps us vs _ _ r h2 ?_ h
        have := VL.laid (ρ := ρ) off u.cells.toList v.cells.toList 0 cs ds h1.cells hc
        have e1 : ∀ (x : Array Value) (y : Array Value), x.zipIdx.foldl (fun cs (p : Value × Nat) => cs.setIfInBounds (off + p.2) p.1) y = (x.toList.zipIdx 0).foldl (fun cs (p : Value × Nat) => cs.setIfInBounds (off + p.2) p.1) y := fun x y => by
          rw [← Array.foldl_toList, Array.toList_zipIdx]
        simp only [e1]
        exact this
theorem zip_map (l : List (Nat × Operand)) (f : Operand → Value) : (l.map (·.1)).zip ((l.map (·.2)).map f) = l.map fun (i, x) => (i, f x) := by
  induction l with
  | nil => rfl
  | cons p l ih => simp only [List.map_cons, List.zip_cons_cons, ih]
theorem buildSlice_ok {t : TypeId} {len : Nat} {parts : Array (Nat × Operand)} (hT : TR ρ T a.tmps) (hG : Glob G ρ) (h : vals G T (parts.toList.map (·.2)) (fun vs => buildSliceC P N t len (List.zip (parts.toList.map (·.1)) vs)) = Rs.ok out) : OpOk P ⟨dst, .buildSlice t len parts, type, pos, after, guard⟩ ρ N out a w := by
  obtain ⟨us, h1, hv, _⟩ := vals_sound hT hG _ _ _ h
  unfold buildSliceC at h1
  split at h1
  · rename_i e sz b z hrow
    split at h1
    · rename_i l hfill
      cases hc : Nat.ble len 60000 with
      | false => rw [hc] at h1; cases h1
      | true =>
        rw [hc] at h1
        cases h1
        rw [Nat.ble_eq] at hc
        obtain ⟨hu, hs, hl, hsz, hz, i, hi, _⟩ := rowO_spec hrow
        obtain ⟨zv, hz1, hfl, hz2⟩ := run_zero hz
        obtain ⟨⟨r'⟩, hf2, hv2⟩ := fill_sound (ρ := ρ) _ _ _ _ ⟨(List.replicate len z).flatten⟩ _ hv ((hfl ρ).repl len) hfill
        refine ⟨Nat.le_succ N, fun hF ro mm K Q hK => wp_value (v := .slice (some ⟨w.heap.size, 0, none⟩) len len) (w' := { w with heap := w.heap.push (.cells ⟨r'⟩ e (0, 0)) }) ?_ (hK _ _ _ (new_sound (hF.free _) hv2) (.sl (setE_self ρ N _)))⟩
        have hzs : zv.cells.size = sz := by rw [← Array.length_toList, hz1, hl]
        have hsmall : ¬ (len * sz > 2 ^ 24) := by
          have : len * sz ≤ 60000 * 256 := Nat.mul_le_mul hc hsz
          omega
        simp only [execOp, Instr.buildSlice, underlying, Sem.run_bind, run_program, Result.andThen_ok, hu, Sem.run_pure, run_sizeOf hs, if_neg hsmall]
        have hpl : (parts.map fun (x : Nat × Operand) => match x with | (i, x) => (i, a.eval x)).toList = (parts.toList.map (·.1)).zip ((parts.toList.map (·.2)).map a.eval) := by
          rw [zip_map]; simp
        by_cases hn : len * sz = 0
        · have hfz : (List.replicate len z).flatten = [] := by
            apply List.length_eq_zero_iff.1
            simp [hl, hn]
          rw [hfz] at hf2
          have e0 : ∀ (f : Nat → Value), (Array.range 0).map f = ⟨[]⟩ := fun f => Array.ext' (by simp)
          simp only [hn, if_true, Sem.run_bind, Sem.run_pure, Result.andThen_ok, e0]
          simp only [hpl, hf2]
          simp [newRow]
        · simp only [if_neg hn, Sem.run_bind, hz2, Result.andThen_ok, Sem.run_pure]
          simp only [hpl]
          have e0 : ((Array.range (len * sz)).map fun x => zv.cells[x % zv.cells.size]!) = ⟨(List.replicate len z).flatten⟩ := by rw [← hz1, ← zrow, hzs]
          rw [e0, hf2]
          simp [newRow]
    · cases h1
  · cases h1
end ops
end Ev
end
section
namespace Ev
open Go Go.RowKit

section ops
variable {P : Program} {G : Nat} {ρ : Env} {T : PT Value} {H : HP} {N : Nat} {out : Out} {a : Act} {w : World} {dst : Option Tmp} {type : TypeId} {pos : String} {after : Array Edge} {guard : Option (Nat × Bool)}
theorem cells_sound {β : Type} {sz n : Nat} {u v : Value} {k : List Value → Rs β} {r : β} (hS : Sat P ρ H w) (hr : VR ρ u v) (h : cellsC H sz u n k = .ok r) :
    ∃ us vs, k us = .ok r ∧ (∀ w' : World, Below w.heap.size w w' → (Builtin.firstCells sz n v).run P w' = .ok ⟨vs⟩ w') ∧ VL ρ us vs := by
  unfold cellsC at h
  have nilcase : ∀ l c, v = .slice none l c → (Nat.rec (motive := fun _ => Rs β) (k []) (fun _ _ => .bad 31) n : Rs β) = .ok r → ∃ us vs, k us = .ok r ∧ (∀ w' : World, Below w.heap.size w w' → (Builtin.firstCells sz n v).run P w' = .ok ⟨vs⟩ w') ∧ VL ρ us vs := fun l c hv h => by
    subst hv
    cases n with
    | zero => exact ⟨[], [], h, fun _ _ => rfl, .nil ρ⟩
    | succ n => cases h
  have some_case : ∀ m o b C l c, ρ m = some (b, C) → v = .slice (some ⟨b, o, none⟩) l c → (match H.get m with | some (.cells _ _ l) => takeK (dropN l o) (n * sz) k (.bad 32) | _ => .bad 33) = Rs.ok r → ∃ us vs, k us = .ok r ∧ (∀ w' : World, Below w.heap.size w w' → (Builtin.firstCells sz n v).run P w' = .ok ⟨vs⟩ w') ∧ VL ρ us vs := fun m o b C l c hm hv h => by
    subst hv
    split at h
    · rename_i g e l hb
      obtain ⟨a', C', h1, cs, h2, h3, h4, h5⟩ := hS.blk m _ hb
      rw [hm] at h1; cases h1
      rw [takeK_eq, dropN_eq] at h
      split at h
      · rename_i hle
        simp only [List.length_drop] at hle
        have hlen : l.length ≤ cs.length := by have := h3.1; simp at this; omega
        rcases Nat.eq_zero_or_pos (n * sz) with h0 | hpos
        · refine ⟨[], [], by simpa [h0] using h, fun w' _ => ?_, .nil ρ⟩
          simp [Builtin.firstCells, h0, loadCells, loadCellsFrom]
        · refine ⟨_, (cs.drop o).take (n * sz), h, fun w' hb' => ?_, ?_⟩
          · have h2' : w'.heap[b]? = some (.cells ⟨cs⟩ e (0, 0)) := by rw [hb'.block b (hS.lt m b C hm)]; exact h2
            simp only [Builtin.firstCells, run_loadCells_at h2' (show o + n * sz ≤ cs.length by omega)]
          · have := (h3.drop o).take (n * sz)
            rwa [List.drop_take, List.take_take, Nat.min_eq_left (by omega)] at this
      · cases h
    · cases h
  cases hr with
  | nils l c => exact nilcase l c rfl h
  | sl e => exact some_case _ _ _ _ _ _ e rfl h
  | soft e h1 h2 h3 => exact some_case _ _ _ _ _ _ e rfl h
  | string s =>
    refine ⟨_, (s.extract 0 n).data.toList.map (fun b => .int .u8 b.toNat), h, fun w' _ => ?_, rfl, fun i u v h1 h2 => ?_⟩
    · simp only [Builtin.firstCells, Sem.run_pure]
      congr 1
      apply Array.ext'
      simp
    rw [h1] at h2; cases h2
    rw [List.getElem?_map] at h1
    cases hx : (s.extract 0 n).data.toList[i]? with
    | none => rw [hx] at h1; cases h1
    | some b => rw [hx] at h1; cases h1; constructor
  | _ => cases h
theorem len_sound {β : Type} {u v : Value} {k : Nat → Rs β} {r : β} (hr : VR ρ u v) (h : lenC u k = .ok r) : ∃ n, k n = .ok r ∧ ∀ w : World, (Builtin.lenOf v).run P w = .ok n w := by
  cases hr with
  | nils l c => exact ⟨_, h, fun _ => rfl⟩
  | sl e => exact ⟨_, h, fun _ => rfl⟩
  | soft e h1 h2 h3 => exact ⟨_, h, fun _ => rfl⟩
  | string s => exact ⟨_, h, fun _ => rfl⟩
  | _ => cases h
theorem sliceO_spec {t e : TypeId} {sz : Nat} (h : sliceO P t = some (e, sz)) : P.underlying t = some (.slice e) ∧ sizeO P e = some sz := by
  unfold sliceO at h
  split at h
  · rename_i e2 hu
    split at h
    · rename_i s2 hs2; cases h; exact ⟨hu, hs2⟩
    · cases h
  · cases h
theorem run_call_builtin {b : Builtin} {args : Array Operand} {ts : Array TypeId} {v : Value} {w' : World} (hb : ∀ consts, (builtin b ts type consts (args.map a.eval)).run P w = .ok (.value v) w') :
    (execOp a.eval ⟨dst, .call { callee := .builtin b, args, argTypes := ts }, type, pos, after, guard⟩).run P w = .ok (.value v) w' := by
  simp only [execOp, resolve, Sem.run_bind, Sem.run_pure, Result.andThen_ok, invoke]
  exact hb _
theorem ble_false {m n : Nat} (h : Nat.ble m n = false) : n < m := by
  rcases Nat.lt_or_ge n m with h2 | h2
  · exact h2
  · rw [Nat.ble_eq_true_of_le h2] at h; cases h
/-- What a slice's value is behind a name. -/
theorem VR.slice {u v : Value} {base : Option Addr} {l c : Nat} (hr : VR ρ u v) (hu : u = .slice base l c) : ∃ bs c', v = .slice bs l c' ∧ (base = none → bs = none ∧ c' = c) ∧
    ∀ b o s, base = some ⟨b, o, s⟩ → ∃ ba C, bs = some ⟨ba, o, none⟩ ∧ ρ b = some (ba, C) ∧ (s = none → c' = c) ∧ (∀ q, s = some q → c = l ∧ l ≤ c' ∧ (o = 0 → c' = C)) := by
  subst hu
  cases hr with
  | nils l c => exact ⟨none, _, rfl, fun _ => ⟨rfl, rfl⟩, fun b o s h => (by cases h)⟩
  | sl e => exact ⟨_, _, rfl, fun h => (by cases h), fun b o s h => by cases h; exact ⟨_, _, rfl, e, fun _ => rfl, fun q h => by cases h⟩⟩
  | soft e h1 h2 h3 => exact ⟨_, _, rfl, fun h => (by cases h), fun b o s h => by cases h; exact ⟨_, _, rfl, e, fun h => (by cases h), fun q _ => ⟨h1, h2, h3⟩⟩⟩
theorem lay_sound {b off ba C : Nat} {us vs : List Value} {u : Value} (hS : Sat P ρ H w) (hb : ρ b = some (ba, C)) (hN : ∀ n b, H.get n = some b → n < N) (hv : VL ρ us vs) (h : layC H N b off us u = .ok out) :
    ∃ H' w', out = .w u H' N b ∧ (storeCells ⟨ba, off, none⟩ vs).run P w = .ok () w' ∧ Wrote P ρ ρ N N b H' w w' := by
  unfold layC at h
  split at h
  · rename_i g e l hg
    cases hc : us.all oneC with
    | false => rw [hc] at h; cases h
    | true =>
      rw [hc] at h
      simp only [cond_true, spliceK_eq] at h
      split at h
      · rename_i hle
        rcases PT.insK_spec 60 H b (some (AB.cells g e (l.take off ++ us ++ l.drop (off + us.length)))) with hbad | ⟨H', hok, hget⟩
        · rw [hbad] at h; cases h
        · rw [hok] at h
          cases h
          obtain ⟨w', hrun, hW⟩ := splice_sound (N := N) hS hg hb hN hle hget hv hc
          exact ⟨H', w', rfl, hrun, hW⟩
      · cases h
  · cases h
theorem copy_ok {x y : Operand} {st xt : TypeId} (hS : Sat P ρ H w) (hT : TR ρ T a.tmps) (hG : Glob G ρ) (hN : ∀ n b, H.get n = some b → n < N)
    (h : (match aeval G T x, aeval G T y with | some s, some v => copyC P H N st s v | _, _ => .bad 109) = Rs.ok out) : OpOk P ⟨dst, .call { callee := .builtin .copy, args := ⟨[x, y]⟩, argTypes := ⟨[st, xt]⟩ }, type, pos, after, guard⟩ ρ N out a w := by
  split at h
  · rename_i u v hx hy
    have hrx := aeval_sound hT hG hx
    have hry := aeval_sound hT hG hy
    unfold copyC at h
    split at h
    · rename_i e sz base dl cap hso
      obtain ⟨hu, hs⟩ := sliceO_spec hso
      obtain ⟨m, h1, hlen⟩ := len_sound (P := P) hry h
      rw [forceN_eq] at h1
      obtain ⟨us, vs, h2, hcells, hv⟩ := cells_sound hS hry h1
      have hmin : cond (Nat.ble m dl) m dl = Nat.min m dl := by
        cases hb : Nat.ble m dl with
        | true => exact (Nat.min_eq_left (Nat.le_of_ble_eq_true hb)).symm
        | false => exact (Nat.min_eq_right (Nat.le_of_lt (ble_false hb))).symm
      rw [hmin] at h2 hcells
      obtain ⟨bs, cap', hax, hnone, hbase⟩ := hrx.slice rfl
      have hrun : ∀ (w' : World), (∀ ba, bs = some ba → (storeCells ba vs).run P w = .ok () w') → (bs = none → w' = w) → ∀ consts, (builtin .copy ⟨[st, xt]⟩ type consts ((⟨[x, y]⟩ : Array Operand).map a.eval)).run P w = .ok (.value (.int .i64 (Nat.min m dl : Nat))) w' := fun w' hst hno consts => by
        have hargs : (⟨[x, y]⟩ : Array Operand).map a.eval = #[a.eval x, a.eval y] := Array.ext' (by simp)
        rw [hargs, hax]
        simp only [builtin, Builtin.copy_, Sem.run_bind]
        simp only [underlying, Sem.run_bind, run_program, Result.andThen_ok, hu, Sem.run_pure, List.getElem?_toArray, List.getElem?_cons_zero, List.getElem?_cons_succ, hlen, run_sizeOf hs, hcells w (.refl _ _)]
        cases bs with
        | none => simp [hno rfl, goInt]
        | some ba => simp [hst ba rfl, goInt]
      split at h2
      · cases h2
        obtain rfl := hv.nil_inv
        exact ⟨Nat.le_refl _, fun hF ro mm K Q hK => wp_value (w' := w) (run_call_builtin (hrun w (fun ba _ => rfl) (fun _ => rfl))) (hK _ _ _ (.refl P ρ N w) (.int _ _))⟩
      · split at h2
        · rename_i b o s
          obtain ⟨ba, C, rfl, hb, _⟩ := hbase b o s rfl
          obtain ⟨H', w', rfl, hst, hW⟩ := lay_sound hS hb hN hv h2
          exact ⟨Nat.le_refl _, fun hF ro mm K Q hK => wp_value (w' := w') (run_call_builtin (hrun w' (fun ba' e => by cases e; exact hst) (fun h => by cases h))) (hK _ _ _ hW (.int _ _))⟩
        · cases h2
    · cases h
  · cases h
end ops
end Ev
end
section
namespace Ev
open Go Go.RowKit

theorem growBy_le (n : Nat) : ∀ (r c : Nat), Builtin.growBy n r c ≤ max c (n + (n + 768) / 4)
  | 0, c => by simp only [Builtin.growBy]; omega
  | r + 1, c => by
    simp only [Builtin.growBy]
    split
    · omega
    · have := growBy_le n r (c + (c + 768) / 4)
      omega
theorem next_le {need sc : Nat} (h : sc < need) (hn : need ≤ 65536) : Builtin.nextslicecap need sc ≤ 131072 := by
  unfold Builtin.nextslicecap
  split
  · omega
  · split
    · omega
    · have := growBy_le need 4 sc
      omega
theorem notInt_spec {P : Program} {t : TypeId} (h : notInt P t = true) : ∃ d, P.underlying t = some d ∧ ∀ k, d ≠ .int k := by
  unfold notInt at h
  cases hu : P.underlying t with
  | none => rw [hu] at h; cases h
  | some d => rw [hu] at h; exact ⟨d, rfl, fun k e => by subst e; cases h⟩
theorem zeroCells_length (z : Array Value) (n : Nat) : (Builtin.zeroCells z n).size = n * z.size := by simp [Builtin.zeroCells]

theorem bind_ok {P : Program} {α β : Type} {s : Sem α} {f : α → Sem β} {w w' : World} {a : α} (h : s.run P w = .ok a w') : (s >>= f).run P w = (f a).run P w' := by rw [Sem.run_bind, h]; rfl
section ops
variable {P : Program} {G : Nat} {ρ : Env} {T : PT Value} {H : HP} {N : Nat} {out : Out} {a : Act} {w : World} {dst : Option Tmp} {type : TypeId} {pos : String} {after : Array Edge} {guard : Option (Nat × Bool)}
/-- append, by whether there is room. -/
theorem run_append {st xt e : TypeId} {sz by_ n sl sc : Nat} {z : List Value} {bs : Option Addr} {v : Value} (hrow : rowO P st = some (e, sz, by_, z)) (hx : notInt P xt = true) (hlen : ∀ w : World, (Builtin.lenOf v).run P w = .ok n w)
    (hby : by_ ≤ 65536) (hneed : sl + n ≤ 65536) (zv : Value) (hz2 : ∀ w, (zeroValue e).run P w = .ok zv w) :
    (Builtin.append_ #[st, xt] type #[.slice bs sl sc, v]).run P w = if sl + n ≤ sc then
      ((Builtin.firstCells sz n v).run P w).andThen (fun new w => (match bs with | some a => (storeCells (a.add (sl * sz)) new.toList).run P w | none => .ok () w).andThen fun _ w => .ok (.slice bs (sl + n) sc) w)
    else ((Builtin.firstCells sz sl (.slice bs sl sc)).run P { w with drawn := w.drawn + 1 }).andThen (fun old w2 => ((Builtin.firstCells sz n v).run P w2).andThen fun new w2 =>
      .ok (.slice (some ⟨w2.heap.size, 0, none⟩) (sl + n) (sl + n + (w.tape w.drawn (.appendCap (sl + n) sc e)) % (2 ^ 63 - (sl + n)))) { w2 with heap := w2.heap.push (.cells (old ++ new ++ Builtin.zeroCells zv.cells (sl + n + (w.tape w.drawn (.appendCap (sl + n) sc e)) % (2 ^ 63 - (sl + n)) - (sl + n))) e (0, 0)) }) := by
  obtain ⟨hu, hs, hl, hsz, hz, i, hi, rfl⟩ := rowO_spec hrow
  obtain ⟨d, hd, hdi⟩ := notInt_spec hx
  have run_under : ∀ {t : TypeId} {d : TypeDesc}, P.underlying t = some d → ∀ w : World, (underlying t).run P w = .ok d w := fun h w => by simp [underlying, h]
  have run_info : ∀ {t : TypeId} {i : TypeInfo}, P.info? t = some i → ∀ w : World, (typeInfo t).run P w = .ok i w := fun h w => by simp [typeInfo, h]
  unfold Builtin.append_
  simp only [List.getElem?_toArray, List.getElem?_cons_zero, List.getElem?_cons_succ]
  refine (bind_ok (run_under hu w)).trans ?_
  simp only []
  refine (bind_ok (run_sizeOf hs w)).trans ?_
  refine (bind_ok (run_under hd w)).trans ?_
  refine (bind_ok (a := false) (w' := w) ?_).trans ?_
  · cases d <;> first | rfl | exact absurd rfl (hdi _)
  simp only [Bool.false_eq_true, if_false]
  refine (bind_ok (hlen w)).trans ?_
  by_cases hr : sl + n ≤ sc
  · rw [if_pos hr]
    rw [if_pos hr]
    cases bs with
    | none => simp
    | some a => simp
  · rw [if_neg hr]
    have hlt : sc < sl + n := by omega
    have g1 : ¬ (((sl + n : Nat) : Int) > IntKind.i64.max) := by
      have : IntKind.i64.max = 9223372036854775807 := by decide
      omega
    have g2 : ¬ (Builtin.nextslicecap (sl + n) sc * i.bytes > 2 ^ 48) := by
      have h1 := next_le hlt hneed
      have : Builtin.nextslicecap (sl + n) sc * i.bytes ≤ 131072 * 65536 := Nat.mul_le_mul h1 hby
      omega
    rw [if_neg hr]
    refine (bind_ok (run_info hi w)).trans ?_
    rw [if_neg (fun h => g1 h.1)]
    refine (bind_ok (run_info hi w)).trans ?_
    rw [if_neg g2]
    refine (bind_ok (a := (Question.appendCap (sl + n) sc e).cut (w.tape w.drawn (.appendCap (sl + n) sc e))) (w' := { w with drawn := w.drawn + 1 }) (by rw [run_choose]; rfl)).trans ?_
    refine (bind_ok (run_info hi _)).trans ?_
    refine (bind_ok (run_askRoom P _ _)).trans ?_
    simp only [Bool.not_false, if_true, Sem.run_bind, hz2, newRow, run_newObj, Sem.run_pure, Result.andThen_ok]
    rfl
end ops
end Ev
end
end Go.Proofs.YtadpelhmjmamnaaGreatDoor
