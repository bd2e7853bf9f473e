/- The reckoner: literals, functions, lengths, maps. No conditions. -/
import Derived.Test.YtadpelhmjmamnaaGreatDoorEvP14
namespace Go.Proofs.YtadpelhmjmamnaaGreatDoor.Ev
open Go Go.RowKit

theorem run_mapM_list {P : Program} {α β : Type} (f : α → Sem β) (g : α → β) : ∀ (l : List α), (∀ x ∈ l, ∀ w, (f x).run P w = .ok (g x) w) → ∀ w, (l.mapM f).run P w = .ok (l.map g) w
  | [], _, w => rfl
  | x :: l, h, w => by
    rw [List.mapM_cons, Sem.run_bind, h x List.mem_cons_self, Result.andThen_ok, Sem.run_bind, run_mapM_list f g l (fun y hy => h y (List.mem_cons_of_mem _ hy)), Result.andThen_ok]
    rfl
theorem run_mapM {P : Program} {α β : Type} (f : α → Sem β) (g : α → β) (a : Array α) (h : ∀ x ∈ a.toList, ∀ w, (f x).run P w = .ok (g x) w) (w : World) : (a.mapM f).run P w = .ok (a.map g) w := by
  rw [Array.mapM_eq_mapM_toList, Sem.run_map, run_mapM_list f g _ h, Result.andThen_ok]
  congr 1
  apply Array.ext'
  simp

section
variable {P : Program} {G : Nat} {ρ : Env} {T : PT Value} {H : HP} {N : Nat} {out : Out} {a : Act} {w : World} {dst : Option Tmp} {type : TypeId} {pos : String} {after : Array Edge} {guard : Option (Nat × Bool)}
theorem build_ok {t : TypeId} {parts : Array (Nat × Operand)} (hT : TR ρ T a.tmps) (hG : Glob G ρ)
    (h : vals G T (parts.toList.map (·.2)) (fun vs => orFlat P G T N ⟨dst, .build t parts, type, pos, after, guard⟩ (buildC P t (List.zip (parts.toList.map (·.1)) vs))) = Rs.ok out) : OpOk P ⟨dst, .build t parts, type, pos, after, guard⟩ ρ N out a w := by
  obtain ⟨us, h1, hv, _⟩ := vals_sound hT hG _ _ _ h
  refine orFlat_ok hT hG h1 (fun _ h => (by cases h)) (fun _ _ h => (by cases h)) (fun r hr => ?_)
  have hpl : (parts.map fun (x : Nat × Operand) => match x with | (i, x) => (i, a.eval x)).toList = (parts.toList.map (·.1)).zip ((parts.toList.map (·.2)).map a.eval) := by
    rw [zip_map]; simp
  unfold buildC at hr
  split at hr
  · cases hr
  · rename_i z hz
    obtain ⟨zv, hz1, hfl, hz2⟩ := run_zero hz
    have hzv : zv.cells = ⟨z⟩ := Array.ext' hz1
    split at hr
    · rename_i fs hu
      cases hall : (fs.toList.all fun f => (sizeO P f.type).isSome) with
      | false => rw [hall] at hr; cases hr
      | true =>
        rw [hall] at hr
        simp only [cond_true] at hr
        split at hr
        · rename_i cs hfill
          cases hr
          obtain ⟨r', hf2, hv2⟩ := fill_sound (ρ := ρ) _ _ _ _ ⟨z⟩ _ hv (hfl ρ) hfill
          refine ⟨.agg r', ?_, .agg hv2.1 hv2.2⟩
          have hplaces := run_mapM (P := P) (fun f : Field => do pure (f.offset, ← sizeOf f.type) : Field → Sem (Nat × Nat)) (fun f => (f.offset, (sizeO P f.type).getD 0)) fs (fun x hx w => by
            have := List.all_eq_true.1 hall x hx
            obtain ⟨s, hs⟩ := Option.isSome_iff_exists.1 this
            simp [run_sizeOf hs, hs]) w
          have hplace : ∀ i : Nat, (fs.map (fun f => (f.offset, (sizeO P f.type).getD 0)))[i]? = placeO P fs.toList i := fun i => by
            unfold placeO
            rw [Array.getElem?_map, ← Array.getElem?_toList]
            cases fs.toList[i]? <;> rfl
          simp only [execOp, Instr.build, Sem.run_bind, hz2, run_under hu, Result.andThen_ok, hplaces, hpl, hzv]
          rw [show (fun x => (fs.map (fun f : Field => (f.offset, (sizeO P f.type).getD 0)))[x]?) = placeO P fs.toList from funext hplace, hf2]
          rfl
        · cases hr
    · rename_i n e hu
      split at hr
      · rename_i sz hs
        split at hr
        · rename_i cs hfill
          cases hr
          obtain ⟨r', hf2, hv2⟩ := fill_sound (ρ := ρ) _ _ _ _ ⟨z⟩ _ hv (hfl ρ) hfill
          refine ⟨.agg r', ?_, .agg hv2.1 hv2.2⟩
          simp only [execOp, Instr.build, Sem.run_bind, hz2, run_under hu, Result.andThen_ok, run_sizeOf hs, hpl, hzv, hf2]
          rfl
        · cases hr
      · cases hr
    · cases hr
theorem move_ok {o : Oper} {x : Operand} (ho : o.op = .move x ∨ o.op = .assign x) (hT : TR ρ T a.tmps) (hG : Glob G ρ) (h : (match aeval G T x with | some v => Rs.ok (.v v [] N) | none => .bad 101) = Rs.ok out) : OpOk P o ρ N out a w := by
  split at h
  · rename_i u hx
    cases h
    obtain ⟨dst, op, type, pos, after, guard⟩ := o
    rcases ho with ho | ho <;> simp only at ho <;> subst ho
    · exact pure_ok rfl rfl (aeval_sound hT hG hx) (fun _ h => (by cases h))
    · exact pure_ok rfl rfl (aeval_sound hT hG hx) (fun _ h => (by cases h))
  · cases h
theorem pick_ok {c x y : Operand} (hT : TR ρ T a.tmps) (hG : Glob G ρ)
    (h : (match aeval G T c, aeval G T x, aeval G T y with | some (.bool b), some u, some v => Rs.ok (.v (cond b u v) [] N) | _, _, _ => .bad 114) = Rs.ok out) : OpOk P ⟨dst, .pick c x y, type, pos, after, guard⟩ ρ N out a w := by
  split at h
  · rename_i b u v hc hx hy
    cases h
    have hr := aeval_sound hT hG hc
    generalize hvc : a.eval c = vc at hr
    cases hr
    refine pure_ok rfl (v := if b then a.eval x else a.eval y) ?_ ?_ (fun _ h => (by cases h))
    · simp only [execOp, hvc, asBool, Sem.run_bind, Sem.run_pure, Result.andThen_ok]
    · cases b
      · exact aeval_sound hT hG hy
      · exact aeval_sound hT hG hx
  · cases h
theorem makeFunc_ok {f : FuncId} {first captured : Array Operand} (hT : TR ρ T a.tmps) (hG : Glob G ρ)
    (h : vals G T first.toList (fun x => vals G T captured.toList fun y => Rs.ok (.v (.func (.func f) ⟨x⟩ ⟨y⟩) [] N)) = Rs.ok out) : OpOk P ⟨dst, .makeFunc (.func f) first captured, type, pos, after, guard⟩ ρ N out a w := by
  obtain ⟨us, h1, hv, _⟩ := vals_sound hT hG _ _ _ h
  obtain ⟨xs, h2, hx, _⟩ := vals_sound hT hG _ _ _ h1
  cases h2
  refine pure_ok rfl (v := .func (.func f) ⟨first.toList.map a.eval⟩ ⟨captured.toList.map a.eval⟩) ?_ (.func hv.1 hv.2 hx.1 hx.2) (fun _ h => (by cases h))
  have e : ∀ (l : Array Operand), l.map a.eval = ⟨l.toList.map a.eval⟩ := fun l => Array.ext' (by simp)
  simp only [execOp, Instr.makeFunc, e]
  rfl
theorem makeMeth_ok {f : String} {first captured : Array Operand} (hT : TR ρ T a.tmps) (hG : Glob G ρ)
    (h : vals G T first.toList (fun x => vals G T captured.toList fun y => Rs.ok (.v (.func (.method f) ⟨x⟩ ⟨y⟩) [] N)) = Rs.ok out) : OpOk P ⟨dst, .makeFunc (.method f) first captured, type, pos, after, guard⟩ ρ N out a w := by
  obtain ⟨us, h1, hv, _⟩ := vals_sound hT hG _ _ _ h
  obtain ⟨xs, h2, hx, _⟩ := vals_sound hT hG _ _ _ h1
  cases h2
  refine pure_ok rfl (v := .func (.method f) ⟨first.toList.map a.eval⟩ ⟨captured.toList.map a.eval⟩) ?_ (.meth hv.1 hv.2 hx.1 hx.2) (fun _ h => (by cases h))
  have e : ∀ (l : Array Operand), l.map a.eval = ⟨l.toList.map a.eval⟩ := fun l => Array.ext' (by simp)
  simp only [execOp, Instr.makeFunc, e]
  rfl
theorem lenV_spec {u : Value} {n : Nat} (h : lenV u = some n) : ∃ b c, u = .slice (some b) n c := by
  unfold lenV at h
  split at h
  · cases h; exact ⟨_, _, rfl⟩
  · cases h
theorem capV_spec {u : Value} {n : Nat} (h : capV u = some n) : ∃ b o l, u = .slice (some ⟨b, o, none⟩) l n := by
  unfold capV at h
  split at h
  · cases h; exact ⟨_, _, _, rfl⟩
  · cases h
theorem mapO_spec {t : TypeId} {d : TypeDesc} {e : TypeId} (h : mapO' P t = some (d, e)) : ∃ k, P.underlying t = some (.map k e) ∧ P.underlying k = some d ∧ ∃ j, d = .int j := by
  unfold mapO' at h
  split at h
  · rename_i k e' hu
    split at h
    · rename_i j hk; cases h; exact ⟨k, hu, hk, ⟨j, rfl⟩⟩
    · cases h
  · cases h
/-- A map's entries. -/
theorem mapAt_sound {u v : Value} {l : List (Value × Value)} (hS : Sat P ρ H w) (hr : VR ρ u v) (h : mapAt H u = some l) :
    (v = .map none ∧ l = []) ∨ ∃ n r C es clock, u = .map (some n) ∧ v = .map (some r) ∧ ρ n = some (r, C) ∧ H.get n = some (.map l) ∧ w.heap[r]? = some (.map es clock) ∧ VL ρ (l.map (·.1)) (es.toList.map (·.key)) ∧ VL ρ (l.map (·.2)) (es.toList.map (·.val)) := by
  unfold mapAt at h
  split at h
  · cases h; cases hr; exact .inl ⟨rfl, rfl⟩
  · rename_i n
    cases hr with
    | @map _ r C hn =>
    split at h
    · rename_i l' hg
      cases h
      obtain ⟨r', C', h1, es, clock, h2, h3, h4⟩ := hS.blk n _ hg
      rw [hn] at h1; cases h1
      exact .inr ⟨n, r, C, es, clock, rfl, rfl, hn, hg, h2, h3, h4⟩
    · cases h
  · cases h
theorem run_getMap {r : Nat} {es : Array MapEntry} {clock : Nat} (h : w.heap[r]? = some (.map es clock)) : (getObj r).run P w = .ok (.map es clock) w := by
  simp only [getObj, Sem.run, h]
theorem run_checkKeyN {b : Bool} {k : TypeId} {d : TypeDesc} {v : Value} (n : Nat) (hk : P.underlying k = some d) (hd : ∃ j, d = .int j) : (Instr.checkKey b (n + 1) k v).run P w = .ok () w := by
  simp only [Instr.checkKey, Sem.run_bind, run_under hk, Result.andThen_ok]
  obtain ⟨j, rfl⟩ := hd
  cases v <;> rfl
theorem run_checkKey {b : Bool} {k : TypeId} {d : TypeDesc} {v : Value} (hk : P.underlying k = some d) (hd : ∃ j, d = .int j) : (Instr.checkKey b 10000 k v).run P w = .ok () w := run_checkKeyN 9999 hk hd
theorem sameNow_flat {d : TypeDesc} {x y x' y' : Value} {b : Bool} (h : Instr.sameNow d x y = some b) (h1 : VR ρ x x') (h2 : VR ρ y y') : Instr.sameNow d x' y' = some b := by
  unfold Instr.sameNow at h
  split at h
  · cases h1; cases h2; exact h
  · cases h1; cases h2; exact h
  · cases h1; cases h2; exact h
  · cases h
/-- Looking a key up goes alike. -/
theorem mfind_sound {d : TypeDesc} {k k' : Value} (hk : VR ρ k k') : ∀ (l : List (Value × Value)) (es : List MapEntry) (i : Nat) (r : Option (Nat × Value)), VL ρ (l.map (·.1)) (es.map (·.key)) → VL ρ (l.map (·.2)) (es.map (·.val)) → mfind d k l i = some r →
    (r = none ∧ Instr.findNow d k' es i = some none) ∨ ∃ j u v, r = some (j, u) ∧ Instr.findNow d k' es i = some (some (j, v)) ∧ VR ρ u v
  | [], es, i, r, h1, _, h => by
    obtain rfl : es = [] := by cases es with | nil => rfl | cons e es => have := h1.1; simp at this
    cases h; exact .inl ⟨rfl, rfl⟩
  | p :: l, [], i, r, h1, _, h => by have := h1.1; simp at this
  | p :: l, e :: es, i, r, h1, h2, h => by
    have h' : (match Instr.sameNow d k p.1 with | some true => some (some (i, p.2)) | some false => mfind d k l (i + 1) | none => none) = some r := h
    simp only [List.map_cons] at h1 h2
    cases hs : Instr.sameNow d k p.1 with
    | none => rw [hs] at h'; cases h'
    | some b =>
      rw [hs] at h'
      have hs' := sameNow_flat hs hk h1.head.1
      cases b with
      | true =>
        cases h'
        exact .inr ⟨i, p.2, e.val, rfl, by simp [Instr.findNow, hs'], h2.head.1⟩
      | false =>
        rcases mfind_sound hk l es (i + 1) r h1.head.2 h2.head.2 h' with ⟨e1, e2⟩ | ⟨j, u, v, e1, e2, e3⟩
        · exact .inl ⟨e1, by simp [Instr.findNow, hs', e2]⟩
        · exact .inr ⟨j, u, v, e1, by simp [Instr.findNow, hs', e2], e3⟩
theorem run_findKey {k : TypeId} {d : TypeDesc} {v : Value} {es : List MapEntry} {r : Option (Nat × Value)} (hk : P.underlying k = some d) (h : Instr.findNow d v es 0 = some r) : (Instr.findKey k v es).run P w = .ok r w := by
  simp only [Instr.findKey, Sem.run_bind, run_under hk, Result.andThen_ok, h]
  rfl
end
end Go.Proofs.YtadpelhmjmamnaaGreatDoor.Ev
