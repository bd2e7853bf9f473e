/- The reckoner: maps; every operation that calls nothing. No conditions. -/
import Derived.Test.YtadpelhmjmamnaaGreatDoorEvP15
namespace Go.Proofs.YtadpelhmjmamnaaGreatDoor.Ev
open Go Go.RowKit

section
variable {P : Program} {G : Nat} {ρ : Env} {T : PT Value} {H : HP} {N : Nat} {out : Out} {a : Act} {w : World} {dst : Option Tmp} {type : TypeId} {pos : String} {after : Array Edge} {guard : Option (Nat × Bool)}
theorem makeMap_ok {t : TypeId} (h : (Rs.ok (.v (.map (some N)) [(N, .map [])] (Nat.succ N)) : Rs Out) = .ok out) : OpOk P ⟨dst, .makeMap t none, type, pos, after, guard⟩ ρ N out a w := by
  cases h
  refine ⟨Nat.le_succ N, fun hF ro mm K Q hK => wp_value (v := .map (some w.heap.size)) (w' := { w with heap := w.heap.push (.map #[] 0) }) rfl (hK _ _ (setE ρ N (w.heap.size, 0)) ?_ (.map (setE_self ρ N _)))⟩
  refine Grew.one (hF.free _) (below_push w _) (by simp) ?_
  exact ⟨#[], 0, push_at w _, .nil _, .nil _⟩
theorem lookup_ok {t : TypeId} {x i : Operand} {ok : Bool} (hS : Sat P ρ H w) (hT : TR ρ T a.tmps) (hG : Glob G ρ)
    (h : (match aeval G T x, aeval G T i with
    | some u, some v => (match u with | .map _ => lookupC P H N t u v ok | _ => flatC P G T N ⟨dst, .lookup t x i ok, type, pos, after, guard⟩)
    | _, _ => .bad 146) = Rs.ok out) : OpOk P ⟨dst, .lookup t x i ok, type, pos, after, guard⟩ ρ N out a w := by
  split at h
  · rename_i u v hx hi
    have h1 := aeval_sound hT hG hx
    have h2 := aeval_sound hT hG hi
    split at h
    · rename_i r0
      unfold lookupC at h
      split at h
      · rename_i d e l hmo hma
        obtain ⟨k, hu, hk, hd⟩ := mapO_spec hmo
        have two : ∀ {u v : Value} {b : Bool}, VR ρ u v → VR ρ (cond ok (.tuple ⟨[u, .bool b]⟩) u) (if ok then .tuple #[v, .bool b] else v) := fun {u v b} hh => by
          have : VL ρ [u, .bool b] [v, .bool b] := .cons hh (.cons (.bool _) (.nil ρ))
          cases ok
          · exact hh
          · exact .tuple this.1 this.2
        -- what is found in the map's entries
        have hes : ∃ es : List MapEntry, VL ρ (l.map (·.1)) (es.map (·.key)) ∧ VL ρ (l.map (·.2)) (es.map (·.val)) ∧ ∀ (f : Option (Nat × Value)), Instr.findNow d (a.eval i) es 0 = some f →
            (execOp a.eval ⟨dst, .lookup t x i ok, type, pos, after, guard⟩).run P w = ((match f with | some (_, v) => pure (v, true) | none => do pure (← zeroValue e, false) : Sem (Value × Bool)).run P w).andThen fun p w => .ok (.value (if ok then .tuple #[p.1, .bool p.2] else p.1)) w := by
          rcases mapAt_sound hS h1 hma with ⟨hax, rfl⟩ | ⟨n, r, C, es, clock, _, hax, hn, hg, hr, hv1, hv2⟩
          · refine ⟨[], .nil ρ, .nil ρ, fun f hf => ?_⟩
            simp only [execOp, Instr.lookup, Sem.run_bind, run_under hu, Result.andThen_ok, hax, Sem.run_pure, run_checkKey hk hd, run_findKey hk hf]
            cases f with
            | none => cases hz0 : (zeroValue e).run P w <;> simp [hz0]
            | some p => rfl
          · refine ⟨es.toList, hv1, hv2, fun f hf => ?_⟩
            simp only [execOp, Instr.lookup, Sem.run_bind, run_under hu, Result.andThen_ok, hax, run_getMap hr, Sem.run_pure, run_checkKey hk hd, run_findKey hk hf]
            cases f with
            | none => cases hz0 : (zeroValue e).run P w <;> simp [hz0]
            | some p => rfl
        obtain ⟨es, hv1, hv2, hrun⟩ := hes
        split at h
        · rename_i j u hf
          cases h
          rcases mfind_sound h2 l es 0 _ hv1 hv2 hf with ⟨e1, _⟩ | ⟨j', u', v', e1, e2, e3⟩
          · cases e1
          · cases e1
            exact pure_ok rfl ((hrun _ e2).trans rfl) (two e3) (fun _ h => (by cases h))
        · rename_i hf
          rcases mfind_sound h2 l es 0 _ hv1 hv2 hf with ⟨_, e2⟩ | ⟨j', u', v', e1, _, _⟩
          · split at h
            · rename_i inf hinf
              split at h
              · rename_i z hz
                cases hfz : flat 4 z with
                | false => rw [hfz] at h; cases h
                | true =>
                  rw [hfz] at h
                  cases h
                  refine pure_ok rfl ((hrun _ e2).trans ?_) (two (flat_le 4 z hfz ρ)) (fun _ h => (by cases h))
                  simp [zeroValue, typeInfo, hinf, hz]
              · cases h
            · cases h
          · cases e1
        · cases h
      · cases h
    · exact flat_ok hT hG h (fun _ h => (by cases h)) (fun _ _ h => (by cases h))
  · cases h
theorem run_setMap {r : Nat} {es es' : Array MapEntry} {c c' : Nat} (h : w.heap[r]? = some (.map es c)) : (setObj r (.map es' c')).run P w = .ok () (w.putObj r (.map es' c')) := by
  simp only [setObj, Sem.run, h]
  rfl
/-- A map's block is written. -/
theorem mapWrite {n r C : Nat} {l l' : List (Value × Value)} {es es' : Array MapEntry} {c c' : Nat} {H' : HP} (hS : Sat P ρ H w) (hN : ∀ n b, H.get n = some b → n < N) (hn : ρ n = some (r, C)) (hg : H.get n = some (.map l)) (hr : w.heap[r]? = some (.map es c))
    (hH : ∀ m, H'.get m = if m = n then some (.map l') else H.get m) (h1 : VL ρ (l'.map (·.1)) (es'.toList.map (·.key))) (h2 : VL ρ (l'.map (·.2)) (es'.toList.map (·.val))) : Wrote P ρ ρ N N n H' w (w.putObj r (.map es' c')) := by
  have hlt : r < w.heap.size := (Array.getElem?_eq_some_iff.1 hr).1
  refine ⟨.refl ρ, fun _ _ => rfl, ⟨fun m b hm => ?_, fun m k b c x D F hm hk e1 e2 => ?_, fun m x D hm => by rw [World.putObj_size]; exact hS.lt m x D hm⟩, rfl, rfl, rfl, by simp, fun x hx h => ?_, fun m p a b => by omega, fun m b hm => ?_⟩
  · rw [hH] at hm
    by_cases e : m = n
    · subst e
      rw [if_pos rfl] at hm
      cases hm
      exact ⟨r, C, hn, es', c', World.putObj_heap_same hlt, h1, h2⟩
    · rw [if_neg e] at hm
      obtain ⟨x, D, k1, k2⟩ := hS.blk m b hm
      have hx : x ≠ r := fun ex => by subst ex; exact e (hS.inj m n b _ x D C hm hg k1 hn)
      exact ⟨x, D, k1, by rw [World.putObj_heap_other hx]; exact k2⟩
  · have get : ∀ i c, H'.get i = some c → ∃ c', H.get i = some c' := fun i c hi => by
      rw [hH] at hi
      by_cases e' : i = n
      · subst e'; exact ⟨_, hg⟩
      · rw [if_neg e'] at hi; exact ⟨c, hi⟩
    obtain ⟨b', hb'⟩ := get m b hm
    obtain ⟨c', hc'⟩ := get k c hk
    exact hS.inj m k b' c' x D F hb' hc' e1 e2
  · exact World.putObj_heap_other (fun ex => h n (r, C) (Nat.le_refl _) (hN n _ hg) hn ex.symm)
  · rw [hH] at hm
    by_cases e : m = n
    · rw [e]; exact hN n _ hg
    · rw [if_neg e] at hm; exact hN m b hm
theorem sameNow_key {d : TypeDesc} {x y : Value} {b : Bool} (hd : ∃ j, d = .int j) (h : Instr.sameNow d x y = some b) : (b = true → y = x) ∧ ∃ k n, x = .int k n := by
  obtain ⟨j, rfl⟩ := hd
  unfold Instr.sameNow at h
  split at h
  · rename_i k a k' b'
    split at h
    · rename_i e; subst e; cases h; exact ⟨fun e => by simp at e; rw [e], ⟨_, _, rfl⟩⟩
    · cases h
  · rename_i e; cases e
  · rename_i e; cases e
  · cases h
/-- The key that is found is the one that was looked for. -/
theorem find_key {d : TypeDesc} {k v : Value} (hd : ∃ j, d = .int j) : ∀ (es : List MapEntry) (i j : Nat), Instr.findNow d k es i = some (some (j, v)) → ∃ e, es[j - i]? = some e ∧ i ≤ j ∧ e.key = k ∧ ∃ q n, k = .int q n
  | [], i, j, h => by simp [Instr.findNow] at h
  | e :: es, i, j, h => by
    simp only [Instr.findNow] at h
    cases hs : Instr.sameNow d k e.key with
    | none => rw [hs] at h; cases h
    | some b =>
      rw [hs] at h
      obtain ⟨h1, h2⟩ := sameNow_key hd hs
      cases b with
      | true => cases h; exact ⟨e, by simp, Nat.le_refl _, h1 rfl, h2⟩
      | false =>
        obtain ⟨e', g1, g2, g3, g4⟩ := find_key hd es (i + 1) j h
        refine ⟨e', ?_, by omega, g3, g4⟩
        rw [show j - i = (j - (i + 1)) + 1 from by omega]
        simpa using g1
theorem sameBits_refl {k : Value} (h : ∃ q n, k = .int q n) (n : Nat) : Instr.sameBits n k k = true := by
  obtain ⟨q, m, rfl⟩ := h
  cases n <;> simp [Instr.sameBits]
theorem mapUpdate_ok {t : TypeId} {x i y : Operand} (hS : Sat P ρ H w) (hT : TR ρ T a.tmps) (hG : Glob G ρ) (hN : ∀ n b, H.get n = some b → n < N)
    (h : (match aeval G T x, aeval G T i, aeval G T y with | some u, some i, some v => mapUpdateC P H N t u i v | _, _, _ => .bad 147) = Rs.ok out) : OpOk P ⟨dst, .mapUpdate t x i y, type, pos, after, guard⟩ ρ N out a w := by
  split at h
  · rename_i u ui uv hx hi hy
    have h1 := aeval_sound hT hG hx
    have h2 := aeval_sound hT hG hi
    have h3 := aeval_sound hT hG hy
    unfold mapUpdateC at h
    split at h
    · rename_i d e n hmo
      obtain ⟨k, hu, hk, hd⟩ := mapO_spec hmo
      split at h
      · rename_i l hg
        have hma : mapAt H (.map (some n)) = some l := by simp only [mapAt, hg]
        rcases mapAt_sound hS h1 hma with ⟨hax, _⟩ | ⟨n', r, C, es, clock, e0, hax, hn, _, hr, hv1, hv2⟩
        · rw [hax] at h1; cases h1
        · cases e0
          have hrun : ∀ f, Instr.findNow d (a.eval i) es.toList 0 = some f → (execOp a.eval ⟨dst, .mapUpdate t x i y, type, pos, after, guard⟩).run P w =
              ((match f with
                | some (j, _) => do
                  let key ← Instr.keyThatStays (((es[j]?).map (·.key)).getD (a.eval i)) (a.eval i)
                  setObj r (.map (es.modify j fun e => { e with key, val := a.eval y }) clock)
                | none => setObj r (.map (es.push { key := a.eval i, val := a.eval y, born := clock }) (clock + 1)) : Sem Unit).run P w).andThen fun _ w => .ok .skip w := fun f hf => by
            simp only [execOp, Instr.mapUpdate, Sem.run_bind, run_under hu, Result.andThen_ok, hax, run_getMap hr, run_checkKey hk hd, run_findKey hk hf]
            cases f <;> rfl
          split at h
          · rename_i j u hf
            rcases mfind_sound h2 l es.toList 0 _ hv1 hv2 hf with ⟨e1, _⟩ | ⟨j', u', v', e1, e2, e3⟩
            · cases e1
            · cases e1
              rcases PT.insK_spec 60 H n (some (AB.map (l.set j (ui, uv)))) with hbad | ⟨H', hok, hget⟩
              · rw [hbad] at h; cases h
              · rw [hok] at h
                cases h
                obtain ⟨en, g1, _, g3, g4⟩ := find_key hd _ _ _ e2
                rw [Nat.sub_zero, Array.getElem?_toList] at g1
                refine ⟨Nat.le_refl _, fun hF ro mm K Q hK => wp_skipped (w' := w.putObj r (.map (es.modify j fun e => { e with key := a.eval i, val := a.eval y }) clock)) ?_ (hK _ _ _ (mapWrite hS hN hn hg hr hget ?_ ?_) (by exact .tuple rfl (fun i u v h => by simp at h)))⟩
                · rw [hrun _ e2]
                  have hkey : (Instr.keyThatStays (((es[j]?).map (·.key)).getD (a.eval i)) (a.eval i)).run P w = .ok (a.eval i) w := by
                    rw [g1]
                    simp only [Option.map_some, Option.getD_some, g3, Instr.keyThatStays, sameBits_refl g4, if_true, Sem.run_pure]
                  simp only [Sem.run_bind, hkey, Result.andThen_ok, run_setMap hr]
                · have := hv1.set h2 j
                  rw [List.map_set]
                  have e5 : (es.modify j fun e => { e with key := a.eval i, val := a.eval y }).toList.map (·.key) = (es.toList.map (·.key)).set j (a.eval i) := by
                    rw [Array.toList_modify]
                    apply List.ext_getElem?
                    intro q
                    simp only [List.getElem?_map, List.getElem?_modify, List.getElem?_set, List.length_map]
                    by_cases e6 : j = q
                    · subst e6
                      have hlt : j < es.toList.length := by rw [Array.length_toList]; exact (Array.getElem?_eq_some_iff.1 g1).1
                      simp only [if_true, hlt, List.getElem?_eq_getElem hlt]
                      rfl
                    · simp only [if_neg e6]
                      cases es.toList[q]? <;> rfl
                  rw [e5]
                  exact this
                · have := hv2.set h3 j
                  rw [List.map_set]
                  have e5 : (es.modify j fun e => { e with key := a.eval i, val := a.eval y }).toList.map (·.val) = (es.toList.map (·.val)).set j (a.eval y) := by
                    rw [Array.toList_modify]
                    apply List.ext_getElem?
                    intro q
                    simp only [List.getElem?_map, List.getElem?_modify, List.getElem?_set, List.length_map]
                    by_cases e6 : j = q
                    · subst e6
                      have hlt : j < es.toList.length := by rw [Array.length_toList]; exact (Array.getElem?_eq_some_iff.1 g1).1
                      simp only [if_true, hlt, List.getElem?_eq_getElem hlt]
                      rfl
                    · simp only [if_neg e6]
                      cases es.toList[q]? <;> rfl
                  rw [e5]
                  exact this
          · rename_i hf
            rw [appK_eq] at h
            rcases mfind_sound h2 l es.toList 0 _ hv1 hv2 hf with ⟨_, e2⟩ | ⟨j', u', v', e1, _, _⟩
            · rcases PT.insK_spec 60 H n (some (AB.map (l ++ [(ui, uv)]))) with hbad | ⟨H', hok, hget⟩
              · rw [hbad] at h; cases h
              · rw [hok] at h
                cases h
                refine ⟨Nat.le_refl _, fun hF ro mm K Q hK => wp_skipped (w' := w.putObj r (.map (es.push { key := a.eval i, val := a.eval y, born := clock }) (clock + 1))) ?_ (hK _ _ _ (mapWrite hS hN hn hg hr hget ?_ ?_) (by exact .tuple rfl (fun i u v h => by simp at h)))⟩
                · rw [hrun _ e2]
                  simp only [run_setMap hr, Result.andThen_ok]
                · simp only [List.map_append, Array.toList_push, List.map_cons, List.map_nil]
                  exact hv1.append (.cons h2 (.nil ρ))
                · simp only [List.map_append, Array.toList_push, List.map_cons, List.map_nil]
                  exact hv2.append (.cons h3 (.nil ρ))
            · cases e1
          · cases h
      · cases h
    · cases h
  · cases h
end
end Go.Proofs.YtadpelhmjmamnaaGreatDoor.Ev
