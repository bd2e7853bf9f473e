/- The reckoner: maps; every operation that calls nothing. The reckoner: one operation. The reckoner made ready does what the reckoner does: operati. The reckoner made ready does what the reckoner does: every o. The reckoner: steps one behind the other. -/
import Derived.Test.YtcjgilagldbjnaaGreatDoorPkBb6
namespace Go.Proofs.YtcjgilagldbjnaaGreatDoor
section
namespace Ev
open Go Go.RowKit
section
variable {P : Program} {G : Nat} {ρ : Env} {T : PT Value} {H : HP} {N : Nat} {out : Out} {a : Act} {w : World} {dst : Option Tmp} {type : TypeId} {pos : String} {after : Array Edge} {guard : Option (Nat × Bool)}
theorem makeMap_ok {t : TypeId} (h : (Rs.ok (.v (.map (some N)) [(N, .map [])] (Nat.succ N)) : Rs Out) = .ok out) : OpOk P ⟨dst, .makeMap t none, type, pos, after, guard⟩ ρ N out a w := by
 cases h
 refine ⟨Nat.le_succ N, fun hF ro mm K Q hK => wp_value (v := .map (some w.heap.size)) (w' := { w with heap := w.heap.push (.map #[] 0) }) rfl (hK _ _ (setE ρ N (w.heap.size, 0)) ?_ (.map (setE_self ρ N _)))⟩
 refine Grew.one (hF.free _) (below_push w _) (by simp) ?_
 exact ⟨#[], 0, push_at w _, .nil _, .nil _⟩
theorem lookup_ok {t : TypeId} {x i : Operand} {ok : Bool} (hS : Sat P ρ H w) (hT : TR ρ T a.tmps) (hG : Glob G ρ)
  (h : (match aeval G T x, aeval G T i with
  | some u, some v => (match u with | .map _ => lookupC P H N t u v ok | _ => flatC P G T N ⟨dst, .lookup t x i ok, type, pos, after, guard⟩)
  | _, _ => .bad 146) = Rs.ok out) : OpOk P ⟨dst, .lookup t x i ok, type, pos, after, guard⟩ ρ N out a w := by
 split at h
 ·rename_i u v hx hi
  have h1 := aeval_sound hT hG hx
  have h2 := aeval_sound hT hG hi
  split at h
  ·rename_i r0
   unfold lookupC at h
   split at h
   ·rename_i d e l hmo hma
    obtain ⟨k, hu, hk, hd⟩ := mapO_spec hmo
    have two : ∀ {u v : Value} {b : Bool}, VR ρ u v → VR ρ (cond ok (.tuple ⟨[u, .bool b]⟩) u) (if ok then .tuple #[v, .bool b] else v) := fun {u v b} hh => by
     have : VL ρ [u, .bool b] [v, .bool b] := .cons hh (.cons (.bool _) (.nil ρ))
     cases ok
     ·exact hh
     ·exact .tuple this.1 this.2
    -- what is found in the map's entries
    have hes : ∃ es : List MapEntry, VL ρ (l.map (·.1)) (es.map (·.key)) ∧ VL ρ (l.map (·.2)) (es.map (·.val)) ∧ ∀ (f : Option (Nat × Value)), Instr.findNow d (a.eval i) es 0 = some f →
      (execOp a.eval ⟨dst, .lookup t x i ok, type, pos, after, guard⟩).run P w = ((match f with | some (_, v) => pure (v, true) | none => do pure (← zeroValue e, false) : Sem (Value × Bool)).run P w).andThen fun p w => .ok (.value (if ok then .tuple #[p.1, .bool p.2] else p.1)) w := by
     rcases mapAt_sound hS h1 hma with ⟨hax, rfl⟩ | ⟨n, r, C, es, clock, _, hax, hn, hg, hr, hv1, hv2⟩
     ·refine ⟨[], .nil ρ, .nil ρ, fun f hf => ?_⟩
      simp only [execOp, Instr.lookup, Sem.run_bind, run_under hu, Result.andThen_ok, hax, Sem.run_pure, run_checkKey hk hd, run_findKey hk hf]
      cases f with
      | none => cases hz0 : (zeroValue e).run P w <;> simp [hz0]
      | some p => rfl
     ·refine ⟨es.toList, hv1, hv2, fun f hf => ?_⟩
      simp only [execOp, Instr.lookup, Sem.run_bind, run_under hu, Result.andThen_ok, hax, run_getMap hr, Sem.run_pure, run_checkKey hk hd, run_findKey hk hf]
      cases f with
      | none => cases hz0 : (zeroValue e).run P w <;> simp [hz0]
      | some p => rfl
    obtain ⟨es, hv1, hv2, hrun⟩ := hes
    split at h
    ·rename_i j u hf
     cases h
     rcases mfind_sound h2 l es 0 _ hv1 hv2 hf with ⟨e1, _⟩ | ⟨j', u', v', e1, e2, e3⟩
     ·cases e1
     ·cases e1
      exact pure_ok rfl ((hrun _ e2).trans rfl) (two e3) (fun _ h => (by cases h))
    ·rename_i hf
     rcases mfind_sound h2 l es 0 _ hv1 hv2 hf with ⟨_, e2⟩ | ⟨j', u', v', e1, _, _⟩
     ·split at h
      ·rename_i inf hinf
       split at h
       ·rename_i z hz
        cases hfz : flat 4 z with
        | false => rw [hfz] at h; cases h
        | true =>
         rw [hfz] at h
         cases h
         refine pure_ok rfl ((hrun _ e2).trans ?_) (two (flat_le 4 z hfz ρ)) (fun _ h => (by cases h))
         simp [zeroValue, typeInfo, hinf, hz]
       ·cases h
      ·cases h
     ·cases e1
    ·cases h
   ·cases h
  ·exact flat_ok hT hG h (fun _ h => (by cases h)) (fun _ _ h => (by cases h))
 ·cases h
theorem run_setMap {r : Nat} {es es' : Array MapEntry} {c c' : Nat} (h : w.heap[r]? = some (.map es c)) : (setObj r (.map es' c')).run P w = .ok () (w.putObj r (.map es' c')) := by
 simp only [setObj, Sem.run, h]
 rfl
theorem mapWrite {n r C : Nat} {l l' : List (Value × Value)} {es es' : Array MapEntry} {c c' : Nat} {H' : HP} (hS : Sat P ρ H w) (hN : ∀ n b, H.get n = some b → n < N) (hn : ρ n = some (r, C)) (hg : H.get n = some (.map l)) (hr : w.heap[r]? = some (.map es c))
  (hH : ∀ m, H'.get m = if m = n then some (.map l') else H.get m) (h1 : VL ρ (l'.map (·.1)) (es'.toList.map (·.key))) (h2 : VL ρ (l'.map (·.2)) (es'.toList.map (·.val))) : Wrote P ρ ρ N N n H' w (w.putObj r (.map es' c')) := by
 have hlt : r < w.heap.size := (Array.getElem?_eq_some_iff.1 hr).1
 refine ⟨.refl ρ, fun _ _ => rfl, ⟨fun m b hm => ?_, fun m k b c x D F hm hk e1 e2 => ?_, fun m x D hm => by rw [World.putObj_size]; exact hS.lt m x D hm⟩, rfl, rfl, rfl, by simp, fun x hx h => ?_, fun m p a b => by omega, fun m b hm => ?_⟩
 ·rw [hH] at hm
  by_cases e : m = n
  ·subst e
   rw [if_pos rfl] at hm
   cases hm
   exact ⟨r, C, hn, es', c', World.putObj_heap_same hlt, h1, h2⟩
  ·rw [if_neg e] at hm
   obtain ⟨x, D, k1, k2⟩ := hS.blk m b hm
   have hx : x ≠ r := fun ex => by subst ex; exact e (hS.inj m n b _ x D C hm hg k1 hn)
   exact ⟨x, D, k1, by rw [World.putObj_heap_other hx]; exact k2⟩
 ·have get : ∀ i c, H'.get i = some c → ∃ c', H.get i = some c' := fun i c hi => by
   rw [hH] at hi
   by_cases e' : i = n
   ·subst e'; exact ⟨_, hg⟩
   ·rw [if_neg e'] at hi; exact ⟨c, hi⟩
  obtain ⟨b', hb'⟩ := get m b hm
  obtain ⟨c', hc'⟩ := get k c hk
  exact hS.inj m k b' c' x D F hb' hc' e1 e2
 ·exact World.putObj_heap_other (fun ex => h n (r, C) (Nat.le_refl _) (hN n _ hg) hn ex.symm)
 ·rw [hH] at hm
  by_cases e : m = n
  ·rw [e]; exact hN n _ hg
  ·rw [if_neg e] at hm; exact hN m b hm
theorem sameNow_key {d : TypeDesc} {x y : Value} {b : Bool} (hd : ∃ j, d = .int j) (h : Instr.sameNow d x y = some b) : (b = true → y = x) ∧ ∃ k n, x = .int k n := by
 obtain ⟨j, rfl⟩ := hd
 unfold Instr.sameNow at h
 split at h
 ·rename_i k a k' b'
  split at h
  ·rename_i e; subst e; cases h; exact ⟨fun e => by simp at e; rw [e], ⟨_, _, rfl⟩⟩
  ·cases h
 ·rename_i e; cases e
 ·rename_i e; cases e
 ·cases h
theorem find_key {d : TypeDesc} {k v : Value} (hd : ∃ j, d = .int j) : ∀ (es : List MapEntry) (i j : Nat), Instr.findNow d k es i = some (some (j, v)) → ∃ e, es[j - i]? = some e ∧ i ≤ j ∧ e.key = k ∧ ∃ q n, k = .int q n
 | [], i, j, h => by simp [Instr.findNow] at h
 | e :: es, i, j, h => by
  simp only [Instr.findNow] at h
  cases hs : Instr.sameNow d k e.key with
  | none => rw [hs] at h; cases h
  | some b =>
   rw [hs] at h
   obtain ⟨h1, h2⟩ := sameNow_key hd hs
   cases b with
   | true => cases h; exact ⟨e, by simp, Nat.le_refl _, h1 rfl, h2⟩
   | false =>
    obtain ⟨e', g1, g2, g3, g4⟩ := find_key hd es (i + 1) j h
    refine ⟨e', ?_, by omega, g3, g4⟩
    rw [show j - i = (j - (i + 1)) + 1 from by omega]
    simpa using g1
theorem sameBits_refl {k : Value} (h : ∃ q n, k = .int q n) (n : Nat) : Instr.sameBits n k k = true := by
 obtain ⟨q, m, rfl⟩ := h
 cases n <;> simp [Instr.sameBits]
theorem mapUpdate_ok {t : TypeId} {x i y : Operand} (hS : Sat P ρ H w) (hT : TR ρ T a.tmps) (hG : Glob G ρ) (hN : ∀ n b, H.get n = some b → n < N)
  (h : (match aeval G T x, aeval G T i, aeval G T y with | some u, some i, some v => mapUpdateC P H N t u i v | _, _, _ => .bad 147) = Rs.ok out) : OpOk P ⟨dst, .mapUpdate t x i y, type, pos, after, guard⟩ ρ N out a w := by
 split at h
 ·rename_i u ui uv hx hi hy
  have h1 := aeval_sound hT hG hx
  have h2 := aeval_sound hT hG hi
  have h3 := aeval_sound hT hG hy
  unfold mapUpdateC at h
  split at h
  ·rename_i d e n hmo
   obtain ⟨k, hu, hk, hd⟩ := mapO_spec hmo
   split at h
   ·rename_i l hg
    have hma : mapAt H (.map (some n)) = some l := by simp only [mapAt, hg]
    rcases mapAt_sound hS h1 hma with ⟨hax, _⟩ | ⟨n', r, C, es, clock, e0, hax, hn, _, hr, hv1, hv2⟩
    ·rw [hax] at h1; cases h1
    ·cases e0
     have hrun : ∀ f, Instr.findNow d (a.eval i) es.toList 0 = some f → (execOp a.eval ⟨dst, .mapUpdate t x i y, type, pos, after, guard⟩).run P w =
       ((match f with
         | some (j, _) => do
          let key ← Instr.keyThatStays (((es[j]?).map (·.key)).getD (a.eval i)) (a.eval i)
          setObj r (.map (es.modify j fun e => { e with key, val := a.eval y }) clock)
         | none => setObj r (.map (es.push { key := a.eval i, val := a.eval y, born := clock }) (clock + 1)) : Sem Unit).run P w).andThen fun _ w => .ok .skip w := fun f hf => by
      simp only [execOp, Instr.mapUpdate, Sem.run_bind, run_under hu, Result.andThen_ok, hax, run_getMap hr, run_checkKey hk hd, run_findKey hk hf]
      cases f <;> rfl
     split at h
     ·rename_i j u hf
      rcases mfind_sound h2 l es.toList 0 _ hv1 hv2 hf with ⟨e1, _⟩ | ⟨j', u', v', e1, e2, e3⟩
      ·cases e1
      ·cases e1
       rcases PT.insK_spec 60 H n (some (AB.map (l.set j (ui, uv)))) with hbad | ⟨H', hok, hget⟩
       ·rw [hbad] at h; cases h
       ·rw [hok] at h
        cases h
        obtain ⟨en, g1, _, g3, g4⟩ := find_key hd _ _ _ e2
        rw [Nat.sub_zero, Array.getElem?_toList] at g1
        refine ⟨Nat.le_refl _, fun hF ro mm K Q hK => wp_skipped (w' := w.putObj r (.map (es.modify j fun e => { e with key := a.eval i, val := a.eval y }) clock)) ?_ (hK _ _ _ (mapWrite hS hN hn hg hr hget ?_ ?_) (by exact .tuple rfl (fun i u v h => by simp at h)))⟩
        ·rw [hrun _ e2]
         have hkey : (Instr.keyThatStays (((es[j]?).map (·.key)).getD (a.eval i)) (a.eval i)).run P w = .ok (a.eval i) w := by
          rw [g1]
          simp only [Option.map_some, Option.getD_some, g3, Instr.keyThatStays, sameBits_refl g4, if_true, Sem.run_pure]
         simp only [Sem.run_bind, hkey, Result.andThen_ok, run_setMap hr]
        ·have := hv1.set h2 j
         rw [List.map_set]
         have e5 : (es.modify j fun e => { e with key := a.eval i, val := a.eval y }).toList.map (·.key) = (es.toList.map (·.key)).set j (a.eval i) := by
          rw [Array.toList_modify]
          apply List.ext_getElem?
          intro q
          simp only [List.getElem?_map, List.getElem?_modify, List.getElem?_set, List.length_map]
          by_cases e6 : j = q
          ·subst e6
           have hlt : j < es.toList.length := by rw [Array.length_toList]; exact (Array.getElem?_eq_some_iff.1 g1).1
           simp only [if_true, hlt, List.getElem?_eq_getElem hlt]
           rfl
          ·simp only [if_neg e6]
           cases es.toList[q]? <;> rfl
         rw [e5]
         exact this
        ·have := hv2.set h3 j
         rw [List.map_set]
         have e5 : (es.modify j fun e => { e with key := a.eval i, val := a.eval y }).toList.map (·.val) = (es.toList.map (·.val)).set j (a.eval y) := by
          rw [Array.toList_modify]
          apply List.ext_getElem?
          intro q
          simp only [List.getElem?_map, List.getElem?_modify, List.getElem?_set, List.length_map]
          by_cases e6 : j = q
          ·subst e6
           have hlt : j < es.toList.length := by rw [Array.length_toList]; exact (Array.getElem?_eq_some_iff.1 g1).1
           simp only [if_true, hlt, List.getElem?_eq_getElem hlt]
           rfl
          ·simp only [if_neg e6]
           cases es.toList[q]? <;> rfl
         rw [e5]
         exact this
     ·rename_i hf
      rw [appK_eq] at h
      rcases mfind_sound h2 l es.toList 0 _ hv1 hv2 hf with ⟨_, e2⟩ | ⟨j', u', v', e1, _, _⟩
      ·rcases PT.insK_spec 60 H n (some (AB.map (l ++ [(ui, uv)]))) with hbad | ⟨H', hok, hget⟩
       ·rw [hbad] at h; cases h
       ·rw [hok] at h
        cases h
        refine ⟨Nat.le_refl _, fun hF ro mm K Q hK => wp_skipped (w' := w.putObj r (.map (es.push { key := a.eval i, val := a.eval y, born := clock }) (clock + 1))) ?_ (hK _ _ _ (mapWrite hS hN hn hg hr hget ?_ ?_) (by exact .tuple rfl (fun i u v h => by simp at h)))⟩
        ·rw [hrun _ e2]
         simp only [run_setMap hr, Result.andThen_ok]
        ·simp only [List.map_append, Array.toList_push, List.map_cons, List.map_nil]
         exact hv1.append (.cons h2 (.nil ρ))
        ·simp only [List.map_append, Array.toList_push, List.map_cons, List.map_nil]
         exact hv2.append (.cons h3 (.nil ρ))
      ·cases e1
     ·cases h
   ·cases h
  ·cases h
 ·cases h
end
end Ev
end
section
namespace Ev
open Go Go.RowKit
def NextOk (P : Program) (s : Sem Next) (ρ : Env) (N : Nat) (out : Out) (w : World) : Prop :=
 match out with
 | .v u d N' => N ≤ N' ∧ (Dom ρ N → ∀ (ro : Option Nat) (m : Nat) (o : Oper) (a : Act) (K : Act → World → Prop) (Q : Exit → Act → World → Prop),
   (∀ v w' ρ', Grew P ρ ρ' N N' d w w' → VR ρ' u v → K (a.put o.dst v) w') → o.uponIn (fe ro) m P a K Q (s.run P w))
 | .w u H' N' lo => N ≤ N' ∧ (Dom ρ N → ∀ (ro : Option Nat) (m : Nat) (o : Oper) (a : Act) (K : Act → World → Prop) (Q : Exit → Act → World → Prop),
   (∀ v w' ρ', Wrote P ρ ρ' N N' lo H' w w' → VR ρ' u v → K (a.put o.dst v) w') → o.uponIn (fe ro) m P a K Q (s.run P w))
def CallOk (P : Program) (G : Nat) (call : CallT) : Prop := ∀ f us vs H N out ρ w, call f us H N = .ok out → Sat P ρ H w → Glob G ρ → (∀ n b, H.get n = some b → n < N) → VL ρ us vs → NextOk P (callFunc f ⟨vs⟩) ρ N out w
def YldOk (P : Program) (G : Nat) (yld : YldT) : Prop := ∀ l b C us vs H N out ρ w, yld l us H N = .ok out → Sat P ρ H w → Glob G ρ → (∀ n b, H.get n = some b → n < N) → ρ l = some (b, C) → VL ρ us vs → NextOk P (Instr.yield b ⟨vs⟩) ρ N out w
theorem NextOk.op {P : Program} {s : Sem Next} {ρ : Env} {N : Nat} {out : Out} {a : Act} {w : World} {o : Oper} (h : NextOk P s ρ N out w) (hd : ∀ c, o.op ≠ .defer c) (hs : (execOp a.eval o).run P w = s.run P w) : OpOk P o ρ N out a w := by
 cases out with
 | v u d N' => exact ⟨h.1, fun hF ro m K Q hK => ⟨fun _ _ => trivial, by rw [Oper.semAt_eq _ _ _ hd, hs]; exact h.2 hF ro m o a K Q hK⟩⟩
 | w u H' N' lo => exact ⟨h.1, fun hF ro m K Q hK => ⟨fun _ _ => trivial, by rw [Oper.semAt_eq _ _ _ hd, hs]; exact h.2 hF ro m o a K Q hK⟩⟩
section
variable {P : Program} {G : Nat} {ρ : Env} {T : PT Value} {H : HP} {N : Nat} {out : Out} {a : Act} {w : World} {dst : Option Tmp} {type : TypeId} {pos : String} {after : Array Edge} {guard : Option (Nat × Bool)}
theorem callv_ok {call : CallT} {yld : YldT} {f : Operand} {args : Array Operand} {ts : Array TypeId} (hc : CallOk P G call) (hy : YldOk P G yld) (hS : Sat P ρ H w) (hT : TR ρ T a.tmps) (hG : Glob G ρ) (hN : ∀ n b, H.get n = some b → n < N)
  (h : (match aeval G T f with
  | some (.func (.func g) first captured) => vals G T args.toList fun vs => appK vs captured.toList fun l => appK first.toList l fun l => call g l H N
  | some (.func (.yield n) _ _) => vals G T args.toList fun vs => yld n vs H N
  | _ => .bad 112) = Rs.ok out) : OpOk P ⟨dst, .call { callee := .value f, args, argTypes := ts }, type, pos, after, guard⟩ ρ N out a w := by
 have e : ∀ (l : Array Operand), l.map a.eval = ⟨l.toList.map a.eval⟩ := fun l => Array.ext' (by simp)
 split at h
 ·rename_i g first captured hf
  have h1 := aeval_sound hT hG hf
  obtain ⟨us, h2, hv, _⟩ := vals_sound hT hG _ _ _ h
  rw [appK_eq, appK_eq] at h2
  generalize hvf : a.eval f = vf at h1
  cases h1 with
  | @func _ us0 vs0 xs0 ys0 e1 e2 e3 e4 =>
  have hall : VL ρ (us0 ++ (us ++ xs0)) (vs0 ++ (args.toList.map a.eval ++ ys0)) := VL.append ⟨e1, e2⟩ (hv.append ⟨e3, e4⟩)
  have hn := hc _ _ _ _ _ _ _ _ h2 hS hG hN hall
  refine hn.op (fun _ h => (by cases h)) ?_
  simp only [execOp, resolve, hvf, Deferred.ofValue, Sem.run_bind, Sem.run_pure, Result.andThen_ok, invoke]
  congr 2
  apply Array.ext'
  simp
 ·rename_i n b c hf
  have h1 := aeval_sound hT hG hf
  obtain ⟨us, h2, hv, _⟩ := vals_sound hT hG _ _ _ h
  generalize hvf : a.eval f = vf at h1
  cases h1 with
  | @yld _ b C hb =>
  have hn := hy _ _ _ _ _ _ _ _ _ _ h2 hS hG hN hb hv
  refine hn.op (fun _ h => (by cases h)) ?_
  simp only [execOp, resolve, hvf, Deferred.ofValue, Sem.run_bind, Sem.run_pure, Result.andThen_ok, invoke]
  congr 2
  apply Array.ext'
  simp
 ·cases h
theorem meth_run {t : TypeId} {name : String} {f : FuncId} (h : methO P t name = some f) (v : Value) (args : Array Value) : (callMethod (.iface t v) name args).run P w = (callFunc f (#[v] ++ args)).run P w := by
 unfold methO at h
 split at h
 ·rename_i i hi
  split at h
  ·rename_i m hm
   split at h
   ·rename_i f' hf hp
    split at h
    ·cases h
    ·rename_i d hd hu
     cases h
     have hn : P.types.size + Made.depth = (P.types.size + (Made.depth - 1)) + 1 := rfl
     have hpath : m.path.isEmpty = true := by
      rw [Array.isEmpty_iff]
      exact Array.ext' (by simpa using hp)
     have hrec : ∀ wr, (receiverAt t (.val v) false wr).run P w = .ok v w := fun wr => by
      unfold receiverAt
      rw [Sem.run_bind, run_under hu, Result.andThen_ok]
      cases d <;> first | exact absurd rfl (hd _) | rfl
     have hmeth : (method (P.types.size + Made.depth) t v name).run P w = .ok (f, v) w := by
      rw [hn]
      unfold method
      rw [Sem.run_bind, run_info hi, Result.andThen_ok, hm]
      simp only [hp, follow, Sem.run_bind, Sem.run_pure, Result.andThen_ok, hf, hrec]
     simp [callMethod, hmeth]
    ·cases h
   ·cases h
  ·cases h
 ·cases h
theorem invoke_ok {call : CallT} {r : Operand} {name : String} {args : Array Operand} {ts : Array TypeId} (hc : CallOk P G call) (hS : Sat P ρ H w) (hT : TR ρ T a.tmps) (hG : Glob G ρ) (hN : ∀ n b, H.get n = some b → n < N)
  (h : (match aeval G T r with
  | some (.iface t v) => (match methO P t name with
   | some f => vals G T args.toList fun vs => call f (v :: vs) H N
   | none => .bad 163)
  | _ => .bad 164) = Rs.ok out) : OpOk P ⟨dst, .call { callee := .invoke r name, args, argTypes := ts }, type, pos, after, guard⟩ ρ N out a w := by
 split at h
 ·rename_i t v hr
  split at h
  ·rename_i f hm
   have h1 := aeval_sound hT hG hr
   obtain ⟨us, h2, hv, _⟩ := vals_sound hT hG _ _ _ h
   generalize hvr : a.eval r = vr at h1
   cases h1 with
   | @iface _ _ v' h1 =>
   have hn := hc _ _ _ _ _ _ _ _ h2 hS hG hN (VL.cons h1 hv)
   refine hn.op (fun _ h => (by cases h)) ?_
   simp only [execOp, resolve, Sem.run_bind, Sem.run_pure, Result.andThen_ok, invoke, hvr]
   have e0 : (#[Value.iface t v'] ++ args.map a.eval)[0]? = some (.iface t v') := by
    rw [Array.getElem?_append_left (show 0 < (#[Value.iface t v'] : Array Value).size from Nat.zero_lt_one)]; rfl
   rw [e0]
   have e1 : (#[Value.iface t v'] ++ args.map a.eval).extract 1 (#[Value.iface t v'] ++ args.map a.eval).size = args.map a.eval := by simp
   simp only [e1]
   rw [meth_run hm]
   congr 2
   exact Array.ext' (by simp)
  ·cases h
 ·cases h
theorem run_len {t : TypeId} {x : Operand} {n : Nat} {e : TypeId} (hu : P.underlying t = some (.slice e)) {b : Option Addr} {c : Nat} (hx : a.eval x = .slice b n c) :
  (execOp a.eval ⟨dst, .call { callee := .builtin .len, args := ⟨[x]⟩, argTypes := ⟨[t]⟩ }, type, pos, after, guard⟩).run P w = .ok (.value (.int .i64 (n : Int))) w := by
 refine run_call_builtin (fun consts => ?_)
 have : (⟨[x]⟩ : Array Operand).map a.eval = #[.slice b n c] := Array.ext' (by simp [hx])
 rw [this]
 simp only [builtin, Builtin.len_, Sem.run_bind, List.getElem?_toArray, List.getElem?_cons_zero, run_under hu, Result.andThen_ok]
 rfl
theorem run_cap {t : TypeId} {x : Operand} {n : Nat} {e : TypeId} (hu : P.underlying t = some (.slice e)) {b : Option Addr} {c : Nat} (hx : a.eval x = .slice b n c) :
  (execOp a.eval ⟨dst, .call { callee := .builtin .cap, args := ⟨[x]⟩, argTypes := ⟨[t]⟩ }, type, pos, after, guard⟩).run P w = .ok (.value (.int .i64 (c : Int))) w := by
 refine run_call_builtin (fun consts => ?_)
 have : (⟨[x]⟩ : Array Operand).map a.eval = #[.slice b n c] := Array.ext' (by simp [hx])
 rw [this]
 simp only [builtin, Builtin.cap_, Sem.run_bind, List.getElem?_toArray, List.getElem?_cons_zero, run_under hu, Result.andThen_ok]
 rfl
theorem len_ok {t : TypeId} {x : Operand} (hS : Sat P ρ H w) (hT : TR ρ T a.tmps) (hG : Glob G ρ)
  (h : (match aeval G T x with
   | some (.map r) => (match mapO' P t, mapAt H (.map r) with | some _, some l => Rs.ok (.v (.int .i64 l.length) [] N) | _, _ => .bad 148)
   | some v => (match lenV v, sliceO P t with | some n, some _ => .ok (.v (.int .i64 n) [] N) | _, _ => flatC P G T N ⟨dst, .call { callee := .builtin .len, args := ⟨[x]⟩, argTypes := ⟨[t]⟩ }, type, pos, after, guard⟩)
   | none => .bad 110) = Rs.ok out) : OpOk P ⟨dst, .call { callee := .builtin .len, args := ⟨[x]⟩, argTypes := ⟨[t]⟩ }, type, pos, after, guard⟩ ρ N out a w := by
 split at h
 ·rename_i r hx
  have h1 := aeval_sound hT hG hx
  split at h
  ·rename_i p l hmo hma
   obtain ⟨d, e⟩ := p
   obtain ⟨k, hu, _, _⟩ := mapO_spec hmo
   cases h
   refine pure_ok rfl (v := .int .i64 (l.length : Int)) (run_call_builtin (fun consts => ?_)) (.int _ _) (fun _ h => (by cases h))
   rcases mapAt_sound hS h1 hma with ⟨hax, rfl⟩ | ⟨n, r, C, es, clock, _, hax, hn, hg, hr, hv1, hv2⟩
   ·have : (⟨[x]⟩ : Array Operand).map a.eval = #[.map none] := Array.ext' (by simp [hax])
    rw [this]
    simp only [builtin, Builtin.len_, Sem.run_bind, List.getElem?_toArray, List.getElem?_cons_zero, run_under hu, Result.andThen_ok]
    rfl
   ·have : (⟨[x]⟩ : Array Operand).map a.eval = #[.map (some r)] := Array.ext' (by simp [hax])
    rw [this]
    simp only [builtin, Builtin.len_, Sem.run_bind, List.getElem?_toArray, List.getElem?_cons_zero, run_under hu, Result.andThen_ok, run_getMap hr]
    have hl : l.length = es.size := by have := hv1.1; simpa using this
    rw [hl]
    rfl
  ·cases h
 ·rename_i v _ hx
  have h1 := aeval_sound hT hG hx
  split at h
  ·rename_i n p hl hso
   obtain ⟨e, sz⟩ := p
   obtain ⟨hu, _⟩ := sliceO_spec hso
   cases h
   obtain ⟨b, c, rfl⟩ := lenV_spec hl
   obtain ⟨bs, c', hax, _⟩ := h1.slice rfl
   exact pure_ok rfl (run_len hu hax) (.int _ _) (fun _ h => (by cases h))
  ·exact flat_ok hT hG h (fun _ h => (by cases h)) (fun _ _ h => (by cases h))
 ·cases h
theorem cap_ok {t : TypeId} {x : Operand} (hT : TR ρ T a.tmps) (hG : Glob G ρ)
  (h : (match aeval G T x with | some v => (match capV v, sliceO P t with | some n, some _ => Rs.ok (.v (.int .i64 n) [] N) | _, _ => flatC P G T N ⟨dst, .call { callee := .builtin .cap, args := ⟨[x]⟩, argTypes := ⟨[t]⟩ }, type, pos, after, guard⟩) | none => .bad 111) = Rs.ok out) :
  OpOk P ⟨dst, .call { callee := .builtin .cap, args := ⟨[x]⟩, argTypes := ⟨[t]⟩ }, type, pos, after, guard⟩ ρ N out a w := by
 split at h
 ·rename_i v hx
  have h1 := aeval_sound hT hG hx
  split at h
  ·rename_i n p hl hso
   obtain ⟨e, sz⟩ := p
   obtain ⟨hu, _⟩ := sliceO_spec hso
   cases h
   obtain ⟨b, o, l, rfl⟩ := capV_spec hl
   obtain ⟨bs, c', hax, _, hbase⟩ := h1.slice rfl
   obtain ⟨ba, C, rfl, _, hcap, _⟩ := hbase b o none rfl
   obtain rfl := hcap rfl
   exact pure_ok rfl (run_cap hu hax) (.int _ _) (fun _ h => (by cases h))
  ·exact flat_ok hT hG h (fun _ h => (by cases h)) (fun _ _ h => (by cases h))
 ·cases h
theorem builtin_ok {b : Builtin} {args : List Operand} {ts : List TypeId} (hS : Sat P ρ H w) (hT : TR ρ T a.tmps) (hG : Glob G ρ) (hN : ∀ n b, H.get n = some b → n < N)
  (h : builtinC P G ⟨dst, .call { callee := .builtin b, args := ⟨args⟩, argTypes := ⟨ts⟩ }, type, pos, after, guard⟩ T H N b args ts = .ok out) : OpOk P ⟨dst, .call { callee := .builtin b, args := ⟨args⟩, argTypes := ⟨ts⟩ }, type, pos, after, guard⟩ ρ N out a w := by
 unfold builtinC at h
 split at h
 ·exact append_ok hS hT hG hN h
 ·exact copy_ok hS hT hG hN h
 ·exact len_ok hS hT hG h
 ·exact cap_ok hT hG h
 ·exact flat_ok hT hG h (fun _ h => (by cases h)) (fun _ _ h => (by cases h))
theorem aop_ok {call : CallT} {yld : YldT} {o : Oper} (hc : CallOk P G call) (hy : YldOk P G yld) (hS : Sat P ρ H w) (hT : TR ρ T a.tmps) (hG : Glob G ρ) (hN : ∀ n b, H.get n = some b → n < N) (h : aop P G call yld o T H N = .ok out) : OpOk P o ρ N out a w := by
 obtain ⟨dst, op, type, pos, after, guard⟩ := o
 cases op with
 | move x => exact move_ok (.inl rfl) hT hG h
 | assign x => exact move_ok (.inr rfl) hT hG h
 | pick c x y => exact pick_ok hT hG h
 | alloc e => exact alloc_ok h
 | box e x => exact box_ok hT hG h
 | build t parts => exact build_ok hT hG h
 | buildSlice t len parts => exact buildSlice_ok hT hG h
 | load t x => exact load_ok hS hT hG h
 | store t x y => exact store_ok hS hT hG hN h
 | nilCheck x => exact nilCheck_ok hT hG h
 | binOp op t x y yt => exact binOp_ok hT hG h
 | unOp op t x => exact unOp_ok hT hG h
 | convert s d x => exact convert_ok hT hG h
 | makeInterface t x => exact makeInterface_ok hT hG h
 | makeFunc fn first captured => cases fn with
  | func f => exact makeFunc_ok hT hG h
  | method f => exact makeMeth_ok hT hG h
  | _ => cases h
 | makeMap t r => cases r with
  | none => exact makeMap_ok h
  | some r => cases h
 | makeSlice t x y => exact makeSlice_ok hT hG h
 | slice t x lo hi mx => exact slice_ok hT hG h
 | fieldAddr t x f => exact fieldAddr_ok hT hG h
 | field t x f => exact field_ok hT hG h
 | indexAddr t x i => exact indexAddr_ok hT hG h
 | index t x i => exact index_ok hT hG h
 | lookup t x i ok => exact lookup_ok hS hT hG h
 | mapUpdate t x i y => exact mapUpdate_ok hS hT hG hN h
 | typeAssert x xt t ok => exact typeAssert_ok hT hG h
 | extract x i => exact extract_ok hT hG h
 | call c =>
  obtain ⟨callee, args, ts⟩ := c
  cases callee with
  | value f => exact callv_ok hc hy hS hT hG hN h
  | invoke r m => exact invoke_ok hc hS hT hG hN h
  | builtin b =>
   obtain ⟨args⟩ := args
   obtain ⟨ts⟩ := ts
   exact builtin_ok hS hT hG hN h
 | _ => cases h
end
end Ev
end
section
namespace Ev
open Go Go.RowKit
theorem getF_nil (T : PT Value) : (getF []).run T = T.get 0 := by cases T <;> rfl
theorem getF_cons (b : Bool) (p : List Bool) (T : PT Value) : (getF (b :: p)).run T = match T with | .nil => none | .node l _ r => (getF p).run (if b then l else r) := by
 cases b <;> cases T <;> rfl
theorem pathN_succ (d i : Nat) : pathN (d + 1) i = cond (Nat.beq i 0) [] (cond (Nat.beq (Nat.mod i 2) 1) (true :: pathN d (Nat.div i 2)) (false :: pathN d (Nat.pred (Nat.div i 2)))) := rfl
theorem pathN_odd (d m : Nat) : pathN (d + 1) (2 * m + 1) = true :: pathN d m := by
 have h2 : Nat.mod (2 * m + 1) 2 = 1 := by show (2 * m + 1) % 2 = 1; omega
 have h3 : Nat.div (2 * m + 1) 2 = m := by show (2 * m + 1) / 2 = m; omega
 rw [pathN_succ, h2, h3]; rfl
theorem pathN_even (d m : Nat) : pathN (d + 1) (2 * m + 2) = false :: pathN d m := by
 have h2 : Nat.mod (2 * m + 2) 2 = 0 := by show (2 * m + 2) % 2 = 0; omega
 have h3 : Nat.div (2 * m + 2) 2 = m + 1 := by show (2 * m + 2) / 2 = m + 1; omega
 rw [pathN_succ, h2, h3]; rfl
theorem getF_eq : ∀ (d i : Nat) (T : PT Value), i < d → (getF (pathN d i)).run T = T.get i
 | 0, i, T, h => by omega
 | d + 1, i, T, h => by
  rcases PT.three i with rfl | ⟨m, rfl⟩ | ⟨m, rfl⟩
  ·exact getF_nil T
  ·rw [pathN_odd, getF_cons]
   cases T with
   | nil => rfl
   | node l v r => simp only [if_true]; rw [getF_eq d m l (by omega), PT.get_odd]
  ·rw [pathN_even, getF_cons]
   cases T with
   | nil => rfl
   | node l v r => simp only [Bool.false_eq_true, if_false]; rw [getF_eq d m r (by omega), PT.get_even]
section
variable {β : Type}
theorem setF_cons (b : Bool) (p : List Bool) (T : PT Value) (x : Value) (k : PT Value → Rs β) : (setF (b :: p)).run T x k = match T with | .nil => .bad 204 | .node l v r => if b then (setF p).run l x (fun l' => k (.node l' v r)) else (setF p).run r x (fun r' => k (.node l v r')) := by
 cases b <;> cases T <;> rfl
theorem setF_eq : ∀ (d i : Nat) (T : PT Value) (x : Value) (k : PT Value → Rs β), i < d → (setF (pathN d i)).run T x k = T.setK i x k (.bad 204)
 | 0, i, T, x, k, h => by omega
 | d + 1, i, T, x, k, h => by
  rcases PT.three i with rfl | ⟨m, rfl⟩ | ⟨m, rfl⟩
  ·cases T <;> rfl
  ·rw [pathN_odd, setF_cons]
   cases T with
   | nil => rfl
   | node l v r => simp only [if_true]; rw [setF_eq d m l x _ (by omega), PT.setK_odd]
  ·rw [pathN_even, setF_cons]
   cases T with
   | nil => rfl
   | node l v r => simp only [Bool.false_eq_true, if_false]; rw [setF_eq d m r x _ (by omega), PT.setK_even]
end
theorem argF_eq (G : Nat) (x : Operand) (T : PT Value) : (argF G x).run T = aeval G T x := by
 cases x with
 | tmp t => exact getF_eq (t + 1) t T (Nat.lt_succ_self t)
 | const v =>
  show (cond (flat 5 v) (⟨fun _ => some v⟩ : GetC) ⟨fun _ => none⟩).run T = cond (flat 5 v) (some v) none
  cases flat 5 v <;> rfl
 | global g =>
  show (cond (Nat.blt g G) (⟨fun _ => some (.pointer (some ⟨g, 0, none⟩))⟩ : GetC) ⟨fun _ => none⟩).run T = cond (Nat.blt g G) (some (.pointer (some ⟨g, 0, none⟩))) none
  cases Nat.blt g G <;> rfl
 | func f => rfl
theorem valsF_eq (G : Nat) : ∀ (l : List Operand) (T : PT Value) (k : List Value → Rs Out), (valsF G l).run T k = vals G T l k
 | [], T, k => rfl
 | x :: l, T, k => by
  have h : (valsF G (x :: l)).run T k = Option.rec (motive := fun _ => Rs Out) (.bad 81) (fun v => (valsF G l).run T (fun l => k (v :: l))) ((argF G x).run T) := rfl
  have h2 : vals G T (x :: l) k = match aeval G T x with | some v => vals G T l (fun l => k (v :: l)) | none => .bad 81 := rfl
  rw [h, h2, argF_eq]
  cases aeval G T x with
  | none => rfl
  | some v => exact valsF_eq G l T _
theorem rawN_eq (n : Nat) (k : Nat → RX) : rawN n k = k n := by cases n <;> rfl
theorem rawI_eq (j : IntKind) (n : Int) (k : Value → RX) : rawI j n k = k (.int j n) := by cases n with | ofNat m => cases m <;> rfl | negSucc m => cases m <;> rfl
theorem wrapK_eq (j : IntKind) (n : Int) (k : Value → RX) : wrapK j n k = k (.int j (wrapF j n)) := by
 cases n with
 | negSucc m => exact rawI_eq j _ k
 | ofNat m =>
  show Bool.rec (motive := fun _ => RX) (rawI j (j.wrap (.ofNat m)) k) (Nat.rec (motive := fun _ => RX) (k (.int j (.ofNat 0))) (fun m _ => k (.int j (.ofNat (Nat.succ m)))) m) (Nat.blt m (topN j)) = k (.int j (cond (Nat.blt m (topN j)) (.ofNat m) (j.wrap (.ofNat m))))
  cases Nat.blt m (topN j) with
  | false => exact rawI_eq j _ k
  | true => cases m <;> rfl
theorem ltI_eq (a b : Int) : ltI a b = ltF a b := by cases a <;> cases b <;> rfl
theorem eqI_eq (a b : Int) : eqI a b = eqF a b := by cases a <;> cases b <;> rfl
theorem kindB_eq (j k : IntKind) : kindB j k = kindEq j k := by cases j <;> rfl
section
variable {P : Program} {G : Nat} {o : Oper}
theorem vals_inv {T : PT Value} : ∀ (l : List Operand) (k : List Value → Rs Out) (r : Out), vals G T l k = .ok r → ∃ us, k us = .ok r ∧ ∀ k' : List Value → Rs Out, vals G T l k' = k' us
 | [], k, r, h => ⟨[], h, fun _ => rfl⟩
 | x :: l, k, r, h => by
  have h' : (match aeval G T x with | some v => vals G T l (fun l => k (v :: l)) | none => .bad 81) = .ok r := h
  cases hx : aeval G T x with
  | none => rw [hx] at h'; cases h'
  | some v =>
   rw [hx] at h'
   obtain ⟨us, h1, h2⟩ := vals_inv l _ r h'
   refine ⟨v :: us, h1, fun k' => ?_⟩
   have : vals G T (x :: l) k' = match aeval G T x with | some v => vals G T l (fun l => k' (v :: l)) | none => .bad 81 := rfl
   rw [this, hx]
   exact h2 _
theorem flatC_inv {T : PT Value} {N0 : Nat} {out : Out} (h : flatC P G T N0 o = .ok out) : ∃ u, out = .v u [] N0 ∧ ∀ N, flatC P G T N o = .ok (.v u [] N) := by
 unfold flatC at h
 obtain ⟨us, h1, h2⟩ := vals_inv _ _ _ h
 cases hf : us.all (flat 5) with
 | false => rw [hf] at h1; cases h1
 | true =>
  rw [hf] at h1
  simp only [cond_true] at h1
  split at h1
  ·rename_i v hp
   rw [forceV_eq] at h1
   cases hfv : flat 5 v with
   | false => rw [hfv] at h1; cases h1
   | true =>
    rw [hfv] at h1
    cases h1
    refine ⟨v, rfl, fun N => ?_⟩
    unfold flatC
    rw [h2, hf]
    simp only [cond_true, hp, forceV_eq, hfv]
  ·cases h1
theorem flatF_spec {T : PT Value} {k : Value → RX} {r : Ex × St} (h : flatF P G o T k = .ok r) : ∃ u, (∀ N, flatC P G T N o = .ok (.v u [] N)) ∧ k u = .ok r := by
 unfold flatF at h
 cases hf : flatC P G T 0 o with
 | bad e => rw [hf] at h; cases h
 | ok out =>
  obtain ⟨u, rfl, h2⟩ := flatC_inv hf
  rw [hf] at h
  exact ⟨u, h2, h⟩
theorem orF_spec {T : PT Value} {q : Rs Value} {k : Value → RX} {r : Ex × St} (h : orF P G o T q k = .ok r) : ∃ u, (∀ N, orFlat P G T N o q = .ok (.v u [] N)) ∧ k u = .ok r := by
 cases q with
 | ok v => exact ⟨v, fun _ => rfl, h⟩
 | bad e => exact flatF_spec h
def OpFOk (P : Program) (G : Nat) (o : Oper) : OpC → Prop
 | .pure f => ∀ call yld H T k r, f T k = .ok r → ∃ u, (∀ N, aop P G call yld o T H N = .ok (.v u [] N)) ∧ k u = .ok r
 | .gen f => ∀ call yld T H N out, f call yld T H N = .ok out → aop P G call yld o T H N = .ok out
theorem pure1 {X : Operand} {body : Value → PT Value → (Value → RX) → RX} {e : Nat} (h : ∀ u T k r call yld H, aeval G T X = some u → body u T k = .ok r → ∃ v, (∀ N, aop P G call yld o T H N = .ok (.v v [] N)) ∧ k v = .ok r) :
  OpFOk P G o (match argF G X with | ⟨x⟩ => .pure fun T k => Option.rec (motive := fun _ => RX) (.bad e) (fun v => body v T k) (x T)) := by
 intro call yld H T k r hr
 have hr' : Option.rec (motive := fun _ => RX) (.bad e) (fun v => body v T k) ((argF G X).run T) = .ok r := hr
 rw [argF_eq] at hr'
 cases hx : aeval G T X with
 | none => rw [hx] at hr'; cases hr'
 | some u => rw [hx] at hr'; exact h u T k r call yld H hx hr'
def FastOk (op : BinOp) (f : IntKind → Int → Int → (Value → RX) → RX → RX) : Prop := ∀ j a b k e, f j a b k e = match fastBin op j a b with | some v => k v | none => e
theorem binC_int {op : BinOp} (hop : op ≠ .shl ∧ op ≠ .shr) (t : TypeId) (j l : IntKind) (a b : Int) : binC P op t (.int j a) (.int l b) = cond (kindEq j l) (fastBin op j a b) none := by
 cases op <;> first | rfl | exact absurd rfl hop.1 | exact absurd rfl hop.2
theorem binI_spec {op : BinOp} {t yt : TypeId} {X Y : Operand} {f : IntKind → Int → Int → (Value → RX) → RX → RX} (ho : o.op = .binOp op t X Y yt) (hop : op ≠ .shl ∧ op ≠ .shr) (hf : FastOk op f) :
  OpFOk P G o (binI P G o f op t (argF G X).run (argF G Y).run) := by
 intro call yld H T k r hr
 have haop : ∀ u v, aeval G T X = some u → aeval G T Y = some v → ∀ N, aop P G call yld o T H N = (match binC P op t u v with | some r => forceV r fun r => .ok (.v r [] N) | none => flatC P G T N o) := fun u v hx hy N => by
  unfold aop; rw [ho]; simp only [hx, hy]; rfl
 have hr' : Option.rec (motive := fun _ => RX) (.bad 116) (fun u => Option.rec (motive := fun _ => RX) (.bad 116) (fun v => VI.rec (motive := fun _ => RX)
   (fun j a => VI.rec (motive := fun _ => RX) (fun l b => Bool.rec (motive := fun _ => RX) (flatF P G o T k) (f j a b k (flatF P G o T k)) (kindB j l)) (Option.rec (motive := fun _ => RX) (flatF P G o T k) (fun r => forceV r k) (binC P op t u v)) (vI v))
   (Option.rec (motive := fun _ => RX) (flatF P G o T k) (fun r => forceV r k) (binC P op t u v)) (vI u)) ((argF G Y).run T)) ((argF G X).run T) = .ok r := hr
 rw [argF_eq, argF_eq] at hr'
 cases hx : aeval G T X with
 | none => rw [hx] at hr'; cases hr'
 | some u =>
  rw [hx] at hr'
  cases hy : aeval G T Y with
  | none => rw [hy] at hr'; cases hr'
  | some v =>
   rw [hy] at hr'
   have ha := haop u v hx hy
   have slow : Option.rec (motive := fun _ => RX) (flatF P G o T k) (fun r => forceV r k) (binC P op t u v) = .ok r → ∃ u, (∀ N, aop P G call yld o T H N = .ok (.v u [] N)) ∧ k u = .ok r := fun h => by
    cases hb : binC P op t u v with
    | none =>
     rw [hb] at h ha
     obtain ⟨u, h1, h2⟩ := flatF_spec h
     exact ⟨u, fun N => (ha N).trans (h1 N), h2⟩
    | some q =>
     rw [hb] at h ha
     simp only [forceV_eq] at h ha
     exact ⟨q, ha, h⟩
   cases u with
   | int j a =>
    cases v with
    | int l b =>
     have hr2 : Bool.rec (motive := fun _ => RX) (flatF P G o T k) (f j a b k (flatF P G o T k)) (kindB j l) = .ok r := hr'
     rw [kindB_eq] at hr2
     rw [binC_int hop] at ha
     cases hk : kindEq j l with
     | false =>
      rw [hk] at hr2 ha
      obtain ⟨u, h1, h2⟩ := flatF_spec hr2
      exact ⟨u, fun N => (ha N).trans (h1 N), h2⟩
     | true =>
      rw [hk] at hr2 ha
      have hr3 : f j a b k (flatF P G o T k) = .ok r := hr2
      rw [hf] at hr3
      simp only [cond_true] at ha
      cases hq : fastBin op j a b with
      | none =>
       rw [hq] at hr3 ha
       obtain ⟨u, h1, h2⟩ := flatF_spec hr3
       exact ⟨u, fun N => (ha N).trans (h1 N), h2⟩
      | some q =>
       rw [hq] at hr3 ha
       simp only [forceV_eq] at ha
       exact ⟨q, ha, hr3⟩
    | _ => exact slow hr'
   | _ => exact slow hr'
theorem binS_spec {op : BinOp} {t yt : TypeId} {X Y : Operand} (ho : o.op = .binOp op t X Y yt) : OpFOk P G o (binS P G o op t (argF G X).run (argF G Y).run) := by
 intro call yld H T k r hr
 have haop : ∀ u v, aeval G T X = some u → aeval G T Y = some v → ∀ N, aop P G call yld o T H N = (match binC P op t u v with | some r => forceV r fun r => .ok (.v r [] N) | none => flatC P G T N o) := fun u v hx hy N => by
  unfold aop; rw [ho]; simp only [hx, hy]; rfl
 have hr' : Option.rec (motive := fun _ => RX) (.bad 116) (fun u => Option.rec (motive := fun _ => RX) (.bad 116) (fun v => Option.rec (motive := fun _ => RX) (flatF P G o T k) (fun r => forceV r k) (binC P op t u v)) ((argF G Y).run T)) ((argF G X).run T) = .ok r := hr
 rw [argF_eq, argF_eq] at hr'
 cases hx : aeval G T X with
 | none => rw [hx] at hr'; cases hr'
 | some u =>
  rw [hx] at hr'
  cases hy : aeval G T Y with
  | none => rw [hy] at hr'; cases hr'
  | some v =>
   rw [hy] at hr'
   have ha := haop u v hx hy
   have h : Option.rec (motive := fun _ => RX) (flatF P G o T k) (fun r => forceV r k) (binC P op t u v) = .ok r := hr'
   cases hb : binC P op t u v with
   | none =>
    rw [hb] at h ha
    obtain ⟨u, h1, h2⟩ := flatF_spec h
    exact ⟨u, fun N => (ha N).trans (h1 N), h2⟩
   | some q =>
    rw [hb] at h ha
    simp only [forceV_eq] at h ha
    exact ⟨q, ha, h⟩
theorem fast_add : FastOk .add addI := fun j _ _ k _ => wrapK_eq j _ k
theorem fast_sub : FastOk .sub subI := fun j _ _ k _ => wrapK_eq j _ k
theorem fast_mul : FastOk .mul mulI := fun j _ _ k _ => wrapK_eq j _ k
theorem brec (k : Value → RX) (b : Bool) : Bool.rec (motive := fun _ => RX) (k (.bool false)) (k (.bool true)) b = k (.bool b) := by cases b <;> rfl
theorem brecN (k : Value → RX) (b : Bool) : Bool.rec (motive := fun _ => RX) (k (.bool true)) (k (.bool false)) b = k (.bool (!b)) := by cases b <;> rfl
theorem fast_lss : FastOk .lss lssI := fun j a b k e => by unfold lssI; rw [brec, ltI_eq]; rfl
theorem fast_gtr : FastOk .gtr gtrI := fun j a b k e => by unfold gtrI; rw [brec, ltI_eq]; rfl
theorem fast_leq : FastOk .leq leqI := fun j a b k e => by unfold leqI; rw [brecN, ltI_eq]; rfl
theorem fast_geq : FastOk .geq geqI := fun j a b k e => by unfold geqI; rw [brecN, ltI_eq]; rfl
theorem fast_eql : FastOk .eql eqlI := fun j a b k e => by unfold eqlI; rw [brec, eqI_eq]; rfl
theorem fast_neq : FastOk .neq neqI := fun j a b k e => by unfold neqI; rw [brecN, eqI_eq]; rfl
theorem fast_slow (op : BinOp) : FastOk op (slowI op) := fun j a b k e => by
 unfold slowI
 cases fastBin op j a b with
 | none => rfl
 | some v => exact forceV_eq v k
end
end Ev
end
section
namespace Ev
open Go Go.RowKit
section
variable {P : Program} {G : Nat} {o : Oper}
theorem load_spec {t : TypeId} {X : Operand} (ho : o.op = .load t X) : OpFOk P G o (loadF P (argF G X).run t) := by
 have haop : ∀ call yld T H N, aop P G call yld o T H N = (match aeval G T X with | some (.pointer (some ⟨n, off, _⟩)) => loadC P H t n off fun v => .ok (.v v [] N) | _ => .bad 104) := fun call yld T H N => by
  unfold aop; rw [ho]; rfl
 unfold loadF
 split
 ·rename_i hagg
  intro call yld T H N out h
  rw [haop]
  have h' : Option.rec (motive := fun _ => Rs Out) (.bad 104) (fun u => VP.rec (motive := fun _ => Rs Out) (fun n off => Option.rec (motive := fun _ => Rs Out) (.bad 15) (fun b => AB.rec (motive := fun _ => Rs Out) (fun _ _ l => Option.rec (motive := fun _ => Rs Out) (.bad 13) (fun v => .ok (.v v [] N)) (nth l off)) (fun _ => .bad 15) (.bad 15) (fun _ _ _ _ _ _ _ => .bad 15) b) (H.get n)) (.bad 104) (vP u)) ((argF G X).run T) = .ok out := h
  rw [argF_eq] at h'
  cases hx : aeval G T X with
  | none => rw [hx] at h'; cases h'
  | some u =>
   rw [hx] at h'
   cases u with
   | pointer ad =>
    cases ad with
    | none => cases h'
    | some ad =>
     obtain ⟨n, off, s⟩ := ad
     have h2 : Option.rec (motive := fun _ => Rs Out) (.bad 15) (fun b => AB.rec (motive := fun _ => Rs Out) (fun _ _ l => Option.rec (motive := fun _ => Rs Out) (.bad 13) (fun v => .ok (.v v [] N)) (nth l off)) (fun _ => .bad 15) (.bad 15) (fun _ _ _ _ _ _ _ => .bad 15) b) (H.get n) = Rs.ok out := h'
     simp only [loadC]
     cases hg : H.get n with
     | none => rw [hg] at h2; cases h2
     | some b =>
      rw [hg] at h2
      cases b with
      | cells g e l =>
       simp only [hagg]
       have h3 : Option.rec (motive := fun _ => Rs Out) (.bad 13) (fun v => .ok (.v v [] N)) (nth l off) = Rs.ok out := h2
       cases hn : nth l off with
       | none => rw [hn] at h3; cases h3
       | some v => rw [hn] at h3; exact h3
      | _ => cases h2
   | _ => cases h'
 ·intro call yld T H N out h
  rw [haop]
  have h' : (match (argF G X).run T with | some (.pointer (some ⟨n, off, _⟩)) => loadC P H t n off fun v => .ok (.v v [] N) | _ => .bad 104) = Rs.ok out := h
  rwa [argF_eq] at h'
theorem two_args {X Y : Operand} {T : PT Value} {e : Nat} {body : Value → Value → RX} {r : Ex × St} (h : Option.rec (motive := fun _ => RX) (.bad e) (fun u => Option.rec (motive := fun _ => RX) (.bad e) (fun v => body u v) ((argF G Y).run T)) ((argF G X).run T) = .ok r) :
  ∃ u v, aeval G T X = some u ∧ aeval G T Y = some v ∧ body u v = .ok r := by
 rw [argF_eq, argF_eq] at h
 cases hx : aeval G T X with
 | none => rw [hx] at h; cases h
 | some u =>
  rw [hx] at h
  cases hy : aeval G T Y with
  | none => rw [hy] at h; cases h
  | some v => rw [hy] at h; exact ⟨u, v, rfl, rfl, h⟩
theorem idx_spec {t : TypeId} {X I : Operand} (ho : o.op = .indexAddr t X I) : OpFOk P G o (idxF P G o t (argF G X).run (argF G I).run) := by
 have haop : ∀ call yld H T u v, aeval G T X = some u → aeval G T I = some v → ∀ N, aop P G call yld o T H N = orFlat P G T N o (indexAddrC P t u v) := fun call yld H T u v hx hi N => by
  unfold aop; rw [ho]; simp only [hx, hi]
 unfold idxF
 split
 ·rename_i e sz hso
  intro call yld H T k r h
  obtain ⟨u, v, hx, hi, h⟩ := two_args (G := G) h
  have ha := haop call yld H T u v hx hi
  have gen : orF P G o T (indexAddrC P t u v) k = .ok r → ∃ u, (∀ N, aop P G call yld o T H N = .ok (.v u [] N)) ∧ k u = .ok r := fun h => by
   obtain ⟨q, h1, h2⟩ := orF_spec h
   exact ⟨q, fun N => (ha N).trans (h1 N), h2⟩
  cases u with
  | slice ad len cap =>
   cases ad with
   | none => exact gen h
   | some ad =>
    obtain ⟨n, b, s⟩ := ad
    have bad : indexAddrC P t (.slice (some ⟨n, b, s⟩) len cap) v = .bad (match indexAddrC P t (.slice (some ⟨n, b, s⟩) len cap) v with | .bad e => e | .ok _ => 0) → flatF P G o T k = .ok r → ∃ u, (∀ N, aop P G call yld o T H N = .ok (.v u [] N)) ∧ k u = .ok r := fun hb h => by
     obtain ⟨q, h1, h2⟩ := flatF_spec h
     refine ⟨q, fun N => (ha N).trans ?_, h2⟩
     rw [hb]; exact h1 N
    cases v with
    | int j i =>
     cases i with
     | ofNat i =>
      have h' : Bool.rec (motive := fun _ => RX) (flatF P G o T k) (rawN (Nat.add b (Nat.mul i sz)) fun b => k (.pointer (some ⟨n, b, none⟩))) (Nat.blt i len) = .ok r := h
      have hia : indexAddrC P t (.slice (some ⟨n, b, s⟩) len cap) (.int j (.ofNat i)) = cond (Nat.blt i len) (forceN (Nat.add b (Nat.mul i sz)) fun o => .ok (.pointer (some ⟨n, o, none⟩))) (.bad 89) := by
       simp only [indexAddrC, hso]
      cases hb : Nat.blt i len with
      | true =>
       rw [hb] at h' hia
       have h2 : rawN (Nat.add b (Nat.mul i sz)) (fun b => k (.pointer (some ⟨n, b, none⟩))) = .ok r := h'
       rw [rawN_eq] at h2
       simp only [cond_true, forceN_eq] at hia
       exact ⟨_, fun N => (ha N).trans (by rw [hia]; rfl), h2⟩
      | false =>
       rw [hb] at h' hia
       exact bad (by rw [hia]; rfl) h'
     | negSucc i => exact bad rfl h
    | _ => exact bad rfl h
  | _ => exact gen h
 ·intro call yld H T k r h
  obtain ⟨u, v, hx, hi, h⟩ := two_args (G := G) h
  obtain ⟨q, h1, h2⟩ := orF_spec h
  exact ⟨q, fun N => (haop call yld H T u v hx hi N).trans (h1 N), h2⟩
theorem one_arg {X : Operand} {T : PT Value} {e : Nat} {body : Value → RX} {r : Ex × St} (h : Option.rec (motive := fun _ => RX) (.bad e) (fun u => body u) ((argF G X).run T) = .ok r) : ∃ u, aeval G T X = some u ∧ body u = .ok r := by
 rw [argF_eq] at h
 cases hx : aeval G T X with
 | none => rw [hx] at h; cases h
 | some u => rw [hx] at h; exact ⟨u, rfl, h⟩
theorem fld_spec {t : TypeId} {X : Operand} {f : Nat} (ho : o.op = .fieldAddr t X f) : OpFOk P G o (fldF P G o t f (argF G X).run) := by
 have haop : ∀ call yld H T u, aeval G T X = some u → ∀ N, aop P G call yld o T H N = orFlat P G T N o (fieldAddrC P t u f) := fun call yld H T u hx N => by
  unfold aop; rw [ho]; simp only [hx]
 have gen : OpFOk P G o (.pure fun T k => Option.rec (motive := fun _ => RX) (.bad 118) (fun u => orF P G o T (fieldAddrC P t u f) k) ((argF G X).run T)) := fun call yld H T k r h => by
  obtain ⟨u, hx, h⟩ := one_arg (G := G) h
  obtain ⟨q, h1, h2⟩ := orF_spec h
  exact ⟨q, fun N => (haop call yld H T u hx N).trans (h1 N), h2⟩
 unfold fldF
 split
 ·rename_i ft off hf
  split
  ·rename_i s hs
   cases h0 : Nat.beq s 0 with
   | true => exact gen
   | false =>
    intro call yld H T k r h
    obtain ⟨u, hx, h⟩ := one_arg (G := G) h
    have ha := haop call yld H T u hx
    have gen2 : orF P G o T (fieldAddrC P t u f) k = .ok r → ∃ u, (∀ N, aop P G call yld o T H N = .ok (.v u [] N)) ∧ k u = .ok r := fun h => by
     obtain ⟨q, h1, h2⟩ := orF_spec h
     exact ⟨q, fun N => (ha N).trans (h1 N), h2⟩
    cases u with
    | pointer ad =>
     cases ad with
     | none => exact gen2 h
     | some ad =>
      obtain ⟨n, b, q⟩ := ad
      have h2 : rawN (Nat.add b off) (fun b => k (.pointer (some ⟨n, b, none⟩))) = .ok r := h
      rw [rawN_eq] at h2
      refine ⟨_, fun N => (ha N).trans ?_, h2⟩
      have : fieldAddrC P t (.pointer (some ⟨n, b, q⟩)) f = .ok (.pointer (some ⟨n, Nat.add b off, none⟩)) := by
       simp only [fieldAddrC, hf, hs, h0, cond_false, forceN_eq]
      rw [this]; rfl
    | _ => exact gen2 h
  ·exact gen
 ·exact gen
theorem simple_spec {X : Operand} {e : Nat} {body : Value → Rs Value} (haop : ∀ call yld H T u, aeval G T X = some u → ∀ N, aop P G call yld o T H N = orFlat P G T N o (body u)) :
  OpFOk P G o (.pure fun T k => Option.rec (motive := fun _ => RX) (.bad e) (fun v => orF P G o T (body v) k) ((argF G X).run T)) := fun call yld H T k r h => by
 obtain ⟨u, hx, h⟩ := one_arg (G := G) h
 obtain ⟨q, h1, h2⟩ := orF_spec h
 exact ⟨q, fun N => (haop call yld H T u hx N).trans (h1 N), h2⟩
theorem opt_spec {X : Operand} {e : Nat} {body : Value → Option Value} (haop : ∀ call yld H T u, aeval G T X = some u → ∀ N, aop P G call yld o T H N = (match body u with | some r => forceV r fun r => .ok (.v r [] N) | none => flatC P G T N o)) :
  OpFOk P G o (.pure fun T k => Option.rec (motive := fun _ => RX) (.bad e) (fun u => Option.rec (motive := fun _ => RX) (flatF P G o T k) (fun r => forceV r k) (body u)) ((argF G X).run T)) := fun call yld H T k r h => by
 obtain ⟨u, hx, h⟩ := one_arg (G := G) h
 have ha := haop call yld H T u hx
 cases hb : body u with
 | none =>
  rw [hb] at h ha
  obtain ⟨u, h1, h2⟩ := flatF_spec h
  exact ⟨u, fun N => (ha N).trans (h1 N), h2⟩
 | some q =>
  rw [hb] at h ha
  simp only [forceV_eq] at h ha
  exact ⟨q, ha, h⟩
theorem conv_spec {s d : TypeId} {X : Operand} (ho : o.op = .convert s d X) : OpFOk P G o (opF P G o) := by
 have haop : ∀ call yld H T u, aeval G T X = some u → ∀ N, aop P G call yld o T H N = (match convC P s d u with | some r => forceV r fun r => .ok (.v r [] N) | none => flatC P G T N o) := fun call yld H T u hx N => by
  unfold aop; rw [ho]; simp only [hx]; rfl
 have gen : OpFOk P G o (.pure fun T k => Option.rec (motive := fun _ => RX) (.bad 161) (fun u => Option.rec (motive := fun _ => RX) (flatF P G o T k) (fun r => forceV r k) (convC P s d u)) ((argF G X).run T)) := opt_spec haop
 unfold opF
 rw [ho]
 simp only []
 split
 ·rename_i x ds j hx hs hd
  have hx' : x = (argF G X).run := by rw [hx]
  subst hx'
  intro call yld H T k r h
  obtain ⟨u, hxu, h⟩ := one_arg (G := G) h
  have ha := haop call yld H T u hxu
  cases u with
  | int l n =>
   have h2 : wrapK j n k = .ok r := h
   rw [wrapK_eq] at h2
   refine ⟨_, fun N => (ha N).trans ?_, h2⟩
   simp only [convC, hs, hd, forceV_eq]
  | _ =>
   have hnone : ∀ (u : Value), (∀ l n, u ≠ .int l n) → convC P s d u = none := fun u hu => by
    unfold convC
    split
    ·exact absurd rfl (hu _ _)
    ·rfl
   rw [hnone _ (by intro l n e; cases e)] at ha
   obtain ⟨u, h1, h2⟩ := flatF_spec (show flatF P G o T k = .ok r from h)
   exact ⟨u, fun N => (ha N).trans (h1 N), h2⟩
 ·rename_i x hx _
  have hx' : x = (argF G X).run := by rw [hx]
  subst hx'
  exact gen
theorem gen_same (P : Program) (G : Nat) (o : Oper) : OpFOk P G o (.gen fun call yld T H N => aop P G call yld o T H N) := fun _ _ _ _ _ _ h => h
theorem call_spec {f : Operand} {args : Array Operand} {ts : Array TypeId} (ho : o.op = .call { callee := .value f, args, argTypes := ts }) :
  OpFOk P G o (.gen fun call yld T H N => Option.rec (motive := fun _ => Rs Out) (.bad 112) (fun u => VF.rec (motive := fun _ => Rs Out) (fun g a b => (valsF G args.toList).run T fun vs => appK vs b fun l => appK a l fun l => call g l H N) (fun n => (valsF G args.toList).run T fun vs => yld n vs H N) (.bad 112) (vF u)) ((argF G f).run T)) := by
 intro call yld T H N out h
 have h' : Option.rec (motive := fun _ => Rs Out) (.bad 112) (fun u => VF.rec (motive := fun _ => Rs Out) (fun g a b => (valsF G args.toList).run T fun vs => appK vs b fun l => appK a l fun l => call g l H N) (fun n => (valsF G args.toList).run T fun vs => yld n vs H N) (.bad 112) (vF u)) ((argF G f).run T) = .ok out := h
 rw [argF_eq] at h'
 unfold aop
 rw [ho]
 simp only [valsF_eq] at h'
 cases hf : aeval G T f with
 | none => rw [hf] at h'; cases h'
 | some u =>
  rw [hf] at h'
  cases u with
  | func fn a b =>
   cases fn with
   | func g => simp only [hf]; exact h'
   | yield n => simp only [hf]; exact h'
   | _ => cases h'
  | _ => cases h'
theorem opF_ok (P : Program) (G : Nat) (o : Oper) : OpFOk P G o (opF P G o) := by
 obtain ⟨dst, op, type, pos, after, guard⟩ := o
 cases op with
 | move x =>
  intro call yld H T k r h
  obtain ⟨u, hx, h⟩ := one_arg (G := G) (X := x) (e := 101) (body := fun v => k v) h
  exact ⟨u, fun N => by simp only [aop, hx], h⟩
 | assign x =>
  intro call yld H T k r h
  obtain ⟨u, hx, h⟩ := one_arg (G := G) (X := x) (e := 101) (body := fun v => k v) h
  exact ⟨u, fun N => by simp only [aop, hx], h⟩
 | load t x => exact load_spec rfl
 | fieldAddr t x f => exact fld_spec rfl
 | field t x f => exact simple_spec (X := x) (e := 119) (fun call yld H T u hx N => by simp only [aop, hx])
 | indexAddr t x i => exact idx_spec rfl
 | extract x i => exact simple_spec (X := x) (e := 144) (fun call yld H T u hx N => by simp only [aop, hx])
 | nilCheck x => exact simple_spec (X := x) (e := 115) (fun call yld H T u hx N => by simp only [aop, hx])
 | unOp op t x => exact opt_spec (X := x) (e := 160) (fun call yld H T u hx N => by simp only [aop, hx]; rfl)
 | convert s d x => exact conv_spec rfl
 | binOp op t x y yt =>
  cases op with
  | add => exact binI_spec rfl ⟨by simp, by simp⟩ fast_add
  | sub => exact binI_spec rfl ⟨by simp, by simp⟩ fast_sub
  | mul => exact binI_spec rfl ⟨by simp, by simp⟩ fast_mul
  | lss => exact binI_spec rfl ⟨by simp, by simp⟩ fast_lss
  | gtr => exact binI_spec rfl ⟨by simp, by simp⟩ fast_gtr
  | leq => exact binI_spec rfl ⟨by simp, by simp⟩ fast_leq
  | geq => exact binI_spec rfl ⟨by simp, by simp⟩ fast_geq
  | eql => exact binI_spec rfl ⟨by simp, by simp⟩ fast_eql
  | neq => exact binI_spec rfl ⟨by simp, by simp⟩ fast_neq
  | quo => exact binI_spec rfl ⟨by simp, by simp⟩ (fast_slow _)
  | rem => exact binI_spec rfl ⟨by simp, by simp⟩ (fast_slow _)
  | and => exact binI_spec rfl ⟨by simp, by simp⟩ (fast_slow _)
  | or => exact binI_spec rfl ⟨by simp, by simp⟩ (fast_slow _)
  | xor => exact binI_spec rfl ⟨by simp, by simp⟩ (fast_slow _)
  | _ => exact binS_spec rfl
 | call c =>
  obtain ⟨callee, args, ts⟩ := c
  cases callee with
  | value f => exact call_spec rfl
  | invoke r m => exact gen_same P G _
  | builtin b => exact gen_same P G _
 | _ => exact gen_same P G _
end
end Ev
end
section
namespace Ev
open Go Go.RowKit
section
variable {P : Program} {ρ0 ρ ρ' : Env} {N0 N N' lo lo' : Nat} {H H' : HP} {d : List (Nat × AB)} {w0 w w' : World}
theorem Wrote.refl (hS : Sat P ρ H w) (hn : ∀ n b, H.get n = some b → n < N) : Wrote P ρ ρ N N N H w w :=
 ⟨.refl ρ, fun _ _ => rfl, hS, rfl, rfl, rfl, Nat.le_refl _, fun _ _ _ => rfl, fun n p h1 h2 => by omega, hn⟩
theorem Wrote.grew (A : Wrote P ρ0 ρ N0 N lo H w0 w) (hle : N0 ≤ N) (B : Grew P ρ ρ' N N' d w w') (hF : Free ρ N N') (hN : N ≤ N') (hH : ∀ n b, H'.get n = some b → (n, b) ∈ d ∨ H.get n = some b) : Wrote P ρ0 ρ' N0 N' lo H' w0 w' :=
 ⟨A.ext.trans B.ext, fun n h => (B.same n (by omega)).trans (A.same n (by omega)), B.sat A.sat hF hH, B.bel.os.trans A.os, B.bel.tape.trans A.tape, B.bel.output.trans A.output, Nat.le_trans A.size B.bel.size,
  fun x hx h => (B.bel.block x (Nat.lt_of_lt_of_le hx A.size)).trans (A.keep x hx h),
  fun n p h1 h2 h3 => by
   rcases Nat.lt_or_ge n N with h | h
   ·rw [B.same n (.inl h)] at h3; exact A.new n p h1 h h3
   ·exact .inl (Nat.le_trans A.size (B.new n p h h2 h3).1),
  fun n b hn => by
   rcases hH n b hn with h | h
   ·exact (B.dom _ h).2
   ·exact Nat.lt_of_lt_of_le (A.named n b h) hN⟩
theorem min_cond (a b : Nat) : cond (Nat.ble a b) a b = min a b := by
 cases h : Nat.ble a b with
 | true => have := Nat.le_of_ble_eq_true h; simp; omega
 | false => have := ble_false h; simp; omega
theorem Wrote.wrote (A : Wrote P ρ0 ρ N0 N lo H w0 w) (hle : N0 ≤ N) (B : Wrote P ρ ρ' N N' lo' H' w w') (hN : N ≤ N') : Wrote P ρ0 ρ' N0 N' (min lo lo') H' w0 w' :=
 ⟨A.ext.trans B.ext, fun n h => (B.same n (by omega)).trans (A.same n (by omega)), B.sat, B.os.trans A.os, B.tape.trans A.tape, B.output.trans A.output, Nat.le_trans A.size B.size,
  fun x hx h => (B.keep x (Nat.lt_of_lt_of_le hx A.size) (fun n p h1 h2 h3 => by
   rcases Nat.lt_or_ge n N0 with g | g
   ·rw [A.same n (.inl g)] at h3; exact h n p (by omega) g h3
   ·rcases A.new n p g h2 h3 with e | ⟨m, q, e1, e2, e3, e4⟩
    ·omega
    ·rw [← e4]; exact h m q (by omega) e2 e3)).trans (A.keep x hx (fun n p h1 h2 h3 => h n p (by omega) h2 h3)),
  fun n p h1 h2 h3 => by
   rcases Nat.lt_or_ge n N with h | h
   ·rw [B.same n (.inl h)] at h3
    rcases A.new n p h1 h h3 with e | ⟨m, q, e1, e2, e3, e4⟩
    ·exact .inl e
    ·exact .inr ⟨m, q, by omega, e2, e3, e4⟩
   ·rcases B.new n p h h2 h3 with e | ⟨m, q, e1, e2, e3, e4⟩
    ·exact .inl (Nat.le_trans A.size e)
    ·rcases Nat.lt_or_ge m N0 with g | g
     ·rw [A.same m (.inl g)] at e3; exact .inr ⟨m, q, by omega, g, e3, e4⟩
     ·rcases A.new m q g e2 e3 with k | ⟨m2, q2, k1, k2, k3, k4⟩
      ·rw [← e4]; exact .inl k
      ·exact .inr ⟨m2, q2, by omega, k2, k3, k4.trans e4⟩,
  B.named⟩
end
def DE1 (ρ : Env) : DE → Deferred → Prop
 | .mark n, d => ∃ r C, d.target = .collected r ∧ ρ n = some (r, C)
 | .call g us, d => ∃ fv cap vs, d.target = .fn fv cap ∧ invoke d.target d.args = callFunc g ⟨vs⟩ ∧ VL ρ us vs
def DR (ρ : Env) : List DE → List Deferred → Prop
 | [], [] => True
 | n :: D, d :: ds => DE1 ρ n d ∧ DR ρ D ds
 | _, _ => False
theorem DE1.mono {ρ ρ' : Env} (h : Ext ρ ρ') : ∀ {e : DE} {d : Deferred}, DE1 ρ e d → DE1 ρ' e d
 | .mark _, _, ⟨r, C, h1, h2⟩ => ⟨r, C, h1, h _ _ h2⟩
 | .call _ _, _, ⟨fv, cap, vs, h1, h2, h3⟩ => ⟨fv, cap, vs, h1, h2, h3.mono h⟩
theorem DR.mono {ρ ρ' : Env} (h : Ext ρ ρ') : ∀ {D : List DE} {ds : List Deferred}, DR ρ D ds → DR ρ' D ds
 | [], [], _ => trivial
 | _ :: _, _ :: _, ⟨h1, h3⟩ => ⟨h1.mono h, h3.mono h⟩
 | [], _ :: _, k => k
 | _ :: _, [], k => k
structure Inv (P : Program) (ρ0 : Env) (N0 : Nat) (w0 : World) (T : PT Value) (H : HP) (N lo : Nat) (D : List DE) (a : Act) (w : World) (ρ : Env) : Prop where
 wr : Wrote P ρ0 ρ N0 N lo H w0 w
 tr : TR ρ T a.tmps
 le : N0 ≤ N
 dd : DR ρ D a.defers
 dom : Dom ρ N
theorem Inv.free {P : Program} {ρ0 : Env} {N0 : Nat} {w0 : World} {T : PT Value} {H : HP} {N lo : Nat} {D : List DE} {a : Act} {w : World} {ρ : Env} (I : Inv P ρ0 N0 w0 T H N lo D a w ρ) {N' N2 : Nat} (hF : Free ρ0 N0 N2) (h : N' ≤ N2) : Free ρ N N' := fun n h1 h2 => by
 rw [I.wr.same n (.inr h1)]
 exact hF n (Nat.le_trans I.le h1) (by omega)
section
variable {P : Program} {G : Nat}
theorem put_get {β : Type} {dst : Option Tmp} {T : PT Value} {u : Value} {k : PT Value → Rs β} {r : β} (h : (putF (β := β) dst).run T u k = .ok r) :
  ∃ T', k T' = .ok r ∧ ∀ {ρ : Env} {tmps : Array Value} {v : Value} {ds : List Deferred}, TR ρ T tmps → VR ρ u v → TR ρ T' ((({ tmps, defers := ds } : Act).put dst v).tmps) := by
 cases dst with
 | none => exact ⟨T, h, fun h1 _ => h1⟩
 | some d =>
  have h' : (setF (pathN (d + 1) d)).run T u k = .ok r := h
  rw [setF_eq _ _ _ _ _ (Nat.lt_succ_self d)] at h'
  rcases T.setK_spec d u with hb | ⟨T', y, h1, h2, h3⟩
  ·rw [hb] at h'; cases h'
  ·rw [h1] at h'
   exact ⟨T', h', fun hT hv => hT.set h2 h3 hv⟩
theorem addX_spec : ∀ (d : List (Nat × AB)) (H : HP) (k : HP → RX) (r : Ex × St), addX d H k = .ok r → ∃ H', k H' = .ok r ∧ ∀ n b, H'.get n = some b → (n, b) ∈ d ∨ H.get n = some b
 | [], H, k, r, h => ⟨H, h, fun n b h => .inr h⟩
 | p :: d, H, k, r, h => by
  have h' : PT.insK 60 H p.1 (some p.2) (fun H' => addX d H' k) (.bad 203) = .ok r := h
  rcases PT.insK_spec 60 H p.1 (some p.2) with hb | ⟨H', h1, h2⟩
  ·rw [hb] at h'; cases h'
  ·rw [h1] at h'
   obtain ⟨H2, h3, h4⟩ := addX_spec d H' k r h'
   refine ⟨H2, h3, fun n b hn => ?_⟩
   rcases h4 n b hn with g | g
   ·exact .inl (List.mem_cons_of_mem _ g)
   ·rw [h2] at g
    by_cases e : n = p.1
    ·rw [if_pos e] at g; cases g; subst e; exact .inl List.mem_cons_self
    ·rw [if_neg e] at g; exact .inr g
theorem put_defers (a : Act) (d : Option Tmp) (v : Value) : (a.put d v).defers = a.defers := by cases d <;> rfl
theorem Inv.grew {ρ0 ρ ρ' : Env} {N0 N N' lo : Nat} {w0 w w' : World} {T T' : PT Value} {H H' : HP} {D : List DE} {a a' : Act} {d : List (Nat × AB)} (I : Inv P ρ0 N0 w0 T H N lo D a w ρ) (B : Grew P ρ ρ' N N' d w w') (hF : Free ρ N N') (hN : N ≤ N')
  (hH : ∀ n b, H'.get n = some b → (n, b) ∈ d ∨ H.get n = some b) (hT : TR ρ' T' a'.tmps) (hd : a'.defers = a.defers) : Inv P ρ0 N0 w0 T' H' N' lo D a' w' ρ' :=
 ⟨I.wr.grew I.le B hF hN hH, hT, Nat.le_trans I.le hN, by rw [hd]; exact I.dd.mono B.ext, I.dom.same hN B.same⟩
theorem Inv.wrote {ρ0 ρ ρ' : Env} {N0 N N' lo lo' : Nat} {w0 w w' : World} {T T' : PT Value} {H H' : HP} {D : List DE} {a a' : Act} (I : Inv P ρ0 N0 w0 T H N lo D a w ρ) (B : Wrote P ρ ρ' N N' lo' H' w w') (hN : N ≤ N')
  (hT : TR ρ' T' a'.tmps) (hd : a'.defers = a.defers) : Inv P ρ0 N0 w0 T' H' N' (min lo lo') D a' w' ρ' :=
 ⟨I.wr.wrote I.le B hN, hT, Nat.le_trans I.le hN, by rw [hd]; exact I.dd.mono B.ext, I.dom.same hN B.same⟩
end
end Ev
end
end Go.Proofs.YtcjgilagldbjnaaGreatDoor
