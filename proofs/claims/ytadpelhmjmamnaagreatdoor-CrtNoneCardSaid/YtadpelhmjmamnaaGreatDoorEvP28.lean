/- The reckoner: a range over a function. No conditions. -/
import Derived.Test.YtadpelhmjmamnaaGreatDoorEvP27
namespace Go.Proofs.YtadpelhmjmamnaaGreatDoor.Ev
open Go Go.RowKit

section
variable {P : Program} {G : Nat} {call : CallT} {yld : YldT}
theorem alloc_size (w : World) (o : Obj) : (w.alloc o).heap.size = w.heap.size + 1 := Array.size_push ..
theorem rangeFin_inv {s : St} {l N N2 lo2 : Nat} {D : List DE} {H2 : HP} {x : Ex} {s' : St} (h : rangeFin s l N D H2 N2 lo2 = .ok (x, s')) :
    N ≤ N2 ∧ ∃ st pend T ps as bo d H3, H2.get l = some (.loop st pend T ps as bo d) ∧ (∀ m, H3.get m = if m = l then none else H2.get m) ∧ s' = ⟨s.T, H3, N2, min s.lo lo2, D⟩ ∧
      ((st = .ready ∧ pend = none ∧ x = .normal) ∨ (st = .done ∧ pend = some .ret ∧ x = .ret) ∨ ∃ id, st = .done ∧ pend = some (.exit id) ∧ x = .exit id) := by
  unfold rangeFin at h
  cases hb : Nat.ble N N2 with
  | false => rw [hb] at h; cases h
  | true =>
    rw [hb] at h
    refine ⟨Nat.le_of_ble_eq_true hb, ?_⟩
    simp only at h
    split at h
    · rename_i st pend T ps as bo d hl
      rcases PT.insK_spec 60 H2 l none with hbad | ⟨H3, h1, h2⟩
      · rw [hbad] at h; cases h
      · rw [h1, forceN_eq, min_cond] at h
        refine ⟨st, pend, T, ps, as, bo, d, H3, hl, h2, ?_⟩
        split at h
        · cases h; exact ⟨rfl, .inl ⟨rfl, rfl, rfl⟩⟩
        · cases h; exact ⟨rfl, .inr (.inl ⟨rfl, rfl, rfl⟩)⟩
        · cases h; exact ⟨rfl, .inr (.inr ⟨_, rfl, rfl, rfl⟩)⟩
        · cases h
    · cases h
theorem rangeEnd {s : St} {l N2 : Nat} {D : List DE} {H2 H3 : HP} {x : Ex} {lo b C : Nat} {ρ0 ρ3 : Env} {N0 : Nat} {w0 w3 : World} {a : Act} {st : LoopState} {pend : Option Code} {T : PT Value} {ps : Array Tmp} {as bo : Code} {d : Nat}
    (I : Inv P ρ0 N0 w0 s.T H2 N2 lo D a w3 ρ3) (hb : ρ3 l = some (b, C)) (hl : N0 ≤ l) (h1 : H2.get l = some (.loop st pend T ps as bo d)) (h2 : ∀ m, H3.get m = if m = l then none else H2.get m)
    (h3 : (st = .ready ∧ pend = none ∧ x = .normal) ∨ (st = .done ∧ pend = some .ret ∧ x = .ret) ∨ ∃ id, st = .done ∧ pend = some (.exit id) ∧ x = .exit id)
    (ro : Option Nat) (n : Nat) (Q : Exit → Act → World → Prop) (hQ : ∀ a' w' ρ', Inv P ρ0 N0 w0 s.T H3 N2 lo D a' w' ρ' → Q (exO x) a' w') (v : Value) : rangePost (fe ro) n P b Q a (.returned v) w3 := by
  obtain ⟨b', C', e1, fn, tmps, da, Dd, e2, e3, e4⟩ := I.wr.sat.blk l _ h1
  rw [hb] at e1
  cases e1
  have hst : st ≠ .busy := by rcases h3 with ⟨e, _⟩ | ⟨e, _⟩ | ⟨_, e, _⟩ <;> rw [e] <;> exact fun h => (by cases h)
  have I' := I.put (H' := H3) (obj := .loop { ({ state := st, pending := pend, fn, tmps, params := ps, assign := as, body := bo, defers := da } : Loop) with state := .exhausted }) h1 hb (.inl hl) (fun m c hm => by
    rw [h2] at hm
    by_cases e : m = l
    · rw [if_pos e] at hm; cases hm
    · rw [if_neg e] at hm; exact .inr ⟨e, hm⟩)
  refine ⟨_, _, run_endLoop e2 hst, ?_⟩
  have hq := hQ _ _ _ I'
  rcases h3 with ⟨_, rfl, rfl⟩ | ⟨_, rfl, rfl⟩ | ⟨id, _, rfl, rfl⟩
  · exact hq
  · exact wpIn_ret hq
  · exact wpIn_exit hq
theorem rangeGo_sound (hc : CallOk P G call) (hname : ∀ (f : FuncId) (fn : Func), P.funcs[f]? = some fn → (fn.name == "runtime.NumGoroutine") = false) {s : St} {ps : Array Tmp} {assign body c0 : Code} {g : FuncId} {first captured : List Value} {H : HP} {d l N : Nat} {D : List DE} {x : Ex} {s' : St}
    (hbody : bodyO P g = some c0) (h : rangeGo call s ps assign body g ⟨first⟩ ⟨captured⟩ H d l N D = .ok (x, s')) :
    N ≤ s'.N ∧ ∀ ρ0 N0 w0, Free ρ0 N0 s'.N → Glob G ρ0 → ∀ a w ρ b C (vs ys : List Value), (∀ H1 : HP, (∀ m, H1.get m = if m = l then some (.loop .ready none s.T ps assign body d) else H.get m) → Inv P ρ0 N0 w0 s.T H1 N s.lo D a w ρ) → ρ l = some (b, C) → N0 ≤ l → VL ρ first vs → VL ρ captured ys →
      ∀ ro m n Q, (∀ a' w' ρ', Inv P ρ0 N0 w0 s'.T s'.H s'.N s'.lo s'.D a' w' ρ' → Q (exO x) a' w') → (callFunc g ⟨vs ++ (.func (.yield b) ⟨[]⟩ ⟨[]⟩ :: ys)⟩).run P w = .ok (.enter g ⟨vs ++ (.func (.yield b) ⟨[]⟩ ⟨[]⟩ :: ys)⟩) w ∧ CallsIn (fe ro) m P g ⟨vs ++ (.func (.yield b) ⟨[]⟩ ⟨[]⟩ :: ys)⟩ w (rangePost (fe ro) n P b Q a) := by
  unfold rangeGo at h
  rcases PT.insK_spec 60 H l (some (.loop .ready none s.T ps assign body d)) with hbad | ⟨H1, h1, h2⟩
  · rw [hbad] at h; cases h
  rw [h1, appK_eq, appK_eq] at h
  have h' : Rs.rec (motive := fun _ => RX) (fun e => .bad e) (fun out => Out.rec (motive := fun _ => RX) (fun _ d N2 => addX d H1 fun H2 => rangeFin s l N D H2 N2 N) (fun _ H2 N2 lo2 => rangeFin s l N D H2 N2 lo2) out) (call g (first ++ (.func (.yield l) ⟨[]⟩ ⟨[]⟩ :: captured)) H1 N) = .ok (x, s') := h
  cases hcall : call g (first ++ (.func (.yield l) ⟨[]⟩ ⟨[]⟩ :: captured)) H1 N with
  | bad e => rw [hcall] at h'; cases h'
  | ok out =>
    rw [hcall] at h'
    cases out with
    | v u d2 N2 =>
      obtain ⟨H2, h3, h4⟩ := addX_spec d2 H1 _ _ h'
      obtain ⟨hle, st, pend, T, ps', as, bo, d', H3, f1, f2, rfl, f3⟩ := rangeFin_inv h3
      refine ⟨hle, fun ρ0 N0 w0 hF hG a w ρ b C vs ys hI hb hl hv1 hv2 ro m n Q hQ => ⟨run_enter hname hbody, ?_⟩⟩
      have I := hI H1 h2
      have hVL : VL ρ (first ++ (.func (.yield l) ⟨[]⟩ ⟨[]⟩ :: captured)) (vs ++ (.func (.yield b) ⟨[]⟩ ⟨[]⟩ :: ys)) := hv1.append (.cons (.yld hb) hv2)
      have hn := hc _ _ _ _ _ _ _ _ hcall I.wr.sat (hG.mono I.wr.ext) I.wr.named hVL
      have hF1 : Free ρ N N2 := I.free hF (Nat.le_refl _)
      refine hn.calls (run_enter hname hbody) ro m ⟨I.dom, fun v w' ρ' hg hv => ?_⟩
      have I3 : Inv P ρ0 N0 w0 s.T H2 N2 s.lo D a w' ρ' := I.grew hg hF1 hle h4 (I.tr.mono hg.ext) rfl
      exact rangeEnd (I3.lower (Nat.min_le_left s.lo N)) (hg.ext _ _ hb) hl f1 f2 f3 ro n Q hQ v
    | w u H2 N2 lo2 =>
      obtain ⟨hle, st, pend, T, ps', as, bo, d', H3, f1, f2, rfl, f3⟩ := rangeFin_inv h'
      refine ⟨hle, fun ρ0 N0 w0 hF hG a w ρ b C vs ys hI hb hl hv1 hv2 ro m n Q hQ => ⟨run_enter hname hbody, ?_⟩⟩
      have I := hI H1 h2
      have hVL : VL ρ (first ++ (.func (.yield l) ⟨[]⟩ ⟨[]⟩ :: captured)) (vs ++ (.func (.yield b) ⟨[]⟩ ⟨[]⟩ :: ys)) := hv1.append (.cons (.yld hb) hv2)
      have hn := hc _ _ _ _ _ _ _ _ hcall I.wr.sat (hG.mono I.wr.ext) I.wr.named hVL
      have hF1 : Free ρ N N2 := I.free hF (Nat.le_refl _)
      refine hn.calls (run_enter hname hbody) ro m ⟨I.dom, fun v w' ρ' hg hv => ?_⟩
      have I3 : Inv P ρ0 N0 w0 s.T H2 N2 (min s.lo lo2) D a w' ρ' := I.wrote hg hle (I.tr.mono hg.ext) rfl
      exact rangeEnd I3 (hg.ext _ _ hb) hl f1 f2 f3 ro n Q hQ v
/-- **A range over a function.** -/
theorem rangeC_sound (hc : CallOk P G call) (hname : ∀ (f : FuncId) (fn : Func), P.funcs[f]? = some fn → (fn.name == "runtime.NumGoroutine") = false) {s : St} {ps : Array Tmp} {assign body : Code} {f : Operand} {rd : Option Nat} {x : Ex} {s' : St}
    (h : rangeC P call rd ((argF G f).run s.T) ps assign body s = .ok (x, s')) :
    s.N ≤ s'.N ∧ ∀ ρ0 N0 w0, Free ρ0 N0 s'.N → Glob G ρ0 → ∀ a w ρ, Inv P ρ0 N0 w0 s.T s.H s.N s.lo s.D a w ρ → ∀ ro, RO ρ0 rd ro → ∀ m Q, (∀ a' w' ρ', Inv P ρ0 N0 w0 s'.T s'.H s'.N s'.lo s'.D a' w' ρ' → Q (exO x) a' w') → (Code.rangeFunc f ps assign body).wpIn (fe ro) m P Q a w := by
  rw [argF_eq] at h
  unfold rangeC at h
  split at h
  · rename_i g first captured hf
    obtain ⟨first⟩ := first
    obtain ⟨captured⟩ := captured
    split at h
    · cases h
    · rename_i c0 hbody
      -- what is called
      have value : ∀ {ρ : Env} {a : Act}, TR ρ s.T a.tmps → Glob G ρ → ∃ vs ys, a.eval f = .func (.func g) ⟨vs⟩ ⟨ys⟩ ∧ VL ρ first vs ∧ VL ρ captured ys := fun {ρ a} hT hG => by
        have h1 := aeval_sound hT hG hf
        generalize a.eval f = vf at h1
        cases h1 with
        | func e1 e2 e3 e4 => exact ⟨_, _, rfl, ⟨e1, e2⟩, ⟨e3, e4⟩⟩
      have res : ∀ {a : Act} {vs ys : List Value} (l : Nat) (w : World), a.eval f = .func (.func g) ⟨vs⟩ ⟨ys⟩ → (resolve a.eval (rangeCall f l) 0).run P w = .ok { target := .fn (.func g) ⟨ys⟩, args := ⟨vs ++ [.func (.yield l) ⟨[]⟩ ⟨[]⟩]⟩ } w := fun {a vs ys} l w he => by
        have e : (⟨vs⟩ : Array Value) ++ (rangeCall f l).args.map a.eval = ⟨vs ++ [.func (.yield l) ⟨[]⟩ ⟨[]⟩]⟩ := Array.ext' (by
          simp only [Array.toList_append, Array.toList_map]
          rfl)
        rw [← e]
        simp only [resolve, he, Deferred.ofValue, Sem.run_pure]
      have inv : ∀ {vs ys : List Value} (l : Nat) (w : World), (callFunc g ⟨vs ++ (.func (.yield l) ⟨[]⟩ ⟨[]⟩ :: ys)⟩).run P w = .ok (.enter g ⟨vs ++ (.func (.yield l) ⟨[]⟩ ⟨[]⟩ :: ys)⟩) w → (invoke (.fn (.func g) ⟨ys⟩) ⟨vs ++ [.func (.yield l) ⟨[]⟩ ⟨[]⟩]⟩).run P w = .ok (.enter g ⟨vs ++ (.func (.yield l) ⟨[]⟩ ⟨[]⟩ :: ys)⟩) w := fun {vs ys} l w he => by
        rw [← he]
        simp only [invoke]
        congr 2
        apply Array.ext'
        simp
      split at h
      · -- outermost
        rcases PT.insK_spec 60 s.H s.N (some .dfr) with hbad | ⟨H0, h1, h2⟩
        · rw [hbad] at h; cases h
        rw [h1] at h
        obtain ⟨hle, hgo⟩ := rangeGo_sound hc hname hbody h
        have hle2 : s.N + 2 ≤ s'.N := hle
        refine ⟨by omega, fun ρ0 N0 w0 hF hG a w ρ I ro hro m Q hQ => ?_⟩
        cases ro with
        | some b => exact hro.elim
        | none =>
        obtain ⟨vs, ys, hev, hv1, hv2⟩ := value I.tr (hG.mono I.wr.ext)
        have F0 : Free ρ s.N (s.N + 2) := I.free hF hle2
        have hd : ρ s.N = none := F0 _ (Nat.le_refl _) (by omega)
        have hl : ρ (s.N + 1) = none := F0 _ (by omega) (by omega)
        refine wpIn_rangeFunc fun fn _ => ?_
        have g1 : Grew P ρ (setE ρ s.N (w.heap.size, 0)) s.N (s.N + 1) [(s.N, .dfr)] w (w.alloc (.deferred (some []))) := Grew.one (fun n h1 h2 => F0 n h1 (by omega)) (below_push w _) (by rw [alloc_size]; omega) (by
          show OR P _ 0 .dfr (w.heap.push _)[w.heap.size]?
          rw [Array.getElem?_push_size]; rfl)
        have I1 : Inv P ρ0 N0 w0 s.T H0 (s.N + 1) s.lo s.D a (w.alloc (.deferred (some []))) (setE ρ s.N (w.heap.size, 0)) := I.grew g1 (fun n h1 h2 => F0 n h1 (by omega)) (by omega) (fun n b hn => by
          rw [h2] at hn
          by_cases e : n = s.N
          · rw [if_pos e] at hn; cases hn; subst e; exact .inl List.mem_cons_self
          · rw [if_neg e] at hn; exact .inr hn) (I.tr.mono g1.ext) rfl
        have hl1 : (setE ρ s.N (w.heap.size, 0)) (s.N + 1) = none := by rw [setE_other (by omega)]; exact hl
        have F1 : Free (setE ρ s.N (w.heap.size, 0)) (s.N + 1) (s.N + 1 + 1) := fun n h1 h2 => by
          obtain rfl : n = s.N + 1 := by omega
          exact hl1
        generalize hwd : w.alloc (.deferred (some [])) = wd at g1 I1
        have hsz : wd.heap.size = w.heap.size + 1 := by rw [← hwd]; exact alloc_size _ _
        have g2 : Grew P (setE ρ s.N (w.heap.size, 0)) (setE (setE ρ s.N (w.heap.size, 0)) (s.N + 1) (wd.heap.size, 0)) (s.N + 1) (s.N + 1 + 1) [(s.N + 1, .loop .ready none s.T ps assign body s.N)] wd (wd.alloc (.loop { state := .ready, pending := none, fn, tmps := a.tmps, params := ps, assign, body, defers := w.heap.size })) :=
          Grew.one F1 (below_push wd _) (by rw [alloc_size]; omega) (by
            show OR P _ 0 (.loop _ _ _ _ _ _ _) (wd.heap.push _)[wd.heap.size]?
            rw [Array.getElem?_push_size]
            refine ⟨fn, a.tmps, w.heap.size, 0, rfl, I1.tr.mono (setE_ext hl1), ?_⟩
            rw [setE_other (by omega)]
            exact setE_self _ _ _)
        obtain ⟨hent, hcalls⟩ := hgo ρ0 N0 w0 hF hG { a with defers := [{ target := .collected w.heap.size, args := #[] }] ++ a.defers } (wd.alloc (.loop { state := .ready, pending := none, fn, tmps := a.tmps, params := ps, assign, body, defers := w.heap.size })) _ wd.heap.size 0 vs ys (fun H1 hH1 => by
          have I2 := I1.grew (H' := H1) (T' := s.T) (a' := a) g2 F1 (by omega) (fun n b hn => by
            rw [hH1] at hn
            by_cases e : n = s.N + 1
            · rw [if_pos e] at hn; cases hn; subst e; exact .inl List.mem_cons_self
            · rw [if_neg e] at hn; exact .inr hn) (I1.tr.mono g2.ext) rfl
          refine ⟨I2.wr, I2.tr, I2.le, ⟨⟨w.heap.size, 0, rfl, ?_⟩, I2.dd⟩, I2.dom⟩
          rw [setE_other (by omega)]
          exact setE_self _ _ _) (setE_self _ _ _) (Nat.le_trans I.le (by omega)) (hv1.mono (g1.ext.trans g2.ext)) (hv2.mono (g1.ext.trans g2.ext)) none (m - 1) m Q hQ
        have he := run_enterLoop_outer (P := P) (w := w) fn a.tmps ps assign body
        rw [hwd] at he
        have hl2 : w.heap.size + 1 = wd.heap.size := hsz.symm
        rw [hl2] at he
        exact ⟨wd.heap.size, _, _, _, _, g, _, _, he, res _ _ hev, fun _ _ => trivial, inv _ _ hent, (fun h => (by cases h)), hcalls⟩
      · rename_i l0
        split at h
        · rename_i st0 pend0 T0 ps0 as0 bo0 d hl0
          obtain ⟨hle, hgo⟩ := rangeGo_sound hc hname hbody h
          have hle2 : s.N + 1 ≤ s'.N := hle
          refine ⟨by omega, fun ρ0 N0 w0 hF hG a w ρ I ro hro m Q hQ => ?_⟩
          cases ro with
          | none => exact hro.elim
          | some b0 =>
          obtain ⟨C0, hb0⟩ := hro
          obtain ⟨vs, ys, hev, hv1, hv2⟩ := value I.tr (hG.mono I.wr.ext)
          have F0 : Free ρ s.N (s.N + 1) := I.free hF hle2
          have hl : ρ s.N = none := F0 _ (Nat.le_refl _) (by omega)
          obtain ⟨b0', C0', e1, fn0, tmps0, da, Dd, e2, e3, e4⟩ := I.wr.sat.blk l0 _ hl0
          rw [I.wr.ext _ _ hb0] at e1
          cases e1
          refine wpIn_rangeFunc fun fn _ => ?_
          have g2 : Grew P ρ (setE ρ s.N (w.heap.size, 0)) s.N (s.N + 1) [(s.N, .loop .ready none s.T ps assign body d)] w (w.alloc (.loop { state := .ready, pending := none, fn, tmps := a.tmps, params := ps, assign, body, defers := da })) :=
            Grew.one F0 (below_push w _) (by rw [alloc_size]; omega) (by
              show OR P _ 0 (.loop _ _ _ _ _ _ _) (w.heap.push _)[w.heap.size]?
              rw [Array.getElem?_push_size]
              exact ⟨fn, a.tmps, da, Dd, rfl, I.tr.mono (setE_ext hl), setE_ext hl _ _ e4⟩)
          obtain ⟨hent, hcalls⟩ := hgo ρ0 N0 w0 hF hG { a with defers := [] ++ a.defers } (w.alloc (.loop { state := .ready, pending := none, fn, tmps := a.tmps, params := ps, assign, body, defers := da })) _ w.heap.size 0 vs ys (fun H1 hH1 =>
            I.grew (H' := H1) (T' := s.T) g2 F0 (by omega) (fun n b hn => by
              rw [hH1] at hn
              by_cases e : n = s.N
              · rw [if_pos e] at hn; cases hn; subst e; exact .inl List.mem_cons_self
              · rw [if_neg e] at hn; exact .inr hn) (I.tr.mono g2.ext) rfl) (setE_self _ _ _) I.le (hv1.mono g2.ext) (hv2.mono g2.ext) (some b0) (m - 1) m Q hQ
          exact ⟨w.heap.size, _, _, _, _, g, _, _, run_enterLoop_inner e2 fn a.tmps ps assign body, res _ _ hev, fun _ _ => trivial, inv _ _ hent, (fun h => (by cases h)), hcalls⟩
        · cases h
  · cases h
end
end Go.Proofs.YtadpelhmjmamnaaGreatDoor.Ev
