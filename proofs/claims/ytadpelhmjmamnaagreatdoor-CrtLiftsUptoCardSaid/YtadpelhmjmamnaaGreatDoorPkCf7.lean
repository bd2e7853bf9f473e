/- The reckoner: parts of values, places, slices. No conditions. The reckoner: slices, literals, functions, maps. No conditions. The reckoner: literals, functions, lengths, maps. No conditions. The reckoner: maps; every operation that calls nothing. No conditions. -/
import Derived.Test.YtadpelhmjmamnaaGreatDoorPkCf6
namespace Go.Proofs.YtadpelhmjmamnaaGreatDoor
section
namespace Ev
open Go Go.RowKit

section
variable {P : Program} {G : Nat} {ρ : Env} {T : PT Value} {H : HP} {N : Nat} {out : Out} {a : Act} {w : World} {dst : Option Tmp} {type : TypeId} {pos : String} {after : Array Edge} {guard : Option (Nat × Bool)}
theorem part_sound {t : TypeId} {us vs : List Value} {off : Nat} {r : Value} (hv : VL ρ us vs) (h : partC P t us off = .ok r) : ∃ v, (part t ⟨vs⟩ off).run P w = .ok v w ∧ VR ρ r v := by
  unfold partC at h
  split at h
  · rename_i hagg
    split at h
    · rename_i s hs
      rw [takeK_eq, dropN_eq] at h
      split at h
      · rename_i hle
        cases h
        have hl := hv.1
        simp only [List.length_drop] at hle
        refine ⟨.agg ⟨(vs.drop off).take s⟩, ?_, ?_⟩
        · simp only [part, Sem.run_bind, run_isAgg hagg, Result.andThen_ok, if_true, run_sizeOf hs, Sem.run_pure]
          congr 2
          apply Array.ext'
          rw [Array.toList_extract]
          simp [List.extract]
        · have := (hv.drop off).take s
          exact .agg this.1 this.2
      · cases h
    · cases h
  · rename_i hagg
    rw [nth_eq] at h
    split at h
    · rename_i u hu
      cases h
      obtain ⟨v, hvv, hr⟩ := hv.at hu
      refine ⟨v, ?_, hr⟩
      have : (⟨vs⟩ : Array Value)[off]? = some v := by simpa using hvv
      simp only [part, Sem.run_bind, run_isAgg hagg, Result.andThen_ok, Bool.false_eq_true, if_false, this]
      rfl
    · cases h
  · cases h
theorem fieldO_spec {t ft : TypeId} {f off : Nat} (h : fieldO P t f = some (ft, off)) : ∃ fs x, P.underlying t = some (.struct fs) ∧ fs[f]? = some x ∧ x.type = ft ∧ x.offset = off := by
  unfold fieldO at h
  split at h
  · rename_i fs hu
    split at h
    · rename_i x hx; cases h; exact ⟨fs, x, hu, hx, rfl, rfl⟩
    · cases h
  · cases h
theorem arrayO_spec {t e : TypeId} {sz n : Nat} (h : arrayO P t = some (e, sz, n)) : P.underlying t = some (.array n e) ∧ sizeO P e = some sz := by
  unfold arrayO at h
  split at h
  · rename_i n' e' hu
    split at h
    · rename_i s hs; cases h; exact ⟨hu, hs⟩
    · cases h
  · cases h
theorem VR.agg_inv {us : Array Value} {v : Value} (h : VR ρ (.agg us) v) : ∃ vs : List Value, v = .agg ⟨vs⟩ ∧ VL ρ us.toList vs := by
  cases h with | agg h1 h2 => exact ⟨_, rfl, h1, h2⟩
theorem VR.tuple_inv {us : Array Value} {v : Value} (h : VR ρ (.tuple us) v) : ∃ vs : List Value, v = .tuple ⟨vs⟩ ∧ VL ρ us.toList vs := by
  cases h with | tuple h1 h2 => exact ⟨_, rfl, h1, h2⟩
theorem run_under {t : TypeId} {d : TypeDesc} (h : P.underlying t = some d) (w : World) : (underlying t).run P w = .ok d w := by simp [underlying, h]
theorem run_info {t : TypeId} {i : TypeInfo} (h : P.info? t = some i) (w : World) : (typeInfo t).run P w = .ok i w := by simp [typeInfo, h]
theorem field_ok {t : TypeId} {x : Operand} {f : Nat} (hT : TR ρ T a.tmps) (hG : Glob G ρ)
    (h : (match aeval G T x with | some v => orFlat P G T N ⟨dst, .field t x f, type, pos, after, guard⟩ (fieldC P t v f) | none => .bad 119) = Rs.ok out) : OpOk P ⟨dst, .field t x f, type, pos, after, guard⟩ ρ N out a w := by
  split at h
  · rename_i u hx
    have h1 := aeval_sound hT hG hx
    refine orFlat_ok hT hG h (fun _ h => (by cases h)) (fun _ _ h => (by cases h)) (fun r hr => ?_)
    unfold fieldC at hr
    split at hr
    · rename_i ft off cs hf
      obtain ⟨fs, y, hu, hy, rfl, rfl⟩ := fieldO_spec hf
      obtain ⟨vs, hv, hvl⟩ := h1.agg_inv
      obtain ⟨v, hrun, hvr⟩ := part_sound (w := w) hvl hr
      refine ⟨v, ?_, hvr⟩
      simp only [execOp, Instr.field, Sem.run_bind, run_under hu, Result.andThen_ok, hy, hv, asAgg, Sem.run_pure, hrun]
    · cases hr
  · cases h
theorem index_ok {t : TypeId} {x i : Operand} (hT : TR ρ T a.tmps) (hG : Glob G ρ)
    (h : (match aeval G T x, aeval G T i with | some u, some v => orFlat P G T N ⟨dst, .index t x i, type, pos, after, guard⟩ (indexC P t u v) | _, _ => .bad 143) = Rs.ok out) : OpOk P ⟨dst, .index t x i, type, pos, after, guard⟩ ρ N out a w := by
  split at h
  · rename_i u v hx hi
    have h1 := aeval_sound hT hG hx
    have h2 := aeval_sound hT hG hi
    refine orFlat_ok hT hG h (fun _ h => (by cases h)) (fun _ _ h => (by cases h)) (fun r hr => ?_)
    unfold indexC at hr
    split at hr
    · rename_i cs k j
      split at hr
      · rename_i e sz len hao
        obtain ⟨hu, hs⟩ := arrayO_spec hao
        obtain ⟨vs, hv, hvl⟩ := h1.agg_inv
        generalize hvi : a.eval i = vi at h2
        cases h2
        cases hb : Nat.blt j len with
        | false => rw [hb] at hr; cases hr
        | true =>
          rw [hb] at hr
          have hlt := blt_spec hb
          obtain ⟨v, hrun, hvr⟩ := part_sound (w := w) hvl hr
          refine ⟨v, ?_, hvr⟩
          have hcond : (0 ≤ (Int.ofNat j)) ∧ (Int.ofNat j) < (len : Int) := ⟨by simp, by simp; omega⟩
          simp only [execOp, Instr.index, hvi, asIntOf, Sem.run_bind, Sem.run_pure, run_under hu, Result.andThen_ok, hv]
          rw [if_pos hcond]
          simp only [Sem.run_bind, run_sizeOf hs, Result.andThen_ok]
          have : (Int.ofNat j).toNat = j := by simp
          rw [this, hrun]
          rfl
      · cases hr
    · cases hr
  · cases h
theorem indexAddr_ok {t : TypeId} {x i : Operand} (hT : TR ρ T a.tmps) (hG : Glob G ρ)
    (h : (match aeval G T x, aeval G T i with | some u, some v => orFlat P G T N ⟨dst, .indexAddr t x i, type, pos, after, guard⟩ (indexAddrC P t u v) | _, _ => .bad 142) = Rs.ok out) : OpOk P ⟨dst, .indexAddr t x i, type, pos, after, guard⟩ ρ N out a w := by
  split at h
  · rename_i u v hx hi
    have h1 := aeval_sound hT hG hx
    have h2 := aeval_sound hT hG hi
    refine orFlat_ok hT hG h (fun _ h => (by cases h)) (fun _ _ h => (by cases h)) (fun r hr => ?_)
    unfold indexAddrC at hr
    split at hr
    · rename_i n o s len cap k j
      split at hr
      · rename_i e sz hso
        obtain ⟨hu, hs⟩ := sliceO_spec hso
        obtain ⟨bs, c', hax, _, hbase⟩ := h1.slice rfl
        obtain ⟨ba, C, rfl, hn, _⟩ := hbase n o s rfl
        generalize hvi : a.eval i = vi at h2
        cases h2
        cases hb : Nat.blt j len with
        | false => rw [hb] at hr; cases hr
        | true =>
          rw [hb] at hr
          simp only [cond_true, forceN_eq] at hr
          cases hr
          have hlt := blt_spec hb
          refine ⟨.pointer (some ⟨ba, o + j * sz, none⟩), ?_, .ptr hn⟩
          have hcond : (0 ≤ (Int.ofNat j)) ∧ (Int.ofNat j) < (len : Int) := ⟨by simp, by simp; omega⟩
          simp only [execOp, Instr.indexAt, hvi, asIntOf, Sem.run_bind, Sem.run_pure, run_under hu, Result.andThen_ok, hax]
          rw [if_pos hcond]
          simp only [Sem.run_bind, run_sizeOf hs, Result.andThen_ok, Sem.run_pure]
          have : (Int.ofNat j).toNat = j := by simp
          rw [this, add_off]
      · cases hr
    · rename_i n o s k j
      split at hr
      · rename_i e sz len hao
        obtain ⟨hu, hs⟩ := arrayO_spec hao
        generalize hvi : a.eval i = vi at h2
        generalize hvx : a.eval x = vx at h1
        cases h2
        cases h1 with
        | @ptr _ _ _ ba C hn =>
        cases hb : Nat.blt j len with
        | false => rw [hb] at hr; cases hr
        | true =>
          rw [hb] at hr
          simp only [cond_true, forceN_eq] at hr
          cases hr
          have hlt := blt_spec hb
          refine ⟨.pointer (some ⟨ba, o + j * sz, none⟩), ?_, .ptr hn⟩
          have hcond : (0 ≤ (Int.ofNat j)) ∧ (Int.ofNat j) < (len : Int) := ⟨by simp, by simp; omega⟩
          simp only [execOp, Instr.indexAt, Instr.sureAddr, hvi, hvx, asIntOf, Sem.run_bind, Sem.run_pure, run_under hu, Result.andThen_ok]
          rw [if_pos hcond]
          simp only [Sem.run_bind, run_sizeOf hs, Result.andThen_ok, Sem.run_pure]
          have : (Int.ofNat j).toNat = j := by simp
          rw [this, add_off]
      · cases hr
    · cases hr
  · cases h
theorem fieldAddr_ok {t : TypeId} {x : Operand} {f : Nat} (hT : TR ρ T a.tmps) (hG : Glob G ρ)
    (h : (match aeval G T x with | some v => orFlat P G T N ⟨dst, .fieldAddr t x f, type, pos, after, guard⟩ (fieldAddrC P t v f) | none => .bad 118) = Rs.ok out) : OpOk P ⟨dst, .fieldAddr t x f, type, pos, after, guard⟩ ρ N out a w := by
  split at h
  · rename_i u hx
    have h1 := aeval_sound hT hG hx
    refine orFlat_ok hT hG h (fun _ h => (by cases h)) (fun _ _ h => (by cases h)) (fun r hr => ?_)
    unfold fieldAddrC at hr
    split at hr
    · rename_i ft off n o s hf
      obtain ⟨fs, y, hu, hy, rfl, rfl⟩ := fieldO_spec hf
      split at hr
      · rename_i sz hs
        cases h0 : Nat.beq sz 0 with
        | true => rw [h0] at hr; cases hr
        | false =>
          rw [h0] at hr
          simp only [cond_false, forceN_eq] at hr
          cases hr
          have hne : sz ≠ 0 := fun e => by subst e; cases h0
          generalize hvx : a.eval x = vx at h1
          cases h1 with
          | @ptr _ _ _ ba C hn =>
          refine ⟨.pointer (some ⟨ba, o + y.offset, none⟩), ?_, .ptr hn⟩
          simp only [execOp, Instr.fieldAt, Instr.sureAddr, fieldPlace, Sem.run_bind, run_under hu, Result.andThen_ok, hy, hvx, Sem.run_pure, run_sizeOf hs, if_neg hne, add_off]
      · cases hr
    · cases hr
  · cases h
theorem extract_ok {x : Operand} {i : Nat} (hT : TR ρ T a.tmps) (hG : Glob G ρ)
    (h : (match aeval G T x with | some v => orFlat P G T N ⟨dst, .extract x i, type, pos, after, guard⟩ (extractC v i) | none => .bad 144) = Rs.ok out) : OpOk P ⟨dst, .extract x i, type, pos, after, guard⟩ ρ N out a w := by
  split at h
  · rename_i u hx
    have h1 := aeval_sound hT hG hx
    refine orFlat_ok hT hG h (fun _ h => (by cases h)) (fun _ _ h => (by cases h)) (fun r hr => ?_)
    unfold extractC at hr
    split at hr
    · rename_i cs
      rw [nth_eq] at hr
      split at hr
      · rename_i y hy
        cases hr
        obtain ⟨vs, hv, hvl⟩ := h1.tuple_inv
        obtain ⟨v, hvv, hvr⟩ := hvl.at hy
        refine ⟨v, ?_, hvr⟩
        have : (⟨vs⟩ : Array Value)[i]? = some v := by simpa using hvv
        simp only [execOp, Instr.extract, hv, this]
        rfl
      · cases hr
    · cases hr
  · cases h
theorem makeInterface_ok {t : TypeId} {x : Operand} (hT : TR ρ T a.tmps) (hG : Glob G ρ)
    (h : (match aeval G T x with | some v => orFlat P G T N ⟨dst, .makeInterface t x, type, pos, after, guard⟩ (makeInterfaceC P t v) | none => .bad 117) = Rs.ok out) : OpOk P ⟨dst, .makeInterface t x, type, pos, after, guard⟩ ρ N out a w := by
  split at h
  · rename_i u hx
    have h1 := aeval_sound hT hG hx
    refine orFlat_ok hT hG h (fun _ h => (by cases h)) (fun _ _ h => (by cases h)) (fun r hr => ?_)
    unfold makeInterfaceC at hr
    cases hp : plainType P t with
    | false => rw [hp] at hr; cases hr
    | true =>
      rw [hp] at hr
      cases hr
      refine ⟨.iface t (a.eval x), ?_, .iface h1⟩
      unfold plainType at hp
      cases hu : P.underlying t with
      | none => rw [hu] at hp; cases hp
      | some d =>
        rw [hu] at hp
        simp only [execOp, Instr.makeInterface, Sem.run_bind, run_under hu, Result.andThen_ok]
        cases d <;> first | rfl | cases hp
  · cases h
theorem nilAhead_run {t : TypeId} {name : String} {f : FuncId} (h : methO P t name = some f) (v : Value) : (nilAhead (P.types.size + Made.depth) t v name).run P w = .ok (some false) w := by
  unfold methO at h
  split at h
  · rename_i i hi
    split at h
    · rename_i m hm
      split at h
      · rename_i f' hf hp
        split at h
        · cases h
        · rename_i d hd hu
          cases h
          have hn : P.types.size + Made.depth = (P.types.size + (Made.depth - 1)) + 1 := rfl
          rw [hn]
          unfold nilAhead
          rw [Sem.run_bind, run_info hi, Result.andThen_ok, hm]
          simp only [hp, followBlind, Sem.run_bind, Sem.run_pure, Result.andThen_ok, hf, run_under hu]
          cases d <;> first | exact absurd rfl (hd _) | rfl
        · cases h
      · cases h
    · cases h
  · cases h
theorem nilCheck_ok {x : Operand} (hT : TR ρ T a.tmps) (hG : Glob G ρ)
    (h : (match aeval G T x with | some v => orFlat P G T N ⟨dst, .nilCheck x, type, pos, after, guard⟩ (nilCheckC P v) | none => .bad 115) = Rs.ok out) : OpOk P ⟨dst, .nilCheck x, type, pos, after, guard⟩ ρ N out a w := by
  split at h
  · rename_i u hx
    have h1 := aeval_sound hT hG hx
    refine orFlat_ok hT hG h (fun _ h => (by cases h)) (fun _ _ h => (by cases h)) (fun r hr => ?_)
    unfold nilCheckC at hr
    refine ⟨a.eval x, ?_, ?_⟩
    · generalize hvx : a.eval x = vx at h1
      split at hr
      · cases h1; simp only [execOp, hvx]; rfl
      · cases h1; simp only [execOp, hvx]; rfl
      · cases h1; simp only [execOp, hvx]; rfl
      · rename_i name t w0 fs xs
        split at hr
        · rename_i f hm
          cases h1 with
          | @meth _ us vs xs ys e1 e2 e3 e4 =>
            obtain ⟨v1, vs', rfl, hv1, _⟩ := VL.cons_inv (⟨e1, e2⟩ : VL ρ _ vs)
            cases hv1 with
            | @iface _ _ v2 hv2 =>
              have e0 : (⟨.iface t v2 :: vs'⟩ : Array Value)[0]? = some (.iface t v2) := rfl
              simp [execOp, hvx, nilAhead_run hm]
        · cases hr
      · cases hr
    · split at hr
      all_goals first | (cases hr; exact h1; done) | (cases hr; done) | (split at hr <;> first | (cases hr; exact h1; done) | (cases hr; done))
  · cases h
theorem typeAssert_ok {x : Operand} {xt t : TypeId} {ok : Bool} (hT : TR ρ T a.tmps) (hG : Glob G ρ)
    (h : (match aeval G T x with | some v => orFlat P G T N ⟨dst, .typeAssert x xt t ok, type, pos, after, guard⟩ (typeAssertC P v t ok) | none => .bad 145) = Rs.ok out) : OpOk P ⟨dst, .typeAssert x xt t ok, type, pos, after, guard⟩ ρ N out a w := by
  split at h
  · rename_i u hx
    have h1 := aeval_sound hT hG hx
    refine orFlat_ok hT hG h (fun _ h => (by cases h)) (fun _ _ h => (by cases h)) (fun r hr => ?_)
    unfold typeAssertC at hr
    split at hr
    · rename_i ti y
      generalize hvx : a.eval x = vx at h1
      cases h1 with
      | @iface _ _ v' hv' =>
      have two : ∀ {u v : Value} {b : Bool}, VR ρ u v → VR ρ (.tuple ⟨[u, .bool b]⟩) (.tuple ⟨[v, .bool b]⟩) := fun {u v b} h => by
        have : VL ρ [u, .bool b] [v, .bool b] := .cons h (.cons (.bool _) (.nil ρ))
        exact .tuple this.1 this.2
      have hz : ∀ {z : Value}, zeroV P t = some z → ∀ w, (zeroValue t).run P w = .ok z w := fun {z} hz w => by
        unfold zeroV at hz
        split at hz
        · rename_i i hi; simp [zeroValue, typeInfo, hi, hz]
        · cases hz
      unfold assertO at hr
      cases hu : P.underlying t with
      | none => rw [hu] at hr; cases hr
      | some d =>
        rw [hu] at hr
        by_cases hd : ∃ ms, d = .interface ms
        · obtain ⟨ms, rfl⟩ := hd
          simp only at hr
          cases hi : P.info? ti with
          | none => rw [hi] at hr; cases hr
          | some i =>
            rw [hi] at hr
            cases hm : Instr.missingMethod ms i.methods with
            | none =>
              simp only [hm] at hr
              cases hr
              refine ⟨if ok then .tuple #[.iface ti v', .bool true] else .iface ti v', ?_, ?_⟩
              · simp only [execOp, Instr.typeAssert, hvx, Sem.run_bind, run_under hu, run_info hi, Result.andThen_ok, hm, Sem.run_pure]
              · cases ok
                · exact .iface hv'
                · exact two (.iface hv')
            | some mm =>
              simp only [hm] at hr
              cases ok with
              | false => cases hr
              | true =>
                simp only [cond_true] at hr
                cases hzv : zeroV P t with
                | none => rw [hzv] at hr; cases hr
                | some z =>
                  rw [hzv] at hr
                  simp only at hr
                  cases hfz : flat 4 z with
                  | false => rw [hfz] at hr; cases hr
                  | true =>
                    rw [hfz] at hr; cases hr
                    refine ⟨.tuple #[z, .bool false], ?_, two (flat_le 4 z hfz ρ)⟩
                    simp only [execOp, Instr.typeAssert, hvx, Sem.run_bind, run_under hu, run_info hi, Result.andThen_ok, hm, Sem.run_pure, if_true, hz hzv]
        · have hd' : ∀ ms, d ≠ .interface ms := fun ms e => hd ⟨ms, e⟩
          have hr' : (match cond (Nat.beq ti t) (some (some y)) (some none) with
            | some (some r) => Rs.ok (cond ok (Value.tuple ⟨[r, .bool true]⟩) r)
            | some none => cond ok (match zeroV P t with | some z => cond (flat 4 z) (.ok (Value.tuple ⟨[z, .bool false]⟩)) (.bad 125) | none => .bad 126) (.bad 127)
            | none => .bad 128) = .ok r := by
            cases d <;> first | exact hr | exact absurd rfl (hd' _)
          have hrun : (execOp a.eval ⟨dst, .typeAssert x xt t ok, type, pos, after, guard⟩).run P w = (if ti = t then Result.ok (.value (if ok then .tuple #[v', .bool true] else v')) w else
              ((if ok then (do pure (Value.tuple #[← zeroValue t, .bool false])) else runtimePanic (.typeAssertion (some xt) (some ti) t "") : Sem Value).run P w).andThen fun v w => .ok (.value v) w) := by
            simp only [execOp, Instr.typeAssert, hvx, Sem.run_bind, run_under hu, Result.andThen_ok]
            cases d <;> first | exact absurd rfl (hd' _) | skip
            all_goals
              by_cases e : ti = t
              · simp only [e, if_true, Sem.run_pure, Result.andThen_ok]
              · simp only [if_neg e]; rfl
          cases hb : Nat.beq ti t with
          | true =>
            rw [hb] at hr'
            cases hr'
            refine ⟨if ok then .tuple #[v', .bool true] else v', ?_, ?_⟩
            · rw [hrun, if_pos (Nat.eq_of_beq_eq_true hb)]
            · cases ok
              · exact hv'
              · exact two hv'
          | false =>
            rw [hb] at hr'
            have hne : ti ≠ t := fun e => by subst e; simp at hb
            cases ok with
            | false => cases hr'
            | true =>
              simp only [cond_false, cond_true] at hr'
              cases hzv : zeroV P t with
              | none => rw [hzv] at hr'; cases hr'
              | some z =>
                rw [hzv] at hr'
                simp only at hr'
                cases hfz : flat 4 z with
                | false => rw [hfz] at hr'; cases hr'
                | true =>
                  rw [hfz] at hr'; cases hr'
                  refine ⟨.tuple #[z, .bool false], ?_, two (flat_le 4 z hfz ρ)⟩
                  rw [hrun, if_neg hne]
                  simp [hz hzv]
    · cases hr
  · cases h
end
end Ev
end
section
namespace Ev
open Go Go.RowKit

section
variable {P : Program} {G : Nat} {ρ : Env} {T : PT Value} {H : HP} {N : Nat} {out : Out} {a : Act} {w : World} {dst : Option Tmp} {type : TypeId} {pos : String} {after : Array Edge} {guard : Option (Nat × Bool)}
/-- An operand that may lack, and its value. -/
theorem optO_sound {x : Option Operand} {u : Option Value} (hT : TR ρ T a.tmps) (hG : Glob G ρ) (h : optO G T x = some u) : (u = none ∧ x = none) ∨ ∃ y v, x = some y ∧ u = some v ∧ VR ρ v (a.eval y) := by
  unfold optO at h
  cases x with
  | none => cases h; exact .inl ⟨rfl, rfl⟩
  | some y =>
    simp only at h
    split at h
    · rename_i v hv; cases h; exact .inr ⟨y, v, rfl, rfl, aeval_sound hT hG hv⟩
    · cases h
theorem natO_int {u v : Value} {n : Nat} (h : natO u = some n) (hr : VR ρ u v) : ∃ k, v = .int k (n : Int) := by
  unfold natO at h
  split at h
  · rename_i k m
    cases h
    cases hr
    exact ⟨k, rfl⟩
  · cases h
/-- A bound that is given or not. -/
theorem bound_sound {x : Option Operand} {u : Option Value} {dflt n : Nat} (hT : TR ρ T a.tmps) (hG : Glob G ρ) (h : optO G T x = some u) (hn : bndO u dflt = some n) :
    (x = none ∧ n = dflt ∧ u = none) ∨ ∃ y k, x = some y ∧ a.eval y = .int k (n : Int) ∧ ∃ v, u = some v := by
  rcases optO_sound hT hG h with ⟨rfl, rfl⟩ | ⟨y, v, rfl, rfl, hv⟩
  · cases hn; exact .inl ⟨rfl, rfl, rfl⟩
  · obtain ⟨k, hk⟩ := natO_int hn hv
    exact .inr ⟨y, k, rfl, hk, v, rfl⟩
theorem run_sliceBound {k : IntKind} {n y : Nat} (h : n ≤ y) (code : BoundsCode) (w : World) : (Instr.sliceBound (.int k (n : Int)) y code).run P w = .ok n w := by
  simp only [Instr.sliceBound, asIntOf, Sem.run_bind, Sem.run_pure, Result.andThen_ok]
  rw [if_pos ⟨by omega, by omega⟩]
  simp
/-- The bounds of a slice expression. -/
theorem run_bounds {lo hi mx : Option Operand} {len cap l h m : Nat} {b : Bool}
    (hl : (lo = none ∧ l = 0) ∨ ∃ y k, lo = some y ∧ a.eval y = .int k (l : Int)) (hh : (hi = none ∧ h = len ∧ mx = none) ∨ ∃ y k, hi = some y ∧ a.eval y = .int k (h : Int))
    (hm : (mx = none ∧ m = cap) ∨ ∃ y k, mx = some y ∧ a.eval y = .int k (m : Int)) (h1 : l ≤ h) (h2 : h ≤ m) (h3 : m ≤ cap) (w : World) :
    (Instr.sliceBounds b len cap (lo.map a.eval) (hi.map a.eval) (mx.map a.eval)).run P w = .ok (l, h, m) w := by
  rcases hl with ⟨rfl, rfl⟩ | ⟨yl, kl, rfl, el⟩ <;> rcases hh with ⟨rfl, rfl, rfl⟩ | ⟨yh, kh, rfl, eh⟩ <;> rcases hm with ⟨em1, rfl⟩ | ⟨ym, km, em1, em⟩
  all_goals (first | (cases em1; done) | skip)
  all_goals (first | subst em1 | skip)
  all_goals simp only [Instr.sliceBounds, Option.map_some, Option.map_none, Sem.run_bind, Sem.run_pure, Result.andThen_ok, run_sliceBound h1, run_sliceBound h2, run_sliceBound h3, *]
theorem map_add (ba o n : Nat) (m l : Nat) : (if m = l then (some ⟨ba, o, none⟩ : Option Addr) else (some ⟨ba, o, none⟩ : Option Addr).map (·.add n)) = some ⟨ba, cond (Nat.beq m l) o (o + n), none⟩ := by
  by_cases h : m = l
  · subst h; simp
  · have : Nat.beq m l = false := by
      cases hb : Nat.beq m l with
      | false => rfl
      | true => exact absurd (Nat.eq_of_beq_eq_true hb) h
    rw [if_neg h, this]
    simp [add_off]
theorem slice_ok {t : TypeId} {x : Operand} {lo hi mx : Option Operand} (hT : TR ρ T a.tmps) (hG : Glob G ρ)
    (h : (match aeval G T x, optO G T lo, optO G T hi, optO G T mx with
    | some v, some l, some h, some m => cond (softB v) (softSliceC P N t v l h m) (orFlat P G T N ⟨dst, .slice t x lo hi mx, type, pos, after, guard⟩ (sliceC P t v l h m))
    | _, _, _, _ => .bad 107) = Rs.ok out) : OpOk P ⟨dst, .slice t x lo hi mx, type, pos, after, guard⟩ ρ N out a w := by
  split at h
  · rename_i u ul uh um hx hlo hhi hmx
    have h1 := aeval_sound hT hG hx
    cases hsoft : softB u with
    | true =>
      rw [hsoft] at h
      simp only [cond_true] at h
      unfold softSliceC at h
      split at h
      · rename_i e sz b o q len cap hso
        obtain ⟨hu, hs⟩ := sliceO_spec hso
        obtain ⟨bs, c', hax, _, hbase⟩ := h1.slice rfl
        obtain ⟨ba, C, rfl, hn, _, hq⟩ := hbase b o (some q) rfl
        obtain ⟨_, hlc, hC⟩ := hq q rfl
        split at h
        · rename_i l hh hl1 hh1
          cases hb : (Nat.ble l hh && Nat.ble hh len) with
          | false => rw [hb] at h; cases h
          | true =>
            rw [hb] at h
            simp only [cond_true] at h
            rw [Bool.and_eq_true] at hb
            have hle1 := Nat.le_of_ble_eq_true hb.1
            have hle2 := Nat.le_of_ble_eq_true hb.2
            have bl := bound_sound hT hG hlo hl1
            have bh := bound_sound hT hG hhi hh1
            have bl' : (lo = none ∧ l = 0) ∨ ∃ y k, lo = some y ∧ a.eval y = .int k (l : Int) := by
              rcases bl with ⟨e1, e2, _⟩ | ⟨y, k, e1, e2, _⟩
              · exact .inl ⟨e1, e2⟩
              · exact .inr ⟨y, k, e1, e2⟩
            split at h
            · rcases optO_sound hT hG hmx with ⟨_, rfl⟩ | ⟨y, v, _, e, _⟩
              · cases hc : (Nat.beq l 0 || (Nat.blt l len && Nat.blt 0 sz)) with
                | false => rw [hc] at h; cases h
                | true =>
                  rw [hc] at h
                  simp only [cond_true, forceN_eq] at h
                  rw [Bool.or_eq_true, Bool.and_eq_true] at hc
                  have hc' : l = 0 ∨ (l < len ∧ 0 < sz) := hc.imp Nat.eq_of_beq_eq_true (fun h => ⟨blt_spec h.1, blt_spec h.2⟩)
                  have bh' : (hi = none ∧ hh = len ∧ (none : Option Operand) = none) ∨ ∃ y k, hi = some y ∧ a.eval y = .int k (hh : Int) := by
                    rcases bh with ⟨e1, e2, _⟩ | ⟨y, k, e1, e2, _⟩
                    · exact .inl ⟨e1, e2, rfl⟩
                    · exact .inr ⟨y, k, e1, e2⟩
                  have hrb := run_bounds (P := P) (b := true) (len := len) (cap := c') (m := c') bl' bh' (.inl ⟨rfl, rfl⟩) hle1 (by omega) (Nat.le_refl _) w
                  cases h
                  refine pure_ok rfl (v := .slice (some ⟨ba, o + l * sz, none⟩) (hh - l) (c' - l)) ?_ ?_ (fun _ h => (by cases h))
                  · simp only [execOp, Instr.sliceAt, Sem.run_bind, run_under hu, Result.andThen_ok, Instr.slice, hax]
                    have hrb' : (Instr.sliceBounds true len c' (lo.map a.eval) (hi.map a.eval) ((none : Option Operand).map a.eval)).run P w = .ok (l, hh, c') w := hrb
                    rw [hrb']
                    simp only [Result.andThen_ok, run_sizeOf hs, Sem.run_pure, map_add]
                    have : cond (Nat.beq c' l) o (o + l * sz) = o + l * sz := by
                      cases hbq : Nat.beq c' l with
                      | false => rfl
                      | true =>
                        have := Nat.eq_of_beq_eq_true hbq
                        rcases hc' with rfl | hc
                        · simp
                        · omega
                    rw [this]
                  · refine .soft hn rfl (show hh - l ≤ c' - l by omega) (fun ho => ?_)
                    have ho : o + l * sz = 0 := ho
                    rcases hc' with rfl | ⟨h3, h4⟩
                    · have := hC (by omega); omega
                    · have hz : l * sz = 0 := by omega
                      rcases Nat.mul_eq_zero.1 hz with e | e
                      · subst e; have := hC (by omega); omega
                      · omega
              · cases e
            · rename_i vm
              split at h
              · rename_i m hm
                cases hc : (Nat.ble hh m && Nat.ble m len && uh.isSome) with
                | false => rw [hc] at h; cases h
                | true =>
                  rw [hc] at h
                  simp only [cond_true, forceN_eq] at h
                  cases h
                  simp only [Bool.and_eq_true] at hc
                  obtain ⟨⟨hc1, hc2⟩, hc3⟩ := hc
                  have hle3 := Nat.le_of_ble_eq_true hc1
                  have hle4 := Nat.le_of_ble_eq_true hc2
                  rcases optO_sound hT hG hmx with ⟨e, _⟩ | ⟨y, v, rfl, e, hv⟩
                  · cases e
                  · cases e
                    obtain ⟨k, hk⟩ := natO_int hm hv
                    rcases bh with ⟨e1, e2, e3⟩ | ⟨y2, k2, e1, e2, _⟩
                    · subst e3; cases hc3
                    · have hrb := run_bounds (P := P) (b := true) (len := len) (cap := c') bl' (.inr ⟨y2, k2, e1, e2⟩) (.inr ⟨y, k, rfl, hk⟩) hle1 hle3 (by omega) w
                      refine pure_ok rfl (v := .slice (some ⟨ba, cond (Nat.beq m l) o (o + l * sz), none⟩) (hh - l) (m - l)) ?_ (.sl hn) (fun _ h => (by cases h))
                      simp only [execOp, Instr.sliceAt, Sem.run_bind, run_under hu, Result.andThen_ok, Instr.slice, hax]
                      rw [hrb]
                      simp only [Result.andThen_ok, run_sizeOf hs, Sem.run_pure, map_add]
              · cases h
        · cases h
      · cases h
    | false =>
      rw [hsoft] at h
      simp only [cond_false] at h
      refine orFlat_ok hT hG h (fun _ h => (by cases h)) (fun _ _ h => (by cases h)) (fun r hr => ?_)
      have three : ∀ (dl c : Nat) (l hh m : Nat), bndO ul 0 = some l → bndO uh dl = some hh → bndO um c = some m →
          (Nat.ble l hh && Nat.ble hh m && Nat.ble m c && (uh.isSome || um.isNone)) = true → ∀ (b : Bool) (w : World), (Instr.sliceBounds b dl c (lo.map a.eval) (hi.map a.eval) (mx.map a.eval)).run P w = .ok (l, hh, m) w := fun dl c l hh m hl hh' hm hc b w => by
        simp only [Bool.and_eq_true, Bool.or_eq_true] at hc
        obtain ⟨⟨⟨c1, c2⟩, c3⟩, c4⟩ := hc
        refine run_bounds ?_ ?_ ?_ (Nat.le_of_ble_eq_true c1) (Nat.le_of_ble_eq_true c2) (Nat.le_of_ble_eq_true c3) w
        · rcases bound_sound hT hG hlo hl with ⟨e1, e2, _⟩ | ⟨y, k, e1, e2, _⟩
          · exact .inl ⟨e1, e2⟩
          · exact .inr ⟨y, k, e1, e2⟩
        · rcases bound_sound hT hG hhi hh' with ⟨e1, e2, e3⟩ | ⟨y, k, e1, e2, _⟩
          · subst e3
            rcases c4 with c4 | c4
            · cases c4
            · rcases optO_sound hT hG hmx with ⟨_, e⟩ | ⟨y, v, _, e, _⟩
              · exact .inl ⟨e1, e2, e⟩
              · subst e; cases c4
          · exact .inr ⟨y, k, e1, e2⟩
        · rcases bound_sound hT hG hmx hm with ⟨e1, e2, _⟩ | ⟨y, k, e1, e2, _⟩
          · exact .inl ⟨e1, e2⟩
          · exact .inr ⟨y, k, e1, e2⟩
      unfold sliceC at hr
      split at hr
      · rename_i b o len cap
        split at hr
        · rename_i e sz hso
          obtain ⟨hu, hs⟩ := sliceO_spec hso
          obtain ⟨bs, c', hax, _, hbase⟩ := h1.slice rfl
          obtain ⟨ba, C, rfl, hn, hcap, _⟩ := hbase b o none rfl
          obtain rfl := hcap rfl
          split at hr
          · rename_i l hh m hl1 hh1 hm1
            cases hc : (Nat.ble l hh && Nat.ble hh m && Nat.ble m c' && (uh.isSome || um.isNone)) with
            | false => rw [hc] at hr; cases hr
            | true =>
              rw [hc] at hr
              simp only [cond_true, forceN_eq] at hr
              cases hr
              refine ⟨.slice (some ⟨ba, cond (Nat.beq m l) o (o + l * sz), none⟩) (hh - l) (m - l), ?_, .sl hn⟩
              simp only [execOp, Instr.sliceAt, Sem.run_bind, run_under hu, Result.andThen_ok, Instr.slice, hax]
              rw [three len c' l hh m hl1 hh1 hm1 hc]
              simp only [Result.andThen_ok, run_sizeOf hs, Sem.run_pure, map_add]
          · cases hr
        · cases hr
      · rename_i b o q
        split at hr
        · rename_i e sz n hao
          obtain ⟨hu, hs⟩ := arrayO_spec hao
          generalize hvx : a.eval x = vx at h1
          cases h1 with
          | @ptr _ _ _ ba C hn =>
          split at hr
          · rename_i l hh m hl1 hh1 hm1
            cases hc : (Nat.ble l hh && Nat.ble hh m && Nat.ble m n && (uh.isSome || um.isNone)) with
            | false => rw [hc] at hr; cases hr
            | true =>
              rw [hc] at hr
              simp only [cond_true, forceN_eq] at hr
              cases hr
              refine ⟨.slice (some ⟨ba, cond (Nat.beq m l) o (o + l * sz), none⟩) (hh - l) (m - l), ?_, .sl hn⟩
              have hadd : (if m = l then (⟨ba, o, none⟩ : Addr) else (⟨ba, o, none⟩ : Addr).add (l * sz)) = ⟨ba, cond (Nat.beq m l) o (o + l * sz), none⟩ := by
                have := map_add ba o (l * sz) m l
                by_cases e : m = l
                · rw [if_pos e] at this ⊢; exact Option.some.inj this
                · rw [if_neg e] at this ⊢; exact Option.some.inj this
              simp only [execOp, Instr.sliceAt, Sem.run_bind, run_under hu, Result.andThen_ok, hvx, Instr.sureAddr, Sem.run_pure]
              rw [three n n l hh m hl1 hh1 hm1 hc]
              simp only [Result.andThen_ok, run_sizeOf hs, hadd]
          · cases hr
        · cases hr
      · cases hr
  · cases h
end
end Ev
end
section
namespace Ev
open Go Go.RowKit

theorem run_mapM_list {P : Program} {α β : Type} (f : α → Sem β) (g : α → β) : ∀ (l : List α), (∀ x ∈ l, ∀ w, (f x).run P w = .ok (g x) w) → ∀ w, (l.mapM f).run P w = .ok (l.map g) w
  | [], _, w => rfl
  | x :: l, h, w => by
    rw [List.mapM_cons, Sem.run_bind, h x List.mem_cons_self, Result.andThen_ok, Sem.run_bind, run_mapM_list f g l (fun y hy => h y (List.mem_cons_of_mem _ hy)), Result.andThen_ok]
    rfl
theorem run_mapM {P : Program} {α β : Type} (f : α → Sem β) (g : α → β) (a : Array α) (h : ∀ x ∈ a.toList, ∀ w, (f x).run P w = .ok (g x) w) (w : World) : (a.mapM f).run P w = .ok (a.map g) w := by
  rw [Array.mapM_eq_mapM_toList, Sem.run_map, run_mapM_list f g _ h, Result.andThen_ok]
  congr 1
  apply Array.ext'
  simp

section
variable {P : Program} {G : Nat} {ρ : Env} {T : PT Value} {H : HP} {N : Nat} {out : Out} {a : Act} {w : World} {dst : Option Tmp} {type : TypeId} {pos : String} {after : Array Edge} {guard : Option (Nat × Bool)}
theorem build_ok {t : TypeId} {parts : Array (Nat × Operand)} (hT : TR ρ T a.tmps) (hG : Glob G ρ)
    (h : vals G T (parts.toList.map (·.2)) (fun vs => orFlat P G T N ⟨dst, .build t parts, type, pos, after, guard⟩ (buildC P t (List.zip (parts.toList.map (·.1)) vs))) = Rs.ok out) : OpOk P ⟨dst, .build t parts, type, pos, after, guard⟩ ρ N out a w := by
  obtain ⟨us, h1, hv, _⟩ := vals_sound hT hG _ _ _ h
  refine orFlat_ok hT hG h1 (fun _ h => (by cases h)) (fun _ _ h => (by cases h)) (fun r hr => ?_)
  have hpl : (parts.map fun (x : Nat × Operand) => match x with | (i, x) => (i, a.eval x)).toList = (parts.toList.map (·.1)).zip ((parts.toList.map (·.2)).map a.eval) := by
    rw [zip_map]; simp
  unfold buildC at hr
  split at hr
  · cases hr
  · rename_i z hz
    obtain ⟨zv, hz1, hfl, hz2⟩ := run_zero hz
    have hzv : zv.cells = ⟨z⟩ := Array.ext' hz1
    split at hr
    · rename_i fs hu
      cases hall : (fs.toList.all fun f => (sizeO P f.type).isSome) with
      | false => rw [hall] at hr; cases hr
      | true =>
        rw [hall] at hr
        simp only [cond_true] at hr
        split at hr
        · rename_i cs hfill
          cases hr
          obtain ⟨r', hf2, hv2⟩ := fill_sound (ρ := ρ) _ _ _ _ ⟨z⟩ _ hv (hfl ρ) hfill
          refine ⟨.agg r', ?_, .agg hv2.1 hv2.2⟩
          have hplaces := run_mapM (P := P) (fun f : Field => do pure (f.offset, ← sizeOf f.type) : Field → Sem (Nat × Nat)) (fun f => (f.offset, (sizeO P f.type).getD 0)) fs (fun x hx w => by
            have := List.all_eq_true.1 hall x hx
            obtain ⟨s, hs⟩ := Option.isSome_iff_exists.1 this
            simp [run_sizeOf hs, hs]) w
          have hplace : ∀ i : Nat, (fs.map (fun f => (f.offset, (sizeO P f.type).getD 0)))[i]? = placeO P fs.toList i := fun i => by
            unfold placeO
            rw [Array.getElem?_map, ← Array.getElem?_toList]
            cases fs.toList[i]? <;> rfl
          simp only [execOp, Instr.build, Sem.run_bind, hz2, run_under hu, Result.andThen_ok, hplaces, hpl, hzv]
          rw [show (fun x => (fs.map (fun f : Field => (f.offset, (sizeO P f.type).getD 0)))[x]?) = placeO P fs.toList from funext hplace, hf2]
          rfl
        · cases hr
    · rename_i n e hu
      split at hr
      · rename_i sz hs
        split at hr
        · rename_i cs hfill
          cases hr
          obtain ⟨r', hf2, hv2⟩ := fill_sound (ρ := ρ) _ _ _ _ ⟨z⟩ _ hv (hfl ρ) hfill
          refine ⟨.agg r', ?_, .agg hv2.1 hv2.2⟩
          simp only [execOp, Instr.build, Sem.run_bind, hz2, run_under hu, Result.andThen_ok, run_sizeOf hs, hpl, hzv, hf2]
          rfl
        · cases hr
      · cases hr
    · cases hr
theorem move_ok {o : Oper} {x : Operand} (ho : o.op = .move x ∨ o.op = .assign x) (hT : TR ρ T a.tmps) (hG : Glob G ρ) (h : (match aeval G T x with | some v => Rs.ok (.v v [] N) | none => .bad 101) = Rs.ok out) : OpOk P o ρ N out a w := by
  split at h
  · rename_i u hx
    cases h
    obtain ⟨dst, op, type, pos, after, guard⟩ := o
    rcases ho with ho | ho <;> simp only at ho <;> subst ho
    · exact pure_ok rfl rfl (aeval_sound hT hG hx) (fun _ h => (by cases h))
    · exact pure_ok rfl rfl (aeval_sound hT hG hx) (fun _ h => (by cases h))
  · cases h
theorem pick_ok {c x y : Operand} (hT : TR ρ T a.tmps) (hG : Glob G ρ)
    (h : (match aeval G T c, aeval G T x, aeval G T y with | some (.bool b), some u, some v => Rs.ok (.v (cond b u v) [] N) | _, _, _ => .bad 114) = Rs.ok out) : OpOk P ⟨dst, .pick c x y, type, pos, after, guard⟩ ρ N out a w := by
  split at h
  · rename_i b u v hc hx hy
    cases h
    have hr := aeval_sound hT hG hc
    generalize hvc : a.eval c = vc at hr
    cases hr
    refine pure_ok rfl (v := if b then a.eval x else a.eval y) ?_ ?_ (fun _ h => (by cases h))
    · simp only [execOp, hvc, asBool, Sem.run_bind, Sem.run_pure, Result.andThen_ok]
    · cases b
      · exact aeval_sound hT hG hy
      · exact aeval_sound hT hG hx
  · cases h
theorem makeFunc_ok {f : FuncId} {first captured : Array Operand} (hT : TR ρ T a.tmps) (hG : Glob G ρ)
    (h : vals G T first.toList (fun x => vals G T captured.toList fun y => Rs.ok (.v (.func (.func f) ⟨x⟩ ⟨y⟩) [] N)) = Rs.ok out) : OpOk P ⟨dst, .makeFunc (.func f) first captured, type, pos, after, guard⟩ ρ N out a w := by
  obtain ⟨us, h1, hv, _⟩ := vals_sound hT hG _ _ _ h
  obtain ⟨xs, h2, hx, _⟩ := vals_sound hT hG _ _ _ h1
  cases h2
  refine pure_ok rfl (v := .func (.func f) ⟨first.toList.map a.eval⟩ ⟨captured.toList.map a.eval⟩) ?_ (.func hv.1 hv.2 hx.1 hx.2) (fun _ h => (by cases h))
  have e : ∀ (l : Array Operand), l.map a.eval = ⟨l.toList.map a.eval⟩ := fun l => Array.ext' (by simp)
  simp only [execOp, Instr.makeFunc, e]
  rfl
theorem makeMeth_ok {f : String} {first captured : Array Operand} (hT : TR ρ T a.tmps) (hG : Glob G ρ)
    (h : vals G T first.toList (fun x => vals G T captured.toList fun y => Rs.ok (.v (.func (.method f) ⟨x⟩ ⟨y⟩) [] N)) = Rs.ok out) : OpOk P ⟨dst, .makeFunc (.method f) first captured, type, pos, after, guard⟩ ρ N out a w := by
  obtain ⟨us, h1, hv, _⟩ := vals_sound hT hG _ _ _ h
  obtain ⟨xs, h2, hx, _⟩ := vals_sound hT hG _ _ _ h1
  cases h2
  refine pure_ok rfl (v := .func (.method f) ⟨first.toList.map a.eval⟩ ⟨captured.toList.map a.eval⟩) ?_ (.meth hv.1 hv.2 hx.1 hx.2) (fun _ h => (by cases h))
  have e : ∀ (l : Array Operand), l.map a.eval = ⟨l.toList.map a.eval⟩ := fun l => Array.ext' (by simp)
  simp only [execOp, Instr.makeFunc, e]
  rfl
theorem lenV_spec {u : Value} {n : Nat} (h : lenV u = some n) : ∃ b c, u = .slice (some b) n c := by
  unfold lenV at h
  split at h
  · cases h; exact ⟨_, _, rfl⟩
  · cases h
theorem capV_spec {u : Value} {n : Nat} (h : capV u = some n) : ∃ b o l, u = .slice (some ⟨b, o, none⟩) l n := by
  unfold capV at h
  split at h
  · cases h; exact ⟨_, _, _, rfl⟩
  · cases h
theorem mapO_spec {t : TypeId} {d : TypeDesc} {e : TypeId} (h : mapO' P t = some (d, e)) : ∃ k, P.underlying t = some (.map k e) ∧ P.underlying k = some d ∧ ∃ j, d = .int j := by
  unfold mapO' at h
  split at h
  · rename_i k e' hu
    split at h
    · rename_i j hk; cases h; exact ⟨k, hu, hk, ⟨j, rfl⟩⟩
    · cases h
  · cases h
/-- A map's entries. -/
theorem mapAt_sound {u v : Value} {l : List (Value × Value)} (hS : Sat P ρ H w) (hr : VR ρ u v) (h : mapAt H u = some l) :
    (v = .map none ∧ l = []) ∨ ∃ n r C es clock, u = .map (some n) ∧ v = .map (some r) ∧ ρ n = some (r, C) ∧ H.get n = some (.map l) ∧ w.heap[r]? = some (.map es clock) ∧ VL ρ (l.map (·.1)) (es.toList.map (·.key)) ∧ VL ρ (l.map (·.2)) (es.toList.map (·.val)) := by
  unfold mapAt at h
  split at h
  · cases h; cases hr; exact .inl ⟨rfl, rfl⟩
  · rename_i n
    cases hr with
    | @map _ r C hn =>
    split at h
    · rename_i l' hg
      cases h
      obtain ⟨r', C', h1, es, clock, h2, h3, h4⟩ := hS.blk n _ hg
      rw [hn] at h1; cases h1
      exact .inr ⟨n, r, C, es, clock, rfl, rfl, hn, hg, h2, h3, h4⟩
    · cases h
  · cases h
theorem run_getMap {r : Nat} {es : Array MapEntry} {clock : Nat} (h : w.heap[r]? = some (.map es clock)) : (getObj r).run P w = .ok (.map es clock) w := by
  simp only [getObj, Sem.run, h]
theorem run_checkKeyN {b : Bool} {k : TypeId} {d : TypeDesc} {v : Value} (n : Nat) (hk : P.underlying k = some d) (hd : ∃ j, d = .int j) : (Instr.checkKey b (n + 1) k v).run P w = .ok () w := by
  simp only [Instr.checkKey, Sem.run_bind, run_under hk, Result.andThen_ok]
  obtain ⟨j, rfl⟩ := hd
  cases v <;> rfl
theorem run_checkKey {b : Bool} {k : TypeId} {d : TypeDesc} {v : Value} (hk : P.underlying k = some d) (hd : ∃ j, d = .int j) : (Instr.checkKey b 10000 k v).run P w = .ok () w := run_checkKeyN 9999 hk hd
theorem sameNow_flat {d : TypeDesc} {x y x' y' : Value} {b : Bool} (h : Instr.sameNow d x y = some b) (h1 : VR ρ x x') (h2 : VR ρ y y') : Instr.sameNow d x' y' = some b := by
  unfold Instr.sameNow at h
  split at h
  · cases h1; cases h2; exact h
  · cases h1; cases h2; exact h
  · cases h1; cases h2; exact h
  · cases h
/-- Looking a key up goes alike. -/
theorem mfind_sound {d : TypeDesc} {k k' : Value} (hk : VR ρ k k') : ∀ (l : List (Value × Value)) (es : List MapEntry) (i : Nat) (r : Option (Nat × Value)), VL ρ (l.map (·.1)) (es.map (·.key)) → VL ρ (l.map (·.2)) (es.map (·.val)) → mfind d k l i = some r →
    (r = none ∧ Instr.findNow d k' es i = some none) ∨ ∃ j u v, r = some (j, u) ∧ Instr.findNow d k' es i = some (some (j, v)) ∧ VR ρ u v
  | [], es, i, r, h1, _, h => by
    obtain rfl : es = [] := by cases es with | nil => rfl | cons e es => have := h1.1; simp at this
    cases h; exact .inl ⟨rfl, rfl⟩
  | p :: l, [], i, r, h1, _, h => by have := h1.1; simp at this
  | p :: l, e :: es, i, r, h1, h2, h => by
    have h' : (match Instr.sameNow d k p.1 with | some true => some (some (i, p.2)) | some false => mfind d k l (i + 1) | none => none) = some r := h
    simp only [List.map_cons] at h1 h2
    cases hs : Instr.sameNow d k p.1 with
    | none => rw [hs] at h'; cases h'
    | some b =>
      rw [hs] at h'
      have hs' := sameNow_flat hs hk h1.head.1
      cases b with
      | true =>
        cases h'
        exact .inr ⟨i, p.2, e.val, rfl, by simp [Instr.findNow, hs'], h2.head.1⟩
      | false =>
        rcases mfind_sound hk l es (i + 1) r h1.head.2 h2.head.2 h' with ⟨e1, e2⟩ | ⟨j, u, v, e1, e2, e3⟩
        · exact .inl ⟨e1, by simp [Instr.findNow, hs', e2]⟩
        · exact .inr ⟨j, u, v, e1, by simp [Instr.findNow, hs', e2], e3⟩
theorem run_findKey {k : TypeId} {d : TypeDesc} {v : Value} {es : List MapEntry} {r : Option (Nat × Value)} (hk : P.underlying k = some d) (h : Instr.findNow d v es 0 = some r) : (Instr.findKey k v es).run P w = .ok r w := by
  simp only [Instr.findKey, Sem.run_bind, run_under hk, Result.andThen_ok, h]
  rfl
end
end Ev
end
section
namespace Ev
open Go Go.RowKit

section
variable {P : Program} {G : Nat} {ρ : Env} {T : PT Value} {H : HP} {N : Nat} {out : Out} {a : Act} {w : World} {dst : Option Tmp} {type : TypeId} {pos : String} {after : Array Edge} {guard : Option (Nat × Bool)}
theorem makeMap_ok {t : TypeId} (h : (Rs.ok (.v (.map (some N)) [(N, .map [])] (Nat.succ N)) : Rs Out) = .ok out) : OpOk P ⟨dst, .makeMap t none, type, pos, after, guard⟩ ρ N out a w := by
  cases h
  refine ⟨Nat.le_succ N, fun hF ro mm K Q hK => wp_value (v := .map (some w.heap.size)) (w' := { w with heap := w.heap.push (.map #[] 0) }) rfl (hK _ _ (setE ρ N (w.heap.size, 0)) ?_ (.map (setE_self ρ N _)))⟩
  refine Grew.one (hF.free _) (below_push w _) (by simp) ?_
  exact ⟨#[], 0, push_at w _, .nil _, .nil _⟩
theorem lookup_ok {t : TypeId} {x i : Operand} {ok : Bool} (hS : Sat P ρ H w) (hT : TR ρ T a.tmps) (hG : Glob G ρ)
    (h : (match aeval G T x, aeval G T i with
    | some u, some v => (match u with | .map _ => lookupC P H N t u v ok | _ => flatC P G T N ⟨dst, .lookup t x i ok, type, pos, after, guard⟩)
    | _, _ => .bad 146) = Rs.ok out) : OpOk P ⟨dst, .lookup t x i ok, type, pos, after, guard⟩ ρ N out a w := by
  split at h
  · rename_i u v hx hi
    have h1 := aeval_sound hT hG hx
    have h2 := aeval_sound hT hG hi
    split at h
    · rename_i r0
      unfold lookupC at h
      split at h
      · rename_i d e l hmo hma
        obtain ⟨k, hu, hk, hd⟩ := mapO_spec hmo
        have two : ∀ {u v : Value} {b : Bool}, VR ρ u v → VR ρ (cond ok (.tuple ⟨[u, .bool b]⟩) u) (if ok then .tuple #[v, .bool b] else v) := fun {u v b} hh => by
          have : VL ρ [u, .bool b] [v, .bool b] := .cons hh (.cons (.bool _) (.nil ρ))
          cases ok
          · exact hh
          · exact .tuple this.1 this.2
        -- what is found in the map's entries
        have hes : ∃ es : List MapEntry, VL ρ (l.map (·.1)) (es.map (·.key)) ∧ VL ρ (l.map (·.2)) (es.map (·.val)) ∧ ∀ (f : Option (Nat × Value)), Instr.findNow d (a.eval i) es 0 = some f →
            (execOp a.eval ⟨dst, .lookup t x i ok, type, pos, after, guard⟩).run P w = ((match f with | some (_, v) => pure (v, true) | none => do pure (← zeroValue e, false) : Sem (Value × Bool)).run P w).andThen fun p w => .ok (.value (if ok then .tuple #[p.1, .bool p.2] else p.1)) w := by
          rcases mapAt_sound hS h1 hma with ⟨hax, rfl⟩ | ⟨n, r, C, es, clock, _, hax, hn, hg, hr, hv1, hv2⟩
          · refine ⟨[], .nil ρ, .nil ρ, fun f hf => ?_⟩
            simp only [execOp, Instr.lookup, Sem.run_bind, run_under hu, Result.andThen_ok, hax, Sem.run_pure, run_checkKey hk hd, run_findKey hk hf]
            cases f with
            | none => cases hz0 : (zeroValue e).run P w <;> simp [hz0]
            | some p => rfl
          · refine ⟨es.toList, hv1, hv2, fun f hf => ?_⟩
            simp only [execOp, Instr.lookup, Sem.run_bind, run_under hu, Result.andThen_ok, hax, run_getMap hr, Sem.run_pure, run_checkKey hk hd, run_findKey hk hf]
            cases f with
            | none => cases hz0 : (zeroValue e).run P w <;> simp [hz0]
            | some p => rfl
        obtain ⟨es, hv1, hv2, hrun⟩ := hes
        split at h
        · rename_i j u hf
          cases h
          rcases mfind_sound h2 l es 0 _ hv1 hv2 hf with ⟨e1, _⟩ | ⟨j', u', v', e1, e2, e3⟩
          · cases e1
          · cases e1
            exact pure_ok rfl ((hrun _ e2).trans rfl) (two e3) (fun _ h => (by cases h))
        · rename_i hf
          rcases mfind_sound h2 l es 0 _ hv1 hv2 hf with ⟨_, e2⟩ | ⟨j', u', v', e1, _, _⟩
          · split at h
            · rename_i inf hinf
              split at h
              · rename_i z hz
                cases hfz : flat 4 z with
                | false => rw [hfz] at h; cases h
                | true =>
                  rw [hfz] at h
                  cases h
                  refine pure_ok rfl ((hrun _ e2).trans ?_) (two (flat_le 4 z hfz ρ)) (fun _ h => (by cases h))
                  simp [zeroValue, typeInfo, hinf, hz]
              · cases h
            · cases h
          · cases e1
        · cases h
      · cases h
    · exact flat_ok hT hG h (fun _ h => (by cases h)) (fun _ _ h => (by cases h))
  · cases h
theorem run_setMap {r : Nat} {es es' : Array MapEntry} {c c' : Nat} (h : w.heap[r]? = some (.map es c)) : (setObj r (.map es' c')).run P w = .ok () (w.putObj r (.map es' c')) := by
  simp only [setObj, Sem.run, h]
  rfl
/-- A map's block is written. -/
theorem mapWrite {n r C : Nat} {l l' : List (Value × Value)} {es es' : Array MapEntry} {c c' : Nat} {H' : HP} (hS : Sat P ρ H w) (hN : ∀ n b, H.get n = some b → n < N) (hn : ρ n = some (r, C)) (hg : H.get n = some (.map l)) (hr : w.heap[r]? = some (.map es c))
    (hH : ∀ m, H'.get m = if m = n then some (.map l') else H.get m) (h1 : VL ρ (l'.map (·.1)) (es'.toList.map (·.key))) (h2 : VL ρ (l'.map (·.2)) (es'.toList.map (·.val))) : Wrote P ρ ρ N N n H' w (w.putObj r (.map es' c')) := by
  have hlt : r < w.heap.size := (Array.getElem?_eq_some_iff.1 hr).1
  refine ⟨.refl ρ, fun _ _ => rfl, ⟨fun m b hm => ?_, fun m k b c x D F hm hk e1 e2 => ?_, fun m x D hm => by rw [World.putObj_size]; exact hS.lt m x D hm⟩, rfl, rfl, rfl, by simp, fun x hx h => ?_, fun m p a b => by omega, fun m b hm => ?_⟩
  · rw [hH] at hm
    by_cases e : m = n
    · subst e
      rw [if_pos rfl] at hm
      cases hm
      exact ⟨r, C, hn, es', c', World.putObj_heap_same hlt, h1, h2⟩
    · rw [if_neg e] at hm
      obtain ⟨x, D, k1, k2⟩ := hS.blk m b hm
      have hx : x ≠ r := fun ex => by subst ex; exact e (hS.inj m n b _ x D C hm hg k1 hn)
      exact ⟨x, D, k1, by rw [World.putObj_heap_other hx]; exact k2⟩
  · have get : ∀ i c, H'.get i = some c → ∃ c', H.get i = some c' := fun i c hi => by
      rw [hH] at hi
      by_cases e' : i = n
      · subst e'; exact ⟨_, hg⟩
      · rw [if_neg e'] at hi; exact ⟨c, hi⟩
    obtain ⟨b', hb'⟩ := get m b hm
    obtain ⟨c', hc'⟩ := get k c hk
    exact hS.inj m k b' c' x D F hb' hc' e1 e2
  · exact World.putObj_heap_other (fun ex => h n (r, C) (Nat.le_refl _) (hN n _ hg) hn ex.symm)
  · rw [hH] at hm
    by_cases e : m = n
    · rw [e]; exact hN n _ hg
    · rw [if_neg e] at hm; exact hN m b hm
theorem sameNow_key {d : TypeDesc} {x y : Value} {b : Bool} (hd : ∃ j, d = .int j) (h : Instr.sameNow d x y = some b) : (b = true → y = x) ∧ ∃ k n, x = .int k n := by
  obtain ⟨j, rfl⟩ := hd
  unfold Instr.sameNow at h
  split at h
  · rename_i k a k' b'
    split at h
    · rename_i e; subst e; cases h; exact ⟨fun e => by simp at e; rw [e], ⟨_, _, rfl⟩⟩
    · cases h
  · rename_i e; cases e
  · rename_i e; cases e
  · cases h
/-- The key that is found is the one that was looked for. -/
theorem find_key {d : TypeDesc} {k v : Value} (hd : ∃ j, d = .int j) : ∀ (es : List MapEntry) (i j : Nat), Instr.findNow d k es i = some (some (j, v)) → ∃ e, es[j - i]? = some e ∧ i ≤ j ∧ e.key = k ∧ ∃ q n, k = .int q n
  | [], i, j, h => by simp [Instr.findNow] at h
  | e :: es, i, j, h => by
    simp only [Instr.findNow] at h
    cases hs : Instr.sameNow d k e.key with
    | none => rw [hs] at h; cases h
    | some b =>
      rw [hs] at h
      obtain ⟨h1, h2⟩ := sameNow_key hd hs
      cases b with
      | true => cases h; exact ⟨e, by simp, Nat.le_refl _, h1 rfl, h2⟩
      | false =>
        obtain ⟨e', g1, g2, g3, g4⟩ := find_key hd es (i + 1) j h
        refine ⟨e', ?_, by omega, g3, g4⟩
        rw [show j - i = (j - (i + 1)) + 1 from by omega]
        simpa using g1
theorem sameBits_refl {k : Value} (h : ∃ q n, k = .int q n) (n : Nat) : Instr.sameBits n k k = true := by
  obtain ⟨q, m, rfl⟩ := h
  cases n <;> simp [Instr.sameBits]
theorem mapUpdate_ok {t : TypeId} {x i y : Operand} (hS : Sat P ρ H w) (hT : TR ρ T a.tmps) (hG : Glob G ρ) (hN : ∀ n b, H.get n = some b → n < N)
    (h : (match aeval G T x, aeval G T i, aeval G T y with | some u, some i, some v => mapUpdateC P H N t u i v | _, _, _ => .bad 147) = Rs.ok out) : OpOk P ⟨dst, .mapUpdate t x i y, type, pos, after, guard⟩ ρ N out a w := by
  split at h
  · rename_i u ui uv hx hi hy
    have h1 := aeval_sound hT hG hx
    have h2 := aeval_sound hT hG hi
    have h3 := aeval_sound hT hG hy
    unfold mapUpdateC at h
    split at h
    · rename_i d e n hmo
      obtain ⟨k, hu, hk, hd⟩ := mapO_spec hmo
      split at h
      · rename_i l hg
        have hma : mapAt H (.map (some n)) = some l := by simp only [mapAt, hg]
        rcases mapAt_sound hS h1 hma with ⟨hax, _⟩ | ⟨n', r, C, es, clock, e0, hax, hn, _, hr, hv1, hv2⟩
        · rw [hax] at h1; cases h1
        · cases e0
          have hrun : ∀ f, Instr.findNow d (a.eval i) es.toList 0 = some f → (execOp a.eval ⟨dst, .mapUpdate t x i y, type, pos, after, guard⟩).run P w =
              ((match f with
                | some (j, _) => do
                  let key ← Instr.keyThatStays (((es[j]?).map (·.key)).getD (a.eval i)) (a.eval i)
                  setObj r (.map (es.modify j fun e => { e with key, val := a.eval y }) clock)
                | none => setObj r (.map (es.push { key := a.eval i, val := a.eval y, born := clock }) (clock + 1)) : Sem Unit).run P w).andThen fun _ w => .ok .skip w := fun f hf => by
            simp only [execOp, Instr.mapUpdate, Sem.run_bind, run_under hu, Result.andThen_ok, hax, run_getMap hr, run_checkKey hk hd, run_findKey hk hf]
            cases f <;> rfl
          split at h
          · rename_i j u hf
            rcases mfind_sound h2 l es.toList 0 _ hv1 hv2 hf with ⟨e1, _⟩ | ⟨j', u', v', e1, e2, e3⟩
            · cases e1
            · cases e1
              rcases PT.insK_spec 60 H n (some (AB.map (l.set j (ui, uv)))) with hbad | ⟨H', hok, hget⟩
              · rw [hbad] at h; cases h
              · rw [hok] at h
                cases h
                obtain ⟨en, g1, _, g3, g4⟩ := find_key hd _ _ _ e2
                rw [Nat.sub_zero, Array.getElem?_toList] at g1
                refine ⟨Nat.le_refl _, fun hF ro mm K Q hK => wp_skipped (w' := w.putObj r (.map (es.modify j fun e => { e with key := a.eval i, val := a.eval y }) clock)) ?_ (hK _ _ _ (mapWrite hS hN hn hg hr hget ?_ ?_) (by exact .tuple rfl (fun i u v h => by simp at h)))⟩
                · rw [hrun _ e2]
                  have hkey : (Instr.keyThatStays (((es[j]?).map (·.key)).getD (a.eval i)) (a.eval i)).run P w = .ok (a.eval i) w := by
                    rw [g1]
                    simp only [Option.map_some, Option.getD_some, g3, Instr.keyThatStays, sameBits_refl g4, if_true, Sem.run_pure]
                  simp only [Sem.run_bind, hkey, Result.andThen_ok, run_setMap hr]
                · have := hv1.set h2 j
                  rw [List.map_set]
                  have e5 : (es.modify j fun e => { e with key := a.eval i, val := a.eval y }).toList.map (·.key) = (es.toList.map (·.key)).set j (a.eval i) := by
                    rw [Array.toList_modify]
                    apply List.ext_getElem?
                    intro q
                    simp only [List.getElem?_map, List.getElem?_modify, List.getElem?_set, List.length_map]
                    by_cases e6 : j = q
                    · subst e6
                      have hlt : j < es.toList.length := by rw [Array.length_toList]; exact (Array.getElem?_eq_some_iff.1 g1).1
                      simp only [if_true, hlt, List.getElem?_eq_getElem hlt]
                      rfl
                    · simp only [if_neg e6]
                      cases es.toList[q]? <;> rfl
                  rw [e5]
                  exact this
                · have := hv2.set h3 j
                  rw [List.map_set]
                  have e5 : (es.modify j fun e => { e with key := a.eval i, val := a.eval y }).toList.map (·.val) = (es.toList.map (·.val)).set j (a.eval y) := by
                    rw [Array.toList_modify]
                    apply List.ext_getElem?
                    intro q
                    simp only [List.getElem?_map, List.getElem?_modify, List.getElem?_set, List.length_map]
                    by_cases e6 : j = q
                    · subst e6
                      have hlt : j < es.toList.length := by rw [Array.length_toList]; exact (Array.getElem?_eq_some_iff.1 g1).1
                      simp only [if_true, hlt, List.getElem?_eq_getElem hlt]
                      rfl
                    · simp only [if_neg e6]
                      cases es.toList[q]? <;> rfl
                  rw [e5]
                  exact this
          · rename_i hf
            rw [appK_eq] at h
            rcases mfind_sound h2 l es.toList 0 _ hv1 hv2 hf with ⟨_, e2⟩ | ⟨j', u', v', e1, _, _⟩
            · rcases PT.insK_spec 60 H n (some (AB.map (l ++ [(ui, uv)]))) with hbad | ⟨H', hok, hget⟩
              · rw [hbad] at h; cases h
              · rw [hok] at h
                cases h
                refine ⟨Nat.le_refl _, fun hF ro mm K Q hK => wp_skipped (w' := w.putObj r (.map (es.push { key := a.eval i, val := a.eval y, born := clock }) (clock + 1))) ?_ (hK _ _ _ (mapWrite hS hN hn hg hr hget ?_ ?_) (by exact .tuple rfl (fun i u v h => by simp at h)))⟩
                · rw [hrun _ e2]
                  simp only [run_setMap hr, Result.andThen_ok]
                · simp only [List.map_append, Array.toList_push, List.map_cons, List.map_nil]
                  exact hv1.append (.cons h2 (.nil ρ))
                · simp only [List.map_append, Array.toList_push, List.map_cons, List.map_nil]
                  exact hv2.append (.cons h3 (.nil ρ))
            · cases e1
          · cases h
      · cases h
    · cases h
  · cases h
end
end Ev
end
end Go.Proofs.YtadpelhmjmamnaaGreatDoor
