/- The reckoner: parts of values, places, slices. No conditions. -/
import Derived.Test.YtadpelhmjmamnaaGreatDoorEvP12
namespace Go.Proofs.YtadpelhmjmamnaaGreatDoor.Ev
open Go Go.RowKit

section
variable {P : Program} {G : Nat} {ρ : Env} {T : PT Value} {H : HP} {N : Nat} {out : Out} {a : Act} {w : World} {dst : Option Tmp} {type : TypeId} {pos : String} {after : Array Edge} {guard : Option (Nat × Bool)}
theorem part_sound {t : TypeId} {us vs : List Value} {off : Nat} {r : Value} (hv : VL ρ us vs) (h : partC P t us off = .ok r) : ∃ v, (part t ⟨vs⟩ off).run P w = .ok v w ∧ VR ρ r v := by
  unfold partC at h
  split at h
  · rename_i hagg
    split at h
    · rename_i s hs
      rw [takeK_eq, dropN_eq] at h
      split at h
      · rename_i hle
        cases h
        have hl := hv.1
        simp only [List.length_drop] at hle
        refine ⟨.agg ⟨(vs.drop off).take s⟩, ?_, ?_⟩
        · simp only [part, Sem.run_bind, run_isAgg hagg, Result.andThen_ok, if_true, run_sizeOf hs, Sem.run_pure]
          congr 2
          apply Array.ext'
          rw [Array.toList_extract]
          simp [List.extract]
        · have := (hv.drop off).take s
          exact .agg this.1 this.2
      · cases h
    · cases h
  · rename_i hagg
    rw [nth_eq] at h
    split at h
    · rename_i u hu
      cases h
      obtain ⟨v, hvv, hr⟩ := hv.at hu
      refine ⟨v, ?_, hr⟩
      have : (⟨vs⟩ : Array Value)[off]? = some v := by simpa using hvv
      simp only [part, Sem.run_bind, run_isAgg hagg, Result.andThen_ok, Bool.false_eq_true, if_false, this]
      rfl
    · cases h
  · cases h
theorem fieldO_spec {t ft : TypeId} {f off : Nat} (h : fieldO P t f = some (ft, off)) : ∃ fs x, P.underlying t = some (.struct fs) ∧ fs[f]? = some x ∧ x.type = ft ∧ x.offset = off := by
  unfold fieldO at h
  split at h
  · rename_i fs hu
    split at h
    · rename_i x hx; cases h; exact ⟨fs, x, hu, hx, rfl, rfl⟩
    · cases h
  · cases h
theorem arrayO_spec {t e : TypeId} {sz n : Nat} (h : arrayO P t = some (e, sz, n)) : P.underlying t = some (.array n e) ∧ sizeO P e = some sz := by
  unfold arrayO at h
  split at h
  · rename_i n' e' hu
    split at h
    · rename_i s hs; cases h; exact ⟨hu, hs⟩
    · cases h
  · cases h
theorem VR.agg_inv {us : Array Value} {v : Value} (h : VR ρ (.agg us) v) : ∃ vs : List Value, v = .agg ⟨vs⟩ ∧ VL ρ us.toList vs := by
  cases h with | agg h1 h2 => exact ⟨_, rfl, h1, h2⟩
theorem VR.tuple_inv {us : Array Value} {v : Value} (h : VR ρ (.tuple us) v) : ∃ vs : List Value, v = .tuple ⟨vs⟩ ∧ VL ρ us.toList vs := by
  cases h with | tuple h1 h2 => exact ⟨_, rfl, h1, h2⟩
theorem run_under {t : TypeId} {d : TypeDesc} (h : P.underlying t = some d) (w : World) : (underlying t).run P w = .ok d w := by simp [underlying, h]
theorem run_info {t : TypeId} {i : TypeInfo} (h : P.info? t = some i) (w : World) : (typeInfo t).run P w = .ok i w := by simp [typeInfo, h]
theorem field_ok {t : TypeId} {x : Operand} {f : Nat} (hT : TR ρ T a.tmps) (hG : Glob G ρ)
    (h : (match aeval G T x with | some v => orFlat P G T N ⟨dst, .field t x f, type, pos, after, guard⟩ (fieldC P t v f) | none => .bad 119) = Rs.ok out) : OpOk P ⟨dst, .field t x f, type, pos, after, guard⟩ ρ N out a w := by
  split at h
  · rename_i u hx
    have h1 := aeval_sound hT hG hx
    refine orFlat_ok hT hG h (fun _ h => (by cases h)) (fun _ _ h => (by cases h)) (fun r hr => ?_)
    unfold fieldC at hr
    split at hr
    · rename_i ft off cs hf
      obtain ⟨fs, y, hu, hy, rfl, rfl⟩ := fieldO_spec hf
      obtain ⟨vs, hv, hvl⟩ := h1.agg_inv
      obtain ⟨v, hrun, hvr⟩ := part_sound (w := w) hvl hr
      refine ⟨v, ?_, hvr⟩
      simp only [execOp, Instr.field, Sem.run_bind, run_under hu, Result.andThen_ok, hy, hv, asAgg, Sem.run_pure, hrun]
    · cases hr
  · cases h
theorem index_ok {t : TypeId} {x i : Operand} (hT : TR ρ T a.tmps) (hG : Glob G ρ)
    (h : (match aeval G T x, aeval G T i with | some u, some v => orFlat P G T N ⟨dst, .index t x i, type, pos, after, guard⟩ (indexC P t u v) | _, _ => .bad 143) = Rs.ok out) : OpOk P ⟨dst, .index t x i, type, pos, after, guard⟩ ρ N out a w := by
  split at h
  · rename_i u v hx hi
    have h1 := aeval_sound hT hG hx
    have h2 := aeval_sound hT hG hi
    refine orFlat_ok hT hG h (fun _ h => (by cases h)) (fun _ _ h => (by cases h)) (fun r hr => ?_)
    unfold indexC at hr
    split at hr
    · rename_i cs k j
      split at hr
      · rename_i e sz len hao
        obtain ⟨hu, hs⟩ := arrayO_spec hao
        obtain ⟨vs, hv, hvl⟩ := h1.agg_inv
        generalize hvi : a.eval i = vi at h2
        cases h2
        cases hb : Nat.blt j len with
        | false => rw [hb] at hr; cases hr
        | true =>
          rw [hb] at hr
          have hlt := blt_spec hb
          obtain ⟨v, hrun, hvr⟩ := part_sound (w := w) hvl hr
          refine ⟨v, ?_, hvr⟩
          have hcond : (0 ≤ (Int.ofNat j)) ∧ (Int.ofNat j) < (len : Int) := ⟨by simp, by simp; omega⟩
          simp only [execOp, Instr.index, hvi, asIntOf, Sem.run_bind, Sem.run_pure, run_under hu, Result.andThen_ok, hv]
          rw [if_pos hcond]
          simp only [Sem.run_bind, run_sizeOf hs, Result.andThen_ok]
          have : (Int.ofNat j).toNat = j := by simp
          rw [this, hrun]
          rfl
      · cases hr
    · cases hr
  · cases h
theorem indexAddr_ok {t : TypeId} {x i : Operand} (hT : TR ρ T a.tmps) (hG : Glob G ρ)
    (h : (match aeval G T x, aeval G T i with | some u, some v => orFlat P G T N ⟨dst, .indexAddr t x i, type, pos, after, guard⟩ (indexAddrC P t u v) | _, _ => .bad 142) = Rs.ok out) : OpOk P ⟨dst, .indexAddr t x i, type, pos, after, guard⟩ ρ N out a w := by
  split at h
  · rename_i u v hx hi
    have h1 := aeval_sound hT hG hx
    have h2 := aeval_sound hT hG hi
    refine orFlat_ok hT hG h (fun _ h => (by cases h)) (fun _ _ h => (by cases h)) (fun r hr => ?_)
    unfold indexAddrC at hr
    split at hr
    · rename_i n o s len cap k j
      split at hr
      · rename_i e sz hso
        obtain ⟨hu, hs⟩ := sliceO_spec hso
        obtain ⟨bs, c', hax, _, hbase⟩ := h1.slice rfl
        obtain ⟨ba, C, rfl, hn, _⟩ := hbase n o s rfl
        generalize hvi : a.eval i = vi at h2
        cases h2
        cases hb : Nat.blt j len with
        | false => rw [hb] at hr; cases hr
        | true =>
          rw [hb] at hr
          simp only [cond_true, forceN_eq] at hr
          cases hr
          have hlt := blt_spec hb
          refine ⟨.pointer (some ⟨ba, o + j * sz, none⟩), ?_, .ptr hn⟩
          have hcond : (0 ≤ (Int.ofNat j)) ∧ (Int.ofNat j) < (len : Int) := ⟨by simp, by simp; omega⟩
          simp only [execOp, Instr.indexAt, hvi, asIntOf, Sem.run_bind, Sem.run_pure, run_under hu, Result.andThen_ok, hax]
          rw [if_pos hcond]
          simp only [Sem.run_bind, run_sizeOf hs, Result.andThen_ok, Sem.run_pure]
          have : (Int.ofNat j).toNat = j := by simp
          rw [this, add_off]
      · cases hr
    · rename_i n o s k j
      split at hr
      · rename_i e sz len hao
        obtain ⟨hu, hs⟩ := arrayO_spec hao
        generalize hvi : a.eval i = vi at h2
        generalize hvx : a.eval x = vx at h1
        cases h2
        cases h1 with
        | @ptr _ _ _ ba C hn =>
        cases hb : Nat.blt j len with
        | false => rw [hb] at hr; cases hr
        | true =>
          rw [hb] at hr
          simp only [cond_true, forceN_eq] at hr
          cases hr
          have hlt := blt_spec hb
          refine ⟨.pointer (some ⟨ba, o + j * sz, none⟩), ?_, .ptr hn⟩
          have hcond : (0 ≤ (Int.ofNat j)) ∧ (Int.ofNat j) < (len : Int) := ⟨by simp, by simp; omega⟩
          simp only [execOp, Instr.indexAt, Instr.sureAddr, hvi, hvx, asIntOf, Sem.run_bind, Sem.run_pure, run_under hu, Result.andThen_ok]
          rw [if_pos hcond]
          simp only [Sem.run_bind, run_sizeOf hs, Result.andThen_ok, Sem.run_pure]
          have : (Int.ofNat j).toNat = j := by simp
          rw [this, add_off]
      · cases hr
    · cases hr
  · cases h
theorem fieldAddr_ok {t : TypeId} {x : Operand} {f : Nat} (hT : TR ρ T a.tmps) (hG : Glob G ρ)
    (h : (match aeval G T x with | some v => orFlat P G T N ⟨dst, .fieldAddr t x f, type, pos, after, guard⟩ (fieldAddrC P t v f) | none => .bad 118) = Rs.ok out) : OpOk P ⟨dst, .fieldAddr t x f, type, pos, after, guard⟩ ρ N out a w := by
  split at h
  · rename_i u hx
    have h1 := aeval_sound hT hG hx
    refine orFlat_ok hT hG h (fun _ h => (by cases h)) (fun _ _ h => (by cases h)) (fun r hr => ?_)
    unfold fieldAddrC at hr
    split at hr
    · rename_i ft off n o s hf
      obtain ⟨fs, y, hu, hy, rfl, rfl⟩ := fieldO_spec hf
      split at hr
      · rename_i sz hs
        cases h0 : Nat.beq sz 0 with
        | true => rw [h0] at hr; cases hr
        | false =>
          rw [h0] at hr
          simp only [cond_false, forceN_eq] at hr
          cases hr
          have hne : sz ≠ 0 := fun e => by subst e; cases h0
          generalize hvx : a.eval x = vx at h1
          cases h1 with
          | @ptr _ _ _ ba C hn =>
          refine ⟨.pointer (some ⟨ba, o + y.offset, none⟩), ?_, .ptr hn⟩
          simp only [execOp, Instr.fieldAt, Instr.sureAddr, fieldPlace, Sem.run_bind, run_under hu, Result.andThen_ok, hy, hvx, Sem.run_pure, run_sizeOf hs, if_neg hne, add_off]
      · cases hr
    · cases hr
  · cases h
theorem extract_ok {x : Operand} {i : Nat} (hT : TR ρ T a.tmps) (hG : Glob G ρ)
    (h : (match aeval G T x with | some v => orFlat P G T N ⟨dst, .extract x i, type, pos, after, guard⟩ (extractC v i) | none => .bad 144) = Rs.ok out) : OpOk P ⟨dst, .extract x i, type, pos, after, guard⟩ ρ N out a w := by
  split at h
  · rename_i u hx
    have h1 := aeval_sound hT hG hx
    refine orFlat_ok hT hG h (fun _ h => (by cases h)) (fun _ _ h => (by cases h)) (fun r hr => ?_)
    unfold extractC at hr
    split at hr
    · rename_i cs
      rw [nth_eq] at hr
      split at hr
      · rename_i y hy
        cases hr
        obtain ⟨vs, hv, hvl⟩ := h1.tuple_inv
        obtain ⟨v, hvv, hvr⟩ := hvl.at hy
        refine ⟨v, ?_, hvr⟩
        have : (⟨vs⟩ : Array Value)[i]? = some v := by simpa using hvv
        simp only [execOp, Instr.extract, hv, this]
        rfl
      · cases hr
    · cases hr
  · cases h
theorem makeInterface_ok {t : TypeId} {x : Operand} (hT : TR ρ T a.tmps) (hG : Glob G ρ)
    (h : (match aeval G T x with | some v => orFlat P G T N ⟨dst, .makeInterface t x, type, pos, after, guard⟩ (makeInterfaceC P t v) | none => .bad 117) = Rs.ok out) : OpOk P ⟨dst, .makeInterface t x, type, pos, after, guard⟩ ρ N out a w := by
  split at h
  · rename_i u hx
    have h1 := aeval_sound hT hG hx
    refine orFlat_ok hT hG h (fun _ h => (by cases h)) (fun _ _ h => (by cases h)) (fun r hr => ?_)
    unfold makeInterfaceC at hr
    cases hp : plainType P t with
    | false => rw [hp] at hr; cases hr
    | true =>
      rw [hp] at hr
      cases hr
      refine ⟨.iface t (a.eval x), ?_, .iface h1⟩
      unfold plainType at hp
      cases hu : P.underlying t with
      | none => rw [hu] at hp; cases hp
      | some d =>
        rw [hu] at hp
        simp only [execOp, Instr.makeInterface, Sem.run_bind, run_under hu, Result.andThen_ok]
        cases d <;> first | rfl | cases hp
  · cases h
theorem nilAhead_run {t : TypeId} {name : String} {f : FuncId} (h : methO P t name = some f) (v : Value) : (nilAhead (P.types.size + Made.depth) t v name).run P w = .ok (some false) w := by
  unfold methO at h
  split at h
  · rename_i i hi
    split at h
    · rename_i m hm
      split at h
      · rename_i f' hf hp
        split at h
        · cases h
        · rename_i d hd hu
          cases h
          have hn : P.types.size + Made.depth = (P.types.size + (Made.depth - 1)) + 1 := rfl
          rw [hn]
          unfold nilAhead
          rw [Sem.run_bind, run_info hi, Result.andThen_ok, hm]
          simp only [hp, followBlind, Sem.run_bind, Sem.run_pure, Result.andThen_ok, hf, run_under hu]
          cases d <;> first | exact absurd rfl (hd _) | rfl
        · cases h
      · cases h
    · cases h
  · cases h
theorem nilCheck_ok {x : Operand} (hT : TR ρ T a.tmps) (hG : Glob G ρ)
    (h : (match aeval G T x with | some v => orFlat P G T N ⟨dst, .nilCheck x, type, pos, after, guard⟩ (nilCheckC P v) | none => .bad 115) = Rs.ok out) : OpOk P ⟨dst, .nilCheck x, type, pos, after, guard⟩ ρ N out a w := by
  split at h
  · rename_i u hx
    have h1 := aeval_sound hT hG hx
    refine orFlat_ok hT hG h (fun _ h => (by cases h)) (fun _ _ h => (by cases h)) (fun r hr => ?_)
    unfold nilCheckC at hr
    refine ⟨a.eval x, ?_, ?_⟩
    · generalize hvx : a.eval x = vx at h1
      split at hr
      · cases h1; simp only [execOp, hvx]; rfl
      · cases h1; simp only [execOp, hvx]; rfl
      · cases h1; simp only [execOp, hvx]; rfl
      · rename_i name t w0 fs xs
        split at hr
        · rename_i f hm
          cases h1 with
          | @meth _ us vs xs ys e1 e2 e3 e4 =>
            obtain ⟨v1, vs', rfl, hv1, _⟩ := VL.cons_inv (⟨e1, e2⟩ : VL ρ _ vs)
            cases hv1 with
            | @iface _ _ v2 hv2 =>
              have e0 : (⟨.iface t v2 :: vs'⟩ : Array Value)[0]? = some (.iface t v2) := rfl
              simp [execOp, hvx, nilAhead_run hm]
        · cases hr
      · cases hr
    · split at hr
      all_goals first | (cases hr; exact h1; done) | (cases hr; done) | (split at hr <;> first | (cases hr; exact h1; done) | (cases hr; done))
  · cases h
theorem typeAssert_ok {x : Operand} {xt t : TypeId} {ok : Bool} (hT : TR ρ T a.tmps) (hG : Glob G ρ)
    (h : (match aeval G T x with | some v => orFlat P G T N ⟨dst, .typeAssert x xt t ok, type, pos, after, guard⟩ (typeAssertC P v t ok) | none => .bad 145) = Rs.ok out) : OpOk P ⟨dst, .typeAssert x xt t ok, type, pos, after, guard⟩ ρ N out a w := by
  split at h
  · rename_i u hx
    have h1 := aeval_sound hT hG hx
    refine orFlat_ok hT hG h (fun _ h => (by cases h)) (fun _ _ h => (by cases h)) (fun r hr => ?_)
    unfold typeAssertC at hr
    split at hr
    · rename_i ti y
      generalize hvx : a.eval x = vx at h1
      cases h1 with
      | @iface _ _ v' hv' =>
      have two : ∀ {u v : Value} {b : Bool}, VR ρ u v → VR ρ (.tuple ⟨[u, .bool b]⟩) (.tuple ⟨[v, .bool b]⟩) := fun {u v b} h => by
        have : VL ρ [u, .bool b] [v, .bool b] := .cons h (.cons (.bool _) (.nil ρ))
        exact .tuple this.1 this.2
      have hz : ∀ {z : Value}, zeroV P t = some z → ∀ w, (zeroValue t).run P w = .ok z w := fun {z} hz w => by
        unfold zeroV at hz
        split at hz
        · rename_i i hi; simp [zeroValue, typeInfo, hi, hz]
        · cases hz
      unfold assertO at hr
      cases hu : P.underlying t with
      | none => rw [hu] at hr; cases hr
      | some d =>
        rw [hu] at hr
        by_cases hd : ∃ ms, d = .interface ms
        · obtain ⟨ms, rfl⟩ := hd
          simp only at hr
          cases hi : P.info? ti with
          | none => rw [hi] at hr; cases hr
          | some i =>
            rw [hi] at hr
            cases hm : Instr.missingMethod ms i.methods with
            | none =>
              simp only [hm] at hr
              cases hr
              refine ⟨if ok then .tuple #[.iface ti v', .bool true] else .iface ti v', ?_, ?_⟩
              · simp only [execOp, Instr.typeAssert, hvx, Sem.run_bind, run_under hu, run_info hi, Result.andThen_ok, hm, Sem.run_pure]
              · cases ok
                · exact .iface hv'
                · exact two (.iface hv')
            | some mm =>
              simp only [hm] at hr
              cases ok with
              | false => cases hr
              | true =>
                simp only [cond_true] at hr
                cases hzv : zeroV P t with
                | none => rw [hzv] at hr; cases hr
                | some z =>
                  rw [hzv] at hr
                  simp only at hr
                  cases hfz : flat 4 z with
                  | false => rw [hfz] at hr; cases hr
                  | true =>
                    rw [hfz] at hr; cases hr
                    refine ⟨.tuple #[z, .bool false], ?_, two (flat_le 4 z hfz ρ)⟩
                    simp only [execOp, Instr.typeAssert, hvx, Sem.run_bind, run_under hu, run_info hi, Result.andThen_ok, hm, Sem.run_pure, if_true, hz hzv]
        · have hd' : ∀ ms, d ≠ .interface ms := fun ms e => hd ⟨ms, e⟩
          have hr' : (match cond (Nat.beq ti t) (some (some y)) (some none) with
            | some (some r) => Rs.ok (cond ok (Value.tuple ⟨[r, .bool true]⟩) r)
            | some none => cond ok (match zeroV P t with | some z => cond (flat 4 z) (.ok (Value.tuple ⟨[z, .bool false]⟩)) (.bad 125) | none => .bad 126) (.bad 127)
            | none => .bad 128) = .ok r := by
            cases d <;> first | exact hr | exact absurd rfl (hd' _)
          have hrun : (execOp a.eval ⟨dst, .typeAssert x xt t ok, type, pos, after, guard⟩).run P w = (if ti = t then Result.ok (.value (if ok then .tuple #[v', .bool true] else v')) w else
              ((if ok then (do pure (Value.tuple #[← zeroValue t, .bool false])) else runtimePanic (.typeAssertion (some xt) (some ti) t "") : Sem Value).run P w).andThen fun v w => .ok (.value v) w) := by
            simp only [execOp, Instr.typeAssert, hvx, Sem.run_bind, run_under hu, Result.andThen_ok]
            cases d <;> first | exact absurd rfl (hd' _) | skip
            all_goals
              by_cases e : ti = t
              · simp only [e, if_true, Sem.run_pure, Result.andThen_ok]
              · simp only [if_neg e]; rfl
          cases hb : Nat.beq ti t with
          | true =>
            rw [hb] at hr'
            cases hr'
            refine ⟨if ok then .tuple #[v', .bool true] else v', ?_, ?_⟩
            · rw [hrun, if_pos (Nat.eq_of_beq_eq_true hb)]
            · cases ok
              · exact hv'
              · exact two hv'
          | false =>
            rw [hb] at hr'
            have hne : ti ≠ t := fun e => by subst e; simp at hb
            cases ok with
            | false => cases hr'
            | true =>
              simp only [cond_false, cond_true] at hr'
              cases hzv : zeroV P t with
              | none => rw [hzv] at hr'; cases hr'
              | some z =>
                rw [hzv] at hr'
                simp only at hr'
                cases hfz : flat 4 z with
                | false => rw [hfz] at hr'; cases hr'
                | true =>
                  rw [hfz] at hr'; cases hr'
                  refine ⟨.tuple #[z, .bool false], ?_, two (flat_le 4 z hfz ρ)⟩
                  rw [hrun, if_neg hne]
                  simp [hz hzv]
    · cases hr
  · cases h
end
end Go.Proofs.YtadpelhmjmamnaaGreatDoor.Ev
