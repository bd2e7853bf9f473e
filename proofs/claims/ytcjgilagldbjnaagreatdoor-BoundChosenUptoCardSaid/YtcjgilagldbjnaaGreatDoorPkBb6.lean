/- The reckoner: operations on two values. The reckoner: operations on values, each against the model. The reckoner: parts of values, places, slices. The reckoner: slices, literals, functions, maps. The reckoner: literals, functions, lengths, maps. -/
import Derived.Test.YtcjgilagldbjnaaGreatDoorPkBb5
namespace Go.Proofs.YtcjgilagldbjnaaGreatDoor
section
namespace Ev
open Go Go.RowKit
theorem kindEq_eq {j k : IntKind} (h : kindEq j k = true) : j = k := by cases j <;> cases k <;> first | rfl | cases h
section
variable {P : Program} {w : World}
theorem eqGuard_int (op : BinOp) (t : TypeId) (x y : Operand) (j k : IntKind) (a b : Int) : (eqGuard op t x y (.int j a) (.int k b)).run P w = .ok () w := by
 cases op <;> rfl
theorem blt_spec {m n : Nat} (h : Nat.blt m n = true) : m < n := by simp [Nat.blt, Nat.ble_eq] at h; omega
theorem fastBin_run {op : BinOp} {t : TypeId} {k : IntKind} {a b : Int} {r : Value} (h : fastBin op k a b = some r) : (binOp op t (.int k a) (.int k b)).run P w = .ok r w := by
 cases op <;> simp only [fastBin] at h
 case add => cases h; simp [binOp, Op.intArith, wrapF_eq] <;> rfl
 case sub => cases h; simp [binOp, Op.intArith, wrapF_eq] <;> rfl
 case mul => cases h; simp [binOp, Op.intArith, wrapF_eq] <;> rfl
 case lss => cases h; simp [binOp, Op.intCmp, ltF_eq]
 case gtr => cases h; simp [binOp, Op.intCmp, ltF_eq]
 case leq => cases h; have : decide (a ≤ b) = !decide (b < a) := (by rw [Bool.eq_iff_iff]; simp); simp [binOp, Op.intCmp, ltF_eq, this]
 case geq => cases h; have : decide (b ≤ a) = !decide (a < b) := (by rw [Bool.eq_iff_iff]; simp); simp [binOp, Op.intCmp, ltF_eq, this]
 case eql => cases h; simp [binOp, Op.intCmp, eqF_eq]
 case neq => cases h; simp [binOp, Op.intCmp, eqF_eq]; rfl
 case quo =>
  split at h
  ·cases h
   rename_i m n
   have hne : ¬ ((Int.ofNat (n + 1)) = 0) := by rw [Int.ofNat_eq_natCast]; omega
   simp only [binOp, Op.intDiv, ne_eq, not_true_eq_false, if_false, wrapF_eq]
   rw [if_neg hne]
   rfl
  ·cases h
 case rem =>
  split at h
  ·cases h
   rename_i m n
   have hne : ¬ ((Int.ofNat (n + 1)) = 0) := by rw [Int.ofNat_eq_natCast]; omega
   simp only [binOp, Op.intDiv, ne_eq, not_true_eq_false, if_false]
   rw [if_neg hne]
   rfl
  ·cases h
 case and =>
  split at h
  ·rename_i m n
   cases hc : (Nat.blt m (topN k) && Nat.blt n (topN k)) with
   | false => rw [hc] at h; cases h
   | true =>
    rw [hc] at h; cases h
    rw [Bool.and_eq_true] at hc
    have := bits_and (k := k) Nat.land (fun x y => x &&& y) (fun x y => BitVec.toNat_and x y) (blt_spec hc.1) (blt_spec hc.2) (fun h1 _ => Nat.and_lt_two_pow _ ‹_›)
    simp only [binOp, Op.intBits, ne_eq, not_true_eq_false, if_false, Int.ofNat_eq_natCast]
    rw [this]; rfl
  ·cases h
 case or =>
  split at h
  ·rename_i m n
   cases hc : (Nat.blt m (topN k) && Nat.blt n (topN k)) with
   | false => rw [hc] at h; cases h
   | true =>
    rw [hc] at h; cases h
    rw [Bool.and_eq_true] at hc
    have := bits_and (k := k) Nat.lor (fun x y => x ||| y) (fun x y => BitVec.toNat_or x y) (blt_spec hc.1) (blt_spec hc.2) (fun h1 h2 => Nat.or_lt_two_pow h1 h2)
    simp only [binOp, Op.intBits, ne_eq, not_true_eq_false, if_false, Int.ofNat_eq_natCast]
    rw [this]; rfl
  ·cases h
 case xor =>
  split at h
  ·rename_i m n
   cases hc : (Nat.blt m (topN k) && Nat.blt n (topN k)) with
   | false => rw [hc] at h; cases h
   | true =>
    rw [hc] at h; cases h
    rw [Bool.and_eq_true] at hc
    have := bits_and (k := k) Nat.xor (fun x y => x ^^^ y) (fun x y => BitVec.toNat_xor x y) (blt_spec hc.1) (blt_spec hc.2) (fun h1 h2 => Nat.xor_lt_two_pow h1 h2)
    simp only [binOp, Op.intBits, ne_eq, not_true_eq_false, if_false, Int.ofNat_eq_natCast]
    rw [this]; rfl
  ·cases h
 all_goals cases h
theorem fastSh_run {op : BinOp} {t : TypeId} {j k : IntKind} {a b : Int} {r : Value} (h : fastSh op j a b = some r) : (binOp op t (.int j a) (.int k b)).run P w = .ok r w := by
 unfold fastSh at h
 split at h
 ·rename_i m n
  cases hn : Nat.ble n 64 with
  | false => rw [hn] at h; cases h
  | true =>
   rw [hn] at h
   simp only [cond_true] at h
   split at h
   ·cases hb : Nat.ble n j.bits with
    | false => rw [hb] at h; cases h
    | true =>
     rw [hb] at h; cases h
     have hb := Nat.le_of_ble_eq_true hb
     have h0 : ¬ ((Int.ofNat n) < 0) := by simp
     simp only [binOp, Op.shift, if_neg h0]
     have : min (Int.ofNat n).toNat j.bits = n := by simp; omega
     rw [this]
     simp only [Sem.run_pure]
     congr 3
   ·cases hb : Nat.ble n j.bits with
    | false => rw [hb] at h; cases h
    | true =>
     rw [hb] at h; cases h
     have hb := Nat.le_of_ble_eq_true hb
     have h0 : ¬ ((Int.ofNat n) < 0) := by simp
     simp only [binOp, Op.shift, if_neg h0]
     have : min (Int.ofNat n).toNat j.bits = n := by simp; omega
     rw [this]
     simp only [Sem.run_pure]
     have e : (Int.ofNat m).fdiv (2 ^ n) = Int.ofNat (m.div (Nat.pow 2 n)) := by
      rw [show (2 : Int) ^ n = ((2 ^ n : Nat) : Int) by simp]
      exact (Int.ofNat_fdiv m (2 ^ n)).symm
     rw [e]
   ·cases h
 ·cases h
theorem nilEq_run {t : TypeId} {x y : Value} {b : Bool} (h : nilEq (P.underlying t) x y = some b) (n : Nat) : (Op.equalIn (n + 1) t x y).run P w = .ok b w := by
 unfold nilEq at h
 simp only [Op.equalIn, underlying, Sem.run_bind, run_program, Result.andThen_ok]
 split at h <;> first | (cases h; done) | (rename_i hu; cases h; rw [hu]; rfl)
end
end Ev
end
section
namespace Ev
open Go Go.RowKit
section
variable {P : Program} {G : Nat} {ρ : Env} {T : PT Value} {H : HP} {N : Nat} {out : Out} {a : Act} {w : World} {dst : Option Tmp} {type : TypeId} {pos : String} {after : Array Edge} {guard : Option (Nat × Bool)}
theorem nilEq_VR {d : Option TypeDesc} {u v u' v' : Value} {b : Bool} (h1 : VR ρ u u') (h2 : VR ρ v v') (h : nilEq d u v = some b) : nilEq d u' v' = some b := by
 unfold nilEq at h
 split at h <;> cases h <;> cases h1 <;> cases h2 <;> rfl
theorem eqGuard_nil {op : BinOp} {t : TypeId} {x y : Operand} {d : Option TypeDesc} {u v : Value} {b : Bool} (h : nilEq d u v = some b) : (eqGuard op t x y u v).run P w = .ok () w := by
 unfold nilEq at h
 split at h <;> cases h <;> cases op <;> rfl
theorem binOp_nil {op : BinOp} {t : TypeId} {u v : Value} {b : Bool} (ho : op = .eql ∨ op = .neq) (h : nilEq (P.underlying t) u v = some b) : (binOp op t u v).run P w = .ok (.bool (if op = .eql then b else !b)) w := by
 have h2 := nilEq_run (P := P) (w := w) h 9999
 have h3 : (Op.equal t u v).run P w = .ok b w := h2
 have h4 : binOp op t u v = (if op = .eql then (do pure (.bool (← Op.equal t u v))) else (do pure (.bool (!(← Op.equal t u v))))) := by
  unfold nilEq at h
  rcases ho with rfl | rfl <;> (split at h <;> first | (cases h; done) | rfl)
 rw [h4]
 rcases ho with rfl | rfl
 ·simp [h3]
 ·simp [h3]
theorem binC_sound {op : BinOp} {t : TypeId} {x y : Operand} {u v u' v' r : Value} (h1 : VR ρ u u') (h2 : VR ρ v v') (h : binC P op t u v = some r) :
  (do eqGuard op t x y u' v'; binOp op t u' v' : Sem Value).run P w = .ok r w ∧ VR ρ r r := by
 unfold binC at h
 split at h
 ·rename_i j a k b
  cases h1
  cases h2
  have hg := eqGuard_int (P := P) (w := w) op t x y j k a b
  rw [Sem.run_bind, hg, Result.andThen_ok]
  split at h
  ·refine ⟨fastSh_run h, ?_⟩
   unfold fastSh at h; split at h <;> first | (cases h; done) | skip
   rename_i m n
   cases hn : Nat.ble n 64 with
   | false => rw [hn] at h; cases h
   | true =>
    rw [hn] at h; simp only [cond_true] at h
    cases hb : Nat.ble n j.bits with
    | false => rw [hb] at h; cases h
    | true => rw [hb] at h; cases h; constructor
  ·refine ⟨fastSh_run h, ?_⟩
   unfold fastSh at h; split at h <;> first | (cases h; done) | skip
   rename_i m n
   cases hn : Nat.ble n 64 with
   | false => rw [hn] at h; cases h
   | true =>
    rw [hn] at h; simp only [cond_true] at h
    cases hb : Nat.ble n j.bits with
    | false => rw [hb] at h; cases h
    | true => rw [hb] at h; cases h; constructor
  ·cases hk : kindEq j k with
   | false => rw [hk] at h; cases h
   | true =>
    rw [hk] at h
    simp only [cond_true] at h
    obtain rfl := kindEq_eq hk
    refine ⟨fastBin_run h, ?_⟩
    cases op <;> simp only [fastBin] at h <;> first
     | (cases h; constructor; done)
     | (split at h <;> first | (cases h; done) | (cases h; constructor; done) | (rename_i m n; cases hc : (Nat.blt m (topN j) && Nat.blt n (topN j)) <;> rw [hc] at h <;> cases h <;> constructor))
     | (cases h; done)
 ·split at h
  ·cases hn : nilEq (P.underlying t) u v with
   | none => rw [hn] at h; cases h
   | some b =>
    rw [hn] at h; cases h
    have hn' := nilEq_VR h1 h2 hn
    refine ⟨?_, .bool _⟩
    rw [Sem.run_bind, eqGuard_nil hn', Result.andThen_ok, binOp_nil (.inl rfl) hn']
    rfl
  ·cases hn : nilEq (P.underlying t) u v with
   | none => rw [hn] at h; cases h
   | some b =>
    rw [hn] at h; cases h
    have hn' := nilEq_VR h1 h2 hn
    refine ⟨?_, .bool _⟩
    rw [Sem.run_bind, eqGuard_nil hn', Result.andThen_ok, binOp_nil (.inr rfl) hn']
    rfl
  ·cases h
theorem binOp_ok {op : BinOp} {t yt : TypeId} {x y : Operand} (hT : TR ρ T a.tmps) (hG : Glob G ρ)
  (h : (match aeval G T x, aeval G T y with
   | some u, some v => (match binC P op t u v with
    | some r => forceV r fun r => Rs.ok (.v r [] N)
    | none => flatC P G T N ⟨dst, .binOp op t x y yt, type, pos, after, guard⟩)
   | _, _ => .bad 116) = Rs.ok out) : OpOk P ⟨dst, .binOp op t x y yt, type, pos, after, guard⟩ ρ N out a w := by
 split at h
 ·rename_i u v hx hy
  split at h
  ·rename_i r hr
   rw [forceV_eq] at h
   cases h
   obtain ⟨h1, h2⟩ := binC_sound (w := w) (x := x) (y := y) (aeval_sound hT hG hx) (aeval_sound hT hG hy) hr
   refine pure_ok rfl (v := r) ?_ h2 (fun _ h => (by cases h))
   simp only [execOp]
   rw [Sem.run_bind, h1]
   rfl
  ·exact flat_ok hT hG h (fun _ h => (by cases h)) (fun _ _ h => (by cases h))
 ·cases h
theorem unOp_ok {op : UnOp} {t : TypeId} {x : Operand} (hT : TR ρ T a.tmps) (hG : Glob G ρ)
  (h : (match aeval G T x with
  | some u => (match unC op u with
   | some r => forceV r fun r => Rs.ok (.v r [] N)
   | none => flatC P G T N ⟨dst, .unOp op t x, type, pos, after, guard⟩)
  | none => .bad 160) = Rs.ok out) : OpOk P ⟨dst, .unOp op t x, type, pos, after, guard⟩ ρ N out a w := by
 split at h
 ·rename_i u hx
  split at h
  ·rename_i r hr
   rw [forceV_eq] at h
   cases h
   have h1 := aeval_sound hT hG hx
   unfold unC at hr
   split at hr
   ·cases hr
    generalize hv : a.eval x = v at h1
    cases h1
    exact pure_ok rfl (by simp only [execOp, hv]; rfl) (.bool _) (fun _ h => (by cases h))
   ·cases hr
    generalize hv : a.eval x = v at h1
    cases h1
    exact pure_ok rfl (by simp only [execOp, hv, Op.unary, Op.intArith, wrapF_eq]; rfl) (.int _ _) (fun _ h => (by cases h))
   ·cases hr
  ·exact flat_ok hT hG h (fun _ h => (by cases h)) (fun _ _ h => (by cases h))
 ·cases h
theorem convert_ok {s d : TypeId} {x : Operand} (hT : TR ρ T a.tmps) (hG : Glob G ρ)
  (h : (match aeval G T x with
  | some u => (match convC P s d u with
   | some r => forceV r fun r => Rs.ok (.v r [] N)
   | none => flatC P G T N ⟨dst, .convert s d x, type, pos, after, guard⟩)
  | none => .bad 161) = Rs.ok out) : OpOk P ⟨dst, .convert s d x, type, pos, after, guard⟩ ρ N out a w := by
 split at h
 ·rename_i u hx
  split at h
  ·rename_i r hr
   rw [forceV_eq] at h
   cases h
   have h1 := aeval_sound hT hG hx
   unfold convC at hr
   split at hr
   ·rename_i ds k j n hs hd
    cases hr
    generalize hv : a.eval x = v at h1
    cases h1
    refine pure_ok rfl (v := .int k (wrapF k n)) ?_ (.int _ _) (fun _ h => (by cases h))
    have : ∀ (dd : TypeDesc), (convert s d (.int j n)).run P w = .ok (.int k (wrapF k n)) w := fun _ => by
     simp only [convert, underlying, Sem.run_bind, run_program, Result.andThen_ok, hs, hd, Sem.run_pure, wrapF_eq]
     cases ds <;> rfl
    simp only [execOp, hv, Sem.run_bind, this ds]
    rfl
   ·cases hr
  ·exact flat_ok hT hG h (fun _ h => (by cases h)) (fun _ _ h => (by cases h))
 ·cases h
end
end Ev
end
section
namespace Ev
open Go Go.RowKit
section
variable {P : Program} {G : Nat} {ρ : Env} {T : PT Value} {H : HP} {N : Nat} {out : Out} {a : Act} {w : World} {dst : Option Tmp} {type : TypeId} {pos : String} {after : Array Edge} {guard : Option (Nat × Bool)}
theorem part_sound {t : TypeId} {us vs : List Value} {off : Nat} {r : Value} (hv : VL ρ us vs) (h : partC P t us off = .ok r) : ∃ v, (part t ⟨vs⟩ off).run P w = .ok v w ∧ VR ρ r v := by
 unfold partC at h
 split at h
 ·rename_i hagg
  split at h
  ·rename_i s hs
   rw [takeK_eq, dropN_eq] at h
   split at h
   ·rename_i hle
    cases h
    have hl := hv.1
    simp only [List.length_drop] at hle
    refine ⟨.agg ⟨(vs.drop off).take s⟩, ?_, ?_⟩
    ·simp only [part, Sem.run_bind, run_isAgg hagg, Result.andThen_ok, if_true, run_sizeOf hs, Sem.run_pure]
     congr 2
     apply Array.ext'
     rw [Array.toList_extract]
     simp [List.extract]
    ·have := (hv.drop off).take s
     exact .agg this.1 this.2
   ·cases h
  ·cases h
 ·rename_i hagg
  rw [nth_eq] at h
  split at h
  ·rename_i u hu
   cases h
   obtain ⟨v, hvv, hr⟩ := hv.at hu
   refine ⟨v, ?_, hr⟩
   have : (⟨vs⟩ : Array Value)[off]? = some v := by simpa using hvv
   simp only [part, Sem.run_bind, run_isAgg hagg, Result.andThen_ok, Bool.false_eq_true, if_false, this]
   rfl
  ·cases h
 ·cases h
theorem fieldO_spec {t ft : TypeId} {f off : Nat} (h : fieldO P t f = some (ft, off)) : ∃ fs x, P.underlying t = some (.struct fs) ∧ fs[f]? = some x ∧ x.type = ft ∧ x.offset = off := by
 unfold fieldO at h
 split at h
 ·rename_i fs hu
  split at h
  ·rename_i x hx; cases h; exact ⟨fs, x, hu, hx, rfl, rfl⟩
  ·cases h
 ·cases h
theorem arrayO_spec {t e : TypeId} {sz n : Nat} (h : arrayO P t = some (e, sz, n)) : P.underlying t = some (.array n e) ∧ sizeO P e = some sz := by
 unfold arrayO at h
 split at h
 ·rename_i n' e' hu
  split at h
  ·rename_i s hs; cases h; exact ⟨hu, hs⟩
  ·cases h
 ·cases h
theorem VR.agg_inv {us : Array Value} {v : Value} (h : VR ρ (.agg us) v) : ∃ vs : List Value, v = .agg ⟨vs⟩ ∧ VL ρ us.toList vs := by
 cases h with | agg h1 h2 => exact ⟨_, rfl, h1, h2⟩
theorem VR.tuple_inv {us : Array Value} {v : Value} (h : VR ρ (.tuple us) v) : ∃ vs : List Value, v = .tuple ⟨vs⟩ ∧ VL ρ us.toList vs := by
 cases h with | tuple h1 h2 => exact ⟨_, rfl, h1, h2⟩
theorem run_under {t : TypeId} {d : TypeDesc} (h : P.underlying t = some d) (w : World) : (underlying t).run P w = .ok d w := by simp [underlying, h]
theorem run_info {t : TypeId} {i : TypeInfo} (h : P.info? t = some i) (w : World) : (typeInfo t).run P w = .ok i w := by simp [typeInfo, h]
theorem field_ok {t : TypeId} {x : Operand} {f : Nat} (hT : TR ρ T a.tmps) (hG : Glob G ρ)
  (h : (match aeval G T x with | some v => orFlat P G T N ⟨dst, .field t x f, type, pos, after, guard⟩ (fieldC P t v f) | none => .bad 119) = Rs.ok out) : OpOk P ⟨dst, .field t x f, type, pos, after, guard⟩ ρ N out a w := by
 split at h
 ·rename_i u hx
  have h1 := aeval_sound hT hG hx
  refine orFlat_ok hT hG h (fun _ h => (by cases h)) (fun _ _ h => (by cases h)) (fun r hr => ?_)
  unfold fieldC at hr
  split at hr
  ·rename_i ft off cs hf
   obtain ⟨fs, y, hu, hy, rfl, rfl⟩ := fieldO_spec hf
   obtain ⟨vs, hv, hvl⟩ := h1.agg_inv
   obtain ⟨v, hrun, hvr⟩ := part_sound (w := w) hvl hr
   refine ⟨v, ?_, hvr⟩
   simp only [execOp, Instr.field, Sem.run_bind, run_under hu, Result.andThen_ok, hy, hv, asAgg, Sem.run_pure, hrun]
  ·cases hr
 ·cases h
theorem index_ok {t : TypeId} {x i : Operand} (hT : TR ρ T a.tmps) (hG : Glob G ρ)
  (h : (match aeval G T x, aeval G T i with | some u, some v => orFlat P G T N ⟨dst, .index t x i, type, pos, after, guard⟩ (indexC P t u v) | _, _ => .bad 143) = Rs.ok out) : OpOk P ⟨dst, .index t x i, type, pos, after, guard⟩ ρ N out a w := by
 split at h
 ·rename_i u v hx hi
  have h1 := aeval_sound hT hG hx
  have h2 := aeval_sound hT hG hi
  refine orFlat_ok hT hG h (fun _ h => (by cases h)) (fun _ _ h => (by cases h)) (fun r hr => ?_)
  unfold indexC at hr
  split at hr
  ·rename_i cs k j
   split at hr
   ·rename_i e sz len hao
    obtain ⟨hu, hs⟩ := arrayO_spec hao
    obtain ⟨vs, hv, hvl⟩ := h1.agg_inv
    generalize hvi : a.eval i = vi at h2
    cases h2
    cases hb : Nat.blt j len with
    | false => rw [hb] at hr; cases hr
    | true =>
     rw [hb] at hr
     have hlt := blt_spec hb
     obtain ⟨v, hrun, hvr⟩ := part_sound (w := w) hvl hr
     refine ⟨v, ?_, hvr⟩
     have hcond : (0 ≤ (Int.ofNat j)) ∧ (Int.ofNat j) < (len : Int) := ⟨by simp, by simp; omega⟩
     simp only [execOp, Instr.index, hvi, asIntOf, Sem.run_bind, Sem.run_pure, run_under hu, Result.andThen_ok, hv]
     rw [if_pos hcond]
     simp only [Sem.run_bind, run_sizeOf hs, Result.andThen_ok]
     have : (Int.ofNat j).toNat = j := by simp
     rw [this, hrun]
     rfl
   ·cases hr
  ·cases hr
 ·cases h
theorem indexAddr_ok {t : TypeId} {x i : Operand} (hT : TR ρ T a.tmps) (hG : Glob G ρ)
  (h : (match aeval G T x, aeval G T i with | some u, some v => orFlat P G T N ⟨dst, .indexAddr t x i, type, pos, after, guard⟩ (indexAddrC P t u v) | _, _ => .bad 142) = Rs.ok out) : OpOk P ⟨dst, .indexAddr t x i, type, pos, after, guard⟩ ρ N out a w := by
 split at h
 ·rename_i u v hx hi
  have h1 := aeval_sound hT hG hx
  have h2 := aeval_sound hT hG hi
  refine orFlat_ok hT hG h (fun _ h => (by cases h)) (fun _ _ h => (by cases h)) (fun r hr => ?_)
  unfold indexAddrC at hr
  split at hr
  ·rename_i n o s len cap k j
   split at hr
   ·rename_i e sz hso
    obtain ⟨hu, hs⟩ := sliceO_spec hso
    obtain ⟨bs, c', hax, _, hbase⟩ := h1.slice rfl
    obtain ⟨ba, C, rfl, hn, _⟩ := hbase n o s rfl
    generalize hvi : a.eval i = vi at h2
    cases h2
    cases hb : Nat.blt j len with
    | false => rw [hb] at hr; cases hr
    | true =>
     rw [hb] at hr
     simp only [cond_true, forceN_eq] at hr
     cases hr
     have hlt := blt_spec hb
     refine ⟨.pointer (some ⟨ba, o + j * sz, none⟩), ?_, .ptr hn⟩
     have hcond : (0 ≤ (Int.ofNat j)) ∧ (Int.ofNat j) < (len : Int) := ⟨by simp, by simp; omega⟩
     simp only [execOp, Instr.indexAt, hvi, asIntOf, Sem.run_bind, Sem.run_pure, run_under hu, Result.andThen_ok, hax]
     rw [if_pos hcond]
     simp only [Sem.run_bind, run_sizeOf hs, Result.andThen_ok, Sem.run_pure]
     have : (Int.ofNat j).toNat = j := by simp
     rw [this, add_off]
   ·cases hr
  ·rename_i n o s k j
   split at hr
   ·rename_i e sz len hao
    obtain ⟨hu, hs⟩ := arrayO_spec hao
    generalize hvi : a.eval i = vi at h2
    generalize hvx : a.eval x = vx at h1
    cases h2
    cases h1 with
    | @ptr _ _ _ ba C hn =>
    cases hb : Nat.blt j len with
    | false => rw [hb] at hr; cases hr
    | true =>
     rw [hb] at hr
     simp only [cond_true, forceN_eq] at hr
     cases hr
     have hlt := blt_spec hb
     refine ⟨.pointer (some ⟨ba, o + j * sz, none⟩), ?_, .ptr hn⟩
     have hcond : (0 ≤ (Int.ofNat j)) ∧ (Int.ofNat j) < (len : Int) := ⟨by simp, by simp; omega⟩
     simp only [execOp, Instr.indexAt, Instr.sureAddr, hvi, hvx, asIntOf, Sem.run_bind, Sem.run_pure, run_under hu, Result.andThen_ok]
     rw [if_pos hcond]
     simp only [Sem.run_bind, run_sizeOf hs, Result.andThen_ok, Sem.run_pure]
     have : (Int.ofNat j).toNat = j := by simp
     rw [this, add_off]
   ·cases hr
  ·cases hr
 ·cases h
theorem fieldAddr_ok {t : TypeId} {x : Operand} {f : Nat} (hT : TR ρ T a.tmps) (hG : Glob G ρ)
  (h : (match aeval G T x with | some v => orFlat P G T N ⟨dst, .fieldAddr t x f, type, pos, after, guard⟩ (fieldAddrC P t v f) | none => .bad 118) = Rs.ok out) : OpOk P ⟨dst, .fieldAddr t x f, type, pos, after, guard⟩ ρ N out a w := by
 split at h
 ·rename_i u hx
  have h1 := aeval_sound hT hG hx
  refine orFlat_ok hT hG h (fun _ h => (by cases h)) (fun _ _ h => (by cases h)) (fun r hr => ?_)
  unfold fieldAddrC at hr
  split at hr
  ·rename_i ft off n o s hf
   obtain ⟨fs, y, hu, hy, rfl, rfl⟩ := fieldO_spec hf
   split at hr
   ·rename_i sz hs
    cases h0 : Nat.beq sz 0 with
    | true => rw [h0] at hr; cases hr
    | false =>
     rw [h0] at hr
     simp only [cond_false, forceN_eq] at hr
     cases hr
     have hne : sz ≠ 0 := fun e => by subst e; cases h0
     generalize hvx : a.eval x = vx at h1
     cases h1 with
     | @ptr _ _ _ ba C hn =>
     refine ⟨.pointer (some ⟨ba, o + y.offset, none⟩), ?_, .ptr hn⟩
     simp only [execOp, Instr.fieldAt, Instr.sureAddr, fieldPlace, Sem.run_bind, run_under hu, Result.andThen_ok, hy, hvx, Sem.run_pure, run_sizeOf hs, if_neg hne, add_off]
   ·cases hr
  ·cases hr
 ·cases h
theorem extract_ok {x : Operand} {i : Nat} (hT : TR ρ T a.tmps) (hG : Glob G ρ)
  (h : (match aeval G T x with | some v => orFlat P G T N ⟨dst, .extract x i, type, pos, after, guard⟩ (extractC v i) | none => .bad 144) = Rs.ok out) : OpOk P ⟨dst, .extract x i, type, pos, after, guard⟩ ρ N out a w := by
 split at h
 ·rename_i u hx
  have h1 := aeval_sound hT hG hx
  refine orFlat_ok hT hG h (fun _ h => (by cases h)) (fun _ _ h => (by cases h)) (fun r hr => ?_)
  unfold extractC at hr
  split at hr
  ·rename_i cs
   rw [nth_eq] at hr
   split at hr
   ·rename_i y hy
    cases hr
    obtain ⟨vs, hv, hvl⟩ := h1.tuple_inv
    obtain ⟨v, hvv, hvr⟩ := hvl.at hy
    refine ⟨v, ?_, hvr⟩
    have : (⟨vs⟩ : Array Value)[i]? = some v := by simpa using hvv
    simp only [execOp, Instr.extract, hv, this]
    rfl
   ·cases hr
  ·cases hr
 ·cases h
theorem makeInterface_ok {t : TypeId} {x : Operand} (hT : TR ρ T a.tmps) (hG : Glob G ρ)
  (h : (match aeval G T x with | some v => orFlat P G T N ⟨dst, .makeInterface t x, type, pos, after, guard⟩ (makeInterfaceC P t v) | none => .bad 117) = Rs.ok out) : OpOk P ⟨dst, .makeInterface t x, type, pos, after, guard⟩ ρ N out a w := by
 split at h
 ·rename_i u hx
  have h1 := aeval_sound hT hG hx
  refine orFlat_ok hT hG h (fun _ h => (by cases h)) (fun _ _ h => (by cases h)) (fun r hr => ?_)
  unfold makeInterfaceC at hr
  cases hp : plainType P t with
  | false => rw [hp] at hr; cases hr
  | true =>
   rw [hp] at hr
   cases hr
   refine ⟨.iface t (a.eval x), ?_, .iface h1⟩
   unfold plainType at hp
   cases hu : P.underlying t with
   | none => rw [hu] at hp; cases hp
   | some d =>
    rw [hu] at hp
    simp only [execOp, Instr.makeInterface, Sem.run_bind, run_under hu, Result.andThen_ok]
    cases d <;> first | rfl | cases hp
 ·cases h
theorem nilAhead_run {t : TypeId} {name : String} {f : FuncId} (h : methO P t name = some f) (v : Value) : (nilAhead (P.types.size + Made.depth) t v name).run P w = .ok (some false) w := by
 unfold methO at h
 split at h
 ·rename_i i hi
  split at h
  ·rename_i m hm
   split at h
   ·rename_i f' hf hp
    split at h
    ·cases h
    ·rename_i d hd hu
     cases h
     have hn : P.types.size + Made.depth = (P.types.size + (Made.depth - 1)) + 1 := rfl
     rw [hn]
     unfold nilAhead
     rw [Sem.run_bind, run_info hi, Result.andThen_ok, hm]
     simp only [hp, followBlind, Sem.run_bind, Sem.run_pure, Result.andThen_ok, hf, run_under hu]
     cases d <;> first | exact absurd rfl (hd _) | rfl
    ·cases h
   ·cases h
  ·cases h
 ·cases h
theorem nilCheck_ok {x : Operand} (hT : TR ρ T a.tmps) (hG : Glob G ρ)
  (h : (match aeval G T x with | some v => orFlat P G T N ⟨dst, .nilCheck x, type, pos, after, guard⟩ (nilCheckC P v) | none => .bad 115) = Rs.ok out) : OpOk P ⟨dst, .nilCheck x, type, pos, after, guard⟩ ρ N out a w := by
 split at h
 ·rename_i u hx
  have h1 := aeval_sound hT hG hx
  refine orFlat_ok hT hG h (fun _ h => (by cases h)) (fun _ _ h => (by cases h)) (fun r hr => ?_)
  unfold nilCheckC at hr
  refine ⟨a.eval x, ?_, ?_⟩
  ·generalize hvx : a.eval x = vx at h1
   split at hr
   ·cases h1; simp only [execOp, hvx]; rfl
   ·cases h1; simp only [execOp, hvx]; rfl
   ·cases h1; simp only [execOp, hvx]; rfl
   ·rename_i name t w0 fs xs
    split at hr
    ·rename_i f hm
     cases h1 with
     | @meth _ us vs xs ys e1 e2 e3 e4 =>
      obtain ⟨v1, vs', rfl, hv1, _⟩ := VL.cons_inv (⟨e1, e2⟩ : VL ρ _ vs)
      cases hv1 with
      | @iface _ _ v2 hv2 =>
       have e0 : (⟨.iface t v2 :: vs'⟩ : Array Value)[0]? = some (.iface t v2) := rfl
       simp [execOp, hvx, nilAhead_run hm]
    ·cases hr
   ·cases hr
  ·split at hr
   all_goals first | (cases hr; exact h1; done) | (cases hr; done) | (split at hr <;> first | (cases hr; exact h1; done) | (cases hr; done))
 ·cases h
theorem typeAssert_ok {x : Operand} {xt t : TypeId} {ok : Bool} (hT : TR ρ T a.tmps) (hG : Glob G ρ)
  (h : (match aeval G T x with | some v => orFlat P G T N ⟨dst, .typeAssert x xt t ok, type, pos, after, guard⟩ (typeAssertC P v t ok) | none => .bad 145) = Rs.ok out) : OpOk P ⟨dst, .typeAssert x xt t ok, type, pos, after, guard⟩ ρ N out a w := by
 split at h
 ·rename_i u hx
  have h1 := aeval_sound hT hG hx
  refine orFlat_ok hT hG h (fun _ h => (by cases h)) (fun _ _ h => (by cases h)) (fun r hr => ?_)
  unfold typeAssertC at hr
  split at hr
  ·rename_i ti y
   generalize hvx : a.eval x = vx at h1
   cases h1 with
   | @iface _ _ v' hv' =>
   have two : ∀ {u v : Value} {b : Bool}, VR ρ u v → VR ρ (.tuple ⟨[u, .bool b]⟩) (.tuple ⟨[v, .bool b]⟩) := fun {u v b} h => by
    have : VL ρ [u, .bool b] [v, .bool b] := .cons h (.cons (.bool _) (.nil ρ))
    exact .tuple this.1 this.2
   have hz : ∀ {z : Value}, zeroV P t = some z → ∀ w, (zeroValue t).run P w = .ok z w := fun {z} hz w => by
    unfold zeroV at hz
    split at hz
    ·rename_i i hi; simp [zeroValue, typeInfo, hi, hz]
    ·cases hz
   unfold assertO at hr
   cases hu : P.underlying t with
   | none => rw [hu] at hr; cases hr
   | some d =>
    rw [hu] at hr
    by_cases hd : ∃ ms, d = .interface ms
    ·obtain ⟨ms, rfl⟩ := hd
     simp only at hr
     cases hi : P.info? ti with
     | none => rw [hi] at hr; cases hr
     | some i =>
      rw [hi] at hr
      cases hm : Instr.missingMethod ms i.methods with
      | none =>
       simp only [hm] at hr
       cases hr
       refine ⟨if ok then .tuple #[.iface ti v', .bool true] else .iface ti v', ?_, ?_⟩
       ·simp only [execOp, Instr.typeAssert, hvx, Sem.run_bind, run_under hu, run_info hi, Result.andThen_ok, hm, Sem.run_pure]
       ·cases ok
        ·exact .iface hv'
        ·exact two (.iface hv')
      | some mm =>
       simp only [hm] at hr
       cases ok with
       | false => cases hr
       | true =>
        simp only [cond_true] at hr
        cases hzv : zeroV P t with
        | none => rw [hzv] at hr; cases hr
        | some z =>
         rw [hzv] at hr
         simp only at hr
         cases hfz : flat 4 z with
         | false => rw [hfz] at hr; cases hr
         | true =>
          rw [hfz] at hr; cases hr
          refine ⟨.tuple #[z, .bool false], ?_, two (flat_le 4 z hfz ρ)⟩
          simp only [execOp, Instr.typeAssert, hvx, Sem.run_bind, run_under hu, run_info hi, Result.andThen_ok, hm, Sem.run_pure, if_true, hz hzv]
    ·have hd' : ∀ ms, d ≠ .interface ms := fun ms e => hd ⟨ms, e⟩
     have hr' : (match cond (Nat.beq ti t) (some (some y)) (some none) with
      | some (some r) => Rs.ok (cond ok (Value.tuple ⟨[r, .bool true]⟩) r)
      | some none => cond ok (match zeroV P t with | some z => cond (flat 4 z) (.ok (Value.tuple ⟨[z, .bool false]⟩)) (.bad 125) | none => .bad 126) (.bad 127)
      | none => .bad 128) = .ok r := by
      cases d <;> first | exact hr | exact absurd rfl (hd' _)
     have hrun : (execOp a.eval ⟨dst, .typeAssert x xt t ok, type, pos, after, guard⟩).run P w = (if ti = t then Result.ok (.value (if ok then .tuple #[v', .bool true] else v')) w else
       ((if ok then (do pure (Value.tuple #[← zeroValue t, .bool false])) else runtimePanic (.typeAssertion (some xt) (some ti) t "") : Sem Value).run P w).andThen fun v w => .ok (.value v) w) := by
      simp only [execOp, Instr.typeAssert, hvx, Sem.run_bind, run_under hu, Result.andThen_ok]
      cases d <;> first | exact absurd rfl (hd' _) | skip
      all_goals
       by_cases e : ti = t
       ·simp only [e, if_true, Sem.run_pure, Result.andThen_ok]
       ·simp only [if_neg e]; rfl
     cases hb : Nat.beq ti t with
     | true =>
      rw [hb] at hr'
      cases hr'
      refine ⟨if ok then .tuple #[v', .bool true] else v', ?_, ?_⟩
      ·rw [hrun, if_pos (Nat.eq_of_beq_eq_true hb)]
      ·cases ok
       ·exact hv'
       ·exact two hv'
     | false =>
      rw [hb] at hr'
      have hne : ti ≠ t := fun e => by subst e; simp at hb
      cases ok with
      | false => cases hr'
      | true =>
       simp only [cond_false, cond_true] at hr'
       cases hzv : zeroV P t with
       | none => rw [hzv] at hr'; cases hr'
       | some z =>
        rw [hzv] at hr'
        simp only at hr'
        cases hfz : flat 4 z with
        | false => rw [hfz] at hr'; cases hr'
        | true =>
         rw [hfz] at hr'; cases hr'
         refine ⟨.tuple #[z, .bool false], ?_, two (flat_le 4 z hfz ρ)⟩
         rw [hrun, if_neg hne]
         simp [hz hzv]
  ·cases hr
 ·cases h
end
end Ev
end
section
namespace Ev
open Go Go.RowKit
section
variable {P : Program} {G : Nat} {ρ : Env} {T : PT Value} {H : HP} {N : Nat} {out : Out} {a : Act} {w : World} {dst : Option Tmp} {type : TypeId} {pos : String} {after : Array Edge} {guard : Option (Nat × Bool)}
theorem optO_sound {x : Option Operand} {u : Option Value} (hT : TR ρ T a.tmps) (hG : Glob G ρ) (h : optO G T x = some u) : (u = none ∧ x = none) ∨ ∃ y v, x = some y ∧ u = some v ∧ VR ρ v (a.eval y) := by
 unfold optO at h
 cases x with
 | none => cases h; exact .inl ⟨rfl, rfl⟩
 | some y =>
  simp only at h
  split at h
  ·rename_i v hv; cases h; exact .inr ⟨y, v, rfl, rfl, aeval_sound hT hG hv⟩
  ·cases h
theorem natO_int {u v : Value} {n : Nat} (h : natO u = some n) (hr : VR ρ u v) : ∃ k, v = .int k (n : Int) := by
 unfold natO at h
 split at h
 ·rename_i k m
  cases h
  cases hr
  exact ⟨k, rfl⟩
 ·cases h
theorem bound_sound {x : Option Operand} {u : Option Value} {dflt n : Nat} (hT : TR ρ T a.tmps) (hG : Glob G ρ) (h : optO G T x = some u) (hn : bndO u dflt = some n) :
  (x = none ∧ n = dflt ∧ u = none) ∨ ∃ y k, x = some y ∧ a.eval y = .int k (n : Int) ∧ ∃ v, u = some v := by
 rcases optO_sound hT hG h with ⟨rfl, rfl⟩ | ⟨y, v, rfl, rfl, hv⟩
 ·cases hn; exact .inl ⟨rfl, rfl, rfl⟩
 ·obtain ⟨k, hk⟩ := natO_int hn hv
  exact .inr ⟨y, k, rfl, hk, v, rfl⟩
theorem run_sliceBound {k : IntKind} {n y : Nat} (h : n ≤ y) (code : BoundsCode) (w : World) : (Instr.sliceBound (.int k (n : Int)) y code).run P w = .ok n w := by
 simp only [Instr.sliceBound, asIntOf, Sem.run_bind, Sem.run_pure, Result.andThen_ok]
 rw [if_pos ⟨by omega, by omega⟩]
 simp
theorem run_bounds {lo hi mx : Option Operand} {len cap l h m : Nat} {b : Bool}
  (hl : (lo = none ∧ l = 0) ∨ ∃ y k, lo = some y ∧ a.eval y = .int k (l : Int)) (hh : (hi = none ∧ h = len ∧ mx = none) ∨ ∃ y k, hi = some y ∧ a.eval y = .int k (h : Int))
  (hm : (mx = none ∧ m = cap) ∨ ∃ y k, mx = some y ∧ a.eval y = .int k (m : Int)) (h1 : l ≤ h) (h2 : h ≤ m) (h3 : m ≤ cap) (w : World) :
  (Instr.sliceBounds b len cap (lo.map a.eval) (hi.map a.eval) (mx.map a.eval)).run P w = .ok (l, h, m) w := by
 rcases hl with ⟨rfl, rfl⟩ | ⟨yl, kl, rfl, el⟩ <;> rcases hh with ⟨rfl, rfl, rfl⟩ | ⟨yh, kh, rfl, eh⟩ <;> rcases hm with ⟨em1, rfl⟩ | ⟨ym, km, em1, em⟩
 all_goals (first | (cases em1; done) | skip)
 all_goals (first | subst em1 | skip)
 all_goals simp only [Instr.sliceBounds, Option.map_some, Option.map_none, Sem.run_bind, Sem.run_pure, Result.andThen_ok, run_sliceBound h1, run_sliceBound h2, run_sliceBound h3, *]
theorem map_add (ba o n : Nat) (m l : Nat) : (if m = l then (some ⟨ba, o, none⟩ : Option Addr) else (some ⟨ba, o, none⟩ : Option Addr).map (·.add n)) = some ⟨ba, cond (Nat.beq m l) o (o + n), none⟩ := by
 by_cases h : m = l
 ·subst h; simp
 ·have : Nat.beq m l = false := by
   cases hb : Nat.beq m l with
   | false => rfl
   | true => exact absurd (Nat.eq_of_beq_eq_true hb) h
  rw [if_neg h, this]
  simp [add_off]
theorem slice_ok {t : TypeId} {x : Operand} {lo hi mx : Option Operand} (hT : TR ρ T a.tmps) (hG : Glob G ρ)
  (h : (match aeval G T x, optO G T lo, optO G T hi, optO G T mx with
  | some v, some l, some h, some m => cond (softB v) (softSliceC P N t v l h m) (orFlat P G T N ⟨dst, .slice t x lo hi mx, type, pos, after, guard⟩ (sliceC P t v l h m))
  | _, _, _, _ => .bad 107) = Rs.ok out) : OpOk P ⟨dst, .slice t x lo hi mx, type, pos, after, guard⟩ ρ N out a w := by
 split at h
 ·rename_i u ul uh um hx hlo hhi hmx
  have h1 := aeval_sound hT hG hx
  cases hsoft : softB u with
  | true =>
   rw [hsoft] at h
   simp only [cond_true] at h
   unfold softSliceC at h
   split at h
   ·rename_i e sz b o q len cap hso
    obtain ⟨hu, hs⟩ := sliceO_spec hso
    obtain ⟨bs, c', hax, _, hbase⟩ := h1.slice rfl
    obtain ⟨ba, C, rfl, hn, _, hq⟩ := hbase b o (some q) rfl
    obtain ⟨_, hlc, hC⟩ := hq q rfl
    split at h
    ·rename_i l hh hl1 hh1
     cases hb : (Nat.ble l hh && Nat.ble hh len) with
     | false => rw [hb] at h; cases h
     | true =>
      rw [hb] at h
      simp only [cond_true] at h
      rw [Bool.and_eq_true] at hb
      have hle1 := Nat.le_of_ble_eq_true hb.1
      have hle2 := Nat.le_of_ble_eq_true hb.2
      have bl := bound_sound hT hG hlo hl1
      have bh := bound_sound hT hG hhi hh1
      have bl' : (lo = none ∧ l = 0) ∨ ∃ y k, lo = some y ∧ a.eval y = .int k (l : Int) := by
       rcases bl with ⟨e1, e2, _⟩ | ⟨y, k, e1, e2, _⟩
       ·exact .inl ⟨e1, e2⟩
       ·exact .inr ⟨y, k, e1, e2⟩
      split at h
      ·rcases optO_sound hT hG hmx with ⟨_, rfl⟩ | ⟨y, v, _, e, _⟩
       ·cases hc : (Nat.beq l 0 || (Nat.blt l len && Nat.blt 0 sz)) with
        | false => rw [hc] at h; cases h
        | true =>
         rw [hc] at h
         simp only [cond_true, forceN_eq] at h
         rw [Bool.or_eq_true, Bool.and_eq_true] at hc
         have hc' : l = 0 ∨ (l < len ∧ 0 < sz) := hc.imp Nat.eq_of_beq_eq_true (fun h => ⟨blt_spec h.1, blt_spec h.2⟩)
         have bh' : (hi = none ∧ hh = len ∧ (none : Option Operand) = none) ∨ ∃ y k, hi = some y ∧ a.eval y = .int k (hh : Int) := by
          rcases bh with ⟨e1, e2, _⟩ | ⟨y, k, e1, e2, _⟩
          ·exact .inl ⟨e1, e2, rfl⟩
          ·exact .inr ⟨y, k, e1, e2⟩
         have hrb := run_bounds (P := P) (b := true) (len := len) (cap := c') (m := c') bl' bh' (.inl ⟨rfl, rfl⟩) hle1 (by omega) (Nat.le_refl _) w
         cases h
         refine pure_ok rfl (v := .slice (some ⟨ba, o + l * sz, none⟩) (hh - l) (c' - l)) ?_ ?_ (fun _ h => (by cases h))
         ·simp only [execOp, Instr.sliceAt, Sem.run_bind, run_under hu, Result.andThen_ok, Instr.slice, hax]
          have hrb' : (Instr.sliceBounds true len c' (lo.map a.eval) (hi.map a.eval) ((none : Option Operand).map a.eval)).run P w = .ok (l, hh, c') w := hrb
          rw [hrb']
          simp only [Result.andThen_ok, run_sizeOf hs, Sem.run_pure, map_add]
          have : cond (Nat.beq c' l) o (o + l * sz) = o + l * sz := by
           cases hbq : Nat.beq c' l with
           | false => rfl
           | true =>
            have := Nat.eq_of_beq_eq_true hbq
            rcases hc' with rfl | hc
            ·simp
            ·omega
          rw [this]
         ·refine .soft hn rfl (show hh - l ≤ c' - l by omega) (fun ho => ?_)
          have ho : o + l * sz = 0 := ho
          rcases hc' with rfl | ⟨h3, h4⟩
          ·have := hC (by omega); omega
          ·have hz : l * sz = 0 := by omega
           rcases Nat.mul_eq_zero.1 hz with e | e
           ·subst e; have := hC (by omega); omega
           ·omega
       ·cases e
      ·rename_i vm
       split at h
       ·rename_i m hm
        cases hc : (Nat.ble hh m && Nat.ble m len && uh.isSome) with
        | false => rw [hc] at h; cases h
        | true =>
         rw [hc] at h
         simp only [cond_true, forceN_eq] at h
         cases h
         simp only [Bool.and_eq_true] at hc
         obtain ⟨⟨hc1, hc2⟩, hc3⟩ := hc
         have hle3 := Nat.le_of_ble_eq_true hc1
         have hle4 := Nat.le_of_ble_eq_true hc2
         rcases optO_sound hT hG hmx with ⟨e, _⟩ | ⟨y, v, rfl, e, hv⟩
         ·cases e
         ·cases e
          obtain ⟨k, hk⟩ := natO_int hm hv
          rcases bh with ⟨e1, e2, e3⟩ | ⟨y2, k2, e1, e2, _⟩
          ·subst e3; cases hc3
          ·have hrb := run_bounds (P := P) (b := true) (len := len) (cap := c') bl' (.inr ⟨y2, k2, e1, e2⟩) (.inr ⟨y, k, rfl, hk⟩) hle1 hle3 (by omega) w
           refine pure_ok rfl (v := .slice (some ⟨ba, cond (Nat.beq m l) o (o + l * sz), none⟩) (hh - l) (m - l)) ?_ (.sl hn) (fun _ h => (by cases h))
           simp only [execOp, Instr.sliceAt, Sem.run_bind, run_under hu, Result.andThen_ok, Instr.slice, hax]
           rw [hrb]
           simp only [Result.andThen_ok, run_sizeOf hs, Sem.run_pure, map_add]
       ·cases h
    ·cases h
   ·cases h
  | false =>
   rw [hsoft] at h
   simp only [cond_false] at h
   refine orFlat_ok hT hG h (fun _ h => (by cases h)) (fun _ _ h => (by cases h)) (fun r hr => ?_)
   have three : ∀ (dl c : Nat) (l hh m : Nat), bndO ul 0 = some l → bndO uh dl = some hh → bndO um c = some m →
     (Nat.ble l hh && Nat.ble hh m && Nat.ble m c && (uh.isSome || um.isNone)) = true → ∀ (b : Bool) (w : World), (Instr.sliceBounds b dl c (lo.map a.eval) (hi.map a.eval) (mx.map a.eval)).run P w = .ok (l, hh, m) w := fun dl c l hh m hl hh' hm hc b w => by
    simp only [Bool.and_eq_true, Bool.or_eq_true] at hc
    obtain ⟨⟨⟨c1, c2⟩, c3⟩, c4⟩ := hc
    refine run_bounds ?_ ?_ ?_ (Nat.le_of_ble_eq_true c1) (Nat.le_of_ble_eq_true c2) (Nat.le_of_ble_eq_true c3) w
    ·rcases bound_sound hT hG hlo hl with ⟨e1, e2, _⟩ | ⟨y, k, e1, e2, _⟩
     ·exact .inl ⟨e1, e2⟩
     ·exact .inr ⟨y, k, e1, e2⟩
    ·rcases bound_sound hT hG hhi hh' with ⟨e1, e2, e3⟩ | ⟨y, k, e1, e2, _⟩
     ·subst e3
      rcases c4 with c4 | c4
      ·cases c4
      ·rcases optO_sound hT hG hmx with ⟨_, e⟩ | ⟨y, v, _, e, _⟩
       ·exact .inl ⟨e1, e2, e⟩
       ·subst e; cases c4
     ·exact .inr ⟨y, k, e1, e2⟩
    ·rcases bound_sound hT hG hmx hm with ⟨e1, e2, _⟩ | ⟨y, k, e1, e2, _⟩
     ·exact .inl ⟨e1, e2⟩
     ·exact .inr ⟨y, k, e1, e2⟩
   unfold sliceC at hr
   split at hr
   ·rename_i b o len cap
    split at hr
    ·rename_i e sz hso
     obtain ⟨hu, hs⟩ := sliceO_spec hso
     obtain ⟨bs, c', hax, _, hbase⟩ := h1.slice rfl
     obtain ⟨ba, C, rfl, hn, hcap, _⟩ := hbase b o none rfl
     obtain rfl := hcap rfl
     split at hr
     ·rename_i l hh m hl1 hh1 hm1
      cases hc : (Nat.ble l hh && Nat.ble hh m && Nat.ble m c' && (uh.isSome || um.isNone)) with
      | false => rw [hc] at hr; cases hr
      | true =>
       rw [hc] at hr
       simp only [cond_true, forceN_eq] at hr
       cases hr
       refine ⟨.slice (some ⟨ba, cond (Nat.beq m l) o (o + l * sz), none⟩) (hh - l) (m - l), ?_, .sl hn⟩
       simp only [execOp, Instr.sliceAt, Sem.run_bind, run_under hu, Result.andThen_ok, Instr.slice, hax]
       rw [three len c' l hh m hl1 hh1 hm1 hc]
       simp only [Result.andThen_ok, run_sizeOf hs, Sem.run_pure, map_add]
     ·cases hr
    ·cases hr
   ·rename_i b o q
    split at hr
    ·rename_i e sz n hao
     obtain ⟨hu, hs⟩ := arrayO_spec hao
     generalize hvx : a.eval x = vx at h1
     cases h1 with
     | @ptr _ _ _ ba C hn =>
     split at hr
     ·rename_i l hh m hl1 hh1 hm1
      cases hc : (Nat.ble l hh && Nat.ble hh m && Nat.ble m n && (uh.isSome || um.isNone)) with
      | false => rw [hc] at hr; cases hr
      | true =>
       rw [hc] at hr
       simp only [cond_true, forceN_eq] at hr
       cases hr
       refine ⟨.slice (some ⟨ba, cond (Nat.beq m l) o (o + l * sz), none⟩) (hh - l) (m - l), ?_, .sl hn⟩
       have hadd : (if m = l then (⟨ba, o, none⟩ : Addr) else (⟨ba, o, none⟩ : Addr).add (l * sz)) = ⟨ba, cond (Nat.beq m l) o (o + l * sz), none⟩ := by
        have := map_add ba o (l * sz) m l
        by_cases e : m = l
        ·rw [if_pos e] at this ⊢; exact Option.some.inj this
        ·rw [if_neg e] at this ⊢; exact Option.some.inj this
       simp only [execOp, Instr.sliceAt, Sem.run_bind, run_under hu, Result.andThen_ok, hvx, Instr.sureAddr, Sem.run_pure]
       rw [three n n l hh m hl1 hh1 hm1 hc]
       simp only [Result.andThen_ok, run_sizeOf hs, hadd]
     ·cases hr
    ·cases hr
   ·cases hr
 ·cases h
end
end Ev
end
section
namespace Ev
open Go Go.RowKit
theorem run_mapM_list {P : Program} {α β : Type} (f : α → Sem β) (g : α → β) : ∀ (l : List α), (∀ x ∈ l, ∀ w, (f x).run P w = .ok (g x) w) → ∀ w, (l.mapM f).run P w = .ok (l.map g) w
 | [], _, w => rfl
 | x :: l, h, w => by
  rw [List.mapM_cons, Sem.run_bind, h x List.mem_cons_self, Result.andThen_ok, Sem.run_bind, run_mapM_list f g l (fun y hy => h y (List.mem_cons_of_mem _ hy)), Result.andThen_ok]
  rfl
theorem run_mapM {P : Program} {α β : Type} (f : α → Sem β) (g : α → β) (a : Array α) (h : ∀ x ∈ a.toList, ∀ w, (f x).run P w = .ok (g x) w) (w : World) : (a.mapM f).run P w = .ok (a.map g) w := by
 rw [Array.mapM_eq_mapM_toList, Sem.run_map, run_mapM_list f g _ h, Result.andThen_ok]
 congr 1
 apply Array.ext'
 simp
section
variable {P : Program} {G : Nat} {ρ : Env} {T : PT Value} {H : HP} {N : Nat} {out : Out} {a : Act} {w : World} {dst : Option Tmp} {type : TypeId} {pos : String} {after : Array Edge} {guard : Option (Nat × Bool)}
theorem build_ok {t : TypeId} {parts : Array (Nat × Operand)} (hT : TR ρ T a.tmps) (hG : Glob G ρ)
  (h : vals G T (parts.toList.map (·.2)) (fun vs => orFlat P G T N ⟨dst, .build t parts, type, pos, after, guard⟩ (buildC P t (List.zip (parts.toList.map (·.1)) vs))) = Rs.ok out) : OpOk P ⟨dst, .build t parts, type, pos, after, guard⟩ ρ N out a w := by
 obtain ⟨us, h1, hv, _⟩ := vals_sound hT hG _ _ _ h
 refine orFlat_ok hT hG h1 (fun _ h => (by cases h)) (fun _ _ h => (by cases h)) (fun r hr => ?_)
 have hpl : (parts.map fun (x : Nat × Operand) => match x with | (i, x) => (i, a.eval x)).toList = (parts.toList.map (·.1)).zip ((parts.toList.map (·.2)).map a.eval) := by
  rw [zip_map]; simp
 unfold buildC at hr
 split at hr
 ·cases hr
 ·rename_i z hz
  obtain ⟨zv, hz1, hfl, hz2⟩ := run_zero hz
  have hzv : zv.cells = ⟨z⟩ := Array.ext' hz1
  split at hr
  ·rename_i fs hu
   cases hall : (fs.toList.all fun f => (sizeO P f.type).isSome) with
   | false => rw [hall] at hr; cases hr
   | true =>
    rw [hall] at hr
    simp only [cond_true] at hr
    split at hr
    ·rename_i cs hfill
     cases hr
     obtain ⟨r', hf2, hv2⟩ := fill_sound (ρ := ρ) _ _ _ _ ⟨z⟩ _ hv (hfl ρ) hfill
     refine ⟨.agg r', ?_, .agg hv2.1 hv2.2⟩
     have hplaces := run_mapM (P := P) (fun f : Field => do pure (f.offset, ← sizeOf f.type) : Field → Sem (Nat × Nat)) (fun f => (f.offset, (sizeO P f.type).getD 0)) fs (fun x hx w => by
      have := List.all_eq_true.1 hall x hx
      obtain ⟨s, hs⟩ := Option.isSome_iff_exists.1 this
      simp [run_sizeOf hs, hs]) w
     have hplace : ∀ i : Nat, (fs.map (fun f => (f.offset, (sizeO P f.type).getD 0)))[i]? = placeO P fs.toList i := fun i => by
      unfold placeO
      rw [Array.getElem?_map, ← Array.getElem?_toList]
      cases fs.toList[i]? <;> rfl
     simp only [execOp, Instr.build, Sem.run_bind, hz2, run_under hu, Result.andThen_ok, hplaces, hpl, hzv]
     rw [show (fun x => (fs.map (fun f : Field => (f.offset, (sizeO P f.type).getD 0)))[x]?) = placeO P fs.toList from funext hplace, hf2]
     rfl
    ·cases hr
  ·rename_i n e hu
   split at hr
   ·rename_i sz hs
    split at hr
    ·rename_i cs hfill
     cases hr
     obtain ⟨r', hf2, hv2⟩ := fill_sound (ρ := ρ) _ _ _ _ ⟨z⟩ _ hv (hfl ρ) hfill
     refine ⟨.agg r', ?_, .agg hv2.1 hv2.2⟩
     simp only [execOp, Instr.build, Sem.run_bind, hz2, run_under hu, Result.andThen_ok, run_sizeOf hs, hpl, hzv, hf2]
     rfl
    ·cases hr
   ·cases hr
  ·cases hr
theorem move_ok {o : Oper} {x : Operand} (ho : o.op = .move x ∨ o.op = .assign x) (hT : TR ρ T a.tmps) (hG : Glob G ρ) (h : (match aeval G T x with | some v => Rs.ok (.v v [] N) | none => .bad 101) = Rs.ok out) : OpOk P o ρ N out a w := by
 split at h
 ·rename_i u hx
  cases h
  obtain ⟨dst, op, type, pos, after, guard⟩ := o
  rcases ho with ho | ho <;> simp only at ho <;> subst ho
  ·exact pure_ok rfl rfl (aeval_sound hT hG hx) (fun _ h => (by cases h))
  ·exact pure_ok rfl rfl (aeval_sound hT hG hx) (fun _ h => (by cases h))
 ·cases h
theorem pick_ok {c x y : Operand} (hT : TR ρ T a.tmps) (hG : Glob G ρ)
  (h : (match aeval G T c, aeval G T x, aeval G T y with | some (.bool b), some u, some v => Rs.ok (.v (cond b u v) [] N) | _, _, _ => .bad 114) = Rs.ok out) : OpOk P ⟨dst, .pick c x y, type, pos, after, guard⟩ ρ N out a w := by
 split at h
 ·rename_i b u v hc hx hy
  cases h
  have hr := aeval_sound hT hG hc
  generalize hvc : a.eval c = vc at hr
  cases hr
  refine pure_ok rfl (v := if b then a.eval x else a.eval y) ?_ ?_ (fun _ h => (by cases h))
  ·simp only [execOp, hvc, asBool, Sem.run_bind, Sem.run_pure, Result.andThen_ok]
  ·cases b
   ·exact aeval_sound hT hG hy
   ·exact aeval_sound hT hG hx
 ·cases h
theorem makeFunc_ok {f : FuncId} {first captured : Array Operand} (hT : TR ρ T a.tmps) (hG : Glob G ρ)
  (h : vals G T first.toList (fun x => vals G T captured.toList fun y => Rs.ok (.v (.func (.func f) ⟨x⟩ ⟨y⟩) [] N)) = Rs.ok out) : OpOk P ⟨dst, .makeFunc (.func f) first captured, type, pos, after, guard⟩ ρ N out a w := by
 obtain ⟨us, h1, hv, _⟩ := vals_sound hT hG _ _ _ h
 obtain ⟨xs, h2, hx, _⟩ := vals_sound hT hG _ _ _ h1
 cases h2
 refine pure_ok rfl (v := .func (.func f) ⟨first.toList.map a.eval⟩ ⟨captured.toList.map a.eval⟩) ?_ (.func hv.1 hv.2 hx.1 hx.2) (fun _ h => (by cases h))
 have e : ∀ (l : Array Operand), l.map a.eval = ⟨l.toList.map a.eval⟩ := fun l => Array.ext' (by simp)
 simp only [execOp, Instr.makeFunc, e]
 rfl
theorem makeMeth_ok {f : String} {first captured : Array Operand} (hT : TR ρ T a.tmps) (hG : Glob G ρ)
  (h : vals G T first.toList (fun x => vals G T captured.toList fun y => Rs.ok (.v (.func (.method f) ⟨x⟩ ⟨y⟩) [] N)) = Rs.ok out) : OpOk P ⟨dst, .makeFunc (.method f) first captured, type, pos, after, guard⟩ ρ N out a w := by
 obtain ⟨us, h1, hv, _⟩ := vals_sound hT hG _ _ _ h
 obtain ⟨xs, h2, hx, _⟩ := vals_sound hT hG _ _ _ h1
 cases h2
 refine pure_ok rfl (v := .func (.method f) ⟨first.toList.map a.eval⟩ ⟨captured.toList.map a.eval⟩) ?_ (.meth hv.1 hv.2 hx.1 hx.2) (fun _ h => (by cases h))
 have e : ∀ (l : Array Operand), l.map a.eval = ⟨l.toList.map a.eval⟩ := fun l => Array.ext' (by simp)
 simp only [execOp, Instr.makeFunc, e]
 rfl
theorem lenV_spec {u : Value} {n : Nat} (h : lenV u = some n) : ∃ b c, u = .slice (some b) n c := by
 unfold lenV at h
 split at h
 ·cases h; exact ⟨_, _, rfl⟩
 ·cases h
theorem capV_spec {u : Value} {n : Nat} (h : capV u = some n) : ∃ b o l, u = .slice (some ⟨b, o, none⟩) l n := by
 unfold capV at h
 split at h
 ·cases h; exact ⟨_, _, _, rfl⟩
 ·cases h
theorem mapO_spec {t : TypeId} {d : TypeDesc} {e : TypeId} (h : mapO' P t = some (d, e)) : ∃ k, P.underlying t = some (.map k e) ∧ P.underlying k = some d ∧ ∃ j, d = .int j := by
 unfold mapO' at h
 split at h
 ·rename_i k e' hu
  split at h
  ·rename_i j hk; cases h; exact ⟨k, hu, hk, ⟨j, rfl⟩⟩
  ·cases h
 ·cases h
theorem mapAt_sound {u v : Value} {l : List (Value × Value)} (hS : Sat P ρ H w) (hr : VR ρ u v) (h : mapAt H u = some l) :
  (v = .map none ∧ l = []) ∨ ∃ n r C es clock, u = .map (some n) ∧ v = .map (some r) ∧ ρ n = some (r, C) ∧ H.get n = some (.map l) ∧ w.heap[r]? = some (.map es clock) ∧ VL ρ (l.map (·.1)) (es.toList.map (·.key)) ∧ VL ρ (l.map (·.2)) (es.toList.map (·.val)) := by
 unfold mapAt at h
 split at h
 ·cases h; cases hr; exact .inl ⟨rfl, rfl⟩
 ·rename_i n
  cases hr with
  | @map _ r C hn =>
  split at h
  ·rename_i l' hg
   cases h
   obtain ⟨r', C', h1, es, clock, h2, h3, h4⟩ := hS.blk n _ hg
   rw [hn] at h1; cases h1
   exact .inr ⟨n, r, C, es, clock, rfl, rfl, hn, hg, h2, h3, h4⟩
  ·cases h
 ·cases h
theorem run_getMap {r : Nat} {es : Array MapEntry} {clock : Nat} (h : w.heap[r]? = some (.map es clock)) : (getObj r).run P w = .ok (.map es clock) w := by
 simp only [getObj, Sem.run, h]
theorem run_checkKeyN {b : Bool} {k : TypeId} {d : TypeDesc} {v : Value} (n : Nat) (hk : P.underlying k = some d) (hd : ∃ j, d = .int j) : (Instr.checkKey b (n + 1) k v).run P w = .ok () w := by
 simp only [Instr.checkKey, Sem.run_bind, run_under hk, Result.andThen_ok]
 obtain ⟨j, rfl⟩ := hd
 cases v <;> rfl
theorem run_checkKey {b : Bool} {k : TypeId} {d : TypeDesc} {v : Value} (hk : P.underlying k = some d) (hd : ∃ j, d = .int j) : (Instr.checkKey b 10000 k v).run P w = .ok () w := run_checkKeyN 9999 hk hd
theorem sameNow_flat {d : TypeDesc} {x y x' y' : Value} {b : Bool} (h : Instr.sameNow d x y = some b) (h1 : VR ρ x x') (h2 : VR ρ y y') : Instr.sameNow d x' y' = some b := by
 unfold Instr.sameNow at h
 split at h
 ·cases h1; cases h2; exact h
 ·cases h1; cases h2; exact h
 ·cases h1; cases h2; exact h
 ·cases h
theorem mfind_sound {d : TypeDesc} {k k' : Value} (hk : VR ρ k k') : ∀ (l : List (Value × Value)) (es : List MapEntry) (i : Nat) (r : Option (Nat × Value)), VL ρ (l.map (·.1)) (es.map (·.key)) → VL ρ (l.map (·.2)) (es.map (·.val)) → mfind d k l i = some r →
  (r = none ∧ Instr.findNow d k' es i = some none) ∨ ∃ j u v, r = some (j, u) ∧ Instr.findNow d k' es i = some (some (j, v)) ∧ VR ρ u v
 | [], es, i, r, h1, _, h => by
  obtain rfl : es = [] := by cases es with | nil => rfl | cons e es => have := h1.1; simp at this
  cases h; exact .inl ⟨rfl, rfl⟩
 | p :: l, [], i, r, h1, _, h => by have := h1.1; simp at this
 | p :: l, e :: es, i, r, h1, h2, h => by
  have h' : (match Instr.sameNow d k p.1 with | some true => some (some (i, p.2)) | some false => mfind d k l (i + 1) | none => none) = some r := h
  simp only [List.map_cons] at h1 h2
  cases hs : Instr.sameNow d k p.1 with
  | none => rw [hs] at h'; cases h'
  | some b =>
   rw [hs] at h'
   have hs' := sameNow_flat hs hk h1.head.1
   cases b with
   | true =>
    cases h'
    exact .inr ⟨i, p.2, e.val, rfl, by simp [Instr.findNow, hs'], h2.head.1⟩
   | false =>
    rcases mfind_sound hk l es (i + 1) r h1.head.2 h2.head.2 h' with ⟨e1, e2⟩ | ⟨j, u, v, e1, e2, e3⟩
    ·exact .inl ⟨e1, by simp [Instr.findNow, hs', e2]⟩
    ·exact .inr ⟨j, u, v, e1, by simp [Instr.findNow, hs', e2], e3⟩
theorem run_findKey {k : TypeId} {d : TypeDesc} {v : Value} {es : List MapEntry} {r : Option (Nat × Value)} (hk : P.underlying k = some d) (h : Instr.findNow d v es 0 = some r) : (Instr.findKey k v es).run P w = .ok r w := by
 simp only [Instr.findKey, Sem.run_bind, run_under hk, Result.andThen_ok, h]
 rfl
end
end Ev
end
end Go.Proofs.YtcjgilagldbjnaaGreatDoor
