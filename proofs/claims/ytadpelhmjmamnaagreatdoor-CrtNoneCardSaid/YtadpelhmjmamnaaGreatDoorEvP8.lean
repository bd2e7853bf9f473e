/- The reckoner: append. No conditions. -/
import Derived.Test.YtadpelhmjmamnaaGreatDoorEvP7
namespace Go.Proofs.YtadpelhmjmamnaaGreatDoor.Ev
open Go Go.RowKit

theorem growBy_le (n : Nat) : ∀ (r c : Nat), Builtin.growBy n r c ≤ max c (n + (n + 768) / 4)
  | 0, c => by simp only [Builtin.growBy]; omega
  | r + 1, c => by
    simp only [Builtin.growBy]
    split
    · omega
    · have := growBy_le n r (c + (c + 768) / 4)
      omega
theorem next_le {need sc : Nat} (h : sc < need) (hn : need ≤ 65536) : Builtin.nextslicecap need sc ≤ 131072 := by
  unfold Builtin.nextslicecap
  split
  · omega
  · split
    · omega
    · have := growBy_le need 4 sc
      omega
theorem notInt_spec {P : Program} {t : TypeId} (h : notInt P t = true) : ∃ d, P.underlying t = some d ∧ ∀ k, d ≠ .int k := by
  unfold notInt at h
  cases hu : P.underlying t with
  | none => rw [hu] at h; cases h
  | some d => rw [hu] at h; exact ⟨d, rfl, fun k e => by subst e; cases h⟩
theorem zeroCells_length (z : Array Value) (n : Nat) : (Builtin.zeroCells z n).size = n * z.size := by simp [Builtin.zeroCells]

theorem bind_ok {P : Program} {α β : Type} {s : Sem α} {f : α → Sem β} {w w' : World} {a : α} (h : s.run P w = .ok a w') : (s >>= f).run P w = (f a).run P w' := by rw [Sem.run_bind, h]; rfl
section ops
variable {P : Program} {G : Nat} {ρ : Env} {T : PT Value} {H : HP} {N : Nat} {out : Out} {a : Act} {w : World} {dst : Option Tmp} {type : TypeId} {pos : String} {after : Array Edge} {guard : Option (Nat × Bool)}
/-- append, by whether there is room. -/
theorem run_append {st xt e : TypeId} {sz by_ n sl sc : Nat} {z : List Value} {bs : Option Addr} {v : Value} (hrow : rowO P st = some (e, sz, by_, z)) (hx : notInt P xt = true) (hlen : ∀ w : World, (Builtin.lenOf v).run P w = .ok n w)
    (hby : by_ ≤ 65536) (hneed : sl + n ≤ 65536) (zv : Value) (hz2 : ∀ w, (zeroValue e).run P w = .ok zv w) :
    (Builtin.append_ #[st, xt] type #[.slice bs sl sc, v]).run P w = if sl + n ≤ sc then
      ((Builtin.firstCells sz n v).run P w).andThen (fun new w => (match bs with | some a => (storeCells (a.add (sl * sz)) new.toList).run P w | none => .ok () w).andThen fun _ w => .ok (.slice bs (sl + n) sc) w)
    else ((Builtin.firstCells sz sl (.slice bs sl sc)).run P { w with drawn := w.drawn + 1 }).andThen (fun old w2 => ((Builtin.firstCells sz n v).run P w2).andThen fun new w2 =>
      .ok (.slice (some ⟨w2.heap.size, 0, none⟩) (sl + n) (sl + n + (w.tape w.drawn (.appendCap (sl + n) sc e)) % (2 ^ 63 - (sl + n)))) { w2 with heap := w2.heap.push (.cells (old ++ new ++ Builtin.zeroCells zv.cells (sl + n + (w.tape w.drawn (.appendCap (sl + n) sc e)) % (2 ^ 63 - (sl + n)) - (sl + n))) e (0, 0)) }) := by
  obtain ⟨hu, hs, hl, hsz, hz, i, hi, rfl⟩ := rowO_spec hrow
  obtain ⟨d, hd, hdi⟩ := notInt_spec hx
  have run_under : ∀ {t : TypeId} {d : TypeDesc}, P.underlying t = some d → ∀ w : World, (underlying t).run P w = .ok d w := fun h w => by simp [underlying, h]
  have run_info : ∀ {t : TypeId} {i : TypeInfo}, P.info? t = some i → ∀ w : World, (typeInfo t).run P w = .ok i w := fun h w => by simp [typeInfo, h]
  unfold Builtin.append_
  simp only [List.getElem?_toArray, List.getElem?_cons_zero, List.getElem?_cons_succ]
  refine (bind_ok (run_under hu w)).trans ?_
  simp only []
  refine (bind_ok (run_sizeOf hs w)).trans ?_
  refine (bind_ok (run_under hd w)).trans ?_
  refine (bind_ok (a := false) (w' := w) ?_).trans ?_
  · cases d <;> first | rfl | exact absurd rfl (hdi _)
  simp only [Bool.false_eq_true, if_false]
  refine (bind_ok (hlen w)).trans ?_
  by_cases hr : sl + n ≤ sc
  · rw [if_pos hr]
    rw [if_pos hr]
    cases bs with
    | none => simp
    | some a => simp
  · rw [if_neg hr]
    have hlt : sc < sl + n := by omega
    have g1 : ¬ (((sl + n : Nat) : Int) > IntKind.i64.max) := by
      have : IntKind.i64.max = 9223372036854775807 := by decide
      omega
    have g2 : ¬ (Builtin.nextslicecap (sl + n) sc * i.bytes > 2 ^ 48) := by
      have h1 := next_le hlt hneed
      have : Builtin.nextslicecap (sl + n) sc * i.bytes ≤ 131072 * 65536 := Nat.mul_le_mul h1 hby
      omega
    rw [if_neg hr]
    refine (bind_ok (run_info hi w)).trans ?_
    rw [if_neg (fun h => g1 h.1)]
    refine (bind_ok (run_info hi w)).trans ?_
    rw [if_neg g2]
    refine (bind_ok (a := (Question.appendCap (sl + n) sc e).cut (w.tape w.drawn (.appendCap (sl + n) sc e))) (w' := { w with drawn := w.drawn + 1 }) (by rw [run_choose]; rfl)).trans ?_
    refine (bind_ok (run_info hi _)).trans ?_
    refine (bind_ok (run_askRoom P _ _)).trans ?_
    simp only [Bool.not_false, if_true, Sem.run_bind, hz2, newRow, run_newObj, Sem.run_pure, Result.andThen_ok]
    rfl
end ops
end Go.Proofs.YtadpelhmjmamnaaGreatDoor.Ev
