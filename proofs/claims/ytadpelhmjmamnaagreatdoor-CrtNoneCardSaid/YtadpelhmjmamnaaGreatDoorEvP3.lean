/- The reckoner's lists, loads and stores. No conditions. -/
import Derived.Test.YtadpelhmjmamnaaGreatDoorEvP2
import Derived.Laws.Cells
import Derived.Laws.CopyRow
namespace Go.Proofs.YtadpelhmjmamnaaGreatDoor.Ev
open Go Go.RowKit

section lists
variable {α β : Type}
theorem nth_eq : ∀ (l : List α) (i : Nat), nth l i = l[i]?
  | [], _ => rfl
  | x :: l, 0 => rfl
  | x :: l, i + 1 => (nth_eq l i).trans (by simp)
theorem dropN_eq : ∀ (l : List α) (i : Nat), dropN l i = l.drop i
  | [], i => by simp; rfl
  | x :: l, 0 => rfl
  | x :: l, i + 1 => (dropN_eq l i).trans (by simp)
theorem takeK_eq : ∀ (l : List α) (n : Nat) (k : List α → β) (e : β), takeK l n k e = if n ≤ l.length then k (l.take n) else e
  | [], 0, k, e => by simp; rfl
  | [], n + 1, k, e => by simp; rfl
  | x :: l, 0, k, e => by simp; rfl
  | x :: l, n + 1, k, e => by
    show takeK l n (fun l' => k (x :: l')) e = _
    rw [takeK_eq l n]
    simp
theorem layK_eq : ∀ (vs l : List α) (k : List α → β) (e : β), layK vs l k e = if vs.length ≤ l.length then k (vs ++ l.drop vs.length) else e
  | [], l, k, e => by simp; rfl
  | v :: vs, [], k, e => by simp; rfl
  | v :: vs, x :: l, k, e => by
    show layK vs l (fun l' => k (v :: l')) e = _
    rw [layK_eq vs l]
    simp
theorem spliceK_eq : ∀ (l : List α) (i : Nat) (vs : List α) (k : List α → β) (e : β), spliceK l i vs k e = if i + vs.length ≤ l.length then k (l.take i ++ vs ++ l.drop (i + vs.length)) else e
  | [], 0, vs, k, e => by show layK vs [] k e = _; rw [layK_eq]; simp
  | [], i + 1, vs, k, e => by show e = _; simp
  | x :: l, 0, vs, k, e => by show layK vs (x :: l) k e = _; rw [layK_eq]; simp
  | x :: l, i + 1, vs, k, e => by
    show spliceK l i vs (fun l' => k (x :: l')) e = _
    rw [spliceK_eq l i]
    have : i + 1 + vs.length = (i + vs.length) + 1 := by omega
    rw [this]
    simp
theorem appK_eq : ∀ (a b : List α) (k : List α → β), appK a b k = k (a ++ b)
  | [], b, k => rfl
  | x :: a, b, k => by show appK a b (fun l => k (x :: l)) = _; rw [appK_eq a b]; rfl
theorem repl_eq : ∀ (n : Nat) (z : List α), repl n z = (List.replicate n z).flatten
  | 0, z => rfl
  | n + 1, z => by show z ++ repl n z = _; rw [repl_eq n z]; simp [List.replicate_succ]
end lists

theorem cell_of {w : World} {a : Nat} {cs : List Value} {e : TypeId} {f : Nat × Nat} (h : w.heap[a]? = some (.cells ⟨cs⟩ e f)) (i : Nat) : w.cell? ⟨a, i, none⟩ = cs[i]? := by
  simp only [World.cell?, h]
  simp
theorem add_off (a o j : Nat) : (⟨a, o, none⟩ : Addr).add j = ⟨a, o + j, none⟩ := by
  unfold Addr.add
  split
  · rename_i h; subst h; rfl
  · rfl
theorem run_isAgg {P : Program} {t : TypeId} {b : Bool} (h : aggO P t = some b) (w : World) : (isAgg t).run P w = .ok b w := by
  unfold aggO at h
  simp only [isAgg, underlying, Sem.run_bind, run_program, Result.andThen_ok]
  cases hu : P.underlying t with
  | none => rw [hu] at h; cases h
  | some d => rw [hu] at h; cases d <;> simp at h <;> subst h <;> rfl
theorem run_sizeOf {P : Program} {t : TypeId} {s : Nat} (h : sizeO P t = some s) (w : World) : (sizeOf t).run P w = .ok s w := by
  unfold sizeO at h
  simp only [sizeOf, typeInfo, Sem.run_bind, run_program, Result.andThen_ok]
  cases hi : P.info? t with
  | none => rw [hi] at h; cases h
  | some i => rw [hi] at h; simp only [Option.some.injEq] at h; subst h; rfl
theorem run_loadCells_at {P : Program} {w : World} {a off s : Nat} {cs : List Value} {e : TypeId} {f : Nat × Nat} (h : w.heap[a]? = some (.cells ⟨cs⟩ e f)) (hs : off + s ≤ cs.length) :
    (loadCells ⟨a, off, none⟩ s).run P w = .ok ((cs.drop off).take s).toArray w := by
  have h1 := run_loadCells_list (P := P) w ⟨a, off, none⟩ ((cs.drop off).take s) (fun j v hv => by
    rw [add_off, cell_of h]
    rw [List.getElem?_take] at hv
    split at hv
    · simpa using hv
    · cases hv)
  have h2 : ((cs.drop off).take s).length = s := by simp; omega
  rwa [h2] at h1
/-- What a load of a block that is known yields. -/
theorem load_sound {P : Program} {β : Type} {ρ : Env} {H : HP} {w : World} {t n off a C : Nat} {k : Value → Rs β} {r : β} (hS : Sat P ρ H w) (hn : ρ n = some (a, C)) (h : loadC P H t n off k = .ok r) :
    ∃ u v, k u = .ok r ∧ (loadVar t ⟨a, off, none⟩).run P w = .ok v w ∧ VR ρ u v := by
  unfold loadC at h
  split at h
  · rename_i g e l hb
    obtain ⟨a', C', h1, cs, h2, h3, h4, h5⟩ := hS.blk n _ hb
    rw [hn] at h1; cases h1
    have hlen : l.length ≤ cs.length := by have := h3.1; simp at this; omega
    split at h
    · rename_i hagg
      split at h
      · rename_i s hs
        rw [takeK_eq, dropN_eq] at h
        split at h
        · rename_i hle
          simp only [List.length_drop] at hle
          have hos : s = 0 ∨ off + s ≤ l.length := by omega
          refine ⟨_, .agg ⟨(cs.drop off).take s⟩, h, ?_, ?_⟩
          · have hc : (loadCells ⟨a, off, none⟩ s).run P w = .ok ((cs.drop off).take s).toArray w := by
              rcases hos with rfl | hos
              · simp [loadCells, loadCellsFrom]
              · exact run_loadCells_at h2 (by omega)
            simp only [loadVar, Sem.run_bind, run_isAgg hagg, Result.andThen_ok, if_true, run_sizeOf hs, hc]
            rfl
          · have hv : VL ρ ((l.drop off).take s) ((cs.drop off).take s) := by
              rcases hos with rfl | hos
              · simp; exact .nil ρ
              · have := (h3.drop off).take s
                rwa [List.drop_take, List.take_take, Nat.min_eq_left (by omega)] at this
            exact .agg hv.1 hv.2
        · cases h
      · cases h
    · rename_i hagg
      rw [nth_eq] at h
      split at h
      · rename_i u hu
        obtain ⟨v, hv, hr⟩ := h3.at hu
        have hv' : cs[off]? = some v := by
          rw [List.getElem?_take] at hv
          split at hv
          · exact hv
          · cases hv
        refine ⟨u, v, h, ?_, hr⟩
        simp only [loadVar, Sem.run_bind, run_isAgg hagg, Result.andThen_ok]
        simp [cell_of h2, hv']
      · cases h
    · cases h
  · cases h

theorem VR.one {ρ : Env} {u v : Value} (h : VR ρ u v) : oneC u = v.oneCell' := by cases h <;> rfl
theorem VR.cells {ρ : Env} {u v : Value} (h : VR ρ u v) : VL ρ u.cells.toList v.cells.toList := by
  cases h with
  | agg h1 h2 => exact ⟨h1, h2⟩
  | _ => exact .cons (by constructor <;> assumption) (.nil ρ)
theorem VL.one {ρ : Env} {us vs : List Value} (h : VL ρ us vs) (ho : us.all oneC = true) : ∀ v ∈ vs, v.oneCell' = true := fun v hv => by
  obtain ⟨i, hi, rfl⟩ := List.getElem_of_mem hv
  have hi' : i < us.length := by rw [h.1]; exact hi
  rw [← (h.2 i us[i] vs[i] (List.getElem?_eq_getElem hi') (List.getElem?_eq_getElem hi)).one]
  exact List.all_eq_true.1 ho _ (List.getElem_mem hi')
end Go.Proofs.YtadpelhmjmamnaaGreatDoor.Ev
