/- The reckoner: copy. No conditions. -/
import Derived.Test.YtadpelhmjmamnaaGreatDoorEvP6
namespace Go.Proofs.YtadpelhmjmamnaaGreatDoor.Ev
open Go Go.RowKit

section ops
variable {P : Program} {G : Nat} {ρ : Env} {T : PT Value} {H : HP} {N : Nat} {out : Out} {a : Act} {w : World} {dst : Option Tmp} {type : TypeId} {pos : String} {after : Array Edge} {guard : Option (Nat × Bool)}
theorem cells_sound {β : Type} {sz n : Nat} {u v : Value} {k : List Value → Rs β} {r : β} (hS : Sat P ρ H w) (hr : VR ρ u v) (h : cellsC H sz u n k = .ok r) :
    ∃ us vs, k us = .ok r ∧ (∀ w' : World, Below w.heap.size w w' → (Builtin.firstCells sz n v).run P w' = .ok ⟨vs⟩ w') ∧ VL ρ us vs := by
  unfold cellsC at h
  have nilcase : ∀ l c, v = .slice none l c → (Nat.rec (motive := fun _ => Rs β) (k []) (fun _ _ => .bad 31) n : Rs β) = .ok r → ∃ us vs, k us = .ok r ∧ (∀ w' : World, Below w.heap.size w w' → (Builtin.firstCells sz n v).run P w' = .ok ⟨vs⟩ w') ∧ VL ρ us vs := fun l c hv h => by
    subst hv
    cases n with
    | zero => exact ⟨[], [], h, fun _ _ => rfl, .nil ρ⟩
    | succ n => cases h
  have some_case : ∀ m o b C l c, ρ m = some (b, C) → v = .slice (some ⟨b, o, none⟩) l c → (match H.get m with | some (.cells _ _ l) => takeK (dropN l o) (n * sz) k (.bad 32) | _ => .bad 33) = Rs.ok r → ∃ us vs, k us = .ok r ∧ (∀ w' : World, Below w.heap.size w w' → (Builtin.firstCells sz n v).run P w' = .ok ⟨vs⟩ w') ∧ VL ρ us vs := fun m o b C l c hm hv h => by
    subst hv
    split at h
    · rename_i g e l hb
      obtain ⟨a', C', h1, cs, h2, h3, h4, h5⟩ := hS.blk m _ hb
      rw [hm] at h1; cases h1
      rw [takeK_eq, dropN_eq] at h
      split at h
      · rename_i hle
        simp only [List.length_drop] at hle
        have hlen : l.length ≤ cs.length := by have := h3.1; simp at this; omega
        rcases Nat.eq_zero_or_pos (n * sz) with h0 | hpos
        · refine ⟨[], [], by simpa [h0] using h, fun w' _ => ?_, .nil ρ⟩
          simp [Builtin.firstCells, h0, loadCells, loadCellsFrom]
        · refine ⟨_, (cs.drop o).take (n * sz), h, fun w' hb' => ?_, ?_⟩
          · have h2' : w'.heap[b]? = some (.cells ⟨cs⟩ e (0, 0)) := by rw [hb'.block b (hS.lt m b C hm)]; exact h2
            simp only [Builtin.firstCells, run_loadCells_at h2' (show o + n * sz ≤ cs.length by omega)]
          · have := (h3.drop o).take (n * sz)
            rwa [List.drop_take, List.take_take, Nat.min_eq_left (by omega)] at this
      · cases h
    · cases h
  cases hr with
  | nils l c => exact nilcase l c rfl h
  | sl e => exact some_case _ _ _ _ _ _ e rfl h
  | soft e h1 h2 h3 => exact some_case _ _ _ _ _ _ e rfl h
  | string s =>
    refine ⟨_, (s.extract 0 n).data.toList.map (fun b => .int .u8 b.toNat), h, fun w' _ => ?_, rfl, fun i u v h1 h2 => ?_⟩
    · simp only [Builtin.firstCells, Sem.run_pure]
      congr 1
      apply Array.ext'
      simp
    rw [h1] at h2; cases h2
    rw [List.getElem?_map] at h1
    cases hx : (s.extract 0 n).data.toList[i]? with
    | none => rw [hx] at h1; cases h1
    | some b => rw [hx] at h1; cases h1; constructor
  | _ => cases h
theorem len_sound {β : Type} {u v : Value} {k : Nat → Rs β} {r : β} (hr : VR ρ u v) (h : lenC u k = .ok r) : ∃ n, k n = .ok r ∧ ∀ w : World, (Builtin.lenOf v).run P w = .ok n w := by
  cases hr with
  | nils l c => exact ⟨_, h, fun _ => rfl⟩
  | sl e => exact ⟨_, h, fun _ => rfl⟩
  | soft e h1 h2 h3 => exact ⟨_, h, fun _ => rfl⟩
  | string s => exact ⟨_, h, fun _ => rfl⟩
  | _ => cases h
theorem sliceO_spec {t e : TypeId} {sz : Nat} (h : sliceO P t = some (e, sz)) : P.underlying t = some (.slice e) ∧ sizeO P e = some sz := by
  unfold sliceO at h
  split at h
  · rename_i e2 hu
    split at h
    · rename_i s2 hs2; cases h; exact ⟨hu, hs2⟩
    · cases h
  · cases h
theorem run_call_builtin {b : Builtin} {args : Array Operand} {ts : Array TypeId} {v : Value} {w' : World} (hb : ∀ consts, (builtin b ts type consts (args.map a.eval)).run P w = .ok (.value v) w') :
    (execOp a.eval ⟨dst, .call { callee := .builtin b, args, argTypes := ts }, type, pos, after, guard⟩).run P w = .ok (.value v) w' := by
  simp only [execOp, resolve, Sem.run_bind, Sem.run_pure, Result.andThen_ok, invoke]
  exact hb _
theorem ble_false {m n : Nat} (h : Nat.ble m n = false) : n < m := by
  rcases Nat.lt_or_ge n m with h2 | h2
  · exact h2
  · rw [Nat.ble_eq_true_of_le h2] at h; cases h
/-- What a slice's value is behind a name. -/
theorem VR.slice {u v : Value} {base : Option Addr} {l c : Nat} (hr : VR ρ u v) (hu : u = .slice base l c) : ∃ bs c', v = .slice bs l c' ∧ (base = none → bs = none ∧ c' = c) ∧
    ∀ b o s, base = some ⟨b, o, s⟩ → ∃ ba C, bs = some ⟨ba, o, none⟩ ∧ ρ b = some (ba, C) ∧ (s = none → c' = c) ∧ (∀ q, s = some q → c = l ∧ l ≤ c' ∧ (o = 0 → c' = C)) := by
  subst hu
  cases hr with
  | nils l c => exact ⟨none, _, rfl, fun _ => ⟨rfl, rfl⟩, fun b o s h => (by cases h)⟩
  | sl e => exact ⟨_, _, rfl, fun h => (by cases h), fun b o s h => by cases h; exact ⟨_, _, rfl, e, fun _ => rfl, fun q h => by cases h⟩⟩
  | soft e h1 h2 h3 => exact ⟨_, _, rfl, fun h => (by cases h), fun b o s h => by cases h; exact ⟨_, _, rfl, e, fun h => (by cases h), fun q _ => ⟨h1, h2, h3⟩⟩⟩
theorem lay_sound {b off ba C : Nat} {us vs : List Value} {u : Value} (hS : Sat P ρ H w) (hb : ρ b = some (ba, C)) (hN : ∀ n b, H.get n = some b → n < N) (hv : VL ρ us vs) (h : layC H N b off us u = .ok out) :
    ∃ H' w', out = .w u H' N b ∧ (storeCells ⟨ba, off, none⟩ vs).run P w = .ok () w' ∧ Wrote P ρ ρ N N b H' w w' := by
  unfold layC at h
  split at h
  · rename_i g e l hg
    cases hc : us.all oneC with
    | false => rw [hc] at h; cases h
    | true =>
      rw [hc] at h
      simp only [cond_true, spliceK_eq] at h
      split at h
      · rename_i hle
        rcases PT.insK_spec 60 H b (some (AB.cells g e (l.take off ++ us ++ l.drop (off + us.length)))) with hbad | ⟨H', hok, hget⟩
        · rw [hbad] at h; cases h
        · rw [hok] at h
          cases h
          obtain ⟨w', hrun, hW⟩ := splice_sound (N := N) hS hg hb hN hle hget hv hc
          exact ⟨H', w', rfl, hrun, hW⟩
      · cases h
  · cases h
theorem copy_ok {x y : Operand} {st xt : TypeId} (hS : Sat P ρ H w) (hT : TR ρ T a.tmps) (hG : Glob G ρ) (hN : ∀ n b, H.get n = some b → n < N)
    (h : (match aeval G T x, aeval G T y with | some s, some v => copyC P H N st s v | _, _ => .bad 109) = Rs.ok out) : OpOk P ⟨dst, .call { callee := .builtin .copy, args := ⟨[x, y]⟩, argTypes := ⟨[st, xt]⟩ }, type, pos, after, guard⟩ ρ N out a w := by
  split at h
  · rename_i u v hx hy
    have hrx := aeval_sound hT hG hx
    have hry := aeval_sound hT hG hy
    unfold copyC at h
    split at h
    · rename_i e sz base dl cap hso
      obtain ⟨hu, hs⟩ := sliceO_spec hso
      obtain ⟨m, h1, hlen⟩ := len_sound (P := P) hry h
      rw [forceN_eq] at h1
      obtain ⟨us, vs, h2, hcells, hv⟩ := cells_sound hS hry h1
      have hmin : cond (Nat.ble m dl) m dl = Nat.min m dl := by
        cases hb : Nat.ble m dl with
        | true => exact (Nat.min_eq_left (Nat.le_of_ble_eq_true hb)).symm
        | false => exact (Nat.min_eq_right (Nat.le_of_lt (ble_false hb))).symm
      rw [hmin] at h2 hcells
      obtain ⟨bs, cap', hax, hnone, hbase⟩ := hrx.slice rfl
      have hrun : ∀ (w' : World), (∀ ba, bs = some ba → (storeCells ba vs).run P w = .ok () w') → (bs = none → w' = w) → ∀ consts, (builtin .copy ⟨[st, xt]⟩ type consts ((⟨[x, y]⟩ : Array Operand).map a.eval)).run P w = .ok (.value (.int .i64 (Nat.min m dl : Nat))) w' := fun w' hst hno consts => by
        have hargs : (⟨[x, y]⟩ : Array Operand).map a.eval = #[a.eval x, a.eval y] := Array.ext' (by simp)
        rw [hargs, hax]
        simp only [builtin, Builtin.copy_, Sem.run_bind]
        simp only [underlying, Sem.run_bind, run_program, Result.andThen_ok, hu, Sem.run_pure, List.getElem?_toArray, List.getElem?_cons_zero, List.getElem?_cons_succ, hlen, run_sizeOf hs, hcells w (.refl _ _)]
        cases bs with
        | none => simp [hno rfl, goInt]
        | some ba => simp [hst ba rfl, goInt]
      split at h2
      · cases h2
        obtain rfl := hv.nil_inv
        exact ⟨Nat.le_refl _, fun hF ro mm K Q hK => wp_value (w' := w) (run_call_builtin (hrun w (fun ba _ => rfl) (fun _ => rfl))) (hK _ _ _ (.refl P ρ N w) (.int _ _))⟩
      · split at h2
        · rename_i b o s
          obtain ⟨ba, C, rfl, hb, _⟩ := hbase b o s rfl
          obtain ⟨H', w', rfl, hst, hW⟩ := lay_sound hS hb hN hv h2
          exact ⟨Nat.le_refl _, fun hF ro mm K Q hK => wp_value (w' := w') (run_call_builtin (hrun w' (fun ba' e => by cases e; exact hst) (fun h => by cases h))) (hK _ _ _ hW (.int _ _))⟩
        · cases h2
    · cases h
  · cases h
end ops
end Go.Proofs.YtadpelhmjmamnaaGreatDoor.Ev
