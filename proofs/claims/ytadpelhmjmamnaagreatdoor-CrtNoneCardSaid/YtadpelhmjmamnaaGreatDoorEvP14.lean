/- The reckoner: slices, literals, functions, maps. No conditions. -/
import Derived.Test.YtadpelhmjmamnaaGreatDoorEvP13
namespace Go.Proofs.YtadpelhmjmamnaaGreatDoor.Ev
open Go Go.RowKit

section
variable {P : Program} {G : Nat} {ρ : Env} {T : PT Value} {H : HP} {N : Nat} {out : Out} {a : Act} {w : World} {dst : Option Tmp} {type : TypeId} {pos : String} {after : Array Edge} {guard : Option (Nat × Bool)}
/-- An operand that may lack, and its value. -/
theorem optO_sound {x : Option Operand} {u : Option Value} (hT : TR ρ T a.tmps) (hG : Glob G ρ) (h : optO G T x = some u) : (u = none ∧ x = none) ∨ ∃ y v, x = some y ∧ u = some v ∧ VR ρ v (a.eval y) := by
  unfold optO at h
  cases x with
  | none => cases h; exact .inl ⟨rfl, rfl⟩
  | some y =>
    simp only at h
    split at h
    · rename_i v hv; cases h; exact .inr ⟨y, v, rfl, rfl, aeval_sound hT hG hv⟩
    · cases h
theorem natO_int {u v : Value} {n : Nat} (h : natO u = some n) (hr : VR ρ u v) : ∃ k, v = .int k (n : Int) := by
  unfold natO at h
  split at h
  · rename_i k m
    cases h
    cases hr
    exact ⟨k, rfl⟩
  · cases h
/-- A bound that is given or not. -/
theorem bound_sound {x : Option Operand} {u : Option Value} {dflt n : Nat} (hT : TR ρ T a.tmps) (hG : Glob G ρ) (h : optO G T x = some u) (hn : bndO u dflt = some n) :
    (x = none ∧ n = dflt ∧ u = none) ∨ ∃ y k, x = some y ∧ a.eval y = .int k (n : Int) ∧ ∃ v, u = some v := by
  rcases optO_sound hT hG h with ⟨rfl, rfl⟩ | ⟨y, v, rfl, rfl, hv⟩
  · cases hn; exact .inl ⟨rfl, rfl, rfl⟩
  · obtain ⟨k, hk⟩ := natO_int hn hv
    exact .inr ⟨y, k, rfl, hk, v, rfl⟩
theorem run_sliceBound {k : IntKind} {n y : Nat} (h : n ≤ y) (code : BoundsCode) (w : World) : (Instr.sliceBound (.int k (n : Int)) y code).run P w = .ok n w := by
  simp only [Instr.sliceBound, asIntOf, Sem.run_bind, Sem.run_pure, Result.andThen_ok]
  rw [if_pos ⟨by omega, by omega⟩]
  simp
/-- The bounds of a slice expression. -/
theorem run_bounds {lo hi mx : Option Operand} {len cap l h m : Nat} {b : Bool}
    (hl : (lo = none ∧ l = 0) ∨ ∃ y k, lo = some y ∧ a.eval y = .int k (l : Int)) (hh : (hi = none ∧ h = len ∧ mx = none) ∨ ∃ y k, hi = some y ∧ a.eval y = .int k (h : Int))
    (hm : (mx = none ∧ m = cap) ∨ ∃ y k, mx = some y ∧ a.eval y = .int k (m : Int)) (h1 : l ≤ h) (h2 : h ≤ m) (h3 : m ≤ cap) (w : World) :
    (Instr.sliceBounds b len cap (lo.map a.eval) (hi.map a.eval) (mx.map a.eval)).run P w = .ok (l, h, m) w := by
  rcases hl with ⟨rfl, rfl⟩ | ⟨yl, kl, rfl, el⟩ <;> rcases hh with ⟨rfl, rfl, rfl⟩ | ⟨yh, kh, rfl, eh⟩ <;> rcases hm with ⟨em1, rfl⟩ | ⟨ym, km, em1, em⟩
  all_goals (first | (cases em1; done) | skip)
  all_goals (first | subst em1 | skip)
  all_goals simp only [Instr.sliceBounds, Option.map_some, Option.map_none, Sem.run_bind, Sem.run_pure, Result.andThen_ok, run_sliceBound h1, run_sliceBound h2, run_sliceBound h3, *]
theorem map_add (ba o n : Nat) (m l : Nat) : (if m = l then (some ⟨ba, o, none⟩ : Option Addr) else (some ⟨ba, o, none⟩ : Option Addr).map (·.add n)) = some ⟨ba, cond (Nat.beq m l) o (o + n), none⟩ := by
  by_cases h : m = l
  · subst h; simp
  · have : Nat.beq m l = false := by
      cases hb : Nat.beq m l with
      | false => rfl
      | true => exact absurd (Nat.eq_of_beq_eq_true hb) h
    rw [if_neg h, this]
    simp [add_off]
theorem slice_ok {t : TypeId} {x : Operand} {lo hi mx : Option Operand} (hT : TR ρ T a.tmps) (hG : Glob G ρ)
    (h : (match aeval G T x, optO G T lo, optO G T hi, optO G T mx with
    | some v, some l, some h, some m => cond (softB v) (softSliceC P N t v l h m) (orFlat P G T N ⟨dst, .slice t x lo hi mx, type, pos, after, guard⟩ (sliceC P t v l h m))
    | _, _, _, _ => .bad 107) = Rs.ok out) : OpOk P ⟨dst, .slice t x lo hi mx, type, pos, after, guard⟩ ρ N out a w := by
  split at h
  · rename_i u ul uh um hx hlo hhi hmx
    have h1 := aeval_sound hT hG hx
    cases hsoft : softB u with
    | true =>
      rw [hsoft] at h
      simp only [cond_true] at h
      unfold softSliceC at h
      split at h
      · rename_i e sz b o q len cap hso
        obtain ⟨hu, hs⟩ := sliceO_spec hso
        obtain ⟨bs, c', hax, _, hbase⟩ := h1.slice rfl
        obtain ⟨ba, C, rfl, hn, _, hq⟩ := hbase b o (some q) rfl
        obtain ⟨_, hlc, hC⟩ := hq q rfl
        split at h
        · rename_i l hh hl1 hh1
          cases hb : (Nat.ble l hh && Nat.ble hh len) with
          | false => rw [hb] at h; cases h
          | true =>
            rw [hb] at h
            simp only [cond_true] at h
            rw [Bool.and_eq_true] at hb
            have hle1 := Nat.le_of_ble_eq_true hb.1
            have hle2 := Nat.le_of_ble_eq_true hb.2
            have bl := bound_sound hT hG hlo hl1
            have bh := bound_sound hT hG hhi hh1
            have bl' : (lo = none ∧ l = 0) ∨ ∃ y k, lo = some y ∧ a.eval y = .int k (l : Int) := by
              rcases bl with ⟨e1, e2, _⟩ | ⟨y, k, e1, e2, _⟩
              · exact .inl ⟨e1, e2⟩
              · exact .inr ⟨y, k, e1, e2⟩
            split at h
            · rcases optO_sound hT hG hmx with ⟨_, rfl⟩ | ⟨y, v, _, e, _⟩
              · cases hc : (Nat.beq l 0 || (Nat.blt l len && Nat.blt 0 sz)) with
                | false => rw [hc] at h; cases h
                | true =>
                  rw [hc] at h
                  simp only [cond_true, forceN_eq] at h
                  rw [Bool.or_eq_true, Bool.and_eq_true] at hc
                  have hc' : l = 0 ∨ (l < len ∧ 0 < sz) := hc.imp Nat.eq_of_beq_eq_true (fun h => ⟨blt_spec h.1, blt_spec h.2⟩)
                  have bh' : (hi = none ∧ hh = len ∧ (none : Option Operand) = none) ∨ ∃ y k, hi = some y ∧ a.eval y = .int k (hh : Int) := by
                    rcases bh with ⟨e1, e2, _⟩ | ⟨y, k, e1, e2, _⟩
                    · exact .inl ⟨e1, e2, rfl⟩
                    · exact .inr ⟨y, k, e1, e2⟩
                  have hrb := run_bounds (P := P) (b := true) (len := len) (cap := c') (m := c') bl' bh' (.inl ⟨rfl, rfl⟩) hle1 (by omega) (Nat.le_refl _) w
                  cases h
                  refine pure_ok rfl (v := .slice (some ⟨ba, o + l * sz, none⟩) (hh - l) (c' - l)) ?_ ?_ (fun _ h => (by cases h))
                  · simp only [execOp, Instr.sliceAt, Sem.run_bind, run_under hu, Result.andThen_ok, Instr.slice, hax]
                    have hrb' : (Instr.sliceBounds true len c' (lo.map a.eval) (hi.map a.eval) ((none : Option Operand).map a.eval)).run P w = .ok (l, hh, c') w := hrb
                    rw [hrb']
                    simp only [Result.andThen_ok, run_sizeOf hs, Sem.run_pure, map_add]
                    have : cond (Nat.beq c' l) o (o + l * sz) = o + l * sz := by
                      cases hbq : Nat.beq c' l with
                      | false => rfl
                      | true =>
                        have := Nat.eq_of_beq_eq_true hbq
                        rcases hc' with rfl | hc
                        · simp
                        · omega
                    rw [this]
                  · refine .soft hn rfl (show hh - l ≤ c' - l by omega) (fun ho => ?_)
                    have ho : o + l * sz = 0 := ho
                    rcases hc' with rfl | ⟨h3, h4⟩
                    · have := hC (by omega); omega
                    · have hz : l * sz = 0 := by omega
                      rcases Nat.mul_eq_zero.1 hz with e | e
                      · subst e; have := hC (by omega); omega
                      · omega
              · cases e
            · rename_i vm
              split at h
              · rename_i m hm
                cases hc : (Nat.ble hh m && Nat.ble m len && uh.isSome) with
                | false => rw [hc] at h; cases h
                | true =>
                  rw [hc] at h
                  simp only [cond_true, forceN_eq] at h
                  cases h
                  simp only [Bool.and_eq_true] at hc
                  obtain ⟨⟨hc1, hc2⟩, hc3⟩ := hc
                  have hle3 := Nat.le_of_ble_eq_true hc1
                  have hle4 := Nat.le_of_ble_eq_true hc2
                  rcases optO_sound hT hG hmx with ⟨e, _⟩ | ⟨y, v, rfl, e, hv⟩
                  · cases e
                  · cases e
                    obtain ⟨k, hk⟩ := natO_int hm hv
                    rcases bh with ⟨e1, e2, e3⟩ | ⟨y2, k2, e1, e2, _⟩
                    · subst e3; cases hc3
                    · have hrb := run_bounds (P := P) (b := true) (len := len) (cap := c') bl' (.inr ⟨y2, k2, e1, e2⟩) (.inr ⟨y, k, rfl, hk⟩) hle1 hle3 (by omega) w
                      refine pure_ok rfl (v := .slice (some ⟨ba, cond (Nat.beq m l) o (o + l * sz), none⟩) (hh - l) (m - l)) ?_ (.sl hn) (fun _ h => (by cases h))
                      simp only [execOp, Instr.sliceAt, Sem.run_bind, run_under hu, Result.andThen_ok, Instr.slice, hax]
                      rw [hrb]
                      simp only [Result.andThen_ok, run_sizeOf hs, Sem.run_pure, map_add]
              · cases h
        · cases h
      · cases h
    | false =>
      rw [hsoft] at h
      simp only [cond_false] at h
      refine orFlat_ok hT hG h (fun _ h => (by cases h)) (fun _ _ h => (by cases h)) (fun r hr => ?_)
      have three : ∀ (dl c : Nat) (l hh m : Nat), bndO ul 0 = some l → bndO uh dl = some hh → bndO um c = some m →
          (Nat.ble l hh && Nat.ble hh m && Nat.ble m c && (uh.isSome || um.isNone)) = true → ∀ (b : Bool) (w : World), (Instr.sliceBounds b dl c (lo.map a.eval) (hi.map a.eval) (mx.map a.eval)).run P w = .ok (l, hh, m) w := fun dl c l hh m hl hh' hm hc b w => by
        simp only [Bool.and_eq_true, Bool.or_eq_true] at hc
        obtain ⟨⟨⟨c1, c2⟩, c3⟩, c4⟩ := hc
        refine run_bounds ?_ ?_ ?_ (Nat.le_of_ble_eq_true c1) (Nat.le_of_ble_eq_true c2) (Nat.le_of_ble_eq_true c3) w
        · rcases bound_sound hT hG hlo hl with ⟨e1, e2, _⟩ | ⟨y, k, e1, e2, _⟩
          · exact .inl ⟨e1, e2⟩
          · exact .inr ⟨y, k, e1, e2⟩
        · rcases bound_sound hT hG hhi hh' with ⟨e1, e2, e3⟩ | ⟨y, k, e1, e2, _⟩
          · subst e3
            rcases c4 with c4 | c4
            · cases c4
            · rcases optO_sound hT hG hmx with ⟨_, e⟩ | ⟨y, v, _, e, _⟩
              · exact .inl ⟨e1, e2, e⟩
              · subst e; cases c4
          · exact .inr ⟨y, k, e1, e2⟩
        · rcases bound_sound hT hG hmx hm with ⟨e1, e2, _⟩ | ⟨y, k, e1, e2, _⟩
          · exact .inl ⟨e1, e2⟩
          · exact .inr ⟨y, k, e1, e2⟩
      unfold sliceC at hr
      split at hr
      · rename_i b o len cap
        split at hr
        · rename_i e sz hso
          obtain ⟨hu, hs⟩ := sliceO_spec hso
          obtain ⟨bs, c', hax, _, hbase⟩ := h1.slice rfl
          obtain ⟨ba, C, rfl, hn, hcap, _⟩ := hbase b o none rfl
          obtain rfl := hcap rfl
          split at hr
          · rename_i l hh m hl1 hh1 hm1
            cases hc : (Nat.ble l hh && Nat.ble hh m && Nat.ble m c' && (uh.isSome || um.isNone)) with
            | false => rw [hc] at hr; cases hr
            | true =>
              rw [hc] at hr
              simp only [cond_true, forceN_eq] at hr
              cases hr
              refine ⟨.slice (some ⟨ba, cond (Nat.beq m l) o (o + l * sz), none⟩) (hh - l) (m - l), ?_, .sl hn⟩
              simp only [execOp, Instr.sliceAt, Sem.run_bind, run_under hu, Result.andThen_ok, Instr.slice, hax]
              rw [three len c' l hh m hl1 hh1 hm1 hc]
              simp only [Result.andThen_ok, run_sizeOf hs, Sem.run_pure, map_add]
          · cases hr
        · cases hr
      · rename_i b o q
        split at hr
        · rename_i e sz n hao
          obtain ⟨hu, hs⟩ := arrayO_spec hao
          generalize hvx : a.eval x = vx at h1
          cases h1 with
          | @ptr _ _ _ ba C hn =>
          split at hr
          · rename_i l hh m hl1 hh1 hm1
            cases hc : (Nat.ble l hh && Nat.ble hh m && Nat.ble m n && (uh.isSome || um.isNone)) with
            | false => rw [hc] at hr; cases hr
            | true =>
              rw [hc] at hr
              simp only [cond_true, forceN_eq] at hr
              cases hr
              refine ⟨.slice (some ⟨ba, cond (Nat.beq m l) o (o + l * sz), none⟩) (hh - l) (m - l), ?_, .sl hn⟩
              have hadd : (if m = l then (⟨ba, o, none⟩ : Addr) else (⟨ba, o, none⟩ : Addr).add (l * sz)) = ⟨ba, cond (Nat.beq m l) o (o + l * sz), none⟩ := by
                have := map_add ba o (l * sz) m l
                by_cases e : m = l
                · rw [if_pos e] at this ⊢; exact Option.some.inj this
                · rw [if_neg e] at this ⊢; exact Option.some.inj this
              simp only [execOp, Instr.sliceAt, Sem.run_bind, run_under hu, Result.andThen_ok, hvx, Instr.sureAddr, Sem.run_pure]
              rw [three n n l hh m hl1 hh1 hm1 hc]
              simp only [Result.andThen_ok, run_sizeOf hs, hadd]
          · cases hr
        · cases hr
      · cases hr
  · cases h
end
end Go.Proofs.YtadpelhmjmamnaaGreatDoor.Ev
