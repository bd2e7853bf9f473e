/- The reckoner: what looks at no memory. No conditions. -/
import Derived.Test.YtadpelhmjmamnaaGreatDoorEvP9
namespace Go.Proofs.YtadpelhmjmamnaaGreatDoor.Ev
open Go Go.RowKit

theorem flat_eq : ∀ (n : Nat) (u : Value), flat n u = true → ∀ {ρ : Env} {v : Value}, VR ρ u v → v = u := by
  intro n
  induction n with
  | zero => intro u h; cases h
  | succ n ih =>
    intro u h ρ v hr
    have hl : ∀ (us vs : List Value), us.all (flat n) = true → us.length = vs.length → (∀ (i : Nat) (u v : Value), us[i]? = some u → vs[i]? = some v → VR ρ u v) → vs = us := fun us vs hu hlen hall => by
      apply List.ext_getElem? 
      intro i
      cases hx : us[i]? with
      | none =>
        have : us.length ≤ i := List.getElem?_eq_none_iff.1 hx
        exact List.getElem?_eq_none_iff.2 (by omega)
      | some x =>
        have hi : i < us.length := (List.getElem?_eq_some_iff.1 hx).1
        have hy : vs[i]? = some vs[i] := List.getElem?_eq_getElem (by omega)
        rw [hy]
        rw [ih x (List.all_eq_true.1 hu x (List.mem_of_getElem? hx)) (hall i x vs[i] hx hy)]
    cases hr with
    | ptr e => cases h
    | sl e => cases h
    | soft e => cases h
    | map e => cases h
    | yld e => cases h
    | meth h1 h2 h3 h4 => cases h
    | iface r => rw [ih _ h r]
    | agg h1 h2 => rw [hl _ _ h h1 h2]
    | tuple h1 h2 => rw [hl _ _ h h1 h2]
    | @func f us vs xs ys h1 h2 h3 h4 =>
      have h' : (us.all (flat n) && xs.all (flat n)) = true := h
      rw [Bool.and_eq_true] at h'
      rw [hl _ _ h'.1 h1 h2, hl _ _ h'.2 h3 h4]
    | _ => rfl

section ops
variable {P : Program} {G : Nat} {ρ : Env} {T : PT Value} {H : HP} {N : Nat} {out : Out} {a : Act} {w : World} {o : Oper}
theorem pure_ok {u v : Value} (h : out = .v u [] N) (hrun : (execOp a.eval o).run P w = .ok (.value v) w) (hv : VR ρ u v) (hd : ∀ c, o.op ≠ .defer c) : OpOk P o ρ N out a w := by
  subst h
  exact ⟨Nat.le_refl _, fun hF ro mm K Q hK => wp_value hrun (hK _ _ _ (.refl P ρ N w) hv) hd⟩
theorem VL.flat_eq {us vs : List Value} (h : VL ρ us vs) (n : Nat) (hf : us.all (flat n) = true) : vs = us := by
  induction us generalizing vs with
  | nil => exact h.nil_inv
  | cons u us ih =>
    obtain ⟨v, vs, rfl, h1, h2⟩ := h.cons_inv
    simp only [List.all_cons, Bool.and_eq_true] at hf
    rw [Ev.flat_eq n u hf.1 h1, ih h2 hf.2]
theorem flat_ok (hT : TR ρ T a.tmps) (hG : Glob G ρ) (h : flatC P G T N o = .ok out) (hd : ∀ c, o.op ≠ .defer c) (hs : ∀ cs b, o.op ≠ .select cs b) : OpOk P o ρ N out a w := by
  unfold flatC at h
  obtain ⟨us, h1, hv, hat⟩ := vals_sound hT hG _ _ _ h
  cases hf : us.all (flat 5) with
  | false => rw [hf] at h1; cases h1
  | true =>
    rw [hf] at h1
    simp only [cond_true] at h1
    have heq := hv.flat_eq 5 hf
    have hcong : execOp (aevalD G T) o = execOp a.eval o := execOp_congr o hs (fun x hx => by
      obtain ⟨i, hi, hix⟩ := List.getElem_of_mem (show x ∈ o.op.operands.toList by simpa using hx)
      have hi' : o.op.operands.toList[i]? = some x := by rw [List.getElem?_eq_getElem hi, hix]
      obtain ⟨u, hu, hau⟩ := hat i x hi'
      have h2 : (o.op.operands.toList.map a.eval)[i]? = some (a.eval x) := by rw [List.getElem?_map, hi']; rfl
      rw [heq, hu] at h2
      cases h2
      simp only [aevalD, hau])
    rw [hcong] at h1
    split at h1
    · rename_i v hp
      rw [forceV_eq] at h1
      cases hfv : flat 5 v with
      | false => rw [hfv] at h1; cases h1
      | true =>
        rw [hfv] at h1
        cases h1
        exact pure_ok rfl (prun_run hp w) (flat_le 5 v hfv ρ) hd
    · cases h1
theorem orFlat_ok {r : Rs Value} (hT : TR ρ T a.tmps) (hG : Glob G ρ) (h : orFlat P G T N o r = .ok out) (hd : ∀ c, o.op ≠ .defer c) (hs : ∀ cs b, o.op ≠ .select cs b)
    (hr : ∀ u, r = .ok u → ∃ v, (execOp a.eval o).run P w = .ok (.value v) w ∧ VR ρ u v) : OpOk P o ρ N out a w := by
  unfold orFlat at h
  split at h
  · cases h
    obtain ⟨v, h1, h2⟩ := hr _ rfl
    exact pure_ok rfl h1 h2 hd
  · exact flat_ok hT hG h hd hs
end ops

/-! ### Whole numbers -/
theorem topN_unsigned (k : IntKind) : k.signed = false → (topN k : Int) = 2 ^ k.bits := by cases k <;> decide
theorem topN_signed (k : IntKind) : k.signed = true → (topN k : Int) = 2 ^ (k.bits - 1) := by cases k <;> decide
theorem wrap_lt {k : IntKind} {m : Nat} (h : m < topN k) : k.wrap (m : Int) = m := by
  have hb : (topN k : Int) ≤ 2 ^ k.bits := by cases k <;> decide
  have h1 : (m : Int) % (2 ^ k.bits : Int) = m := Int.emod_eq_of_lt (by omega) (by omega)
  unfold IntKind.wrap
  simp only [h1]
  cases hs : k.signed with
  | false => simp
  | true =>
    have := topN_signed k hs
    have : ¬ ((m : Int) ≥ 2 ^ (k.bits - 1)) := by omega
    simp [this]
theorem wrapF_eq (k : IntKind) (n : Int) : wrapF k n = k.wrap n := by
  unfold wrapF
  cases n with
  | negSucc m => rfl
  | ofNat m =>
    simp only []
    cases h : Nat.blt m (topN k) with
    | false => rfl
    | true =>
      have : m < topN k := by simp [Nat.blt, Nat.ble_eq] at h; omega
      exact (wrap_lt this).symm
theorem ltF_eq (a b : Int) : ltF a b = decide (a < b) := by
  cases a <;> cases b <;> simp only [ltF]
  · rename_i m n
    rw [Bool.eq_iff_iff]; simp [Nat.blt, Nat.ble_eq]; omega
  · rename_i m n
    simp; omega
  · rename_i m n
    simp; omega
  · rename_i m n
    rw [Bool.eq_iff_iff]; simp [Nat.blt, Nat.ble_eq]; omega
theorem eqF_eq (a b : Int) : eqF a b = (a == b) := by
  cases a <;> cases b <;> simp only [eqF] <;> rw [Bool.eq_iff_iff] <;> simp <;> omega
theorem bits_and {k : IntKind} {m n : Nat} (f : Nat → Nat → Nat) (g : ∀ {w : Nat}, BitVec w → BitVec w → BitVec w) (hg : ∀ {w : Nat} (x y : BitVec w), (g x y).toNat = f x.toNat y.toNat) (hm : m < topN k) (hn : n < topN k) (hf : ∀ {b : Nat} {x y : Nat}, x < 2 ^ b → y < 2 ^ b → f x y < 2 ^ b) :
    k.wrap ((g (BitVec.ofInt k.bits (m : Int)) (BitVec.ofInt k.bits (n : Int))).toNat : Int) = (f m n : Nat) := by
  have hb : ∃ b, topN k = 2 ^ b ∧ topN k ≤ 2 ^ k.bits := by cases k <;> first | exact ⟨7, by decide, by decide⟩ | exact ⟨8, by decide, by decide⟩ | exact ⟨15, by decide, by decide⟩ | exact ⟨16, by decide, by decide⟩ | exact ⟨31, by decide, by decide⟩ | exact ⟨32, by decide, by decide⟩ | exact ⟨63, by decide, by decide⟩ | exact ⟨64, by decide, by decide⟩
  obtain ⟨b, h1, h2⟩ := hb
  have e1 : (BitVec.ofInt k.bits (m : Int)).toNat = m := by
    rw [BitVec.ofInt_natCast, BitVec.toNat_ofNat, Nat.mod_eq_of_lt (by omega)]
  have e2 : (BitVec.ofInt k.bits (n : Int)).toNat = n := by
    rw [BitVec.ofInt_natCast, BitVec.toNat_ofNat, Nat.mod_eq_of_lt (by omega)]
  rw [hg, e1, e2]
  exact wrap_lt (by rw [h1]; exact hf (by omega) (by omega))
end Go.Proofs.YtadpelhmjmamnaaGreatDoor.Ev
