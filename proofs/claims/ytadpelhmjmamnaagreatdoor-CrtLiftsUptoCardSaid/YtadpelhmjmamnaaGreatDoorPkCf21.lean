/- The contract of the reference's Cmp. Appending to a row of one's own; the contract of the reference's shift. The contract of the reference's Small. The contract of the reference's Sub. -/
import Derived.Test.YtadpelhmjmamnaaGreatDoorPkCf20
import Derived.Maps.AppendAt
import Derived.OwnWalk
namespace Go.Proofs.YtadpelhmjmamnaaGreatDoor
section
open Go.RowKit

theorem val_pad (b : Nat) (xs : List Nat) (n : Nat) : val b (xs ++ List.replicate n 0) = val b xs := by rw [val_append, val_zeros]; simp
theorem val_lt_getD {xs ys : List Nat} (hx : Dig 4294967296 xs) (k : Nat) (hs : ∀ j, k < j → at0 xs j = at0 ys j) (hlt : at0 xs k < at0 ys k) : val 4294967296 xs < val 4294967296 ys := by
  obtain ⟨n, hn⟩ : ∃ n, n = max (max xs.length ys.length) (k + 1) := ⟨_, rfl⟩
  rw [← val_pad 4294967296 xs (n - xs.length), ← val_pad 4294967296 ys (n - ys.length)]
  have h1 : ∀ (zs : List Nat), zs.length ≤ n → ∀ i (h : i < (zs ++ List.replicate (n - zs.length) 0).length), (zs ++ List.replicate (n - zs.length) 0)[i] = at0 zs i := fun zs hz i h => by
    by_cases hi : i < zs.length
    · rw [List.getElem_append_left hi, at0_in hi]
    · rw [List.getElem_append_right (by omega), at0_out (by omega)]
      simp
  refine val_cmp_top 4294967296 _ _ (hx.append_ (Dig.zeros_ (by omega) _)) (by simp; omega) k (by simp; omega) (fun i h hki => ?_) ?_
  · rw [h1 xs (by omega), h1 ys (by omega), hs i hki]
  · rw [h1 xs (by omega), h1 ys (by omega)]; exact hlt
theorem val_eq_getD {xs ys : List Nat} (hs : ∀ j, at0 xs j = at0 ys j) : val 4294967296 xs = val 4294967296 ys := by
  rw [← val_pad 4294967296 xs (ys.length - xs.length), ← val_pad 4294967296 ys (xs.length - ys.length)]
  congr 1
  apply List.ext_getElem (by simp; omega)
  intro i h1 h2
  have e := hs i
  by_cases hi : i < xs.length
  · rw [List.getElem_append_left hi]
    rw [at0_in hi] at e
    by_cases hj : i < ys.length
    · rw [List.getElem_append_left hj, e, at0_in hj]
    · rw [List.getElem_append_right (by omega), e, at0_out (by omega)]; simp
  · rw [List.getElem_append_right (by omega)]
    rw [at0_out (by omega)] at e
    by_cases hj : i < ys.length
    · rw [List.getElem_append_left hj, ← at0_in hj, ← e]; simp
    · rw [List.getElem_append_right (by omega)]; simp

set_option maxHeartbeats 800000 in
theorem rcmp_any (A A2 : Option Addr) (c c2 : Nat) (xs ys : List Nat) (w : World) (B : Nat) (hr : Rd w B A (u32s xs)) (hr2 : Rd w B A2 (u32s ys)) (hd : Dig 4294967296 xs) (hd2 : Dig 4294967296 ys) (hm : xs.length ≤ 281474976710656) (hm2 : ys.length ≤ 281474976710656) :
    Calls Tryz.prog 40 #[.slice A xs.length c, .slice A2 ys.length c2] w fun e w' => e = .returned (.int .i64 (cmpN (val 4294967296 xs) (val 4294967296 ys))) ∧ w = w' := by
  obtain ⟨bb, tl⟩ : ∃ bb, decide (xs.length < ys.length) = bb := ⟨_, rfl⟩
  cases bb
  all_goals
    have hl := tl
    simp at hl
    go_enter Tryz.func40, Tryz.ntmps40
    go_wp2
    go_loop [6] (fun i => ∃ k : Nat, k ≤ 281474976710656 ∧ i = .int .i64 ((k : Int) - 1) ∧ ∀ j, k ≤ j → at0 xs j = at0 ys j) (fun i => (intOf i + 1).toNat)
    case atStart =>
      first
        | exact ⟨ys.length, hm2, rfl, fun j hj => by rw [at0_out (by omega), at0_out (by omega)]⟩
        | exact ⟨xs.length, hm, rfl, fun j hj => by rw [at0_out (by omega), at0_out (by omega)]⟩
    case round =>
      obtain ⟨k, hk, rfl, hs⟩ := hrel
      rcases k with _ | k
      · have e1 : cmpN (val 4294967296 xs) (val 4294967296 ys) = 0 := by
          rw [val_eq_getD (fun j => hs j (by omega))]; simp [cmpN]
        have He1 := Lib.hid e1
        clear e1 hs
        go_wp2
        go_ret
        exact ⟨by rw [He1.out]; rfl, rfl⟩
      · rw [show ((k + 1 : Nat) : Int) - 1 = (k : Int) from by omega]
        have hkb : k ≤ 9223372036854775807 := by omega
        rcases Nat.lt_trichotomy (at0 xs k) (at0 ys k) with h1 | h1 | h1
        · have e1 : cmpN (val 4294967296 xs) (val 4294967296 ys) = -1 := by
            have := val_lt_getD hd k (fun j hj => hs j (by omega)) h1
            simp [cmpN, this]
          have He1 := Lib.hid e1
          obtain ⟨x, hx⟩ : ∃ x, x = at0 xs k := ⟨_, rfl⟩
          obtain ⟨y, hy⟩ : ∃ y, y = at0 ys k := ⟨_, rfl⟩
          have t1 : decide (at0 xs k < at0 ys k) = true := by simpa using h1
          clear e1 hs hx hy
          go_wp2_with (first
          | (go_at_call 86; (with_reducible refine (limb_any A c xs k _ B hr hd hm hkb).mono ?_); rintro e w' ⟨rfl, rfl⟩)
          | (go_at_call 86; (with_reducible refine (limb_any A2 c2 ys k _ B hr2 hd2 hm2 hkb).mono ?_); rintro e w' ⟨rfl, rfl⟩))
          go_ret
          exact ⟨by rw [He1.out]; rfl, rfl⟩
        · have t1 : decide (at0 xs k < at0 ys k) = false := by rw [h1]; simp
          have t2 : decide (at0 ys k < at0 xs k) = false := by rw [h1]; simp
          have Hs : Hid (∀ j, k ≤ j → at0 xs j = at0 ys j) := fun j hj => by
            by_cases e : k = j
            · subst e; exact h1
            · exact hs j (by omega)
          clear hs h1
          go_wp2_with (first
          | (go_at_call 86; (with_reducible refine (limb_any A c xs k _ B hr hd hm hkb).mono ?_); rintro e w' ⟨rfl, rfl⟩)
          | (go_at_call 86; (with_reducible refine (limb_any A2 c2 ys k _ B hr2 hd2 hm2 hkb).mono ?_); rintro e w' ⟨rfl, rfl⟩))
          go_round
          case rel => exact ⟨k, by omega, by go_num, Hs.out⟩
          case measure => simp [intOf]
        · have e1 : cmpN (val 4294967296 xs) (val 4294967296 ys) = 1 := by
            have := val_lt_getD hd2 k (fun j hj => (hs j (by omega)).symm) h1
            simp [cmpN, this]; omega
          have He1 := Lib.hid e1
          have t1 : decide (at0 xs k < at0 ys k) = false := by simp; omega
          have t2 : decide (at0 ys k < at0 xs k) = true := by simpa using h1
          clear e1 hs
          go_wp2_with (first
          | (go_at_call 86; (with_reducible refine (limb_any A c xs k _ B hr hd hm hkb).mono ?_); rintro e w' ⟨rfl, rfl⟩)
          | (go_at_call 86; (with_reducible refine (limb_any A2 c2 ys k _ B hr2 hd2 hm2 hkb).mono ?_); rintro e w' ⟨rfl, rfl⟩))
          go_ret
          exact ⟨by rw [He1.out]; rfl, rfl⟩
end
section
open Go.RowKit

/-- The walk's step at an append whose run is known. -/
theorem wpList_append_run {P : Program} {w : World} {ops : Array Oper} {rest : List Oper} {o : Oper} {a : Act} {Q : Exit → Act → World → Prop} (hgd : o.guard = none) (d s : Operand) (dT sT : TypeId)
    (ho : o.op = .call { callee := .builtin .append, args := #[d, s], argTypes := #[dT, sT] }) (dv sv : Value) (hd : a.eval d = dv) (hs : a.eval s = sv) (v' : Value) (w' : World)
    (hrun : (Builtin.append_ #[dT, sT] o.type #[dv, sv]).run P w = .ok v' w') (h : wpList P ops Q rest (a.put o.dst v') w') : wpList P ops Q (o :: rest) a w := by
  refine wpList_plain hgd fun K hK => ?_
  unfold Oper.wp
  simp [execOp, ho, resolve, invoke, builtin, hd, hs, hrun, Result.andThen]
  exact hK _ _ h
end
section
open Go.RowKit

theorem val_take_at0 (b : Nat) (xs : List Nat) (k : Nat) : val b (xs.take (k + 1)) = val b (xs.take k) + b ^ k * at0 xs k := by
  by_cases h : k < xs.length
  · rw [val_take_succ b xs k h, at0_in h]
  · rw [at0_out (by omega), List.take_of_length_le (by omega), List.take_of_length_le (by omega)]; simp
theorem val_take_all (b : Nat) (xs : List Nat) (k : Nat) (h : xs.length ≤ k) : val b (xs.take k) = val b xs := by rw [List.take_of_length_le h]
theorem val_take_drop (b : Nat) (xs : List Nat) (k : Nat) (h : k ≤ xs.length) : val b xs = val b (xs.take k) + b ^ k * val b (xs.drop k) := by
  conv => lhs; rw [← List.take_append_drop k xs]
  rw [val_append, List.length_take, Nat.min_eq_left h]

/-- What Small's row and carry are behind k limbs. -/
def Smalled (xs : List Nat) (x k : Nat) (zs : List Nat) (c : Nat) : Prop :=
  Dig 4294967296 zs ∧ c < 4294967296 ∧ val 4294967296 zs + 4294967296 ^ k * c = val 4294967296 (xs.take k) * x ∧ ∀ j (h : j < zs.length), k ≤ j → zs[j] = 0
theorem Smalled.start (xs : List Nat) (x n : Nat) : Smalled xs x 0 (List.replicate n 0) 0 :=
  ⟨Dig.zeros_ (by omega) _, by omega, by simp [val_zeros, val], fun j h _ => by simp⟩
theorem Smalled.step {xs zs : List Nat} {x k c : Nat} (h : Smalled xs x k zs c) (hz : k < zs.length) (hd : Dig 4294967296 xs) (hx : x < 4294967296) :
    Smalled xs x (k + 1) (zs.set k ((at0 xs k * x + c) % 4294967296)) ((at0 xs k * x + c) / 4294967296) := by
  obtain ⟨h1, h2, h3, h4⟩ := h
  have ha := at0_lt hd k
  have hp : at0 xs k * x ≤ 4294967295 * 4294967295 := Nat.mul_le_mul (by omega) (by omega)
  refine ⟨h1.set_ _ _ (Nat.mod_lt _ (by omega)), ?_, ?_, fun i hi hki => ?_⟩
  · rw [Nat.div_lt_iff_lt_mul (by omega)]; omega
  · have e1 := val_set 4294967296 zs k ((at0 xs k * x + c) % 4294967296) hz
    rw [h4 k hz (Nat.le_refl _)] at e1
    have e2 := Nat.mod_add_div (at0 xs k * x + c) 4294967296
    rw [val_take_at0, Nat.add_mul, ← h3, Nat.pow_succ, Nat.mul_assoc, Nat.mul_assoc]
    have e3 : 4294967296 ^ k * (at0 xs k * x) + 4294967296 ^ k * c = 4294967296 ^ k * ((at0 xs k * x + c) % 4294967296) + 4294967296 ^ k * (4294967296 * ((at0 xs k * x + c) / 4294967296)) := by
      rw [← Nat.mul_add, ← Nat.mul_add, e2]
    omega
  · rw [List.getElem_set, if_neg (by omega)]
    exact h4 i (by simpa using hi) (by omega)
theorem carry_none {b v n c u x : Nat} (h : v + b ^ (n + 1) * c = u * x) (hu : u < b ^ n) (hx : x < b) : c = 0 := by
  rcases Nat.eq_zero_or_pos c with h0 | h0
  · exact h0
  · exfalso
    have h1 : u * x ≤ u * b := Nat.mul_le_mul_left _ (Nat.le_of_lt hx)
    have h2 : u * b < b ^ n * b := (Nat.mul_lt_mul_right (by omega)).2 hu
    have h3 : b ^ n * b * 1 ≤ b ^ n * b * c := Nat.mul_le_mul_left _ h0
    rw [Nat.pow_succ] at h
    generalize b ^ n * b = q at *
    omega
theorem Smalled.last {xs zs : List Nat} {x c : Nat} (h : Smalled xs x (xs.length + 1) zs c) (hd : Dig 4294967296 xs) (hx : x < 4294967296) : val 4294967296 zs = val 4294967296 xs * x := by
  obtain ⟨h1, h2, h3, h4⟩ := h
  rw [val_take_all _ _ _ (by omega)] at h3
  obtain rfl := carry_none h3 (val_lt _ xs hd) hx
  rw [Nat.mul_zero, Nat.add_zero] at h3
  exact h3
end
section
open Go.RowKit

/-- What Sub's row and borrow are behind k limbs. -/
def Subbed (xs ys : List Nat) (k : Nat) (zs : List Nat) (c : Nat) : Prop :=
  Dig 4294967296 zs ∧ c ≤ 1 ∧ val 4294967296 zs + val 4294967296 (ys.take k) = val 4294967296 (xs.take k) + 4294967296 ^ k * c ∧ (∀ j (h : j < zs.length), k ≤ j → zs[j] = 0) ∧ zs.length = xs.length
theorem Subbed.start (xs ys : List Nat) : Subbed xs ys 0 (List.replicate xs.length 0) 0 :=
  ⟨Dig.zeros_ (by omega) _, by omega, by simp [val_zeros, val], fun j h _ => by simp, by simp⟩
theorem Subbed.step {xs ys zs : List Nat} {k c : Nat} (h : Subbed xs ys k zs c) (hz : k < zs.length) (hd : Dig 4294967296 xs) (hd2 : Dig 4294967296 ys) :
    Subbed xs ys (k + 1) (zs.set k ((4294967296 + at0 xs k - at0 ys k - c) % 4294967296)) (1 - (4294967296 + at0 xs k - at0 ys k - c) / 4294967296) := by
  obtain ⟨h1, h2, h3, h4, h5⟩ := h
  have ha := at0_lt hd k
  have hb := at0_lt hd2 k
  refine ⟨h1.set_ _ _ (Nat.mod_lt _ (by omega)), by omega, ?_, fun i hi hki => ?_, by simpa using h5⟩
  · have e1 := val_set 4294967296 zs k ((4294967296 + at0 xs k - at0 ys k - c) % 4294967296) hz
    rw [h4 k hz (Nat.le_refl _), Nat.mul_zero, Nat.add_zero] at e1
    rw [val_take_at0, val_take_at0, Nat.pow_succ]
    generalize at0 xs k = x at *
    generalize at0 ys k = y at *
    have e2 : (4294967296 + x - y - c) % 4294967296 + y + c = x + 4294967296 * (1 - (4294967296 + x - y - c) / 4294967296) := by omega
    generalize (4294967296 + x - y - c) % 4294967296 = r at *
    generalize 1 - (4294967296 + x - y - c) / 4294967296 = q at *
    have e3 : 4294967296 ^ k * r + 4294967296 ^ k * y + 4294967296 ^ k * c = 4294967296 ^ k * x + 4294967296 ^ k * 4294967296 * q := by
      rw [← Nat.mul_add, ← Nat.mul_add, e2, Nat.mul_add, Nat.mul_assoc]
    generalize 4294967296 ^ k * 4294967296 * q = t1 at *
    generalize 4294967296 ^ k * r = t2 at *
    generalize 4294967296 ^ k * y = t3 at *
    generalize 4294967296 ^ k * c = t4 at *
    generalize 4294967296 ^ k * x = t5 at *
    omega
  · rw [List.getElem_set, if_neg (by omega)]
    exact h4 i (by simpa using hi) (by omega)
theorem borrow_none {b v n c x y : Nat} (h : v + y = x + b ^ n * c) (hv : v < b ^ n) (hy : y ≤ x) : c = 0 := by
  rcases Nat.eq_zero_or_pos c with h0 | h0
  · exact h0
  · exfalso
    have h3 : b ^ n * 1 ≤ b ^ n * c := Nat.mul_le_mul_left _ h0
    generalize b ^ n = q at *
    omega
theorem val_take_le {b : Nat} (xs : List Nat) (n : Nat) (h : val b xs < b ^ n) (_ : Dig b xs) (_ : 0 < b) : val b (xs.take n) = val b xs := by
  by_cases hn : xs.length ≤ n
  · exact val_take_all _ _ _ hn
  · have e := val_take_drop b xs n (by omega)
    rcases Nat.eq_zero_or_pos (val b (xs.drop n)) with h0 | h0
    · rw [h0] at e; omega
    · exfalso
      have h3 : b ^ n * 1 ≤ b ^ n * val b (xs.drop n) := Nat.mul_le_mul_left _ h0
      omega
theorem Subbed.last {xs ys zs : List Nat} {c : Nat} (h : Subbed xs ys xs.length zs c) (hd : Dig 4294967296 xs) (hd2 : Dig 4294967296 ys) (hle : val 4294967296 ys ≤ val 4294967296 xs) : val 4294967296 zs = val 4294967296 xs - val 4294967296 ys := by
  obtain ⟨h1, h2, h3, h4, h5⟩ := h
  have hx := val_lt _ xs hd
  rw [List.take_length, val_take_le ys _ (by omega) hd2 (by omega)] at h3
  have hz := val_lt _ zs h1
  rw [h5] at hz
  obtain rfl := borrow_none h3 hz hle
  rw [Nat.mul_zero] at h3
  generalize val 4294967296 ys = q1 at *
  generalize val 4294967296 xs = q2 at *
  generalize val 4294967296 zs = q3 at *
  omega

set_option maxHeartbeats 800000 in
theorem rsub_any (A A2 : Option Addr) (c c2 : Nat) (xs ys : List Nat) (w : World) (B : Nat) (hr : Rd w B A (u32s xs)) (hr2 : Rd w B A2 (u32s ys)) (hB : B ≤ w.heap.size) (hd : Dig 4294967296 xs) (hd2 : Dig 4294967296 ys) (hm : xs.length ≤ 70368744170000) (hm2 : ys.length ≤ 281474976710656) (hle : val 4294967296 ys ≤ val 4294967296 xs) :
    Calls Tryz.prog 121 #[.slice A xs.length c, .slice A2 ys.length c2] w fun e w' => ∃ zs A' c', e = .returned (.slice A' zs.length c') ∧ Num 4294967296 zs (val 4294967296 xs - val 4294967296 ys) ∧ Res w' w.heap.size 27 A' c' (u32s zs) ∧ Below w.heap.size w w' := by
  have hmk := fun W => mk32 xs.length (by omega) W
  go_enter Tryz.func121, Tryz.ntmps121
  go_wp2
  go_loopw [6, 7, 8, 14] (fun cv _ _ i wr => ∃ (k cc : Nat) (zs : List Nat), k ≤ xs.length ∧ i = .int .i64 k ∧ cv = .int .u64 cc ∧ Blk wr w.heap.size 27 (u32s zs) ∧ Subbed xs ys k zs cc ∧ Below w.heap.size w wr) (fun _ _ _ i _ => xs.length - (intOf i).toNat)
  case atStart => exact ⟨0, 0, _, by omega, rfl, rfl, Blk.new_ (by simp [u32s]), Subbed.start _ _, (Below.refl _ _).alloc (Nat.le_refl _) _⟩
  case round =>
    obtain ⟨k, cc, zs, hk, rfl, rfl, hblk, hsm, hbel⟩ := hrel
    by_cases hlt : k < xs.length
    · have hkz : k < zs.length := by rw [hsm.2.2.2.2]; exact hlt
      have hc2 := (hblk.cell k).trans (u32s_at hkz)
      have hf2 := hblk.frozen k
      have ha := at0_lt hd k
      have hb := at0_lt hd2 k
      have hcc := hsm.2.1
      obtain ⟨x, hxe⟩ : ∃ x, x = at0 xs k := ⟨_, rfl⟩
      obtain ⟨y, hye⟩ : ∃ y, y = at0 ys k := ⟨_, rfl⟩
      rw [← hxe] at ha
      rw [← hye] at hb
      obtain ⟨sm, hsme⟩ : ∃ sm, sm = 4294967296 + x - y - cc := ⟨_, rfl⟩
      have e2 : (4294967296 : Int) + (x : Int) - (y : Int) - (cc : Int) = (sm : Int) := by omega
      have hsb : sm < 8589934592 := by omega
      have hrw := hr.below (hbel.mono hB)
      have hrw2 := hr2.below (hbel.mono hB)
      have hm1 : xs.length ≤ 281474976710656 := by omega
      have hkb : k ≤ 9223372036854775807 := by omega
      have Hx := Lib.hid hxe
      have Hy := Lib.hid hye
      have Hsm := Lib.hid hsme
      clear hxe hye hsme
      go_wp2_with (first
        | (go_at_call 86; (with_reducible refine (limb_any A c xs k _ B hrw hd hm1 hkb).mono ?_); rintro e w' ⟨rfl, rfl⟩; rw [← Hx.out])
        | (go_at_call 86; (with_reducible refine (limb_any A2 c2 ys k _ B hrw2 hd2 hm2 hkb).mono ?_); rintro e w' ⟨rfl, rfl⟩; rw [← Hy.out]))
      go_roundw
      case rel =>
        have hst := hsm.step hkz hd hd2
        rw [← Hx.out, ← Hy.out, ← Hsm.out] at hst
        refine ⟨k + 1, 1 - sm / 4294967296, zs.set k (sm % 4294967296), by omega, by go_num, int_u64 (by omega), ?_, hst, hbel.setCell (p := ⟨w.heap.size, k, none⟩) (Nat.le_refl _) _⟩
        have hb2 := hblk.set_ k (Value.int IntKind.u32 ((sm % 4294967296 : Nat) : Int))
        rw [u32s_set] at hb2
        exact hb2
      case measure => simp [intOf]; omega
    · obtain rfl : k = xs.length := by omega
      have hrd := (Res.of_blk0 hblk (Nat.le_refl _) (by rw [u32s_length, hsm.2.2.2.2]; omega)).rd
      have hv := hsm.last hd hd2 hle
      have Hv := Lib.hid hv
      have Hzl := Lib.hid hsm.2.2.2.2
      have hzm : zs.length ≤ 70368744177664 := by rw [hsm.2.2.2.2]; omega
      clear hv
      go_wp2_with (go_at_call 65; rw [← Hzl.out]; refine (rnorm_any _ _ zs wr _ hrd (Nat.le_refl _) hzm).mono ?_; rintro e w2 ⟨A', c', rfl, hres, hb⟩)
      go_ret
      refine ⟨trimL zs, A', c', rfl, ?_, hres.mono hbel.size, hbel.trans (hb.mono hbel.size)⟩
      rw [← Hv.out]
      exact Num.of_trim hsm.1
end
end Go.Proofs.YtadpelhmjmamnaaGreatDoor
