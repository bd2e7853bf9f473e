/- The reference's at, Add, Scale, Sub, Same on polynomials modulo a number. Conditions: it is above 0 and below 2^32. The reference's Mul on polynomials modulo a number. Conditions: a prime below 2^32. The reference's Div, Monic, Gcd on polynomials modulo a prime. Conditions: it is below 2^32. The reference's Monic, Gcd, Eval, Deriv, Pow on polynomials modulo a prime. Conditions: it is below 2^32. -/
import Derived.Test.YtddhhndnkjajmaaDoorPkMq27
namespace Go.Proofs.YtddhhndnkjajmaaDoor
section
open Go.RowKit

theorem rat_any (A : Option Addr) (c i : Nat) (xs : List Nat) (w : World) (B : Nat) (hr : Rd w B A (u32s xs)) (_ : xs.length ≤ 281474976710656) :
    Calls Tryd.prog 58 #[.slice A xs.length c, .int .i64 (i : Int)] w fun e w' => e = .returned (.int .u32 ((xs.getD i 0 : Nat) : Int)) ∧ w' = w := by
  by_cases h : i < xs.length
  · obtain ⟨b, off, rfl, hb, hx⟩ := hr.at32 h
    have e : xs.getD i 0 = xs[i] := by rw [List.getD_eq_getElem?_getD, List.getElem?_eq_getElem h]; rfl
    rw [e]
    obtain ⟨x, hxe⟩ : ∃ x, x = xs[i] := ⟨_, rfl⟩
    rw [← hxe] at hx ⊢
    clear hr hxe e
    go_enter Tryd.func58, Tryd.ntmps58
    go_wp2
    go_ret
    exact ⟨rfl, rfl⟩
  · rw [getD_nat (by omega)]
    have h2 : xs.length ≤ i := by omega
    clear hr h
    go_enter Tryd.func58, Tryd.ntmps58
    go_wp2
    go_ret
    exact ⟨rfl, rfl⟩
theorem range_snoc (g : Nat → Nat) (k : Nat) : (List.range (k + 1)).map g = (List.range k).map g ++ [g k] := by rw [List.range_succ, List.map_append]; rfl
theorem PS.of_norm {p : Nat} {w w' : World} {l : List Nat} {z : Z} {e : Ending} (h : PR1 w (mnP p l) e w') (hp : 0 < p) (hc : Cg p (zo l) z) : PS p w z e w' := ⟨_, h, mnP_nf hp l, (mnP_cg p l).trans hc⟩
theorem PR1.mono {w w1 w' : World} {r : List Nat} {e : Ending} (h : PR1 w1 r e w') (hb : Below w.heap.size w w1) : PR1 w r e w' := by
  obtain ⟨v, rfl, hv⟩ := h
  exact ⟨v, rfl, hv.mono hb⟩
def raddN (p : Nat) (xs ys : List Nat) (i : Nat) : Nat := (xs.getD i 0 + ys.getD i 0) % p
theorem radd_cg (p : Nat) (xs ys : List Nat) (n : Nat) (h1 : xs.length ≤ n) (h2 : ys.length ≤ n) : Cg p (zo ((List.range n).map (raddN p xs ys))) (zo xs + zo ys) := Cg.of_co (b := addI (zi xs) (zi ys)) fun i => by
  rw [zi_getD, getD_addI, zi_getD, zi_getD, fill_getD]
  split
  · have := mod_dvd (xs.getD i 0 + ys.getD i 0) p
    rwa [Int.natCast_add] at this
  · rw [getD_nat (a := xs) (by omega), getD_nat (a := ys) (by omega)]; exact ⟨0, by simp⟩
theorem getD_u32 {xs : List Nat} (h : ∀ x ∈ xs, x < 4294967296) (i : Nat) : xs.getD i 0 < 4294967296 := by
  rw [List.getD_eq_getElem?_getD]
  cases e : xs[i]? with
  | none => simp
  | some x => exact h x (List.mem_of_getElem? e)

set_option maxHeartbeats 1600000 in
theorem rpadd_any (p : Nat) (A1 A2 : Option Addr) (c1 c2 : Nat) (xs ys : List Nat) (w : World) (B : Nat) (hp0 : 0 < p) (hp : p < 4294967296) (hr1 : Rd w B A1 (u32s xs)) (hr2 : Rd w B A2 (u32s ys)) (hB : B ≤ w.heap.size) (hm1 : xs.length ≤ Big) (hm2 : ys.length ≤ Big) (d1 : ∀ x ∈ xs, x < 4294967296) (d2 : ∀ x ∈ ys, x < 4294967296) :
    Calls Tryd.prog 24 #[.slice A1 xs.length c1, .slice A2 ys.length c2, .int .u32 (p : Int)] w (PS p w (zo xs + zo ys)) := by
  have hmx : xs.length ≤ 17592186044416 := hm1
  have hmy : ys.length ≤ 17592186044416 := hm2
  obtain ⟨R, hR⟩ : ∃ R : Ending → World → Prop, R = PS p w (zo xs + zo ys) := ⟨_, rfl⟩
  rw [← hR]
  have HR := Lib.hid hR
  have HAT1 : Hid (∀ W (i : Nat), Below w.heap.size w W → Calls Tryd.prog 58 #[.slice A1 xs.length c1, .int .i64 (i : Int)] W fun e w' => e = .returned (.int .u32 ((xs.getD i 0 : Nat) : Int)) ∧ W = w') := fun W i hW => (rat_any A1 c1 i xs W B (hr1.below (hW.mono hB)) (by omega)).mono fun _ _ h => ⟨h.1, h.2.symm⟩
  have HAT2 : Hid (∀ W (i : Nat), Below w.heap.size w W → Calls Tryd.prog 58 #[.slice A2 ys.length c2, .int .i64 (i : Int)] W fun e w' => e = .returned (.int .u32 ((ys.getD i 0 : Nat) : Int)) ∧ W = w') := fun W i hW => (rat_any A2 c2 i ys W B (hr2.below (hW.mono hB)) (by omega)).mono fun _ _ h => ⟨h.1, h.2.symm⟩
  have HADD : Hid (∀ W (a b : Nat), a < 4294967296 → b < 4294967296 → Calls Tryd.prog 47 #[.int .u32 (a : Int), .int .u32 (b : Int), .int .u32 (p : Int)] W fun r w' => r = .returned (.int .u32 (((a + b) % p : Nat) : Int)) ∧ W = w') := fun W a b ha hb => (radd_any a b p ha hb hp hp0 W).mono fun _ _ h => ⟨h.1, h.2.symm⟩
  have Hd1 := Lib.hid d1
  have Hd2 := Lib.hid d2
  clear hR hr1 hr2 d1 d2
  go_enter Tryd.func24, Tryd.ntmps24
  go_wp2
  go_loopw [7, 8] (fun rv jv wq => ∃ (j : Nat) (Ar : Option Addr) (cr : Nat), (j ≤ xs.length ∨ j ≤ ys.length) ∧ jv = .int .i64 (j : Int) ∧ rv = .slice Ar j cr ∧ Hid (Ro wq w.heap.size 24 (.slice Ar j cr) (u32s ((List.range j).map (raddN p xs ys)))) ∧ Below w.heap.size w wq) (fun _ jv _ => xs.length + ys.length - (intOf jv).toNat)
  case atStart => exact ⟨0, none, 0, by omega, rfl, rfl, Ro.nil_ _ _ _, Below.refl _ _⟩
  case round =>
    obtain ⟨j, Ar, cr, hj, rfl, rfl, hro, hbq⟩ := hrel
    have hrl : ((List.range j).map (raddN p xs ys)).length = j := by simp
    by_cases hjl : j < xs.length ∨ j < ys.length
    · have hsn := range_snoc (raddN p xs ys) j
      obtain ⟨A9, c9, w9, hrun, hro9, hb9⟩ := app_mp wr w.heap.size (.slice Ar j cr) _ (raddN p xs ys j) hro.out hbq.size (by rw [hrl]; omega)
      rw [← hsn, hrl] at hro9
      rw [hrl] at hrun
      have HA1 : Hid (Calls Tryd.prog 58 #[.slice A1 xs.length c1, .int .i64 (j : Int)] wr fun e w' => e = .returned (.int .u32 ((xs.getD j 0 : Nat) : Int)) ∧ wr = w') := HAT1.out wr j hbq
      have HA2 : Hid (Calls Tryd.prog 58 #[.slice A2 ys.length c2, .int .i64 (j : Int)] wr fun e w' => e = .returned (.int .u32 ((ys.getD j 0 : Nat) : Int)) ∧ wr = w') := HAT2.out wr j hbq
      have HA3 : Hid (Calls Tryd.prog 47 #[.int .u32 ((xs.getD j 0 : Nat) : Int), .int .u32 ((ys.getD j 0 : Nat) : Int), .int .u32 (p : Int)] wr fun r w' => r = .returned (.int .u32 ((raddN p xs ys j : Nat) : Int)) ∧ wr = w') := HADD.out wr _ _ (getD_u32 Hd1.out j) (getD_u32 Hd2.out j)
      obtain ⟨y, hy⟩ : ∃ y, y = raddN p xs ys j := ⟨_, rfl⟩
      obtain ⟨u, hu⟩ : ∃ u, u = xs.getD j 0 := ⟨_, rfl⟩
      obtain ⟨v, hv⟩ : ∃ v, v = ys.getD j 0 := ⟨_, rfl⟩
      rw [← hy] at hrun HA3
      rw [← hu] at HA1 HA3
      rw [← hv] at HA2 HA3
      have Hrun := Lib.hid hrun
      clear hsn hrl hrun hy hu hv hro
      by_cases hjx : j < xs.length
      all_goals
        first | (have hjy : j < ys.length := by omega) | skip
        go_wp2_with (first
          | (go_at_call 58; (with_reducible refine HA1.out.mono ?_); rintro _ _ ⟨rfl, rfl⟩)
          | (go_at_call 58; (with_reducible refine HA2.out.mono ?_); rintro _ _ ⟨rfl, rfl⟩)
          | (go_at_call 47; (with_reducible refine HA3.out.mono ?_); rintro _ _ ⟨rfl, rfl⟩)
          | (at_builtin; refine wpList_append_run rfl _ _ _ _ rfl _ _ rfl rfl _ _ Hrun.out ?_))
        go_roundw
        case rel => exact ⟨j + 1, A9, c9, by omega, by go_num, by go_num, hro9, hbq.trans hb9⟩
        case measure => simp [intOf]; omega
    · have hjx : ¬ (j < xs.length) := by omega
      have hjy : ¬ (j < ys.length) := by omega
      have hcg := radd_cg p xs ys j (by omega) (by omega)
      have HN : Hid (Calls Tryd.prog 19 #[.slice Ar j cr, .int .u32 (p : Int)] wr (PR1 wr (mnP p ((List.range j).map (raddN p xs ys))))) := by
        have h9 := rnorm_any p Ar cr _ wr wr.heap.size hp0 hp hro.out.rd.2.2 (Nat.le_refl _) (by rw [hrl]; unfold Big; omega)
        rw [hrl] at h9
        exact h9
      have Hcg := Lib.hid hcg
      clear hcg hrl hro hjl
      go_wp2_with (go_at_call 19; (with_reducible refine HN.out.mono ?_); rintro _ w8 ⟨v8, rfl, hv8⟩)
      rw [HR.out]
      exact PS.of_norm ⟨_, rfl, hv8.mono hbq⟩ hp0 Hcg.out

set_option maxHeartbeats 1600000 in
theorem rpscale_any (p : Nat) (A : Option Addr) (c m : Nat) (xs : List Nat) (w : World) (B : Nat) (hp0 : 0 < p) (hp : p < 4294967296) (hr : Rd w B A (u32s xs)) (hB : B ≤ w.heap.size) (hm : xs.length ≤ Big) (hd : ∀ x ∈ xs, x < 4294967296) (hml : m < 4294967296) :
    Calls Tryd.prog 32 #[.slice A xs.length c, .int .u32 (m : Int), .int .u32 (p : Int)] w (PS p w (zo xs * .c m)) := by
  have hmx : xs.length ≤ 17592186044416 := hm
  have hdx : Hid (∀ k (h : k < xs.length), xs[k] < 4294967296) := fun k h => hd _ (List.getElem_mem h)
  obtain ⟨R, hR⟩ : ∃ R : Ending → World → Prop, R = PS p w (zo xs * .c m) := ⟨_, rfl⟩
  rw [← hR]
  have HR := Lib.hid hR
  have HMUL : Hid (∀ W (a : Nat), a < 4294967296 → Calls Tryd.prog 56 #[.int .u32 (a : Int), .int .u32 (m : Int), .int .u32 (p : Int)] W fun r w' => r = .returned (.int .u32 ((a * m % p : Nat) : Int)) ∧ W = w') := fun W a ha => (rmul_any a m p ha hml hp hp0 W).mono fun _ _ h => ⟨h.1, h.2.symm⟩
  have Hr := Lib.hid hr
  clear hR hr hd
  go_enter Tryd.func32, Tryd.ntmps32
  go_wp2
  go_loopw [7, 9, 12] (fun rv _ jv wq => ∃ (j : Nat) (Ar : Option Addr) (cr : Nat), j ≤ xs.length ∧ jv = .int .i64 (j : Int) ∧ rv = .slice Ar j cr ∧ Hid (Ro wq w.heap.size 24 (.slice Ar j cr) (u32s ((xs.take j).map fun a => a * m % p))) ∧ Below w.heap.size w wq) (fun _ _ jv _ => xs.length - (intOf jv).toNat)
  case atStart => exact ⟨0, none, 0, by omega, rfl, rfl, Ro.nil_ _ _ _, Below.refl _ _⟩
  case round =>
    obtain ⟨j, Ar, cr, hj, rfl, rfl, hro, hbq⟩ := hrel
    have hrl : ((xs.take j).map fun a => a * m % p).length = j := by simp; omega
    by_cases hjl : j < xs.length
    · obtain ⟨b5, off5, rfl, hb5, hx5⟩ := (Hr.out.below (hbq.mono hB)).at32 hjl
      have hsn : ((xs.take (j + 1)).map fun a => a * m % p) = ((xs.take j).map fun a => a * m % p) ++ [xs[j] * m % p] := by rw [take_snoc hjl, List.map_append]; rfl
      have hxd := hdx.out j hjl
      obtain ⟨x, hx9⟩ : ∃ x, x = xs[j] := ⟨_, rfl⟩
      rw [← hx9] at hx5 hsn hxd
      obtain ⟨A9, c9, w9, hrun, hro9, hb9⟩ := app_mp wr w.heap.size (.slice Ar j cr) _ (x * m % p) hro.out hbq.size (by rw [hrl]; omega)
      rw [← hsn, hrl] at hro9
      rw [hrl] at hrun
      have HM : Hid (Calls Tryd.prog 56 #[.int .u32 (x : Int), .int .u32 (m : Int), .int .u32 (p : Int)] wr fun r w' => r = .returned (.int .u32 ((x * m % p : Nat) : Int)) ∧ wr = w') := HMUL.out wr x hxd
      obtain ⟨y, hy⟩ : ∃ y, y = x * m % p := ⟨_, rfl⟩
      rw [← hy] at hrun HM
      have Hrun := Lib.hid hrun
      clear hx9 hsn hrl hrun hy hro
      go_wp2_with (first
        | (go_at_call 56; (with_reducible refine HM.out.mono ?_); rintro _ _ ⟨rfl, rfl⟩)
        | (at_builtin; refine wpList_append_run rfl _ _ _ _ rfl _ _ rfl rfl _ _ Hrun.out ?_))
      go_roundw
      case rel => exact ⟨j + 1, A9, c9, by omega, by go_num, by go_num, hro9, hbq.trans hb9⟩
      case measure => simp [intOf]; omega
    · obtain rfl : j = xs.length := by omega
      rw [List.take_length] at hro hrl
      have HN : Hid (Calls Tryd.prog 19 #[.slice Ar xs.length cr, .int .u32 (p : Int)] wr (PR1 wr (mnP p (xs.map fun a => a * m % p)))) := by
        have h9 := rnorm_any p Ar cr _ wr wr.heap.size hp0 hp hro.out.rd.2.2 (Nat.le_refl _) (by rw [hrl]; unfold Big; omega)
        rw [hrl] at h9
        exact h9
      clear hrl hro hjl
      go_wp2_with (go_at_call 19; (with_reducible refine HN.out.mono ?_); rintro _ w8 ⟨v8, rfl, hv8⟩)
      rw [HR.out]
      refine PS.of_norm ⟨_, rfl, hv8.mono hbq⟩ hp0 ((Cg.of_co (b := sclI m (zi xs)) fun i => ?_).trans (Cg.of_eq fun x => by rw [Z.v_mul, Z.v_c]; show ev (sclI _ _) x = _; rw [ev_sclI, Int.mul_comm]; rfl))
      have e9 : (xs.map fun a => a * m % p).getD i 0 = xs.getD i 0 * m % p := by
        simp only [List.getD_eq_getElem?_getD, List.getElem?_map]
        cases xs[i]? <;> simp
      rw [zi_getD, e9, getD_sclI, zi_getD]
      generalize xs.getD i 0 = y
      have := mod_dvd (y * m) p
      rwa [Int.natCast_mul, Int.mul_comm (y : Int)] at this

set_option maxHeartbeats 1600000 in
theorem rpsub_any (p : Nat) (A1 A2 : Option Addr) (c1 c2 : Nat) (xs ys : List Nat) (w : World) (B : Nat) (hp0 : 0 < p) (hp : p < 4294967296) (hr1 : Rd w B A1 (u32s xs)) (hr2 : Rd w B A2 (u32s ys)) (hB : B ≤ w.heap.size) (hm1 : xs.length ≤ Big) (hm2 : ys.length ≤ Big) (d1 : ∀ x ∈ xs, x < 4294967296) (d2 : ∀ x ∈ ys, x < 4294967296) :
    Calls Tryd.prog 25 #[.slice A1 xs.length c1, .slice A2 ys.length c2, .int .u32 (p : Int)] w (PS p w (zo xs - zo ys)) := by
  obtain ⟨R, hR⟩ : ∃ R : Ending → World → Prop, R = PS p w (zo xs - zo ys) := ⟨_, rfl⟩
  rw [← hR]
  have HR := Lib.hid hR
  have HS : Hid (Calls Tryd.prog 32 #[.slice A2 ys.length c2, .int .u32 ((p - 1 : Nat) : Int), .int .u32 (p : Int)] w (PS p w (zo ys * .c ((p - 1 : Nat) : Int)))) := rpscale_any p A2 c2 (p - 1) ys w B hp0 hp hr2 hB hm2 d2 (by omega)
  have HA : Hid (∀ W A c (b : List Nat), Below w.heap.size w W → Rd W W.heap.size A (u32s b) → Nf p b → Cg p (zo b) (zo ys * .c ((p - 1 : Nat) : Int)) → Calls Tryd.prog 24 #[.slice A1 xs.length c1, .slice A b.length c, .int .u32 (p : Int)] W (PS p W (zo xs - zo ys))) := fun W A c b hW h1 h2 h3 =>
    (rpadd_any p A1 A c1 c xs b W W.heap.size hp0 hp ((hr1.below (hW.mono hB)).mono (Nat.le_trans hB hW.size)) h1 (Nat.le_refl _) hm1 (Nat.le_trans (len_of_c hp0 h2 h3) hm2) d1 (fun x hx => by have := h2.1 x hx; omega)).mono fun _ _ h => h.cg (((Cg.refl _).add h3).trans (minus_one p hp0 _ _))
  have t1 : (p : Int) - 1 = ((p - 1 : Nat) : Int) := by omega
  obtain ⟨p1, hp1⟩ : ∃ p1, p1 = p - 1 := ⟨_, rfl⟩
  rw [← hp1] at t1 HS HA
  have hp1b : p1 < 4294967296 := by omega
  clear hR hr1 hr2 d1 d2 hp1
  go_enter Tryd.func25, Tryd.ntmps25
  go_wp2_with (first
    | (go_at_call 32; (with_reducible refine HS.out.mono ?_); rintro _ w3 ⟨r3, ⟨_, rfl, ⟨A3, c3, rfl, hr3, hb3⟩⟩, hn3, hc3⟩; have Hb3 := Lib.hid hb3; have Hr3 := Lib.hid hr3.rd; have Hn3 := Lib.hid hn3; have Hc3 := Lib.hid hc3; clear hb3 hr3 hn3 hc3)
    | (go_at_call 24; (with_reducible refine (HA.out _ _ _ _ Hb3.out Hr3.out Hn3.out Hc3.out).mono ?_); rintro _ w4 ⟨r4, ⟨v4, rfl, hv4⟩, hn4, hc4⟩))
  rw [HR.out]
  exact ⟨r4, ⟨_, rfl, hv4.mono Hb3.out⟩, hn4, hc4⟩

/-- Are two lists one? -/
theorem rsame_any (A1 A2 : Option Addr) (c1 c2 : Nat) (xs ys : List Nat) (w : World) (B : Nat) (hr1 : Rd w B A1 (u32s xs)) (hr2 : Rd w B A2 (u32s ys)) (hm1 : xs.length ≤ 281474976710656) :
    Calls Tryd.prog 59 #[.slice A1 xs.length c1, .slice A2 ys.length c2] w fun e w' => e = .returned (.bool (decide (xs = ys))) ∧ Dr w w' := by
  by_cases hl : xs.length = ys.length
  · have t1 : ((xs.length : Int) != (ys.length : Int)) = false := by rw [hl]; simp
    have Hr1 := Lib.hid hr1
    have Hr2 := Lib.hid hr2
    have Hl := Lib.hid hl
    obtain ⟨b, hb⟩ : ∃ b, b = decide (xs = ys) := ⟨_, rfl⟩
    rw [← hb]
    have Hb := Lib.hid hb
    obtain ⟨n, hn⟩ : ∃ n, n = ys.length := ⟨_, rfl⟩
    rw [← hn] at t1 ⊢
    have Hn := Lib.hid hn
    clear hr1 hr2 hb hl hn
    go_enter Tryd.func59, Tryd.ntmps59
    go_wp2
    go_loopw [5, 13] (fun _ iv W => ∃ k : Nat, k ≤ xs.length ∧ iv = .int .i64 (k : Int) ∧ Hid (xs.take k = ys.take k) ∧ Dr w W) (fun _ iv _ => xs.length - (intOf iv).toNat)
    case atStart => exact ⟨0, by omega, rfl, (show _ = _ by simp), Dr.refl _⟩
    case round =>
      obtain ⟨k, hk, rfl, hall, hdr⟩ := hrel
      by_cases hlt : k < xs.length
      · have hlt2 : k < ys.length := by have := Hl.out; omega
        have hlt3 : k < n := by have := Hn.out; omega
        obtain ⟨b1, o1, rfl, hb1, hx⟩ := (Hr1.out.dr hdr).at32 hlt
        obtain ⟨b2, o2, rfl, hb2, hy⟩ := (Hr2.out.dr hdr).at32 hlt2
        have e1 := Lib.hid (take_snoc hlt)
        have e2 := Lib.hid (take_snoc hlt2)
        have Hxy : Hid (xs[k] ≠ ys[k] → b = false) := fun hne => by
          rw [Hb.out]
          refine decide_eq_false fun h => hne ?_
          subst h; rfl
        obtain ⟨x, hxe⟩ : ∃ x, x = xs[k] := ⟨_, rfl⟩
        obtain ⟨y, hye⟩ : ∃ y, y = ys[k] := ⟨_, rfl⟩
        rw [← hxe] at hx e1 Hxy
        rw [← hye] at hy e2 Hxy
        clear hxe hye
        go_upto_region 6 with (fail)
        go_quiet (fail)
        have Hdr := Lib.hid hdr
        clear hdr
        by_cases hxy : x = y
        · have t2 : ((x : Int) != (y : Int)) = false := by rw [hxy]; simp
          have Hxy2 := Lib.hid hxy
          clear hxy
          go_wp2_with fail
          go_roundw
          case rel => exact ⟨k + 1, by omega, by go_num, (show _ = _ by rw [e1.out, e2.out, hall.out, Hxy2.out]), Hdr.out.step _⟩
          case measure => simp [intOf]; omega
        · have t2 : ((x : Int) != (y : Int)) = true := by rw [bne_iff_ne]; omega
          have hbf := Lib.hid (Hxy.out hxy)
          clear hxy
          go_wp2_with fail
          go_ret
          exact ⟨by rw [hbf.out]; rfl, Hdr.out.step _⟩
      · have hbt : Hid (b = true) := by
          show b = true
          rw [Hb.out]
          refine decide_eq_true ?_
          have h1 := hall.out
          rwa [List.take_of_length_le (by omega), List.take_of_length_le (by have := Hl.out; omega)] at h1
        have Hdr := Lib.hid hdr
        have hge : xs.length ≤ k := by omega
        clear hdr hlt
        go_wp2_with fail
        go_ret
        exact ⟨by rw [hbt.out]; rfl, Hdr.out⟩
  · have t1 : ((xs.length : Int) != (ys.length : Int)) = true := by rw [bne_iff_ne]; omega
    have e : decide (xs = ys) = false := decide_eq_false fun h => hl (by rw [h])
    rw [e]
    clear hr1 hr2 e hl
    go_enter Tryd.func59, Tryd.ntmps59
    go_wp2
    go_ret
    exact ⟨rfl, Dr.refl _⟩
end
section
open Go.RowKit

theorem take_cg {p : Nat} {xs : List Nat} {i : Nat} (h : i < xs.length) : Cg p (zo (xs.take (i + 1))) (zo (xs.take i) + .c (xs[i] : Nat) * Z.X.pow i) := Cg.of_eq fun x => by
  rw [take_snoc h, Z.v_add, Z.v_mul, Z.v_c, Z.v_pow, Z.v_X]
  show ev (zi _) x = ev (zi _) x + _
  have : zi (xs.take i ++ [xs[i]]) = zi (xs.take i) ++ [(xs[i] : Int)] := by unfold zi; rw [List.map_append]; rfl
  rw [this, ev_snoc, zi_length, List.length_take, Nat.min_eq_left (Nat.le_of_lt h)]

set_option maxHeartbeats 3200000 in
theorem rpmul_any (p : Nat) (A1 A2 : Option Addr) (c1 c2 : Nat) (xs ys : List Nat) (w : World) (B : Nat) (hpr : Pr p) (hp : p < 4294967296) (hr1 : Rd w B A1 (u32s xs)) (hr2 : Rd w B A2 (u32s ys)) (hB : B ≤ w.heap.size) (hm1 : xs.length ≤ Sm) (hm2 : ys.length ≤ Sm) :
    Calls Tryd.prog 20 #[.slice A1 xs.length c1, .slice A2 ys.length c2, .int .u32 (p : Int)] w (PS p w (zo xs * zo ys)) := by
  have hmx : xs.length ≤ 1099511627776 := hm1
  have hmy : ys.length ≤ 1099511627776 := hm2
  have hp0 := hpr.pos
  obtain ⟨R, hR⟩ : ∃ R : Ending → World → Prop, R = PS p w (zo xs * zo ys) := ⟨_, rfl⟩
  rw [← hR]
  have HR := Lib.hid hR
  obtain ⟨a, ha⟩ : ∃ a, a = mnP p xs := ⟨_, rfl⟩
  obtain ⟨b, hb⟩ : ∃ b, b = mnP p ys := ⟨_, rfl⟩
  have Na : Hid (Nf p a) := by rw [ha]; exact mnP_nf hp0 xs
  have Nb : Hid (Nf p b) := by rw [hb]; exact mnP_nf hp0 ys
  have Cab : Hid (Cg p (zo a * zo b) (zo xs * zo ys)) := by rw [ha, hb]; exact (mnP_cg p xs).mul (mnP_cg p ys)
  have lna : a.length ≤ 1099511627776 := by have := mnP_len p xs; rw [← ha] at this; omega
  have lnb : b.length ≤ 1099511627776 := by have := mnP_len p ys; rw [← hb] at this; omega
  have HN1 : Hid (Calls Tryd.prog 19 #[.slice A1 xs.length c1, .int .u32 (p : Int)] w (PR1 w a)) := by
    rw [ha]; exact rnorm_any p A1 c1 xs w B hp0 hp hr1 hB (by unfold Big; omega)
  have HN2 : Hid (∀ W, Below w.heap.size w W → Calls Tryd.prog 19 #[.slice A2 ys.length c2, .int .u32 (p : Int)] W (PR1 W b)) := by
    rw [hb]; exact fun W hW => rnorm_any p A2 c2 ys W W.heap.size hp0 hp ((hr2.below (hW.mono hB)).mono (Nat.le_trans hB hW.size)) (Nat.le_refl _) (by unfold Big; omega)
  have hdx : Hid (∀ k (h : k < a.length), a[k] < p) := fun k h => Na.out.1 _ (List.getElem_mem h)
  have hdy : Hid (∀ k (h : k < b.length), b[k] < p) := fun k h => Nb.out.1 _ (List.getElem_mem h)
  have HMUL : Hid (∀ W (u v : Nat), u < 4294967296 → v < 4294967296 → Calls Tryd.prog 56 #[.int .u32 (u : Int), .int .u32 (v : Int), .int .u32 (p : Int)] W fun r w' => r = .returned (.int .u32 ((u * v % p : Nat) : Int)) ∧ W = w') := fun W u v hu hv => (rmul_any u v p hu hv hp hp0 W).mono fun _ _ h => ⟨h.1, h.2.symm⟩
  have HADD : Hid (∀ W (u v : Nat), u < 4294967296 → v < 4294967296 → Calls Tryd.prog 47 #[.int .u32 (u : Int), .int .u32 (v : Int), .int .u32 (p : Int)] W fun r w' => r = .returned (.int .u32 (((u + v) % p : Nat) : Int)) ∧ W = w') := fun W u v hu hv => (radd_any u v p hu hv hp hp0 W).mono fun _ _ h => ⟨h.1, h.2.symm⟩
  clear hR hr1 hr2 ha hb
  by_cases hz : a = [] ∨ b = []
  · -- nothing
    have Hz : Hid (Cg p (zo []) (zo xs * zo ys)) := by
      show Cg _ _ _
      refine Cg.trans (Cg.of_eq fun x => ?_) Cab.out
      rw [Z.v_mul, zo_nil]
      rcases hz with rfl | rfl
      · rw [zo_nil]; omega
      · rw [zo_nil]; omega
    have T1 : (a.length = 0) ∨ (0 < a.length ∧ b.length = 0) := by
      rcases hz with rfl | rfl
      · exact Or.inl rfl
      · by_cases h : a.length = 0
        · exact Or.inl h
        · exact Or.inr ⟨by omega, rfl⟩
    have HN1' := HN1.out
    obtain ⟨n, hn⟩ : ∃ n, n = a.length := ⟨_, rfl⟩
    obtain ⟨m, hm⟩ : ∃ m, m = b.length := ⟨_, rfl⟩
    have HL : Hid (a.length = n ∧ b.length = m) := ⟨hn.symm, hm.symm⟩
    rw [← hn, ← hm] at T1
    clear hz hn hm
    go_enter Tryd.func20, Tryd.ntmps20
    go_upto_region 2 with (first
      | (go_at_call 19; (with_reducible refine HN1.out.mono ?_); rintro _ w3 ⟨_, rfl, ⟨A3, c3, rfl, hr3, hb3⟩⟩; have Hb3 := Lib.hid hb3; clear hb3 hr3)
      | (go_at_call 19; (with_reducible refine (HN2.out _ Hb3.out).mono ?_); rintro _ w4 ⟨_, rfl, ⟨A4, c4, rfl, hr4, hb4⟩⟩; have Hb4 := Lib.hid hb4; clear hb4 hr4))
    rw [HL.out.1, HL.out.2]
    have hw4 : Below w.heap.size w w4 := Hb3.out.trans (Hb4.out.mono Hb3.out.size)
    have Hw4 := Lib.hid hw4
    clear hw4
    rcases T1 with h1 | ⟨h1, h2⟩
    · subst h1
      go_wp2
      rw [HR.out]
      exact ⟨[], ⟨_, rfl, PR.none_ Hw4.out⟩, Nf.nil_ p, Hz.out⟩
    · subst h2
      have z1 : ((n : Int) == 0) = false := bz h1
      go_wp2
      rw [HR.out]
      exact ⟨[], ⟨_, rfl, PR.none_ Hw4.out⟩, Nf.nil_ p, Hz.out⟩
  · have na : a ≠ [] := fun h => hz (Or.inl h)
    have nb : b ≠ [] := fun h => hz (Or.inr h)
    have l1 := len_pos na
    have l2 := len_pos nb
    have z1 : ((a.length : Int) == 0) = false := bz l1
    have z2 : ((b.length : Int) == 0) = false := bz l2
    obtain ⟨n, hn⟩ : ∃ n, n = a.length + b.length - 1 := ⟨_, rfl⟩
    have hmk := fun W => mkP n (by omega) W
    have z3 : (a.length : Int) + (b.length : Int) = ((n + 1 : Nat) : Int) := by omega
    have hnb : n ≤ 2199023255552 := by omega
    have Hn : Hid (n + 1 = a.length + b.length) := by show _ = _; omega
    clear hz na nb hn
    go_enter Tryd.func20, Tryd.ntmps20
    go_upto_region 2 with (first
      | (go_at_call 19; (with_reducible refine HN1.out.mono ?_); rintro _ w3 ⟨_, rfl, ⟨A3, c3, rfl, hr3, hb3⟩⟩; have Hb3 := Lib.hid hb3; have Hr3 := Lib.hid hr3.rd; clear hb3 hr3)
      | (go_at_call 19; (with_reducible refine (HN2.out _ Hb3.out).mono ?_); rintro _ w4 ⟨_, rfl, ⟨A4, c4, rfl, hr4, hb4⟩⟩; have Hb4 := Lib.hid hb4; have Hr4 := Lib.hid hr4.rd; clear hb4 hr4))
    have Hr3' := Lib.hid ((Hr3.out.below Hb4.out).mono Hb4.out.size)
    have Hw4 := Lib.hid (Hb3.out.trans (Hb4.out.mono Hb3.out.size))
    go_wp2
    obtain ⟨W5, hW5⟩ : ∃ W5, W5 = w4.alloc (.cells (Array.replicate n (Value.int .u32 0)) 24 (0, 0)) := ⟨_, rfl⟩
    have hb5 : Below w4.heap.size w4 W5 := by rw [hW5]; exact (Below.refl _ _).alloc (Nat.le_refl _) _
    have hblk0 : Blk W5 w4.heap.size 24 (u32s (List.replicate n 0)) := by rw [hW5]; exact Blk.new_ (repl_u32 n)
    rw [← hW5]
    obtain ⟨g, hg⟩ : ∃ g, g = w4.heap.size := ⟨_, rfl⟩
    rw [← hg] at hb5 hblk0 ⊢
    have Ra := Lib.hid ((Hr3'.out.below (by rw [← hg]; exact hb5)).mono (Nat.le_of_eq hg.symm))
    have Rb := Lib.hid ((Hr4.out.below (by rw [← hg]; exact hb5)).mono (Nat.le_of_eq hg.symm))
    have Hw5 : Hid (Below w.heap.size w W5) := Hw4.out.trans (hb5.mono (by have := Hw4.out.size; omega))
    have hgw : w.heap.size ≤ g := by have := Hw4.out.size; omega
    have Hblk0 := Lib.hid hblk0
    clear hW5 hg hb5 hblk0 hmk Hr3 Hr4 Hr3'
    go_loopw [8, 9, 35] (fun _ _ iv wr => ∃ (i : Nat) (L : List Nat), i ≤ a.length ∧ iv = .int .i64 (i : Int) ∧ Hid (L.length = n) ∧ Hid (∀ x ∈ L, x < p) ∧ Hid (Cg p (zo L) (zo (a.take i) * zo b)) ∧ Hid (Blk wr g 24 (u32s L)) ∧ Ch g W5 wr) (fun _ _ iv _ => a.length - (intOf iv).toNat)
    case atStart => exact ⟨0, List.replicate n 0, by omega, rfl, (show _ = _ by simp), (show ∀ x ∈ _, _ from fun x h => by rw [(List.mem_replicate.1 h).2]; exact hp0), (show Cg _ _ _ from Cg.of_eq fun x => by
        rw [Z.v_mul, List.take_zero, zo_nil, Int.zero_mul]
        clear Hblk0 Hn hnb z3
        induction n with
        | zero => rfl
        | succ n ih => rw [List.replicate_succ, zo_cons, ih]; simp), Hblk0, Ch.refl _ _⟩
    case round =>
      obtain ⟨i, L, hi, rfl, hLl, hLd, hLc, hblk, hch⟩ := hrel
      by_cases hlt : i < a.length
      · obtain ⟨b1, o1, rfl, hb1, hcx⟩ := (Ra.out.ch hch (Nat.le_refl _)).at32 hlt
        have hxd := hdx.out i hlt
        have Htk : Hid (Cg p (zo (a.take (i + 1))) (zo (a.take i) + .c (a[i] : Nat) * Z.X.pow i)) := take_cg hlt
        obtain ⟨x, hxe⟩ : ∃ x, x = a[i] := ⟨_, rfl⟩
        rw [← hxe] at hcx hxd Htk
        clear hxe
        have Hch := Lib.hid hch
        clear hch
        go_wp2
        go_loopw [10, 11, 42] (fun _ _ jv wq => ∃ j : Nat, j ≤ b.length ∧ jv = .int .i64 (j : Int) ∧ Hid (Blk wq g 24 (u32s (dstep p x i b L j))) ∧ Ch g W5 wq) (fun _ _ jv _ => b.length - (intOf jv).toNat)
        case atStart => exact ⟨0, by omega, rfl, hblk, Hch.out⟩
        case round =>
          obtain ⟨j, hj, rfl, hblk2, hch⟩ := hrel
          by_cases hlt2 : j < b.length
          · obtain ⟨b2, o2, e9, hb2, hcy⟩ := (Rb.out.ch hch (Nat.le_refl _)).at32 hlt2
            subst e9
            have hyd := hdy.out j hlt2
            have hDl : (dstep p x i b L j).length = n := by rw [dstep_length]; exact hLl.out
            have hij : i + j < n := by have := Hn.out; omega
            have hcl := (hblk2.out.cell (i + j)).trans (u32s_getD (by omega))
            have hfz := hblk2.out.frozen (i + j)
            have hvd : (dstep p x i b L j).getD (i + j) 0 < p := by
              rw [List.getD_eq_getElem?_getD, List.getElem?_eq_getElem (by omega)]
              exact dstep_lt hp0 hLd.out j _ (List.getElem_mem _)
            have hE : (dstep p x i b L j).set (i + j) (((dstep p x i b L j).getD (i + j) 0 + x * b[j]) % p) = dstep p x i b L (j + 1) := by
              rw [dstep, List.getD_eq_getElem?_getD (l := b), List.getElem?_eq_getElem hlt2]; rfl
            obtain ⟨v, hv⟩ : ∃ v, v = (dstep p x i b L j).getD (i + j) 0 := ⟨_, rfl⟩
            obtain ⟨y, hye⟩ : ∃ y, y = b[j] := ⟨_, rfl⟩
            rw [← hv] at hcl hvd hE
            rw [← hye] at hcy hyd hE
            obtain ⟨m, hm⟩ : ∃ m, m = x * y % p := ⟨_, rfl⟩
            obtain ⟨r, hre⟩ : ∃ r, r = (v + m) % p := ⟨_, rfl⟩
            have hmp : m < p := by rw [hm]; exact Nat.mod_lt _ hp0
            have er : r = (v + x * y) % p := by rw [hre, hm, Nat.add_mod_mod]
            have hset := hblk2.out.set_ (i + j) (.int .u32 (r : Int))
            rw [u32s_set, er, hE, ← er] at hset
            have HM : Hid (∀ W, Calls Tryd.prog 56 #[.int .u32 (x : Int), .int .u32 (y : Int), .int .u32 (p : Int)] W fun r w' => r = .returned (.int .u32 (m : Int)) ∧ W = w') := by rw [hm]; exact fun W => HMUL.out W x y (by omega) (by omega)
            have HA : Hid (∀ W, Calls Tryd.prog 47 #[.int .u32 (v : Int), .int .u32 (m : Int), .int .u32 (p : Int)] W fun z w' => z = .returned (.int .u32 (r : Int)) ∧ W = w') := by rw [hre]; exact fun W => HADD.out W v m (by omega) (by omega)
            obtain ⟨ij, hije⟩ : ∃ ij, ij = i + j := ⟨_, rfl⟩
            rw [← hije] at hcl hfz hset hij
            have t5 : (i : Int) + (j : Int) = (ij : Int) := by omega
            have Hset := Lib.hid hset
            clear hset hE hv hye hm hre er hije hDl
            go_upto_region 11 with (fail)
            have q8 : IntKind.i64.wrap (ij : Int) = ij := IntWalk.i64_in _ (by omega)
            refine region_quiet_tail 17 (by kernel_rfl) (by kernel_rfl) ?_
            simp only [List.take_succ_cons, List.take_zero, List.drop_succ_cons, List.drop_zero]
            repeat (quiet_step ((first | (go_at_call 56; first | exact quietL (HM.out _) | exact quietAddL (HM.out _)) | (go_at_call 47; first | exact quietL (HA.out _) | exact quietAddL (HA.out _)))))
            refine wpQuiet_nil ?_
            rintro _ ⟨nq, rfl⟩
            clear q8
            go_wp2_with fail
            go_roundw
            case rel => exact ⟨j + 1, by omega, by go_num, Hset.out, (hch.drewN nq).setCell _ _⟩
            case measure => simp [intOf]; omega
          · obtain rfl : j = b.length := by omega
            have Hc2 : Hid (Cg p (zo (dstep p x i b L b.length)) (zo (a.take (i + 1)) * zo b)) := by
              show Cg _ _ _
              refine (dstep_cg (by rw [hLl.out]; have := Hn.out; omega)).trans ?_
              exact hLc.out.lin2 Htk.out (.c 1) (.c (-1) * zo b) fun x => by simp only [Z.v_add, Z.v_mul, Z.v_c]; grind
            go_wp2_with fail
            go_roundw
            case rel => exact ⟨i + 1, dstep p x i b L b.length, by omega, by go_num, (show _ = _ by rw [dstep_length]; exact hLl.out), (show ∀ x ∈ _, _ from dstep_lt hp0 hLd.out _), Hc2, hblk2, hch⟩
            case measure => simp [intOf]; omega
      · obtain rfl : i = a.length := by omega
        have HN : Hid (Calls Tryd.prog 19 #[.slice (some ⟨g, 0, none⟩) n n, .int .u32 (p : Int)] wr (PR1 wr (mnP p L))) := by
          have h9 := rnorm_any p (some ⟨g, 0, none⟩) n L wr wr.heap.size hp0 hp (Rd.of_blk hblk.out hblk.out.lt 0 (fun k v hv => by rw [Nat.zero_add]; exact hv)) (Nat.le_refl _) (by rw [hLl.out]; unfold Big; omega)
          rw [hLl.out] at h9
          exact h9
        have Hch := Lib.hid hch
        clear hch hlt
        go_wp2_with (go_at_call 19; (with_reducible refine HN.out.mono ?_); rintro _ w8 ⟨v8, rfl, hv8⟩)
        rw [HR.out]
        have h9 := hLc.out
        rw [List.take_length] at h9
        exact PS.of_norm ⟨_, rfl, hv8.mono (Hw5.out.trans (Hch.out.below hgw))⟩ hp0 (h9.trans Cab.out)
end
section
open Go.RowKit

theorem mnP_id {p : Nat} {a : List Nat} (h : Nf p a) : mnP p a = a := by
  unfold mnP
  have : a.map (· % p) = a := by
    conv => rhs; rw [← List.map_id a]
    exact List.map_congr_left fun x hx => Nat.mod_eq_of_lt (h.1 x hx)
  rw [this, h.2]
theorem mnP_trim {p : Nat} {a : List Nat} (h : ∀ x ∈ a, x < p) : mnP p a = trimL a := by
  unfold mnP
  have : a.map (· % p) = a := by
    conv => rhs; rw [← List.map_id a]
    exact List.map_congr_left fun x hx => Nat.mod_eq_of_lt (h x hx)
  rw [this]
theorem sub_dstep {p c y v : Nat} (hp : 0 < p) (hc : c < p) : (v + (p - c * y % p % p)) % p = (v + (p - c) * y) % p := by
  rw [Nat.mod_mod]
  have h1 := Nat.div_add_mod (c * y) p
  have h2 := Nat.mod_lt (c * y) hp
  generalize c * y % p = t at h1 h2 ⊢
  generalize c * y / p = q at h1
  have h3 : (p - c) * y + c * y = p * y := by rw [← Nat.add_mul, Nat.sub_add_cancel (Nat.le_of_lt hc)]
  generalize (p - c) * y = u at h3 ⊢
  have h4 : (v + (p - t)) + p * y = (v + u) + p * (q + 1) := by rw [Nat.mul_add]; omega
  rw [← Nat.add_mul_mod_self_left (v + (p - t)) p y, h4, Nat.add_mul_mod_self_left]

set_option maxHeartbeats 6400000 in
theorem rpdiv_any (p : Nat) (A1 A2 : Option Addr) (c1 c2 : Nat) (xs ys : List Nat) (w : World) (B : Nat) (hpr : Pr p) (hp : p < 4294967296) (hr1 : Rd w B A1 (u32s xs)) (hr2 : Rd w B A2 (u32s ys)) (hB : B ≤ w.heap.size) (hm1 : xs.length ≤ 8796093022208) (hm2 : ys.length ≤ 8796093022208) (nz : mnP p ys ≠ []) :
    Calls Tryd.prog 49 #[.slice A1 xs.length c1, .slice A2 ys.length c2, .int .u32 (p : Int)] w (PD p w (mnP p xs) (mnP p ys)) := by
  have hp0 := hpr.pos
  obtain ⟨a, ha⟩ : ∃ a, a = mnP p xs := ⟨_, rfl⟩
  obtain ⟨b, hb⟩ : ∃ b, b = mnP p ys := ⟨_, rfl⟩
  have Na : Hid (Nf p a) := by rw [ha]; exact mnP_nf hp0 xs
  have Nb : Hid (Nf p b) := by rw [hb]; exact mnP_nf hp0 ys
  have lna : a.length ≤ 8796093022208 := by have := mnP_len p xs; rw [← ha] at this; omega
  have lnb : b.length ≤ 8796093022208 := by have := mnP_len p ys; rw [← hb] at this; omega
  have HN1 : Hid (Calls Tryd.prog 19 #[.slice A1 xs.length c1, .int .u32 (p : Int)] w (PR1 w a)) := by
    rw [ha]; exact rnorm_any p A1 c1 xs w B hp0 hp hr1 hB (by unfold Big; omega)
  have HN2 : Hid (∀ W, Below w.heap.size w W → Calls Tryd.prog 19 #[.slice A2 ys.length c2, .int .u32 (p : Int)] W (PR1 W b)) := by
    rw [hb]; exact fun W hW => rnorm_any p A2 c2 ys W W.heap.size hp0 hp ((hr2.below (hW.mono hB)).mono (Nat.le_trans hB hW.size)) (Nat.le_refl _) (by unfold Big; omega)
  rw [← ha, ← hb]
  rw [← hb] at nz
  obtain ⟨R, hR⟩ : ∃ R : Ending → World → Prop, R = PD p w a b := ⟨_, rfl⟩
  rw [← hR]
  have HR := Lib.hid hR
  have l2 := len_pos nz
  have Hnz := Lib.hid nz
  clear hR hr1 hr2 ha hb nz
  by_cases hl : a.length < b.length
  · go_enter Tryd.func49, Tryd.ntmps49
    go_upto_region 2 with (first
      | (go_at_call 19; (with_reducible refine HN1.out.mono ?_); rintro _ w3 ⟨_, rfl, ⟨A3, c3, rfl, hr3, hb3⟩⟩; have Hb3 := Lib.hid hb3; have Hr3 := Lib.hid hr3; clear hb3 hr3)
      | (go_at_call 19; (with_reducible refine (HN2.out _ Hb3.out).mono ?_); rintro _ w4 ⟨_, rfl, ⟨A4, c4, rfl, hr4, hb4⟩⟩; have Hb4 := Lib.hid hb4; have Hr4 := Lib.hid hr4; clear hb4 hr4))
    have Hw4 := Lib.hid (Hb3.out.trans (Hb4.out.mono Hb3.out.size))
    go_wp2
    rw [HR.out]
    have pa : PR w w3 (.slice A3 a.length c3) a := ⟨A3, c3, rfl, Hr3.out, Hb3.out⟩
    exact ⟨[], a, _, _, rfl, PR.none_ Hw4.out, pa.later Hb4.out, ⟨Nf.nil_ p, Na.out, hl, Cg.of_eq fun x => by rw [Z.v_add, Z.v_mul, zo_nil]; omega⟩⟩
  · have hla : b.length ≤ a.length := by omega
    obtain ⟨n, hn⟩ : ∃ n, n = a.length - b.length + 1 := ⟨_, rfl⟩
    obtain ⟨m, hm⟩ : ∃ m, m = b.length - 1 := ⟨_, rfl⟩
    have hmk := fun W => mkP n (by omega) W
    have hdy : Hid (∀ k (h : k < b.length), b[k] < p) := fun k h => Nb.out.1 _ (List.getElem_mem h)
    have HMUL : Hid (∀ W (u v : Nat), u < 4294967296 → v < 4294967296 → Calls Tryd.prog 56 #[.int .u32 (u : Int), .int .u32 (v : Int), .int .u32 (p : Int)] W fun r w' => r = .returned (.int .u32 ((u * v % p : Nat) : Int)) ∧ W = w') := fun W u v hu hv => (rmul_any u v p hu hv hp hp0 W).mono fun _ _ h => ⟨h.1, h.2.symm⟩
    have HSUB : Hid (∀ W (u v : Nat), u < 4294967296 → v < 4294967296 → Calls Tryd.prog 74 #[.int .u32 (u : Int), .int .u32 (v : Int), .int .u32 (p : Int)] W fun r w' => r = .returned (.int .u32 (((u + (p - v % p)) % p : Nat) : Int)) ∧ Dr W w') := fun W u v hu hv => rsub_any u v p hu hv hp hp0 W
    have HINV : Hid (∀ W (u : Nat), u < 4294967296 → Calls Tryd.prog 57 #[.int .u32 (u : Int), .int .u32 (p : Int)] W fun r w' => r = .returned (.int .u32 ((invN p u : Nat) : Int)) ∧ W = w') := fun W u hu => (rinv_any u p hu hp hpr.two W).mono fun _ _ h => ⟨h.1, h.2.symm⟩
    have T0 : ¬ (a.length < b.length) := by omega
    have z1 : (a.length : Int) - (b.length : Int) + 1 = (n : Int) := by omega
    have z2 : (b.length : Int) - 1 = (m : Int) := by omega
    have hmy : m < b.length := by omega
    have HDl := Lib.hid (Dl.start hp0 Na.out.1 hla)
    rw [← hn] at HDl
    have hnb : n ≤ 8796093022209 := by omega
    have Hn := Lib.hid hn
    have Hm := Lib.hid hm
    have hbg : b.getD m 0 = b[m] := by rw [List.getD_eq_getElem?_getD, List.getElem?_eq_getElem hmy]; rfl
    have hyt : b.getD m 0 % p ≠ 0 := by
      rw [hm]
      intro h; exact Nb.out.top hp0 Hnz.out (Int.natCast_dvd_natCast.2 (Nat.dvd_of_mod_eq_zero h))
    have hyd := hdy.out m hmy
    rw [hbg] at hyt
    obtain ⟨y, hye⟩ : ∃ y, y = b[m] := ⟨_, rfl⟩
    have Hyg : Hid (b.getD m 0 = y) := by show _ = _; rw [hbg, hye]
    have HY : Hid (b[m] = y) := hye.symm
    rw [← hye] at hyd hyt
    obtain ⟨u, hu⟩ : ∃ u, u = invN p y := ⟨_, rfl⟩
    have hup : u < p := by rw [hu]; exact invN_lt hp0 y
    have huy : Hid (y * u % p = 1) := by show _ = _; rw [hu]; exact hpr.inv_right (fun hd => hyt (Nat.mod_eq_zero_of_dvd hd))
    have HI : Hid (∀ W, Calls Tryd.prog 57 #[.int .u32 (y : Int), .int .u32 (p : Int)] W fun r w' => r = .returned (.int .u32 (u : Int)) ∧ W = w') := by rw [hu]; exact fun W => HINV.out W y (by omega)
    clear hl hn hm hu hbg hyt hye
    go_enter Tryd.func49, Tryd.ntmps49
    go_upto_region 2 with (first
      | (go_at_call 19; (with_reducible refine HN1.out.mono ?_); rintro _ w3 ⟨_, rfl, ⟨A3, c3, rfl, hr3, hb3⟩⟩; have Hb3 := Lib.hid hb3; have Hr3 := Lib.hid hr3; clear hb3 hr3)
      | (go_at_call 19; (with_reducible refine (HN2.out _ Hb3.out).mono ?_); rintro _ w4 ⟨_, rfl, ⟨A4, c4, rfl, hr4, hb4⟩⟩; have Hb4 := Lib.hid hb4; have Hr4 := Lib.hid hr4; clear hb4 hr4))
    have Hw4 := Lib.hid (Hb3.out.trans (Hb4.out.mono Hb3.out.size))
    obtain ⟨ga, rest, rfl, hga, hblkA3, _⟩ := Hr3.out.2.2 (by intro e; have := u32s_length a; rw [e] at this; simp at this; omega)
    have hblkA4 := hblkA3.below Hb4.out hblkA3.lt
    have hga4 : ga < w4.heap.size := hblkA4.lt
    have Rb4 := Lib.hid Hr4.out.rd
    obtain ⟨gb, restb, e4, hgb, hblkB4, _⟩ := Hr4.out.2.2 (by intro e; have := u32s_length b; rw [e] at this; simp at this; omega)
    subst e4
    have hgb4 := hblkB4.lt
    have hga3 := hblkA3.lt
    have hcy := hblkB4.cell m
    rw [List.getElem?_append_left (by rw [u32s_length]; exact hmy), u32s_at hmy, HY.out] at hcy
    have HblkA4 := Lib.hid hblkA4
    have HblkB4 := Lib.hid hblkB4
    have hnab : ¬ (ga = gb) := by omega
    clear hblkA3 hblkA4 hblkB4
    obtain ⟨W5, hW5⟩ : ∃ W5, W5 = w4.alloc (.cells (Array.replicate n (Value.int .u32 0)) 24 (0, 0)) := ⟨_, rfl⟩
    have hb5 : Below w4.heap.size w4 W5 := by rw [hW5]; exact (Below.refl _ _).alloc (Nat.le_refl _) _
    have hblkQ : Blk W5 w4.heap.size 24 (u32s (List.replicate n 0)) := by rw [hW5]; exact Blk.new_ (repl_u32 n)
    obtain ⟨gq, hgq⟩ : ∃ gq, gq = w4.heap.size := ⟨_, rfl⟩
    have hcy5 := (hb5.cell (p := ⟨gb, m, none⟩) hgb4).trans hcy
    have HW5 := Lib.hid hW5
    have Hgq := Lib.hid hgq
    clear hW5 hcy
    go_upto_region 5 with (fail)
    rw [← HW5.out, ← Hgq.out]
    have hblkA5 := HblkA4.out.below hb5 hga4
    have hblkB5 := HblkB4.out.below hb5 hgb4
    rw [← hgq] at hb5 hblkQ hga4 hgb4
    have Hw5 : Hid (Below w.heap.size w W5) := Hw4.out.trans (hb5.mono (by have := Hw4.out.size; omega))
    have hgw : w.heap.size ≤ ga := hga
    have HblkB5 := Lib.hid hblkB5
    clear hgq hb5 hmk HblkA4 HblkB4 Hr3 Hr4 Rb4 hblkB5
    go_wp2_with (first
      | (go_at_call 57; (with_reducible refine (HI.out _).mono ?_); rintro _ _ ⟨rfl, rfl⟩))
    go_loopw [10, 11, 12, 13] (fun iv _ _ _ wr => ∃ (k : Nat) (Q R0 : List Nat), k ≤ n ∧ iv = .int .i64 ((k : Int) - 1) ∧ Hid (Dl p a b Q R0 k) ∧ Hid (Blk wr ga 24 (u32s R0 ++ rest)) ∧ Hid (Blk wr gq 24 (u32s Q)) ∧ Hid (Blk wr gb 24 (u32s b ++ restb)) ∧ Below w.heap.size w wr) (fun iv _ _ _ _ => (intOf iv + 1).toNat)
    case atStart => exact ⟨n, _, _, Nat.le_refl _, rfl, HDl, hblkA5, hblkQ, HblkB5, Hw5.out⟩
    case round =>
      clear hblkA5 hblkQ hcy5
      obtain ⟨k, Q, R0, hk, rfl, hD, hbA, hbQ, hbB, hbel⟩ := hrel
      have hlQ := hD.out.lenQ
      have hlR := hD.out.lenR
      have HlR := Lib.hid hlR
      have HlQ : Hid (Q.length = n) := by show _ = _; have := Hn.out; omega
      have hRd : Rd wr wr.heap.size (some ⟨ga, 0, none⟩) (u32s R0) := Rd.of_blk hbA.out hbA.out.lt 0 (fun k v hv => by rw [Nat.zero_add, List.getElem?_append_left (List.getElem?_eq_some_iff.1 hv).1]; exact hv)
      rcases k with _ | k
      · have e : (((0 : Nat) : Int) - 1) = -1 := rfl
        rw [e]
        have hdn := hD.out.done hpr Na.out Nb.out Hnz.out hla
        have HNq : Hid (Calls Tryd.prog 19 #[.slice (some ⟨gq, 0, none⟩) n n, .int .u32 (p : Int)] wr (PR1 wr Q)) := by
          have h9 := rnorm_any p (some ⟨gq, 0, none⟩) n Q wr wr.heap.size hp0 hp (Rd.of_blk hbQ.out hbQ.out.lt 0 (fun k v hv => by rw [Nat.zero_add]; exact hv)) (Nat.le_refl _) (by rw [HlQ.out]; unfold Big; omega)
          rw [HlQ.out, mnP_id hdn.nq] at h9
          exact h9
        have HNr : Hid (∀ W, Below wr.heap.size wr W → Calls Tryd.prog 19 #[.slice (some ⟨ga, 0, none⟩) a.length c3, .int .u32 (p : Int)] W (PR1 W (trimL R0))) := fun W hW => by
          have h9 := rnorm_any p (some ⟨ga, 0, none⟩) c3 R0 W W.heap.size hp0 hp ((hRd.below hW).mono hW.size) (Nat.le_refl _) (by rw [HlR.out]; unfold Big; omega)
          rw [HlR.out, mnP_trim hD.out.dr] at h9
          exact h9
        have Hbel := Lib.hid hbel
        have Hdn := Lib.hid hdn
        clear hlQ hlR hRd hbel hdn
        go_wp2_with (first
          | (go_at_call 19; (with_reducible refine HNq.out.mono ?_); rintro _ w6 ⟨_, rfl, ⟨A6, c6, rfl, hr6, hb6⟩⟩; have Hb6 := Lib.hid hb6; have Hr6 := Lib.hid hr6; clear hb6 hr6)
          | (go_at_call 19; (with_reducible refine (HNr.out _ Hb6.out).mono ?_); rintro _ w7 ⟨_, rfl, ⟨A7, c7, rfl, hr7, hb7⟩⟩; have Hb7 := Lib.hid hb7; have Hr7 := Lib.hid hr7; clear hb7 hr7))
        rw [HR.out]
        have pq : PR wr w6 (.slice A6 Q.length c6) Q := ⟨A6, c6, rfl, Hr6.out, Hb6.out⟩
        have pr : PR w6 w7 (.slice A7 (trimL R0).length c7) (trimL R0) := ⟨A7, c7, rfl, Hr7.out, Hb7.out⟩
        exact ⟨Q, trimL R0, _, _, rfl, (pq.mono Hbel.out).later Hb7.out, (pr.mono Hb6.out).mono Hbel.out, Hdn.out⟩
      · have e : ((k + 1 : Nat) : Int) - 1 = (k : Int) := by omega
        rw [e]
        obtain ⟨i, hi⟩ : ∃ i, i = k + m := ⟨_, rfl⟩
        have hix : i < a.length := by have := Hn.out; have := Hm.out; omega
        have hkQ : k < Q.length := by have := HlQ.out; omega
        have hkn : k < n := by omega
        have HAT : Hid (Calls Tryd.prog 58 #[.slice (some ⟨ga, 0, none⟩) a.length c3, .int .i64 (i : Int)] wr fun e w' => e = .returned (.int .u32 ((R0.getD i 0 : Nat) : Int)) ∧ wr = w') := by
          have h9 := rat_any (some ⟨ga, 0, none⟩) c3 i R0 wr wr.heap.size hRd (by rw [HlR.out]; omega)
          rw [HlR.out] at h9
          exact h9.mono fun _ _ h => ⟨h.1, h.2.symm⟩
        have hdR : R0.getD i 0 < p := by
          rw [List.getD_eq_getElem?_getD, List.getElem?_eq_getElem (show i < R0.length by omega)]; exact hD.out.dr _ (List.getElem_mem _)
        obtain ⟨t, ht⟩ : ∃ t, t = R0.getD i 0 := ⟨_, rfl⟩
        rw [← ht] at hdR HAT
        obtain ⟨d, hd⟩ : ∃ d, d = t * u % p := ⟨_, rfl⟩
        have hdp : d < p := by rw [hd]; exact Nat.mod_lt _ hp0
        have HT : Hid (∀ W, Calls Tryd.prog 56 #[.int .u32 (t : Int), .int .u32 (u : Int), .int .u32 (p : Int)] W fun e w' => e = .returned (.int .u32 (d : Int)) ∧ W = w') := by rw [hd]; exact fun W => HMUL.out W t u (by omega) (by omega)
        obtain ⟨s, hs⟩ : ∃ s, s = k + b.length := ⟨_, rfl⟩
        have t1 : (k : Int) + (b.length : Int) = (s : Int) := by omega
        have t2 : (s : Int) - 1 = (i : Int) := by have := Hm.out; omega
        have hsb : s ≤ 17592186044417 := by omega
        obtain ⟨ls, hls⟩ : ∃ ls, ls = p - d := ⟨_, rfl⟩
        have hst : Hid (Dl p a b (Q.set k d) (dstep p ls k b R0 b.length) k) := by
          refine hD.out.step l2 hp0 hkQ hdp ⟨1, by omega⟩ ?_
          have e1 : k + b.length - 1 = i := by have := Hm.out; omega
          have e2 : b.length - 1 = m := by have := Hm.out; omega
          rw [e1, e2, ← ht, Hyg.out]
          exact step_zero (d := d) (u := u) ⟨1, by omega⟩ (by rw [hd]; exact mod_dvd _ _) (by have := mod_dvd (y * u) p; rwa [huy.out] at this)
        have hcq := (hbQ.out.cell k).trans (u32s_getD hkQ)
        have hfq := hbQ.out.frozen k
        have hset := hbQ.out.set_ k (.int .u32 (d : Int))
        rw [u32s_set] at hset
        obtain ⟨W6, hW6⟩ : ∃ W6, W6 = wr.setCell ⟨gq, k, none⟩ (.int .u32 (d : Int)) := ⟨_, rfl⟩
        rw [← hW6] at hset
        have hch6 : Ch gq wr W6 := by rw [hW6]; exact (Ch.refl _ _).setCell _ _
        have hbA6 := hbA.out.ch hch6 (by omega)
        have hbB6 := hbB.out.ch hch6 (by omega)
        have hbel6 : Below w.heap.size w W6 := hbel.trans (hch6.below (by omega))
        have HW6 := Lib.hid hW6
        have Hset := Lib.hid hset
        have HbA6 := Lib.hid hbA6
        have HbB6 := Lib.hid hbB6
        have Hbel6 := Lib.hid hbel6
        have Hls := Lib.hid hls
        have hDR := Lib.hid hD.out.dr
        clear hlQ hlR hRd hbel hs hi ht hd hls hset hW6 hch6 hbA6 hbB6 hbel6
        go_upto_region 11 with (first
          | (go_at_call 58; (with_reducible refine HAT.out.mono ?_); rintro _ _ ⟨rfl, rfl⟩)
          | (go_at_call 56; (with_reducible refine (HT.out _).mono ?_); rintro _ _ ⟨rfl, rfl⟩))
        rw [← HW6.out]
        clear hcq hfq t1 t2
        go_wp2
        go_loopw [12, 13, 64] (fun _ _ jv wq => ∃ j : Nat, j ≤ b.length ∧ jv = .int .i64 (j : Int) ∧ Hid (Blk wq ga 24 (u32s (dstep p ls k b R0 j) ++ rest)) ∧ Ch ga W6 wq) (fun _ _ jv _ => b.length - (intOf jv).toNat)
        case atStart => exact ⟨0, by omega, rfl, HbA6, Ch.refl _ _⟩
        case round =>
          obtain ⟨j, hj, rfl, hblk2, hch⟩ := hrel
          by_cases hlt2 : j < b.length
          · have hcy := (HbB6.out.ch hch (fun h => hnab h.symm)).cell j
            rw [List.getElem?_append_left (by rw [u32s_length]; exact hlt2), u32s_at hlt2] at hcy
            have hyj := hdy.out j hlt2
            have hDl : (dstep p ls k b R0 j).length = a.length := by rw [dstep_length]; exact HlR.out
            have hkj : k + j < a.length := by have := Hn.out; omega
            have hcl := hblk2.out.cell (k + j)
            rw [List.getElem?_append_left (by rw [u32s_length]; omega), u32s_getD (by omega)] at hcl
            have hfz := hblk2.out.frozen (k + j)
            have hvd : (dstep p ls k b R0 j).getD (k + j) 0 < p := by
              rw [List.getD_eq_getElem?_getD, List.getElem?_eq_getElem (by omega)]
              exact dstep_lt hp0 hDR.out j _ (List.getElem_mem _)
            have hE : (dstep p ls k b R0 j).set (k + j) (((dstep p ls k b R0 j).getD (k + j) 0 + ls * b[j]) % p) = dstep p ls k b R0 (j + 1) := by
              rw [dstep, List.getD_eq_getElem?_getD (l := b), List.getElem?_eq_getElem hlt2]; rfl
            obtain ⟨v, hv⟩ : ∃ v, v = (dstep p ls k b R0 j).getD (k + j) 0 := ⟨_, rfl⟩
            obtain ⟨yj, hyje⟩ : ∃ yj, yj = b[j] := ⟨_, rfl⟩
            rw [← hv] at hcl hvd hE
            rw [← hyje] at hcy hyj hE
            obtain ⟨mm, hmm⟩ : ∃ mm, mm = d * yj % p := ⟨_, rfl⟩
            have hmp : mm < p := by rw [hmm]; exact Nat.mod_lt _ hp0
            obtain ⟨r, hre⟩ : ∃ r, r = (v + (p - mm % p)) % p := ⟨_, rfl⟩
            have er : r = (v + ls * yj) % p := by rw [hre, hmm, Hls.out, sub_dstep hp0 hdp]
            have hset := hblk2.out.set_ (k + j) (.int .u32 (r : Int))
            rw [List.set_append_left _ _ (by rw [u32s_length]; omega), u32s_set, er, hE, ← er] at hset
            have HM : Hid (∀ W, Calls Tryd.prog 56 #[.int .u32 (d : Int), .int .u32 (yj : Int), .int .u32 (p : Int)] W fun r w' => r = .returned (.int .u32 (mm : Int)) ∧ W = w') := by rw [hmm]; exact fun W => HMUL.out W d yj (by omega) (by omega)
            have HS : Hid (∀ W, Calls Tryd.prog 74 #[.int .u32 (v : Int), .int .u32 (mm : Int), .int .u32 (p : Int)] W fun z w' => z = .returned (.int .u32 (r : Int)) ∧ Dr W w') := by rw [hre]; exact fun W => HSUB.out W v mm (by omega) (by omega)
            obtain ⟨kj, hkje⟩ : ∃ kj, kj = k + j := ⟨_, rfl⟩
            rw [← hkje] at hcl hfz hset hkj
            have t5 : (k : Int) + (j : Int) = (kj : Int) := by omega
            have Hset2 := Lib.hid hset
            clear hset hE hv hyje hmm hre er hkje hDl
            go_upto_region 14 with (fail)
            have q8 : IntKind.i64.wrap (kj : Int) = kj := IntWalk.i64_in _ (by omega)
            refine region_quiet_tail 17 (by kernel_rfl) (by kernel_rfl) ?_
            simp only [List.take_succ_cons, List.take_zero, List.drop_succ_cons, List.drop_zero]
            repeat (quiet_step ((first | (go_at_call 56; first | exact quietL (HM.out _) | exact quietAddL (HM.out _)) | (go_at_call 74; first | exact quietD (HS.out _) | exact quietAddD (HS.out _)))))
            refine wpQuiet_nil ?_
            rintro _ ⟨nq, rfl⟩
            clear q8
            go_wp2_with fail
            go_roundw
            case rel => exact ⟨j + 1, by omega, by go_num, Hset2.out, (hch.drewN nq).setCell _ _⟩
            case measure => simp [intOf]; omega
          · obtain rfl : j = b.length := by omega
            have Hch := Lib.hid hch
            clear hch
            go_wp2_with fail
            go_roundw
            case rel => exact ⟨k, Q.set k d, dstep p ls k b R0 b.length, by omega, rfl, hst, hblk2, (show Blk _ _ _ _ from Hset.out.ch Hch.out (by omega)), (show Blk _ _ _ _ from HbB6.out.ch Hch.out (fun h => hnab h.symm)), Hbel6.out.trans (Hch.out.below hgw)⟩
            case measure => simp [intOf] <;> omega
end
section
open Go.RowKit

/-- One operation: an append whose run is known. -/
theorem step_append_run {P : Program} {w : World} {o : Oper} {a : Act} {K : Act → World → Prop} {Q : Exit → Act → World → Prop} (d s : Operand) (dT sT : TypeId)
    (ho : o.op = .call { callee := .builtin .append, args := #[d, s], argTypes := #[dT, sT] }) (dv sv : Value) (hd : a.eval d = dv) (hs : a.eval s = sv) (v' : Value) (w' : World)
    (hrun : (Builtin.append_ #[dT, sT] o.type #[dv, sv]).run P w = .ok v' w') (h : K (a.put o.dst v') w') : Oper.wp P o a w K Q := by
  unfold Oper.wp
  simp [execOp, ho, resolve, invoke, builtin, hd, hs, hrun, Result.andThen]
  exact h

theorem ret10 {j j1 : Nat} (h : j1 = j + 1) : Value.int .i64 ((j1 : Int) + 1) = Value.int .i64 ((j + 1 + 1 : Nat) : Int) := by subst h; rfl
theorem PM.cong {p : Nat} {w w' : World} {xs : List Nat} {e : Ending} {r : List Nat} (h1 : PR1 w r e w') (h2 : MoOf p xs r) : PM p w xs e w' := ⟨r, h1, h2⟩

set_option maxHeartbeats 1600000 in
theorem rpmonic_any (p : Nat) (A : Option Addr) (c : Nat) (xs : List Nat) (w : World) (B : Nat) (hpr : Pr p) (hp : p < 4294967296) (hr : Rd w B A (u32s xs)) (hB : B ≤ w.heap.size) (hm : xs.length ≤ 8796093022208) :
    Calls Tryd.prog 23 #[.slice A xs.length c, .int .u32 (p : Int)] w (PM p w (mnP p xs)) := by
  have hp0 := hpr.pos
  obtain ⟨a, ha⟩ : ∃ a, a = mnP p xs := ⟨_, rfl⟩
  have Na : Hid (Nf p a) := by rw [ha]; exact mnP_nf hp0 xs
  have lna : a.length ≤ 8796093022208 := by have := mnP_len p xs; rw [← ha] at this; omega
  have HN1 : Hid (Calls Tryd.prog 19 #[.slice A xs.length c, .int .u32 (p : Int)] w (PR1 w a)) := by
    rw [ha]; exact rnorm_any p A c xs w B hp0 hp hr hB (by unfold Big; omega)
  rw [← ha]
  obtain ⟨R, hR⟩ : ∃ R : Ending → World → Prop, R = PM p w a := ⟨_, rfl⟩
  rw [← hR]
  have HR := Lib.hid hR
  clear hR hr ha
  by_cases na : a = []
  · have Hna := Lib.hid na
    have z1 : ((a.length : Int) == 0) = true := by rw [na]; rfl
    clear na
    go_enter Tryd.func23, Tryd.ntmps23
    go_wp2_with (go_at_call 19; (with_reducible refine HN1.out.mono ?_); rintro _ w3 ⟨_, rfl, ⟨A3, c3, rfl, hr3, hb3⟩⟩; have Hb3 := Lib.hid hb3; clear hr3 hb3)
    rw [HR.out, Hna.out]
    exact ⟨[], ⟨_, rfl, PR.none_ Hb3.out⟩, MoOf.none_ p⟩
  · have l1 := len_pos na
    have z1 : ((a.length : Int) == 0) = false := bz l1
    obtain ⟨m, hm⟩ : ∃ m, m = a.length - 1 := ⟨_, rfl⟩
    have hmx : m < a.length := by omega
    have z2 : (a.length : Int) - 1 = (m : Int) := by omega
    have hyt : a.getD m 0 % p ≠ 0 := by
      rw [hm]
      intro h; exact Na.out.top hp0 na (Int.natCast_dvd_natCast.2 (Nat.dvd_of_mod_eq_zero h))
    have hxd := Na.out.getD_lt hp0 m
    have hxg : a.getD m 0 = a[m] := by rw [List.getD_eq_getElem?_getD, List.getElem?_eq_getElem hmx]; rfl
    obtain ⟨t, ht⟩ : ∃ t, t = a.getD m 0 := ⟨_, rfl⟩
    have HT : Hid (a[m] = t) := by show _ = _; rw [ht, hxg]
    rw [← ht] at hyt hxd
    obtain ⟨u, hu⟩ : ∃ u, u = invN p t := ⟨_, rfl⟩
    have hut : Hid (a.getD (a.length - 1) 0 * u % p = 1) := by show _ = _; rw [← hm, ← ht, hu]; exact hpr.inv_right (fun hd => hyt (Nat.mod_eq_zero_of_dvd hd))
    have hul : u < p := by rw [hu]; exact invN_lt hp0 t
    have HI : Hid (∀ W, Calls Tryd.prog 57 #[.int .u32 (t : Int), .int .u32 (p : Int)] W fun r w' => r = .returned (.int .u32 (u : Int)) ∧ W = w') := by rw [hu]; exact fun W => (rinv_any t p (by omega) hp hpr.two W).mono fun _ _ h => ⟨h.1, h.2.symm⟩
    have HS : Hid (∀ W A c, Rd W W.heap.size A (u32s a) → Calls Tryd.prog 32 #[.slice A a.length c, .int .u32 (u : Int), .int .u32 (p : Int)] W (PS p W (zo a * .c u))) := fun W A c h =>
      rpscale_any p A c u a W _ hp0 hp h (Nat.le_refl _) (by unfold Big; omega) (fun x hx => by have := Na.out.1 x hx; omega) (by omega)
    have Hna := Lib.hid na
    clear na hm hu ht hxg hyt
    go_enter Tryd.func23, Tryd.ntmps23
    go_upto_region 2 with (go_at_call 19; (with_reducible refine HN1.out.mono ?_); rintro _ w3 ⟨_, rfl, ⟨A3, c3, rfl, hr3, hb3⟩⟩)
    have Hrd3 := Lib.hid hr3.rd
    obtain ⟨b, off, rfl, hb, hcx⟩ := hr3.rd.at32 hmx
    rw [HT.out] at hcx
    have Hb3 := Lib.hid hb3
    clear hr3 hb3
    go_wp2_with (first
      | (go_at_call 57; (with_reducible refine (HI.out _).mono ?_); rintro _ _ ⟨rfl, rfl⟩)
      | (go_at_call 32; (with_reducible refine (HS.out _ _ _ Hrd3.out).mono ?_); rintro _ w4 ⟨r4, ⟨v4, rfl, hv4⟩, hn4, hc4⟩))
    rw [HR.out]
    exact ⟨r4, ⟨_, rfl, hv4.mono Hb3.out⟩, MoOf.of_inv hpr Na.out Hna.out hn4 hut.out hc4⟩

set_option maxHeartbeats 1600000 in
theorem rpgcd_any (p : Nat) (A1 A2 : Option Addr) (c1 c2 : Nat) (xs ys : List Nat) (w : World) (B : Nat) (hpr : Pr p) (hp : p < 4294967296) (hr1 : Rd w B A1 (u32s xs)) (hr2 : Rd w B A2 (u32s ys)) (hB : B ≤ w.heap.size) (hm1 : xs.length ≤ Sm) (hm2 : ys.length ≤ Sm) :
    Calls Tryd.prog 38 #[.slice A1 xs.length c1, .slice A2 ys.length c2, .int .u32 (p : Int)] w (PG p w (zo xs) (zo ys)) := by
  have hmx : xs.length ≤ 1099511627776 := hm1
  have hmy : ys.length ≤ 1099511627776 := hm2
  have hp0 := hpr.pos
  obtain ⟨R, hR⟩ : ∃ R : Ending → World → Prop, R = PG p w (zo xs) (zo ys) := ⟨_, rfl⟩
  rw [← hR]
  have HR := Lib.hid hR
  obtain ⟨a, ha⟩ : ∃ a, a = mnP p xs := ⟨_, rfl⟩
  obtain ⟨b, hb⟩ : ∃ b, b = mnP p ys := ⟨_, rfl⟩
  have Na : Nf p a := by rw [ha]; exact mnP_nf hp0 xs
  have Nb : Nf p b := by rw [hb]; exact mnP_nf hp0 ys
  have Ca : Cg p (zo a) (zo xs) := by rw [ha]; exact mnP_cg p xs
  have Cb : Cg p (zo b) (zo ys) := by rw [hb]; exact mnP_cg p ys
  have lna : a.length ≤ 1099511627776 := by have := mnP_len p xs; rw [← ha] at this; omega
  have lnb : b.length ≤ 1099511627776 := by have := mnP_len p ys; rw [← hb] at this; omega
  have HN1 : Hid (Calls Tryd.prog 19 #[.slice A1 xs.length c1, .int .u32 (p : Int)] w (PR1 w a)) := by
    rw [ha]; exact rnorm_any p A1 c1 xs w B hp0 hp hr1 hB (by unfold Big; omega)
  have HN2 : Hid (∀ W, Below w.heap.size w W → Calls Tryd.prog 19 #[.slice A2 ys.length c2, .int .u32 (p : Int)] W (PR1 W b)) := by
    rw [hb]; exact fun W hW => rnorm_any p A2 c2 ys W W.heap.size hp0 hp ((hr2.below (hW.mono hB)).mono (Nat.le_trans hB hW.size)) (Nat.le_refl _) (by unfold Big; omega)
  have HDIV : Hid (∀ (W : World) A A' c c' (a b : List Nat), Rd W W.heap.size A (u32s a) → Rd W W.heap.size A' (u32s b) → a.length ≤ 1099511627776 → b.length ≤ 1099511627776 → Nf p a → Nf p b → b ≠ [] → Calls Tryd.prog 49 #[.slice A a.length c, .slice A' b.length c', .int .u32 (p : Int)] W (PD p W a b)) :=
    fun W A A' c c' a b h1 h2 h3 h4 h5 h6 h7 => by
      have h9 := rpdiv_any p A A' c c' a b W _ hpr hp h1 h2 (Nat.le_refl _) (by omega) (by omega) (by rw [mnP_id h6]; exact h7)
      rwa [mnP_id h5, mnP_id h6] at h9
  have HMON : Hid (∀ (W : World) A c (a : List Nat), Rd W W.heap.size A (u32s a) → a.length ≤ 1099511627776 → Nf p a → Calls Tryd.prog 23 #[.slice A a.length c, .int .u32 (p : Int)] W (PM p W a)) :=
    fun W A c a h1 h3 h5 => by
      have h9 := rpmonic_any p A c a W _ hpr hp h1 (Nat.le_refl _) (by omega)
      rwa [mnP_id h5] at h9
  have Hst : Hid (∀ g, Gc p (zo a) (zo b) g → Gc p (zo xs) (zo ys) g) := fun g h => by
    obtain ⟨s, t, hl⟩ := h.lin
    exact ⟨h.nf, h.mo, ⟨s, t, hl.trans (((Cg.refl s).mul Ca).add ((Cg.refl t).mul Cb))⟩, h.left.cg Ca, h.right.cg Cb⟩
  have HNa := Lib.hid Na
  have HNb := Lib.hid Nb
  clear hR hr1 hr2 ha hb Na Nb Ca Cb
  go_enter Tryd.func38, Tryd.ntmps38
  go_wp2_with (first
    | (go_at_call 19; (with_reducible refine HN1.out.mono ?_); rintro _ w3 ⟨_, rfl, ⟨A3, c3, rfl, hr3, hb3⟩⟩; have Hb3 := Lib.hid hb3; have Hr3 := Lib.hid hr3.rd; clear hb3 hr3)
    | (go_at_call 19; (with_reducible refine (HN2.out _ Hb3.out).mono ?_); rintro _ w4 ⟨_, rfl, ⟨A4, c4, rfl, hr4, hb4⟩⟩; have Hb4 := Lib.hid hb4; have Hr4 := Lib.hid hr4.rd; clear hb4 hr4))
  have Hw4 := Lib.hid (Hb3.out.trans (Hb4.out.mono Hb3.out.size))
  have Hr3' := Lib.hid ((Hr3.out.below Hb4.out).mono Hb4.out.size)
  go_loopw [0, 1, 7, 8] (fun va vb _ _ wr => ∃ (u v : List Nat) (A A' : Option Addr) (c c' : Nat), va = .slice A u.length c ∧ vb = .slice A' v.length c' ∧ Hid (Rd wr wr.heap.size A (u32s u)) ∧ Hid (Rd wr wr.heap.size A' (u32s v)) ∧ u.length ≤ 1099511627776 ∧ v.length ≤ 1099511627776 ∧ Hid (Nf p u) ∧ Hid (Nf p v) ∧ Hid (∀ g, Gc p (zo u) (zo v) g → Gc p (zo xs) (zo ys) g) ∧ Below w.heap.size w wr) (fun _ vb _ _ _ => match vb with | .slice _ n _ => n | _ => 0)
  case atStart => exact ⟨a, b, A3, A4, c3, c4, rfl, rfl, Hr3', Hr4, lna, lnb, HNa, HNb, Hst, Hw4.out⟩
  case round =>
    obtain ⟨u, v, A, A', c, c', rfl, rfl, ru, rv, lu, lv, nu, nv, hG, hbel⟩ := hrel
    have Hbel := Lib.hid hbel
    clear hbel
    by_cases n0 : v = []
    · subst n0
      go_wp2_with (go_at_call 23; (with_reducible refine (HMON.out _ _ _ _ ru.out lu nu.out).mono ?_); rintro _ w2 ⟨r, ⟨v9, rfl, hpv⟩, hmo⟩)
      rw [HR.out]
      exact ⟨r, ⟨_, rfl, hpv.mono Hbel.out⟩, hG.out _ hmo.gc⟩
    · have z1 : (0 : Int) < (v.length : Int) := by have := len_pos n0; omega
      have Hn0 := Lib.hid n0
      clear n0
      go_wp2_with (go_at_call 49; (with_reducible refine (HDIV.out _ _ _ _ _ _ _ ru.out rv.out lu lv nu.out nv.out Hn0.out).mono ?_); rintro _ w2 ⟨q, r, _, _, rfl, ⟨Aq, cq, rfl, _, _⟩, ⟨Ar, cr, rfl, hres, hb2⟩, hdv⟩)
      go_roundw
      case rel =>
        exact ⟨v, r, A', Ar, c', cr, rfl, rfl, (rv.out.below hb2).mono hb2.size, hres.rd, lv, Nat.le_trans (Nat.le_of_lt hdv.lt) lv, nv, hdv.nr, (show ∀ g, _ → _ from fun g h => hG.out g (Gc.step hdv h)), Hbel.out.trans (hb2.mono Hbel.out.size)⟩
      case measure => have := hdv.lt; simpa using this

set_option maxHeartbeats 1600000 in
theorem rpeval_any (p : Nat) (A : Option Addr) (c : Nat) (xs : List Nat) (x : Nat) (w : World) (B : Nat) (hp0 : 0 < p) (hp : p < 4294967296) (hr : Rd w B A (u32s xs)) (hm : xs.length ≤ Big) (d1 : ∀ x ∈ xs, x < 4294967296) (hx : x < 4294967296) :
    Calls Tryd.prog 37 #[.slice A xs.length c, .int .u32 (x : Int), .int .u32 (p : Int)] w fun e w' => e = .returned (.int .u32 ((evN p xs x : Nat) : Int)) ∧ Dr w w' := by
  unfold Big at hm
  have hdx : Hid (∀ k (h : k < xs.length), xs[k] < 4294967296) := fun k h => d1 _ (List.getElem_mem h)
  have t4 : ((p : Int) == 0) = false := bz hp0
  have HMUL : Hid (∀ W (u : Nat), u < 4294967296 → Calls Tryd.prog 56 #[.int .u32 (u : Int), .int .u32 (x : Int), .int .u32 (p : Int)] W fun r w' => r = .returned (.int .u32 ((u * x % p : Nat) : Int)) ∧ W = w') := fun W u hu => (rmul_any u x p hu hx hp hp0 W).mono fun _ _ h => ⟨h.1, h.2.symm⟩
  have HADD : Hid (∀ W (u v : Nat), u < 4294967296 → v < 4294967296 → Calls Tryd.prog 47 #[.int .u32 (u : Int), .int .u32 (v : Int), .int .u32 (p : Int)] W fun r w' => r = .returned (.int .u32 (((u + v) % p : Nat) : Int)) ∧ W = w') := fun W u v hu hv => (radd_any u v p hu hv hp hp0 W).mono fun _ _ h => ⟨h.1, h.2.symm⟩
  have Hr := Lib.hid hr
  clear hr d1
  go_enter Tryd.func37, Tryd.ntmps37
  go_wp2
  go_loopw [7, 8] (fun ov iv W => ∃ k : Nat, k ≤ xs.length ∧ ov = .int .u32 ((evN p (xs.drop k) x : Nat) : Int) ∧ iv = .int .i64 ((k : Int) - 1) ∧ Dr w W) (fun _ iv _ => (intOf iv + 1).toNat)
  case atStart => exact ⟨xs.length, Nat.le_refl _, by simp [evN], rfl, Dr.refl _⟩
  case round =>
    obtain ⟨k, hk, rfl, rfl, hdr⟩ := hrel
    have ho := evN_lt hp0 (xs.drop k) x
    rcases k with _ | k
    · have e : (((0 : Nat) : Int) - 1) = -1 := rfl
      rw [e]
      rw [List.drop_zero] at ho ⊢
      obtain ⟨o, hoe⟩ : ∃ o, o = evN p xs x := ⟨_, rfl⟩
      rw [← hoe] at ho ⊢
      have t5 : (o : Int) % (p : Int) = (o : Int) := Int.emod_eq_of_lt (by omega) (by omega)
      have H5 := Lib.hid t5
      have Hdr := Lib.hid hdr
      have Hoe := Lib.hid hoe
      clear hoe t5
      go_wp2_with fail
      go_ret
      exact ⟨by rw [← Hoe.out]; show Ending.returned (.int .u32 ((o : Int) % (p : Int))) = _; rw [H5.out], Hdr.out⟩
    · have e : ((k + 1 : Nat) : Int) - 1 = (k : Int) := by omega
      rw [e]
      obtain ⟨b, o1, rfl, hb, hcx⟩ := (Hr.out.dr hdr).at32 (show k < xs.length by omega)
      have hcd := hdx.out k (by omega)
      have HE : Hid (evN p (xs.drop k) x = (evN p (xs.drop (k + 1)) x * x + xs[k]) % p) := by show _ = _; rw [List.drop_eq_getElem_cons (show k < xs.length by omega)]; rfl
      obtain ⟨o, hoe⟩ : ∃ o, o = evN p (xs.drop (k + 1)) x := ⟨_, rfl⟩
      obtain ⟨cf, hcf⟩ : ∃ cf, cf = xs[k] := ⟨_, rfl⟩
      rw [← hoe] at ho HE ⊢
      rw [← hcf] at hcx hcd HE
      obtain ⟨m, hm⟩ : ∃ m, m = o * x % p := ⟨_, rfl⟩
      have hmp : m < p := by rw [hm]; exact Nat.mod_lt _ hp0
      obtain ⟨r, hre⟩ : ∃ r, r = (m + cf) % p := ⟨_, rfl⟩
      have HR2 : Hid (evN p (xs.drop k) x = r) := by show _ = _; rw [HE.out, hre, hm, Nat.mod_add_mod]
      have HM : Hid (∀ W, Calls Tryd.prog 56 #[.int .u32 (o : Int), .int .u32 (x : Int), .int .u32 (p : Int)] W fun r w' => r = .returned (.int .u32 (m : Int)) ∧ W = w') := by rw [hm]; exact fun W => HMUL.out W o (by omega)
      have HA : Hid (∀ W, Calls Tryd.prog 47 #[.int .u32 (m : Int), .int .u32 (cf : Int), .int .u32 (p : Int)] W fun z w' => z = .returned (.int .u32 (r : Int)) ∧ W = w') := by rw [hre]; exact fun W => HADD.out W m cf (by omega) (by omega)
      have hkl : k < xs.length := by omega
      clear hoe hcf hm hre
      go_upto_region 5 with (fail)
      go_quiet ((first | (go_at_call 56; first | exact quietL (HM.out _) | exact quietAddL (HM.out _)) | (go_at_call 47; first | exact quietL (HA.out _) | exact quietAddL (HA.out _))))
      go_wp2_with fail
      go_roundw
      case rel => exact ⟨k, by omega, by rw [HR2.out], rfl, hdr.step _⟩
      case measure => simp [intOf] <;> omega

set_option maxRecDepth 20000 in
set_option maxHeartbeats 1600000 in
theorem rpderiv_any (p : Nat) (A : Option Addr) (c : Nat) (xs : List Nat) (w : World) (B : Nat) (hp0 : 0 < p) (hp : p < 4294967296) (hr : Rd w B A (u32s xs)) (hB : B ≤ w.heap.size) (hm : xs.length ≤ 4000000000) (d1 : ∀ x ∈ xs, x < 4294967296) :
    Calls Tryd.prog 36 #[.slice A xs.length c, .int .u32 (p : Int)] w (PR1 w (derP p xs)) := by
  have hdx : Hid (∀ k (h : k < xs.length), xs[k] < 4294967296) := fun k h => d1 _ (List.getElem_mem h)
  have t4 : ((p : Int) == 0) = false := bz hp0
  have HMUL : Hid (∀ W (u v : Nat), u < 4294967296 → v < 4294967296 → Calls Tryd.prog 56 #[.int .u32 (u : Int), .int .u32 (v : Int), .int .u32 (p : Int)] W fun r w' => r = .returned (.int .u32 ((u * v % p : Nat) : Int)) ∧ W = w') := fun W u v hu hv => (rmul_any u v p hu hv hp hp0 W).mono fun _ _ h => ⟨h.1, h.2.symm⟩
  obtain ⟨R, hR⟩ : ∃ R : Ending → World → Prop, R = PR1 w (derP p xs) := ⟨_, rfl⟩
  rw [← hR]
  have HR := Lib.hid hR
  have Hr := Lib.hid hr
  clear hR hr d1
  go_enter Tryd.func36, Tryd.ntmps36
  go_wp2
  go_loopw [5, 6] (fun rv jv wq => ∃ (j : Nat) (Ar : Option Addr) (cr : Nat), j ≤ xs.length - 1 ∧ jv = .int .i64 ((j + 1 : Nat) : Int) ∧ rv = .slice Ar j cr ∧ Hid (Ro wq w.heap.size 24 (.slice Ar j cr) (u32s ((List.range j).map (derN p xs)))) ∧ Below w.heap.size w wq) (fun _ jv _ => xs.length - (intOf jv).toNat)
  case atStart => exact ⟨0, none, 0, by omega, rfl, rfl, Ro.nil_ _ _ _, Below.refl _ _⟩
  case round =>
    obtain ⟨j, Ar, cr, hj, rfl, rfl, hro, hbq⟩ := hrel
    have hrl : ((List.range j).map (derN p xs)).length = j := by simp
    obtain ⟨j1, hj1⟩ : ∃ j1, j1 = j + 1 := ⟨_, rfl⟩
    rw [← hj1]
    by_cases hjl : j1 < xs.length
    · obtain ⟨b5, off5, rfl, hb5, hx5⟩ := (Hr.out.below (hbq.mono hB)).at32 hjl
      have hxd := hdx.out j1 hjl
      have hjn : j + 1 ≤ xs.length - 1 := by omega
      have hsn := range_snoc (derN p xs) j
      have HE : Hid (derN p xs j = xs[j1] * (j1 % p) % p) := by
        show _ = _
        unfold derN
        rw [← hj1, List.getD_eq_getElem?_getD, List.getElem?_eq_getElem hjl, Nat.mul_comm]; rfl
      obtain ⟨x, hxe⟩ : ∃ x, x = xs[j1] := ⟨_, rfl⟩
      rw [← hxe] at hx5 hxd HE
      obtain ⟨u, hu⟩ : ∃ u, u = j1 % p := ⟨_, rfl⟩
      have hup : u < p := by rw [hu]; exact Nat.mod_lt _ hp0
      obtain ⟨y, hy⟩ : ∃ y, y = derN p xs j := ⟨_, rfl⟩
      have HM : Hid (∀ W, Calls Tryd.prog 56 #[.int .u32 (x : Int), .int .u32 (u : Int), .int .u32 (p : Int)] W fun r w' => r = .returned (.int .u32 (y : Int)) ∧ W = w') := by rw [hy, HE.out, ← hu]; exact fun W => HMUL.out W x u hxd (by omega)
      have t5 : (j1 : Int).tmod (p : Int) = (u : Int) := by rw [tmodN, hu]
      rw [← hy] at hsn
      have Hsn := Lib.hid hsn
      have Hrl := Lib.hid hrl
      have Hj1 := Lib.hid hj1
      have hj1b : j1 < 4294967296 := by omega
      have Hbq := Lib.hid hbq
      clear hxe hu hy hsn hrl hj1 hbq
      go_upto_region 5 with (fail)
      have q1 := w32 (n := j1) (by omega)
      have q2 := w32 (n := u) (by omega)
      have q7 : p ≠ 0 := by omega
      have Q8 : Hid (wrap64 ((j1 : Int) + 1) = (j1 : Int) + 1) := IntWalk.wrap64_in _ (by omega)
      obtain ⟨A9, c9, w9, hrun, hro9, hb9⟩ := app_mp wr.drew w.heap.size (.slice Ar j cr) _ y (hro.out.drewN 1) Hbq.out.size (by rw [Hrl.out]; omega)
      rw [← Hsn.out, Hrl.out] at hro9
      rw [Hrl.out] at hrun
      have Hrun := Lib.hid hrun
      have hb9' : Below w.heap.size w w9 := (Hbq.out.trans ((Dr.refl wr).drew.below _)).trans hb9
      have Hb9 := Lib.hid hb9'
      have Hro9 := Lib.hid hro9
      have Hx9 : Hid (w9.cell? ⟨b5, off5 + j1, none⟩ = some (.int .u32 (x : Int))) := (hb9.cell (p := ⟨b5, off5 + j1, none⟩) (by show b5 < _; omega)).trans hx5
      have Hjn := Lib.hid hjn
      clear hrun hb9' hb9 hro9 hjn hj
      have hal : ∀ o, (wr.drew.alloc o).cell? ⟨b5, off5 + j1, none⟩ = some (.int .u32 (x : Int)) := fun o => (World.cell?_alloc_past _ _ _ (by have := Hbq.out.size; show b5 < wr.heap.size; omega)).trans hx5
      have Hm := Lib.hid hm
      clear hm hj1b
      go_region_held3 (fun W => W.cell? ⟨b5, off5 + j1, none⟩ = some (.int .u32 (x : Int))) (first | exact hal _ | exact Hx9.out | go_keep) (first
        | (go_at_call 56; (with_reducible refine (HM.out _).mono ?_); rintro _ _ ⟨rfl, rfl⟩)
        | (refine step_append_run (.tmp 13) (.tmp 24) 23 23 rfl (.slice Ar j cr) (.slice (some ⟨wr.heap.size, 0, none⟩) 1 1) rfl rfl (.slice A9 (j + 1) c9) w9 Hrun.out ?_)
        | (rw [if_pos (by kernel_rfl)]; refine step_append_run (.tmp 13) (.tmp 24) 23 23 rfl (.slice Ar j cr) (.slice (some ⟨wr.heap.size, 0, none⟩) 1 1) rfl rfl (.slice A9 (j + 1) c9) w9 Hrun.out ?_))
      all_goals clear q1 q2 q7 t5
      all_goals go_wp2_with fail
      go_roundw
      case rel => exact ⟨j + 1, A9, c9, Hjn.out, (show Value.int .i64 (wrap64 ((j1 : Int) + 1)) = _ by rw [Q8.out]; exact ret10 Hj1.out), rfl, Hro9, Hb9.out⟩
      case measure =>
        rw [Q8.out]
        show xs.length - ((j1 : Int) + 1).toNat < xs.length - (j1 : Int).toNat
        omega
    · have hje : j = xs.length - 1 := by omega
      have HN : Hid (Calls Tryd.prog 19 #[.slice Ar j cr, .int .u32 (p : Int)] wr (PR1 wr (derP p xs))) := by
        have h9 := rnorm_any p Ar cr _ wr wr.heap.size hp0 hp hro.out.rd.2.2 (Nat.le_refl _) (by rw [hrl]; unfold Big; omega)
        rw [hrl] at h9
        have e9 : mnP p ((List.range j).map (derN p xs)) = derP p xs := by
          rw [mnP_trim (fun x hx => by obtain ⟨i, _, rfl⟩ := List.mem_map.1 hx; exact Nat.mod_lt _ hp0), hje]; rfl
        rw [e9] at h9
        exact h9
      have Hbq := Lib.hid hbq
      clear hrl hro hje hj1 hbq
      go_wp2_with (go_at_call 19; (with_reducible refine HN.out.mono ?_); rintro _ w8 ⟨v8, rfl, hv8⟩)
      rw [HR.out]
      exact ⟨_, rfl, hv8.mono Hbq.out⟩
end
end Go.Proofs.YtddhhndnkjajmaaDoor
