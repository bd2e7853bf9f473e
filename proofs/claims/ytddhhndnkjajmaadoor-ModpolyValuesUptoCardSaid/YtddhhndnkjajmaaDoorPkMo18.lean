/- The reference's Monic, Gcd, Eval, Deriv, Pow on polynomials modulo a prime. Conditions: it is below 2^32. The small functions of layer 8's law. Conditions: as each states. A polynomial in memory of its own, with room behind it; is it kept; spoil. Conditions: as each states. The calls of modpoly and of its reference, each: just this list is answered. Conditions: as each states. -/
import Derived.Test.YtddhhndnkjajmaaDoorPkMo17
import Derived.Test.YtddhhndnkjajmaaDoorPkMo16
namespace Go.Proofs.YtddhhndnkjajmaaDoor
section
open Go.RowKit

/-- One operation: an append whose run is known. -/
theorem step_append_run {P : Program} {w : World} {o : Oper} {a : Act} {K : Act → World → Prop} {Q : Exit → Act → World → Prop} (d s : Operand) (dT sT : TypeId)
    (ho : o.op = .call { callee := .builtin .append, args := #[d, s], argTypes := #[dT, sT] }) (dv sv : Value) (hd : a.eval d = dv) (hs : a.eval s = sv) (v' : Value) (w' : World)
    (hrun : (Builtin.append_ #[dT, sT] o.type #[dv, sv]).run P w = .ok v' w') (h : K (a.put o.dst v') w') : Oper.wp P o a w K Q := by
  unfold Oper.wp
  simp [execOp, ho, resolve, invoke, builtin, hd, hs, hrun, Result.andThen]
  exact h

theorem ret10 {j j1 : Nat} (h : j1 = j + 1) : Value.int .i64 ((j1 : Int) + 1) = Value.int .i64 ((j + 1 + 1 : Nat) : Int) := by subst h; rfl
set_option maxHeartbeats 1600000 in
theorem rpmonic_any (p : Nat) (A : Option Addr) (c : Nat) (xs : List Nat) (w : World) (B : Nat) (hpr : Pr p) (hp : p < 4294967296) (hr : Rd w B A (u32s xs)) (hB : B ≤ w.heap.size) (hm : xs.length ≤ 8796093022208) :
    Calls Tryd.prog 23 #[.slice A xs.length c, .int .u32 (p : Int)] w (PM p w (mnP p xs)) := by
  have hp0 := hpr.pos
  obtain ⟨a, ha⟩ : ∃ a, a = mnP p xs := ⟨_, rfl⟩
  have Na : Hid (Nf p a) := by rw [ha]; exact mnP_nf hp0 xs
  have lna : a.length ≤ 8796093022208 := by have := mnP_len p xs; rw [← ha] at this; omega
  have HN1 : Hid (Calls Tryd.prog 19 #[.slice A xs.length c, .int .u32 (p : Int)] w (PR1 w a)) := by
    rw [ha]; exact rnorm_any p A c xs w B hp0 hp hr hB (by unfold Big; omega)
  rw [← ha]
  obtain ⟨R, hR⟩ : ∃ R : Ending → World → Prop, R = PM p w a := ⟨_, rfl⟩
  rw [← hR]
  have HR := Lib.hid hR
  clear hR hr ha
  by_cases na : a = []
  · have Hna := Lib.hid na
    have z1 : ((a.length : Int) == 0) = true := by rw [na]; rfl
    clear na
    go_enter Tryd.func23, Tryd.ntmps23
    go_wp2_with (go_at_call 19; (with_reducible refine HN1.out.mono ?_); rintro _ w3 ⟨_, rfl, ⟨A3, c3, rfl, hr3, hb3⟩⟩; have Hb3 := Lib.hid hb3; clear hr3 hb3)
    rw [HR.out, Hna.out]
    exact ⟨[], ⟨_, rfl, PR.none_ Hb3.out⟩, MoOf.none_ p⟩
  · have l1 := len_pos na
    have z1 : ((a.length : Int) == 0) = false := bz l1
    obtain ⟨m, hm⟩ : ∃ m, m = a.length - 1 := ⟨_, rfl⟩
    have hmx : m < a.length := by omega
    have z2 : (a.length : Int) - 1 = (m : Int) := by omega
    have hyt : a.getD m 0 % p ≠ 0 := by
      rw [hm]
      intro h; exact Na.out.top hp0 na (Int.natCast_dvd_natCast.2 (Nat.dvd_of_mod_eq_zero h))
    have hxd := Na.out.getD_lt hp0 m
    have hxg : a.getD m 0 = a[m] := by rw [List.getD_eq_getElem?_getD, List.getElem?_eq_getElem hmx]; rfl
    obtain ⟨t, ht⟩ : ∃ t, t = a.getD m 0 := ⟨_, rfl⟩
    have HT : Hid (a[m] = t) := by show _ = _; rw [ht, hxg]
    rw [← ht] at hyt hxd
    obtain ⟨u, hu⟩ : ∃ u, u = invN p t := ⟨_, rfl⟩
    have hut : Hid (a.getD (a.length - 1) 0 * u % p = 1) := by show _ = _; rw [← hm, ← ht, hu]; exact hpr.inv_right (fun hd => hyt (Nat.mod_eq_zero_of_dvd hd))
    have hul : u < p := by rw [hu]; exact invN_lt hp0 t
    have HI : Hid (∀ W, Calls Tryd.prog 57 #[.int .u32 (t : Int), .int .u32 (p : Int)] W fun r w' => r = .returned (.int .u32 (u : Int)) ∧ W = w') := by rw [hu]; exact fun W => (rinv_any t p (by omega) hp hpr.two W).mono fun _ _ h => ⟨h.1, h.2.symm⟩
    have HS : Hid (∀ W A c, Rd W W.heap.size A (u32s a) → Calls Tryd.prog 32 #[.slice A a.length c, .int .u32 (u : Int), .int .u32 (p : Int)] W (PS p W (zo a * .c u))) := fun W A c h =>
      rpscale_any p A c u a W _ hp0 hp h (Nat.le_refl _) (by unfold Big; omega) (fun x hx => by have := Na.out.1 x hx; omega) (by omega)
    have Hna := Lib.hid na
    clear na hm hu ht hxg hyt
    go_enter Tryd.func23, Tryd.ntmps23
    go_upto_region 2 with (go_at_call 19; (with_reducible refine HN1.out.mono ?_); rintro _ w3 ⟨_, rfl, ⟨A3, c3, rfl, hr3, hb3⟩⟩)
    have Hrd3 := Lib.hid hr3.rd
    obtain ⟨b, off, rfl, hb, hcx⟩ := hr3.rd.at32 hmx
    rw [HT.out] at hcx
    have Hb3 := Lib.hid hb3
    clear hr3 hb3
    go_wp2_with (first
      | (go_at_call 57; (with_reducible refine (HI.out _).mono ?_); rintro _ _ ⟨rfl, rfl⟩)
      | (go_at_call 32; (with_reducible refine (HS.out _ _ _ Hrd3.out).mono ?_); rintro _ w4 ⟨r4, ⟨v4, rfl, hv4⟩, hn4, hc4⟩))
    rw [HR.out]
    exact ⟨r4, ⟨_, rfl, hv4.mono Hb3.out⟩, MoOf.of_inv hpr Na.out Hna.out hn4 hut.out hc4⟩

set_option maxHeartbeats 1600000 in
theorem rpgcd_any (p : Nat) (A1 A2 : Option Addr) (c1 c2 : Nat) (xs ys : List Nat) (w : World) (B : Nat) (hpr : Pr p) (hp : p < 4294967296) (hr1 : Rd w B A1 (u32s xs)) (hr2 : Rd w B A2 (u32s ys)) (hB : B ≤ w.heap.size) (hm1 : xs.length ≤ Sm) (hm2 : ys.length ≤ Sm) :
    Calls Tryd.prog 38 #[.slice A1 xs.length c1, .slice A2 ys.length c2, .int .u32 (p : Int)] w (PG p w (zo xs) (zo ys)) := by
  have hmx : xs.length ≤ 1099511627776 := hm1
  have hmy : ys.length ≤ 1099511627776 := hm2
  have hp0 := hpr.pos
  obtain ⟨R, hR⟩ : ∃ R : Ending → World → Prop, R = PG p w (zo xs) (zo ys) := ⟨_, rfl⟩
  rw [← hR]
  have HR := Lib.hid hR
  obtain ⟨a, ha⟩ : ∃ a, a = mnP p xs := ⟨_, rfl⟩
  obtain ⟨b, hb⟩ : ∃ b, b = mnP p ys := ⟨_, rfl⟩
  have Na : Nf p a := by rw [ha]; exact mnP_nf hp0 xs
  have Nb : Nf p b := by rw [hb]; exact mnP_nf hp0 ys
  have Ca : Cg p (zo a) (zo xs) := by rw [ha]; exact mnP_cg p xs
  have Cb : Cg p (zo b) (zo ys) := by rw [hb]; exact mnP_cg p ys
  have lna : a.length ≤ 1099511627776 := by have := mnP_len p xs; rw [← ha] at this; omega
  have lnb : b.length ≤ 1099511627776 := by have := mnP_len p ys; rw [← hb] at this; omega
  have HN1 : Hid (Calls Tryd.prog 19 #[.slice A1 xs.length c1, .int .u32 (p : Int)] w (PR1 w a)) := by
    rw [ha]; exact rnorm_any p A1 c1 xs w B hp0 hp hr1 hB (by unfold Big; omega)
  have HN2 : Hid (∀ W, Below w.heap.size w W → Calls Tryd.prog 19 #[.slice A2 ys.length c2, .int .u32 (p : Int)] W (PR1 W b)) := by
    rw [hb]; exact fun W hW => rnorm_any p A2 c2 ys W W.heap.size hp0 hp ((hr2.below (hW.mono hB)).mono (Nat.le_trans hB hW.size)) (Nat.le_refl _) (by unfold Big; omega)
  have HDIV : Hid (∀ (W : World) A A' c c' (a b : List Nat), Rd W W.heap.size A (u32s a) → Rd W W.heap.size A' (u32s b) → a.length ≤ 1099511627776 → b.length ≤ 1099511627776 → Nf p a → Nf p b → b ≠ [] → Calls Tryd.prog 49 #[.slice A a.length c, .slice A' b.length c', .int .u32 (p : Int)] W (PD p W a b)) :=
    fun W A A' c c' a b h1 h2 h3 h4 h5 h6 h7 => by
      have h9 := rpdiv_any p A A' c c' a b W _ hpr hp h1 h2 (Nat.le_refl _) (by omega) (by omega) (by rw [mnP_id h6]; exact h7)
      rwa [mnP_id h5, mnP_id h6] at h9
  have HMON : Hid (∀ (W : World) A c (a : List Nat), Rd W W.heap.size A (u32s a) → a.length ≤ 1099511627776 → Nf p a → Calls Tryd.prog 23 #[.slice A a.length c, .int .u32 (p : Int)] W (PM p W a)) :=
    fun W A c a h1 h3 h5 => by
      have h9 := rpmonic_any p A c a W _ hpr hp h1 (Nat.le_refl _) (by omega)
      rwa [mnP_id h5] at h9
  have Hst : Hid (∀ g, Gc p (zo a) (zo b) g → Gc p (zo xs) (zo ys) g) := fun g h => by
    obtain ⟨s, t, hl⟩ := h.lin
    exact ⟨h.nf, h.mo, ⟨s, t, hl.trans (((Cg.refl s).mul Ca).add ((Cg.refl t).mul Cb))⟩, h.left.cg Ca, h.right.cg Cb⟩
  have HNa := Lib.hid Na
  have HNb := Lib.hid Nb
  clear hR hr1 hr2 ha hb Na Nb Ca Cb
  go_enter Tryd.func38, Tryd.ntmps38
  go_wp2_with (first
    | (go_at_call 19; (with_reducible refine HN1.out.mono ?_); rintro _ w3 ⟨_, rfl, ⟨A3, c3, rfl, hr3, hb3⟩⟩; have Hb3 := Lib.hid hb3; have Hr3 := Lib.hid hr3.rd; clear hb3 hr3)
    | (go_at_call 19; (with_reducible refine (HN2.out _ Hb3.out).mono ?_); rintro _ w4 ⟨_, rfl, ⟨A4, c4, rfl, hr4, hb4⟩⟩; have Hb4 := Lib.hid hb4; have Hr4 := Lib.hid hr4.rd; clear hb4 hr4))
  have Hw4 := Lib.hid (Hb3.out.trans (Hb4.out.mono Hb3.out.size))
  have Hr3' := Lib.hid ((Hr3.out.below Hb4.out).mono Hb4.out.size)
  go_loopw [0, 1, 7, 8] (fun va vb _ _ wr => ∃ (u v : List Nat) (A A' : Option Addr) (c c' : Nat), va = .slice A u.length c ∧ vb = .slice A' v.length c' ∧ Hid (Rd wr wr.heap.size A (u32s u)) ∧ Hid (Rd wr wr.heap.size A' (u32s v)) ∧ u.length ≤ 1099511627776 ∧ v.length ≤ 1099511627776 ∧ Hid (Nf p u) ∧ Hid (Nf p v) ∧ Hid (∀ g, Gc p (zo u) (zo v) g → Gc p (zo xs) (zo ys) g) ∧ Below w.heap.size w wr) (fun _ vb _ _ _ => match vb with | .slice _ n _ => n | _ => 0)
  case atStart => exact ⟨a, b, A3, A4, c3, c4, rfl, rfl, Hr3', Hr4, lna, lnb, HNa, HNb, Hst, Hw4.out⟩
  case round =>
    obtain ⟨u, v, A, A', c, c', rfl, rfl, ru, rv, lu, lv, nu, nv, hG, hbel⟩ := hrel
    have Hbel := Lib.hid hbel
    clear hbel
    by_cases n0 : v = []
    · subst n0
      go_wp2_with (go_at_call 23; (with_reducible refine (HMON.out _ _ _ _ ru.out lu nu.out).mono ?_); rintro _ w2 ⟨r, ⟨v9, rfl, hpv⟩, hmo⟩)
      rw [HR.out]
      exact ⟨r, ⟨_, rfl, hpv.mono Hbel.out⟩, hG.out _ hmo.gc⟩
    · have z1 : (0 : Int) < (v.length : Int) := by have := len_pos n0; omega
      have Hn0 := Lib.hid n0
      clear n0
      go_wp2_with (go_at_call 49; (with_reducible refine (HDIV.out _ _ _ _ _ _ _ ru.out rv.out lu lv nu.out nv.out Hn0.out).mono ?_); rintro _ w2 ⟨q, r, _, _, rfl, ⟨Aq, cq, rfl, _, _⟩, ⟨Ar, cr, rfl, hres, hb2⟩, hdv⟩)
      go_roundw
      case rel =>
        exact ⟨v, r, A', Ar, c', cr, rfl, rfl, (rv.out.below hb2).mono hb2.size, hres.rd, lv, Nat.le_trans (Nat.le_of_lt hdv.lt) lv, nv, hdv.nr, (show ∀ g, _ → _ from fun g h => hG.out g (Gc.step hdv h)), Hbel.out.trans (hb2.mono Hbel.out.size)⟩
      case measure => have := hdv.lt; simpa using this

set_option maxHeartbeats 1600000 in
theorem rpeval_any (p : Nat) (A : Option Addr) (c : Nat) (xs : List Nat) (x : Nat) (w : World) (B : Nat) (hp0 : 0 < p) (hp : p < 4294967296) (hr : Rd w B A (u32s xs)) (hm : xs.length ≤ Big) (d1 : ∀ x ∈ xs, x < 4294967296) (hx : x < 4294967296) :
    Calls Tryd.prog 37 #[.slice A xs.length c, .int .u32 (x : Int), .int .u32 (p : Int)] w fun e w' => e = .returned (.int .u32 ((evN p xs x : Nat) : Int)) ∧ Dr w w' := by
  unfold Big at hm
  have hdx : Hid (∀ k (h : k < xs.length), xs[k] < 4294967296) := fun k h => d1 _ (List.getElem_mem h)
  have t4 : ((p : Int) == 0) = false := bz hp0
  have HMUL : Hid (∀ W (u : Nat), u < 4294967296 → Calls Tryd.prog 56 #[.int .u32 (u : Int), .int .u32 (x : Int), .int .u32 (p : Int)] W fun r w' => r = .returned (.int .u32 ((u * x % p : Nat) : Int)) ∧ W = w') := fun W u hu => (rmul_any u x p hu hx hp hp0 W).mono fun _ _ h => ⟨h.1, h.2.symm⟩
  have HADD : Hid (∀ W (u v : Nat), u < 4294967296 → v < 4294967296 → Calls Tryd.prog 47 #[.int .u32 (u : Int), .int .u32 (v : Int), .int .u32 (p : Int)] W fun r w' => r = .returned (.int .u32 (((u + v) % p : Nat) : Int)) ∧ W = w') := fun W u v hu hv => (radd_any u v p hu hv hp hp0 W).mono fun _ _ h => ⟨h.1, h.2.symm⟩
  have Hr := Lib.hid hr
  clear hr d1
  go_enter Tryd.func37, Tryd.ntmps37
  go_wp2
  go_loopw [7, 8] (fun ov iv W => ∃ k : Nat, k ≤ xs.length ∧ ov = .int .u32 ((evN p (xs.drop k) x : Nat) : Int) ∧ iv = .int .i64 ((k : Int) - 1) ∧ Dr w W) (fun _ iv _ => (intOf iv + 1).toNat)
  case atStart => exact ⟨xs.length, Nat.le_refl _, by simp [evN], rfl, Dr.refl _⟩
  case round =>
    obtain ⟨k, hk, rfl, rfl, hdr⟩ := hrel
    have ho := evN_lt hp0 (xs.drop k) x
    rcases k with _ | k
    · have e : (((0 : Nat) : Int) - 1) = -1 := rfl
      rw [e]
      rw [List.drop_zero] at ho ⊢
      obtain ⟨o, hoe⟩ : ∃ o, o = evN p xs x := ⟨_, rfl⟩
      rw [← hoe] at ho ⊢
      have t5 : (o : Int) % (p : Int) = (o : Int) := Int.emod_eq_of_lt (by omega) (by omega)
      have H5 := Lib.hid t5
      have Hdr := Lib.hid hdr
      have Hoe := Lib.hid hoe
      clear hoe t5
      go_wp2_with fail
      go_ret
      exact ⟨by rw [← Hoe.out]; show Ending.returned (.int .u32 ((o : Int) % (p : Int))) = _; rw [H5.out], Hdr.out⟩
    · have e : ((k + 1 : Nat) : Int) - 1 = (k : Int) := by omega
      rw [e]
      obtain ⟨b, o1, rfl, hb, hcx⟩ := (Hr.out.dr hdr).at32 (show k < xs.length by omega)
      have hcd := hdx.out k (by omega)
      have HE : Hid (evN p (xs.drop k) x = (evN p (xs.drop (k + 1)) x * x + xs[k]) % p) := by show _ = _; rw [List.drop_eq_getElem_cons (show k < xs.length by omega)]; rfl
      obtain ⟨o, hoe⟩ : ∃ o, o = evN p (xs.drop (k + 1)) x := ⟨_, rfl⟩
      obtain ⟨cf, hcf⟩ : ∃ cf, cf = xs[k] := ⟨_, rfl⟩
      rw [← hoe] at ho HE ⊢
      rw [← hcf] at hcx hcd HE
      obtain ⟨m, hm⟩ : ∃ m, m = o * x % p := ⟨_, rfl⟩
      have hmp : m < p := by rw [hm]; exact Nat.mod_lt _ hp0
      obtain ⟨r, hre⟩ : ∃ r, r = (m + cf) % p := ⟨_, rfl⟩
      have HR2 : Hid (evN p (xs.drop k) x = r) := by show _ = _; rw [HE.out, hre, hm, Nat.mod_add_mod]
      have HM : Hid (∀ W, Calls Tryd.prog 56 #[.int .u32 (o : Int), .int .u32 (x : Int), .int .u32 (p : Int)] W fun r w' => r = .returned (.int .u32 (m : Int)) ∧ W = w') := by rw [hm]; exact fun W => HMUL.out W o (by omega)
      have HA : Hid (∀ W, Calls Tryd.prog 47 #[.int .u32 (m : Int), .int .u32 (cf : Int), .int .u32 (p : Int)] W fun z w' => z = .returned (.int .u32 (r : Int)) ∧ W = w') := by rw [hre]; exact fun W => HADD.out W m cf (by omega) (by omega)
      have hkl : k < xs.length := by omega
      clear hoe hcf hm hre
      go_upto_region 5 with (fail)
      go_quiet ((first | (go_at_call 56; first | exact quietL (HM.out _) | exact quietAddL (HM.out _)) | (go_at_call 47; first | exact quietL (HA.out _) | exact quietAddL (HA.out _))))
      go_wp2_with fail
      go_roundw
      case rel => exact ⟨k, by omega, by rw [HR2.out], rfl, hdr.step _⟩
      case measure => simp [intOf] <;> omega

set_option maxRecDepth 20000 in
set_option maxHeartbeats 1600000 in
theorem rpderiv_any (p : Nat) (A : Option Addr) (c : Nat) (xs : List Nat) (w : World) (B : Nat) (hp0 : 0 < p) (hp : p < 4294967296) (hr : Rd w B A (u32s xs)) (hB : B ≤ w.heap.size) (hm : xs.length ≤ 4000000000) (d1 : ∀ x ∈ xs, x < 4294967296) :
    Calls Tryd.prog 36 #[.slice A xs.length c, .int .u32 (p : Int)] w (PR1 w (derP p xs)) := by
  have hdx : Hid (∀ k (h : k < xs.length), xs[k] < 4294967296) := fun k h => d1 _ (List.getElem_mem h)
  have t4 : ((p : Int) == 0) = false := bz hp0
  have HMUL : Hid (∀ W (u v : Nat), u < 4294967296 → v < 4294967296 → Calls Tryd.prog 56 #[.int .u32 (u : Int), .int .u32 (v : Int), .int .u32 (p : Int)] W fun r w' => r = .returned (.int .u32 ((u * v % p : Nat) : Int)) ∧ W = w') := fun W u v hu hv => (rmul_any u v p hu hv hp hp0 W).mono fun _ _ h => ⟨h.1, h.2.symm⟩
  obtain ⟨R, hR⟩ : ∃ R : Ending → World → Prop, R = PR1 w (derP p xs) := ⟨_, rfl⟩
  rw [← hR]
  have HR := Lib.hid hR
  have Hr := Lib.hid hr
  clear hR hr d1
  go_enter Tryd.func36, Tryd.ntmps36
  go_wp2
  go_loopw [5, 6] (fun rv jv wq => ∃ (j : Nat) (Ar : Option Addr) (cr : Nat), j ≤ xs.length - 1 ∧ jv = .int .i64 ((j + 1 : Nat) : Int) ∧ rv = .slice Ar j cr ∧ Hid (Ro wq w.heap.size 24 (.slice Ar j cr) (u32s ((List.range j).map (derN p xs)))) ∧ Below w.heap.size w wq) (fun _ jv _ => xs.length - (intOf jv).toNat)
  case atStart => exact ⟨0, none, 0, by omega, rfl, rfl, Ro.nil_ _ _ _, Below.refl _ _⟩
  case round =>
    obtain ⟨j, Ar, cr, hj, rfl, rfl, hro, hbq⟩ := hrel
    have hrl : ((List.range j).map (derN p xs)).length = j := by simp
    obtain ⟨j1, hj1⟩ : ∃ j1, j1 = j + 1 := ⟨_, rfl⟩
    rw [← hj1]
    by_cases hjl : j1 < xs.length
    · obtain ⟨b5, off5, rfl, hb5, hx5⟩ := (Hr.out.below (hbq.mono hB)).at32 hjl
      have hxd := hdx.out j1 hjl
      have hjn : j + 1 ≤ xs.length - 1 := by omega
      have hsn := range_snoc (derN p xs) j
      have HE : Hid (derN p xs j = xs[j1] * (j1 % p) % p) := by
        show _ = _
        unfold derN
        rw [← hj1, List.getD_eq_getElem?_getD, List.getElem?_eq_getElem hjl, Nat.mul_comm]; rfl
      obtain ⟨x, hxe⟩ : ∃ x, x = xs[j1] := ⟨_, rfl⟩
      rw [← hxe] at hx5 hxd HE
      obtain ⟨u, hu⟩ : ∃ u, u = j1 % p := ⟨_, rfl⟩
      have hup : u < p := by rw [hu]; exact Nat.mod_lt _ hp0
      obtain ⟨y, hy⟩ : ∃ y, y = derN p xs j := ⟨_, rfl⟩
      have HM : Hid (∀ W, Calls Tryd.prog 56 #[.int .u32 (x : Int), .int .u32 (u : Int), .int .u32 (p : Int)] W fun r w' => r = .returned (.int .u32 (y : Int)) ∧ W = w') := by rw [hy, HE.out, ← hu]; exact fun W => HMUL.out W x u hxd (by omega)
      have t5 : (j1 : Int).tmod (p : Int) = (u : Int) := by rw [tmodN, hu]
      rw [← hy] at hsn
      have Hsn := Lib.hid hsn
      have Hrl := Lib.hid hrl
      have Hj1 := Lib.hid hj1
      have hj1b : j1 < 4294967296 := by omega
      have Hbq := Lib.hid hbq
      clear hxe hu hy hsn hrl hj1 hbq
      go_upto_region 5 with (fail)
      have q1 := w32 (n := j1) (by omega)
      have q2 := w32 (n := u) (by omega)
      have q7 : p ≠ 0 := by omega
      have Q8 : Hid (wrap64 ((j1 : Int) + 1) = (j1 : Int) + 1) := IntWalk.wrap64_in _ (by omega)
      obtain ⟨A9, c9, w9, hrun, hro9, hb9⟩ := app_mp wr.drew w.heap.size (.slice Ar j cr) _ y (hro.out.drewN 1) Hbq.out.size (by rw [Hrl.out]; omega)
      rw [← Hsn.out, Hrl.out] at hro9
      rw [Hrl.out] at hrun
      have Hrun := Lib.hid hrun
      have hb9' : Below w.heap.size w w9 := (Hbq.out.trans ((Dr.refl wr).drew.below _)).trans hb9
      have Hb9 := Lib.hid hb9'
      have Hro9 := Lib.hid hro9
      have Hx9 : Hid (w9.cell? ⟨b5, off5 + j1, none⟩ = some (.int .u32 (x : Int))) := (hb9.cell (p := ⟨b5, off5 + j1, none⟩) (by show b5 < _; omega)).trans hx5
      have Hjn := Lib.hid hjn
      clear hrun hb9' hb9 hro9 hjn hj
      have hal : ∀ o, (wr.drew.alloc o).cell? ⟨b5, off5 + j1, none⟩ = some (.int .u32 (x : Int)) := fun o => (World.cell?_alloc_past _ _ _ (by have := Hbq.out.size; show b5 < wr.heap.size; omega)).trans hx5
      have Hm := Lib.hid hm
      clear hm hj1b
      go_region_held3 (fun W => W.cell? ⟨b5, off5 + j1, none⟩ = some (.int .u32 (x : Int))) (first | exact hal _ | exact Hx9.out | go_keep) (first
        | (go_at_call 56; (with_reducible refine (HM.out _).mono ?_); rintro _ _ ⟨rfl, rfl⟩)
        | (refine step_append_run (.tmp 13) (.tmp 24) 23 23 rfl (.slice Ar j cr) (.slice (some ⟨wr.heap.size, 0, none⟩) 1 1) rfl rfl (.slice A9 (j + 1) c9) w9 Hrun.out ?_)
        | (rw [if_pos (by kernel_rfl)]; refine step_append_run (.tmp 13) (.tmp 24) 23 23 rfl (.slice Ar j cr) (.slice (some ⟨wr.heap.size, 0, none⟩) 1 1) rfl rfl (.slice A9 (j + 1) c9) w9 Hrun.out ?_))
      all_goals clear q1 q2 q7 t5
      all_goals go_wp2_with fail
      go_roundw
      case rel => exact ⟨j + 1, A9, c9, Hjn.out, (show Value.int .i64 (wrap64 ((j1 : Int) + 1)) = _ by rw [Q8.out]; exact ret10 Hj1.out), rfl, Hro9, Hb9.out⟩
      case measure =>
        rw [Q8.out]
        show xs.length - ((j1 : Int) + 1).toNat < xs.length - (j1 : Int).toNat
        omega
    · have hje : j = xs.length - 1 := by omega
      have HN : Hid (Calls Tryd.prog 19 #[.slice Ar j cr, .int .u32 (p : Int)] wr (PR1 wr (derP p xs))) := by
        have h9 := rnorm_any p Ar cr _ wr wr.heap.size hp0 hp hro.out.rd.2.2 (Nat.le_refl _) (by rw [hrl]; unfold Big; omega)
        rw [hrl] at h9
        have e9 : mnP p ((List.range j).map (derN p xs)) = derP p xs := by
          rw [mnP_trim (fun x hx => by obtain ⟨i, _, rfl⟩ := List.mem_map.1 hx; exact Nat.mod_lt _ hp0), hje]; rfl
        rw [e9] at h9
        exact h9
      have Hbq := Lib.hid hbq
      clear hrl hro hje hj1 hbq
      go_wp2_with (go_at_call 19; (with_reducible refine HN.out.mono ?_); rintro _ w8 ⟨v8, rfl, hv8⟩)
      rw [HR.out]
      exact ⟨_, rfl, hv8.mono Hbq.out⟩
end
section
open Go.RowKit

/-- All of these slices read as these lists. -/
def Reads (W : World) (l : List (Option Addr × List Nat)) : Prop := ∀ x ∈ l, Rd W W.heap.size x.1 (u32s x.2)
theorem Reads.nil_ (W : World) : Reads W [] := fun _ h => by cases h
theorem Reads.cons {W : World} {l : List (Option Addr × List Nat)} {A : Option Addr} {xs : List Nat} (h : Rd W W.heap.size A (u32s xs)) (hl : Reads W l) : Reads W ((A, xs) :: l) := fun x hx => by
  rcases List.mem_cons.1 hx with rfl | hx
  · exact h
  · exact hl x hx
theorem Reads.below {W W' : World} {l : List (Option Addr × List Nat)} (h : Reads W l) (hb : Below W.heap.size W W') : Reads W' l := fun x hx => ((h x hx).below hb).mono hb.size
theorem Reads.dr {W W' : World} {l : List (Option Addr × List Nat)} (h : Reads W l) (hd : Dr W W') : Reads W' l := h.below (hd.below _)
theorem Reads.at_ {W : World} {l : List (Option Addr × List Nat)} (h : Reads W l) (i : Nat) {A : Option Addr} {xs : List Nat} (hi : l[i]? = some (A, xs)) : Rd W W.heap.size A (u32s xs) :=
  h _ (List.mem_of_getElem? hi)

theorem pnum_any (k : Int) (w : World) : Calls Tryd.prog 22 #[.int .i64 k] w fun r w' => r = .returned (.int .i64 k) ∧ w = w' := by
  go_enter Tryd.func22, Tryd.ntmps22
  go_wp2
  go_ret
  exact ⟨rfl, rfl⟩

theorem psame_any (A1 A2 : Option Addr) (c1 c2 : Nat) (xs ys : List Nat) (w : World) (B : Nat) (hr1 : Rd w B A1 (u32s xs)) (hr2 : Rd w B A2 (u32s ys)) (hm1 : xs.length ≤ 281474976710656) :
    Calls Tryd.prog 28 #[.slice A1 xs.length c1, .slice A2 ys.length c2] w fun e w' => e = .returned (.bool (decide (xs = ys))) ∧ Dr w w' := by
  have HS := Lib.hid (rsame_any A1 A2 c1 c2 xs ys w B hr1 hr2 hm1)
  clear hr1 hr2
  go_enter Tryd.func28, Tryd.ntmps28
  go_wp2_with (go_at_call 59; (with_reducible refine HS.out.mono ?_); rintro _ w2 ⟨rfl, hd⟩)
  go_ret
  exact ⟨rfl, hd⟩

theorem told_ok (A1 A2 : Option Addr) (c1 c2 : Nat) (xs ys : List Nat) (w : World) (hr1 : Rd w w.heap.size A1 (u32s xs)) (hr2 : Rd w w.heap.size A2 (u32s ys)) (hm1 : xs.length ≤ 281474976710656) (he : xs = ys) :
    Calls Tryd.prog 21 #[.slice A1 xs.length c1, .int .i64 0, .slice A2 ys.length c2, .int .i64 0] w fun e w' => e = .returned (.bool true) ∧ Dr w w' := by
  have HN := Lib.hid (fun W => pnum_any 0 W)
  have HS : Hid (Calls Tryd.prog 28 #[.slice A1 xs.length c1, .slice A2 ys.length c2] w fun e w' => e = .returned (.bool true) ∧ Dr w w') :=
    (psame_any A1 A2 c1 c2 xs ys w _ hr1 hr2 hm1).mono fun e w' ⟨h1, h2⟩ => ⟨by rw [h1, he]; simp, h2⟩
  clear hr1 hr2 he
  go_enter Tryd.func21, Tryd.ntmps21
  go_wp2_with (first
    | (go_at_call 22; (with_reducible refine (HN.out _).mono ?_); rintro _ _ ⟨rfl, rfl⟩)
    | (go_at_call 28; (with_reducible refine HS.out.mono ?_); rintro _ w2 ⟨rfl, hd⟩))
  go_ret
  exact ⟨rfl, hd⟩
theorem told_err (A2 : Option Addr) (c1 m c2 : Nat) (A1 : Option Addr) (k : Int) (hk : (k != 0) = true) (w : World) :
    Calls Tryd.prog 21 #[.slice A1 0 c1, .int .i64 k, .slice A2 m c2, .int .i64 k] w fun e w' => e = .returned (.bool true) ∧ Dr w w' := by
  have HN := Lib.hid (fun W => pnum_any k W)
  have t0 : (k == k) = true := by simp
  go_enter Tryd.func21, Tryd.ntmps21
  go_wp2_with (go_at_call 22; (with_reducible refine (HN.out _).mono ?_); rintro _ _ ⟨rfl, rfl⟩)
  go_ret
  exact ⟨rfl, Dr.refl _⟩

theorem good_yes (p : Nat) (hpr : Pr p) (hp : p < 4294967296) (w : World) : Calls Tryd.prog 11 #[.int .u32 (p : Int)] w fun e w' => e = .returned (.tuple #[.int .u32 (p : Int), .int .i64 0]) ∧ w = w' := by
  have H := Lib.hid (ris_yes p hpr hp w)
  go_enter Tryd.func11, Tryd.ntmps11
  go_wp2_with (go_at_call 41; (with_reducible refine H.out.mono ?_); rintro _ _ ⟨rfl, rfl⟩)
  go_ret2
  exact ⟨rfl, rfl⟩
theorem good_no (p : Nat) (hpr : ¬ Pr p) (hp : p < 4294967296) (w : World) : Calls Tryd.prog 11 #[.int .u32 (p : Int)] w fun e w' => e = .returned (.tuple #[.int .u32 7, .int .i64 40]) ∧ w = w' := by
  have H := Lib.hid (ris_no p hpr hp w)
  go_enter Tryd.func11, Tryd.ntmps11
  go_wp2_with (go_at_call 41; (with_reducible refine H.out.mono ?_); rintro _ _ ⟨rfl, rfl⟩)
  go_ret2
  exact ⟨rfl, rfl⟩
theorem pr7 : Pr 7 := ⟨by decide, fun e he => (by decide : ∀ e, e < 8 → e ∣ 7 → e = 1 ∨ e = 7) e (by have := Nat.le_of_dvd (by decide) he; omega) he⟩


/-- make, empty and with room. -/
theorem mkP0 (n : Nat) (h : n ≤ 70368744177664) (w : World) : (Instr.makeSlice 23 (.int .i64 0) (.int .i64 (n : Int))).run Tryd.prog w = .ok (.slice (some ⟨w.heap.size, 0, none⟩) 0 n) (w.alloc (.cells (List.replicate n (Value.int .u32 0)).toArray 24)) := by
  obtain ⟨i0, hi, hz0, hz1, hz2⟩ := info_parts Tryd.info32
  have hr := run_make (P := Tryd.prog) w 23 24 i0 (.int .u32 0) Tryd.underlying23 hi hz0 .i64 .i64 0 n (by omega) (by omega) (by rw [hz2]; omega) (by omega)
  rw [hz1, Int.toNat_natCast, made_one _ _ rfl] at hr
  exact hr
/-- Appending to an empty row of one's own that has room. -/
theorem app_fit (w : World) (g cap : Nat) (zs : List Value) (hb : Blk w g 24 zs) (hz : zs.length = cap) (hcap : cap ≤ maxLen) (A : Option Addr) (c B : Nat) (xs : List Nat) (hr : Rd w B A (u32s xs)) (hm : xs.length ≤ cap) :
    ∃ w' rest, (Builtin.append_ #[23, 23] 23 #[.slice (some ⟨g, 0, none⟩) 0 cap, .slice A xs.length c]).run Tryd.prog w = .ok (.slice (some ⟨g, 0, none⟩) xs.length cap) w' ∧
      Blk w' g 24 (u32s xs ++ rest) ∧ xs.length + rest.length = cap ∧ w.grownBy w' (some g) := by
  obtain ⟨i0, hi, hz0, hz1, hz2⟩ := info_parts Tryd.info32
  have hown : w.ownsRow g 24 1 (.slice (some ⟨g, 0, none⟩) 0 cap) 0 [] := ⟨rfl, .inr ⟨g, cap, zs.toArray, rfl, Nat.le_refl _, hb, Nat.zero_le _, hcap, by simp [hz], by simp⟩⟩
  by_cases h0 : xs = []
  · subst h0
    refine ⟨w, zs, ?_, by simpa [u32s] using hb, by simp [hz], World.grownBy.refl w _⟩
    have hv : A = none ∨ ∃ ad, A = some ad := by cases A <;> simp
    rcases hv with rfl | ⟨ad, rfl⟩
    · simp [Builtin.append_, run_underlying Tryd.underlying23, sizeOf, typeInfo, hi, Builtin.lenOf, Builtin.firstCells, storeCells]
    · simp [Builtin.append_, run_underlying Tryd.underlying23, sizeOf, typeInfo, hi, Builtin.lenOf, Builtin.firstCells, storeCells, loadCells, loadCellsFrom]
  · obtain ⟨b, off, rfl, hbB, hc⟩ := hr (fun e => h0 (u32s_nil_iff.1 e))
    obtain ⟨w', h1, h2, h3⟩ := run_append_fits (P := Tryd.prog) w g 23 23 24 i0 1 Tryd.underlying23 hi hz1 g 0 cap [] hown ⟨b, off, none⟩ xs.length c (u32s xs) (by simp [u32s]) (fun j u hu => by rw [addr_add]; exact hc j u hu) (one_u32s xs) (by omega)
    rw [Nat.zero_add] at h1 h2
    rw [List.nil_append] at h2
    obtain ⟨hl, ⟨h5, _⟩ | ⟨g', cap', cur, h5, hg, hh, hnc, hcm, hsz, ht⟩⟩ := h2
    · cases h5
    · simp only [Value.slice.injEq, Option.some.injEq, Addr.mk.injEq, and_true, true_and] at h5
      obtain ⟨rfl, rfl⟩ := h5
      rw [Nat.mul_one] at hsz ht
      refine ⟨w', cur.toList.drop xs.length, h1, ?_, ?_, h3⟩
      · have : u32s xs ++ cur.toList.drop xs.length = cur.toList := by
          conv => lhs; lhs; rw [← ht]
          exact List.take_append_drop _ _
        rw [this]; simpa [Blk] using hh
      · rw [List.length_drop]; simp [hsz]; omega
end
section
open Go.RowKit

/-- One lies in block g, two marks behind it. -/
def Ow (w : World) (g : Nat) (xs : List Nat) : Prop := Blk w g 24 (u32s (xs ++ [77, 78]))
theorem Ow.rd {w : World} {g : Nat} {xs : List Nat} (h : Ow w g xs) : Rd w w.heap.size (some ⟨g, 0, none⟩) (u32s xs) :=
  Rd.of_blk h h.lt 0 (fun k v hv => by
    rw [Nat.zero_add, u32s_append, List.getElem?_append_left (List.getElem?_eq_some_iff.1 hv).1]; exact hv)

set_option maxRecDepth 20000 in
set_option maxHeartbeats 1600000 in
theorem own_any (A : Option Addr) (c : Nat) (xs : List Nat) (w : World) (B : Nat) (hr : Rd w B A (u32s xs)) (hB : B ≤ w.heap.size) (hm : xs.length ≤ 17592186044416) :
    Calls Tryd.prog 12 #[.slice A xs.length c] w fun e w' => ∃ g, e = .returned (.slice (some ⟨g, 0, none⟩) xs.length (xs.length + 2)) ∧ w.heap.size ≤ g ∧ Ow w' g xs ∧ Below w.heap.size w w' := by
  obtain ⟨n, hn⟩ : ∃ n, n = xs.length := ⟨_, rfl⟩
  have hmk : Hid (∀ W : World, (Instr.makeSlice 23 (.int .i64 0) (.int .i64 ((n : Int) + 2))).run Tryd.prog W = .ok (.slice (some ⟨W.heap.size, 0, none⟩) 0 (n + 2)) (W.alloc (.cells (List.replicate (n + 2) (Value.int .u32 0)).toArray 24))) := fun W => by
    have := mkP0 (n + 2) (by omega) W
    simpa using this
  obtain ⟨w1, hw1⟩ : ∃ w1, w1 = w.alloc (.cells (List.replicate (n + 2) (Value.int .u32 0)).toArray 24) := ⟨_, rfl⟩
  have hb1 : Below w.heap.size w w1 := by rw [hw1]; exact (Below.refl _ _).alloc (Nat.le_refl _) _
  have hg1 : Blk w1 w.heap.size 24 (List.replicate (n + 2) (Value.int .u32 0)) := by rw [hw1]; exact Blk.new_ rfl
  obtain ⟨w2, rest, hrun, hb2, hl2, hgr⟩ := app_fit w1 w.heap.size (n + 2) _ hg1 (by simp) (by unfold maxLen; omega) A c B xs (hr.below (hb1.mono hB)) (by omega)
  rw [← hn] at hl2 hrun
  have hb12 : Below w.heap.size w w2 := hb1.trans (below_grown' hgr (by simp) hb1.size)
  have hs2 : w.heap.size < w2.heap.size := hb2.lt
  have hw1' : Hid (∀ W : World, W = w → (Instr.makeSlice 23 (.int .i64 0) (.int .i64 ((n : Int) + 2))).run Tryd.prog W = .ok (.slice (some ⟨w.heap.size, 0, none⟩) 0 (n + 2)) w1) := fun W hW => by rw [hmk.out, hw1, hW]
  have hmk2 := hw1'.out w rfl
  have HR := Lib.hid hrun
  have Hb2 := Lib.hid hb2
  have Hb12 := Lib.hid hb12
  have Hlr : Hid (xs.length + rest.length = n + 2) := by rw [← hn]; exact hl2
  have Hn := Lib.hid hn
  rw [← hn]
  rw [← hn] at hm
  clear hmk hw1 hb1 hg1 hrun hb2 hl2 hgr hb12 hw1' hr hn
  go_enter Tryd.func12, Tryd.ntmps12
  go_upto_region 2 with (at_builtin; refine wpList_append_run rfl _ _ _ _ rfl _ _ rfl rfl _ _ HR.out ?_)
  go_wp2_with ((with_reducible refine wpList_copy_splice (o := ⟨some 18, _, _, _, _, _⟩) rfl _ _ _ _ rfl 24 Tryd.underlying23 ?u1 (some ⟨w.heap.size, n, none⟩) (some ⟨w2.heap.size, 0, none⟩) _ _ _ _ rfl rfl w.heap.size n (u32s xs ++ rest) 24 ?c1 (u32s [77, 78]) ?c2 ?c3 ?c4 ?c5 w.heap.size w ?c6 ?c7 ?_); rotate_right; intro w3 hg3 hb3)
  case u1 => kernel_rfl
  case c1 => exact Hb2.out.heapAlloc _
  case c2 => simp [u32s]
  case c3 =>
    intro _
    exact fun j v hv => hv
  case c4 => have := Hlr.out; have := Hn.out; simp [u32s]; omega
  case c5 => exact one_u32s _
  case c6 => exact Hb12.out.trans ((Below.refl _ _).alloc (by omega) _)
  case c7 => exact Nat.le_refl _
  go_ret
  refine ⟨w.heap.size, rfl, Nat.le_refl _, ?_, hb3⟩
  have h9 := hg3.out
  have e : splice (u32s xs ++ rest) n (u32s [77, 78]) = u32s (xs ++ [77, 78]) := by
    have h1 := Hlr.out
    have h2 := Hn.out
    have h3 : n = (u32s xs).length := by simp [u32s, h2]
    rw [splice, u32s_append, List.take_append_of_le_length (by omega), h3, List.take_length, List.drop_eq_nil_of_le (by simp [u32s]; omega)]
    simp
  rw [e] at h9
  exact h9

theorem Ow.cell {w : World} {g : Nat} {xs : List Nat} (h : Ow w g xs) {n : Nat} (hn : xs.length = n) : w.cell? ⟨g, n, none⟩ = some (.int .u32 77) ∧ w.cell? ⟨g, n + 1, none⟩ = some (.int .u32 78) := by
  have h1 := Blk.cell h n
  have h2 := Blk.cell h (n + 1)
  rw [h1, h2, u32s_append]
  have h3 : (u32s xs).length = n := by simp [u32s, hn]
  constructor
  · rw [List.getElem?_append_right (by omega), h3, Nat.sub_self]; rfl
  · rw [List.getElem?_append_right (by omega), h3, Nat.add_sub_cancel_left]; rfl

set_option maxRecDepth 20000 in
set_option maxHeartbeats 1600000 in
theorem kept_any (g : Nat) (A2 : Option Addr) (c2 : Nat) (xs : List Nat) (w : World) (h : Ow w g xs) (hr2 : Rd w w.heap.size A2 (u32s xs)) (hm : xs.length ≤ 17592186044416) :
    Calls Tryd.prog 27 #[.slice (some ⟨g, 0, none⟩) xs.length (xs.length + 2), .slice A2 xs.length c2] w fun e w' => e = .returned (.bool true) ∧ Dr w w' := by
  have HS : Hid (∀ cap, Calls Tryd.prog 28 #[.slice (some ⟨g, 0, none⟩) xs.length cap, .slice A2 xs.length c2] w fun e w' => e = .returned (.bool true) ∧ Dr w w') :=
    fun cap => (psame_any _ A2 cap c2 xs xs w w.heap.size h.rd hr2 (by omega)).mono fun e w' ⟨h1, h2⟩ => ⟨by rw [h1]; simp, h2⟩
  obtain ⟨n, hn⟩ : ∃ n, n = xs.length := ⟨_, rfl⟩
  have hc := Lib.hid (fun w2 (hd : Dr w w2) => (show Ow w2 g xs from Blk.below h (hd.below w.heap.size) h.lt).cell hn.symm)
  rw [← hn] at HS hm ⊢
  clear h hr2 hn
  go_enter Tryd.func27, Tryd.ntmps27
  go_wp2_with (go_at_call 28; (with_reducible refine (HS.out _).mono ?_); rintro _ w2 ⟨rfl, hd⟩; obtain ⟨hc1, hc2⟩ := hc.out _ hd)
  go_ret
  exact ⟨rfl, hd⟩

/-- Blocks from B on, below U, may have turned. -/
structure Sp (B U : Nat) (w w' : World) : Prop where
  os : w'.os = w.os
  tape : w'.tape = w.tape
  output : w'.output = w.output
  size : w'.heap.size = w.heap.size
  block : ∀ k, k < B ∨ U ≤ k → w'.heap[k]? = w.heap[k]?
theorem Sp.refl (B U : Nat) (w : World) : Sp B U w w := ⟨rfl, rfl, rfl, rfl, fun _ _ => rfl⟩
theorem Sp.of_ch {g B U : Nat} {w w' : World} (h : Ch g w w') (h1 : B ≤ g) (h2 : g < U) : Sp B U w w' := ⟨h.os, h.tape, h.output, h.size, fun k hk => h.block k (by omega)⟩
theorem Sp.below {B U : Nat} {w w' : World} (h : Sp B U w w') {C : Nat} (hC : C ≤ B) : Below C w w' := ⟨h.os, h.tape, h.output, Nat.le_of_eq h.size.symm, fun k hk => h.block k (by omega)⟩
theorem Blk.sp {B U g : Nat} {w w' : World} {t : TypeId} {vs : List Value} (hb : Blk w g t vs) (h : Sp B U w w') (hg : g < B ∨ U ≤ g) : Blk w' g t vs := (h.block g hg).trans hb
/-- A slice in memory between B and U. -/
def Hs (w : World) (B U : Nat) (A : Option Addr) (c : Nat) (xs : List Nat) : Prop := xs ≠ [] → ∃ g rest, A = some ⟨g, 0, none⟩ ∧ B ≤ g ∧ g < U ∧ Blk w g 24 (u32s xs ++ rest) ∧ xs.length + rest.length = c
theorem Hs.of_res {w : World} {B c : Nat} {A : Option Addr} {xs : List Nat} (h : Res w B 24 A c (u32s xs)) : Hs w B w.heap.size A c xs := fun hn => by
  obtain ⟨g, rest, h1, h2, h3, h4⟩ := h.2.2 (fun e => hn (u32s_nil_iff.1 e))
  exact ⟨g, rest, h1, h2, h3.lt, h3, by rw [← h4, u32s_length]⟩
theorem Hs.below {w w' : World} {B U c : Nat} {A : Option Addr} {xs : List Nat} (h : Hs w B U A c xs) (hb : Below w.heap.size w w') : Hs w' B U A c xs := fun hn => by
  obtain ⟨g, rest, h1, h2, h3, h4, h5⟩ := h hn
  exact ⟨g, rest, h1, h2, h3, h4.below hb h4.lt, h5⟩
theorem Hs.sp {w w' : World} {B U B2 U2 c : Nat} {A : Option Addr} {xs : List Nat} (h : Hs w B U A c xs) (hb : Sp B2 U2 w w') (h9 : U ≤ B2 ∨ U2 ≤ B) : Hs w' B U A c xs := fun hn => by
  obtain ⟨g, rest, h1, h2, h3, h4, h5⟩ := h hn
  exact ⟨g, rest, h1, h2, h3, h4.sp hb (by omega), h5⟩
theorem Hs.rd {w : World} {B U c : Nat} {A : Option Addr} {xs : List Nat} (h : Hs w B U A c xs) : Rd w w.heap.size A (u32s xs) := fun hn => by
  obtain ⟨g, rest, rfl, _, _, h4, _⟩ := h (fun e => hn (u32s_nil_iff.2 e))
  exact Rd.of_blk h4 h4.lt 0 (fun k v hv => by rw [Nat.zero_add, List.getElem?_append_left (List.getElem?_eq_some_iff.1 hv).1]; exact hv) hn

set_option maxHeartbeats 1600000 in
theorem spoil_any (A : Option Addr) (c : Nat) (xs : List Nat) (w : World) (B U : Nat) (h : Hs w B U A c xs) (hm : xs.length ≤ 17592186044416) :
    Calls Tryd.prog 26 #[.slice A xs.length c] w fun e w' => e = .returned (.tuple #[]) ∧ Sp B U w w' := by
  by_cases h0 : xs = []
  · subst h0
    clear h
    go_enter Tryd.func26, Tryd.ntmps26
    go_wp2
    refine wp_loop_rounds 1 ?_; rw [rounds_succ]; go_wp2
    refine bodyPost_end (results_none rfl _ _ _) rfl ?_
    exact ⟨rfl, Sp.refl _ _ _⟩
  · obtain ⟨g, rest, rfl, h1, h2, hb, h3⟩ := h h0
    have H12 : Hid (B ≤ g ∧ g < U) := ⟨h1, h2⟩
    clear h h0 h1 h2 h3
    go_enter Tryd.func26, Tryd.ntmps26
    go_wp2
    go_loopw [5] (fun iv wr => ∃ (i : Nat) (vs : List Value), i ≤ xs.length ∧ iv = .int .i64 (i : Int) ∧ Blk wr g 24 vs ∧ vs.length = xs.length + rest.length ∧ Ch g w wr) (fun iv _ => xs.length - (intOf iv).toNat)
    case atStart => exact ⟨0, _, by omega, rfl, hb, by simp [u32s], Ch.refl _ _⟩
    case round =>
      obtain ⟨i, vs, hi, rfl, hbk, hl, hch⟩ := hrel
      by_cases hil : i < xs.length
      · obtain ⟨v, hv⟩ : ∃ v, wr.cell? ⟨g, i, none⟩ = some v := ⟨vs[i], by rw [hbk.cell]; exact List.getElem?_eq_getElem (by omega)⟩
        have hf := hbk.frozen i
        have hbk2 := hbk.set_ i (.int .u32 5)
        have hch2 := hch.setCell i (.int .u32 5)
        have hl2 : (vs.set i (.int .u32 5)).length = xs.length + rest.length := by simp [hl]
        go_wp2
        go_roundw
        case rel => exact ⟨i + 1, _, by omega, by go_num, hbk2, hl2, hch2⟩
        case measure => simp [intOf]; omega
      · go_wp2
        refine bodyPost_end (results_none rfl _ _ _) rfl ?_
        exact ⟨rfl, Sp.of_ch hch H12.out.1 H12.out.2⟩
end
section
open Go.RowKit

/-- It is of some length, of numbers of 32 bits. -/
def Fit (xs : List Nat) : Prop := xs.length ≤ 1099511627776 ∧ ∀ x ∈ xs, x < 4294967296
theorem Fit.nf {p : Nat} {xs : List Nat} (h : Nf p xs) (hp : p < 4294967296) (hl : xs.length ≤ 1099511627776) : Fit xs := ⟨hl, fun x hx => by have := h.1 x hx; omega⟩
theorem Fit.nil_ : Fit [] := ⟨Nat.zero_le _, fun _ h => by cases h⟩
/-- Just this polynomial is answered, and no error. -/
def PE (w : World) (r : List Nat) (e : Ending) (w' : World) : Prop := ∃ A c, e = .returned (.tuple #[.slice A r.length c, .int .i64 0]) ∧ Res w' w.heap.size 24 A c (u32s r) ∧ Below w.heap.size w w'
theorem OkT.exact {w w' : World} {r : List Nat} {e : Ending} (h : OkT (PR1 w r) e w') : PE w r e w' := by
  obtain ⟨v, rfl, v2, h2, A, c, rfl, h3, h4⟩ := h
  injection h2 with h2
  subst h2
  exact ⟨A, c, rfl, h3, h4⟩
theorem OkT.mono {Q R : Ending → World → Prop} {e : Ending} {w' : World} (h : OkT Q e w') (hq : ∀ e w', Q e w' → R e w') : OkT R e w' := by
  obtain ⟨v, h1, h2⟩ := h
  exact ⟨v, h1, hq _ _ h2⟩
theorem PS.exact {p : Nat} {w w' : World} {z : Z} {r : List Nat} {e : Ending} (h : PS p w z e w') (hp : 0 < p) (hn : Nf p r) (hc : Cg p (zo r) z) : PR1 w r e w' := by
  obtain ⟨r', h1, h2, h3⟩ := h
  rw [hn.unique h2 hp (hc.trans h3.symm)]
  exact h1
theorem PS.ok {p : Nat} {w w' : World} {z : Z} {r : List Nat} {e : Ending} (h : OkT (PS p w z) e w') (hp : 0 < p) (hn : Nf p r) (hc : Cg p (zo r) z) : PE w r e w' := (h.mono fun _ _ h2 => h2.exact hp hn hc).exact
theorem MoOf.unique {p : Nat} {xs r r' : List Nat} (hp : Pr p) (h : MoOf p xs r) (h' : MoOf p xs r') : r = r' := Gc.unique hp h.gc h'.gc (Cg.refl _) (Cg.refl _)
theorem MoOf.ex {p : Nat} {xs : List Nat} (hp : Pr p) (hx : Nf p xs) : ∃ r, MoOf p xs r := by
  by_cases h0 : xs = []
  · subst h0; exact ⟨[], MoOf.none_ p⟩
  · obtain ⟨r, h1, h2⟩ := nf_of hp.pos (zo xs * .c (invN p (xs.getD (xs.length - 1) 0)))
    exact ⟨r, MoOf.of_inv hp hx h0 h1 (hp.inv_right (fun hd => hx.top hp.pos h0 (Int.natCast_dvd_natCast.2 hd))) h2⟩
theorem PM.exact {p : Nat} {w w' : World} {xs r : List Nat} {e : Ending} (h : PM p w xs e w') (hp : Pr p) (hm : MoOf p xs r) : PR1 w r e w' := by
  obtain ⟨r', h1, h2⟩ := h
  rw [hm.unique hp h2]
  exact h1
theorem PG.exact {p : Nat} {w w' : World} {a b : Z} {r : List Nat} {e : Ending} (h : PG p w a b e w') (hp : Pr p) (hm : Gc p a b r) : PR1 w r e w' := by
  obtain ⟨r', h1, h2⟩ := h
  rw [hm.unique hp h2 (Cg.refl _) (Cg.refl _)]
  exact h1

theorem xNormal {p : Nat} {a : List Nat} (hpr : Pr p) (hp : p < 4294967296)  (fa : Fit a) (W : World) (Aa : Option Addr) (ca : Nat) (hw : Bases W) (ra : Rd W W.heap.size Aa (u32s a)) :
    Calls Tryd.prog 13 #[.slice Aa a.length ca, .int .u32 (p : Int)] W (PE W (mnP p a)) :=
  (pNormal_yes Aa ca a p W _ hpr hp hw (Nat.le_refl _) ra fa.1 fa.2).mono fun _ _ h => h.exact
theorem xMonic {p : Nat} {a s : List Nat} (hpr : Pr p) (hp : p < 4294967296)  (fa : Fit a) (hm : MoOf p (mnP p a) s) (W : World) (Aa : Option Addr) (ca : Nat) (hw : Bases W) (ra : Rd W W.heap.size Aa (u32s a)) :
    Calls Tryd.prog 15 #[.slice Aa a.length ca, .int .u32 (p : Int)] W (PE W s) :=
  (pMonic_yes Aa ca a p W _ hpr hp hw (Nat.le_refl _) ra fa.1 fa.2).mono fun _ _ h => (h.mono fun _ _ h2 => h2.exact hpr hm).exact
theorem xAdd {p : Nat} {a b s : List Nat} (hpr : Pr p) (hp : p < 4294967296)  (fa : Fit a) (fb : Fit b) (hn : Nf p s) (hc : Cg p (zo s) (zo a + zo b)) (W : World) (Aa : Option Addr) (ca : Nat) (Ab : Option Addr) (cb : Nat) (hw : Bases W) (ra : Rd W W.heap.size Aa (u32s a)) (rb : Rd W W.heap.size Ab (u32s b)) :
    Calls Tryd.prog 16 #[.slice Aa a.length ca, .slice Ab b.length cb, .int .u32 (p : Int)] W (PE W s) :=
  (pAdd_yes Aa ca a Ab cb b p W _ hpr hp hw (Nat.le_refl _) ra fa.1 fa.2 rb fb.1 fb.2).mono fun _ _ h => PS.ok h hpr.pos hn hc
theorem xSub {p : Nat} {a b s : List Nat} (hpr : Pr p) (hp : p < 4294967296)  (fa : Fit a) (fb : Fit b) (hn : Nf p s) (hc : Cg p (zo s) (zo a - zo b)) (W : World) (Aa : Option Addr) (ca : Nat) (Ab : Option Addr) (cb : Nat) (hw : Bases W) (ra : Rd W W.heap.size Aa (u32s a)) (rb : Rd W W.heap.size Ab (u32s b)) :
    Calls Tryd.prog 17 #[.slice Aa a.length ca, .slice Ab b.length cb, .int .u32 (p : Int)] W (PE W s) :=
  (pSub_yes Aa ca a Ab cb b p W _ hpr hp hw (Nat.le_refl _) ra fa.1 fa.2 rb fb.1 fb.2).mono fun _ _ h => PS.ok h hpr.pos hn hc
theorem xMul {p : Nat} {a b s : List Nat} (hpr : Pr p) (hp : p < 4294967296)  (fa : Fit a) (fb : Fit b) (hn : Nf p s) (hc : Cg p (zo s) (zo a * zo b)) (W : World) (Aa : Option Addr) (ca : Nat) (Ab : Option Addr) (cb : Nat) (hw : Bases W) (ra : Rd W W.heap.size Aa (u32s a)) (rb : Rd W W.heap.size Ab (u32s b)) :
    Calls Tryd.prog 18 #[.slice Aa a.length ca, .slice Ab b.length cb, .int .u32 (p : Int)] W (PE W s) :=
  (pMul_yes Aa ca a Ab cb b p W _ hpr hp hw (Nat.le_refl _) ra fa.1 fa.2 rb fb.1 fb.2).mono fun _ _ h => PS.ok h hpr.pos hn hc
theorem xScale {k p : Nat} {a s : List Nat} (hpr : Pr p) (hp : p < 4294967296) (hk : k < 4294967296) (fa : Fit a) (hn : Nf p s) (hc : Cg p (zo s) (zo a * .c k)) (W : World) (Aa : Option Addr) (ca : Nat) (hw : Bases W) (ra : Rd W W.heap.size Aa (u32s a)) :
    Calls Tryd.prog 30 #[.slice Aa a.length ca, .int .u32 (k : Int), .int .u32 (p : Int)] W (PE W s) :=
  (pScale_yes Aa ca a k p W _ hpr hp hw (Nat.le_refl _) ra fa.1 fa.2 hk).mono fun _ _ h => PS.ok h hpr.pos hn hc
theorem xShift {k p : Nat} {a s : List Nat} (hpr : Pr p) (hp : p < 4294967296)  (fa : Fit a) (hk : k ≤ 10000) (hn : Nf p s) (hc : Cg p (zo s) (zo (mnP p a) * Z.X.pow k)) (W : World) (Aa : Option Addr) (ca : Nat) (hw : Bases W) (ra : Rd W W.heap.size Aa (u32s a)) :
    Calls Tryd.prog 31 #[.slice Aa a.length ca, .int .i64 (k : Int), .int .u32 (p : Int)] W (PE W s) :=
  (pShift_yes Aa ca a k p W _ hpr hp hw (Nat.le_refl _) ra fa.1 fa.2 hk).mono fun _ _ h => (h.mono fun _ _ ⟨r, h1, h2, h3, _⟩ => (show PS p W _ _ _ from ⟨r, h1, h2, h3⟩).exact hpr.pos hn hc).exact
theorem xDeriv {p : Nat} {a : List Nat} (hpr : Pr p) (hp : p < 4294967296)  (fa : Fit a) (W : World) (Aa : Option Addr) (ca : Nat) (hw : Bases W) (ra : Rd W W.heap.size Aa (u32s a)) :
    Calls Tryd.prog 34 #[.slice Aa a.length ca, .int .u32 (p : Int)] W (PE W (derP p (mnP p a))) :=
  (pDeriv_yes Aa ca a p W _ hpr hp hw (Nat.le_refl _) ra fa.1 fa.2).mono fun _ _ h => h.exact
theorem xEval {k p : Nat} {a : List Nat} (hpr : Pr p) (hp : p < 4294967296) (hk : k < 4294967296) (fa : Fit a) (W : World) (Aa : Option Addr) (ca : Nat) (hw : Bases W) (ra : Rd W W.heap.size Aa (u32s a)) :
    Calls Tryd.prog 33 #[.slice Aa a.length ca, .int .u32 (k : Int), .int .u32 (p : Int)] W (fun e w' => e = .returned (.tuple #[.int .u32 ((evN p (mnP p a) (k % p) : Nat) : Int), .int .i64 0]) ∧ Below W.heap.size W w') :=
  (pEval_yes Aa ca a k p W _ hpr hp hw (Nat.le_refl _) ra fa.1 fa.2 hk).mono fun _ _ ⟨v, h1, h2, h3⟩ => by
    injection h2 with h2
    subst h2
    exact ⟨h1, h3⟩
theorem yNorm {p : Nat} {a : List Nat} (hpr : Pr p) (hp : p < 4294967296)  (fa : Fit a) (W : World) (Aa : Option Addr) (ca : Nat) (ra : Rd W W.heap.size Aa (u32s a)) :
    Calls Tryd.prog 19 #[.slice Aa a.length ca, .int .u32 (p : Int)] W (PR1 W (mnP p a)) :=
  rnorm_any p Aa ca a W _ hpr.pos hp ra (Nat.le_refl _) (by have := fa.1; unfold Big; omega)
theorem yMonic {p : Nat} {a s : List Nat} (hpr : Pr p) (hp : p < 4294967296)  (fa : Fit a) (hm : MoOf p (mnP p a) s) (W : World) (Aa : Option Addr) (ca : Nat) (ra : Rd W W.heap.size Aa (u32s a)) :
    Calls Tryd.prog 23 #[.slice Aa a.length ca, .int .u32 (p : Int)] W (PR1 W s) :=
  (rpmonic_any p Aa ca a W _ hpr hp ra (Nat.le_refl _) (by have := fa.1; omega)).mono fun _ _ h => h.exact hpr hm
theorem yMul {p : Nat} {a b s : List Nat} (hpr : Pr p) (hp : p < 4294967296)  (fa : Fit a) (fb : Fit b) (hn : Nf p s) (hc : Cg p (zo s) (zo a * zo b)) (W : World) (Aa : Option Addr) (ca : Nat) (Ab : Option Addr) (cb : Nat) (ra : Rd W W.heap.size Aa (u32s a)) (rb : Rd W W.heap.size Ab (u32s b)) :
    Calls Tryd.prog 20 #[.slice Aa a.length ca, .slice Ab b.length cb, .int .u32 (p : Int)] W (PR1 W s) :=
  (rpmul_any p Aa Ab ca cb a b W _ hpr hp ra rb (Nat.le_refl _) fa.1 fb.1).mono fun _ _ h => h.exact hpr.pos hn hc
theorem yAdd {p : Nat} {a b s : List Nat} (hpr : Pr p) (hp : p < 4294967296)  (fa : Fit a) (fb : Fit b) (hn : Nf p s) (hc : Cg p (zo s) (zo a + zo b)) (W : World) (Aa : Option Addr) (ca : Nat) (Ab : Option Addr) (cb : Nat) (ra : Rd W W.heap.size Aa (u32s a)) (rb : Rd W W.heap.size Ab (u32s b)) :
    Calls Tryd.prog 24 #[.slice Aa a.length ca, .slice Ab b.length cb, .int .u32 (p : Int)] W (PR1 W s) :=
  (rpadd_any p Aa Ab ca cb a b W _ hpr.pos hp ra rb (Nat.le_refl _) (by have := fa.1; unfold Big; omega) (by have := fb.1; unfold Big; omega) fa.2 fb.2).mono fun _ _ h => h.exact hpr.pos hn hc
theorem ySub {p : Nat} {a b s : List Nat} (hpr : Pr p) (hp : p < 4294967296)  (fa : Fit a) (fb : Fit b) (hn : Nf p s) (hc : Cg p (zo s) (zo a - zo b)) (W : World) (Aa : Option Addr) (ca : Nat) (Ab : Option Addr) (cb : Nat) (ra : Rd W W.heap.size Aa (u32s a)) (rb : Rd W W.heap.size Ab (u32s b)) :
    Calls Tryd.prog 25 #[.slice Aa a.length ca, .slice Ab b.length cb, .int .u32 (p : Int)] W (PR1 W s) :=
  (rpsub_any p Aa Ab ca cb a b W _ hpr.pos hp ra rb (Nat.le_refl _) (by have := fa.1; unfold Big; omega) (by have := fb.1; unfold Big; omega) fa.2 fb.2).mono fun _ _ h => h.exact hpr.pos hn hc
theorem yScale {k p : Nat} {a s : List Nat} (hpr : Pr p) (hp : p < 4294967296) (hk : k < 4294967296) (fa : Fit a) (hn : Nf p s) (hc : Cg p (zo s) (zo a * .c k)) (W : World) (Aa : Option Addr) (ca : Nat) (ra : Rd W W.heap.size Aa (u32s a)) :
    Calls Tryd.prog 32 #[.slice Aa a.length ca, .int .u32 (k : Int), .int .u32 (p : Int)] W (PR1 W s) :=
  (rpscale_any p Aa ca k a W _ hpr.pos hp ra (Nat.le_refl _) (by have := fa.1; unfold Big; omega) fa.2 hk).mono fun _ _ h => h.exact hpr.pos hn hc
theorem yGcd {p : Nat} {a b s : List Nat} (hpr : Pr p) (hp : p < 4294967296)  (fa : Fit a) (fb : Fit b) (hm : Gc p (zo a) (zo b) s) (W : World) (Aa : Option Addr) (ca : Nat) (Ab : Option Addr) (cb : Nat) (ra : Rd W W.heap.size Aa (u32s a)) (rb : Rd W W.heap.size Ab (u32s b)) :
    Calls Tryd.prog 38 #[.slice Aa a.length ca, .slice Ab b.length cb, .int .u32 (p : Int)] W (PR1 W s) :=
  (rpgcd_any p Aa Ab ca cb a b W _ hpr hp ra rb (Nat.le_refl _) fa.1 fb.1).mono fun _ _ h => h.exact hpr hm
theorem yDeriv {p : Nat} {a : List Nat} (hpr : Pr p) (hp : p < 4294967296)  (fa : Fit a) (hl : a.length ≤ 4000000000) (W : World) (Aa : Option Addr) (ca : Nat) (ra : Rd W W.heap.size Aa (u32s a)) :
    Calls Tryd.prog 36 #[.slice Aa a.length ca, .int .u32 (p : Int)] W (PR1 W (derP p a)) :=
  rpderiv_any p Aa ca a W _ hpr.pos hp ra (Nat.le_refl _) hl fa.2
theorem yEval {k p : Nat} {a : List Nat} (hpr : Pr p) (hp : p < 4294967296) (hk : k < 4294967296) (fa : Fit a) (W : World) (Aa : Option Addr) (ca : Nat) (ra : Rd W W.heap.size Aa (u32s a)) :
    Calls Tryd.prog 37 #[.slice Aa a.length ca, .int .u32 (k : Int), .int .u32 (p : Int)] W (fun e w' => e = .returned (.int .u32 ((evN p a k : Nat) : Int)) ∧ Dr W w') :=
  rpeval_any p Aa ca a k W _ hpr.pos hp ra (by have := fa.1; unfold Big; omega) fa.2 hk
end
end Go.Proofs.YtddhhndnkjajmaaDoor
