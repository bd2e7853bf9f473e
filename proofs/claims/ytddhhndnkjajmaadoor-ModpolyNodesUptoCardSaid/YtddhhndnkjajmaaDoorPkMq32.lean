/- ModpolyNodes answers true. Conditions: bases is as the program lays it; the sizes. -/
import Derived.Test.YtddhhndnkjajmaaDoorPkMq30
import Derived.Test.YtddhhndnkjajmaaDoorPkMq31
import Derived.Test.YtddhhndnkjajmaaDoorPkMq21
namespace Go.Proofs.YtddhhndnkjajmaaDoor
open Go.RowKit

set_option maxRecDepth 20000 in
set_option maxHeartbeats 3200000 in
theorem nodes_no (Aa Ax : Option Addr) (ca cx : Nat) (a xs : List Nat) (p : Nat) (w : World) (hx : Bx w) (ra : Rd w w.heap.size Aa (u32s a)) (rx : Rd w w.heap.size Ax (u32s xs)) (_ : a.length ≤ 1048576) (_ : xs.length ≤ 1048576) (_ : Fit a) (_ : ∀ x ∈ xs, x < 4294967296) (hp : p < 4294967296) (hpr : ¬ Pr p) :
    Calls Tryd.prog 8 #[.slice Aa a.length ca, .slice Ax xs.length cx, .int .u32 (p : Int)] w fun e w' => e = .returned (.bool true) ∧ Below w.heap.size w w' := by
  have HX : Hid (∀ W, Below w.heap.size w W → Bx W) := fun W hW => hx.below hW (Nat.le_refl _)
  have HAW : Hid (∀ W, Below w.heap.size w W → Calls Tryd.prog 29 #[] W fun e w' => e = .returned (.bool true) ∧ Below W.heap.size W w') := fun W hW => lawake_any W (HX.out W hW)
  have HN : Hid (∀ k W, Calls Tryd.prog 22 #[.int .i64 k] W fun e w' => e = .returned (.int .i64 k) ∧ Below W.heap.size W w') := fun k W => (pnum_any k W).mono fun _ _ h => ⟨h.1, h.2 ▸ Below.refl _ _⟩
  have HIS : Hid (∀ W, Calls Tryd.prog 41 #[.int .u32 (p : Int)] W fun e w' => e = .returned (.bool false) ∧ Below W.heap.size W w') := fun W => (ris_no p hpr hp W).mono fun _ _ h => ⟨h.1, h.2 ▸ Below.refl _ _⟩
  have Ra := Lib.hid ra
  have Rx := Lib.hid rx
  have HB0 : Hid (Below w.heap.size w w) := Below.refl _ _
  clear ra rx hx hpr
  go_enter Tryd.func8, Tryd.ntmps8
  go_wp2_with (first
    | (go_at_call 41; (with_reducible refine (HIS.out _).mono ?_); rintro _ w1z ⟨rfl, hb1⟩; have hx1 : Below w.heap.size w w1z := (by first | exact hb1 | exact (Below.refl _ _).drew.trans hb1); have HB1 := Lib.hid (HB0.out.trans (hx1.mono HB0.out.size)); clear hx1)
    | (go_at_call 29; (with_reducible refine (HAW.out _ (by first | exact HB1.out | exact HB1.out.drew)).mono ?_); rintro _ w2z ⟨rfl, hb2⟩; have hx2 : Below w1z.heap.size w1z w2z := (by first | exact hb2 | exact (Below.refl _ _).drew.trans hb2); have HB2 := Lib.hid (HB1.out.trans (hx2.mono HB1.out.size)); clear hx2))
  go_ret
  exact ⟨rfl, HB2.out⟩

set_option maxRecDepth 20000 in
set_option maxHeartbeats 3200000 in
theorem nodes_many (Aa Ax : Option Addr) (ca cx : Nat) (a xs : List Nat) (p : Nat) (w : World) (hx : Bx w) (ra : Rd w w.heap.size Aa (u32s a)) (rx : Rd w w.heap.size Ax (u32s xs)) (_ : a.length ≤ 1048576) (_ : xs.length ≤ 1048576) (_ : Fit a) (_ : ∀ x ∈ xs, x < 4294967296) (hp : p < 4294967296) (hpr : Pr p) (hl : 1000 < xs.length) :
    Calls Tryd.prog 8 #[.slice Aa a.length ca, .slice Ax xs.length cx, .int .u32 (p : Int)] w fun e w' => e = .returned (.bool true) ∧ Below w.heap.size w w' := by
  have HX : Hid (∀ W, Below w.heap.size w W → Bx W) := fun W hW => hx.below hW (Nat.le_refl _)
  have HAW : Hid (∀ W, Below w.heap.size w W → Calls Tryd.prog 29 #[] W fun e w' => e = .returned (.bool true) ∧ Below W.heap.size W w') := fun W hW => lawake_any W (HX.out W hW)
  have HN : Hid (∀ k W, Calls Tryd.prog 22 #[.int .i64 k] W fun e w' => e = .returned (.int .i64 k) ∧ Below W.heap.size W w') := fun k W => (pnum_any k W).mono fun _ _ h => ⟨h.1, h.2 ▸ Below.refl _ _⟩
  have HIS : Hid (∀ W, Calls Tryd.prog 41 #[.int .u32 (p : Int)] W fun e w' => e = .returned (.bool true) ∧ Below W.heap.size W w') := fun W => (ris_yes p hpr hp W).mono fun _ _ h => ⟨h.1, h.2 ▸ Below.refl _ _⟩
  have Ra := Lib.hid ra
  have Rx := Lib.hid rx
  have HB0 : Hid (Below w.heap.size w w) := Below.refl _ _
  clear ra rx hx hpr
  go_enter Tryd.func8, Tryd.ntmps8
  go_wp2_with (first
    | (go_at_call 41; (with_reducible refine (HIS.out _).mono ?_); rintro _ w1z ⟨rfl, hb1⟩; have hx1 : Below w.heap.size w w1z := (by first | exact hb1 | exact (Below.refl _ _).drew.trans hb1); have HB1 := Lib.hid (HB0.out.trans (hx1.mono HB0.out.size)); clear hx1)
    | (go_at_call 29; (with_reducible refine (HAW.out _ (by first | exact HB1.out | exact HB1.out.drew)).mono ?_); rintro _ w2z ⟨rfl, hb2⟩; have hx2 : Below w1z.heap.size w1z w2z := (by first | exact hb2 | exact (Below.refl _ _).drew.trans hb2); have HB2 := Lib.hid (HB1.out.trans (hx2.mono HB1.out.size)); clear hx2))
  go_ret
  exact ⟨rfl, HB2.out⟩

set_option maxRecDepth 20000 in
set_option maxHeartbeats 3200000 in
theorem nodes_yes (Aa Ax : Option Addr) (ca cx : Nat) (a xs : List Nat) (p : Nat) (w : World) (hx : Bx w) (ra : Rd w w.heap.size Aa (u32s a)) (rx : Rd w w.heap.size Ax (u32s xs)) (hma : a.length ≤ 1048576) (hmx : xs.length ≤ 1048576) (fa : Fit a) (dx : ∀ x ∈ xs, x < 4294967296) (hp : p < 4294967296) (hpr : Pr p) (hl : xs.length ≤ 1000) :
    Calls Tryd.prog 8 #[.slice Aa a.length ca, .slice Ax xs.length cx, .int .u32 (p : Int)] w fun e w' => e = .returned (.bool true) ∧ Below w.heap.size w w' := by
  have HX : Hid (∀ W, Below w.heap.size w W → Bx W) := fun W hW => hx.below hW (Nat.le_refl _)
  have HAW : Hid (∀ W, Below w.heap.size w W → Calls Tryd.prog 29 #[] W fun e w' => e = .returned (.bool true) ∧ Below W.heap.size W w') := fun W hW => lawake_any W (HX.out W hW)
  have HN : Hid (∀ k W, Calls Tryd.prog 22 #[.int .i64 k] W fun e w' => e = .returned (.int .i64 k) ∧ Below W.heap.size W w') := fun k W => (pnum_any k W).mono fun _ _ h => ⟨h.1, h.2 ▸ Below.refl _ _⟩
  have HIS : Hid (∀ W, Calls Tryd.prog 41 #[.int .u32 (p : Int)] W fun e w' => e = .returned (.bool true) ∧ Below W.heap.size W w') := fun W => (ris_yes p hpr hp W).mono fun _ _ h => ⟨h.1, h.2 ▸ Below.refl _ _⟩
  have hpos := hpr.pos
  obtain ⟨m, hm⟩ : ∃ m, m = mnP p a := ⟨_, rfl⟩
  have Nm : Nf p m := by rw [hm]; exact mnP_nf hpos a
  have lm : m.length ≤ 1048576 := by have := mnP_len p a; rw [← hm] at this; omega
  have HEV : Hid (∀ (W : World) (x : Nat), Below w.heap.size w W → Rd W W.heap.size Aa (u32s a) → x < 4294967296 → Calls Tryd.prog 33 #[.slice Aa a.length ca, .int .u32 (x : Int), .int .u32 (p : Int)] W fun e w' => e = .returned (.tuple #[.int .u32 ((evN p m (x % p) : Nat) : Int), .int .i64 0]) ∧ Below W.heap.size W w') := fun W x hW h1 h2 => by rw [hm]; exact xEval hpr hp h2 fa W Aa ca (HX.out W hW).bases h1
  have HOK : Hid (∀ k l, k ≤ xs.length → l = ndT p m (xs.take k) → Nds p m k l) := fun k l hk e => by rw [e]; exact ndT_ok m xs hpos hp dx k hk
  have HIP : Hid (∀ W A c l k, Below w.heap.size w W → k ≤ xs.length → l = ndT p m (xs.take k) → NL W A l → Calls Tryd.prog 45 #[.slice A l.length c, .int .u32 (p : Int)] W fun e w' => ∃ r A' c', e = .returned (.tuple #[.slice A' r.length c', .int .i64 0]) ∧ Res w' W.heap.size 24 A' c' (u32s r) ∧ Below W.heap.size W w' ∧ r.length ≤ l.length ∧ (m.length ≤ l.length → r = m)) := fun W A c l k hW hk e hn => by
    have h := HOK.out k l hk e
    refine (pInterp_yes A c l p W hpr hp (HX.out W hW).bases hn (by have := h.len; omega) h.dig h.pw).mono ?_
    rintro _ _ ⟨r, A', c', h1, h2, h3, h4, h5, h6⟩
    exact ⟨r, A', c', h1, h2, h3, h5, fun hl => h.told hpr Nm h4 h5 h6 hl⟩
  have HLN : Hid (∀ k l, k ≤ xs.length → l = ndT p m (xs.take k) → l.length ≤ k ∧ ∀ j (h : j < l.length), l[j].1 < 4294967296 ∧ l[j].2 < 4294967296) := fun k l hk e => ⟨(HOK.out k l hk e).len, fun j hj => (HOK.out k l hk e).dig _ (List.getElem_mem hj)⟩
  have HST : Hid (∀ k (hk : k < xs.length) l, l = ndT p m (xs.take k) → (has p l xs[k] = true → l = ndT p m (xs.take (k + 1))) ∧ (has p l xs[k] = false → l ++ [(xs[k], evN p m (xs[k] % p))] = ndT p m (xs.take (k + 1)))) := fun k hk l e => by
    rw [ndT_snoc p m xs hk, ← e]
    unfold ndP
    exact ⟨fun h => by rw [if_pos h], fun h => by rw [if_neg (by rw [h]; decide)]⟩
  have HNM : Hid (∀ W, Rd W W.heap.size Aa (u32s a) → Calls Tryd.prog 19 #[.slice Aa a.length ca, .int .u32 (p : Int)] W (PR1 W m)) := fun W h => by rw [hm]; exact yNorm hpr hp fa W Aa ca h
  have HSM : Hid (∀ W A1 c1 A2 c2 (xs : List Nat), xs.length ≤ 281474976710656 → Rd W W.heap.size A1 (u32s xs) → Rd W W.heap.size A2 (u32s xs) → Calls Tryd.prog 28 #[.slice A1 xs.length c1, .slice A2 xs.length c2] W fun e w' => e = .returned (.bool true) ∧ Below W.heap.size W w') := fun W A1 c1 A2 c2 xs hl h1 h2 => (psame_any A1 A2 c1 c2 xs xs W _ h1 h2 hl).mono fun _ _ h => ⟨by rw [h.1]; simp, h.2.below _⟩
  have hdx : Hid (∀ k (h : k < xs.length), xs[k] < 4294967296) := fun k h => dx _ (List.getElem_mem h)
  have HEL : Hid (∀ x, evN p m x < p) := fun x => evN_lt hpos _ _
  have Ra := Lib.hid ra
  have Rx := Lib.hid rx
  have HB0 : Hid (Below w.heap.size w w) := Below.refl _ _
  clear ra rx hx hpr hm Nm fa hma hmx dx
  go_enter Tryd.func8, Tryd.ntmps8
  go_upto_region 5 with (go_at_call 41; (with_reducible refine (HIS.out _).mono ?_); rintro _ w1z ⟨rfl, hb1⟩; have hx1 : Below w.heap.size w w1z := (by first | exact hb1 | exact (Below.refl _ _).drew.trans hb1); have HB1 := Lib.hid (HB0.out.trans (hx1.mono HB0.out.size)); have zR1_a := Lib.hid ((Ra.out.below hx1).mono hx1.size); have zR1_x := Lib.hid ((Rx.out.below hx1).mono hx1.size); clear hx1; clear Ra Rx)
  go_loopw [7, 28] (fun lv iv wr => ∃ (k : Nat) (l : List (Nat × Nat)) (A7 : Option Addr) (c7 : Nat), k ≤ xs.length ∧ iv = .int .i64 (k : Int) ∧ lv = .slice A7 l.length c7 ∧ Hid (l = ndT p m (xs.take k)) ∧ Hid (On wr w1z.heap.size (.slice A7 l.length c7) l) ∧ Below w1z.heap.size w1z wr) (fun _ iv _ => xs.length - (intOf iv).toNat)
  case atStart => exact ⟨0, [], none, 0, Nat.zero_le _, rfl, rfl, rfl, On.nil_ _ _, Below.refl _ _⟩
  case round =>
    obtain ⟨wo, rfl⟩ : ∃ wo, wo = wr := ⟨_, rfl⟩
    obtain ⟨k, l, A7, c7, hk, rfl, rfl, hle, hon, hbq⟩ := hrel
    have HBQ := Lib.hid (HB1.out.trans (hbq.mono HB1.out.size))
    have Qa := Lib.hid ((zR1_a.out.below hbq).mono hbq.size)
    have Qx := Lib.hid ((zR1_x.out.below hbq).mono hbq.size)
    have Hbq := Lib.hid hbq
    obtain ⟨hll, hld⟩ := HLN.out k l hk hle.out
    have Hld := Lib.hid hld
    clear hbq hld
    obtain ⟨A9, c9, h9, hnl⟩ := hon.out.form
    injection h9 with h91 h92 h93
    subst h91 h93
    have Hnl := Lib.hid hnl
    clear hnl h92
    by_cases hkl : k < xs.length
    · obtain ⟨bx, ox, rfl, hbx, hxv⟩ := Qx.out.at32 hkl
      have hv := hdx.out k hkl
      obtain ⟨hs1, hs2⟩ := HST.out k hkl l hle.out
      have HS1 := Lib.hid hs1
      have HS2 := Lib.hid hs2
      obtain ⟨v, hve⟩ : ∃ v, v = xs[k] := ⟨_, rfl⟩
      rw [← hve] at hxv hv HS1 HS2
      clear hve hs1 hs2
      obtain ⟨y, hy⟩ : ∃ y, y = v % p := ⟨_, rfl⟩
      have t0 : (v : Int) % (p : Int) = (y : Int) := by rw [hy]; exact cast_mod v p
      have Hy := Lib.hid hy
      have q7 : p ≠ 0 := by omega
      clear hy
      go_upto_region 9 with (fail)
      go_loopw [10, 34] (fun tv jv wq => ∃ j : Nat, j ≤ l.length ∧ jv = .int .i64 (j : Int) ∧ tv = .bool (has p (l.take j) v) ∧ Below wo.heap.size wo wq) (fun _ jv _ => l.length - (intOf jv).toNat)
      case atStart => exact ⟨0, Nat.zero_le _, rfl, by simp [has], Below.refl _ _⟩
      case round =>
        obtain ⟨j, hj, rfl, rfl, hbj⟩ := hrel
        have Hbj := Lib.hid hbj
        by_cases hjl : j < l.length
        · obtain ⟨bl, ol, rfl, hbl, hn1, hn2⟩ := (Hnl.out.below hbj) j hjl
          have hst := has_step p l v hjl
          obtain ⟨hX, hY⟩ := Hld.out j hjl
          obtain ⟨X, hXe⟩ : ∃ X, X = l[j].1 := ⟨_, rfl⟩
          obtain ⟨Y, hYe⟩ : ∃ Y, Y = l[j].2 := ⟨_, rfl⟩
          rw [← hXe] at hn1 hX hst
          rw [← hYe] at hn2 hY
          obtain ⟨x, hxe⟩ : ∃ x, x = X % p := ⟨_, rfl⟩
          have t1 : (X : Int) % (p : Int) = (x : Int) := by rw [hxe]; exact cast_mod X p
          rw [← hxe, ← Hy.out] at hst
          obtain ⟨tw, htw⟩ : ∃ tw, tw = has p (l.take j) v := ⟨_, rfl⟩
          rw [← htw] at hst ⊢
          have Hst := Lib.hid hst
          clear hXe hYe hxe htw hst hbj
          go_upto_region 11 with (fail)
          have hal : ∀ o, (wr.alloc o).cell? ⟨bl, ol + j * 2, none⟩ = some (.int .u32 (X : Int)) := fun o => (World.cell?_alloc_past _ _ _ (by show bl < wr.heap.size; omega)).trans hn1
          cases tw
          · by_cases hxy : x = y
            · have t2 : ((x : Int) == (y : Int)) = true := by subst hxy; simp
              go_quiet (fail)
              go_wp2_with fail
              go_roundw
              case rel => exact ⟨j + 1, by omega, by go_num, by rw [Hst.out]; subst hxy; simp, (Hbj.out.alloc Hbj.out.size _).trans (Dr.below ⟨_, rfl⟩ _)⟩
              case measure => simp [intOf]; omega
            · have t2 : ((x : Int) == (y : Int)) = false := by simpa using fun h : (x : Int) = y => hxy (Int.ofNat.inj h)
              go_quiet (fail)
              go_wp2_with fail
              go_roundw
              case rel => exact ⟨j + 1, by omega, by go_num, by rw [Hst.out]; simpa using hxy, (Hbj.out.alloc Hbj.out.size _).trans (Dr.below ⟨_, rfl⟩ _)⟩
              case measure => simp [intOf]; omega
          · go_quiet (fail)
            go_wp2_with fail
            go_roundw
            case rel => exact ⟨j + 1, by omega, by go_num, by rw [Hst.out]; simp, (Hbj.out.alloc Hbj.out.size _).trans (Dr.below ⟨_, rfl⟩ _)⟩
            case measure => simp [intOf]; omega
        · obtain rfl : j = l.length := by omega
          rw [List.take_length]
          have Hon := Lib.hid (hon.out.below hbj (Nat.le_refl _))
          have HBJ := Lib.hid (HBQ.out.trans (hbj.mono HBQ.out.size))
          have Hbq2 := Lib.hid (Hbq.out.trans (hbj.mono Hbq.out.size))
          have Qa2 := Lib.hid ((Qa.out.below hbj).mono hbj.size)
          obtain ⟨tw, htw⟩ : ∃ tw, tw = has p l v := ⟨_, rfl⟩
          rw [← htw]
          rw [← htw] at HS1 HS2
          clear hbj htw
          cases tw
          · have hel := HEL.out y
            obtain ⟨u, hu⟩ : ∃ u, u = evN p m y := ⟨_, rfl⟩
            have HE : Hid (∀ W, Below w.heap.size w W → Rd W W.heap.size Aa (u32s a) → Calls Tryd.prog 33 #[.slice Aa a.length ca, .int .u32 (v : Int), .int .u32 (p : Int)] W fun e w' => e = .returned (.tuple #[.int .u32 (u : Int), .int .i64 0]) ∧ Below W.heap.size W w') := fun W h1 h2 => by rw [hu, Hy.out]; exact HEV.out W v h1 h2 hv
            have HL2 : Hid (l ++ [(v, u)] = ndT p m (xs.take (k + 1))) := by
              have := HS2.out rfl
              rw [hu, Hy.out]; exact this
            rw [← hu] at hel
            clear hu
            have HAP := Lib.hid (fun (W : World) (hW : Below wr.heap.size wr W) => app_node W w1z.heap.size _ l v u (Hon.out.below hW (Nat.le_refl _)) (by omega) (Nat.le_trans Hbq2.out.size hW.size))
            go_wp2_with (first
              | (go_at_call 33; (with_reducible refine (HE.out _ (by first | exact HBJ.out | exact HBJ.out.drew) (by first | exact Qa2.out | exact Qa2.out.drewS)).mono ?_); rintro _ w30y ⟨rfl, hb30⟩; have hx30 : Below wr.heap.size wr w30y := (by first | exact hb30 | exact (Below.refl _ _).drew.trans hb30); have HB30 := Lib.hid (HBJ.out.trans (hx30.mono HBJ.out.size)); have Hb30q : Hid (Below wr.heap.size wr w30y) := hx30; clear hx30)
              | (go_at_call 22; (with_reducible refine (HN.out _ _).mono ?_); rintro _ w31y ⟨rfl, hb31⟩; have hx31 : Below w30y.heap.size w30y w31y := (by first | exact hb31 | exact (Below.refl _ _).drew.trans hb31); have HB31 := Lib.hid (HB30.out.trans (hx31.mono HB30.out.size)); have Hb31q : Hid (Below wr.heap.size wr w31y) := Hb30q.out.trans (hx31.mono Hb30q.out.size); clear hx31)
              | (at_builtin; obtain ⟨A40, c40, w40, hrun, hon40, hb40⟩ := HAP.out w31y Hb31q.out; refine wpList_append_done rfl _ _ _ _ rfl _ _ rfl rfl _ _ hrun ?_; clear hrun))
            go_roundw
            case rel => exact ⟨k + 1, l ++ [(v, u)], A40, c40, by omega, by go_num, by simp, HL2.out, (by have h := hon40; rw [List.length_append] at h ⊢; exact h), (Hbq2.out.trans (Hb31q.out.mono Hbq2.out.size)).trans hb40⟩
            case measure => simp [intOf]; omega
          · have HL2 := Lib.hid (HS1.out rfl)
            go_wp2
            go_roundw
            case rel => exact ⟨k + 1, l, _, _, by omega, by go_num, rfl, HL2.out, Hon.out, Hbq2.out⟩
            case measure => simp [intOf]; omega
    · obtain rfl : k = xs.length := by omega
      have HIW : Hid (∀ W c, Below wo.heap.size wo W → Calls Tryd.prog 45 #[.slice A7 l.length c, .int .u32 (p : Int)] W fun e w' => ∃ r A' c', e = .returned (.tuple #[.slice A' r.length c', .int .i64 0]) ∧ Res w' W.heap.size 24 A' c' (u32s r) ∧ Below W.heap.size W w' ∧ r.length ≤ l.length ∧ (m.length ≤ l.length → r = m)) := fun W c hW => HIP.out W A7 c l xs.length (HBQ.out.trans (hW.mono HBQ.out.size)) hk hle.out (Hnl.out.below hW)
      go_upto_region 22 with (first
        | (go_at_call 45; (with_reducible refine (HIW.out _ _ (by first | exact Below.refl _ _ | exact (Below.refl _ _).drew)).mono ?_); rintro _ w50v ⟨r, Ar, cr, rfl, hr50, hb50, hrl, hrm⟩; have hx50 : Below wo.heap.size wo w50v := (by first | exact hb50 | exact (Below.refl _ _).drew.trans hb50); have HB50 := Lib.hid (HBQ.out.trans (hx50.mono HBQ.out.size)); have vR50_a := Lib.hid ((Qa.out.below hx50).mono hx50.size); have Hrm := Lib.hid hrm; have zR_r := Lib.hid hr50.rd; clear hrm hr50; clear hx50; clear Qa)
        | (go_at_call 22; (with_reducible refine (HN.out _ _).mono ?_); rintro _ w51v ⟨rfl, hb51⟩; have hx51 : Below w50v.heap.size w50v w51v := (by first | exact hb51 | exact (Below.refl _ _).drew.trans hb51); have HB51 := Lib.hid (HB50.out.trans (hx51.mono HB50.out.size)); have vR51_a := Lib.hid ((vR50_a.out.below hx51).mono hx51.size); have vR51_r := Lib.hid ((zR_r.out.below hx51).mono hx51.size); clear hx51; clear vR50_a zR_r))
      by_cases hml : l.length < m.length
      · go_wp2_with (first
          | (go_at_call 19; (with_reducible refine (HNM.out _ (by first | exact vR51_a.out | exact vR51_a.out.drewS)).mono ?_); rintro _ w52v ⟨_, rfl, A52, c52, rfl, hr52, hb52⟩; have hx52 : Below w51v.heap.size w51v w52v := (by first | exact hb52 | exact (Below.refl _ _).drew.trans hb52); have HB52 := Lib.hid (HB51.out.trans (hx52.mono HB51.out.size)); have vR52_a := Lib.hid ((vR51_a.out.below hx52).mono hx52.size); have vR52_r := Lib.hid ((vR51_r.out.below hx52).mono hx52.size); have vR52_n := Lib.hid hr52.rd; clear hx52; clear hr52; clear vR51_a vR51_r)
          | (go_at_call 29; (with_reducible refine (HAW.out _ (by first | exact HB52.out | exact HB52.out.drew)).mono ?_); rintro _ w53v ⟨rfl, hb53⟩; have hx53 : Below w52v.heap.size w52v w53v := (by first | exact hb53 | exact (Below.refl _ _).drew.trans hb53); have HB53 := Lib.hid (HB52.out.trans (hx53.mono HB52.out.size)); clear hx53))
        go_ret
        exact ⟨rfl, HB53.out⟩
      · obtain rfl := Hrm.out (by omega)
        go_wp2_with (first
          | (go_at_call 19; (with_reducible refine (HNM.out _ (by first | exact vR51_a.out | exact vR51_a.out.drewS)).mono ?_); rintro _ w52v ⟨_, rfl, A52, c52, rfl, hr52, hb52⟩; have hx52 : Below w51v.heap.size w51v w52v := (by first | exact hb52 | exact (Below.refl _ _).drew.trans hb52); have HB52 := Lib.hid (HB51.out.trans (hx52.mono HB51.out.size)); have vR52_a := Lib.hid ((vR51_a.out.below hx52).mono hx52.size); have vR52_r := Lib.hid ((vR51_r.out.below hx52).mono hx52.size); have vR52_n := Lib.hid hr52.rd; clear hx52; clear hr52; clear vR51_a vR51_r)
          | (go_at_call 19; (with_reducible refine (HNM.out _ (by first | exact vR52_a.out | exact vR52_a.out.drewS)).mono ?_); rintro _ w53v ⟨_, rfl, A53, c53, rfl, hr53, hb53⟩; have hx53 : Below w52v.heap.size w52v w53v := (by first | exact hb53 | exact (Below.refl _ _).drew.trans hb53); have HB53 := Lib.hid (HB52.out.trans (hx53.mono HB52.out.size)); have vR53_a := Lib.hid ((vR52_a.out.below hx53).mono hx53.size); have vR53_r := Lib.hid ((vR52_r.out.below hx53).mono hx53.size); have vR53_n := Lib.hid ((vR52_n.out.below hx53).mono hx53.size); have vR53_n2 := Lib.hid hr53.rd; clear hx53; clear hr53; clear vR52_a vR52_r vR52_n)
          | (go_at_call 28; (with_reducible refine (HSM.out _ _ _ _ _ _ (by omega) (by first | exact vR53_r.out | exact vR53_r.out.drewS) (by first | exact vR53_n2.out | exact vR53_n2.out.drewS)).mono ?_); rintro _ w54v ⟨rfl, hb54⟩; have hx54 : Below w53v.heap.size w53v w54v := (by first | exact hb54 | exact (Below.refl _ _).drew.trans hb54); have HB54 := Lib.hid (HB53.out.trans (hx54.mono HB53.out.size)); have vR54_a := Lib.hid ((vR53_a.out.below hx54).mono hx54.size); have vR54_r := Lib.hid ((vR53_r.out.below hx54).mono hx54.size); have vR54_n := Lib.hid ((vR53_n.out.below hx54).mono hx54.size); have vR54_n2 := Lib.hid ((vR53_n2.out.below hx54).mono hx54.size); clear hx54; clear vR53_a vR53_r vR53_n vR53_n2)
          | (go_at_call 29; (with_reducible refine (HAW.out _ (by first | exact HB54.out | exact HB54.out.drew)).mono ?_); rintro _ w55v ⟨rfl, hb55⟩; have hx55 : Below w54v.heap.size w54v w55v := (by first | exact hb55 | exact (Below.refl _ _).drew.trans hb55); have HB55 := Lib.hid (HB54.out.trans (hx55.mono HB54.out.size)); clear hx55))
        go_ret
        exact ⟨rfl, HB55.out⟩

theorem modpolyNodes_walk (Aa Ax : Option Addr) (ca cx : Nat) (a xs : List Nat) (p : Nat) (w : World) (hx : Bx w) (ra : Rd w w.heap.size Aa (u32s a)) (rx : Rd w w.heap.size Ax (u32s xs)) (hma : a.length ≤ 1048576) (hmx : xs.length ≤ 1048576) (da : ∀ x ∈ a, x < 4294967296) (dx : ∀ x ∈ xs, x < 4294967296) (hp : p < 4294967296) :
    Calls Tryd.prog 8 #[.slice Aa a.length ca, .slice Ax xs.length cx, .int .u32 (p : Int)] w fun e w' => e = .returned (.bool true) ∧ Below w.heap.size w w' := by
  by_cases hpr : Pr p
  · by_cases hl : 1000 < xs.length
    · exact nodes_many Aa Ax ca cx a xs p w hx ra rx hma hmx ⟨by omega, da⟩ dx hp hpr hl
    · exact nodes_yes Aa Ax ca cx a xs p w hx ra rx hma hmx ⟨by omega, da⟩ dx hp hpr (by omega)
  · exact nodes_no Aa Ax ca cx a xs p w hx ra rx hma hmx ⟨by omega, da⟩ dx hp hpr
end Go.Proofs.YtddhhndnkjajmaaDoor
