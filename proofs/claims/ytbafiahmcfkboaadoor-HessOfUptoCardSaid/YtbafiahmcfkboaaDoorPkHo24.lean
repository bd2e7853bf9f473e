/- The contracts of the reference's limb, Norm and Zero. The contract of the reference's Cmp. Appending to a row of one's own; the contract of the reference's shift. The contract of the reference's Small. The contract of the reference's Sub. The contract of byHalves, given that of product for fewer words. The contract of carried. Conditions: the number fits in the places. -/
import Derived.Test.YtbafiahmcfkboaaDoorPkHo23
import Derived.Maps.AppendAt
import Derived.OwnWalk
import Derived.Test.YtbafiahmcfkboaaDoorPkHo22
namespace Go.Proofs.YtbafiahmcfkboaaDoor
section
open Go.RowKit

/-- The k-th of a list, 0 past it. -/
def at0 (xs : List Nat) (k : Nat) : Nat := xs.getD k 0
theorem at0_lt {xs : List Nat} (hd : Dig 4294967296 xs) (k : Nat) : at0 xs k < 4294967296 := by
  unfold at0
  rw [List.getD_eq_getElem?_getD]
  by_cases h : k < xs.length
  · rw [List.getElem?_eq_getElem h]; exact hd.at_ k h
  · rw [List.getElem?_eq_none (by omega)]; simp
theorem at0_in {xs : List Nat} {k : Nat} (h : k < xs.length) : at0 xs k = xs[k] := by
  unfold at0
  rw [List.getD_eq_getElem?_getD, List.getElem?_eq_getElem h]; rfl
theorem at0_out {xs : List Nat} {k : Nat} (h : xs.length ≤ k) : at0 xs k = 0 := by
  unfold at0
  rw [List.getD_eq_getElem?_getD, List.getElem?_eq_none h]; rfl

theorem trimL_nil_at {xs : List Nat} (h : trimL xs = []) : ∀ (k : Nat) (hk : k < xs.length), xs[k] = 0 := by
  induction xs with
  | nil => intro k hk; simp at hk
  | cons x xs ih =>
    simp only [trimL] at h
    split at h
    · rename_i e
      split at h
      · rename_i h0
        intro k hk
        cases k with
        | zero => simpa using h0
        | succ k => simpa using ih e k (by simpa using hk)
      · cases h
    · cases h

set_option maxHeartbeats 400000 in
theorem limb_any (A : Option Addr) (c : Nat) (xs : List Nat) (k : Nat) (w : World) (B : Nat) (hr : Rd w B A (u32s xs)) (hd : Dig 4294967296 xs) (_ : xs.length ≤ 281474976710656) (hk : k ≤ 9223372036854775807) :
    Calls Tryd.prog 90 #[.slice A xs.length c, .int .i64 (k : Int)] w fun e w' => e = .returned (.int .u64 (at0 xs k : Nat)) ∧ w = w' := by
  have t0 : decide ((k : Int) < 0) = false := by simp
  rcases Nat.lt_or_ge k xs.length with hlt | hge
  · obtain ⟨b, off, rfl, hb, hcell⟩ := hr (by intro e; have := u32s_length xs; rw [e] at this; simp at this; omega)
    have hx := hcell k _ (u32s_at hlt)
    have t1 : decide (xs.length ≤ k) = false := by simp; omega
    have e1 := Lib.hid (at0_in hlt)
    have hxd := hd.at_ k hlt
    clear hcell hr
    go_enter Tryd.func90, Tryd.ntmps90
    go_wp2
    go_ret
    exact ⟨by rw [e1.out]; rfl, rfl⟩
  · have t1 : decide (xs.length ≤ k) = true := by simp; omega
    have e1 := Lib.hid (at0_out hge)
    go_enter Tryd.func90, Tryd.ntmps90
    go_wp2
    go_ret
    exact ⟨by rw [e1.out]; rfl, rfl⟩

set_option maxHeartbeats 800000 in
theorem rnorm_any (A : Option Addr) (c : Nat) (xs : List Nat) (w : World) (B : Nat) (hr : Rd w B A (u32s xs)) (hB : B ≤ w.heap.size) (hm : xs.length ≤ 70368744177664) :
    Calls Tryd.prog 76 #[.slice A xs.length c] w fun e w' => ∃ A' c', e = .returned (.slice A' (trimL xs).length c') ∧ Res9z w' w.heap.size 24 A' c' (u32s (trimL xs)) ∧ Below w.heap.size w w' := by
  go_enter Tryd.func76, Tryd.ntmps76
  go_upto_block 0 with (fail)
  go_cut [3] (fun v wc => v = .int .i64 ((trimL xs).length : Int) ∧ wc = w)
  case first =>
    go_wp2_with fail
    go_loop [3] (fun v => ∃ m : Nat, m ≤ xs.length ∧ v = .int .i64 m ∧ trimL (xs.take m) = trimL xs) (fun v => (intOf v).toNat)
    case atStart => exact ⟨xs.length, Nat.le_refl _, rfl, by simp⟩
    case round =>
      obtain ⟨m, hm1, rfl, ht⟩ := hrel
      have Ht := Lib.hid ht; clear ht
      rcases m with _ | m
      · go_wp2
        go_meet
        have h0 : (trimL xs).length = 0 := by rw [← Ht.out]; rfl
        exact ⟨by rw [h0]; rfl, rfl⟩
      · obtain ⟨b, off, rfl, hb, hcell⟩ := hr (by intro e; have := u32s_length xs; rw [e] at this; simp at this; omega)
        have hcl := hcell m _ (u32s_at (by omega))
        clear hcell
        by_cases h0 : xs[m] = 0
        · have hz := trimL_take_zero xs m (by omega) h0
          rw [h0] at hcl
          have Hz := Lib.hid hz
          clear hz h0
          go_wp2
          go_round
          case rel => exact ⟨m, by omega, by go_num, by rw [← Hz.out]; exact Ht.out⟩
          case measure => simp [intOf]
        · have hz := trimL_take_pos xs m (by omega) h0
          have Hz := Lib.hid hz
          have hne : ((xs[m] : Int) == 0) = false := by simp; omega
          clear hz
          go_wp2
          go_meet
          exact ⟨by have h9 := Hz.out; rw [Ht.out] at h9; rw [h9]; simp, rfl⟩
  case rest =>
    obtain ⟨rfl, rfl⟩ := hcut
    have hl := trimL_length_le xs
    obtain ⟨ts, hts⟩ : ∃ ts, ts = trimL xs := ⟨_, rfl⟩
    have hrt : Rd wc B A (u32s ts) := by rw [hts, u32s_trim]; exact hr.take _
    rw [← hts] at hl ⊢
    have hmk := fun W => mk32 ts.length (by omega) W
    have Hts := Lib.hid hts
    clear hts
    go_wp2
    go_loopw [5] (fun i wr => ∃ (k : Nat) (zs : List Nat), k ≤ ts.length ∧ i = .int .i64 k ∧ zs.length = ts.length ∧ Blk wr wc.heap.size 24 (u32s zs) ∧ zs.take k = ts.take k ∧ Below wc.heap.size wc wr) (fun i _ => ts.length - (intOf i).toNat)
    case atStart => exact ⟨0, List.replicate ts.length 0, by omega, rfl, by simp, Blk.new_ (by simp [u32s]), by simp, (Below.refl _ _).alloc (Nat.le_refl _) _⟩
    case round =>
      obtain ⟨k, zs, hk, rfl, hzl, hblk, htk, hbel⟩ := hrel
      by_cases hlt : k < ts.length
      · obtain ⟨b, off, rfl, hb, hcell⟩ := hrt (by intro e; have := u32s_length ts; rw [e] at this; simp at this; omega)
        have hx := (hbel.cell (p := ⟨b, off + k, none⟩) (show b < _ by omega)).trans (hcell k _ (u32s_at hlt))
        have hkz : k < zs.length := by omega
        have Hzl := Lib.hid hzl
        have Htk := Lib.hid htk
        clear hcell hzl htk
        have hc2 := (hblk.cell k).trans (u32s_at hkz)
        have hf2 := hblk.frozen k
        go_wp2
        go_roundw
        case rel =>
          refine ⟨k + 1, zs.set k ts[k], by omega, by go_num, by simpa using Hzl.out, ?_, ?_, hbel.setCell (p := ⟨wc.heap.size, k, none⟩) (Nat.le_refl _) _⟩
          · have hb2 := hblk.set_ k (Value.int IntKind.u32 (ts[k] : Int))
            rw [u32s_set9z] at hb2
            exact hb2
          · rw [List.take_succ_eq_append_getElem hlt, List.take_succ_eq_append_getElem (by simpa using hkz), ← Htk.out, List.take_set_of_le (Nat.le_refl _)]
            simp
        case measure => simp [intOf]; omega
      · go_wp2
        go_ret
        obtain rfl : k = ts.length := by omega
        have e : zs = ts := by
          rw [List.take_length, ← hzl, List.take_length] at htk
          exact htk
        subst e
        clear htk
        have h3 := Res9z.of_blk0 hblk (Nat.le_refl _) (by rw [u32s_length]; omega)
        rw [u32s_length] at h3
        exact ⟨_, _, by rw [← Hts.out]; rfl, by rw [← Hts.out]; exact h3, hbel⟩

set_option maxHeartbeats 400000 in
theorem zero_any (A : Option Addr) (c : Nat) (xs : List Nat) (w : World) (B : Nat) (hr : Rd w B A (u32s xs)) (hm : xs.length ≤ 281474976710656) :
    Calls Tryd.prog 81 #[.slice A xs.length c] w fun e w' => e = .returned (.bool (decide (trimL xs = []))) ∧ w = w' := by
  go_enter Tryd.func81, Tryd.ntmps81
  go_wp2
  go_loop [4, 7] (fun _ i => ∃ k : Nat, k ≤ xs.length ∧ i = .int .i64 k ∧ trimL (xs.take k) = []) (fun _ i => xs.length - (intOf i).toNat)
  case atStart => exact ⟨0, by omega, rfl, rfl⟩
  case round =>
    obtain ⟨k, hk, rfl, ht⟩ := hrel
    by_cases hlt : k < xs.length
    · obtain ⟨b, off, rfl, hb, hcell⟩ := hr (by intro e; have := u32s_length xs; rw [e] at this; simp at this; omega)
      have hx := hcell k _ (u32s_at hlt)
      have Ht := Lib.hid ht
      clear hcell ht
      by_cases h0 : xs[k] = 0
      · have t1 : ((xs[k] : Int) != 0) = false := by simpa using h0
        have hz := Lib.hid (trimL_take_zero xs k hlt h0)
        clear h0
        go_wp2
        go_round
        case rel => exact ⟨k + 1, by omega, by go_num, by rw [hz.out]; exact Ht.out⟩
        case measure => simp [intOf]; omega
      · have t1 : ((xs[k] : Int) != 0) = true := by simpa using h0
        have hz : decide (trimL xs = []) = false := by
          simp only [decide_eq_false_iff_not]
          intro e
          have h1 := trimL_nil_at e k hlt
          exact h0 h1
        have Hz := Lib.hid hz
        clear hz h0
        go_wp2
        go_ret
        exact ⟨by rw [Hz.out]; rfl, rfl⟩
    · obtain rfl : k = xs.length := by omega
      have hz : decide (trimL xs = []) = true := by rw [List.take_length] at ht; simp [ht]
      have Hz := Lib.hid hz
      clear hz ht
      go_wp2
      go_ret
      exact ⟨by rw [Hz.out]; rfl, rfl⟩
end
section
open Go.RowKit

theorem val_pad (b : Nat) (xs : List Nat) (n : Nat) : val b (xs ++ List.replicate n 0) = val b xs := by rw [val_append, val_zeros]; simp
theorem val_lt_getD {xs ys : List Nat} (hx : Dig 4294967296 xs) (k : Nat) (hs : ∀ j, k < j → at0 xs j = at0 ys j) (hlt : at0 xs k < at0 ys k) : val 4294967296 xs < val 4294967296 ys := by
  obtain ⟨n, hn⟩ : ∃ n, n = max (max xs.length ys.length) (k + 1) := ⟨_, rfl⟩
  rw [← val_pad 4294967296 xs (n - xs.length), ← val_pad 4294967296 ys (n - ys.length)]
  have h1 : ∀ (zs : List Nat), zs.length ≤ n → ∀ i (h : i < (zs ++ List.replicate (n - zs.length) 0).length), (zs ++ List.replicate (n - zs.length) 0)[i] = at0 zs i := fun zs hz i h => by
    by_cases hi : i < zs.length
    · rw [List.getElem_append_left hi, at0_in hi]
    · rw [List.getElem_append_right (by omega), at0_out (by omega)]
      simp
  refine val_cmp_top 4294967296 _ _ (hx.append_ (Dig.zeros_ (by omega) _)) (by simp; omega) k (by simp; omega) (fun i h hki => ?_) ?_
  · rw [h1 xs (by omega), h1 ys (by omega), hs i hki]
  · rw [h1 xs (by omega), h1 ys (by omega)]; exact hlt
theorem val_eq_getD {xs ys : List Nat} (hs : ∀ j, at0 xs j = at0 ys j) : val 4294967296 xs = val 4294967296 ys := by
  rw [← val_pad 4294967296 xs (ys.length - xs.length), ← val_pad 4294967296 ys (xs.length - ys.length)]
  congr 1
  apply List.ext_getElem (by simp; omega)
  intro i h1 h2
  have e := hs i
  by_cases hi : i < xs.length
  · rw [List.getElem_append_left hi]
    rw [at0_in hi] at e
    by_cases hj : i < ys.length
    · rw [List.getElem_append_left hj, e, at0_in hj]
    · rw [List.getElem_append_right (by omega), e, at0_out (by omega)]; simp
  · rw [List.getElem_append_right (by omega)]
    rw [at0_out (by omega)] at e
    by_cases hj : i < ys.length
    · rw [List.getElem_append_left hj, ← at0_in hj, ← e]; simp
    · rw [List.getElem_append_right (by omega)]; simp

set_option maxHeartbeats 800000 in
theorem rcmp_any (A A2 : Option Addr) (c c2 : Nat) (xs ys : List Nat) (w : World) (B : Nat) (hr : Rd w B A (u32s xs)) (hr2 : Rd w B A2 (u32s ys)) (hd : Dig 4294967296 xs) (hd2 : Dig 4294967296 ys) (hm : xs.length ≤ 281474976710656) (hm2 : ys.length ≤ 281474976710656) :
    Calls Tryd.prog 78 #[.slice A xs.length c, .slice A2 ys.length c2] w fun e w' => e = .returned (.int .i64 (cmpN (val 4294967296 xs) (val 4294967296 ys))) ∧ w = w' := by
  obtain ⟨bb, tl⟩ : ∃ bb, decide (xs.length < ys.length) = bb := ⟨_, rfl⟩
  cases bb
  all_goals
    have hl := tl
    simp at hl
    go_enter Tryd.func78, Tryd.ntmps78
    go_wp2
    go_loop [6] (fun i => ∃ k : Nat, k ≤ 281474976710656 ∧ i = .int .i64 ((k : Int) - 1) ∧ ∀ j, k ≤ j → at0 xs j = at0 ys j) (fun i => (intOf i + 1).toNat)
    case atStart =>
      first
        | exact ⟨ys.length, hm2, rfl, fun j hj => by rw [at0_out (by omega), at0_out (by omega)]⟩
        | exact ⟨xs.length, hm, rfl, fun j hj => by rw [at0_out (by omega), at0_out (by omega)]⟩
    case round =>
      obtain ⟨k, hk, rfl, hs⟩ := hrel
      rcases k with _ | k
      · have e1 : cmpN (val 4294967296 xs) (val 4294967296 ys) = 0 := by
          rw [val_eq_getD (fun j => hs j (by omega))]; simp [cmpN]
        have He1 := Lib.hid e1
        clear e1 hs
        go_wp2
        go_ret
        exact ⟨by rw [He1.out]; rfl, rfl⟩
      · rw [show ((k + 1 : Nat) : Int) - 1 = (k : Int) from by omega]
        have hkb : k ≤ 9223372036854775807 := by omega
        rcases Nat.lt_trichotomy (at0 xs k) (at0 ys k) with h1 | h1 | h1
        · have e1 : cmpN (val 4294967296 xs) (val 4294967296 ys) = -1 := by
            have := val_lt_getD hd k (fun j hj => hs j (by omega)) h1
            simp [cmpN, this]
          have He1 := Lib.hid e1
          obtain ⟨x, hx⟩ : ∃ x, x = at0 xs k := ⟨_, rfl⟩
          obtain ⟨y, hy⟩ : ∃ y, y = at0 ys k := ⟨_, rfl⟩
          have t1 : decide (at0 xs k < at0 ys k) = true := by simpa using h1
          clear e1 hs hx hy
          go_wp2_with (first
          | (go_at_call 90; (with_reducible refine (limb_any A c xs k _ B hr hd hm hkb).mono ?_); rintro e w' ⟨rfl, rfl⟩)
          | (go_at_call 90; (with_reducible refine (limb_any A2 c2 ys k _ B hr2 hd2 hm2 hkb).mono ?_); rintro e w' ⟨rfl, rfl⟩))
          go_ret
          exact ⟨by rw [He1.out]; rfl, rfl⟩
        · have t1 : decide (at0 xs k < at0 ys k) = false := by rw [h1]; simp
          have t2 : decide (at0 ys k < at0 xs k) = false := by rw [h1]; simp
          have Hs : Hid (∀ j, k ≤ j → at0 xs j = at0 ys j) := fun j hj => by
            by_cases e : k = j
            · subst e; exact h1
            · exact hs j (by omega)
          clear hs h1
          go_wp2_with (first
          | (go_at_call 90; (with_reducible refine (limb_any A c xs k _ B hr hd hm hkb).mono ?_); rintro e w' ⟨rfl, rfl⟩)
          | (go_at_call 90; (with_reducible refine (limb_any A2 c2 ys k _ B hr2 hd2 hm2 hkb).mono ?_); rintro e w' ⟨rfl, rfl⟩))
          go_round
          case rel => exact ⟨k, by omega, by go_num, Hs.out⟩
          case measure => simp [intOf]
        · have e1 : cmpN (val 4294967296 xs) (val 4294967296 ys) = 1 := by
            have := val_lt_getD hd2 k (fun j hj => (hs j (by omega)).symm) h1
            simp [cmpN, this]; omega
          have He1 := Lib.hid e1
          have t1 : decide (at0 xs k < at0 ys k) = false := by simp; omega
          have t2 : decide (at0 ys k < at0 xs k) = true := by simpa using h1
          clear e1 hs
          go_wp2_with (first
          | (go_at_call 90; (with_reducible refine (limb_any A c xs k _ B hr hd hm hkb).mono ?_); rintro e w' ⟨rfl, rfl⟩)
          | (go_at_call 90; (with_reducible refine (limb_any A2 c2 ys k _ B hr2 hd2 hm2 hkb).mono ?_); rintro e w' ⟨rfl, rfl⟩))
          go_ret
          exact ⟨by rw [He1.out]; rfl, rfl⟩
end
section
open Go.RowKit

/-- A row of one's own reads as what it holds. -/
theorem own_res {w : World} {base : Nat} {e : TypeId} {v : Value} {n : Nat} {xs : List Value} (h : w.ownsRow base e 1 v n xs) (hm : n ≤ 281474976710656) : ∃ A c, v = .slice A n c ∧ n ≤ c ∧ Rd w w.heap.size A xs ∧ (xs ≠ [] → ∃ g, A = some ⟨g, 0, none⟩ ∧ base ≤ g) := by
  obtain ⟨hl, h1 | ⟨g, cap, cur, rfl, hg, hh, hnc, hcm, hsz, ht⟩⟩ := h
  · obtain ⟨rfl, rfl⟩ := h1
    have : xs = [] := List.eq_nil_of_length_eq_zero (by simpa using hl)
    subst this
    exact ⟨none, 0, rfl, Nat.le_refl _, Rd.nil_, fun h => absurd rfl h⟩
  · refine ⟨_, cap, rfl, hnc, fun _ => ?_, fun _ => ⟨g, rfl, hg⟩⟩
    have hb : Blk w g e cur.toList := by simpa [Blk] using hh
    refine ⟨g, 0, rfl, hb.lt, fun k u hu => ?_⟩
    rw [Nat.zero_add, hb.cell]
    rw [← ht, List.getElem?_take] at hu
    split at hu
    · exact hu
    · cases hu

theorem addr_add (b off j : Nat) : (⟨b, off, none⟩ : Addr).add j = ⟨b, off + j, none⟩ := by unfold Addr.add; split <;> simp_all

/-- Appending what a slice reads as to a row of one's own. -/
theorem run_app {P : Program} (w : World) (base : Nat) (t ty e : TypeId) (i : TypeInfo) (z : Value) (bytes : Nat) (ht : P.underlying t = some (.slice e)) (hi : P.info? e = some i) (hz : i.zero = some z)
    (hsize : i.size = 1) (hby : i.bytes = bytes) (hzs : z.cells.size = 1) (g n cap : Nat) (xs : List Value) (hown : w.ownsRow base e 1 (.slice (some ⟨g, 0, none⟩) n cap) n xs)
    (A : Option Addr) (m c B : Nat) (news : List Value) (hr : Rd w B A news) (hm : news.length = m) (h1 : ∀ u ∈ news, u.oneCell' = true) (h63 : n + m ≤ maxLen) (hbytes : (n + m) * bytes ≤ 140737488355328) (hbase : base ≤ w.heap.size) :
    ∃ v' w', (Builtin.append_ #[t, t] ty #[.slice (some ⟨g, 0, none⟩) n cap, .slice A m c]).run P w = .ok v' w' ∧ w'.ownsRow base e 1 v' (n + m) (xs ++ news) ∧ w.grownBy w' (some g) := by
  rcases A with _ | ad
  · have h0 : news = [] := by
      by_cases h : news = []
      · exact h
      · obtain ⟨_, _, h2, _⟩ := hr h
        cases h2
    subst h0
    obtain rfl : m = 0 := by simpa using hm.symm
    have hown0 := hown
    obtain ⟨hl, h2 | ⟨g', cap', cur, hv, hg, hh, hnc, hcm, hsz, htk⟩⟩ := hown
    · cases h2.1
    · injection hv with e1 e2 e3
      subst e3
      refine ⟨_, w, ?_, by simpa using hown0, World.grownBy.refl w _⟩
      simp [Builtin.append_, run_underlying ht, sizeOf, typeInfo, hi, Builtin.lenOf, Builtin.firstCells, hnc, storeCells]
  · have hcells : ∀ j u, news[j]? = some u → w.cell? (ad.add j) = some u := fun j u hu => by
      obtain ⟨b, off, h2, _, hc⟩ := hr (by rintro rfl; simp at hu)
      injection h2 with h2
      subst h2
      rw [addr_add]
      exact hc j u hu
    obtain ⟨v', w', hrun, h2, h3, _, _⟩ := run_append_own_at (P := P) w base t ty e i z 1 bytes ht hi hz hsize hby hzs (by omega) _ n xs hown ad m c news (by rw [hm]; omega) hcells h1 h63 hbytes hbase
    exact ⟨v', w', hrun, h2, h3⟩

/-- The walk's step at an append whose run is known. -/
theorem wpList_append_run {P : Program} {w : World} {ops : Array Oper} {rest : List Oper} {o : Oper} {a : Act} {Q : Exit → Act → World → Prop} (hgd : o.guard = none) (d s : Operand) (dT sT : TypeId)
    (ho : o.op = .call { callee := .builtin .append, args := #[d, s], argTypes := #[dT, sT] }) (dv sv : Value) (hd : a.eval d = dv) (hs : a.eval s = sv) (v' : Value) (w' : World)
    (hrun : (Builtin.append_ #[dT, sT] o.type #[dv, sv]).run P w = .ok v' w') (h : wpList P ops Q rest (a.put o.dst v') w') : wpList P ops Q (o :: rest) a w := by
  refine wpList_plain hgd fun K hK => ?_
  unfold Oper.wp
  simp [execOp, ho, resolve, invoke, builtin, hd, hs, hrun, Result.andThen]
  exact hK _ _ h

theorem below_grown {w w' : World} {g : Nat} (h : w.grownBy w' (some g)) {B : Nat} (hB : B ≤ g) (hw : B ≤ w.heap.size) : Below B w w' :=
  ⟨h.os, h.tape, h.output, h.size, fun k hk => h.block k (by omega) (fun e => by injection e with e; omega)⟩

set_option maxHeartbeats 400000 in
theorem rshift_any (A : Option Addr) (c : Nat) (xs : List Nat) (x : Nat) (w : World) (B : Nat) (hr : Rd w B A (u32s xs)) (hB : B ≤ w.heap.size) (hd : Dig 4294967296 xs) (hx : x < 4294967296) (hm : xs.length ≤ 35184372088800) :
    Calls Tryd.prog 77 #[.slice A xs.length c, .int .u32 (x : Int)] w fun e w' => ∃ zs A' c', e = .returned (.slice A' zs.length c') ∧ Num 4294967296 zs (x + 4294967296 * val 4294967296 xs) ∧ Res9z w' w.heap.size 24 A' c' (u32s zs) ∧ Below w.heap.size w w' := by
  obtain ⟨i0, hi, hz0, hz1, hz2⟩ := info_parts Tryd.info329z
  have hb1 : Blk (w.alloc (.cells #[.int .u32 (x : Int)] 24)) w.heap.size 24 (u32s [x]) := Blk.new_ rfl
  have hown : (w.alloc (.cells #[.int .u32 (x : Int)] 24)).ownsRow w.heap.size 24 1 (.slice (some ⟨w.heap.size, 0, none⟩) 1 1) 1 [.int .u32 (x : Int)] :=
    ⟨rfl, .inr ⟨w.heap.size, 1, #[.int .u32 (x : Int)], rfl, Nat.le_refl _, hb1, Nat.le_refl _, by decide, rfl, rfl⟩⟩
  obtain ⟨v', w1, hrun, hown2, hgr⟩ := run_app (P := Tryd.prog) (w.alloc (.cells #[.int .u32 (x : Int)] 24)) w.heap.size 49 49 24 i0 (.int .u32 0) 4 Tryd.underlying49 hi hz0 hz1 hz2 rfl w.heap.size 1 1 _ hown A xs.length c B (u32s xs)
    (hr.below ((Below.refl _ _).alloc hB _)) (u32s_length xs) (one_u32s xs) (by unfold maxLen; omega) (by omega) (by simp)
  obtain ⟨A1, c1, rfl, hlc, hrd, _⟩ := own_res hown2 (by omega)
  have hbel : Below w.heap.size w w1 := ((Below.refl _ _).alloc (Nat.le_refl _) _).trans (below_grown hgr (Nat.le_refl _) (by simp))
  have hl : Hid ((x :: xs).length = 1 + xs.length) := by show _ = _; simp; omega
  have hrd2 : Rd w1 w1.heap.size A1 (u32s (x :: xs)) := hrd
  have hmm : (x :: xs).length ≤ 70368744177664 := by have := hl.out; omega
  clear hown hown2 hgr hb1 hrd
  go_enter Tryd.func77, Tryd.ntmps77
  have Hrun := Lib.hid hrun
  clear hrun
  go_wp2_with (first
    | (at_builtin; refine wpList_append_run rfl _ _ _ _ rfl _ _ rfl rfl _ _ Hrun.out ?_)
    | (go_at_call 76; rw [← hl.out]; refine (rnorm_any A1 c1 (x :: xs) w1 _ hrd2 (Nat.le_refl _) hmm).mono ?_; rintro e w2 ⟨A', c', rfl, hres, hb⟩))
  go_ret
  exact ⟨trimL (x :: xs), A', c', rfl, Num.of_trim (hd.cons_ hx), hres.mono hbel.size, hbel.trans (hb.mono hbel.size)⟩
end
section
open Go.RowKit

theorem val_take_at0 (b : Nat) (xs : List Nat) (k : Nat) : val b (xs.take (k + 1)) = val b (xs.take k) + b ^ k * at0 xs k := by
  by_cases h : k < xs.length
  · rw [val_take_succ b xs k h, at0_in h]
  · rw [at0_out (by omega), List.take_of_length_le (by omega), List.take_of_length_le (by omega)]; simp
theorem val_take_all (b : Nat) (xs : List Nat) (k : Nat) (h : xs.length ≤ k) : val b (xs.take k) = val b xs := by rw [List.take_of_length_le h]
theorem val_take_drop (b : Nat) (xs : List Nat) (k : Nat) (h : k ≤ xs.length) : val b xs = val b (xs.take k) + b ^ k * val b (xs.drop k) := by
  conv => lhs; rw [← List.take_append_drop k xs]
  rw [val_append, List.length_take, Nat.min_eq_left h]

/-- What Small's row and carry are behind k limbs. -/
def Smalled (xs : List Nat) (x k : Nat) (zs : List Nat) (c : Nat) : Prop :=
  Dig 4294967296 zs ∧ c < 4294967296 ∧ val 4294967296 zs + 4294967296 ^ k * c = val 4294967296 (xs.take k) * x ∧ ∀ j (h : j < zs.length), k ≤ j → zs[j] = 0
theorem Smalled.start (xs : List Nat) (x n : Nat) : Smalled xs x 0 (List.replicate n 0) 0 :=
  ⟨Dig.zeros_ (by omega) _, by omega, by simp [val_zeros, val], fun j h _ => by simp⟩
theorem Smalled.step {xs zs : List Nat} {x k c : Nat} (h : Smalled xs x k zs c) (hz : k < zs.length) (hd : Dig 4294967296 xs) (hx : x < 4294967296) :
    Smalled xs x (k + 1) (zs.set k ((at0 xs k * x + c) % 4294967296)) ((at0 xs k * x + c) / 4294967296) := by
  obtain ⟨h1, h2, h3, h4⟩ := h
  have ha := at0_lt hd k
  have hp : at0 xs k * x ≤ 4294967295 * 4294967295 := Nat.mul_le_mul (by omega) (by omega)
  refine ⟨h1.set_ _ _ (Nat.mod_lt _ (by omega)), ?_, ?_, fun i hi hki => ?_⟩
  · rw [Nat.div_lt_iff_lt_mul (by omega)]; omega
  · have e1 := val_set 4294967296 zs k ((at0 xs k * x + c) % 4294967296) hz
    rw [h4 k hz (Nat.le_refl _)] at e1
    have e2 := Nat.mod_add_div (at0 xs k * x + c) 4294967296
    rw [val_take_at0, Nat.add_mul, ← h3, Nat.pow_succ, Nat.mul_assoc, Nat.mul_assoc]
    have e3 : 4294967296 ^ k * (at0 xs k * x) + 4294967296 ^ k * c = 4294967296 ^ k * ((at0 xs k * x + c) % 4294967296) + 4294967296 ^ k * (4294967296 * ((at0 xs k * x + c) / 4294967296)) := by
      rw [← Nat.mul_add, ← Nat.mul_add, e2]
    omega
  · rw [List.getElem_set, if_neg (by omega)]
    exact h4 i (by simpa using hi) (by omega)
theorem carry_none {b v n c u x : Nat} (h : v + b ^ (n + 1) * c = u * x) (hu : u < b ^ n) (hx : x < b) : c = 0 := by
  rcases Nat.eq_zero_or_pos c with h0 | h0
  · exact h0
  · exfalso
    have h1 : u * x ≤ u * b := Nat.mul_le_mul_left _ (Nat.le_of_lt hx)
    have h2 : u * b < b ^ n * b := (Nat.mul_lt_mul_right (by omega)).2 hu
    have h3 : b ^ n * b * 1 ≤ b ^ n * b * c := Nat.mul_le_mul_left _ h0
    rw [Nat.pow_succ] at h
    generalize b ^ n * b = q at *
    omega
theorem Smalled.last {xs zs : List Nat} {x c : Nat} (h : Smalled xs x (xs.length + 1) zs c) (hd : Dig 4294967296 xs) (hx : x < 4294967296) : val 4294967296 zs = val 4294967296 xs * x := by
  obtain ⟨h1, h2, h3, h4⟩ := h
  rw [val_take_all _ _ _ (by omega)] at h3
  obtain rfl := carry_none h3 (val_lt _ xs hd) hx
  rw [Nat.mul_zero, Nat.add_zero] at h3
  exact h3

set_option maxHeartbeats 800000 in
theorem rsmall_any (A : Option Addr) (c : Nat) (xs : List Nat) (x : Nat) (w : World) (B : Nat) (hr : Rd w B A (u32s xs)) (hB : B ≤ w.heap.size) (hd : Dig 4294967296 xs) (hx : x < 4294967296) (hm : xs.length ≤ 70368744170000) :
    Calls Tryd.prog 79 #[.slice A xs.length c, .int .u32 (x : Int)] w fun e w' => ∃ zs A' c', e = .returned (.slice A' zs.length c') ∧ Num 4294967296 zs (val 4294967296 xs * x) ∧ Res9z w' w.heap.size 24 A' c' (u32s zs) ∧ Below w.heap.size w w' := by
  have hmk : ∀ W : World, (Instr.makeSlice 49 (.int .i64 ((xs.length : Int) + 1)) (.int .i64 ((xs.length : Int) + 1))).run Tryd.prog W = .ok (.slice (some ⟨W.heap.size, 0, none⟩) (xs.length + 1) (xs.length + 1)) (W.alloc (.cells (List.replicate (xs.length + 1) (Value.int .u32 0)).toArray 24)) := fun W => by
    have := mk32 (xs.length + 1) (by omega) W
    rwa [show ((xs.length + 1 : Nat) : Int) = (xs.length : Int) + 1 from by omega] at this
  go_enter Tryd.func79, Tryd.ntmps79
  go_wp2
  go_loopw [6, 7, 8, 15] (fun cv _ _ i wr => ∃ (k cc : Nat) (zs : List Nat), k ≤ xs.length + 1 ∧ i = .int .i64 k ∧ cv = .int .u64 cc ∧ zs.length = xs.length + 1 ∧ Blk wr w.heap.size 24 (u32s zs) ∧ Smalled xs x k zs cc ∧ Below w.heap.size w wr) (fun _ _ _ i _ => xs.length + 1 - (intOf i).toNat)
  case atStart => exact ⟨0, 0, List.replicate (xs.length + 1) 0, by omega, rfl, rfl, by simp, Blk.new_ (by simp [u32s]), Smalled.start _ _ _, (Below.refl _ _).alloc (Nat.le_refl _) _⟩
  case round =>
    obtain ⟨k, cc, zs, hk, rfl, rfl, hzl, hblk, hsm, hbel⟩ := hrel
    by_cases hlt : k < xs.length + 1
    · have hkz : k < zs.length := by omega
      have Hzl := Lib.hid hzl
      clear hzl
      have hc2 := (hblk.cell k).trans (u32s_at hkz)
      have hf2 := hblk.frozen k
      have ha := at0_lt hd k
      have hcc := hsm.2.1
      obtain ⟨y, hy⟩ : ∃ y, y = at0 xs k := ⟨_, rfl⟩
      obtain ⟨p, hp⟩ : ∃ p, p = y * x := ⟨_, rfl⟩
      rw [← hy] at ha
      have hpb : p ≤ 18446744065119617025 := by
        rw [hp]
        have : y * x ≤ 4294967295 * 4294967295 := Nat.mul_le_mul (by omega) (by omega)
        omega
      have e1 : IntKind.u64.wrap ((y : Int) * (x : Int)) = (p : Int) := by
        rw [IntKind.wrap_u64, ← Int.natCast_mul, ← hp]; omega
      have hrw := hr.below (hbel.mono hB)
      have hm2 : xs.length ≤ 281474976710656 := by omega
      have hkb : k ≤ 9223372036854775807 := by omega
      have Hy := Lib.hid hy
      have Hp := Lib.hid hp
      have Hpb := Lib.hid hpb
      obtain ⟨sm, hsme⟩ : ∃ sm, sm = p + cc := ⟨_, rfl⟩
      have e2 : IntKind.u64.wrap ((p : Int) + (cc : Int)) = (sm : Int) := by
        rw [IntKind.wrap_u64]; omega
      have hsb : sm < 18446744073709551616 := by omega
      have Hsm := Lib.hid hsme
      clear hy hp hpb hsme
      go_wp2_with (go_at_call 90; (with_reducible refine (limb_any A c xs k _ B hrw hd hm2 hkb).mono ?_); rintro e w' ⟨rfl, rfl⟩; rw [← Hy.out])
      go_roundw
      case rel =>
        have hst := hsm.step hkz hd hx
        rw [← Hy.out, ← Hp.out, ← Hsm.out] at hst
        refine ⟨k + 1, sm / 4294967296, zs.set k (sm % 4294967296), by omega, by go_num, by go_num, by simpa using Hzl.out, ?_, hst, hbel.setCell (p := ⟨w.heap.size, k, none⟩) (Nat.le_refl _) _⟩
        have hb2 := hblk.set_ k (Value.int IntKind.u32 ((sm % 4294967296 : Nat) : Int))
        rw [u32s_set9z] at hb2
        exact hb2
      case measure => simp [intOf]; omega
    · obtain rfl : k = xs.length + 1 := by omega
      have hrd := (Res9z.of_blk0 hblk (Nat.le_refl _) (by rw [u32s_length]; omega)).rd
      have hv := hsm.last hd hx
      have Hv := Lib.hid hv
      have Hzl := Lib.hid hzl
      have hzm : zs.length ≤ 70368744177664 := by omega
      clear hzl hv
      go_wp2_with (go_at_call 76; rw [← Hzl.out]; refine (rnorm_any _ _ zs wr _ hrd (Nat.le_refl _) hzm).mono ?_; rintro e w2 ⟨A', c', rfl, hres, hb⟩)
      go_ret
      refine ⟨trimL zs, A', c', rfl, ?_, hres.mono hbel.size, hbel.trans (hb.mono hbel.size)⟩
      rw [← Hv.out]
      exact Num.of_trim hsm.1
end
section
open Go.RowKit

/-- What Sub's row and borrow are behind k limbs. -/
def Subbed (xs ys : List Nat) (k : Nat) (zs : List Nat) (c : Nat) : Prop :=
  Dig 4294967296 zs ∧ c ≤ 1 ∧ val 4294967296 zs + val 4294967296 (ys.take k) = val 4294967296 (xs.take k) + 4294967296 ^ k * c ∧ (∀ j (h : j < zs.length), k ≤ j → zs[j] = 0) ∧ zs.length = xs.length
theorem Subbed.start (xs ys : List Nat) : Subbed xs ys 0 (List.replicate xs.length 0) 0 :=
  ⟨Dig.zeros_ (by omega) _, by omega, by simp [val_zeros, val], fun j h _ => by simp, by simp⟩
theorem Subbed.step {xs ys zs : List Nat} {k c : Nat} (h : Subbed xs ys k zs c) (hz : k < zs.length) (hd : Dig 4294967296 xs) (hd2 : Dig 4294967296 ys) :
    Subbed xs ys (k + 1) (zs.set k ((4294967296 + at0 xs k - at0 ys k - c) % 4294967296)) (1 - (4294967296 + at0 xs k - at0 ys k - c) / 4294967296) := by
  obtain ⟨h1, h2, h3, h4, h5⟩ := h
  have ha := at0_lt hd k
  have hb := at0_lt hd2 k
  refine ⟨h1.set_ _ _ (Nat.mod_lt _ (by omega)), by omega, ?_, fun i hi hki => ?_, by simpa using h5⟩
  · have e1 := val_set 4294967296 zs k ((4294967296 + at0 xs k - at0 ys k - c) % 4294967296) hz
    rw [h4 k hz (Nat.le_refl _), Nat.mul_zero, Nat.add_zero] at e1
    rw [val_take_at0, val_take_at0, Nat.pow_succ]
    generalize at0 xs k = x at *
    generalize at0 ys k = y at *
    have e2 : (4294967296 + x - y - c) % 4294967296 + y + c = x + 4294967296 * (1 - (4294967296 + x - y - c) / 4294967296) := by omega
    generalize (4294967296 + x - y - c) % 4294967296 = r at *
    generalize 1 - (4294967296 + x - y - c) / 4294967296 = q at *
    have e3 : 4294967296 ^ k * r + 4294967296 ^ k * y + 4294967296 ^ k * c = 4294967296 ^ k * x + 4294967296 ^ k * 4294967296 * q := by
      rw [← Nat.mul_add, ← Nat.mul_add, e2, Nat.mul_add, Nat.mul_assoc]
    generalize 4294967296 ^ k * 4294967296 * q = t1 at *
    generalize 4294967296 ^ k * r = t2 at *
    generalize 4294967296 ^ k * y = t3 at *
    generalize 4294967296 ^ k * c = t4 at *
    generalize 4294967296 ^ k * x = t5 at *
    omega
  · rw [List.getElem_set, if_neg (by omega)]
    exact h4 i (by simpa using hi) (by omega)
theorem borrow_none {b v n c x y : Nat} (h : v + y = x + b ^ n * c) (hv : v < b ^ n) (hy : y ≤ x) : c = 0 := by
  rcases Nat.eq_zero_or_pos c with h0 | h0
  · exact h0
  · exfalso
    have h3 : b ^ n * 1 ≤ b ^ n * c := Nat.mul_le_mul_left _ h0
    generalize b ^ n = q at *
    omega
theorem val_take_le {b : Nat} (xs : List Nat) (n : Nat) (h : val b xs < b ^ n) (_ : Dig b xs) (_ : 0 < b) : val b (xs.take n) = val b xs := by
  by_cases hn : xs.length ≤ n
  · exact val_take_all _ _ _ hn
  · have e := val_take_drop b xs n (by omega)
    rcases Nat.eq_zero_or_pos (val b (xs.drop n)) with h0 | h0
    · rw [h0] at e; omega
    · exfalso
      have h3 : b ^ n * 1 ≤ b ^ n * val b (xs.drop n) := Nat.mul_le_mul_left _ h0
      omega
theorem Subbed.last {xs ys zs : List Nat} {c : Nat} (h : Subbed xs ys xs.length zs c) (hd : Dig 4294967296 xs) (hd2 : Dig 4294967296 ys) (hle : val 4294967296 ys ≤ val 4294967296 xs) : val 4294967296 zs = val 4294967296 xs - val 4294967296 ys := by
  obtain ⟨h1, h2, h3, h4, h5⟩ := h
  have hx := val_lt _ xs hd
  rw [List.take_length, val_take_le ys _ (by omega) hd2 (by omega)] at h3
  have hz := val_lt _ zs h1
  rw [h5] at hz
  obtain rfl := borrow_none h3 hz hle
  rw [Nat.mul_zero] at h3
  generalize val 4294967296 ys = q1 at *
  generalize val 4294967296 xs = q2 at *
  generalize val 4294967296 zs = q3 at *
  omega

set_option maxHeartbeats 800000 in
theorem rsub_any9z (A A2 : Option Addr) (c c2 : Nat) (xs ys : List Nat) (w : World) (B : Nat) (hr : Rd w B A (u32s xs)) (hr2 : Rd w B A2 (u32s ys)) (hB : B ≤ w.heap.size) (hd : Dig 4294967296 xs) (hd2 : Dig 4294967296 ys) (hm : xs.length ≤ 70368744170000) (hm2 : ys.length ≤ 281474976710656) (hle : val 4294967296 ys ≤ val 4294967296 xs) :
    Calls Tryd.prog 80 #[.slice A xs.length c, .slice A2 ys.length c2] w fun e w' => ∃ zs A' c', e = .returned (.slice A' zs.length c') ∧ Num 4294967296 zs (val 4294967296 xs - val 4294967296 ys) ∧ Res9z w' w.heap.size 24 A' c' (u32s zs) ∧ Below w.heap.size w w' := by
  have hmk := fun W => mk32 xs.length (by omega) W
  go_enter Tryd.func80, Tryd.ntmps80
  go_wp2
  go_loopw [6, 7, 8, 14] (fun cv _ _ i wr => ∃ (k cc : Nat) (zs : List Nat), k ≤ xs.length ∧ i = .int .i64 k ∧ cv = .int .u64 cc ∧ Blk wr w.heap.size 24 (u32s zs) ∧ Subbed xs ys k zs cc ∧ Below w.heap.size w wr) (fun _ _ _ i _ => xs.length - (intOf i).toNat)
  case atStart => exact ⟨0, 0, _, by omega, rfl, rfl, Blk.new_ (by simp [u32s]), Subbed.start _ _, (Below.refl _ _).alloc (Nat.le_refl _) _⟩
  case round =>
    obtain ⟨k, cc, zs, hk, rfl, rfl, hblk, hsm, hbel⟩ := hrel
    by_cases hlt : k < xs.length
    · have hkz : k < zs.length := by rw [hsm.2.2.2.2]; exact hlt
      have hc2 := (hblk.cell k).trans (u32s_at hkz)
      have hf2 := hblk.frozen k
      have ha := at0_lt hd k
      have hb := at0_lt hd2 k
      have hcc := hsm.2.1
      obtain ⟨x, hxe⟩ : ∃ x, x = at0 xs k := ⟨_, rfl⟩
      obtain ⟨y, hye⟩ : ∃ y, y = at0 ys k := ⟨_, rfl⟩
      rw [← hxe] at ha
      rw [← hye] at hb
      obtain ⟨sm, hsme⟩ : ∃ sm, sm = 4294967296 + x - y - cc := ⟨_, rfl⟩
      have e2 : (4294967296 : Int) + (x : Int) - (y : Int) - (cc : Int) = (sm : Int) := by omega
      have hsb : sm < 8589934592 := by omega
      have hrw := hr.below (hbel.mono hB)
      have hrw2 := hr2.below (hbel.mono hB)
      have hm1 : xs.length ≤ 281474976710656 := by omega
      have hkb : k ≤ 9223372036854775807 := by omega
      have Hx := Lib.hid hxe
      have Hy := Lib.hid hye
      have Hsm := Lib.hid hsme
      clear hxe hye hsme
      go_wp2_with (first
        | (go_at_call 90; (with_reducible refine (limb_any A c xs k _ B hrw hd hm1 hkb).mono ?_); rintro e w' ⟨rfl, rfl⟩; rw [← Hx.out])
        | (go_at_call 90; (with_reducible refine (limb_any A2 c2 ys k _ B hrw2 hd2 hm2 hkb).mono ?_); rintro e w' ⟨rfl, rfl⟩; rw [← Hy.out]))
      go_roundw
      case rel =>
        have hst := hsm.step hkz hd hd2
        rw [← Hx.out, ← Hy.out, ← Hsm.out] at hst
        refine ⟨k + 1, 1 - sm / 4294967296, zs.set k (sm % 4294967296), by omega, by go_num, int_u64 (by omega), ?_, hst, hbel.setCell (p := ⟨w.heap.size, k, none⟩) (Nat.le_refl _) _⟩
        have hb2 := hblk.set_ k (Value.int IntKind.u32 ((sm % 4294967296 : Nat) : Int))
        rw [u32s_set9z] at hb2
        exact hb2
      case measure => simp [intOf]; omega
    · obtain rfl : k = xs.length := by omega
      have hrd := (Res9z.of_blk0 hblk (Nat.le_refl _) (by rw [u32s_length, hsm.2.2.2.2]; omega)).rd
      have hv := hsm.last hd hd2 hle
      have Hv := Lib.hid hv
      have Hzl := Lib.hid hsm.2.2.2.2
      have hzm : zs.length ≤ 70368744177664 := by rw [hsm.2.2.2.2]; omega
      clear hv
      go_wp2_with (go_at_call 76; rw [← Hzl.out]; refine (rnorm_any _ _ zs wr _ hrd (Nat.le_refl _) hzm).mono ?_; rintro e w2 ⟨A', c', rfl, hres, hb⟩)
      go_ret
      refine ⟨trimL zs, A', c', rfl, ?_, hres.mono hbel.size, hbel.trans (hb.mono hbel.size)⟩
      rw [← Hv.out]
      exact Num.of_trim hsm.1
end
section
open Go.RowKit

theorem trimL_len_le {b : Nat} {xs : List Nat} {N : Nat} (hb : 2 ≤ b) (hd : Dig b xs) (h : val b xs < b ^ N) : (trimL xs).length ≤ N := by
  have hn := Num.of_trim hd
  by_cases h0 : trimL xs = []
  · rw [h0]; simp
  · have h1 := hn.ge h0
    have h2 : b ^ ((trimL xs).length - 1) < b ^ N := Nat.lt_of_le_of_lt h1 h
    have h3 := (Nat.pow_lt_pow_iff_right (by omega)).1 h2
    omega
/-- Two rows that are kept. -/
def Keep2 (w : World) (g1 : Nat) (l1 : List Nat) (g2 : Nat) (l2 : List Nat) (W : World) : Prop := Blk W g1 54 (u64s l1) ∧ Blk W g2 54 (u64s l2) ∧ Below w.heap.size w W
section
variable {w W W' : World} {g1 g2 : Nat} {l1 l2 : List Nat}
theorem Keep2.next (h : Keep2 w g1 l1 g2 l2 W) (hb : Below W.heap.size W W') : Keep2 w g1 l1 g2 l2 W' :=
  ⟨h.1.below hb h.1.lt, h.2.1.below hb h.2.1.lt, h.2.2.trans (hb.mono h.2.2.size)⟩
theorem Keep2.drew (h : Keep2 w g1 l1 g2 l2 W) : Keep2 w g1 l1 g2 l2 W.drew := ⟨h.1, h.2.1, h.2.2.drew⟩
theorem Keep2.tn9z {g : Nat} (h : Keep2 w g1 l1 g2 l2 W) (ht : Tn9z g W W') (n1 : g ≠ g1) (n2 : g ≠ g2) (hg : w.heap.size ≤ g) : Keep2 w g1 l1 g2 l2 W' :=
  ⟨h.1.tn9z ht n1.symm, h.2.1.tn9z ht n2.symm, h.2.2.trans (ht.below hg h.2.2.size)⟩
theorem Keep2.b (h : Keep2 w g1 l1 g2 l2 W) : Below w.heap.size w W := h.2.2
end
theorem Rx.trim_ {w : World} {g : Nat} {A : Option Addr} {xs : List Nat} (h : Rx w g A (u64s xs)) : Rx w g A (u64s (trimL xs)) := fun hn => by
  obtain ⟨b, off, e, hb, hg, hc⟩ := h (by intro e; apply hn; rw [u64s_trim, e]; simp)
  refine ⟨b, off, e, hb, hg, fun k v hv => hc k v ?_⟩
  rw [u64s_trim, List.getElem?_take] at hv
  split at hv
  · exact hv
  · cases hv
end
section
open Go.RowKit

/-- What carried's row and carry are behind k digits. -/
def Carr (zl : List Nat) (n k : Nat) (os : List Nat) (c : Nat) : Prop :=
  os.length = n ∧ Dig 18446744073709551616 os ∧ c < 562949953421312 ∧ val 18446744073709551616 os + 65536 ^ k * c = val 65536 (zl.take k) ∧ (∀ j (h : j < os.length), k ≤ 4 * j → os[j] = 0) ∧ ∀ j r (h : j < os.length), k = 4 * j + r → r < 4 → os[j] < 65536 ^ r
theorem Carr.start (zl : List Nat) (n : Nat) : Carr zl n 0 (List.replicate n 0) 0 :=
  ⟨by simp, Dig.zeros_ (by omega) _, by omega, by simp [val_zeros, val], fun j h _ => by simp, fun j r h e hr => by
    simp; exact Nat.pow_pos (by omega)⟩
theorem pow16 (b q j r : Nat) (h : q = b ^ 4) : b ^ (4 * j + r) = q ^ j * b ^ r := by
  rw [Nat.pow_add, Nat.pow_mul, h]
theorem carr_val {b W V X j r k c z d c' : Nat} (hW : W = b ^ 4) (hk : k = 4 * j + r) (h : V + b ^ k * c = X) (hs : c + z = d + b * c') : V + W ^ j * (b ^ r * d) + b ^ (k + 1) * c' = X + b ^ k * z := by
  have e1 : b ^ k * c + b ^ k * z = b ^ k * d + b ^ k * (b * c') := by rw [← Nat.mul_add, hs, Nat.mul_add]
  have e2 : W ^ j * (b ^ r * d) = b ^ k * d := by rw [← Nat.mul_assoc, ← pow16 b W j r hW, ← hk]
  rw [e2, Nat.pow_succ, Nat.mul_assoc]
  generalize b ^ k * (b * c') = t1 at *
  generalize b ^ k * d = t2 at *
  generalize b ^ k * z = t3 at *
  generalize b ^ k * c = t4 at *
  omega
theorem carr_fit {b r x d : Nat} (_ : 0 < b) (hx : x < b ^ r) (hd : d < b) : x + b ^ r * d < b ^ (r + 1) := by
  rw [Nat.pow_succ]
  have : b ^ r * (d + 1) ≤ b ^ r * b := Nat.mul_le_mul_left _ hd
  rw [Nat.mul_add] at this
  omega
theorem pow_mono_lt {b x r : Nat} (hb : 0 < b) (hr : r < 4) (h : x < b ^ (r + 1)) (W : Nat) (hW : W = b ^ 4) : x < W := by
  rw [hW]; exact Nat.lt_of_lt_of_le h (Nat.pow_le_pow_right hb (by omega))
theorem Carr.step {zl os : List Nat} {n j r c d c' : Nat} (h : Carr zl n (4 * j + r) os c) (hr : r < 4) (hk : 4 * j + r < zl.length) (hj : j < os.length) (_ : zl[4 * j + r] < 18446744073709551616) (hs : c + zl[4 * j + r] = d + 65536 * c') (hd : d < 65536) (hc : c' < 562949953421312) :
    Carr zl n (4 * j + r + 1) (os.set j (os[j] + 65536 ^ r * d)) c' := by
  obtain ⟨h1, h2, h3, h4, h5, h6⟩ := h
  have hx := h6 j r hj rfl hr
  have hf := carr_fit (by omega) hx hd
  have hW := pow_mono_lt (by omega) hr hf 18446744073709551616 (by decide)
  refine ⟨by simpa using h1, h2.set_ _ _ hW, hc, ?_, fun i hi hki => ?_, fun i q hi e hq => ?_⟩
  · have e1 := val_set 18446744073709551616 os j (os[j] + 65536 ^ r * d) hj
    rw [Nat.mul_add] at e1
    have e2 : val 18446744073709551616 (os.set j (os[j] + 65536 ^ r * d)) = val 18446744073709551616 os + 18446744073709551616 ^ j * (65536 ^ r * d) := by
      generalize 18446744073709551616 ^ j * (65536 ^ r * d) = t1 at *
      generalize 18446744073709551616 ^ j * os[j] = t2 at *
      omega
    rw [e2, val_take_succ _ zl _ hk]
    exact carr_val (by decide) rfl h4 hs
  · rw [List.getElem_set, if_neg (by omega)]
    exact h5 i (by simpa using hi) (by omega)
  · rw [List.getElem_set]
    split
    · obtain rfl : q = r + 1 := by omega
      exact hf
    · have hi2 : i < os.length := by simpa using hi
      have : os[i] = 0 := h5 i hi2 (by omega)
      rw [this]; exact Nat.pow_pos (by omega)
end
end Go.Proofs.YtbafiahmcfkboaaDoor
