/- The contracts of nat.Add, Sub and shortMul. Conditions: fewer limbs than any slice can have. -/
import Derived.Test.YtogkfpbapjjgfaaClos
import Derived.Deep.CutBlock
import Derived.Deep.DeepCutAuto
namespace Go.Proofs.Ytogkfpbapjjgfaa
open Go.RowKit

theorem szA (w : World) (o : Obj) : (w.alloc o).heap.size = w.heap.size + 1 := by simp
theorem mk32s (n : Nat) (h : n + 1 ≤ 70368744177664) (W : World) : (Instr.makeSlice 24 (.int .i64 ((n : Int) + 1)) (.int .i64 ((n : Int) + 1))).run Try.prog W = .ok (.slice (some ⟨W.heap.size, 0, none⟩) (n + 1) (n + 1)) (W.alloc (.cells (List.replicate (n + 1) (Value.int .u32 0)).toArray 34)) := by
  have := mk32 (n + 1) h W
  rwa [show ((n + 1 : Nat) : Int) = (n : Int) + 1 from by omega] at this
theorem zeros_at {n k : Nat} (h : k < (List.replicate n 0).length) : (List.replicate n 0)[k] = 0 := by simp
theorem u32s_ne {xs : List Nat} {k : Nat} (h : k < xs.length) : u32s xs ≠ [] := by intro e; have := u32s_length xs; rw [e] at this; simp at this; omega
theorem u64s_ne {xs : List Nat} {k : Nat} (h : k < xs.length) : u64s xs ≠ [] := by intro e; have := u64s_length xs; rw [e] at this; simp at this; omega
theorem Rd.at32 {w : World} {B : Nat} {A : Option Addr} {xs : List Nat} (h : Rd w B A (u32s xs)) {k : Nat} (hk : k < xs.length) : ∃ b off, A = some ⟨b, off, none⟩ ∧ b < B ∧ w.cell? ⟨b, off + k, none⟩ = some (.int .u32 (xs[k] : Nat)) := by
  obtain ⟨b, off, e, hb, hc⟩ := h (u32s_ne hk)
  exact ⟨b, off, e, hb, hc k _ (u32s_at hk)⟩
theorem Rd.at64 {w : World} {B : Nat} {A : Option Addr} {xs : List Nat} (h : Rd w B A (u64s xs)) {k : Nat} (hk : k < xs.length) : ∃ b off, A = some ⟨b, off, none⟩ ∧ b < B ∧ w.cell? ⟨b, off + k, none⟩ = some (.int .u64 (xs[k] : Nat)) := by
  obtain ⟨b, off, e, hb, hc⟩ := h (u64s_ne hk)
  exact ⟨b, off, e, hb, hc k _ (u64s_at hk)⟩
theorem Rx.at64 {w : World} {g : Nat} {A : Option Addr} {xs : List Nat} (h : Rx w g A (u64s xs)) {k : Nat} (hk : k < xs.length) : ∃ b off, A = some ⟨b, off, none⟩ ∧ b < w.heap.size ∧ b ≠ g ∧ w.cell? ⟨b, off + k, none⟩ = some (.int .u64 (xs[k] : Nat)) := by
  obtain ⟨b, off, e, hb, hg, hc⟩ := h (u64s_ne hk)
  exact ⟨b, off, e, hb, hg, hc k _ (u64s_at hk)⟩

theorem Acc.done {b : Nat} {os zs : List Nat} {T k c : Nat} (h : Acc b os T k zs c) (hc : c = 0) : val b zs = val b os + T := by
  have := h.2.2.1; rw [hc] at this; simpa using this
theorem add_T {b : Nat} {us vs : List Nat} {k : Nat} (hu : k < us.length) (hv : k < vs.length) : val b (us.take k) + val b (vs.take k) + b ^ k * (us[k] + vs[k]) = val b (us.take (k + 1)) + val b (vs.take (k + 1)) := by
  rw [val_take_succ b us k hu, val_take_succ b vs k hv, Nat.mul_add]; omega
theorem add_T1 {b : Nat} {us : List Nat} {k V : Nat} (hu : k < us.length) : val b (us.take k) + V + b ^ k * us[k] = val b (us.take (k + 1)) + V := by
  rw [val_take_succ b us k hu]; omega

set_option maxHeartbeats 1600000 in
theorem add_any (A A2 : Option Addr) (c c2 : Nat) (xs ys : List Nat) (w : World) (B : Nat) (hr : Rd w B A (u32s xs)) (hr2 : Rd w B A2 (u32s ys)) (hB : B ≤ w.heap.size) (hd : Dig 4294967296 xs) (hd2 : Dig 4294967296 ys) (hc : xs.length ≤ c) (hc2 : ys.length ≤ c2) (hm : xs.length ≤ 70368744170000) (hm2 : ys.length ≤ 70368744170000) :
    Calls Try.prog 8 #[.slice A xs.length c, .slice A2 ys.length c2] w fun e w' => ∃ zs A' c', e = .returned (.slice A' zs.length c') ∧ Num 4294967296 zs (val 4294967296 xs + val 4294967296 ys) ∧ Res w' w.heap.size 34 A' c' (u32s zs) ∧ Below w.heap.size w w' := by
  have hl1 := trimL_length_le xs
  have hl2 := trimL_length_le ys
  obtain ⟨m, hmv⟩ : ∃ m, m = val 4294967296 xs := ⟨_, rfl⟩
  obtain ⟨n, hnv⟩ : ∃ n, n = val 4294967296 ys := ⟨_, rfl⟩
  have hn1 := Num.of_trim hd
  have hn2 := Num.of_trim hd2
  rw [← hmv] at hn1
  rw [← hnv] at hn2
  rw [← hmv, ← hnv]
  have hrt : Rd w B A (u32s (trimL xs)) := by rw [u32s_trim]; exact hr.take _
  have hrt2 : Rd w B A2 (u32s (trimL ys)) := by rw [u32s_trim]; exact hr2.take _
  obtain ⟨ps, hps⟩ : ∃ ps, ps = trimL xs := ⟨_, rfl⟩
  obtain ⟨qs, hqs⟩ : ∃ qs, qs = trimL ys := ⟨_, rfl⟩
  rw [← hps] at hn1 hrt hl1
  rw [← hqs] at hn2 hrt2 hl2
  have Hps := Lib.hid hps
  have Hqs := Lib.hid hqs
  have Hv : Hid (val 4294967296 ps + val 4294967296 qs = m + n) := by rw [hn1.2.2, hn2.2.2]; exact rfl
  have hdp := hn1.1
  have hdq := hn2.1
  have hm' : xs.length ≤ 281474976710656 := by omega
  have hm2' : ys.length ≤ 281474976710656 := by omega
  clear hps hqs hmv hnv hn1 hn2
  go_enter Try.func8, Try.ntmps8
  go_upto_if 18 with (first
    | (go_at_call 27; (with_reducible refine (trim_any A c xs _ B hr hc hm').mono ?_); rintro e w' ⟨rfl, rfl⟩; rw [← Hps.out])
    | (go_at_call 27; (with_reducible refine (trim_any A2 c2 ys _ B hr2 hc2 hm2').mono ?_); rintro e w' ⟨rfl, rfl⟩; rw [← Hqs.out]))
  go_cut [0, 1] (fun s0 s1 wc => ∃ (D D2 : Option Addr) (d d2 : Nat) (us vs : List Nat), s0 = .slice D us.length d ∧ s1 = .slice D2 vs.length d2 ∧ vs.length ≤ us.length ∧ us.length ≤ 70368744170000 ∧ Dig 4294967296 us ∧ Dig 4294967296 vs ∧ Hid (val 4294967296 us + val 4294967296 vs = m + n) ∧ Rd w B D (u32s us) ∧ Rd w B D2 (u32s vs) ∧ wc = w)
  case first =>
    by_cases hlt : ps.length < qs.length
    · go_wp2
      go_meet
      exact ⟨A2, A, c2, c, qs, ps, rfl, rfl, by omega, by omega, hdq, hdp, by rw [Nat.add_comm]; exact Hv, hrt2, hrt, rfl⟩
    · go_wp2
      go_meet
      exact ⟨A, A2, c, c2, ps, qs, rfl, rfl, by omega, by omega, hdp, hdq, Hv, hrt, hrt2, rfl⟩
  case rest =>
    clear hr hr2 hd hd2 hc hc2 hm hm2 hl1 hl2 hrt hrt2 Hps Hqs Hv hdp hdq hm' hm2'
    obtain ⟨D, D2, d, d2, us, vs, rfl, rfl, hle, hub, hdu, hdv, Hval, hru, hrv, rfl⟩ := hcut
    have hmk := fun W => mk32s us.length (by omega) W
    go_wp2_with (go_at_call 28; (with_reducible refine (adder_any _).mono ?_); rintro e w1 ⟨rfl, hbc, hsz, hbel⟩)
    rw [szA] at hbc hsz hbel
    have hblk0 : Blk w1 wc.heap.size 34 (u32s (List.replicate (us.length + 1) 0)) := by
      have h0 : Blk (wc.alloc (.cells (Array.replicate (us.length + 1) (Value.int .u32 0)) 34)) wc.heap.size 34 (u32s (List.replicate (us.length + 1) 0)) := Blk.new_ (by simp [u32s])
      exact h0.below hbel (by omega)
    have hbel1 : Below wc.heap.size wc w1 := ((Below.refl _ _).alloc (Nat.le_refl _) _).trans (hbel.mono (by omega))
    clear hbel hsz
    obtain ⟨os, hos⟩ : ∃ os, os = List.replicate (us.length + 1) 0 := ⟨_, rfl⟩
    have hol : os.length = us.length + 1 := by rw [hos]; simp
    have ho0 : Hid (∀ k (h : k < os.length), os[k] = 0) := by subst hos; exact fun k h => by simp
    have hov : Hid (val 4294967296 os = 0) := by rw [hos]; exact val_zeros _ _
    have hod : Dig 4294967296 os := by rw [hos]; exact Dig.zeros_ (by omega) _
    rw [← hos] at hblk0
    have Hol := Lib.hid hol
    clear hos hol
    go_loopw [7, 8, 28] (fun _ _ i wr => ∃ (k cc : Nat) (zs : List Nat), k ≤ vs.length ∧ i = .int .i64 k ∧ cc ≤ 1 ∧ Blk wr wc.heap.size 34 (u32s zs) ∧ Blk wr (wc.heap.size + 1) 44 [.int .u64 (cc : Int)] ∧ Acc 4294967296 os (val 4294967296 (us.take k) + val 4294967296 (vs.take k)) k zs cc ∧ Below wc.heap.size wc wr) (fun _ _ i _ => vs.length - (intOf i).toNat)
    case atStart => exact ⟨0, 0, os, by omega, rfl, by omega, hblk0, hbc, by simpa [val] using Acc.start hod, hbel1⟩
    case round =>
      clear hblk0 hbc hbel1
      obtain ⟨k, cc, zs, hk, rfl, hcc, hblk, hbc, hacc, hbel⟩ := hrel
      by_cases hlt : k < vs.length
      · have hku : k < us.length := by omega
        obtain ⟨b, off, rfl, hb, hx⟩ := hru.at32 hku
        obtain ⟨b2, off2, rfl, hb2, hy⟩ := hrv.at32 hlt
        have hx := (hbel.cell (p := ⟨b, off + k, none⟩) (show b < _ by omega)).trans hx
        have hy := (hbel.cell (p := ⟨b2, off2 + k, none⟩) (show b2 < _ by omega)).trans hy
        have hxd := hdu.at_ k hku
        have hyd := hdv.at_ k hlt
        have hz1 : k < zs.length := by have := hacc.2.1.trans Hol.out; omega
        have hko : k < os.length := by have := Hol.out; omega
        go_wp2_with (go_at_call 47; (with_reducible refine (adder1_any _ _ cc _ _ hxd hyd hcc hbc).mono ?_); rintro e w2 ⟨rfl, hg2, hch⟩; have hq2 := hblk.ch hch (by omega); have hc2 := (hq2.cell k).trans (u32s_at hz1); have hf2 := hq2.frozen k)
        go_roundw
        case rel =>
          refine ⟨k + 1, (cc + us[k] + vs[k]) / 4294967296, zs.set k ((cc + us[k] + vs[k]) % 4294967296), by omega, by go_num, ?_, ?_, hg2.far (p := ⟨wc.heap.size, k, none⟩) (by simp) _, ?_, (hbel.trans (hch.below (by omega))).setCell (p := ⟨wc.heap.size, k, none⟩) (Nat.le_refl _) _⟩
          · omega
          · have hb2 := hq2.set_ k (Value.int IntKind.u32 (((cc + us[k] + vs[k]) % 4294967296 : Nat) : Int))
            rw [u32s_set] at hb2
            exact hb2
          · have h9 := hacc.step (d := us[k] + vs[k]) (r := (cc + us[k] + vs[k]) % 4294967296) (q := (cc + us[k] + vs[k]) / 4294967296) hko (by omega) (by rw [ho0.out k hko]; omega)
            rw [add_T hku hlt] at h9
            exact h9
        case measure => simp [intOf]; omega
      · obtain rfl : k = vs.length := by omega
        go_wp2_with fail
        go_loopw [9] (fun i wr => ∃ (k cc : Nat) (zs : List Nat), vs.length ≤ k ∧ k ≤ us.length ∧ i = .int .i64 k ∧ cc ≤ 1 ∧ Blk wr wc.heap.size 34 (u32s zs) ∧ Blk wr (wc.heap.size + 1) 44 [.int .u64 (cc : Int)] ∧ Acc 4294967296 os (val 4294967296 (us.take k) + val 4294967296 vs) k zs cc ∧ Below wc.heap.size wc wr) (fun i _ => us.length - (intOf i).toNat)
        case atStart => exact ⟨vs.length, cc, zs, by omega, hle, rfl, hcc, hblk, hbc, by rw [List.take_length] at hacc; exact hacc, hbel⟩
        case round =>
          clear hblk hbc hacc hbel hcc
          obtain ⟨k, cc, zs, hkv, hk, rfl, hcc, hblk, hbc, hacc, hbel⟩ := hrel
          by_cases hlt : k < us.length
          · obtain ⟨b, off, rfl, hb, hx⟩ := hru.at32 hlt
            have hx := (hbel.cell (p := ⟨b, off + k, none⟩) (show b < _ by omega)).trans hx
            have hxd := hdu.at_ k hlt
            have hz1 : k < zs.length := by have := hacc.2.1.trans Hol.out; omega
            have hko : k < os.length := by have := Hol.out; omega
            go_wp2_with fail
            refine (adder1_any us[k] 0 cc _ _ hxd (by omega) hcc hbc).mono ?_
            rintro e w2 ⟨rfl, hg2, hch⟩
            have hq2 := hblk.ch hch (by omega)
            have hc2 := (hq2.cell k).trans (u32s_at hz1)
            have hf2 := hq2.frozen k
            go_wp2_with fail
            go_roundw
            case rel =>
              refine ⟨k + 1, (cc + us[k] + 0) / 4294967296, zs.set k ((cc + us[k] + 0) % 4294967296), by omega, by omega, by go_num, ?_, ?_, hg2.far (p := ⟨wc.heap.size, k, none⟩) (by simp) _, ?_, (hbel.trans (hch.below (by omega))).setCell (p := ⟨wc.heap.size, k, none⟩) (Nat.le_refl _) _⟩
              · omega
              · have hb2 := hq2.set_ k (Value.int IntKind.u32 (((cc + us[k] + 0) % 4294967296 : Nat) : Int))
                rw [u32s_set] at hb2
                exact hb2
              · have h9 := hacc.step (d := us[k]) (r := (cc + us[k] + 0) % 4294967296) (q := (cc + us[k] + 0) / 4294967296) hko (by omega) (by rw [ho0.out k hko]; omega)
                rw [add_T1 hlt] at h9
                exact h9
            case measure => simp [intOf]; omega
          · obtain rfl : k = us.length := by omega
            have hz1 : us.length < zs.length := by have := hacc.2.1.trans Hol.out; omega
            have hko : us.length < os.length := by have := Hol.out; omega
            go_wp2_with fail
            refine (adder1_any 0 0 cc _ _ (by omega) (by omega) hcc hbc).mono ?_
            rintro e w2 ⟨rfl, hg2, hch⟩
            have hq2 := hblk.ch hch (by omega)
            have hc2 := (hq2.cell us.length).trans (u32s_at hz1)
            have hf2 := hq2.frozen us.length
            have hb2 : Blk (w2.setCell ⟨wc.heap.size, us.length, none⟩ (.int .u32 (((cc + 0 + 0) % 4294967296 : Nat) : Int))) wc.heap.size 34 (u32s (zs.set us.length ((cc + 0 + 0) % 4294967296))) := by
              have := hq2.set_ us.length (Value.int IntKind.u32 (((cc + 0 + 0) % 4294967296 : Nat) : Int))
              rwa [u32s_set] at this
            have h9 := hacc.step (d := 0) (r := (cc + 0 + 0) % 4294967296) (q := (cc + 0 + 0) / 4294967296) hko (by omega) (by rw [ho0.out _ hko]; omega)
            obtain ⟨zs2, hzs2⟩ : ∃ zs2, zs2 = zs.set us.length ((cc + 0 + 0) % 4294967296) := ⟨_, rfl⟩
            rw [← hzs2] at hb2 h9
            have hl2 : Hid (zs2.length = us.length + 1) := h9.2.1.trans Hol.out
            have hm2 : zs2.length ≤ 281474976710656 := by have := hl2.out; omega
            have Hlv : Hid (val 4294967296 zs2 = m + n) := by
              have := h9.done (by omega)
              rw [hov.out, List.take_length, Nat.mul_zero, Nat.add_zero, Nat.zero_add, Hval.out] at this
              exact this
            have ld := h9.1
            have hbel3 := (hbel.trans (hch.below (B := wc.heap.size) (by omega))).setCell (p := ⟨wc.heap.size, us.length, none⟩) (Nat.le_refl _) (.int .u32 (((cc + 0 + 0) % 4294967296 : Nat) : Int))
            clear hzs2 h9
            have hrd := (Res.of_blk0 hb2 (Nat.le_refl _) (by rw [u32s_length]; omega)).rd
            go_wp2_with (go_at_call 27; rw [← hl2.out]; refine (trim_any _ _ zs2 _ _ hrd (Nat.le_refl _) hm2).mono ?_; rintro e w3 ⟨rfl, rfl⟩)
            go_ret
            refine ⟨trimL zs2, _, _, rfl, ?_, ?_, hbel3⟩
            · have hz := Num.of_trim ld
              rw [Hlv.out] at hz
              exact hz
            · have h3 := (Res.of_blk0 hb2 (Nat.le_refl _) (by rw [u32s_length]; omega)).take (trimL zs2).length
              rw [← u32s_trim, u32s_length] at h3
              exact h3
end Go.Proofs.Ytogkfpbapjjgfaa
