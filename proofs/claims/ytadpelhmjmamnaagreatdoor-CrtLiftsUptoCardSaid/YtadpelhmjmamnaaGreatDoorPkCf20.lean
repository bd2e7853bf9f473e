/- The contracts of Of and Len. The contract of shortQuotient. The contract of Div, over any contract of quotient. The contracts of the reference's limb, Norm and Zero. -/
import Derived.Test.YtadpelhmjmamnaaGreatDoorPkCf19
namespace Go.Proofs.YtadpelhmjmamnaaGreatDoor
section
open Go.RowKit

set_option maxHeartbeats 400000 in
theorem of_any (n : Nat) (h : n < 18446744073709551616) (w : World) :
    Calls Tryz.prog 96 #[.int .u64 (n : Int)] w fun e w' => ∃ zs A' c', e = .returned (.slice A' zs.length c') ∧ Num 4294967296 zs n ∧ Res w' w.heap.size 27 A' c' (u32s zs) ∧ Below w.heap.size w w' := by
  go_enter Tryz.func96, Tryz.ntmps96
  go_wp2_with fail
  have hblk : Blk (w.alloc (.cells #[.int .u64 (n : Int)] 84)) w.heap.size 84 (u64s [n]) := Blk.new_ rfl
  refine (narrow_any (some ⟨w.heap.size, 0, none⟩) 1 [n] _ (w.heap.size + 1) ?_ ?_ ?_ ?_ ?_).mono ?_
  · exact Rd.of_blk hblk (by omega) 0 (fun k v hv => by rw [Nat.zero_add]; exact hv)
  · simp
  · exact Dig.cons_ h (Dig.nil_ _)
  · simp
  · simp
  rintro e w' ⟨zs, A', c', rfl, hn, hres, hb⟩
  go_wp2
  go_ret
  have hz : (w.alloc (.cells #[.int .u64 (n : Int)] 84)).heap.size = w.heap.size + 1 := by simp
  rw [hz] at hres hb
  exact ⟨zs, A', c', rfl, by simpa [val] using hn, hres.mono (by omega), ((Below.refl _ _).alloc (Nat.le_refl _) _).trans (hb.mono (by omega))⟩
end
section
open Go.RowKit

/-- What shortQuotient's row and rest are when the words from k on are divided. -/
def Shorted (ws : List Nat) (b k : Nat) (qs : List Nat) (r : Nat) : Prop :=
  qs.length = ws.length ∧ Dig 18446744073709551616 qs ∧ r < b ∧ val 18446744073709551616 (ws.drop k) = val 18446744073709551616 (qs.drop k) * b + r

theorem Shorted.start (ws : List Nat) (b : Nat) (hb : 0 < b) : Shorted ws b ws.length (List.replicate ws.length 0) 0 :=
  ⟨by simp, Dig.zeros_ (by omega) _, hb, by simp [val]⟩
theorem Shorted.step {ws qs : List Nat} {b k r : Nat} (h : Shorted ws b (k + 1) qs r) (hk : k < ws.length) (hw : ws[k] < 18446744073709551616) (hb : b < 18446744073709551616) :
    Shorted ws b k (qs.set k ((r * 18446744073709551616 + ws[k]) / b)) ((r * 18446744073709551616 + ws[k]) % b) := by
  obtain ⟨h1, h2, h3, h4⟩ := h
  have hq : (r * 18446744073709551616 + ws[k]) / b < 18446744073709551616 := by
    rw [Nat.div_lt_iff_lt_mul (by omega)]
    have : (r + 1) * 18446744073709551616 ≤ b * 18446744073709551616 := Nat.mul_le_mul_right _ h3
    omega
  refine ⟨by simpa using h1, h2.set_ _ _ hq, Nat.mod_lt _ (by omega), ?_⟩
  have e1 : ws.drop k = ws[k] :: ws.drop (k + 1) := List.drop_eq_getElem_cons hk
  have e2 : (qs.set k ((r * 18446744073709551616 + ws[k]) / b)).drop k = ((r * 18446744073709551616 + ws[k]) / b) :: qs.drop (k + 1) := by
    rw [List.drop_eq_getElem_cons (by simpa using (by omega : k < qs.length))]
    simp [List.drop_set]
  rw [e1, e2]
  simp only [val]
  rw [h4]
  have hd := Nat.div_add_mod (r * 18446744073709551616 + ws[k]) b
  generalize (r * 18446744073709551616 + ws[k]) / b = q at *
  generalize (r * 18446744073709551616 + ws[k]) % b = m at *
  rw [Nat.add_mul, Nat.mul_add, Nat.mul_assoc, Nat.mul_comm q b]
  generalize val 18446744073709551616 (qs.drop (k + 1)) * b = z at *
  omega

set_option maxHeartbeats 800000 in
theorem shortQuotient_any (A : Option Addr) (c : Nat) (ws : List Nat) (b : Nat) (w : World) (B : Nat) (hr : Rd w B A (u64s ws)) (hB : B ≤ w.heap.size) (hd : Dig 18446744073709551616 ws) (hb0 : 0 < b) (hb : b < 18446744073709551616) (hm : ws.length ≤ 35184372088832) :
    Calls Tryz.prog 171 #[.slice A ws.length c, .int .u64 (b : Int)] w fun e w' => ∃ qs r A1 c1 A2 c2, e = .returned (.tuple #[.slice A1 qs.length c1, .slice A2 1 c2]) ∧ Dig 18446744073709551616 qs ∧ qs.length = ws.length ∧ r < b ∧ val 18446744073709551616 ws = val 18446744073709551616 qs * b + r ∧
      Res w' w.heap.size 84 A1 c1 (u64s qs) ∧ Res w' w.heap.size 84 A2 c2 (u64s [r]) ∧ Below w.heap.size w w' := by
  have hmk := fun W => mk64 ws.length hm W
  go_enter Tryz.func171, Tryz.ntmps171
  go_wp2
  go_loopw [7, 8] (fun rv i wr => ∃ (k r : Nat) (qs : List Nat), k ≤ ws.length ∧ i = .int .i64 ((k : Int) - 1) ∧ rv = .int .u64 r ∧ Blk wr w.heap.size 84 (u64s qs) ∧ Shorted ws b k qs r ∧ Below w.heap.size w wr) (fun _ i _ => (intOf i + 1).toNat)
  case atStart => exact ⟨ws.length, 0, List.replicate ws.length 0, Nat.le_refl _, by go_num, rfl, Blk.new_ (by simp [u64s]), Shorted.start ws b hb0, (Below.refl _ _).alloc (Nat.le_refl _) _⟩
  case round =>
    obtain ⟨k, r, qs, hk, rfl, rfl, hblk, hs, hbel⟩ := hrel
    rcases k with _ | k
    · go_wp2
      go_ret2
      have hlt := hblk.lt
      have hr1 : Blk (wr.alloc (.cells #[.int .u64 (r : Int)] 84)) wr.heap.size 84 (u64s [r]) := Blk.new_ rfl
      have hq1 := hblk.heapAlloc (.cells #[.int .u64 (r : Int)] 84)
      have hl := u64s_length qs
      have hres := Res.of_blk0 hq1 (Nat.le_refl _) (by rw [hl, hs.1]; omega)
      rw [hl] at hres
      refine ⟨qs, r, _, _, _, 1, by rw [hs.1]; rfl, hs.2.1, hs.1, hs.2.2.1, by simpa using hs.2.2.2, by rw [← hs.1]; exact hres, Res.of_blk0 hr1 (by omega) (by simp [u64s]), hbel.alloc (by omega) _⟩
    · rw [show ((k + 1 : Nat) : Int) - 1 = (k : Int) from by omega]
      obtain ⟨bk, off, rfl, hbB, hcell⟩ := hr (by intro e; have := u64s_length ws; rw [e] at this; simp at this; omega)
      have hx := (hbel.cell (p := ⟨bk, off + k, none⟩) (show bk < _ by omega)).trans (hcell k _ (u64s_at (by omega)))
      have hkq : k < qs.length := by have := hs.1; omega
      have hqc := (hblk.cell k).trans (u64s_at hkq)
      have hqf := hblk.frozen k
      have hwk := hd.at_ k (by omega)
      have hrb := hs.2.2.1
      clear hcell
      go_wp2_with (go_at_call 186; (with_reducible refine (div64_any _ _ _ hb hrb hwk _).mono ?_); rintro e w2 ⟨rfl, nd, rfl⟩)
      go_roundw
      case rel =>
        refine ⟨k, _, qs.set k ((r * 18446744073709551616 + ws[k]) / b), by omega, by go_num, rfl, ?_, hs.step (by omega) hwk hb, (hbel.trans ((Dr.refl wr).step nd |>.below _)).setCell (p := ⟨w.heap.size, k, none⟩) (Nat.le_refl _) _⟩
        have hb2 := (hblk.drewN nd).set_ k (Value.int IntKind.u64 (((r * 18446744073709551616 + ws[k]) / b : Nat) : Int))
        rw [u64s_set] at hb2
        exact hb2
      case measure => simp [intOf]
end
section
open Go.RowKit

theorem trimL_of_ge {b : Nat} {xs : List Nat} (hb : 1 < b) (hd : Dig b xs) (h : b ^ (xs.length - 1) ≤ val b xs) : trimL xs = xs := by
  by_cases h0 : xs = []
  · subst h0; rfl
  have hl : 0 < xs.length := by cases xs with | nil => exact absurd rfl h0 | cons _ _ => simp
  have e := trimL_take xs
  have hle := trimL_length_le xs
  by_cases hlt : (trimL xs).length = xs.length
  · rw [← e, hlt, List.take_length]
  · exfalso
    have h1 := val_lt b (trimL xs) hd.trim_
    rw [val_trim] at h1
    have : b ^ (trimL xs).length ≤ b ^ (xs.length - 1) := Nat.pow_le_pow_right (by omega) (by omega)
    omega

/-- What quotient answers, for divisors of so many words. -/
def QuotientOk (P : Nat → Prop) : Prop :=
  ∀ (A : Option Addr) (c : Nat) (A2 : Option Addr) (c2 : Nat) (us vs : List Nat) (w : World) (B : Nat), Rd w B A (u64s us) → Rd w B A2 (u64s vs) → B ≤ w.heap.size → Dig 18446744073709551616 us → Dig 18446744073709551616 vs → trimL us = us → trimL vs = vs → vs ≠ [] →
    val 18446744073709551616 vs ≤ val 18446744073709551616 us → P vs.length → us.length ≤ c → vs.length ≤ c2 → us.length ≤ 35183400000000 →
    Calls Tryz.prog 152 #[.slice A us.length c, .slice A2 vs.length c2] w fun e w' => ∃ qs rs A1 c1 A3 c3, e = .returned (.tuple #[.slice A1 qs.length c1, .slice A3 rs.length c3]) ∧ Dig 18446744073709551616 qs ∧ Dig 18446744073709551616 rs ∧ qs.length ≤ us.length + 402653185 ∧ rs.length ≤ us.length + 1 ∧ qs.length ≤ c1 ∧ rs.length ≤ c3 ∧
      val 18446744073709551616 us = val 18446744073709551616 qs * val 18446744073709551616 vs + val 18446744073709551616 rs ∧ val 18446744073709551616 rs < val 18446744073709551616 vs ∧ Rd w' w'.heap.size A1 (u64s qs) ∧ Res w' w.heap.size 84 A3 c3 (u64s rs) ∧ Below w.heap.size w w'

set_option maxHeartbeats 400000 in
theorem quotient_one : QuotientOk (· = 1) := by
  intro A c A2 c2 us vs w B hr hr2 hB hd hd2 ht ht2 hv0 hge hP hc hc2 hm
  obtain ⟨v, rfl⟩ := len_one (xs := vs) hP
  obtain ⟨b, off, rfl, hb, hcell⟩ := hr2 (by simp [u64s])
  have hcv := hcell 0 _ rfl
  simp only [Nat.add_zero] at hcv
  have hv : v < 18446744073709551616 := hd2.head_
  have hvp : 0 < v := by
    rcases Nat.eq_zero_or_pos v with h | h
    · subst h; simp [trimL] at ht2
    · exact h
  have hl1 : [v].length = 1 := rfl
  clear hcell hr2 ht2
  rw [hl1]
  go_enter Tryz.func152, Tryz.ntmps152
  go_wp2_with (go_at_call 171; (with_reducible refine (shortQuotient_any _ _ us v _ B hr hB hd hvp hv (by omega)).mono ?_); rintro e w2 ⟨qs, r, A1, c1, A3, c3, rfl, h1, h2, h3, h4, h5, h6, h7⟩)
  go_ret2
  refine ⟨qs, [r], A1, c1, A3, c3, by rw [h2]; rfl, h1, Dig.cons_ (by omega) (Dig.nil_ _), by omega, by simp, by simpa [u64s_length] using h5.1, by simpa [u64s_length] using h6.1, ?_, ?_, h5.rd, h6, h7⟩
  · simpa [val] using h4
  · simpa [val] using h3

/-- What Div answers. -/
def DivOut (w w' : World) (m n : Nat) (e : Ending) : Prop :=
  ∃ qs rs A1 c1 A3 c3, e = .returned (.tuple #[.slice A1 qs.length c1, .slice A3 rs.length c3, .int .i64 (if n = 0 then 5 else 0)]) ∧ Num 4294967296 qs (m / n) ∧ Num 4294967296 rs (if n = 0 then 0 else m % n) ∧
    Res w' w.heap.size 27 A1 c1 (u32s qs) ∧ Res w' w.heap.size 27 A3 c3 (u32s rs) ∧ Below w.heap.size w w'

theorem wide_norm {ps ws : List Nat} {m : Nat} (h : Num 4294967296 ps m) (hn : ps ≠ []) (hl : ws.length = (ps.length + 1) / 2) (hd : Dig 18446744073709551616 ws) (hv : val 18446744073709551616 ws = val 4294967296 ps) : trimL ws = ws := by
  refine trimL_of_ge (by omega) hd ?_
  have h1 := h.ge hn
  rw [hv, h.2.2]
  refine Nat.le_trans ?_ h1
  rw [show (18446744073709551616 : Nat) = 4294967296 ^ 2 from rfl, ← Nat.pow_mul]
  have : 0 < ps.length := by cases ps with | nil => exact absurd rfl hn | cons _ _ => simp
  exact Nat.pow_le_pow_right (by omega) (by omega)

set_option maxHeartbeats 1000000 in
theorem div_any {P : Nat → Prop} (hQ : QuotientOk P) (A A2 : Option Addr) (c c2 : Nat) (xs ys : List Nat) (w : World) (B : Nat) (hr : Rd w B A (u32s xs)) (hr2 : Rd w B A2 (u32s ys)) (hB : B ≤ w.heap.size) (hd : Dig 4294967296 xs) (hd2 : Dig 4294967296 ys) (hc : xs.length ≤ c) (hc2 : ys.length ≤ c2) (hm : xs.length ≤ 70366800000000) (hm2 : ys.length ≤ 70366800000000)
    (hP : P (((trimL ys).length + 1) / 2)) :
    Calls Tryz.prog 132 #[.slice A xs.length c, .slice A2 ys.length c2] w fun e w' => DivOut w w' (val 4294967296 xs) (val 4294967296 ys) e := by
  obtain ⟨m, hmv⟩ : ∃ m, m = val 4294967296 xs := ⟨_, rfl⟩
  obtain ⟨n, hnv⟩ : ∃ n, n = val 4294967296 ys := ⟨_, rfl⟩
  have hn1 : Num 4294967296 (trimL xs) m := by rw [hmv]; exact Num.of_trim hd
  have hn2 : Num 4294967296 (trimL ys) n := by rw [hnv]; exact Num.of_trim hd2
  have hl1 := trimL_length_le xs
  have hl2 := trimL_length_le ys
  rw [← hmv, ← hnv]
  have hrt : Rd w B A (u32s (trimL xs)) := by rw [u32s_trim]; exact hr.take _
  have hrt2 : Rd w B A2 (u32s (trimL ys)) := by rw [u32s_trim]; exact hr2.take _
  obtain ⟨ps, hps⟩ : ∃ ps, ps = trimL xs := ⟨_, rfl⟩
  obtain ⟨qs, hqs⟩ : ∃ qs, qs = trimL ys := ⟨_, rfl⟩
  rw [← hps] at hn1 hrt hl1
  rw [← hqs] at hn2 hrt2 hl2 hP
  have Hps := Lib.hid hps
  have Hqs := Lib.hid hqs
  have hmm : xs.length ≤ 281474976710656 := by omega
  have hmm2 : ys.length ≤ 281474976710656 := by omega
  have hdp : Dig 4294967296 ps := hn1.1
  have hdq : Dig 4294967296 qs := hn2.1
  have Hvp : Hid (val 4294967296 ps = m) := hn1.2.2
  have Hvq : Hid (val 4294967296 qs = n) := hn2.2.2
  clear hps hqs hmv hnv
  rcases Nat.eq_zero_or_pos n with h0 | hnp
  · have hq0 : qs = [] := (hn2.nil_iff (by omega)).2 h0
    have hz : (qs.length : Int) = 0 := by rw [hq0]; rfl
    have H0 := Lib.hid h0
    clear hq0 h0
    go_enter Tryz.func132, Tryz.ntmps132
    go_wp2_with (first
      | (go_at_call 103; (with_reducible refine (trim_any A c xs _ B hr hc hmm).mono ?_); rintro e w' ⟨rfl, rfl⟩; rw [← Hps.out])
      | (go_at_call 103; (with_reducible refine (trim_any A2 c2 ys _ B hr2 hc2 hmm2).mono ?_); rintro e w' ⟨rfl, rfl⟩; rw [← Hqs.out]))
    go_ret3
    refine ⟨[], [], none, 0, none, 0, ?_, ?_, ?_, Res.none_, Res.none_, Below.refl _ _⟩
    · rw [H0.out]; rfl
    · rw [H0.out, Nat.div_zero]; exact Num.zero_ _
    · rw [if_pos H0.out]; exact Num.zero_ _
  · have hqne : qs ≠ [] := fun e => by have := (hn2.nil_iff (by omega)).1 e; omega
    have hqp : qs.length ≠ 0 := fun e => hqne (List.eq_nil_of_length_eq_zero e)
    have tq : ((qs.length : Int) == 0) = false := by simpa using hqp
    rcases Nat.lt_or_ge m n with hlt | hge
    · have e1 : cmpN m n = -1 := by simp [cmpN, hlt]
      have He1 := Lib.hid e1
      clear e1 hqne hqp
      have hrtd : ∀ k, Rd (w.drewN k) B A (u32s ps) := fun k => hrt.dr ((Dr.refl w).step k)
      have hBd : ∀ k, B ≤ (w.drewN k).heap.size := fun _ => hB
      have hlc : ps.length ≤ c := by omega
      have hlc2 : qs.length ≤ c2 := by omega
      have hm1 : ps.length ≤ 70368744177664 := by omega
      have hm3 : ps.length ≤ 281474976710656 := by omega
      have hm4 : qs.length ≤ 281474976710656 := by omega
      go_enter Tryz.func132, Tryz.ntmps132
      go_wp2_with (first
        | (go_at_call 103; (with_reducible refine (trim_any A c xs _ B hr hc hmm).mono ?_); rintro e w' ⟨rfl, rfl⟩; rw [← Hps.out])
        | (go_at_call 103; (with_reducible refine (trim_any A2 c2 ys _ B hr2 hc2 hmm2).mono ?_); rintro e w' ⟨rfl, rfl⟩; rw [← Hqs.out])
        | (go_at_call 70; (with_reducible refine (cmp_any A A2 c c2 ps qs _ B hrt hrt2 hdp hdq hlc hlc2 hm3 hm4).mono ?_); rintro e w' ⟨rfl, nd, rfl⟩; rw [Hvp.out, Hvq.out, He1.out])
        | (go_at_call 61; (with_reducible refine (norm_any A c ps _ B (hrtd _) (hBd _) hlc hm1).mono ?_); rintro e w' ⟨A', c', rfl, hres, hb⟩))
      go_ret3
      have hz : (w.drewN nd).heap.size = w.heap.size := rfl
      rw [hz] at hres hb
      have htp : trimL ps = ps := hn1.2.1
      rw [htp] at hres
      refine ⟨[], ps, none, 0, A', c', ?_, ?_, ?_, Res.none_, hres, ((Dr.refl w).step nd |>.below _).trans hb⟩
      · rw [if_neg (by omega), htp]; rfl
      · rw [Nat.div_eq_of_lt hlt]; exact Num.zero_ _
      · rw [if_neg (by omega), Nat.mod_eq_of_lt hlt]; exact hn1
    · have e1 : 0 ≤ cmpN m n := by unfold cmpN; split <;> (try split) <;> omega
      obtain ⟨cm, hcm⟩ : ∃ cm : Int, cm = cmpN m n := ⟨_, rfl⟩
      rw [← hcm] at e1
      have Hcm := Lib.hid hcm
      have hlc : ps.length ≤ c := by omega
      have hlc2 : qs.length ≤ c2 := by omega
      have hm3 : ps.length ≤ 281474976710656 := by omega
      have hm4 : qs.length ≤ 281474976710656 := by omega
      have hdiv : ¬ (n = 0) := by omega
      have Hdiv := Lib.hid hdiv
      clear hcm
      rcases Nat.lt_or_ge 2 ps.length with hbig | hsmall
      · go_enter Tryz.func132, Tryz.ntmps132
        go_wp2_with (first
          | (go_at_call 103; (with_reducible refine (trim_any A c xs _ B hr hc hmm).mono ?_); rintro e w' ⟨rfl, rfl⟩; rw [← Hps.out])
          | (go_at_call 103; (with_reducible refine (trim_any A2 c2 ys _ B hr2 hc2 hmm2).mono ?_); rintro e w' ⟨rfl, rfl⟩; rw [← Hqs.out])
          | (go_at_call 70; (with_reducible refine (cmp_any A A2 c c2 ps qs _ B hrt hrt2 hdp hdq hlc hlc2 hm3 hm4).mono ?_); rintro e w' ⟨rfl, nd, rfl⟩; rw [Hvp.out, Hvq.out, ← Hcm.out]))
        have hpne : ps ≠ [] := by rintro rfl; simp at hbig
        refine (wide_any A c ps _ B (hrt.dr ((Dr.refl w).step _)) hB hdp hlc (by omega)).mono ?_
        rintro e w1 ⟨us, A1, c1, rfl, hul, hud, huv, hures, hub⟩
        have hub' : Below w.heap.size w w1 := ((Dr.refl w).step _ |>.below _).trans hub
        have hures' : Res w1 w.heap.size 84 A1 c1 (u64s us) := hures
        have hut := Lib.hid (wide_norm hn1 hpne hul hud huv)
        have Hul := Lib.hid hul
        have Huv := Lib.hid huv
        clear hub hures hul huv
        go_wp2_with fail
        refine (wide_any A2 c2 qs _ B (hrt2.below (hub'.mono hB)) (Nat.le_trans hB hub'.size) hdq hlc2 (by omega)).mono ?_
        rintro e w2 ⟨vs, A3, c3, rfl, hvl, hvd, hvv, hvres, hvb⟩
        have hvt := Lib.hid (wide_norm hn2 hqne hvl hvd hvv)
        have Hvl := Lib.hid hvl
        have Hvv := Lib.hid hvv
        have huc : us.length ≤ c1 := by have := hures'.1; rwa [u64s_length] at this
        have hvc : vs.length ≤ c3 := by have := hvres.1; rwa [u64s_length] at this
        have hvne : vs ≠ [] := by rintro rfl; simp at hvl; omega
        clear hvl hvv
        have hb12 := hub'.trans (hvb.mono hub'.size)
        have hru : Rd w2 w2.heap.size A1 (u64s us) := (hures'.below hvb (Nat.le_refl _)).rd
        go_wp2_with fail
        have hge2 : val 18446744073709551616 vs ≤ val 18446744073709551616 us := by rw [Huv.out, Hvv.out, Hvp.out, Hvq.out]; exact hge
        have hP2 : P vs.length := by rw [Hvl.out]; exact hP
        have hub2 : us.length ≤ 35183400000000 := by have := Hul.out; omega
        refine (hQ A1 c1 A3 c3 us vs _ _ hru hvres.rd (Nat.le_refl _) hud hvd hut.out hvt.out hvne hge2 hP2 huc hvc hub2).mono ?_
        rintro e w3 ⟨gs, rs, A4, c4, A5, c5, rfl, hgd, hrd, hgl, hrl, hgc, hrc, hsum0, hrest, hrg, hrr0, hb3⟩
        have hrr := hrr0.rd
        have hsum1 := Lib.hid hsum0
        clear hsum0
        go_wp2_with fail
        refine (narrow_any A4 c4 gs _ _ hrg (Nat.le_refl _) hgd hgc (by omega)).mono ?_
        rintro e w4 ⟨z1, A6, c6, rfl, hz1, hres1, hb4⟩
        go_wp2_with fail
        refine (narrow_any A5 c5 rs _ _ (hrr.below hb4) hb4.size hrd hrc (by omega)).mono ?_
        rintro e w5 ⟨z2, A7, c7, rfl, hz2, hres2, hb5⟩
        go_wp2
        go_ret3
        have s1 := hb12.size
        have s2 := hb3.size
        have s3 := hb4.size
        have hsum := hsum1.out
        rw [Huv.out, Hvv.out, Hvp.out, Hvq.out, Nat.mul_comm] at hsum
        rw [Hvv.out, Hvq.out] at hrest
        have hq1 : m / n = val 18446744073709551616 gs := by
          rw [hsum, Nat.mul_add_div hnp, Nat.div_eq_of_lt hrest, Nat.add_zero]
        have hr1 : m % n = val 18446744073709551616 rs := by
          rw [hsum, Nat.mul_add_mod, Nat.mod_eq_of_lt hrest]
        refine ⟨z1, z2, A6, c6, A7, c7, ?_, ?_, ?_, (hres1.below hb5 (Nat.le_refl _)).mono (by omega), hres2.mono (by omega), ?_⟩
        · rw [if_neg Hdiv.out]; rfl
        · rw [hq1]; exact hz1
        · rw [if_neg Hdiv.out, hr1]; exact hz2
        · exact ((hb12.trans (hb3.mono s1)).trans (hb4.mono (by omega))).trans (hb5.mono (by omega))
      · have hs2 : qs.length ≤ 2 := by
          rcases Nat.lt_or_ge 2 qs.length with h | h
          · have := val_lt_len (by omega) hn1 hn2 (by omega); omega
          · exact h
        have hmw : m < 18446744073709551616 := by
          have h1 := hn1.lt
          have h2 : 4294967296 ^ ps.length ≤ 4294967296 ^ 2 := Nat.pow_le_pow_right (by omega) hsmall
          omega
        obtain ⟨dq, hdqe⟩ : ∃ dq, dq = m / n := ⟨_, rfl⟩
        obtain ⟨dr, hdre⟩ : ∃ dr, dr = m % n := ⟨_, rfl⟩
        have hdqb : dq < 18446744073709551616 := by rw [hdqe]; exact Nat.lt_of_le_of_lt (Nat.div_le_self _ _) hmw
        have hdrb : dr < 18446744073709551616 := by rw [hdre]; exact Nat.lt_of_le_of_lt (Nat.mod_le _ _) hmw
        have r1 : (m : Int) / (n : Int) = (dq : Int) := by rw [hdqe]; simp
        have r2 : (m : Int) % (n : Int) = (dr : Int) := by rw [hdre]; simp
        have hrtd : ∀ k, Rd (w.drewN k) B A (u32s ps) := fun k => hrt.dr ((Dr.refl w).step k)
        have hrtd2 : ∀ k, Rd (w.drewN k) B A2 (u32s qs) := fun k => hrt2.dr ((Dr.refl w).step k)
        have Hdq := Lib.hid hdqe
        have Hdr := Lib.hid hdre
        clear hdqe hdre
        go_enter Tryz.func132, Tryz.ntmps132
        go_wp2_with (first
          | (go_at_call 103; (with_reducible refine (trim_any A c xs _ B hr hc hmm).mono ?_); rintro e w' ⟨rfl, rfl⟩; rw [← Hps.out])
          | (go_at_call 103; (with_reducible refine (trim_any A2 c2 ys _ B hr2 hc2 hmm2).mono ?_); rintro e w' ⟨rfl, rfl⟩; rw [← Hqs.out])
          | (go_at_call 70; (with_reducible refine (cmp_any A A2 c c2 ps qs _ B hrt hrt2 hdp hdq hlc hlc2 hm3 hm4).mono ?_); rintro e w' ⟨rfl, nd, rfl⟩; rw [Hvp.out, Hvq.out, ← Hcm.out]))
        refine (word_any A c ps _ B (hrtd _) hdp hsmall).mono ?_
        rintro e w' ⟨rfl, nd, rfl⟩
        rw [Hvp.out]
        go_wp2_with fail
        refine (word_any A2 c2 qs _ B (hrtd2 _) hdq hs2).mono ?_
        rintro e w' ⟨rfl, nd, rfl⟩
        rw [Hvq.out]
        go_wp2_with fail
        refine (of_any dq hdqb _).mono ?_
        rintro e w2 ⟨z1, A1, c1, rfl, hz1, hres1, hb1⟩
        have hb1' : Below w.heap.size w w2 := ((Dr.refl w).step _ |>.below _).trans hb1
        have hres1' : Res w2 w.heap.size 27 A1 c1 (u32s z1) := hres1
        have hra : ∀ k, Rd (w2.drewN k) B A (u32s ps) := fun k => (hrt.below (hb1'.mono hB)).dr ((Dr.refl w2).step k)
        have hra2 : ∀ k, Rd (w2.drewN k) B A2 (u32s qs) := fun k => (hrt2.below (hb1'.mono hB)).dr ((Dr.refl w2).step k)
        clear hb1 hres1
        go_wp2_with fail
        refine (word_any A c ps _ B (hra 0) hdp hsmall).mono ?_
        rintro e w' ⟨rfl, nd, rfl⟩
        rw [Hvp.out]
        go_wp2_with fail
        refine (word_any A2 c2 qs _ B (hra2 _) hdq hs2).mono ?_
        rintro e w' ⟨rfl, nd, rfl⟩
        rw [Hvq.out]
        go_wp2_with fail
        refine (of_any dr hdrb _).mono ?_
        rintro e w3 ⟨z2, A2', c2', rfl, hz2, hres2, hb2⟩
        have hb2' : Below w2.heap.size w2 w3 := ((Dr.refl w2).step _ |>.below _).trans hb2
        have hres2' : Res w3 w2.heap.size 27 A2' c2' (u32s z2) := hres2
        clear hb2 hres2
        go_wp2
        go_ret3
        refine ⟨z1, z2, A1, c1, A2', c2', ?_, ?_, ?_, hres1'.below hb2' (Nat.le_refl _), hres2'.mono hb1'.size, hb1'.trans (hb2'.mono hb1'.size)⟩
        · rw [if_neg Hdiv.out]; rfl
        · rw [← Hdq.out]; exact hz1
        · rw [if_neg Hdiv.out, ← Hdr.out]; exact hz2
end
section
open Go.RowKit

/-- The k-th of a list, 0 past it. -/
def at0 (xs : List Nat) (k : Nat) : Nat := xs.getD k 0
theorem at0_lt {xs : List Nat} (hd : Dig 4294967296 xs) (k : Nat) : at0 xs k < 4294967296 := by
  unfold at0
  rw [List.getD_eq_getElem?_getD]
  by_cases h : k < xs.length
  · rw [List.getElem?_eq_getElem h]; exact hd.at_ k h
  · rw [List.getElem?_eq_none (by omega)]; simp
theorem at0_in {xs : List Nat} {k : Nat} (h : k < xs.length) : at0 xs k = xs[k] := by
  unfold at0
  rw [List.getD_eq_getElem?_getD, List.getElem?_eq_getElem h]; rfl
theorem at0_out {xs : List Nat} {k : Nat} (h : xs.length ≤ k) : at0 xs k = 0 := by
  unfold at0
  rw [List.getD_eq_getElem?_getD, List.getElem?_eq_none h]; rfl

theorem trimL_nil_at {xs : List Nat} (h : trimL xs = []) : ∀ (k : Nat) (hk : k < xs.length), xs[k] = 0 := by
  induction xs with
  | nil => intro k hk; simp at hk
  | cons x xs ih =>
    simp only [trimL] at h
    split at h
    · rename_i e
      split at h
      · rename_i h0
        intro k hk
        cases k with
        | zero => simpa using h0
        | succ k => simpa using ih e k (by simpa using hk)
      · cases h
    · cases h

set_option maxHeartbeats 400000 in
theorem limb_any (A : Option Addr) (c : Nat) (xs : List Nat) (k : Nat) (w : World) (B : Nat) (hr : Rd w B A (u32s xs)) (hd : Dig 4294967296 xs) (_ : xs.length ≤ 281474976710656) (hk : k ≤ 9223372036854775807) :
    Calls Tryz.prog 86 #[.slice A xs.length c, .int .i64 (k : Int)] w fun e w' => e = .returned (.int .u64 (at0 xs k : Nat)) ∧ w = w' := by
  have t0 : decide ((k : Int) < 0) = false := by simp
  rcases Nat.lt_or_ge k xs.length with hlt | hge
  · obtain ⟨b, off, rfl, hb, hcell⟩ := hr (by intro e; have := u32s_length xs; rw [e] at this; simp at this; omega)
    have hx := hcell k _ (u32s_at hlt)
    have t1 : decide (xs.length ≤ k) = false := by simp; omega
    have e1 := Lib.hid (at0_in hlt)
    have hxd := hd.at_ k hlt
    clear hcell hr
    go_enter Tryz.func86, Tryz.ntmps86
    go_wp2
    go_ret
    exact ⟨by rw [e1.out]; rfl, rfl⟩
  · have t1 : decide (xs.length ≤ k) = true := by simp; omega
    have e1 := Lib.hid (at0_out hge)
    go_enter Tryz.func86, Tryz.ntmps86
    go_wp2
    go_ret
    exact ⟨by rw [e1.out]; rfl, rfl⟩

set_option maxHeartbeats 800000 in
theorem rnorm_any (A : Option Addr) (c : Nat) (xs : List Nat) (w : World) (B : Nat) (hr : Rd w B A (u32s xs)) (hB : B ≤ w.heap.size) (hm : xs.length ≤ 70368744177664) :
    Calls Tryz.prog 65 #[.slice A xs.length c] w fun e w' => ∃ A' c', e = .returned (.slice A' (trimL xs).length c') ∧ Res w' w.heap.size 27 A' c' (u32s (trimL xs)) ∧ Below w.heap.size w w' := by
  go_enter Tryz.func65, Tryz.ntmps65
  go_upto_block 0 with (fail)
  go_cut [3] (fun v wc => v = .int .i64 ((trimL xs).length : Int) ∧ wc = w)
  case first =>
    go_wp2_with fail
    go_loop [3] (fun v => ∃ m : Nat, m ≤ xs.length ∧ v = .int .i64 m ∧ trimL (xs.take m) = trimL xs) (fun v => (intOf v).toNat)
    case atStart => exact ⟨xs.length, Nat.le_refl _, rfl, by simp⟩
    case round =>
      obtain ⟨m, hm1, rfl, ht⟩ := hrel
      have Ht := Lib.hid ht; clear ht
      rcases m with _ | m
      · go_wp2
        go_meet
        have h0 : (trimL xs).length = 0 := by rw [← Ht.out]; rfl
        exact ⟨by rw [h0]; rfl, rfl⟩
      · obtain ⟨b, off, rfl, hb, hcell⟩ := hr (by intro e; have := u32s_length xs; rw [e] at this; simp at this; omega)
        have hcl := hcell m _ (u32s_at (by omega))
        clear hcell
        by_cases h0 : xs[m] = 0
        · have hz := trimL_take_zero xs m (by omega) h0
          rw [h0] at hcl
          have Hz := Lib.hid hz
          clear hz h0
          go_wp2
          go_round
          case rel => exact ⟨m, by omega, by go_num, by rw [← Hz.out]; exact Ht.out⟩
          case measure => simp [intOf]
        · have hz := trimL_take_pos xs m (by omega) h0
          have Hz := Lib.hid hz
          have hne : ((xs[m] : Int) == 0) = false := by simp; omega
          clear hz
          go_wp2
          go_meet
          exact ⟨by have h9 := Hz.out; rw [Ht.out] at h9; rw [h9]; simp, rfl⟩
  case rest =>
    obtain ⟨rfl, rfl⟩ := hcut
    have hl := trimL_length_le xs
    obtain ⟨ts, hts⟩ : ∃ ts, ts = trimL xs := ⟨_, rfl⟩
    have hrt : Rd wc B A (u32s ts) := by rw [hts, u32s_trim]; exact hr.take _
    rw [← hts] at hl ⊢
    have hmk := fun W => mk32 ts.length (by omega) W
    have Hts := Lib.hid hts
    clear hts
    go_wp2
    go_loopw [5] (fun i wr => ∃ (k : Nat) (zs : List Nat), k ≤ ts.length ∧ i = .int .i64 k ∧ zs.length = ts.length ∧ Blk wr wc.heap.size 27 (u32s zs) ∧ zs.take k = ts.take k ∧ Below wc.heap.size wc wr) (fun i _ => ts.length - (intOf i).toNat)
    case atStart => exact ⟨0, List.replicate ts.length 0, by omega, rfl, by simp, Blk.new_ (by simp [u32s]), by simp, (Below.refl _ _).alloc (Nat.le_refl _) _⟩
    case round =>
      obtain ⟨k, zs, hk, rfl, hzl, hblk, htk, hbel⟩ := hrel
      by_cases hlt : k < ts.length
      · obtain ⟨b, off, rfl, hb, hcell⟩ := hrt (by intro e; have := u32s_length ts; rw [e] at this; simp at this; omega)
        have hx := (hbel.cell (p := ⟨b, off + k, none⟩) (show b < _ by omega)).trans (hcell k _ (u32s_at hlt))
        have hkz : k < zs.length := by omega
        have Hzl := Lib.hid hzl
        have Htk := Lib.hid htk
        clear hcell hzl htk
        have hc2 := (hblk.cell k).trans (u32s_at hkz)
        have hf2 := hblk.frozen k
        go_wp2
        go_roundw
        case rel =>
          refine ⟨k + 1, zs.set k ts[k], by omega, by go_num, by simpa using Hzl.out, ?_, ?_, hbel.setCell (p := ⟨wc.heap.size, k, none⟩) (Nat.le_refl _) _⟩
          · have hb2 := hblk.set_ k (Value.int IntKind.u32 (ts[k] : Int))
            rw [u32s_set] at hb2
            exact hb2
          · rw [List.take_succ_eq_append_getElem hlt, List.take_succ_eq_append_getElem (by simpa using hkz), ← Htk.out, List.take_set_of_le (Nat.le_refl _)]
            simp
        case measure => simp [intOf]; omega
      · go_wp2
        go_ret
        obtain rfl : k = ts.length := by omega
        have e : zs = ts := by
          rw [List.take_length, ← hzl, List.take_length] at htk
          exact htk
        subst e
        clear htk
        have h3 := Res.of_blk0 hblk (Nat.le_refl _) (by rw [u32s_length]; omega)
        rw [u32s_length] at h3
        exact ⟨_, _, by rw [← Hts.out]; rfl, by rw [← Hts.out]; exact h3, hbel⟩

set_option maxHeartbeats 400000 in
theorem zero_any (A : Option Addr) (c : Nat) (xs : List Nat) (w : World) (B : Nat) (hr : Rd w B A (u32s xs)) (hm : xs.length ≤ 281474976710656) :
    Calls Tryz.prog 95 #[.slice A xs.length c] w fun e w' => e = .returned (.bool (decide (trimL xs = []))) ∧ w = w' := by
  go_enter Tryz.func95, Tryz.ntmps95
  go_wp2
  go_loop [4, 7] (fun _ i => ∃ k : Nat, k ≤ xs.length ∧ i = .int .i64 k ∧ trimL (xs.take k) = []) (fun _ i => xs.length - (intOf i).toNat)
  case atStart => exact ⟨0, by omega, rfl, rfl⟩
  case round =>
    obtain ⟨k, hk, rfl, ht⟩ := hrel
    by_cases hlt : k < xs.length
    · obtain ⟨b, off, rfl, hb, hcell⟩ := hr (by intro e; have := u32s_length xs; rw [e] at this; simp at this; omega)
      have hx := hcell k _ (u32s_at hlt)
      have Ht := Lib.hid ht
      clear hcell ht
      by_cases h0 : xs[k] = 0
      · have t1 : ((xs[k] : Int) != 0) = false := by simpa using h0
        have hz := Lib.hid (trimL_take_zero xs k hlt h0)
        clear h0
        go_wp2
        go_round
        case rel => exact ⟨k + 1, by omega, by go_num, by rw [hz.out]; exact Ht.out⟩
        case measure => simp [intOf]; omega
      · have t1 : ((xs[k] : Int) != 0) = true := by simpa using h0
        have hz : decide (trimL xs = []) = false := by
          simp only [decide_eq_false_iff_not]
          intro e
          have h1 := trimL_nil_at e k hlt
          exact h0 h1
        have Hz := Lib.hid hz
        clear hz h0
        go_wp2
        go_ret
        exact ⟨by rw [Hz.out]; rfl, rfl⟩
    · obtain rfl : k = xs.length := by omega
      have hz : decide (trimL xs = []) = true := by rw [List.take_length] at ht; simp [ht]
      have Hz := Lib.hid hz
      clear hz ht
      go_wp2
      go_ret
      exact ⟨by rw [Hz.out]; rfl, rfl⟩
end
end Go.Proofs.YtadpelhmjmamnaaGreatDoor
