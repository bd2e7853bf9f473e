/- The contract of Div, over any contract of quotient. -/
import Derived.Test.YtogkfpbapjjgfaaDoorShortQ
namespace Go.Proofs.YtogkfpbapjjgfaaDoor
open Go.RowKit

theorem trimL_of_ge {b : Nat} {xs : List Nat} (hb : 1 < b) (hd : Dig b xs) (h : b ^ (xs.length - 1) ≤ val b xs) : trimL xs = xs := by
  by_cases h0 : xs = []
  · subst h0; rfl
  have hl : 0 < xs.length := by cases xs with | nil => exact absurd rfl h0 | cons _ _ => simp
  have e := trimL_take xs
  have hle := trimL_length_le xs
  by_cases hlt : (trimL xs).length = xs.length
  · rw [← e, hlt, List.take_length]
  · exfalso
    have h1 := val_lt b (trimL xs) hd.trim_
    rw [val_trim] at h1
    have : b ^ (trimL xs).length ≤ b ^ (xs.length - 1) := Nat.pow_le_pow_right (by omega) (by omega)
    omega

/-- What quotient answers, for divisors of so many words. -/
def QuotientOk (P : Nat → Prop) : Prop :=
  ∀ (A : Option Addr) (c : Nat) (A2 : Option Addr) (c2 : Nat) (us vs : List Nat) (w : World) (B : Nat), Rd w B A (u64s us) → Rd w B A2 (u64s vs) → B ≤ w.heap.size → Dig 18446744073709551616 us → Dig 18446744073709551616 vs → trimL us = us → trimL vs = vs → vs ≠ [] →
    val 18446744073709551616 vs ≤ val 18446744073709551616 us → P vs.length → us.length ≤ c → vs.length ≤ c2 → us.length ≤ 35184372088000 →
    Calls Tryd.prog 44 #[.slice A us.length c, .slice A2 vs.length c2] w fun e w' => ∃ qs rs A1 c1 A3 c3, e = .returned (.tuple #[.slice A1 qs.length c1, .slice A3 rs.length c3]) ∧ Dig 18446744073709551616 qs ∧ Dig 18446744073709551616 rs ∧ qs.length ≤ us.length ∧ rs.length ≤ us.length + 1 ∧ qs.length ≤ c1 ∧ rs.length ≤ c3 ∧
      val 18446744073709551616 us = val 18446744073709551616 qs * val 18446744073709551616 vs + val 18446744073709551616 rs ∧ val 18446744073709551616 rs < val 18446744073709551616 vs ∧ Rd w' w'.heap.size A1 (u64s qs) ∧ Rd w' w'.heap.size A3 (u64s rs) ∧ Below w.heap.size w w'

set_option maxHeartbeats 400000 in
theorem quotient_one : QuotientOk (· = 1) := by
  intro A c A2 c2 us vs w B hr hr2 hB hd hd2 ht ht2 hv0 hge hP hc hc2 hm
  obtain ⟨v, rfl⟩ := len_one (xs := vs) hP
  obtain ⟨b, off, rfl, hb, hcell⟩ := hr2 (by simp [u64s])
  have hcv := hcell 0 _ rfl
  simp only [Nat.add_zero] at hcv
  have hv : v < 18446744073709551616 := hd2.head_
  have hvp : 0 < v := by
    rcases Nat.eq_zero_or_pos v with h | h
    · subst h; simp [trimL] at ht2
    · exact h
  have hl1 : [v].length = 1 := rfl
  clear hcell hr2 ht2
  rw [hl1]
  go_enter Tryd.func44, Tryd.ntmps44
  go_wp2_with (go_at_call 67; (with_reducible refine (shortQuotient_any _ _ us v _ B hr hB hd hvp hv (by omega)).mono ?_); rintro e w2 ⟨qs, r, A1, c1, A3, c3, rfl, h1, h2, h3, h4, h5, h6, h7⟩)
  go_ret2
  refine ⟨qs, [r], A1, c1, A3, c3, by rw [h2]; rfl, h1, Dig.cons_ (by omega) (Dig.nil_ _), by omega, by simp, by simpa [u64s_length] using h5.1, by simpa [u64s_length] using h6.1, ?_, ?_, h5.rd, h6.rd, h7⟩
  · simpa [val] using h4
  · simpa [val] using h3

/-- What Div answers. -/
def DivOut (w w' : World) (m n : Nat) (e : Ending) : Prop :=
  ∃ qs rs A1 c1 A3 c3, e = .returned (.tuple #[.slice A1 qs.length c1, .slice A3 rs.length c3, .int .i64 (if n = 0 then 5 else 0)]) ∧ Num 4294967296 qs (m / n) ∧ Num 4294967296 rs (if n = 0 then 0 else m % n) ∧
    Res w' w.heap.size 31 A1 c1 (u32s qs) ∧ Res w' w.heap.size 31 A3 c3 (u32s rs) ∧ Below w.heap.size w w'

theorem wide_norm {ps ws : List Nat} {m : Nat} (h : Num 4294967296 ps m) (hn : ps ≠ []) (hl : ws.length = (ps.length + 1) / 2) (hd : Dig 18446744073709551616 ws) (hv : val 18446744073709551616 ws = val 4294967296 ps) : trimL ws = ws := by
  refine trimL_of_ge (by omega) hd ?_
  have h1 := h.ge hn
  rw [hv, h.2.2]
  refine Nat.le_trans ?_ h1
  rw [show (18446744073709551616 : Nat) = 4294967296 ^ 2 from rfl, ← Nat.pow_mul]
  have : 0 < ps.length := by cases ps with | nil => exact absurd rfl hn | cons _ _ => simp
  exact Nat.pow_le_pow_right (by omega) (by omega)

set_option maxHeartbeats 1000000 in
theorem div_any {P : Nat → Prop} (hQ : QuotientOk P) (A A2 : Option Addr) (c c2 : Nat) (xs ys : List Nat) (w : World) (B : Nat) (hr : Rd w B A (u32s xs)) (hr2 : Rd w B A2 (u32s ys)) (hB : B ≤ w.heap.size) (hd : Dig 4294967296 xs) (hd2 : Dig 4294967296 ys) (hc : xs.length ≤ c) (hc2 : ys.length ≤ c2) (hm : xs.length ≤ 70368744170000) (hm2 : ys.length ≤ 70368744170000)
    (hP : P (((trimL ys).length + 1) / 2)) :
    Calls Tryd.prog 23 #[.slice A xs.length c, .slice A2 ys.length c2] w fun e w' => DivOut w w' (val 4294967296 xs) (val 4294967296 ys) e := by
  obtain ⟨m, hmv⟩ : ∃ m, m = val 4294967296 xs := ⟨_, rfl⟩
  obtain ⟨n, hnv⟩ : ∃ n, n = val 4294967296 ys := ⟨_, rfl⟩
  have hn1 : Num 4294967296 (trimL xs) m := by rw [hmv]; exact Num.of_trim hd
  have hn2 : Num 4294967296 (trimL ys) n := by rw [hnv]; exact Num.of_trim hd2
  have hl1 := trimL_length_le xs
  have hl2 := trimL_length_le ys
  rw [← hmv, ← hnv]
  have hrt : Rd w B A (u32s (trimL xs)) := by rw [u32s_trim]; exact hr.take _
  have hrt2 : Rd w B A2 (u32s (trimL ys)) := by rw [u32s_trim]; exact hr2.take _
  obtain ⟨ps, hps⟩ : ∃ ps, ps = trimL xs := ⟨_, rfl⟩
  obtain ⟨qs, hqs⟩ : ∃ qs, qs = trimL ys := ⟨_, rfl⟩
  rw [← hps] at hn1 hrt hl1
  rw [← hqs] at hn2 hrt2 hl2 hP
  have Hps := Lib.hid hps
  have Hqs := Lib.hid hqs
  have hmm : xs.length ≤ 281474976710656 := by omega
  have hmm2 : ys.length ≤ 281474976710656 := by omega
  have hdp : Dig 4294967296 ps := hn1.1
  have hdq : Dig 4294967296 qs := hn2.1
  have Hvp : Hid (val 4294967296 ps = m) := hn1.2.2
  have Hvq : Hid (val 4294967296 qs = n) := hn2.2.2
  clear hps hqs hmv hnv
  rcases Nat.eq_zero_or_pos n with h0 | hnp
  · have hq0 : qs = [] := (hn2.nil_iff (by omega)).2 h0
    have hz : (qs.length : Int) = 0 := by rw [hq0]; rfl
    have H0 := Lib.hid h0
    clear hq0 h0
    go_enter Tryd.func23, Tryd.ntmps23
    go_wp2_with (first
      | (go_at_call 37; (with_reducible refine (trim_any A c xs _ B hr hc hmm).mono ?_); rintro e w' ⟨rfl, rfl⟩; rw [← Hps.out])
      | (go_at_call 37; (with_reducible refine (trim_any A2 c2 ys _ B hr2 hc2 hmm2).mono ?_); rintro e w' ⟨rfl, rfl⟩; rw [← Hqs.out]))
    go_ret3
    refine ⟨[], [], none, 0, none, 0, ?_, ?_, ?_, Res.none_, Res.none_, Below.refl _ _⟩
    · rw [H0.out]; rfl
    · rw [H0.out, Nat.div_zero]; exact Num.zero_ _
    · rw [if_pos H0.out]; exact Num.zero_ _
  · have hqne : qs ≠ [] := fun e => by have := (hn2.nil_iff (by omega)).1 e; omega
    have hqp : qs.length ≠ 0 := fun e => hqne (List.eq_nil_of_length_eq_zero e)
    have tq : ((qs.length : Int) == 0) = false := by simpa using hqp
    rcases Nat.lt_or_ge m n with hlt | hge
    · have e1 : cmpN m n = -1 := by simp [cmpN, hlt]
      have He1 := Lib.hid e1
      clear e1 hqne hqp
      have hrtd : ∀ k, Rd (w.drewN k) B A (u32s ps) := fun k => hrt.dr ((Dr.refl w).step k)
      have hBd : ∀ k, B ≤ (w.drewN k).heap.size := fun _ => hB
      have hlc : ps.length ≤ c := by omega
      have hlc2 : qs.length ≤ c2 := by omega
      have hm1 : ps.length ≤ 70368744177664 := by omega
      have hm3 : ps.length ≤ 281474976710656 := by omega
      have hm4 : qs.length ≤ 281474976710656 := by omega
      go_enter Tryd.func23, Tryd.ntmps23
      go_wp2_with (first
        | (go_at_call 37; (with_reducible refine (trim_any A c xs _ B hr hc hmm).mono ?_); rintro e w' ⟨rfl, rfl⟩; rw [← Hps.out])
        | (go_at_call 37; (with_reducible refine (trim_any A2 c2 ys _ B hr2 hc2 hmm2).mono ?_); rintro e w' ⟨rfl, rfl⟩; rw [← Hqs.out])
        | (go_at_call 36; (with_reducible refine (cmp_any A A2 c c2 ps qs _ B hrt hrt2 hdp hdq hlc hlc2 hm3 hm4).mono ?_); rintro e w' ⟨rfl, nd, rfl⟩; rw [Hvp.out, Hvq.out, He1.out])
        | (go_at_call 8; (with_reducible refine (norm_any A c ps _ B (hrtd _) (hBd _) hlc hm1).mono ?_); rintro e w' ⟨A', c', rfl, hres, hb⟩))
      go_ret3
      have hz : (w.drewN nd).heap.size = w.heap.size := rfl
      rw [hz] at hres hb
      have htp : trimL ps = ps := hn1.2.1
      rw [htp] at hres
      refine ⟨[], ps, none, 0, A', c', ?_, ?_, ?_, Res.none_, hres, ((Dr.refl w).step nd |>.below _).trans hb⟩
      · rw [if_neg (by omega), htp]; rfl
      · rw [Nat.div_eq_of_lt hlt]; exact Num.zero_ _
      · rw [if_neg (by omega), Nat.mod_eq_of_lt hlt]; exact hn1
    · have e1 : 0 ≤ cmpN m n := by unfold cmpN; split <;> (try split) <;> omega
      obtain ⟨cm, hcm⟩ : ∃ cm : Int, cm = cmpN m n := ⟨_, rfl⟩
      rw [← hcm] at e1
      have Hcm := Lib.hid hcm
      have hlc : ps.length ≤ c := by omega
      have hlc2 : qs.length ≤ c2 := by omega
      have hm3 : ps.length ≤ 281474976710656 := by omega
      have hm4 : qs.length ≤ 281474976710656 := by omega
      have hdiv : ¬ (n = 0) := by omega
      have Hdiv := Lib.hid hdiv
      clear hcm
      rcases Nat.lt_or_ge 2 ps.length with hbig | hsmall
      · go_enter Tryd.func23, Tryd.ntmps23
        go_wp2_with (first
          | (go_at_call 37; (with_reducible refine (trim_any A c xs _ B hr hc hmm).mono ?_); rintro e w' ⟨rfl, rfl⟩; rw [← Hps.out])
          | (go_at_call 37; (with_reducible refine (trim_any A2 c2 ys _ B hr2 hc2 hmm2).mono ?_); rintro e w' ⟨rfl, rfl⟩; rw [← Hqs.out])
          | (go_at_call 36; (with_reducible refine (cmp_any A A2 c c2 ps qs _ B hrt hrt2 hdp hdq hlc hlc2 hm3 hm4).mono ?_); rintro e w' ⟨rfl, nd, rfl⟩; rw [Hvp.out, Hvq.out, ← Hcm.out]))
        have hpne : ps ≠ [] := by rintro rfl; simp at hbig
        refine (wide_any A c ps _ B (hrt.dr ((Dr.refl w).step _)) hB hdp hlc (by omega)).mono ?_
        rintro e w1 ⟨us, A1, c1, rfl, hul, hud, huv, hures, hub⟩
        have hub' : Below w.heap.size w w1 := ((Dr.refl w).step _ |>.below _).trans hub
        have hures' : Res w1 w.heap.size 24 A1 c1 (u64s us) := hures
        have hut := Lib.hid (wide_norm hn1 hpne hul hud huv)
        have Hul := Lib.hid hul
        have Huv := Lib.hid huv
        clear hub hures hul huv
        go_wp2_with fail
        refine (wide_any A2 c2 qs _ B (hrt2.below (hub'.mono hB)) (Nat.le_trans hB hub'.size) hdq hlc2 (by omega)).mono ?_
        rintro e w2 ⟨vs, A3, c3, rfl, hvl, hvd, hvv, hvres, hvb⟩
        have hvt := Lib.hid (wide_norm hn2 hqne hvl hvd hvv)
        have Hvl := Lib.hid hvl
        have Hvv := Lib.hid hvv
        have huc : us.length ≤ c1 := by have := hures'.1; rwa [u64s_length] at this
        have hvc : vs.length ≤ c3 := by have := hvres.1; rwa [u64s_length] at this
        have hvne : vs ≠ [] := by rintro rfl; simp at hvl; omega
        clear hvl hvv
        have hb12 := hub'.trans (hvb.mono hub'.size)
        have hru : Rd w2 w2.heap.size A1 (u64s us) := (hures'.below hvb (Nat.le_refl _)).rd
        go_wp2_with fail
        have hge2 : val 18446744073709551616 vs ≤ val 18446744073709551616 us := by rw [Huv.out, Hvv.out, Hvp.out, Hvq.out]; exact hge
        have hP2 : P vs.length := by rw [Hvl.out]; exact hP
        have hub2 : us.length ≤ 35184372088000 := by have := Hul.out; omega
        refine (hQ A1 c1 A3 c3 us vs _ _ hru hvres.rd (Nat.le_refl _) hud hvd hut.out hvt.out hvne hge2 hP2 huc hvc hub2).mono ?_
        rintro e w3 ⟨gs, rs, A4, c4, A5, c5, rfl, hgd, hrd, hgl, hrl, hgc, hrc, hsum0, hrest, hrg, hrr, hb3⟩
        have hsum1 := Lib.hid hsum0
        clear hsum0
        go_wp2_with fail
        refine (narrow_any A4 c4 gs _ _ hrg (Nat.le_refl _) hgd hgc (by omega)).mono ?_
        rintro e w4 ⟨z1, A6, c6, rfl, hz1, hres1, hb4⟩
        go_wp2_with fail
        refine (narrow_any A5 c5 rs _ _ (hrr.below hb4) hb4.size hrd hrc (by omega)).mono ?_
        rintro e w5 ⟨z2, A7, c7, rfl, hz2, hres2, hb5⟩
        go_wp2
        go_ret3
        have s1 := hb12.size
        have s2 := hb3.size
        have s3 := hb4.size
        have hsum := hsum1.out
        rw [Huv.out, Hvv.out, Hvp.out, Hvq.out, Nat.mul_comm] at hsum
        rw [Hvv.out, Hvq.out] at hrest
        have hq1 : m / n = val 18446744073709551616 gs := by
          rw [hsum, Nat.mul_add_div hnp, Nat.div_eq_of_lt hrest, Nat.add_zero]
        have hr1 : m % n = val 18446744073709551616 rs := by
          rw [hsum, Nat.mul_add_mod, Nat.mod_eq_of_lt hrest]
        refine ⟨z1, z2, A6, c6, A7, c7, ?_, ?_, ?_, (hres1.below hb5 (Nat.le_refl _)).mono (by omega), hres2.mono (by omega), ?_⟩
        · rw [if_neg Hdiv.out]; rfl
        · rw [hq1]; exact hz1
        · rw [if_neg Hdiv.out, hr1]; exact hz2
        · exact ((hb12.trans (hb3.mono s1)).trans (hb4.mono (by omega))).trans (hb5.mono (by omega))
      · have hs2 : qs.length ≤ 2 := by
          rcases Nat.lt_or_ge 2 qs.length with h | h
          · have := val_lt_len (by omega) hn1 hn2 (by omega); omega
          · exact h
        have hmw : m < 18446744073709551616 := by
          have h1 := hn1.lt
          have h2 : 4294967296 ^ ps.length ≤ 4294967296 ^ 2 := Nat.pow_le_pow_right (by omega) hsmall
          omega
        obtain ⟨dq, hdqe⟩ : ∃ dq, dq = m / n := ⟨_, rfl⟩
        obtain ⟨dr, hdre⟩ : ∃ dr, dr = m % n := ⟨_, rfl⟩
        have hdqb : dq < 18446744073709551616 := by rw [hdqe]; exact Nat.lt_of_le_of_lt (Nat.div_le_self _ _) hmw
        have hdrb : dr < 18446744073709551616 := by rw [hdre]; exact Nat.lt_of_le_of_lt (Nat.mod_le _ _) hmw
        have r1 : (m : Int) / (n : Int) = (dq : Int) := by rw [hdqe]; simp
        have r2 : (m : Int) % (n : Int) = (dr : Int) := by rw [hdre]; simp
        have hrtd : ∀ k, Rd (w.drewN k) B A (u32s ps) := fun k => hrt.dr ((Dr.refl w).step k)
        have hrtd2 : ∀ k, Rd (w.drewN k) B A2 (u32s qs) := fun k => hrt2.dr ((Dr.refl w).step k)
        have Hdq := Lib.hid hdqe
        have Hdr := Lib.hid hdre
        clear hdqe hdre
        go_enter Tryd.func23, Tryd.ntmps23
        go_wp2_with (first
          | (go_at_call 37; (with_reducible refine (trim_any A c xs _ B hr hc hmm).mono ?_); rintro e w' ⟨rfl, rfl⟩; rw [← Hps.out])
          | (go_at_call 37; (with_reducible refine (trim_any A2 c2 ys _ B hr2 hc2 hmm2).mono ?_); rintro e w' ⟨rfl, rfl⟩; rw [← Hqs.out])
          | (go_at_call 36; (with_reducible refine (cmp_any A A2 c c2 ps qs _ B hrt hrt2 hdp hdq hlc hlc2 hm3 hm4).mono ?_); rintro e w' ⟨rfl, nd, rfl⟩; rw [Hvp.out, Hvq.out, ← Hcm.out]))
        refine (word_any A c ps _ B (hrtd _) hdp hsmall).mono ?_
        rintro e w' ⟨rfl, nd, rfl⟩
        rw [Hvp.out]
        go_wp2_with fail
        refine (word_any A2 c2 qs _ B (hrtd2 _) hdq hs2).mono ?_
        rintro e w' ⟨rfl, nd, rfl⟩
        rw [Hvq.out]
        go_wp2_with fail
        refine (of_any dq hdqb _).mono ?_
        rintro e w2 ⟨z1, A1, c1, rfl, hz1, hres1, hb1⟩
        have hb1' : Below w.heap.size w w2 := ((Dr.refl w).step _ |>.below _).trans hb1
        have hres1' : Res w2 w.heap.size 31 A1 c1 (u32s z1) := hres1
        have hra : ∀ k, Rd (w2.drewN k) B A (u32s ps) := fun k => (hrt.below (hb1'.mono hB)).dr ((Dr.refl w2).step k)
        have hra2 : ∀ k, Rd (w2.drewN k) B A2 (u32s qs) := fun k => (hrt2.below (hb1'.mono hB)).dr ((Dr.refl w2).step k)
        clear hb1 hres1
        go_wp2_with fail
        refine (word_any A c ps _ B (hra 0) hdp hsmall).mono ?_
        rintro e w' ⟨rfl, nd, rfl⟩
        rw [Hvp.out]
        go_wp2_with fail
        refine (word_any A2 c2 qs _ B (hra2 _) hdq hs2).mono ?_
        rintro e w' ⟨rfl, nd, rfl⟩
        rw [Hvq.out]
        go_wp2_with fail
        refine (of_any dr hdrb _).mono ?_
        rintro e w3 ⟨z2, A2', c2', rfl, hz2, hres2, hb2⟩
        have hb2' : Below w2.heap.size w2 w3 := ((Dr.refl w2).step _ |>.below _).trans hb2
        have hres2' : Res w3 w2.heap.size 31 A2' c2' (u32s z2) := hres2
        clear hb2 hres2
        go_wp2
        go_ret3
        refine ⟨z1, z2, A1, c1, A2', c2', ?_, ?_, ?_, hres1'.below hb2' (Nat.le_refl _), hres2'.mono hb1'.size, hb1'.trans (hb2'.mono hb1'.size)⟩
        · rw [if_neg Hdiv.out]; rfl
        · rw [← Hdq.out]; exact hz1
        · rw [if_neg Hdiv.out, ← Hdr.out]; exact hz2
end Go.Proofs.YtogkfpbapjjgfaaDoor
