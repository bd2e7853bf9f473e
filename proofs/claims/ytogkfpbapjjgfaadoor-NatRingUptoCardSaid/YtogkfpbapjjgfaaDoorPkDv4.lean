/- The contract of Div, over any contract of quotient. The contracts of the reference's Same on equal lists, and of lives. The contracts of lifter, dropper and their closures. The contract of shiftWords. Conditions: words; a shift below 64. -/
import Derived.Test.YtogkfpbapjjgfaaDoorPkDv3
import Derived.Test.YtogkfpbapjjgfaaDoorPkDv2
namespace Go.Proofs.YtogkfpbapjjgfaaDoor
section
open Go.RowKit

theorem trimL_of_ge {b : Nat} {xs : List Nat} (hb : 1 < b) (hd : Dig b xs) (h : b ^ (xs.length - 1) ≤ val b xs) : trimL xs = xs := by
  by_cases h0 : xs = []
  · subst h0; rfl
  have hl : 0 < xs.length := by cases xs with | nil => exact absurd rfl h0 | cons _ _ => simp
  have e := trimL_take xs
  have hle := trimL_length_le xs
  by_cases hlt : (trimL xs).length = xs.length
  · rw [← e, hlt, List.take_length]
  · exfalso
    have h1 := val_lt b (trimL xs) hd.trim_
    rw [val_trim] at h1
    have : b ^ (trimL xs).length ≤ b ^ (xs.length - 1) := Nat.pow_le_pow_right (by omega) (by omega)
    omega

/-- What quotient answers, for divisors of so many words. -/
def QuotientOk (P : Nat → Prop) : Prop :=
  ∀ (A : Option Addr) (c : Nat) (A2 : Option Addr) (c2 : Nat) (us vs : List Nat) (w : World) (B : Nat), Rd w B A (u64s us) → Rd w B A2 (u64s vs) → B ≤ w.heap.size → Dig 18446744073709551616 us → Dig 18446744073709551616 vs → trimL us = us → trimL vs = vs → vs ≠ [] →
    val 18446744073709551616 vs ≤ val 18446744073709551616 us → P vs.length → us.length ≤ c → vs.length ≤ c2 → us.length ≤ 35183400000000 →
    Calls Tryd.prog 44 #[.slice A us.length c, .slice A2 vs.length c2] w fun e w' => ∃ qs rs A1 c1 A3 c3, e = .returned (.tuple #[.slice A1 qs.length c1, .slice A3 rs.length c3]) ∧ Dig 18446744073709551616 qs ∧ Dig 18446744073709551616 rs ∧ qs.length ≤ us.length + 402653185 ∧ rs.length ≤ us.length + 1 ∧ qs.length ≤ c1 ∧ rs.length ≤ c3 ∧
      val 18446744073709551616 us = val 18446744073709551616 qs * val 18446744073709551616 vs + val 18446744073709551616 rs ∧ val 18446744073709551616 rs < val 18446744073709551616 vs ∧ Rd w' w'.heap.size A1 (u64s qs) ∧ Res w' w.heap.size 24 A3 c3 (u64s rs) ∧ Below w.heap.size w w'

set_option maxHeartbeats 400000 in
theorem quotient_one : QuotientOk (· = 1) := by
  intro A c A2 c2 us vs w B hr hr2 hB hd hd2 ht ht2 hv0 hge hP hc hc2 hm
  obtain ⟨v, rfl⟩ := len_one (xs := vs) hP
  obtain ⟨b, off, rfl, hb, hcell⟩ := hr2 (by simp [u64s])
  have hcv := hcell 0 _ rfl
  simp only [Nat.add_zero] at hcv
  have hv : v < 18446744073709551616 := hd2.head_
  have hvp : 0 < v := by
    rcases Nat.eq_zero_or_pos v with h | h
    · subst h; simp [trimL] at ht2
    · exact h
  have hl1 : [v].length = 1 := rfl
  clear hcell hr2 ht2
  rw [hl1]
  go_enter Tryd.func44, Tryd.ntmps44
  go_wp2_with (go_at_call 67; (with_reducible refine (shortQuotient_any _ _ us v _ B hr hB hd hvp hv (by omega)).mono ?_); rintro e w2 ⟨qs, r, A1, c1, A3, c3, rfl, h1, h2, h3, h4, h5, h6, h7⟩)
  go_ret2
  refine ⟨qs, [r], A1, c1, A3, c3, by rw [h2]; rfl, h1, Dig.cons_ (by omega) (Dig.nil_ _), by omega, by simp, by simpa [u64s_length] using h5.1, by simpa [u64s_length] using h6.1, ?_, ?_, h5.rd, h6, h7⟩
  · simpa [val] using h4
  · simpa [val] using h3

/-- What Div answers. -/
def DivOut (w w' : World) (m n : Nat) (e : Ending) : Prop :=
  ∃ qs rs A1 c1 A3 c3, e = .returned (.tuple #[.slice A1 qs.length c1, .slice A3 rs.length c3, .int .i64 (if n = 0 then 5 else 0)]) ∧ Num 4294967296 qs (m / n) ∧ Num 4294967296 rs (if n = 0 then 0 else m % n) ∧
    Res w' w.heap.size 31 A1 c1 (u32s qs) ∧ Res w' w.heap.size 31 A3 c3 (u32s rs) ∧ Below w.heap.size w w'

theorem wide_norm {ps ws : List Nat} {m : Nat} (h : Num 4294967296 ps m) (hn : ps ≠ []) (hl : ws.length = (ps.length + 1) / 2) (hd : Dig 18446744073709551616 ws) (hv : val 18446744073709551616 ws = val 4294967296 ps) : trimL ws = ws := by
  refine trimL_of_ge (by omega) hd ?_
  have h1 := h.ge hn
  rw [hv, h.2.2]
  refine Nat.le_trans ?_ h1
  rw [show (18446744073709551616 : Nat) = 4294967296 ^ 2 from rfl, ← Nat.pow_mul]
  have : 0 < ps.length := by cases ps with | nil => exact absurd rfl hn | cons _ _ => simp
  exact Nat.pow_le_pow_right (by omega) (by omega)

set_option maxHeartbeats 1000000 in
theorem div_any {P : Nat → Prop} (hQ : QuotientOk P) (A A2 : Option Addr) (c c2 : Nat) (xs ys : List Nat) (w : World) (B : Nat) (hr : Rd w B A (u32s xs)) (hr2 : Rd w B A2 (u32s ys)) (hB : B ≤ w.heap.size) (hd : Dig 4294967296 xs) (hd2 : Dig 4294967296 ys) (hc : xs.length ≤ c) (hc2 : ys.length ≤ c2) (hm : xs.length ≤ 70366800000000) (hm2 : ys.length ≤ 70366800000000)
    (hP : P (((trimL ys).length + 1) / 2)) :
    Calls Tryd.prog 23 #[.slice A xs.length c, .slice A2 ys.length c2] w fun e w' => DivOut w w' (val 4294967296 xs) (val 4294967296 ys) e := by
  obtain ⟨m, hmv⟩ : ∃ m, m = val 4294967296 xs := ⟨_, rfl⟩
  obtain ⟨n, hnv⟩ : ∃ n, n = val 4294967296 ys := ⟨_, rfl⟩
  have hn1 : Num 4294967296 (trimL xs) m := by rw [hmv]; exact Num.of_trim hd
  have hn2 : Num 4294967296 (trimL ys) n := by rw [hnv]; exact Num.of_trim hd2
  have hl1 := trimL_length_le xs
  have hl2 := trimL_length_le ys
  rw [← hmv, ← hnv]
  have hrt : Rd w B A (u32s (trimL xs)) := by rw [u32s_trim]; exact hr.take _
  have hrt2 : Rd w B A2 (u32s (trimL ys)) := by rw [u32s_trim]; exact hr2.take _
  obtain ⟨ps, hps⟩ : ∃ ps, ps = trimL xs := ⟨_, rfl⟩
  obtain ⟨qs, hqs⟩ : ∃ qs, qs = trimL ys := ⟨_, rfl⟩
  rw [← hps] at hn1 hrt hl1
  rw [← hqs] at hn2 hrt2 hl2 hP
  have Hps := Lib.hid hps
  have Hqs := Lib.hid hqs
  have hmm : xs.length ≤ 281474976710656 := by omega
  have hmm2 : ys.length ≤ 281474976710656 := by omega
  have hdp : Dig 4294967296 ps := hn1.1
  have hdq : Dig 4294967296 qs := hn2.1
  have Hvp : Hid (val 4294967296 ps = m) := hn1.2.2
  have Hvq : Hid (val 4294967296 qs = n) := hn2.2.2
  clear hps hqs hmv hnv
  rcases Nat.eq_zero_or_pos n with h0 | hnp
  · have hq0 : qs = [] := (hn2.nil_iff (by omega)).2 h0
    have hz : (qs.length : Int) = 0 := by rw [hq0]; rfl
    have H0 := Lib.hid h0
    clear hq0 h0
    go_enter Tryd.func23, Tryd.ntmps23
    go_wp2_with (first
      | (go_at_call 37; (with_reducible refine (trim_any A c xs _ B hr hc hmm).mono ?_); rintro e w' ⟨rfl, rfl⟩; rw [← Hps.out])
      | (go_at_call 37; (with_reducible refine (trim_any A2 c2 ys _ B hr2 hc2 hmm2).mono ?_); rintro e w' ⟨rfl, rfl⟩; rw [← Hqs.out]))
    go_ret3
    refine ⟨[], [], none, 0, none, 0, ?_, ?_, ?_, Res.none_, Res.none_, Below.refl _ _⟩
    · rw [H0.out]; rfl
    · rw [H0.out, Nat.div_zero]; exact Num.zero_ _
    · rw [if_pos H0.out]; exact Num.zero_ _
  · have hqne : qs ≠ [] := fun e => by have := (hn2.nil_iff (by omega)).1 e; omega
    have hqp : qs.length ≠ 0 := fun e => hqne (List.eq_nil_of_length_eq_zero e)
    have tq : ((qs.length : Int) == 0) = false := by simpa using hqp
    rcases Nat.lt_or_ge m n with hlt | hge
    · have e1 : cmpN m n = -1 := by simp [cmpN, hlt]
      have He1 := Lib.hid e1
      clear e1 hqne hqp
      have hrtd : ∀ k, Rd (w.drewN k) B A (u32s ps) := fun k => hrt.dr ((Dr.refl w).step k)
      have hBd : ∀ k, B ≤ (w.drewN k).heap.size := fun _ => hB
      have hlc : ps.length ≤ c := by omega
      have hlc2 : qs.length ≤ c2 := by omega
      have hm1 : ps.length ≤ 70368744177664 := by omega
      have hm3 : ps.length ≤ 281474976710656 := by omega
      have hm4 : qs.length ≤ 281474976710656 := by omega
      go_enter Tryd.func23, Tryd.ntmps23
      go_wp2_with (first
        | (go_at_call 37; (with_reducible refine (trim_any A c xs _ B hr hc hmm).mono ?_); rintro e w' ⟨rfl, rfl⟩; rw [← Hps.out])
        | (go_at_call 37; (with_reducible refine (trim_any A2 c2 ys _ B hr2 hc2 hmm2).mono ?_); rintro e w' ⟨rfl, rfl⟩; rw [← Hqs.out])
        | (go_at_call 36; (with_reducible refine (cmp_any A A2 c c2 ps qs _ B hrt hrt2 hdp hdq hlc hlc2 hm3 hm4).mono ?_); rintro e w' ⟨rfl, nd, rfl⟩; rw [Hvp.out, Hvq.out, He1.out])
        | (go_at_call 8; (with_reducible refine (norm_any A c ps _ B (hrtd _) (hBd _) hlc hm1).mono ?_); rintro e w' ⟨A', c', rfl, hres, hb⟩))
      go_ret3
      have hz : (w.drewN nd).heap.size = w.heap.size := rfl
      rw [hz] at hres hb
      have htp : trimL ps = ps := hn1.2.1
      rw [htp] at hres
      refine ⟨[], ps, none, 0, A', c', ?_, ?_, ?_, Res.none_, hres, ((Dr.refl w).step nd |>.below _).trans hb⟩
      · rw [if_neg (by omega), htp]; rfl
      · rw [Nat.div_eq_of_lt hlt]; exact Num.zero_ _
      · rw [if_neg (by omega), Nat.mod_eq_of_lt hlt]; exact hn1
    · have e1 : 0 ≤ cmpN m n := by unfold cmpN; split <;> (try split) <;> omega
      obtain ⟨cm, hcm⟩ : ∃ cm : Int, cm = cmpN m n := ⟨_, rfl⟩
      rw [← hcm] at e1
      have Hcm := Lib.hid hcm
      have hlc : ps.length ≤ c := by omega
      have hlc2 : qs.length ≤ c2 := by omega
      have hm3 : ps.length ≤ 281474976710656 := by omega
      have hm4 : qs.length ≤ 281474976710656 := by omega
      have hdiv : ¬ (n = 0) := by omega
      have Hdiv := Lib.hid hdiv
      clear hcm
      rcases Nat.lt_or_ge 2 ps.length with hbig | hsmall
      · go_enter Tryd.func23, Tryd.ntmps23
        go_wp2_with (first
          | (go_at_call 37; (with_reducible refine (trim_any A c xs _ B hr hc hmm).mono ?_); rintro e w' ⟨rfl, rfl⟩; rw [← Hps.out])
          | (go_at_call 37; (with_reducible refine (trim_any A2 c2 ys _ B hr2 hc2 hmm2).mono ?_); rintro e w' ⟨rfl, rfl⟩; rw [← Hqs.out])
          | (go_at_call 36; (with_reducible refine (cmp_any A A2 c c2 ps qs _ B hrt hrt2 hdp hdq hlc hlc2 hm3 hm4).mono ?_); rintro e w' ⟨rfl, nd, rfl⟩; rw [Hvp.out, Hvq.out, ← Hcm.out]))
        have hpne : ps ≠ [] := by rintro rfl; simp at hbig
        refine (wide_any A c ps _ B (hrt.dr ((Dr.refl w).step _)) hB hdp hlc (by omega)).mono ?_
        rintro e w1 ⟨us, A1, c1, rfl, hul, hud, huv, hures, hub⟩
        have hub' : Below w.heap.size w w1 := ((Dr.refl w).step _ |>.below _).trans hub
        have hures' : Res w1 w.heap.size 24 A1 c1 (u64s us) := hures
        have hut := Lib.hid (wide_norm hn1 hpne hul hud huv)
        have Hul := Lib.hid hul
        have Huv := Lib.hid huv
        clear hub hures hul huv
        go_wp2_with fail
        refine (wide_any A2 c2 qs _ B (hrt2.below (hub'.mono hB)) (Nat.le_trans hB hub'.size) hdq hlc2 (by omega)).mono ?_
        rintro e w2 ⟨vs, A3, c3, rfl, hvl, hvd, hvv, hvres, hvb⟩
        have hvt := Lib.hid (wide_norm hn2 hqne hvl hvd hvv)
        have Hvl := Lib.hid hvl
        have Hvv := Lib.hid hvv
        have huc : us.length ≤ c1 := by have := hures'.1; rwa [u64s_length] at this
        have hvc : vs.length ≤ c3 := by have := hvres.1; rwa [u64s_length] at this
        have hvne : vs ≠ [] := by rintro rfl; simp at hvl; omega
        clear hvl hvv
        have hb12 := hub'.trans (hvb.mono hub'.size)
        have hru : Rd w2 w2.heap.size A1 (u64s us) := (hures'.below hvb (Nat.le_refl _)).rd
        go_wp2_with fail
        have hge2 : val 18446744073709551616 vs ≤ val 18446744073709551616 us := by rw [Huv.out, Hvv.out, Hvp.out, Hvq.out]; exact hge
        have hP2 : P vs.length := by rw [Hvl.out]; exact hP
        have hub2 : us.length ≤ 35183400000000 := by have := Hul.out; omega
        refine (hQ A1 c1 A3 c3 us vs _ _ hru hvres.rd (Nat.le_refl _) hud hvd hut.out hvt.out hvne hge2 hP2 huc hvc hub2).mono ?_
        rintro e w3 ⟨gs, rs, A4, c4, A5, c5, rfl, hgd, hrd, hgl, hrl, hgc, hrc, hsum0, hrest, hrg, hrr0, hb3⟩
        have hrr := hrr0.rd
        have hsum1 := Lib.hid hsum0
        clear hsum0
        go_wp2_with fail
        refine (narrow_any A4 c4 gs _ _ hrg (Nat.le_refl _) hgd hgc (by omega)).mono ?_
        rintro e w4 ⟨z1, A6, c6, rfl, hz1, hres1, hb4⟩
        go_wp2_with fail
        refine (narrow_any A5 c5 rs _ _ (hrr.below hb4) hb4.size hrd hrc (by omega)).mono ?_
        rintro e w5 ⟨z2, A7, c7, rfl, hz2, hres2, hb5⟩
        go_wp2
        go_ret3
        have s1 := hb12.size
        have s2 := hb3.size
        have s3 := hb4.size
        have hsum := hsum1.out
        rw [Huv.out, Hvv.out, Hvp.out, Hvq.out, Nat.mul_comm] at hsum
        rw [Hvv.out, Hvq.out] at hrest
        have hq1 : m / n = val 18446744073709551616 gs := by
          rw [hsum, Nat.mul_add_div hnp, Nat.div_eq_of_lt hrest, Nat.add_zero]
        have hr1 : m % n = val 18446744073709551616 rs := by
          rw [hsum, Nat.mul_add_mod, Nat.mod_eq_of_lt hrest]
        refine ⟨z1, z2, A6, c6, A7, c7, ?_, ?_, ?_, (hres1.below hb5 (Nat.le_refl _)).mono (by omega), hres2.mono (by omega), ?_⟩
        · rw [if_neg Hdiv.out]; rfl
        · rw [hq1]; exact hz1
        · rw [if_neg Hdiv.out, hr1]; exact hz2
        · exact ((hb12.trans (hb3.mono s1)).trans (hb4.mono (by omega))).trans (hb5.mono (by omega))
      · have hs2 : qs.length ≤ 2 := by
          rcases Nat.lt_or_ge 2 qs.length with h | h
          · have := val_lt_len (by omega) hn1 hn2 (by omega); omega
          · exact h
        have hmw : m < 18446744073709551616 := by
          have h1 := hn1.lt
          have h2 : 4294967296 ^ ps.length ≤ 4294967296 ^ 2 := Nat.pow_le_pow_right (by omega) hsmall
          omega
        obtain ⟨dq, hdqe⟩ : ∃ dq, dq = m / n := ⟨_, rfl⟩
        obtain ⟨dr, hdre⟩ : ∃ dr, dr = m % n := ⟨_, rfl⟩
        have hdqb : dq < 18446744073709551616 := by rw [hdqe]; exact Nat.lt_of_le_of_lt (Nat.div_le_self _ _) hmw
        have hdrb : dr < 18446744073709551616 := by rw [hdre]; exact Nat.lt_of_le_of_lt (Nat.mod_le _ _) hmw
        have r1 : (m : Int) / (n : Int) = (dq : Int) := by rw [hdqe]; simp
        have r2 : (m : Int) % (n : Int) = (dr : Int) := by rw [hdre]; simp
        have hrtd : ∀ k, Rd (w.drewN k) B A (u32s ps) := fun k => hrt.dr ((Dr.refl w).step k)
        have hrtd2 : ∀ k, Rd (w.drewN k) B A2 (u32s qs) := fun k => hrt2.dr ((Dr.refl w).step k)
        have Hdq := Lib.hid hdqe
        have Hdr := Lib.hid hdre
        clear hdqe hdre
        go_enter Tryd.func23, Tryd.ntmps23
        go_wp2_with (first
          | (go_at_call 37; (with_reducible refine (trim_any A c xs _ B hr hc hmm).mono ?_); rintro e w' ⟨rfl, rfl⟩; rw [← Hps.out])
          | (go_at_call 37; (with_reducible refine (trim_any A2 c2 ys _ B hr2 hc2 hmm2).mono ?_); rintro e w' ⟨rfl, rfl⟩; rw [← Hqs.out])
          | (go_at_call 36; (with_reducible refine (cmp_any A A2 c c2 ps qs _ B hrt hrt2 hdp hdq hlc hlc2 hm3 hm4).mono ?_); rintro e w' ⟨rfl, nd, rfl⟩; rw [Hvp.out, Hvq.out, ← Hcm.out]))
        refine (word_any A c ps _ B (hrtd _) hdp hsmall).mono ?_
        rintro e w' ⟨rfl, nd, rfl⟩
        rw [Hvp.out]
        go_wp2_with fail
        refine (word_any A2 c2 qs _ B (hrtd2 _) hdq hs2).mono ?_
        rintro e w' ⟨rfl, nd, rfl⟩
        rw [Hvq.out]
        go_wp2_with fail
        refine (of_any dq hdqb _).mono ?_
        rintro e w2 ⟨z1, A1, c1, rfl, hz1, hres1, hb1⟩
        have hb1' : Below w.heap.size w w2 := ((Dr.refl w).step _ |>.below _).trans hb1
        have hres1' : Res w2 w.heap.size 31 A1 c1 (u32s z1) := hres1
        have hra : ∀ k, Rd (w2.drewN k) B A (u32s ps) := fun k => (hrt.below (hb1'.mono hB)).dr ((Dr.refl w2).step k)
        have hra2 : ∀ k, Rd (w2.drewN k) B A2 (u32s qs) := fun k => (hrt2.below (hb1'.mono hB)).dr ((Dr.refl w2).step k)
        clear hb1 hres1
        go_wp2_with fail
        refine (word_any A c ps _ B (hra 0) hdp hsmall).mono ?_
        rintro e w' ⟨rfl, nd, rfl⟩
        rw [Hvp.out]
        go_wp2_with fail
        refine (word_any A2 c2 qs _ B (hra2 _) hdq hs2).mono ?_
        rintro e w' ⟨rfl, nd, rfl⟩
        rw [Hvq.out]
        go_wp2_with fail
        refine (of_any dr hdrb _).mono ?_
        rintro e w3 ⟨z2, A2', c2', rfl, hz2, hres2, hb2⟩
        have hb2' : Below w2.heap.size w2 w3 := ((Dr.refl w2).step _ |>.below _).trans hb2
        have hres2' : Res w3 w2.heap.size 31 A2' c2' (u32s z2) := hres2
        clear hb2 hres2
        go_wp2
        go_ret3
        refine ⟨z1, z2, A1, c1, A2', c2', ?_, ?_, ?_, hres1'.below hb2' (Nat.le_refl _), hres2'.mono hb1'.size, hb1'.trans (hb2'.mono hb1'.size)⟩
        · rw [if_neg Hdiv.out]; rfl
        · rw [← Hdq.out]; exact hz1
        · rw [if_neg Hdiv.out, ← Hdr.out]; exact hz2
end
section
open Go.RowKit

set_option maxHeartbeats 400000 in
theorem same_yes (A A2 : Option Addr) (c c2 : Nat) (xs : List Nat) (w : World) (B : Nat) (hr : Rd w B A (u32s xs)) (hr2 : Rd w B A2 (u32s xs)) (hm : xs.length ≤ 281474976710656) :
    Calls Tryd.prog 11 #[.slice A xs.length c, .slice A2 xs.length c2] w fun e w' => e = .returned (.bool true) ∧ Dr w w' := by
  have t1 : ((xs.length : Int) != (xs.length : Int)) = false := by simp
  go_enter Tryd.func11, Tryd.ntmps11
  go_wp2
  go_loopw [5, 13] (fun _ i wr => ∃ k : Nat, k ≤ xs.length ∧ i = .int .i64 k ∧ Dr w wr) (fun _ i _ => xs.length - (intOf i).toNat)
  case atStart => exact ⟨0, by omega, rfl, Dr.refl _⟩
  case round =>
    obtain ⟨k, hk, rfl, hdr⟩ := hrel
    by_cases hlt : k < xs.length
    · obtain ⟨b, off, rfl, hb, hcell⟩ := hr (by intro e; have := u32s_length xs; rw [e] at this; simp at this; omega)
      obtain ⟨b2, off2, rfl, hb2, hcell2⟩ := hr2 (by intro e; have := u32s_length xs; rw [e] at this; simp at this; omega)
      have hx := ((hdr.below B).cell (p := ⟨b, off + k, none⟩) hb).trans (hcell k _ (u32s_at hlt))
      have hy := ((hdr.below B).cell (p := ⟨b2, off2 + k, none⟩) hb2).trans (hcell2 k _ (u32s_at hlt))
      have t2 : ((xs[k] : Int) != (xs[k] : Int)) = false := by simp
      clear hcell hcell2 hr hr2
      go_wp2
      go_quiet (fail)
      go_wp2
      go_roundw
      case rel => exact ⟨k + 1, by omega, by go_num, hdr.step _⟩
      case measure => simp [intOf]; omega
    · go_wp2
      go_ret
      exact ⟨rfl, hdr⟩

theorem num_lit {zs : List Nat} (n : Nat) (h : Dig 4294967296 zs) (h2 : trimL zs = zs) (h3 : val 4294967296 zs = n) : Num 4294967296 zs n := ⟨h, h2, h3⟩
theorem dig_lit {zs : List Nat} (h : (zs.all fun z => decide (z < 4294967296)) = true) : Dig 4294967296 zs := fun z hz => by simpa using List.all_eq_true.1 h z hz

theorem rd_new {w : World} {t : TypeId} {cs : Array Value} {vs : List Value} (e : cs = vs.toArray) : Rd (w.alloc (.cells cs t (0, 0))) (w.heap.size + 1) (some ⟨w.heap.size, 0, none⟩) vs :=
  Rd.of_blk (Blk.new_ e) (by omega) 0 (fun k v hv => by rw [Nat.zero_add]; exact hv)

set_option maxHeartbeats 800000 in
theorem lives_any (w : World) : Calls Tryd.prog 22 #[] w fun e w' => e = .returned (.bool true) ∧ Below w.heap.size w w' := by
  go_enter Tryd.func22, Tryd.ntmps22
  go_wp2_with fail
  have hb1 : Blk ((w.alloc (.cells #[.int .u32 0, .int .u32 0, .int .u32 1] 31)).alloc (.cells #[.int .u32 10] 31)) w.heap.size 31 (u32s [0, 0, 1]) := (Blk.new_ (by rfl)).heapAlloc _
  have hb2 : Blk ((w.alloc (.cells #[.int .u32 0, .int .u32 0, .int .u32 1] 31)).alloc (.cells #[.int .u32 10] 31)) (w.heap.size + 1) 31 (u32s [10]) := by
    have := Blk.new_ (w := w.alloc (.cells #[.int .u32 0, .int .u32 0, .int .u32 1] 31)) (t := 31) (cs := #[.int .u32 10]) (vs := u32s [10]) (by rfl)
    simpa using this
  have hz : ((w.alloc (.cells #[.int .u32 0, .int .u32 0, .int .u32 1] 31)).alloc (.cells #[.int .u32 10] 31)).heap.size = w.heap.size + 2 := by simp
  have hbel : Below w.heap.size w ((w.alloc (.cells #[.int .u32 0, .int .u32 0, .int .u32 1] 31)).alloc (.cells #[.int .u32 10] 31)) := ((Below.refl _ _).alloc (Nat.le_refl _) _).alloc (by simp) _
  refine (div_any (P := (· = 1)) quotient_one (some ⟨w.heap.size, 0, none⟩) (some ⟨w.heap.size + 1, 0, none⟩) 3 1 [0, 0, 1] [10] _ (w.heap.size + 2) ?_ ?_ ?_ ?_ ?_ ?_ ?_ ?_ ?_ ?_).mono ?_
  · exact Rd.of_blk hb1 (by omega) 0 (fun k v hv => by rw [Nat.zero_add]; exact hv)
  · exact Rd.of_blk hb2 (by omega) 0 (fun k v hv => by rw [Nat.zero_add]; exact hv)
  · rw [hz]; omega
  · exact dig_lit (by decide)
  · exact dig_lit (by decide)
  · simp
  · simp
  · simp
  · simp
  · rfl
  rintro e w1 ⟨qs, rs, A1, c1, A3, c3, rfl, hq, hr, hres1, hres2, hbel1⟩
  have eq : qs = [2576980377, 429496729] := Num.unique (b := 4294967296) (by omega) hq (num_lit _ (dig_lit (by decide)) (by decide) (by simp [val]))
  have er : rs = [6] := Num.unique (b := 4294967296) (by omega) hr (num_lit _ (dig_lit (by decide)) (by decide) (by simp [val]))
  subst eq er
  rw [hz] at hres1 hres2 hbel1
  have hbel2 : Below w.heap.size w w1 := hbel.trans (hbel1.mono (by omega))
  clear hb1 hb2 hq hr hbel hbel1 hz
  rw [show val 4294967296 [10] = 10 from rfl, if_neg (by omega : ¬ (10 : Nat) = 0)]
  go_wp2_with fail
  have hA := hres1.rd
  have hB := hres2.rd
  refine (same_yes A1 (some ⟨w1.heap.size, 0, none⟩) c1 2 [2576980377, 429496729] _ (w1.heap.size + 1) ((hA.below ((Below.refl _ _).alloc (Nat.le_refl _) _)).mono (by omega)) (rd_new rfl) (by simp)).mono ?_
  rintro e w2 ⟨rfl, hdr2⟩
  have hb2 : Below w1.heap.size w1 w2 := ((Below.refl _ _).alloc (Nat.le_refl _) _).trans (hdr2.below _)
  clear hdr2
  go_wp2_with fail
  refine (same_yes A3 (some ⟨w2.heap.size, 0, none⟩) c3 1 [6] _ (w2.heap.size + 1) (((hB.below hb2).below ((Below.refl _ _).alloc hb2.size _)).mono (by have := hb2.size; omega)) (rd_new rfl) (by simp)).mono ?_
  rintro e w3 ⟨rfl, hdr3⟩
  have hb3 : Below w2.heap.size w2 w3 := ((Below.refl _ _).alloc (Nat.le_refl _) _).trans (hdr3.below _)
  clear hdr3
  go_wp2_with fail
  refine (len_any (some ⟨w3.heap.size, 0, none⟩) 2 [0, 1] _ (w3.heap.size + 1) (rd_new rfl) (dig_lit (by decide)) (by simp) (by simp)).mono ?_
  rintro e w4 ⟨rfl, rfl⟩
  rw [show bitsOf (val 4294967296 [0, 1]) = 33 from by decide]
  go_wp2
  go_ret
  have s1 := hbel2.size
  have s2 := hb2.size
  have s3 := hb3.size
  exact ⟨rfl, ((hbel2.trans (hb2.mono s1)).trans (hb3.mono (by omega))).alloc (by omega) _⟩
end
section
open Go.RowKit

theorem blk_two {w : World} {o : Obj} {t : TypeId} {cs : Array Value} {vs : List Value} (e : cs = vs.toArray) : Blk ((w.alloc o).alloc (.cells cs t (0, 0))) (w.heap.size + 1) t vs := by
  have := Blk.new_ (w := w.alloc o) (t := t) e
  simpa using this

theorem lifter_any (n : Nat) (w : World) : Calls Tryd.prog 78 #[.int .u64 (n : Int)] w fun e w' => e = .returned (.func (.func 98) #[] #[.pointer (some ⟨w.heap.size + 1, 0, none⟩), .pointer (some ⟨w.heap.size, 0, none⟩)]) ∧
    Blk w' w.heap.size 30 [.int .u64 (n : Int)] ∧ Blk w' (w.heap.size + 1) 24 [.int .u64 ((0 : Nat) : Int)] ∧ w'.heap.size = w.heap.size + 2 ∧ Below w.heap.size w w' := by
  have hmf : ∀ (fn : Fn) (first cap : Array Value) (w : World), (Instr.makeFunc fn first cap).run Tryd.prog w = .ok (.func fn first cap) w := fun _ _ _ _ => rfl
  go_enter Tryd.func78, Tryd.ntmps78
  go_wp2
  go_ret
  exact ⟨rfl, (Blk.new_ rfl).heapAlloc _, blk_two rfl, by simp, ((Below.refl _ _).alloc (Nat.le_refl _) _).alloc (by simp) _⟩

theorem dropper_any (n : Nat) (w : World) : Calls Tryd.prog 77 #[.int .u64 (n : Int)] w fun e w' => e = .returned (.func (.func 97) #[] #[.pointer (some ⟨w.heap.size + 1, 0, none⟩), .pointer (some ⟨w.heap.size, 0, none⟩)]) ∧
    Blk w' w.heap.size 30 [.int .u64 (n : Int)] ∧ Blk w' (w.heap.size + 1) 24 [.int .u64 ((0 : Nat) : Int)] ∧ w'.heap.size = w.heap.size + 2 ∧ Below w.heap.size w w' := by
  have hmf : ∀ (fn : Fn) (first cap : Array Value) (w : World), (Instr.makeFunc fn first cap).run Tryd.prog w = .ok (.func fn first cap) w := fun _ _ _ _ => rfl
  go_enter Tryd.func77, Tryd.ntmps77
  go_wp2
  go_ret
  exact ⟨rfl, (Blk.new_ rfl).heapAlloc _, blk_two rfl, by simp, ((Below.refl _ _).alloc (Nat.le_refl _) _).alloc (by simp) _⟩

theorem shift_or (c x n : Nat) (hn : n < 32) (hc : c < 2 ^ n) (hx : x < 4294967296) : bits BinOp.or IntKind.u64 (c : Int) (IntKind.u64.wrap ((x : Int) * 2 ^ n)) = ((c + 2 ^ n * x : Nat) : Int) ∧ c + 2 ^ n * x < 9223372036854775808 := by
  have h2 : 2 ^ n ≤ 2147483648 := by
    have : 2 ^ n ≤ 2 ^ 31 := Nat.pow_le_pow_right (by omega) (by omega)
    omega
  have h3 : 2 ^ n * x ≤ 2147483648 * x := Nat.mul_le_mul_right _ h2
  have e1 : IntKind.u64.wrap ((x : Int) * 2 ^ n) = ((x * 2 ^ n : Nat) : Int) := by
    rw [IntKind.wrap_u64, show ((x : Int) * 2 ^ n) = ((x * 2 ^ n : Nat) : Int) from by simp]
    rw [Nat.mul_comm] at h3
    omega
  refine ⟨?_, by omega⟩
  rw [e1, u64_or_nat c (x * 2 ^ n) (by omega) (by rw [Nat.mul_comm]; omega), Nat.or_comm, or_shift c x n hc]

set_option maxHeartbeats 400000 in
theorem lifter1_any (x c n g h : Nat) (w : World) (hn : n < 32) (hx : x < 4294967296) (hc : c < 2 ^ n) (hg : Blk w g 24 [.int .u64 (c : Int)]) (hh : Blk w h 30 [.int .u64 (n : Int)]) (hne : h ≠ g) :
    Calls Tryd.prog 98 #[.int .u32 (x : Int), .pointer (some ⟨g, 0, none⟩), .pointer (some ⟨h, 0, none⟩)] w fun e w' => e = .returned (.int .u32 (((c + 2 ^ n * x) % 4294967296 : Nat) : Int)) ∧ Blk w' g 24 [.int .u64 (((c + 2 ^ n * x) / 4294967296 : Nat) : Int)] ∧ Ch g w w' := by
  obtain ⟨s, hs⟩ : ∃ s, s = c + 2 ^ n * x := ⟨_, rfl⟩
  obtain ⟨e1, hb⟩ := shift_or c x n hn hc hx
  rw [← hs] at e1 hb ⊢
  have c1 := hg.cell0
  have c2 := hh.cell0
  have f1 := hg.frozen 0
  have e2 : ¬ (h = g) := hne
  have Hs := Lib.hid hs
  clear hs
  go_enter Tryd.func98, Tryd.ntmps98
  go_wp2
  go_ret
  refine ⟨by simp, ?_, ((Ch.refl g w).setCell 0 _).setCell 0 _⟩
  have hb2 := (hg.set_ 0 (.int .u64 (s : Int))).set_ 0 (.int .u64 ((s / 4294967296 : Nat) : Int))
  simpa using hb2

set_option maxHeartbeats 400000 in
set_option maxRecDepth 100000 in
theorem dropper1_any (x c n g h : Nat) (w : World) (hn : n < 32) (hx : x < 4294967296) (_ : c < 18446744073709551616) (hg : Blk w g 24 [.int .u64 (c : Int)]) (hh : Blk w h 30 [.int .u64 (n : Int)]) (hne : h ≠ g) :
    Calls Tryd.prog 97 #[.int .u32 (x : Int), .pointer (some ⟨g, 0, none⟩), .pointer (some ⟨h, 0, none⟩)] w fun e w' => e = .returned (.int .u32 (((c % 4294967296 * 4294967296 + x) / 2 ^ n % 4294967296 : Nat) : Int)) ∧ Blk w' g 24 [.int .u64 ((c % 4294967296 * 4294967296 + x : Nat) : Int)] ∧ Ch g w w' := by
  obtain ⟨s, hs⟩ : ∃ s, s = c % 4294967296 * 4294967296 + x := ⟨_, rfl⟩
  have e1 : bits BinOp.or IntKind.u64 (IntKind.u64.wrap ((c : Int) * 4294967296)) (x : Int) = (s : Int) := by
    have e : IntKind.u64.wrap ((c : Int) * 4294967296) = ((c % 4294967296 * 4294967296 : Nat) : Int) := by
      rw [IntKind.wrap_u64]; omega
    rw [e, u64_or_nat _ x (by omega) (by omega)]
    have := or_shift x (c % 4294967296) 32 (by omega)
    rw [show (2 : Nat) ^ 32 = 4294967296 from rfl] at this
    rw [this, hs]; congr 1; omega
  have hb : s < 18446744073709551616 := by omega
  rw [← hs]
  have c1 := hg.cell0
  have c2 := hh.cell0
  have f1 := hg.frozen 0
  have e2 : ¬ (h = g) := hne
  have Hs := Lib.hid hs
  clear hs
  go_enter Tryd.func97, Tryd.ntmps97
  go_wp2
  go_ret
  refine ⟨by simp, ?_, (Ch.refl g w).setCell 0 _⟩
  have hb2 := hg.set_ 0 (.int .u64 (s : Int))
  simpa using hb2
end
section
open Go.RowKit

theorem shl_split (x n m : Nat) (hnm : n + m = 64) : x * 2 ^ n = x * 2 ^ n % 18446744073709551616 + 18446744073709551616 * (x / 2 ^ m) ∧ x * 2 ^ n % 18446744073709551616 = x % 2 ^ m * 2 ^ n := by
  have hW : (18446744073709551616 : Nat) = 2 ^ m * 2 ^ n := by rw [← Nat.pow_add, Nat.add_comm, hnm]
  have h1 : x * 2 ^ n / 18446744073709551616 = x / 2 ^ m := by rw [hW, Nat.mul_div_mul_right _ _ (Nat.two_pow_pos n)]
  have h2 := Nat.div_add_mod (x * 2 ^ n) 18446744073709551616
  rw [h1] at h2
  exact ⟨by omega, by rw [hW, Nat.mul_mod_mul_right]⟩
theorem wrap_shl (x n : Nat) : IntKind.u64.wrap ((x : Int) * 2 ^ n) = ((x * 2 ^ n % 18446744073709551616 : Nat) : Int) := by
  rw [IntKind.wrap_u64, show ((x : Int) * 2 ^ n) = ((x * 2 ^ n : Nat) : Int) from by simp]
  omega
theorem shl_or (y x n m : Nat) (hnm : n + m = 64) (hy : y < 2 ^ n) (hyW : y < 18446744073709551616) : bits BinOp.or IntKind.u64 (y : Int) (IntKind.u64.wrap ((x : Int) * 2 ^ n)) = ((y + x * 2 ^ n % 18446744073709551616 : Nat) : Int) := by
  have h2 := (shl_split x n m hnm).2
  rw [wrap_shl, u64_or_nat y _ hyW (by omega), Nat.or_comm, h2, or_shift y (x % 2 ^ m) n hy, Nat.mul_comm (2 ^ n)]
theorem shr_lt {x n m : Nat} (hnm : n + m = 64) (hx : x < 18446744073709551616) : x / 2 ^ m < 2 ^ n := by
  refine (Nat.div_lt_iff_lt_mul (Nat.two_pow_pos m)).2 ?_
  rw [← Nat.pow_add, hnm]
  exact hx
theorem lo_lt {y x n m : Nat} (hnm : n + m = 64) (hy : y < 2 ^ n) : y + x * 2 ^ n % 18446744073709551616 < 18446744073709551616 := by
  have h2 := (shl_split x n m hnm).2
  have hW : (18446744073709551616 : Nat) = 2 ^ m * 2 ^ n := by rw [← Nat.pow_add, Nat.add_comm, hnm]
  have h3 : (x % 2 ^ m + 1) * 2 ^ n ≤ 2 ^ m * 2 ^ n := Nat.mul_le_mul_right _ (Nat.mod_lt _ (Nat.two_pow_pos m))
  rw [Nat.add_mul, ← h2, ← hW] at h3
  omega

theorem shr_nat2 (x t : Nat) : (x : Int) / 2 ^ t = ((x / 2 ^ t : Nat) : Int) := by rw [Int.natCast_ediv, Int.natCast_pow]; rfl
/-- Between two words of shiftWords. -/
structure Up (us : List Nat) (n k : Nat) (zs : List Nat) : Prop where
  len : zs.length = us.length + 1
  dig : Dig 18446744073709551616 zs
  sum : val 18446744073709551616 zs = val 18446744073709551616 (us.take k) * 2 ^ n
  low : ∀ h : k < zs.length, zs[k] < 2 ^ n
  zero : ∀ j (h : j < zs.length), k < j → zs[j] = 0
theorem Up.start (us : List Nat) (n : Nat) : Up us n 0 (List.replicate (us.length + 1) 0) := by
  refine ⟨by simp, Dig.zeros_ (by omega) _, by rw [val_zeros]; simp [val], fun h => ?_, fun j h _ => by simp⟩
  rw [List.getElem_replicate]
  exact Nat.two_pow_pos n
theorem Up.step {us zs : List Nat} {n m k : Nat} (h : Up us n k zs) (hnm : n + m = 64) (hk : k < us.length) (hz : k < zs.length) (hx : us[k] < 18446744073709551616) :
    Up us n (k + 1) ((zs.set k (zs[k] + us[k] * 2 ^ n % 18446744073709551616)).set (k + 1) (us[k] / 2 ^ m)) := by
  have h1 := h.low hz
  have h2 := lo_lt (x := us[k]) hnm h1
  have h3 := shr_lt hnm hx
  have hl := h.len
  have hk1 : k + 1 < zs.length := by omega
  have hl2 : (zs.set k (zs[k] + us[k] * 2 ^ n % 18446744073709551616)).length = zs.length := List.length_set
  have e1 := val_set 18446744073709551616 zs k (zs[k] + us[k] * 2 ^ n % 18446744073709551616) hz
  have e2 := val_set 18446744073709551616 (zs.set k (zs[k] + us[k] * 2 ^ n % 18446744073709551616)) (k + 1) (us[k] / 2 ^ m) (by omega)
  rw [List.getElem_set_ne (by omega), h.zero (k + 1) hk1 (by omega), Nat.mul_zero, Nat.add_zero] at e2
  have e3 := (shl_split us[k] n m hnm).1
  refine ⟨by rw [List.length_set, List.length_set]; exact hl, (h.dig.set_ k _ h2).set_ (k + 1) _ (Nat.lt_of_le_of_lt (Nat.div_le_self _ _) hx), ?_, fun hh => ?_, fun j hj hkj => ?_⟩
  · rw [e2, val_take_succ _ _ _ hk, Nat.add_mul, ← h.sum]
    rw [Nat.mul_add] at e1
    have e4 : 18446744073709551616 ^ k * us[k] * 2 ^ n = 18446744073709551616 ^ k * (us[k] * 2 ^ n % 18446744073709551616) + 18446744073709551616 ^ (k + 1) * (us[k] / 2 ^ m) := by
      rw [Nat.mul_assoc]
      conv => lhs; rw [e3]
      rw [Nat.mul_add, Nat.pow_succ, Nat.mul_assoc]
    omega
  · rw [List.getElem_set_self]; exact h3
  · rw [List.length_set, List.length_set] at hj
    rw [List.getElem_set_ne (by omega), List.getElem_set_ne (by omega)]
    exact h.zero j hj (by omega)

set_option maxRecDepth 20000 in
set_option maxHeartbeats 1600000 in
theorem shiftWords_any (A : Option Addr) (c n : Nat) (us : List Nat) (w : World) (B : Nat) (hr : Rd w B A (u64s us)) (hB : B ≤ w.heap.size) (hd : Dig 18446744073709551616 us) (hm : us.length ≤ 35184372088000) (hn : n < 64) :
    Calls Tryd.prog 69 #[.slice A us.length c, .int .u64 (n : Int)] w fun e w' => Words w w' (us.length + 1) (val 18446744073709551616 us * 2 ^ n) e := by
  have hmk : ∀ W : World, (Instr.makeSlice 57 (.int .i64 ((us.length : Int) + 1)) (.int .i64 ((us.length : Int) + 1))).run Tryd.prog W = .ok (.slice (some ⟨W.heap.size, 0, none⟩) (us.length + 1) (us.length + 1)) (W.alloc (.cells (List.replicate (us.length + 1) (Value.int .u64 0)).toArray 24)) := fun W => by
    have := mk64 (us.length + 1) (by omega) W
    rwa [show ((us.length + 1 : Nat) : Int) = (us.length : Int) + 1 from by omega] at this
  obtain ⟨m, hmn⟩ : ∃ m, m = 64 - n := ⟨_, rfl⟩
  have hnm : n + m = 64 := by omega
  have hm64 : m ≤ 64 := by omega
  have e64 : (64 : Int) - (n : Int) = (m : Int) := by omega
  have e64w : IntKind.u64.wrap ((64 : Int) - (n : Int)) = (m : Int) := by rw [IntKind.wrap_u64]; omega
  have Hrep : Hid (∀ k : Nat, (List.replicate k (Value.int .u64 0)).toArray = (u64s (List.replicate k 0)).toArray) := fun k => by simp [u64s]
  clear hmn
  go_enter Tryd.func69, Tryd.ntmps69
  go_wp2_with fail
  go_loopw [6, 7, 14] (fun _ _ i wr => ∃ (k : Nat) (zs : List Nat), k ≤ us.length ∧ i = .int .i64 (k : Int) ∧ Hid (Up us n k zs) ∧ Blk wr w.heap.size 24 (u64s zs) ∧ Below w.heap.size w wr) (fun _ _ i _ => us.length - (intOf i).toNat)
  case atStart => exact ⟨0, List.replicate (us.length + 1) 0, by omega, rfl, Up.start us n, Blk.new_ (Hrep.out _), (Below.refl _ _).alloc (Nat.le_refl _) _⟩
  case round =>
    obtain ⟨k, zs, hk, rfl, hup, hblk, hbel⟩ := hrel
    have hzl := hup.out.len
    by_cases hlt : k < us.length
    · obtain ⟨b, off, rfl, hb, hx⟩ := hr.at64 hlt
      have hx := (hbel.cell (p := ⟨b, off + k, none⟩) (show b < _ by omega)).trans hx
      have hxd := hd.at_ k hlt
      have hz : k < zs.length := by omega
      have hlow := hup.out.low hz
      have hstep := Lib.hid (hup.out.step hnm hlt hz hxd)
      have hyd := hup.out.dig.at_ k hz
      have hor := shl_or zs[k] us[k] n m hnm hlow hyd
      have hlo := lo_lt (x := us[k]) hnm hlow
      have hsr := shr_nat2 us[k] m
      have c1 := hblk.cell k
      rw [u64s_at hz] at c1
      have f1 := hblk.frozen k
      have f2 := hblk.frozen (k + 1)
      have c2 := hblk.cell (k + 1)
      rw [u64s_at (by omega)] at c2
      obtain ⟨y, hy⟩ : ∃ y, y = zs[k] := ⟨_, rfl⟩
      obtain ⟨y2, hy2⟩ : ∃ y2, y2 = zs[k + 1] := ⟨_, rfl⟩
      obtain ⟨x, hxe⟩ : ∃ x, x = us[k] := ⟨_, rfl⟩
      rw [← hy, ← hxe] at hor hstep
      rw [← hy] at c1 hyd hlo
      rw [← hy2] at c2
      rw [← hxe] at hx hxd hsr hlo
      obtain ⟨s, hs⟩ := nameIt (y + x * 2 ^ n % 18446744073709551616)
      obtain ⟨t, ht⟩ := nameIt (x / 2 ^ m)
      rw [← hs] at hor hstep hlo
      rw [← ht] at hsr hstep
      have htx : t < 18446744073709551616 := by rw [ht]; exact Nat.lt_of_le_of_lt (Nat.div_le_self _ _) hxd
      have hset := (hblk.set_ k (.int .u64 (s : Int))).set_ (k + 1) (.int .u64 (t : Int))
      rw [u64s_set, u64s_set] at hset
      have Hset := Lib.hid hset
      have Hbel := Lib.hid ((hbel.setCell (p := ⟨w.heap.size, k, none⟩) (Nat.le_refl _) (.int .u64 (s : Int))).setCell (p := ⟨w.heap.size, k + 1, none⟩) (Nat.le_refl _) (.int .u64 (t : Int)))
      have hbne : b ≠ w.heap.size := by omega
      clear hset hy hy2 hxe hs ht hlow hup hbel hmk
      go_wp2_with (first | (simp only [hor]) | (simp only [e64w]) | (simp only [e64]) | (simp only [hsr]))
      go_roundw
      case rel => exact ⟨k + 1, _, by omega, by go_num, hstep, Hset.out, Hbel.out⟩
      case measure => simp [intOf]; omega
    · obtain rfl : k = us.length := by omega
      have hsum := hup.out.sum
      rw [List.take_length] at hsum
      have Hsum := Lib.hid hsum
      clear hsum hmk
      go_wp2_with fail
      go_ret
      exact ⟨zs, w.heap.size, by rw [hzl]; rfl, hzl, hup.out.dig, Hsum.out, Nat.le_refl _, hblk, hbel⟩
end
end Go.Proofs.YtogkfpbapjjgfaaDoor
