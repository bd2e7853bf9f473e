/- The reference's Reduce for every matrix, and Kernel. No conditions beyond the sizes. The contract of Inverse. Conditions: bases reads 2, 7, 61; as many pivots as rows. The contract of Inverse. Conditions: bases reads 2, 7, 61; as many pivots as rows. Copies of matrices: own; the reference's Inverse. No conditions beyond the sizes. -/
import Derived.Test.YtecdjanopiibcaaDoorPkD16
import Derived.Test.YtecdjanopiibcaaDoorPkD15
namespace Go.Proofs.YtecdjanopiibcaaDoor
section
open Go.RowKit

theorem redN_nil (p : Nat) : redN p (modN p []) = ([], []) := rfl

set_option maxHeartbeats 1600000 in
theorem rreduce_nil (p : Nat) (A : Option Addr) (c0 : Nat) (w : World) (hp1 : 1 < p) (hp : p < 4294967296) :
    Calls Tryd.prog 27 #[.slice A 0 c0, .int .u32 (p : Int)] w fun e w' => ∃ A' c', e = .returned (.tuple #[.slice A' 0 c', .slice none 0 0]) ∧ Below w.heap.size w w' := by
  have Hnorm := Lib.hid (rnorm_any p A c0 [] w w.heap.size (by omega) hp RdM.nil_ (Nat.le_refl _) (by simp) (fun r h => by cases h))
  have Hcols := Lib.hid (fun A c W => rcols_any A c [] W W.heap.size RdM.nil_ (by simp))
  clear hp1 hp
  simp only [List.length_nil] at Hnorm Hcols
  have Hcols2 : Hid (∀ (A : Option Addr) (c : Nat) (W : World), Calls Tryd.prog 36 #[.slice A 0 c] W fun e w' => e = .returned (.int .i64 0) ∧ w' = W) := Hcols
  clear Hcols
  go_enter Tryd.func27, Tryd.ntmps27
  go_wp2_with (go_at_call 44; (with_reducible refine Hnorm.out.mono ?_); rintro e w1 ⟨A1, c1, rfl, hoA, hb1⟩)
  clear hoA Hnorm
  go_loopw [6, 7] (fun sv iv wr => sv = .slice none 0 0 ∧ iv = .int .i64 0 ∧ wr = w1) (fun _ _ _ => 0)
  case atStart => exact ⟨rfl, rfl, rfl⟩
  case round =>
    obtain ⟨rfl, rfl, rfl⟩ := hrel
    go_wp2_with (go_at_call 36; (with_reducible refine (Hcols2.out _ _ _).mono ?_); rintro e w1 ⟨rfl, rfl⟩)
    go_ret2
    exact ⟨A1, c1, rfl, hb1⟩

/-- The reduced form of any matrix whose rows are equally long. -/
theorem rreduce_all (p : Nat) (A : Option Addr) (c0 : Nat) (M : List (List Nat)) (w : World) (B : Nat) (hpr : Pr p) (hp : p < 4294967296) (hr : RdM w B A M) (hB : B ≤ w.heap.size) (hm : M.length ≤ 1099511627776) (hn : cols M ≤ 17592186044416) (hrect : Rect M) :
    Calls Tryd.prog 27 #[.slice A M.length c0, .int .u32 (p : Int)] w fun e w' => ∃ A' c' Ap cp, e = .returned (.tuple #[.slice A' M.length c', .slice Ap (redN p (modN p M)).2.length cp]) ∧ M.length ≤ c' ∧ (redN p (modN p M)).2.length ≤ cp ∧ RdM w' w'.heap.size A' (redN p (modN p M)).1 ∧ Rd w' w'.heap.size Ap (ints (redN p (modN p M)).2) ∧ Below w.heap.size w w' := by
  by_cases hne : M = []
  · subst hne
    refine (rreduce_nil p A c0 w hpr.1 hp).mono ?_
    rintro e w' ⟨A', c', h1, h2⟩
    exact ⟨A', c', none, 0, h1, Nat.zero_le _, Nat.zero_le _, RdM.nil_, Rd.nil_, h2⟩
  · refine (rreduce_any p A c0 M w B hpr hp hr hB hm hn hrect hne).mono ?_
    rintro e w' ⟨g, c', Ap, cp, hs, h1, h2, h3, h4, h5⟩
    obtain ⟨_, h6, h7⟩ := h4.rd
    rw [ints_length] at h6
    exact ⟨_, c', Ap, cp, h1, h2, h6, h3.rd, h7, h5⟩

/-- The row for column c as the reference makes it. -/
def rkTo (p : Nat) (R : List (List Nat)) (P : List Nat) (c n : Nat) : Nat → List Nat
  | 0 => (List.replicate n 0).set c 1
  | k + 1 => (rkTo p R P c n k).set (P.getD k 0) (((rkTo p R P c n k).getD (P.getD k 0) 0 + (p - ent R k c % p)) % p)
theorem rkTo_length (p : Nat) (R : List (List Nat)) (P : List Nat) (c n : Nat) : ∀ k, (rkTo p R P c n k).length = n
  | 0 => by simp [rkTo]
  | k + 1 => by rw [rkTo, List.length_set, rkTo_length]
theorem rkTo_lt {p : Nat} (hp : 1 < p) (R : List (List Nat)) (P : List Nat) (c n : Nat) : ∀ k, ∀ x ∈ rkTo p R P c n k, x < p
  | 0, x, h => by
    rcases List.mem_or_eq_of_mem_set h with h | rfl
    · rw [(List.mem_replicate.1 h).2]; omega
    · exact hp
  | k + 1, x, h => by
    rcases List.mem_or_eq_of_mem_set h with h | rfl
    · exact rkTo_lt hp R P c n k x h
    · exact Nat.mod_lt _ (by omega)
theorem Ech.inj {R : List (List Nat)} {P : List Nat} {c0 i j : Nat} (he : Ech R P c0) (hi : i < P.length) (hj : j < P.length) (hij : i ≠ j) : P[i] ≠ P[j] := by
  rcases Nat.lt_or_gt_of_ne hij with h | h
  · have := he.rise i j hi hj h; omega
  · have := he.rise j i hj hi h; omega
theorem rkTo_eq {p n c0 c : Nat} {R : List (List Nat)} {P : List Nat} (hp : 1 < p) (he : Ech R P c0) (h0 : c0 ≤ n) (hc : c ∉ P) : ∀ k, k ≤ P.length → rkTo p R P c n k = kerTo p R P c n k
  | 0, _ => rfl
  | k + 1, hk => by
    have ih := rkTo_eq hp he h0 hc k (by omega)
    have hk2 : k < P.length := by omega
    rw [rkTo, kerTo, ih, getD_at hk2]
    have hlt := he.lt k hk2
    rw [kerTo_at p R P c n P[k] (by omega) (fun e => hc (e ▸ List.getElem_mem hk2)) k (by omega) (fun i h1 h2 => he.inj h1 hk2 (by omega)), neg_eq hp]
    rfl
theorem mem_take_succ {P : List Nat} {c i : Nat} (hi : i < P.length) : c ∈ P.take (i + 1) ↔ c ∈ P.take i ∨ P[i] = c := by
  rw [take_snoc hi, List.mem_append, List.mem_singleton]
  exact or_congr_right eq_comm
theorem Rd.atI {w : World} {B : Nat} {A : Option Addr} {xs : List Nat} (h : Rd w B A (ints xs)) {k : Nat} (hk : k < xs.length) : ∃ b off, A = some ⟨b, off, none⟩ ∧ b < B ∧ w.cell? ⟨b, off + k, none⟩ = some (.int .i64 (xs[k] : Nat)) := by
  obtain ⟨b, off, e, hb, hc⟩ := h (by intro e; have := ints_length xs; rw [e] at this; simp at this; omega)
  exact ⟨b, off, e, hb, hc k _ (by simp [ints, List.getElem?_eq_getElem hk])⟩

set_option maxHeartbeats 3200000 in
set_option maxRecDepth 100000 in
theorem rkernel_any (p : Nat) (A : Option Addr) (c0 : Nat) (M : List (List Nat)) (w : World) (B : Nat) (hpr : Pr p) (hp : p < 4294967296) (hr : RdM w B A M) (hB : B ≤ w.heap.size) (hm : M.length ≤ 1099511627776) (hn : cols M ≤ 1099511627776) (hrect : Rect M) :
    Calls Tryd.prog 29 #[.slice A M.length c0, .int .u32 (p : Int)] w fun e w' => ∃ A' c', e = .returned (.slice A' (kerUp p (redN p (modN p M)).1 (redN p (modN p M)).2 (cols M) (cols M)).length c') ∧ (kerUp p (redN p (modN p M)).1 (redN p (modN p M)).2 (cols M) (cols M)).length ≤ c' ∧ RdM w' w'.heap.size A' (kerUp p (redN p (modN p M)).1 (redN p (modN p M)).2 (cols M) (cols M)) ∧ Below w.heap.size w w' := by
  have hp0 := hpr.pos
  have hp1 : 1 < p := hpr.1
  have Hred := Lib.hid (rreduce_all p A c0 M w B hpr hp hr hB hm (by omega) hrect)
  have Hcols : Hid (∀ W, Below w.heap.size w W → Calls Tryd.prog 36 #[.slice A M.length c0] W fun e w' => e = .returned (.int .i64 (cols M : Int)) ∧ w' = W) := fun W hW => rcols_any A c0 M W B (hr.below (hW.mono hB)) (by omega)
  have hok := redN_ok (M := M) hp0
  have hech : Ech (redN p (modN p M)).1 (redN p (modN p M)).2 (cols M) := by
    have h9 := redTo_ech hpr (modN_good hp0 M) (cols (modN p M))
    show Ech (redTo p (modN p M) (cols (modN p M))).1 (redTo p (modN p M) (cols (modN p M))).2 (cols M)
    rw [modN_cols] at h9 ⊢
    exact h9
  obtain ⟨R, hR⟩ : ∃ R, R = (redN p (modN p M)).1 := ⟨_, rfl⟩
  obtain ⟨P, hP⟩ : ∃ P, P = (redN p (modN p M)).2 := ⟨_, rfl⟩
  obtain ⟨hgood, hlen, hfew⟩ := hok
  rw [← hR, ← hP] at Hred hech ⊢
  rw [← hR] at hgood hlen
  rw [← hP] at hfew
  obtain ⟨n, hn1⟩ : ∃ n, n = M.length := ⟨_, rfl⟩
  obtain ⟨q, hq1⟩ : ∃ q, q = cols M := ⟨_, rfl⟩
  rw [← hn1] at Hred Hcols hlen hfew hm ⊢
  rw [← hq1] at Hcols hech hn hgood ⊢
  have Hech := Lib.hid hech
  have Hgood := Lib.hid hgood
  have Hlen := Lib.hid hlen
  have hmk := fun W => mkRow q (by omega) W
  clear hR hP hn1 hq1 hech hgood hlen hrect hr
  go_enter Tryd.func29, Tryd.ntmps29
  go_wp2_with (first
    | (go_at_call 27; (with_reducible refine Hred.out.mono ?_); rintro e w1 ⟨A1, c1, Ap, cp, rfl, hc1, hcp, hrR, hrP, hb1⟩)
    | (go_at_call 36; (with_reducible refine (Hcols.out _ hb1).mono ?_); rintro e w1 ⟨rfl, rfl⟩))
  clear Hred
  go_loopw [7, 21] (fun ov iv wr => ∃ (c : Nat) (Ao : Option Addr) (co : Nat), c ≤ q ∧ iv = .int .i64 (c : Int) ∧ ov = .slice Ao (kerUp p R P q c).length co ∧ OwA wr w1.heap.size wr.heap.size (.slice Ao (kerUp p R P q c).length co) (kerUp p R P q c) ∧ Below w1.heap.size w1 wr) (fun _ iv _ => q - (intOf iv).toNat)
  case atStart => exact ⟨0, none, 0, by omega, rfl, rfl, OwA.nil_ _ _ _, Below.refl _ _⟩
  case round =>
    obtain ⟨c, Ao, co, hc, rfl, rfl, hoA, hbel⟩ := hrel
    have hkl := kerUp_length_le p R P q c
    obtain ⟨K, hK⟩ : ∃ K, K = kerUp p R P q c := ⟨_, rfl⟩
    rw [← hK] at hoA hkl ⊢
    have HK := Lib.hid hK
    clear hK
    by_cases hlt : c < q
    · obtain ⟨X, hX⟩ : ∃ X, X = wr.heap.size := ⟨_, rfl⟩
      obtain ⟨W1, hW1⟩ : ∃ W1, W1 = wr.alloc (.cells ((Array.replicate q (Value.int .u32 0)).setIfInBounds c (.int .u32 1)) 28) := ⟨_, rfl⟩
      have hbW1 : Below wr.heap.size wr W1 := by rw [hW1]; exact (Below.refl _ _).alloc (Nat.le_refl _) _
      have hkz : Blk W1 X 28 (u32s (rkTo p R P c q 0)) := by
        rw [hW1, hX]
        refine Blk.new_ ?_
        apply Array.ext'
        simp [rkTo, u32s, List.map_set]
      have HW1 := Lib.hid hW1
      have HX := Lib.hid hX
      have HoA := Lib.hid hoA
      have Hbel := Lib.hid hbel
      obtain ⟨ws, hws⟩ : ∃ ws, ws = wr := ⟨_, rfl⟩
      have hbs : Below ws.heap.size ws W1 := by rw [hws]; exact hbW1
      have hXs : ws.heap.size ≤ X := by rw [hws, hX]; exact Nat.le_refl _
      have Hws := Lib.hid hws
      clear hW1 hX hoA hbel hbW1
      have hcl := Hcols.out wr (hb1.trans (Hbel.out.mono hb1.size))
      have Hcl := Lib.hid hcl
      clear hcl
      go_upto_region 8 with (go_at_call 36; (with_reducible refine Hcl.out.mono ?_); rintro e wr ⟨rfl, rfl⟩)
      rw [← HW1.out, ← HX.out]
      clear hws
      go_wp2_with fail
      have hrR1 : RdM w1 w1.heap.size A1 R := hrR
      go_loopw [10, 32] (fun tv iv wq => ∃ (i : Nat) (b : Bool), i ≤ P.length ∧ iv = .int .i64 (i : Int) ∧ tv = .bool b ∧ Hid (b = true ↔ c ∈ P.take i) ∧ Blk wq X 28 (u32s (rkTo p R P c q i)) ∧ Below ws.heap.size ws wq) (fun _ iv _ => P.length - (intOf iv).toNat)
      case atStart => exact ⟨0, false, by omega, rfl, rfl, by show _ ↔ _; simp, hkz, hbs⟩
      case round =>
        clear hkz hbs
        obtain ⟨i, b, hi, rfl, rfl, Hb, hbk, hbq⟩ := hrel
        have hws1 : w1.heap.size ≤ ws.heap.size := by rw [Hws.out]; exact Hbel.out.size
        have hbq1 : Below w1.heap.size w1 wr := (by rw [Hws.out]; exact Hbel.out : Below w1.heap.size w1 ws).trans (hbq.mono hws1)
        by_cases hil : i < P.length
        · have hiR : i < R.length := by rw [Hlen.out]; omega
          have hin : i < n := by omega
          obtain ⟨b1, o1, rfl, hb1l, hx1⟩ := (hrP.below hbq1).atI hil
          obtain ⟨b2, o2, Ai, ci, rfl, hb2l, hx2, hl2, hm2, hrd2⟩ := (hrR1.below hbq1).at_ hiR
          have wi := Hgood.out.len hiR
          obtain ⟨b3, o3, rfl, hb3l, hx3⟩ := hrd2.at32 (k := c) (by rw [wi]; exact hlt)
          have hent := ent_at hiR (k := c) (by rw [wi]; exact hlt)
          rw [← hent] at hx3
          rw [wi] at hx2
          have hpl := Hech.out.lt i hil
          have hmt := mem_take_succ (c := c) hil
          have hrl := rkTo_length p R P c q i
          have hpr' : P[i] < (rkTo p R P c q i).length := by rw [hrl]; exact hpl
          have hxl : (rkTo p R P c q i)[P[i]] < p := rkTo_lt hp1 R P c q i _ (List.getElem_mem hpr')
          have hyl := Hgood.out.ent_lt hp0 i c
          have hstep : rkTo p R P c q (i + 1) = (rkTo p R P c q i).set P[i] (((rkTo p R P c q i)[P[i]] + (p - ent R i c % p)) % p) := by
            rw [rkTo, getD_at hil, getD_at hpr']
          have c1 : wr.cell? ⟨X, P[i], none⟩ = some (.int .u32 ((rkTo p R P c q i)[P[i]] : Nat)) := by
            rw [hbk.cell, u32s_at hpr']
          obtain ⟨pi, hpi⟩ : ∃ pi, pi = P[i] := ⟨_, rfl⟩
          obtain ⟨x, hx⟩ : ∃ x, x = (rkTo p R P c q i)[P[i]] := ⟨_, rfl⟩
          obtain ⟨y, hy⟩ : ∃ y, y = ent R i c := ⟨_, rfl⟩
          rw [← hx] at c1 hxl hstep
          rw [← hy] at hx3 hyl hstep
          rw [← hpi] at hx1 hpl hmt c1 hstep
          have f1 := hbk.frozen pi
          have Hsub := Lib.hid (fun W => rsub_any x y p (by omega) (by omega) hp hp0 W)
          obtain ⟨z, hz⟩ : ∃ z, z = (x + (p - y % p)) % p := ⟨_, rfl⟩
          rw [← hz] at hstep
          simp only [← hz] at Hsub
          have Hstep := Lib.hid hstep
          have Hmt := Lib.hid hmt
          have htn : ∀ nq, Tn X wr ((wr.drewN nq).setCell ⟨X, pi, none⟩ (.int .u32 (z : Int))) := fun nq => ((Tn.refl X wr).drewN nq).setCell pi _
          have hb9 : ∀ nq, Blk ((wr.drewN nq).setCell ⟨X, pi, none⟩ (.int .u32 (z : Int))) X 28 (u32s (rkTo p R P c q (i + 1))) := fun nq => by
            have h7 := (hbk.drewN nq).set_ pi (.int .u32 (z : Int))
            rw [u32s_set] at h7
            rw [Hstep.out]; exact h7
          have Htn : Hid (∀ nq, Tn X wr ((wr.drewN nq).setCell ⟨X, pi, none⟩ (.int .u32 (z : Int)))) := htn
          have Hb9 : Hid (∀ nq, Blk ((wr.drewN nq).setCell ⟨X, pi, none⟩ (.int .u32 (z : Int))) X 28 (u32s (rkTo p R P c q (i + 1)))) := hb9
          have hXw := hbk.lt
          clear hent wi hmt hrl hpr' hpi hx hy hz hstep htn hb9 hl2
          have Hcase : Hid ((if c ∈ P.take i then true else decide (pi = c)) = true ↔ c ∈ P.take (i + 1)) := by
            show _ ↔ _
            rw [Hmt.out]
            by_cases h : c ∈ P.take i
            · simp [h]
            · simp [h]
          cases b with
          | true =>
            have hmem : Hid (c ∈ P.take (i + 1)) := Hmt.out.2 (.inl (Hb.out.1 rfl))
            go_upto_region 13 with (fail)
            refine region_quiet_tail 16 (by kernel_rfl) (by kernel_rfl) ?_
            simp only [List.take_succ_cons, List.take_zero, List.drop_succ_cons, List.drop_zero]
            repeat (quiet_step ((go_at_call 46; first | exact quietD (Hsub.out _) | exact quietAddD (Hsub.out _))))
            refine wpQuiet_nil ?_
            rintro _ ⟨nq, rfl⟩
            go_wp2_with fail
            go_roundw
            case rel => exact ⟨i + 1, true, by omega, by go_num, rfl, by show _ ↔ _; exact ⟨fun _ => hmem.out, fun _ => rfl⟩, Hb9.out nq, hbq.trans ((Htn.out nq).below (by omega) hbq.size)⟩
            case measure => simp [intOf]; omega
          | false =>
            have hnm : ¬ c ∈ P.take i := fun h => by have := Hb.out.2 h; cases this
            have Hv : Hid (((pi : Int) == (c : Int)) = true ↔ c ∈ P.take (i + 1)) := by
              show _ ↔ _
              rw [Hmt.out]
              constructor
              · intro h; right; simp at h; omega
              · rintro (h | h)
                · exact absurd h hnm
                · simp [h]
            clear hnm
            go_upto_region 13 with (fail)
            refine region_quiet_tail 16 (by kernel_rfl) (by kernel_rfl) ?_
            simp only [List.take_succ_cons, List.take_zero, List.drop_succ_cons, List.drop_zero]
            repeat (quiet_step ((go_at_call 46; first | exact quietD (Hsub.out _) | exact quietAddD (Hsub.out _))))
            refine wpQuiet_nil ?_
            rintro _ ⟨nq, rfl⟩
            go_wp2_with fail
            go_roundw
            case rel => exact ⟨i + 1, _, by omega, by go_num, rfl, Hv, Hb9.out nq, hbq.trans ((Htn.out nq).below (by omega) hbq.size)⟩
            case measure => simp [intOf]; omega
        · have hie : i = P.length := by omega
          have hge : P.length ≤ i := by omega
          have Hbm : Hid (b = true ↔ c ∈ P) := by show _ ↔ _; rw [Hb.out, hie, List.take_length]
          cases b with
          | true =>
            have hmem : c ∈ P := Hbm.out.1 rfl
            have hst : Hid (kerUp p R P q (c + 1) = K) := by show _ = _; rw [kerUp, if_pos hmem, HK.out]
            have hoA2 : OwA wr w1.heap.size wr.heap.size (.slice Ao K.length co) K := ((Hws.out ▸ HoA.out : OwA ws w1.heap.size ws.heap.size (.slice Ao K.length co) K).below hbq (Nat.le_refl _)).mono hbq.size
            clear hie hmem
            go_wp2_with fail
            go_roundw
            case rel => exact ⟨c + 1, Ao, co, by omega, by go_num, by rw [hst.out], by rw [hst.out]; exact hoA2, hbq1⟩
            case measure => simp [intOf]; omega
          | false =>
            have hmem : c ∉ P := fun h => by have := Hbm.out.2 h; cases this
            have hst : kerUp p R P q (c + 1) = K ++ [rkTo p R P c q i] := by rw [kerUp, if_neg hmem, ← HK.out, hie, rkTo_eq hp1 Hech.out (Nat.le_refl _) hmem P.length (Nat.le_refl _)]
            have hrl := rkTo_length p R P c q i
            have hro : Ro wr ws.heap.size 28 (.slice (some ⟨X, 0, none⟩) q q) (u32s (rkTo p R P c q i)) := by
              have h1 := Ro.of_blk (B := ws.heap.size) hbk (by omega) (by rw [u32s_length, hrl]; unfold maxLen; omega)
              rw [u32s_length, hrl] at h1; exact h1
            have HoA2 : OwA ws w1.heap.size ws.heap.size (.slice Ao K.length co) K := Hws.out ▸ HoA.out
            obtain ⟨A9, c9, w9, hrun, hoA9, hb9⟩ := app_new HoA2 hbq hws1 hro (by rw [hrl]; omega) (by omega)
            rw [← hst] at hoA9
            have hkl2 : (kerUp p R P q (c + 1)).length = K.length + 1 := by rw [hst]; simp
            have Hkl2 := Lib.hid hkl2
            have Hrun := Lib.hid hrun
            have hbel9 : Below w1.heap.size w1 w9 := (by rw [Hws.out]; exact Hbel.out : Below w1.heap.size w1 ws).trans hb9
            clear hie hmem hst hrl hrun hkl2 hro HoA2
            go_wp2_with (first | (at_builtin; refine wpList_append_run rfl _ _ _ _ rfl _ _ rfl rfl _ _ Hrun.out ?_))
            go_roundw
            case rel => exact ⟨c + 1, A9, c9, by omega, by go_num, by rw [Hkl2.out], by rw [Hkl2.out]; exact hoA9, hbel9⟩
            case measure => simp [intOf]; omega
    · have hce : c = q := by omega
      have hge : q ≤ c := by omega
      have HK2 : Hid (kerUp p R P q q = K) := by show _ = _; rw [HK.out, hce]
      clear hce
      obtain ⟨-, hco, hrd⟩ := hoA.rd (Nat.le_refl _)
      go_wp2_with fail
      go_ret
      rw [HK2.out]
      exact ⟨Ao, co, rfl, hco, hrd, hb1.trans (hbel.mono hb1.size)⟩
end
section
open Go.RowKit

/-- One operation: an append whose run is known. -/
theorem step_append_run {P : Program} {w : World} {o : Oper} {a : Act} {K : Act → World → Prop} {Q : Exit → Act → World → Prop} (d s : Operand) (dT sT : TypeId)
    (ho : o.op = .call { callee := .builtin .append, args := #[d, s], argTypes := #[dT, sT] }) (dv sv : Value) (hd : a.eval d = dv) (hs : a.eval s = sv) (v' : Value) (w' : World)
    (hrun : (Builtin.append_ #[dT, sT] o.type #[dv, sv]).run P w = .ok v' w') (h : K (a.put o.dst v') w') : Oper.wp P o a w K Q := by
  unfold Oper.wp
  simp [execOp, ho, resolve, invoke, builtin, hd, hs, hrun, Result.andThen]
  exact h

/-- The matrix with the identity beside it. -/
def augN (N : List (List Nat)) : List (List Nat) := List.zipWith (· ++ ·) N (idN N.length)
theorem idN_length (n : Nat) : (idN n).length = n := mtab_length _ _ _
theorem idN_row {n i : Nat} (h : i < (idN n).length) : (idN n)[i].length = n := mtab_row _ (List.getElem_mem h)
theorem augN_length (N : List (List Nat)) : (augN N).length = N.length := by simp [augN, idN_length]
theorem augN_at {N : List (List Nat)} {i : Nat} (hi : i < N.length) (h : i < (augN N).length) : (augN N)[i] = N[i] ++ (idN N.length)[i]'(by rw [idN_length]; exact hi) := by
  simp [augN]
theorem augN_good {p n : Nat} {N : List (List Nat)} (hp : 1 < p) (h : Good p n N) : Good p (n + N.length) (augN N) := by
  have key : ∀ i (hi : i < (augN N).length), ((augN N)[i]).length = n + N.length ∧ ∀ x ∈ (augN N)[i], x < p := fun i hi => by
    have hi2 : i < N.length := by rw [augN_length] at hi; exact hi
    rw [augN_at hi2 hi]
    refine ⟨by rw [List.length_append, h.len hi2, idN_row], fun x hx => ?_⟩
    rcases List.mem_append.1 hx with hx | hx
    · exact h.dig _ (List.getElem_mem hi2) x hx
    · exact (idN_sqr (n := N.length) hp).good.dig _ (List.getElem_mem _) x hx
  exact ⟨fun r hr => by obtain ⟨i, hi, rfl⟩ := List.mem_iff_getElem.1 hr; exact (key i hi).1, fun r hr => by obtain ⟨i, hi, rfl⟩ := List.mem_iff_getElem.1 hr; exact (key i hi).2⟩

/-- A row of a matrix of one's own grows: its header is stored. -/
theorem Own.append {w : World} {B g : Nat} {hs : List (Option Addr × Nat)} {M : List (List Nat)} (ho : Own w B g hs M) (hB : B ≤ w.heap.size) {i gi : Nat} (hi : i < M.length) (e : (hs[i]'(ho.len ▸ hi)).1 = some ⟨gi, 0, none⟩) (hne : M[i] ≠ []) (hcap : (hs[i]'(ho.len ▸ hi)).2 ≤ maxLen) {A : Option Addr} {c B2 : Nat} {news : List Nat} (hr : Rd w B2 A (u32s news)) (hnn : news ≠ []) (hl : M[i].length + news.length ≤ 35184372088832) :
    ∃ b c' w', (Builtin.append_ #[37, 37] 37 #[.slice (some ⟨gi, 0, none⟩) M[i].length (hs[i]'(ho.len ▸ hi)).2, .slice A news.length c]).run Tryd.prog w = .ok (.slice (some ⟨b, 0, none⟩) (M[i].length + news.length) c') w' ∧
      Own (w'.setCell ⟨g, i, none⟩ (.slice (some ⟨b, 0, none⟩) (M[i].length + news.length) c')) B g (hs.set i (some ⟨b, 0, none⟩, c')) (M.set i (M[i] ++ news)) ∧ Tn gi w w' ∧ (b = gi ∨ b = w.heap.size) ∧ c' ≤ maxLen ∧ b < w'.heap.size := by
  obtain ⟨i0, hi0, hz0, hz1, hz2⟩ := info_parts Tryd.info32
  obtain ⟨gi2, rest, e2, hgi, hb, hc⟩ := (ho.row i hi).2.2 (fun e => hne (u32s_nil_iff.1 e))
  rw [e] at e2
  obtain rfl : gi = gi2 := by simpa using e2
  rw [u32s_length] at hc
  obtain ⟨ci, hci⟩ : ∃ ci, ci = (hs[i]'(ho.len ▸ hi)).2 := ⟨_, rfl⟩
  rw [← hci] at hc hcap ⊢
  have hown : w.ownsRow B 28 1 (.slice (some ⟨gi, 0, none⟩) M[i].length ci) M[i].length (u32s M[i]) :=
    ⟨by rw [u32s_length]; omega, .inr ⟨gi, ci, (u32s M[i] ++ rest).toArray, rfl, hgi, by simpa [Blk] using hb, by omega, hcap, by simp [u32s_length]; omega, by simp [← u32s_length M[i]]⟩⟩
  obtain ⟨bA, off, rfl, _, hcells⟩ := hr (fun e => hnn (u32s_nil_iff.1 e))
  obtain ⟨v', w', hrun, h2, h3, h4, h5⟩ := run_append_own_at (P := Tryd.prog) w B 37 37 28 i0 (.int .u32 0) 1 4 Tryd.underlying37 hi0 hz0 hz1 hz2 rfl (by omega) _ M[i].length (u32s M[i]) hown ⟨bA, off, none⟩ news.length c (u32s news) (by rw [u32s_length]; omega)
    (fun j u hu => by rw [addr_add]; exact hcells j u hu) (one_u32s news) (by unfold maxLen; omega) (by omega) hB
  rw [← u32s_append] at h2
  have hlt := hb.lt
  obtain ⟨hl2, ⟨rfl, h0⟩ | ⟨b, cap, cur, rfl, hb2, hh, hnc, hcm, hsz, htk⟩⟩ := h2
  · exact absurd ((h4.1 rfl).1) (by simp)
  have hbk : Blk w' b 28 cur.toList := by simpa [Blk] using hh
  have hlen9 : (u32s (M[i] ++ news)).length = M[i].length + news.length := by rw [u32s_length, List.length_append]
  have h8 : u32s (M[i] ++ news) ++ cur.toList.drop (M[i].length + news.length) = cur.toList := by
    have h9 : cur.toList.take (M[i].length + news.length) = u32s (M[i] ++ news) := by simpa using htk
    conv => lhs; lhs; rw [← h9]
    exact List.take_append_drop _ _
  have hres : Res w' B 28 (some ⟨b, 0, none⟩) cap (u32s (M[i] ++ news)) := by
    refine Res.of_blk (rest := cur.toList.drop (M[i].length + news.length)) (by rw [h8]; exact hbk) hb2 ?_ (by rw [hlen9]; omega)
    rw [hlen9, List.length_drop]; simp at hsz; simp [hsz]; omega
  have hbgi : b = gi ∨ b = w.heap.size := by
    rcases h5 with h | h
    · left; simpa [Value.ownBlock] using h
    · right; simpa [Value.ownBlock] using h
  have htn : Tn gi w w' := ⟨h3.os, h3.tape, h3.output, h3.size, fun k hk hne => h3.block k hk (fun e => hne (by simpa [Value.ownBlock] using e))⟩
  have hgl := ho.lt
  have hgne : gi ≠ g := fun e3 => ho.ne i hi hne (by rw [e, e3])
  have hbg : b ≠ g := by rcases hbgi with h | h <;> omega
  refine ⟨b, cap, w', hrun, ?_, htn, hbgi, hcm, hbk.lt⟩
  have hch := Tn.of_ch ((Ch.refl g w').setCell i (.slice (some ⟨b, 0, none⟩) (M[i].length + news.length) cap))
  have hlen : (hs.set i (some ⟨b, 0, none⟩, cap)).length = (M.set i (M[i] ++ news)).length := by rw [List.length_set, List.length_set]; exact ho.len
  have hsl : i < hs.length := ho.len ▸ hi
  have hdis : ∀ j (hj : j < M.length), j ≠ i → M[j] ≠ [] → (some ⟨b, 0, none⟩ : Option Addr) ≠ (hs[j]'(ho.len ▸ hj)).1 := fun j hj hji hn e3 => by
    rcases hbgi with h | h
    · subst h; exact ho.nd i j hi hj (Ne.symm hji) hne hn (e.trans e3)
    · have := ho.rowLt hj hn e3.symm; omega
  refine ⟨hlen, ?_, ho.lo, fun j hj => ?_, fun j hj hn => ?_, fun j k hj hk hjk n1 n2 => ?_⟩
  · obtain ⟨rest2, ht⟩ := ho.top
    have ht := ht.tn htn hgne.symm
    refine ⟨rest2, ?_⟩
    have h1 := ht.set_ i (.slice (some ⟨b, 0, none⟩) (M[i].length + news.length) cap)
    rw [List.set_append_left _ _ (by rw [hdrs_length ho.len]; exact hi)] at h1
    rw [← hdrs_set, List.length_append]; exact h1
  · have hj' : j < M.length := by simpa using hj
    by_cases hij : i = j
    · subst hij
      simp only [List.getElem_set_self]
      refine hres.keepBut hch fun _ e3 => ?_
      simp at e3
    · simp only [List.getElem_set_ne hij]
      refine ((ho.row j hj').keepBut htn fun hn e3 => ?_).keepBut hch fun hn => ho.ne j hj' (fun e => hn (by rw [e]; rfl))
      exact ho.nd i j hi hj' hij hne (fun e => hn (by rw [e]; rfl)) (e.trans e3.symm)
  · have hj' : j < M.length := by simpa using hj
    by_cases hij : i = j
    · subst hij
      simp only [List.getElem_set_self]
      intro e3; simp at e3
    · simp only [List.getElem_set_ne hij] at hn ⊢
      exact ho.ne j hj' hn
  · have hj' : j < M.length := by simpa using hj
    have hk' : k < M.length := by simpa using hk
    by_cases hij : i = j
    · subst hij
      simp only [List.getElem_set_self]
      simp only [List.getElem_set_ne hjk] at n2 ⊢
      exact hdis k hk' (Ne.symm hjk) n2
    · by_cases hik : i = k
      · subst hik
        simp only [List.getElem_set_self]
        simp only [List.getElem_set_ne hij] at n1 ⊢
        exact fun e3 => hdis j hj' (Ne.symm hij) n1 e3.symm
      · simp only [List.getElem_set_ne hij] at n1 ⊢
        simp only [List.getElem_set_ne hik] at n2 ⊢
        exact ho.nd j k hj' hk' hjk n1 n2

theorem Own.midX {w w' : World} {X : Nat → Prop} {B U g : Nat} {hs : List (Option Addr × Nat)} {M : List (List Nat)} (h : Own w B g hs M) (hX : ∀ k, B ≤ k → k < U → X k) (hu : UB U hs) (hg : g < U) (hm : MidX X U w w') : Own w' B g hs M :=
  ⟨h.len, by obtain ⟨rest, ht⟩ := h.top; exact ⟨rest, (hm g (hX g h.lo hg) hg).trans ht⟩, h.lo, fun i hi => ⟨(h.row i hi).1, (h.row i hi).2.1, fun hn => by
    obtain ⟨k, rest, e, hk, hbk, hc⟩ := (h.row i hi).2.2 hn
    have hkU := hu.at_ (h.len ▸ hi) e
    exact ⟨k, rest, e, hk, (hm k (hX k hk hkU) hkU).trans hbk, hc⟩⟩, h.ne, h.nd⟩

theorem inverse1_any (b1 b2 : Nat) (A : Option Addr) (c : Nat) (M : List (List Nat)) (n B i k : Nat) (w : World) (hb : Blk w b1 26 [.slice A M.length c]) (hb2 : Blk w b2 3 [.int .i64 (n : Int)]) (hr : RdM w B A M) (hi : i < M.length) (hk : n + k < M[i].length) (_ : M.length ≤ 281474976710656) :
    Calls Tryd.prog 56 #[.int .i64 (i : Int), .int .i64 (k : Int), .pointer (some ⟨b1, 0, none⟩), .pointer (some ⟨b2, 0, none⟩)] w fun e w' => e = .returned (.int .u32 ((ent M i (n + k) : Nat) : Int)) ∧ Below w.heap.size w w' := by
  have c0 := hb.cell0
  have c1 := hb2.cell0
  obtain ⟨b, off, Ai, ci, rfl, hbb, hx, hlc, hcm, hrd⟩ := hr.at_ hi
  obtain ⟨bi, offi, rfl, hbi, hxi⟩ := hrd.at32 hk
  rw [ent_at hi hk]
  obtain ⟨n1, hn1⟩ : ∃ n1, n1 = M[i].length := ⟨_, rfl⟩
  obtain ⟨v, hv⟩ : ∃ v, v = M[i][n + k] := ⟨_, rfl⟩
  rw [← hv] at hxi ⊢
  rw [← hn1] at hx hlc hk hcm
  have q1 : (n : Int) + (k : Int) = ((n + k : Nat) : Int) := by omega
  obtain ⟨q, hq⟩ : ∃ q, q = n + k := ⟨_, rfl⟩
  rw [← hq] at hk hxi q1
  clear hn1 hv hrd hr hb hb2 hq
  go_enter Tryd.func56, Tryd.ntmps56
  go_wp2_with fail
  go_quiet (fail)
  go_wp2
  go_ret
  exact ⟨rfl, bdrewN (Below.refl _ _) _⟩

set_option maxHeartbeats 800000 in
theorem inverse_err (p : Nat) (A : Option Addr) (n c : Nat) (w : World) (code : Int) (hc : (code != 0) = true) (hr : SqErr p A n c w code) :
    Calls Tryd.prog 31 #[.slice A n c, .int .u32 (p : Int)] w fun e w' => e = .returned (.tuple #[.slice none 0 0, .int .i64 code]) ∧ Below w.heap.size w w' := by
  have Hr := Lib.hid (hr (w.alloc (.cells #[.slice A n c] 26)) ((Below.refl _ _).alloc (Nat.le_refl _) _))
  clear hr
  go_enter Tryd.func31, Tryd.ntmps31
  go_wp2_with (go_at_call 38; (with_reducible refine Hr.out.mono ?_); rintro e w1 ⟨rfl, hq⟩; have hsz : w.heap.size < w1.heap.size := (by have := hq.size; simp at this; omega); have z0 := hq.cell (p := ⟨w.heap.size, 0, none⟩) (by simp); have y0 := hq.frozen (p := ⟨w.heap.size, 0, none⟩) (by simp))
  go_ret2
  exact ⟨rfl, ((bel1 hq).setCell (p := ⟨w.heap.size, 0, none⟩) (Nat.le_refl _) _).alloc (by simp; omega) _⟩
end
section
open Go.RowKit

/-- What Inverse tells. -/
def invM (p : Nat) (N : List (List Nat)) : List (List Nat) := mtab N.length N.length fun i k => ent (redN p (augN N)).1 i (N.length + k)

set_option maxHeartbeats 3200000 in
set_option maxRecDepth 100000 in
theorem inverse_ok (p : Nat) (A : Option Addr) (c : Nat) (M : List (List Nat)) (w : World) (B : Nat) (h : Takes p A c M w B) (hs : Sq M) (hk : (redN p (augN (modN p M))).2.length = M.length) :
    Calls Tryd.prog 31 #[.slice A M.length c, .int .u32 (p : Int)] w fun e w' => ((redN p (augN (modN p M))).2.getD (M.length - 1) 0 = M.length - 1 → ∃ A1, e = .returned (.tuple #[.slice A1 M.length M.length, .int .i64 0]) ∧ RdM w' w'.heap.size A1 (invM p (modN p M))) ∧ ((redN p (augN (modN p M))).2.getD (M.length - 1) 0 ≠ M.length - 1 → e = .returned (.tuple #[.slice none 0 0, .int .i64 7])) ∧ Below w.heap.size w w' := by
  have hbW : Below w.heap.size w (w.alloc (.cells #[.slice A M.length c] 26)) := (Below.refl _ _).alloc (Nat.le_refl _) _
  have Hr := Lib.hid ((h.below hbW).sq hs)
  have hgd : Good p M.length (modN p M) := by rw [hs.2]; exact modN_good h.pr.pos M
  have hml := modN_length p M
  have hrows := h.sz.rows
  have hn0 := hs.1
  obtain ⟨N, hN⟩ : ∃ N, N = modN p M := ⟨_, rfl⟩
  rw [← hN] at hgd hml Hr hk ⊢
  have H := Lib.hid h
  obtain ⟨n, hn⟩ : ∃ n, n = M.length := ⟨_, rfl⟩
  rw [← hn] at hgd hml Hr hk hrows hn0 hbW ⊢
  have hag := augN_good (show 1 < p from h.pr.1) hgd
  have hal := augN_length N
  obtain ⟨G, hG⟩ : ∃ G, G = augN N := ⟨_, rfl⟩
  rw [← hG, hml] at hag
  rw [← hG] at hk hal ⊢
  rw [hml] at hal
  have Hag := Lib.hid hag
  have Hml := Lib.hid hml
  have hai : ∀ i (hi : i < n) (hi2 : i < G.length), G[i] = N[i]'(Hml.out.symm ▸ hi) ++ (idN n)[i]'(by rw [idN_length]; exact hi) := fun i hi hi2 => by
    subst hG
    rw [augN_at (by omega) hi2]
    simp only [hml]
  have Hai : Hid (∀ i (hi : i < n) (hi2 : i < G.length), G[i] = N[i]'(Hml.out.symm ▸ hi) ++ (idN n)[i]'(by rw [idN_length]; exact hi)) := hai
  obtain ⟨P, hP⟩ : ∃ P, P = redN p G := ⟨_, rfl⟩
  have HI : Hid (invM p N = mtab n n fun i k => ent P.1 i (n + k)) := by show _ = _; unfold invM; rw [hml, hP, hG]
  rw [← hP] at hk ⊢
  have HP := Lib.hid hP
  have Hid1 := Lib.hid (fun W => identity_any n W (by omega))
  have hmlG := Lib.hid hal
  have Hgd := Lib.hid hgd
  clear h hs hN hag hai hal hgd hml hG hP hn
  go_enter Tryd.func31, Tryd.ntmps31
  go_upto_region 4 with (go_at_call 38; (with_reducible refine Hr.out.mono ?_); rintro e w1 ⟨g, hs, rfl, ho, hu, hq⟩; have hsz : w.heap.size < w1.heap.size := (by have := hq.size; simp at this; omega); have z0 := hq.cell (p := ⟨w.heap.size, 0, none⟩) (by simp); have y0 := hq.frozen (p := ⟨w.heap.size, 0, none⟩) (by simp))
  obtain ⟨W2, hW2⟩ : ∃ W2, W2 = (w1.setCell ⟨w.heap.size, 0, none⟩ (.slice (some ⟨g, 0, none⟩) n n)).alloc (.cells #[.int .u64 (p : Int), .int .u64 (spN p : Int)] 63) := ⟨_, rfl⟩
  obtain ⟨q, hqw⟩ : ∃ q, q = w.heap.size := ⟨_, rfl⟩
  obtain ⟨f, hfw⟩ : ∃ f, f = w1.heap.size := ⟨_, rfl⟩
  have hqW : (w.alloc (.cells #[.slice A n c] 26)).heap.size = q + 1 := by rw [hqw]; simp
  rw [hqW] at ho
  have hW1 : Ch q w1 (w1.setCell ⟨q, 0, none⟩ (.slice (some ⟨g, 0, none⟩) n n)) := (Ch.refl _ _).setCell 0 _
  have hW2b : Below f (w1.setCell ⟨q, 0, none⟩ (.slice (some ⟨g, 0, none⟩) n n)) W2 := by rw [hW2, ← hqw]; exact (Below.refl _ _).alloc (by rw [hfw, hW1.size]; exact Nat.le_refl _) _
  have hb2 : Blk W2 q 26 [.slice (some ⟨g, 0, none⟩) n n] := by
    have h1 : Blk (w.alloc (.cells #[.slice A n c] 26)) q 26 [.slice A n c] := by rw [hqw]; exact Blk.new_ rfl
    have h2 := (h1.below (B := q + 1) (by rw [← hqW]; exact hq) (by omega)).set_ 0 (.slice (some ⟨g, 0, none⟩) n n)
    exact h2.below hW2b (by omega)
  have hbf : Blk W2 f 63 [.int .u64 (p : Int), .int .u64 (spN p : Int)] := by
    rw [hW2, hfw, ← hW1.size, hqw]; exact Blk.new_ rfl
  have hgf : g < f := by rw [hfw]; exact ho.lt
  have huf : UB f hs := by rw [hfw]; exact hu
  have ho2 : Own W2 (q + 1) g hs N := (ho.tnLow (Tn.of_ch hW1) (by omega)).below hW2b (by rw [hW1.size, hfw]; exact Nat.le_refl _)
  have hbel2 : Below q w W2 := by
    rw [hW2, hqw]
    exact ((bel1 hq).setCell (p := ⟨w.heap.size, 0, none⟩) (Nat.le_refl _) _).alloc (by simp; omega) _
  have hW2s : W2.heap.size = f + 1 := by rw [hW2, hfw, ← hW1.size, hqw]; simp
  have hqf : q < f := by omega
  rw [← hW2, ← hqw, ← hfw]
  have Hbel2 := Lib.hid hbel2
  have Hqw := Lib.hid hqw
  have c2 := hb2.cell0
  have hb2l := hb2.lt
  clear hq z0 y0 hsz hW1 hW2b ho hu hqW hW2 hfw hqw hbel2
  go_wp2_with (go_at_call 39; (with_reducible refine (Hid1.out _).mono ?_); rintro e w4 ⟨g4, hs4, rfl, ho4, hu4, hq4⟩)
  obtain ⟨W3, hW3⟩ : ∃ W3, W3 = W2.alloc (.cells #[.int .i64 (n : Int)] 3) := ⟨_, rfl⟩
  rw [← hW3] at ho4 hq4
  have hW3s : W3.heap.size = f + 2 := by rw [hW3]; simp; omega
  have h23 : Below (f + 1) W2 W3 := by rw [hW3, ← hW2s]; exact (Below.refl _ _).alloc (Nat.le_refl _) _
  have hbn : Blk W3 (f + 1) 3 [.int .i64 (n : Int)] := by rw [hW3, ← hW2s]; exact Blk.new_ rfl
  rw [hW3s] at ho4 hq4
  have h24 : Below (f + 1) W2 w4 := h23.trans (hq4.mono (by omega))
  have hb24 := hb2.below h24 (by omega)
  have hbf4 := hbf.below h24 (by omega)
  have hbn4 := hbn.below hq4 (by omega)
  have ho24 := ho2.below h24 (by rw [hW2s]; exact Nat.le_refl _)
  have hU0 := ho4.lt
  have hfU : f + 2 ≤ w4.heap.size := by have := hq4.size; omega
  obtain ⟨U, hU⟩ : ∃ U, U = w4.heap.size := ⟨_, rfl⟩
  rw [← hU] at hu4 hU0 hfU
  have Hbel4 := Lib.hid (Hbel2.out.trans (h24.mono (by omega)))
  have HU := Lib.hid hU
  clear hb2 hbf hbn ho2 c2 hb2l h23 h24 hq4 hW3s hW3 hU Hbel2 hbW
  obtain ⟨X, hX⟩ : ∃ X : Nat → Prop, X = fun k => f ≤ k ∧ k < U := ⟨_, rfl⟩
  have hXi : ∀ k, f ≤ k → k < U → X k := fun k h1 h2 => by rw [hX]; exact ⟨h1, h2⟩
  have hXl : ∀ k, k < f → ¬ X k := fun k h1 h2 => by rw [hX] at h2; omega
  have hXh : ∀ k, U ≤ k → ¬ X k := fun k h1 h2 => by rw [hX] at h2; omega
  clear hX
  have hux0 : UBX w4.heap.size X hs := fun x hx => ⟨fun a ha => ⟨by have := (huf x hx).1 a ha; have := HU.out; omega, hXl _ ((huf x hx).1 a ha)⟩, (huf x hx).2⟩
  have hmid0 : MidX X U w4 w4 := fun _ _ _ => rfl
  have HX : Hid (∀ k, f ≤ k → k < U → X k) := hXi
  have HXl : Hid (∀ k, k < f → ¬ X k) := hXl
  have HXh : Hid (∀ k, U ≤ k → ¬ X k) := hXh
  clear hXi hXl hXh
  have hid4 := ho4.rd
  go_loopw [27] (fun iv wr => ∃ (i : Nat) (hs2 : List (Option Addr × Nat)), i ≤ n ∧ iv = .int .i64 (i : Int) ∧ Own wr (q + 1) g hs2 (mix G N i) ∧ (∀ j, i ≤ j → hs2[j]? = hs[j]?) ∧ UBX wr.heap.size X hs2 ∧ MidX X U w4 wr ∧ Below (q + 1) w4 wr ∧ U ≤ wr.heap.size) (fun iv _ => n - (intOf iv).toNat)
  case atStart => exact ⟨0, hs, by omega, rfl, by rw [mix_zero]; exact ho24, fun _ _ => rfl, hux0, hmid0, Below.refl _ _, by have := HU.out; omega⟩
  case round =>
    clear ho24 hux0 hmid0
    obtain ⟨i, hs2, hi, rfl, hown, hsk, hux, hmid, hbel, hUw⟩ := hrel
    have hmG : G.length = N.length := by rw [hmlG.out, Hml.out]
    have hml := mix_length hmG i
    have hb2r := hb24.below hbel (by omega)
    have c2 := hb2r.cell0
    by_cases hlt : i < n
    · have hiN : i < N.length := by rw [Hml.out]; exact hlt
      have him : i < (mix G N i).length := by rw [hml]; exact hiN
      have hiG : i < G.length := by rw [hmG]; exact hiN
      have ei := mix_at hmG hiN him
      have wi : (mix G N i)[i].length = n := by rw [ei]; exact Hgd.out.len hiN
      have hi2 : i < hs2.length := by have := hown.len; omega
      have hne : (mix G N i)[i] ≠ [] := fun e => by rw [e] at wi; simp at wi; omega
      obtain ⟨hhd, _⟩ := hown.head him
      obtain ⟨gi, rest, e1, h2, h3, h4, h5⟩ := hown.at_ him (k := 0) (by omega)
      have hgif : gi < f := by
        have h8 := hsk i (Nat.le_refl _)
        rw [List.getElem?_eq_getElem hi2] at h8
        obtain ⟨hi3, h9⟩ := List.getElem?_eq_some_iff.1 h8.symm
        exact huf.at_ hi3 (by rw [h9]; exact e1)
      have hoI := ho4.midX (fun k h1 h2 => HX.out k (by omega) h2) hu4 hU0 hmid
      have hiI : i < (idN n).length := by rw [idN_length]; exact hlt
      obtain ⟨hhi, _⟩ := hoI.head hiI
      have hrI := (hoI.row i hiI).rd
      have hlI := idN_row hiI
      have hBr : q + 1 ≤ wr.heap.size := by omega
      obtain ⟨b, c', w', hrun, hown2, htn, hbgi, hcm, hblt⟩ := hown.drew.append hBr him e1 hne (hux.ub.cap hi2) (c := (hs4[i]'(hoI.len ▸ hiI)).2) (show Rd wr.drew _ _ _ from hrI) (fun e => by rw [e] at hlI; simp at hlI; omega) (by rw [wi, hlI]; omega)
      have htn : Tn gi wr w' := (Tn.refl gi wr).drew.trans htn
      rw [e1, wi] at hhd
      rw [hlI] at hhi
      rw [wi, hlI] at hrun hown2
      have hset : (mix G N i).set i ((mix G N i)[i] ++ (idN n)[i]) = mix G N (i + 1) := by
        have h7 := mix_set hmG hiG
        rw [Hai.out i hlt hiG] at h7
        rw [ei]; exact h7
      rw [hset] at hown2
      have hgr : g < wr.heap.size := hown.lt
      have hqr : q < wr.heap.size := by omega
      obtain ⟨ci, hci⟩ : ∃ ci, ci = (hs2[i]'hi2).2 := ⟨_, rfl⟩
      rw [← hci] at hhd hrun
      obtain ⟨Ai, hAi⟩ : ∃ Ai, Ai = (hs4[i]'(hoI.len ▸ hiI)).1 := ⟨_, rfl⟩
      obtain ⟨cI, hcI⟩ : ∃ cI, cI = (hs4[i]'(hoI.len ▸ hiI)).2 := ⟨_, rfl⟩
      rw [← hAi, ← hcI] at hhi hrun
      have Hrun := Lib.hid hrun
      have hgl4 : g4 < wr.heap.size := by omega
      have hgigne : g ≠ gi := fun e => h2 e.symm
      have fg : w'.frozen? ⟨g, i, none⟩ = false := by
        have hf1 := (hown.head him).2
        exact (World.frozen?_of_block (a := ⟨g, i, none⟩) (htn.block g hgr hgigne)).trans hf1
      have cg : w'.cell? ⟨g, i, none⟩ = some (.slice (some ⟨gi, 0, none⟩) n ci) := (htn.cell (p := ⟨g, i, none⟩) hgr hgigne).trans hhd
      have hux2 : UBX w'.heap.size X (hs2.set i (some ⟨b, 0, none⟩, c')) := fun x hx => by
        have hsz := htn.size
        rcases List.mem_or_eq_of_mem_set hx with hx | rfl
        · exact ⟨fun a ha => ⟨by have := ((hux x hx).1 a ha).1; omega, ((hux x hx).1 a ha).2⟩, (hux x hx).2⟩
        · refine ⟨fun a ha => ?_, hcm⟩
          obtain rfl : (⟨b, 0, none⟩ : Addr) = a := by simpa using ha
          refine ⟨hblt, ?_⟩
          rcases hbgi with h | h
          · rw [h]; exact HXl.out _ hgif
          · rw [h]; exact HXh.out _ hUw
      have hmid2 : MidX X U w4 (w'.setCell ⟨g, i, none⟩ (.slice (some ⟨b, 0, none⟩) (n + n) c')) := by
        refine (hmid.tn htn (HXl.out _ hgif) hUw).tn (k := g) ((Tn.refl g _).setCell i _) (HXl.out _ hgf) (by have := htn.size; omega)
      have hbel9 : Below (q + 1) w4 (w'.setCell ⟨g, i, none⟩ (.slice (some ⟨b, 0, none⟩) (n + n) c')) := (hbel.trans (htn.below h3 hBr)).setCell (p := ⟨g, i, none⟩) hown.lo _
      have Hown2 := Lib.hid hown2
      have hglo : q + 1 ≤ g := hown.lo
      have hse : ∀ v, (w'.setCell ⟨g, i, none⟩ v).heap.size = w'.heap.size := fun v => by simp [World.setCell]
      have Hskn : Hid (∀ j, i + 1 ≤ j → (hs2.set i (some ⟨b, 0, none⟩, c'))[j]? = hs[j]?) := fun j hj => by
        rw [List.getElem?_set_ne (by omega)]; exact hsk j (by omega)
      have hsz2 := htn.size
      have cq2 : w'.cell? ⟨q, 0, none⟩ = some (.slice (some ⟨g, 0, none⟩) n n) := (htn.cell (p := ⟨q, 0, none⟩) hqr (show q ≠ gi by omega)).trans c2
      clear hown hown2 hset hrI hoI hlI hcI hAi hci e1 h4 h5 ei wi hne hrun hmid hbel hsk hux hmG hml
      go_upto_region 8 with (fail)
      refine wp_region_held_drew (S := fun W => W.cell? ⟨q, 0, none⟩ = some (.slice (some ⟨g, 0, none⟩) n n)) (by kernel_rfl) c2 (fun hHeld => ?_)
      refine wpAnyH_take (i := 0) (v := ?v0) rfl (by kernel_rfl) (by kernel_rfl) (by kernel_rfl) (fun _ _ _ h => h) (Or.inl ⟨by rfl, ?hy0⟩) hHeld ?rest0
      case hy0 => intro w9 hSw; (try dsimp only at hSw); go_simp; try with_reducible rfl
      try simp only [Act.put, List.setIfInBounds_toArray]
      refine wpAnyH_take (i := 1) (v := ?v1) rfl (by kernel_rfl) (by kernel_rfl) (by kernel_rfl) (fun _ _ _ h => h) (Or.inl ⟨by rfl, ?hy1⟩) hHeld ?rest1
      case hy1 => intro w9 hSw; (try dsimp only at hSw); go_simp; try with_reducible rfl
      try simp only [Act.put]
      refine wpAnyH_take (i := 2) (v := ?v2) rfl (by kernel_rfl) (by kernel_rfl) (by kernel_rfl) (fun _ _ _ h => h) (Or.inl ⟨by rfl, ?hy2⟩) hHeld ?rest2
      case hy2 => intro w9 hSw; (try dsimp only at hSw); go_simp; try with_reducible rfl
      try simp only [Act.put]
      refine wpAnyH_take (i := 3) (v := ?v3) rfl (by kernel_rfl) (by kernel_rfl) (by kernel_rfl) (fun _ _ _ h => h) (Or.inl ⟨by rfl, ?hy3⟩) hHeld ?rest3
      case hy3 => intro w9 hSw; (try dsimp only at hSw); go_simp; try with_reducible rfl
      try simp only [Act.put]
      refine wpAnyH_take (i := 4) (v := ?v4) rfl (by kernel_rfl) (by kernel_rfl) (by kernel_rfl) (fun _ _ _ h => h) (Or.inl ⟨by rfl, ?hy4⟩) hHeld ?rest4
      case hy4 => intro w9 hSw; (try dsimp only at hSw); go_simp; try with_reducible rfl
      try simp only [Act.put]
      refine wpAnyH_take (i := 6) (v := ?v6) rfl (by kernel_rfl) (by kernel_rfl) (by kernel_rfl) (fun _ _ _ h => h) (Or.inl ⟨by rfl, ?hy6⟩) hHeld ?rest6
      case hy6 => intro w9 hSw; (try dsimp only at hSw); go_simp; try with_reducible rfl
      try simp only [Act.put]
      refine wpAnyH_ready (rs := [5]) (by kernel_rfl) (by simp) ?_
      refine AllReadyH.cons rfl (fun K hK => ?_) AllReadyH.nil
      go_simp
      refine hK.out _ _ c2 (fun hHeld2 => ?_)
      clear hK hHeld
      try simp only [Act.put, List.setIfInBounds_toArray, List.set_cons_zero, List.set_cons_succ]
      refine wpAnyH_ready (rs := [7]) (by kernel_rfl) (by simp) ?_
      refine AllReadyH.cons rfl (fun K hK => ?_) AllReadyH.nil
      rw [if_pos (by kernel_rfl)]
      refine step_append_run (.tmp 37) (.tmp 38) 37 37 rfl _ _ rfl rfl _ _ Hrun.out ?_
      refine hK.out _ _ cq2 (fun hHeld => ?_)
      clear hK hHeld2
      try simp only [Act.put, List.setIfInBounds_toArray]
      refine wpAnyH_ready (rs := [8]) (by kernel_rfl) (by simp) ?_
      refine AllReadyH.cons rfl (fun K hK => ?_) AllReadyH.nil
      go_simp
      refine hK.out _ _ cq2 (fun hHeld2 => ?_)
      clear hK hHeld
      try simp only [Act.put, List.setIfInBounds_toArray, List.set_cons_zero, List.set_cons_succ]
      refine wpAnyH_ready (rs := [9]) (by kernel_rfl) (by simp) ?_
      refine AllReadyH.cons rfl (fun K hK => ?_) AllReadyH.nil
      go_simp
      refine hK.out _ _ ?_ (fun hHeld => ?_)
      · exact ((Tn.refl g w').setCell i _).cell (p := ⟨q, 0, none⟩) (show q < w'.heap.size by omega) (show q ≠ g by omega) |>.trans cq2
      clear hK hHeld2
      try simp only [Act.put, List.setIfInBounds_toArray, List.set_cons_zero, List.set_cons_succ]
      refine wpAnyH_done (by kernel_rfl) ?_ _
      go_wp2_with fail
      go_roundw
      case rel => exact ⟨i + 1, hs2.set i (some ⟨b, 0, none⟩, c'), by omega, by go_num, Hown2.out, Hskn.out, by rw [hse]; exact hux2, hmid2, hbel9, by rw [hse]; omega⟩
      case measure => simp [intOf]; omega
    · have hie : i = N.length := by rw [Hml.out]; omega
      have hG : Own wr (q + 1) g hs2 G := by rw [hie, mix_all hmG] at hown; exact hown
      have hge : n ≤ i := by omega
      have hmo := fun k h1 h2 => HX.out k h1 h2
      have hbfr : Blk wr f 63 [.int .u64 (p : Int), .int .u64 (spN p : Int)] := (hmid f (HX.out f (Nat.le_refl _) (by omega)) (by omega)).trans hbf4
      have hbnr : Blk wr (f + 1) 3 [.int .i64 (n : Int)] := (hmid (f + 1) (HX.out _ (by omega) (by omega)) (by omega)).trans hbn4
      have c5 := hbfr.cell 0
      have c6 := hbfr.cell 1
      have hgr : g < wr.heap.size := hG.lt
      have hcG : cols G = n + n := by
        rw [cols_eq G (by rw [hmlG.out]; exact hn0)]; exact Hag.out.len _
      have Hred := Lib.hid (reduce_all X p (spN p) wr wr.heap.size wr.heap.size (q + 1) g n hs2 G H.out.pr H.out.lt (H.out.bas.below (Hbel4.out.trans (hbel.mono (by omega))) (by rw [Hqw.out]; exact H.out.bas.lt)) (by have := H.out.bas.lt; rw [← Hqw.out] at this; omega) hG hux (HXl.out _ hgf) hgr (Nat.le_refl _) (by omega) rfl (by rw [hcG]; exact Hag.out) (by rw [hmlG.out]; exact hrows) (by rw [hmlG.out]; exact Nat.le_refl _) (by rw [hcG]; omega))
      rw [hmlG.out, ← HP.out] at Hred
      clear hie hG hown hmG hml hsk hux hcG
      go_upto_region 11 with (go_at_call 50; (with_reducible refine Hred.out.mono ?_); rintro e w5 ⟨A5, c5', hs5, rfl, hro5, ho5, hux5, hbel5, hmid5⟩)
      obtain ⟨hl5, hc5, hrd5⟩ := hro5.rd
      clear hl5 hc5
      obtain ⟨m1, hm1⟩ : ∃ m1, m1 = n - 1 := ⟨_, rfl⟩
      have hm1l : m1 < P.2.length := by rw [hk]; omega
      obtain ⟨b5, off5, rfl, hb5, hx5⟩ := hrd5 (by intro e; have := ints_length P.2; rw [e] at this; simp at this; omega)
      have hx5 := hx5 m1 _ (show (ints P.2)[m1]? = some (.int .i64 (P.2[m1] : Nat)) by simp [ints, List.getElem?_eq_getElem hm1l])
      have hgd0 : P.2.getD m1 0 = P.2[m1] := by simp [List.getD_eq_getElem?_getD, List.getElem?_eq_getElem hm1l]
      obtain ⟨v5, hv5⟩ : ∃ v5, v5 = P.2[m1] := ⟨_, rfl⟩
      rw [← hv5] at hx5 hgd0
      have hwrf : f + 1 < wr.heap.size := by omega
      have hbn5 : Blk w5 (f + 1) 3 [.int .i64 (n : Int)] := (hmid5 (f + 1) (HX.out _ (by omega) (by omega)) hwrf).trans hbnr
      have hb25 : Blk w5 q 26 [.slice (some ⟨g, 0, none⟩) n n] := hb2r.below hbel5 (by omega)
      have cn5 := hbn5.cell0
      have q1 : (n : Int) - 1 = (m1 : Int) := by omega
      have hsz5 : wr.heap.size ≤ w5.heap.size := hbel5.size
      have hok := redN_ok (M := M) H.out.pr.pos
      have Hgood : Good p (n + n) P.1 ∧ P.1.length = n := by
        have h1 := redTo_ok Hag.out H.out.pr.pos (cols G)
        have h2 : redTo p G (cols G) = P := by rw [HP.out]; rfl
        rw [h2, hmlG.out] at h1
        exact ⟨h1.good, h1.len⟩
      have Hgood := Lib.hid Hgood
      have hm1l2 : m1 < n := by omega
      have Hm1 := Lib.hid hm1
      have Hgd0 := Lib.hid hgd0
      have Hbw5 : Hid (Below q w w5) := Hbel4.out.trans ((hbel.trans hbel5).mono (by omega))
      clear hmid hbel hmid5 hbel5 c5 c6 hbfr hbnr hok hro5 hrd5 hm1l hv5 hm1 hgd0 hk
      by_cases heq : v5 = m1
      · have t1 : ((v5 : Int) != (m1 : Int)) = false := by rw [heq]; simp
        have Heq := Lib.hid heq
        have Hmade : Hid (∀ nd, Calls Tryd.prog 55 #[.int .i64 (n : Int), .int .i64 (n : Int), .func (.func 56) #[] #[.pointer (some ⟨q, 0, none⟩), .pointer (some ⟨f + 1, 0, none⟩)]] (w5.drewN nd) fun e w' => ∃ g hs, e = .returned (.slice (some ⟨g, 0, none⟩) n n) ∧ Own w' w5.heap.size g hs (invM p N) ∧ UB w'.heap.size hs ∧ Below w5.heap.size (w5.drewN nd) w') := fun nd => by
          rw [HI.out]
          refine made_any 56 (fun args W => Tryd.call56 args W) _ n n (fun i k => ent P.1 i (n + k)) (w5.drewN nd) (by omega) (by omega) (fun W hW i k hi hk => ?_)
          have hb5W := (bdrewN (Below.refl w5.heap.size w5) nd).trans hW
          have hPl := Hgood.out.2
          have hPi : i < P.1.length := by omega
          refine ⟨Nat.lt_trans (Hgood.out.1.ent_lt H.out.pr.pos _ _) H.out.lt, ?_⟩
          exact inverse1_any q (f + 1) (some ⟨g, 0, none⟩) n P.1 n _ i k W (by rw [hPl]; exact hb25.below hb5W hb25.lt) (hbn5.below hb5W hbn5.lt) (ho5.below hb5W (Nat.le_refl _)).rd hPi (by rw [Hgood.out.1.len hPi]; omega) (by omega)
        clear heq
        go_wp2_with fail
        go_quiet (fail)
        go_wp2_with (go_at_call 55; (with_reducible refine (Hmade.out _).mono ?_); rintro e w6 ⟨g6, hs6, rfl, ho6, hu6, hq6⟩)
        go_ret2
        refine ⟨fun _ => ⟨_, rfl, ho6.rd⟩, fun hn => ?_, ?_⟩
        · rw [← Hm1.out] at hn; exact absurd (Hgd0.out.trans Heq.out) hn
        · rw [← Hqw.out]
          exact Hbw5.out.trans ((bdrewN (Below.refl _ _) _).trans (hq6.mono (by have := Hbw5.out.size; rw [← Hqw.out] at this; omega)))
      · have t1 : ((v5 : Int) != (m1 : Int)) = true := by rw [bne_iff_ne]; omega
        have Hne : Hid (v5 ≠ m1) := heq
        clear heq
        go_wp2_with fail
        go_quiet (fail)
        go_wp2_with fail
        go_ret2
        refine ⟨fun hn => absurd (Hgd0.out.symm.trans (by rw [Hm1.out]; exact hn)) Hne.out, fun _ => rfl, ?_⟩
        rw [← Hqw.out]
        exact bdrewN Hbw5.out _
end
section
open Go.RowKit

/-- A row copied behind an empty one. -/
theorem copy_row (wr : World) (B2 : Nat) (A : Option Addr) (c : Nat) (xs : List Nat) (hr : Rd wr B2 A (u32s xs)) (hB2 : B2 ≤ wr.heap.size) (hl : xs.length ≤ 35184372088832) :
    ∃ A9 c9 w9, (Builtin.append_ #[37, 37] 37 #[.slice (some ⟨wr.heap.size, 0, none⟩) 0 0, .slice A xs.length c]).run Tryd.prog (wr.alloc (.cells #[] 28)) = .ok (.slice A9 xs.length c9) w9 ∧ Ro w9 wr.heap.size 28 (.slice A9 xs.length c9) (u32s xs) ∧ Below wr.heap.size wr w9 := by
  have hb : Below wr.heap.size wr (wr.alloc (.cells #[] 28)) := (Below.refl _ _).alloc (Nat.le_refl _) _
  have hbk : Blk (wr.alloc (.cells #[] 28)) wr.heap.size 28 (u32s []) := Blk.new_ rfl
  have hro : Ro (wr.alloc (.cells #[] 28)) wr.heap.size 28 (.slice (some ⟨wr.heap.size, 0, none⟩) 0 0) (u32s []) := Ro.of_blk hbk (Nat.le_refl _) (by simp [u32s])
  obtain ⟨A9, c9, w9, h1, h2, h3⟩ := app_u32s _ wr.heap.size _ [] xs hro (by simp) A c B2 (hr.below (hb.mono hB2)) (by simpa using hl)
  simp only [List.nil_append] at h1 h2
  exact ⟨A9, c9, w9, h1, h2, hb.trans (below_grown' h3 hro.block (by simp))⟩

set_option maxHeartbeats 1600000 in
theorem own_any (A : Option Addr) (c : Nat) (M : List (List Nat)) (w : World) (B : Nat) (hr : RdM w B A M) (hB : B ≤ w.heap.size) (hm : M.length ≤ 1099511627776) (hwid : ∀ r ∈ M, r.length ≤ 17592186044416) :
    Calls Tryd.prog 22 #[.slice A M.length c] w fun e w' => ∃ A' c', e = .returned (.slice A' M.length c') ∧ OwA w' w.heap.size w'.heap.size (.slice A' M.length c') M ∧ Below w.heap.size w w' := by
  have Hwid := Lib.hid hwid
  clear hwid
  go_enter Tryd.func22, Tryd.ntmps22
  go_wp2
  go_loopw [3, 8] (fun ov iv wr => ∃ (i : Nat) (Ao : Option Addr) (co : Nat), i ≤ M.length ∧ iv = .int .i64 (i : Int) ∧ ov = .slice Ao i co ∧ OwA wr w.heap.size wr.heap.size (.slice Ao i co) (M.take i) ∧ Below w.heap.size w wr) (fun _ iv _ => M.length - (intOf iv).toNat)
  case atStart => exact ⟨0, none, 0, by omega, rfl, rfl, OwA.nil_ _ _ _, Below.refl _ _⟩
  case round =>
    obtain ⟨i, Ao, co, hi, rfl, rfl, hoA, hbel⟩ := hrel
    by_cases hlt : i < M.length
    · obtain ⟨b, off, Ai, ci, rfl, hb, hx, hl, hm1, hrd⟩ := (hr.below (hbel.mono hB)).at_ hlt
      have hwi := Hwid.out _ (List.getElem_mem hlt)
      have hsn := take_snoc hlt
      have htl : (M.take i).length = i := by rw [List.length_take]; omega
      obtain ⟨xs, hxs⟩ : ∃ xs, xs = M[i] := ⟨_, rfl⟩
      rw [← hxs] at hx hrd hl hm1 hwi hsn
      obtain ⟨A8, c8, w8, hrun8, hro8, hb8⟩ := copy_row wr B Ai ci xs hrd (Nat.le_trans hB hbel.size) (by omega)
      obtain ⟨A9, c9, w9, hrun9, hoA9, hb9⟩ := app_new hoA hb8 hbel.size hro8 (by omega) (by rw [htl]; omega)
      rw [← hsn] at hoA9
      rw [htl] at hrun9 hoA9
      have Hrun8 := Lib.hid hrun8
      have Hrun9 := Lib.hid hrun9
      clear hxs hsn htl hrun8 hrun9 hoA hro8 hb8
      go_wp2_with (first | (at_builtin; refine wpList_append_run rfl _ _ _ _ rfl _ _ rfl rfl _ _ Hrun8.out ?_) | (at_builtin; refine wpList_append_run rfl _ _ _ _ rfl _ _ rfl rfl _ _ Hrun9.out ?_))
      go_roundw
      case rel => exact ⟨i + 1, A9, c9, by omega, by go_num, by go_num, hoA9, hbel.trans hb9⟩
      case measure => simp [intOf]; omega
    · have hie : i = M.length := by omega
      have hoA9 : OwA wr w.heap.size wr.heap.size (.slice Ao i co) M := by rw [hie, List.take_length] at hoA; rw [hie]; exact hoA
      have hge : M.length ≤ i := by omega
      have Hie := Lib.hid hie
      clear hoA hie
      go_wp2
      go_ret
      rw [← Hie.out]
      exact ⟨Ao, co, rfl, hoA9, hbel⟩

/-- A matrix beside the identity. -/
def augR (M : List (List Nat)) : List (List Nat) := List.zipWith (· ++ ·) M (idN M.length)
theorem augR_length (M : List (List Nat)) : (augR M).length = M.length := by simp [augR, idN_length]
theorem augR_at {M : List (List Nat)} {i : Nat} (h : i < (augR M).length) (hi : i < M.length) (hk : i < (idN M.length).length) : (augR M)[i] = M[i] ++ (idN M.length)[i] := by simp [augR]
theorem augR_row {M : List (List Nat)} {q : Nat} (h : ∀ r ∈ M, r.length = q) : ∀ r ∈ augR M, r.length = q + M.length := fun r hr => by
  obtain ⟨i, hi, rfl⟩ := List.mem_iff_getElem.1 hr
  have h1 : i < M.length := by rw [augR_length] at hi; exact hi
  have h2 : i < (idN M.length).length := by rw [idN_length]; exact h1
  rw [augR_at hi h1 h2, List.length_append, h _ (List.getElem_mem h1), idN_row h2]
/-- One header more on a row of headers. -/
theorem app_hd (w : World) (B : Nat) (v : Value) (hs : List (Option Addr × Nat)) (M : List (List Nat)) (hl : hs.length = M.length) (h1 : Ro w B 37 v (hdrs hs M)) (A : Option Addr) (c : Nat) (r : List Nat) (hB : B ≤ w.heap.size) (hm : M.length ≤ 1099511627776) :
    ∃ A' c' w', (Builtin.append_ #[26, 26] 26 #[v, .slice (some ⟨w.heap.size, 0, none⟩) 1 1]).run Tryd.prog (w.alloc (.cells #[.slice A r.length c] 37)) = .ok (.slice A' (M.length + 1) c') w' ∧
      Ro w' B 37 (.slice A' (M.length + 1) c') (hdrs (hs ++ [(A, c)]) (M ++ [r])) ∧ Below B w w' := by
  obtain ⟨i0, hi, hz0, hz1, hz2⟩ := info_parts Tryd.infoRow
  have hb : Below w.heap.size w (w.alloc (.cells #[.slice A r.length c] 37)) := (Below.refl _ _).alloc (Nat.le_refl _) _
  have h1' := h1.below hb (Nat.le_refl _)
  have hbk : Blk (w.alloc (.cells #[.slice A r.length c] 37)) w.heap.size 37 [.slice A r.length c] := Blk.new_ rfl
  have hrd : Rd (w.alloc (.cells #[.slice A r.length c] 37)) (w.heap.size + 1) (some ⟨w.heap.size, 0, none⟩) [.slice A r.length c] := Rd.of_blk hbk (by omega) 0 (fun k u hu => by rw [Nat.zero_add]; exact hu)
  have hdl := hdrs_length hl
  obtain ⟨A', c', w', hrun, g3, g4⟩ := ro_app (P := Tryd.prog) _ B 26 26 37 i0 (.slice none 0 0) 24 Tryd.underlying26 hi hz0 hz1 hz2 rfl v (hdrs hs M) h1' (some ⟨w.heap.size, 0, none⟩) 1 1 _ [.slice A r.length c] hrd rfl (by simp [Value.oneCell']) (by rw [hdl]; unfold maxLen; omega) (by rw [hdl]; omega) (by simp; omega)
  have hl2 : (hdrs hs M ++ [Value.slice A r.length c]).length = M.length + 1 := by rw [List.length_append, hdl]; rfl
  rw [hl2] at hrun g3
  rw [← hdrs_snoc hl (A, c) r] at g3
  exact ⟨A', c', w', hrun, g3, (hb.mono hB).trans (below_grown' g4 h1'.block (by simp; omega))⟩
/-- What stands behind the first n numbers. -/
theorem Rd.dropA {w : World} {B : Nat} {A : Option Addr} {xs : List Nat} (h : Rd w B A (u32s xs)) (n : Nat) : Rd w B (Option.map (fun x => x.add n) A) (u32s (xs.drop n)) := fun hn => by
  have hn2 : u32s xs ≠ [] := fun e => hn (by rw [u32s_nil_iff] at e; subst e; simp [u32s])
  obtain ⟨b, off, e, hb, hc⟩ := h hn2
  subst e
  refine ⟨b, off + n, by simp [addr_add], hb, fun k v hv => ?_⟩
  rw [Nat.add_assoc]
  exact hc (n + k) v (by simpa [u32s, List.getElem?_drop] using hv)
/-- A row of headers reads as its rows. -/
theorem RdM.ofRo {w : World} {B : Nat} {A : Option Addr} {n c : Nat} {hs : List (Option Addr × Nat)} {M : List (List Nat)} (hl : hs.length = M.length) (h : Ro w B 37 (.slice A n c) (hdrs hs M))
    (hc : ∀ i (h : i < M.length), M[i].length ≤ (hs[i]'(hl ▸ h)).2 ∧ M[i].length ≤ 281474976710656 ∧ Rd w w.heap.size (hs[i]'(hl ▸ h)).1 (u32s M[i])) : n = M.length ∧ M.length ≤ c ∧ RdM w w.heap.size A M := by
  obtain ⟨e1, e2, e3⟩ := h.rd
  rw [hdrs_length hl] at e1 e2
  refine ⟨e1, e2, fun hn => ?_⟩
  obtain ⟨b, off, e4, e5, e6⟩ := e3 (fun e => hn (List.eq_nil_of_length_eq_zero (by rw [← hdrs_length hl, e]; rfl)))
  exact ⟨b, off, e4, e5, fun i hi => ⟨_, _, e6 i _ (hdrs_at (hl ▸ hi) hi), (hc i hi).1, (hc i hi).2.1, (hc i hi).2.2⟩⟩

set_option maxHeartbeats 3200000 in
set_option maxRecDepth 100000 in
theorem rinverse_any (p : Nat) (A : Option Addr) (c0 : Nat) (M : List (List Nat)) (w : World) (B : Nat) (hpr : Pr p) (hp : p < 4294967296) (hr : RdM w B A M) (hB : B ≤ w.heap.size) (hm : M.length ≤ 1099511627776) (hsq : Sq M) (hrect : Rect M) :
    Calls Tryd.prog 32 #[.slice A M.length c0, .int .u32 (p : Int)] w fun e w' => ((∃ A' c', e = .returned (.tuple #[.slice A' M.length c', .bool true]) ∧ M.length ≤ c' ∧ (∀ j, j < M.length → (redN p (modN p (augR M))).2.getD j M.length = j) ∧ RdM w' w'.heap.size A' ((redN p (modN p (augR M))).1.map (List.drop M.length)))
      ∨ (e = .returned (.tuple #[.slice none 0 0, .bool false]) ∧ ∃ j, j < M.length ∧ (redN p (modN p (augR M))).2.getD j M.length ≠ j)) ∧ Below w.heap.size w w' := by
  have hp0 := hpr.pos
  have hp1 : 1 < p := hpr.1
  have hwid : ∀ r ∈ M, r.length = M.length := fun r hr => by rw [hrect r hr, ← hsq.2]
  have harow := augR_row hwid
  have halen := augR_length M
  have hn0 := hsq.1
  have hacols : cols (augR M) = M.length + M.length := by
    rw [cols_eq _ (by rw [halen]; exact hn0)]; exact harow _ (List.getElem_mem _)
  have harect : Rect (augR M) := fun r hr => by rw [hacols]; exact harow r hr
  have Hred : Hid (∀ W A c, RdM W W.heap.size A (augR M) → Calls Tryd.prog 27 #[.slice A M.length c, .int .u32 (p : Int)] W fun e w' => ∃ A' c' Ap cp, e = .returned (.tuple #[.slice A' M.length c', .slice Ap (redN p (modN p (augR M))).2.length cp]) ∧ M.length ≤ c' ∧ (redN p (modN p (augR M))).2.length ≤ cp ∧ RdM w' w'.heap.size A' (redN p (modN p (augR M))).1 ∧ Rd w' w'.heap.size Ap (ints (redN p (modN p (augR M))).2) ∧ Below W.heap.size W w') := fun W A c hr => by
    have h9 := rreduce_all p A c (augR M) W W.heap.size hpr hp hr (Nat.le_refl _) (by rw [halen]; exact hm) (by rw [hacols]; omega) harect
    rw [halen] at h9
    exact h9
  have hok := redN_ok (M := augR M) hp0
  rw [hacols, halen] at hok
  obtain ⟨R, hR⟩ : ∃ R, R = (redN p (modN p (augR M))).1 := ⟨_, rfl⟩
  obtain ⟨P, hP⟩ : ∃ P, P = (redN p (modN p (augR M))).2 := ⟨_, rfl⟩
  obtain ⟨hgood, hlen, hfew⟩ := hok
  rw [← hR, ← hP] at Hred ⊢
  rw [← hR] at hgood hlen
  rw [← hP] at hfew
  have Hid1 : Hid (∀ W : World, Calls Tryd.prog 34 #[.int .i64 (M.length : Int)] W fun e w' => ∃ A' c', e = .returned (.slice A' M.length c') ∧ OwA w' W.heap.size w'.heap.size (.slice A' M.length c') (idN M.length) ∧ Below W.heap.size W w') := fun W => ridentity_any M.length W hm
  have hil := idN_length M.length
  have hirow : ∀ i (h : i < (idN M.length).length), (idN M.length)[i].length = M.length := fun i h => idN_row h
  have hat : ∀ i (h : i < (augR M).length) (hi : i < M.length) (hk : i < (idN M.length).length), (augR M)[i] = M[i] ++ (idN M.length)[i] := fun i h hi hk => augR_at h hi hk
  obtain ⟨I, hI⟩ : ∃ I, I = idN M.length := ⟨_, rfl⟩
  rw [← hI] at Hid1 hil
  simp only [← hI] at hirow hat
  obtain ⟨G, hG⟩ : ∃ G, G = augR M := ⟨_, rfl⟩
  simp only [← hG] at Hred hat halen
  obtain ⟨n, hn1⟩ : ∃ n, n = M.length := ⟨_, rfl⟩
  simp only [← hn1] at Hred hlen hfew hm hwid hgood hil hirow hat halen Hid1 hn0 ⊢
  have Hgood := Lib.hid hgood
  have Hlen := Lib.hid hlen
  have Hil := Lib.hid hil
  have Hirow : Hid (∀ i (h : i < I.length), I[i].length = n) := hirow
  have Hat : Hid (∀ i (h : i < G.length) (hi : i < M.length) (hk : i < I.length), G[i] = M[i] ++ I[i]) := fun i h hi hk => by
    have := hat i h (by rw [hn1]; exact hi) hk
    exact this
  have Halen := Lib.hid halen
  have Hwid := Lib.hid hwid
  have Hn1 := Lib.hid hn1
  clear hR hP hsq hgood hlen hrect hil hirow hI hG hat halen hwid harow hacols harect hn1
  go_enter Tryd.func32, Tryd.ntmps32
  have hl0 : M.length = n := Hn1.out.symm
  go_wp2
  go_loopw [6, 15] (fun ov iv wr => ∃ (i : Nat) (Ao : Option Addr) (co : Nat), i ≤ n ∧ iv = .int .i64 (i : Int) ∧ ov = .slice Ao i co ∧ OwA wr w.heap.size wr.heap.size (.slice Ao i co) (G.take i) ∧ Below w.heap.size w wr) (fun _ iv _ => n - (intOf iv).toNat)
  case atStart => exact ⟨0, none, 0, by omega, rfl, rfl, OwA.nil_ _ _ _, Below.refl _ _⟩
  case round =>
    obtain ⟨i, Ao, co, hi, rfl, rfl, hoA, hbel⟩ := hrel
    by_cases hlt : i < n
    · have hiM : i < M.length := by omega
      have hiG : i < G.length := by rw [Halen.out]; exact hlt
      have hiI : i < I.length := by rw [Hil.out]; exact hlt
      obtain ⟨b, off, Ai, ci, rfl, hb, hx, hl, hm1, hrd⟩ := (hr.below (hbel.mono hB)).at_ hiM
      have hwi := Hwid.out _ (List.getElem_mem hiM)
      have hsn := take_snoc hiG
      have htl : (G.take i).length = i := by rw [List.length_take, Halen.out]; omega
      have hGi := Hat.out i hiG hiM hiI
      have hIi := Hirow.out i hiI
      obtain ⟨xs, hxs⟩ : ∃ xs, xs = M[i] := ⟨_, rfl⟩
      rw [← hxs] at hx hrd hl hm1 hwi hGi
      obtain ⟨ys, hys⟩ : ∃ ys, ys = I[i] := ⟨_, rfl⟩
      rw [← hys] at hGi hIi
      rw [hGi] at hsn
      have hxyl : (xs ++ ys).length = n + n := by rw [List.length_append, hwi, hIi]
      obtain ⟨A8, c8, w8, hrun8, hro8, hb8⟩ := copy_row wr B Ai ci xs hrd (Nat.le_trans hB hbel.size) (by omega)
      rw [hwi] at hrun8 hro8 hx hl
      have Hrun8 := Lib.hid hrun8
      have Hgo : Hid (∀ w10 AI cI, OwA w10 w8.heap.size w10.heap.size (.slice AI n cI) I → Below w8.heap.size w8 w10 → ∃ b2 o2 Ay cy, AI = some ⟨b2, o2, none⟩ ∧ w10.cell? ⟨b2, o2 + i, none⟩ = some (.slice Ay n cy) ∧
          ∃ A9 c9 w9, (Builtin.append_ #[37, 37] 37 #[.slice A8 n c8, .slice Ay n cy]).run Tryd.prog w10 = .ok (.slice A9 (n + n) c9) w9 ∧
          ∃ A7 c7 w7, (Builtin.append_ #[26, 26] 26 #[.slice Ao i co, .slice (some ⟨w9.heap.size, 0, none⟩) 1 1]).run Tryd.prog (w9.alloc (.cells #[.slice A9 (n + n) c9] 37)) = .ok (.slice A7 (i + 1) c7) w7 ∧ OwA w7 w.heap.size w7.heap.size (.slice A7 (i + 1) c7) (G.take (i + 1)) ∧ Below w.heap.size wr w7) := fun w10 AI cI h1 h2 => by
        obtain ⟨-, -, h3⟩ := h1.rd (Nat.le_refl _)
        obtain ⟨b2, o2, Ay, cy, e1, -, hx2, -, -, hrd2⟩ := h3.at_ hiI
        rw [← hys] at hrd2
        rw [← hys, hIi] at hx2
        obtain ⟨A9, c9, w9, hr9, hro9, hg9⟩ := app_u32s w10 wr.heap.size (.slice A8 n c8) xs ys (hro8.below h2 (Nat.le_refl _)) (Nat.le_trans hb8.size h2.size) Ay cy w10.heap.size hrd2 (by omega)
        rw [hIi, hxyl] at hr9
        rw [hxyl] at hro9
        have hb9 : Below wr.heap.size wr w9 := (hb8.trans (h2.mono hb8.size)).trans (below_grown' hg9 (hro8.below h2 (Nat.le_refl _)).block (Nat.le_trans hb8.size h2.size))
        obtain ⟨A7, c7, w7, hr7, hoA7, hb7⟩ := app_new hoA hb9 hbel.size hro9 (by omega) (by rw [htl]; omega)
        rw [← hsn] at hoA7
        rw [htl] at hr7 hoA7
        exact ⟨b2, o2, Ay, cy, e1, hx2, A9, c9, w9, hr9, A7, c7, w7, hr7, hoA7, hb7⟩
      clear hxs hys hsn htl hrun8 hoA hro8 hGi hIi hxyl hwi hrd hm1
      go_wp2_with (first
        | (at_builtin; refine wpList_append_run rfl _ _ _ _ rfl _ _ rfl rfl _ _ Hrun8.out ?_)
        | (go_at_call 34; (with_reducible refine (Hid1.out _).mono ?_); rintro e w10 ⟨AI, cI, rfl, hoI, hbI⟩; obtain ⟨b2, o2, Ay, cy, rfl, hx2, A9, c9, w9, hr9, A7, c7, w7, hr7, hoA7, hb7⟩ := Hgo.out _ _ _ hoI hbI; have Hr9 := Lib.hid hr9; have Hr7 := Lib.hid hr7; clear hr9 hr7)
        | (at_builtin; refine wpList_append_run rfl _ _ _ _ rfl _ _ rfl rfl _ _ Hr9.out ?_)
        | (at_builtin; refine wpList_append_run rfl _ _ _ _ rfl _ _ rfl rfl _ _ Hr7.out ?_))
      go_roundw
      case rel => exact ⟨i + 1, A7, c7, by omega, by go_num, by go_num, hoA7, hbel.trans hb7⟩
      case measure => simp [intOf]; omega
    · have hie : i = n := by omega
      have hoA9 : OwA wr w.heap.size wr.heap.size (.slice Ao n co) G := by rw [hie, List.take_of_length_le (by rw [Halen.out]; exact Nat.le_refl _)] at hoA; exact hoA
      subst hie
      obtain ⟨-, -, hrG⟩ := hoA9.rd (Nat.le_refl _)
      have HR2 := Lib.hid (Hred.out wr Ao co hrG)
      clear hoA hoA9 hrG Hred
      go_wp2_with (go_at_call 27; (with_reducible refine HR2.out.mono ?_); rintro e w1 ⟨A1, c1, Ap, cp, rfl, hc1, hcp, hrR, hrP, hb1⟩)
      have hbel1 := hbel.trans (hb1.mono hbel.size)
      go_loopw [10, 42] (fun ov kv wq => ∃ (k : Nat) (Ak : Option Addr) (ck : Nat) (hs : List (Option Addr × Nat)) (K : List (List Nat)), k ≤ i ∧ kv = .int .i64 (k : Int) ∧ ov = .slice Ak k ck ∧ Hid (K = (R.map (List.drop i)).take k) ∧ (∃ hl : hs.length = K.length, Ro wq w1.heap.size 37 (.slice Ak k ck) (hdrs hs K) ∧ (∀ j (h : j < K.length), K[j].length ≤ (hs[j]'(hl ▸ h)).2 ∧ K[j].length ≤ 281474976710656 ∧ Rd w1 w1.heap.size (hs[j]'(hl ▸ h)).1 (u32s K[j]))) ∧ (∀ j, j < k → P.getD j i = j) ∧ Below w1.heap.size w1 wq) (fun _ kv _ => i - (intOf kv).toNat)
      case atStart => exact ⟨0, none, 0, [], [], by omega, rfl, rfl, by show _ = _; simp, ⟨rfl, Ro.nil_ _ _ _, fun j h => absurd h (Nat.not_lt_zero _)⟩, fun j h => absurd h (Nat.not_lt_zero _), Below.refl _ _⟩
      case round =>
        obtain ⟨k, Ak, ck, hs, K, hk, rfl, rfl, HK, ⟨hsl, hro, hrow⟩, hpv, hbq⟩ := hrel
        have Hrow : Hid (∀ j (h : j < K.length), K[j].length ≤ (hs[j]'(hsl ▸ h)).2 ∧ K[j].length ≤ 281474976710656 ∧ Rd w1 w1.heap.size (hs[j]'(hsl ▸ h)).1 (u32s K[j])) := hrow
        have Hpv := Lib.hid hpv
        clear hrow hpv
        have hKl : K.length = min k i := by rw [HK.out, List.length_take, List.length_map, Hlen.out]
        by_cases hkl : k < i
        · have hkR : k < R.length := by rw [Hlen.out]; exact hkl
          obtain ⟨b2, o2, Ar, cr, rfl, hb2, hx2, hl2, hm2, hrd2⟩ := hrR.at_ hkR
          have hx3 := (hbq.cell (p := ⟨b2, o2 + k, none⟩) hb2).trans hx2
          have wk := Hgood.out.len hkR
          rw [wk] at hx3 hl2
          by_cases hkP : k < P.length
          · obtain ⟨b3, o3, rfl, hb3, hx4⟩ := hrP.atI hkP
            have hx5 := (hbq.cell (p := ⟨b3, o3 + k, none⟩) hb3).trans hx4
            have hg := getD_at (d := i) hkP
            by_cases hkv : P[k] = k
            · rw [hkv] at hx5 hg
              have t2 : ((k : Int) != (k : Int)) = false := by simp
              have Hgk : Hid (P.getD k i = k) := hg
              have hri : Rd w1 w1.heap.size (Option.map (fun x => x.add i) Ar) (u32s (R[k].drop i)) := hrd2.dropA i
              have hdl : (R[k].drop i).length = i := by rw [List.length_drop, wk]; omega
              have hKn : K ++ [R[k].drop i] = (R.map (List.drop i)).take (k + 1) := by
                rw [take_snoc (by rw [List.length_map]; exact hkR), ← HK.out, List.getElem_map]
              have hKk : K.length = k := by omega
              obtain ⟨A9, c9, w9, hrun, hro9, hb9⟩ := app_hd wr w1.heap.size (.slice Ak k ck) hs K hsl hro (Option.map (fun x => x.add i) Ar) (cr - i) (R[k].drop i) hbq.size (by omega)
              rw [hdl, hKk] at hrun
              rw [hKk] at hro9
              have Hrun := Lib.hid hrun
              have hKn2 := Lib.hid hKn
              have Hrow2 : Hid (∀ (hl : (hs ++ [(Option.map (fun x => x.add i) Ar, cr - i)]).length = (K ++ [R[k].drop i]).length) j (h : j < (K ++ [R[k].drop i]).length), (K ++ [R[k].drop i])[j].length ≤ ((hs ++ [(Option.map (fun x => x.add i) Ar, cr - i)])[j]'(hl ▸ h)).2 ∧ (K ++ [R[k].drop i])[j].length ≤ 281474976710656 ∧ Rd w1 w1.heap.size ((hs ++ [(Option.map (fun x => x.add i) Ar, cr - i)])[j]'(hl ▸ h)).1 (u32s (K ++ [R[k].drop i])[j])) := fun hl j h => by
                by_cases hjK : j < K.length
                · have hjs : j < hs.length := by rw [hsl]; exact hjK
                  simp only [List.getElem_append_left hjK, List.getElem_append_left hjs]
                  exact Hrow.out j hjK
                · have hje : j = K.length := by rw [List.length_append] at h; simp at h; omega
                  subst hje
                  have e1 : (K ++ [R[k].drop i])[K.length] = R[k].drop i := by simp
                  have e2 : (hs ++ [(Option.map (fun x => x.add i) Ar, cr - i)])[K.length]'(hl ▸ h) = (Option.map (fun x => x.add i) Ar, cr - i) := by
                    rw [List.getElem_append_right (by omega)]; simp [hsl]
                  simp only [e1, e2]
                  exact ⟨by rw [hdl]; omega, by rw [hdl]; omega, hri⟩
              have hbelq := hbq.trans hb9
              clear hri hdl hKn hrun hg hkv hro hrd2 wk hKl
              go_wp2_with (first | (at_builtin; refine wpList_append_run rfl _ _ _ _ rfl _ _ rfl rfl _ _ Hrun.out ?_))
              go_roundw
              case rel =>
                have hl9 : (hs ++ [(Option.map (fun x => x.add i) Ar, cr - i)]).length = (K ++ [R[k].drop i]).length := by rw [List.length_append, List.length_append, hsl]; rfl
                refine ⟨k + 1, A9, c9, _, K ++ [R[k].drop i], by omega, by go_num, by go_num, hKn2, ⟨hl9, hro9, Hrow2.out hl9⟩, fun j hj => ?_, hbelq⟩
                by_cases hjk : j < k
                · exact Hpv.out j hjk
                · obtain rfl : j = k := by omega
                  exact Hgk.out
              case measure => simp [intOf]; omega
            · obtain ⟨v, hv⟩ : ∃ v, v = P[k] := ⟨_, rfl⟩
              rw [← hv] at hx5 hg hkv
              have t2 : ((v : Int) != (k : Int)) = true := by simp; omega
              have Hg : Hid (P.getD k i ≠ k) := by show _ ≠ _; rw [hg]; exact hkv
              clear hg hv hkv
              go_wp2_with fail
              go_ret2
              exact ⟨Or.inr ⟨rfl, k, by omega, Hg.out⟩, hbel1.trans (hbq.mono hbel1.size)⟩
          · have Hg : Hid (P.getD k i ≠ k) := by
              show _ ≠ _
              rw [List.getD_eq_getElem?_getD, List.getElem?_eq_none (by omega)]
              simp; omega
            go_wp2_with fail
            go_ret2
            exact ⟨Or.inr ⟨rfl, k, by omega, Hg.out⟩, hbel1.trans (hbq.mono hbel1.size)⟩
        · have hki : k = i := by omega
          subst hki
          have hKR : K = R.map (List.drop k) := by rw [HK.out, List.take_of_length_le (by rw [List.length_map, Hlen.out]; exact Nat.le_refl _)]
          obtain ⟨-, hck, hrd⟩ := RdM.ofRo (n := k) (c := ck) hsl hro (fun j h => ⟨(Hrow.out j h).1, (Hrow.out j h).2.1, ((Hrow.out j h).2.2.below hbq).mono hbq.size⟩)
          rw [hKl, Nat.min_self] at hck
          rw [hKR] at hrd
          have Hrd := Lib.hid hrd
          clear hKR hKl hrd
          go_wp2_with fail
          go_ret2
          exact ⟨Or.inl ⟨Ak, ck, rfl, hck, Hpv.out, Hrd.out⟩, hbel1.trans (hbq.mono hbel1.size)⟩
end
end Go.Proofs.YtecdjanopiibcaaDoor
