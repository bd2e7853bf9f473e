/- The contract of a field's determinant. Conditions: p a prime, the rows equally long, below p; bases reads 2, 7, 61. The contracts of transposed, identity and a field's product. Conditions: rows equally long, sizes that fit. The contracts of read and readSquare. Conditions: bases reads 2, 7, 61. The contracts of read for one matrix, of readSquare, and of Trace, Det, Pow, Reduce, Rank. Conditions: bases reads 2, 7, 61. -/
import Derived.Test.YtecdjanopiibcaaDoorPkD12
import Derived.Deep.QuietTactic
import Derived.BigQuiet
namespace Go.Proofs.YtecdjanopiibcaaDoor
section
open Go.RowKit

/-- The rows behind row k less what makes column k nought. -/
def elimN (p : Nat) (M : List (List Nat)) (k : Nat) : List (List Nat) := (List.range M.length).map fun i => if k < i then subN p (plusN p 0 (ent M i k) (invN p (ent M k k))) (M.getD i []) (M.getD k []) else M.getD i []
theorem elimN_length (p : Nat) (M : List (List Nat)) (k : Nat) : (elimN p M k).length = M.length := by simp [elimN]
theorem elimN_at {p : Nat} {M : List (List Nat)} {k i : Nat} (hi : i < M.length) (hk : k < M.length) (h : i < (elimN p M k).length) :
    (elimN p M k)[i] = if k < i then subN p (plusN p 0 (ent M i k) (invN p (ent M k k))) M[i] M[k] else M[i] := by
  simp [elimN, List.getD_eq_getElem?_getD, List.getElem?_eq_getElem hi, List.getElem?_eq_getElem hk]
theorem Good.elim_ {p n : Nat} {M : List (List Nat)} (h : Good p n M) (hp : 0 < p) {k : Nat} (hk : k < M.length) : Good p n (elimN p M k) := by
  have key : ∀ i (hi : i < (elimN p M k).length), ((elimN p M k)[i]).length = n ∧ ∀ x ∈ (elimN p M k)[i], x < p := fun i hi => by
    have hi2 : i < M.length := by rw [elimN_length] at hi; exact hi
    rw [elimN_at hi2 hk hi]
    split
    · exact ⟨by rw [subN_length (by rw [h.len hi2, h.len hk]), h.len hi2], subN_lt hp _ (h.dig _ (List.getElem_mem hi2))⟩
    · exact ⟨h.len hi2, h.dig _ (List.getElem_mem hi2)⟩
  exact ⟨fun r hr => by obtain ⟨i, hi, rfl⟩ := List.mem_iff_getElem.1 hr; exact (key i hi).1, fun r hr => by obtain ⟨i, hi, rfl⟩ := List.mem_iff_getElem.1 hr; exact (key i hi).2⟩
/-- What the determinant is times by, at an exchange of rows i and k and at a pivot x. -/
def detMul (p o i k x : Nat) : Nat := plusN p 0 (if i = k then o else plusN p 0 o (p - 1)) x
/-- The first columns gone through; none: it is nought. -/
def detTo (p : Nat) (M : List (List Nat)) : Nat → Option (List (List Nat) × Nat)
  | 0 => some (M, 1)
  | k + 1 => match detTo p M k with
    | none => none
    | some s => match piv s.1 k k with
      | none => none
      | some i => some (elimN p (sw [] s.1 i k) k, detMul p s.2 i k (ent (sw [] s.1 i k) k k))
def detN (p : Nat) (M : List (List Nat)) : Nat := match detTo p M M.length with
  | none => 0
  | some s => s.2
theorem detTo_ok {p n : Nat} {M : List (List Nat)} (h : Good p n M) (hp : 1 < p) : ∀ k s, k ≤ M.length → detTo p M k = some s → Good p n s.1 ∧ s.1.length = M.length ∧ s.2 < p
  | 0, s, _, e => by
    obtain rfl : (M, 1) = s := Option.some.inj e
    exact ⟨h, rfl, hp⟩
  | k + 1, s, hk, e => by
    rw [detTo] at e
    split at e
    · cases e
    · rename_i t et
      obtain ⟨h1, h2, h3⟩ := detTo_ok h hp k t (by omega) et
      split at e
      · cases e
      · rename_i i ei
        obtain ⟨g1, g2, g3⟩ := piv_some ei
        obtain rfl := Option.some.inj e
        have hk2 : k < t.1.length := by omega
        have hk3 : k < (sw [] t.1 i k).length := by rw [sw_length]; exact hk2
        exact ⟨(h1.sw_ g2 hk2).elim_ (by omega) hk3, by show (elimN p (sw [] t.1 i k) k).length = _; rw [elimN_length, sw_length, h2], plusN_lt (by omega) _ _ _⟩
theorem detTo_none {p : Nat} {M : List (List Nat)} {k : Nat} (h : detTo p M k = none) : ∀ d, detTo p M (k + d) = none
  | 0 => h
  | d + 1 => by
    show detTo p M (k + d + 1) = none
    rw [detTo, detTo_none h d]

set_option maxHeartbeats 3200000 in
set_option maxRecDepth 100000 in
theorem determinant_any (p sp : Nat) (w : World) (U B g cap : Nat) (hs : List (Option Addr × Nat)) (M : List (List Nat)) (hpr : Pr p) (hp : p < 4294967296) (hw : Bases w) (hG : 0 < B) (ho : Own w B g hs M) (hub : UB w.heap.size hs) (hB : B ≤ w.heap.size) (hU : U = w.heap.size) (hg : Good p M.length M) (hm : M.length ≤ 1099511627776) (_ : M.length ≤ cap) :
    Calls Tryd.prog 42 #[fieldV p sp, .slice (some ⟨g, 0, none⟩) M.length cap] w fun e w' => e = .returned (.int .u32 (detN p M : Int)) ∧ Below B w w' := by
  have hp0 := hpr.pos
  have hp1 := hpr.1
  have hwa : Below B w (w.alloc (.cells #[.int .u64 (p : Int), .int .u64 (sp : Int)] 63 (0, 0))) := (Below.refl _ _).alloc hB _
  have hbx : Blk (w.alloc (.cells #[.int .u64 (p : Int), .int .u64 (sp : Int)] 63 (0, 0))) w.heap.size 63 [.int .u64 (p : Int), .int .u64 (sp : Int)] := Blk.new_ rfl
  have ho1 := ho.below ((Below.refl w.heap.size w).alloc (Nat.le_refl _) (.cells #[.int .u64 (p : Int), .int .u64 (sp : Int)] 63 (0, 0))) (Nat.le_refl _)
  have hgl := ho.lt
  have hbw : ∀ W, Below B w W → Bases W := fun W hW => hw.below hW hG
  have Hbw : Hid (∀ W, Below B w W → Bases W) := hbw
  have Hok := Lib.hid (fun k s => detTo_ok hg hp1 k s)
  obtain ⟨D, hD⟩ : ∃ D, D = detN p M := ⟨_, rfl⟩
  rw [← hD]
  have HD := Lib.hid hD
  have hws : (w.alloc (.cells #[.int .u64 (p : Int), .int .u64 (sp : Int)] 63 (0, 0))).heap.size = U + 1 := by rw [hU]; simp
  clear hbw hw ho hg hD
  go_enter Tryd.func42, Tryd.ntmps42
  go_wp2_with fail
  rw [← hU] at hbx hub hgl hB
  obtain ⟨W0, hW0⟩ : ∃ W0, W0 = w.alloc (.cells #[.int .u64 (p : Int), .int .u64 (sp : Int)] 63 (0, 0)) := ⟨_, rfl⟩
  rw [← hW0] at hbx ho1 hwa hws ⊢
  have HW0 := Lib.hid hW0
  have HU := Lib.hid hU
  have hW0s : U + 1 ≤ W0.heap.size := by omega
  clear hW0 hws
  rw [← hU]
  clear hU
  go_loopw [5, 11] (fun ov iv wr => ∃ (k o : Nat) (N : List (List Nat)) (hs2 : List (Option Addr × Nat)), k ≤ M.length ∧ iv = .int .i64 (k : Int) ∧ ov = .int .u32 (o : Int) ∧ Hid (detTo p M k = some (N, o)) ∧ Own wr B g hs2 N ∧ UB U hs2 ∧ Blk wr U 63 [.int .u64 (p : Int), .int .u64 (sp : Int)] ∧ U + 1 ≤ wr.heap.size ∧ Below B w wr) (fun _ iv _ => M.length - (intOf iv).toNat)
  case atStart => exact ⟨0, 1, M, hs, by omega, rfl, rfl, rfl, ho1, hub, hbx, hW0s, hwa⟩
  case round =>
    clear ho1 hub hbx hwa hW0s
    obtain ⟨k, o, N, hs2, hkm, rfl, rfl, HT, hown, hub, hbx, hUs, hbel⟩ := hrel
    obtain ⟨hgood, hlen, hol⟩ := Hok.out k _ hkm HT.out
    simp only [] at hgood hlen hol
    by_cases hlt : k < M.length
    · have hkN : k < N.length := by omega
      have hnz : ∀ i (h : i < N.length), k < N[i].length := fun i h => by rw [hgood.len h]; exact hlt
      have hbelB : B ≤ wr.heap.size := by have := hbel.size; rw [← HU.out] at this; omega
      cases hpv : piv N k k with
      | none =>
        have Hl := Lib.hid (lift_none wr B g k k cap hs2 N hown (by omega) hnz (fun r hr x hx => Nat.lt_trans (hgood.dig r hr x hx) hp) (by omega) hpv)
        rw [hlen] at Hl
        have HD0 : Hid (D = 0) := by
          show D = 0
          rw [HD.out]
          have h1 : detTo p M (k + 1) = none := by rw [detTo, HT.out]; simp only [hpv]
          have h2 := detTo_none h1 (M.length - (k + 1))
          rw [show k + 1 + (M.length - (k + 1)) = M.length from by omega] at h2
          unfold detN; rw [h2]
        clear hnz hpv hlen hkN
        go_wp2_with (first | (go_at_call 61; (with_reducible refine Hl.out.mono ?_); rintro e w1 ⟨rfl, rfl⟩))
        go_ret
        exact ⟨by rw [HD0.out]; rfl, hbel⟩
      | some i0 =>
        obtain ⟨hi1, hi2, hi3⟩ := piv_some hpv
        have Hl := Lib.hid (lift_some wr B g k k cap i0 hs2 N hown (by omega) hnz (fun r hr x hx => Nat.lt_trans (hgood.dig r hr x hx) hp) (by omega) hpv)
        rw [hlen] at Hl
        obtain ⟨N1, hN1⟩ : ∃ N1, N1 = sw [] N i0 k := ⟨_, rfl⟩
        obtain ⟨N2, hN2⟩ : ∃ N2, N2 = elimN p N1 k := ⟨_, rfl⟩
        have Hst : Hid (detTo p M (k + 1) = some (N2, plusN p 0 (if i0 = k then o else plusN p 0 o (p - 1)) (ent N1 k k))) := by
          show _ = _
          rw [detTo, HT.out]; simp only [hpv, hN2, hN1, detMul]
        have hN1l : N1.length = M.length := by rw [hN1, sw_length, hlen]
        have hg1 : Good p M.length N1 := by rw [hN1]; exact hgood.sw_ hi2 (by omega)
        have he1 : ent N1 k k ≠ 0 := by
          have e1 : ent N1 k k = ent N i0 k := by
            have a1 : k < N1.length := by omega
            unfold ent
            rw [getD_at a1, getD_at hi2]
            congr 1
            subst hN1
            rw [sw_at [] N i0 k k hi2 (by omega) (by omega) a1, if_pos rfl]
          rw [e1]; exact hi3
        rw [← hN1] at Hl
        have HN2 := Lib.hid hN2
        have HN1l := Lib.hid hN1l
        have t2 : ((i0 : Int) == (-1 : Int)) = false := by simp
        clear hnz hpv hi3 hN1 hN2 hN1l hown
        have Hpo : Hid (∀ W, Calls Tryd.prog 41 #[fieldV p sp, .int .u32 0, .int .u32 (o : Int), .int .u32 (((p - 1 : Nat)) : Int)] W fun e w' => e = .returned (.int .u32 (plusN p 0 o (p - 1) : Int)) ∧ Below W.heap.size W w') := fun W => plus0_any p sp o (p - 1) W hp0 hp (by omega) (by omega)
        obtain ⟨pm, hpm⟩ : ∃ pm, pm = p - 1 := ⟨_, rfl⟩
        rw [← hpm] at Hpo Hst
        have t3 : (p : Int) - 1 = (pm : Int) := by omega
        clear hpm
        go_upto_block 2 with (go_at_call 61; (with_reducible refine Hl.out.mono ?_); rintro e w1 ⟨rfl, hown1, htn1⟩)
        have hgU2 : U ≠ g := by omega
        have hbx1 := hbx.tn htn1 hgU2
        have hub1 : UB U (sw (none, 0) hs2 i0 k) := fun x hx => hub x (sw_mem (by have := hown1.len; rw [sw_length, HN1l.out] at this; omega) (by have := hown1.len; rw [sw_length, HN1l.out] at this; omega) hx)
        obtain ⟨hs3, hhs3⟩ : ∃ hs3, hs3 = sw (none, 0) hs2 i0 k := ⟨_, rfl⟩
        rw [← hhs3] at hown1 hub1
        have hbel1 : Below B w w1 := hbel.trans (htn1.below hown1.lo hbelB)
        have hU1 : U + 1 ≤ w1.heap.size := Nat.le_trans hUs htn1.size
        have hbel1B : B ≤ w1.heap.size := by have := htn1.size; omega
        clear hhs3 hub hbx hUs htn1 Hl hbel
        obtain ⟨o1, ho1e⟩ : ∃ o1, o1 = (if i0 = k then o else plusN p 0 o pm) := ⟨_, rfl⟩
        have Ho1 := Lib.hid ho1e
        have ho1l : o1 < p := by rw [ho1e]; split <;> first | exact hol | exact plusN_lt hp0 _ _ _
        have H1 : Hid (Own w1 B g hs3 N1 ∧ Blk w1 U 63 [.int .u64 (p : Int), .int .u64 (sp : Int)]) := ⟨hown1, hbx1⟩
        have hkm1 : k < N1.length := by rw [HN1l.out]; exact hlt
        go_cut [5] (fun ov wx => ov = .int .u32 (o1 : Int) ∧ Below w1.heap.size w1 wx)
        case first =>
          have c5 := hbx1.cell 0
          have c6 := hbx1.cell 1
          clear hown1 hbx1
          by_cases hik : i0 = k
          · rw [if_pos hik] at ho1e
            have t4 : ((i0 : Int) == (k : Int)) = true := by rw [hik]; simp
            clear hik
            go_wp2_with fail
            go_meet
            exact ⟨by rw [ho1e], Below.refl _ _⟩
          · rw [if_neg hik] at ho1e
            have t4 : ((i0 : Int) == (k : Int)) = false := by simp; omega
            clear hik
            go_wp2_with (go_at_call 41; (with_reducible refine (Hpo.out _).mono ?_); rintro e w2 ⟨rfl, hq⟩)
            go_meet
            exact ⟨by rw [ho1e], hq⟩
        case rest =>
          obtain ⟨rfl, hq⟩ := hcut
          obtain ⟨hown1, hbx1⟩ := H1.out
          have hown2 := hown1.below hq (Nat.le_refl _)
          have hbx2 := hbx1.below hq (by omega)
          have hbel2 := hbel1.trans (hq.mono hbel1B)
          have hU2 : U + 1 ≤ wc.heap.size := Nat.le_trans hU1 hq.size
          have hbel2B : B ≤ wc.heap.size := by have := hq.size; omega
          clear hown1 hbx1 hbel1 hU1 H1 hq hbel1B
          have hcl1 : k < N1[k].length := by rw [hg1.len hkm1]; exact hlt
          obtain ⟨hhd, hff⟩ := hown2.head hkm1
          obtain ⟨gk, restk, e1, h2, h3, h4, h5⟩ := hown2.at_ hkm1 hcl1
          rw [e1] at hhd
          rw [hg1.len hkm1] at hhd h5
          have hue := ent_at hkm1 hcl1
          have c4 : wc.cell? ⟨gk, k, none⟩ = some (.int .u32 (ent N1 k k : Int)) := by
            rw [h4.cell, List.getElem?_append_left (by rw [u32s_length]; exact hcl1), u32s_at hcl1, ← hue]
          have hul := hg1.ent_lt hp0 k k
          have hk3 : k < hs3.length := hown2.len ▸ hkm1
          have hgkU : gk < U := hub1.at_ hk3 e1
          obtain ⟨ck, hck⟩ : ∃ ck, ck = (hs3[k]'hk3).2 := ⟨_, rfl⟩
          rw [← hck] at hhd h5
          have Hck := Lib.hid hck
          have He1 : Hid ((hs3[k]'hk3).1 = some ⟨gk, 0, none⟩) := e1
          have H4 := Lib.hid h4
          obtain ⟨x0, hx0⟩ : ∃ x0, x0 = ent N1 k k := ⟨_, rfl⟩
          rw [← hx0] at c4 hul he1 Hst
          have c5 := hbx2.cell 0
          have c6 := hbx2.cell 1
          have hol1 : o1 < p := ho1l
          have Hp2 : Hid (∀ W, Calls Tryd.prog 41 #[fieldV p sp, .int .u32 0, .int .u32 (o1 : Int), .int .u32 (x0 : Int)] W fun e w' => e = .returned (.int .u32 (plusN p 0 o1 x0 : Int)) ∧ Below W.heap.size W w') := fun W => plus0_any p sp o1 x0 W hp0 hp (by omega) (by omega)
          have ho2l := plusN_lt hp0 0 o1 x0
          obtain ⟨o2, ho2⟩ : ∃ o2, o2 = plusN p 0 o1 x0 := ⟨_, rfl⟩
          rw [← ho2] at Hp2 ho2l
          have Hst2 : Hid (detTo p M (k + 1) = some (N2, o2)) := by show _ = _; rw [Hst.out, ← Ho1.out, ho2]
          have Hfi : Hid (∀ W, Below wc.heap.size wc W → Calls Tryd.prog 62 #[fieldV p sp, .int .u32 (x0 : Int)] W fun e w' => e = .returned (.int .u32 (invN p x0 : Int)) ∧ Below W.heap.size W w') := fun W hW => finv_any p sp x0 W hpr hp (Hbw.out W (hbel2.trans (hW.mono hbel2B))) (by rw [Nat.mod_eq_of_lt hul]; exact he1)
          have hvl := invN_lt hp0 x0
          obtain ⟨v0, hv0⟩ : ∃ v0, v0 = invN p x0 := ⟨_, rfl⟩
          rw [← hv0] at Hfi hvl
          have Hx0 := Lib.hid hx0
          have Hv0 := Lib.hid hv0
          have H5 := Lib.hid h5
          have hgl2 : g < wc.heap.size := by omega
          have hgk2 : gk < wc.heap.size := by omega
          have hUl : U < wc.heap.size := by omega
          clear hue hck e1 h4 hx0 hv0 h5 ho2 ho1e Hpo Hst
          go_upto_region 10 with (fail)
          go_still_tail 9, (by kernel_rfl)
          change wpList _ _ _ _ _ wc.drew
          go_upto_region 11 with (go_at_call 41; (with_reducible refine (Hp2.out _).mono ?_); rintro e w2 ⟨rfl, hq⟩)
          have hq2 : Below wc.heap.size wc w2 := (Below.refl _ _).drew.trans hq
          have hhd2 := (hq2.cell (p := ⟨g, k, none⟩) hgl2).trans hhd
          have c42 := (hq2.cell (p := ⟨gk, k, none⟩) hgk2).trans c4
          have c52 := (hq2.cell (p := ⟨U, 0, none⟩) hUl).trans c5
          have c62 := (hq2.cell (p := ⟨U, 1, none⟩) hUl).trans c6
          clear hq
          go_still_tail 8, (by kernel_rfl)
          change wpList _ _ _ _ _ w2.drew
          go_wp2_with (go_at_call 62; (with_reducible refine (Hfi.out _ hq2.drew).mono ?_); rintro e w3 ⟨rfl, hq3⟩)
          have hq3' : Below wc.heap.size wc w3 := hq2.drew.trans (hq3.mono (by have := hq2.size; simpa using this))
          have hown3 := hown2.below hq3' (Nat.le_refl _)
          have hbx3 := hbx2.below hq3' (by omega)
          have hbel3 := hbel2.trans (hq3'.mono hbel2B)
          have hU3 : U + 1 ≤ w3.heap.size := Nat.le_trans hU2 hq3'.size
          have hN2l : N2.length = N1.length := by rw [HN2.out, elimN_length]
          have hN2a : ∀ i (h : i < N1.length) (h2 : i < N2.length), N2[i] = if k < i then subN p (plusN p 0 (ent N1 i k) v0) N1[i] N1[k] else N1[i] := fun i h h2 => by
            have e := HN2.out
            subst e
            rw [Hv0.out, Hx0.out]
            exact elimN_at h hkm1 h2
          have HN2l := Lib.hid hN2l
          have HN2a : Hid (∀ i (h : i < N1.length) (h2 : i < N2.length), N2[i] = if k < i then subN p (plusN p 0 (ent N1 i k) v0) N1[i] N1[k] else N1[i]) := hN2a
          have hmix0 : mix N2 N1 (k + 1) = N1 := by
            apply List.ext_getElem (mix_length hN2l _)
            intro j h1 h2
            by_cases hj : j < k + 1
            · have h3 : j < N2.length := by rw [hN2l]; exact h2
              have e2 : (mix N2 N1 (k + 1))[j]? = some N1[j] := by
                unfold mix
                rw [List.getElem?_append_left (by rw [List.length_take]; omega), List.getElem?_take, if_pos hj, List.getElem?_eq_getElem h3, hN2a j h2 h3, if_neg (by omega)]
              obtain ⟨_, e3⟩ := List.getElem?_eq_some_iff.1 e2
              exact e3
            · have e2 : (mix N2 N1 (k + 1))[j]? = some N1[j] := by
                unfold mix
                rw [List.getElem?_append_right (by rw [List.length_take]; omega), List.length_take, List.getElem?_drop, show k + 1 + (j - min (k + 1) N2.length) = j from by omega, List.getElem?_eq_getElem h2]
              obtain ⟨_, e3⟩ := List.getElem?_eq_some_iff.1 e2
              exact e3
          have hown3' : Own w3 B g hs3 (mix N2 N1 (k + 1)) := by rw [hmix0]; exact hown3
          clear hown2 hbx2 hbel2 hU2 hq2 hhd hff c4 c5 c6 hhd2 c42 c52 c62 hq3 hq3' hown3 hN2l hN2a hmix0 Hfi Hp2 hbel2B
          go_loopw [8] (fun iv wr => ∃ (i : Nat), k < i ∧ i ≤ M.length ∧ iv = .int .i64 (i : Int) ∧ Own wr B g hs3 (mix N2 N1 i) ∧ Blk wr U 63 [.int .u64 (p : Int), .int .u64 (sp : Int)] ∧ U + 1 ≤ wr.heap.size ∧ Below B w wr) (fun iv _ => M.length - (intOf iv).toNat)
          case atStart => exact ⟨k + 1, by omega, by omega, by go_num, hown3', hbx3, hU3, hbel3⟩
          case round =>
            clear hown3' hbx3 hbel3 hU3
            obtain ⟨i, hki, hi, rfl, hown, hbx, hUs, hbel⟩ := hrel
            have hml := mix_length HN2l.out i
            by_cases hil : i < M.length
            · have hi2 : i < N1.length := by rw [HN1l.out]; exact hil
              have hi3' : i < N2.length := by rw [HN2l.out]; exact hi2
              have him : i < (mix N2 N1 i).length := by rw [hml]; exact hi2
              have hkm2 : k < (mix N2 N1 i).length := by rw [hml]; exact hkm1
              have hik : ¬ (i = k) := by omega
              have ei := mix_at HN2l.out hi2 him
              have ek := mix_keep HN2l.out hkm1 i (by rw [HN2a.out k hkm1 (by rw [HN2l.out]; exact hkm1), if_neg (by omega)]) hkm2
              have wi : (mix N2 N1 i)[i].length = M.length := by rw [ei]; exact hg1.len hi2
              have wk : (mix N2 N1 i)[k].length = M.length := by rw [ek]; exact hg1.len hkm1
              obtain ⟨hdi, _⟩ := hown.head him
              obtain ⟨hdk, _⟩ := hown.head hkm2
              obtain ⟨gi, resti, ei1, i2, i3, i4, i5⟩ := hown.at_ him (k := k) (by rw [wi]; exact hlt)
              obtain ⟨gk2, restk2, ek1, k2, k3, k4, k5⟩ := hown.at_ hkm2 (k := k) (by rw [wk]; exact hlt)
              have hnek : gi ≠ gk2 := fun e => hown.nd i k him hkm2 hik (fun e => by rw [e] at wi; simp at wi; omega) (fun e => by rw [e] at wk; simp at wk; omega) (by rw [ei1, ek1, e])
              rw [ei1] at hdi
              rw [ek1] at hdk
              rw [wi] at hdi
              rw [wk] at hdk
              have hi3l : i < hs3.length := by have := hown.len; omega
              have hiU : gi < U := hub1.at_ hi3l ei1
              obtain ⟨ci, hci⟩ : ∃ ci, ci = (hs3[i]'hi3l).2 := ⟨_, rfl⟩
              rw [← hci] at hdi i5
              rw [← Hck.out] at hdk
              rw [He1.out] at ek1
              obtain rfl : gk = gk2 := by simpa using ek1
              have Hnn : Hid ((mix N2 N1 i)[i] ≠ []) := fun e => by rw [e] at wi; simp at wi; omega
              have Hwi := Lib.hid wi
              have Hei1 : Hid ((hs3[i]'hi3l).1 = some ⟨gi, 0, none⟩) := ei1
              have Hi5 := Lib.hid i5
              have Hci := Lib.hid hci
              have hwi2 := hg1.len hi2
              have hwk2 := hg1.len hkm1
              have hDi : ∀ x ∈ N1[i], x < p := fun x hx => hg1.dig _ (List.getElem_mem hi2) x hx
              have hDk : ∀ x ∈ N1[k], x < p := fun x hx => hg1.dig _ (List.getElem_mem hkm1) x hx
              have hent := ent_at (M := N1) hi2 (k := k) (by rw [hwi2]; exact hlt)
              have hN3i := HN2a.out i hi2 hi3'
              rw [if_pos hki] at hN3i
              rw [ei] at i4
              rw [ek] at k4
              have Hset := Lib.hid (mix_set HN2l.out hi3')
              have Hr3l : Hid (N2[i].length = M.length) := by show _ = _; rw [hN3i, subN_length (by rw [hwi2, hwk2]), hwi2]
              obtain ⟨X, hX⟩ : ∃ X, X = N1[i] := ⟨_, rfl⟩
              obtain ⟨V, hV⟩ : ∃ V, V = N1[k] := ⟨_, rfl⟩
              rw [← hX] at i4 hwi2 hDi hN3i
              rw [← hV] at k4 hwk2 hDk hN3i
              simp only [← hX] at hent
              have hcX : k < X.length := by rw [hwi2]; exact hlt
              have hxl : X[k] < p := hDi _ (List.getElem_mem hcX)
              have ce : wr.cell? ⟨gi, k, none⟩ = some (.int .u32 (X[k] : Nat)) := by
                rw [i4.cell, List.getElem?_append_left (by rw [u32s_length]; exact hcX), u32s_at hcX]
              obtain ⟨x1, hx1⟩ : ∃ x1, x1 = X[k] := ⟨_, rfl⟩
              rw [← hx1] at ce hxl hent
              rw [hent] at hN3i
              have Hpf : Hid (∀ W, Calls Tryd.prog 41 #[fieldV p sp, .int .u32 0, .int .u32 (x1 : Int), .int .u32 (v0 : Int)] W fun e w' => e = .returned (.int .u32 (plusN p 0 x1 v0 : Int)) ∧ Below W.heap.size W w') := fun W => plus0_any p sp x1 v0 W hp0 hp (by omega) (by omega)
              have hfl := plusN_lt hp0 0 x1 v0
              obtain ⟨f1, hf1⟩ : ∃ f1, f1 = plusN p 0 x1 v0 := ⟨_, rfl⟩
              rw [← hf1] at Hpf hfl hN3i
              have hgir := i4.lt
              have hgkr := k4.lt
              have Hsub : Hid (∀ W, Below wr.heap.size wr W → Calls Tryd.prog 63 #[fieldV p sp, .slice (some ⟨gi, 0, none⟩) M.length ci, .slice (some ⟨gk, 0, none⟩) M.length ck, .int .u32 (f1 : Int)] W fun e w' => e = .returned (.tuple #[]) ∧ Blk w' gi 28 (u32s N2[i] ++ resti) ∧ Tn gi wr w') := fun W hW => by
                have h9 := subtract_any p sp f1 (some ⟨gi, 0, none⟩) (some ⟨gk, 0, none⟩) ci ck X V W hp0 hp hfl (by rw [hwi2, hwk2]) (by rw [hwi2]; omega) (fun x hx => Nat.lt_trans (hDi x hx) hp) (fun x hx => Nat.lt_trans (hDk x hx) hp) gi gk resti restk2 hnek (fun _ => rfl) (fun _ => rfl) (i4.below hW hgir) (k4.below hW hgkr)
                rw [hwi2, hwk2, ← hN3i] at h9
                exact h9.mono fun e w' ⟨h1, h2, h3⟩ => ⟨h1, h2, (Tn.of_below hW (Nat.le_refl _)).trans h3⟩
              have c5 := hbx.cell 0
              have c6 := hbx.cell 1
              have hgr : g < wr.heap.size := by omega
              have hUr : U < wr.heap.size := by omega
              clear hwi2 hwk2 hDi hDk hent hN3i i4 k4 hX hV hx1 hf1 ei ek wi wk ei1 ek1 hci i5 k5 hnek hcX
              go_upto_region 15 with (fail)
              refine wp_region_held_drew (S := fun W => W.cell? ⟨g, i, none⟩ = some (.slice (some ⟨gi, 0, none⟩) M.length ci) ∧ W.cell? ⟨g, k, none⟩ = some (.slice (some ⟨gk, 0, none⟩) M.length ck) ∧ W.cell? ⟨U, 0, none⟩ = some (.int .u64 (p : Int)) ∧ W.cell? ⟨U, 1, none⟩ = some (.int .u64 (sp : Int))) (by kernel_rfl) ⟨hdi, hdk, c5, c6⟩ (fun hHeld => ?_)
              refine wpAnyH_take (i := 0) (v := ?v0) rfl (by kernel_rfl) (by kernel_rfl) (by kernel_rfl) (fun _ _ _ h => h) (Or.inl ⟨by rfl, ?hy0⟩) hHeld ?rest0
              case hy0 => intro w9 hSw; (try dsimp only at hSw); go_simp; try with_reducible rfl
              try simp only [Act.put, List.setIfInBounds_toArray]
              refine wpAnyH_take (i := 1) (v := ?v1) rfl (by kernel_rfl) (by kernel_rfl) (by kernel_rfl) (fun _ _ _ h => h) (Or.inl ⟨by rfl, ?hy1⟩) hHeld ?rest1
              case hy1 => intro w9 hSw; (try dsimp only at hSw); go_simp; try with_reducible rfl
              try simp only [Act.put]
              refine wpAnyH_take (i := 2) (v := ?v2) rfl (by kernel_rfl) (by kernel_rfl) (by kernel_rfl) (fun _ _ _ h => h) (Or.inl ⟨by rfl, ?hy2⟩) hHeld ?rest2
              case hy2 => intro w9 hSw; (try dsimp only at hSw); go_simp; try with_reducible rfl
              try simp only [Act.put]
              refine wpAnyH_take (i := 3) (v := ?v3) rfl (by kernel_rfl) (by kernel_rfl) (by kernel_rfl) (fun _ _ _ h => h) (Or.inl ⟨by rfl, ?hy3⟩) hHeld ?rest3
              case hy3 => intro w9 hSw; (try dsimp only at hSw); go_simp; try with_reducible rfl
              try simp only [Act.put]
              refine wpAnyH_take (i := 4) (v := ?v4) rfl (by kernel_rfl) (by kernel_rfl) (by kernel_rfl) (fun _ _ _ h => h) (Or.inl ⟨by rfl, ?hy4⟩) hHeld ?rest4
              case hy4 => intro w9 hSw; (try dsimp only at hSw); go_simp; try with_reducible rfl
              try simp only [Act.put]
              refine wpAnyH_take (i := 5) (v := ?v5) rfl (by kernel_rfl) (by kernel_rfl) (by kernel_rfl) (fun _ _ _ h => h) (Or.inl ⟨by rfl, ?hy5⟩) hHeld ?rest5
              case hy5 => intro w9 hSw; (try dsimp only at hSw); go_simp; try with_reducible rfl
              try simp only [Act.put]
              refine wpAnyH_take (i := 6) (v := ?v6) rfl (by kernel_rfl) (by kernel_rfl) (by kernel_rfl) (fun _ _ _ h => h) (Or.inl ⟨by rfl, ?hy6⟩) hHeld ?rest6
              case hy6 => intro w9 hSw; (try dsimp only at hSw); go_simp; try with_reducible rfl
              try simp only [Act.put]
              refine wpAnyH_take (i := 7) (v := ?v7) rfl (by kernel_rfl) (by kernel_rfl) (by kernel_rfl) (fun _ _ _ h => h) (Or.inl ⟨by rfl, ?hy7⟩) hHeld ?rest7
              case hy7 => intro w9 hSw; (try dsimp only at hSw); go_simp; try with_reducible rfl
              try simp only [Act.put]
              refine wpAnyH_take (i := 8) (v := ?v8) rfl (by kernel_rfl) (by kernel_rfl) (by kernel_rfl) (fun _ _ _ h => h) (Or.inl ⟨by rfl, ?hy8⟩) hHeld ?rest8
              case hy8 => intro w9 hSw; (try dsimp only at hSw); go_simp; try with_reducible rfl
              try simp only [Act.put]
              refine wpAnyH_take (i := 9) (v := ?v9) rfl (by kernel_rfl) (by kernel_rfl) (by kernel_rfl) (fun _ _ _ h => h) (Or.inl ⟨by rfl, ?hy9⟩) hHeld ?rest9
              case hy9 => intro w9 hSw; (try dsimp only at hSw); go_simp; try with_reducible rfl
              try simp only [Act.put]
              refine wpAnyH_take (i := 10) (v := ?v10) rfl (by kernel_rfl) (by kernel_rfl) (by kernel_rfl) (fun _ _ _ h => h) (Or.inl ⟨by rfl, ?hy10⟩) hHeld ?rest10
              case hy10 => intro w9 hSw; (try dsimp only at hSw); go_simp; try with_reducible rfl
              try simp only [Act.put]
              refine wpAnyH_take (i := 11) (v := ?v11) rfl (by kernel_rfl) (by kernel_rfl) (by kernel_rfl) (fun _ _ _ h => h) (Or.inl ⟨by rfl, ?hy11⟩) hHeld ?rest11
              case hy11 => intro w9 hSw; (try dsimp only at hSw); go_simp; try with_reducible rfl
              try simp only [Act.put]
              refine wpAnyH_take (i := 12) (v := ?v12) rfl (by kernel_rfl) (by kernel_rfl) (by kernel_rfl) (fun _ _ _ h => h) (Or.inl ⟨by rfl, ?hy12⟩) hHeld ?rest12
              case hy12 => intro w9 hSw; (try dsimp only at hSw); go_simp; try with_reducible rfl
              try simp only [Act.put]
              refine wpAnyH_take (i := 13) (v := ?v13) rfl (by kernel_rfl) (by kernel_rfl) (by kernel_rfl) (fun _ _ _ h => h) (Or.inl ⟨by rfl, ?hy13⟩) hHeld ?rest13
              case hy13 => intro w9 hSw; (try dsimp only at hSw); go_simp; try with_reducible rfl
              try simp only [Act.put]
              refine wpAnyH_take (i := 14) (v := ?v14) rfl (by kernel_rfl) (by kernel_rfl) (by kernel_rfl) (fun _ _ _ h => h) (Or.inl ⟨by rfl, ?hy14⟩) hHeld ?rest14
              case hy14 => intro w9 hSw; (try dsimp only at hSw); go_simp; try with_reducible rfl
              try simp only [Act.put]
              refine wpAnyH_take (i := 15) (v := ?v15) rfl (by kernel_rfl) (by kernel_rfl) (by kernel_rfl) (fun _ _ _ h => h) (Or.inl ⟨by rfl, ?hy15⟩) hHeld ?rest15
              case hy15 => intro w9 hSw; (try dsimp only at hSw); go_simp; try with_reducible rfl
              try simp only [Act.put]
              refine wpAnyH_take (i := 17) (v := ?v17) rfl (by kernel_rfl) (by kernel_rfl) (by kernel_rfl) (fun _ _ _ h => h) (Or.inl ⟨by rfl, ?hy17⟩) hHeld ?rest17
              case hy17 => intro w9 hSw; (try dsimp only at hSw); go_simp; try with_reducible rfl
              try simp only [Act.put]
              refine wpAnyH_ready (rs := [16]) (by kernel_rfl) (by simp) ?_
              refine AllReadyH.cons rfl (fun K hK => ?_) AllReadyH.nil
              go_simp
              refine hK.out _ _ ⟨hdi, hdk, c5, c6⟩ (fun hHeld2 => ?_)
              clear hK hHeld
              try simp only [Act.put, List.setIfInBounds_toArray, List.set_cons_zero, List.set_cons_succ]
              refine wpAnyH_ready (rs := [18]) (by kernel_rfl) (by simp) ?_
              refine AllReadyH.cons rfl (fun K hK => ?_) AllReadyH.nil
              go_simp
              refine (Hpf.out _).mono ?_
              rintro e w4 ⟨rfl, hq⟩
              have hq4 : Below wr.heap.size wr w4 := (Below.refl _ _).drew.trans hq
              have hdi4 := (hq4.cell (p := ⟨g, i, none⟩) hgr).trans hdi
              have hdk4 := (hq4.cell (p := ⟨g, k, none⟩) hgr).trans hdk
              have c54 := (hq4.cell (p := ⟨U, 0, none⟩) hUr).trans c5
              have c64 := (hq4.cell (p := ⟨U, 1, none⟩) hUr).trans c6
              clear hq
              dsimp only
              refine hK.out _ _ ⟨hdi4, hdk4, c54, c64⟩ (fun hHeld => ?_)
              clear hK hHeld2
              try simp only [Act.put, List.setIfInBounds_toArray, List.set_cons_zero, List.set_cons_succ]
              refine wpAnyH_ready (rs := [19]) (by kernel_rfl) (by simp) ?_
              refine AllReadyH.cons rfl (fun K hK => ?_) AllReadyH.nil
              go_simp
              refine (Hsub.out _ hq4).mono ?_
              rintro e w5 ⟨rfl, hb9, htn⟩
              have htn4 := htn
              dsimp only
              refine hK.out _ _ ⟨?_, ?_, ?_, ?_⟩ (fun hHeld2 => ?_)
              · exact (htn.cell (p := ⟨g, i, none⟩) hgr (Ne.symm i2)).trans hdi
              · exact (htn.cell (p := ⟨g, k, none⟩) hgr (Ne.symm i2)).trans hdk
              · exact (htn.cell (p := ⟨U, 0, none⟩) hUr (by show U ≠ gi; omega)).trans c5
              · exact (htn.cell (p := ⟨U, 1, none⟩) hUr (by show U ≠ gi; omega)).trans c6
              clear hK hHeld
              try simp only [Act.put, List.setIfInBounds_toArray, List.set_cons_zero, List.set_cons_succ]
              refine wpAnyH_done (by kernel_rfl) ?_ _
              go_wp2_with fail
              go_roundw
              case rel =>
                have hn := hown.setRow him (gi := gi) (r := N2[i]) (rest := resti) Hei1.out htn hb9 (by rw [Hr3l.out, Hwi.out]) i2 i3 (by rw [Hwi.out]; have := Hi5.out; rw [Hwi.out] at this; rw [← Hci.out]; exact this) Hnn.out
                rw [Hset.out] at hn
                exact ⟨i + 1, by omega, by omega, by go_num, hn, hbx.tn htn (by omega), by have := htn.size; omega, hbel.trans (htn.below i3 (by omega))⟩
              case measure => simp [intOf]; omega
            · have hie : i = N1.length := by have := HN1l.out; omega
              have hN2o : Own wr B g hs3 N2 := by
                rw [hie, mix_all HN2l.out] at hown; exact hown
              have hil2 : M.length ≤ i := by omega
              clear hie hown
              go_wp2_with fail
              go_roundw
              case rel => exact ⟨k + 1, o2, N2, hs3, by omega, by go_num, rfl, Hst2.out, hN2o, hub1, hbx, hUs, hbel⟩
              case measure => simp [intOf]; omega
    · have hke : k = M.length := by omega
      have hD2 : D = o := by
        rw [HD.out]; unfold detN
        rw [← hke, HT.out]
      have hD3 := Lib.hid hD2
      have hge : M.length ≤ k := by omega
      clear hke hD2
      go_wp2_with fail
      go_ret
      exact ⟨by rw [hD3.out]; rfl, hbel⟩
end
section
open Go.RowKit

def trN (M : List (List Nat)) : List (List Nat) := mtab (cols M) M.length fun i k => ent M k i
def idN (n : Nat) : List (List Nat) := mtab n n fun i k => if i = k then 1 else 0
def mulN (p : Nat) (A B : List (List Nat)) : List (List Nat) := mtab A.length (cols B) fun i k => dotS (A.getD i []) ((trN B).getD k []) % p

theorem mtab_row {r c : Nat} {E : Nat → Nat → Nat} : ∀ x ∈ mtab r c E, x.length = c := fun x hx => by
  obtain ⟨i, _, rfl⟩ := List.mem_map.1 hx; simp
theorem mtab_dig {b r c : Nat} {E : Nat → Nat → Nat} (h : ∀ i k, i < r → k < c → E i k < b) : DigM b (mtab r c E) := fun x hx y hy => by
  obtain ⟨i, hi, rfl⟩ := List.mem_map.1 hx
  obtain ⟨k, hk, rfl⟩ := List.mem_map.1 hy
  exact h i k (by simpa using hi) (by simpa using hk)
theorem mtab_cols {r c : Nat} {E : Nat → Nat → Nat} (h : 0 < r) : cols (mtab r c E) = c := by
  rw [cols_eq _ (by rw [mtab_length]; exact h), mtab_at]; simp
theorem mtab_good {p r c : Nat} {E : Nat → Nat → Nat} (h : ∀ i k, i < r → k < c → E i k < p) : Good p c (mtab r c E) := ⟨mtab_row, mtab_dig h⟩

theorem transposed1_any (h : Nat) (A : Option Addr) (c : Nat) (M : List (List Nat)) (B i k : Nat) (w : World) (hb : Blk w h 26 [.slice A M.length c]) (hr : RdM w B A M) (hk : k < M.length) (hi : i < M[k].length) (_ : M.length ≤ 281474976710656) :
    Calls Tryd.prog 69 #[.int .i64 (i : Int), .int .i64 (k : Int), .pointer (some ⟨h, 0, none⟩)] w fun e w' => e = .returned (.int .u32 (M[k][i] : Nat)) ∧ w' = w := by
  have c1 := hb.cell0
  obtain ⟨b, off, Ak, ck, rfl, hbb, hx, hlc, hcm, hrd⟩ := hr.at_ hk
  obtain ⟨b2, off2, rfl, hb2, hy⟩ := hrd.at32 hi
  obtain ⟨n, hn⟩ : ∃ n, n = M[k].length := ⟨_, rfl⟩
  obtain ⟨v, hv⟩ : ∃ v, v = M[k][i] := ⟨_, rfl⟩
  rw [← hn] at hi hx hlc
  rw [← hv] at hy ⊢
  clear hn hv
  go_enter Tryd.func69, Tryd.ntmps69
  go_wp2
  go_ret
  exact ⟨rfl, rfl⟩

set_option maxHeartbeats 1600000 in
theorem transposed_any (A : Option Addr) (c : Nat) (M : List (List Nat)) (w : World) (B : Nat) (hr : RdM w B A M) (hB : B ≤ w.heap.size) (hrect : Rect M) (hd : DigM 4294967296 M) (hc : M.length ≤ c) (hm : M.length ≤ 11728124029610) (hn : cols M ≤ 11728124029610) :
    Calls Tryd.prog 57 #[.slice A M.length c] w fun e w' => ∃ g hs, e = .returned (.slice (some ⟨g, 0, none⟩) (cols M) (cols M)) ∧ Own w' w.heap.size g hs (trN M) ∧ UB w'.heap.size hs ∧ Below w.heap.size w w' := by
  obtain ⟨W0, hW0⟩ : ∃ W0, W0 = w.alloc (.cells #[.slice A M.length c] 26 (0, 0)) := ⟨_, rfl⟩
  have hb0 : Below w.heap.size w W0 := by rw [hW0]; exact (Below.refl _ _).alloc (Nat.le_refl _) _
  have hbk : Blk W0 w.heap.size 26 [.slice A M.length c] := by rw [hW0]; exact Blk.new_ rfl
  have hr0 := hr.below (hb0.mono hB)
  have hwl : w.heap.size < W0.heap.size := hbk.lt
  have Hcol : Hid (∀ W, Below W0.heap.size W0 W → Calls Tryd.prog 51 #[.slice A M.length c] W fun e w' => e = .returned (.int .i64 (cols M : Int)) ∧ w' = W) := fun W hW =>
    columns_any A c M W B (hr0.below (hW.mono (by omega))) hc (by omega)
  have Hmade : Hid (∀ W, Below W0.heap.size W0 W → Calls Tryd.prog 55 #[.int .i64 (cols M : Int), .int .i64 (M.length : Int), .func (.func 69) #[] #[.pointer (some ⟨w.heap.size, 0, none⟩)]] W fun e w' => ∃ g hs, e = .returned (.slice (some ⟨g, 0, none⟩) (cols M) (cols M)) ∧ Own w' W.heap.size g hs (trN M) ∧ UB w'.heap.size hs ∧ Below W.heap.size W w') := fun W hW => by
    have h9 := made_any 69 (fun args W => Tryd.call69 args W) #[.pointer (some ⟨w.heap.size, 0, none⟩)] (cols M) M.length (fun i k => ent M k i) W (by omega) (by omega) (fun W2 hW2 i k hi hk => by
      have hwW : Below W0.heap.size W0 W2 := hW.trans (hW2.mono hW.size)
      have hik : i < M[k].length := by rw [hrect.at_ k hk]; exact hi
      rw [ent_at hk hik]
      refine ⟨hd.at_ hk hik, ?_⟩
      exact (transposed1_any w.heap.size A c M B i k W2 (hbk.below hwW hwl) (hr0.below (hwW.mono (by omega))) hk hik (by omega)).mono fun e w' ⟨h1, h2⟩ => ⟨h1, by rw [h2]; exact Below.refl _ _⟩)
    exact h9
  have c1 := hbk.cell0
  have hmf : ∀ (fn : Fn) (first cap : Array Value) (w : World), (Instr.makeFunc fn first cap).run Tryd.prog w = .ok (.func fn first cap) w := fun _ _ _ _ => rfl
  rw [hW0] at c1
  have HW0 := Lib.hid hW0
  clear hr hr0 hbk hd hrect hW0
  go_enter Tryd.func57, Tryd.ntmps57
  go_wp2_with fail
  rw [← HW0.out] at c1 ⊢
  go_region_held3 (fun W => W.cell? ⟨w.heap.size, 0, none⟩ = some (.slice A M.length c)) (first | exact c1 | exact hcc.out | go_keep) (first
    | (go_at_call 51; (with_reducible refine (Hcol.out _ (by first | exact Below.refl _ _ | exact (Below.refl _ _).drew)).mono ?_); rintro e w1 ⟨rfl, rfl⟩)
    | (go_at_call 55; (with_reducible refine (Hmade.out _ (by first | exact Below.refl _ _ | exact (Below.refl _ _).drew)).mono ?_); rintro e w1 ⟨g1, hs1, rfl, ho1, hu1, hbl1⟩; have hq1 : Below W0.heap.size W0 w1 := (by first | exact hbl1 | exact (Below.refl _ _).drew.trans hbl1); have hcc := Lib.hid ((hq1.cell (p := ⟨w.heap.size, 0, none⟩) hwl).trans c1)))
  all_goals
    go_wp2_with fail
    go_ret
    exact ⟨g1, hs1, rfl, ho1.mono (Nat.le_of_lt hwl), hu1, hb0.trans (hq1.mono (Nat.le_of_lt hwl))⟩

theorem identity1_any (i k : Nat) (w : World) :
    Calls Tryd.prog 58 #[.int .i64 (i : Int), .int .i64 (k : Int)] w fun e w' => e = .returned (.int .u32 ((if i = k then 1 else 0 : Nat) : Int)) ∧ w' = w := by
  by_cases h : i = k
  · have t1 : ((i : Int) == (k : Int)) = true := by rw [h]; simp
    rw [if_pos h]
    clear h
    go_enter Tryd.func58, Tryd.ntmps58
    go_wp2
    go_ret
    exact ⟨rfl, rfl⟩
  · have t1 : ((i : Int) == (k : Int)) = false := by simp; omega
    rw [if_neg h]
    clear h
    go_enter Tryd.func58, Tryd.ntmps58
    go_wp2
    go_ret
    exact ⟨rfl, rfl⟩

theorem identity_any (n : Nat) (w : World) (hn : n ≤ 11728124029610) :
    Calls Tryd.prog 39 #[.int .i64 (n : Int)] w fun e w' => ∃ g hs, e = .returned (.slice (some ⟨g, 0, none⟩) n n) ∧ Own w' w.heap.size g hs (idN n) ∧ UB w'.heap.size hs ∧ Below w.heap.size w w' := by
  have Hm := Lib.hid (made_any 58 (fun args W => Tryd.call58 args W) #[] n n (fun i k => if i = k then 1 else 0) w hn (by omega) (fun W _ i k _ _ => ⟨by split <;> omega, (identity1_any i k W).mono fun e w' ⟨h1, h2⟩ => ⟨h1, by rw [h2]; exact Below.refl _ _⟩⟩))
  go_enter Tryd.func39, Tryd.ntmps39
  go_wp2_with (go_at_call 55; (with_reducible refine Hm.out.mono ?_); rintro e w1 ⟨g1, hs1, rfl, ho1, hu1, hb1⟩)
  go_ret
  exact ⟨g1, hs1, rfl, ho1, hu1, hb1⟩

set_option maxHeartbeats 1600000 in
theorem product1_any (p sp f0 f1 f2 : Nat) (A A2 : Option Addr) (c c2 : Nat) (M T : List (List Nat)) (B B2 i k : Nat) (w : World) (hp0 : 0 < p) (hp : p < 4294967296) (hsp : sp = 18446744073709551616 % p)
    (hb0 : Blk w f0 63 [.int .u64 (p : Int), .int .u64 (sp : Int)]) (hb1 : Blk w f1 26 [.slice A M.length c]) (hb2 : Blk w f2 26 [.slice A2 T.length c2]) (hr : RdM w B A M) (hr2 : RdM w B2 A2 T) (hB : B ≤ w.heap.size) (hB2 : B2 ≤ w.heap.size)
    (hi : i < M.length) (hk : k < T.length) (hl : M[i].length ≤ T[k].length) (_ : M.length ≤ 281474976710656) (_ : T.length ≤ 281474976710656) (d1 : DigM 4294967296 M) (d2 : DigM 4294967296 T) :
    Calls Tryd.prog 59 #[.int .i64 (i : Int), .int .i64 (k : Int), .pointer (some ⟨f0, 0, none⟩), .pointer (some ⟨f1, 0, none⟩), .pointer (some ⟨f2, 0, none⟩)] w fun e w' => e = .returned (.int .u32 (dotS M[i] T[k] % p : Nat)) ∧ Below w.heap.size w w' := by
  have c0 := hb0.cell 0
  have c1 := hb0.cell 1
  have c2' := hb1.cell0
  have c3 := hb2.cell0
  obtain ⟨b, off, Ai, ci, rfl, hbb, hx, hlc, hcm, hrd⟩ := hr.at_ hi
  obtain ⟨b2, off2, Ak, ck, rfl, hbb2, hx2, hlc2, hcm2, hrd2⟩ := hr2.at_ hk
  have Hdot : Hid (∀ W, Dr w W → Calls Tryd.prog 60 #[fieldV p sp, .slice Ai M[i].length ci, .slice Ak T[k].length ck] W fun e w' => e = .returned (.int .u32 (dotS M[i] T[k] % p : Nat)) ∧ Below w.heap.size w w') := fun W hW => by
    obtain ⟨nd, rfl⟩ := hW
    refine (dot_any p sp Ai Ak ci ck M[i] T[k] (w.drewN nd) w.heap.size hp0 hp hsp ((hrd.below ((Dr.refl w).step nd |>.below B)).mono hB) ((hrd2.below ((Dr.refl w).step nd |>.below B2)).mono hB2) (Nat.le_refl _) hl (by omega) (d1 _ (List.getElem_mem hi)) (d2 _ (List.getElem_mem hk))).mono ?_
    rintro e w' ⟨h1, h2⟩
    exact ⟨h1, (bdrewN (Below.refl _ _) nd).trans h2⟩
  obtain ⟨n1, hn1⟩ : ∃ n1, n1 = M[i].length := ⟨_, rfl⟩
  obtain ⟨n2, hn2⟩ : ∃ n2, n2 = T[k].length := ⟨_, rfl⟩
  obtain ⟨v, hv⟩ : ∃ v, v = dotS M[i] T[k] % p := ⟨_, rfl⟩
  rw [← hv] at Hdot ⊢
  rw [← hn1] at hx hlc Hdot
  rw [← hn2] at hx2 hlc2 Hdot
  clear hn1 hn2 hv hrd hrd2 hr hr2 hb0 hb1 hb2 d1 d2 hl hsp
  go_enter Tryd.func59, Tryd.ntmps59
  go_wp2_with fail
  go_still_tail 9, (by kernel_rfl)
  change wpList _ _ _ _ _ w.drew
  go_wp2_with (go_at_call 60; (with_reducible refine (Hdot.out w.drew (Dr.refl _).drew).mono ?_); rintro e w1 ⟨rfl, hq⟩)
  go_ret
  exact ⟨rfl, hq⟩

theorem trN_at {M : List (List Nat)} {k : Nat} (hk : k < (trN M).length) : (trN M)[k].length = M.length := by simp [trN, mtab]

set_option maxHeartbeats 1600000 in
theorem product_any (p sp : Nat) (A A2 : Option Addr) (c c2 : Nat) (M N : List (List Nat)) (w : World) (B : Nat) (hp0 : 0 < p) (hp : p < 4294967296) (hsp : sp = 18446744073709551616 % p) (hr : RdM w B A M) (hr2 : RdM w B A2 N) (hB : B ≤ w.heap.size)
    (hfit : cols M = N.length) (hrect : Rect M) (hrect2 : Rect N) (d1 : DigM 4294967296 M) (d2 : DigM 4294967296 N) (_ : M.length ≤ c) (hc2 : N.length ≤ c2) (hm : M.length ≤ 11728124029610) (hm2 : N.length ≤ 11728124029610) (hn2 : cols N ≤ 11728124029610) :
    Calls Tryd.prog 40 #[fieldV p sp, .slice A M.length c, .slice A2 N.length c2] w fun e w' => ∃ g hs, e = .returned (.slice (some ⟨g, 0, none⟩) M.length M.length) ∧ Own w' w.heap.size g hs (mulN p M N) ∧ UB w'.heap.size hs ∧ Below w.heap.size w w' := by
  obtain ⟨W0, hW0⟩ : ∃ W0, W0 = (w.alloc (.cells #[.int .u64 (p : Int), .int .u64 (sp : Int)] 63 (0, 0))).alloc (.cells #[.slice A M.length c] 26 (0, 0)) := ⟨_, rfl⟩
  have hb0 : Below w.heap.size w W0 := by rw [hW0]; exact ((Below.refl _ _).alloc (Nat.le_refl _) _).alloc (by simp) _
  have hbf : Blk W0 w.heap.size 63 [.int .u64 (p : Int), .int .u64 (sp : Int)] := by rw [hW0]; exact (Blk.new_ rfl).heapAlloc _
  have hba : Blk W0 (w.heap.size + 1) 26 [.slice A M.length c] := by
    rw [hW0]
    have := Blk.new_ (w := w.alloc (.cells #[.int .u64 (p : Int), .int .u64 (sp : Int)] 63 (0, 0))) (t := 26) (cs := #[.slice A M.length c]) (vs := [.slice A M.length c]) rfl
    simpa using this
  have hW0s : W0.heap.size = w.heap.size + 2 := by rw [hW0]; simp
  have hrM := hr.below (hb0.mono hB)
  have hrN := hr2.below (hb0.mono hB)
  have Htr := Lib.hid (transposed_any A2 c2 N W0 B hrN (by omega) hrect2 d2 hc2 hm2 hn2)
  have HW0 := Lib.hid hW0
  have HW0s := Lib.hid hW0s
  have Hsp := Lib.hid hsp
  have Hr2 := Lib.hid hr2
  clear hr hr2 hrN hW0 hW0s hsp
  go_enter Tryd.func40, Tryd.ntmps40
  go_wp2_with (go_at_call 57; rw [← HW0.out]; (with_reducible refine Htr.out.mono ?_); rintro e w1 ⟨gt, hst, rfl, hot, hut, hbt⟩)
  obtain ⟨W2, hW2⟩ : ∃ W2, W2 = w1.alloc (.cells #[.slice (some ⟨gt, 0, none⟩) (cols N) (cols N)] 26 (0, 0)) := ⟨_, rfl⟩
  rw [← hW2]
  have hbt2 : Below W0.heap.size W0 W2 := by rw [hW2]; exact hbt.alloc hbt.size _
  have hb12 : Below w1.heap.size w1 W2 := by rw [hW2]; exact (Below.refl _ _).alloc (Nat.le_refl _) _
  have hW2s : w1.heap.size < W2.heap.size := by rw [hW2]; simp
  have hbT : Blk W2 w1.heap.size 26 [.slice (some ⟨gt, 0, none⟩) (cols N) (cols N)] := by rw [hW2]; exact Blk.new_ rfl
  have hot2 := hot.below hb12 (Nat.le_refl _)
  have hTl : (trN N).length = cols N := by simp [trN, mtab]
  have hTd : DigM 4294967296 (trN N) := mtab_dig fun i k hi hk => by
    rw [ent_at hk (by rw [hrect2.at_ k hk]; exact hi)]; exact d2.at_ hk _
  have hwW0 : w.heap.size ≤ W0.heap.size := by have := HW0s.out; omega
  have hbf2 := hbf.below hbt2 hbf.lt
  have hba2 := hba.below hbt2 hba.lt
  have hrM2 := hrM.below (hbt2.mono (by omega))
  have hW0W2 : W0.heap.size ≤ W2.heap.size := hbt2.size
  have hbelW2 : Below w.heap.size w W2 := hb0.trans (hbt2.mono hwW0)
  have hwW2 : w.heap.size + 1 < W2.heap.size := by have := HW0s.out; omega
  have Hcol : Hid (∀ W, Below W2.heap.size W2 W → Calls Tryd.prog 51 #[.slice A2 N.length c2] W fun e w' => e = .returned (.int .i64 (cols N : Int)) ∧ w' = W) := fun W hW => by
    have hrN2 : RdM W B A2 N := (Hr2.out.below (hbelW2.mono hB)).below (hW.mono (by omega))
    exact columns_any A2 c2 N W B hrN2 hc2 (by omega)
  have Hmade : Hid (∀ W, Below W2.heap.size W2 W → Calls Tryd.prog 55 #[.int .i64 (M.length : Int), .int .i64 (cols N : Int), .func (.func 59) #[] #[.pointer (some ⟨w.heap.size, 0, none⟩), .pointer (some ⟨w.heap.size + 1, 0, none⟩), .pointer (some ⟨w1.heap.size, 0, none⟩)]] W fun e w' => ∃ g hs, e = .returned (.slice (some ⟨g, 0, none⟩) M.length M.length) ∧ Own w' W.heap.size g hs (mulN p M N) ∧ UB w'.heap.size hs ∧ Below W.heap.size W w') := fun W hW => by
    have h9 := made_any 59 (fun args W => Tryd.call59 args W) #[.pointer (some ⟨w.heap.size, 0, none⟩), .pointer (some ⟨w.heap.size + 1, 0, none⟩), .pointer (some ⟨w1.heap.size, 0, none⟩)] M.length (cols N) (fun i k => dotS (M.getD i []) ((trN N).getD k []) % p) W hm (by omega) (fun W3 hW3 i k hi hk => by
      have hwW : Below W2.heap.size W2 W3 := hW.trans (hW3.mono hW.size)
      have hkT : k < (trN N).length := by rw [hTl]; exact hk
      rw [getD_at hi, getD_at hkT]
      refine ⟨Nat.lt_trans (Nat.mod_lt _ hp0) hp, ?_⟩
      have h8 := product1_any p sp w.heap.size (w.heap.size + 1) w1.heap.size A (some ⟨gt, 0, none⟩) c (cols N) M (trN N) B W2.heap.size i k W3 hp0 hp Hsp.out (hbf2.below hwW (by omega)) (hba2.below hwW (by omega)) (by rw [hTl]; exact hbT.below hwW hW2s) (hrM2.below (hwW.mono (by omega))) ((hot2.rd).below hwW) (by have := hwW.size; omega) hwW.size hi hkT (by rw [trN_at hkT, hrect.at_ i hi, hfit]; exact Nat.le_refl _) (by omega) (by omega) d1 hTd
      exact h8)
    exact h9
  have hmf : ∀ (fn : Fn) (first cap : Array Value) (w : World), (Instr.makeFunc fn first cap).run Tryd.prog w = .ok (.func fn first cap) w := fun _ _ _ _ => rfl
  have c1 := hba2.cell0
  clear hW2 hbt2 hb12 hbT hot2 hTl hTd hbf2 hba2 hrM2 hot hut hbt hbf hba hrM hb0 d1 d2 hrect hrect2 hfit
  go_region_held3 (fun W => W.cell? ⟨w.heap.size + 1, 0, none⟩ = some (.slice A M.length c)) (first | exact c1 | exact hcc.out | go_keep) (first
    | (go_at_call 51; (with_reducible refine (Hcol.out _ (by first | exact Below.refl _ _ | exact (Below.refl _ _).drew)).mono ?_); rintro e w3 ⟨rfl, rfl⟩)
    | (go_at_call 55; (with_reducible refine (Hmade.out _ (by first | exact Below.refl _ _ | exact (Below.refl _ _).drew)).mono ?_); rintro e w3 ⟨g1, hs1, rfl, ho1, hu1, hbl1⟩; have hq1 : Below W2.heap.size W2 w3 := (by first | exact hbl1 | exact (Below.refl _ _).drew.trans hbl1); have hcc := Lib.hid ((hq1.cell (p := ⟨w.heap.size + 1, 0, none⟩) hwW2).trans c1)))
  all_goals
    go_wp2_with fail
    go_ret
    exact ⟨g1, hs1, rfl, ho1.mono (by simp; omega), hu1, hbelW2.trans (hq1.mono (by omega))⟩
end
section
open Go.RowKit

/-- A matrix with its numbers taken modulo p. -/
def modN (p : Nat) (M : List (List Nat)) : List (List Nat) := mtab M.length (cols M) fun i k => ent M i k % p
theorem modN_length (p : Nat) (M : List (List Nat)) : (modN p M).length = M.length := mtab_length _ _ _
theorem modN_good {p : Nat} (hp : 0 < p) (M : List (List Nat)) : Good p (cols M) (modN p M) := mtab_good fun _ _ _ _ => Nat.mod_lt _ hp
theorem modN_cols (p : Nat) (M : List (List Nat)) : cols (modN p M) = cols M := by
  cases M with
  | nil => rfl
  | cons r rs => exact mtab_cols (by simp)

/-- A slice of matrices reads as these, all of it below block B. -/
def RdL (w : World) (B : Nat) (Al : Option Addr) (Ms : List (List (List Nat))) : Prop :=
  Ms ≠ [] → ∃ b off, Al = some ⟨b, off, none⟩ ∧ b < B ∧ ∀ j (h : j < Ms.length), ∃ A c, w.cell? ⟨b, off + j, none⟩ = some (.slice A Ms[j].length c) ∧ Ms[j].length ≤ c ∧ RdM w B A Ms[j]
theorem RdL.keep {w w' : World} {B : Nat} {Al : Option Addr} {Ms : List (List (List Nat))} (h : RdL w B Al Ms) (hb : Below B w w') : RdL w' B Al Ms := fun hn => by
  obtain ⟨b, off, e, hlt, hc⟩ := h hn
  exact ⟨b, off, e, hlt, fun j hj => by obtain ⟨A, c, h1, h2, h3⟩ := hc j hj; exact ⟨A, c, (hb.cell (p := ⟨b, off + j, none⟩) hlt).trans h1, h2, h3.below hb⟩⟩
theorem RdL.at_ {w : World} {B : Nat} {Al : Option Addr} {Ms : List (List (List Nat))} (h : RdL w B Al Ms) {j : Nat} (hj : j < Ms.length) : ∃ b off A c, Al = some ⟨b, off, none⟩ ∧ b < B ∧ w.cell? ⟨b, off + j, none⟩ = some (.slice A Ms[j].length c) ∧ Ms[j].length ≤ c ∧ RdM w B A Ms[j] := by
  obtain ⟨b, off, e, hlt, hc⟩ := h (by rintro rfl; simp at hj)
  obtain ⟨A, c, h1, h2, h3⟩ := hc j hj
  exact ⟨b, off, A, c, e, hlt, h1, h2, h3⟩

def hdrM (g : Nat) (M : List (List Nat)) : Value := .slice (some ⟨g, 0, none⟩) M.length M.length
/-- The headers of the first matrices, the others nil. -/
def lstTo (gs : List Nat) (Ms : List (List (List Nat))) (n : Nat) : List Value := List.zipWith hdrM gs Ms ++ List.replicate (n - gs.length) (.slice none 0 0)
theorem lstTo_length {gs : List Nat} {Ms : List (List (List Nat))} (h : gs.length ≤ Ms.length) : (lstTo gs Ms Ms.length).length = Ms.length := by simp [lstTo]; omega
theorem lstTo_set {gs : List Nat} {Ms : List (List (List Nat))} {g : Nat} (h : gs.length < Ms.length) : (lstTo gs Ms Ms.length).set gs.length (hdrM g Ms[gs.length]) = lstTo (gs ++ [g]) Ms Ms.length := by
  unfold lstTo
  obtain ⟨m, hm⟩ : ∃ m, Ms.length - gs.length = m + 1 := ⟨Ms.length - gs.length - 1, by omega⟩
  rw [List.set_append_right _ _ (by simp; omega), hm, List.replicate_succ]
  have e1 : (List.zipWith hdrM gs Ms).length = gs.length := by simp; omega
  rw [e1, Nat.sub_self, List.set_cons_zero]
  have e2 : Ms = Ms.take gs.length ++ Ms[gs.length] :: Ms.drop (gs.length + 1) := by
    rw [← List.drop_eq_getElem_cons h, List.take_append_drop]
  have e3 : List.zipWith hdrM (gs ++ [g]) Ms = List.zipWith hdrM gs Ms ++ [hdrM g Ms[gs.length]] := by
    apply List.ext_getElem?
    intro k
    simp only [List.getElem?_zipWith, List.getElem?_append, List.length_zipWith, Nat.min_eq_left (Nat.le_of_lt h)]
    by_cases hk : k < gs.length
    · simp [hk]
    · by_cases hk2 : k = gs.length
      · subst hk2; simp [List.getElem?_eq_getElem h]
      · rw [if_neg hk, if_neg hk]
        have : k - gs.length ≠ 0 := by omega
        obtain ⟨q, hq⟩ : ∃ q, k - gs.length = q + 1 := ⟨k - gs.length - 1, by omega⟩
        simp [hq]
  rw [e3, List.append_assoc]
  congr 1
  simp only [List.singleton_append, List.length_append, List.length_singleton]
  congr 2
  omega
theorem lstTo_all {gs : List Nat} {Ms : List (List (List Nat))} (h : gs.length = Ms.length) : lstTo gs Ms Ms.length = List.zipWith hdrM gs Ms := by simp [lstTo, h]

set_option maxHeartbeats 1600000 in
theorem read1_any (h1 h2 p : Nat) (A : Option Addr) (c : Nat) (M : List (List Nat)) (B i k : Nat) (w : World) (hp0 : 0 < p) (hp : p < 4294967296) (hb : Blk w h1 26 [.slice A M.length c]) (hb2 : Blk w h2 28 [.int .u32 (p : Int)]) (hr : RdM w B A M) (hi : i < M.length) (hk : k < M[i].length) (_ : M.length ≤ 281474976710656) (hd : M[i][k] < 4294967296) :
    Calls Tryd.prog 67 #[.int .i64 (i : Int), .int .i64 (k : Int), .pointer (some ⟨h1, 0, none⟩), .pointer (some ⟨h2, 0, none⟩)] w fun e w' => e = .returned (.int .u32 (M[i][k] % p : Nat)) ∧ Dr w w' := by
  have c1 := hb.cell0
  have c2 := hb2.cell0
  obtain ⟨b, off, Ak, ck, rfl, hbb, hx, hlc, hcm, hrd⟩ := hr.at_ hi
  obtain ⟨b2, off2, rfl, hb2', hy⟩ := hrd.at32 hk
  obtain ⟨n, hn⟩ : ∃ n, n = M[i].length := ⟨_, rfl⟩
  obtain ⟨x, hx1⟩ : ∃ x, x = M[i][k] := ⟨_, rfl⟩
  rw [← hn] at hk hx hlc
  rw [← hx1] at hy hd ⊢
  have hv := Nat.mod_lt x hp0
  obtain ⟨v, hve⟩ : ∃ v, v = x % p := ⟨_, rfl⟩
  have t1 : (x : Int) % (p : Int) = (v : Int) := by rw [hve]; simp
  have t2 : ((p : Int) == 0) = false := by simp; omega
  have i1 : (i : Int) < (M.length : Int) := by omega
  have i2 : (k : Int) < (n : Int) := by omega
  rw [← hve] at hv ⊢
  have T1 := Lib.hid t1
  clear hn hx1 hve hrd hr hb hb2 t1
  go_enter Tryd.func67, Tryd.ntmps67
  go_wp2
  go_quiet (fail)
  go_wp2
  go_ret
  exact ⟨congrArg (fun z => Ending.returned (Value.int .u32 z)) T1.out, (Dr.refl _).step _⟩

theorem Tryd.infoMat : (Tryd.prog.info? 26).map (fun i => (i.zero, i.size, i.bytes)) = some (some (.slice none 0 0), 1, 24) := by kernel_rfl
theorem mkList (n : Nat) (h : n ≤ 11728124029610) (w : World) : (Instr.makeSlice 71 (.int .i64 (n : Int)) (.int .i64 (n : Int))).run Tryd.prog w = .ok (.slice (some ⟨w.heap.size, 0, none⟩) n n) (w.alloc (.cells (List.replicate n (Value.slice none 0 0)).toArray 26)) := by
  obtain ⟨i0, hi, hz0, hz1, hz2⟩ := info_parts Tryd.infoMat
  have hr := run_make (P := Tryd.prog) w 71 26 i0 (.slice none 0 0) Tryd.underlying71 hi hz0 .i64 .i64 n n (by omega) (by omega) (by rw [hz2]; omega) (by omega)
  rw [hz1, Int.toNat_natCast, made_one _ _ rfl] at hr
  exact hr

theorem read_prime (p : Nat) (A : Option Addr) (n c : Nat) (w : World) (hpr : ¬ Pr p) (hp : p < 4294967296) (hw : Bases w) :
    Calls Tryd.prog 49 #[.int .u32 (p : Int), .slice A n c] w fun e w' => e = .returned (.tuple #[.agg #[.int .u64 0, .int .u64 0], .slice none 0 0, .int .i64 40]) ∧ Below w.heap.size w w' := by
  have hw2 : ∀ o o2, Bases ((w.alloc o).alloc o2) := fun o o2 => hw.below (((Below.refl w.heap.size w).alloc (Nat.le_refl _) o).alloc (by simp) o2) hw.lt
  have Hi : Hid (∀ o o2, Calls Tryd.prog 66 #[.int .u32 (p : Int)] ((w.alloc o).alloc o2) fun e w' => e = .returned (.bool false) ∧ w' = (w.alloc o).alloc o2) := fun o o2 => is_no p hpr hp _ (hw2 o o2)
  clear hw hw2 hpr
  go_enter Tryd.func49, Tryd.ntmps49
  go_wp2_with (go_at_call 66; (with_reducible refine (Hi.out _ _).mono ?_); rintro e w1 ⟨rfl, rfl⟩)
  refine bodyPost_ret (v := .tuple #[.agg #[.int .u64 0, .int .u64 0], .slice none 0 0, .int .i64 40]) (by simp [results, Tryd.results49, go_sem]) rfl ⟨rfl, ?_⟩
  exact ((Below.refl _ _).alloc (Nat.le_refl _) _).alloc (by simp) _

/-- What read answers of a prime: the matrices, or that one's rows are not equally long. -/
def ReadPost (p sp : Nat) (Ms : List (List (List Nat))) (w : World) (e : Ending) (w' : World) : Prop :=
  ((∀ M ∈ Ms, Rect M) ∧ ∃ gl gs, e = .returned (.tuple #[fieldV p sp, .slice (some ⟨gl, 0, none⟩) Ms.length Ms.length, .int .i64 0]) ∧ gs.length = Ms.length ∧ w.heap.size ≤ gl ∧ Blk w' gl 26 (List.zipWith hdrM gs Ms) ∧
    (∀ j (h1 : j < gs.length) (h2 : j < Ms.length), ∃ hs, Own w' (gl + 1) gs[j] hs (modN p Ms[j]) ∧ UB w'.heap.size hs) ∧ Below w.heap.size w w') ∨
  ((¬ ∀ M ∈ Ms, Rect M) ∧ e = .returned (.tuple #[.agg #[.int .u64 0, .int .u64 0], .slice none 0 0, .int .i64 2]) ∧ Below w.heap.size w w')

theorem spill_eq {p sp : Nat} (hp0 : 0 < p) (hp : p < 4294967296) (hsp : sp = 18446744073709551616 % p) : (IntKind.u64.wrap (18446744073709551615 % (p : Int) + 1)).tmod (p : Int) = (sp : Int) := by
  have h1 : (18446744073709551615 : Int) % (p : Int) = ((18446744073709551615 % p : Nat) : Int) := (Int.natCast_emod 18446744073709551615 p).symm
  have h2 := Nat.mod_lt 18446744073709551615 hp0
  have h3 : (18446744073709551615 % p + 1) % p = 18446744073709551616 % p := by rw [Nat.mod_add_mod]
  rw [h1]
  obtain ⟨x, hx⟩ : ∃ x, x = 18446744073709551615 % p := ⟨_, rfl⟩
  rw [← hx] at h2 h3 ⊢
  have h4 : IntKind.u64.wrap ((x : Int) + 1) = ((x + 1 : Nat) : Int) := by rw [IntKind.wrap_u64]; omega
  rw [h4, Int.tmod_eq_emod_of_nonneg (by omega), ← Int.natCast_emod, h3, hsp]

set_option maxHeartbeats 3200000 in
theorem read_any (p sp : Nat) (Al : Option Addr) (cl : Nat) (Ms : List (List (List Nat))) (w : World) (B : Nat) (hpr : Pr p) (hp : p < 4294967296) (hsp : sp = 18446744073709551616 % p) (hw : Bases w) (hr : RdL w B Al Ms) (hB : B ≤ w.heap.size) (hn : Ms.length ≤ 1000)
    (hd : ∀ M ∈ Ms, DigM 4294967296 M) (hm : ∀ M ∈ Ms, M.length ≤ 11728124029610 ∧ cols M ≤ 70368744177664) :
    Calls Tryd.prog 49 #[.int .u32 (p : Int), .slice Al Ms.length cl] w (ReadPost p sp Ms w) := by
  have hp0 := hpr.pos
  have hw2 : ∀ o o2, Bases ((w.alloc o).alloc o2) := fun o o2 => hw.below (((Below.refl w.heap.size w).alloc (Nat.le_refl _) o).alloc (by simp) o2) hw.lt
  have Hi : Hid (∀ o o2, Calls Tryd.prog 66 #[.int .u32 (p : Int)] ((w.alloc o).alloc o2) fun e w' => e = .returned (.bool true) ∧ w' = (w.alloc o).alloc o2) := fun o o2 => is_yes p hpr hp _ (hw2 o o2)
  have hmk := fun W => mkList Ms.length (by omega) W
  have Hsp := Lib.hid hsp
  have Hr := Lib.hid hr
  have Hd : Hid (∀ j (h : j < Ms.length), DigM 4294967296 Ms[j]) := fun j h => hd _ (List.getElem_mem h)
  have Hm : Hid (∀ j (h : j < Ms.length), Ms[j].length ≤ 11728124029610 ∧ cols Ms[j] ≤ 70368744177664) := fun j h => hm _ (List.getElem_mem h)
  have hmf : ∀ (fn : Fn) (first cap : Array Value) (w : World), (Instr.makeFunc fn first cap).run Tryd.prog w = .ok (.func fn first cap) w := fun _ _ _ _ => rfl
  clear hw hw2 hpr hr hd hm hsp
  obtain ⟨R, hR⟩ : ∃ R, R = ReadPost p sp Ms w := ⟨_, rfl⟩
  rw [← hR]
  have HR := Lib.hid hR
  clear hR
  go_enter Tryd.func49, Tryd.ntmps49
  go_wp2_with (go_at_call 66; (with_reducible refine (Hi.out _ _).mono ?_); rintro e w1 ⟨rfl, rfl⟩)
  obtain ⟨U, hU⟩ : ∃ U, U = w.heap.size := ⟨_, rfl⟩
  obtain ⟨W0, hW0⟩ : ∃ W0, W0 = ((w.alloc (.cells #[.int .u32 (p : Int)] 28)).alloc (.cells #[.int .u64 0, .int .u64 0] 63)).alloc (.cells (Array.replicate Ms.length (.slice none 0 0)) 26) := ⟨_, rfl⟩
  rw [← hW0, ← hU]
  have hW0s : W0.heap.size = U + 1 + 1 + 1 := by rw [hW0, hU]; simp
  have hbel0 : Below U w W0 := by rw [hW0, hU]; exact (((Below.refl _ _).alloc (Nat.le_refl _) _).alloc (by simp) _).alloc (by simp; omega) _
  have hb0 : Blk W0 U 28 [.int .u32 (p : Int)] := by
    rw [hW0, hU]; exact ((Blk.new_ rfl).heapAlloc _).heapAlloc _
  have hb1 : Blk W0 (U + 1) 63 [.int .u64 0, .int .u64 0] := by
    rw [hW0, hU]
    have := (Blk.new_ (w := w.alloc (.cells #[.int .u32 (p : Int)] 28)) (t := 63) (cs := #[.int .u64 0, .int .u64 0]) (vs := [.int .u64 0, .int .u64 0]) rfl).heapAlloc (.cells (Array.replicate Ms.length (.slice none 0 0)) 26)
    simpa using this
  have hb2 : Blk W0 (U + 1 + 1) 26 (lstTo [] Ms Ms.length) := by
    rw [hW0, hU]
    have := Blk.new_ (w := (w.alloc (.cells #[.int .u32 (p : Int)] 28)).alloc (.cells #[.int .u64 0, .int .u64 0] 63)) (t := 26) (cs := Array.replicate Ms.length (.slice none 0 0)) (vs := lstTo [] Ms Ms.length) (by simp [lstTo])
    simpa using this
  have hW0s' : U + 3 ≤ W0.heap.size := by omega
  have HU := Lib.hid hU
  have hBU : B ≤ U := by omega
  clear hW0 hW0s hU hB
  go_loopw [21] (fun jv wr => ∃ (j : Nat) (gs : List Nat), j ≤ Ms.length ∧ jv = .int .i64 (j : Int) ∧ Hid (gs.length = j) ∧ Blk wr (U + 1 + 1) 26 (lstTo gs Ms Ms.length) ∧ Blk wr U 28 [.int .u32 (p : Int)] ∧ Blk wr (U + 1) 63 [.int .u64 0, .int .u64 0] ∧ Hid (∀ i (h1 : i < gs.length) (h2 : i < Ms.length), ∃ hs, Own wr (U + 3) gs[i] hs (modN p Ms[i]) ∧ UB wr.heap.size hs) ∧ Hid (∀ i (h2 : i < Ms.length), i < j → Rect Ms[i]) ∧ U + 3 ≤ wr.heap.size ∧ Below U w wr) (fun jv _ => Ms.length - (intOf jv).toNat)
  case atStart => exact ⟨0, [], by omega, rfl, rfl, hb2, hb0, hb1, (fun i h1 => absurd h1 (by simp)), (fun i _ h => by omega), hW0s', hbel0⟩
  case round =>
    clear hb0 hb1 hb2 hbel0 hW0s'
    obtain ⟨j, gs, hj, rfl, Hgl, hb2, hb0, hb1, Hown, Hrect, hUs, hbel⟩ := hrel
    by_cases hlt : j < Ms.length
    · obtain ⟨b, off, A, c, eA, hbB, hx, hlc, hrd⟩ := (Hr.out.keep (hbel.mono hBU)).at_ hlt
      subst eA
      obtain ⟨hm1, hm2⟩ := Hm.out j hlt
      obtain ⟨M, hM⟩ : ∃ M, M = Ms[j] := ⟨_, rfl⟩
      rw [← hM] at hx hlc hrd hm1 hm2
      have HM := Lib.hid hM
      have hdM : DigM 4294967296 M := by rw [hM]; exact Hd.out j hlt
      clear hM
      obtain ⟨q, hq⟩ : ∃ q, q = wr.heap.size := ⟨_, rfl⟩
      obtain ⟨W1, hW1⟩ : ∃ W1, W1 = wr.alloc (.cells #[.slice A M.length c] 26 (0, 0)) := ⟨_, rfl⟩
      have hbel1 : Below wr.heap.size wr W1 := by rw [hW1]; exact (Below.refl _ _).alloc (Nat.le_refl _) _
      have hbk : Blk W1 q 26 [.slice A M.length c] := by rw [hW1, hq]; exact Blk.new_ rfl
      have hrd1 := hrd.below (hbel1.mono (by omega))
      have Hcol : Hid (∀ W, Below W1.heap.size W1 W → Calls Tryd.prog 51 #[.slice A M.length c] W fun e w' => e = .returned (.int .i64 (cols M : Int)) ∧ w' = W) := fun W hW =>
        columns_any A c M W B (hrd1.below (hW.mono (by have := hbel1.size; omega))) hlc (by omega)
      have HW1 := Lib.hid hW1
      have Hq := Lib.hid hq
      have hrdH := Lib.hid hrd1
      clear hW1 hrd hrd1 hq
      go_upto_region 7 with (fail)
      rw [← HW1.out, ← Hq.out]
      have c9 := hbk.cell0
      have hbB1 : wr.heap.size < W1.heap.size := by have := hbk.lt; have := Hq.out; omega
      go_wp2_with fail
      go_loop [28] (fun iv => ∃ i : Nat, i ≤ M.length ∧ iv = .int .i64 (i : Int) ∧ Hid (∀ k (h : k < M.length), k < i → M[k].length = cols M)) (fun iv => M.length - (intOf iv).toNat)
      case atStart => exact ⟨0, by omega, rfl, fun k _ h => by omega⟩
      case round =>
        obtain ⟨i, hi, rfl, Hrow⟩ := hrel
        by_cases hil : i < M.length
        · obtain ⟨b2, off2, Ai, ci, eA, hb2B, hx2, hlc2, hcm2, hrd2⟩ := hrdH.out.at_ hil
          subst eA
          by_cases hrl : M[i].length = cols M
          · have t1 : ((M[i].length : Int) != (cols M : Int)) = false := by rw [hrl]; simp
            have Hrow2 : Hid (∀ k (h : k < M.length), k < i + 1 → M[k].length = cols M) := fun k h hk => by
              by_cases e : k = i
              · subst e; exact hrl
              · exact Hrow.out k h (by omega)
            clear hrl
            go_wp2_with (go_at_call 51; (with_reducible refine (Hcol.out _ (Below.refl _ _)).mono ?_); rintro e w3 ⟨rfl, rfl⟩)
            go_round
            case rel => exact ⟨i + 1, by omega, by go_num, Hrow2⟩
            case measure => simp [intOf]; omega
          · have t1 : ((M[i].length : Int) != (cols M : Int)) = true := by simp; omega
            have hnr : ¬ ∀ M ∈ Ms, Rect M := fun h => by
              have h1 := h Ms[j] (List.getElem_mem hlt)
              rw [← HM.out] at h1
              exact hrl (h1.at_ i hil)
            have hbU1 := hb1.below hbel1 (by omega)
            have f1 : ∀ k, W1.frozen? ⟨U + 1, k, none⟩ = false := hbU1.frozen
            have f0 := f1 0
            have f1' := f1 1
            have d0 := hbU1.cell 0
            have d1 := hbU1.cell 1
            clear hrl f1
            go_wp2_with (go_at_call 51; (with_reducible refine (Hcol.out _ (Below.refl _ _)).mono ?_); rintro e w3 ⟨rfl, rfl⟩)
            have hbW3 : Below U w w3 := hbel.trans (hbel1.mono (by omega))
            refine bodyPost_ret (v := .tuple #[.agg #[.int .u64 0, .int .u64 0], .slice none 0 0, .int .i64 2]) (by simp [results, Tryd.results49, go_sem, d0, d1]) rfl ?_
            rw [HR.out]
            refine Or.inr ⟨hnr, rfl, ?_⟩
            rw [← HU.out]
            exact (hbW3.setCell (p := ⟨U + 1, 0, none⟩) (by simp) _).setCell (p := ⟨U + 1, 1, none⟩) (by simp) _
        · have hrM : Rect M := fun r hr => by
            obtain ⟨k, hk, rfl⟩ := List.mem_iff_getElem.1 hr
            exact Hrow.out k hk (by omega)
          have hMi : M.length ≤ i := by omega
          have hb2W := hb2.below hbel1 hb2.lt
          have hb0W := hb0.below hbel1 hb0.lt
          have hb1W := hb1.below hbel1 hb1.lt
          have hUl : U + 1 + 1 < wr.heap.size := hb2.lt
          have hql : q < W1.heap.size := hbk.lt
          have hW1q : wr.heap.size ≤ W1.heap.size := hbel1.size
          have Hown1 : Hid (∀ i (h1 : i < gs.length) (h2 : i < Ms.length), ∃ hs, Own W1 (U + 3) gs[i] hs (modN p Ms[i]) ∧ UB W1.heap.size hs) := fun i h1 h2 => by
            obtain ⟨hs, a1, a2⟩ := Hown.out i h1 h2
            exact ⟨hs, a1.below hbel1 (Nat.le_refl _), a2.mono hbel1.size⟩
          have Hmade : Hid (∀ W, Below W1.heap.size W1 W → Calls Tryd.prog 55 #[.int .i64 (M.length : Int), .int .i64 (cols M : Int), .func (.func 67) #[] #[.pointer (some ⟨q, 0, none⟩), .pointer (some ⟨U, 0, none⟩)]] W fun e w' => ∃ g hs, e = .returned (.slice (some ⟨g, 0, none⟩) M.length M.length) ∧ Own w' W.heap.size g hs (modN p M) ∧ UB w'.heap.size hs ∧ Below W.heap.size W w') := fun W hW => by
            have h9 := made_any 67 (fun args W => Tryd.call67 args W) #[.pointer (some ⟨q, 0, none⟩), .pointer (some ⟨U, 0, none⟩)] M.length (cols M) (fun i k => ent M i k % p) W hm1 hm2 (fun W2 hW2 i k hi hk => by
              have hwW : Below W1.heap.size W1 W2 := hW.trans (hW2.mono hW.size)
              have hik : k < M[i].length := by rw [hrM.at_ i hi]; exact hk
              rw [ent_at hi hik]
              refine ⟨Nat.lt_trans (Nat.mod_lt _ hp0) hp, ?_⟩
              exact (read1_any q U p A c M B i k W2 hp0 hp (hbk.below hwW hql) (hb0W.below hwW hb0W.lt) (hrdH.out.below (hwW.mono (by omega))) hi hik (by omega) (hdM.at_ hi hik)).mono fun e w' ⟨h1, h2⟩ => ⟨h1, h2.below _⟩)
            exact h9
          have fU := hb2W.frozen j
          have hjl : j < (lstTo gs Ms Ms.length).length := by rw [lstTo_length (by have := Hgl.out; omega)]; exact hlt
          have cU := hb2W.cell j
          have HbelW1 : Below U w W1 := hbel.trans (hbel1.mono (by omega))
          obtain ⟨u0, hu0⟩ : ∃ u0, W1.cell? ⟨U + 1 + 1, j, none⟩ = some u0 := ⟨_, by rw [cU, List.getElem?_eq_getElem hjl]⟩
          have hne1 : ¬ (q = U + 1 + 1) := by have := Hq.out; omega
          have hne2 : ¬ (U + 1 + 1 = q) := by have := Hq.out; omega
          have HHrect : Hid (∀ i (h2 : i < Ms.length), i < j + 1 → Rect Ms[i]) := fun i h2 hi => by
            by_cases e : i = j
            · subst e; rw [← HM.out]; exact hrM
            · exact Hrect.out i h2 (by omega)
          clear cU hb0 hb1 hb2 hbel1 hbk Hown Hrow hrM hdM
          go_upto_region 13 with (fail)
          go_region_held3 (fun W => W.cell? ⟨q, 0, none⟩ = some (.slice A M.length c)) (first | exact c9 | exact hcc.out | go_keep) (first
            | (go_at_call 51; (with_reducible refine (Hcol.out _ (by first | exact Below.refl _ _ | exact (Below.refl _ _).drew)).mono ?_); rintro e w3 ⟨rfl, rfl⟩)
            | (go_at_call 55; (with_reducible refine (Hmade.out _ (by first | exact Below.refl _ _ | exact (Below.refl _ _).drew)).mono ?_); rintro e w3 ⟨g1, hs1, rfl, ho1, hu1, hbl1⟩; have hq1 : Below W1.heap.size W1 w3 := (by first | exact hbl1 | exact (Below.refl _ _).drew.trans hbl1); have hcc := Lib.hid ((hq1.cell (p := ⟨q, 0, none⟩) hql).trans c9); have hcU := (hq1.cell (p := ⟨U + 1 + 1, j, none⟩) (show U + 1 + 1 < _ by omega)).trans hu0; have hfU := (hq1.frozen (p := ⟨U + 1 + 1, j, none⟩) (show U + 1 + 1 < _ by omega)).trans fU))
          all_goals
            go_wp2_with fail
            go_roundw
            case rel =>
              have htn := (Tn.of_below (g := U + 1 + 1) hq1 (Nat.le_refl _)).setCell j (.slice (some ⟨g1, 0, none⟩) M.length M.length)
              have hb9 := (hb2W.below hq1 (by omega)).set_ j (.slice (some ⟨g1, 0, none⟩) M.length M.length)
              have hgl := Hgl.out
              have e9 : (lstTo gs Ms Ms.length).set j (.slice (some ⟨g1, 0, none⟩) M.length M.length) = lstTo (gs ++ [g1]) Ms Ms.length := by
                have h9 := lstTo_set (gs := gs) (Ms := Ms) (g := g1) (by omega)
                have e8 : hdrM g1 (Ms[gs.length]'(by omega)) = .slice (some ⟨g1, 0, none⟩) M.length M.length := by
                  have : Ms[gs.length]'(by omega) = M := by rw [HM.out]; congr 1
                  rw [this]; rfl
                rw [e8, hgl] at h9
                exact h9
              rw [e9] at hb9
              have hs1' := ho1.mono (B' := U + 3) (by have := hbel.size; simp; omega)
              have ho1' := (hs1'.tnLow ((Tn.refl (U + 1 + 1) w3).setCell j (.slice (some ⟨g1, 0, none⟩) M.length M.length)) (by omega))
              refine ⟨j + 1, gs ++ [g1], by omega, by go_num, by show _ = _; rw [List.length_append, hgl]; rfl, hb9, hb0W.tn htn (by omega), hb1W.tn htn (by omega), fun i h1 h2 => ?_, HHrect.out, by have := htn.size; omega, HbelW1.trans (htn.below (by omega) (by omega))⟩
              by_cases hi : i < gs.length
              · obtain ⟨hs, a1, a2⟩ := Hown1.out i hi h2
                rw [List.getElem_append_left hi]
                exact ⟨hs, a1.tnLow htn (by omega), a2.mono htn.size⟩
              · have hie : i = gs.length := by rw [List.length_append] at h1; simp at h1; omega
                subst hie
                rw [List.getElem_append_right (by omega)]
                simp only [Nat.sub_self, List.getElem_cons_zero]
                have e7 : Ms[gs.length] = M := by rw [HM.out]; congr 1
                rw [e7]
                exact ⟨hs1, ho1', hu1.mono (by simp)⟩
            case measure => simp [intOf]; omega
    · have hje : j = Ms.length := by omega
      have hgl := Hgl.out
      have hgl2 : gs.length = Ms.length := by omega
      have hrall : ∀ M ∈ Ms, Rect M := fun M hM => by
        obtain ⟨k, hk, rfl⟩ := List.mem_iff_getElem.1 hM
        exact Hrect.out k hk (by omega)
      rw [lstTo_all hgl2] at hb2
      have Hgl2 := Lib.hid hgl2
      have Hrall : Hid (∀ M ∈ Ms, Rect M) := hrall
      have hjl : Ms.length ≤ j := by omega
      have c0 := hb0.cell0
      have d0 := hb1.cell 0
      have d1 := hb1.cell 1
      have f0 := hb1.frozen 0
      have f1 := hb1.frozen 1
      have t4 : ((p : Int) == 0) = false := by simp; omega
      clear hje hgl hgl2 hrall Hrect Hgl
      go_upto_region 15 with (fail)
      go_region
      all_goals
        go_wp2_with fail
        rw [spill_eq hp0 hp Hsp.out]
        have hU1 : U + 1 < wr.heap.size := by omega
        refine bodyPost_ret (v := .tuple #[fieldV p sp, .slice (some ⟨U + 1 + 1, 0, none⟩) Ms.length Ms.length, .int .i64 0]) (by simp [results, Tryd.results49, go_sem, d0, d1]) rfl ?_
        rw [HR.out]
        have htn := (((Tn.refl (U + 1) wr).setCell 0 (.int .u64 (p : Int))).setCell 1 (.int .u64 (sp : Int))).drew
        refine Or.inl ⟨Hrall.out, U + 1 + 1, gs, rfl, Hgl2.out, by rw [← HU.out]; omega, hb2.tn htn (by omega), fun i h1 h2 => ?_, ?_⟩
        · obtain ⟨hs, a1, a2⟩ := Hown.out i h1 h2
          exact ⟨hs, a1.tnLow htn (by omega), a2.mono htn.size⟩
        · rw [← HU.out]
          exact hbel.trans (htn.below (by omega) (by omega))
end
section
open Go.RowKit

/-- What stands for 2^64 modulo p. -/
def spN (p : Nat) : Nat := 18446744073709551616 % p
/-- How great a matrix is that a call takes. -/
structure Sized (M : List (List Nat)) : Prop where
  dig : DigM 4294967296 M
  rows : M.length ≤ 1099511627776
  wid : cols M ≤ 11728124029610

theorem rdl_one {w : World} {B q : Nat} {A : Option Addr} {c : Nat} {M : List (List Nat)} (hb : Blk w q 26 [.slice A M.length c]) (hq : q < B) (hr : RdM w B A M) (hc : M.length ≤ c) : RdL w B (some ⟨q, 0, none⟩) [M] := fun _ =>
  ⟨q, 0, rfl, hq, fun j hj => by
    obtain rfl : j = 0 := by simpa using hj
    exact ⟨A, c, hb.cell0, hc, hr⟩⟩

theorem read_one_ok (p : Nat) (A : Option Addr) (c q : Nat) (M : List (List Nat)) (w : World) (B : Nat) (hpr : Pr p) (hp : p < 4294967296) (hw : Bases w) (hb : Blk w q 26 [.slice A M.length c]) (hr : RdM w B A M) (hB : B ≤ w.heap.size) (hc : M.length ≤ c) (hs : Sized M) (hrect : Rect M) :
    Calls Tryd.prog 49 #[.int .u32 (p : Int), .slice (some ⟨q, 0, none⟩) 1 1] w fun e w' => ∃ gl g hs, e = .returned (.tuple #[fieldV p (spN p), .slice (some ⟨gl, 0, none⟩) 1 1, .int .i64 0]) ∧ w.heap.size ≤ gl ∧ Blk w' gl 26 [hdrM g M] ∧ Own w' (gl + 1) g hs (modN p M) ∧ UB w'.heap.size hs ∧ Below w.heap.size w w' := by
  refine (read_any p (spN p) (some ⟨q, 0, none⟩) 1 [M] w w.heap.size hpr hp rfl hw (rdl_one hb hb.lt (hr.mono hB) hc) (Nat.le_refl _) (by simp) (fun N hN => by rw [List.mem_singleton.1 hN]; exact hs.dig) (fun N hN => by rw [List.mem_singleton.1 hN]; exact ⟨by have := hs.rows; omega, by have := hs.wid; omega⟩)).mono ?_
  rintro e w' (⟨_, gl, gs, h1, h2, h8, h3, h4, h5⟩ | ⟨h1, _⟩)
  · obtain ⟨g, rfl⟩ : ∃ g, gs = [g] := by
      match gs, h2 with
      | [g], _ => exact ⟨g, rfl⟩
    obtain ⟨hs, h6, h7⟩ := h4 0 (by simp) (by simp)
    exact ⟨gl, g, hs, h1, h8, h3, h6, h7, h5⟩
  · exact absurd (fun N hN => by rw [List.mem_singleton.1 hN]; exact hrect) h1
theorem read_one_bad (p : Nat) (A : Option Addr) (c q : Nat) (M : List (List Nat)) (w : World) (B : Nat) (hpr : Pr p) (hp : p < 4294967296) (hw : Bases w) (hb : Blk w q 26 [.slice A M.length c]) (hr : RdM w B A M) (hB : B ≤ w.heap.size) (hc : M.length ≤ c) (hs : Sized M) (hrect : ¬ Rect M) :
    Calls Tryd.prog 49 #[.int .u32 (p : Int), .slice (some ⟨q, 0, none⟩) 1 1] w fun e w' => e = .returned (.tuple #[.agg #[.int .u64 0, .int .u64 0], .slice none 0 0, .int .i64 2]) ∧ Below w.heap.size w w' := by
  refine (read_any p (spN p) (some ⟨q, 0, none⟩) 1 [M] w w.heap.size hpr hp rfl hw (rdl_one hb hb.lt (hr.mono hB) hc) (Nat.le_refl _) (by simp) (fun N hN => by rw [List.mem_singleton.1 hN]; exact hs.dig) (fun N hN => by rw [List.mem_singleton.1 hN]; exact ⟨by have := hs.rows; omega, by have := hs.wid; omega⟩)).mono ?_
  rintro e w' (⟨h1, _⟩ | ⟨_, h2, h3⟩)
  · exact absurd (h1 M (by simp)) hrect
  · exact ⟨h2, h3⟩

/-- As many rows as columns, and some. -/
def Sq (M : List (List Nat)) : Prop := 0 < M.length ∧ M.length = cols M

/-- Of an error. -/
def ErrOf (w : World) (code : Int) (e : Ending) (w' : World) : Prop := e = .returned (.tuple #[.agg #[.int .u64 0, .int .u64 0], .slice none 0 0, .int .i64 code]) ∧ Below w.heap.size w w'

set_option maxHeartbeats 800000 in
theorem readSquare_err (p : Nat) (A : Option Addr) (n c : Nat) (w : World) (code : Int) (hc : (code != 0) = true) (hr : ∀ W q, Blk W q 26 [.slice A n c] → Below w.heap.size w W → Calls Tryd.prog 49 #[.int .u32 (p : Int), .slice (some ⟨q, 0, none⟩) 1 1] W (ErrOf W code)) :
    Calls Tryd.prog 38 #[.slice A n c, .int .u32 (p : Int)] w (ErrOf w code) := by
  have Hr : Hid (∀ o, Calls Tryd.prog 49 #[.int .u32 (p : Int), .slice (some ⟨w.heap.size + 1, 0, none⟩) 1 1] ((w.alloc o).alloc (.cells #[.slice A n c] 26)) (ErrOf ((w.alloc o).alloc (.cells #[.slice A n c] 26)) code)) := fun o => hr _ _ (by
    have := Blk.new_ (w := w.alloc o) (t := 26) (cs := #[.slice A n c]) (vs := [.slice A n c]) rfl
    simpa using this) (((Below.refl _ _).alloc (Nat.le_refl _) _).alloc (by simp) _)
  obtain ⟨R, hR⟩ : ∃ R, R = ErrOf w code := ⟨_, rfl⟩
  rw [← hR]
  have HR := Lib.hid hR
  clear hr hR
  go_enter Tryd.func38, Tryd.ntmps38
  go_wp2_with (go_at_call 49; (with_reducible refine (Hr.out _).mono ?_); rintro e w1 ⟨rfl, hq⟩; have z0 := hq.cell (p := ⟨w.heap.size, 0, none⟩) (by simp; omega); have z1 := hq.cell (p := ⟨w.heap.size, 1, none⟩) (by simp; omega); have y0 := hq.frozen (p := ⟨w.heap.size, 0, none⟩) (by simp; omega); have y1 := hq.frozen (p := ⟨w.heap.size, 1, none⟩) (by simp; omega); have hsz := hq.size; simp at hsz; have hsz2 : w.heap.size < w1.heap.size := by omega)
  refine bodyPost_ret (v := .tuple #[.agg #[.int .u64 0, .int .u64 0], .slice none 0 0, .int .i64 code]) (by simp [results, Tryd.results38, go_sem, *]) rfl ?_
  rw [HR.out]
  exact ⟨rfl, (((bel2 hq).setCell (p := ⟨w.heap.size, 0, none⟩) (Nat.le_refl _) _).setCell (p := ⟨w.heap.size, 1, none⟩) (Nat.le_refl _) _).alloc (by simp; omega) _⟩

theorem readSquare_prime (p : Nat) (A : Option Addr) (n c : Nat) (w : World) (hpr : ¬ Pr p) (hp : p < 4294967296) (hw : Bases w) : Calls Tryd.prog 38 #[.slice A n c, .int .u32 (p : Int)] w (ErrOf w 40) :=
  readSquare_err p A n c w 40 (by decide) fun W q _ hW => read_prime p _ 1 1 W hpr hp (hw.below hW hw.lt)
theorem readSquare_shape (p : Nat) (A : Option Addr) (c : Nat) (M : List (List Nat)) (w : World) (B : Nat) (hpr : Pr p) (hp : p < 4294967296) (hw : Bases w) (hr : RdM w B A M) (hB : B ≤ w.heap.size) (hc : M.length ≤ c) (hs : Sized M) (hrect : ¬ Rect M) : Calls Tryd.prog 38 #[.slice A M.length c, .int .u32 (p : Int)] w (ErrOf w 2) :=
  readSquare_err p A M.length c w 2 (by decide) fun W q hb hW => read_one_bad p A c q M W B hpr hp (hw.below hW hw.lt) hb (hr.below (hW.mono hB)) (Nat.le_trans hB hW.size) hc hs hrect

set_option maxHeartbeats 1600000 in
theorem readSquare_not (p : Nat) (A : Option Addr) (c : Nat) (M : List (List Nat)) (w : World) (B : Nat) (hpr : Pr p) (hp : p < 4294967296) (hw : Bases w) (hr : RdM w B A M) (hB : B ≤ w.heap.size) (hc : M.length ≤ c) (hs : Sized M) (hrect : Rect M) (hsq : ¬ Sq M) : Calls Tryd.prog 38 #[.slice A M.length c, .int .u32 (p : Int)] w (ErrOf w 3) := by
  have hwl := hw.lt
  have Hr : Hid (∀ o, Calls Tryd.prog 49 #[.int .u32 (p : Int), .slice (some ⟨w.heap.size + 1, 0, none⟩) 1 1] ((w.alloc o).alloc (.cells #[.slice A M.length c] 26)) fun e w' => ∃ gl g hs, e = .returned (.tuple #[fieldV p (spN p), .slice (some ⟨gl, 0, none⟩) 1 1, .int .i64 0]) ∧ ((w.alloc o).alloc (.cells #[.slice A M.length c] 26)).heap.size ≤ gl ∧ Blk w' gl 26 [hdrM g M] ∧ Own w' (gl + 1) g hs (modN p M) ∧ UB w'.heap.size hs ∧ Below ((w.alloc o).alloc (.cells #[.slice A M.length c] 26)).heap.size ((w.alloc o).alloc (.cells #[.slice A M.length c] 26)) w') := fun o => by
    have hW : Below w.heap.size w ((w.alloc o).alloc (.cells #[.slice A M.length c] 26)) := ((Below.refl _ _).alloc (Nat.le_refl _) _).alloc (by simp) _
    exact read_one_ok p A c (w.heap.size + 1) M _ B hpr hp (hw.below hW hwl) (by
      have := Blk.new_ (w := w.alloc o) (t := 26) (cs := #[.slice A M.length c]) (vs := [.slice A M.length c]) rfl
      simpa using this) (hr.below (hW.mono hB)) (Nat.le_trans hB hW.size) hc hs hrect
  have Hcol : Hid (∀ W, Below w.heap.size w W → Calls Tryd.prog 51 #[.slice A M.length c] W fun e w' => e = .returned (.int .i64 (cols M : Int)) ∧ w' = W) := fun W hW => columns_any A c M W B (hr.below (hW.mono hB)) hc (by have := hs.rows; omega)
  obtain ⟨R, hR⟩ : ∃ R, R = ErrOf w 3 := ⟨_, rfl⟩
  rw [← hR]
  have HR := Lib.hid hR
  have hsq2 : M.length = 0 ∨ (M.length ≠ 0 ∧ M.length ≠ cols M) := by
    by_cases h0 : M.length = 0
    · exact Or.inl h0
    · exact Or.inr ⟨h0, fun e => hsq ⟨by omega, e⟩⟩
  clear hR hs hrect hsq hr hw hwl
  rcases hsq2 with h0 | h0
  · have t1 : ((M.length : Int) == 0) = true := beq_iff_eq.2 (by omega)
    clear h0
    go_enter Tryd.func38, Tryd.ntmps38
    go_wp2_with (go_at_call 49; (with_reducible refine (Hr.out _).mono ?_); rintro e w1 ⟨gl, g, hs, rfl, hglo, hbl, ho, hu, hq⟩; have z0 := hq.cell (p := ⟨w.heap.size, 0, none⟩) (by simp; omega); have z1 := hq.cell (p := ⟨w.heap.size, 1, none⟩) (by simp; omega); have y0 := hq.frozen (p := ⟨w.heap.size, 0, none⟩) (by simp; omega); have y1 := hq.frozen (p := ⟨w.heap.size, 1, none⟩) (by simp; omega); have hsz := hq.size; simp at hsz; have hsz2 : w.heap.size < w1.heap.size := by omega)
    refine bodyPost_ret (v := .tuple #[.agg #[.int .u64 0, .int .u64 0], .slice none 0 0, .int .i64 3]) (by simp [results, Tryd.results38, go_sem, *]) rfl ?_
    rw [HR.out]
    exact ⟨rfl, (((bel2 hq).setCell (p := ⟨w.heap.size, 0, none⟩) (Nat.le_refl _) _).setCell (p := ⟨w.heap.size, 1, none⟩) (Nat.le_refl _) _).alloc (by simp; omega) _⟩
  · have t1 : ((M.length : Int) == 0) = false := beq_eq_false_iff_ne.2 (by omega)
    have t2 : ((M.length : Int) != (cols M : Int)) = true := by rw [bne_iff_ne]; omega
    clear h0
    go_enter Tryd.func38, Tryd.ntmps38
    go_wp2_with (first | (go_at_call 49; (with_reducible refine (Hr.out _).mono ?_); rintro e w1 ⟨gl, g, hs, rfl, hglo, hbl, ho, hu, hq⟩; have z0 := hq.cell (p := ⟨w.heap.size, 0, none⟩) (by simp; omega); have z1 := hq.cell (p := ⟨w.heap.size, 1, none⟩) (by simp; omega); have y0 := hq.frozen (p := ⟨w.heap.size, 0, none⟩) (by simp; omega); have y1 := hq.frozen (p := ⟨w.heap.size, 1, none⟩) (by simp; omega); have hsz := hq.size; simp at hsz; have hsz2 : w.heap.size < w1.heap.size := by omega) | (go_at_call 51; (with_reducible refine (Hcol.out _ (by first | exact (bel2 hq).alloc (Nat.le_of_lt hsz2) _)).mono ?_); rintro e w2 ⟨rfl, rfl⟩))
    refine bodyPost_ret (v := .tuple #[.agg #[.int .u64 0, .int .u64 0], .slice none 0 0, .int .i64 3]) (by simp [results, Tryd.results38, go_sem, *]) rfl ?_
    rw [HR.out]
    exact ⟨rfl, (((bel2 hq).setCell (p := ⟨w.heap.size, 0, none⟩) (Nat.le_refl _) _).setCell (p := ⟨w.heap.size, 1, none⟩) (Nat.le_refl _) _).alloc (by simp; omega) _⟩

set_option maxHeartbeats 3200000 in
theorem readSquare_ok (p : Nat) (A : Option Addr) (c : Nat) (M : List (List Nat)) (w : World) (B : Nat) (hpr : Pr p) (hp : p < 4294967296) (hw : Bases w) (hr : RdM w B A M) (hB : B ≤ w.heap.size) (hc : M.length ≤ c) (hs : Sized M) (hrect : Rect M) (hsq : Sq M) :
    Calls Tryd.prog 38 #[.slice A M.length c, .int .u32 (p : Int)] w fun e w' => ∃ g hs, e = .returned (.tuple #[fieldV p (spN p), .slice (some ⟨g, 0, none⟩) M.length M.length, .int .i64 0]) ∧ Own w' w.heap.size g hs (modN p M) ∧ UB w'.heap.size hs ∧ Below w.heap.size w w' := by
  have hwl := hw.lt
  have Hr : Hid (∀ o, Calls Tryd.prog 49 #[.int .u32 (p : Int), .slice (some ⟨w.heap.size + 1, 0, none⟩) 1 1] ((w.alloc o).alloc (.cells #[.slice A M.length c] 26)) fun e w' => ∃ gl g hs, e = .returned (.tuple #[fieldV p (spN p), .slice (some ⟨gl, 0, none⟩) 1 1, .int .i64 0]) ∧ ((w.alloc o).alloc (.cells #[.slice A M.length c] 26)).heap.size ≤ gl ∧ Blk w' gl 26 [hdrM g M] ∧ Own w' (gl + 1) g hs (modN p M) ∧ UB w'.heap.size hs ∧ Below ((w.alloc o).alloc (.cells #[.slice A M.length c] 26)).heap.size ((w.alloc o).alloc (.cells #[.slice A M.length c] 26)) w') := fun o => by
    have hW : Below w.heap.size w ((w.alloc o).alloc (.cells #[.slice A M.length c] 26)) := ((Below.refl _ _).alloc (Nat.le_refl _) _).alloc (by simp) _
    exact read_one_ok p A c (w.heap.size + 1) M _ B hpr hp (hw.below hW hwl) (by
      have := Blk.new_ (w := w.alloc o) (t := 26) (cs := #[.slice A M.length c]) (vs := [.slice A M.length c]) rfl
      simpa using this) (hr.below (hW.mono hB)) (Nat.le_trans hB hW.size) hc hs hrect
  have Hcol : Hid (∀ W, Below w.heap.size w W → Calls Tryd.prog 51 #[.slice A M.length c] W fun e w' => e = .returned (.int .i64 (cols M : Int)) ∧ w' = W) := fun W hW => columns_any A c M W B (hr.below (hW.mono hB)) hc (by have := hs.rows; omega)
  have t1 : ((M.length : Int) == 0) = false := beq_eq_false_iff_ne.2 (by have := hsq.1; omega)
  have t2 : ((M.length : Int) != (cols M : Int)) = false := by rw [← hsq.2]; simp
  obtain ⟨sp, hsp⟩ : ∃ sp, sp = spN p := ⟨_, rfl⟩
  rw [← hsp] at Hr ⊢
  clear hs hrect hsq hr hw hwl hsp
  go_enter Tryd.func38, Tryd.ntmps38
  go_wp2_with (first | (go_at_call 49; (with_reducible refine (Hr.out _).mono ?_); rintro e w1 ⟨gl, g, hs, rfl, hglo, hbl, ho, hu, hq⟩; have hsz2 : w.heap.size < w1.heap.size := (by have := hq.size; simp at this; omega)) | (go_at_call 51; (with_reducible refine (Hcol.out _ (by first | exact (bel2 hq).alloc (Nat.le_of_lt hsz2) _)).mono ?_); rintro e w2 ⟨rfl, rfl⟩))
  have z0 := hq.cell (p := ⟨w.heap.size, 0, none⟩) (by simp; omega)
  have z1 := hq.cell (p := ⟨w.heap.size, 1, none⟩) (by simp; omega)
  have y0 := hq.frozen (p := ⟨w.heap.size, 0, none⟩) (by simp; omega)
  have y1 := hq.frozen (p := ⟨w.heap.size, 1, none⟩) (by simp; omega)
  have hsz := hq.size
  have hgl := hbl.lt
  have cl := hbl.cell0
  unfold hdrM at cl
  have hsz3 : ¬ (w1.heap.size = w.heap.size) := by omega
  have hsz4 : ¬ (w.heap.size = w1.heap.size) := by omega
  have Hb2 := Lib.hid (bel2 hq)
  have Hho := Lib.hid ho
  have hsz5 := hsz
  obtain ⟨W2, hW2⟩ : ∃ W2, W2 = w1.alloc (.cells #[.int .u64 (p : Int), .int .u64 (sp : Int)] 63) := ⟨_, rfl⟩
  have hbel12 : Below w1.heap.size w1 W2 := by rw [hW2]; exact (Below.refl _ _).alloc (Nat.le_refl _) _
  have hbf : Blk W2 w1.heap.size 63 [.int .u64 (p : Int), .int .u64 (sp : Int)] := by rw [hW2]; exact Blk.new_ rfl
  have f0 := hbf.cell 0
  have f1 := hbf.cell 1
  have cl2 := (hbel12.cell (p := ⟨gl, 0, none⟩) hgl).trans cl
  have x0 := (hbel12.cell (p := ⟨w.heap.size, 0, none⟩) hsz2).trans z0
  have x1 := (hbel12.cell (p := ⟨w.heap.size, 1, none⟩) hsz2).trans z1
  have v0 := (hbel12.frozen (p := ⟨w.heap.size, 0, none⟩) hsz2).trans y0
  have v1 := (hbel12.frozen (p := ⟨w.heap.size, 1, none⟩) hsz2).trans y1
  have hgw : w.heap.size + 1 < gl := by simp at hglo; omega
  have hgn1 : ¬ (gl = w.heap.size) := by omega
  have hgn2 : ¬ (w.heap.size = gl) := by omega
  rw [← hW2]
  clear hW2 cl z0 z1 y0 y1
  go_region
  all_goals
    go_wp2_with fail
    refine bodyPost_ret (v := .tuple #[fieldV p sp, .slice (some ⟨g, 0, none⟩) M.length M.length, .int .i64 0]) (by simp [results, Tryd.results38, go_sem, *]) rfl ?_
    have htn := (((Tn.refl w.heap.size W2).setCell 0 (.int .u64 (p : Int))).setCell 1 (.int .u64 (sp : Int))).drew
    refine ⟨g, hs, rfl, ((Hho.out.below hbel12 (Nat.le_refl _)).tnLow htn (by omega)).mono (by omega), (hu.mono hbel12.size).mono htn.size, ?_⟩
    exact (Hb2.out.trans (hbel12.mono (by omega))).trans (htn.below (Nat.le_refl _) (by have := hbel12.size; omega))
end
end Go.Proofs.YtecdjanopiibcaaDoor
