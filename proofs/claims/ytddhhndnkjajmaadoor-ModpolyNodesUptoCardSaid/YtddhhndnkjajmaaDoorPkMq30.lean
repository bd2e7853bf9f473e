/- The contract of Interp at nodes that are distinct modulo the prime. Conditions: p a prime below 2^32; bases reads 2, 7, 61; at most 1000 nodes. -/
import Derived.Test.YtddhhndnkjajmaaDoorPkMq29
namespace Go.Proofs.YtddhhndnkjajmaaDoor
open Go.RowKit

set_option maxRecDepth 20000 in
set_option maxHeartbeats 3200000 in
theorem pInterp_yes (A : Option Addr) (c : Nat) (l : List (Nat × Nat)) (p : Nat) (w : World) (hpr : Pr p) (hp : p < 4294967296) (hw : Bases w) (hr : NL w A l) (hl : l.length ≤ 1000) (hd : ∀ n ∈ l, n.1 < 4294967296 ∧ n.2 < 4294967296) (hpw : l.Pairwise fun n m => ¬ (p : Int) ∣ (m.1 : Int) - (n.1 : Int)) :
    Calls Tryd.prog 45 #[.slice A l.length c, .int .u32 (p : Int)] w fun e w' => ∃ r A' c', e = .returned (.tuple #[.slice A' r.length c', .int .i64 0]) ∧ Res w' w.heap.size 24 A' c' (u32s r) ∧ Below w.heap.size w w' ∧ Nf p r ∧ r.length ≤ l.length ∧ ∀ n ∈ l, (p : Int) ∣ (zo r).v (n.1 : Int) - (n.2 : Int) := by
  have hp0 := hpr.pos
  obtain ⟨sp, hsp⟩ : ∃ sp, sp = spN p := ⟨_, rfl⟩
  have HF := Lib.hid (fieldOf_yes p w hpr hp hw)
  rw [← hsp] at HF
  have HXB : Hid (∀ W, Below w.heap.size w W → Bases W) := fun W hW => hw.below hW hw.lt
  have HEV : Hid (∀ (W : World) A c (a : List Nat) (x : Nat), Rd W W.heap.size A (u32s a) → a.length ≤ 1001 → Nf p a → x < p → Calls Tryd.prog 62 #[fieldV p sp, .slice A a.length c, .int .u32 (x : Int)] W fun e w' => e = .returned (.int .u32 ((evN p a x : Nat) : Int)) ∧ Below W.heap.size W w') := fun W A c a x h1 h2 h3 h4 => feval_any p sp A c a x W _ hp0 hp h1 (Nat.le_refl _) (by unfold Big; omega) (fun x hx => by have := h3.1 x hx; omega) h4
  have HSB : Hid (∀ W (a b : Nat), Below w.heap.size w W → a < 4294967296 → b < 4294967296 → Calls Tryd.prog 70 #[.int .u32 (a : Int), .int .u32 (b : Int), .int .u32 (p : Int)] W fun e w' => e = .returned (.tuple #[.int .u32 (((a + (p - b % p)) % p : Nat) : Int), .int .i64 0]) ∧ Below W.heap.size W w') := fun W a b hW h1 h2 => (psub_yes a b p h1 h2 hpr hp W (HXB.out W hW)).mono fun _ _ h => ⟨h.1, h.2 ▸ Below.refl _ _⟩
  have HQU : Hid (∀ W (a b : Nat), Below w.heap.size w W → a < 4294967296 → b % p ≠ 0 → Calls Tryd.prog 71 #[.int .u32 (a : Int), .int .u32 (b : Int), .int .u32 (p : Int)] W fun e w' => e = .returned (.tuple #[.int .u32 ((a * (b ^ (p - 2) % p) % p : Nat) : Int), .int .i64 0]) ∧ Below W.heap.size W w') := fun W a b hW h1 h2 => (pquo_yes a b p h1 hpr hp h2 W (HXB.out W hW)).mono fun _ _ h => ⟨h.1, h.2 ▸ Below.refl _ _⟩
  have HSC : Hid (∀ (W : World) A c (a s : List Nat) (u : Nat), Rd W W.heap.size A (u32s a) → a.length ≤ 1001 → Nf p a → u < p → Nf p s → Cg p (zo s) (zo a * .c u) → Calls Tryd.prog 60 #[fieldV p sp, .slice A a.length c, .int .u32 (u : Int)] W (PR1 W s)) := fun W A c a s u h1 h2 h3 h4 h5 h6 => (scaled_any p sp A c u a W _ hp0 hp h1 (Nat.le_refl _) (by unfold Big; omega) (fun x hx => by have := h3.1 x hx; omega) (by omega)).mono fun _ _ h => h.exact hp0 h5 h6
  have HSU : Hid (∀ (W : World) A A' c c' (a b s : List Nat), Rd W W.heap.size A (u32s a) → Rd W W.heap.size A' (u32s b) → a.length ≤ 1001 → b.length ≤ 1001 → Nf p a → Nf p b → Nf p s → Cg p (zo s) (zo a + zo b) → Calls Tryd.prog 53 #[fieldV p sp, .slice A a.length c, .slice A' b.length c'] W (PR1 W s)) := fun W A A' c c' a b s h1 h2 h3 h4 h5 h6 h7 h8 => (fsum_any p sp A A' c c' a b W _ hp0 hp h1 h2 (Nat.le_refl _) (by unfold Big; omega) (by unfold Big; omega) h5.1 h6.1).mono fun _ _ h => h.exact hp0 h7 h8
  have HPO : Hid (∀ (W : World) A A' c c' (a b s : List Nat), Rd W W.heap.size A (u32s a) → Rd W W.heap.size A' (u32s b) → a.length ≤ 1001 → b.length ≤ 1001 → Nf p a → Nf p b → Nf p s → Cg p (zo s) (zo a * zo b) → Calls Tryd.prog 55 #[fieldV p sp, .slice A a.length c, .slice A' b.length c'] W (PR1 W s)) := fun W A A' c c' a b s h1 h2 h3 h4 h5 h6 h7 h8 => (fproduct_any p sp A A' c c' a b W _ hpr hp hsp h1 h2 (Nat.le_refl _) (by unfold Big; omega) (by unfold Big; omega) h5 h6).mono fun _ _ h => h.exact hp0 h7 h8
  have HST : Hid (Ip p (l.take 0) [] [1]) := by rw [List.take_zero]; exact Ip.start hpr
  have HDN : Hid (∀ r nod, Ip p (l.take l.length) r nod → Nf p r ∧ r.length ≤ l.length ∧ ∀ n ∈ l, (p : Int) ∣ (zo r).v (n.1 : Int) - (n.2 : Int)) := fun r nod h => by
    rw [List.take_length] at h
    exact ⟨h.no, h.lo, h.at_⟩
  have HSP : Hid (∀ k (hk : k < l.length) out nod, Ip p (l.take k) out nod → out.length ≤ 1001 ∧ nod.length ≤ 1001 ∧ Nf p out ∧ Nf p nod ∧ l[k].1 < 4294967296 ∧ l[k].2 < 4294967296 ∧ evN p nod (l[k].1 % p) % p ≠ 0 ∧ evN p nod (l[k].1 % p) < p ∧ evN p out (l[k].1 % p) < p ∧
      ∀ t, t = (l[k].2 + (p - evN p out (l[k].1 % p) % p)) % p * (evN p nod (l[k].1 % p) ^ (p - 2) % p) % p → ∃ s out' nod', Nf p s ∧ s.length ≤ 1001 ∧ Cg p (zo s) (zo nod * .c t) ∧ Nf p out' ∧ Cg p (zo out') (zo out + zo s) ∧ Nf p nod' ∧ Cg p (zo nod') (zo nod * zo [(p - l[k].1 % p) % p, 1]) ∧ Nf p [(p - l[k].1 % p) % p, 1] ∧ Ip p (l.take (k + 1)) out' nod') := fun k hk out nod h => by
    have hmem := hd _ (List.getElem_mem hk)
    have hX : ∀ n ∈ l.take k, ¬ (p : Int) ∣ (l[k].1 : Int) - (n.1 : Int) := fun n hn => by
      obtain ⟨i, hi, rfl⟩ := List.mem_iff_getElem.1 hn
      rw [List.length_take] at hi
      rw [List.getElem_take]
      exact List.pairwise_iff_getElem.1 hpw i k (by omega) hk (by omega)
    have l1 := h.lo
    have l2 := h.ln
    rw [List.length_take] at l1 l2
    have hh := h.height _ hX
    refine ⟨by omega, by omega, h.no, h.nn, hmem.1, hmem.2, fun e => hh (Nat.dvd_of_mod_eq_zero e), evN_lt hp0 _ _, evN_lt hp0 _ _, fun t ht => ?_⟩
    obtain ⟨s, s1, s2⟩ := nf_of hp0 (zo nod * .c t)
    obtain ⟨o', o1, o2⟩ := nf_of hp0 (zo out + zo s)
    obtain ⟨n', n1, n2⟩ := nf_of hp0 (zo nod * zo [(p - l[k].1 % p) % p, 1])
    have l3 := len_of_c hp0 s1 s2
    have hm9 : (p - l[k].1 % p) % p < p := Nat.mod_lt _ hp0
    refine ⟨s, o', n', s1, by omega, s2, o1, o2, n1, n2, ⟨fun x hx => ?_, by simp [trimL]⟩, ?_⟩
    · have := hpr.two
      simp only [List.mem_cons, List.not_mem_nil, or_false] at hx
      rcases hx with rfl | rfl <;> omega
    · rw [List.take_succ_eq_append_getElem hk]
      exact h.step hpr hX ht s2 o1 o2 n1 n2
  have z0 : ((p : Int) == 0) = false := bz hp0
  have Hr := Lib.hid hr
  clear hr hw hd hpw hsp
  go_enter Tryd.func45, Tryd.ntmps45
  go_upto_region 4 with (go_at_call 50; (with_reducible refine HF.out.mono ?_); rintro _ w0 ⟨rfl, hb0⟩)
  obtain ⟨W1, hW1⟩ : ∃ W1, W1 = w0.alloc (.cells #[.int .u64 (p : Int), .int .u64 (sp : Int)] 77 (0, 0)) := ⟨_, rfl⟩
  have hb01 : Below w0.heap.size w0 W1 := by rw [hW1]; exact (Below.refl _ _).alloc (Nat.le_refl _) _
  have hbf : Blk W1 w0.heap.size 77 [.int .u64 (p : Int), .int .u64 (sp : Int)] := by rw [hW1]; exact Blk.new_ rfl
  have hzb := hbf.lt
  have f0 := hbf.cell 0
  have f1 := hbf.cell 1
  simp only [List.getElem?_cons_zero, List.getElem?_cons_succ] at f0 f1
  have Hb1 := Lib.hid (hb0.trans (hb01.mono hb0.size))
  have Nr1 := Lib.hid (Hr.out.below Hb1.out)
  rw [← hW1]
  obtain ⟨gb, hgb⟩ : ∃ gb, gb = w0.heap.size := ⟨_, rfl⟩
  rw [← hgb] at f0 f1 hzb ⊢
  clear hW1 hb01 hbf hgb hb0
  go_upto_region 9 with (fail)
  obtain ⟨W2, hW2⟩ : ∃ W2, W2 = W1.alloc (.cells #[.int .u32 1] 24) := ⟨_, rfl⟩
  have hb12 : Below W1.heap.size W1 W2 := by rw [hW2]; exact (Below.refl _ _).alloc (Nat.le_refl _) _
  have hrn : Rd W2 W2.heap.size (some ⟨W1.heap.size, 0, none⟩) (u32s [1]) := by rw [hW2]; exact Rd.of_blk (Blk.new_ rfl) (by simp) 0 (fun k v hv => by rw [Nat.zero_add]; exact hv)
  have Hb2 := Lib.hid (Hb1.out.trans (hb12.mono Hb1.out.size))
  have Nr2 := Lib.hid (Nr1.out.below hb12)
  have g0 := (hb12.cell (p := ⟨gb, 0, none⟩) hzb).trans f0
  have g1 := (hb12.cell (p := ⟨gb, 1, none⟩) hzb).trans f1
  have hz2 := Nat.lt_of_lt_of_le hzb hb12.size
  have G0 := Lib.hid g0
  have G1 := Lib.hid g1
  rw [← hW2]
  clear hW2 hb12 f0 f1 hzb g0 g1
  go_loopw [8, 9, 34] (fun ov nv iv wr => ∃ (k : Nat) (out nod : List Nat) (A8 A9 : Option Addr) (c8 c9 : Nat), k ≤ l.length ∧ iv = .int .i64 (k : Int) ∧ ov = .slice A8 out.length c8 ∧ nv = .slice A9 nod.length c9 ∧ Hid (Res wr w.heap.size 24 A8 c8 (u32s out)) ∧ Hid (Rd wr wr.heap.size A9 (u32s nod)) ∧ Hid (Ip p (l.take k) out nod) ∧ Below W2.heap.size W2 wr) (fun _ _ iv _ => l.length - (intOf iv).toNat)
  case atStart => exact ⟨0, [], [1], none, _, 0, 1, by omega, rfl, rfl, rfl, Res.none_, hrn, HST, Below.refl _ _⟩
  case round =>
    obtain ⟨k, out, nod, A8, A9, c8, c9, hk, rfl, rfl, rfl, hro, hrd, hip, hbq⟩ := hrel
    have HBQ := Lib.hid (Hb2.out.trans (hbq.mono Hb2.out.size))
    have Hbq := Lib.hid hbq
    by_cases hkl : k < l.length
    · obtain ⟨ba, oa, rfl, hba, hx1, hx2⟩ := (Nr2.out.below hbq) k hkl
      have u0 := (hbq.cell (p := ⟨gb, 0, none⟩) hz2).trans G0.out
      have u1 := (hbq.cell (p := ⟨gb, 1, none⟩) hz2).trans G1.out
      have huz := Nat.lt_of_lt_of_le hz2 hbq.size
      obtain ⟨lo, ln, no, nn, lX, lY, hne, hel, hol, hst⟩ := HSP.out k hkl out nod hip.out
      obtain ⟨X, hX⟩ : ∃ X, X = l[k].1 := ⟨_, rfl⟩
      obtain ⟨Y, hY⟩ : ∃ Y, Y = l[k].2 := ⟨_, rfl⟩
      rw [← hX] at hx1 lX hne hel hol hst
      rw [← hY] at hx2 lY hst
      obtain ⟨x, hx⟩ : ∃ x, x = X % p := ⟨_, rfl⟩
      rw [← hx] at hne hel hol hst
      have hxp : x < p := by rw [hx]; exact Nat.mod_lt _ hp0
      have t0 : (X : Int) % (p : Int) = (x : Int) := by rw [hx]; exact cast_mod X p
      obtain ⟨h, hh⟩ : ∃ h, h = evN p nod x := ⟨_, rfl⟩
      obtain ⟨v, hv⟩ : ∃ v, v = evN p out x := ⟨_, rfl⟩
      rw [← hh] at hne hel hst
      rw [← hv] at hol hst
      have HH := Lib.hid hh
      have HV := Lib.hid hv
      have hne2 : h ≠ 0 := fun e => hne (by rw [e]; simp)
      have t1 : ((h : Int) == 0) = false := bz (by omega)
      obtain ⟨lk, hlk⟩ : ∃ lk, lk = (Y + (p - v % p)) % p := ⟨_, rfl⟩
      obtain ⟨tm, htm⟩ : ∃ tm, tm = lk * (h ^ (p - 2) % p) % p := ⟨_, rfl⟩
      obtain ⟨s, out', nod', s1, s2, s3, o1, o2, n1, n2, n3, hst⟩ := hst tm (by rw [htm, hlk])
      have hlkp : lk < p := by rw [hlk]; exact Nat.mod_lt _ hp0
      have htmp : tm < p := by rw [htm]; exact Nat.mod_lt _ hp0
      obtain ⟨m, hm⟩ : ∃ m, m = (p - x) % p := ⟨_, rfl⟩
      rw [← hm] at n2 n3
      have t2 : ((p : Int) - (x : Int)) % (p : Int) = (m : Int) := by rw [hm]; rw [← Int.natCast_sub (by omega)]; exact cast_mod _ p
      have t3 : ((p : Int) - (x : Int)).tmod (p : Int) = (m : Int) := by rw [hm, ← Int.natCast_sub (by omega), tmodN]
      have hmp : m < p := by rw [hm]; exact Nat.mod_lt _ hp0
      have q1 : IntKind.u32.wrap ((p : Int) - (x : Int)) = (p : Int) - (x : Int) := by rw [← Int.natCast_sub (by omega)]; exact w32 (by omega)
      have HLK := Lib.hid hlk
      have HTM := Lib.hid htm
      have No := Lib.hid no
      have Nn := Lib.hid nn
      have Hne := Lib.hid hne
      have S1 := Lib.hid s1
      have S3 := Lib.hid s3
      have O1 := Lib.hid o1
      have O2 := Lib.hid o2
      have N1 := Lib.hid n1
      have N2 := Lib.hid n2
      have N3 := Lib.hid n3
      have HIP := Lib.hid hst
      have Hrd2 : Hid (Rd wr wr.heap.size A8 (u32s out)) := hro.out.rd
      clear hx hX hY hh hv hlk htm hm no nn hne hne2 s1 s3 o1 o2 n1 n2 n3 hst hip hbq
      go_upto_region 12 with (fail)
      rw [t0]
      obtain ⟨W3, hW3⟩ : ∃ W3, W3 = wr.alloc (.cells #[.int .u32 (X : Int), .int .u32 (Y : Int)] 65) := ⟨_, rfl⟩
      have hb3 : Below wr.heap.size wr W3 := by rw [hW3]; exact (Below.refl _ _).alloc (Nat.le_refl _) _
      have hbn : Blk W3 wr.heap.size 65 [.int .u32 (X : Int), .int .u32 (Y : Int)] := by rw [hW3]; exact Blk.new_ rfl
      have n0 := hbn.cell 0
      have n1 := hbn.cell 1
      simp only [List.getElem?_cons_zero, List.getElem?_cons_succ] at n0 n1
      have nz := hbn.lt
      have v0 := (hb3.cell (p := ⟨gb, 0, none⟩) huz).trans u0
      have v1 := (hb3.cell (p := ⟨gb, 1, none⟩) huz).trans u1
      have vz := Nat.lt_of_lt_of_le huz hb3.size
      have HB3 := Lib.hid (Hbq.out.trans (hb3.mono Hbq.out.size))
      have R3_out := Lib.hid ((Hrd2.out.below hb3).mono hb3.size)
      have R3_nod := Lib.hid ((hrd.out.below hb3).mono hb3.size)
      rw [← hW3]
      obtain ⟨gn, hgn⟩ : ∃ gn, gn = wr.heap.size := ⟨_, rfl⟩
      rw [← hgn] at n0 n1 nz ⊢
      clear hW3 hb3 hbn u0 u1 huz hgn hba hx1 hx2 hrd hro Hrd2 t0
      have HSB2 : Hid (∀ W (a b : Nat), Below W2.heap.size W2 W → a < 4294967296 → b < 4294967296 → Calls Tryd.prog 70 #[.int .u32 (a : Int), .int .u32 (b : Int), .int .u32 (p : Int)] W fun e w' => e = .returned (.tuple #[.int .u32 (((a + (p - b % p)) % p : Nat) : Int), .int .i64 0]) ∧ Below W.heap.size W w') := fun W a b hW => HSB.out W a b (Hb2.out.trans (hW.mono Hb2.out.size))
      have HEN : Hid (∀ (W : World) A c, Rd W W.heap.size A (u32s nod) → Calls Tryd.prog 62 #[fieldV p sp, .slice A nod.length c, .int .u32 (x : Int)] W fun e w' => e = .returned (.int .u32 (h : Int)) ∧ Below W.heap.size W w') := fun W A c h1 => by rw [HH.out]; exact HEV.out W A c nod x h1 ln Nn.out hxp
      have HEO : Hid (∀ (W : World) A c, Rd W W.heap.size A (u32s out) → Calls Tryd.prog 62 #[fieldV p sp, .slice A out.length c, .int .u32 (x : Int)] W fun e w' => e = .returned (.int .u32 (v : Int)) ∧ Below W.heap.size W w') := fun W A c h1 => by rw [HV.out]; exact HEV.out W A c out x h1 lo No.out hxp
      have HSL : Hid (∀ W, Below W2.heap.size W2 W → Calls Tryd.prog 70 #[.int .u32 (Y : Int), .int .u32 (v : Int), .int .u32 (p : Int)] W fun e w' => e = .returned (.tuple #[.int .u32 (lk : Int), .int .i64 0]) ∧ Below W.heap.size W w') := fun W hW => by rw [HLK.out]; exact HSB2.out W Y v hW lY (by omega)
      have HQL : Hid (∀ W, Below W2.heap.size W2 W → Calls Tryd.prog 71 #[.int .u32 (lk : Int), .int .u32 (h : Int), .int .u32 (p : Int)] W fun e w' => e = .returned (.tuple #[.int .u32 (tm : Int), .int .i64 0]) ∧ Below W.heap.size W w') := fun W hW => by rw [HTM.out]; exact HQU.out W lk h (Hb2.out.trans (hW.mono Hb2.out.size)) (by omega) Hne.out
      go_upto_region 15 with (go_at_call 62; (with_reducible refine (HEN.out _ _ _ (by first | exact R3_nod.out | exact R3_nod.out.drewS)).mono ?_); rintro _ w3z ⟨rfl, hb3⟩; have hx3 : Below W3.heap.size W3 w3z := (by first | exact hb3 | exact (Below.refl _ _).drew.trans hb3); have HB3 := Lib.hid (HB3.out.trans (hx3.mono HB3.out.size)); have zx3_0 := (hx3.cell (p := ⟨gb, 0, none⟩) vz).trans v0; have zy3_0 : gb < w3z.heap.size := Nat.lt_of_lt_of_le vz hx3.size; have zx3_1 := (hx3.cell (p := ⟨gb, 1, none⟩) vz).trans v1; have zy3_1 : gb < w3z.heap.size := Nat.lt_of_lt_of_le vz hx3.size; have zx3_2 := (hx3.cell (p := ⟨gn, 0, none⟩) nz).trans n0; have zy3_2 : gn < w3z.heap.size := Nat.lt_of_lt_of_le nz hx3.size; have zx3_3 := (hx3.cell (p := ⟨gn, 1, none⟩) nz).trans n1; have zy3_3 : gn < w3z.heap.size := Nat.lt_of_lt_of_le nz hx3.size; have zR3_out := Lib.hid ((R3_out.out.below hx3).mono hx3.size); have zR3_nod := Lib.hid ((R3_nod.out.below hx3).mono hx3.size); clear hx3; clear R3_out R3_nod)
      go_region_held3 (fun W => W.cell? ⟨gb, 0, none⟩ = some (.int .u64 (p : Int)) ∧ W.cell? ⟨gb, 1, none⟩ = some (.int .u64 (sp : Int)) ∧ W.cell? ⟨gn, 0, none⟩ = some (.int .u32 (X : Int)) ∧ W.cell? ⟨gn, 1, none⟩ = some (.int .u32 (Y : Int))) (go_keep) (first
        | (go_at_call 62; (with_reducible refine (HEO.out _ _ _ (by first | exact zR3_out.out | exact zR3_out.out.drewS)).mono ?_); rintro _ w4z ⟨rfl, hb4⟩; have hx4 : Below w3z.heap.size w3z w4z := (by first | exact hb4 | exact (Below.refl _ _).drew.trans hb4); have HB4 := Lib.hid (HB3.out.trans (hx4.mono HB3.out.size)); have zx4_0 := (hx4.cell (p := ⟨gb, 0, none⟩) zy3_0).trans zx3_0; have zy4_0 : gb < w4z.heap.size := Nat.lt_of_lt_of_le zy3_0 hx4.size; have zx4_1 := (hx4.cell (p := ⟨gb, 1, none⟩) zy3_1).trans zx3_1; have zy4_1 : gb < w4z.heap.size := Nat.lt_of_lt_of_le zy3_1 hx4.size; have zx4_2 := (hx4.cell (p := ⟨gn, 0, none⟩) zy3_2).trans zx3_2; have zy4_2 : gn < w4z.heap.size := Nat.lt_of_lt_of_le zy3_2 hx4.size; have zx4_3 := (hx4.cell (p := ⟨gn, 1, none⟩) zy3_3).trans zx3_3; have zy4_3 : gn < w4z.heap.size := Nat.lt_of_lt_of_le zy3_3 hx4.size; have zR4_out := Lib.hid ((zR3_out.out.below hx4).mono hx4.size); have zR4_nod := Lib.hid ((zR3_nod.out.below hx4).mono hx4.size); clear hx4; clear zR3_out zR3_nod)
        | (go_at_call 70; (with_reducible refine (HSL.out _ (by first | exact HB4.out | exact HB4.out.drew)).mono ?_); rintro _ w5z ⟨rfl, hb5⟩; have hx5 : Below w4z.heap.size w4z w5z := (by first | exact hb5 | exact (Below.refl _ _).drew.trans hb5); have HB5 := Lib.hid (HB4.out.trans (hx5.mono HB4.out.size)); have zx5_0 := (hx5.cell (p := ⟨gb, 0, none⟩) zy4_0).trans zx4_0; have zy5_0 : gb < w5z.heap.size := Nat.lt_of_lt_of_le zy4_0 hx5.size; have zx5_1 := (hx5.cell (p := ⟨gb, 1, none⟩) zy4_1).trans zx4_1; have zy5_1 : gb < w5z.heap.size := Nat.lt_of_lt_of_le zy4_1 hx5.size; have zx5_2 := (hx5.cell (p := ⟨gn, 0, none⟩) zy4_2).trans zx4_2; have zy5_2 : gn < w5z.heap.size := Nat.lt_of_lt_of_le zy4_2 hx5.size; have zx5_3 := (hx5.cell (p := ⟨gn, 1, none⟩) zy4_3).trans zx4_3; have zy5_3 : gn < w5z.heap.size := Nat.lt_of_lt_of_le zy4_3 hx5.size; have zR5_out := Lib.hid ((zR4_out.out.below hx5).mono hx5.size); have zR5_nod := Lib.hid ((zR4_nod.out.below hx5).mono hx5.size); clear hx5; clear zR4_out zR4_nod))
      all_goals go_upto_region 17 with (go_at_call 71; (with_reducible refine (HQL.out _ (by first | exact HB5.out | exact HB5.out.drew)).mono ?_); rintro _ w6z ⟨rfl, hb6⟩; have hx6 : Below w5z.heap.size w5z w6z := (by first | exact hb6 | exact (Below.refl _ _).drew.trans hb6); have HB6 := Lib.hid (HB5.out.trans (hx6.mono HB5.out.size)); have zx6_0 := (hx6.cell (p := ⟨gb, 0, none⟩) zy5_0).trans zx5_0; have zy6_0 : gb < w6z.heap.size := Nat.lt_of_lt_of_le zy5_0 hx6.size; have zx6_1 := (hx6.cell (p := ⟨gb, 1, none⟩) zy5_1).trans zx5_1; have zy6_1 : gb < w6z.heap.size := Nat.lt_of_lt_of_le zy5_1 hx6.size; have zx6_2 := (hx6.cell (p := ⟨gn, 0, none⟩) zy5_2).trans zx5_2; have zy6_2 : gn < w6z.heap.size := Nat.lt_of_lt_of_le zy5_2 hx6.size; have zx6_3 := (hx6.cell (p := ⟨gn, 1, none⟩) zy5_3).trans zx5_3; have zy6_3 : gn < w6z.heap.size := Nat.lt_of_lt_of_le zy5_3 hx6.size; have zR6_out := Lib.hid ((zR5_out.out.below hx6).mono hx6.size); have zR6_nod := Lib.hid ((zR5_nod.out.below hx6).mono hx6.size); clear hx6; clear zR5_out zR5_nod)
      all_goals
        go_region_held3 (fun W => W.cell? ⟨gb, 0, none⟩ = some (.int .u64 (p : Int)) ∧ W.cell? ⟨gb, 1, none⟩ = some (.int .u64 (sp : Int)) ∧ W.cell? ⟨gn, 0, none⟩ = some (.int .u32 (X : Int)) ∧ W.cell? ⟨gn, 1, none⟩ = some (.int .u32 (Y : Int))) (go_keep) (first
          | (go_at_call 60; (with_reducible refine (HSC.out _ _ _ _ _ _ (by first | exact zR6_nod.out | exact zR6_nod.out.drewS) ln Nn.out htmp S1.out S3.out).mono ?_); rintro _ w7z ⟨_, rfl, A7, c7, rfl, hr7, hb7⟩; have hx7 : Below w6z.heap.size w6z w7z := (by first | exact hb7 | exact (Below.refl _ _).drew.trans hb7); have HB7 := Lib.hid (HB6.out.trans (hx7.mono HB6.out.size)); have zx7_0 := (hx7.cell (p := ⟨gb, 0, none⟩) zy6_0).trans zx6_0; have zy7_0 : gb < w7z.heap.size := Nat.lt_of_lt_of_le zy6_0 hx7.size; have zx7_1 := (hx7.cell (p := ⟨gb, 1, none⟩) zy6_1).trans zx6_1; have zy7_1 : gb < w7z.heap.size := Nat.lt_of_lt_of_le zy6_1 hx7.size; have zx7_2 := (hx7.cell (p := ⟨gn, 0, none⟩) zy6_2).trans zx6_2; have zy7_2 : gn < w7z.heap.size := Nat.lt_of_lt_of_le zy6_2 hx7.size; have zx7_3 := (hx7.cell (p := ⟨gn, 1, none⟩) zy6_3).trans zx6_3; have zy7_3 : gn < w7z.heap.size := Nat.lt_of_lt_of_le zy6_3 hx7.size; have zR7_out := Lib.hid ((zR6_out.out.below hx7).mono hx7.size); have zR7_nod := Lib.hid ((zR6_nod.out.below hx7).mono hx7.size); have zR7_s := Lib.hid hr7.rd; clear hx7; clear hr7; clear zR6_out zR6_nod)
          | (go_at_call 53; (with_reducible refine (HSU.out _ _ _ _ _ _ _ _ (by first | exact zR7_out.out | exact zR7_out.out.drewS) (by first | exact zR7_s.out | exact zR7_s.out.drewS) lo s2 No.out S1.out O1.out O2.out).mono ?_); rintro _ w8z ⟨_, rfl, A8, c8, rfl, hr8, hb8⟩; have hx8 : Below w7z.heap.size w7z w8z := (by first | exact hb8 | exact (Below.refl _ _).drew.trans hb8); have HB8 := Lib.hid (HB7.out.trans (hx8.mono HB7.out.size)); have zx8_0 := (hx8.cell (p := ⟨gb, 0, none⟩) zy7_0).trans zx7_0; have zy8_0 : gb < w8z.heap.size := Nat.lt_of_lt_of_le zy7_0 hx8.size; have zx8_1 := (hx8.cell (p := ⟨gb, 1, none⟩) zy7_1).trans zx7_1; have zy8_1 : gb < w8z.heap.size := Nat.lt_of_lt_of_le zy7_1 hx8.size; have zx8_2 := (hx8.cell (p := ⟨gn, 0, none⟩) zy7_2).trans zx7_2; have zy8_2 : gn < w8z.heap.size := Nat.lt_of_lt_of_le zy7_2 hx8.size; have zx8_3 := (hx8.cell (p := ⟨gn, 1, none⟩) zy7_3).trans zx7_3; have zy8_3 : gn < w8z.heap.size := Nat.lt_of_lt_of_le zy7_3 hx8.size; have zR8_nod := Lib.hid ((zR7_nod.out.below hx8).mono hx8.size); have zR8_out2 := Lib.hid hr8.rd; have HRo := Lib.hid (hr8.mono (Nat.le_trans Hb2.out.size HB7.out.size)); clear hx8; clear hr8; clear zR7_nod))
      go_upto_region 18 with (fail)
      have q7 : p ≠ 0 := by omega
      have q8 : IntKind.i64.wrap ((k : Int) + 1) = (k : Int) + 1 := IntWalk.i64_in _ (by omega)
      have hal : ∀ o, (w8z.alloc o).cell? ⟨gb, 0, none⟩ = some (.int .u64 (p : Int)) ∧ (w8z.alloc o).cell? ⟨gb, 1, none⟩ = some (.int .u64 (sp : Int)) := fun o => ⟨(World.cell?_alloc_past _ _ _ zy8_0).trans zx8_0, (World.cell?_alloc_past _ _ _ zy8_1).trans zx8_1⟩
      have HPN : Hid (∀ (W : World) A c, Rd W W.heap.size A (u32s nod) → Calls Tryd.prog 55 #[fieldV p sp, .slice A nod.length c, .slice (some ⟨W.heap.size, 0, none⟩) 2 2] (W.alloc (.cells #[.int .u32 (m : Int), .int .u32 1] 24)) (PR1 W nod')) := fun W A c h1 => by
          have hb : Below W.heap.size W (W.alloc (.cells #[.int .u32 (m : Int), .int .u32 1] 24)) := (Below.refl _ _).alloc (Nat.le_refl _) _
          have hr2 : Rd (W.alloc (.cells #[.int .u32 (m : Int), .int .u32 1] 24)) (W.alloc (.cells #[.int .u32 (m : Int), .int .u32 1] 24)).heap.size (some ⟨W.heap.size, 0, none⟩) (u32s [m, 1]) := Rd.of_blk (Blk.new_ rfl) (by simp) 0 (fun k v hv => by rw [Nat.zero_add]; exact hv)
          exact (HPO.out _ A _ c 2 nod [m, 1] nod' ((h1.below hb).mono hb.size) hr2 ln (by simp) Nn.out N3.out N1.out N2.out).mono fun _ _ ⟨v, g1, A2, c2, g2, g3, g4⟩ => ⟨v, g1, A2, c2, g2, g3.mono hb.size, hb.trans (g4.mono hb.size)⟩
      have HPM : Hid (∀ (W : World) A c, Rd W W.heap.size A (u32s nod) → Calls Tryd.prog 55 #[fieldV p sp, .slice A nod.length c, .slice (some ⟨W.heap.size, 0, none⟩) 2 2] (W.alloc (.cells #[.int .u32 (m : Int), .int .u32 1] 24)).drew (PR1 W nod')) := fun W A c h1 => by
          have hb : Below W.heap.size W (W.alloc (.cells #[.int .u32 (m : Int), .int .u32 1] 24)).drew := ((Below.refl _ _).alloc (Nat.le_refl _) _).trans ((Dr.refl _).drew.below _)
          have hr2 : Rd (W.alloc (.cells #[.int .u32 (m : Int), .int .u32 1] 24)).drew (W.alloc (.cells #[.int .u32 (m : Int), .int .u32 1] 24)).drew.heap.size (some ⟨W.heap.size, 0, none⟩) (u32s [m, 1]) := Rd.drewS (Rd.of_blk (Blk.new_ rfl) (by simp) 0 (fun k v hv => by rw [Nat.zero_add]; exact hv))
          exact (HPO.out _ A _ c 2 nod [m, 1] nod' ((h1.below hb).mono hb.size) hr2 ln (by simp) Nn.out N3.out N1.out N2.out).mono fun _ _ ⟨v, g1, A2, c2, g2, g3, g4⟩ => ⟨v, g1, A2, c2, g2, g3.mono hb.size, hb.trans (g4.mono hb.size)⟩
      have HRs := Lib.hid (show w.heap.size ≤ w8z.heap.size from Nat.le_trans Hb2.out.size HB8.out.size)
      go_region_held3 (fun W => W.cell? ⟨gb, 0, none⟩ = some (.int .u64 (p : Int)) ∧ W.cell? ⟨gb, 1, none⟩ = some (.int .u64 (sp : Int))) (first | exact hal _ | exact ⟨(hx50.cell (p := ⟨gb, 0, none⟩) zy8_0).trans zx8_0, (hx50.cell (p := ⟨gb, 1, none⟩) zy8_1).trans zx8_1⟩ | go_keep) (first
          | (go_at_call 55; (with_reducible refine (HPM.out _ _ _ (by first | exact zR8_nod.out | exact zR8_nod.out.drewS)).mono ?_); rintro _ w50 ⟨_, rfl, A50, c50, rfl, hr50, hb50⟩; have hx50 : Below w8z.heap.size w8z w50 := (by first | exact hb50 | exact (Below.refl _ _).drew.trans hb50); have R50 := Lib.hid hr50.rd; have HB50 := Lib.hid (HB8.out.trans (hx50.mono HB8.out.size)); have HRo2 := Lib.hid (HRo.out.below hx50 (Nat.le_refl _)); clear hr50 hb50)
          | (go_at_call 55; (with_reducible refine (HPN.out _ _ _ (by first | exact zR8_nod.out | exact zR8_nod.out.drewS)).mono ?_); rintro _ w50 ⟨_, rfl, A50, c50, rfl, hr50, hb50⟩; have hx50 : Below w8z.heap.size w8z w50 := (by first | exact hb50 | exact (Below.refl _ _).drew.trans hb50); have R50 := Lib.hid hr50.rd; have HB50 := Lib.hid (HB8.out.trans (hx50.mono HB8.out.size)); have HRo2 := Lib.hid (HRo.out.below hx50 (Nat.le_refl _)); clear hr50 hb50))
      all_goals clear hal q7
      all_goals go_wp2_with fail
      all_goals go_roundw
      all_goals first
        | exact ⟨k + 1, out', nod', _, A50, _, c50, by omega, by go_num, rfl, rfl, HRo2.out, R50, HIP, HB50.out⟩
        | (simp [intOf] <;> omega)
    · have hke : k = l.length := by omega
      subst hke
      obtain ⟨d1, d2, d3⟩ := HDN.out _ _ hip.out
      have D1 := Lib.hid d1
      have D2 := Lib.hid d2
      have D3 := Lib.hid d3
      clear d1 d2 d3 hbq
      go_wp2
      go_ret2
      exact ⟨out, A8, c8, rfl, hro.out, HBQ.out, D1.out, D2.out, D3.out⟩
end Go.Proofs.YtddhhndnkjajmaaDoor
