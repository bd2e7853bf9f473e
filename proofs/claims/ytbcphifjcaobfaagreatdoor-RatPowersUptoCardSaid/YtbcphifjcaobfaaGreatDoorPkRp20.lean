/- A row of integers that are held; the contract of zint.Gcd ov. The contracts of the reference's Add and Mul. Plain numbers for the reference's Div. The contract of the reference's Div. -/
import Derived.Test.YtbcphifjcaobfaaGreatDoorPkRp17
import Derived.Test.YtbcphifjcaobfaaGreatDoorPkRp19
import Derived.Test.YtbcphifjcaobfaaGreatDoorPkRp9
import Derived.Test.YtbcphifjcaobfaaGreatDoorPkRp6
import Derived.Test.YtbcphifjcaobfaaGreatDoorPkRp7
namespace Go.Proofs.YtbcphifjcaobfaaGreatDoor
section
open Go.RowKit
structure ZE1 where
 g : Bool
 A : Option Addr
 c : Nat
 xs : List Nat
 z : Int
def ZL (w : World) (K : Nat) (A : Option Addr) (l : List ZE1) : Prop := ∀ k (_ : k < l.length), ∃ b off, A = some ⟨b, off, none⟩ ∧ b < w.heap.size ∧ w.cell? ⟨b, off + k * 2, none⟩ = some (.bool l[k].g) ∧ w.cell? ⟨b, off + k * 2 + 1, none⟩ = some (.slice l[k].A l[k].xs.length l[k].c) ∧ Zh w l[k].g l[k].A l[k].c l[k].xs l[k].z K
theorem ZL.next {w w' : World} {K : Nat} {A : Option Addr} {l : List ZE1} (h : ZL w K A l) (hb : Below w.heap.size w w') : ZL w' K A l := fun k hk => by
 obtain ⟨b, off, e, hlt, h0, h1, hz⟩ := h k hk
 exact ⟨b, off, e, Nat.lt_of_lt_of_le hlt hb.size, (hb.cell (p := ⟨b, _, none⟩) hlt).trans h0, (hb.cell (p := ⟨b, _, none⟩) hlt).trans h1, hz.next hb⟩
def gcdTo (l : List ZE1) (k : Nat) : Nat := (l.take k).foldl (fun n e => Nat.gcd n e.z.natAbs) 0
theorem gcdTo_step {l : List ZE1} {k : Nat} (h : k < l.length) : gcdTo l (k + 1) = Nat.gcd (gcdTo l k) l[k].z.natAbs := by
 unfold gcdTo
 rw [List.take_succ_eq_append_getElem h, List.foldl_append]
 rfl
theorem gcd_one_fold (l : List ZE1) : l.foldl (fun n e => Nat.gcd n e.z.natAbs) 1 = 1 := by
 induction l with
 | nil => rfl
 | cons a l ih => rw [List.foldl_cons, Nat.gcd_one_left, ih]
theorem gcdTo_one {l : List ZE1} {k : Nat} (h : gcdTo l k = 1) : gcdTo l l.length = 1 := by
 have e : l = l.take k ++ l.drop k := (List.take_append_drop k l).symm
 unfold gcdTo at h ⊢
 rw [List.take_length]
 rw [e, List.foldl_append, h, gcd_one_fold]
theorem gcdTo_lt {w : World} {K : Nat} {A : Option Addr} {l : List ZE1} (h : ZL w K A l) (hK : 0 < 4294967296 ^ K) : ∀ k, k ≤ l.length → gcdTo l k < 4294967296 ^ K := by
 intro k
 induction k with
 | zero => intro _; exact hK
 | succ k ih =>
  intro hk
  rw [gcdTo_step (by omega)]
  obtain ⟨_, _, _, _, _, _, hz⟩ := h k (by omega)
  rcases Nat.eq_zero_or_pos l[k].z.natAbs with h0 | h0
  ·rw [h0, Nat.gcd_zero_right]; exact ih (by omega)
  ·exact Nat.lt_of_le_of_lt (Nat.gcd_le_right _ h0) hz.lt
theorem bits_one (n : Nat) : bitsOf n = 1 ↔ n = 1 := by
 rcases Nat.lt_or_ge n 2 with h | h
 ·have : n = 0 ∨ n = 1 := by omega
  rcases this with rfl | rfl
  ·exact ⟨fun e => by revert e; decide, fun e => by omega⟩
  ·exact ⟨fun _ => rfl, fun _ => by decide⟩
 ·have h1 := bitsOf_half n (by omega)
  have h2 := bitsOf_half (n / 2) (by omega)
  omega
section
variable {w : World} {A A2 : Option Addr} {c c2 n k K J : Nat} {xs ys : List Nat}
theorem Hv.gcdN (h : Hv w A c xs n K) (h2 : Hv w A2 c2 ys k J) (hK : K ≤ 67108864) (hJ : J ≤ 67108864) (hT : Tab64 w) (hTB : 1 < w.heap.size) :
  Calls Tryz.prog 126 #[.slice A xs.length c, .slice A2 ys.length c2] w fun e w' => NOut w w' (Nat.gcd n k) e := by
 have hl1 := h.len
 have hl2 := h2.len
 have h9 := gcd_any A A2 c c2 xs ys w w.heap.size h.rd h2.rd nl9 h.dig h2.dig h.cap h2.cap (by omega) (by omega) hT hTB
 rw [h.val_, h2.val_] at h9
 refine h9.mono ?_
 rintro e w' ⟨zs, A', c', rfl, hz, hr, hb⟩
 exact ⟨zs, A', c', rfl, hz, hr, hb⟩
end
set_option maxHeartbeats 6400000 in
theorem zgcd_any {w : World} {K : Nat} {A : Option Addr} {c : Nat} (l : List ZE1) (h : ZL w K A l) (hK : K ≤ 67108864) (hlen : l.length ≤ 281474976710656) (hT : Tab64 w) (hTB : 1 < w.heap.size) :
  Calls Tryz.prog 101 #[.slice A l.length c] w fun e w' => ZOut w w' (gcdTo l l.length : Nat) e := by
 have hlt := gcdTo_lt h (Nat.pow_pos (by omega))
 have HL := hi9 hlt
 have H := hi9 h
 have HT := hi9 hT
 have HTB := hi9 hTB
 have b2 := blk_one w (.bool false) (.slice none 0 0)
 have k0 := bel_one w (.cells #[.bool false, .slice none 0 0] 25)
 clear h hT hlt hTB
 go_enter Tryz.func101, Tryz.ntmps101
 go_wp2_with fail
 obtain ⟨w0, hw0⟩ : ∃ v, v = w.alloc (.cells #[.bool false, .slice none 0 0] 25) := ⟨_, rfl⟩
 rw [← hw0] at b2 k0 ⊢
 clear hw0
 go_loopw [3, 5, 8] (fun ov _ iv wr => ∃ (k : Nat) (zn : List Nat) (An : Option Addr) (cn : Nat), k ≤ l.length ∧ iv = .int .i64 (k : Int) ∧ ov = .slice An zn.length cn ∧ Num 4294967296 zn (gcdTo l k) ∧ Res wr w.heap.size 50 An cn (u32s zn) ∧ Blk wr w.heap.size 25 [.bool false, .slice none 0 0] ∧ Below w.heap.size w wr) (fun _ _ iv _ => l.length - (intOf iv).toNat)
 case atStart => exact ⟨0, [], none, 0, Nat.zero_le _, rfl, rfl, Num.zero_ _, Res.none_, b2, k0⟩
 case round =>
  obtain ⟨k, zn, An, cn, hk, rfl, rfl, hn, hr, b2r, hbel⟩ := hrel
  clear b2 k0
  by_cases hlt : k < l.length
  ·obtain ⟨b, off, rfl, hbw, h0, h1, hz⟩ := H.out k hlt
   have hx0 := (hbel.cell (p := ⟨b, off + k * 2, none⟩) hbw).trans h0
   have hx1 := (hbel.cell (p := ⟨b, off + k * 2 + 1, none⟩) hbw).trans h1
   have hz9 := hz.next hbel
   obtain ⟨m, hm⟩ : ∃ m, m = gcdTo l (k + 1) := ⟨_, rfl⟩
   have hml : m < 4294967296 ^ K := by rw [hm]; exact HL.out _ (by omega)
   have GC : Hid (∀ W (_ : Below wr.heap.size wr W), Calls Tryz.prog 126 #[.slice An zn.length cn, .slice l[k].A l[k].xs.length l[k].c] W fun e w' => NOut W w' m e) := fun W hW => by
    rw [hm, gcdTo_step hlt]
    have hw := HTB.out
    have hW2 := bst hbel hW nl9
    exact Hv.gcdN ((Hv.of (K := K) hn hr (HL.out k hk)).next hW) (hz9.hv.next hW) hK hK (HT.out.below hW2 hw) (Nat.lt_of_lt_of_le hw hW2.size)
   have Hm := hi9 hm
   have HB2 := hi9 b2r
   have KB := hi9 hbel
   obtain ⟨eg, heg⟩ : ∃ v, v = l[k].g := ⟨_, rfl⟩
   obtain ⟨eA, heA⟩ : ∃ v, v = l[k].A := ⟨_, rfl⟩
   obtain ⟨exs, hexs⟩ : ∃ v, v = l[k].xs := ⟨_, rfl⟩
   obtain ⟨ec, hec⟩ : ∃ v, v = l[k].c := ⟨_, rfl⟩
   rw [← heg] at hx0
   rw [← heA, ← hexs, ← hec] at hx1
   rw [← heA, ← hexs, ← hec] at GC
   clear hn hr b2r hbel h0 h1 hz hz9 hm heg heA hexs hec
   go_wp2_with fail
   refine (GC.out _ (bel_one _ _)).mono ?_
   rintro e w1 ⟨zs, As, cs, rfl, hzs, hrs, hb1⟩
   have j1 : Below wr.heap.size wr w1 := bst (bel_one _ _) hb1 nl9
   have k1 := bst KB.out j1 nl9
   have b2 := HB2.out.below j1 HB2.out.lt
   have rs : Res w1 w.heap.size 50 As cs (u32s zs) := hrs.mono (by have := KB.out.size; simp; omega)
   obtain ⟨bt, hbt⟩ : ∃ v, v = bitsOf m := ⟨_, rfl⟩
   have LN : Hid (Calls Tryz.prog 97 #[.slice As zs.length cs] w1 fun e w' => e = .returned (.int .i64 (bt : Nat)) ∧ w1 = w') := by
    rw [hbt]
    exact (Hv.of (K := K) hzs hrs hml).nlen hK
   have Hbt := hi9 hbt
   clear GC hx0 hx1 hb1 hrs hbt HB2
   go_wp2_with fail
   refine LN.out.mono ?_
   rintro e w9 ⟨rfl, rfl⟩
   by_cases hb9 : bt = 1
   ·subst hb9
    have e1 : gcdTo l l.length = m := by
     have h1 : m = 1 := (bits_one m).1 Hbt.out.symm
     rw [h1]
     exact gcdTo_one (by rw [← Hm.out]; exact h1)
    clear Hbt LN
    go_wp2_with fail
    refine (made_num false (m : Int) hzs rfl w1 (res_len rs)).mono ?_
    rintro e wm ⟨rfl, hbm⟩
    have bm := b2.below hbm b2.lt
    obtain ⟨q0, q1, q2, q3⟩ := bm.two
    go_wp2_with fail
    rw [e1]
    exact zretT (z := (m : Int)) (bst k1 hbm nl9) bm nl9 (num_eq hzs (Int.natAbs_natCast _).symm) (rs.below hbm nl9) rfl rfl rfl rfl
   ·have hb8 : decide (bt = 1) = false := decide_eq_false hb9
    clear Hbt LN
    go_wp2_with fail
    go_roundw
    case rel => exact ⟨k + 1, zs, As, cs, by omega, by go_num, rfl, by rw [← Hm.out]; exact hzs, rs, b2, k1⟩
    case measure => simp [intOf]; omega
  ·obtain rfl : k = l.length := by omega
   have HB2 := hi9 b2r
   have KB := hi9 hbel
   obtain ⟨m, hm⟩ : ∃ m, m = gcdTo l l.length := ⟨_, rfl⟩
   rw [← hm] at hn
   have Hm := hi9 hm
   clear hm hlt hk b2r hbel
   go_wp2_with fail
   refine (made_num false (m : Int) hn rfl wr (res_len hr)).mono ?_
   rintro e wm ⟨rfl, hbm⟩
   have bm := HB2.out.below hbm HB2.out.lt
   obtain ⟨q0, q1, q2, q3⟩ := bm.two
   go_wp2_with fail
   rw [← Hm.out]
   exact zretT (z := (m : Int)) (bst KB.out hbm nl9) bm nl9 (num_eq hn (Int.natAbs_natCast _).symm) (hr.below hbm nl9) rfl rfl rfl rfl
end
section
open Go.RowKit
theorem add_at0 {b : Nat} {xs ys : List Nat} {k : Nat} : val b (xs.take k) + val b (ys.take k) + b ^ k * (at0 xs k + at0 ys k) = val b (xs.take (k + 1)) + val b (ys.take (k + 1)) := by
 rw [val_take_at0, val_take_at0, Nat.mul_add]; omega
set_option maxHeartbeats 1600000 in
theorem radd_any (A A2 : Option Addr) (c c2 : Nat) (xs ys : List Nat) (w : World) (B : Nat) (hr : Rd w B A (u32s xs)) (hr2 : Rd w B A2 (u32s ys)) (hB : B ≤ w.heap.size) (hd : Dig 4294967296 xs) (hd2 : Dig 4294967296 ys) (hm : xs.length ≤ 70368744170000) (hm2 : ys.length ≤ 70368744170000) :
  Calls Tryz.prog 119 #[.slice A xs.length c, .slice A2 ys.length c2] w fun e w' => ∃ zs A' c', e = .returned (.slice A' zs.length c') ∧ Num 4294967296 zs (val 4294967296 xs + val 4294967296 ys) ∧ Res w' w.heap.size 50 A' c' (u32s zs) ∧ Below w.heap.size w w' := by
 have hm1 : xs.length ≤ 281474976710656 := by omega
 have hm3 : ys.length ≤ 281474976710656 := by omega
 go_enter Tryz.func119, Tryz.ntmps119
 go_upto_if 15 with (fail)
 go_cut [5] (fun s wc => ∃ n : Nat, s = .int .i64 n ∧ xs.length ≤ n ∧ ys.length ≤ n ∧ n ≤ 70368744170000 ∧ wc = w)
 case first =>
  by_cases hlt : xs.length < ys.length
  ·go_wp2
   go_meet
   exact ⟨ys.length, rfl, by omega, by omega, by omega, rfl⟩
  ·go_wp2
   go_meet
   exact ⟨xs.length, rfl, by omega, by omega, by omega, rfl⟩
 case rest =>
  obtain ⟨n, rfl, hn1, hn2, hnm, rfl⟩ := hcut
  have hmk := fun W => mk32s n (by omega) W
  obtain ⟨os, hos⟩ : ∃ os, os = List.replicate (n + 1) 0 := ⟨_, rfl⟩
  have hol : os.length = n + 1 := by rw [hos]; simp
  have ho0 : Hid (∀ k (h : k < os.length), os[k] = 0) := by subst hos; exact fun k h => by simp
  have hov : Hid (val 4294967296 os = 0) := by rw [hos]; exact val_zeros _ _
  have hod : Dig 4294967296 os := by rw [hos]; exact Dig.zeros_ (by omega) _
  have hblk0 : Blk (wc.alloc (.cells (Array.replicate (n + 1) (Value.int .u32 0)) 50)) wc.heap.size 50 (u32s os) := by rw [hos]; exact Blk.new_ (by simp [u32s])
  have Hol := hi9 hol
  clear hos hol
  go_wp2_with fail
  go_loopw [7, 8, 9, 23] (fun cv _ _ i wr => ∃ (k cc : Nat) (zs : List Nat), k ≤ n + 1 ∧ i = .int .i64 k ∧ cv = .int .u64 cc ∧ cc ≤ 1 ∧ Blk wr wc.heap.size 50 (u32s zs) ∧ Acc 4294967296 os (val 4294967296 (xs.take k) + val 4294967296 (ys.take k)) k zs cc ∧ Below wc.heap.size wc wr) (fun _ _ _ i _ => n + 1 - (intOf i).toNat)
  case atStart => exact ⟨0, 0, os, by omega, rfl, rfl, by omega, hblk0, by simpa [val] using Acc.start hod, br9.alloc nl9 _⟩
  case round =>
   clear hblk0
   obtain ⟨k, cc, zs, hk, rfl, rfl, hcc, hblk, hacc, hbel⟩ := hrel
   by_cases hlt : k < n + 1
   ·have hko : k < os.length := by rw [Hol.out]; exact hlt
    obtain ⟨hz1, hzk⟩ := hacc.at_ hko
    have hc2 := (hblk.cell k).trans (u32s_at hz1)
    have hf2 := hblk.frozen k
    have ha := at0_lt hd k
    have hb := at0_lt hd2 k
    obtain ⟨x, hxe⟩ : ∃ x, x = at0 xs k := ⟨_, rfl⟩
    obtain ⟨y, hye⟩ : ∃ y, y = at0 ys k := ⟨_, rfl⟩
    rw [← hxe] at ha
    rw [← hye] at hb
    obtain ⟨sm, hsme⟩ : ∃ sm, sm = x + y + cc := ⟨_, rfl⟩
    have e2 : (x : Int) + (y : Int) + (cc : Int) = (sm : Int) := by omega
    have hsb : sm < 8589934592 := by omega
    have hrw := hr.below (hbel.mono hB)
    have hrw2 := hr2.below (hbel.mono hB)
    have hkb : k ≤ 9223372036854775807 := by omega
    have hln := hlt
    have Hx := hi9 hxe
    have Hy := hi9 hye
    have Hsm := hi9 hsme
    clear hxe hye hsme hzk
    go_wp2_with (first
     | (go_at_call 149; (with_reducible refine (limb_any A c xs k _ B hrw hd hm1 hkb).mono ?_); rintro e w' ⟨rfl, rfl⟩; rw [← Hx.out])
     | (go_at_call 149; (with_reducible refine (limb_any A2 c2 ys k _ B hrw2 hd2 hm3 hkb).mono ?_); rintro e w' ⟨rfl, rfl⟩; rw [← Hy.out]))
    go_roundw
    case rel =>
     have h9 := hacc.step (d := at0 xs k + at0 ys k) (r := sm % 4294967296) (q := sm / 4294967296) hko (by omega) (by rw [ho0.out k hko, ← Hx.out, ← Hy.out]; have := Hsm.out; omega)
     rw [add_at0] at h9
     refine ⟨k + 1, sm / 4294967296, zs.set k (sm % 4294967296), by omega, by go_num, rfl, by omega, ?_, h9, hbel.setCell (p := ⟨wc.heap.size, k, none⟩) nl9 _⟩
     have hb2 := hblk.set_ k (Value.int IntKind.u32 ((sm % 4294967296 : Nat) : Int))
     rw [u32s_set] at hb2
     exact hb2
    case measure => simp [intOf]; omega
   ·have hkn : k = n + 1 := by omega
    have hkl : n + 1 ≤ k := by omega
    have hlen : zs.length = n + 1 := hacc.2.1.trans Hol.out
    have Hlen := hi9 hlen
    have hv : val 4294967296 zs = val 4294967296 xs + val 4294967296 ys := by
     have h9 := hacc.2.2.1
     rw [hov.out, hkn, List.take_of_length_le (by omega), List.take_of_length_le (by omega), Nat.zero_add] at h9
     exact carry_zero2 h9 (sum_lt (by omega) (val_lt_le hd hn1 (by omega)) (val_lt_le hd2 hn2 (by omega)))
    have Hv := hi9 hv
    have hrd := (Res.of_blk0 hblk nl9 (by rw [u32s_length]; omega)).rd
    have hzm : zs.length ≤ 70368744177664 := by omega
    clear hkn hlen hv
    go_wp2_with (go_at_call 90; rw [← Hlen.out]; refine (rnorm_any _ _ zs wr _ hrd nl9 hzm).mono ?_; rintro e w2 ⟨A', c', rfl, hres, hb⟩)
    go_ret
    refine ⟨trimL zs, A', c', rfl, ?_, hres.mono hbel.size, hbel.trans (hb.mono hbel.size)⟩
    rw [← Hv.out]
    exact Num.of_trim hacc.1
theorem Num.len_le9 {zs : List Nat} {n N : Nat} (h : Num 4294967296 zs n) (hn : n < 4294967296 ^ N) : zs.length ≤ N := by
 rw [← h.2.1]; exact trimL_len_le (by omega) h.1 (by rw [h.2.2]; exact hn)
theorem drop_val {b : Nat} {qs : List Nat} {k : Nat} (h : k < qs.length) : val b (qs.drop k) = qs[k] + b * val b (qs.drop (k + 1)) := by
 rw [List.drop_eq_getElem_cons h]; rfl
set_option maxHeartbeats 3200000 in
set_option maxRecDepth 100000 in
theorem rmul_any (A A2 : Option Addr) (c c2 : Nat) (xs ys : List Nat) (w : World) (B : Nat) (hr : Rd w B A (u32s xs)) (hr2 : Rd w B A2 (u32s ys)) (hB : B ≤ w.heap.size) (hd : Dig 4294967296 xs) (hd2 : Dig 4294967296 ys) (hm : xs.length ≤ 70368744170000) (hm2 : ys.length ≤ 70368744170000) (hmm : (trimL xs).length + (trimL ys).length ≤ 35184372088000) :
  Calls Tryz.prog 122 #[.slice A xs.length c, .slice A2 ys.length c2] w fun e w' => ∃ zs A' c', e = .returned (.slice A' zs.length c') ∧ Num 4294967296 zs (val 4294967296 xs * val 4294967296 ys) ∧ Res w' w.heap.size 50 A' c' (u32s zs) ∧ Below w.heap.size w w' := by
 have hn1 := Num.of_trim hd
 have hn2 := Num.of_trim hd2
 obtain ⟨m, hmv⟩ : ∃ m, m = val 4294967296 xs := ⟨_, rfl⟩
 obtain ⟨n, hnv⟩ : ∃ n, n = val 4294967296 ys := ⟨_, rfl⟩
 rw [← hmv] at hn1
 rw [← hnv] at hn2
 rw [← hmv, ← hnv]
 have HA := hi9 (rnorm_any A c xs w B hr hB (by omega))
 have HB := hi9 (fun W (hW : Below w.heap.size w W) => rnorm_any A2 c2 ys W B (hr2.below (hW.mono hB)) (Nat.le_trans hB hW.size) (by omega))
 obtain ⟨ps, hps⟩ : ∃ ps, ps = trimL xs := ⟨_, rfl⟩
 obtain ⟨qs, hqs⟩ : ∃ qs, qs = trimL ys := ⟨_, rfl⟩
 rw [← hps] at hn1 hmm HA
 rw [← hqs] at hn2 hmm HB
 have hdp := hn1.1
 have hdq := hn2.1
 have Hm : Hid (val 4294967296 ps = m) := hn1.2.2
 have Hn : Hid (val 4294967296 qs = n) := hn2.2.2
 clear hps hqs hmv hnv hn1 hn2 hr hr2
 go_enter Tryz.func122, Tryz.ntmps122
 go_wp2_with fail
 refine HA.out.mono ?_
 rintro e w1 ⟨A1, c1, rfl, hres1, hb1⟩
 go_wp2_with fail
 refine (HB.out w1 hb1).mono ?_
 rintro e w2 ⟨A3, c3, rfl, hres2, hb2⟩
 have hr1 : Rd w2 w2.heap.size A1 (u32s ps) := (hres1.below hb2 nl9).rd
 have hr3 : Rd w2 w2.heap.size A3 (u32s qs) := hres2.rd
 have hB2 := hb1.trans (hb2.mono hb1.size)
 clear HA HB hres1 hres2 hb1 hb2
 go_wp2_with fail
 go_loopw [5, 6] (fun ov iv wr => ∃ (k : Nat) (os : List Nat) (A4 : Option Addr) (c4 : Nat), k ≤ qs.length ∧ iv = .int .i64 ((k : Int) - 1) ∧ ov = .slice A4 os.length c4 ∧ Num 4294967296 os (m * val 4294967296 (qs.drop k)) ∧ Rd wr wr.heap.size A4 (u32s os) ∧ Below w2.heap.size w2 wr) (fun _ iv _ => (intOf iv + 1).toNat)
 case atStart => exact ⟨qs.length, [], none, 0, Nat.le_refl _, rfl, rfl, by simp [val]; exact Num.zero_ _, Rd.nil_, br9⟩
 case round =>
  obtain ⟨k, os, A4, c4, hk, rfl, rfl, hnum, hro, hbel⟩ := hrel
  have hw2s := hB2.size
  rcases k with _ | k
  ·go_wp2_with fail
   have hol : os.length ≤ 35184372088000 := by
    have := hnum.len_le9 (N := ps.length + qs.length) (by rw [List.drop_zero, ← Hm.out]; exact prod_lt hdp hdq (by omega))
    omega
   refine (rnorm_any A4 c4 os wr _ hro nl9 (by omega)).mono ?_
   rintro e w3 ⟨A', c', rfl, hres, hb⟩
   have hwr := hbel.size
   go_wp2_with fail
   go_ret
   refine ⟨trimL os, A', c', rfl, ?_, hres.mono (by omega), hB2.trans ((hbel.mono hw2s).trans (hb.mono (by omega)))⟩
   rw [hnum.2.1]
   rw [List.drop_zero, Hn.out] at hnum
   exact hnum
  ·rw [show ((k + 1 : Nat) : Int) - 1 = (k : Int) from by omega]
   have hkq : k < qs.length := by omega
   obtain ⟨b2, off2, rfl, hb2, hy⟩ := hr3.at32 hkq
   have hy := (hbel.cell (p := ⟨b2, off2 + k, none⟩) hb2).trans hy
   have hyd := hdq.at_ k hkq
   have hwr := hbel.size
   have hol : os.length ≤ 35184372088000 := by
    have := hnum.len_le9 (N := ps.length + (qs.drop (k + 1)).length) (by rw [← Hm.out]; exact prod_lt hdp (hdq.drop_ _) (by omega))
    rw [List.length_drop] at this
    omega
   have hpl : ps.length ≤ 35184372088000 := by omega
   obtain ⟨y, hye⟩ : ∃ y, y = qs[k] := ⟨_, rfl⟩
   rw [← hye] at hy hyd
   have hvd := drop_val (b := 4294967296) hkq
   rw [← hye] at hvd
   have Hsh : Hid (∀ W, Below wr.heap.size wr W → Calls Tryz.prog 143 #[.slice A4 os.length c4, .int .u32 0] W fun e w' => ∃ zs A' c', e = .returned (.slice A' zs.length c') ∧ Num 4294967296 zs (4294967296 * (m * val 4294967296 (qs.drop (k + 1)))) ∧ Res w' W.heap.size 50 A' c' (u32s zs) ∧ Below W.heap.size W w') := fun W hW => by
    have h9 := rshift_any A4 c4 os 0 W wr.heap.size (hro.below hW) hW.size hnum.1 (by omega) (by omega)
    rw [hnum.2.2, Nat.zero_add] at h9
    exact h9
   have Hsm : Hid (∀ W, Below wr.heap.size wr W → Calls Tryz.prog 144 #[.slice A1 ps.length c1, .int .u32 (y : Int)] W fun e w' => ∃ zs A' c', e = .returned (.slice A' zs.length c') ∧ Num 4294967296 zs (m * y) ∧ Res w' W.heap.size 50 A' c' (u32s zs) ∧ Below W.heap.size W w') := fun W hW => by
    have h9 := rsmall_any A1 c1 ps y W wr.heap.size (((hr1.below hbel).mono hwr).below hW) hW.size hdp hyd (by omega)
    rw [Hm.out] at h9
    exact h9
   have Hvd : Hid (4294967296 * (m * val 4294967296 (qs.drop (k + 1))) + m * y = m * val 4294967296 (qs.drop k)) := by
    show _ = _
    rw [hvd, Nat.mul_add, ← Nat.mul_assoc, Nat.mul_comm 4294967296 m, Nat.mul_assoc, Nat.add_comm]
   have hsl : ∀ zs, Num 4294967296 zs (4294967296 * (m * val 4294967296 (qs.drop (k + 1)))) → zs.length ≤ 35184372088001 := fun zs hz => by
    have h1 : m * val 4294967296 (qs.drop (k + 1)) < 4294967296 ^ (ps.length + (qs.drop (k + 1)).length) := by rw [← Hm.out]; exact prod_lt hdp (hdq.drop_ _) (by omega)
    have h2 := hz.len_le9 (N := ps.length + (qs.drop (k + 1)).length + 1) (by
     rw [Nat.pow_succ, Nat.mul_comm (4294967296 ^ _)]
     exact Nat.mul_lt_mul_of_pos_left h1 (by omega))
    rw [List.length_drop] at h2
    omega
   have hml : ∀ zs, Num 4294967296 zs (m * y) → zs.length ≤ 35184372088001 := fun zs hz => by
    have h1 : m * y < 4294967296 ^ (ps.length + 1) := by
     rw [← Hm.out, Nat.pow_succ]
     exact Nat.mul_lt_mul_of_lt_of_le (val_lt _ ps hdp) (Nat.le_of_lt hyd) (by omega)
    have h2 := hz.len_le9 h1
    omega
   have Hsl : Hid (∀ zs, Num 4294967296 zs (4294967296 * (m * val 4294967296 (qs.drop (k + 1)))) → zs.length ≤ 35184372088001) := hsl
   have Hml : Hid (∀ zs, Num 4294967296 zs (m * y) → zs.length ≤ 35184372088001) := hml
   have hbw2 : b2 < wr.heap.size := by omega
   clear hye hvd hsl hml hnum
   go_upto_region 6 with (fail)
   go_region_held3 (fun W => W.cell? ⟨b2, off2 + k, none⟩ = some (.int .u32 (y : Int))) (first | go_keep | exact Hca.out | exact Hcb.out | exact Hcc.out) (first
    | (go_at_call 143; (with_reducible refine (Hsh.out _ (by first | exact br9 | exact br9.drew | exact hBb | exact hBb.drew)).mono ?_); rintro e wa ⟨za, Aa, ca, rfl, hza, hra, hba⟩; have hBa : Below wr.heap.size wr wa := (by first | exact hba | exact br9.drew.trans hba | exact hBb.trans (hba.mono hBb.size) | exact hBb.drew.trans (hba.mono hBb.size)); have Hca := hi9 (show wa.cell? ⟨b2, off2 + k, none⟩ = some (.int .u32 (y : Int)) from (hBa.cell (p := ⟨b2, off2 + k, none⟩) hbw2).trans hy); have hla := Hsl.out _ hza)
    | (go_at_call 144; (with_reducible refine (Hsm.out _ (by first | exact br9 | exact br9.drew | exact hBa | exact hBa.drew)).mono ?_); rintro e wb ⟨zb, Ab, cb, rfl, hzb, hrb, hbb⟩; have hBb : Below wr.heap.size wr wb := (by first | exact hbb | exact br9.drew.trans hbb | exact hBa.trans (hbb.mono hBa.size) | exact hBa.drew.trans (hbb.mono hBa.size)); have Hcb := hi9 (show wb.cell? ⟨b2, off2 + k, none⟩ = some (.int .u32 (y : Int)) from (hBb.cell (p := ⟨b2, off2 + k, none⟩) hbw2).trans hy); have hlb := Hml.out _ hzb)
    | (go_at_call 119; refine (radd_any Aa Ab ca cb za zb _ _ (by first | exact hra.rd | exact (hra.below hbb nl9).rd | exact (hra.below br9.drew nl9).rd | exact ((hra.below br9.drew nl9).below hbb nl9).rd) (by first | exact hrb.rd | exact (hrb.below hba nl9).rd | exact (hrb.below br9.drew nl9).rd | exact ((hrb.below br9.drew nl9).below hba nl9).rd) nl9 hza.1 hzb.1 (by omega) (by omega)).mono ?_; rintro e wc ⟨zc, Ac, cc, rfl, hzc, hrc, hbc⟩; have hBc : Below wr.heap.size wr wc := (by first | exact hBa.trans (hbc.mono hBa.size) | exact hBb.trans (hbc.mono hBb.size) | exact hBa.drew.trans (hbc.mono hBa.size) | exact hBb.drew.trans (hbc.mono hBb.size)); have Hcc := hi9 (show wc.cell? ⟨b2, off2 + k, none⟩ = some (.int .u32 (y : Int)) from (hBc.cell (p := ⟨b2, off2 + k, none⟩) hbw2).trans hy)))
   all_goals
    go_wp2_with fail
    go_roundw
    case rel =>
     have hv := hzc
     rw [hza.2.2, hzb.2.2, Hvd.out] at hv
     exact ⟨k, zc, Ac, cc, by omega, by go_num, rfl, hv, hrc.rd, hbel.trans (hBc.mono hwr)⟩
    case measure => simp [intOf]
end
section
open Go.RowKit
def Longed (xs : List Nat) (n k : Nat) (qs : List Nat) (r : Nat) : Prop :=
 qs.length = xs.length ∧ Dig 4294967296 qs ∧ r < n ∧ val 4294967296 (xs.drop k) = val 4294967296 (qs.drop k) * n + r ∧ ∀ j (h : j < qs.length), j < k → qs[j] = 0
theorem Longed.start (xs : List Nat) (n : Nat) (hn : 0 < n) : Longed xs n xs.length (List.replicate xs.length 0) 0 :=
 ⟨by simp, Dig.zeros_ (by omega) _, hn, by simp [val], fun j h _ => by simp⟩
theorem Longed.small {xs qs : List Nat} {n k r : Nat} (h : Longed xs n (k + 1) qs r) (hk : k < xs.length) (hlt : xs[k] + 4294967296 * r < n) : Longed xs n k qs (xs[k] + 4294967296 * r) := by
 obtain ⟨h1, h2, h3, h4, h5⟩ := h
 refine ⟨h1, h2, hlt, ?_, fun j hj hjk => h5 j hj (by omega)⟩
 have e1 : xs.drop k = xs[k] :: xs.drop (k + 1) := List.drop_eq_getElem_cons hk
 have e2 : qs.drop k = qs[k]'(by omega) :: qs.drop (k + 1) := List.drop_eq_getElem_cons (by omega)
 rw [e1, e2, h5 k (by omega) (by omega)]
 simp only [val]
 rw [h4, Nat.mul_add, Nat.zero_add, Nat.mul_assoc]; omega
theorem Longed.step {xs qs : List Nat} {n k r : Nat} (h : Longed xs n (k + 1) qs r) (hk : k < xs.length) (hx : xs[k] < 4294967296) :
  (xs[k] + 4294967296 * r) / n < 4294967296 ∧ Longed xs n k (qs.set k ((xs[k] + 4294967296 * r) / n)) ((xs[k] + 4294967296 * r) % n) := by
 obtain ⟨h1, h2, h3, h4, h5⟩ := h
 have hq : (xs[k] + 4294967296 * r) / n < 4294967296 := by
  rw [Nat.div_lt_iff_lt_mul (by omega)]
  have : 4294967296 * (r + 1) ≤ 4294967296 * n := Nat.mul_le_mul_left _ h3
  omega
 refine ⟨hq, by simpa using h1, h2.set_ _ _ hq, Nat.mod_lt _ (by omega), ?_, fun j hj hjk => ?_⟩
 ·have e1 : xs.drop k = xs[k] :: xs.drop (k + 1) := List.drop_eq_getElem_cons hk
  have e2 : (qs.set k ((xs[k] + 4294967296 * r) / n)).drop k = ((xs[k] + 4294967296 * r) / n) :: qs.drop (k + 1) := by
   rw [List.drop_eq_getElem_cons (by simpa using (by omega : k < qs.length))]
   simp [List.drop_set]
  rw [e1, e2]
  simp only [val]
  rw [h4]
  have hd := Nat.div_add_mod (xs[k] + 4294967296 * r) n
  generalize (xs[k] + 4294967296 * r) / n = q at *
  generalize (xs[k] + 4294967296 * r) % n = m at *
  rw [Nat.add_mul, Nat.mul_add, Nat.mul_assoc, Nat.mul_comm q n]
  generalize val 4294967296 (qs.drop (k + 1)) * n = z at *
  omega
 ·rw [List.getElem_set, if_neg (by omega)]
  exact h5 j (by simpa using hj) (by omega)
theorem Longed.last {xs qs : List Nat} {n r : Nat} (h : Longed xs n 0 qs r) : val 4294967296 qs = val 4294967296 xs / n ∧ r = val 4294967296 xs % n := by
 obtain ⟨h1, h2, h3, h4, h5⟩ := h
 simp only [List.drop_zero] at h4
 rw [h4, Nat.mul_comm]
 constructor
 ·rw [Nat.mul_add_div (by omega), Nat.div_eq_of_lt h3, Nat.add_zero]
 ·rw [Nat.mul_add_mod, Nat.mod_eq_of_lt h3]
theorem bit_yes (D j : Nat) (h : D / 2 ^ (j + 1) * 2 ^ (j + 1) + 2 ^ j ≤ D) : D / 2 ^ j * 2 ^ j = D / 2 ^ (j + 1) * 2 ^ (j + 1) + 2 ^ j := by
 have hp : 0 < 2 ^ j := Nat.two_pow_pos j
 rw [Nat.pow_succ, ← Nat.div_div_eq_div_mul] at h ⊢
 have h1 := Nat.div_add_mod D (2 ^ j)
 have h2 : D % 2 ^ j < 2 ^ j := Nat.mod_lt _ hp
 generalize D / 2 ^ j = q at *
 have h3 : q / 2 * (2 ^ j * 2) = (q / 2 * 2) * 2 ^ j := by rw [Nat.mul_comm (2 ^ j) 2, ← Nat.mul_assoc]
 rw [h3] at h ⊢
 have h4 : q % 2 = 1 := by
  rcases Nat.mod_two_eq_zero_or_one q with h0 | h0
  ·exfalso
   have : q / 2 * 2 = q := by omega
   rw [this, Nat.mul_comm] at h
   omega
  ·exact h0
 have h5 : q = q / 2 * 2 + 1 := by omega
 conv => lhs; rw [h5]
 rw [Nat.add_mul, Nat.one_mul]
theorem bit_no (D j : Nat) (h : ¬ (D / 2 ^ (j + 1) * 2 ^ (j + 1) + 2 ^ j ≤ D)) : D / 2 ^ j * 2 ^ j = D / 2 ^ (j + 1) * 2 ^ (j + 1) := by
 have hp : 0 < 2 ^ j := Nat.two_pow_pos j
 rw [Nat.pow_succ, ← Nat.div_div_eq_div_mul] at h ⊢
 have h1 := Nat.div_add_mod D (2 ^ j)
 generalize D / 2 ^ j = q at *
 have h3 : q / 2 * (2 ^ j * 2) = (q / 2 * 2) * 2 ^ j := by rw [Nat.mul_comm (2 ^ j) 2, ← Nat.mul_assoc]
 rw [h3] at h ⊢
 have h4 : q % 2 = 0 := by
  rcases Nat.mod_two_eq_zero_or_one q with h0 | h0
  ·exact h0
  ·exfalso
   have h5 : q = q / 2 * 2 + 1 := by omega
   rw [h5, Nat.mul_add, Nat.mul_one, Nat.mul_comm] at h1
   omega
 have h5 : q / 2 * 2 = q := by omega
 rw [h5]
theorem Res.setCell {w : World} {B : Nat} {t : TypeId} {A : Option Addr} {c : Nat} {vs : List Value} (h : Res w B t A c vs) {p : Addr} (hp : p.block < B) (u : Value) : Res (w.setCell p u) B t A c vs :=
 ⟨h.1, h.2.1, fun hn => by
  obtain ⟨g, rest, e, hg, hk, hc⟩ := h.2.2 hn
  exact ⟨g, rest, e, hg, hk.far (by omega) u, hc⟩⟩
end
section
open Go.RowKit
theorem Num.len_le {b : Nat} {zs : List Nat} {n k : Nat} (hb : 1 < b) (h : Num b zs n) (hn : n < b ^ k) : zs.length ≤ k := by
 by_cases h0 : zs = []
 ·subst h0; simp
 ·have h1 := h.ge h0
  have h2 : b ^ (zs.length - 1) < b ^ k := by omega
  have := (Nat.pow_lt_pow_iff_right hb).1 h2
  omega
theorem mul_lt_pow {b n t l : Nat} (hn : n < b ^ l) (ht : t < b) : n * t < b ^ (l + 1) := by
 have h1 : n * t ≤ n * b := Nat.mul_le_mul_left _ (Nat.le_of_lt ht)
 have h2 : n * b < b ^ l * b := (Nat.mul_lt_mul_right (by omega)).2 hn
 rw [Nat.pow_succ]
 omega
theorem add_lt_pow {b n x r l : Nat} (hn : n < b ^ l) (hx : x < b) (hr : r < n) : x + b * r < b ^ (l + 1) := by
 have h1 : b * (r + 1) ≤ b * b ^ l := Nat.mul_le_mul_left _ (by omega)
 rw [Nat.mul_add, Nat.mul_one] at h1
 rw [Nat.pow_succ, Nat.mul_comm (b ^ l)]
 omega
theorem digit_or (D j d0 : Nat) (hj : j < 32) (hD : D < 4294967296) (h : d0 = D / 2 ^ (j + 1) * 2 ^ (j + 1)) : bits BinOp.or IntKind.u32 (d0 : Int) (2 ^ j % 4294967296) = ((d0 + 2 ^ j : Nat) : Int) ∧ d0 + 2 ^ j < 4294967296 := by
 have hp : 0 < 2 ^ j := Nat.two_pow_pos j
 have hj2 : 2 ^ j < 2 ^ 32 := Nat.pow_lt_pow_right (by omega) hj
 have hd : d0 ≤ D := by rw [h]; exact Nat.div_mul_le_self _ _
 have e1 : ((2 : Int) ^ j % 4294967296) = ((2 ^ j : Nat) : Int) := by
  rw [show ((2 : Int) ^ j) = ((2 ^ j : Nat) : Int) from by simp]; omega
 have e2 : d0 ||| 2 ^ j = d0 + 2 ^ j := by
  rw [h, or_shift (2 ^ j) (D / 2 ^ (j + 1)) (j + 1) (Nat.pow_lt_pow_right (by omega) (by omega)), Nat.mul_comm, Nat.add_comm]
 refine ⟨?_, ?_⟩
 ·rw [e1, u32_or_nat d0 (2 ^ j) (by omega) (by omega), e2]
 ·have e3 : 2 ^ (31 - j) * 2 ^ (j + 1) = 4294967296 := by rw [← Nat.pow_add, show 31 - j + (j + 1) = 32 from by omega]
  have h4 : D / 2 ^ (j + 1) < 2 ^ (31 - j) := by rw [Nat.div_lt_iff_lt_mul (Nat.two_pow_pos _), e3]; exact hD
  have h5 : (D / 2 ^ (j + 1) + 1) * 2 ^ (j + 1) ≤ 2 ^ (31 - j) * 2 ^ (j + 1) := Nat.mul_le_mul_right _ h4
  rw [e3, Nat.succ_mul, ← h, Nat.pow_succ] at h5
  omega
set_option maxHeartbeats 1600000 in
theorem rdiv_any (A A2 : Option Addr) (c c2 : Nat) (xs ys : List Nat) (w : World) (B : Nat) (hr : Rd w B A (u32s xs)) (hr2 : Rd w B A2 (u32s ys)) (hB : B ≤ w.heap.size) (hd : Dig 4294967296 xs) (hd2 : Dig 4294967296 ys) (hm : xs.length ≤ 70368744170000) (hm2 : ys.length ≤ 35184372088700) (hpos : 0 < val 4294967296 ys) :
  Calls Tryz.prog 114 #[.slice A xs.length c, .slice A2 ys.length c2] w fun e w' => ∃ qs rs A1 c1 A3 c3, e = .returned (.tuple #[.slice A1 qs.length c1, .slice A3 rs.length c3]) ∧ Num 4294967296 qs (val 4294967296 xs / val 4294967296 ys) ∧ Num 4294967296 rs (val 4294967296 xs % val 4294967296 ys) ∧ Res w' w.heap.size 50 A1 c1 (u32s qs) ∧ Res w' w.heap.size 50 A3 c3 (u32s rs) ∧ Below w.heap.size w w' := by
 have hl1 := trimL_length_le xs
 have hl2 := trimL_length_le ys
 obtain ⟨n, hnv⟩ : ∃ n, n = val 4294967296 ys := ⟨_, rfl⟩
 have hn2 : Num 4294967296 (trimL ys) n := by rw [hnv]; exact Num.of_trim hd2
 have Hvx := hi9 (val_trim 4294967296 xs)
 rw [← hnv] at hpos ⊢
 have hdp := hd.trim_
 have hdq := hn2.1
 go_enter Tryz.func114, Tryz.ntmps114
 go_wp2_with fail
 refine (rnorm_any A c xs _ B hr hB (by omega)).mono ?_
 rintro e w1 ⟨A1, c1, rfl, hres1, hb1⟩
 go_wp2_with fail
 refine (rnorm_any A2 c2 ys _ B (hr2.below (hb1.mono hB)) (Nat.le_trans hB hb1.size) (by omega)).mono ?_
 rintro e w2 ⟨A3, c3, rfl, hres2, hb2⟩
 have hres1' := hres1.below hb2 nl9
 have hra := hres1'.rd
 have hrb := hres2.rd
 have hb12 := hb1.trans (hb2.mono hb1.size)
 obtain ⟨ps, hps⟩ : ∃ ps, ps = trimL xs := ⟨_, rfl⟩
 obtain ⟨qs0, hqs0⟩ : ∃ qs0, qs0 = trimL ys := ⟨_, rfl⟩
 rw [← hps] at hl1 hdp hra
 rw [← hqs0] at hl2 hdq hrb hn2
 rw [← hps, ← hqs0]
 have Hps := hi9 hps
 have hvn : Hid (val 4294967296 qs0 = n) := hn2.2.2
 have hnlt := hn2.lt
 have hmk := fun W => mk32 ps.length (by omega) W
 have hs1 : w.heap.size ≤ w2.heap.size := hb12.size
 have hpl : ps.length ≤ 70368744170000 := by omega
 have hql : qs0.length ≤ 35184372088700 := by omega
 clear hps hqs0 hres1 hres1' hres2 hb1 hb2 hnv hr hr2
 go_wp2_with fail
 go_loopw [7, 8, 9, 10, 11] (fun rv i _ _ _ wr => ∃ (k R : Nat) (qs rs : List Nat) (A4 : Option Addr) (c4 : Nat), k ≤ ps.length ∧ i = .int .i64 ((k : Int) - 1) ∧ rv = .slice A4 rs.length c4 ∧ Num 4294967296 rs R ∧ Res wr (w2.heap.size + 1) 50 A4 c4 (u32s rs) ∧ Blk wr w2.heap.size 50 (u32s qs) ∧ Longed ps n k qs R ∧ Below w2.heap.size w2 wr) (fun _ i _ _ _ _ => (intOf i + 1).toNat)
 case atStart => exact ⟨ps.length, 0, List.replicate ps.length 0, [], none, 0, Nat.le_refl _, by go_num, rfl, Num.zero_ _, Res.none_, Blk.new_ (by simp [u32s]), Longed.start ps n hpos, br9.alloc nl9 _⟩
 case round =>
  obtain ⟨k, R, qs, rs, A4, c4, hk, rfl, rfl, hnr, hrr, hblk, hlg, hbel⟩ := hrel
  rcases k with _ | k
  ·obtain ⟨hv1, hv2⟩ := hlg.last
   rw [Hps.out, Hvx.out] at hv1 hv2
   have hqlen : Hid (qs.length = ps.length) := hlg.1
   have hqm : qs.length ≤ 70368744177664 := by rw [hlg.1]; omega
   have hrd := (Res.of_blk0 hblk nl9 (by rw [u32s_length]; omega)).rd
   have Hv1 := hi9 hv1
   have Hv2 := hi9 hv2
   clear hv1 hv2
   go_wp2_with fail
   rw [← hqlen.out]
   refine (rnorm_any _ _ qs wr _ hrd nl9 hqm).mono ?_
   rintro e w5 ⟨A7, c7, rfl, hres, hb5⟩
   go_wp2
   go_ret2
   have hs2 := hbel.size
   refine ⟨trimL qs, rs, A7, c7, A4, c4, rfl, ?_, ?_, hres.mono (by omega), (hrr.below hb5 nl9).mono (by omega), hb12.trans ((hbel.trans (hb5.mono hs2)).mono hs1)⟩
   ·rw [← Hv1.out]; exact Num.of_trim hlg.2.1
   ·rw [← Hv2.out]; exact hnr
  ·rw [show ((k + 1 : Nat) : Int) - 1 = (k : Int) from by omega]
   have hkp : k < ps.length := by omega
   have hrl : rs.length ≤ qs0.length := hnr.len_le (by omega) (Nat.lt_trans hlg.2.2.1 hnlt)
   obtain ⟨b, off, rfl, hbb, hcell⟩ := hra (by intro e; have := u32s_length ps; rw [e] at this; simp at this; omega)
   have hx := (hbel.cell (p := ⟨b, off + k, none⟩) hbb).trans (hcell k _ (u32s_at hkp))
   have hxd := hdp.at_ k hkp
   clear hcell
   go_wp2_with fail
   refine (rshift_any A4 c4 rs ps[k] _ _ hrr.rd nl9 hnr.1 hxd (by omega)).mono ?_
   rintro e w3 ⟨ts, A5, c5, rfl, hnt, hrt, hb3⟩
   have hs3 := hb3.size
   have hs2 := hbel.size
   have hblk3 := hblk.below hb3 hblk.lt
   have hbel3 := hbel.trans (hb3.mono hs2)
   go_wp2_with fail
   have htl : ts.length ≤ qs0.length + 1 := by
    refine hnt.len_le (by omega) ?_
    rw [hnr.2.2]
    exact add_lt_pow hnlt hxd hlg.2.2.1
   refine (rcmp_any A5 A3 c5 c3 ts qs0 _ w3.heap.size hrt.rd (hrb.below hbel3 |>.mono (Nat.le_trans hs2 hs3)) hnt.1 hdq (by omega) (by omega)).mono ?_
   rintro e w4 ⟨rfl, rfl⟩
   have hvt : val 4294967296 ts = ps[k] + 4294967296 * R := by rw [hnt.2.2, hnr.2.2]
   rw [hvt, hvn.out]
   obtain ⟨R1, hR1⟩ : ∃ R1, R1 = ps[k] + 4294967296 * R := ⟨_, rfl⟩
   rw [← hR1] at hvt ⊢
   have hnt1 : Num 4294967296 ts R1 := by rw [← hvt]; exact ⟨hnt.1, hnt.2.1, rfl⟩
   rcases Nat.lt_or_ge R1 n with hlt | hge
   ·rw [show cmpN R1 n = -1 from by simp [cmpN, hlt]]
    have hsm := hlg.small hkp (by rw [← hR1]; exact hlt)
    rw [← hR1] at hsm
    clear hR1 hvt hx
    go_wp2
    go_roundw
    case rel => exact ⟨k, R1, qs, ts, A5, c5, by omega, by go_num, rfl, hnt1, hrt.mono (by have := hblk.lt; omega), hblk3, hsm, hbel3⟩
    case measure => simp [intOf]
   ·have hc0 : 0 ≤ cmpN R1 n := by unfold cmpN; split <;> (try split) <;> omega
    obtain ⟨cm, hcm⟩ : ∃ cm : Int, cm = cmpN R1 n := ⟨_, rfl⟩
    rw [← hcm] at hc0 ⊢
    obtain ⟨hD, hst⟩ := hlg.step hkp hxd
    rw [← hR1] at hD hst
    obtain ⟨D, hDe⟩ : ∃ D, D = R1 / n := ⟨_, rfl⟩
    rw [← hDe] at hD hst
    have HDe := hi9 hDe
    have Hst := hi9 hst
    clear hcm hR1 hvt hx hDe hst
    go_wp2_with fail
    go_loopw [9, 10, 11] (fun dv kv _ wq => ∃ j : Nat, j ≤ 32 ∧ kv = .int .i64 ((j : Int) - 1) ∧ dv = .int .u32 ((D / 2 ^ j * 2 ^ j : Nat) : Int) ∧ Below w3.heap.size w3 wq) (fun _ kv _ _ => (intOf kv + 1).toNat)
    case atStart => exact ⟨32, by omega, by go_num, by rw [Nat.div_eq_of_lt hD]; rfl, br9⟩
    case round =>
     obtain ⟨j, hj, rfl, rfl, hbq⟩ := hrel
     rcases j with _ | j
     ·simp only [Nat.pow_zero, Nat.div_one, Nat.mul_one]
      have hkq : k < qs.length := by rw [hlg.1]; exact hkp
      have hbq2 := hblk3.below hbq hblk3.lt
      have hcq := (hbq2.cell k).trans (u32s_at hkq)
      have hfq := hbq2.frozen k
      have hbs : Blk (wr.setCell ⟨w2.heap.size, k, none⟩ (.int .u32 (D : Int))) w2.heap.size 50 (u32s (qs.set k D)) := by
       have := hbq2.set_ k (Value.int IntKind.u32 (D : Int))
       rwa [u32s_set] at this
      have hs4 := hbq.size
      have hb2s : Below w2.heap.size w2 (wr.setCell ⟨w2.heap.size, k, none⟩ (.int .u32 (D : Int))) := (hbel3.trans (hbq.mono (Nat.le_trans hs2 hs3))).setCell (p := ⟨w2.heap.size, k, none⟩) nl9 _
      have hrs : Res (wr.setCell ⟨w2.heap.size, k, none⟩ (.int .u32 (D : Int))) (w2.heap.size + 1) 50 A5 c5 (u32s ts) := ((hrt.mono (by have := hblk.lt; omega)).below hbq nl9).setCell (by show w2.heap.size < _; omega) _
      obtain ⟨ws, hws⟩ : ∃ ws, ws = wr.setCell ⟨w2.heap.size, k, none⟩ (.int .u32 (D : Int)) := ⟨_, rfl⟩
      go_wp2_with fail
      rw [← hws] at hbs hb2s hrs ⊢
      have hzs := hb2s.size
      refine (rsmall_any A3 c3 qs0 D _ _ (hrb.below hb2s) hzs hdq hD (by omega)).mono ?_
      rintro e w5 ⟨ms, A6, c6, rfl, hnm, hrm, hb5⟩
      have hmt : ms.length ≤ qs0.length + 1 := by
       refine hnm.len_le (by omega) ?_
       rw [hvn.out]
       exact mul_lt_pow hnlt hD
      have hmv : val 4294967296 ms ≤ val 4294967296 ts := by
       rw [hnm.2.2, hnt1.2.2, hvn.out, HDe.out]; exact Nat.mul_div_le _ _
      have hb25 := hb2s.trans (hb5.mono hzs)
      have hrs5 := hrs.below hb5 nl9
      clear hws
      go_wp2_with fail
      refine (rsub_any A5 A6 c5 c6 ts ms _ w5.heap.size hrs5.rd hrm.rd nl9 hnt1.1 hnm.1 (by omega) (by omega) hmv).mono ?_
      rintro e w6 ⟨ns, A7, c7, rfl, hnn, hrn, hb6⟩
      have hnv : Num 4294967296 ns (R1 % n) := by
       have e1 : val 4294967296 ts - val 4294967296 ms = R1 % n := by
        rw [hnm.2.2, hnt1.2.2, hvn.out, HDe.out]
        have := Nat.div_add_mod R1 n
        omega
       rw [← e1]; exact hnn
      have hsz5 := hb5.size
      have hblt := hbs.lt
      go_wp2
      go_roundw
      case rel =>
       refine ⟨k, R1 % n, qs.set k D, ns, A7, c7, by omega, by go_num, rfl, hnv, hrn.mono (by omega), (hbs.below hb5 hblt).below hb6 (by omega), Hst.out, hb25.trans (hb6.mono (by omega))⟩
      case measure => simp [intOf]
     ·rw [show ((j + 1 : Nat) : Int) - 1 = (j : Int) from by omega]
      obtain ⟨d0, hd0⟩ : ∃ d0, d0 = D / 2 ^ (j + 1) * 2 ^ (j + 1) := ⟨_, rfl⟩
      have hd0b : d0 < 4294967296 := by rw [hd0]; exact Nat.lt_of_le_of_lt (Nat.div_mul_le_self _ _) hD
      rw [← hd0]
      obtain ⟨eor, htb⟩ := digit_or D j d0 (by omega) hD hd0
      obtain ⟨tt, htt⟩ : ∃ tt, tt = d0 + 2 ^ j := ⟨_, rfl⟩
      rw [← htt] at eor htb
      have Hd0 := hi9 hd0
      have Htt := hi9 htt
      clear hd0 htt
      go_wp2_with fail
      refine (rsmall_any A3 c3 qs0 tt _ _ ((hrb.below hbel3).below (hbq.mono (Nat.le_trans hs2 hs3))) (Nat.le_trans (Nat.le_trans hs2 hs3) hbq.size) hdq htb (by omega)).mono ?_
      rintro e w5 ⟨ms, A6, c6, rfl, hnm, hrm, hb5⟩
      have hmt : ms.length ≤ qs0.length + 1 := by
       refine hnm.len_le (by omega) ?_
       rw [hvn.out]
       exact mul_lt_pow hnlt htb
      have hb35 := hbq.trans (hb5.mono hbq.size)
      have hrt5 := hrt.rd.below hb35
      have hsz5 := hb35.size
      go_wp2_with fail
      refine (rcmp_any A6 A5 c6 c5 ms ts _ w5.heap.size hrm.rd (hrt5.mono hsz5) hnm.1 hnt1.1 (by omega) (by omega)).mono ?_
      rintro e w6 ⟨rfl, rfl⟩
      rw [hnm.2.2, hnt1.2.2, hvn.out]
      by_cases hle : tt ≤ D
      ·have h1 : tt * n ≤ R1 := by rw [← Nat.le_div_iff_mul_le hpos, ← HDe.out]; exact hle
       have hc1 : cmpN (n * tt) R1 ≤ 0 := by
        rw [Nat.mul_comm]; unfold cmpN; split <;> (try split) <;> omega
       obtain ⟨cm2, hcm2⟩ : ∃ cm2 : Int, cm2 = cmpN (n * tt) R1 := ⟨_, rfl⟩
       rw [← hcm2] at hc1 ⊢
       have hby := bit_yes D j (by rw [← Hd0.out, ← Htt.out]; exact hle)
       rw [← Hd0.out, ← Htt.out] at hby
       have Hby := hi9 hby
       clear hcm2 hby h1 hle
       go_wp2
       go_roundw
       case rel => exact ⟨j, by omega, by go_num, by rw [Hby.out], hb35⟩
       case measure => simp [intOf]
      ·have h1 : R1 < tt * n := by
        rcases Nat.lt_or_ge R1 (tt * n) with h | h
        ·exact h
        ·exact absurd (by rw [HDe.out, Nat.le_div_iff_mul_le hpos]; exact h) hle
       have hc1 : cmpN (n * tt) R1 = 1 := by
        rw [Nat.mul_comm]; unfold cmpN; rw [if_neg (by omega), if_pos h1]
       rw [hc1]
       have hbn := bit_no D j (by rw [← Hd0.out, ← Htt.out]; exact hle)
       rw [← Hd0.out] at hbn
       have Hbn := hi9 hbn
       clear hc1 hbn h1 hle
       go_wp2
       go_roundw
       case rel => exact ⟨j, by omega, by go_num, by rw [Hbn.out], hb35⟩
       case measure => simp [intOf]
end
end Go.Proofs.YtbcphifjcaobfaaGreatDoor
