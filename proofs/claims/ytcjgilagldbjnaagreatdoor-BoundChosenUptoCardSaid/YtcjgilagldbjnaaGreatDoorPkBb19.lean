/- Appending to a row of one's own; the contract of the referen. The contract of the reference's Small. The contract of the reference's Sub. The contract of byHalves, given that of product for fewer wo. The contract of carried. -/
import Derived.Test.YtcjgilagldbjnaaGreatDoorPkBb18
import Derived.Maps.AppendAt
import Derived.OwnWalk
import Derived.Test.YtcjgilagldbjnaaGreatDoorPkBb17
import Derived.Test.YtcjgilagldbjnaaGreatDoorPkBb16
namespace Go.Proofs.YtcjgilagldbjnaaGreatDoor
section
open Go.RowKit
theorem own_res {w : World} {base : Nat} {e : TypeId} {v : Value} {n : Nat} {xs : List Value} (h : w.ownsRow base e 1 v n xs) (hm : n ≤ 281474976710656) : ∃ A c, v = .slice A n c ∧ n ≤ c ∧ Rd w w.heap.size A xs ∧ (xs ≠ [] → ∃ g, A = some ⟨g, 0, none⟩ ∧ base ≤ g) := by
 obtain ⟨hl, h1 | ⟨g, cap, cur, rfl, hg, hh, hnc, hcm, hsz, ht⟩⟩ := h
 ·obtain ⟨rfl, rfl⟩ := h1
  have : xs = [] := List.eq_nil_of_length_eq_zero (by simpa using hl)
  subst this
  exact ⟨none, 0, rfl, Nat.le_refl _, Rd.nil_, fun h => absurd rfl h⟩
 ·refine ⟨_, cap, rfl, hnc, fun _ => ?_, fun _ => ⟨g, rfl, hg⟩⟩
  have hb : Blk w g e cur.toList := by simpa [Blk] using hh
  refine ⟨g, 0, rfl, hb.lt, fun k u hu => ?_⟩
  rw [Nat.zero_add, hb.cell]
  rw [← ht, List.getElem?_take] at hu
  split at hu
  ·exact hu
  ·cases hu
theorem addr_add (b off j : Nat) : (⟨b, off, none⟩ : Addr).add j = ⟨b, off + j, none⟩ := by unfold Addr.add; split <;> simp_all
theorem run_app {P : Program} (w : World) (base : Nat) (t ty e : TypeId) (i : TypeInfo) (z : Value) (bytes : Nat) (ht : P.underlying t = some (.slice e)) (hi : P.info? e = some i) (hz : i.zero = some z)
  (hsize : i.size = 1) (hby : i.bytes = bytes) (hzs : z.cells.size = 1) (g n cap : Nat) (xs : List Value) (hown : w.ownsRow base e 1 (.slice (some ⟨g, 0, none⟩) n cap) n xs)
  (A : Option Addr) (m c B : Nat) (news : List Value) (hr : Rd w B A news) (hm : news.length = m) (h1 : ∀ u ∈ news, u.oneCell' = true) (h63 : n + m ≤ maxLen) (hbytes : (n + m) * bytes ≤ 140737488355328) (hbase : base ≤ w.heap.size) :
  ∃ v' w', (Builtin.append_ #[t, t] ty #[.slice (some ⟨g, 0, none⟩) n cap, .slice A m c]).run P w = .ok v' w' ∧ w'.ownsRow base e 1 v' (n + m) (xs ++ news) ∧ w.grownBy w' (some g) := by
 rcases A with _ | ad
 ·have h0 : news = [] := by
   by_cases h : news = []
   ·exact h
   ·obtain ⟨_, _, h2, _⟩ := hr h
    cases h2
  subst h0
  obtain rfl : m = 0 := by simpa using hm.symm
  have hown0 := hown
  obtain ⟨hl, h2 | ⟨g', cap', cur, hv, hg, hh, hnc, hcm, hsz, htk⟩⟩ := hown
  ·cases h2.1
  ·injection hv with e1 e2 e3
   subst e3
   refine ⟨_, w, ?_, by simpa using hown0, World.grownBy.refl w _⟩
   simp [Builtin.append_, run_underlying ht, sizeOf, typeInfo, hi, Builtin.lenOf, Builtin.firstCells, hnc, storeCells]
 ·have hcells : ∀ j u, news[j]? = some u → w.cell? (ad.add j) = some u := fun j u hu => by
   obtain ⟨b, off, h2, _, hc⟩ := hr (by rintro rfl; simp at hu)
   injection h2 with h2
   subst h2
   rw [addr_add]
   exact hc j u hu
  obtain ⟨v', w', hrun, h2, h3, _, _⟩ := run_append_own_at (P := P) w base t ty e i z 1 bytes ht hi hz hsize hby hzs (by omega) _ n xs hown ad m c news (by rw [hm]; omega) hcells h1 h63 hbytes hbase
  exact ⟨v', w', hrun, h2, h3⟩
theorem wpList_append_run {P : Program} {w : World} {ops : Array Oper} {rest : List Oper} {o : Oper} {a : Act} {Q : Exit → Act → World → Prop} (hgd : o.guard = none) (d s : Operand) (dT sT : TypeId)
  (ho : o.op = .call { callee := .builtin .append, args := #[d, s], argTypes := #[dT, sT] }) (dv sv : Value) (hd : a.eval d = dv) (hs : a.eval s = sv) (v' : Value) (w' : World)
  (hrun : (Builtin.append_ #[dT, sT] o.type #[dv, sv]).run P w = .ok v' w') (h : wpList P ops Q rest (a.put o.dst v') w') : wpList P ops Q (o :: rest) a w := by
 refine wpList_plain hgd fun K hK => ?_
 unfold Oper.wp
 simp [execOp, ho, resolve, invoke, builtin, hd, hs, hrun, Result.andThen]
 exact hK _ _ h
theorem below_grown {w w' : World} {g : Nat} (h : w.grownBy w' (some g)) {B : Nat} (hB : B ≤ g) (hw : B ≤ w.heap.size) : Below B w w' :=
 ⟨h.os, h.tape, h.output, h.size, fun k hk => h.block k (by omega) (fun e => by injection e with e; omega)⟩
set_option maxHeartbeats 400000 in
theorem rshift_any (A : Option Addr) (c : Nat) (xs : List Nat) (x : Nat) (w : World) (B : Nat) (hr : Rd w B A (u32s xs)) (hB : B ≤ w.heap.size) (hd : Dig 4294967296 xs) (hx : x < 4294967296) (hm : xs.length ≤ 35184372088800) :
  Calls Tryz.prog 47 #[.slice A xs.length c, .int .u32 (x : Int)] w fun e w' => ∃ zs A' c', e = .returned (.slice A' zs.length c') ∧ Num 4294967296 zs (x + 4294967296 * val 4294967296 xs) ∧ Res w' w.heap.size 34 A' c' (u32s zs) ∧ Below w.heap.size w w' := by
 obtain ⟨i0, hi, hz0, hz1, hz2⟩ := info_parts Tryz.info32
 have hb1 : Blk (w.alloc (.cells #[.int .u32 (x : Int)] 34)) w.heap.size 34 (u32s [x]) := Blk.new_ rfl
 have hown : (w.alloc (.cells #[.int .u32 (x : Int)] 34)).ownsRow w.heap.size 34 1 (.slice (some ⟨w.heap.size, 0, none⟩) 1 1) 1 [.int .u32 (x : Int)] :=
  ⟨rfl, .inr ⟨w.heap.size, 1, #[.int .u32 (x : Int)], rfl, Nat.le_refl _, hb1, Nat.le_refl _, by decide, rfl, rfl⟩⟩
 obtain ⟨v', w1, hrun, hown2, hgr⟩ := run_app (P := Tryz.prog) (w.alloc (.cells #[.int .u32 (x : Int)] 34)) w.heap.size 23 23 34 i0 (.int .u32 0) 4 Tryz.underlying23 hi hz0 hz1 hz2 rfl w.heap.size 1 1 _ hown A xs.length c B (u32s xs)
  (hr.below (br9.alloc hB _)) (u32s_length xs) (one_u32s xs) (by unfold maxLen; omega) (by omega) (by simp)
 obtain ⟨A1, c1, rfl, hlc, hrd, _⟩ := own_res hown2 (by omega)
 have hbel : Below w.heap.size w w1 := (br9.alloc nl9 _).trans (below_grown hgr nl9 (by simp))
 have hl : Hid ((x :: xs).length = 1 + xs.length) := by show _ = _; simp; omega
 have hrd2 : Rd w1 w1.heap.size A1 (u32s (x :: xs)) := hrd
 have hmm : (x :: xs).length ≤ 70368744177664 := by have := hl.out; omega
 clear hown hown2 hgr hb1 hrd
 go_enter Tryz.func47, Tryz.ntmps47
 have Hrun := hi9 hrun
 clear hrun
 go_wp2_with (first
  | (at_builtin; refine wpList_append_run rfl _ _ _ _ rfl _ _ rfl rfl _ _ Hrun.out ?_)
  | (go_at_call 13; rw [← hl.out]; refine (rnorm_any A1 c1 (x :: xs) w1 _ hrd2 nl9 hmm).mono ?_; rintro e w2 ⟨A', c', rfl, hres, hb⟩))
 go_ret
 exact ⟨trimL (x :: xs), A', c', rfl, Num.of_trim (hd.cons_ hx), hres.mono hbel.size, hbel.trans (hb.mono hbel.size)⟩
end
section
open Go.RowKit
theorem val_take_at0 (b : Nat) (xs : List Nat) (k : Nat) : val b (xs.take (k + 1)) = val b (xs.take k) + b ^ k * at0 xs k := by
 by_cases h : k < xs.length
 ·rw [val_take_succ b xs k h, at0_in h]
 ·rw [at0_out (by omega), List.take_of_length_le (by omega), List.take_of_length_le (by omega)]; simp
theorem val_take_all (b : Nat) (xs : List Nat) (k : Nat) (h : xs.length ≤ k) : val b (xs.take k) = val b xs := by rw [List.take_of_length_le h]
theorem val_take_drop (b : Nat) (xs : List Nat) (k : Nat) (h : k ≤ xs.length) : val b xs = val b (xs.take k) + b ^ k * val b (xs.drop k) := by
 conv => lhs; rw [← List.take_append_drop k xs]
 rw [val_append, List.length_take, Nat.min_eq_left h]
def Smalled (xs : List Nat) (x k : Nat) (zs : List Nat) (c : Nat) : Prop :=
 Dig 4294967296 zs ∧ c < 4294967296 ∧ val 4294967296 zs + 4294967296 ^ k * c = val 4294967296 (xs.take k) * x ∧ ∀ j (h : j < zs.length), k ≤ j → zs[j] = 0
theorem Smalled.start (xs : List Nat) (x n : Nat) : Smalled xs x 0 (List.replicate n 0) 0 :=
 ⟨Dig.zeros_ (by omega) _, by omega, by simp [val_zeros, val], fun j h _ => by simp⟩
theorem Smalled.step {xs zs : List Nat} {x k c : Nat} (h : Smalled xs x k zs c) (hz : k < zs.length) (hd : Dig 4294967296 xs) (hx : x < 4294967296) :
  Smalled xs x (k + 1) (zs.set k ((at0 xs k * x + c) % 4294967296)) ((at0 xs k * x + c) / 4294967296) := by
 obtain ⟨h1, h2, h3, h4⟩ := h
 have ha := at0_lt hd k
 have hp : at0 xs k * x ≤ 4294967295 * 4294967295 := Nat.mul_le_mul (by omega) (by omega)
 refine ⟨h1.set_ _ _ (Nat.mod_lt _ (by omega)), ?_, ?_, fun i hi hki => ?_⟩
 ·rw [Nat.div_lt_iff_lt_mul (by omega)]; omega
 ·have e1 := val_set 4294967296 zs k ((at0 xs k * x + c) % 4294967296) hz
  rw [h4 k hz nl9] at e1
  have e2 := Nat.mod_add_div (at0 xs k * x + c) 4294967296
  rw [val_take_at0, Nat.add_mul, ← h3, Nat.pow_succ, Nat.mul_assoc, Nat.mul_assoc]
  have e3 : 4294967296 ^ k * (at0 xs k * x) + 4294967296 ^ k * c = 4294967296 ^ k * ((at0 xs k * x + c) % 4294967296) + 4294967296 ^ k * (4294967296 * ((at0 xs k * x + c) / 4294967296)) := by
   rw [← Nat.mul_add, ← Nat.mul_add, e2]
  omega
 ·rw [List.getElem_set, if_neg (by omega)]
  exact h4 i (by simpa using hi) (by omega)
theorem carry_none {b v n c u x : Nat} (h : v + b ^ (n + 1) * c = u * x) (hu : u < b ^ n) (hx : x < b) : c = 0 := by
 rcases Nat.eq_zero_or_pos c with h0 | h0
 ·exact h0
 ·exfalso
  have h1 : u * x ≤ u * b := Nat.mul_le_mul_left _ (Nat.le_of_lt hx)
  have h2 : u * b < b ^ n * b := (Nat.mul_lt_mul_right (by omega)).2 hu
  have h3 : b ^ n * b * 1 ≤ b ^ n * b * c := Nat.mul_le_mul_left _ h0
  rw [Nat.pow_succ] at h
  generalize b ^ n * b = q at *
  omega
theorem Smalled.last {xs zs : List Nat} {x c : Nat} (h : Smalled xs x (xs.length + 1) zs c) (hd : Dig 4294967296 xs) (hx : x < 4294967296) : val 4294967296 zs = val 4294967296 xs * x := by
 obtain ⟨h1, h2, h3, h4⟩ := h
 rw [val_take_all _ _ _ (by omega)] at h3
 obtain rfl := carry_none h3 (val_lt _ xs hd) hx
 rw [Nat.mul_zero, Nat.add_zero] at h3
 exact h3
set_option maxHeartbeats 800000 in
theorem rsmall_any (A : Option Addr) (c : Nat) (xs : List Nat) (x : Nat) (w : World) (B : Nat) (hr : Rd w B A (u32s xs)) (hB : B ≤ w.heap.size) (hd : Dig 4294967296 xs) (hx : x < 4294967296) (hm : xs.length ≤ 70368744170000) :
  Calls Tryz.prog 48 #[.slice A xs.length c, .int .u32 (x : Int)] w fun e w' => ∃ zs A' c', e = .returned (.slice A' zs.length c') ∧ Num 4294967296 zs (val 4294967296 xs * x) ∧ Res w' w.heap.size 34 A' c' (u32s zs) ∧ Below w.heap.size w w' := by
 have hmk : ∀ W : World, (Instr.makeSlice 23 (.int .i64 ((xs.length : Int) + 1)) (.int .i64 ((xs.length : Int) + 1))).run Tryz.prog W = .ok (.slice (some ⟨W.heap.size, 0, none⟩) (xs.length + 1) (xs.length + 1)) (W.alloc (.cells (List.replicate (xs.length + 1) (Value.int .u32 0)).toArray 34)) := fun W => by
  have := mk32 (xs.length + 1) (by omega) W
  rwa [show ((xs.length + 1 : Nat) : Int) = (xs.length : Int) + 1 from by omega] at this
 go_enter Tryz.func48, Tryz.ntmps48
 go_wp2
 go_loopw [6, 7, 8, 15] (fun cv _ _ i wr => ∃ (k cc : Nat) (zs : List Nat), k ≤ xs.length + 1 ∧ i = .int .i64 k ∧ cv = .int .u64 cc ∧ zs.length = xs.length + 1 ∧ Blk wr w.heap.size 34 (u32s zs) ∧ Smalled xs x k zs cc ∧ Below w.heap.size w wr) (fun _ _ _ i _ => xs.length + 1 - (intOf i).toNat)
 case atStart => exact ⟨0, 0, List.replicate (xs.length + 1) 0, by omega, rfl, rfl, by simp, Blk.new_ (by simp [u32s]), Smalled.start _ _ _, br9.alloc nl9 _⟩
 case round =>
  obtain ⟨k, cc, zs, hk, rfl, rfl, hzl, hblk, hsm, hbel⟩ := hrel
  by_cases hlt : k < xs.length + 1
  ·have hkz : k < zs.length := by omega
   have Hzl := hi9 hzl
   clear hzl
   have hc2 := (hblk.cell k).trans (u32s_at hkz)
   have hf2 := hblk.frozen k
   have ha := at0_lt hd k
   have hcc := hsm.2.1
   obtain ⟨y, hy⟩ : ∃ y, y = at0 xs k := ⟨_, rfl⟩
   obtain ⟨p, hp⟩ : ∃ p, p = y * x := ⟨_, rfl⟩
   rw [← hy] at ha
   have hpb : p ≤ 18446744065119617025 := by
    rw [hp]
    have : y * x ≤ 4294967295 * 4294967295 := Nat.mul_le_mul (by omega) (by omega)
    omega
   have e1 : IntKind.u64.wrap ((y : Int) * (x : Int)) = (p : Int) := by
    rw [IntKind.wrap_u64, ← Int.natCast_mul, ← hp]; omega
   have hrw := hr.below (hbel.mono hB)
   have hm2 : xs.length ≤ 281474976710656 := by omega
   have hkb : k ≤ 9223372036854775807 := by omega
   have Hy := hi9 hy
   have Hp := hi9 hp
   have Hpb := hi9 hpb
   obtain ⟨sm, hsme⟩ : ∃ sm, sm = p + cc := ⟨_, rfl⟩
   have e2 : IntKind.u64.wrap ((p : Int) + (cc : Int)) = (sm : Int) := by
    rw [IntKind.wrap_u64]; omega
   have hsb : sm < 18446744073709551616 := by omega
   have Hsm := hi9 hsme
   clear hy hp hpb hsme
   go_wp2_with (go_at_call 46; (with_reducible refine (limb_any A c xs k _ B hrw hd hm2 hkb).mono ?_); rintro e w' ⟨rfl, rfl⟩; rw [← Hy.out])
   go_roundw
   case rel =>
    have hst := hsm.step hkz hd hx
    rw [← Hy.out, ← Hp.out, ← Hsm.out] at hst
    refine ⟨k + 1, sm / 4294967296, zs.set k (sm % 4294967296), by omega, by go_num, by go_num, by simpa using Hzl.out, ?_, hst, hbel.setCell (p := ⟨w.heap.size, k, none⟩) nl9 _⟩
    have hb2 := hblk.set_ k (Value.int IntKind.u32 ((sm % 4294967296 : Nat) : Int))
    rw [u32s_set] at hb2
    exact hb2
   case measure => simp [intOf]; omega
  ·obtain rfl : k = xs.length + 1 := by omega
   have hrd := (Res.of_blk0 hblk nl9 (by rw [u32s_length]; omega)).rd
   have hv := hsm.last hd hx
   have Hv := hi9 hv
   have Hzl := hi9 hzl
   have hzm : zs.length ≤ 70368744177664 := by omega
   clear hzl hv
   go_wp2_with (go_at_call 13; rw [← Hzl.out]; refine (rnorm_any _ _ zs wr _ hrd nl9 hzm).mono ?_; rintro e w2 ⟨A', c', rfl, hres, hb⟩)
   go_ret
   refine ⟨trimL zs, A', c', rfl, ?_, hres.mono hbel.size, hbel.trans (hb.mono hbel.size)⟩
   rw [← Hv.out]
   exact Num.of_trim hsm.1
end
section
open Go.RowKit
def Subbed (xs ys : List Nat) (k : Nat) (zs : List Nat) (c : Nat) : Prop :=
 Dig 4294967296 zs ∧ c ≤ 1 ∧ val 4294967296 zs + val 4294967296 (ys.take k) = val 4294967296 (xs.take k) + 4294967296 ^ k * c ∧ (∀ j (h : j < zs.length), k ≤ j → zs[j] = 0) ∧ zs.length = xs.length
theorem Subbed.start (xs ys : List Nat) : Subbed xs ys 0 (List.replicate xs.length 0) 0 :=
 ⟨Dig.zeros_ (by omega) _, by omega, by simp [val_zeros, val], fun j h _ => by simp, by simp⟩
theorem Subbed.step {xs ys zs : List Nat} {k c : Nat} (h : Subbed xs ys k zs c) (hz : k < zs.length) (hd : Dig 4294967296 xs) (hd2 : Dig 4294967296 ys) :
  Subbed xs ys (k + 1) (zs.set k ((4294967296 + at0 xs k - at0 ys k - c) % 4294967296)) (1 - (4294967296 + at0 xs k - at0 ys k - c) / 4294967296) := by
 obtain ⟨h1, h2, h3, h4, h5⟩ := h
 have ha := at0_lt hd k
 have hb := at0_lt hd2 k
 refine ⟨h1.set_ _ _ (Nat.mod_lt _ (by omega)), by omega, ?_, fun i hi hki => ?_, by simpa using h5⟩
 ·have e1 := val_set 4294967296 zs k ((4294967296 + at0 xs k - at0 ys k - c) % 4294967296) hz
  rw [h4 k hz nl9, Nat.mul_zero, Nat.add_zero] at e1
  rw [val_take_at0, val_take_at0, Nat.pow_succ]
  generalize at0 xs k = x at *
  generalize at0 ys k = y at *
  have e2 : (4294967296 + x - y - c) % 4294967296 + y + c = x + 4294967296 * (1 - (4294967296 + x - y - c) / 4294967296) := by omega
  generalize (4294967296 + x - y - c) % 4294967296 = r at *
  generalize 1 - (4294967296 + x - y - c) / 4294967296 = q at *
  have e3 : 4294967296 ^ k * r + 4294967296 ^ k * y + 4294967296 ^ k * c = 4294967296 ^ k * x + 4294967296 ^ k * 4294967296 * q := by
   rw [← Nat.mul_add, ← Nat.mul_add, e2, Nat.mul_add, Nat.mul_assoc]
  generalize 4294967296 ^ k * 4294967296 * q = t1 at *
  generalize 4294967296 ^ k * r = t2 at *
  generalize 4294967296 ^ k * y = t3 at *
  generalize 4294967296 ^ k * c = t4 at *
  generalize 4294967296 ^ k * x = t5 at *
  omega
 ·rw [List.getElem_set, if_neg (by omega)]
  exact h4 i (by simpa using hi) (by omega)
theorem borrow_none {b v n c x y : Nat} (h : v + y = x + b ^ n * c) (hv : v < b ^ n) (hy : y ≤ x) : c = 0 := by
 rcases Nat.eq_zero_or_pos c with h0 | h0
 ·exact h0
 ·exfalso
  have h3 : b ^ n * 1 ≤ b ^ n * c := Nat.mul_le_mul_left _ h0
  generalize b ^ n = q at *
  omega
theorem val_take_le {b : Nat} (xs : List Nat) (n : Nat) (h : val b xs < b ^ n) (_ : Dig b xs) (_ : 0 < b) : val b (xs.take n) = val b xs := by
 by_cases hn : xs.length ≤ n
 ·exact val_take_all _ _ _ hn
 ·have e := val_take_drop b xs n (by omega)
  rcases Nat.eq_zero_or_pos (val b (xs.drop n)) with h0 | h0
  ·rw [h0] at e; omega
  ·exfalso
   have h3 : b ^ n * 1 ≤ b ^ n * val b (xs.drop n) := Nat.mul_le_mul_left _ h0
   omega
theorem Subbed.last {xs ys zs : List Nat} {c : Nat} (h : Subbed xs ys xs.length zs c) (hd : Dig 4294967296 xs) (hd2 : Dig 4294967296 ys) (hle : val 4294967296 ys ≤ val 4294967296 xs) : val 4294967296 zs = val 4294967296 xs - val 4294967296 ys := by
 obtain ⟨h1, h2, h3, h4, h5⟩ := h
 have hx := val_lt _ xs hd
 rw [List.take_length, val_take_le ys _ (by omega) hd2 (by omega)] at h3
 have hz := val_lt _ zs h1
 rw [h5] at hz
 obtain rfl := borrow_none h3 hz hle
 rw [Nat.mul_zero] at h3
 generalize val 4294967296 ys = q1 at *
 generalize val 4294967296 xs = q2 at *
 generalize val 4294967296 zs = q3 at *
 omega
set_option maxHeartbeats 800000 in
theorem rsub_any (A A2 : Option Addr) (c c2 : Nat) (xs ys : List Nat) (w : World) (B : Nat) (hr : Rd w B A (u32s xs)) (hr2 : Rd w B A2 (u32s ys)) (hB : B ≤ w.heap.size) (hd : Dig 4294967296 xs) (hd2 : Dig 4294967296 ys) (hm : xs.length ≤ 70368744170000) (hm2 : ys.length ≤ 281474976710656) (hle : val 4294967296 ys ≤ val 4294967296 xs) :
  Calls Tryz.prog 73 #[.slice A xs.length c, .slice A2 ys.length c2] w fun e w' => ∃ zs A' c', e = .returned (.slice A' zs.length c') ∧ Num 4294967296 zs (val 4294967296 xs - val 4294967296 ys) ∧ Res w' w.heap.size 34 A' c' (u32s zs) ∧ Below w.heap.size w w' := by
 have hmk := fun W => mk32 xs.length (by omega) W
 go_enter Tryz.func73, Tryz.ntmps73
 go_wp2
 go_loopw [6, 7, 8, 14] (fun cv _ _ i wr => ∃ (k cc : Nat) (zs : List Nat), k ≤ xs.length ∧ i = .int .i64 k ∧ cv = .int .u64 cc ∧ Blk wr w.heap.size 34 (u32s zs) ∧ Subbed xs ys k zs cc ∧ Below w.heap.size w wr) (fun _ _ _ i _ => xs.length - (intOf i).toNat)
 case atStart => exact ⟨0, 0, _, by omega, rfl, rfl, Blk.new_ (by simp [u32s]), Subbed.start _ _, br9.alloc nl9 _⟩
 case round =>
  obtain ⟨k, cc, zs, hk, rfl, rfl, hblk, hsm, hbel⟩ := hrel
  by_cases hlt : k < xs.length
  ·have hkz : k < zs.length := by rw [hsm.2.2.2.2]; exact hlt
   have hc2 := (hblk.cell k).trans (u32s_at hkz)
   have hf2 := hblk.frozen k
   have ha := at0_lt hd k
   have hb := at0_lt hd2 k
   have hcc := hsm.2.1
   obtain ⟨x, hxe⟩ : ∃ x, x = at0 xs k := ⟨_, rfl⟩
   obtain ⟨y, hye⟩ : ∃ y, y = at0 ys k := ⟨_, rfl⟩
   rw [← hxe] at ha
   rw [← hye] at hb
   obtain ⟨sm, hsme⟩ : ∃ sm, sm = 4294967296 + x - y - cc := ⟨_, rfl⟩
   have e2 : (4294967296 : Int) + (x : Int) - (y : Int) - (cc : Int) = (sm : Int) := by omega
   have hsb : sm < 8589934592 := by omega
   have hrw := hr.below (hbel.mono hB)
   have hrw2 := hr2.below (hbel.mono hB)
   have hm1 : xs.length ≤ 281474976710656 := by omega
   have hkb : k ≤ 9223372036854775807 := by omega
   have Hx := hi9 hxe
   have Hy := hi9 hye
   have Hsm := hi9 hsme
   clear hxe hye hsme
   go_wp2_with (first
    | (go_at_call 46; (with_reducible refine (limb_any A c xs k _ B hrw hd hm1 hkb).mono ?_); rintro e w' ⟨rfl, rfl⟩; rw [← Hx.out])
    | (go_at_call 46; (with_reducible refine (limb_any A2 c2 ys k _ B hrw2 hd2 hm2 hkb).mono ?_); rintro e w' ⟨rfl, rfl⟩; rw [← Hy.out]))
   go_roundw
   case rel =>
    have hst := hsm.step hkz hd hd2
    rw [← Hx.out, ← Hy.out, ← Hsm.out] at hst
    refine ⟨k + 1, 1 - sm / 4294967296, zs.set k (sm % 4294967296), by omega, by go_num, int_u64 (by omega), ?_, hst, hbel.setCell (p := ⟨w.heap.size, k, none⟩) nl9 _⟩
    have hb2 := hblk.set_ k (Value.int IntKind.u32 ((sm % 4294967296 : Nat) : Int))
    rw [u32s_set] at hb2
    exact hb2
   case measure => simp [intOf]; omega
  ·obtain rfl : k = xs.length := by omega
   have hrd := (Res.of_blk0 hblk nl9 (by rw [u32s_length, hsm.2.2.2.2]; omega)).rd
   have hv := hsm.last hd hd2 hle
   have Hv := hi9 hv
   have Hzl := hi9 hsm.2.2.2.2
   have hzm : zs.length ≤ 70368744177664 := by rw [hsm.2.2.2.2]; omega
   clear hv
   go_wp2_with (go_at_call 13; rw [← Hzl.out]; refine (rnorm_any _ _ zs wr _ hrd nl9 hzm).mono ?_; rintro e w2 ⟨A', c', rfl, hres, hb⟩)
   go_ret
   refine ⟨trimL zs, A', c', rfl, ?_, hres.mono hbel.size, hbel.trans (hb.mono hbel.size)⟩
   rw [← Hv.out]
   exact Num.of_trim hsm.1
end
section
open Go.RowKit
theorem ProdOk.mono {m n : Nat} (h : ProdOk n) (hm : m ≤ n) : ProdOk m := fun A A2 c c2 us vs w B hl => h A A2 c c2 us vs w B (by omega)
theorem halves_end {b h N q aL aH bL bH m2 P : Nat} {zs zr lo hi : List Nat} (hzs : zs = lo ++ hi) (hll : lo.length = 2 * h) (hhl : 2 * h + hi.length = h + N) (hlo : val b lo = aL * bL) (hhi : val b hi = aH * bH) (hm2 : m2 = aL * bH + aH * bL) (hP : P = (aL + b ^ h * aH) * (bL + b ^ h * bH)) (hPT : P < b ^ (h + N))
  (hrl : zr.length = N) (hz : val b zr + b ^ N * q = val b ((zs.drop h).take N) + m2) : val b (patch zs h zr) = P := by
 subst hrl
 have hzl : h + zr.length = zs.length := by rw [hzs, List.length_append]; omega
 have h1 := patch_val b (L := zs) (o := h) (zs := zr) (by omega)
 have h2 : b ^ h * val b zr + b ^ (h + zr.length) * q = b ^ h * val b ((zs.drop h).take zr.length) + b ^ h * m2 := by
  rw [Nat.pow_add, Nat.mul_assoc, ← Nat.mul_add, hz, Nat.mul_add]
 have h3 : val b zs = aL * bL + b ^ (2 * h) * (aH * bH) := by rw [hzs, val_append, hll, hlo, hhi]
 have h4 : P = aL * bL + b ^ h * m2 + b ^ (2 * h) * (aH * bH) := by
  rw [hP, hm2, show b ^ (2 * h) = b ^ h * b ^ h from by rw [← Nat.pow_add]; congr 1; omega]
  generalize b ^ h = t
  grind
 have h5 : val b (patch zs h zr) + b ^ (h + zr.length) * q = P := by
  rw [h4]
  generalize b ^ (h + zr.length) * q = t1 at *
  generalize b ^ (2 * h) * (aH * bH) = t2 at *
  omega
 exact carry_zero2 h5 hPT
theorem mixed_lt {b h la lb aL aH bL bH : Nat} (hb : 2 ≤ b) (h1 : aL < b ^ h) (h2 : aH < b ^ (la - h)) (h3 : bL < b ^ h) (h4 : bH < b ^ (lb - h)) (hl : h < lb) (hl2 : lb ≤ la) : aL * bH + aH * bL < b ^ (la + lb - h) := by
 have e1 : aL * bH < b ^ lb := by
  rw [show b ^ lb = b ^ h * b ^ (lb - h) from by rw [← Nat.pow_add]; congr 1; omega]
  exact Nat.mul_lt_mul_of_lt_of_le h1 (Nat.le_of_lt h4) (Nat.pow_pos (by omega))
 have e2 : aH * bL < b ^ la := by
  rw [show b ^ la = b ^ (la - h) * b ^ h from by rw [← Nat.pow_add]; congr 1; omega]
  exact Nat.mul_lt_mul_of_lt_of_le h2 (Nat.le_of_lt h3) (Nat.pow_pos (by omega))
 have e3 : b ^ lb ≤ b ^ la := Nat.pow_le_pow_right (by omega) hl2
 exact Nat.lt_of_lt_of_le (sum_lt hb (Nat.lt_of_lt_of_le e1 e3) e2) (Nat.pow_le_pow_right (by omega) (by omega))
theorem trimL_len_le {b : Nat} {xs : List Nat} {N : Nat} (hb : 2 ≤ b) (hd : Dig b xs) (h : val b xs < b ^ N) : (trimL xs).length ≤ N := by
 have hn := Num.of_trim hd
 by_cases h0 : trimL xs = []
 ·rw [h0]; simp
 ·have h1 := hn.ge h0
  have h2 : b ^ ((trimL xs).length - 1) < b ^ N := Nat.lt_of_le_of_lt h1 h
  have h3 := (Nat.pow_lt_pow_iff_right (by omega)).1 h2
  omega
theorem take_mixed {b n x y : Nat} {zs : List Nat} {q : Nat} (h : val b zs + y = x + b ^ n * q) (hz : Dig b zs) (hl : zs.length = n) (hy : y ≤ x) : val b zs = x - y := by
 have h1 := val_lt b zs hz
 rw [hl] at h1
 have h2 := borrow_none h h1 hy
 rw [h2, Nat.mul_zero] at h
 omega
theorem mixed_eq (aL aH bL bH : Nat) : (aL + aH) * (bL + bH) = aL * bL + aH * bH + (aL * bH + aH * bL) := by grind
theorem patch_two (n : Nat) (lo hi : List Nat) (h : lo.length + hi.length = n) : patch (patch (List.replicate n 0) 0 lo) lo.length hi = lo ++ hi := by
 subst h
 simp [patch, List.drop_append, List.drop_replicate]
def Keep2 (w : World) (g1 : Nat) (l1 : List Nat) (g2 : Nat) (l2 : List Nat) (W : World) : Prop := Blk W g1 53 (u64s l1) ∧ Blk W g2 53 (u64s l2) ∧ Below w.heap.size w W
section
variable {w W W' : World} {g1 g2 : Nat} {l1 l2 : List Nat}
theorem Keep2.next (h : Keep2 w g1 l1 g2 l2 W) (hb : Below W.heap.size W W') : Keep2 w g1 l1 g2 l2 W' :=
 ⟨h.1.below hb h.1.lt, h.2.1.below hb h.2.1.lt, h.2.2.trans (hb.mono h.2.2.size)⟩
theorem Keep2.drew (h : Keep2 w g1 l1 g2 l2 W) : Keep2 w g1 l1 g2 l2 W.drew := ⟨h.1, h.2.1, h.2.2.drew⟩
theorem Keep2.tn {g : Nat} (h : Keep2 w g1 l1 g2 l2 W) (ht : Tn g W W') (n1 : g ≠ g1) (n2 : g ≠ g2) (hg : w.heap.size ≤ g) : Keep2 w g1 l1 g2 l2 W' :=
 ⟨h.1.tn ht n1.symm, h.2.1.tn ht n2.symm, h.2.2.trans (ht.below hg h.2.2.size)⟩
theorem Keep2.b (h : Keep2 w g1 l1 g2 l2 W) : Below w.heap.size w W := h.2.2
end
theorem Rx.trim_ {w : World} {g : Nat} {A : Option Addr} {xs : List Nat} (h : Rx w g A (u64s xs)) : Rx w g A (u64s (trimL xs)) := fun hn => by
 obtain ⟨b, off, e, hb, hg, hc⟩ := h (by intro e; apply hn; rw [u64s_trim, e]; simp)
 refine ⟨b, off, e, hb, hg, fun k v hv => hc k v ?_⟩
 rw [u64s_trim, List.getElem?_take] at hv
 split at hv
 ·exact hv
 ·cases hv
theorem rx_whole {w : World} {g b : Nat} {L : List Nat} (h : Blk w b 53 (u64s L)) (hg : b ≠ g) : Rx w g (some ⟨b, 0, none⟩) (u64s L) := Rx.of_blk h hg 0 (fun k v hv => by rw [Nat.zero_add]; exact hv)
theorem drop_take_all (L : List Nat) (n : Nat) (h : n = L.length) : (L.drop 0).take n = L := by subst h; simp
set_option maxHeartbeats 3200000 in
set_option maxRecDepth 100000 in
theorem byHalves_any (A A2 : Option Addr) (c c2 : Nat) (us vs : List Nat) (w : World) (B : Nat) (hIH : ProdOk (us.length + vs.length - 1)) (hr : Rd w B A (u64s us)) (hr2 : Rd w B A2 (u64s vs)) (hB : B ≤ w.heap.size) (hd : Dig 18446744073709551616 us) (hd2 : Dig 18446744073709551616 vs) (hc : us.length ≤ c) (hc2 : vs.length ≤ c2) (h40 : 40 ≤ vs.length) (hle : vs.length ≤ us.length) (hle2 : us.length ≤ 2 * vs.length) (hm : us.length + vs.length ≤ 536870912) :
  Calls Tryz.prog 82 #[.slice A us.length c, .slice A2 vs.length c2] w fun e w' => Words w w' (us.length + vs.length) (val 18446744073709551616 us * val 18446744073709551616 vs) e := by
 obtain ⟨h, hh⟩ : ∃ h, h = (us.length + 1) / 2 := ⟨_, rfl⟩
 have q1 : ((us.length : Int) + 1) / 2 = (h : Int) := by omega
 have q2 : ((us.length : Int) + 1).tdiv 2 = (h : Int) := by rw [Int.tdiv_eq_ediv_of_nonneg (by omega)]; omega
 have hh1 : us.length ≤ 2 * h := by omega
 have hh2 : 2 * h ≤ us.length + 1 := by omega
 have hh3 : h ≤ us.length := by omega
 clear hh
 rcases Nat.lt_or_ge h vs.length with hv | hv
 rotate_left
 ·have t1 : decide (vs.length ≤ h) = true := by simpa using hv
  have hpw := piecewise_any A A2 c c2 us vs w B (hIH.mono (by omega)) hr hr2 hB hd hd2 hc hc2 (by omega) hle hm
  have Hpw := hi9 hpw
  clear hpw hIH
  go_enter Tryz.func82, Tryz.ntmps82
  go_wp2_with (go_at_call 81; refine Hpw.out.mono ?_; rintro e w1 ⟨zs, g, rfl, hzl, hzd, hzv, hg, hblk, hbel⟩; have Hzl := hi9 hzl; clear hzl)
  go_ret
  exact ⟨zs, g, rfl, Hzl.out, hzd, hzv, hg, hblk, hbel⟩
 have t1 : decide (vs.length ≤ h) = false := by simp; omega
 obtain ⟨b, off, rfl, hbB, _⟩ := hr.at64 (k := 0) (by omega)
 obtain ⟨b2, off2, rfl, hbB2, _⟩ := hr2.at64 (k := 0) (by omega)
 -- the halves
 obtain ⟨uL, huL⟩ : ∃ x, x = us.take h := ⟨_, rfl⟩
 obtain ⟨uH, huH⟩ : ∃ x, x = us.drop h := ⟨_, rfl⟩
 obtain ⟨vL, hvL⟩ : ∃ x, x = vs.take h := ⟨_, rfl⟩
 obtain ⟨vH, hvH⟩ : ∃ x, x = vs.drop h := ⟨_, rfl⟩
 have luL : uL.length = h := by rw [huL, List.length_take]; omega
 have luH : uH.length = us.length - h := by rw [huH, List.length_drop]
 have lvL : vL.length = h := by rw [hvL, List.length_take]; omega
 have lvH : vH.length = vs.length - h := by rw [hvH, List.length_drop]
 have duL : Dig 18446744073709551616 uL := by rw [huL]; exact hd.take_ _
 have duH : Dig 18446744073709551616 uH := by rw [huH]; exact hd.drop_ _
 have dvL : Dig 18446744073709551616 vL := by rw [hvL]; exact hd2.take_ _
 have dvH : Dig 18446744073709551616 vH := by rw [hvH]; exact hd2.drop_ _
 have ruL : Rd w B (some ⟨b, off, none⟩) (u64s uL) := by rw [huL]; exact hr.takeN _
 have ruH : Rd w B (some ⟨b, off + h, none⟩) (u64s uH) := by rw [huH]; exact hr.drop_ h
 have rvL : Rd w B (some ⟨b2, off2, none⟩) (u64s vL) := by rw [hvL]; exact hr2.takeN _
 have rvH : Rd w B (some ⟨b2, off2 + h, none⟩) (u64s vH) := by rw [hvH]; exact hr2.drop_ h
 have eu : val 18446744073709551616 us = val 18446744073709551616 uL + 18446744073709551616 ^ h * val 18446744073709551616 uH := by
  conv => lhs; rw [← List.take_append_drop h us, val_append]
  rw [← huL, ← huH, luL]
 have ev : val 18446744073709551616 vs = val 18446744073709551616 vL + 18446744073709551616 ^ h * val 18446744073709551616 vH := by
  conv => lhs; rw [← List.take_append_drop h vs, val_append]
  rw [← hvL, ← hvH, lvL]
 have hPT := prod_lt hd hd2 (by omega)
 have bL1 := val_lt _ uL duL
 have bH1 := val_lt _ uH duH
 have bL2 := val_lt _ vL dvL
 have bH2 := val_lt _ vH dvH
 rw [luL] at bL1
 rw [luH] at bH1
 rw [lvL] at bL2
 rw [lvH] at bH2
 have hmx := mixed_lt (by omega) bL1 bH1 bL2 bH2 hv hle
 obtain ⟨aL, haL⟩ : ∃ x, x = val 18446744073709551616 uL := ⟨_, rfl⟩
 obtain ⟨aH, haH⟩ : ∃ x, x = val 18446744073709551616 uH := ⟨_, rfl⟩
 obtain ⟨bL, hbL⟩ : ∃ x, x = val 18446744073709551616 vL := ⟨_, rfl⟩
 obtain ⟨bH, hbH⟩ : ∃ x, x = val 18446744073709551616 vH := ⟨_, rfl⟩
 rw [← haL, ← haH] at eu
 rw [← hbL, ← hbH] at ev
 rw [← haL, ← haH, ← hbL, ← hbH] at hmx
 have Hlow : Hid (∀ W, Below w.heap.size w W → Calls Tryz.prog 70 #[.slice (some ⟨b, off, none⟩) h c, .slice (some ⟨b2, off2, none⟩) h c2] W fun e w' => Words W w' (h + h) (aL * bL) e) := fun W hW => by
  have := hIH _ _ c c2 uL vL W B (by omega) (ruL.below (hW.mono hB)) (rvL.below (hW.mono hB)) (Nat.le_trans hB hW.size) duL dvL (by omega) (by omega) (by omega)
  rw [luL, lvL, ← haL, ← hbL] at this; exact this
 have Hhigh : Hid (∀ W, Below w.heap.size w W → Calls Tryz.prog 70 #[.slice (some ⟨b, off + h, none⟩) (us.length - h) (c - h), .slice (some ⟨b2, off2 + h, none⟩) (vs.length - h) (c2 - h)] W fun e w' => Words W w' (us.length - h + (vs.length - h)) (aH * bH) e) := fun W hW => by
  have := hIH _ _ (c - h) (c2 - h) uH vH W B (by omega) (ruH.below (hW.mono hB)) (rvH.below (hW.mono hB)) (Nat.le_trans hB hW.size) duH dvH (by omega) (by omega) (by omega)
  rw [luH, lvH, ← haH, ← hbH] at this; exact this
 have Hsa : Hid (∀ W, Below w.heap.size w W → Calls Tryz.prog 94 #[.slice (some ⟨b, off, none⟩) h c, .slice (some ⟨b, off + h, none⟩) (us.length - h) (c - h)] W fun e w' => Words W w' (h + 1) (aL + aH) e) := fun W hW => by
  have := sumOf_any (some ⟨b, off, none⟩) (some ⟨b, off + h, none⟩) c (c - h) uL uH W B (ruL.below (hW.mono hB)) (ruH.below (hW.mono hB)) (Nat.le_trans hB hW.size) duL duH (by omega) (by omega)
  rw [luL, luH, ← haL, ← haH] at this; exact this
 have Hsb : Hid (∀ W, Below w.heap.size w W → Calls Tryz.prog 94 #[.slice (some ⟨b2, off2, none⟩) h c2, .slice (some ⟨b2, off2 + h, none⟩) (vs.length - h) (c2 - h)] W fun e w' => Words W w' (h + 1) (bL + bH) e) := fun W hW => by
  have := sumOf_any (some ⟨b2, off2, none⟩) (some ⟨b2, off2 + h, none⟩) c2 (c2 - h) vL vH W B (rvL.below (hW.mono hB)) (rvH.below (hW.mono hB)) (Nat.le_trans hB hW.size) dvL dvH (by omega) (by omega)
  rw [lvL, lvH, ← hbL, ← hbH] at this; exact this
 have Hm : Hid (∀ (W : World) (sa sb : List Nat) (ga gb : Nat), Blk W ga 53 (u64s sa) → Blk W gb 53 (u64s sb) → sa.length = h + 1 → sb.length = h + 1 → Dig 18446744073709551616 sa → Dig 18446744073709551616 sb → Calls Tryz.prog 70 #[.slice (some ⟨ga, 0, none⟩) sa.length sa.length, .slice (some ⟨gb, 0, none⟩) sb.length sb.length] W fun e w' => Words W w' (h + 1 + (h + 1)) (val 18446744073709551616 sa * val 18446744073709551616 sb) e) := fun W sa sb ga gb ha hb la lb da db => by
  have := hIH (some ⟨ga, 0, none⟩) (some ⟨gb, 0, none⟩) sa.length sb.length sa sb W W.heap.size (by omega) (Rd.of_blk ha ha.lt 0 (fun k v hv => by rw [Nat.zero_add]; exact hv)) (Rd.of_blk hb hb.lt 0 (fun k v hv => by rw [Nat.zero_add]; exact hv)) nl9 da db nl9 nl9 (by omega)
  rw [la, lb] at this ⊢; exact this
 have Heu := hi9 eu
 have Hev := hi9 ev
 have Hmx := hi9 hmx
 have HPT := hi9 hPT
 have hmk := fun W => mk64a us.length vs.length (by omega) W
 have i1 : (h : Int) ≤ (us.length : Int) := by omega
 have i2 : (h : Int) ≤ (vs.length : Int) := by omega
 have i3 : (h : Int) ≤ (c : Int) := by omega
 have i4 : (h : Int) ≤ (c2 : Int) := by omega
 have i5 : h ≤ c := by omega
 have i6 : h ≤ c2 := by omega
 have i7 : h ≤ vs.length := by omega
 have i8 : ¬ (c = h) := by omega
 have i9 : ¬ (c2 = h) := by omega
 clear eu ev hmx hPT bL1 bH1 bL2 bH2 huL huH hvL hvH luL luH lvL lvH duL duH dvL dvH ruL ruH rvL rvH haL haH hbL hbH hIH hd hd2 hr hr2
 go_enter Tryz.func82, Tryz.ntmps82
 go_upto_region 4 with (fail)
 go_cut [6] (fun s wc => ∃ lo gl, s = .slice (some ⟨gl, 0, none⟩) lo.length lo.length ∧ lo.length = h + h ∧ Dig 18446744073709551616 lo ∧ Hid (val 18446744073709551616 lo = aL * bL) ∧ w.heap.size ≤ gl ∧ Blk wc gl 53 (u64s lo) ∧ Below w.heap.size w wc)
 case first =>
  go_region_held3 (fun _ => True) (exact trivial) (first
   | (go_at_call 70; refine (Hlow.out _ (by first | exact br9 | exact br9.drew)).mono ?_; rintro e w1 ⟨ps, g1, rfl, hpsl, hpsd, hpsv, hg1, hres, hb1⟩; have Hpsl := hi9 hpsl; have Hpsv := hi9 hpsv; clear hpsl hpsv))
  all_goals
   go_wp2_with fail
   go_meet
   exact ⟨ps, g1, rfl, Hpsl.out, hpsd, Hpsv.out, hg1, hres, by first | exact hb1 | exact br9.drew.trans hb1⟩
 case rest =>
  obtain ⟨lo, gl, rfl, hlol, hlod, Hlov, hgl, hblo, hbel⟩ := hcut
  have Hlol := hi9 hlol
  clear hlol
  go_upto_region 5 with (fail)
  go_cut [7] (fun s wd => ∃ hi gh, s = .slice (some ⟨gh, 0, none⟩) hi.length hi.length ∧ hi.length = us.length - h + (vs.length - h) ∧ Dig 18446744073709551616 hi ∧ Hid (val 18446744073709551616 hi = aH * bH) ∧ w.heap.size ≤ gh ∧ Keep2 w gl lo gh hi wd)
  case first =>
   have hbs := hbel.size
   go_region_held3 (fun _ => True) (exact trivial) (first
    | (go_at_call 70; refine (Hhigh.out _ (by first | exact hbel | exact hbel.drew)).mono ?_; rintro e w1 ⟨ps, g1, rfl, hpsl, hpsd, hpsv, hg1, hres, hb1⟩; have Hpsl := hi9 hpsl; have Hpsv := hi9 hpsv; clear hpsl hpsv))
   all_goals
    go_wp2_with fail
    go_meet
    exact ⟨ps, g1, rfl, Hpsl.out, hpsd, Hpsv.out, Nat.le_trans hbs hg1, by first | exact hblo.below hb1 hblo.lt | exact hblo.drew.below hb1 hblo.lt, hres, by first | exact hbel.trans (hb1.mono hbs) | exact hbel.drew.trans (hb1.mono hbs)⟩
  case rest =>
   clear hblo hbel
   obtain ⟨hi, gh, rfl, hhil, hhid, Hhiv, hgh, hK⟩ := hcut
   have Hhil := hi9 hhil
   clear hhil
   go_upto_region 6 with (fail)
   go_cut [8] (fun s wd => ∃ mi gm, s = .slice (some ⟨gm, 0, none⟩) mi.length mi.length ∧ mi.length = h + 1 + (h + 1) ∧ Dig 18446744073709551616 mi ∧ Hid (val 18446744073709551616 mi = (aL + aH) * (bL + bH)) ∧ w.heap.size ≤ gm ∧ gm ≠ gl ∧ gm ≠ gh ∧ Blk wd gm 53 (u64s mi) ∧ Keep2 w gl lo gh hi wd)
   case first =>
    have HK := hi9 hK
    clear hK
    go_region_held3 (fun _ => True) (exact trivial) (first
     | (go_at_call 94; (with_reducible refine (Hsa.out _ (by first | exact HK.out.b | exact HK.out.drew.b | exact HKb.out.b | exact HKb.out.drew.b)).mono ?_); rintro e wa ⟨sa, ga, rfl, hsal, hsad, hsav, hga, hbka, hBa⟩; have HKa := hi9 (show Keep2 w gl lo gh hi wa from (by first | exact HK.out.next hBa | exact HK.out.drew.next hBa | exact HKb.out.next hBa | exact HKb.out.drew.next hBa)); have Hsal := hi9 hsal; have Hsav := hi9 hsav; have Hbka := hi9 hbka; clear hsal hsav hbka)
     | (go_at_call 94; (with_reducible refine (Hsb.out _ (by first | exact HK.out.b | exact HK.out.drew.b | exact HKa.out.b | exact HKa.out.drew.b)).mono ?_); rintro e wb ⟨sb, gb, rfl, hsbl, hsbd, hsbv, hgb, hbkb, hBb⟩; have HKb := hi9 (show Keep2 w gl lo gh hi wb from (by first | exact HK.out.next hBb | exact HK.out.drew.next hBb | exact HKa.out.next hBb | exact HKa.out.drew.next hBb)); have Hsbl := hi9 hsbl; have Hsbv := hi9 hsbv; have Hbkb := hi9 hbkb; clear hsbl hsbv hbkb)
     | (go_at_call 70; (with_reducible refine (Hm.out _ sa sb ga gb (by first | exact Hbka.out | exact Hbka.out.drew | exact Hbka.out.below hBb Hbka.out.lt | exact Hbka.out.drew.below hBb Hbka.out.lt | exact (Hbka.out.below hBb Hbka.out.lt).drew | exact (Hbka.out.drew.below hBb Hbka.out.lt).drew) (by first | exact Hbkb.out | exact Hbkb.out.drew | exact Hbkb.out.below hBa Hbkb.out.lt | exact Hbkb.out.drew.below hBa Hbkb.out.lt | exact (Hbkb.out.below hBa Hbkb.out.lt).drew | exact (Hbkb.out.drew.below hBa Hbkb.out.lt).drew) Hsal.out Hsbl.out hsad hsbd).mono ?_); rintro e wm ⟨mi, gm, rfl, hml, hmd, hmv, hgm, hbkm, hBm⟩; have HKl := hi9 (show ∃ W, Keep2 w gl lo gh hi W ∧ W.heap.size ≤ gm ∧ Below W.heap.size W wm from (by first | exact ⟨_, HKa.out, hgm, hBm⟩ | exact ⟨_, HKb.out, hgm, hBm⟩ | exact ⟨_, HKa.out.drew, hgm, hBm⟩ | exact ⟨_, HKb.out.drew, hgm, hBm⟩)); have Hml := hi9 hml; have Hmv := hi9 hmv; clear hml hmv))
    all_goals
     go_wp2_with fail
     go_meet
     obtain ⟨W, hKW, hgW, hBW⟩ := HKl.out
     have g1 := hKW.1.lt
     have g2 := hKW.2.1.lt
     have g3 := hKW.2.2.size
     exact ⟨mi, gm, rfl, Hml.out, hmd, by rw [Hmv.out, Hsav.out, Hsbv.out]; exact rfl, by omega, by omega, by omega, hbkm, hKW.next hBW⟩
   case rest =>
    clear hK
    obtain ⟨mi, gm, rfl, hmil, hmid, Hmiv, hgm, hne1, hne2, hbm, hK⟩ := hcut
    have Hmil := hi9 hmil
    clear hmil Hlow Hhigh Hsa Hsb Hm
    go_wp2_with fail
    refine (takeFrom_any gm 0 mi.length mi.length mi lo (some ⟨gl, 0, none⟩) lo.length _ hbm (rx_whole hK.1 hne1.symm) (by omega) (by have := Hmil.out; have := Hlol.out; omega) hmid hlod (by have := Hmil.out; omega)).mono ?_
    rintro e w2 ⟨zr, q, rfl, hrl, hrd, hq, hrv, hblk2, htn⟩
    rw [drop_take_all mi mi.length rfl] at hrv
    rw [patch_zero_all hrl] at hblk2
    have hmx2 := mixed_eq aL aH bL bH
    rw [← Hmiv.out, ← Hlov.out, ← Hhiv.out] at hmx2
    have hv2 := take_mixed hrv hrd hrl (by omega)
    have hK2 := hK.tn htn hne1 hne2 hgm
    have Hv2 := hi9 hv2
    have Hrl := hi9 hrl
    have Hmx2 := hi9 hmx2
    clear hrv hv2 hrl hmx2 hbm hK htn
    go_wp2_with fail
    refine (takeFrom_any gm 0 mi.length mi.length zr hi (some ⟨gh, 0, none⟩) hi.length _ hblk2 (rx_whole hK2.2.1 hne2.symm) (by rw [Hrl.out]; omega) (by have := Hmil.out; have := Hhil.out; omega) hrd hhid (by have := Hmil.out; omega)).mono ?_
    rintro e w3 ⟨m2, q2, rfl, hml, hmd2, hq2, hmv, hblk3, htn2⟩
    rw [drop_take_all zr mi.length Hrl.out.symm] at hmv
    rw [patch_zero_all (hml.trans Hrl.out.symm)] at hblk3
    have hv3 := take_mixed hmv hmd2 hml (by rw [Hv2.out]; have := Hmx2.out; omega)
    have hm2v := hi9 (show val 18446744073709551616 m2 = aL * bH + aH * bL from by rw [hv3, Hv2.out]; have := Hmx2.out; omega)
    have hK3 := hK2.tn htn2 hne1 hne2 hgm
    have Hml := hi9 hml
    clear hmv hv3 hml hblk2 hK2 htn2 Hv2 Hmx2 hrd Hrl Hmiv
    have hlol := Hlol.out
    have hhil := Hhil.out
    have hll : lo.length = 2 * h := by omega
    have Hll := hi9 hll
    have hlh : 2 * h + hi.length = us.length + vs.length := by omega
    have Hlh := hi9 hlh
    clear hlol hhil hll hlh
    have j1 : (2 : Int) * (h : Int) ≤ (us.length : Int) + (vs.length : Int) := by omega
    have j2 : ¬ (us.length + vs.length = 2 * h) := by omega
    have j3 : (h : Int) ≤ (us.length : Int) + (vs.length : Int) := by omega
    have j4 : ¬ (us.length + vs.length = h) := by omega
    have j5 : h ≤ us.length + vs.length := by omega
    have j6 : 2 * h ≤ us.length + vs.length := by omega
    go_upto_region 11 with ((with_reducible refine wpList_copy_splice (o := ⟨some 64, _, _, _, _, _⟩) rfl _ _ _ _ rfl 53 Tryz.underlying76 ?u1 _ _ _ _ _ _ rfl rfl w3.heap.size 0 (u64s (List.replicate (us.length + vs.length) 0)) 53 ?c1 (u64s lo) ?c2 ?c3 ?c4 ?c5 w3.heap.size w3 ?c6 nl9 ?_); rotate_right; intro w4 hg4 hb4)
    case u1 => kernel_rfl
    case c1 => exact Blk.new_ (by simp [u64s])
    case c2 => rw [u64s_length]; exact (Nat.min_eq_left (by have := Hll.out; omega)).symm
    case c3 =>
     intro _ j v hv
     rw [World.cell?_alloc_past _ _ _ (by show gl < _; exact hK3.1.lt), hK3.1.cell]
     exact hv
    case c4 => rw [u64s_length, u64s_length, List.length_replicate]; have := Hll.out; omega
    case c5 => exact one_u64s lo
    case c6 => exact br9.alloc nl9 _
    have Hg4 := hi9 (show Blk w4 w3.heap.size 53 (u64s (patch (List.replicate (us.length + vs.length) 0) 0 lo)) from by rw [← u64s_splice]; exact hg4.out)
    have hpl0 : (patch (List.replicate (us.length + vs.length) 0) 0 lo).length = us.length + vs.length := by rw [patch_length (by rw [List.length_replicate]; have := Hll.out; omega), List.length_replicate]
    have Hpl0 := hi9 hpl0
    clear hg4 hpl0
    go_upto_region 12 with ((with_reducible refine wpList_copy_splice (o := ⟨some 70, _, _, _, _, _⟩) rfl _ _ _ _ rfl 53 Tryz.underlying76 ?u1 _ _ _ _ _ _ rfl rfl w3.heap.size (2 * h) (u64s (patch (List.replicate (us.length + vs.length) 0) 0 lo)) 53 ?d2 (u64s hi) ?d3 ?d4 ?d5 ?d6 w3.heap.size w3 ?d7 nl9 ?_); rotate_right; intro w5 hg5 hb5)
    case u1 => kernel_rfl
    case d2 => exact Hg4.out
    case d3 => rw [u64s_length]; exact (Nat.min_eq_left (by have := Hlh.out; omega)).symm
    case d4 =>
     intro _ j v hv
     have hk4 := hK3.2.1.below hb4 hK3.2.1.lt
     rw [hk4.cell]
     exact hv
    case d5 => rw [u64s_length, u64s_length, Hpl0.out]; have := Hlh.out; omega
    case d6 => exact one_u64s hi
    case d7 => exact hb4
    have hblk5 : Blk w5 w3.heap.size 53 (u64s (lo ++ hi)) := by
     have := hg5.out
     rw [u64s_splice, ← Hll.out, patch_two _ _ _ (by rw [Hll.out]; exact Hlh.out)] at this
     exact this
    have hbm5 := hblk3.below hb5 hblk3.lt
    have hgm3 := hblk3.lt
    have hne3 : gm ≠ w3.heap.size := by omega
    have hlen : (lo ++ hi).length = us.length + vs.length := by rw [List.length_append, Hll.out]; exact Hlh.out
    have Hlen := hi9 hlen
    have htl : (trimL m2).length ≤ us.length + vs.length - h := trimL_len_le (by omega) hmd2 (by rw [hm2v.out]; exact Hmx.out)
    have Htrim : Hid (∀ W, Blk W gm 53 (u64s m2) → Calls Tryz.prog 64 #[.slice (some ⟨gm, 0, none⟩) mi.length mi.length] W fun e w' => e = .returned (.slice (some ⟨gm, 0, none⟩) (trimL m2).length mi.length) ∧ W = w') := fun W hW => by
     have := trimWords_any (some ⟨gm, 0, none⟩) mi.length m2 W W.heap.size (Rd.of_blk hW hW.lt 0 (fun k v hv => by rw [Nat.zero_add]; exact hv)) (by rw [Hml.out]; exact Nat.le_refl _) (by rw [Hml.out, Hmil.out]; omega)
     rw [Hml.out] at this
     exact this
    have Hadd : Hid (∀ W, Blk W w3.heap.size 53 (u64s (lo ++ hi)) → Blk W gm 53 (u64s m2) → Calls Tryz.prog 93 #[.slice (some ⟨w3.heap.size, h, none⟩) (us.length + vs.length - h) (us.length + vs.length - h), .slice (some ⟨gm, 0, none⟩) (trimL m2).length mi.length] W fun e w' => ∃ (zs : List Nat) (q : Nat), e = .returned (.int .u64 (q : Int)) ∧ zs.length = us.length + vs.length - h ∧ Dig 18446744073709551616 zs ∧ q ≤ 1 ∧ val 18446744073709551616 zs + 18446744073709551616 ^ (us.length + vs.length - h) * q = val 18446744073709551616 (((lo ++ hi).drop h).take (us.length + vs.length - h)) + val 18446744073709551616 (trimL m2) ∧ Blk w' w3.heap.size 53 (u64s (patch (lo ++ hi) h zs)) ∧ Tn w3.heap.size W w') := fun W h1 h2 =>
     addInto_any w3.heap.size h (us.length + vs.length - h) (us.length + vs.length - h) (lo ++ hi) (trimL m2) (some ⟨gm, 0, none⟩) mi.length W h1 (rx_whole h2 hne3).trim_ (by rw [Hlen.out]; omega) htl (hlod.append_ hhid) hmd2.trim_ (by omega)
    clear hg5 Hg4 Hpl0 hlen
    go_region_held3 (fun _ => True) (exact trivial) (first
     | (go_at_call 64; (with_reducible refine (Htrim.out _ (by first | exact hbm5 | exact hbm5.drew)).mono ?_); rintro e wt ⟨rfl, rfl⟩)
     | (go_at_call 93; (with_reducible refine (Hadd.out _ (by first | exact hblk5 | exact hblk5.drew) (by first | exact hbm5 | exact hbm5.drew)).mono ?_); rintro e w6 ⟨zr, q, rfl, hrl, hrd, hq, hrv, hblk6, htn⟩; have Hrl := hi9 hrl; have Hrv := hi9 hrv; clear hrl hrv))
    all_goals
     go_wp2_with fail
     go_ret
     have hrv := Hrv.out
     rw [val_trim, hm2v.out] at hrv
     have hP := halves_end (P := val 18446744073709551616 us * val 18446744073709551616 vs) rfl Hll.out (by have := Hlh.out; omega) Hlov.out Hhiv.out rfl (by rw [Heu.out, Hev.out]) (by rw [show h + (us.length + vs.length - h) = us.length + vs.length from by omega]; exact HPT.out) Hrl.out hrv
     have hpl := patch_length (L := lo ++ hi) (o := h) (zs := zr) (by rw [Hrl.out, Hlen.out]; omega)
     rw [Hlen.out] at hpl
     refine ⟨patch (lo ++ hi) h zr, w3.heap.size, by rw [hpl]; rfl, hpl, patch_dig (hlod.append_ hhid) hrd, hP, hK3.b.size, hblk6, ?_⟩
     have e1 := hK3.b.trans (hb5.mono hK3.b.size)
     first
      | exact e1.trans (htn.below hK3.b.size e1.size)
      | exact e1.drew.trans (htn.below hK3.b.size e1.size)
end
section
open Go.RowKit
def Carr (zl : List Nat) (n k : Nat) (os : List Nat) (c : Nat) : Prop :=
 os.length = n ∧ Dig 18446744073709551616 os ∧ c < 562949953421312 ∧ val 18446744073709551616 os + 65536 ^ k * c = val 65536 (zl.take k) ∧ (∀ j (h : j < os.length), k ≤ 4 * j → os[j] = 0) ∧ ∀ j r (h : j < os.length), k = 4 * j + r → r < 4 → os[j] < 65536 ^ r
theorem Carr.start (zl : List Nat) (n : Nat) : Carr zl n 0 (List.replicate n 0) 0 :=
 ⟨by simp, Dig.zeros_ (by omega) _, by omega, by simp [val_zeros, val], fun j h _ => by simp, fun j r h e hr => by
  simp; exact Nat.pow_pos (by omega)⟩
theorem pow16 (b q j r : Nat) (h : q = b ^ 4) : b ^ (4 * j + r) = q ^ j * b ^ r := by
 rw [Nat.pow_add, Nat.pow_mul, h]
theorem carr_val {b W V X j r k c z d c' : Nat} (hW : W = b ^ 4) (hk : k = 4 * j + r) (h : V + b ^ k * c = X) (hs : c + z = d + b * c') : V + W ^ j * (b ^ r * d) + b ^ (k + 1) * c' = X + b ^ k * z := by
 have e1 : b ^ k * c + b ^ k * z = b ^ k * d + b ^ k * (b * c') := by rw [← Nat.mul_add, hs, Nat.mul_add]
 have e2 : W ^ j * (b ^ r * d) = b ^ k * d := by rw [← Nat.mul_assoc, ← pow16 b W j r hW, ← hk]
 rw [e2, Nat.pow_succ, Nat.mul_assoc]
 generalize b ^ k * (b * c') = t1 at *
 generalize b ^ k * d = t2 at *
 generalize b ^ k * z = t3 at *
 generalize b ^ k * c = t4 at *
 omega
theorem carr_fit {b r x d : Nat} (_ : 0 < b) (hx : x < b ^ r) (hd : d < b) : x + b ^ r * d < b ^ (r + 1) := by
 rw [Nat.pow_succ]
 have : b ^ r * (d + 1) ≤ b ^ r * b := Nat.mul_le_mul_left _ hd
 rw [Nat.mul_add] at this
 omega
theorem pow_mono_lt {b x r : Nat} (hb : 0 < b) (hr : r < 4) (h : x < b ^ (r + 1)) (W : Nat) (hW : W = b ^ 4) : x < W := by
 rw [hW]; exact Nat.lt_of_lt_of_le h (Nat.pow_le_pow_right hb (by omega))
theorem Carr.step {zl os : List Nat} {n j r c d c' : Nat} (h : Carr zl n (4 * j + r) os c) (hr : r < 4) (hk : 4 * j + r < zl.length) (hj : j < os.length) (_ : zl[4 * j + r] < 18446744073709551616) (hs : c + zl[4 * j + r] = d + 65536 * c') (hd : d < 65536) (hc : c' < 562949953421312) :
  Carr zl n (4 * j + r + 1) (os.set j (os[j] + 65536 ^ r * d)) c' := by
 obtain ⟨h1, h2, h3, h4, h5, h6⟩ := h
 have hx := h6 j r hj rfl hr
 have hf := carr_fit (by omega) hx hd
 have hW := pow_mono_lt (by omega) hr hf 18446744073709551616 (by decide)
 refine ⟨by simpa using h1, h2.set_ _ _ hW, hc, ?_, fun i hi hki => ?_, fun i q hi e hq => ?_⟩
 ·have e1 := val_set 18446744073709551616 os j (os[j] + 65536 ^ r * d) hj
  rw [Nat.mul_add] at e1
  have e2 : val 18446744073709551616 (os.set j (os[j] + 65536 ^ r * d)) = val 18446744073709551616 os + 18446744073709551616 ^ j * (65536 ^ r * d) := by
   generalize 18446744073709551616 ^ j * (65536 ^ r * d) = t1 at *
   generalize 18446744073709551616 ^ j * os[j] = t2 at *
   omega
  rw [e2, val_take_succ _ zl _ hk]
  exact carr_val (by decide) rfl h4 hs
 ·rw [List.getElem_set, if_neg (by omega)]
  exact h5 i (by simpa using hi) (by omega)
 ·rw [List.getElem_set]
  split
  ·obtain rfl : q = r + 1 := by omega
   exact hf
  ·have hi2 : i < os.length := by simpa using hi
   have : os[i] = 0 := h5 i hi2 (by omega)
   rw [this]; exact Nat.pow_pos (by omega)
theorem Carr.finish {zl os : List Nat} {n c : Nat} (h : Carr zl n (4 * n) os c) (hl : zl.length = 4 * n) (hT : val 65536 zl < 18446744073709551616 ^ n) : val 18446744073709551616 os = val 65536 zl := by
 have h4 := h.2.2.2.1
 rw [List.take_of_length_le (by omega), Nat.pow_mul, show (65536 : Nat) ^ 4 = 18446744073709551616 from rfl] at h4
 exact carry_zero2 h4 hT
theorem or_add (x d i : Nat) (hx : x < 2 ^ i) (hb : x < 18446744073709551616) (hd : d * 2 ^ i < 18446744073709551616) : bits BinOp.or IntKind.u64 (x : Int) ((d * 2 ^ i : Nat) : Int) = ((x + 2 ^ i * d : Nat) : Int) := by
 rw [u64_or_nat x (d * 2 ^ i) hb hd, Nat.or_comm, or_shift x d i hx]
set_option maxHeartbeats 3200000 in
theorem carried_any (A : Option Addr) (c : Nat) (xs zl : List Nat) (sc n : Nat) (w : World) (B : Nat) (hr : Rd w B A (u64s xs)) (hB : B ≤ w.heap.size) (hd : Dig 18446744073709551616 xs) (hsc : sc < 18446744073709551616) (hn : 4 * n ≤ xs.length) (hzl : zl.length = 4 * n) (hz : ∀ i (h : i < xs.length) (h2 : i < zl.length), xs[i] * sc % 18446744069414584321 = zl[i]) (hT : val 65536 zl < 18446744073709551616 ^ n) (hm : n ≤ 35184372088832) :
  Calls Tryz.prog 102 #[.slice A xs.length c, .int .u64 (sc : Int), .int .i64 (n : Int)] w fun e w' => Words w w' n (val 65536 zl) e := by
 have hmk := fun W => mk64 n hm W
 have Hz := hi9 hz
 have Hzl := hi9 hzl
 have HT := hi9 hT
 clear hz hzl hT
 go_enter Tryz.func102, Tryz.ntmps102
 go_wp2_with fail
 go_loopw [8, 9, 10, 15] (fun cv _ _ i wr => ∃ (k cc : Nat) (os : List Nat), k ≤ 4 * n ∧ i = .int .i64 k ∧ cv = .int .u64 cc ∧ Blk wr w.heap.size 53 (u64s os) ∧ Carr zl n k os cc ∧ Below w.heap.size w wr) (fun _ _ _ i _ => 4 * n - (intOf i).toNat)
 case atStart => exact ⟨0, 0, List.replicate n 0, by omega, rfl, rfl, Blk.new_ (by simp [u64s]), Carr.start _ _, br9.alloc nl9 _⟩
 case round =>
  obtain ⟨k, cc, os, hk, rfl, rfl, hblk, hca, hbel⟩ := hrel
  by_cases hlt : k < 4 * n
  ·obtain ⟨b, off, rfl, hb, hx⟩ := hr.at64 (k := k) (by omega)
   have hx := (hbel.cell (p := ⟨b, off + k, none⟩) (show b < _ by omega)).trans hx
   have hkx : k < xs.length := by omega
   have hkz : k < zl.length := by rw [Hzl.out]; exact hlt
   have hxd := hd.at_ k hkx
   have hzk := Hz.out k hkx hkz
   have hfm := fun W => fieldMul_any xs[k] sc hxd hsc W
   rw [hzk] at hfm
   have hzb : zl[k] < 18446744069414584321 := by rw [← hzk]; exact Nat.mod_lt _ (by omega)
   have hzlb : zl[k] < 18446744073709551616 := by omega
   have hccb := hca.2.2.1
   obtain ⟨z, hze⟩ : ∃ z, z = zl[k] := ⟨_, rfl⟩
   rw [← hze] at hfm hzb
   have a1 := fun W => add64_run0 cc z W
   obtain ⟨lo, hlo⟩ := nameIt ((cc + z) % 18446744073709551616)
   obtain ⟨ov, hov⟩ := nameIt ((cc + z) / 18446744073709551616)
   rw [← hlo, ← hov] at a1
   have hlob : lo < 18446744073709551616 := by omega
   have hovb : ov ≤ 1 := by omega
   have m1 := and_mask lo hlob
   obtain ⟨d, hdd⟩ := nameIt (lo % 65536)
   rw [← hdd] at m1
   have hdb : d < 65536 := by omega
   obtain ⟨y, hy⟩ := nameIt (lo / 65536)
   have m2 : (lo : Int) / 65536 = (y : Int) := by omega
   have hyb : y < 281474976710656 := by omega
   obtain ⟨c2, hc2⟩ := nameIt (y + 281474976710656 * ov)
   have m3 : bits BinOp.or IntKind.u64 (y : Int) ((ov : Int) * 281474976710656) = (c2 : Int) := by
    have h9 := or_add y ov 48 (by omega) (by omega) (by omega)
    rw [show (2 : Nat) ^ 48 = 281474976710656 from rfl, ← hc2] at h9
    exact h9
   have hc2b : c2 < 562949953421312 := by omega
   have hsum : cc + z = d + 65536 * c2 := by omega
   have m2w : bits BinOp.or IntKind.u64 ((lo : Int) / 65536) ((ov : Int) * 281474976710656) = (c2 : Int) := by rw [m2]; exact m3
   rw [hze] at hsum
   have Hfm := hi9 hfm
   have Hsum := hi9 hsum
   have m4 : (lo : Int) % 65536 = (d : Int) := by omega
   clear hzk hfm hze hlo hov hdd hy hc2 hsum
   have hol := hca.1
   obtain ⟨j, hj⟩ : ∃ j, k = 4 * j ∨ k = 4 * j + 1 ∨ k = 4 * j + 2 ∨ k = 4 * j + 3 := ⟨k / 4, by omega⟩
   rcases hj with rfl | rfl | rfl | rfl
   ·have q1 : (4 * (j : Int)) / 4 = (j : Int) := by omega
    have q2 : (4 * (j : Int)) % 4 = 0 := by omega
    have q3 : (4 * j) / 4 = j := by omega
    have q4 : (4 * j) % 4 = 0 := by omega
    have q5 : (4 * (j : Int)).tdiv 4 = (j : Int) := by rw [Int.tdiv_eq_ediv_of_nonneg (by omega)]; omega
    have q6 : (4 * (j : Int)).tmod 4 = 0 := by rw [Int.tmod_eq_emod_of_nonneg (by omega)]; omega
    have hjo : j < os.length := by omega
    have hjn : j < n := by omega
    have hoc := (hblk.cell j).trans (u64s_at hjo)
    have hof := hblk.frozen j
    have hob := hca.2.1.at_ j hjo
    have hos := hca.2.2.2.2.2 j 0 hjo rfl (by omega)
    have hst := hca.step (r := 0) (d := d) (c' := c2) (by omega) hkz hjo hzlb Hsum.out hdb hc2b
    rw [show (65536 : Nat) ^ 0 = 1 from rfl] at hos hst
    obtain ⟨v, hv⟩ := nameIt (os[j] + 1 * d)
    rw [← hv] at hst
    have m5 : bits BinOp.or IntKind.u64 (os[j] : Int) ((d : Int)) = (v : Int) := by
     have h9 := or_add os[j] d 0 (by omega) hob (by omega)
     rw [show (2 : Nat) ^ 0 = 1 from rfl, ← hv] at h9
     simpa using h9
    have Hst := hi9 hst
    have Hol := hi9 hol
    clear hst hv hol hos
    go_wp2_with (first
     | (go_at_call 100; (with_reducible refine (Hfm.out _).mono ?_); rintro e w' ⟨rfl, rfl⟩)
     | (simp only []))
    go_region
    all_goals
     go_wp2_with fail
     go_roundw
     case rel =>
      refine ⟨4 * j + 0 + 1, c2, os.set j v, by omega, by go_num, rfl, ?_, Hst.out, (hbel.setCell (p := ⟨w.heap.size, j, none⟩) nl9 _).drew⟩
      have hb2 := (hblk.set_ j (Value.int IntKind.u64 (v : Int))).drew
      rw [u64s_set] at hb2
      first | exact hb2 | trace_state
     case measure => simp [intOf]; omega
   ·have q1 : (4 * (j : Int) + 1) / 4 = (j : Int) := by omega
    have q2 : (4 * (j : Int) + 1) % 4 = 1 := by omega
    have q3 : (4 * j + 1) / 4 = j := by omega
    have q4 : (4 * j + 1) % 4 = 1 := by omega
    have q5 : (4 * (j : Int) + 1).tdiv 4 = (j : Int) := by rw [Int.tdiv_eq_ediv_of_nonneg (by omega)]; omega
    have q6 : (4 * (j : Int) + 1).tmod 4 = 1 := by rw [Int.tmod_eq_emod_of_nonneg (by omega)]; omega
    have hjo : j < os.length := by omega
    have hjn : j < n := by omega
    have hoc := (hblk.cell j).trans (u64s_at hjo)
    have hof := hblk.frozen j
    have hob := hca.2.1.at_ j hjo
    have hos := hca.2.2.2.2.2 j 1 hjo rfl (by omega)
    have hst := hca.step (r := 1) (d := d) (c' := c2) (by omega) hkz hjo hzlb Hsum.out hdb hc2b
    rw [show (65536 : Nat) ^ 1 = 65536 from rfl] at hos hst
    obtain ⟨v, hv⟩ := nameIt (os[j] + 65536 * d)
    rw [← hv] at hst
    have m5 : bits BinOp.or IntKind.u64 (os[j] : Int) ((d : Int) * 65536) = (v : Int) := by
     have h9 := or_add os[j] d 16 (by omega) hob (by omega)
     rw [show (2 : Nat) ^ 16 = 65536 from rfl, ← hv] at h9
     exact h9
    have Hst := hi9 hst
    have Hol := hi9 hol
    clear hst hv hol hos
    go_wp2_with (first
     | (go_at_call 100; (with_reducible refine (Hfm.out _).mono ?_); rintro e w' ⟨rfl, rfl⟩)
     | (simp only []))
    go_region
    all_goals
     go_wp2_with fail
     go_roundw
     case rel =>
      refine ⟨4 * j + 1 + 1, c2, os.set j v, by omega, by go_num, rfl, ?_, Hst.out, (hbel.setCell (p := ⟨w.heap.size, j, none⟩) nl9 _).drew⟩
      have hb2 := (hblk.set_ j (Value.int IntKind.u64 (v : Int))).drew
      rw [u64s_set] at hb2
      first | exact hb2 | trace_state
     case measure => simp [intOf]; omega
   ·have q1 : (4 * (j : Int) + 2) / 4 = (j : Int) := by omega
    have q2 : (4 * (j : Int) + 2) % 4 = 2 := by omega
    have q3 : (4 * j + 2) / 4 = j := by omega
    have q4 : (4 * j + 2) % 4 = 2 := by omega
    have q5 : (4 * (j : Int) + 2).tdiv 4 = (j : Int) := by rw [Int.tdiv_eq_ediv_of_nonneg (by omega)]; omega
    have q6 : (4 * (j : Int) + 2).tmod 4 = 2 := by rw [Int.tmod_eq_emod_of_nonneg (by omega)]; omega
    have hjo : j < os.length := by omega
    have hjn : j < n := by omega
    have hoc := (hblk.cell j).trans (u64s_at hjo)
    have hof := hblk.frozen j
    have hob := hca.2.1.at_ j hjo
    have hos := hca.2.2.2.2.2 j 2 hjo rfl (by omega)
    have hst := hca.step (r := 2) (d := d) (c' := c2) (by omega) hkz hjo hzlb Hsum.out hdb hc2b
    rw [show (65536 : Nat) ^ 2 = 4294967296 from rfl] at hos hst
    obtain ⟨v, hv⟩ := nameIt (os[j] + 4294967296 * d)
    rw [← hv] at hst
    have m5 : bits BinOp.or IntKind.u64 (os[j] : Int) ((d : Int) * 4294967296) = (v : Int) := by
     have h9 := or_add os[j] d 32 (by omega) hob (by omega)
     rw [show (2 : Nat) ^ 32 = 4294967296 from rfl, ← hv] at h9
     exact h9
    have Hst := hi9 hst
    have Hol := hi9 hol
    clear hst hv hol hos
    go_wp2_with (first
     | (go_at_call 100; (with_reducible refine (Hfm.out _).mono ?_); rintro e w' ⟨rfl, rfl⟩)
     | (simp only []))
    go_region
    all_goals
     go_wp2_with fail
     go_roundw
     case rel =>
      refine ⟨4 * j + 2 + 1, c2, os.set j v, by omega, by go_num, rfl, ?_, Hst.out, (hbel.setCell (p := ⟨w.heap.size, j, none⟩) nl9 _).drew⟩
      have hb2 := (hblk.set_ j (Value.int IntKind.u64 (v : Int))).drew
      rw [u64s_set] at hb2
      first | exact hb2 | trace_state
     case measure => simp [intOf]; omega
   ·have q1 : (4 * (j : Int) + 3) / 4 = (j : Int) := by omega
    have q2 : (4 * (j : Int) + 3) % 4 = 3 := by omega
    have q3 : (4 * j + 3) / 4 = j := by omega
    have q4 : (4 * j + 3) % 4 = 3 := by omega
    have q5 : (4 * (j : Int) + 3).tdiv 4 = (j : Int) := by rw [Int.tdiv_eq_ediv_of_nonneg (by omega)]; omega
    have q6 : (4 * (j : Int) + 3).tmod 4 = 3 := by rw [Int.tmod_eq_emod_of_nonneg (by omega)]; omega
    have hjo : j < os.length := by omega
    have hjn : j < n := by omega
    have hoc := (hblk.cell j).trans (u64s_at hjo)
    have hof := hblk.frozen j
    have hob := hca.2.1.at_ j hjo
    have hos := hca.2.2.2.2.2 j 3 hjo rfl (by omega)
    have hst := hca.step (r := 3) (d := d) (c' := c2) (by omega) hkz hjo hzlb Hsum.out hdb hc2b
    rw [show (65536 : Nat) ^ 3 = 281474976710656 from rfl] at hos hst
    obtain ⟨v, hv⟩ := nameIt (os[j] + 281474976710656 * d)
    rw [← hv] at hst
    have m5 : bits BinOp.or IntKind.u64 (os[j] : Int) ((d : Int) * 281474976710656) = (v : Int) := by
     have h9 := or_add os[j] d 48 (by omega) hob (by omega)
     rw [show (2 : Nat) ^ 48 = 281474976710656 from rfl, ← hv] at h9
     exact h9
    have Hst := hi9 hst
    have Hol := hi9 hol
    clear hst hv hol hos
    go_wp2_with (first
     | (go_at_call 100; (with_reducible refine (Hfm.out _).mono ?_); rintro e w' ⟨rfl, rfl⟩)
     | (simp only []))
    go_region
    all_goals
     go_wp2_with fail
     go_roundw
     case rel =>
      refine ⟨4 * j + 3 + 1, c2, os.set j v, by omega, by go_num, rfl, ?_, Hst.out, (hbel.setCell (p := ⟨w.heap.size, j, none⟩) nl9 _).drew⟩
      have hb2 := (hblk.set_ j (Value.int IntKind.u64 (v : Int))).drew
      rw [u64s_set] at hb2
      first | exact hb2 | trace_state
     case measure => simp [intOf]; omega
  ·have hk4 : k = 4 * n := by omega
   have Hk4 := hi9 hk4
   have t2 : 4 * n ≤ k := by omega
   have Hol := hi9 hca.1
   clear hk4
   go_wp2_with fail
   go_ret
   have hca2 := hca
   rw [Hk4.out] at hca2
   exact ⟨os, _, by rw [Hol.out]; rfl, Hol.out, hca.2.1, hca2.finish Hzl.out HT.out, Nat.le_refl _, hblk, hbel⟩
end
end Go.Proofs.YtcjgilagldbjnaaGreatDoor
