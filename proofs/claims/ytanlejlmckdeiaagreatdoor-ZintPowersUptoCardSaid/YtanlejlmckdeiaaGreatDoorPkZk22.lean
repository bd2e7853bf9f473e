/- The contracts of the reference's Of and of nat.Uint64. No conditions beyond the sizes. The contracts of the reference's operations on sizes that are held. Conditions: at most 2^26 limbs. The contract of the reference's half. Conditions: limbs. The contract of the reference's Left. -/
import Derived.Test.YtanlejlmckdeiaaGreatDoorPkZk21
import Derived.Test.YtanlejlmckdeiaaGreatDoorPkZk5
import Derived.Shelf.Spec.TrailingZeros
import Derived.Test.YtanlejlmckdeiaaGreatDoorPkZk16
import Derived.Test.YtanlejlmckdeiaaGreatDoorPkZk6
import Derived.Test.YtanlejlmckdeiaaGreatDoorPkZk7
import Derived.Test.YtanlejlmckdeiaaGreatDoorPkZk19
import Derived.Deep.RegionLaw
import Derived.Deep.RegionHeld3
import Derived.Deep.DeepCutAuto
namespace Go.Proofs.YtanlejlmckdeiaaGreatDoor
section
open Go.RowKit

set_option maxHeartbeats 400000 in
theorem rof_any (n : Nat) (h : n < 18446744073709551616) (w : World) :
    Calls Tryz.prog 76 #[.int .u64 (n : Int)] w fun e w' => ∃ zs A' c', e = .returned (.slice A' zs.length c') ∧ Num 4294967296 zs n ∧ Res w' w.heap.size 61 A' c' (u32s zs) ∧ Below w.heap.size w w' := by
  have e1 : IntKind.u32.wrap ((n : Int) % 4294967296) = ((n % 4294967296 : Nat) : Int) := by rw [Go.Proofs.wrap_u32']; omega
  have e2 : IntKind.u32.wrap ((n : Int) / 4294967296) = ((n / 4294967296 : Nat) : Int) := by rw [Go.Proofs.wrap_u32']; omega
  obtain ⟨a, ha⟩ : ∃ a, a = n % 4294967296 := ⟨_, rfl⟩
  obtain ⟨b, hb⟩ : ∃ b, b = n / 4294967296 := ⟨_, rfl⟩
  rw [← ha] at e1
  rw [← hb] at e2
  have hab : Hid (n = a + 4294967296 * b ∧ a < 4294967296 ∧ b < 4294967296) := by constructor <;> omega
  clear ha hb
  go_enter Tryz.func76, Tryz.ntmps76
  go_wp2_with (first | (simp only [e1, e2]) | (simp only [e1]) | (simp only [e2]))
  have hblk : Blk (w.alloc (.cells #[.int .u32 (a : Int), .int .u32 (b : Int)] 61)) w.heap.size 61 (u32s [a, b]) := Blk.new_ rfl
  obtain ⟨h1, h2, h3⟩ := hab.out
  have hd : Dig 4294967296 [a, b] := Dig.cons_ h2 (Dig.cons_ h3 (Dig.nil_ _))
  refine (rnorm_any (some ⟨w.heap.size, 0, none⟩) 2 [a, b] _ (w.heap.size + 1) ?_ ?_ ?_).mono ?_
  · exact Rd.of_blk hblk (by omega) 0 (fun k v hv => by rw [Nat.zero_add]; exact hv)
  · simp
  · simp
  rintro e w' ⟨A', c', rfl, hres, hb⟩
  go_wp2
  go_ret
  have hz : (w.alloc (.cells #[.int .u32 (a : Int), .int .u32 (b : Int)] 61)).heap.size = w.heap.size + 1 := by simp
  rw [hz] at hres hb
  exact ⟨_, A', c', rfl, by rw [h1]; simpa [val] using Num.of_trim hd, hres.mono (by omega), ((Below.refl _ _).alloc (Nat.le_refl _) _).trans (hb.mono (by omega))⟩

/-- What Uint64 answers. -/
def u64Of (xs : List Nat) : Nat := if (trimL xs).length ≤ 2 then val 4294967296 xs else 0
end
section
open Go.RowKit

section
variable {w w' : World} {A A2 : Option Addr} {c c2 n k K J : Nat} {xs ys : List Nat}
theorem Hv.rnorm (h : Hv w A c xs n K) (hK : K ≤ 67108864) : Calls Tryz.prog 53 #[.slice A xs.length c] w fun e w' => NOut w w' n e := by
  have hl1 := h.len
  refine (rnorm_any A c xs w w.heap.size h.rd (Nat.le_refl _) (by omega)).mono ?_
  rintro e w' ⟨A', c', rfl, hr, hb⟩
  exact ⟨_, A', c', rfl, by rw [← h.val_]; exact Num.of_trim h.dig, hr, hb⟩
theorem Hv.radd (h : Hv w A c xs n K) (h2 : Hv w A2 c2 ys k J) (hK : K ≤ 67108864) (hJ : J ≤ 67108864) : Calls Tryz.prog 80 #[.slice A xs.length c, .slice A2 ys.length c2] w fun e w' => NOut w w' (n + k) e := by
  have hl1 := h.len
  have hl2 := h2.len
  have h9 := radd_any A A2 c c2 xs ys w w.heap.size h.rd h2.rd (Nat.le_refl _) h.dig h2.dig (by omega) (by omega)
  rwa [h.val_, h2.val_] at h9
theorem Hv.rsub (h : Hv w A c xs n K) (h2 : Hv w A2 c2 ys k J) (hK : K ≤ 67108864) (hJ : J ≤ 67108864) (hle : k ≤ n) : Calls Tryz.prog 82 #[.slice A xs.length c, .slice A2 ys.length c2] w fun e w' => NOut w w' (n - k) e := by
  have hl1 := h.len
  have hl2 := h2.len
  have h9 := rsub_any A A2 c c2 xs ys w w.heap.size h.rd h2.rd (Nat.le_refl _) h.dig h2.dig (by omega) (by omega) (by rw [h.val_, h2.val_]; exact hle)
  rwa [h.val_, h2.val_] at h9
theorem Hv.rmul (h : Hv w A c xs n K) (h2 : Hv w A2 c2 ys k J) (hK : K ≤ 67108864) (hJ : J ≤ 67108864) : Calls Tryz.prog 79 #[.slice A xs.length c, .slice A2 ys.length c2] w fun e w' => NOut w w' (n * k) e := by
  have hl1 := h.len
  have hl2 := h2.len
  have t1 := trimL_length_le xs
  have t2 := trimL_length_le ys
  have h9 := rmul_any A A2 c c2 xs ys w w.heap.size h.rd h2.rd (Nat.le_refl _) h.dig h2.dig (by omega) (by omega) (by omega)
  rwa [h.val_, h2.val_] at h9
theorem Hv.rcmp (h : Hv w A c xs n K) (h2 : Hv w A2 c2 ys k J) (hK : K ≤ 67108864) (hJ : J ≤ 67108864) : Calls Tryz.prog 81 #[.slice A xs.length c, .slice A2 ys.length c2] w fun e w' => e = .returned (.int .i64 (cmpN n k)) ∧ w = w' := by
  have hl1 := h.len
  have hl2 := h2.len
  have h9 := rcmp_any A A2 c c2 xs ys w w.heap.size h.rd h2.rd h.dig h2.dig (by omega) (by omega)
  rwa [h.val_, h2.val_] at h9
theorem Hv.ncmp (h : Hv w A c xs n K) (h2 : Hv w A2 c2 ys k J) (hK : K ≤ 67108864) (hJ : J ≤ 67108864) : Calls Tryz.prog 60 #[.slice A xs.length c, .slice A2 ys.length c2] w fun e w' => e = .returned (.int .i64 (cmpN n k)) ∧ Dr w w' := by
  have hl1 := h.len
  have hl2 := h2.len
  have h9 := cmp_any A A2 c c2 xs ys w w.heap.size h.rd h2.rd h.dig h2.dig h.cap h2.cap (by omega) (by omega)
  rwa [h.val_, h2.val_] at h9
/-- What a division answers. -/
def QOut (w w' : World) (n k : Nat) (e : Ending) : Prop := ∃ qs rs A1 c1 A3 c3, e = .returned (.tuple #[.slice A1 qs.length c1, .slice A3 rs.length c3]) ∧ Num 4294967296 qs (n / k) ∧ Num 4294967296 rs (n % k) ∧ Res w' w.heap.size 61 A1 c1 (u32s qs) ∧ Res w' w.heap.size 61 A3 c3 (u32s rs) ∧ Below w.heap.size w w'
theorem Hv.rdiv (h : Hv w A c xs n K) (h2 : Hv w A2 c2 ys k J) (hK : K ≤ 67108864) (hJ : J ≤ 67108864) (hk : 0 < k) : Calls Tryz.prog 115 #[.slice A xs.length c, .slice A2 ys.length c2] w fun e w' => QOut w w' n k e := by
  have hl1 := h.len
  have hl2 := h2.len
  have h9 := rdiv_any A A2 c c2 xs ys w w.heap.size h.rd h2.rd (Nat.le_refl _) h.dig h2.dig (by omega) (by omega) (by rw [h2.val_]; exact hk)
  rwa [h.val_, h2.val_] at h9
theorem Hv.rzero (h : Hv w A c xs n K) (hK : K ≤ 67108864) : Calls Tryz.prog 77 #[.slice A xs.length c] w fun e w' => e = .returned (.bool (decide (n = 0))) ∧ w = w' := by
  have hl1 := h.len
  have h9 := zero_any A c xs w w.heap.size h.rd (by omega)
  have e : decide (trimL xs = []) = decide (n = 0) := by
    have := (Num.of_trim h.dig).nil_iff (by omega)
    rw [h.val_] at this
    exact decide_eq_decide.2 this
  rwa [e] at h9
theorem rof_out (n : Nat) (h : n < 18446744073709551616) (w : World) : Calls Tryz.prog 76 #[.int .u64 (n : Int)] w fun e w' => NOut w w' n e := rof_any n h w
theorem of_out (n : Nat) (h : n < 18446744073709551616) (w : World) : Calls Tryz.prog 41 #[.int .u64 (n : Int)] w fun e w' => NOut w w' n e := of_any n h w
theorem Hv.nbits (h : Hv w A c xs n K) (hK : K ≤ 67108864) : Calls Tryz.prog 38 #[.slice A xs.length c] w fun e w' => e = .returned (.int .i64 (bitsOf n : Nat)) ∧ w = w' := h.nlen hK
end
end
section
open Go.RowKit

def Halved (xs : List Nat) (k : Nat) (zs : List Nat) : Prop :=
  Dig 4294967296 zs ∧ 2 * val 4294967296 zs + at0 xs 0 % 2 = val 4294967296 (xs.take k) + 4294967296 ^ k * (at0 xs k % 2) ∧ ∀ j (h : j < zs.length), k ≤ j → zs[j] = 0
theorem Halved.start (xs : List Nat) (n : Nat) : Halved xs 0 (List.replicate n 0) :=
  ⟨Dig.zeros_ (by omega) _, by simp [val_zeros, val], fun j h _ => by simp⟩
theorem Halved.step {xs zs : List Nat} {k v : Nat} (h : Halved xs k zs) (hz : k < zs.length) (hd : Dig 4294967296 xs) (hv : v = at0 xs k / 2 + at0 xs (k + 1) % 2 * 2147483648) : Halved xs (k + 1) (zs.set k v) := by
  obtain ⟨h1, h2, h3⟩ := h
  have ha := at0_lt hd k
  refine ⟨h1.set_ _ _ (by omega), ?_, fun i hi hki => ?_⟩
  · have e1 := val_set 4294967296 zs k v hz
    rw [h3 k hz (Nat.le_refl _)] at e1
    rw [val_take_at0, Nat.pow_succ, Nat.mul_assoc]
    have e2 : 2 * v + at0 xs k % 2 = at0 xs k + 4294967296 * (at0 xs (k + 1) % 2) := by omega
    have e3 : 4294967296 ^ k * (2 * v + at0 xs k % 2) = 4294967296 ^ k * (at0 xs k + 4294967296 * (at0 xs (k + 1) % 2)) := by rw [e2]
    rw [Nat.mul_add, Nat.mul_add, Nat.mul_left_comm] at e3
    omega
  · rw [List.getElem_set, if_neg (by omega)]
    exact h3 i (by simpa using hi) (by omega)
theorem Halved.last {xs zs : List Nat} (h : Halved xs xs.length zs) : val 4294967296 zs = val 4294967296 xs / 2 := by
  have h2 := h.2.1
  rw [List.take_length, at0_out (Nat.le_refl _)] at h2
  have : at0 xs 0 % 2 < 2 := Nat.mod_lt _ (by omega)
  omega

set_option maxHeartbeats 800000 in
theorem rhalf_any (A : Option Addr) (c : Nat) (xs : List Nat) (w : World) (B : Nat) (hr : Rd w B A (u32s xs)) (hB : B ≤ w.heap.size) (hd : Dig 4294967296 xs) (hm : xs.length ≤ 70368744170000) :
    Calls Tryz.prog 103 #[.slice A xs.length c] w fun e w' => ∃ zs A' c', e = .returned (.slice A' zs.length c') ∧ Num 4294967296 zs (val 4294967296 xs / 2) ∧ Res w' w.heap.size 61 A' c' (u32s zs) ∧ Below w.heap.size w w' := by
  have hmk := fun W => mk32 xs.length (by omega) W
  go_enter Tryz.func103, Tryz.ntmps103
  go_wp2
  go_loopw [4, 10] (fun _ i wr => ∃ (k : Nat) (zs : List Nat), k ≤ xs.length ∧ i = .int .i64 k ∧ zs.length = xs.length ∧ Blk wr w.heap.size 61 (u32s zs) ∧ Halved xs k zs ∧ Below w.heap.size w wr) (fun _ i _ => xs.length - (intOf i).toNat)
  case atStart => exact ⟨0, List.replicate xs.length 0, by omega, rfl, by simp, Blk.new_ (by simp [u32s]), Halved.start _ _, (Below.refl _ _).alloc (Nat.le_refl _) _⟩
  case round =>
    obtain ⟨k, zs, hk, rfl, hzl, hblk, hsm, hbel⟩ := hrel
    by_cases hlt : k < xs.length
    · have hkz : k < zs.length := by omega
      have Hzl := Lib.hid hzl
      clear hzl
      have hc2 := (hblk.cell k).trans (u32s_at hkz)
      have hf2 := hblk.frozen k
      have ha := at0_lt hd k
      have ha2 := at0_lt hd (k + 1)
      have hrw := hr.below (hbel.mono hB)
      obtain ⟨v, hv⟩ : ∃ v, v = at0 xs k / 2 + at0 xs (k + 1) % 2 * 2147483648 := ⟨_, rfl⟩
      have hst := hsm.step hkz hd hv
      have L1 := Lib.hid (limb_any A c xs k wr _ hrw hd (by omega) (by omega))
      have L2 : Hid (Calls Tryz.prog 119 #[.slice A xs.length c, .int .i64 ((k : Int) + 1)] wr fun e w' => e = .returned (.int .u64 (at0 xs (k + 1) : Nat)) ∧ wr = w') := by
        have := limb_any A c xs (k + 1) wr _ hrw hd (by omega) (by omega)
        rwa [show ((k + 1 : Nat) : Int) = (k : Int) + 1 from by omega] at this
      obtain ⟨y, hy⟩ : ∃ y, y = at0 xs k := ⟨_, rfl⟩
      obtain ⟨z, hz⟩ : ∃ z, z = at0 xs (k + 1) := ⟨_, rfl⟩
      rw [← hy] at L1 hv ha
      rw [← hz] at L2 hv ha2
      have hvb : v < 4294967296 := by omega
      have E1 : Hid ((y : Int) / 2 + (z : Int) % 2 * 2147483648 = (v : Int)) := by show (y : Int) / 2 + (z : Int) % 2 * 2147483648 = (v : Int); omega
      have Hst := Lib.hid hst
      clear hy hz hv hst hsm
      go_wp2_with (first
        | simp only [E1.out]
        | (go_at_call_of 119 (Value.slice A xs.length c); first | ((with_reducible refine L1.out.mono ?_); rintro e w' ⟨rfl, rfl⟩) | ((with_reducible refine L2.out.mono ?_); rintro e w' ⟨rfl, rfl⟩)))
      go_roundw
      case rel =>
        refine ⟨k + 1, zs.set k v, by omega, by go_num, by simpa using Hzl.out, ?_, Hst.out, hbel.setCell (p := ⟨w.heap.size, k, none⟩) (Nat.le_refl _) _⟩
        have hb2 := hblk.set_ k (Value.int IntKind.u32 (v : Int))
        rw [u32s_set] at hb2
        exact hb2
      case measure => simp [intOf]; omega
    · obtain rfl : k = xs.length := by omega
      have hrd := (Res.of_blk0 hblk (Nat.le_refl _) (by rw [u32s_length]; omega)).rd
      have Hv := Lib.hid hsm.last
      have Hzl := Lib.hid hzl
      have hzm : zs.length ≤ 70368744177664 := by omega
      clear hzl
      go_wp2_with (go_at_call 53; rw [← Hzl.out]; refine (rnorm_any _ _ zs wr _ hrd (Nat.le_refl _) hzm).mono ?_; rintro e w2 ⟨A', c', rfl, hres, hb⟩)
      go_ret
      refine ⟨trimL zs, A', c', rfl, ?_, hres.mono hbel.size, hbel.trans (hb.mono hbel.size)⟩
      rw [← Hv.out]
      exact Num.of_trim hsm.1
end
section
open Go.RowKit

/-- An append onto a row that is known whole, as one step of a region that draws. -/
theorem step_app {P : Program} {ops : Array Oper} {o : Oper} {a : Act} {w : World} {K : Act → World → Prop} {Q : Exit → Act → World → Prop} {E : Prop} (hgd : o.guard = none) (d s : Operand) (t : TypeId)
    (ho : o.op = .call { callee := .builtin .append, args := #[d, s], argTypes := #[t, t] }) (e : TypeId) (i : TypeInfo) (z : Value) (bytes : Nat) (ht : P.underlying t = some (.slice e)) (hi : P.info? e = some i) (hz : i.zero = some z)
    (hsize : i.size = 1) (hby : i.bytes = bytes) (hzs : z.cells.size = 1) (g n : Nat) (A : Option Addr) (m c : Nat) (hd : a.eval d = .slice (some ⟨g, 0, none⟩) n n) (hs : a.eval s = .slice A m c)
    (xs news : List Value) (B : Nat) (hb : Blk w g e xs) (hn : xs.length = n) (hr : Rd w B A news) (hm : news.length = m) (h1 : ∀ u ∈ news, u.oneCell' = true) (h63 : n + m ≤ 281474976710656) (hbytes : (n + m) * bytes ≤ 140737488355328)
    (h : ∀ v' w', w'.ownsRow g e 1 v' (n + m) (xs ++ news) → w.grownBy w' (some g) → K (a.put o.dst v') w') :
    if Region.wanted o (yielded ops a.tmps) = true then Oper.wp P o a w K Q else E := by
  have hw : Region.wanted o (yielded ops a.tmps) = true := by simp [Region.wanted, hgd]
  rw [if_pos hw]
  have hown : w.ownsRow g e 1 (.slice (some ⟨g, 0, none⟩) n n) n xs :=
    ⟨by omega, .inr ⟨g, n, xs.toArray, rfl, Nat.le_refl _, hb, Nat.le_refl _, by unfold maxLen; omega, by simp [hn], by simp [← hn]⟩⟩
  obtain ⟨v', w', hrun, h2, h3⟩ := run_app (P := P) w g t o.type e i z bytes ht hi hz hsize hby hzs g n n xs hown A m c B news hr hm h1 (by unfold maxLen; omega) hbytes (by have := hb.lt; omega)
  unfold Oper.wp
  simp [execOp, ho, resolve, invoke, builtin, hd, hs, hrun, Result.andThen]
  exact h v' w' h2 h3

set_option maxRecDepth 20000 in
set_option maxHeartbeats 1600000 in
theorem rleft_any (A : Option Addr) (c : Nat) (xs : List Nat) (n d s : Nat) (w : World) (B : Nat) (hr : Rd w B A (u32s xs)) (hB : B ≤ w.heap.size) (hd : Dig 4294967296 xs) (hn : n = 32 * d + s) (hs : s < 32) (hm : d + (trimL xs).length ≤ 35184372088000) (hm0 : xs.length ≤ 70368744170000) :
    Calls Tryz.prog 104 #[.slice A xs.length c, .int .i64 (n : Int)] w fun e w' => ∃ zs A' c', e = .returned (.slice A' zs.length c') ∧ Num 4294967296 zs (val 4294967296 xs * 2 ^ n) ∧ Res w' w.heap.size 61 A' c' (u32s zs) ∧ Below w.heap.size w w' := by
  have hl := trimL_length_le xs
  have hmk := fun W => mk32 d (by omega) W
  have q1 : (n : Int) / 32 = (d : Int) := by omega
  have q2 : (n : Int) % 32 = (s : Int) := by omega
  have nb : n < 9223372036854775807 := by omega
  have Hn := Lib.hid hn
  have hwr : IntKind.i64.wrap (d : Int) = (d : Int) := by rw [IntKind.wrap_i64]; omega
  clear hn
  go_enter Tryz.func104, Tryz.ntmps104
  go_wp2_with fail
  obtain ⟨i0, hi, hz0, hz1, hz2⟩ := info_parts Tryz.info32
  have hnc : ∀ W : World, Below w.heap.size w W → Calls Tryz.prog 53 #[.slice A xs.length c] W fun e w' => ∃ A' c', e = .returned (.slice A' (trimL xs).length c') ∧ Res w' W.heap.size 61 A' c' (u32s (trimL xs)) ∧ Below W.heap.size W w' :=
    fun W hW => rnorm_any A c xs W B (hr.below (hW.mono hB)) (Nat.le_trans hB hW.size) (by omega)
  have Hnc := Lib.hid hnc
  have hl9 : (u32s (List.replicate d 0)).length = d := by simp [u32s]
  have Hl9 := Lib.hid hl9
  have hsum : d + (trimL xs).length ≤ 35184372088000 := by omega
  have hbk : ∀ W : World, Blk (W.alloc (.cells (Array.replicate d (Value.int .u32 0)) 61)) W.heap.size 61 (u32s (List.replicate d 0)) := fun W => Blk.new_ (by simp [u32s])
  have Hbk := Lib.hid hbk
  clear hnc hl9 hbk
  go_cut [5] (fun v wc => ∃ A1 c1, v = .slice A1 (d + (trimL xs).length) c1 ∧ Rd wc wc.heap.size A1 (u32s (List.replicate d 0 ++ trimL xs)) ∧ Below w.heap.size w wc)
  case first =>
    go_region_held3 (fun _ => True) (exact trivial) (first
      | (go_at_call 53; refine (Hnc.out _ (by first | exact (Below.refl _ _).drew | exact ((Below.refl _ _).alloc (Nat.le_refl _) _).drew)).mono ?_; rintro e w1 ⟨A1, c1, rfl, hres, hb⟩)
      | (refine step_app rfl (.tmp 8) (.tmp 10) 26 rfl 61 i0 (.int .u32 0) 4 Tryz.underlying26 hi hz0 hz1 hz2 rfl _ d _ _ _ rfl rfl (u32s (List.replicate d 0)) (u32s (trimL xs)) _ (by first | exact Hbk.out _ | exact (Hbk.out w).drew.below hb (by show w.heap.size < (w.alloc _).heap.size; rw [World.size_alloc]; omega)) Hl9.out (by first | exact hres.rd | exact hres.rd.below ((Below.refl _ _).alloc (Nat.le_refl _) _)) (u32s_length _) (one_u32s _) (by omega) (by omega) ?_; intro v' w2 hown hgr))
    all_goals
      go_wp2
      go_meet
      obtain ⟨A9, c9, rfl, hlc9, hrd9, _⟩ := own_res hown (by omega)
      refine ⟨A9, c9, rfl, ?_, ?_⟩
      · have e9 : u32s (List.replicate d 0 ++ trimL xs) = u32s (List.replicate d 0) ++ u32s (trimL xs) := by simp [u32s]
        rw [e9]; exact hrd9
      · have hsz1 := hb.size
        first
          | (have e1 : Below w.heap.size w w1 := ((Below.refl _ _).alloc (Nat.le_refl _) _).drew.trans (hb.mono (by show w.heap.size ≤ (w.alloc _).heap.size; rw [World.size_alloc]; omega))
             exact e1.trans (below_grown hgr (Nat.le_refl _) e1.size))
          | (have e1 : Below w.heap.size w w1 := (Below.refl _ _).drew.trans hb
             exact (e1.alloc e1.size _).trans (below_grown hgr e1.size (by rw [World.size_alloc]; have := e1.size; omega)))
  case rest =>
    obtain ⟨A1, c1, rfl, hrd, hbel⟩ := hcut
    have hdl : Dig 4294967296 (List.replicate d 0 ++ trimL xs) := (Dig.zeros_ (by omega) _).append_ hd.trim_
    have hln : Hid ((List.replicate d 0 ++ trimL xs).length = d + (trimL xs).length) := by show _ = _; simp
    have hvl : val 4294967296 (List.replicate d 0 ++ trimL xs) * 2 ^ s = val 4294967296 xs * 2 ^ n := by
      rw [val_append, val_zeros, val_trim, Hn.out, Nat.pow_add, Nat.pow_mul, show (2 : Nat) ^ 32 = 4294967296 from rfl, List.length_replicate, Nat.zero_add, Nat.mul_comm (4294967296 ^ d), Nat.mul_assoc]
    have h2s : 2 ^ s < 2 ^ 32 := Nat.pow_lt_pow_right (by omega) hs
    have e9 : ((2 : Int) ^ s % 4294967296) = ((2 ^ s : Nat) : Int) := by
      rw [show ((2 : Int) ^ s) = ((2 ^ s : Nat) : Int) from by simp]
      exact Int.emod_eq_of_lt (Int.natCast_nonneg _) (Int.ofNat_lt.2 h2s)
    obtain ⟨ts, hts⟩ : ∃ ts, ts = 2 ^ s := ⟨_, rfl⟩
    rw [← hts] at h2s e9 hvl
    have hts32 : ts < 4294967296 := by omega
    have Hvl := Lib.hid hvl
    clear hvl hts h2s
    go_wp2_with fail
    rw [← hln.out]
    refine (rsmall_any A1 c1 _ ts _ _ hrd (Nat.le_refl _) hdl hts32 (by have := hln.out; omega)).mono ?_
    rintro e w5 ⟨zs, A7, c7, rfl, hnz, hres, hb5⟩
    go_wp2
    go_ret
    rw [Hvl.out] at hnz
    exact ⟨zs, A7, c7, rfl, hnz, hres.mono hbel.size, hbel.trans (hb5.mono hbel.size)⟩
end
end Go.Proofs.YtanlejlmckdeiaaGreatDoor
