/- An integer that comes in as a sign and a slice of limbs: what its reading says, where what comes in is of small bulk. Condition: the bulk. A row of integers that comes in: what its reading says, where what comes in is of small bulk. Condition: the bulk. The contract of nat.power on a number that is held. Conditions: the power fits 2^26 limbs; the exponent is above 0. The contracts of the reference's operations that its Sqrt and Pow call, on sizes that are held. Conditions: at most 2^26 limbs. -/
import Derived.Test.YtanlejlmckdeiaaGreatDoorPkZk16
import Derived.Test.YtanlejlmckdeiaaGreatDoorPkZk38
import Derived.Lib.SmallJoins
import Derived.Test.YtanlejlmckdeiaaGreatDoorPkZk20
import Derived.Deep.SlicePairs
import Derived.Test.YtanlejlmckdeiaaGreatDoorPkZk13
import Derived.Test.YtanlejlmckdeiaaGreatDoorPkZk4
import Derived.Test.YtanlejlmckdeiaaGreatDoorPkZk1
import Derived.Test.YtanlejlmckdeiaaGreatDoorPkZk21
import Derived.Test.YtanlejlmckdeiaaGreatDoorPkZk6
import Derived.Test.YtanlejlmckdeiaaGreatDoorPkZk22
import Derived.Test.YtanlejlmckdeiaaGreatDoorPkZk19
namespace Go.Proofs.YtanlejlmckdeiaaGreatDoor
section
open Go.ChangeShapes Go.WideShapes Go.ChangeAt Go.RowKit

set_option maxRecDepth 100000 in
theorem open_nat_t {H : Type} {enc : TypeId × Value → H} {W : World} {fuel : Nat} {a0 : Option Addr} {len cap : Nat} {d : DataW H} {p : List MemPlace} (hf : DataW.trod enc Tryz.prog W 0 (fun _ => true) true fuel 26 [.slice a0 len cap] = some (d, p))
    (hlt : ∀ x ∈ p, x.block < W.heap.size) (N : Nat) (hN : N ≤ 35184372087808) (hsz : ∀ elems spare, d = .slice elems spare → elems.length + spare.length ≤ N) :
    ∃ xs : List Nat, xs.length = len ∧ len ≤ cap ∧ Dig 4294967296 xs ∧ Rd W W.heap.size a0 (u32s xs) ∧ len ≤ N := by
  rcases open_ints Tryz.underlying26 Tryz.underlying61 Tryz.cells32 hf with ⟨hcs, hx⟩ | ⟨a, len', cap', zs, hcs, _, hl, hm, hz, hx, hcell, hwz⟩
  · simp at hcs
    obtain ⟨rfl, rfl, rfl⟩ := hcs
    exact ⟨[], rfl, Nat.le_refl _, Dig.nil_ _, Rd.nil_, by omega⟩
  · simp at hcs
    obtain ⟨rfl, rfl, rfl⟩ := hcs
    simp only [Prod.mk.injEq] at hx
    obtain ⟨rfl, rfl⟩ := hx
    simp only [if_true] at hz
    have hreach := hsz _ _ rfl
    simp only [lits, List.length_map, List.length_take, List.length_drop] at hreach
    have hlen : ((zs.take len).map Int.toNat).length = len := by rw [List.length_map, List.length_take]; omega
    refine ⟨(zs.take len).map Int.toNat, hlen, hl, fun x hx => ?_, fun hn => ?_, by omega⟩
    · obtain ⟨z, hz1, rfl⟩ := List.mem_map.1 hx
      have := wf_u32 (hwz z (List.mem_of_mem_take hz1))
      omega
    · have hl0 : 0 < len := by
        rcases Nat.eq_zero_or_pos len with h0 | h0
        · subst h0; simp [u32s] at hn
        · exact h0
      obtain ⟨b, off, spot⟩ := a
      have hspot : spot = none := by simpa [Addr.add] using World.cell?_spot (hcell 0 (by omega))
      subst hspot
      have hbW : b < W.heap.size := hlt (.cell b off) (MemPlace.mem_row.2 ⟨0, by omega, by simp⟩)
      refine ⟨b, off, rfl, hbW, fun k u hu => ?_⟩
      have hk : k < len := by
        have := (List.getElem?_eq_some_iff.1 hu).1
        rw [u32s_length, hlen] at this
        exact this
      have h1 := hcell k (by omega)
      rw [show (⟨b, off, none⟩ : Addr).add k = ⟨b, off + k, none⟩ from by unfold Addr.add; split <;> simp_all] at h1
      rw [h1, ← hu, u32s_at (by rw [hlen]; exact hk)]
      have hkz : k < zs.length := by omega
      have := wf_u32 (hwz zs[k] (List.getElem_mem hkz))
      simp [List.getD, List.getElem?_eq_getElem hkz]
      omega

set_option maxRecDepth 100000 in
theorem open_zint {H : Type} {enc : TypeId × Value → H} {W : World} {r : Reach} {b0 : Nat} {v : Value} {d : DataW H} {p : List MemPlace} {l : List (DataW H)} (hval : Value.okWide Tryz.prog W r b0 28 v) (h : DataW.Trod enc Tryz.prog W 0 (fun _ => true) true 28 v d p)
    (hlt : ∀ x ∈ p, x.block < W.heap.size) (hk : Rows.uptoSmall H l = true) (hd : d ∈ l) :
    ∃ (g : Bool) (A : Option Addr) (c : Nat) (xs : List Nat) (z : Int), v = .agg #[.bool g, .slice A xs.length c] ∧ Zh W g A c xs z 1048576 := by
  obtain ⟨w0, w1, y0, y1, n, rfl, rfl, rfl, g0, g1⟩ := Go.Joins.open_agg2 Tryz.underlying28 (by kernel_rfl) (by kernel_rfl) hval h
  obtain ⟨b, c0, rfl⟩ := DataW.trod_bool Tryz.underlying4 g0
  obtain rfl := (List.cons.inj c0).1
  obtain ⟨a0, len, cap, c1⟩ := Go.Joins.slice_form Tryz.underlying26 g1
  obtain rfl := (List.cons.inj c1).1
  obtain ⟨xs, rfl, hc, hdg, hr, hl⟩ := open_nat_t g1 (fun x hx => hlt x (List.mem_append_right _ hx)) 1048576 (by omega) (fun elems spare e => by
    have h1 : Rows.uptoBulkAll l ≤ 1048576 := of_decide_eq_true hk
    have h2 := bulk_part hd
    have h3 := bulk_len elems
    have h4 := bulk_len spare
    simp only [Rows.uptoBulk, Rows.uptoBulkAll, e] at h2
    omega)
  exact ⟨b, a0, cap, xs, ivalN b (val 4294967296 xs), rfl, ⟨⟨hdg, (abs_ival _ _).symm, hr, hc, hl⟩, by rw [abs_ival]⟩⟩
end
section
open Go.ChangeShapes Go.WideShapes Go.ChangeAt Go.RowKit

theorem bulk_snoc {H : Type} (l : List (DataW H)) (d : DataW H) : Rows.uptoBulkAll (l ++ [d]) = Rows.uptoBulkAll l + Rows.uptoBulk d := by
  induction l with
  | nil => simp [Rows.uptoBulkAll]
  | cons x l ih => simp only [List.cons_append, Rows.uptoBulkAll, ih]; omega
theorem bulk_pair {H : Type} (d0 d1 : DataW H) : Rows.uptoBulk d1 ≤ Rows.uptoBulk (.agg [d0, d1]) := by
  simp only [Rows.uptoBulk, Rows.uptoBulkAll]; omega
theorem bulk_rows {H : Type} (D0 D1 : Nat → DataW H) (L : List ZE1) (h : ∀ i (hi : i < L.length), L[i].xs.length ≤ Rows.uptoBulk (D1 i)) :
    ∀ k, k ≤ L.length → lensTo L k ≤ Rows.uptoBulkAll ((List.range k).map fun i => DataW.agg [D0 i, D1 i]) := by
  intro k
  induction k with
  | zero => intro _; simp [lensTo]
  | succ k ih =>
    intro hk
    have h1 := ih (by omega)
    have h2 := h k (by omega)
    have h3 := bulk_pair (D0 k) (D1 k)
    rw [lensTo_step (by omega), List.range_succ, List.map_append, List.map_singleton, bulk_snoc]
    omega

set_option maxRecDepth 100000 in
set_option maxHeartbeats 1600000 in
theorem open_zints {H : Type} {enc : TypeId × Value → H} {W : World} {r : Reach} {b0 : Nat} {v : Value} {d : DataW H} {p : List MemPlace} {l : List (DataW H)} (hval : Value.okWide Tryz.prog W r b0 22 v) (h : DataW.Trod enc Tryz.prog W 0 (fun _ => true) true 22 v d p)
    (hlt : ∀ x ∈ p, x.block < W.heap.size) (hk : Rows.uptoSmall H l = true) (hd : d ∈ l) :
    ∃ (A : Option Addr) (c : Nat) (L : List ZE1), v = .slice A L.length c ∧ ZR W 1048576 A L ∧ L.length ≤ 1048576 := by
  have hbulk : Rows.uptoBulk d ≤ 1048576 := by
    have h4 : Rows.uptoBulkAll l ≤ 1048576 := of_decide_eq_true hk
    have h5 := bulk_part hd
    omega
  obtain ⟨a0, len, cap, rfl⟩ := okWide_slice Tryz.underlying22 hval
  obtain ⟨fuel, hf⟩ := h
  rcases Go.Deep.open_slice_pairs Tryz.underlying22 Tryz.underlying28 (by kernel_rfl) rfl rfl (by kernel_rfl) (by kernel_rfl) hf with ⟨hcs, hx⟩ | ⟨a, len', cap', m, n, V0, V1, D0, D1, P0, P1, hcs, _, hl, hm, hmm, hx, hrow⟩
  · simp [Value.cells] at hcs
    obtain ⟨rfl, rfl, rfl⟩ := hcs
    exact ⟨none, 0, [], rfl, ⟨fun k hk => by simp at hk, Nat.zero_le _⟩, by simp⟩
  · simp [Value.cells] at hcs
    obtain ⟨rfl, rfl, rfl⟩ := hcs
    simp only [Prod.mk.injEq] at hx
    obtain ⟨rfl, rfl⟩ := hx
    simp only [if_true] at hmm
    subst hmm
    simp only [Rows.uptoBulk] at hbulk
    have hlen1 := bulk_len ((List.range len).map fun i => DataW.agg [D0 i, D1 i])
    simp only [List.length_map, List.length_range] at hlen1
    have each : ∀ i, i < len → ∃ e : ZE1, Rows.uptoBulk (D1 i) ≤ 1048576 ∧ e.xs.length ≤ Rows.uptoBulk (D1 i) ∧ V0 i = .bool e.g ∧ V1 i = .slice e.A e.xs.length e.c ∧ Zh W e.g e.A e.c e.xs e.z 1048576 := fun i hi => by
      obtain ⟨h1, h2, h3, h4⟩ := hrow i (by omega)
      obtain ⟨b, c0, _⟩ := DataW.trod_bool Tryz.underlying4 h3
      obtain ⟨a1, len1, cap1, c1⟩ := Go.Joins.slice_form Tryz.underlying26 h4
      have e0 := (List.cons.inj c0).1
      have e1 := (List.cons.inj c1).1
      rw [e1] at h4
      have hmem : DataW.agg [D0 i, D1 i] ∈ (List.range len).map fun i => DataW.agg [D0 i, D1 i] := List.mem_map.2 ⟨i, List.mem_range.2 hi, rfl⟩
      have hb1 : Rows.uptoBulk (D1 i) ≤ 1048576 := by
        have := bulk_part hmem
        have := bulk_pair (D0 i) (D1 i)
        omega
      obtain ⟨xs, rfl, hc, hdg, hr, hle⟩ := open_nat_t h4 (fun x hx => hlt x (List.mem_append_right _ (List.mem_flatMap.2 ⟨i, List.mem_range.2 (by omega), List.mem_append_right _ hx⟩))) (Rows.uptoBulk (D1 i)) (by omega) (fun elems spare e => by
        have h3 := bulk_len elems
        have h4 := bulk_len spare
        rw [e]
        simp only [Rows.uptoBulk]
        omega)
      exact ⟨⟨b, a1, cap1, xs, ivalN b (val 4294967296 xs)⟩, hb1, hle, e0, e1, ⟨⟨hdg, (abs_ival _ _).symm, hr, hc, by show xs.length ≤ _; omega⟩, by show ivalN _ _ = _; rw [abs_ival]⟩⟩
    obtain ⟨L, hL, hP⟩ := list_of_each len each
    subst hL
    refine ⟨some a, _, L, rfl, ⟨fun k hk => ?_, ?_⟩, by omega⟩
    · obtain ⟨b, off, spot⟩ := a
      have hspot : spot = none := by simpa [Addr.add] using World.cell?_spot (hrow 0 (by omega)).1
      subst hspot
      have hbW : b < W.heap.size := hlt (.cell b off) (List.mem_append_left _ (MemPlace.mem_row.2 ⟨0, by omega, by simp⟩))
      obtain ⟨_, _, e0, e1, hz⟩ := hP k hk
      obtain ⟨h1, h2, _, _⟩ := hrow k (by omega)
      rw [show (⟨b, off, none⟩ : Addr).add (k * 2) = ⟨b, off + k * 2, none⟩ from by unfold Addr.add; split <;> simp_all] at h1
      rw [show (⟨b, off, none⟩ : Addr).add (k * 2 + 1) = ⟨b, off + k * 2 + 1, none⟩ from by unfold Addr.add; split <;> simp_all [Nat.add_assoc]] at h2
      exact ⟨b, off, rfl, hbW, by rw [h1, e0], by rw [h2, e1], hz⟩
    · have := bulk_rows D0 D1 L (fun i hi => (hP i hi).2.1) L.length (Nat.le_refl _)
      omega
end
section
open Go.RowKit

theorem len_word (x : Nat) (w : World) (h : x < 18446744073709551616) : Calls Tryz.prog 122 #[.int .u64 (x : Int)] w fun e w' => e = .returned (.int .i64 (Lib.bitLen x : Int)) ∧ w = w' :=
  (Go.Proofs.Tryz.bits_Len (x : Int) w (by omega) (by omega)).mono fun _ _ ⟨he, hw⟩ => ⟨by rw [he]; simp, hw.symm⟩
theorem pow_half {a k : Nat} : a ^ (k / 2) * a ^ (k / 2) * (if k % 2 = 1 then a else 1) = a ^ k := by
  have h : k = k / 2 + k / 2 + k % 2 := by omega
  conv => rhs; rw [h, Nat.pow_add, Nat.pow_add]
  rcases Nat.mod_two_eq_zero_or_one k with e | e <;> rw [e] <;> simp
theorem shift_step (k i : Nat) : k / 2 ^ (i + 1) = k / 2 ^ i / 2 := by rw [Nat.pow_succ, Nat.div_div_eq_div_mul]
theorem pow_bit {a k i : Nat} : a ^ (k / 2 ^ (i + 1)) * a ^ (k / 2 ^ (i + 1)) * (if k / 2 ^ i % 2 = 1 then a else 1) = a ^ (k / 2 ^ i) := by rw [shift_step]; exact pow_half
theorem top_bit {k : Nat} (hk : 1 ≤ k) (h2 : k < 18446744073709551616) : 1 ≤ Lib.bitLen k ∧ Lib.bitLen k ≤ 64 ∧ k / 2 ^ (Lib.bitLen k - 1) = 1 := by
  obtain ⟨h3, h4, h5⟩ := bitLen_bounds k h2 (by omega)
  refine ⟨h3, bitLen_le64 k h2, ?_⟩
  have e : 2 ^ Lib.bitLen k = 2 ^ (Lib.bitLen k - 1) * 2 := by rw [← Nat.pow_succ]; congr 1; omega
  rw [e] at h5
  exact Nat.div_eq_of_lt_le (by omega) (by omega)
/-- What an operation on sizes answers: normal limbs in memory of its own. -/
def PwOut (w w' : World) (n : Nat) (e : Ending) : Prop := ∃ zs A' c', e = .returned (.slice A' zs.length c') ∧ Num 4294967296 zs n ∧ Res w' w.heap.size 61 A' c' (u32s zs) ∧ Below w.heap.size w w'
theorem Hv.mulP {w : World} {A A2 : Option Addr} {c c2 n k K J : Nat} {xs ys : List Nat} (h : Hv w A c xs n K) (h2 : Hv w A2 c2 ys k J) (hK : K ≤ 67108864) (hJ : J ≤ 67108864) : Calls Tryz.prog 44 #[.slice A xs.length c, .slice A2 ys.length c2] w fun e w' => PwOut w w' (n * k) e := by
  have hl1 := h.len
  have hl2 := h2.len
  have t1 := trimL_length_le xs
  have t2 := trimL_length_le ys
  have h9 := mul_any A A2 c c2 xs ys w w.heap.size h.rd h2.rd (Nat.le_refl _) h.dig h2.dig h.cap h2.cap (by omega) (by omega) (by omega)
  rwa [h.val_, h2.val_] at h9
theorem bit_flag (k i : Nat) (h : k < 4611686018427387904) : bits .and .i64 ((k : Int) / 2 ^ i) 1 = ((k / 2 ^ i % 2 : Nat) : Int) := by
  have hle : k / 2 ^ i ≤ k := Nat.div_le_self _ _
  rw [show (k : Int) / 2 ^ i = ((k / 2 ^ i : Nat) : Int) from by rw [Int.natCast_ediv, Int.natCast_pow]; rfl]
  obtain ⟨x, hx⟩ : ∃ x, x = k / 2 ^ i := ⟨_, rfl⟩
  rw [← hx] at hle ⊢
  have h3 : x &&& 1 < 2 ^ 1 := Nat.and_lt_two_pow _ (by omega)
  have h1 : (BitVec.ofInt 64 (x : Int)).toNat = x := by
    rw [BitVec.ofInt_natCast, BitVec.toNat_ofNat]; exact Nat.mod_eq_of_lt (by omega)
  have h2 : (BitVec.ofInt 64 1).toNat = 1 := by decide
  show IntKind.i64.wrap ((BitVec.ofInt 64 (x : Int) &&& BitVec.ofInt 64 1).toNat : Int) = _
  rw [BitVec.toNat_and, h1, h2, IntKind.wrap_i64, Nat.and_one_is_mod]
  omega

set_option maxHeartbeats 3200000 in
theorem power_any {A : Option Addr} {c : Nat} {ps : List Nat} {a k K N : Nat} {w : World} (h : Hv w A c ps a K) (hK : K ≤ 67108864) (ha : 1 ≤ a) (hk : 1 ≤ k) (hk2 : k < 4611686018427387904) (hN : a ^ k < 4294967296 ^ N) (hNb : N ≤ 67108864) :
    Calls Tryz.prog 85 #[.slice A ps.length c, .int .i64 (k : Int)] w fun e w' => PwOut w w' (a ^ k) e := by
  have hlen := h.len
  have hn : Num 4294967296 (trimL ps) a := by rw [← h.val_]; exact Num.of_trim h.dig
  have Hn := Lib.hid (norm_any A c ps w w.heap.size h.rd (Nat.le_refl _) h.cap (by omega))
  obtain ⟨qs, hqs⟩ : ∃ qs, qs = trimL ps := ⟨_, rfl⟩
  rw [← hqs] at hn Hn
  obtain ⟨hb1, hb2, hb3⟩ := top_bit hk (by omega)
  have BL : Hid (∀ W, Calls Tryz.prog 122 #[.int .u64 (k : Int)] W fun e w' => e = .returned (.int .i64 (Lib.bitLen k : Int)) ∧ W = w') := fun W => len_word k W (by omega)
  obtain ⟨bl, hbl⟩ : ∃ bl, bl = Lib.bitLen k := ⟨_, rfl⟩
  rw [← hbl] at hb1 hb2 hb3 BL
  have HT := Lib.hid hb3
  have HH := Lib.hid h
  have HN := Lib.hid hN
  clear h hN hb3 hbl hqs hlen
  go_enter Tryz.func85, Tryz.ntmps85
  go_wp2_with (first
    | (go_at_call 58; (with_reducible refine Hn.out.mono ?_); rintro e w1 ⟨A1, c1, rfl, hr1, hbel1⟩)
    | (go_at_call 122; (with_reducible refine (BL.out _).mono ?_); rintro e w' ⟨rfl, rfl⟩))
  obtain ⟨j0, rfl⟩ : ∃ j0, bl = j0 + 1 := ⟨bl - 1, by omega⟩
  rw [Nat.add_sub_cancel] at HT
  clear Hn BL
  go_loopw [5, 6] (fun ov iv wr => ∃ (j : Nat) (zn : List Nat) (An : Option Addr) (cn : Nat), j ≤ j0 ∧ iv = .int .i64 ((j : Int) - 1) ∧ ov = .slice An zn.length cn ∧ Num 4294967296 zn (a ^ (k / 2 ^ j)) ∧ Res wr w.heap.size 61 An cn (u32s zn) ∧ Below w.heap.size w wr) (fun _ iv _ => (intOf iv + 1).toNat)
  case atStart => exact ⟨j0, qs, A1, c1, Nat.le_refl _, by congr 1; omega, rfl, by rw [HT.out, Nat.pow_one]; exact hn, hr1, hbel1⟩
  case round =>
    obtain ⟨j, zn, An, cn, hj, rfl, rfl, hz, hr, hbel⟩ := hrel
    clear hn hr1 hbel1 HT
    cases j with
    | zero =>
      have e0 : k / 2 ^ 0 = k := by simp
      rw [e0] at hz
      have Hz := Lib.hid hz
      clear e0 hz
      go_wp2_with fail
      go_ret
      exact ⟨zn, An, cn, rfl, Hz.out, hr, hbel⟩
    | succ i =>
      have e1 : ((i + 1 : Nat) : Int) - 1 = (i : Int) := by omega
      rw [e1]
      have hpb := @pow_bit a k i
      have hle : a ^ (k / 2 ^ i) ≤ a ^ k := Nat.pow_le_pow_right ha (Nat.div_le_self _ _)
      have hN1 := HN.out
      obtain ⟨P, hP⟩ : ∃ P, P = a ^ (k / 2 ^ (i + 1)) := ⟨_, rfl⟩
      obtain ⟨Q, hQ⟩ : ∃ Q, Q = a ^ (k / 2 ^ i) := ⟨_, rfl⟩
      rw [← hP] at hz hpb
      rw [← hQ] at hpb hle
      have hP1 : 1 ≤ P := by rw [hP]; exact Nat.pow_pos (by omega)
      have hbit : (k / 2 ^ i) % 2 = 0 ∨ (k / 2 ^ i) % 2 = 1 := by omega
      have fl := bit_flag k i hk2
      have hi : i ≤ 63 := by omega
      obtain ⟨b, hb⟩ : ∃ b, b = k / 2 ^ i % 2 := ⟨_, rfl⟩
      rw [← hb] at fl hpb hbit
      have hPP : P * P ≤ Q := by
        rw [← hpb]
        refine Nat.le_mul_of_pos_right _ ?_
        split <;> omega
      have hPle : P ≤ P * P := Nat.le_mul_of_pos_left _ hP1
      have hHz : Hv wr An cn zn P N := Hv.of hz hr (by omega)
      have M1 := Lib.hid (hHz.mulP hHz hNb hNb)
      obtain ⟨S, hS⟩ : ∃ S, S = P * P := ⟨_, rfl⟩
      rw [← hS] at hpb M1 hPP
      have HQ := Lib.hid hQ
      have KB := Lib.hid hbel
      have SL : Hid (S < 4294967296 ^ N) := by show _ < _; omega
      clear hz hr hHz hP hQ hb hle hN1 hPP hPle hS hP1 hbel e1
      rcases hbit with rfl | rfl
      · have hSQ : Hid (S = Q) := by show _ = _; simpa using hpb
        clear hpb
        go_wp2_with (first
          | (go_at_call 44; (with_reducible refine M1.out.mono ?_); rintro e w2 ⟨zs, A2, c2, rfl, hz2, hr2, hb2⟩)
          | simp only [])
        have k2 : Below w.heap.size w w2 := KB.out.trans (hb2.mono KB.out.size)
        go_roundw
        case rel => exact ⟨i, zs, A2, c2, by omega, by go_num, rfl, by rw [← HQ.out, ← hSQ.out]; exact hz2, hr2.mono KB.out.size, k2⟩
        case measure => simp [intOf]
      · have hSQ : Hid (S * a = Q) := by show _ = _; simpa using hpb
        have M2 : Hid (∀ (zs : List Nat) (A2 : Option Addr) (c2 : Nat) (W : World), Below wr.heap.size wr W → Num 4294967296 zs S → Res W wr.heap.size 61 A2 c2 (u32s zs) → Calls Tryz.prog 44 #[.slice A2 zs.length c2, .slice A ps.length c] W fun e w' => PwOut W w' (S * a) e) := fun zs A2 c2 W hW hz2 hr2 =>
          (Hv.of hz2 hr2 SL.out).mulP (HH.out.next (KB.out.trans (hW.mono KB.out.size))) hNb hK
        clear hpb
        go_wp2_with (first
          | (go_at_call_of 44 (Value.slice An zn.length cn); (with_reducible refine M1.out.mono ?_); rintro e w2 ⟨zs, A2, c2, rfl, hz2, hr2, hb2⟩)
          | (go_at_call 44; (with_reducible refine (M2.out zs A2 c2 _ hb2 hz2 hr2).mono ?_); rintro e w3 ⟨zt, A3, c3, rfl, hz3, hr3, hb3⟩)
          | simp only [])
        have k2 : Below w.heap.size w w2 := KB.out.trans (hb2.mono KB.out.size)
        have k3 : Below w.heap.size w w3 := k2.trans (hb3.mono k2.size)
        go_roundw
        case rel => exact ⟨i, zt, A3, c3, by omega, by go_num, rfl, by rw [← HQ.out, ← hSQ.out]; exact hz3, hr3.mono k2.size, k3⟩
        case measure => simp [intOf]
end
section
open Go.RowKit

section
variable {w w' : World} {A A2 : Option Addr} {c c2 n k K J : Nat} {xs ys : List Nat}
theorem Hv.normP (h : Hv w A c xs n K) (hK : K ≤ 67108864) : Calls Tryz.prog 53 #[.slice A xs.length c] w fun e w' => PwOut w w' n e := by
  have hl1 := h.len
  refine (rnorm_any A c xs w w.heap.size h.rd (Nat.le_refl _) (by omega)).mono ?_
  rintro e w' ⟨A', c', rfl, hr, hb⟩
  exact ⟨_, A', c', rfl, by rw [← h.val_]; exact Num.of_trim h.dig, hr, hb⟩
theorem Hv.addP (h : Hv w A c xs n K) (h2 : Hv w A2 c2 ys k J) (hK : K ≤ 67108864) (hJ : J ≤ 67108864) : Calls Tryz.prog 80 #[.slice A xs.length c, .slice A2 ys.length c2] w fun e w' => PwOut w w' (n + k) e := by
  have hl1 := h.len
  have hl2 := h2.len
  have h9 := radd_any A A2 c c2 xs ys w w.heap.size h.rd h2.rd (Nat.le_refl _) h.dig h2.dig (by omega) (by omega)
  rwa [h.val_, h2.val_] at h9
theorem Hv.rmulP (h : Hv w A c xs n K) (h2 : Hv w A2 c2 ys k J) (hK : K ≤ 67108864) (hJ : J ≤ 67108864) : Calls Tryz.prog 79 #[.slice A xs.length c, .slice A2 ys.length c2] w fun e w' => PwOut w w' (n * k) e := by
  have hl1 := h.len
  have hl2 := h2.len
  have t1 := trimL_length_le xs
  have t2 := trimL_length_le ys
  have h9 := rmul_any A A2 c c2 xs ys w w.heap.size h.rd h2.rd (Nat.le_refl _) h.dig h2.dig (by omega) (by omega) (by omega)
  rwa [h.val_, h2.val_] at h9
theorem Hv.cmpP (h : Hv w A c xs n K) (h2 : Hv w A2 c2 ys k J) (hK : K ≤ 67108864) (hJ : J ≤ 67108864) : Calls Tryz.prog 81 #[.slice A xs.length c, .slice A2 ys.length c2] w fun e w' => e = .returned (.int .i64 (cmpN n k)) ∧ w = w' := by
  have hl1 := h.len
  have hl2 := h2.len
  have h9 := rcmp_any A A2 c c2 xs ys w w.heap.size h.rd h2.rd h.dig h2.dig (by omega) (by omega)
  rwa [h.val_, h2.val_] at h9
theorem Hv.lenP (h : Hv w A c xs n K) (hK : K ≤ 67108864) : Calls Tryz.prog 18 #[.slice A xs.length c] w fun e w' => e = .returned (.int .i64 (bitsOf n : Nat)) ∧ Below w.heap.size w w' := by
  have hl1 := h.len
  have h9 := rlen_any A c xs w w.heap.size h.rd (Nat.le_refl _) h.dig (by omega)
  rwa [h.val_] at h9
theorem Hv.leftP (h : Hv w A c xs n K) (hK : K ≤ 67108864) (m : Nat) (hm : m ≤ 17179869184) : Calls Tryz.prog 104 #[.slice A xs.length c, .int .i64 (m : Int)] w fun e w' => PwOut w w' (n * 2 ^ m) e := by
  have hl1 := h.len
  have t1 := trimL_length_le xs
  have h9 := rleft_any A c xs m (m / 32) (m % 32) w w.heap.size h.rd (Nat.le_refl _) h.dig (by omega) (by omega) (by omega) (by omega)
  rwa [h.val_] at h9
end
theorem PwOut.go {w w' : World} {n K : Nat} {e : Ending} (h : PwOut w w' n e) (hn : n < 4294967296 ^ K) : ∃ zs A' c', e = .returned (.slice A' zs.length c') ∧ Hv w' A' c' zs n K ∧ Num 4294967296 zs n ∧ Res w' w.heap.size 61 A' c' (u32s zs) ∧ Below w.heap.size w w' := by
  obtain ⟨zs, A', c', rfl, hz, hr, hb⟩ := h
  exact ⟨zs, A', c', rfl, Hv.of hz hr hn, hz, hr, hb⟩
theorem bits_lt {n : Nat} : n < 2 ^ bitsOf n := by
  unfold bitsOf
  split
  · subst_vars; decide
  · exact Nat.lt_log2_self
theorem bits_ge {n : Nat} (h : 0 < n) : 1 ≤ bitsOf n ∧ 2 ^ (bitsOf n - 1) ≤ n := by
  unfold bitsOf
  rw [if_neg (by omega)]
  exact ⟨by omega, Nat.log2_self_le (by omega)⟩
theorem bits_le_iff {n b : Nat} : bitsOf n ≤ b ↔ n < 2 ^ b := by
  constructor
  · intro h
    exact Nat.lt_of_lt_of_le bits_lt (Nat.pow_le_pow_right (by omega) h)
  · intro h
    rcases Nat.eq_zero_or_pos n with h0 | h0
    · subst h0; exact Nat.zero_le _
    · obtain ⟨h1, h2⟩ := bits_ge h0
      rcases Nat.lt_or_ge b (bitsOf n) with g | g
      · have : 2 ^ b ≤ 2 ^ (bitsOf n - 1) := Nat.pow_le_pow_right (by omega) (by omega)
        omega
      · exact g
theorem bits_limbs {n K : Nat} (h : n < 4294967296 ^ K) : bitsOf n ≤ 32 * K := by
  rw [bits_le_iff, Nat.pow_mul]
  exact h
end
end Go.Proofs.YtanlejlmckdeiaaGreatDoor
