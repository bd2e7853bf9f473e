/- The reference's Mul of layer 21; the law's copied. Conditions: the sizes. Plain algebra: a transform by halves and back over any commutative ring. No conditions. Plain algebra over Z modulo a number: sums, combinations of rows, systems with more unknowns than equations. Conditions: where a field is wanted, each number but 0 has an inverse. What the reduction keeps: the transform and its inverse, what they make of the matrix, the noughts. Conditions: p a prime. -/
import Derived.Test.YtbafiahmcfkboaaDoorPkHr28
namespace Go.Proofs.YtbafiahmcfkboaaDoor
section
open Go.RowKit

/-- The sum of the first products, each step below p. -/
def dtN (p : Nat) (E F : Mf) (i k : Nat) : Nat → Nat
  | 0 => 0
  | j + 1 => (dtN p E F i k j + (E i j % p) * (F j k % p)) % p
theorem dtN_lt {p : Nat} (hp : 0 < p) (E F : Mf) (i k : Nat) : ∀ j, dtN p E F i k j < p
  | 0 => hp
  | _ + 1 => Nat.mod_lt _ hp
def mlN (p n : Nat) (E F : Mf) : Mf := fun i k => dtN p E F i k n
theorem mtab_get {n : Nat} {E : Mf} {i : Nat} (h : i < n) : (mtab n n E)[i]'(by rw [mtab_length]; exact h) = (List.range n).map (E i) := by simp [mtab]
theorem mtab_take {n : Nat} {E : Mf} {i : Nat} (_ : i < n) : mtab (i + 1) n E = mtab i n E ++ [(List.range n).map (E i)] := by
  unfold mtab; rw [List.range_succ, List.map_append]; rfl

set_option maxRecDepth 20000 in
set_option maxHeartbeats 3200000 in
theorem rmul_any (p n : Nat) (A1 A2 : Option Addr) (c1 c2 : Nat) (E F : Mf) (w : World) (hp0 : 0 < p) (hp : p < 4294967296) (hn : n ≤ 1000) (h1 : RdM w w.heap.size A1 (mtab n n E)) (h2 : RdM w w.heap.size A2 (mtab n n F)) :
    Calls Tryd.prog 18 #[.slice A1 n c1, .slice A2 n c2, .int .u32 (p : Int)] w fun e w' => ∃ A' c', e = .returned (.slice A' n c') ∧ OwA w' w.heap.size w'.heap.size (.slice A' n c') (mtab n n (mlN p n E F)) ∧ Below w.heap.size w w' := by
  have H1 := Lib.hid h1
  have H2 := Lib.hid h2
  have t0 : ((p : Int) == 0) = false := beq_eq_false_iff_ne.2 (by omega)
  have hmr := fun W => mkRow n (by omega) W
  have HAT : Hid (∀ (W : World) A (G : Mf), RdM W w.heap.size A (mtab n n G) → ∀ i, i < n → ∃ b off Ai ci, A = some ⟨b, off, none⟩ ∧ W.cell? ⟨b, off + i, none⟩ = some (.slice Ai n ci) ∧ ∀ k, k < n → ∃ b2 o2, Ai = some ⟨b2, o2, none⟩ ∧ W.cell? ⟨b2, o2 + k, none⟩ = some (.int .u32 (G i k : Int))) := fun W A G h i hi => by
    obtain ⟨b, off, Ai, ci, e1, _, e2, _, _, e3⟩ := h.at_ (i := i) (by rw [mtab_length]; exact hi)
    rw [mtab_get hi] at e2 e3
    rw [List.length_map, List.length_range] at e2
    refine ⟨b, off, Ai, ci, e1, e2, fun k hk => ?_⟩
    obtain ⟨b2, o2, g1, _, g2⟩ := e3.at32 (k := k) (by simpa using hk)
    refine ⟨b2, o2, g1, ?_⟩
    rw [g2]; simp
  clear h1 h2
  go_enter Tryd.func18, Tryd.ntmps18
  go_wp2_with fail
  go_loopw [7, 15] (fun ov iv wr => ∃ (i : Nat) (Ao : Option Addr) (co : Nat), i ≤ n ∧ iv = .int .i64 (i : Int) ∧ ov = .slice Ao i co ∧ Hid (OwA wr w.heap.size wr.heap.size (.slice Ao i co) (mtab i n (mlN p n E F))) ∧ Hid (Below w.heap.size w wr)) (fun _ iv _ => n - (intOf iv).toNat)
  case atStart => exact ⟨0, none, 0, by omega, rfl, rfl, OwA.nil_ _ _ _, Below.refl _ _⟩
  case round =>
    obtain ⟨ws, rfl⟩ : ∃ ws, ws = wr := ⟨_, rfl⟩
    obtain ⟨i, Ao, co, hi, rfl, rfl, hoA, hbel⟩ := hrel
    by_cases hlt : i < n
    · go_upto_region 7 with (fail)
      have HK0 : Hid (Blk (ws.alloc (.cells (Array.replicate n (Value.int .u32 0)) 24)) ws.heap.size 24 (u32s (rowTo n (mlN p n E F i) 0))) := Blk.new_ (zeros_row n _)
      have HB0 : Hid (Below ws.heap.size ws (ws.alloc (.cells (Array.replicate n (Value.int .u32 0)) 24))) := (Below.refl _ _).alloc (Nat.le_refl _) _
      obtain ⟨W0, hW0⟩ : ∃ W0, W0 = ws.alloc (.cells (Array.replicate n (Value.int .u32 0)) 24) := ⟨_, rfl⟩
      rw [← hW0] at HK0 HB0 ⊢
      obtain ⟨g, hg⟩ : ∃ g, g = ws.heap.size := ⟨_, rfl⟩
      rw [← hg] at HK0 ⊢
      have Hg := Lib.hid hg
      clear hW0 hg
      go_loopw [23] (fun kv wr => ∃ (k : Nat), k ≤ n ∧ kv = .int .i64 (k : Int) ∧ Hid (Blk wr g 24 (u32s (rowTo n (mlN p n E F i) k))) ∧ Hid (Below ws.heap.size ws wr)) (fun kv _ => n - (intOf kv).toNat)
      case atStart => exact ⟨0, by omega, rfl, HK0.out, HB0.out⟩
      case round =>
        obtain ⟨wq, rfl⟩ : ∃ wq, wq = wr := ⟨_, rfl⟩
        obtain ⟨k, hk, rfl, hbk, hbq⟩ := hrel
        by_cases hkn : k < n
        · have HR1 : Hid (RdM wq w.heap.size A1 (mtab n n E)) := (H1.out.below hbel.out).below (hbq.out.mono hbel.out.size)
          have HR2 : Hid (RdM wq w.heap.size A2 (mtab n n F)) := (H2.out.below hbel.out).below (hbq.out.mono hbel.out.size)
          go_upto_region 11 with (fail)
          go_loopw [11, 28] (fun sv jv wr => ∃ (j : Nat), j ≤ n ∧ jv = .int .i64 (j : Int) ∧ sv = .int .u64 ((dtN p E F i k j : Nat) : Int) ∧ Hid (Dr wq wr)) (fun _ jv _ => n - (intOf jv).toNat)
          case atStart => exact ⟨0, by omega, rfl, rfl, Dr.refl _⟩
          case round =>
            obtain ⟨j, hj, rfl, rfl, hdr⟩ := hrel
            by_cases hjn : j < n
            · obtain ⟨b1, o1, Ai, ci, rfl, e1, e2⟩ := HAT.out wr A1 E (HR1.out.dr hdr.out) i hlt
              obtain ⟨b2, o2, rfl, e3⟩ := e2 j hjn
              obtain ⟨b3, o3, Aj, cj, rfl, f1, f2⟩ := HAT.out wr A2 F (HR2.out.dr hdr.out) j hjn
              obtain ⟨b4, o4, rfl, f3⟩ := f2 k hkn
              obtain ⟨x, hx⟩ : ∃ x, x = E i j := ⟨_, rfl⟩
              obtain ⟨y, hy⟩ : ∃ y, y = F j k := ⟨_, rfl⟩
              obtain ⟨x1, hx1⟩ : ∃ x1, x1 = x % p := ⟨_, rfl⟩
              obtain ⟨y1, hy1⟩ : ∃ y1, y1 = y % p := ⟨_, rfl⟩
              obtain ⟨s, hs⟩ : ∃ s, s = dtN p E F i k j := ⟨_, rfl⟩
              have hsp : s < p := by rw [hs]; exact dtN_lt hp0 _ _ _ _ _
              have hxp : x1 < p := by rw [hx1]; exact Nat.mod_lt _ hp0
              have hyp : y1 < p := by rw [hy1]; exact Nat.mod_lt _ hp0
              obtain ⟨m, hm⟩ : ∃ m, m = x1 * y1 := ⟨_, rfl⟩
              have hml : m ≤ 4294967295 * 4294967295 := by rw [hm]; exact Nat.mul_le_mul (by omega) (by omega)
              have hD : Hid (dtN p E F i k (j + 1) = (s + m) % p) := by show _ = _; rw [dtN, ← hs, ← hx, ← hy, ← hx1, ← hy1, hm]
              have t1 : (x : Int) % (p : Int) = (x1 : Int) := by rw [hx1]; simp
              have t2 : (y : Int) % (p : Int) = (y1 : Int) := by rw [hy1]; simp
              have t3 : (x1 : Int) * (y1 : Int) = (m : Int) := by rw [hm]; simp
              obtain ⟨u, hu⟩ : ∃ u, u = s + m := ⟨_, rfl⟩
              have t4 : (s : Int) + (m : Int) = (u : Int) := by omega
              obtain ⟨v, hv⟩ : ∃ v, v = u % p := ⟨_, rfl⟩
              have t5 : (u : Int) % (p : Int) = (v : Int) := by rw [hv]; simp
              have hD2 : Hid (dtN p E F i k (j + 1) = v) := by show _ = _; rw [hD.out, hv, hu]
              have hul : u < 18446744073709551616 := by omega
              have hvp : v < p := by rw [hv]; exact Nat.mod_lt _ hp0
              rw [← hx] at e3
              rw [← hy] at f3
              rw [← hs]
              clear e2 f2 hx hy hx1 hy1 hs hm hu hv hD
              go_upto_region 13 with (fail)
              go_quiet (fail)
              all_goals go_wp2_with fail
              all_goals go_roundw
              all_goals first
                | exact ⟨j + 1, by omega, by go_num, by rw [hD2.out, t5], hdr.out.trans ⟨_, rfl⟩⟩
                | (simp [intOf] <;> omega)
            · obtain rfl : j = n := by omega
              have hs2 := dtN_lt hp0 E F i k j
              have hml : mlN p j E F i k = dtN p E F i k j := rfl
              obtain ⟨s, hs⟩ : ∃ s, s = dtN p E F i k j := ⟨_, rfl⟩
              rw [← hs] at hml hs2 ⊢
              have c3 : wr.cell? ⟨g, k, none⟩ = some (.int .u32 0) := by
                obtain ⟨m, rfl⟩ := hdr.out
                exact (hbk.out.cell k).trans (rowTo_get hkn)
              have f3 : wr.frozen? ⟨g, k, none⟩ = false := by
                obtain ⟨m, rfl⟩ := hdr.out
                exact hbk.out.frozen k
              have hbk2 : Blk wr g 24 (u32s (rowTo j (mlN p j E F i) k)) := by
                obtain ⟨m, rfl⟩ := hdr.out
                exact hbk.out
              have hgl := hbk2.lt
              have hset := hbk2.set_ k (.int .u32 (s : Int))
              rw [rowTo_u32 hkn hml] at hset
              have Hset := Lib.hid hset
              have hs3 : s < 4294967296 := by omega
              clear hbk2 hset hml hs
              go_wp2
              go_roundw
              case rel => exact ⟨k + 1, by omega, by go_num, Hset.out, (hbq.out.trans (hdr.out.below _)).trans ((Ch.setCell (Ch.refl g _) _ _).below (by rw [Hg.out]; exact Nat.le_refl _))⟩
              case measure => simp [intOf]; omega
        · obtain rfl : k = n := by omega
          have hro9 : Ro wq ws.heap.size 24 (.slice (some ⟨g, 0, none⟩) k k) (u32s ((List.range k).map (mlN p k E F i))) := by
            have h := hbk.out
            rw [rowTo_all] at h
            have h2 := Ro.of_blk (B := ws.heap.size) h (by rw [Hg.out]; exact Nat.le_refl _) (by rw [u32s_length, List.length_map, List.length_range]; unfold maxLen; omega)
            rw [u32s_length, List.length_map, List.length_range] at h2
            exact h2
          obtain ⟨A9, c9, w9, hrun, hoA9, hb9⟩ := app_new hoA.out hbq.out hbel.out.size hro9 (by simp; omega) (by rw [mtab_length]; omega)
          rw [← mtab_take hlt, mtab_length] at hoA9
          rw [mtab_length] at hrun
          have Hrun := Lib.hid hrun
          clear hrun hbk
          go_wp2_with (first | (at_builtin; refine wpList_append_run rfl _ _ _ _ rfl _ _ rfl rfl _ _ Hrun.out ?_))
          go_roundw
          case rel => exact ⟨i + 1, A9, c9, by omega, by go_num, by go_num, hoA9, hbel.out.trans hb9⟩
          case measure => simp [intOf]; omega
    · obtain rfl : i = n := by omega
      go_wp2
      go_ret
      exact ⟨Ao, co, rfl, hoA.out, hbel.out⟩

set_option maxRecDepth 20000 in
set_option maxHeartbeats 3200000 in
theorem copied_any (A : Option Addr) (c : Nat) (M : List (List Nat)) (w : World) (hr : RdM w w.heap.size A M) (hm : M.length ≤ 1048576) (hwid : ∀ r ∈ M, r.length ≤ 1048576) :
    Calls Tryd.prog 7 #[.slice A M.length c] w fun e w' => ∃ A' c', e = .returned (.slice A' M.length c') ∧ OwA w' w.heap.size w'.heap.size (.slice A' M.length c') M ∧ Below w.heap.size w w' := by
  have Hwid := Lib.hid hwid
  have Hr := Lib.hid hr
  clear hwid hr
  go_enter Tryd.func7, Tryd.ntmps7
  go_wp2
  go_loopw [3, 8] (fun ov iv wr => ∃ (i : Nat) (Ao : Option Addr) (co : Nat), i ≤ M.length ∧ iv = .int .i64 (i : Int) ∧ ov = .slice Ao i co ∧ Hid (OwA wr w.heap.size wr.heap.size (.slice Ao i co) (M.take i)) ∧ Hid (Below w.heap.size w wr)) (fun _ iv _ => M.length - (intOf iv).toNat)
  case atStart => exact ⟨0, none, 0, by omega, rfl, rfl, OwA.nil_ _ _ _, Below.refl _ _⟩
  case round =>
    obtain ⟨ws, rfl⟩ : ∃ ws, ws = wr := ⟨_, rfl⟩
    obtain ⟨i, Ao, co, hi, rfl, rfl, hoA, hbel⟩ := hrel
    by_cases hlt : i < M.length
    · obtain ⟨b, off, Ai, ci, rfl, hb, hx, hl, hm1, hrd⟩ := (Hr.out.below hbel.out).at_ hlt
      have hwi := Hwid.out _ (List.getElem_mem hlt)
      have hsn : M.take (i + 1) = M.take i ++ [M[i]] := take_snoc hlt
      have htl : (M.take i).length = i := by rw [List.length_take]; omega
      obtain ⟨xs, hxs⟩ : ∃ xs, xs = M[i] := ⟨_, rfl⟩
      rw [← hxs] at hx hrd hl hm1 hwi hsn
      have Hsn := Lib.hid hsn
      have Htl := Lib.hid htl
      have HK0 : Blk (ws.alloc (.cells #[] 24)) ws.heap.size 24 (u32s []) := Blk.new_ rfl
      have HB0 : Below ws.heap.size ws (ws.alloc (.cells #[] 24)) := (Below.refl _ _).alloc (Nat.le_refl _) _
      have hro0 : Ro (ws.alloc (.cells #[] 24)) ws.heap.size 24 (.slice (some ⟨ws.heap.size, 0, none⟩) 0 0) (u32s []) := Ro.of_blk HK0 (Nat.le_refl _) (by simp [u32s])
      obtain ⟨A8, c8, w8, hrun8, hro8, hg8⟩ := app_u32s (ws.alloc (.cells #[] 24)) ws.heap.size (.slice (some ⟨ws.heap.size, 0, none⟩) 0 0) [] xs hro0 HB0.size Ai ci _ (hrd.below (HB0.mono hbel.out.size)) (by simp; omega)
      have hb8 : Below ws.heap.size ws w8 := HB0.trans (below_grown' hg8 hro0.block HB0.size)
      rw [List.nil_append] at hrun8 hro8
      obtain ⟨A9, c9, w9, hrun, hoA9, hb9⟩ := app_new hoA.out hb8 hbel.out.size hro8 (by omega) (by rw [Htl.out]; omega)
      rw [← Hsn.out, Htl.out] at hoA9
      rw [Htl.out] at hrun
      have Hrun8 := Lib.hid hrun8
      have Hrun := Lib.hid hrun
      obtain ⟨n, hn⟩ : ∃ n, n = xs.length := ⟨_, rfl⟩
      rw [← hn] at hx Hrun8 Hrun
      have HoA9 := Lib.hid hoA9
      have Hb9 := Lib.hid hb9
      clear hrun8 hrun hro8 hro0 HK0 HB0 hg8 hb8 hrd hxs hsn htl hn hoA9 hb9 hl hm1 hwi
      go_wp2_with (first
        | (at_builtin; refine wpList_append_run rfl _ _ _ _ rfl _ _ rfl rfl _ _ Hrun8.out ?_)
        | (at_builtin; refine wpList_append_run rfl _ _ _ _ rfl _ _ rfl rfl _ _ Hrun.out ?_))
      go_roundw
      case rel => exact ⟨i + 1, A9, c9, by omega, by go_num, by go_num, HoA9.out, hbel.out.trans Hb9.out⟩
      case measure => simp [intOf]; omega
    · have hie : i = M.length := by omega
      have hoA9 : OwA ws w.heap.size ws.heap.size (.slice Ao i co) M := by have h := hoA.out; rw [hie, List.take_length] at h; rw [hie]; exact h
      have Hie := Lib.hid hie
      clear hie
      go_wp2
      go_ret
      rw [← Hie.out]
      exact ⟨Ao, co, rfl, hoA9, hbel.out⟩
end
section
section Ring
variable {z9 : Nat} [NeZero z9]

def sm (f : Nat → Fin z9) : Nat → Fin z9
  | 0 => 0
  | n + 1 => sm f n + f n

theorem sm_congr {f g : Nat → Fin z9} (n : Nat) (h : ∀ i, i < n → f i = g i) : sm f n = sm g n := by
  induction n with
  | zero => rfl
  | succ n ih => simp only [sm, ih (fun i hi => h i (by omega)), h n (by omega)]
theorem sm_add (f g : Nat → Fin z9) (n : Nat) : sm (fun i => f i + g i) n = sm f n + sm g n := by
  induction n with
  | zero => simp only [sm]; grind
  | succ n ih => simp only [sm, ih]; grind
theorem sm_mul (c : Fin z9) (f : Nat → Fin z9) (n : Nat) : sm (fun i => c * f i) n = c * sm f n := by
  induction n with
  | zero => simp only [sm]; grind
  | succ n ih => simp only [sm, ih]; grind
theorem sm_split (f : Nat → Fin z9) (a b : Nat) : sm f (a + b) = sm f a + sm (fun i => f (a + i)) b := by
  induction b with
  | zero => simp only [sm, Nat.add_zero]; grind
  | succ n ih => rw [← Nat.add_assoc]; simp only [sm, ih]; grind
theorem sm_shift (f : Nat → Fin z9) (n : Nat) : sm f (n + 1) = f 0 + sm (fun i => f (i + 1)) n := by
  rw [Nat.add_comm, sm_split]
  simp only [sm, Nat.add_comm 1]; grind
theorem sm_zero (n : Nat) : sm (fun _ => (0 : Fin z9)) n = 0 := by
  induction n with
  | zero => rfl
  | succ n ih => simp only [sm, ih]; grind

theorem pw_zero (a : Fin z9) : a ^ 0 = 1 := by grind
theorem pw_succ (a : Fin z9) (n : Nat) : a ^ (n + 1) = a ^ n * a := by grind
theorem pw_add (a : Fin z9) (m n : Nat) : a ^ (m + n) = a ^ m * a ^ n := by
  induction n with
  | zero => rw [Nat.add_zero, pw_zero]; grind
  | succ n ih => rw [← Nat.add_assoc, pw_succ, pw_succ, ih]; grind
theorem pw_mul (a b : Fin z9) (n : Nat) : (a * b) ^ n = a ^ n * b ^ n := by
  induction n with
  | zero => rw [pw_zero, pw_zero, pw_zero]; grind
  | succ n ih => rw [pw_succ, pw_succ, pw_succ, ih]; grind
theorem pw_one (n : Nat) : (1 : Fin z9) ^ n = 1 := by
  induction n with
  | zero => rw [pw_zero]
  | succ n ih => rw [pw_succ, ih]; grind
theorem pw_pw (a : Fin z9) (m n : Nat) : a ^ (m * n) = (a ^ m) ^ n := by
  induction n with
  | zero => rw [Nat.mul_zero, pw_zero, pw_zero]
  | succ n ih => rw [Nat.mul_succ, pw_add, ih, pw_succ]

/-- One layer down: from blocks of 2 h to blocks of h. -/
def sLay (h : Nat) (rt : Nat → Fin z9) (x : Nat → Fin z9) : Nat → Fin z9 := fun j =>
  if j % (2 * h) < h then x j + x (j + h) else (x (j - h) - x j) * rt (j % (2 * h) - h)
/-- One layer up. -/
def gLay (h : Nat) (rt : Nat → Fin z9) (x : Nat → Fin z9) : Nat → Fin z9 := fun j =>
  if j % (2 * h) < h then x j + x (j + h) * rt (j % (2 * h)) else x (j - h) - x j * rt (j % (2 * h) - h)

theorem mod_low {h r i : Nat} (hi : i < h) : (2 * h * r + i) % (2 * h) = i := by
  rw [Nat.mul_add_mod, Nat.mod_eq_of_lt (by omega)]
theorem mod_high {h r i : Nat} (hi : i < h) : (2 * h * r + h + i) % (2 * h) = h + i := by
  rw [Nat.add_assoc, Nat.mul_add_mod, Nat.mod_eq_of_lt (by omega)]

theorem s_low (h r : Nat) (rt x : Nat → Fin z9) (t : Fin z9) (ht : t ^ h = 1) :
    sm (fun i => sLay h rt x (2 * h * r + i) * t ^ i) h = sm (fun i => x (2 * h * r + i) * t ^ i) (2 * h) := by
  rw [Nat.two_mul h, sm_split, ← sm_add]
  refine sm_congr h fun i hi => ?_
  have e : sLay h rt x ((h + h) * r + i) = x ((h + h) * r + i) + x ((h + h) * r + i + h) := by
    unfold sLay
    rw [← Nat.two_mul, mod_low hi, if_pos hi]
  rw [e, pw_add, ht, show (h + h) * r + (h + i) = (h + h) * r + i + h from by omega]
  grind
theorem s_high (h r : Nat) (rt x : Nat → Fin z9) (t w : Fin z9) (ht : t ^ h = 1) (hw : w ^ h = -1) (hrt : ∀ i, i < h → rt i = w ^ i) :
    sm (fun i => sLay h rt x (2 * h * r + h + i) * t ^ i) h = sm (fun i => x (2 * h * r + i) * (w * t) ^ i) (2 * h) := by
  rw [Nat.two_mul h, sm_split, ← sm_add]
  refine sm_congr h fun i hi => ?_
  have e : sLay h rt x ((h + h) * r + h + i) = (x ((h + h) * r + i) - x ((h + h) * r + h + i)) * w ^ i := by
    unfold sLay
    rw [← Nat.two_mul, mod_high hi, if_neg (by omega), show h + i - h = i from by omega, show 2 * h * r + h + i - h = 2 * h * r + i from by omega, hrt i hi]
  rw [e, pw_add, pw_mul, pw_mul, ht, hw, show (h + h) * r + (h + i) = (h + h) * r + h + i from by omega]
  grind

/-- All layers down from blocks of 2^k to blocks of 2^j: the roots of the layer of h are rts h. -/
def sAll (rts : Nat → Nat → Fin z9) (k : Nat) : Nat → (Nat → Fin z9) → (Nat → Fin z9)
  | 0, x => x
  | m + 1, x => sLay (2 ^ (k - 1 - m)) (rts (2 ^ (k - 1 - m))) (sAll rts k m x)

theorem s_eval (rts : Nat → Nat → Fin z9) (ws : Nat → Fin z9) (k : Nat) (hw : ∀ j, j < k → ws j ^ (2 ^ j) = -1) (hrt : ∀ j i, j < k → i < 2 ^ j → rts (2 ^ j) i = ws j ^ i) (m : Nat) (hm : m ≤ k) :
    ∀ r, r < 2 ^ m → ∃ c : Fin z9, ∀ (x : Nat → Fin z9) (t : Fin z9), t ^ 2 ^ (k - m) = 1 → sm (fun i => sAll rts k m x (2 ^ (k - m) * r + i) * t ^ i) (2 ^ (k - m)) = sm (fun i => x i * (c * t) ^ i) (2 ^ k) := by
  induction m with
  | zero =>
    intro r hr
    obtain rfl : r = 0 := by simpa using hr
    refine ⟨1, fun x t _ => ?_⟩
    rw [Nat.sub_zero]
    refine sm_congr _ fun i _ => ?_
    show x (2 ^ k * 0 + i) * t ^ i = _
    rw [show 2 ^ k * 0 + i = i from by omega, show (1 : Fin z9) * t = t from by grind]
  | succ m ih =>
    intro r hr
    obtain ⟨h, hh⟩ : ∃ h, h = 2 ^ (k - (m + 1)) := ⟨_, rfl⟩
    have e1 : 2 ^ (k - m) = 2 * h := by
      rw [hh, show k - m = k - (m + 1) + 1 from by omega, Nat.pow_succ]; omega
    have e2 : 2 ^ (k - 1 - m) = h := by rw [hh]; congr 1; omega
    have hw2 := hw (k - (m + 1)) (by omega)
    rw [← hh] at hw2
    have hrt2 : ∀ i, i < h → rts h i = ws (k - (m + 1)) ^ i := fun i hi => by
      rw [hh]; exact hrt _ i (by omega) (by rw [← hh]; exact hi)
    obtain ⟨c, hc⟩ := ih (by omega) (r / 2) (by rw [Nat.pow_succ] at hr; omega)
    rw [e1] at hc
    rw [← hh]
    have e3 : ∀ x, sAll rts k (m + 1) x = sLay h (rts h) (sAll rts k m x) := fun x => by
      show sLay (2 ^ (k - 1 - m)) (rts (2 ^ (k - 1 - m))) (sAll rts k m x) = _
      rw [e2]
    rcases Nat.mod_two_eq_zero_or_one r with h0 | h1
    · refine ⟨c, fun x t ht => ?_⟩
      rw [e3, ← hc x t (by rw [Nat.two_mul, pw_add, ht]; grind), ← s_low h (r / 2) (rts h) _ t ht]
      refine sm_congr _ fun i _ => ?_
      rw [show h * r = 2 * h * (r / 2) from by rw [Nat.mul_comm 2 h, Nat.mul_assoc]; congr 1; omega]
    · refine ⟨c * ws (k - (m + 1)), fun x t ht => ?_⟩
      have e4 : (c * ws (k - (m + 1)) * t) = c * (ws (k - (m + 1)) * t) := by grind
      rw [e3, e4, ← hc x (ws (k - (m + 1)) * t) (by rw [pw_mul, Nat.two_mul, pw_add, pw_add, ht, hw2]; grind), ← s_high h (r / 2) (rts h) _ t _ ht hw2 hrt2]
      refine sm_congr _ fun i _ => ?_
      rw [show h * r = 2 * h * (r / 2) + h from by rw [Nat.mul_comm 2 h, Nat.mul_assoc, ← Nat.mul_succ]; congr 1; omega]

/-- At the end, each place holds the polynomial's value at a point of its own. -/
theorem s_value (rts : Nat → Nat → Fin z9) (ws : Nat → Fin z9) (k : Nat) (hw : ∀ j, j < k → ws j ^ (2 ^ j) = -1) (hrt : ∀ j i, j < k → i < 2 ^ j → rts (2 ^ j) i = ws j ^ i) :
    ∀ r, r < 2 ^ k → ∃ c : Fin z9, ∀ x : Nat → Fin z9, sAll rts k k x r = sm (fun i => x i * c ^ i) (2 ^ k) := by
  intro r hr
  obtain ⟨c, hc⟩ := s_eval rts ws k hw hrt k (Nat.le_refl _) r hr
  refine ⟨c, fun x => ?_⟩
  have := hc x 1 (pw_one _)
  rw [Nat.sub_self, Nat.pow_zero] at this
  simp only [sm, Nat.one_mul, Nat.add_zero, pw_zero] at this
  rw [show c * 1 = c from by grind] at this
  rw [← this]; grind

theorem s_product (rts : Nat → Nat → Fin z9) (ws : Nat → Fin z9) (k : Nat) (hw : ∀ j, j < k → ws j ^ (2 ^ j) = -1) (hrt : ∀ j i, j < k → i < 2 ^ j → rts (2 ^ j) i = ws j ^ i)
    (x y z : Nat → Fin z9) (hz : ∀ t : Fin z9, sm (fun i => z i * t ^ i) (2 ^ k) = sm (fun i => x i * t ^ i) (2 ^ k) * sm (fun i => y i * t ^ i) (2 ^ k)) :
    ∀ r, r < 2 ^ k → sAll rts k k z r = sAll rts k k x r * sAll rts k k y r := by
  intro r hr
  obtain ⟨c, hc⟩ := s_value rts ws k hw hrt r hr
  rw [hc, hc, hc, hz]

theorem g_s (h : Nat) (rt ru x : Nat → Fin z9) (hh : 0 < h) (hrt : ∀ i, i < h → rt i * ru i = 1) (j : Nat) : gLay h ru (sLay h rt x) j = 2 * x j := by
  unfold gLay
  by_cases hj : j % (2 * h) < h
  · have e : (j + h) % (2 * h) = j % (2 * h) + h := by
      have h1 := Nat.div_add_mod j (2 * h)
      conv => lhs; rw [← h1]
      rw [Nat.add_assoc, Nat.mul_add_mod, Nat.mod_eq_of_lt (by omega)]
    rw [if_pos hj]
    unfold sLay
    rw [if_pos hj, e, if_neg (by omega), show j % (2 * h) + h - h = j % (2 * h) from by omega, show j + h - h = j from by omega]
    have := hrt _ hj
    grind
  · have h2 : j % (2 * h) < 2 * h := Nat.mod_lt _ (by omega)
    have h3 : h ≤ j := Nat.le_trans (by omega) (Nat.mod_le j (2 * h))
    have e : (j - h) % (2 * h) = j % (2 * h) - h := by
      have h1 := Nat.div_add_mod j (2 * h)
      rw [show j - h = 2 * h * (j / (2 * h)) + (j % (2 * h) - h) from by omega, Nat.mul_add_mod, Nat.mod_eq_of_lt (by omega)]
    rw [if_neg hj]
    unfold sLay
    rw [e, if_pos (by omega), if_neg hj, show j - h + h = j from by omega]
    have := hrt (j % (2 * h) - h) (by omega)
    grind
theorem g_mul (h : Nat) (ru : Nat → Fin z9) (c : Fin z9) (x : Nat → Fin z9) (j : Nat) : gLay h ru (fun i => c * x i) j = c * gLay h ru x j := by
  unfold gLay
  split <;> grind

/-- m layers up from blocks of one. -/
def gAll (rus : Nat → Nat → Fin z9) : Nat → (Nat → Fin z9) → (Nat → Fin z9)
  | 0, x => x
  | m + 1, x => gLay (2 ^ m) (rus (2 ^ m)) (gAll rus m x)

omit [NeZero z9] in
theorem gLay_congr (h : Nat) (ru x y : Nat → Fin z9) (e : ∀ j, x j = y j) : gLay h ru x = gLay h ru y := by
  have : x = y := funext e
  rw [this]
theorem g_all (rts rus : Nat → Nat → Fin z9) (k : Nat) (hrt : ∀ j i, j < k → i < 2 ^ j → rts (2 ^ j) i * rus (2 ^ j) i = 1) (x : Nat → Fin z9) (m : Nat) (hm : m ≤ k) :
    ∀ j, gAll rus m (sAll rts k k x) j = 2 ^ m * sAll rts k (k - m) x j := by
  induction m with
  | zero => intro j; rw [pw_zero]; show sAll rts k k x j = 1 * sAll rts k k x j; grind
  | succ m ih =>
    intro j
    show gLay (2 ^ m) (rus (2 ^ m)) (gAll rus m (sAll rts k k x)) j = _
    rw [gLay_congr _ _ _ _ (ih (by omega)), g_mul, show k - m = (k - (m + 1)) + 1 from by omega]
    show 2 ^ m * gLay (2 ^ m) (rus (2 ^ m)) (sLay (2 ^ (k - 1 - (k - (m + 1)))) (rts (2 ^ (k - 1 - (k - (m + 1))))) (sAll rts k (k - (m + 1)) x)) j = _
    rw [show k - 1 - (k - (m + 1)) = m from by omega, g_s _ _ _ _ (Nat.two_pow_pos m) (fun i hi => hrt m i (by omega) hi), pw_succ]
    grind
end Ring
end
section
section Lin
variable {z9 : Nat} [NeZero z9]

theorem sm_comm (f : Nat → Nat → Fin z9) (m n : Nat) : sm (fun i => sm (fun j => f i j) m) n = sm (fun j => sm (fun i => f i j) n) m := by
  induction n with
  | zero => simp only [sm]; rw [sm_zero]
  | succ n ih => simp only [sm, ih]; rw [← sm_add]
theorem sm_mulr (c : Fin z9) (f : Nat → Fin z9) (n : Nat) : sm (fun i => f i * c) n = sm f n * c := by
  rw [show sm f n * c = c * sm f n from by grind, ← sm_mul]
  exact sm_congr n fun i _ => by grind
theorem sm_none {f : Nat → Fin z9} (n : Nat) (h : ∀ i, i < n → f i = 0) : sm f n = 0 := by
  rw [sm_congr (g := fun _ => (0 : Fin z9)) n h, sm_zero]
theorem sm_one {f : Nat → Fin z9} {n k : Nat} (hk : k < n) (h : ∀ i, i < n → i ≠ k → f i = 0) : sm f n = f k := by
  induction n with
  | zero => omega
  | succ n ih =>
    simp only [sm]
    by_cases e : k = n
    · subst e
      rw [sm_none k (fun i hi => h i (by omega) (by omega))]; grind
    · rw [ih (by omega) (fun i hi hne => h i (by omega) hne), h n (by omega) (by omega)]; grind
theorem sm_sub (f g : Nat → Fin z9) (n : Nat) : sm (fun i => f i - g i) n = sm f n - sm g n := by
  induction n with
  | zero => simp only [sm]; grind
  | succ n ih => simp only [sm, ih]; grind
theorem sm_neg (f : Nat → Fin z9) (n : Nat) : sm (fun i => - f i) n = - sm f n := by
  induction n with
  | zero => simp only [sm]; grind
  | succ n ih => simp only [sm, ih]; grind

/-- All numbers but k. -/
def skip (k i : Nat) : Nat := if i < k then i else i + 1
theorem skip_ne (k i : Nat) : skip k i ≠ k := by unfold skip; split <;> omega
theorem skip_lt {k i n : Nat} (hi : i < n) : skip k i < n + 1 := by unfold skip; split <;> omega
theorem skip_of {k j n : Nat} (hj : j < n + 1) (hne : j ≠ k) (hk : k < n + 1) : ∃ i, i < n ∧ skip k i = j := by
  by_cases h : j < k
  · exact ⟨j, by omega, by unfold skip; rw [if_pos h]⟩
  · exact ⟨j - 1, by omega, by unfold skip; rw [if_neg (by omega)]; omega⟩
theorem sm_skip (f : Nat → Fin z9) (k n : Nat) (hk : k < n + 1) : sm f (n + 1) = f k + sm (fun i => f (skip k i)) n := by
  induction n with
  | zero =>
    obtain rfl : k = 0 := by omega
    simp only [sm]; grind
  | succ n ih =>
    by_cases e : k = n + 1
    · subst e
      show sm f (n + 1) + f (n + 1) = _
      have h1 : sm (fun i => f (skip (n + 1) i)) (n + 1) = sm f (n + 1) := sm_congr _ fun i hi => by unfold skip; rw [if_pos hi]
      rw [h1]; grind
    · show sm f (n + 1) + f (n + 1) = f k + (sm (fun i => f (skip k i)) n + f (skip k n))
      rw [ih (by omega)]
      have h1 : skip k n = n + 1 := by unfold skip; rw [if_neg (by omega)]
      rw [h1]; grind

/-- More unknowns than equations: there is something that is not nought. -/
theorem nontriv (h10 : (1 : Fin z9) ≠ 0) (hF : ∀ a : Fin z9, a ≠ 0 → ∃ b, a * b = 1) : ∀ (s r : Nat) (A : Nat → Nat → Fin z9), s < r → ∃ x : Nat → Fin z9, (∃ i, i < r ∧ x i ≠ 0) ∧ ∀ j, j < s → sm (fun i => x i * A i j) r = 0
  | 0, r, A, h => ⟨fun _ => 1, ⟨0, h, h10⟩, fun j hj => by omega⟩
  | s + 1, r, A, h => by
    by_cases hz : ∀ i, i < r → A i s = 0
    · obtain ⟨x, hx, hs⟩ := nontriv h10 hF s r A (by omega)
      refine ⟨x, hx, fun j hj => ?_⟩
      by_cases e : j = s
      · subst e
        exact sm_none r fun i hi => by rw [hz i hi]; grind
      · exact hs j (by omega)
    · obtain ⟨k, hk⟩ : ∃ k, ¬ (k < r → A k s = 0) := Classical.not_forall.1 hz
      have hkr : k < r := Classical.byContradiction fun h2 => hk fun h3 => absurd h3 h2
      have hk0 : A k s ≠ 0 := fun e => hk fun _ => e
      obtain ⟨b, hb⟩ := hF _ hk0
      obtain ⟨q, rfl⟩ : ∃ q, r = q + 1 := ⟨r - 1, by omega⟩
      obtain ⟨x, ⟨i0, hi0, hx0⟩, hs⟩ := nontriv h10 hF s q (fun i j => A (skip k i) j - A (skip k i) s * b * A k j) (by omega)
      obtain ⟨y, hy⟩ : ∃ y : Nat → Fin z9, ∀ i, y (skip k i) = x i ∧ y k = - sm (fun i => x i * (A (skip k i) s * b)) q := by
        refine ⟨fun j => if j = k then - sm (fun i => x i * (A (skip k i) s * b)) q else if j < k then x j else x (j - 1), fun i => ⟨?_, by simp⟩⟩
        simp only [if_neg (skip_ne k i)]
        unfold skip
        by_cases h : i < k
        · rw [if_pos h, if_pos h]
        · rw [if_neg h, if_neg (by omega)]; rfl
      refine ⟨y, ⟨skip k i0, skip_lt hi0, by rw [(hy i0).1]; exact hx0⟩, fun j hj => ?_⟩
      have key : sm (fun i => y i * A i j) (q + 1) = sm (fun i => x i * (A (skip k i) j - A (skip k i) s * b * A k j)) q := by
        rw [sm_skip _ k q (by omega), (hy 0).2]
        have e1 : sm (fun i => y (skip k i) * A (skip k i) j) q = sm (fun i => x i * A (skip k i) j) q := sm_congr q fun i _ => by rw [(hy i).1]
        rw [e1]
        have e2 : sm (fun i => x i * (A (skip k i) j - A (skip k i) s * b * A k j)) q = sm (fun i => x i * A (skip k i) j) q - sm (fun i => x i * (A (skip k i) s * b)) q * A k j := by
          rw [← sm_mulr, ← sm_sub]
          exact sm_congr q fun i _ => by grind
        rw [e2]; grind
      rw [key]
      by_cases e : j = s
      · subst e
        exact sm_none q fun i _ => by
          have : A (skip k i) j * b * A k j = A (skip k i) j := by grind
          rw [this]; grind
      · exact hs j (by omega)

/-- v is a combination of the first n rows. -/
def LC (n : Nat) (N : Nat → Nat → Fin z9) (v : Nat → Fin z9) : Prop := ∃ F : Nat → Fin z9, ∀ j, v j = sm (fun k => F k * N k j) n
theorem LC.row {n k : Nat} (N : Nat → Nat → Fin z9) (hk : k < n) : LC n N (N k) := ⟨fun i => if i = k then 1 else 0, fun j => by
  rw [sm_one hk (fun i _ hne => by simp only [if_neg hne]; grind)]
  simp only [if_true]; grind⟩
theorem LC.add {n : Nat} {N : Nat → Nat → Fin z9} {u v : Nat → Fin z9} (hu : LC n N u) (hv : LC n N v) (c d : Fin z9) : LC n N (fun j => c * u j + d * v j) := by
  obtain ⟨F, hF⟩ := hu
  obtain ⟨G, hG⟩ := hv
  refine ⟨fun k => c * F k + d * G k, fun j => ?_⟩
  show c * u j + d * v j = _
  rw [hF, hG, ← sm_mul, ← sm_mul, ← sm_add]
  exact sm_congr n fun i _ => by grind
theorem LC.congr {n : Nat} {N : Nat → Nat → Fin z9} {u v : Nat → Fin z9} (hu : LC n N u) (h : ∀ j, v j = u j) : LC n N v := by
  obtain ⟨F, hF⟩ := hu
  exact ⟨F, fun j => (h j).trans (hF j)⟩
theorem LC.trans {n m : Nat} {N N' : Nat → Nat → Fin z9} {v : Nat → Fin z9} (hv : LC n N v) (h : ∀ k, k < n → LC m N' (N k)) : LC m N' v := by
  obtain ⟨F, hF⟩ := hv
  have : ∃ G : Nat → Nat → Fin z9, ∀ k, k < n → ∀ j, N k j = sm (fun i => G k i * N' i j) m := by
    refine ⟨fun k => if hk : k < n then (h k hk).choose else fun _ => 0, fun k hk j => ?_⟩
    simp only [dif_pos hk]
    exact (h k hk).choose_spec j
  obtain ⟨G, hG⟩ := this
  refine ⟨fun i => sm (fun k => F k * G k i) n, fun j => ?_⟩
  rw [hF]
  have e1 : sm (fun k => F k * N k j) n = sm (fun k => sm (fun i => F k * G k i * N' i j) m) n := sm_congr n fun k hk => by
    rw [hG k hk j, ← sm_mul]
    exact sm_congr m fun i _ => by grind
  rw [e1, sm_comm]
  exact sm_congr m fun i _ => by rw [← sm_mulr]
/-- Rows behind r that are nought are not wanted. -/
theorem LC.cut {n r : Nat} {N : Nat → Nat → Fin z9} {v : Nat → Fin z9} (h : LC n N v) (hr : r ≤ n) (hz : ∀ i, r ≤ i → ∀ j, N i j = 0) : LC r N v := by
  obtain ⟨F, hF⟩ := h
  refine ⟨F, fun j => ?_⟩
  rw [hF, show n = r + (n - r) from by omega, sm_split, sm_none (n - r) (fun i _ => by rw [hz (r + i) (by omega)]; grind)]
  grind
/-- r rows that hold the identity in some columns are no combinations of fewer rows. -/
theorem rank_few (h10 : (1 : Fin z9) ≠ 0) (hF : ∀ a : Fin z9, a ≠ 0 → ∃ b, a * b = 1) {r s : Nat} {R D : Nat → Nat → Fin z9} {P : Nat → Nat} (hone : ∀ i l, i < r → l < r → R i (P l) = if i = l then 1 else 0)
    (h : ∀ i, i < r → LC s D (R i)) : r ≤ s := by
  refine Nat.le_of_not_lt fun hlt => ?_
  have : ∃ G : Nat → Nat → Fin z9, ∀ k, k < r → ∀ j, R k j = sm (fun i => G k i * D i j) s := by
    refine ⟨fun k => if hk : k < r then (h k hk).choose else fun _ => 0, fun k hk j => ?_⟩
    simp only [dif_pos hk]
    exact (h k hk).choose_spec j
  obtain ⟨G, hG⟩ := this
  obtain ⟨x, ⟨l, hl, hxl⟩, hs⟩ := nontriv h10 hF s r G hlt
  refine hxl ?_
  have e1 : sm (fun i => x i * R i (P l)) r = x l := by
    rw [sm_one hl (fun i hi hne => by rw [hone i l hi hl, if_neg hne]; grind), hone l l hl hl, if_pos rfl]; grind
  have e2 : sm (fun i => x i * R i (P l)) r = 0 := by
    have e3 : sm (fun i => x i * R i (P l)) r = sm (fun i => sm (fun t => x i * G i t * D t (P l)) s) r := sm_congr r fun i hi => by
      rw [hG i hi, ← sm_mul]
      exact sm_congr s fun t _ => by grind
    rw [e3, sm_comm]
    exact sm_none s fun t ht => by rw [sm_mulr, hs t ht]; grind
  rw [← e1, e2]
end Lin
end
section
open Go.RowKit

section
variable {p : Nat} [NeZero p]
def fz (p : Nat) [NeZero p] (x : Nat) : Fin p := Fin.ofNat p x
theorem fz_eq {x y : Nat} : fz p x = fz p y ↔ x % p = y % p := by
  unfold fz
  constructor
  · intro h
    have := congrArg Fin.val h
    simpa [Fin.ofNat] using this
  · intro h
    apply Fin.ext
    simpa [Fin.ofNat] using h
theorem fz_mod (x : Nat) : fz p (x % p) = fz p x := fz_eq.2 (Nat.mod_mod _ _)
theorem fz_add (x y : Nat) : fz p (x + y) = fz p x + fz p y := Fin.ext (by simp [fz, Fin.val_add])
theorem fz_mul (x y : Nat) : fz p (x * y) = fz p x * fz p y := Fin.ext (by simp [fz, Fin.val_mul])
theorem fz_zero : fz p 0 = 0 := rfl
theorem fz_one : fz p 1 = 1 := rfl
theorem fz_inj {x y : Nat} (hx : x < p) (hy : y < p) (h : fz p x = fz p y) : x = y := by
  have := fz_eq.1 h
  rwa [Nat.mod_eq_of_lt hx, Nat.mod_eq_of_lt hy] at this
theorem fz_self : fz p p = 0 := fz_eq.2 (by simp)
theorem fz_ng {c : Nat} (hc : c < p) : fz p (ngN p c) = - fz p c := by
  unfold ngN
  split
  · rename_i h; subst h; rw [fz_zero]; grind
  · have h : fz p (p - c) + fz p c = 0 := by rw [← fz_add, Nat.sub_add_cancel (by omega), fz_self]
    grind
theorem fz_pl (x y c : Nat) : fz p (plN p x y c) = fz p x + fz p y * fz p c := by
  unfold plN
  rw [fz_mod, fz_add, fz_mul]
theorem fz_dt (E F : Mf) (i k : Nat) : ∀ n, fz p (dtN p E F i k n) = sm (fun j => fz p (E i j) * fz p (F j k)) n
  | 0 => fz_zero
  | n + 1 => by
    rw [dtN, fz_mod, fz_add, fz_mul, fz_mod, fz_mod, fz_dt E F i k n]; rfl

theorem tr_tr (i k a : Nat) : tr i k (tr i k a) = a := by
  unfold tr; split <;> (try split) <;> (try split) <;> (try split) <;> omega
/-- Two terms exchanged. -/
theorem sm_tr (f : Nat → Fin p) {n i k : Nat} (hi : i < n) (hk : k < n) : sm (fun j => f (tr i k j)) n = sm f n := by
  by_cases hik : i = k
  · subst hik
    refine sm_congr _ fun j _ => ?_
    have : tr i i j = j := by unfold tr; split <;> (try split) <;> omega
    rw [this]
  · have e : ∀ j, j < n → f (tr i k j) = f j + ((if j = k then f i - f k else 0) + (if j = i then f k - f i else 0)) := fun j _ => by
      unfold tr
      by_cases h1 : j = k
      · subst h1
        rw [if_pos rfl, if_pos rfl, if_neg (fun e => hik e.symm)]; grind
      · rw [if_neg h1, if_neg h1]
        by_cases h2 : j = i
        · subst h2
          rw [if_pos rfl, if_pos rfl]; grind
        · rw [if_neg h2, if_neg h2]; grind
    rw [sm_congr _ e, sm_add, sm_add, sm_one hk (fun j _ hne => if_neg hne), sm_one hi (fun j _ hne => if_neg hne), if_pos rfl, if_pos rfl]
    grind

/-- The transform and its inverse, and what they make of M. -/
structure In (p : Nat) [NeZero p] (n : Nat) (M : Mf) (x : St) : Prop where
  one : ∀ a b, a < n → b < n → sm (fun j => fz p (x.s a j) * fz p (x.r j b)) n = if a = b then 1 else 0
  sim : ∀ a b, a < n → b < n → sm (fun l => sm (fun j => fz p (x.r a j) * fz p (M j l)) n * fz p (x.s l b)) n = fz p (x.h a b)
theorem In.start (n : Nat) (M : Mf) : In p n M ⟨M, idN, idN⟩ := by
  have hid : ∀ a b : Nat, fz p (idN a b) = if a = b then 1 else 0 := fun a b => by unfold idN; split <;> rfl
  refine ⟨fun a b ha hb => ?_, fun a b ha hb => ?_⟩
  · rw [sm_one (k := a) ha fun j _ hne => by rw [hid a j, if_neg (fun e => hne e.symm)]; grind]
    rw [hid, hid, if_pos rfl]; grind
  · have h1 : ∀ l, l < n → sm (fun j => fz p (idN a j) * fz p (M j l)) n * fz p (idN l b) = fz p (M a l) * (if l = b then 1 else 0) := fun l _ => by
      rw [sm_one (k := a) ha fun j _ hne => by rw [hid a j, if_neg (fun e => hne e.symm)]; grind]
      rw [hid, hid, if_pos rfl]; grind
    show sm (fun l => sm (fun j => fz p (idN a j) * fz p (M j l)) n * fz p (idN l b)) n = fz p (M a b)
    rw [sm_congr _ h1, sm_one (k := b) hb fun j _ hne => by rw [if_neg hne]; grind]
    rw [if_pos rfl]; grind
theorem In.ex {n i k : Nat} {M : Mf} {x : St} (h : In p n M x) (hi : i < n) (hk : k < n) : In p n M (exS i k x) := by
  refine ⟨fun a b ha hb => ?_, fun a b ha hb => ?_⟩
  · show sm (fun j => fz p (x.s a (tr i k j)) * fz p (x.r (tr i k j) b)) n = _
    rw [sm_tr (fun j => fz p (x.s a j) * fz p (x.r j b)) hi hk]
    exact h.one a b ha hb
  · exact h.sim _ _ (tr_lt hi hk ha) (tr_lt hi hk hb)
theorem In.sh {n i k c : Nat} {M : Mf} {x : St} (h : In p n M x) (hi : i < n) (hk : k < n) (hik : i ≠ k) (hc : c < p) : In p n M (shS p i k c x) := by
  have eS : ∀ a j, fz p (acN p k i c x.s a j) = fz p (x.s a j) + (if j = k then fz p (x.s a i) * fz p c else 0) := fun a j => by
    unfold acN
    split
    · rename_i e; rw [fz_pl, e]
    · grind
  have eR : ∀ a j, fz p (arN p i k (ngN p c) x.r a j) = fz p (x.r a j) + (if a = i then fz p (x.r k j) * - fz p c else 0) := fun a j => by
    unfold arN
    split
    · rename_i e; rw [fz_pl, fz_ng hc, e]
    · grind
  have eH : ∀ a b, fz p ((shS p i k c x).h a b) = (fz p (x.h a b) + (if a = i then fz p (x.h k b) * - fz p c else 0)) + (if b = k then (fz p (x.h a i) + (if a = i then fz p (x.h k i) * - fz p c else 0)) * fz p c else 0) := fun a b => by
    have e1 : ∀ a b, fz p (arN p i k (ngN p c) x.h a b) = fz p (x.h a b) + (if a = i then fz p (x.h k b) * - fz p c else 0) := fun a b => by
      unfold arN
      split
      · rename_i e; rw [fz_pl, fz_ng hc, e]
      · grind
    show fz p (acN p k i c (arN p i k (ngN p c) x.h) a b) = _
    unfold acN
    split
    · rename_i e; rw [fz_pl, e1, e1, e]
    · rw [e1]; grind
  refine ⟨fun a b ha hb => ?_, fun a b ha hb => ?_⟩
  · show sm (fun j => fz p (acN p k i c x.s a j) * fz p (arN p i k (ngN p c) x.r j b)) n = _
    have e : ∀ j, j < n → fz p (acN p k i c x.s a j) * fz p (arN p i k (ngN p c) x.r j b) = fz p (x.s a j) * fz p (x.r j b) + ((if j = k then fz p (x.s a i) * fz p c * fz p (x.r k b) else 0) + (if j = i then fz p (x.s a i) * (fz p (x.r k b) * - fz p c) else 0)) := fun j _ => by
      rw [eS, eR]
      by_cases h1 : j = k
      · subst h1
        rw [if_pos rfl, if_neg (Ne.symm hik), if_pos rfl, if_neg (Ne.symm hik)]; grind
      · rw [if_neg h1, if_neg h1]
        by_cases h2 : j = i
        · subst h2; rw [if_pos rfl, if_pos rfl]; grind
        · rw [if_neg h2, if_neg h2]; grind
    rw [sm_congr _ e, sm_add, sm_add, sm_one hk (fun j _ hne => if_neg hne), sm_one hi (fun j _ hne => if_neg hne), if_pos rfl, if_pos rfl, h.one a b ha hb]
    grind
  · show sm (fun l => sm (fun j => fz p (arN p i k (ngN p c) x.r a j) * fz p (M j l)) n * fz p (acN p k i c x.s l b)) n = _
    rw [eH]
    have e1 : ∀ l, l < n → sm (fun j => fz p (arN p i k (ngN p c) x.r a j) * fz p (M j l)) n = sm (fun j => fz p (x.r a j) * fz p (M j l)) n + (if a = i then - fz p c else 0) * sm (fun j => fz p (x.r k j) * fz p (M j l)) n := fun l _ => by
      rw [← sm_mul, ← sm_add]
      refine sm_congr _ fun j _ => ?_
      rw [eR]
      split <;> grind
    have e2 : ∀ l, l < n → sm (fun j => fz p (arN p i k (ngN p c) x.r a j) * fz p (M j l)) n * fz p (acN p k i c x.s l b) =
        (sm (fun j => fz p (x.r a j) * fz p (M j l)) n * fz p (x.s l b) + (if a = i then - fz p c else 0) * (sm (fun j => fz p (x.r k j) * fz p (M j l)) n * fz p (x.s l b))) +
        (if b = k then fz p c else 0) * (sm (fun j => fz p (x.r a j) * fz p (M j l)) n * fz p (x.s l i) + (if a = i then - fz p c else 0) * (sm (fun j => fz p (x.r k j) * fz p (M j l)) n * fz p (x.s l i))) := fun l hl => by
      rw [e1 l hl, eS]
      generalize sm (fun j => fz p (x.r a j) * fz p (M j l)) n = P
      generalize sm (fun j => fz p (x.r k j) * fz p (M j l)) n = Q
      by_cases h1 : a = i
      · rw [if_pos h1]
        by_cases h2 : b = k
        · rw [if_pos h2, if_pos h2]; grind
        · rw [if_neg h2, if_neg h2]; grind
      · rw [if_neg h1]
        by_cases h2 : b = k
        · rw [if_pos h2, if_pos h2]; grind
        · rw [if_neg h2, if_neg h2]; grind
    rw [sm_congr _ e2, sm_add, sm_add, sm_mul, sm_mul, sm_add, sm_mul, h.sim a b ha hb, h.sim k b hk hb, h.sim a i ha hi, h.sim k i hk hi]
    by_cases h1 : a = i
    · rw [if_pos h1, if_pos h1, if_pos h1]
      by_cases h2 : b = k
      · rw [if_pos h2, if_pos h2]; grind
      · rw [if_neg h2, if_neg h2]; grind
    · rw [if_neg h1, if_neg h1, if_neg h1]
      by_cases h2 : b = k
      · rw [if_pos h2, if_pos h2]; grind
      · rw [if_neg h2, if_neg h2]; grind

/-- A matrix on its way: what is kept of it. -/
structure Kp (p : Nat) [NeZero p] (n : Nat) (M : Mf) (x : St) : Prop where
  inn : In p n M x
  bh : Lt p n n x.h
  bs : Lt p n n x.s
  br : Lt p n n x.r
/-- Noughts below, in the first m columns. -/
def Hz (n : Nat) (H : Mf) (m : Nat) : Prop := ∀ i k, k < m → k + 1 < i → i < n → H i k = 0
theorem Kp.ex {n i k : Nat} {M : Mf} {x : St} (h : Kp p n M x) (hi : i < n) (hk : k < n) : Kp p n M (exS i k x) := ⟨h.inn.ex hi hk, xH h.bh hi hk, h.bs.trC hi hk, h.br.trR hi hk⟩
theorem Kp.sh {n i k c : Nat} {M : Mf} {x : St} (h : Kp p n M x) (hp : 0 < p) (hi : i < n) (hk : k < n) (hik : i ≠ k) (hc : c < p) : Kp p n M (shS p i k c x) := ⟨h.inn.sh hi hk hik hc, (h.bh.ar hp).ac hp, h.bs.ac hp, h.br.ar hp⟩
theorem pl_zero (p : Nat) (y c : Nat) (hy : y = 0) : plN p 0 y c = 0 := by subst hy; simp [plN]
omit [NeZero p] in
/-- A shear keeps the noughts ahead. -/
theorem Hz.sh {n i k c : Nat} {x : St} (h : Hz n x.h k) (_ : k + 1 < i) (hk : k + 1 < n) (hn : i < n) : Hz n (shS p i (k + 1) c x).h k := fun a b hb ha han => by
  show acN p (k + 1) i c (arN p i (k + 1) (ngN p c) x.h) a b = 0
  unfold acN
  rw [if_neg (by omega)]
  unfold arN
  split
  · rename_i e
    rw [h i b hb (by omega) hn]
    exact pl_zero p _ _ (h (k + 1) b hb (by omega) hk)
  · exact h a b hb ha han
theorem colS_ok {n k u z : Nat} {M : Mf} (hpr : Pr p) (hu : (z * u) % p = 1) (hk : k + 1 < n) : ∀ (m i : Nat) (x : St), i + m = n → k + 1 < i → Kp p n M x → Hz n x.h k → x.h (k + 1) k = z → (∀ t, k + 1 < t → t < i → x.h t k = 0) → Kp p n M (colS p k u m i x) ∧ Hz n (colS p k u m i x).h (k + 1)
  | 0, i, x, hm, hi, hK, hz, hp, hd => ⟨hK, fun a b hb ha han => by
    by_cases e : b = k
    · subst e; exact hd a ha (by omega)
    · exact hz a b (by omega) ha han⟩
  | m + 1, i, x, hm, hi, hK, hz, hp, hd => by
    have hin : i < n := by omega
    rw [colS]
    by_cases h0 : x.h i k = 0
    · rw [if_pos h0]
      refine colS_ok hpr hu hk m (i + 1) x (by omega) (by omega) hK hz hp fun t ht1 ht2 => ?_
      by_cases e : t = i
      · rw [e]; exact h0
      · exact hd t ht1 (by omega)
    · rw [if_neg h0]
      have hc := plN_lt hpr.pos 0 (x.h i k) u
      obtain ⟨c, hce⟩ : ∃ c, c = plN p 0 (x.h i k) u := ⟨_, rfl⟩
      rw [← hce] at hc ⊢
      have hcol : ∀ t, (shS p i (k + 1) c x).h t k = arN p i (k + 1) (ngN p c) x.h t k := fun t => by
        show acN p (k + 1) i c (arN p i (k + 1) (ngN p c) x.h) t k = _
        unfold acN
        rw [if_neg (by omega)]
      refine colS_ok hpr hu hk m (i + 1) _ (by omega) (by omega) (hK.sh hpr.pos hin hk (by omega) hc) (hz.sh hi hk hin) ?_ fun t ht1 ht2 => ?_
      · rw [hcol]
        unfold arN
        rw [if_neg (by omega)]; exact hp
      · rw [hcol]
        unfold arN
        by_cases e : t = i
        · rw [if_pos e, hp]
          refine fz_inj (p := p) (plN_lt hpr.pos _ _ _) hpr.pos ?_
          rw [fz_pl, fz_ng hc, hce, fz_pl, fz_zero]
          have h1 : fz p z * fz p u = 1 := by rw [← fz_mul]; exact fz_eq.2 (by rw [hu, Nat.mod_eq_of_lt hpr.two])
          have h2 : fz p z * -(0 + fz p (x.h i k) * fz p u) = - fz p (x.h i k) * (fz p z * fz p u) := by grind
          rw [h2, h1]; grind
        · rw [if_neg e]; exact hd t ht1 (by omega)
theorem pvS_all {E : Mf} {k : Nat} : ∀ {m j : Nat}, pvS E k m j = j + m → ∀ t, j ≤ t → t < j + m → E t k = 0
  | 0, j, _, t, h1, h2 => by omega
  | m + 1, j, h, t, h1, h2 => by
    unfold pvS at h
    split at h
    · rename_i h0
      by_cases e : t = j
      · rw [e]; exact h0
      · exact pvS_all (show pvS E k m (j + 1) = j + 1 + m by omega) t (by omega) (by omega)
    · omega
theorem stS_ok {n k : Nat} {M : Mf} {x : St} (hpr : Pr p) (hk : k + 1 < n) (hK : Kp p n M x) (hz : Hz n x.h k) : Kp p n M (stS p n k x) ∧ Hz n (stS p n k x).h (k + 1) := by
  unfold stS
  obtain ⟨h1, h2, h3⟩ := pvS_ge x.h k (n - (k + 1)) (k + 1)
  split
  · rename_i e
    refine ⟨hK, fun a b hb ha han => ?_⟩
    by_cases e2 : b = k
    · subst e2
      exact pvS_all (show pvS x.h b (n - (b + 1)) (b + 1) = b + 1 + (n - (b + 1)) by omega) a (by omega) (by omega)
    · exact hz a b (by omega) ha han
  · rename_i hne
    have h4 := h3 (by omega)
    obtain ⟨q, hq⟩ : ∃ q, q = pvS x.h k (n - (k + 1)) (k + 1) := ⟨_, rfl⟩
    rw [← hq] at h1 h2 h4 hne ⊢
    have hqn : q < n := by omega
    have hzq : (exS q (k + 1) x).h (k + 1) k = x.h q k := by
      show x.h (tr q (k + 1) (k + 1)) (tr q (k + 1) k) = _
      unfold tr
      rw [if_pos rfl, if_neg (by omega), if_neg (by omega)]
    rw [hzq]
    have hlt := hK.bh q k hqn (by omega)
    have hinv := hpr.inv_right (a := x.h q k) (fun hd => h4 (Nat.eq_zero_of_dvd_of_lt hd hlt))
    refine colS_ok (z := x.h q k) hpr hinv hk (n - (k + 2)) (k + 2) _ (by omega) (by omega) (hK.ex hqn hk) (fun a b hb ha han => ?_) hzq fun t h5 h6 => by omega
    show x.h (tr q (k + 1) a) (tr q (k + 1) b) = 0
    have e1 : tr q (k + 1) b = b := by unfold tr; rw [if_neg (by omega), if_neg (by omega)]
    rw [e1]
    refine hz _ b hb ?_ (tr_lt hqn hk han)
    unfold tr; split <;> (try split) <;> omega
theorem rdS_ok {n : Nat} {M : Mf} (hpr : Pr p) : ∀ (m k : Nat) (x : St), k + m + 1 = n → Kp p n M x → Hz n x.h k → Kp p n M (rdS p n m k x) ∧ Hz n (rdS p n m k x).h (k + m)
  | 0, _, _, _, hK, hz => ⟨hK, hz⟩
  | m + 1, k, x, hm, hK, hz => by
    obtain ⟨h1, h2⟩ := stS_ok hpr (by omega) hK hz
    have := rdS_ok hpr m (k + 1) (stS p n k x) (by omega) h1 h2
    rw [rdS, show k + (m + 1) = k + 1 + m by omega]
    exact this
end
end
end Go.Proofs.YtbafiahmcfkboaaDoor
