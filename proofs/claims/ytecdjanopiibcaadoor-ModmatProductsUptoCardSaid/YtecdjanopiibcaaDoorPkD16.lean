/- The reference's Identity, Dot, Mul and Pow. No conditions beyond the sizes. A drawn region whose head only reads and draws, in whatever order, and whose tail stands in one order: one walk serves. No conditions. The reference's Reduce. No conditions beyond the sizes. The reference's Det. No conditions beyond the sizes. -/
import Derived.Test.YtecdjanopiibcaaDoorPkD15
import Derived.StillTail
import Derived.StillTailTactics
import Derived.Deep.Quiet
import Derived.Deep.QuietTactic
import Derived.BigQuiet
namespace Go.Proofs.YtecdjanopiibcaaDoor
section
open Go.RowKit

theorem quietE {P : Program} {f : FuncId} {args : Array Value} {w : World} {n : Nat} {v : Value} (h : Calls P f args (w.drewN n) fun e w' => e = .returned v ∧ w' = w.drewN n) :
    Calls P f args (w.drewN n) fun e w'' => e = .returned v ∧ ∃ m, w'' = w.drewN m := h.mono fun _ _ ⟨he, hm⟩ => ⟨he, n, hm⟩
theorem quietAddE {P : Program} {f : FuncId} {args : Array Value} {w : World} {a n : Nat} {v : Value} (h : Calls P f args (w.drewN (a + n)) fun e w' => e = .returned v ∧ w' = w.drewN (a + n)) :
    Calls P f args (w.drewN (a + n)) fun e w'' => e = .returned v ∧ ∃ m, w'' = w.drewN (a + m) := h.mono fun _ _ ⟨he, hm⟩ => ⟨he, n, hm⟩

theorem idRow_eq {n i : Nat} : (List.replicate n 0).set i 1 = (List.range n).map (fun k => if i = k then 1 else 0) := by
  apply List.ext_getElem?
  intro k
  simp only [List.getElem?_set, List.getElem?_replicate, List.getElem?_map, List.length_replicate]
  by_cases hk : k < n
  · rw [List.getElem?_range hk]
    by_cases hik : i = k
    · subst hik; simp [hk]
    · simp [hik, hk]
  · rw [List.getElem?_eq_none (by simp; omega)]
    by_cases hik : i = k
    · subst hik; simp [hk]
    · simp [hik, hk]

set_option maxHeartbeats 1600000 in
theorem ridentity_any (n : Nat) (w : World) (hn : n ≤ 1099511627776) :
    Calls Tryd.prog 34 #[.int .i64 (n : Int)] w fun e w' => ∃ A' c', e = .returned (.slice A' n c') ∧ OwA w' w.heap.size w'.heap.size (.slice A' n c') (idN n) ∧ Below w.heap.size w w' := by
  have hmk := fun W => mkRow n (by omega) W
  obtain ⟨E, hE⟩ : ∃ E : Nat → Nat → Nat, E = fun i k => if i = k then 1 else 0 := ⟨_, rfl⟩
  have HE : Hid (E = fun i k => if i = k then 1 else 0) := hE
  unfold idN
  rw [← hE]
  clear hE
  go_enter Tryd.func34, Tryd.ntmps34
  go_wp2
  go_loopw [3, 7] (fun ov iv wr => ∃ (i : Nat) (Ao : Option Addr) (co : Nat), i ≤ n ∧ iv = .int .i64 (i : Int) ∧ ov = .slice Ao i co ∧ OwA wr w.heap.size wr.heap.size (.slice Ao i co) (mtab i n E) ∧ Below w.heap.size w wr) (fun _ iv _ => n - (intOf iv).toNat)
  case atStart => exact ⟨0, none, 0, by omega, rfl, rfl, OwA.nil_ _ _ _, Below.refl _ _⟩
  case round =>
    obtain ⟨i, Ao, co, hi, rfl, rfl, hoA, hbel⟩ := hrel
    by_cases hlt : i < n
    · obtain ⟨X, hX⟩ : ∃ X, X = wr.heap.size := ⟨_, rfl⟩
      obtain ⟨W1, hW1⟩ : ∃ W1, W1 = wr.alloc (.cells ((Array.replicate n (Value.int .u32 0)).setIfInBounds i (.int .u32 1)) 28) := ⟨_, rfl⟩
      have hbW1 : Below wr.heap.size wr W1 := by rw [hW1]; exact (Below.refl _ _).alloc (Nat.le_refl _) _
      have hrow : (List.range n).map (E i) = (List.replicate n 0).set i 1 := by rw [idRow_eq, HE.out]
      have hlen : ((List.range n).map (E i)).length = n := by simp
      have hkz : Blk W1 X 28 (u32s ((List.range n).map (E i))) := by
        rw [hW1, hX, hrow]
        refine Blk.new_ ?_
        apply Array.ext'
        simp [u32s, List.map_set]
      have hro : Ro W1 wr.heap.size 28 (.slice (some ⟨X, 0, none⟩) n n) (u32s ((List.range n).map (E i))) := by
        have h1 := Ro.of_blk (B := wr.heap.size) hkz (by omega) (by rw [u32s_length, hlen]; unfold maxLen; omega)
        rw [u32s_length, hlen] at h1; exact h1
      have htl : (mtab i n E).length = i := mtab_length _ _ _
      obtain ⟨A9, c9, w9, hrun, hoA9, hb9⟩ := app_new hoA hbW1 hbel.size hro (by rw [hlen]; omega) (by rw [htl]; omega)
      rw [htl] at hrun hoA9
      rw [← mtab_snoc] at hoA9
      have Hrun := Lib.hid hrun
      have HW1 := Lib.hid hW1
      have HX := Lib.hid hX
      clear hrun hro htl hkz hrow hlen hbW1 hW1 hX hoA
      go_upto_region 7 with (fail)
      rw [← HW1.out, ← HX.out]
      go_wp2_with (first | (at_builtin; refine wpList_append_run rfl _ _ _ _ rfl _ _ rfl rfl _ _ Hrun.out ?_))
      go_roundw
      case rel => exact ⟨i + 1, A9, c9, by omega, by go_num, by go_num, hoA9, hbel.trans hb9⟩
      case measure => simp [intOf]; omega
    · have hie : i = n := by omega
      have hge : n ≤ i := by omega
      subst hie
      go_wp2
      go_ret
      exact ⟨Ao, co, rfl, hoA, hbel⟩

theorem sum_step {p S a b : Nat} {T : Nat} (h : S = T % p) : (S + a * b % p) % p = (T + a * b) % p := by
  subst h; simp

set_option maxHeartbeats 800000 in
theorem rdot_any (p : Nat) (A A2 : Option Addr) (c c2 : Nat) (a b : List Nat) (w : World) (B B2 : Nat) (hp0 : 0 < p) (hp : p < 4294967296) (hr : Rd w B A (u32s a)) (hr2 : Rd w B2 A2 (u32s b)) (hl : a.length ≤ b.length) (ha : ∀ x ∈ a, x < 4294967296) (hb : ∀ x ∈ b, x < 4294967296) (hm : b.length ≤ 281474976710656) :
    Calls Tryd.prog 37 #[.slice A a.length c, .slice A2 b.length c2, .int .u32 (p : Int)] w fun e w' => e = .returned (.int .u32 (dotS a b % p : Nat)) ∧ Dr w w' := by
  have Hmul := Lib.hid (fun x y hx hy W => rmul_any x y p hx hy hp hp0 W)
  have Hadd := Lib.hid (fun x y hx hy W => radd_any x y p hx hy hp hp0 W)
  have Ha := Lib.hid ha
  have Hb := Lib.hid hb
  clear ha hb
  go_enter Tryd.func37, Tryd.ntmps37
  go_wp2
  go_loopw [7, 11] (fun sv iv wr => ∃ (S k : Nat), k ≤ a.length ∧ sv = .int .u32 (S : Int) ∧ iv = .int .i64 (k : Int) ∧ Hid (S = dotS (a.take k) (b.take k) % p) ∧ Dr w wr) (fun _ iv _ => a.length - (intOf iv).toNat)
  case atStart => exact ⟨0, 0, by omega, rfl, rfl, by show _ = _; simp [dotS], Dr.refl _⟩
  case round =>
    obtain ⟨S, k, hk, rfl, rfl, HS, hdr⟩ := hrel
    by_cases hlt : k < a.length
    · have hlt2 : k < b.length := by omega
      obtain ⟨b1, off1, rfl, hb1, hx0⟩ := hr.at32 hlt
      obtain ⟨b2, off2, rfl, hb2, hy0⟩ := hr2.at32 hlt2
      have hx := (hdr.cell ⟨b1, off1 + k, none⟩).trans hx0
      have hy := (hdr.cell ⟨b2, off2 + k, none⟩).trans hy0
      have hd := dotS_take hlt hlt2
      have hxl := Ha.out _ (List.getElem_mem hlt)
      have hyl := Hb.out _ (List.getElem_mem hlt2)
      have hSl : S < p := by rw [HS.out]; exact Nat.mod_lt _ hp0
      obtain ⟨x, hx9⟩ : ∃ x, x = a[k] := ⟨_, rfl⟩
      obtain ⟨y, hy9⟩ : ∃ y, y = b[k] := ⟨_, rfl⟩
      rw [← hx9] at hx hd hxl
      rw [← hy9] at hy hd hyl
      have hml : x * y % p < p := Nat.mod_lt _ hp0
      have h1 := fun W => Hmul.out x y hxl hyl W
      have h2 := fun W => Hadd.out S (x * y % p) (by omega) (by omega) W
      have hnew : (S + x * y % p) % p = dotS (a.take (k + 1)) (b.take (k + 1)) % p := by rw [hd]; exact sum_step HS.out
      obtain ⟨m, hmm⟩ : ∃ m, m = x * y % p := ⟨_, rfl⟩
      obtain ⟨t, ht⟩ : ∃ t, t = (S + m) % p := ⟨_, rfl⟩
      rw [← hmm] at h2 hnew
      rw [← ht] at hnew
      simp only [← hmm] at h1
      simp only [← ht] at h2
      have H1 := Lib.hid h1
      have H2 := Lib.hid h2
      have Hnew := Lib.hid hnew
      clear hx9 hy9 hd hx0 hy0 h1 h2 hnew hmm ht
      go_wp2_with fail
      go_quiet ((first
        | (go_at_call 47; first | exact quietE (H1.out _) | exact quietAddE (H1.out _))
        | (go_at_call 19; first | exact quietE (H2.out _) | exact quietAddE (H2.out _))))
      go_wp2_with fail
      go_roundw
      case rel => exact ⟨t, k + 1, by omega, rfl, by go_num, Hnew.out, hdr.step _⟩
      case measure => simp [intOf]; omega
    · have hke : k = a.length := by omega
      have hge : a.length ≤ k := by omega
      have HS2 : Hid (S = dotS a b % p) := by
        show _ = _
        rw [HS.out, hke, List.take_length]
        have e1 : dotS a (b.take a.length) = dotS a b := by
          unfold dotS
          conv => rhs; rw [← List.take_append_drop a.length b]
          rw [← List.append_nil a, List.zipWith_append (by simp; omega)]
          simp
        rw [e1]
      clear hke
      go_wp2
      go_ret
      exact ⟨by rw [← HS2.out]; rfl, hdr⟩

/-- What the reference's Mul makes. -/
def rmulN (p : Nat) (A B : List (List Nat)) : List (List Nat) := mtab A.length (cols B) fun i k => dotS (A.getD i []) ((rtrN p B).getD k []) % p
theorem rtrN_length (p : Nat) (M : List (List Nat)) : (rtrN p M).length = cols M := mtab_length _ _ _
theorem rtrN_row {p : Nat} {M : List (List Nat)} {k : Nat} (h : k < (rtrN p M).length) : (rtrN p M)[k].length = M.length := mtab_row _ (List.getElem_mem h)
theorem rtrN_dig {p : Nat} (hp : 0 < p) (M : List (List Nat)) : DigM p (rtrN p M) := mtab_dig fun _ _ _ _ => Nat.mod_lt _ hp

set_option maxHeartbeats 1600000 in
theorem rmulM_any (p : Nat) (A A2 : Option Addr) (c c2 : Nat) (M N : List (List Nat)) (w : World) (B : Nat) (hp0 : 0 < p) (hp : p < 4294967296) (hr : RdM w B A M) (hr2 : RdM w B A2 N) (hB : B ≤ w.heap.size) (hm : M.length ≤ 1099511627776) (hm2 : N.length ≤ 1099511627776) (hn : cols N ≤ 1099511627776) (hrect : Rect M) (hrect2 : Rect N) (hfit : cols M ≤ N.length) (hd : DigM 4294967296 M) :
    Calls Tryd.prog 45 #[.slice A M.length c, .slice A2 N.length c2, .int .u32 (p : Int)] w fun e w' => ∃ A' c', e = .returned (.slice A' M.length c') ∧ OwA w' w.heap.size w'.heap.size (.slice A' M.length c') (rmulN p M N) ∧ Below w.heap.size w w' := by
  have Htr := Lib.hid (rtrans_any p A2 c2 N w B hp0 hp hr2 hB (by omega) hn hrect2)
  have Hrect := Lib.hid hrect
  have Hd := Lib.hid hd
  obtain ⟨T, hT⟩ : ∃ T, T = rtrN p N := ⟨_, rfl⟩
  have hTl : T.length = cols N := by rw [hT]; exact rtrN_length _ _
  have hTr : ∀ k (h : k < T.length), T[k].length = N.length := fun k h => by subst hT; exact rtrN_row h
  have hTd : DigM p T := by rw [hT]; exact rtrN_dig hp0 N
  obtain ⟨E, hE⟩ : ∃ E : Nat → Nat → Nat, E = fun i k => dotS (M.getD i []) (T.getD k []) % p := ⟨_, rfl⟩
  have HE : Hid (E = fun i k => dotS (M.getD i []) (T.getD k []) % p) := hE
  unfold rmulN
  rw [← hT, ← hE]
  rw [← hT, ← hTl] at Htr
  rw [← hTl] at hn ⊢
  have HTr : Hid (∀ k (h : k < T.length), T[k].length = N.length) := hTr
  have HTd := Lib.hid hTd
  clear hrect hrect2 hd hE hT hTl hTr hTd hr2
  go_enter Tryd.func45, Tryd.ntmps45
  go_wp2_with (go_at_call 64; (with_reducible refine Htr.out.mono ?_); rintro e w1 ⟨A3, c3, rfl, hoT, hbT⟩)
  obtain ⟨-, hc3, hrT⟩ := hoT.rd (Nat.le_refl _)
  have hrM := (hr.below (hbT.mono hB)).mono (Nat.le_trans hB hbT.size)
  clear hoT hr Htr
  go_loopw [8, 19] (fun ov iv wr => ∃ (i : Nat) (Ao : Option Addr) (co : Nat), i ≤ M.length ∧ iv = .int .i64 (i : Int) ∧ ov = .slice Ao i co ∧ OwA wr w1.heap.size wr.heap.size (.slice Ao i co) (mtab i T.length E) ∧ Below w1.heap.size w1 wr) (fun _ iv _ => M.length - (intOf iv).toNat)
  case atStart => exact ⟨0, none, 0, by omega, rfl, rfl, OwA.nil_ _ _ _, Below.refl _ _⟩
  case round =>
    obtain ⟨i, Ao, co, hi, rfl, rfl, hoA, hbel⟩ := hrel
    by_cases hlt : i < M.length
    · obtain ⟨b, off, Ai, ci, rfl, hb, hx, hl, hm1, hrdi⟩ := (hrM.below hbel).at_ hlt
      have hwi : M[i].length = cols M := Hrect.out.at_ i hlt
      have hMi : M.getD i [] = M[i] := getD_at hlt
      have hdi := Hd.out _ (List.getElem_mem hlt)
      obtain ⟨xs, hxs⟩ : ∃ xs, xs = M[i] := ⟨_, rfl⟩
      rw [← hxs] at hx hl hm1 hrdi hwi hMi hdi
      have hEi : ∀ k (h : k < T.length), E i k = dotS xs T[k] % p := fun k h => by rw [HE.out]; simp only [hMi, getD_at h]
      have HEi := Lib.hid hEi
      obtain ⟨ws, hws⟩ : ∃ ws, ws = wr := ⟨_, rfl⟩
      have Hws := Lib.hid hws
      have HoA := Lib.hid hoA
      have hrds : Rd ws ws.heap.size Ai (u32s xs) := by rw [hws]; exact hrdi.mono hbel.size
      have hrTs : RdM ws ws.heap.size A3 T := by rw [hws]; exact (hrT.below hbel).mono hbel.size
      have Hbel := Lib.hid hbel
      have Hdi := Lib.hid hdi
      have hxl : xs.length ≤ N.length := by omega
      clear hoA hbel hrdi hxs hMi hdi hEi hwi
      go_wp2_with fail
      have hb0 : Below ws.heap.size ws wr := by rw [hws]; exact Below.refl _ _
      clear hws
      go_loopw [11, 25] (fun rv kv wq => ∃ (k : Nat) (Ar : Option Addr) (cr : Nat), k ≤ T.length ∧ kv = .int .i64 (k : Int) ∧ rv = .slice Ar k cr ∧ Ro wq ws.heap.size 28 (.slice Ar k cr) (u32s ((List.range k).map (E i))) ∧ Below ws.heap.size ws wq) (fun _ kv _ => T.length - (intOf kv).toNat)
      case atStart => exact ⟨0, none, 0, by omega, rfl, rfl, Ro.nil_ _ _ _, hb0⟩
      case round =>
        clear hb0
        obtain ⟨k, Ar, cr, hk, rfl, rfl, hro, hbq⟩ := hrel
        by_cases hkl : k < T.length
        · obtain ⟨b2, off2, Ak, ck, rfl, hb2, hx2, hl2, hm2', hrdk⟩ := (hrTs.below hbq).at_ hkl
          have hTk := HTr.out k hkl
          have hdk : ∀ x ∈ T[k], x < 4294967296 := fun x hx => Nat.lt_trans (HTd.out _ (List.getElem_mem hkl) x hx) hp
          have hsn : (List.range (k + 1)).map (E i) = (List.range k).map (E i) ++ [E i k] := by rw [List.range_succ, List.map_append]; rfl
          have hrl : ((List.range k).map (E i)).length = k := by simp
          have hEk := HEi.out k hkl
          obtain ⟨ys, hys⟩ : ∃ ys, ys = T[k] := ⟨_, rfl⟩
          rw [← hys] at hx2 hl2 hm2' hrdk hTk hdk hEk
          have Hdot := Lib.hid (rdot_any p Ai Ak ci ck xs ys wr ws.heap.size ws.heap.size hp0 hp (hrds.below hbq) hrdk (by rw [hTk]; exact hxl) Hdi.out hdk hm2')
          rw [← hEk] at Hdot
          obtain ⟨y, hy⟩ : ∃ y, y = E i k := ⟨_, rfl⟩
          rw [← hy] at hsn Hdot
          have Happ : Hid (∀ W, Dr wr W → ∃ A9 c9 w9, (Builtin.append_ #[37, 37] 37 #[.slice Ar k cr, .slice (some ⟨W.heap.size, 0, none⟩) 1 1]).run Tryd.prog (W.alloc (.cells #[.int .u32 (y : Int)] 28)) = .ok (.slice A9 (k + 1) c9) w9 ∧ Ro w9 ws.heap.size 28 (.slice A9 (k + 1) c9) (u32s ((List.range (k + 1)).map (E i))) ∧ Below ws.heap.size ws w9) := fun W hW => by
            obtain ⟨A9, c9, w9, h1, h2, h3⟩ := app_u32 W ws.heap.size (.slice Ar k cr) ((List.range k).map (E i)) y (hro.below (hW.below wr.heap.size) (Nat.le_refl _)) (by rw [hW.heap]; exact hbq.size) (by omega)
            rw [← hsn, hrl] at h2
            rw [hrl] at h1
            exact ⟨A9, c9, w9, h1, h2, (hbq.trans (hW.below _)).trans h3⟩
          clear hys hsn hrl hy hro hEk hTk hdk hrdk
          go_wp2_with (first
            | (go_at_call 37; (with_reducible refine Hdot.out.mono ?_); rintro e w4 ⟨rfl, hd4⟩; obtain ⟨A9, c9, w9, hrun, hro9, hb9⟩ := Happ.out _ hd4; have Hrun := Lib.hid hrun; clear hrun)
            | (at_builtin; refine wpList_append_run rfl _ _ _ _ rfl _ _ rfl rfl _ _ Hrun.out ?_))
          go_roundw
          case rel => exact ⟨k + 1, A9, c9, by omega, by go_num, by go_num, hro9, hb9⟩
          case measure => simp [intOf]; omega
        · have hke : k = T.length := by omega
          rw [← Hws.out] at HoA Hbel
          have htl : (mtab i T.length E).length = i := mtab_length _ _ _
          obtain ⟨A9, c9, w9, hrun, hoA9, hb9⟩ := app_new HoA.out hbq Hbel.out.size hro (by simp; omega) (by rw [htl]; omega)
          rw [htl] at hrun hoA9
          have hoA9 : OwA w9 w1.heap.size w9.heap.size (.slice A9 (i + 1) c9) (mtab (i + 1) T.length E) := by rw [mtab_snoc, ← hke]; rw [← hke] at hoA9; exact hoA9
          have Hrun := Lib.hid hrun
          have hge : T.length ≤ k := by omega
          clear hke hrun hro htl
          go_wp2_with (first | (at_builtin; refine wpList_append_run rfl _ _ _ _ rfl _ _ rfl rfl _ _ Hrun.out ?_))
          go_roundw
          case rel => exact ⟨i + 1, A9, c9, by omega, by go_num, by go_num, hoA9, Hbel.out.trans hb9⟩
          case measure => simp [intOf]; omega
    · have hie : i = M.length := by omega
      have hge : M.length ≤ i := by omega
      have Hie := Lib.hid hie
      have HoA : Hid (OwA wr w1.heap.size wr.heap.size (.slice Ao M.length co) (mtab M.length T.length E)) := by show OwA _ _ _ _ _; rw [hie] at hoA; exact hoA
      clear hie hoA
      go_wp2
      go_ret
      refine ⟨Ao, co, ?_, HoA.out.lowB hbT.size, hbT.trans (hbel.mono hbT.size)⟩
      rw [← Hie.out]; rfl

theorem dotS_mod {p : Nat} (xs ys zs : List Nat) (h : ∀ k, (ys.getD k 0) % p = (zs.getD k 0) % p) (hl : ys.length = zs.length) : dotS xs ys % p = dotS xs zs % p := by
  induction xs generalizing ys zs with
  | nil => simp [dotS]
  | cons x xs ih =>
    cases ys with
    | nil => cases zs with
      | nil => rfl
      | cons _ _ => simp at hl
    | cons y ys => cases zs with
      | nil => simp at hl
      | cons z zs =>
        have h0 := h 0
        have h1 := ih ys zs (fun k => by have := h (k + 1); simpa using this) (by simpa using hl)
        simp only [dotS, List.zipWith_cons_cons, List.sum_cons] at h1 ⊢
        simp only [List.getD_cons_zero] at h0
        rw [Nat.add_mod, Nat.mul_mod, h0, ← Nat.mul_mod, h1, ← Nat.add_mod]
theorem rmulN_eq (p : Nat) (A B : List (List Nat)) : rmulN p A B = mulN p A B := by
  unfold rmulN mulN mtab
  apply List.map_congr_left
  intro i _
  apply List.map_congr_left
  intro k hk
  have hk : k < cols B := by simpa using hk
  refine dotS_mod _ _ _ (fun j => ?_) ?_
  · simp only [rtrN, trN, mtab, List.getD_eq_getElem?_getD, List.getElem?_map, List.getElem?_range hk, Option.map_some, Option.getD_some]
    by_cases hj : j < B.length
    · rw [List.getElem?_range hj]; simp
    · rw [List.getElem?_eq_none (by simp; omega)]; simp
  · simp [rtrN, trN, mtab, List.getD_eq_getElem?_getD, List.getElem?_range hk]

theorem rnormN_eq {p : Nat} {M : List (List Nat)} (h : Rect M) : rnormN p M = modN p M := by
  apply List.ext_getElem (by rw [rnormN_length, modN_length])
  intro i h1 h2
  have hi : i < M.length := by rw [rnormN_length] at h1; exact h1
  simp only [rnormN, modN, mtab, List.getElem_map, List.getElem_range, nrm]
  apply List.ext_getElem (by simp [h.at_ i hi])
  intro k k1 k2
  have hk : k < M[i].length := by simpa using k1
  simp only [List.getElem_map, List.getElem_range, ent_at hi hk]

set_option maxHeartbeats 1600000 in
set_option maxRecDepth 100000 in
theorem rpowM_any (p x : Nat) (A : Option Addr) (c : Nat) (M : List (List Nat)) (w : World) (B : Nat) (hp1 : 1 < p) (hp : p < 4294967296) (hr : RdM w B A M) (hB : B ≤ w.heap.size) (hm : M.length ≤ 1099511627776) (hrect : Rect M) (hsq : Sq M) (hx : x < 18446744073709551616) :
    Calls Tryd.prog 20 #[.slice A M.length c, .int .u64 (x : Int), .int .u32 (p : Int)] w fun e w' => ∃ A' c', e = .returned (.slice A' M.length c') ∧ M.length ≤ c' ∧ RdM w' w'.heap.size A' (powN p (idN M.length) (modN p M) x) ∧ Below w.heap.size w w' := by
  have hp0 : 0 < p := by omega
  have hnn := hsq.1
  have Hid1 := Lib.hid (ridentity_any M.length w hm)
  have Hnorm : Hid (∀ W, Below w.heap.size w W → Calls Tryd.prog 44 #[.slice A M.length c, .int .u32 (p : Int)] W fun e w' => ∃ A' c', e = .returned (.slice A' M.length c') ∧ OwA w' W.heap.size w'.heap.size (.slice A' M.length c') (modN p M) ∧ Below W.heap.size W w') := fun W hW => by
    have h1 := rnorm_any p A c M W B hp0 hp (hr.below (hW.mono hB)) (Nat.le_trans hB hW.size) hm (fun r hr => by rw [hrect r hr, ← hsq.2]; omega)
    rw [rnormN_eq hrect] at h1
    exact h1
  have hNs := modN_sqr (p := p) hp0 hsq
  obtain ⟨N, hN⟩ : ∃ N, N = modN p M := ⟨_, rfl⟩
  rw [← hN] at hNs Hnorm ⊢
  obtain ⟨n, hn⟩ : ∃ n, n = M.length := ⟨_, rfl⟩
  rw [← hn] at Hnorm Hid1 hNs hm hnn ⊢
  obtain ⟨R, hR⟩ : ∃ R, R = powN p (idN n) N x := ⟨_, rfl⟩
  rw [← hR]
  have HR := Lib.hid hR
  have hid := idN_sqr (p := p) (n := n) hp1
  clear hrect hsq hN hR hn hr
  go_enter Tryd.func20, Tryd.ntmps20
  go_wp2_with (first
    | (go_at_call 34; (with_reducible refine Hid1.out.mono ?_); rintro e w1 ⟨A1, c1, rfl, ho1, hq1⟩)
    | (go_at_call 44; (with_reducible refine (Hnorm.out _ hq1).mono ?_); rintro e w2 ⟨A2, c2, rfl, ho2, hq2⟩))
  obtain ⟨-, hc1, hr1⟩ := ho1.rd (Nat.le_refl _)
  obtain ⟨-, hc2, hr2⟩ := ho2.rd (Nat.le_refl _)
  rw [hid.len] at hc1
  rw [hNs.len] at hc2
  have hr1 := (hr1.below hq2).mono hq2.size
  have hbel0 : Below w.heap.size w w2 := hq1.trans (hq2.mono hq1.size)
  clear ho1 ho2 hq1 hq2
  go_loopw [0, 1, 7] (fun mv ev ov wr => ∃ (m o : List (List Nat)) (y : Nat) (Am Ao : Option Addr) (cm co : Nat), y < 18446744073709551616 ∧ mv = .slice Am n cm ∧ ev = .int .u64 (y : Int) ∧ ov = .slice Ao n co ∧ n ≤ cm ∧ n ≤ co ∧ Sqr p n m ∧ Sqr p n o ∧ RdM wr wr.heap.size Am m ∧ RdM wr wr.heap.size Ao o ∧ Hid (powN p o m y = R) ∧ Below w2.heap.size w2 wr) (fun _ ev _ _ => (intOf ev).toNat)
  case atStart => exact ⟨N, idN n, x, _, _, _, _, hx, rfl, rfl, rfl, hc2, hc1, hNs, hid, hr2, hr1, by show _ = _; rw [HR.out], Below.refl _ _⟩
  case round =>
    clear hr1 hr2 hid hNs hc1 hc2
    obtain ⟨m, o, y, Am, Ao, cm, co, hy, rfl, rfl, rfl, hcm, hco, hm', ho, hrm, hro, Hrel, hbel⟩ := hrel
    by_cases hy0 : y = 0
    · have hRo : Hid (o = R) := by show _ = _; rw [← Hrel.out, hy0, powN_zero]
      have t0 : ¬ (0 < y) := by omega
      clear hy0
      go_wp2_with fail
      go_ret
      exact ⟨Ao, co, rfl, hco, by rw [← hRo.out]; exact hro, hbel0.trans (hbel.mono hbel0.size)⟩
    · have hst := powN_step p o m hy0
      rw [Hrel.out] at hst
      have Hst := Lib.hid hst
      obtain ⟨z, hz⟩ : ∃ z, z = y / 2 := ⟨_, rfl⟩
      rw [← hz] at Hst
      have t1 : (y : Int) / 2 = (z : Int) := by omega
      have hzl : z < y := by omega
      have Hm2 : Hid (∀ W, Below wr.heap.size wr W → Calls Tryd.prog 45 #[.slice Am n cm, .slice Am n cm, .int .u32 (p : Int)] W fun e w' => ∃ A' c', e = .returned (.slice A' n c') ∧ n ≤ c' ∧ RdM w' w'.heap.size A' (mulN p m m) ∧ Below W.heap.size W w') := fun W hW => by
        have h9 := rmulM_any p Am Am cm cm m m W wr.heap.size hp0 hp (hrm.below hW) (hrm.below hW) hW.size (by rw [hm'.len]; exact hm) (by rw [hm'.len]; exact hm) (by rw [hm'.cols hnn]; exact hm) (hm'.rect hnn) (hm'.rect hnn) (by rw [hm'.cols hnn, hm'.len]; exact Nat.le_refl _) (hm'.dig hp)
        rw [hm'.len, rmulN_eq] at h9
        refine h9.mono ?_
        rintro e w' ⟨A', c', h1, h2, h3⟩
        obtain ⟨-, h5, h6⟩ := h2.rd (Nat.le_refl _)
        rw [mulN_length, hm'.len] at h5
        exact ⟨A', c', h1, h5, h6, h3⟩
      have hm2 := hm'.mul_ hm' hnn hp0
      by_cases hc : y % 2 = 1
      · rw [if_pos hc] at Hst
        have t2 : ((y : Int) % 2 == 1) = true := by simp; omega
        have Ho2 : Hid (Calls Tryd.prog 45 #[.slice Ao n co, .slice Am n cm, .int .u32 (p : Int)] wr fun e w' => ∃ A' c', e = .returned (.slice A' n c') ∧ n ≤ c' ∧ RdM w' w'.heap.size A' (mulN p o m) ∧ Below wr.heap.size wr w') := by
          have h9 := rmulM_any p Ao Am co cm o m wr wr.heap.size hp0 hp hro hrm (Nat.le_refl _) (by rw [ho.len]; exact hm) (by rw [hm'.len]; exact hm) (by rw [hm'.cols hnn]; exact hm) (ho.rect hnn) (hm'.rect hnn) (by rw [ho.cols hnn, hm'.len]; exact Nat.le_refl _) (ho.dig hp)
          rw [hm'.len, ho.len, rmulN_eq] at h9
          refine h9.mono ?_
          rintro e w' ⟨A', c', h1, h2, h3⟩
          obtain ⟨-, h5, h6⟩ := h2.rd (Nat.le_refl _)
          rw [mulN_length, ho.len] at h5
          exact ⟨A', c', h1, h5, h6, h3⟩
        have ho2 := ho.mul_ hm' hnn hp0
        clear hc hst hz hm' hrm hro ho
        go_upto_region 6 with (go_at_call 45; (with_reducible refine Ho2.out.mono ?_); rintro e w3 ⟨A3, c3, rfl, hc3, hw3, hq3⟩)
        go_wp2_with (go_at_call 45; (with_reducible refine (Hm2.out _ hq3).mono ?_); rintro e w4 ⟨A4, c4, rfl, hc4, hw4, hq4⟩)
        go_roundw
        case rel => exact ⟨mulN p m m, mulN p o m, z, _, _, _, _, by omega, rfl, rfl, rfl, hc4, hc3, hm2, ho2, hw4, (hw3.below hq4).mono hq4.size, Hst.out.symm, hbel.trans ((hq3.trans (hq4.mono hq3.size)).mono hbel.size)⟩
        case measure => simp [intOf]; omega
      · rw [if_neg hc] at Hst
        have t2 : ((y : Int) % 2 == 1) = false := by simp; omega
        clear hc hst hz
        go_wp2_with (go_at_call 45; (with_reducible refine (Hm2.out _ (Below.refl _ _)).mono ?_); rintro e w4 ⟨A4, c4, rfl, hc4, hw4, hq4⟩)
        go_roundw
        case rel => exact ⟨mulN p m m, o, z, _, _, _, _, by omega, rfl, rfl, rfl, hc4, hco, hm2, ho, hw4, (hro.below hq4).mono hq4.size, Hst.out.symm, hbel.trans (hq4.mono hbel.size)⟩
        case measure => simp [intOf]; omega
end
section
open Go

/-- Whatever order the head comes up in; L holds behind it. -/
def HeadQ (P : Program) (md : Region.Mode) (ops : Array Oper) (C : World → Prop) (n : Nat) (L : Array Bool → Act → Prop) : Nat → Array Bool → Act → Prop
  | 0, ls, a => L ls a
  | f + 1, ls, a => Region.ready md ops ls ≠ [] ∧ ∀ i ∈ Region.ready md ops ls, i < n ∧ qOp P ops C i (HeadQ P md ops C n L f (ls.setIfInBounds i true)) a

section
variable {P : Program} {md : Region.Mode} {ops : Array Oper} {C : World → Prop} {n : Nat}

theorem HeadQ.any {g : Nat} {L : Array Bool → Act → Prop} {Q : Exit → Act → World → Prop} (hL : ∀ ls a W, C W → L ls a → wpAny P md ops Q g ls a W) :
    ∀ f ls a W, C W → HeadQ P md ops C n L f ls a → wpAny P md ops Q (f + g) ls a W
  | 0, ls, a, W, hW, h => by rw [Nat.zero_add]; exact hL ls a W hW h
  | f + 1, ls, a, W, hW, h => by
    rw [show f + 1 + g = (f + g) + 1 from by omega]
    exact ⟨fun h0 => absurd h0 h.1, fun i hi => wpOp_of_qOp hW (fun a' W' hW' h' => HeadQ.any hL f _ a' W' hW' h') (h.2 i hi).2⟩

theorem HeadQ.first {i : Nat} {o : Oper} {v : Value} {L : Array Bool → Act → Prop} (ho : ops[i]? = some o) (hsel : Region.noSelect ops = true)
    (hs : Region.sinkB md ops n = true) (hc : Region.chainB md ops n = true) (hn : n < ops.size) (hin : i < n) (hend : ∀ ls a, L ls a → ∀ j ∈ Region.ready md ops ls, n ≤ j) :
    ∀ f ls a, HeadInv md ops n ls → (∀ j oj, ops[j]? = some oj → j ≠ i → ls.getD j true = false → (∀ e ∈ oj.after, Region.binds md e = true → e.on ≠ i) → o.apart ops oj = true) →
      i ∈ Region.ready md ops ls → YieldsIn P ops C o v a → HeadQ P md ops C n L f (ls.setIfInBounds i true) (a.put o.dst v) → HeadQ P md ops C n L (f + 1) ls a := by
  intro f
  induction f with
  | zero =>
    intro ls a inv _ hr hy H
    have hun := (mem_ready.1 hr).1
    refine ⟨fun h => (by rw [h] at hr; cases hr), fun j hj => ?_⟩
    have hjn : j < n := (Nat.lt_or_ge j n).resolve_right fun h => absurd hj (tail_waits hs hc hn inv _ i rfl hin hun j h)
    refine ⟨hjn, ?_⟩
    by_cases hji : j = i
    · subst hji; exact hy.qOp ho H
    · exact absurd (hend _ _ H j (ready_mono hj hji)) (by omega)
  | succ f ih =>
    intro ls a inv hfree hr hy H
    have hun := (mem_ready.1 hr).1
    refine ⟨fun h => (by rw [h] at hr; cases hr), fun j hj => ?_⟩
    have hjn : j < n := (Nat.lt_or_ge j n).resolve_right fun h => absurd hj (tail_waits hs hc hn inv _ i rfl hin hun j h)
    refine ⟨hjn, ?_⟩
    by_cases hji : j = i
    · subst hji; exact hy.qOp ho H
    · have h1 := (H.2 j (ready_mono hj hji)).2
      obtain ⟨hjun, oj, hoj, hall⟩ := mem_ready.1 hj
      have hno : ∀ e ∈ oj.after, Region.binds md e = true → e.on ≠ i := fun e he hb heq => by
        have h2 := hall e he hb
        rw [heq, getD_both hun] at h2
        cases h2
      have h2 := qOp_put hoj (hfree j oj hoj hji hjun hno) (fun cs b => Region.noSelect_spec hsel i o cs b ho) (fun cs b => Region.noSelect_spec hsel j oj cs b hoj) hy h1
      refine qOp_mono (fun a' h3 => ih (ls.setIfInBounds j true) a' (inv.set hj hjn) (fun k ok hk hki hku hkn => hfree k ok hk hki ?_ hkn) (ready_mono hr (Ne.symm hji)) h3.1 ?_) h2
      · by_cases hjk : j = k
        · subst hjk; exact hjun
        · rw [getD_set_ne true hjk] at hku; exact hku
      · rw [Array.setIfInBounds_comm _ _ hji]; exact h3.2

theorem HeadQ.lex {g : Nat} {Lq : Act → Prop} (hsel : Region.noSelect ops = true) (hs : Region.sinkB md ops n = true) (hc : Region.chainB md ops n = true) (hn : n < ops.size) :
    ∀ (l : List Oper) k ls a, (∀ j, j < l.length → l[j]? = ops[k + j]?) → k + l.length = n → HeadInv md ops n ls → Region.lexHead md ops g l.length k ls = true → wpQuiet P ops C Lq l a →
      HeadQ P md ops C n (fun ls' a' => Region.seqB md ops g n ls' = true ∧ Lq a') l.length ls a
  | [], k, ls, a, _, hk, _, hB, h => by
    obtain rfl : k = n := by simpa using hk
    exact ⟨by simpa [Region.lexHead] using hB, h⟩
  | o :: l, k, ls, a, hl, hk, inv, hB, h => by
    have h0 : ops[k]? = some o := by simpa using (hl 0 (by simp)).symm
    simp only [List.length_cons, Region.lexHead, Bool.and_eq_true] at hB
    obtain ⟨⟨hr, hf⟩, hB'⟩ := hB
    have hkn : k < n := by simp only [List.length_cons] at hk; omega
    have hr' : k ∈ Region.ready md ops ls := by simpa using hr
    have hq : qOp P ops C k (wpQuiet P ops C Lq l) a := by unfold qOp; simp only [h0]; exact h
    obtain ⟨v, hy, hK⟩ := yieldsIn_of_qOp h0 hq
    refine HeadQ.first h0 hsel hs hc hn hkn (fun ls' a' hL => seqB_ready hL.1) l.length ls a inv (Region.free_spec h0 hf) hr' hy ?_
    exact HeadQ.lex hsel hs hc hn l (k + 1) _ _ (fun j hj => by have := hl (j + 1) (by simp; omega); simpa [Nat.add_assoc, Nat.add_comm 1 j] using this) (by simp only [List.length_cons] at hk; omega) (inv.set hr' hkn) hB' hK
end

/-- The class of worlds is any: each operation of the head is quiet in it; the tail is walked from any world of it. -/
theorem region_class_tail {P : Program} {C : World → Prop} {id : Nat} {Q : Exit → Act → World → Prop} {a : Act} {w : World} {l : List Oper} (n : Nat) (hm : P.follows .mixedOrders = true) (hB : Region.lexTailB .any l.toArray n = true) (hC : C (w.drewN 1))
    (h : wpQuiet P l.toArray C (fun a' => ∀ w', C w' → wpList P l.toArray Q (l.drop n) a' w') (l.take n) a) : (Code.region id l.toArray true).wp P Q a w := by
  simp only [Region.lexTailB, Bool.and_eq_true, decide_eq_true_eq] at hB
  obtain ⟨⟨⟨⟨hsel, hn⟩, hs⟩, hc⟩, hlex⟩ := hB
  have hn' : n < l.length := by simpa using hn
  have htl : (l.take n).length = n := by rw [List.length_take]; omega
  have hdl : (l.drop n).length = l.toArray.size - n := by simp
  have inv0 : HeadInv .any l.toArray n (Array.replicate l.toArray.size false) :=
    ⟨by simp, fun j oj _ hl => (by rw [getD_replicate_false] at hl; cases hl), fun t _ ht => getD_in (by simpa using ht) (getD_replicate_false _ _)⟩
  have H := HeadQ.lex (md := .any) (g := l.toArray.size - n) hsel hs hc hn (l.take n) 0 _ a (fun j hj => by
    have hj' : j < n := by rw [htl] at hj; exact hj
    simp [hj']) (by simpa using htl) inv0 (by rw [htl]; exact hlex) h
  refine wp_region_any hm ?_
  have hfin := HeadQ.any (Q := Q) (g := l.toArray.size - n) (fun ls a' W hW hL => by
    have h1 := wpAny_of_seq (md := .any) (Q' := Q) (l.drop n) n ls a' W (fun j => by simp [List.getElem?_drop]) (by rw [hdl]; exact hL.1) (hL.2 W hW)
    rwa [hdl] at h1) _ _ _ (w.drewN 1) hC H
  rw [htl, show n + (l.toArray.size - n) = l.toArray.size from by omega] at hfin
  exact hfin

/-- At the class 'some draws behind w'. -/
theorem region_quiet_tail {P : Program} {id : Nat} {Q : Exit → Act → World → Prop} {a : Act} {w : World} {l : List Oper} (n : Nat) (hm : P.follows .mixedOrders = true) (hB : Region.lexTailB .any l.toArray n = true)
    (h : wpQuiet P l.toArray (fun w' => ∃ n, w' = w.drewN n) (fun a' => ∀ w', (∃ n, w' = w.drewN n) → wpList P l.toArray Q (l.drop n) a' w') (l.take n) a) : (Code.region id l.toArray true).wp P Q a w :=
  region_class_tail n hm hB ⟨1, rfl⟩ h
end
section
open Go.RowKit

theorem comp_mod {p r : Nat} (hr : r ≤ p) (a : Nat) (h : (a + r) % p = 0) : a % p = (p - r) % p := by
  have h1 : (a + r + (p - r)) % p = a % p := by rw [Nat.add_assoc, Nat.add_sub_of_le hr, Nat.add_mod_right]
  rw [← h1, Nat.add_mod, h, Nat.zero_add, Nat.mod_mod]
/-- The reference's difference is the program's. -/
theorem sub_eq {p x y f : Nat} (hp0 : 0 < p) (hx : x < p) (hf : f < p) : (x + (p - f * y % p % p)) % p = if f = 0 then x else plusN p x y (p - f) := by
  by_cases h0 : f = 0
  · subst h0
    rw [if_pos rfl, Nat.zero_mul, Nat.zero_mod, Nat.zero_mod, Nat.sub_zero, Nat.add_mod_right, Nat.mod_eq_of_lt hx]
  · rw [if_neg h0, Nat.mod_mod]
    have h1 : (y * (p - f) + f * y % p) % p = 0 := by
      rw [Nat.add_mod_mod, Nat.mul_comm f y, ← Nat.mul_add, Nat.sub_add_cancel (Nat.le_of_lt hf), Nat.mul_mod_left]
    have h2 := comp_mod (Nat.le_of_lt (Nat.mod_lt (f * y) hp0)) _ h1
    unfold plusN
    rw [Nat.add_mod, ← h2, ← Nat.add_mod]
theorem sub_at {p f : Nat} {X Y : List Nat} (hp0 : 0 < p) (hf : f < p) {j : Nat} (h1 : j < X.length) (h2 : j < Y.length) (hx : X[j] < p) (h : j < (subN p f X Y).length) : (X[j] + (p - f * Y[j] % p % p)) % p = (subN p f X Y)[j] := by
  rw [sub_eq hp0 hx hf]
  by_cases h0 : f = 0
  · subst h0; rw [if_pos rfl]; unfold subN; simp
  · rw [if_neg h0, subN_at h0 h h1 h2]

theorem RdM.ofOwA {w : World} {B U : Nat} {A : Option Addr} {n c : Nat} {M : List (List Nat)} (h : OwA w B U (.slice A n c) M) (hU : U ≤ w.heap.size) : RdM w w.heap.size A M := (h.rd hU).2.2

set_option maxHeartbeats 3200000 in
set_option maxRecDepth 100000 in
theorem rreduce_any (p : Nat) (A : Option Addr) (c0 : Nat) (M : List (List Nat)) (w : World) (B : Nat) (hpr : Pr p) (hp : p < 4294967296) (hr : RdM w B A M) (hB : B ≤ w.heap.size) (hm : M.length ≤ 1099511627776) (hn : cols M ≤ 17592186044416) (hrect : Rect M) (hne : M ≠ []) :
    Calls Tryd.prog 27 #[.slice A M.length c0, .int .u32 (p : Int)] w fun e w' => ∃ g c' Ap cp hs, e = .returned (.tuple #[.slice (some ⟨g, 0, none⟩) M.length c', .slice Ap (redN p (modN p M)).2.length cp]) ∧ M.length ≤ c' ∧ Own w' w.heap.size g hs (redN p (modN p M)).1 ∧ Ro w' w.heap.size 3 (.slice Ap (redN p (modN p M)).2.length cp) (ints (redN p (modN p M)).2) ∧ Below w.heap.size w w' := by
  have hp0 := hpr.pos
  have hp1 : 1 < p := hpr.1
  have Hnorm := rnorm_any p A c0 M w B hp0 hp hr hB hm (fun r hr => by rw [hrect r hr]; omega)
  rw [rnormN_eq hrect] at Hnorm
  have hg := modN_good hp0 M
  have hcN := modN_cols p M
  have hlN := modN_length p M
  obtain ⟨N, hN⟩ : ∃ N, N = modN p M := ⟨_, rfl⟩
  rw [← hN] at Hnorm hg hcN hlN ⊢
  obtain ⟨n, hn1⟩ : ∃ n, n = M.length := ⟨_, rfl⟩
  obtain ⟨q, hq1⟩ : ∃ q, q = cols M := ⟨_, rfl⟩
  have hNn : N ≠ [] := fun e => hne (List.eq_nil_of_length_eq_zero (by rw [← hlN, e]; rfl))
  have hn0 : 0 < n := by rw [hn1]; exact List.length_pos_iff.2 hne
  rw [← hn1] at Hnorm hm hlN ⊢
  rw [← hq1] at hn hcN hg
  have Hnorm := Lib.hid Hnorm
  have Hred : Hid (redN p N = redTo p N q) := by show redTo p N (cols N) = _; rw [hcN]
  have Hok := Lib.hid (fun c => redTo_ok hg hp0 c)
  have HlN := Lib.hid hlN
  have HNn := Lib.hid hNn
  clear hN hrect hne hNn hr hn1 hq1 hcN hg hlN
  go_enter Tryd.func27, Tryd.ntmps27
  go_wp2_with (go_at_call 44; (with_reducible refine Hnorm.out.mono ?_); rintro e w1 ⟨A1, c1, rfl, hoA, hb1⟩)
  obtain ⟨-, hc1, -⟩ := hoA.rd (Nat.le_refl _)
  obtain ⟨g, hs0, rfl, hown0, hub0, hgV⟩ := hoA.own HNn.out
  rw [HlN.out] at hc1
  clear hoA Hnorm HNn
  obtain ⟨V, hV⟩ : ∃ V, V = w1.heap.size := ⟨_, rfl⟩
  have hBV : w.heap.size ≤ V := by rw [hV]; exact hb1.size
  have hV1 : V ≤ w1.heap.size := by omega
  rw [← hV] at hub0 hgV
  have hglo := hown0.lo
  clear hV
  go_loopw [6, 7] (fun sv iv wr => ∃ (c : Nat) (A : Option Addr) (ca : Nat) (hs2 : List (Option Addr × Nat)), c ≤ q ∧ iv = .int .i64 (c : Int) ∧ sv = .slice A (redTo p N c).2.length ca ∧ Ro wr V 3 (.slice A (redTo p N c).2.length ca) (ints (redTo p N c).2) ∧ Own wr w.heap.size g hs2 (redTo p N c).1 ∧ UB V hs2 ∧ V ≤ wr.heap.size ∧ Below w.heap.size w wr) (fun _ iv _ => q - (intOf iv).toNat)
  case atStart => exact ⟨0, none, 0, hs0, by omega, rfl, rfl, Ro.nil_ _ _ _, hown0, hub0, hV1, hb1⟩
  case round =>
    clear hown0 hub0 hb1 hV1
    obtain ⟨c, A, ca, hs2, hcn, rfl, rfl, hro, hown, hub, hVs, hbel⟩ := hrel
    obtain ⟨hgood, hlen, hfew⟩ := Hok.out c
    rw [HlN.out] at hlen hfew
    obtain ⟨T, hT⟩ : ∃ T, T = redTo p N c := ⟨_, rfl⟩
    have hstep : redTo p N (c + 1) = colStep p c T := by rw [hT]; rfl
    have hcq : Hid (cols T.1 = q) := by
      show _ = _
      rw [hT]; rw [hT] at *
      have h0 : 0 < (redTo p N c).1.length := by omega
      rw [cols_eq _ h0]; exact hgood.len h0
    rw [← hT] at hgood hlen hfew hro hown ⊢
    have HT := Lib.hid hT
    have Hstep := Lib.hid hstep
    have Hcols := rcols_any (some ⟨g, 0, none⟩) c1 T.1 wr wr.heap.size hown.rd (by omega)
    rw [hlen, hcq.out] at Hcols
    have Hcols := Lib.hid Hcols
    clear hT hstep
    by_cases hlt : c < q
    · have hnz : ∀ i (h : i < T.1.length), c < T.1[i].length := fun i h => by rw [hgood.len h]; exact hlt
      have Hnz : Hid (∀ i (h : i < T.1.length), c < T.1[i].length) := hnz
      obtain ⟨k, hk⟩ : ∃ k, k = T.2.length := ⟨_, rfl⟩
      rw [← hk] at hro hfew ⊢
      have Hk := Lib.hid hk
      have Hlen := Lib.hid hlen
      have Hown := Lib.hid hown
      have Hgood := Lib.hid hgood
      clear hk hlen hnz hown hgood
      go_wp2_with (go_at_call 36; (with_reducible refine Hcols.out.mono ?_); rintro e wr ⟨rfl, rfl⟩)
      go_loop [9] (fun av => ∃ a : Nat, k ≤ a ∧ a ≤ n ∧ av = .int .i64 (a : Int) ∧ Hid (piv T.1 c k = seekN T.1 c (n - a) a)) (fun av => n - (intOf av).toNat)
      case atStart => exact ⟨k, by omega, hfew, rfl, by show _ = _; unfold piv; rw [Hlen.out]⟩
      case round =>
        obtain ⟨a, hka, han, rfl, Hpv⟩ := hrel
        by_cases hlta : a < n
        · have hal : a < T.1.length := by rw [Hlen.out]; exact hlta
          have hcl := Hnz.out a hal
          obtain ⟨hhd, hff⟩ := Hown.out.head hal
          obtain ⟨gi, rest, e1, h2, h3, h4, h5⟩ := Hown.out.at_ hal hcl
          have e0 := ent_at hal hcl
          have wi := Hgood.out.len hal
          rw [e1, wi] at hhd
          obtain ⟨ci, hci⟩ : ∃ ci, ci = (hs2[a]'(Hown.out.len ▸ hal)).2 := ⟨_, rfl⟩
          rw [← hci] at hhd
          have hxl := Hgood.out.ent_lt hp0 a c
          have c4 : wr.cell? ⟨gi, c, none⟩ = some (.int .u32 (ent T.1 a c : Nat)) := by
            rw [h4.cell, List.getElem?_append_left (by rw [u32s_length]; exact hcl), u32s_at hcl, ← e0]
          by_cases h0 : ent T.1 a c = 0
          · have Hpv2 : Hid (piv T.1 c k = seekN T.1 c (n - (a + 1)) (a + 1)) := by
              show _ = _
              rw [Hpv.out, seekN_step (by omega) h0, show n - a - 1 = n - (a + 1) from by omega]
            rw [h0] at c4
            have c4 : wr.cell? ⟨gi, c, none⟩ = some (.int .u32 0) := c4
            clear e1 e0 h0 h5 wi h2 h3 h4 hci hcl hff hxl hal
            go_wp2_with fail
            go_round
            case rel => exact ⟨a + 1, by omega, by omega, by go_num, Hpv2⟩
            case measure => simp [intOf]; omega
          · have hpv : piv T.1 c T.2.length = some a := by rw [← Hk.out, Hpv.out, seekN_here (by omega) h0]
            have hkl : k < T.1.length := by rw [Hlen.out]; omega
            obtain ⟨N1, hN1⟩ : ∃ N1, N1 = sw [] T.1 a k := ⟨_, rfl⟩
            obtain ⟨N2, hN2⟩ : ∃ N2, N2 = unitN p N1 k c := ⟨_, rfl⟩
            obtain ⟨N3, hN3⟩ : ∃ N3, N3 = clearN p N2 k c := ⟨_, rfl⟩
            have Hst : Hid (redTo p N (c + 1) = (N3, T.2 ++ [c])) := by show _ = _; rw [Hstep.out, colStep_some hpv, hN3, hN2, hN1, Hk.out]
            have hkm : k < n := by omega
            have hN1l : N1.length = n := by rw [hN1, sw_length, Hlen.out]
            have hg1 : Good p q N1 := by rw [hN1]; exact Hgood.out.sw_ hal hkl
            have hg2 : Good p q N2 := by rw [hN2]; exact hg1.unit_ hp0 (by omega) c
            have hN2l : N2.length = n := by rw [hN2, unitN_length, hN1l]
            have he1 : ent N1 k c = ent T.1 a c := by
              have a1 : k < N1.length := by omega
              unfold ent
              rw [getD_at a1, getD_at hal]
              congr 1
              subst hN1
              rw [sw_at [] T.1 a k k hal hkl hkl a1, if_pos rfl]
            obtain ⟨x0, hx0⟩ : ∃ x0, x0 = ent T.1 a c := ⟨_, rfl⟩
            rw [← hx0] at c4 h0 he1 hxl
            have t1 : ((x0 : Int) == 0) = false := by simp; omega
            have t2 : ((a : Int) == (n : Int)) = false := by simp; omega
            have HN1 := Lib.hid hN1
            have HN2 := Lib.hid hN2
            have HN3 := Lib.hid hN3
            have HN1l := Lib.hid hN1l
            have HN2l := Lib.hid hN2l
            have He1 := Lib.hid he1
            have Hhd := Lib.hid hhd
            have Hci : Hid (ci = (hs2[a]'(Hown.out.len ▸ hal)).2) := hci
            have HeA : Hid ((hs2[a]'(Hown.out.len ▸ hal)).1 = some ⟨gi, 0, none⟩) := e1
            have Hwi := Lib.hid wi
            have Hhff := Lib.hid hff
            clear hN1 hN2 hN3 hN1l hN2l he1 hx0 hpv e1 e0 h5 wi h2 h3 h4 hci hcl hff
            go_upto_region 11 with (fail)
            go_cut [] (fun wx => Own wx w.heap.size g (sw (none, 0) hs2 a k) N1 ∧ Tn g wr wx)
            case first =>
              clear c4 hhd
              have hhd := Hhd.out
              have hff := Hhff.out
              by_cases hik : k = a
              · subst hik
                have hsw := (Hown.out.drew).swap hal hal
                have htn := (((Tn.refl g wr).drew).setCell k (.slice (hs2[k]'(Hown.out.len ▸ hal)).1 T.1[k].length (hs2[k]'(Hown.out.len ▸ hal)).2)).setCell k (.slice (hs2[k]'(Hown.out.len ▸ hal)).1 T.1[k].length (hs2[k]'(Hown.out.len ▸ hal)).2)
                rw [HeA.out, Hwi.out, ← Hci.out] at hsw htn
                rw [← HN1.out] at hsw
                have Hsw := Lib.hid hsw
                have Htn := Lib.hid htn
                clear hsw htn
                go_region
                all_goals
                  go_wp2
                  go_meet
                  exact ⟨Hsw.out, Htn.out⟩
              · obtain ⟨hhk, hfk⟩ := Hown.out.head hkl
                have hsw := (Hown.out.drew).swap hal hkl
                have htn := (((Tn.refl g wr).drew).setCell a (.slice (hs2[k]'(Hown.out.len ▸ hkl)).1 T.1[k].length (hs2[k]'(Hown.out.len ▸ hkl)).2)).setCell k (.slice (hs2[a]'(Hown.out.len ▸ hal)).1 T.1[a].length (hs2[a]'(Hown.out.len ▸ hal)).2)
                rw [HeA.out, Hwi.out, ← Hci.out] at hsw htn
                rw [← HN1.out] at hsw
                obtain ⟨Ak, hAk⟩ : ∃ Ak, Ak = (hs2[k]'(Hown.out.len ▸ hkl)).1 := ⟨_, rfl⟩
                obtain ⟨ck, hck⟩ : ∃ ck, ck = (hs2[k]'(Hown.out.len ▸ hkl)).2 := ⟨_, rfl⟩
                obtain ⟨nk, hnk⟩ : ∃ nk, nk = T.1[k].length := ⟨_, rfl⟩
                rw [← hAk, ← hck, ← hnk] at hhk hsw htn
                have Hsw := Lib.hid hsw
                have Htn := Lib.hid htn
                clear hsw htn hAk hck hnk
                have hki2 : ¬ (a = k) := fun e => hik e.symm
                go_region
                all_goals
                  go_wp2
                  go_meet
                  exact ⟨Hsw.out, Htn.out⟩
            case rest =>
              obtain ⟨hown1, htn1⟩ := hcut
              have hub1 : UB V (sw (none, 0) hs2 a k) := fun x hx => hub x (sw_mem (by have := Hown.out.len; omega) (by have := Hown.out.len; omega) hx)
              have hbel1 : Below w.heap.size w wc := hbel.trans (htn1.below hglo hbel.size)
              have hV1 : V ≤ wc.heap.size := Nat.le_trans hVs htn1.size
              have hro1 := hro.tn htn1 (by omega)
              obtain ⟨hs3, hhs3⟩ : ∃ hs3, hs3 = sw (none, 0) hs2 a k := ⟨_, rfl⟩
              rw [← hhs3] at hown1 hub1
              have hk1 : k < N1.length := by rw [HN1l.out]; exact hkm
              have hcl1 : c < N1[k].length := by rw [hg1.len hk1]; exact hlt
              obtain ⟨hhd1, hff1⟩ := hown1.head hk1
              obtain ⟨gk, restk, e1, h2, h3, h4, h5⟩ := hown1.at_ hk1 hcl1
              rw [e1, hg1.len hk1] at hhd1
              rw [hg1.len hk1] at h5
              have hue := ent_at hk1 hcl1
              rw [He1.out] at hue
              have c5 : wc.cell? ⟨gk, c, none⟩ = some (.int .u32 (x0 : Int)) := by
                rw [h4.cell, List.getElem?_append_left (by rw [u32s_length]; exact hcl1), u32s_at hcl1, ← hue]
              have hgkV : gk < V := hub1.at_ (hown1.len ▸ hk1) e1
              obtain ⟨ck, hck⟩ : ∃ ck, ck = (hs3[k]'(hown1.len ▸ hk1)).2 := ⟨_, rfl⟩
              rw [← hck] at hhd1 h5
              have hk3 : k < hs3.length := hown1.len ▸ hk1
              have Hck : Hid (ck = (hs3[k]'hk3).2) := hck
              have HE1 : Hid ((hs3[k]'hk3).1 = some ⟨gk, 0, none⟩) := e1
              have H5 := Lib.hid h5
              have Hinv : Hid (∀ W, Calls Tryd.prog 48 #[.int .u32 (x0 : Int), .int .u32 (p : Int)] W fun e w' => e = .returned (.int .u32 (invN p x0 : Int)) ∧ w' = W) := fun W => rinv_any x0 p (by omega) hp hp1 W
              have hvl := invN_lt hp0 x0
              obtain ⟨v0, hv0⟩ : ∃ v0, v0 = invN p x0 := ⟨_, rfl⟩
              rw [← hv0] at Hinv hvl
              have Hv0 := Lib.hid hv0
              obtain ⟨Y, hY⟩ : ∃ Y, Y = N1[k] := ⟨_, rfl⟩
              obtain ⟨Z, hZ⟩ : ∃ Z, Z = scaleR p v0 Y := ⟨_, rfl⟩
              have hYl : Y.length = q := by rw [hY]; exact hg1.len hk1
              have hZl : Z.length = Y.length := by rw [hZ]; exact scaleR_length _ _ _
              have hYd : ∀ j (h : j < Y.length), Y[j] < p := fun j h => by subst hY; exact hg1.lt hk1 h
              have hZa : ∀ j (h : j < Y.length) (h2 : j < Z.length), Z[j] = Y[j] * v0 % p := fun j h h2 => by subst hZ; simp [scaleR, plusN]
              have hN2' : N1.set k Z = N2 := by
                rw [HN2.out]; unfold unitN
                rw [getD_at hk1, ← hY, hZ, Hv0.out, He1.out]
              have hset0 : N1.set k (mix Z Y 0) = N1 := by rw [mix_zero, hY, List.set_getElem_self]
              have hown2' : Own wc w.heap.size g hs3 (N1.set k (mix Z Y 0)) := by rw [hset0]; exact hown1
              have HYl := Lib.hid hYl
              have HZl := Lib.hid hZl
              have HYd : Hid (∀ j (h : j < Y.length), Y[j] < p) := hYd
              have HZa : Hid (∀ j (h : j < Y.length) (h2 : j < Z.length), Z[j] = Y[j] * v0 % p) := hZa
              have HN2' := Lib.hid hN2'
              clear hY hZ hYl hZl hYd hZa hN2' hset0 hown1 hhs3 hue h5 e1 hck hv0 hro hub hbel hVs htn1 Hhd Hhff c4 hhd
              go_wp2_with (go_at_call 48; (with_reducible refine (Hinv.out _).mono ?_); rintro e wc ⟨rfl, rfl⟩)
              go_loopw [75] (fun jv wr => ∃ (j : Nat), j ≤ q ∧ jv = .int .i64 (j : Int) ∧ Own wr w.heap.size g hs3 (N1.set k (mix Z Y j)) ∧ Ro wr V 3 (.slice A k ca) (ints T.2) ∧ V ≤ wr.heap.size ∧ Below w.heap.size w wr) (fun jv _ => q - (intOf jv).toNat)
              case atStart => exact ⟨0, by omega, rfl, hown2', hro1, hV1, hbel1⟩
              case round =>
                clear hown2' hro1 hV1 hbel1 hhd1 hff1 c5 h4
                obtain ⟨j, hj, rfl, hown, hro, hVs, hbel⟩ := hrel
                by_cases hjl : j < q
                · have hjY : j < Y.length := by rw [HYl.out]; exact hjl
                  have hjZ : j < Z.length := by rw [HZl.out]; exact hjY
                  have hkN : k < (N1.set k (mix Z Y j)).length := by rw [List.length_set]; exact hk1
                  have e0 : (N1.set k (mix Z Y j))[k] = mix Z Y j := by simp
                  have hml := mix_length HZl.out j
                  have hjm : j < (mix Z Y j).length := by rw [hml]; exact hjY
                  obtain ⟨hhd, hff⟩ := hown.head hkN
                  obtain ⟨gk2, rest2, e2, g2, g3, g4, g5⟩ := hown.at_ hkN (k := j) (by rw [e0]; exact hjm)
                  rw [HE1.out] at e2 hhd
                  obtain rfl : gk = gk2 := by simpa using e2
                  rw [e0] at hhd g4 g5
                  rw [hml, HYl.out, ← Hck.out] at hhd
                  have c1 : wr.cell? ⟨gk, j, none⟩ = some (.int .u32 (Y[j] : Nat)) := by
                    rw [g4.cell, List.getElem?_append_left (by rw [u32s_length]; exact hjm), u32s_at hjm, mix_at HZl.out hjY]
                  have f1 := g4.frozen j
                  have hyl := HYd.out j hjY
                  have hze := HZa.out j hjY hjZ
                  obtain ⟨y, hy⟩ : ∃ y, y = Y[j] := ⟨_, rfl⟩
                  rw [← hy] at c1 hyl hze
                  have Hmul := Lib.hid (fun W => rmul_any y v0 p (by omega) (by omega) hp hp0 W)
                  obtain ⟨z, hz⟩ : ∃ z, z = y * v0 % p := ⟨_, rfl⟩
                  rw [← hz] at hze
                  simp only [← hz] at Hmul
                  have Hze := Lib.hid hze
                  have hgl2 : g < wr.heap.size := by omega
                  have hgk2 : gk < wr.heap.size := by omega
                  clear hy hz hze e2
                  go_upto_region 16 with (fail)
                  refine region_quiet_tail 16 (by kernel_rfl) (by kernel_rfl) ?_
                  simp only [List.take_succ_cons, List.take_zero, List.drop_succ_cons, List.drop_zero]
                  repeat (quiet_step ((go_at_call 47; first | exact quietE (Hmul.out _) | exact quietAddE (Hmul.out _))))
                  refine wpQuiet_nil ?_
                  rintro _ ⟨nq, rfl⟩
                  go_wp2_with fail
                  go_roundw
                  case rel =>
                      have htn : Tn gk wr ((wr.drewN nq).setCell ⟨gk, j, none⟩ (.int .u32 (z : Int))) := ((Tn.refl gk wr).drewN nq).setCell j _
                      have hb9 : Blk ((wr.drewN nq).setCell ⟨gk, j, none⟩ (.int .u32 (z : Int))) gk 28 (u32s (mix Z Y (j + 1)) ++ rest2) := by
                        have h7 := (g4.drewN nq).set_ j (.int .u32 (z : Int))
                        rw [List.set_append_left _ _ (by rw [u32s_length]; exact hjm), u32s_set, ← Hze.out, mix_set HZl.out] at h7
                        rw [← Hze.out]; exact h7
                      have hn := hown.setRow hkN (gi := gk) (r := mix Z Y (j + 1)) (rest := rest2) HE1.out htn hb9 (by rw [e0, mix_length HZl.out, hml]) g2 g3 (by rw [e0]; exact g5) (by rw [e0]; intro e; rw [e] at hjm; simp at hjm)
                      rw [List.set_set] at hn
                      exact ⟨j + 1, by omega, by go_num, hn, hro.tn htn (by omega), Nat.le_trans hVs htn.size, hbel.trans (htn.below g3 hbel.size)⟩
                  case measure => simp [intOf]; omega
                · have hje : j = Y.length := by have := HYl.out; omega
                  have hN : Own wr w.heap.size g hs3 N2 := by
                    rw [hje, mix_all HZl.out, HN2'.out] at hown; exact hown
                  have hN3l : N3.length = N2.length := by rw [HN3.out, clearN_length]
                  have hN3a : ∀ i (h : i < N2.length) (h2 : i < N3.length), N3[i] = if i = k then N2[k]'(by rw [HN2l.out]; exact hkm) else subN p (ent N2 i c) N2[i] (N2[k]'(by rw [HN2l.out]; exact hkm)) := fun i h h2 => by
                    have e := HN3.out
                    subst e
                    exact clearN_at h (by rw [HN2l.out]; exact hkm) h2
                  have HN3l := Lib.hid hN3l
                  have HN3a : Hid (∀ i (h : i < N2.length) (h2 : i < N3.length), N3[i] = if i = k then N2[k]'(by rw [HN2l.out]; exact hkm) else subN p (ent N2 i c) N2[i] (N2[k]'(by rw [HN2l.out]; exact hkm))) := hN3a
                  have hjn : q ≤ j := by omega
                  have hown3 : Own wr w.heap.size g hs3 (mix N3 N2 0) := by rw [mix_zero]; exact hN
                  clear hje hN hown hN3l hN3a HZa HYd HZl HYl HN2'
                  go_wp2_with fail
                  go_loopw [97] (fun iv wr => ∃ (i : Nat), i ≤ n ∧ iv = .int .i64 (i : Int) ∧ Own wr w.heap.size g hs3 (mix N3 N2 i) ∧ Ro wr V 3 (.slice A k ca) (ints T.2) ∧ V ≤ wr.heap.size ∧ Below w.heap.size w wr) (fun iv _ => n - (intOf iv).toNat)
                  case atStart => exact ⟨0, by omega, rfl, hown3, hro, hVs, hbel⟩
                  case round =>
                    clear hown3 hro hVs hbel
                    obtain ⟨i, hi, rfl, hown, hro, hVs, hbel⟩ := hrel
                    have hk2l : k < N2.length := by rw [HN2l.out]; exact hkm
                    have hml := mix_length HN3l.out i
                    by_cases hil : i < n
                    · have hi2 : i < N2.length := by rw [HN2l.out]; exact hil
                      have hi3' : i < N3.length := by rw [HN3l.out]; exact hi2
                      have him : i < (mix N3 N2 i).length := by rw [hml]; exact hi2
                      have hkm2 : k < (mix N3 N2 i).length := by rw [hml]; exact hk2l
                      by_cases hik : i = k
                      · have e9 : N3[i] = N2[i] := by rw [HN3a.out i hi2 hi3', if_pos hik]; subst hik; rfl
                        have e8 : mix N3 N2 (i + 1) = mix N3 N2 i := by
                          have e7 := mix_set HN3l.out hi3'
                          rw [← e7, e9]
                          have e6 := mix_at HN3l.out hi2 him
                          rw [← e6, List.set_getElem_self]
                        have t5 : ((i : Int) == (k : Int)) = true := by rw [hik]; simp
                        have H8 := Lib.hid e8
                        clear e9 e8 hik
                        go_wp2_with fail
                        go_roundw
                        case rel => exact ⟨i + 1, by omega, by go_num, by rw [H8.out]; exact hown, hro, hVs, hbel⟩
                        case measure => simp [intOf]; omega
                      · have t5 : ((i : Int) == (k : Int)) = false := by simp; omega
                        have ei := mix_at HN3l.out hi2 him
                        have ek := mix_keep HN3l.out hk2l i (by rw [HN3a.out k hk2l (by rw [HN3l.out]; exact hk2l), if_pos rfl]) hkm2
                        have hN3i := HN3a.out i hi2 hi3'
                        rw [if_neg hik] at hN3i
                        obtain ⟨P, hP⟩ : ∃ P, P = mix N3 N2 i := ⟨_, rfl⟩
                        have hPs : P.set i N3[i] = mix N3 N2 (i + 1) := by rw [hP]; exact mix_set HN3l.out hi3'
                        rw [← hP] at hown hml
                        have hiP : i < P.length := by rw [hP]; exact him
                        have hkP : k < P.length := by rw [hP]; exact hkm2
                        have hPi : P[i] = N2[i] := by subst hP; exact ei
                        have hPk : P[k] = N2[k] := by subst hP; exact ek
                        have hwi2 := hg2.len hi2
                        have hwk2 := hg2.len hk2l
                        have hDi : ∀ j (h : j < N2[i].length), N2[i][j] < p := fun j h => hg2.lt hi2 h
                        have hDk : ∀ j (h : j < N2[k].length), N2[k][j] < p := fun j h => hg2.lt hk2l h
                        have hxl := hg2.ent_lt hp0 i c
                        have hent := ent_at (M := N2) hi2 (k := c) (by rw [hwi2]; exact hlt)
                        obtain ⟨X, hX⟩ : ∃ X, X = N2[i] := ⟨_, rfl⟩
                        obtain ⟨U, hU⟩ : ∃ U, U = N2[k] := ⟨_, rfl⟩
                        obtain ⟨R, hR⟩ : ∃ R, R = N3[i] := ⟨_, rfl⟩
                        obtain ⟨f, hf⟩ : ∃ f, f = ent N2 i c := ⟨_, rfl⟩
                        rw [← hX] at hPi hwi2 hDi hN3i
                        simp only [← hX] at hent
                        rw [← hU] at hPk hwk2 hDk hN3i
                        rw [← hR] at hPs hN3i
                        rw [← hf] at hxl hent hN3i
                        have hRl : R.length = X.length := by rw [hN3i]; exact subN_length (by rw [hwi2, hwk2])
                        have hRa : ∀ j (h : j < X.length) (h2 : j < U.length) (h3 : j < R.length), (X[j] + (p - f * U[j] % p % p)) % p = R[j] := fun j h h2 h3 => by
                          subst hN3i
                          exact sub_at hp0 hxl h h2 (hDi j h) h3
                        have hcX : c < X.length := by rw [hwi2]; exact hlt
                        have hset0 : P.set i (mix R X 0) = P := by rw [mix_zero, ← hPi, List.set_getElem_self]
                        have hownS : Own wr w.heap.size g hs3 (P.set i (mix R X 0)) := by rw [hset0]; exact hown
                        obtain ⟨hdi, _⟩ := hown.head hiP
                        obtain ⟨gi, resti, ei1, i2, i3, i4, i5⟩ := hown.at_ hiP (k := c) (by rw [hPi]; exact hcX)
                        have hi3l : i < hs3.length := by have := hown.len; omega
                        have hiV : gi < V := hub1.at_ hi3l ei1
                        obtain ⟨ci, hci⟩ : ∃ ci, ci = (hs3[i]'hi3l).2 := ⟨_, rfl⟩
                        rw [ei1, hPi, hwi2, ← hci] at hdi
                        rw [hPi] at i4
                        have ce : wr.cell? ⟨gi, c, none⟩ = some (.int .u32 (f : Int)) := by
                          rw [i4.cell, List.getElem?_append_left (by rw [u32s_length]; exact hcX), u32s_at hcX, ← hent]
                        have hnek : gi ≠ gk := fun e => hown.nd i k hiP hkP hik (fun e => by rw [e] at hPi; rw [← hPi] at hcX; simp at hcX) (fun e => by rw [e] at hPk; rw [← hPk] at hwk2; simp at hwk2; omega) (by rw [ei1, HE1.out, e])
                        have Hei1 : Hid ((hs3[i]'hi3l).1 = some ⟨gi, 0, none⟩) := ei1
                        have Hci : Hid (ci = (hs3[i]'hi3l).2) := hci
                        have HPk : Hid (P[k] = U) := hPk
                        have HDi : Hid (∀ j (h : j < X.length), X[j] < p) := hDi
                        have HDk : Hid (∀ j (h : j < U.length), U[j] < p) := hDk
                        have Hwi := Lib.hid hwi2
                        have Hwk := Lib.hid hwk2
                        have HRl := Lib.hid hRl
                        have HRa : Hid (∀ j (h : j < X.length) (h2 : j < U.length) (h3 : j < R.length), (X[j] + (p - f * U[j] % p % p)) % p = R[j]) := hRa
                        have HPs := Lib.hid hPs
                        clear hP ei ek hN3i hPs hPi hPk hwi2 hwk2 hDi hDk hent hX hU hR hf hRl hRa hset0 hown i4 i5 hci ei1 him hkm2 hml hcX
                        go_wp2_with fail
                        go_loopw [115] (fun jv wr => ∃ (j : Nat), j ≤ q ∧ jv = .int .i64 (j : Int) ∧ Own wr w.heap.size g hs3 (P.set i (mix R X j)) ∧ Ro wr V 3 (.slice A k ca) (ints T.2) ∧ V ≤ wr.heap.size ∧ Below w.heap.size w wr) (fun jv _ => q - (intOf jv).toNat)
                        case atStart => exact ⟨0, by omega, rfl, hownS, hro, hVs, hbel⟩
                        case round =>
                          clear hownS hro hVs hbel hdi ce
                          obtain ⟨j, hj, rfl, hown, hro, hVs, hbel⟩ := hrel
                          by_cases hjl : j < q
                          · have hjX : j < X.length := by rw [Hwi.out]; exact hjl
                            have hjU : j < U.length := by rw [Hwk.out]; exact hjl
                            have hjR : j < R.length := by rw [HRl.out]; exact hjX
                            have hiN : i < (P.set i (mix R X j)).length := by rw [List.length_set]; exact hiP
                            have hkN : k < (P.set i (mix R X j)).length := by rw [List.length_set]; exact hkP
                            have e0 : (P.set i (mix R X j))[i] = mix R X j := by simp
                            have e1 : (P.set i (mix R X j))[k] = U := by rw [List.getElem_set_ne (fun e => hik e)]; exact HPk.out
                            have hml := mix_length HRl.out j
                            have hjm : j < (mix R X j).length := by rw [hml]; exact hjX
                            obtain ⟨hdi, hffi⟩ := hown.head hiN
                            obtain ⟨hdk, hffk⟩ := hown.head hkN
                            obtain ⟨gi2, resti2, e2, g2, g3, g4, g5⟩ := hown.at_ hiN (k := j) (by rw [e0]; exact hjm)
                            obtain ⟨gk2, restk2, e3, k2, k3, k4, k5⟩ := hown.at_ hkN (k := j) (by rw [e1]; exact hjU)
                            rw [Hei1.out] at e2 hdi
                            rw [HE1.out] at e3 hdk
                            obtain rfl : gi = gi2 := by simpa using e2
                            obtain rfl : gk = gk2 := by simpa using e3
                            rw [e0] at hdi g4 g5
                            rw [e1] at hdk k4
                            rw [hml, Hwi.out, ← Hci.out] at hdi
                            rw [Hwk.out, ← Hck.out] at hdk
                            have c1 : wr.cell? ⟨gi, j, none⟩ = some (.int .u32 (X[j] : Nat)) := by
                              rw [g4.cell, List.getElem?_append_left (by rw [u32s_length]; exact hjm), u32s_at hjm, mix_at HRl.out hjX]
                            have c2 : wr.cell? ⟨gk, j, none⟩ = some (.int .u32 (U[j] : Nat)) := by
                              rw [k4.cell, List.getElem?_append_left (by rw [u32s_length]; exact hjU), u32s_at hjU]
                            have f1 := g4.frozen j
                            have hxl2 := HDi.out j hjX
                            have hyl2 := HDk.out j hjU
                            have hze := HRa.out j hjX hjU hjR
                            obtain ⟨x, hx⟩ : ∃ x, x = X[j] := ⟨_, rfl⟩
                            obtain ⟨y, hy⟩ : ∃ y, y = U[j] := ⟨_, rfl⟩
                            rw [← hx] at c1 hxl2 hze
                            rw [← hy] at c2 hyl2 hze
                            have hml2 : f * y % p < p := Nat.mod_lt _ hp0
                            have Hmul := Lib.hid (fun W => rmul_any f y p (by omega) (by omega) hp hp0 W)
                            have Hsub := Lib.hid (fun W => rsub_any x (f * y % p) p (by omega) (by omega) hp hp0 W)
                            obtain ⟨m, hmm⟩ : ∃ m, m = f * y % p := ⟨_, rfl⟩
                            rw [← hmm] at hze
                            simp only [← hmm] at Hmul Hsub
                            obtain ⟨z, hz⟩ : ∃ z, z = (x + (p - m % p)) % p := ⟨_, rfl⟩
                            rw [← hz] at hze
                            simp only [← hz] at Hsub
                            have Hze := Lib.hid hze
                            clear hx hy hmm hz hze e2 e3 hml2
                            have hne1 : ¬ (g = gi) := fun e => g2 e.symm
                            have hne2 : ¬ (gi = g) := g2
                            have hne3 : ¬ (gk = gi) := fun e => hnek e.symm
                            have hne4 : ¬ (gi = gk) := hnek
                            go_upto_region 26 with (fail)
                            refine region_quiet_tail 25 (by kernel_rfl) (by kernel_rfl) ?_
                            simp only [List.take_succ_cons, List.take_zero, List.drop_succ_cons, List.drop_zero]
                            repeat (quiet_step ((first
                              | (go_at_call 47; first | exact quietE (Hmul.out _) | exact quietAddE (Hmul.out _))
                              | (go_at_call 46; first | exact quietD (Hsub.out _) | exact quietAddD (Hsub.out _)))))
                            refine wpQuiet_nil ?_
                            rintro _ ⟨nq, rfl⟩
                            go_wp2_with fail
                            go_roundw
                            case rel =>
                              have htn : Tn gi wr ((wr.drewN nq).setCell ⟨gi, j, none⟩ (.int .u32 (z : Int))) := ((Tn.refl gi wr).drewN nq).setCell j _
                              have hb9 : Blk ((wr.drewN nq).setCell ⟨gi, j, none⟩ (.int .u32 (z : Int))) gi 28 (u32s (mix R X (j + 1)) ++ resti2) := by
                                have h7 := (g4.drewN nq).set_ j (.int .u32 (z : Int))
                                rw [List.set_append_left _ _ (by rw [u32s_length]; exact hjm), u32s_set, Hze.out, mix_set HRl.out] at h7
                                rw [Hze.out]; exact h7
                              have hn := hown.setRow hiN (gi := gi) (r := mix R X (j + 1)) (rest := resti2) Hei1.out htn hb9 (by rw [e0, mix_length HRl.out, hml]) g2 g3 (by rw [e0]; exact g5) (by rw [e0]; intro e; rw [e] at hjm; simp at hjm)
                              rw [List.set_set] at hn
                              exact ⟨j + 1, by omega, by go_num, hn, hro.tn htn (by omega), Nat.le_trans hVs htn.size, hbel.trans (htn.below g3 hbel.size)⟩
                            case measure => simp [intOf]; omega
                          · have hje : j = X.length := by have := Hwi.out; omega
                            have hN : Own wr w.heap.size g hs3 (mix N3 N2 (i + 1)) := by
                              rw [hje, mix_all HRl.out, HPs.out] at hown; exact hown
                            have hjn2 : q ≤ j := by omega
                            clear hje hown
                            go_wp2_with fail
                            go_roundw
                            case rel => exact ⟨i + 1, by omega, by go_num, hN, hro, hVs, hbel⟩
                            case measure => simp [intOf]; omega
                    · have hie : i = N2.length := by have := HN2l.out; omega
                      have hN3o : Own wr w.heap.size g hs3 N3 := by
                        rw [hie, mix_all HN3l.out] at hown; exact hown
                      have hil2 : n ≤ i := by omega
                      clear hie hown
                      obtain ⟨A2, ca2, w3, hrun, hro3, hb3⟩ := app_int wr V (.slice A k ca) T.2 c hro hVs (by rw [← Hk.out]; omega)
                      rw [← Hk.out] at hrun hro3
                      have hN3w := hN3o.belowU hub1 hgV hb3
                      have hbel3 := hbel.trans (hb3.mono (by omega))
                      have hV3 : V ≤ w3.heap.size := Nat.le_trans hVs hb3.size
                      have Hrun := Lib.hid hrun
                      have hk1l : Hid ((T.2 ++ [c]).length = k + 1) := by show _ = _; rw [List.length_append, ← Hk.out]; rfl
                      clear hrun hN3o hro hbel hVs hb3
                      go_wp2_with (first | (at_builtin; refine wpList_append_run rfl _ _ _ _ rfl _ _ rfl rfl _ _ Hrun.out ?_))
                      go_roundw
                      case rel => exact ⟨c + 1, A2, ca2, hs3, by omega, by go_num, by rw [Hst.out, hk1l.out], by rw [Hst.out, hk1l.out]; exact hro3, by rw [Hst.out]; exact hN3w, hub1, hV3, hbel3⟩
                      case measure => simp [intOf]; omega
        · have hae : a = n := by omega
          have hst : redTo p N (c + 1) = T := by
            rw [Hstep.out]
            refine colStep_none ?_
            rw [← Hk.out, Hpv.out, hae, Nat.sub_self]; rfl
          have Hst := Lib.hid hst
          have t1 : ((a : Int) == (n : Int)) = true := by rw [hae]; simp
          clear hst hae
          go_wp2_with fail
          go_roundw
          case rel => exact ⟨c + 1, A, ca, hs2, by omega, by go_num, by rw [Hst.out, ← Hk.out], by rw [Hst.out, ← Hk.out]; exact hro, by rw [Hst.out]; exact Hown.out, hub, hVs, hbel⟩
          case measure => simp [intOf]; omega
    · have hce : c = q := by omega
      have Hfin : Hid (redN p N = T) := by show _ = _; rw [Hred.out, HT.out, hce]
      have hge : q ≤ c := by omega
      clear hce
      go_wp2_with (go_at_call 36; (with_reducible refine Hcols.out.mono ?_); rintro e wr ⟨rfl, rfl⟩)
      go_ret2
      rw [Hfin.out]
      exact ⟨g, c1, A, ca, hs2, rfl, hc1, hown, hro.mono hBV, hbel⟩
end
section
open Go.RowKit

theorem neg_eq {p d : Nat} (hp1 : 1 < p) : (0 + (p - d % p)) % p = plusN p 0 d (p - 1) := by
  have h := sub_eq (p := p) (x := 0) (y := d) (f := 1) (by omega) (by omega) hp1
  rw [if_neg (by omega), Nat.one_mul, Nat.mod_mod] at h
  exact h
theorem elim_mix {p : Nat} {N : List (List Nat)} {k : Nat} (hk : k < N.length) : mix (elimN p N k) N (k + 1) = N := by
  have hl := elimN_length p N k
  apply List.ext_getElem (mix_length hl _)
  intro j h1 h2
  by_cases hj : j < k + 1
  · have e2 : (mix (elimN p N k) N (k + 1))[j]? = some N[j] := by
      unfold mix
      rw [List.getElem?_append_left (by rw [List.length_take]; omega), List.getElem?_take, if_pos hj, List.getElem?_eq_getElem (by omega), elimN_at h2 hk (by omega), if_neg (by omega)]
    rw [List.getElem?_eq_getElem h1] at e2
    exact Option.some.inj e2
  · have e2 : (mix (elimN p N k) N (k + 1))[j]? = some N[j] := by
      unfold mix
      rw [List.getElem?_append_right (by rw [List.length_take]; omega), List.length_take, List.getElem?_drop, Nat.min_eq_left (by omega), show k + 1 + (j - (k + 1)) = j from by omega, List.getElem?_eq_getElem h2]
    rw [List.getElem?_eq_getElem h1] at e2
    exact Option.some.inj e2

set_option maxHeartbeats 3200000 in
set_option maxRecDepth 100000 in
theorem rdet_any (p : Nat) (A : Option Addr) (c0 : Nat) (M : List (List Nat)) (w : World) (B : Nat) (hpr : Pr p) (hp : p < 4294967296) (hr : RdM w B A M) (hB : B ≤ w.heap.size) (hm : M.length ≤ 1099511627776) (hsq : Sq M) (hrect : Rect M) :
    Calls Tryd.prog 21 #[.slice A M.length c0, .int .u32 (p : Int)] w fun e w' => e = .returned (.int .u32 (detN p (modN p M) : Int)) ∧ Below w.heap.size w w' := by
  have hp0 := hpr.pos
  have hp1 : 1 < p := hpr.1
  have hsq2 := hsq.2
  have hne : M ≠ [] := List.length_pos_iff.1 hsq.1
  have Hnorm := rnorm_any p A c0 M w B hp0 hp hr hB hm (fun r hr => by rw [hrect r hr, ← hsq.2]; omega)
  rw [rnormN_eq hrect] at Hnorm
  have hg := modN_good hp0 M
  have hlN := modN_length p M
  obtain ⟨N0, hN⟩ : ∃ N0, N0 = modN p M := ⟨_, rfl⟩
  rw [← hN] at Hnorm hg hlN ⊢
  obtain ⟨n, hn1⟩ : ∃ n, n = M.length := ⟨_, rfl⟩
  have hNn : N0 ≠ [] := fun e => hne (List.eq_nil_of_length_eq_zero (by rw [← hlN, e]; rfl))
  have hn0 : 0 < n := by rw [hn1]; exact hsq.1
  rw [← hsq2, ← hn1] at hg
  rw [← hn1] at Hnorm hm hlN ⊢
  have Hnorm := Lib.hid Hnorm
  have Hok := Lib.hid (fun k s => detTo_ok hg hp1 k s)
  obtain ⟨D, hD⟩ : ∃ D, D = detN p N0 := ⟨_, rfl⟩
  rw [← hD]
  have HD := Lib.hid hD
  have HlN := Lib.hid hlN
  have HNn := Lib.hid hNn
  have T0 : Hid ((1 : Int) % (p : Int) = 1) := Int.emod_eq_of_lt (by omega) (by omega)
  have t01 : ((p : Int) == 0) = false := by simp; omega
  clear hN hrect hne hNn hr hn1 hg hlN hD hsq hsq2
  go_enter Tryd.func21, Tryd.ntmps21
  go_wp2_with (go_at_call 44; (with_reducible refine Hnorm.out.mono ?_); rintro e w1 ⟨A1, c1, rfl, hoA, hb1⟩)
  obtain ⟨-, hc1, -⟩ := hoA.rd (Nat.le_refl _)
  obtain ⟨g, hs0, rfl, hown0, hub0, hgV⟩ := hoA.own HNn.out
  rw [HlN.out] at hc1
  clear hoA Hnorm HNn
  obtain ⟨V, hV⟩ : ∃ V, V = w1.heap.size := ⟨_, rfl⟩
  have hBV : w.heap.size ≤ V := by rw [hV]; exact hb1.size
  have hV1 : V ≤ w1.heap.size := by omega
  rw [← hV] at hub0 hgV
  have hglo := hown0.lo
  clear hV
  go_loopw [5, 19] (fun ov iv wr => ∃ (c o : Nat) (T : List (List Nat)) (hs2 : List (Option Addr × Nat)), c ≤ n ∧ iv = .int .i64 (c : Int) ∧ ov = .int .u32 (o : Int) ∧ Hid (detTo p N0 c = some (T, o)) ∧ Own wr w.heap.size g hs2 T ∧ UB V hs2 ∧ V ≤ wr.heap.size ∧ Below w.heap.size w wr) (fun _ iv _ => n - (intOf iv).toNat)
  case atStart => exact ⟨0, 1, N0, hs0, by omega, rfl, by rw [T0.out]; rfl, rfl, hown0, hub0, hV1, hb1⟩
  case round =>
    clear hown0 hub0 hb1 hV1
    obtain ⟨c, o, T, hs2, hcn, rfl, rfl, HT, hown, hub, hVs, hbel⟩ := hrel
    obtain ⟨hgood, hlen, hol⟩ := Hok.out c _ (by rw [HlN.out]; exact hcn) HT.out
    simp only [] at hgood hlen hol
    rw [HlN.out] at hlen
    by_cases hlt : c < n
    · have hnz : ∀ i (h : i < T.length), c < T[i].length := fun i h => by rw [hgood.len h]; exact hlt
      have Hnz : Hid (∀ i (h : i < T.length), c < T[i].length) := hnz
      have Hlen := Lib.hid hlen
      have Hown := Lib.hid hown
      have Hgood := Lib.hid hgood
      clear hlen hnz hown hgood
      go_wp2_with fail
      go_loop [7] (fun av => ∃ a : Nat, c ≤ a ∧ a ≤ n ∧ av = .int .i64 (a : Int) ∧ Hid (piv T c c = seekN T c (n - a) a)) (fun av => n - (intOf av).toNat)
      case atStart => exact ⟨c, by omega, by omega, rfl, by show _ = _; unfold piv; rw [Hlen.out]⟩
      case round =>
        obtain ⟨a, hka, han, rfl, Hpv⟩ := hrel
        by_cases hlta : a < n
        · have hal : a < T.length := by rw [Hlen.out]; exact hlta
          have hcl := Hnz.out a hal
          obtain ⟨hhd, hff⟩ := Hown.out.head hal
          obtain ⟨gi, rest, e1, h2, h3, h4, h5⟩ := Hown.out.at_ hal hcl
          have e0 := ent_at hal hcl
          have wi := Hgood.out.len hal
          rw [e1, wi] at hhd
          obtain ⟨ci, hci⟩ : ∃ ci, ci = (hs2[a]'(Hown.out.len ▸ hal)).2 := ⟨_, rfl⟩
          rw [← hci] at hhd
          have hxl := Hgood.out.ent_lt hp0 a c
          have c4 : wr.cell? ⟨gi, c, none⟩ = some (.int .u32 (ent T a c : Nat)) := by
            rw [h4.cell, List.getElem?_append_left (by rw [u32s_length]; exact hcl), u32s_at hcl, ← e0]
          by_cases h0 : ent T a c = 0
          · have Hpv2 : Hid (piv T c c = seekN T c (n - (a + 1)) (a + 1)) := by
              show _ = _
              rw [Hpv.out, seekN_step (by omega) h0, show n - a - 1 = n - (a + 1) from by omega]
            rw [h0] at c4
            have c4 : wr.cell? ⟨gi, c, none⟩ = some (.int .u32 0) := c4
            clear e1 e0 h0 h5 wi h2 h3 h4 hci hcl hff hxl hal
            go_wp2_with fail
            go_round
            case rel => exact ⟨a + 1, by omega, by omega, by go_num, Hpv2⟩
            case measure => simp [intOf]; omega
          · have hpv : piv T c c = some a := by rw [Hpv.out, seekN_here (by omega) h0]
            have hkl : c < T.length := by rw [Hlen.out]; omega
            obtain ⟨N1, hN1⟩ : ∃ N1, N1 = sw [] T a c := ⟨_, rfl⟩
            obtain ⟨N2, hN2⟩ : ∃ N2, N2 = elimN p N1 c := ⟨_, rfl⟩
            have hN1l : N1.length = n := by rw [hN1, sw_length, Hlen.out]
            have hg1 : Good p n N1 := by rw [hN1]; exact Hgood.out.sw_ hal hkl
            have he1 : ent N1 c c = ent T a c := by
              have a1 : c < N1.length := by omega
              unfold ent
              rw [getD_at a1, getD_at hal]
              congr 1
              subst hN1
              rw [sw_at [] T a c c hal hkl hkl a1, if_pos rfl]
            obtain ⟨x0, hx0⟩ : ∃ x0, x0 = ent T a c := ⟨_, rfl⟩
            rw [← hx0] at c4 h0 he1 hxl
            obtain ⟨o2, ho2⟩ : ∃ o2, o2 = detMul p o a c x0 := ⟨_, rfl⟩
            have Hst : Hid (detTo p N0 (c + 1) = some (N2, o2)) := by
              show _ = _
              rw [detTo, HT.out]
              simp only [hpv, ← hN1, he1, ← ho2, ← hN2]
            have t1 : ((x0 : Int) == 0) = false := by simp; omega
            have t2 : ((a : Int) == (n : Int)) = false := by simp; omega
            have HN1 := Lib.hid hN1
            have HN2 := Lib.hid hN2
            have HN1l := Lib.hid hN1l
            have He1 := Lib.hid he1
            have Ho2 := Lib.hid ho2
            have Hhd := Lib.hid hhd
            have Hci : Hid (ci = (hs2[a]'(Hown.out.len ▸ hal)).2) := hci
            have HeA : Hid ((hs2[a]'(Hown.out.len ▸ hal)).1 = some ⟨gi, 0, none⟩) := e1
            have Hwi := Lib.hid wi
            have Hhff := Lib.hid hff
            clear hN1 hN2 hN1l he1 hx0 ho2 hpv e1 e0 h5 wi h2 h3 h4 hci hcl hff
            go_upto_if 45 with (fail)
            go_cut [5, 45] from 46 to 62 (fun ov _ wx => ∃ o1 : Nat, ov = .int .u32 (o1 : Int) ∧ o1 < p ∧ Hid (o2 = plusN p 0 o1 x0) ∧ Own wx w.heap.size g (sw (none, 0) hs2 a c) N1 ∧ Tn g wr wx)
            case first =>
              clear c4 hhd
              have hhd := Hhd.out
              have hff := Hhff.out
              by_cases hik : a = c
              · have ho2' : Hid (o2 = plusN p 0 o x0) := by show _ = _; rw [Ho2.out]; unfold detMul; rw [if_pos hik]
                have hself : Hid (Own wr w.heap.size g (sw (none, 0) hs2 a c) N1) := by
                  show Own _ _ _ _ _
                  rw [HN1.out, hik, sw_self, sw_self]; exact Hown.out
                have t5 : ((a : Int) != (c : Int)) = false := by rw [hik]; simp
                clear hik
                go_wp2_with fail
                go_meet
                exact ⟨o, rfl, hol, ho2', hself.out, Tn.refl g wr⟩
              · obtain ⟨hhk, hfk⟩ := Hown.out.head hkl
                have hsw := Hown.out.swap hal hkl
                have htn := ((Tn.refl g wr).setCell a (.slice (hs2[c]'(Hown.out.len ▸ hkl)).1 T[c].length (hs2[c]'(Hown.out.len ▸ hkl)).2)).setCell c (.slice (hs2[a]'(Hown.out.len ▸ hal)).1 T[a].length (hs2[a]'(Hown.out.len ▸ hal)).2)
                rw [HeA.out, Hwi.out, ← Hci.out] at hsw htn
                rw [← HN1.out] at hsw
                obtain ⟨Ak, hAk⟩ : ∃ Ak, Ak = (hs2[c]'(Hown.out.len ▸ hkl)).1 := ⟨_, rfl⟩
                obtain ⟨ck, hck⟩ : ∃ ck, ck = (hs2[c]'(Hown.out.len ▸ hkl)).2 := ⟨_, rfl⟩
                obtain ⟨nk, hnk⟩ : ∃ nk, nk = T[c].length := ⟨_, rfl⟩
                rw [← hAk, ← hck, ← hnk] at hhk hsw htn
                have Hsw := Lib.hid hsw
                have Htn := Lib.hid htn
                have ho2' : o2 = plusN p 0 (plusN p 0 o (p - 1)) x0 := by rw [Ho2.out]; unfold detMul; rw [if_neg hik]
                have Hsub : Hid (∀ W, Calls Tryd.prog 46 #[.int .u32 0, .int .u32 (o : Int), .int .u32 (p : Int)] W fun e w' => e = .returned (.int .u32 (plusN p 0 o (p - 1) : Int)) ∧ Dr W w') := fun W => by
                  have h9 := rsub_any 0 o p (by omega) (by omega) hp hp0 W
                  rw [neg_eq hp1] at h9
                  exact h9
                have ho1l := plusN_lt hp0 0 o (p - 1)
                obtain ⟨o1, ho1⟩ : ∃ o1, o1 = plusN p 0 o (p - 1) := ⟨_, rfl⟩
                rw [← ho1] at Hsub ho2' ho1l
                have Ho2' := Lib.hid ho2'
                clear hsw htn hAk hck hnk ho1 ho2'
                have hki2 : ¬ (a = c) := hik
                have t5 : ((a : Int) != (c : Int)) = true := by simp; omega
                go_upto_region 12 with (fail)
                go_region
                all_goals
                  go_wp2_with (go_at_call 46; (with_reducible refine (Hsub.out _).mono ?_); rintro e w9 ⟨rfl, nd, rfl⟩)
                  go_meet
                  exact ⟨o1, rfl, ho1l, Ho2'.out, Hsw.out.drewN (1 + nd), Htn.out.drewN (1 + nd)⟩
            case rest =>
              obtain ⟨o1, rfl, ho1l, Ho3, hown1, htn1⟩ := hcut
              have hub1 : UB V (sw (none, 0) hs2 a c) := fun x hx => hub x (sw_mem (by have := Hown.out.len; omega) (by have := Hown.out.len; omega) hx)
              have hbel1 : Below w.heap.size w wc := hbel.trans (htn1.below hglo hbel.size)
              have hV1 : V ≤ wc.heap.size := Nat.le_trans hVs htn1.size
              obtain ⟨hs3, hhs3⟩ : ∃ hs3, hs3 = sw (none, 0) hs2 a c := ⟨_, rfl⟩
              rw [← hhs3] at hown1 hub1
              have hk1 : c < N1.length := by rw [HN1l.out]; exact hlt
              have hcl1 : c < N1[c].length := by rw [hg1.len hk1]; exact hlt
              obtain ⟨hhd1, hff1⟩ := hown1.head hk1
              obtain ⟨gk, restk, e1, h2, h3, h4, h5⟩ := hown1.at_ hk1 hcl1
              rw [e1, hg1.len hk1] at hhd1
              have hue := ent_at hk1 hcl1
              rw [He1.out] at hue
              have c5 : wc.cell? ⟨gk, c, none⟩ = some (.int .u32 (x0 : Int)) := by
                rw [h4.cell, List.getElem?_append_left (by rw [u32s_length]; exact hcl1), u32s_at hcl1, ← hue]
              have hgkV : gk < V := hub1.at_ (hown1.len ▸ hk1) e1
              obtain ⟨ck, hck⟩ : ∃ ck, ck = (hs3[c]'(hown1.len ▸ hk1)).2 := ⟨_, rfl⟩
              rw [← hck] at hhd1 h5
              have hk3 : c < hs3.length := hown1.len ▸ hk1
              have Hck : Hid (ck = (hs3[c]'hk3).2) := hck
              have HE1 : Hid ((hs3[c]'hk3).1 = some ⟨gk, 0, none⟩) := e1
              have Hinv : Hid (∀ W, Calls Tryd.prog 48 #[.int .u32 (x0 : Int), .int .u32 (p : Int)] W fun e w' => e = .returned (.int .u32 (invN p x0 : Int)) ∧ w' = W) := fun W => rinv_any x0 p (by omega) hp hp1 W
              have hvl := invN_lt hp0 x0
              obtain ⟨v0, hv0⟩ : ∃ v0, v0 = invN p x0 := ⟨_, rfl⟩
              rw [← hv0] at Hinv hvl
              have Hv0 := Lib.hid hv0
              have Hmul1 : Hid (∀ W, Calls Tryd.prog 47 #[.int .u32 (o1 : Int), .int .u32 (x0 : Int), .int .u32 (p : Int)] W fun e w' => e = .returned (.int .u32 (o2 : Int)) ∧ w' = W) := fun W => by
                have h9 := rmul_any o1 x0 p (by omega) (by omega) hp hp0 W
                rw [show o1 * x0 % p = o2 from by rw [Ho3.out]; simp [plusN]] at h9
                exact h9
              have hN2l : N2.length = N1.length := by rw [HN2.out, elimN_length]
              have hN2a : ∀ i (h : i < N1.length) (h2 : i < N2.length), N2[i] = if c < i then subN p (ent N1 i c * v0 % p) N1[i] N1[c] else N1[i] := fun i h h2 => by
                have e := HN2.out
                subst e
                rw [elimN_at h hk1 h2, Hv0.out, He1.out]
                simp [plusN]
              have HN2l := Lib.hid hN2l
              have HN2a : Hid (∀ i (h : i < N1.length) (h2 : i < N2.length), N2[i] = if c < i then subN p (ent N1 i c * v0 % p) N1[i] N1[c] else N1[i]) := hN2a
              have hown3 : Own wc w.heap.size g hs3 (mix N2 N1 (c + 1)) := by rw [HN2.out, elim_mix hk1]; exact hown1
              clear hN2l hN2a hown1 hhs3 hue h5 e1 hck hv0 hub hbel hVs htn1 Hhd Hhff c4 hhd
              go_wp2_with (first
                | (go_at_call 47; (with_reducible refine (Hmul1.out _).mono ?_); rintro e wc ⟨rfl, rfl⟩)
                | (go_at_call 48; (with_reducible refine (Hinv.out _).mono ?_); rintro e wc ⟨rfl, rfl⟩))
              go_loopw [9] (fun iv wr => ∃ (i : Nat), c < i ∧ i ≤ n ∧ iv = .int .i64 (i : Int) ∧ Own wr w.heap.size g hs3 (mix N2 N1 i) ∧ V ≤ wr.heap.size ∧ Below w.heap.size w wr) (fun iv _ => n - (intOf iv).toNat)
              case atStart => exact ⟨c + 1, by omega, by omega, by go_num, hown3, hV1, hbel1⟩
              case round =>
                clear hown3 hV1 hbel1 hhd1 hff1 c5 h4
                obtain ⟨i, hci, hi, rfl, hown, hVs, hbel⟩ := hrel
                have hml := mix_length HN2l.out i
                by_cases hil : i < n
                · have hi2 : i < N1.length := by rw [HN1l.out]; exact hil
                  have hi3' : i < N2.length := by rw [HN2l.out]; exact hi2
                  have him : i < (mix N2 N1 i).length := by rw [hml]; exact hi2
                  have hkm2 : c < (mix N2 N1 i).length := by rw [hml]; exact hk1
                  have hik : ¬ (i = c) := by omega
                  have ei := mix_at HN2l.out hi2 him
                  have ek := mix_keep HN2l.out hk1 i (by rw [HN2a.out c hk1 (by rw [HN2l.out]; exact hk1), if_neg (by omega)]) hkm2
                  have hN3i := HN2a.out i hi2 hi3'
                  rw [if_pos hci] at hN3i
                  obtain ⟨P, hP⟩ : ∃ P, P = mix N2 N1 i := ⟨_, rfl⟩
                  have hPs : P.set i N2[i] = mix N2 N1 (i + 1) := by rw [hP]; exact mix_set HN2l.out hi3'
                  rw [← hP] at hown hml
                  have hiP : i < P.length := by rw [hP]; exact him
                  have hkP : c < P.length := by rw [hP]; exact hkm2
                  have hPi : P[i] = N1[i] := by subst hP; exact ei
                  have hPk : P[c] = N1[c] := by subst hP; exact ek
                  have hwi2 := hg1.len hi2
                  have hwk2 := hg1.len hk1
                  have hDi : ∀ j (h : j < N1[i].length), N1[i][j] < p := fun j h => hg1.lt hi2 h
                  have hDk : ∀ j (h : j < N1[c].length), N1[c][j] < p := fun j h => hg1.lt hk1 h
                  have hx1l := hg1.ent_lt hp0 i c
                  have hent := ent_at (M := N1) hi2 (k := c) (by rw [hwi2]; exact hlt)
                  obtain ⟨X, hX⟩ : ∃ X, X = N1[i] := ⟨_, rfl⟩
                  obtain ⟨U, hU⟩ : ∃ U, U = N1[c] := ⟨_, rfl⟩
                  obtain ⟨R, hR⟩ : ∃ R, R = N2[i] := ⟨_, rfl⟩
                  obtain ⟨x1, hx1⟩ : ∃ x1, x1 = ent N1 i c := ⟨_, rfl⟩
                  rw [← hx1] at hx1l hent hN3i
                  have Hmulf := Lib.hid (fun W => rmul_any x1 v0 p (by omega) (by omega) hp hp0 W)
                  have hxl : x1 * v0 % p < p := Nat.mod_lt _ hp0
                  obtain ⟨f, hf⟩ : ∃ f, f = x1 * v0 % p := ⟨_, rfl⟩
                  rw [← hX] at hPi hwi2 hDi hN3i
                  simp only [← hX] at hent
                  rw [← hU] at hPk hwk2 hDk hN3i
                  rw [← hR] at hPs hN3i
                  rw [← hf] at hxl hN3i
                  simp only [← hf] at Hmulf
                  have hRl : R.length = X.length := by rw [hN3i]; exact subN_length (by rw [hwi2, hwk2])
                  have hRa : ∀ j (h : j < X.length) (h2 : j < U.length) (h3 : j < R.length), (X[j] + (p - f * U[j] % p % p)) % p = R[j] := fun j h h2 h3 => by
                    subst hN3i
                    exact sub_at hp0 hxl h h2 (hDi j h) h3
                  have hcX : c < X.length := by rw [hwi2]; exact hlt
                  have hset0 : P.set i (mix R X 0) = P := by rw [mix_zero, ← hPi, List.set_getElem_self]
                  have hownS : Own wr w.heap.size g hs3 (P.set i (mix R X 0)) := by rw [hset0]; exact hown
                  obtain ⟨hdi, _⟩ := hown.head hiP
                  obtain ⟨gi, resti, ei1, i2, i3, i4, i5⟩ := hown.at_ hiP (k := c) (by rw [hPi]; exact hcX)
                  have hi3l : i < hs3.length := by have := hown.len; omega
                  have hiV : gi < V := hub1.at_ hi3l ei1
                  obtain ⟨ci, hcci⟩ : ∃ ci, ci = (hs3[i]'hi3l).2 := ⟨_, rfl⟩
                  rw [ei1, hPi, hwi2, ← hcci] at hdi
                  rw [hPi] at i4
                  have ce : wr.cell? ⟨gi, c, none⟩ = some (.int .u32 (x1 : Int)) := by
                    rw [i4.cell, List.getElem?_append_left (by rw [u32s_length]; exact hcX), u32s_at hcX, ← hent]
                  have hnek : gi ≠ gk := fun e => hown.nd i c hiP hkP hik (fun e => by rw [e] at hPi; rw [← hPi] at hcX; simp at hcX) (fun e => by rw [e] at hPk; rw [← hPk] at hwk2; simp at hwk2; omega) (by rw [ei1, HE1.out, e])
                  have Hei1 : Hid ((hs3[i]'hi3l).1 = some ⟨gi, 0, none⟩) := ei1
                  have Hci : Hid (ci = (hs3[i]'hi3l).2) := hcci
                  have HPk : Hid (P[c] = U) := hPk
                  have HDi : Hid (∀ j (h : j < X.length), X[j] < p) := hDi
                  have HDk : Hid (∀ j (h : j < U.length), U[j] < p) := hDk
                  have Hwi := Lib.hid hwi2
                  have Hwk := Lib.hid hwk2
                  have HRl := Lib.hid hRl
                  have HRa : Hid (∀ j (h : j < X.length) (h2 : j < U.length) (h3 : j < R.length), (X[j] + (p - f * U[j] % p % p)) % p = R[j]) := hRa
                  have HPs := Lib.hid hPs
                  clear hP ei ek hN3i hPs hPi hPk hwi2 hwk2 hDi hDk hent hX hU hR hf hx1 hRl hRa hset0 hown i4 i5 hcci ei1 him hkm2 hml hcX
                  go_wp2_with (go_at_call 47; (with_reducible refine (Hmulf.out _).mono ?_); rintro e wr ⟨rfl, rfl⟩)
                  go_loopw [102] (fun jv wr => ∃ (j : Nat), j ≤ n ∧ jv = .int .i64 (j : Int) ∧ Own wr w.heap.size g hs3 (P.set i (mix R X j)) ∧ V ≤ wr.heap.size ∧ Below w.heap.size w wr) (fun jv _ => n - (intOf jv).toNat)
                  case atStart => exact ⟨0, by omega, rfl, hownS, hVs, hbel⟩
                  case round =>
                    clear hownS hVs hbel hdi ce
                    obtain ⟨j, hj, rfl, hown, hVs, hbel⟩ := hrel
                    by_cases hjl : j < n
                    · have hjX : j < X.length := by rw [Hwi.out]; exact hjl
                      have hjU : j < U.length := by rw [Hwk.out]; exact hjl
                      have hjR : j < R.length := by rw [HRl.out]; exact hjX
                      have hiN : i < (P.set i (mix R X j)).length := by rw [List.length_set]; exact hiP
                      have hkN : c < (P.set i (mix R X j)).length := by rw [List.length_set]; exact hkP
                      have e0 : (P.set i (mix R X j))[i] = mix R X j := by simp
                      have e1 : (P.set i (mix R X j))[c] = U := by rw [List.getElem_set_ne (fun e => hik e)]; exact HPk.out
                      have hml := mix_length HRl.out j
                      have hjm : j < (mix R X j).length := by rw [hml]; exact hjX
                      obtain ⟨hdi, hffi⟩ := hown.head hiN
                      obtain ⟨hdk, hffk⟩ := hown.head hkN
                      obtain ⟨gi2, resti2, e2, g2, g3, g4, g5⟩ := hown.at_ hiN (k := j) (by rw [e0]; exact hjm)
                      obtain ⟨gk2, restk2, e3, k2, k3, k4, k5⟩ := hown.at_ hkN (k := j) (by rw [e1]; exact hjU)
                      rw [Hei1.out] at e2 hdi
                      rw [HE1.out] at e3 hdk
                      obtain rfl : gi = gi2 := by simpa using e2
                      obtain rfl : gk = gk2 := by simpa using e3
                      rw [e0] at hdi g4 g5
                      rw [e1] at hdk k4
                      rw [hml, Hwi.out, ← Hci.out] at hdi
                      rw [Hwk.out, ← Hck.out] at hdk
                      have c1 : wr.cell? ⟨gi, j, none⟩ = some (.int .u32 (X[j] : Nat)) := by
                        rw [g4.cell, List.getElem?_append_left (by rw [u32s_length]; exact hjm), u32s_at hjm, mix_at HRl.out hjX]
                      have c2 : wr.cell? ⟨gk, j, none⟩ = some (.int .u32 (U[j] : Nat)) := by
                        rw [k4.cell, List.getElem?_append_left (by rw [u32s_length]; exact hjU), u32s_at hjU]
                      have f1 := g4.frozen j
                      have hxl2 := HDi.out j hjX
                      have hyl2 := HDk.out j hjU
                      have hze := HRa.out j hjX hjU hjR
                      obtain ⟨x, hx⟩ : ∃ x, x = X[j] := ⟨_, rfl⟩
                      obtain ⟨y, hy⟩ : ∃ y, y = U[j] := ⟨_, rfl⟩
                      rw [← hx] at c1 hxl2 hze
                      rw [← hy] at c2 hyl2 hze
                      have hml2 : f * y % p < p := Nat.mod_lt _ hp0
                      have Hmul := Lib.hid (fun W => rmul_any f y p (by omega) (by omega) hp hp0 W)
                      have Hsub := Lib.hid (fun W => rsub_any x (f * y % p) p (by omega) (by omega) hp hp0 W)
                      obtain ⟨m, hmm⟩ : ∃ m, m = f * y % p := ⟨_, rfl⟩
                      rw [← hmm] at hze
                      simp only [← hmm] at Hmul Hsub
                      obtain ⟨z, hz⟩ : ∃ z, z = (x + (p - m % p)) % p := ⟨_, rfl⟩
                      rw [← hz] at hze
                      simp only [← hz] at Hsub
                      have Hze := Lib.hid hze
                      clear hx hy hmm hz hze e2 e3 hml2
                      go_upto_region 23 with (fail)
                      refine region_quiet_tail 25 (by kernel_rfl) (by kernel_rfl) ?_
                      simp only [List.take_succ_cons, List.take_zero, List.drop_succ_cons, List.drop_zero]
                      repeat (quiet_step ((first
                        | (go_at_call 47; first | exact quietE (Hmul.out _) | exact quietAddE (Hmul.out _))
                        | (go_at_call 46; first | exact quietD (Hsub.out _) | exact quietAddD (Hsub.out _)))))
                      refine wpQuiet_nil ?_
                      rintro _ ⟨nq, rfl⟩
                      go_wp2_with fail
                      go_roundw
                      case rel =>
                        have htn : Tn gi wr ((wr.drewN nq).setCell ⟨gi, j, none⟩ (.int .u32 (z : Int))) := ((Tn.refl gi wr).drewN nq).setCell j _
                        have hb9 : Blk ((wr.drewN nq).setCell ⟨gi, j, none⟩ (.int .u32 (z : Int))) gi 28 (u32s (mix R X (j + 1)) ++ resti2) := by
                          have h7 := (g4.drewN nq).set_ j (.int .u32 (z : Int))
                          rw [List.set_append_left _ _ (by rw [u32s_length]; exact hjm), u32s_set, Hze.out, mix_set HRl.out] at h7
                          rw [Hze.out]; exact h7
                        have hn := hown.setRow hiN (gi := gi) (r := mix R X (j + 1)) (rest := resti2) Hei1.out htn hb9 (by rw [e0, mix_length HRl.out, hml]) g2 g3 (by rw [e0]; exact g5) (by rw [e0]; intro e; rw [e] at hjm; simp at hjm)
                        rw [List.set_set] at hn
                        exact ⟨j + 1, by omega, by go_num, hn, Nat.le_trans hVs htn.size, hbel.trans (htn.below g3 hbel.size)⟩
                      case measure => simp [intOf]; omega
                    · have hje : j = X.length := by have := Hwi.out; omega
                      have hN : Own wr w.heap.size g hs3 (mix N2 N1 (i + 1)) := by
                        rw [hje, mix_all HRl.out, HPs.out] at hown; exact hown
                      have hjn2 : n ≤ j := by omega
                      clear hje hown
                      go_wp2_with fail
                      go_roundw
                      case rel => exact ⟨i + 1, by omega, by omega, by go_num, hN, hVs, hbel⟩
                      case measure => simp [intOf]; omega
                · have hie : i = N1.length := by have := HN1l.out; omega
                  have hN2o : Own wr w.heap.size g hs3 N2 := by
                    rw [hie, mix_all HN2l.out] at hown; exact hown
                  have hil2 : n ≤ i := by omega
                  clear hie hown
                  go_wp2_with fail
                  go_roundw
                  case rel => exact ⟨c + 1, o2, N2, hs3, by omega, by go_num, rfl, Hst, hN2o, hub1, hVs, hbel⟩
                  case measure => simp [intOf]; omega
        · have hae : a = n := by omega
          have hD0 : D = 0 := by
            have hpv : piv T c c = none := by rw [Hpv.out, hae, Nat.sub_self]; rfl
            have h1 : detTo p N0 (c + 1) = none := by rw [detTo, HT.out]; simp only [hpv]
            have h2 := detTo_none h1 (n - (c + 1))
            rw [show c + 1 + (n - (c + 1)) = n from by omega] at h2
            rw [HD.out]; unfold detN; rw [HlN.out, h2]
          have HD0 := Lib.hid hD0
          have t1 : ((a : Int) == (n : Int)) = true := by rw [hae]; simp
          clear hae hD0
          go_wp2_with fail
          go_ret
          exact ⟨by rw [HD0.out]; rfl, hbel⟩
    · have hce : c = n := by omega
      have hD2 : D = o := by
        rw [HD.out]; unfold detN
        rw [HlN.out, ← hce, HT.out]
      have hD3 := Lib.hid hD2
      have hge : n ≤ c := by omega
      clear hce hD2
      go_wp2_with fail
      go_ret
      exact ⟨by rw [hD3.out]; rfl, hbel⟩
end
end Go.Proofs.YtecdjanopiibcaaDoor
