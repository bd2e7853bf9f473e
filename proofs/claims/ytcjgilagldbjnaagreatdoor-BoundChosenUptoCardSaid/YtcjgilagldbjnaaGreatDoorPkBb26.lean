/- The contracts of zint's smallest functions; an integer as it. -/
import Derived.Test.YtcjgilagldbjnaaGreatDoorPkBb24
import Derived.Test.YtcjgilagldbjnaaGreatDoorPkBb25
import Derived.Laws.EntriesVeiled
namespace Go.Proofs.YtcjgilagldbjnaaGreatDoor
open Go.RowKit
theorem blk_pair {w : World} {g : Nat} {t : TypeId} {x y : Value} (h : Blk w g t [x, y]) (u v : Value) : Blk ((w.setCell ⟨g, 0, none⟩ u).setCell ⟨g, 1, none⟩ v) g t [u, v] := by
 have k := (h.set_ 0 u).set_ 1 v
 simpa using k
theorem bel_one (w : World) (o : Obj) : Below w.heap.size w (w.alloc o) := br9.alloc nl9 _
theorem bel_two (w : World) (o o2 : Obj) : Below w.heap.size w ((w.alloc o).alloc o2) := (br9.alloc nl9 _).alloc (by simp) _
theorem bel_three (w : World) (o o2 o3 : Obj) : Below w.heap.size w (((w.alloc o).alloc o2).alloc o3) := (bel_two w o o2).alloc (by simp; omega) _
theorem blk_res1 (w : World) (o : Obj) (x y : Value) : Blk ((w.alloc o).alloc (.cells #[x, y] 25)) (w.heap.size + 1) 25 [x, y] := by
 have h := Blk.new_ (w := w.alloc o) (t := 25) (cs := #[x, y]) (vs := [x, y]) rfl
 simpa using h
theorem blk_res2 (w : World) (o o2 : Obj) (x y : Value) : Blk (((w.alloc o).alloc o2).alloc (.cells #[x, y] 25)) (w.heap.size + 2) 25 [x, y] := by
 have h := Blk.new_ (w := (w.alloc o).alloc o2) (t := 25) (cs := #[x, y]) (vs := [x, y]) rfl
 simpa using h
theorem Res.set_ {w : World} {B : Nat} {t : TypeId} {A : Option Addr} {c : Nat} {vs : List Value} (h : Res w B t A c vs) {p : Addr} (hp : p.block < B) (u : Value) : Res (w.setCell p u) B t A c vs :=
 ⟨h.1, h.2.1, fun hn => by
  obtain ⟨g, rest, e, hg, hk, hc⟩ := h.2.2 hn
  exact ⟨g, rest, e, hg, hk.far (by omega) u, hc⟩⟩
def NOut (w w' : World) (n : Nat) (e : Ending) : Prop := ∃ zs A' c', e = .returned (.slice A' zs.length c') ∧ Num 4294967296 zs n ∧ Res w' w.heap.size 34 A' c' (u32s zs) ∧ Below w.heap.size w w'
def ZOut (w w' : World) (z : Int) (e : Ending) : Prop := ∃ zs A' c', e = .returned (.agg #[.bool (isNeg z), .slice A' zs.length c']) ∧ Num 4294967296 zs z.natAbs ∧ Res w' w.heap.size 34 A' c' (u32s zs) ∧ Below w.heap.size w w'
structure Zh (w : World) (g : Bool) (A : Option Addr) (c : Nat) (xs : List Nat) (z : Int) (K : Nat) : Prop where
 hv : Hv w A c xs z.natAbs K
 sg : ivalN g z.natAbs = z
theorem Zh.next {w w' : World} {g : Bool} {A : Option Addr} {c K : Nat} {xs : List Nat} {z : Int} (h : Zh w g A c xs z K) (hb : Below w.heap.size w w') : Zh w' g A c xs z K := ⟨h.hv.next hb, h.sg⟩
theorem Zh.of {w : World} {B : Nat} {A : Option Addr} {c K : Nat} {zs : List Nat} {z : Int} (h : Num 4294967296 zs z.natAbs) (hr : Res w B 34 A c (u32s zs)) (hK : z.natAbs < 4294967296 ^ K) : Zh w (isNeg z) A c zs z K := ⟨Hv.of h hr hK, ival_abs z⟩
theorem res_len {w : World} {B : Nat} {t : TypeId} {A : Option Addr} {c : Nat} {xs : List Nat} (h : Res w B t A c (u32s xs)) : xs.length ≤ 281474976710656 := by
 have h1 := h.1
 have h2 := h.2.1
 rw [u32s_length] at h1
 omega
section
variable {w w' : World} {A A2 : Option Addr} {c c2 n k K J : Nat} {xs ys : List Nat}
theorem Hv.addN (h : Hv w A c xs n K) (h2 : Hv w A2 c2 ys k J) (hK : K ≤ 67108864) (hJ : J ≤ 67108864) : Calls Tryz.prog 19 #[.slice A xs.length c, .slice A2 ys.length c2] w fun e w' => NOut w w' (n + k) e := by
 have hl1 := h.len
 have hl2 := h2.len
 have h9 := add_any A A2 c c2 xs ys w w.heap.size h.rd h2.rd nl9 h.dig h2.dig h.cap h2.cap (by omega) (by omega)
 rwa [h.val_, h2.val_] at h9
theorem Hv.mulN (h : Hv w A c xs n K) (h2 : Hv w A2 c2 ys k J) (hK : K ≤ 67108864) (hJ : J ≤ 67108864) : Calls Tryz.prog 44 #[.slice A xs.length c, .slice A2 ys.length c2] w fun e w' => NOut w w' (n * k) e := by
 have hl1 := h.len
 have hl2 := h2.len
 have t1 := trimL_length_le xs
 have t2 := trimL_length_le ys
 have h9 := mul_any A A2 c c2 xs ys w w.heap.size h.rd h2.rd nl9 h.dig h2.dig h.cap h2.cap (by omega) (by omega) (by omega)
 rwa [h.val_, h2.val_] at h9
theorem Hv.subN (h : Hv w A c xs n K) (h2 : Hv w A2 c2 ys k J) (hK : K ≤ 67108864) (hJ : J ≤ 67108864) : Calls Tryz.prog 110 #[.slice A xs.length c, .slice A2 ys.length c2] w fun e w' => SubOut w w' n k e := by
 have hl1 := h.len
 have hl2 := h2.len
 have h9 := sub_any A A2 c c2 xs ys w w.heap.size h.rd h2.rd nl9 h.dig h2.dig h.cap h2.cap (by omega) (by omega)
 rwa [h.val_, h2.val_] at h9
theorem Hv.normN (h : Hv w A c xs n K) (hK : K ≤ 67108864) : Calls Tryz.prog 76 #[.slice A xs.length c] w fun e w' => NOut w w' n e := by
 have hl1 := h.len
 have h9 := norm_any A c xs w w.heap.size h.rd nl9 h.cap (by omega)
 refine h9.mono ?_
 rintro e w' ⟨A', c', rfl, hr, hb⟩
 exact ⟨_, A', c', rfl, by rw [← h.val_]; exact Num.of_trim h.dig, hr, hb⟩
end
theorem zret {fn : Func} {a : Act} {w W : World} {p : Tmp} {r B : Nat} {x y : Value} {z : Int} {zs : List Nat} {A : Option Addr} {c : Nat} (hbel : Below w.heap.size w W) (hB : Blk W r 25 [x, y]) (hr : w.heap.size ≤ r)
  (hz : Num 4294967296 zs z.natAbs) (hres : Res W B 34 A c (u32s zs)) (hrB : r < B) (hres0 : fn.results = #[.cell p 25]) (hp : a.tmps.getD p undef = .pointer (some ⟨r, 0, none⟩)) (hd : a.defers = []) :
  bodyPost Tryz.prog fn (fun e w' => ZOut w w' z e) .ret a ((W.setCell ⟨r, 0, none⟩ (.bool (isNeg z))).setCell ⟨r, 1, none⟩ (.slice A zs.length c)) :=
 bodyPost_ret (results_cell_row hres0 _ _ r 25 _ (0, 0) _ hp (blk_pair hB _ _) Tryz.underlying25 rfl (by kernel_rfl)) hd
  ⟨zs, A, c, rfl, hz, ((hres.set_ (p := ⟨r, 0, none⟩) hrB _).set_ (p := ⟨r, 1, none⟩) hrB _).mono (by omega), (hbel.setCell (p := ⟨r, 0, none⟩) hr _).setCell (p := ⟨r, 1, none⟩) hr _⟩
set_option maxHeartbeats 400000 in
theorem made_any (g : Bool) (A : Option Addr) (n c : Nat) (w : World) (_ : n ≤ 281474976710656) :
  Calls Tryz.prog 75 #[.bool g, .slice A n c] w fun e w' => e = .returned (.agg #[.bool (g && decide (0 < n)), .slice A n c]) ∧ Below w.heap.size w w' := by
 cases g <;>
 ·go_enter Tryz.func75, Tryz.ntmps75
  go_wp2
  exact bodyPost_ret (results_cell_row rfl _ _ w.heap.size 25 _ (0, 0) _ rfl (Blk.new_ rfl) Tryz.underlying25 rfl (by kernel_rfl)) rfl ⟨rfl, br9.alloc nl9 _⟩
theorem num_pos {zs : List Nat} {n : Nat} (h : Num 4294967296 zs n) : decide (0 < zs.length) = decide (0 < n) := by
 have := h.nil_iff (by omega)
 rcases zs with _ | ⟨z, zs⟩
 ·have : n = 0 := this.1 rfl
  subst this; rfl
 ·have h0 : n ≠ 0 := fun e => by cases this.2 e
  have : 0 < n := by omega
  simp [this]
theorem made_num (g : Bool) {A : Option Addr} {c n : Nat} {zs : List Nat} (z : Int) (hz : Num 4294967296 zs n) (hzv : z = ivalN g n) (w : World) (hl : zs.length ≤ 281474976710656) :
  Calls Tryz.prog 75 #[.bool g, .slice A zs.length c] w fun e w' => e = .returned (.agg #[.bool (isNeg z), .slice A zs.length c]) ∧ Below w.heap.size w w' := by
 have h := made_any g A zs.length c w hl
 rwa [num_pos hz, ← isNeg_ival, ← hzv] at h
theorem place_f (w : World) : Calls Tryz.prog 90 #[.bool false] w fun e w' => e = .returned (.int .i64 0) ∧ w = w' := by
 go_enter Tryz.func90, Tryz.ntmps90
 go_wp2
 go_ret
 exact ⟨rfl, rfl⟩
theorem place_t (w : World) : Calls Tryz.prog 90 #[.bool true] w fun e w' => e = .returned (.int .i64 1) ∧ w = w' := by
 go_enter Tryz.func90, Tryz.ntmps90
 go_wp2
 go_ret
 exact ⟨rfl, rfl⟩
set_option maxHeartbeats 800000 in
theorem both_any {w : World} {A A2 : Option Addr} {c c2 m k K J : Nat} {xs ys : List Nat} (h : Hv w A c xs m K) (h2 : Hv w A2 c2 ys k J) (hK : K ≤ 67108864) (hJ : J ≤ 67108864) :
  Calls Tryz.prog 86 #[.agg #[.slice A xs.length c, .slice A2 ys.length c2]] w fun e w' => ZOut w w' (ivalN false (m + k)) e := by
 go_enter Tryz.func86, Tryz.ntmps86
 go_wp2_with fail
 refine (Hv.addN (h.next (bel_two _ _ _)) (h2.next (bel_two _ _ _)) hK hJ).mono ?_
 rintro e w1 ⟨zs, A', c', rfl, hz, hr, hb⟩
 go_wp2_with fail
 refine (made_num false (ivalN false (m + k)) hz rfl w1 (res_len hr)).mono ?_
 rintro e w2 ⟨rfl, hb2⟩
 obtain ⟨hc, hf⟩ := bcell (hb.trans (hb2.mono hb.size))
 have hB := (blk_res1 w (.cells #[.slice A xs.length c, .slice A2 ys.length c2] 110) (.bool false) (.slice none 0 0)).below (hb.trans (hb2.mono hb.size)) (by simp)
 go_wp2
 exact zret ((bel_two _ _ _).trans ((hb.trans (hb2.mono hb.size)).mono (bel_two _ _ _).size)) hB (by omega) (num_eq hz (abs_ival _ _).symm) (hr.below hb2 nl9) (by simp) rfl rfl rfl
set_option maxHeartbeats 800000 in
theorem bothBelow_any {w : World} {A A2 : Option Addr} {c c2 m k K J : Nat} {xs ys : List Nat} (h : Hv w A c xs m K) (h2 : Hv w A2 c2 ys k J) (hK : K ≤ 67108864) (hJ : J ≤ 67108864) :
  Calls Tryz.prog 89 #[.agg #[.slice A xs.length c, .slice A2 ys.length c2]] w fun e w' => ZOut w w' (ivalN true (m + k)) e := by
 go_enter Tryz.func89, Tryz.ntmps89
 go_wp2_with fail
 refine (Hv.addN (h.next (bel_two _ _ _)) (h2.next (bel_two _ _ _)) hK hJ).mono ?_
 rintro e w1 ⟨zs, A', c', rfl, hz, hr, hb⟩
 go_wp2_with fail
 refine (made_num true (ivalN true (m + k)) hz rfl w1 (res_len hr)).mono ?_
 rintro e w2 ⟨rfl, hb2⟩
 obtain ⟨hc, hf⟩ := bcell (hb.trans (hb2.mono hb.size))
 have hB := (blk_res1 w (.cells #[.slice A xs.length c, .slice A2 ys.length c2] 110) (.bool false) (.slice none 0 0)).below (hb.trans (hb2.mono hb.size)) (by simp)
 go_wp2
 exact zret ((bel_two _ _ _).trans ((hb.trans (hb2.mono hb.size)).mono (bel_two _ _ _).size)) hB (by omega) (num_eq hz (abs_ival _ _).symm) (hr.below hb2 nl9) (by simp) rfl rfl rfl
set_option maxHeartbeats 1600000 in
theorem less_any {w : World} {A A2 : Option Addr} {c c2 m k K J : Nat} {xs ys : List Nat} (h : Hv w A c xs m K) (h2 : Hv w A2 c2 ys k J) (hK : K ≤ 67108864) (hJ : J ≤ 67108864) :
  Calls Tryz.prog 103 #[.slice A xs.length c, .slice A2 ys.length c2] w fun e w' => ZOut w w' ((m : Int) - k) e := by
 by_cases hlt : m < k
 ·go_enter Tryz.func103, Tryz.ntmps103
  go_wp2_with fail
  refine (Hv.subN (h.next (bel_one _ _)) (h2.next (bel_one _ _)) hK hJ).mono ?_
  rintro e w1 ⟨zs, A', c', rfl, hz, hr, hb⟩
  rw [if_pos hlt]
  go_wp2_with fail
  refine (Hv.subN ((h2.next (bel_one _ _)).next hb) ((h.next (bel_one _ _)).next hb) hJ hK).mono ?_
  rintro e w2 ⟨zs2, A2', c2', rfl, hz2, hr2, hb2⟩
  rw [if_neg (by omega)]
  go_wp2_with fail
  refine (made_num true ((m : Int) - k) hz2 (by rw [ival_true]; omega) w2 (res_len hr2)).mono ?_
  rintro e w3 ⟨rfl, hb3⟩
  have hbb := (hb.trans (hb2.mono hb.size)).trans (hb3.mono (Nat.le_trans hb.size hb2.size))
  obtain ⟨hc, hf⟩ := bcell hbb
  have hB := (Blk.new_ (w := w) (t := 25) (cs := #[.bool false, .slice none 0 0]) (vs := [.bool false, .slice none 0 0]) rfl).below hbb (by simp)
  go_wp2
  exact zret ((bel_one _ _).trans (hbb.mono (bel_one _ _).size)) hB nl9 (num_eq hz2 (by omega)) (hr2.below hb3 nl9) (by have := hb.size; simp at this; omega) rfl rfl rfl
 ·go_enter Tryz.func103, Tryz.ntmps103
  go_wp2_with fail
  refine (Hv.subN (h.next (bel_one _ _)) (h2.next (bel_one _ _)) hK hJ).mono ?_
  rintro e w1 ⟨zs, A', c', rfl, hz, hr, hb⟩
  rw [if_neg hlt]
  go_wp2_with fail
  refine (made_num false ((m : Int) - k) hz (by rw [ival_false]; omega) w1 (res_len hr)).mono ?_
  rintro e w2 ⟨rfl, hb2⟩
  have hbb := hb.trans (hb2.mono hb.size)
  obtain ⟨hc, hf⟩ := bcell hbb
  have hB := (Blk.new_ (w := w) (t := 25) (cs := #[.bool false, .slice none 0 0]) (vs := [.bool false, .slice none 0 0]) rfl).below hbb (by simp)
  go_wp2
  exact zret ((bel_one _ _).trans (hbb.mono (bel_one _ _).size)) hB nl9 (num_eq hz (by omega)) (hr.below hb2 nl9) (by simp) rfl rfl rfl
set_option maxHeartbeats 800000 in
theorem firstLess_any {w : World} {A A2 : Option Addr} {c c2 m k K J : Nat} {xs ys : List Nat} (h : Hv w A c xs m K) (h2 : Hv w A2 c2 ys k J) (hK : K ≤ 67108864) (hJ : J ≤ 67108864) :
  Calls Tryz.prog 87 #[.agg #[.slice A xs.length c, .slice A2 ys.length c2]] w fun e w' => ZOut w w' ((m : Int) - k) e := by
 go_enter Tryz.func87, Tryz.ntmps87
 go_wp2_with fail
 refine (less_any (h.next (bel_two _ _ _)) (h2.next (bel_two _ _ _)) hK hJ).mono ?_
 rintro e w1 ⟨zs, A', c', rfl, hz, hr, hb⟩
 obtain ⟨hc, hf⟩ := bcell hb
 have hB := (blk_res1 w (.cells #[.slice A xs.length c, .slice A2 ys.length c2] 110) (.bool false) (.slice none 0 0)).below hb (by simp)
 go_wp2
 exact zret ((bel_two _ _ _).trans (hb.mono (bel_two _ _ _).size)) hB (by omega) hz hr (by simp) rfl rfl rfl
set_option maxHeartbeats 800000 in
theorem secondLess_any {w : World} {A A2 : Option Addr} {c c2 m k K J : Nat} {xs ys : List Nat} (h : Hv w A c xs m K) (h2 : Hv w A2 c2 ys k J) (hK : K ≤ 67108864) (hJ : J ≤ 67108864) :
  Calls Tryz.prog 88 #[.agg #[.slice A xs.length c, .slice A2 ys.length c2]] w fun e w' => ZOut w w' ((k : Int) - m) e := by
 go_enter Tryz.func88, Tryz.ntmps88
 go_wp2_with fail
 refine (less_any (h2.next (bel_two _ _ _)) (h.next (bel_two _ _ _)) hJ hK).mono ?_
 rintro e w1 ⟨zs, A', c', rfl, hz, hr, hb⟩
 obtain ⟨hc, hf⟩ := bcell hb
 have hB := (blk_res1 w (.cells #[.slice A xs.length c, .slice A2 ys.length c2] 110) (.bool false) (.slice none 0 0)).below hb (by simp)
 go_wp2
 exact zret ((bel_two _ _ _).trans (hb.mono (bel_two _ _ _).size)) hB (by omega) hz hr (by simp) rfl rfl rfl
theorem bel_drew (w : World) (o o2 : Obj) (n : Nat) : Below w.heap.size w (((w.alloc o).alloc o2).drewN n) := (bel_two w o o2).trans ((Dr.step (Dr.refl _) n).below _)
set_option maxHeartbeats 1600000 in
theorem zadded_both {w : World} {A A2 : Option Addr} {c c2 m k K J : Nat} {xs ys : List Nat} (h : Hv w A c xs m K) (h2 : Hv w A2 c2 ys k J) (hK : K ≤ 67108864) (hJ : J ≤ 67108864) :
  Calls Tryz.prog 74 #[.bool false, .slice A xs.length c, .bool false, .slice A2 ys.length c2] w fun e w' => ZOut w w' (ivalN false (m + k)) e := by
 have e9 : Hid (∀ W : World, Below w.heap.size w W → Calls Tryz.prog 86 #[.agg #[.slice A xs.length c, .slice A2 ys.length c2]] W fun e w' => ZOut W w' (ivalN false (m + k)) e) := fun W hW => both_any (h.next hW) (h2.next hW) hK hJ
 clear h h2
 go_enter Tryz.func74, Tryz.ntmps74
 go_wp2
 refine region_quiet_tail 10 (by kernel_rfl) (by kernel_rfl) ?_
 simp only [List.take_succ_cons, List.take_zero, List.drop_succ_cons, List.drop_zero]
 repeat (quiet_step ((go_at_call 90; first | (with_reducible exact quietL (place_f _)) | (with_reducible exact quietAddL (place_f _)) | (with_reducible exact quietL (place_t _)) | (with_reducible exact quietAddL (place_t _)))))
 refine wpQuiet_nil ?_
 rintro _ ⟨nq, rfl⟩
 go_wp2_with fail
 refine (e9.out _ (bel_drew _ _ _ _)).mono ?_
 rintro e w1 ⟨zs, A', c', rfl, hz, hr, hb⟩
 obtain ⟨hc, hf⟩ := bcell hb
 have hB := ((((Blk.new_ (w := w) (t := 25) (cs := #[.bool false, .slice none 0 0]) (vs := [.bool false, .slice none 0 0]) rfl).heapAlloc (.cells #[.func (.func 86) #[] #[], .func (.func 87) #[] #[], .func (.func 88) #[] #[], .func (.func 89) #[] #[]] 112)).drewN nq)).below hb (by simp; omega)
 go_wp2_with fail
 exact zret ((bel_drew _ _ _ _).trans (hb.mono (bel_drew _ _ _ _).size)) hB nl9 hz hr (by simp; omega) rfl rfl rfl
set_option maxHeartbeats 1600000 in
theorem zadded_firstLess {w : World} {A A2 : Option Addr} {c c2 m k K J : Nat} {xs ys : List Nat} (h : Hv w A c xs m K) (h2 : Hv w A2 c2 ys k J) (hK : K ≤ 67108864) (hJ : J ≤ 67108864) :
  Calls Tryz.prog 74 #[.bool false, .slice A xs.length c, .bool true, .slice A2 ys.length c2] w fun e w' => ZOut w w' ((m : Int) - k) e := by
 have e9 : Hid (∀ W : World, Below w.heap.size w W → Calls Tryz.prog 87 #[.agg #[.slice A xs.length c, .slice A2 ys.length c2]] W fun e w' => ZOut W w' ((m : Int) - k) e) := fun W hW => firstLess_any (h.next hW) (h2.next hW) hK hJ
 clear h h2
 go_enter Tryz.func74, Tryz.ntmps74
 go_wp2
 refine region_quiet_tail 10 (by kernel_rfl) (by kernel_rfl) ?_
 simp only [List.take_succ_cons, List.take_zero, List.drop_succ_cons, List.drop_zero]
 repeat (quiet_step ((go_at_call 90; first | (with_reducible exact quietL (place_f _)) | (with_reducible exact quietAddL (place_f _)) | (with_reducible exact quietL (place_t _)) | (with_reducible exact quietAddL (place_t _)))))
 refine wpQuiet_nil ?_
 rintro _ ⟨nq, rfl⟩
 go_wp2_with fail
 refine (e9.out _ (bel_drew _ _ _ _)).mono ?_
 rintro e w1 ⟨zs, A', c', rfl, hz, hr, hb⟩
 obtain ⟨hc, hf⟩ := bcell hb
 have hB := ((((Blk.new_ (w := w) (t := 25) (cs := #[.bool false, .slice none 0 0]) (vs := [.bool false, .slice none 0 0]) rfl).heapAlloc (.cells #[.func (.func 86) #[] #[], .func (.func 87) #[] #[], .func (.func 88) #[] #[], .func (.func 89) #[] #[]] 112)).drewN nq)).below hb (by simp; omega)
 go_wp2_with fail
 exact zret ((bel_drew _ _ _ _).trans (hb.mono (bel_drew _ _ _ _).size)) hB nl9 hz hr (by simp; omega) rfl rfl rfl
set_option maxHeartbeats 1600000 in
theorem zadded_secondLess {w : World} {A A2 : Option Addr} {c c2 m k K J : Nat} {xs ys : List Nat} (h : Hv w A c xs m K) (h2 : Hv w A2 c2 ys k J) (hK : K ≤ 67108864) (hJ : J ≤ 67108864) :
  Calls Tryz.prog 74 #[.bool true, .slice A xs.length c, .bool false, .slice A2 ys.length c2] w fun e w' => ZOut w w' ((k : Int) - m) e := by
 have e9 : Hid (∀ W : World, Below w.heap.size w W → Calls Tryz.prog 88 #[.agg #[.slice A xs.length c, .slice A2 ys.length c2]] W fun e w' => ZOut W w' ((k : Int) - m) e) := fun W hW => secondLess_any (h.next hW) (h2.next hW) hK hJ
 clear h h2
 go_enter Tryz.func74, Tryz.ntmps74
 go_wp2
 refine region_quiet_tail 10 (by kernel_rfl) (by kernel_rfl) ?_
 simp only [List.take_succ_cons, List.take_zero, List.drop_succ_cons, List.drop_zero]
 repeat (quiet_step ((go_at_call 90; first | (with_reducible exact quietL (place_f _)) | (with_reducible exact quietAddL (place_f _)) | (with_reducible exact quietL (place_t _)) | (with_reducible exact quietAddL (place_t _)))))
 refine wpQuiet_nil ?_
 rintro _ ⟨nq, rfl⟩
 go_wp2_with fail
 refine (e9.out _ (bel_drew _ _ _ _)).mono ?_
 rintro e w1 ⟨zs, A', c', rfl, hz, hr, hb⟩
 obtain ⟨hc, hf⟩ := bcell hb
 have hB := ((((Blk.new_ (w := w) (t := 25) (cs := #[.bool false, .slice none 0 0]) (vs := [.bool false, .slice none 0 0]) rfl).heapAlloc (.cells #[.func (.func 86) #[] #[], .func (.func 87) #[] #[], .func (.func 88) #[] #[], .func (.func 89) #[] #[]] 112)).drewN nq)).below hb (by simp; omega)
 go_wp2_with fail
 exact zret ((bel_drew _ _ _ _).trans (hb.mono (bel_drew _ _ _ _).size)) hB nl9 hz hr (by simp; omega) rfl rfl rfl
set_option maxHeartbeats 1600000 in
theorem zadded_bothBelow {w : World} {A A2 : Option Addr} {c c2 m k K J : Nat} {xs ys : List Nat} (h : Hv w A c xs m K) (h2 : Hv w A2 c2 ys k J) (hK : K ≤ 67108864) (hJ : J ≤ 67108864) :
  Calls Tryz.prog 74 #[.bool true, .slice A xs.length c, .bool true, .slice A2 ys.length c2] w fun e w' => ZOut w w' (ivalN true (m + k)) e := by
 have e9 : Hid (∀ W : World, Below w.heap.size w W → Calls Tryz.prog 89 #[.agg #[.slice A xs.length c, .slice A2 ys.length c2]] W fun e w' => ZOut W w' (ivalN true (m + k)) e) := fun W hW => bothBelow_any (h.next hW) (h2.next hW) hK hJ
 clear h h2
 go_enter Tryz.func74, Tryz.ntmps74
 go_wp2
 refine region_quiet_tail 10 (by kernel_rfl) (by kernel_rfl) ?_
 simp only [List.take_succ_cons, List.take_zero, List.drop_succ_cons, List.drop_zero]
 repeat (quiet_step ((go_at_call 90; first | (with_reducible exact quietL (place_f _)) | (with_reducible exact quietAddL (place_f _)) | (with_reducible exact quietL (place_t _)) | (with_reducible exact quietAddL (place_t _)))))
 refine wpQuiet_nil ?_
 rintro _ ⟨nq, rfl⟩
 go_wp2_with fail
 refine (e9.out _ (bel_drew _ _ _ _)).mono ?_
 rintro e w1 ⟨zs, A', c', rfl, hz, hr, hb⟩
 obtain ⟨hc, hf⟩ := bcell hb
 have hB := ((((Blk.new_ (w := w) (t := 25) (cs := #[.bool false, .slice none 0 0]) (vs := [.bool false, .slice none 0 0]) rfl).heapAlloc (.cells #[.func (.func 86) #[] #[], .func (.func 87) #[] #[], .func (.func 88) #[] #[], .func (.func 89) #[] #[]] 112)).drewN nq)).below hb (by simp; omega)
 go_wp2_with fail
 exact zret ((bel_drew _ _ _ _).trans (hb.mono (bel_drew _ _ _ _).size)) hB nl9 hz hr (by simp; omega) rfl rfl rfl
theorem zadded_any (g g2 : Bool) {w : World} {A A2 : Option Addr} {c c2 m k K J : Nat} {xs ys : List Nat} (h : Hv w A c xs m K) (h2 : Hv w A2 c2 ys k J) (hK : K ≤ 67108864) (hJ : J ≤ 67108864) :
  Calls Tryz.prog 74 #[.bool g, .slice A xs.length c, .bool g2, .slice A2 ys.length c2] w fun e w' => ZOut w w' (ivalN g m + ivalN g2 k) e := by
 rw [add_ival]
 cases g <;> cases g2
 ·exact zadded_both h h2 hK hJ
 ·exact zadded_firstLess h h2 hK hJ
 ·exact zadded_secondLess h h2 hK hJ
 ·exact zadded_bothBelow h h2 hK hJ
end Go.Proofs.YtcjgilagldbjnaaGreatDoor
