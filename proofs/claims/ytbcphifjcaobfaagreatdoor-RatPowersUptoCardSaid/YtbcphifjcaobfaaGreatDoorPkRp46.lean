/- A fraction that comes in as two integers: what its reading s. -/
import Derived.Test.YtbcphifjcaobfaaGreatDoorPkRp45
namespace Go.Proofs.YtbcphifjcaobfaaGreatDoor
open Go.ChangeShapes Go.WideShapes Go.ChangeAt Go.RowKit
theorem bulk_left {H : Type} (d0 d1 : DataW H) : Rows.uptoBulk d0 ≤ Rows.uptoBulk (.agg [d0, d1]) := by
 simp only [Rows.uptoBulk, Rows.uptoBulkAll]; omega
theorem bulk_right {H : Type} (d0 d1 : DataW H) : Rows.uptoBulk d1 ≤ Rows.uptoBulk (.agg [d0, d1]) := by
 simp only [Rows.uptoBulk, Rows.uptoBulkAll]; omega
set_option maxRecDepth 100000 in
theorem open_zcells {H : Type} {enc : TypeId × Value → H} {W : World} {fuel : Nat} {c0 c1 : Value} {y : DataW H × List MemPlace} (hf : DataW.trod enc Tryz.prog W 0 (fun _ => true) true fuel 25 [c0, c1] = some y)
  (hlt : ∀ x ∈ y.2, x.block < W.heap.size) (hb : Rows.uptoBulk y.1 ≤ 1048576) :
  ∃ (g : Bool) (A : Option Addr) (c : Nat) (xs : List Nat) (z : Int), c0 = .bool g ∧ c1 = .slice A xs.length c ∧ Zh W g A c xs z 1048576 := by
 obtain ⟨y0, y1, n, hx, _, g0, g1⟩ := Go.ChangeShapes.trod_struct2 Tryz.underlying25 hf
 subst hx
 have g0' : DataW.trod enc Tryz.prog W 0 (fun _ => true) true n 4 [c0] = some y0 := g0
 have g1' : DataW.trod enc Tryz.prog W 0 (fun _ => true) true n 23 [c1] = some y1 := g1
 obtain ⟨b, e0, rfl⟩ := DataW.trod_bool Tryz.underlying4 g0'
 obtain rfl := (List.cons.inj e0).1
 obtain ⟨a0, len, cap, e1⟩ := Go.Joins.slice_form Tryz.underlying23 g1'
 obtain rfl := (List.cons.inj e1).1
 obtain ⟨xs, rfl, hc, hdg, hr, hl⟩ := open_nat_t g1' (fun x hx => hlt x (List.mem_append_right _ hx)) 1048576 (by omega) (fun elems spare e => by
  have h2 := bulk_right (H := H) (.lit (.bool b)) y1.1
  have h3 := bulk_len elems
  have h4 := bulk_len spare
  rw [e] at h2
  simp only [Rows.uptoBulk] at h2 hb
  rw [e] at hb
  simp only [Rows.uptoBulkAll, Rows.uptoBulk] at hb h2
  omega)
 exact ⟨b, a0, cap, xs, ivalN b (val 4294967296 xs), rfl, rfl, ⟨⟨hdg, (abs_ival _ _).symm, hr, hc, hl⟩, by rw [abs_ival]⟩⟩
set_option maxRecDepth 100000 in
theorem open_rat {H : Type} {enc : TypeId × Value → H} {W : World} {r : Reach} {b0 : Nat} {v : Value} {d : DataW H} {p : List MemPlace} {l : List (DataW H)} (hval : Value.okWide Tryz.prog W r b0 27 v) (h : DataW.Trod enc Tryz.prog W 0 (fun _ => true) true 27 v d p)
  (hlt : ∀ x ∈ p, x.block < W.heap.size) (hk : Rows.uptoSmall H l = true) (hd : d ∈ l) :
  ∃ (g : Bool) (A : Option Addr) (c : Nat) (xs : List Nat) (z : Int) (g2 : Bool) (A2 : Option Addr) (c2 : Nat) (ys : List Nat) (y : Int), v = .agg #[.bool g, .slice A xs.length c, .bool g2, .slice A2 ys.length c2] ∧ Zh W g A c xs z 1048576 ∧ Zh W g2 A2 c2 ys y 1048576 := by
 have hbulk : Rows.uptoBulk d ≤ 1048576 := by
  have h4 : Rows.uptoBulkAll l ≤ 1048576 := of_decide_eq_true hk
  have h5 := bulk_part hd
  omega
 obtain ⟨cs, rfl, hsz⟩ := okWide_struct Tryz.underlying27 hval
 obtain ⟨a0, a1, a2, a3, rfl⟩ := Go.Joins.array4 (hsz.trans (show Tryz.prog.cellsOf 27 = 4 by kernel_rfl))
 obtain ⟨fuel, hf⟩ := h
 obtain ⟨y0, y1, n, hx, _, h0, h1⟩ := Go.ChangeShapes.trod_struct2 Tryz.underlying27 hf
 simp only [Prod.mk.injEq] at hx
 obtain ⟨rfl, rfl⟩ := hx
 have hC : Tryz.prog.cellsOf 25 = 2 := by kernel_rfl
 have h0' : DataW.trod enc Tryz.prog W 0 (fun _ => true) true n 25 [a0, a1] = some y0 := by
  have := h0
  simp only [hC, Value.cells] at this
  exact this
 have h1' : DataW.trod enc Tryz.prog W 0 (fun _ => true) true n 25 [a2, a3] = some y1 := by
  have := h1
  simp only [hC, Value.cells] at this
  exact this
 obtain ⟨g, A, c, xs, z, rfl, rfl, Z1⟩ := open_zcells h0' (fun x hx => hlt x (List.mem_append_left _ hx)) (Nat.le_trans (bulk_left y0.1 y1.1) hbulk)
 obtain ⟨g2, A2, c2, ys, y, rfl, rfl, Z2⟩ := open_zcells h1' (fun x hx => hlt x (List.mem_append_right _ hx)) (Nat.le_trans (bulk_right y0.1 y1.1) hbulk)
 exact ⟨g, A, c, xs, z, g2, A2, c2, ys, y, rfl, Z1, Z2⟩
end Go.Proofs.YtbcphifjcaobfaaGreatDoor
