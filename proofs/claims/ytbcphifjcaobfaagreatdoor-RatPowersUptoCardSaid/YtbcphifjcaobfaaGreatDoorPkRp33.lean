/- A row of fractions that are held; the contract of rat.faultO. -/
import Derived.Test.YtbcphifjcaobfaaGreatDoorPkRp32
namespace Go.Proofs.YtbcphifjcaobfaaGreatDoor
open Go.RowKit
structure RE1 where
 g : Bool
 A : Option Addr
 c : Nat
 xs : List Nat
 z : Int
 g2 : Bool
 A2 : Option Addr
 c2 : Nat
 ys : List Nat
 y : Int
structure Rh (w : World) (e : RE1) (K : Nat) : Prop where
 num : Zh w e.g e.A e.c e.xs e.z K
 den : Zh w e.g2 e.A2 e.c2 e.ys e.y K
theorem Rh.next {w w' : World} {e : RE1} {K : Nat} (h : Rh w e K) (hb : Below w.heap.size w w') : Rh w' e K := ⟨h.num.next hb, h.den.next hb⟩
def RLs (w : World) (K : Nat) (A : Option Addr) (l : List RE1) : Prop := ∀ k (_ : k < l.length), ∃ b off, A = some ⟨b, off, none⟩ ∧ b < w.heap.size ∧ w.cell? ⟨b, off + k * 4, none⟩ = some (.bool l[k].g) ∧ w.cell? ⟨b, off + k * 4 + 1, none⟩ = some (.slice l[k].A l[k].xs.length l[k].c) ∧ w.cell? ⟨b, off + k * 4 + 2, none⟩ = some (.bool l[k].g2) ∧ w.cell? ⟨b, off + k * 4 + 3, none⟩ = some (.slice l[k].A2 l[k].ys.length l[k].c2) ∧ Rh w l[k] K
def anyBad (l : List RE1) : Prop := ∃ k, ∃ h : k < l.length, l[k].y = 0
theorem sign_zero9 (x : Int) : (x.sign == 0) = decide (x = 0) := by
 by_cases h : x = 0
 ·subst h; rfl
 ·rw [decide_eq_false h]
  exact beq_eq_false_iff_ne.2 (fun e => h (Int.sign_eq_zero_iff_zero.1 e))
set_option maxHeartbeats 6400000 in
theorem fault_any {w : World} {K : Nat} {A : Option Addr} {c : Nat} (l : List RE1) (h : RLs w K A l) (hK : K ≤ 67108864) (hlen : l.length ≤ 1048576) :
  Calls Tryz.prog 89 #[.slice A l.length c] w fun e w' => ∃ v : Int, e = .returned (.int .i64 v) ∧ (anyBad l ∧ v = 6 ∨ ¬ anyBad l ∧ v = 0) ∧ Below w.heap.size w w' := by
 have H := hi9 h
 clear h
 go_enter Tryz.func89, Tryz.ntmps89
 go_wp2_with fail
 go_loopw [2, 4, 7] (fun _ _ iv wr => ∃ k : Nat, k ≤ l.length ∧ iv = .int .i64 (k : Int) ∧ (∀ j (hj : j < l.length), j < k → l[j].y ≠ 0) ∧ Below w.heap.size w wr) (fun _ _ iv _ => l.length - (intOf iv).toNat)
 case atStart => exact ⟨0, Nat.zero_le _, rfl, fun _ _ h => absurd h (Nat.not_lt_zero _), br9⟩
 case round =>
  obtain ⟨k, hk, rfl, hgood, hbel⟩ := hrel
  by_cases hlt : k < l.length
  ·obtain ⟨b, off, rfl, hbw, h0, h1, h2, h3, hr⟩ := H.out k hlt
   have hx0 := (hbel.cell (p := ⟨b, off + k * 4, none⟩) hbw).trans h0
   have hx1 := (hbel.cell (p := ⟨b, off + k * 4 + 1, none⟩) hbw).trans h1
   have hx2 := (hbel.cell (p := ⟨b, off + k * 4 + 2, none⟩) hbw).trans h2
   have hx3 := (hbel.cell (p := ⟨b, off + k * 4 + 3, none⟩) hbw).trans h3
   have hr9 := hr.next hbel
   obtain ⟨eg, heg⟩ : ∃ v, v = l[k].g := ⟨_, rfl⟩
   obtain ⟨eA, heA⟩ : ∃ v, v = l[k].A := ⟨_, rfl⟩
   obtain ⟨exs, hexs⟩ : ∃ v, v = l[k].xs := ⟨_, rfl⟩
   obtain ⟨ec, hec⟩ : ∃ v, v = l[k].c := ⟨_, rfl⟩
   obtain ⟨fg, hfg⟩ : ∃ v, v = l[k].g2 := ⟨_, rfl⟩
   obtain ⟨fA, hfA⟩ : ∃ v, v = l[k].A2 := ⟨_, rfl⟩
   obtain ⟨fxs, hfxs⟩ : ∃ v, v = l[k].ys := ⟨_, rfl⟩
   obtain ⟨fc, hfc⟩ : ∃ v, v = l[k].c2 := ⟨_, rfl⟩
   obtain ⟨y, hy⟩ : ∃ v, v = l[k].y := ⟨_, rfl⟩
   have hd := hr9.den
   rw [← heg] at hx0
   rw [← heA, ← hexs, ← hec] at hx1
   rw [← hfg] at hx2
   rw [← hfA, ← hfxs, ← hfc] at hx3
   rw [← hfg, ← hfA, ← hfxs, ← hfc, ← hy] at hd
   obtain ⟨sg, hsg⟩ : ∃ v, v = y.sign := ⟨_, rfl⟩
   have SG : Hid (∀ W (_ : Below wr.heap.size wr W), Calls Tryz.prog 63 #[.agg #[.bool fg, .slice fA fxs.length fc]] W fun e w' => e = .returned (.int .i64 sg) ∧ Below W.heap.size W w') := fun W hW => by rw [hsg]; exact (hd.next hW).sign hK
   have hsz : (sg == 0) = decide (y = 0) := by rw [hsg]; exact sign_zero9 y
   have HG := hi9 hgood
   have KB := hi9 hbel
   have HY := hi9 hy
   clear h0 h1 h2 h3 hr hr9 hd heg heA hexs hec hfg hfA hfxs hfc hsg hgood hbel hy
   go_upto_region 4 with (fail)
   obtain ⟨v1, hv1⟩ : ∃ v, v = wr.alloc (.cells #[.bool eg, .slice eA exs.length ec, .bool fg, .slice fA fxs.length fc] 27) := ⟨_, rfl⟩
   rw [← hv1]
   have b5 : Blk v1 wr.heap.size 27 [.bool eg, .slice eA exs.length ec, .bool fg, .slice fA fxs.length fc] := by rw [hv1]; exact Blk.new_ rfl
   have j1 : Below wr.heap.size wr v1 := by rw [hv1]; exact bel_one _ _
   obtain ⟨g5, hg5⟩ : ∃ g, g = wr.heap.size := ⟨_, rfl⟩
   rw [← hg5] at b5 ⊢
   obtain ⟨_, _, p2, p3, _, _, _, _⟩ := b5.four
   clear hv1 hg5 hx0 hx1 hx2 hx3
   by_cases hy0 : y = 0
   ·rw [decide_eq_true hy0] at hsz
    have HB : Hid (anyBad l) := ⟨k, hlt, by rw [← HY.out]; exact hy0⟩
    clear hy0
    go_wp2_with fail
    refine (SG.out _ j1).mono ?_
    rintro e w2 ⟨rfl, hb2⟩
    go_wp2_with fail
    go_ret
    exact ⟨6, rfl, Or.inl ⟨HB.out, rfl⟩, bst KB.out (bst j1 hb2 nl9) nl9⟩
   ·rw [decide_eq_false hy0] at hsz
    have HN : Hid (∀ j (hj : j < l.length), j < k + 1 → l[j].y ≠ 0) := fun j hj hjk => by
     rcases Nat.lt_or_ge j k with g | g
     ·exact HG.out j hj g
     ·obtain rfl : j = k := by omega
      rw [← HY.out]; exact hy0
    clear hy0
    go_wp2_with fail
    refine (SG.out _ j1).mono ?_
    rintro e w2 ⟨rfl, hb2⟩
    go_wp2_with fail
    go_roundw
    case rel => exact ⟨k + 1, by omega, by go_num, HN.out, bst KB.out (bst j1 hb2 nl9) nl9⟩
    case measure => simp [intOf]; omega
  ·obtain rfl : k = l.length := by omega
   have HG := hi9 hgood
   clear hgood
   go_wp2_with fail
   go_ret
   exact ⟨0, rfl, Or.inr ⟨fun ⟨j, hj, e⟩ => HG.out j hj hj e, rfl⟩, hbel⟩
end Go.Proofs.YtbcphifjcaobfaaGreatDoor
