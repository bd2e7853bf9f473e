/- The contract of the reference's Mod on integers. -/
import Derived.Test.YtcjgilagldbjnaaGreatDoorPkBb47
import Derived.Test.YtcjgilagldbjnaaGreatDoorPkBb48
namespace Go.Proofs.YtcjgilagldbjnaaGreatDoor
open Go.RowKit
def RmS (w0 : World) (R : Int) (v6 : Value) (W : World) : Prop :=
 ∃ g6 A3 c3 rs, v6 = .pointer (some ⟨g6, 0, none⟩) ∧ Blk W g6 25 [.bool (isNeg R), .slice A3 rs.length c3] ∧ Num 4294967296 rs R.natAbs ∧ Res W w0.heap.size 34 A3 c3 (u32s rs) ∧ Below w0.heap.size w0 W
section
variable {w : World} {g : Bool} {A : Option Addr} {c K : Nat} {xs : List Nat} {z : Int}
set_option maxHeartbeats 6400000 in
theorem Zh.rmod (h : Zh w g A c xs z K) (hK : K ≤ 67108863) (p : Nat) (hp0 : 0 < p) (hp : p < 4294967296) :
  Calls Tryz.prog 12 #[.agg #[.bool g, .slice A xs.length c], .int .u32 (p : Int)] w fun e w' => e = .returned (.int .u32 (z % (p : Int))) ∧ Below w.heap.size w w' := by
 have b0 := blk_one w (.bool g) (.slice A xs.length c)
 have k0 := bel_one w (.cells #[.bool g, .slice A xs.length c] 25)
 obtain ⟨R, hR⟩ : ∃ v, v = z % (p : Int) := ⟨_, rfl⟩
 have r0 : 0 ≤ R := by rw [hR]; exact Int.emod_nonneg _ (by omega)
 have r1 : R < p := by rw [hR]; exact Int.emod_lt_of_pos _ (by omega)
 obtain ⟨Q, hQ⟩ : ∃ v, v = z / (p : Int) := ⟨_, rfl⟩
 have OF : Hid (∀ W, Calls Tryz.prog 16 #[.int .i64 (IntKind.i64.wrap (p : Int))] W fun e w' => ZOut W w' (p : Int) e) := fun W => by
  rw [show IntKind.i64.wrap (p : Int) = p from by rw [IntKind.wrap_i64]; omega]
  exact rzof_any _ (by omega) (by omega) W
 have EU : Hid (∀ (zo : List Nat) (Ao : Option Addr) (co B9 : Nat) (wo W : World), Below w.heap.size w W → Num 4294967296 zo (p : Int).natAbs → Res wo B9 34 Ao co (u32s zo) → Below wo.heap.size wo W → Calls Tryz.prog 32 #[.agg #[.bool g, .slice A xs.length c], .agg #[.bool (isNeg (p : Int)), .slice Ao zo.length co]] W fun e w' => ZZ W w' Q R e) := fun zo Ao co B9 wo W hW hn hr hb => by
  rw [hQ, hR]
  exact (h.next hW).reuclid ((Zn.shrink (K := 1) hn hr (by rw [Int.natAbs_natCast]; omega)).next hb).zh (by omega) hK (by omega)
 have HR := hi9 hR
 have R0 := hi9 r0
 have R1 := hi9 r1
 rw [← hR]
 clear h hQ hR r0 r1
 go_enter Tryz.func12, Tryz.ntmps12
 go_wp2_with fail
 obtain ⟨w0, hw0⟩ : ∃ w0, w0 = w.alloc (.cells #[.bool g, .slice A xs.length c] 25) := ⟨_, rfl⟩
 rw [← hw0] at b0 k0 ⊢
 clear hw0
 replace EU : Hid (∀ (zo : List Nat) (Ao : Option Addr) (co B9 : Nat) (wo W : World), Below w0.heap.size w0 W → Num 4294967296 zo (p : Int).natAbs → Res wo B9 34 Ao co (u32s zo) → Below wo.heap.size wo W → Calls Tryz.prog 32 #[.agg #[.bool g, .slice A xs.length c], .agg #[.bool (isNeg (p : Int)), .slice Ao zo.length co]] W fun e w' => ZZ W w' Q R e) := fun zo Ao co B9 wo W hW => EU.out zo Ao co B9 wo W (bst k0 hW nl9)
 have B0 := hi9 b0
 have K0 := hi9 k0
 have low0 : w.heap.size < w0.heap.size := b0.lt
 obtain ⟨p0, p1, _, _⟩ := b0.two
 clear b0 k0
 have n1 : w.heap.size ≠ w0.heap.size := by omega
 have n3 : w.heap.size ≠ w0.heap.size + 1 := by omega
 have n4 : w0.heap.size ≠ w.heap.size := by omega
 have n6 : w0.heap.size + 1 ≠ w.heap.size := by omega
 go_cut [6] (fun v6 W => RmS w0 R v6 W)
 case first =>
  go_region_held3 (fun W => W.cell? ⟨w.heap.size, 0, none⟩ = some (.bool g) ∧ W.cell? ⟨w.heap.size, 1, none⟩ = some (.slice A xs.length c)) (go_keep) (first
   | (go_at_call 16; (with_reducible refine (OF.out _).mono ?_); rintro e wo ⟨zo, Ao, co, rfl, hzo, hro, hbo⟩; have jo : Below w0.heap.size w0 wo := bst (by repeat (first | exact br9 | exact jo | exact je | apply bdw | (refine bdn ?_ _) | (refine bal ?_ nl9 _))) hbo nl9; obtain ⟨x0o, y0o, u0o, v0o⟩ := (B0.out.below jo B0.out.lt).two; obtain ⟨xx0o, yy0o, uu0o, vv0o⟩ := two_al (B0.out.below jo B0.out.lt); have m0o : w.heap.size < wo.heap.size := Nat.lt_of_lt_of_le low0 jo.size; have ma0o := Nat.ne_of_lt m0o; have mb0o := Nat.ne_of_gt m0o; have mc0o := Nat.ne_of_lt (Nat.lt_succ_of_lt m0o); have md0o := Nat.ne_of_gt (Nat.lt_succ_of_lt m0o); (first | (have bno0 := ((blk_one w0 (.bool false) (.slice none 0 0))).below hbo (by simp)) | (have bno0 := ((blk_one w0 (.bool false) (.slice none 0 0)).drew).below hbo (by simp)) | (have bno0 := ((blk_one w0 (.bool false) (.slice none 0 0)).drewN _).below hbo (by simp)) | (have bno0 := (((blk_pair2 w0 (.bool false) (.slice none 0 0) (.bool false) (.slice none 0 0)).1)).below hbo (by simp <;> omega); have bno1 := (((blk_pair2 w0 (.bool false) (.slice none 0 0) (.bool false) (.slice none 0 0)).2)).below hbo (by simp)) | (have bno0 := (((blk_pair2 w0 (.bool false) (.slice none 0 0) (.bool false) (.slice none 0 0)).1).drew).below hbo (by simp <;> omega); have bno1 := (((blk_pair2 w0 (.bool false) (.slice none 0 0) (.bool false) (.slice none 0 0)).2).drew).below hbo (by simp)) | (have bno0 := (((blk_pair2 w0 (.bool false) (.slice none 0 0) (.bool false) (.slice none 0 0)).1).drewN _).below hbo (by simp <;> omega); have bno1 := (((blk_pair2 w0 (.bool false) (.slice none 0 0) (.bool false) (.slice none 0 0)).2).drewN _).below hbo (by simp)) | skip); (try (have q9 := bno0.two; obtain ⟨a0bno0, a1bno0, a2bno0, a3bno0⟩ := q9)); (try (have q9 := two_al bno0; obtain ⟨c0bno0, c1bno0, c2bno0, c3bno0⟩ := q9)); (try have d0bno0 := Nat.ne_of_lt bno0.lt); (try have d1bno0 := Nat.ne_of_gt bno0.lt); (try have d2bno0 := Nat.ne_of_lt (Nat.lt_succ_of_lt bno0.lt)); (try have d3bno0 := Nat.ne_of_gt (Nat.lt_succ_of_lt bno0.lt)); (try (have q9 := two_al2 bno0; obtain ⟨e0bno0, e1bno0, e2bno0, e3bno0⟩ := q9)); (try (have q9 := bno1.two; obtain ⟨a0bno1, a1bno1, a2bno1, a3bno1⟩ := q9)); (try (have q9 := two_al bno1; obtain ⟨c0bno1, c1bno1, c2bno1, c3bno1⟩ := q9)); (try have d0bno1 := Nat.ne_of_lt bno1.lt); (try have d1bno1 := Nat.ne_of_gt bno1.lt); (try have d2bno1 := Nat.ne_of_lt (Nat.lt_succ_of_lt bno1.lt)); (try have d3bno1 := Nat.ne_of_gt (Nat.lt_succ_of_lt bno1.lt)); (try (have q9 := two_al2 bno1; obtain ⟨e0bno1, e1bno1, e2bno1, e3bno1⟩ := q9)))
   | (go_at_call 32; (with_reducible refine (EU.out zo Ao co _ wo _ (by repeat (first | exact br9 | exact jo | exact je | apply bdw | (refine bdn ?_ _) | (refine bal ?_ nl9 _))) hzo hro (by repeat (first | exact br9 | apply bdw | (refine bdn ?_ _) | (refine bal ?_ nl9 _)))).mono ?_); rintro e we ⟨qs, rs, A1, c1, A3, c3, rfl, hq, hr, rq, rr, hbe⟩; have je : Below w0.heap.size w0 we := bst (by repeat (first | exact br9 | exact jo | exact je | apply bdw | (refine bdn ?_ _) | (refine bal ?_ nl9 _))) hbe nl9; obtain ⟨x0e, y0e, u0e, v0e⟩ := (B0.out.below je B0.out.lt).two; obtain ⟨xx0e, yy0e, uu0e, vv0e⟩ := two_al (B0.out.below je B0.out.lt); have m0e : w.heap.size < we.heap.size := Nat.lt_of_lt_of_le low0 je.size; have ma0e := Nat.ne_of_lt m0e; have mb0e := Nat.ne_of_gt m0e; have mc0e := Nat.ne_of_lt (Nat.lt_succ_of_lt m0e); have md0e := Nat.ne_of_gt (Nat.lt_succ_of_lt m0e); (first | (have bne0 := ((blk_one wo (.bool false) (.slice none 0 0))).below hbe (by simp)) | (have bne0 := ((blk_one wo (.bool false) (.slice none 0 0)).drew).below hbe (by simp)) | (have bne0 := ((blk_one wo (.bool false) (.slice none 0 0)).drewN _).below hbe (by simp)) | (have bne0 := (((blk_pair2 wo (.bool false) (.slice none 0 0) (.bool false) (.slice none 0 0)).1)).below hbe (by simp <;> omega); have bne1 := (((blk_pair2 wo (.bool false) (.slice none 0 0) (.bool false) (.slice none 0 0)).2)).below hbe (by simp)) | (have bne0 := (((blk_pair2 wo (.bool false) (.slice none 0 0) (.bool false) (.slice none 0 0)).1).drew).below hbe (by simp <;> omega); have bne1 := (((blk_pair2 wo (.bool false) (.slice none 0 0) (.bool false) (.slice none 0 0)).2).drew).below hbe (by simp)) | (have bne0 := (((blk_pair2 wo (.bool false) (.slice none 0 0) (.bool false) (.slice none 0 0)).1).drewN _).below hbe (by simp <;> omega); have bne1 := (((blk_pair2 wo (.bool false) (.slice none 0 0) (.bool false) (.slice none 0 0)).2).drewN _).below hbe (by simp)) | skip); (try have bno0e := bno0.below (bel_pre hbe (by repeat (first | exact br9 | exact hbo | exact hbe | apply bdw | (refine bdn ?_ _) | (refine bal ?_ nl9 _)))) bno0.lt); (try have bno1e := bno1.below (bel_pre hbe (by repeat (first | exact br9 | exact hbo | exact hbe | apply bdw | (refine bdn ?_ _) | (refine bal ?_ nl9 _)))) bno1.lt); (try (have q9 := bno0e.two; obtain ⟨a0bno0e, a1bno0e, a2bno0e, a3bno0e⟩ := q9)); (try (have q9 := two_al bno0e; obtain ⟨c0bno0e, c1bno0e, c2bno0e, c3bno0e⟩ := q9)); (try have d0bno0e := Nat.ne_of_lt bno0e.lt); (try have d1bno0e := Nat.ne_of_gt bno0e.lt); (try have d2bno0e := Nat.ne_of_lt (Nat.lt_succ_of_lt bno0e.lt)); (try have d3bno0e := Nat.ne_of_gt (Nat.lt_succ_of_lt bno0e.lt)); (try (have q9 := two_al2 bno0e; obtain ⟨e0bno0e, e1bno0e, e2bno0e, e3bno0e⟩ := q9)); (try (have q9 := bno1e.two; obtain ⟨a0bno1e, a1bno1e, a2bno1e, a3bno1e⟩ := q9)); (try (have q9 := two_al bno1e; obtain ⟨c0bno1e, c1bno1e, c2bno1e, c3bno1e⟩ := q9)); (try have d0bno1e := Nat.ne_of_lt bno1e.lt); (try have d1bno1e := Nat.ne_of_gt bno1e.lt); (try have d2bno1e := Nat.ne_of_lt (Nat.lt_succ_of_lt bno1e.lt)); (try have d3bno1e := Nat.ne_of_gt (Nat.lt_succ_of_lt bno1e.lt)); (try (have q9 := two_al2 bno1e; obtain ⟨e0bno1e, e1bno1e, e2bno1e, e3bno1e⟩ := q9)); (try (have q9 := bne0.two; obtain ⟨a0bne0, a1bne0, a2bne0, a3bne0⟩ := q9)); (try (have q9 := two_al bne0; obtain ⟨c0bne0, c1bne0, c2bne0, c3bne0⟩ := q9)); (try have d0bne0 := Nat.ne_of_lt bne0.lt); (try have d1bne0 := Nat.ne_of_gt bne0.lt); (try have d2bne0 := Nat.ne_of_lt (Nat.lt_succ_of_lt bne0.lt)); (try have d3bne0 := Nat.ne_of_gt (Nat.lt_succ_of_lt bne0.lt)); (try (have q9 := two_al2 bne0; obtain ⟨e0bne0, e1bne0, e2bne0, e3bne0⟩ := q9)); (try (have q9 := bne1.two; obtain ⟨a0bne1, a1bne1, a2bne1, a3bne1⟩ := q9)); (try (have q9 := two_al bne1; obtain ⟨c0bne1, c1bne1, c2bne1, c3bne1⟩ := q9)); (try have d0bne1 := Nat.ne_of_lt bne1.lt); (try have d1bne1 := Nat.ne_of_gt bne1.lt); (try have d2bne1 := Nat.ne_of_lt (Nat.lt_succ_of_lt bne1.lt)); (try have d3bne1 := Nat.ne_of_gt (Nat.lt_succ_of_lt bne1.lt)); (try (have q9 := two_al2 bne1; obtain ⟨e0bne1, e1bne1, e2bne1, e3bne1⟩ := q9))))
  all_goals
   go_wp2_with fail
   go_meet
   have joe : Below wo.heap.size wo we := bel_pre hbe (by repeat (first | exact br9 | apply bdw | (refine bdn ?_ _) | (refine bal ?_ nl9 _)))
   have rr9 : Res we w0.heap.size 34 A3 c3 (u32s rs) := rr.mono (Nat.le_trans jo.size (by simp <;> omega))
   have l1 := jo.size
   have l2 := je.size
   refine ⟨_, A3, c3, rs, rfl, ?_, hr, ?_, (by repeat (first | exact br9 | exact je | apply bdw | (refine bdn ?_ _) | (refine bal ?_ nl9 _) | (refine bsc ?_ (by first | exact Nat.le_refl _ | exact Nat.le_succ _ | exact l1 | exact Nat.le_succ_of_le l1 | exact l2 | exact Nat.le_succ_of_le l2) _)))⟩
   all_goals (repeat' (first | with_reducible exact rr9 | with_reducible exact bno0e | with_reducible exact bno1e | with_reducible exact bne0 | with_reducible exact bne1 | (with_reducible apply Rs.al) | (with_reducible apply res_al9) | (with_reducible apply Rs.var2) | (with_reducible apply res_var2) | (with_reducible apply blk_pair) | (with_reducible refine Blk.far ?_ (by show _ ≠ _; first | assumption | simp) _) | (with_reducible exact Blk.new_ rfl) | (with_reducible exact blk_two rfl) | (with_reducible refine Blk.heapAlloc ?_ _)))
 case rest =>
  obtain ⟨g6, A3, c3, rs, rfl, b6, hr, rr, j6⟩ := hcut
  have k6 := bst K0.out j6 nl9
  obtain ⟨q0, q1, _, _⟩ := b6.two
  clear OF EU B0 K0 p0 p1 n1 n3 n4 n6
  have hv : val 4294967296 rs = R.natAbs := hr.2.2
  cases rs with
  | nil =>
   have e0 : R = 0 := by simp only [val] at hv; omega
   clear hv hr rr b6 j6 HR R0 R1
   subst e0
   go_wp2_with fail
   go_ret
   exact ⟨rfl, k6⟩
  | cons d l =>
   have e0 : R = d := by
    have h1 := R0.out
    have h2 := R1.out
    simp only [val] at hv
    omega
   obtain ⟨b, off, rfl, hb, hx⟩ := rr.rd.at32 (k := 0) (by simp)
   simp only [List.getElem_cons_zero, Nat.add_zero] at hx
   clear hv hr rr b6 j6 HR R0 R1
   subst e0
   go_wp2_with fail
   go_ret
   exact ⟨rfl, k6⟩
end
end Go.Proofs.YtcjgilagldbjnaaGreatDoor
