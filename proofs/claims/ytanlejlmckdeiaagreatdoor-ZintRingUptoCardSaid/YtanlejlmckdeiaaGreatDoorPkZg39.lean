/- Region 4 of the law ZintRing, apart. Conditions: at most 2^20 limbs each; the table of the library as it is laid. -/
import Derived.Test.YtanlejlmckdeiaaGreatDoorPkZg37
import Derived.Test.YtanlejlmckdeiaaGreatDoorPkZg34
namespace Go.Proofs.YtanlejlmckdeiaaGreatDoor
open Go.RowKit
open List (getElem_toArray getElem_cons_succ getElem_cons_zero setIfInBounds_toArray set_cons_zero set_cons_succ)

section
variable {w : World} {g g2 : Bool} {A A2 AG AX AY : Option Addr} {c c2 cG cX cY N gG : Nat} {xs ys zG zX zY : List Nat} {z y G X Y : Int}
set_option maxHeartbeats 25600000 in
set_option maxRecDepth 100000 in
theorem ring4 {v2 : World} {Q : Exit → Act → World → Prop} (s0 s1 s2 s5 s6 s10 s11 s12 s13 s14 s15 s16 s17 s18 s19 s20 s21 s22 s23 s24 s25 s26 s27 s28 s29 s30 s31 s32 s33 s34 s35 s36 s37 s38 s39 s40 s41 s42 s43 s44 s45 s46 s47 s48 s49 s50 s51 s52 s53 s54 s55 s56 s57 s58 s59 s60 s61 s62 s63 s64 s65 s66 s67 s68 s69 s70 s71 s72 s73 s74 s75 s76 s77 s78 s79 s80 s81 s82 s83 s84 s85 s86 s87 s88 s89 s90 s91 s92 s93 s94 s95 s96 s97 s98 s99 s100 s101 s102 s103 s104 s105 s106 s107 s108 s109 s110 s111 s112 s113 s114 s115 s116 s117 s118 s119 s120 s121 s122 s123 s124 s125 s126 s127 s128 s129 s130 s131 s132 s133 s134 s135 s136 s137 s138 s139 s140 s141 s142 s143 s144 s145 s146 s147 s148 s149 s150 s151 s152 s153 s154 s155 s156 s157 s158 s159 s160 s161 s162 s163 s164 s165 s166 s167 s168 s169 s170 s171 s172 s173 s174 s175 s176 s177 s178 s179 s180 s181 s182 s183 s184 s185 s186 s187 s188 s189 s190 s191 s192 s193 s194 s195 s196 s197 : Value)
    (hN : N ≤ 1048576) (LZ : Hid (z.natAbs < 4294967296 ^ N)) (LY : Hid (y.natAbs < 4294967296 ^ N)) (_ : Hid (G.natAbs < 4294967296 ^ N)) (LX : Hid (X.natAbs < 4294967296 ^ N)) (LY9 : Hid (Y.natAbs < 4294967296 ^ (max N (N + N) + 1))) (HS : Hid (z * X + y * Y = G)) (HT : Hid (Tab64 v2)) (HTB : Hid (0 < v2.heap.size))
    (HA : Hid (Zh v2 g A c xs z N))
    (HB : Hid (Zh v2 g2 A2 c2 ys y N))
    (HG : Hid (Zh v2 (isNeg G) AG cG zG G N))
    (HX : Hid (Zh v2 (isNeg X) AX cX zX X N))
    (HY : Hid (Zh v2 (isNeg Y) AY cY zY Y (max N (N + N) + 1)))
    (B0 : Hid (Blk v2 (w.heap.size) 28 [.bool g, .slice A xs.length c]))
    (B1 : Hid (Blk v2 (w.heap.size + 1) 28 [.bool g2, .slice A2 ys.length c2]))
    (BG : Hid (Blk v2 (gG) 28 [.bool (isNeg G), .slice AG zG.length cG]))
    (BX : Hid (Blk v2 (gG + 1) 28 [.bool (isNeg X), .slice AX zX.length cX]))
    (BY : Hid (Blk v2 (gG + 1 + 1) 28 [.bool (isNeg Y), .slice AY zY.length cY]))
    (hQ : ∀ (W : World) (u84 u85 u86 u87 u88 u89 u90 u91 u92 u93 u94 u95 u96 u97 u98 u99 u100 u101 u102 u103 u104 u105 u106 u107 u108 u109 : Value), Below v2.heap.size v2 W → Q .normal ⟨#[s0, s1, s2, .pointer (some ⟨w.heap.size, 0, none⟩), .pointer (some ⟨w.heap.size + 1, 0, none⟩), s5, s6, .pointer (some ⟨gG, 0, none⟩), .pointer (some ⟨gG + 1, 0, none⟩), .pointer (some ⟨gG + 1 + 1, 0, none⟩), s10, s11, s12, s13, s14, s15, s16, s17, s18, s19, s20, s21, s22, s23, s24, s25, s26, s27, s28, s29, s30, s31, s32, s33, s34, s35, s36, s37, s38, s39, s40, s41, s42, s43, s44, s45, s46, s47, s48, s49, s50, s51, s52, s53, s54, s55, s56, s57, s58, s59, s60, s61, s62, s63, s64, s65, s66, s67, s68, s69, s70, s71, s72, s73, s74, s75, s76, s77, s78, s79, s80, s81, s82, s83, u84, u85, u86, u87, u88, u89, u90, u91, u92, u93, u94, u95, u96, u97, u98, u99, u100, u101, u102, u103, u104, u105, u106, u107, u108, u109, .bool false, s111, s112, s113, s114, s115, s116, s117, s118, s119, s120, s121, s122, s123, s124, s125, s126, s127, s128, s129, s130, s131, s132, s133, s134, s135, s136, s137, s138, s139, s140, s141, s142, s143, s144, s145, s146, s147, s148, s149, s150, s151, s152, s153, s154, s155, s156, s157, s158, s159, s160, s161, s162, s163, s164, s165, s166, s167, s168, s169, s170, s171, s172, s173, s174, s175, s176, s177, s178, s179, s180, s181, s182, s183, s184, s185, s186, s187, s188, s189, s190, s191, s192, s193, s194, s195, s196, s197], []⟩ W) :
    Code.wp Tryz.prog (ringR 4) Q ⟨#[s0, s1, s2, .pointer (some ⟨w.heap.size, 0, none⟩), .pointer (some ⟨w.heap.size + 1, 0, none⟩), s5, s6, .pointer (some ⟨gG, 0, none⟩), .pointer (some ⟨gG + 1, 0, none⟩), .pointer (some ⟨gG + 1 + 1, 0, none⟩), s10, s11, s12, s13, s14, s15, s16, s17, s18, s19, s20, s21, s22, s23, s24, s25, s26, s27, s28, s29, s30, s31, s32, s33, s34, s35, s36, s37, s38, s39, s40, s41, s42, s43, s44, s45, s46, s47, s48, s49, s50, s51, s52, s53, s54, s55, s56, s57, s58, s59, s60, s61, s62, s63, s64, s65, s66, s67, s68, s69, s70, s71, s72, s73, s74, s75, s76, s77, s78, s79, s80, s81, s82, s83, s84, s85, s86, s87, s88, s89, s90, s91, s92, s93, s94, s95, s96, s97, s98, s99, s100, s101, s102, s103, s104, s105, s106, s107, s108, s109, s110, s111, s112, s113, s114, s115, s116, s117, s118, s119, s120, s121, s122, s123, s124, s125, s126, s127, s128, s129, s130, s131, s132, s133, s134, s135, s136, s137, s138, s139, s140, s141, s142, s143, s144, s145, s146, s147, s148, s149, s150, s151, s152, s153, s154, s155, s156, s157, s158, s159, s160, s161, s162, s163, s164, s165, s166, s167, s168, s169, s170, s171, s172, s173, s174, s175, s176, s177, s178, s179, s180, s181, s182, s183, s184, s185, s186, s187, s188, s189, s190, s191, s192, s193, s194, s195, s196, s197], []⟩ v2 := by
  have HQ := Lib.hid hQ
  clear hQ
  obtain ⟨p0, p1, _, _⟩ := B0.out.two
  obtain ⟨q0, q1, _, _⟩ := B1.out.two
  obtain ⟨a0, a1, _, _⟩ := BG.out.two
  obtain ⟨a2, a3, _, _⟩ := BX.out.two
  obtain ⟨a4, a5, _, _⟩ := BY.out.two
  obtain ⟨v3q2, h9⟩ : ∃ v : Int, v = z * X := ⟨_, rfl⟩
  have V3q2 := Lib.hid h9
  clear h9
  have l3q2 : Hid (v3q2.natAbs < 4294967296 ^ ((N) + (N))) := by show _ < _; rw [V3q2.out]; exact zprod_lt LZ.out LX.out
  obtain ⟨v6q2, h9⟩ : ∃ v : Int, v = y * Y := ⟨_, rfl⟩
  have V6q2 := Lib.hid h9
  clear h9
  have l6q2 : Hid (v6q2.natAbs < 4294967296 ^ ((N) + ((max N (N + N) + 1)))) := by show _ < _; rw [V6q2.out]; exact zprod_lt LY.out LY9.out
  obtain ⟨v7q2, h9⟩ : ∃ v : Int, v = v3q2 + v6q2 := ⟨_, rfl⟩
  have V7q2 := Lib.hid h9
  clear h9
  have l7q2 : Hid (v7q2.natAbs < 4294967296 ^ (max (((N) + (N))) (((N) + ((max N (N + N) + 1)))) + 1)) := by show _ < _; rw [V7q2.out]; exact zsum_lt (by omega) l3q2.out l6q2.out
  have E9q2 : Hid (v7q2 = G) := by show _ = _; simp only [V7q2.out, V3q2.out, V6q2.out]; exact HS.out
  obtain ⟨v15q2, h9⟩ : ∃ v : Int, v = ((gcdTo [⟨g, A, c, xs, z⟩, ⟨g2, A2, c2, ys, y⟩] 2 : Nat) : Int) := ⟨_, rfl⟩
  have V15q2 := Lib.hid h9
  clear h9
  have l15q2 : Hid (v15q2.natAbs < 4294967296 ^ N) := by show _ < _; rw [V15q2.out]; exact (by rw [Int.natAbs_natCast]; exact gcd_two_lt LZ.out LY.out)
  obtain ⟨v19q2, h9⟩ : ∃ v : Int, v = ((lcmTo [⟨g, A, c, xs, z⟩, ⟨g2, A2, c2, ys, y⟩] 2 : Nat) : Int) := ⟨_, rfl⟩
  have V19q2 := Lib.hid h9
  clear h9
  have l19q2 : Hid (v19q2.natAbs < 4294967296 ^ (N + N + 1)) := by show _ < _; rw [V19q2.out]; exact (by rw [Int.natAbs_natCast]; exact lcm_lt LZ.out LY.out 2 (by omega))
  obtain ⟨v20q2, h9⟩ : ∃ v : Int, v = v15q2 * v19q2 := ⟨_, rfl⟩
  have V20q2 := Lib.hid h9
  clear h9
  have l20q2 : Hid (v20q2.natAbs < 4294967296 ^ ((N) + ((N + N + 1)))) := by show _ < _; rw [V20q2.out]; exact zprod_lt l15q2.out l19q2.out
  obtain ⟨v23q2, h9⟩ : ∃ v : Int, v = z * y := ⟨_, rfl⟩
  have V23q2 := Lib.hid h9
  clear h9
  have l23q2 : Hid (v23q2.natAbs < 4294967296 ^ ((N) + (N))) := by show _ < _; rw [V23q2.out]; exact zprod_lt LZ.out LY.out
  obtain ⟨v24q2, h9⟩ : ∃ v : Int, v = (v23q2.natAbs : Int) := ⟨_, rfl⟩
  have V24q2 := Lib.hid h9
  clear h9
  have l24q2 : Hid (v24q2.natAbs < 4294967296 ^ (((N) + (N)))) := by show _ < _; rw [V24q2.out]; exact (by rw [Int.natAbs_natCast]; exact l23q2.out)
  have E25q2 : Hid (v20q2 = v24q2) := by show _ = _; simp only [V20q2.out, V15q2.out, V19q2.out, V24q2.out, V23q2.out]; rw [← Int.natCast_mul, lcm_two, ← Int.natAbs_mul]
  conv => arg 2; whnf
  refine wp_region_noPanic ?_
  refine wp_region_held_drew (S := fun W => W.cell? ⟨w.heap.size, 0, none⟩ = some (.bool g) ∧ W.cell? ⟨w.heap.size, 1, none⟩ = some (.slice A xs.length c) ∧ W.cell? ⟨w.heap.size + 1, 0, none⟩ = some (.bool g2) ∧ W.cell? ⟨w.heap.size + 1, 1, none⟩ = some (.slice A2 ys.length c2) ∧ W.cell? ⟨gG, 0, none⟩ = some (.bool (isNeg G)) ∧ W.cell? ⟨gG, 1, none⟩ = some (.slice AG zG.length cG) ∧ W.cell? ⟨gG + 1, 0, none⟩ = some (.bool (isNeg X)) ∧ W.cell? ⟨gG + 1, 1, none⟩ = some (.slice AX zX.length cX) ∧ W.cell? ⟨gG + 1 + 1, 0, none⟩ = some (.bool (isNeg Y)) ∧ W.cell? ⟨gG + 1 + 1, 1, none⟩ = some (.slice AY zY.length cY)) (by kernel_rfl) ?hSq2 (fun hHeld => ?_)
  case hSq2 => (try dsimp only); go_keep
  refine wpAnyH_take (i := 0) (v := ?v0q2) rfl (by kernel_rfl) (by kernel_rfl) (by kernel_rfl) (fun _ _ _ h => h) (Or.inl ⟨by rfl, ?hy0q2⟩) (by assumption) ?rest0q2
  case hy0q2 => intro w hSw; (try dsimp only at hSw); (try simp only [getElem_toArray, getElem_cons_zero]); go_simp; (try with_reducible rfl)
  (try simp only [getElem_toArray, getElem_cons_zero, Act.put, setIfInBounds_toArray, set_cons_zero, set_cons_succ])
  refine wpAnyH_take (i := 1) (v := ?v1q2) rfl (by kernel_rfl) (by kernel_rfl) (by kernel_rfl) (fun _ _ _ h => h) (Or.inl ⟨by rfl, ?hy1q2⟩) (by assumption) ?rest1q2
  case hy1q2 => intro w hSw; (try dsimp only at hSw); (try simp only [getElem_toArray, getElem_cons_succ, getElem_cons_zero]); go_simp; (try with_reducible rfl)
  (try simp only [getElem_toArray, getElem_cons_succ, getElem_cons_zero, Act.put, setIfInBounds_toArray, set_cons_zero, set_cons_succ])
  refine wpAnyH_take (i := 3) (v := ?v3q2) rfl (by kernel_rfl) (by kernel_rfl) (by kernel_rfl) (fun _ _ _ h => h) (Or.inl ⟨by rfl, ?hy3q2⟩) (by assumption) ?rest3q2
  case hy3q2 => intro w hSw; (try dsimp only at hSw); (try simp only [getElem_toArray, getElem_cons_succ, getElem_cons_zero]); go_simp; (try with_reducible rfl)
  (try simp only [getElem_toArray, getElem_cons_succ, getElem_cons_zero, Act.put, setIfInBounds_toArray, set_cons_zero, set_cons_succ])
  refine wpAnyH_take (i := 4) (v := ?v4q2) rfl (by kernel_rfl) (by kernel_rfl) (by kernel_rfl) (fun _ _ _ h => h) (Or.inl ⟨by rfl, ?hy4q2⟩) (by assumption) ?rest4q2
  case hy4q2 => intro w hSw; (try dsimp only at hSw); (try simp only [getElem_toArray, getElem_cons_succ, getElem_cons_zero]); go_simp; (try with_reducible rfl)
  (try simp only [getElem_toArray, getElem_cons_succ, getElem_cons_zero, Act.put, setIfInBounds_toArray, set_cons_zero, set_cons_succ])
  refine wpAnyH_take (i := 7) (v := ?v7q2) rfl (by kernel_rfl) (by kernel_rfl) (by kernel_rfl) (fun _ _ _ h => h) (Or.inl ⟨by rfl, ?hy7q2⟩) (by assumption) ?rest7q2
  case hy7q2 => intro w hSw; (try dsimp only at hSw); (try simp only [getElem_toArray, getElem_cons_succ, getElem_cons_zero]); go_simp; (try with_reducible rfl)
  (try simp only [getElem_toArray, getElem_cons_succ, getElem_cons_zero, Act.put, setIfInBounds_toArray, set_cons_zero, set_cons_succ])
  refine wpAnyH_ready (rs := [2]) (by kernel_rfl) (by simp) ?_
  refine AllReadyH.cons rfl (fun K hK => ?_) AllReadyH.nil
  go_simp
  refine ((Zh.mul (HA.out.next (bdw (Below.refl _ _))) (HX.out.next (bdw (Below.refl _ _))) (by omega) (by omega)).mono (fun e w' h => h.to V3q2.out.symm)).mono ?_
  rintro e w3q2 ⟨z3q2, A3q2, c3q2, rfl, nn3, rr3, hb3⟩
  have j3q2 : Below v2.heap.size v2 w3q2 := bst (bdw (Below.refl _ _)) hb3 (Nat.le_refl _)
  have n3q2 := Lib.hid nn3
  have r3q2 := Lib.hid rr3
  clear nn3 rr3
  obtain ⟨x03, y03, _, _⟩ := (B0.out.below j3q2 B0.out.lt).two
  obtain ⟨x13, y13, _, _⟩ := (B1.out.below j3q2 B1.out.lt).two
  obtain ⟨x23, y23, _, _⟩ := (BG.out.below j3q2 BG.out.lt).two
  obtain ⟨x33, y33, _, _⟩ := (BX.out.below j3q2 BX.out.lt).two
  obtain ⟨x43, y43, _, _⟩ := (BY.out.below j3q2 BY.out.lt).two
  (try go_wp2_with fail)
  refine hK.out _ _ ?hS2q2 (fun hHeld2 => ?_)
  case hS2q2 => (try dsimp only); go_keep
  clear hK K hHeld
  have hHeld := hHeld2
  clear hHeld2 hb3 x03 y03 x13 y13 x23 y23 x33 y33 x43 y43
  (try simp only [getElem_toArray, getElem_cons_succ, getElem_cons_zero, Act.put, setIfInBounds_toArray, set_cons_zero, set_cons_succ])
  refine wpAnyH_ready (rs := [5]) (by kernel_rfl) (by simp) ?_
  refine AllReadyH.cons rfl (fun K hK => ?_) AllReadyH.nil
  go_simp
  refine ((Zh.mul (HB.out.next j3q2) (HY.out.next j3q2) (by omega) (by omega)).mono (fun e w' h => h.to V6q2.out.symm)).mono ?_
  rintro e w6q2 ⟨z6q2, A6q2, c6q2, rfl, nn6, rr6, hb6⟩
  have j6q2 : Below v2.heap.size v2 w6q2 := bst j3q2 hb6 (Nat.le_refl _)
  have n6q2 := Lib.hid nn6
  have r6q2 := Lib.hid rr6
  clear nn6 rr6
  have d3_6q2 : Below w3q2.heap.size w3q2 w6q2 := hb6
  obtain ⟨x06, y06, _, _⟩ := (B0.out.below j6q2 B0.out.lt).two
  obtain ⟨x16, y16, _, _⟩ := (B1.out.below j6q2 B1.out.lt).two
  obtain ⟨x26, y26, _, _⟩ := (BG.out.below j6q2 BG.out.lt).two
  obtain ⟨x36, y36, _, _⟩ := (BX.out.below j6q2 BX.out.lt).two
  obtain ⟨x46, y46, _, _⟩ := (BY.out.below j6q2 BY.out.lt).two
  (try go_wp2_with fail)
  refine hK.out _ _ ?hS5q2 (fun hHeld2 => ?_)
  case hS5q2 => (try dsimp only); go_keep
  clear hK K hHeld
  have hHeld := hHeld2
  clear hHeld2 hb6 x06 y06 x16 y16 x26 y26 x36 y36 x46 y46 j3q2
  (try simp only [getElem_toArray, getElem_cons_succ, getElem_cons_zero, Act.put, setIfInBounds_toArray, set_cons_zero, set_cons_succ])
  refine wpAnyH_ready (rs := [6]) (by kernel_rfl) (by simp) ?_
  refine AllReadyH.cons rfl (fun K hK => ?_) AllReadyH.nil
  go_simp
  refine ((Zh.add ((Zn.shrink (K := ((N) + (N))) n3q2.out r3q2.out l3q2.out).next d3_6q2).zh ((Zn.shrink (K := ((N) + ((max N (N + N) + 1)))) n6q2.out r6q2.out l6q2.out)).zh (by omega) (by omega)).mono (fun e w' h => h.to V7q2.out.symm)).mono ?_
  rintro e w7q2 ⟨z7q2, A7q2, c7q2, rfl, nn7, rr7, hb7⟩
  have j7q2 : Below v2.heap.size v2 w7q2 := bst j6q2 hb7 (Nat.le_refl _)
  have n7q2 := Lib.hid nn7
  have r7q2 := Lib.hid rr7
  clear nn7 rr7
  obtain ⟨x07, y07, _, _⟩ := (B0.out.below j7q2 B0.out.lt).two
  obtain ⟨x17, y17, _, _⟩ := (B1.out.below j7q2 B1.out.lt).two
  obtain ⟨x27, y27, _, _⟩ := (BG.out.below j7q2 BG.out.lt).two
  obtain ⟨x37, y37, _, _⟩ := (BX.out.below j7q2 BX.out.lt).two
  obtain ⟨x47, y47, _, _⟩ := (BY.out.below j7q2 BY.out.lt).two
  (try go_wp2_with fail)
  refine hK.out _ _ ?hS6q2 (fun hHeld2 => ?_)
  case hS6q2 => (try dsimp only); go_keep
  clear hK K hHeld
  have hHeld := hHeld2
  clear hHeld2 hb7 x07 y07 x17 y17 x27 y27 x37 y37 x47 y47 j6q2
  (try simp only [getElem_toArray, getElem_cons_succ, getElem_cons_zero, Act.put, setIfInBounds_toArray, set_cons_zero, set_cons_succ])
  refine wpAnyH_ready (rs := [8]) (by kernel_rfl) (by simp) ?_
  refine AllReadyH.cons rfl (fun K hK => ?_) AllReadyH.nil
  go_simp
  refine ((lequal_any ((Zn.shrink (K := (max (((N) + (N))) (((N) + ((max N (N + N) + 1)))) + 1)) n7q2.out r7q2.out l7q2.out)).zh (HG.out.next j7q2) (by omega) (by omega) E9q2.out)).mono ?_
  rintro e w9q2 ⟨rfl, hb9⟩
  have j9q2 : Below v2.heap.size v2 w9q2 := bst j7q2 hb9 (Nat.le_refl _)
  obtain ⟨x09, y09, _, _⟩ := (B0.out.below j9q2 B0.out.lt).two
  obtain ⟨x19, y19, _, _⟩ := (B1.out.below j9q2 B1.out.lt).two
  obtain ⟨x29, y29, _, _⟩ := (BG.out.below j9q2 BG.out.lt).two
  obtain ⟨x39, y39, _, _⟩ := (BX.out.below j9q2 BX.out.lt).two
  obtain ⟨x49, y49, _, _⟩ := (BY.out.below j9q2 BY.out.lt).two
  (try go_wp2_with fail)
  refine hK.out _ _ ?hS8q2 (fun hHeld2 => ?_)
  case hS8q2 => (try dsimp only); go_keep
  clear hK K hHeld
  have hHeld := hHeld2
  clear hHeld2 hb9 x09 y09 x19 y19 x29 y29 x39 y39 x49 y49 j7q2
  (try simp only [getElem_toArray, getElem_cons_succ, getElem_cons_zero, Act.put, setIfInBounds_toArray, set_cons_zero, set_cons_succ])
  refine wpAnyH_take (i := 9) (v := ?v9q2) rfl (by kernel_rfl) (by kernel_rfl) (by kernel_rfl) (fun _ _ _ h => h) (Or.inl ⟨by rfl, ?hy9q2⟩) (by assumption) ?rest9q2
  case hy9q2 => intro w hSw; (try dsimp only at hSw); (try simp only [getElem_toArray, getElem_cons_succ, getElem_cons_zero]); go_simp; (try with_reducible rfl)
  (try simp only [getElem_toArray, getElem_cons_succ, getElem_cons_zero, Act.put, setIfInBounds_toArray, set_cons_zero, set_cons_succ])
  refine wpAnyH_take (i := 10) (v := ?v10q2) rfl (by kernel_rfl) (by kernel_rfl) (by kernel_rfl) (fun _ _ _ h => h) (Or.inl ⟨by rfl, ?hy10q2⟩) (by assumption) ?rest10q2
  case hy10q2 => intro w hSw; (try dsimp only at hSw); (try simp only [getElem_toArray, getElem_cons_succ, getElem_cons_zero]); go_simp; (try with_reducible rfl)
  (try simp only [getElem_toArray, getElem_cons_succ, getElem_cons_zero, Act.put, setIfInBounds_toArray, set_cons_zero, set_cons_succ])
  refine wpAnyH_take (i := 11) (v := ?v11q2) rfl (by kernel_rfl) (by kernel_rfl) (by kernel_rfl) (fun _ _ _ h => h) (Or.inl ⟨by rfl, ?hy11q2⟩) (by assumption) ?rest11q2
  case hy11q2 => intro w hSw; (try dsimp only at hSw); (try simp only [getElem_toArray, getElem_cons_succ, getElem_cons_zero]); go_simp; (try with_reducible rfl)
  (try simp only [getElem_toArray, getElem_cons_succ, getElem_cons_zero, Act.put, setIfInBounds_toArray, set_cons_zero, set_cons_succ])
  refine wpAnyH_take (i := 12) (v := ?v12q2) rfl (by kernel_rfl) (by kernel_rfl) (by kernel_rfl) (fun _ _ _ h => h) (Or.inl ⟨by rfl, ?hy12q2⟩) (by assumption) ?rest12q2
  case hy12q2 => intro w hSw; (try dsimp only at hSw); (try simp only [getElem_toArray, getElem_cons_succ, getElem_cons_zero]); go_simp; (try with_reducible rfl)
  (try simp only [getElem_toArray, getElem_cons_succ, getElem_cons_zero, Act.put, setIfInBounds_toArray, set_cons_zero, set_cons_succ])
  refine wpAnyH_take (i := 15) (v := ?v15q2) rfl (by kernel_rfl) (by kernel_rfl) (by kernel_rfl) (fun _ _ _ h => h) (Or.inl ⟨by rfl, ?hy15q2⟩) (by assumption) ?rest15q2
  case hy15q2 => intro w hSw; (try dsimp only at hSw); (try simp only [getElem_toArray, getElem_cons_succ, getElem_cons_zero]); go_simp; (try with_reducible rfl)
  (try simp only [getElem_toArray, getElem_cons_succ, getElem_cons_zero, Act.put, setIfInBounds_toArray, set_cons_zero, set_cons_succ])
  refine wpAnyH_take (i := 16) (v := ?v16q2) rfl (by kernel_rfl) (by kernel_rfl) (by kernel_rfl) (fun _ _ _ h => h) (Or.inl ⟨by rfl, ?hy16q2⟩) (by assumption) ?rest16q2
  case hy16q2 => intro w hSw; (try dsimp only at hSw); (try simp only [getElem_toArray, getElem_cons_succ, getElem_cons_zero]); go_simp; (try with_reducible rfl)
  (try simp only [getElem_toArray, getElem_cons_succ, getElem_cons_zero, Act.put, setIfInBounds_toArray, set_cons_zero, set_cons_succ])
  refine wpAnyH_take (i := 20) (v := ?v20q2) rfl (by kernel_rfl) (by kernel_rfl) (by kernel_rfl) (fun _ _ _ h => h) (Or.inl ⟨by rfl, ?hy20q2⟩) (by assumption) ?rest20q2
  case hy20q2 => intro w hSw; (try dsimp only at hSw); (try simp only [getElem_toArray, getElem_cons_succ, getElem_cons_zero]); go_simp; (try with_reducible rfl)
  (try simp only [getElem_toArray, getElem_cons_succ, getElem_cons_zero, Act.put, setIfInBounds_toArray, set_cons_zero, set_cons_succ])
  refine wpAnyH_take (i := 21) (v := ?v21q2) rfl (by kernel_rfl) (by kernel_rfl) (by kernel_rfl) (fun _ _ _ h => h) (Or.inl ⟨by rfl, ?hy21q2⟩) (by assumption) ?rest21q2
  case hy21q2 => intro w hSw; (try dsimp only at hSw); (try simp only [getElem_toArray, getElem_cons_succ, getElem_cons_zero]); go_simp; (try with_reducible rfl)
  (try simp only [getElem_toArray, getElem_cons_succ, getElem_cons_zero, Act.put, setIfInBounds_toArray, set_cons_zero, set_cons_succ])
  refine wpAnyH_ready (rs := [13, 17]) (by kernel_rfl) (by simp) ?_
  refine AllReadyH.cons rfl (fun K hK => ?_) (AllReadyH.cons rfl (fun K hK => ?_) AllReadyH.nil)
  ·
    go_simp
    obtain ⟨w14q2, hw14⟩ : ∃ v, v = w9q2.alloc (.cells #[.bool g, .slice A xs.length c, .bool g2, .slice A2 ys.length c2] 28) := ⟨_, rfl⟩
    rw [← hw14]
    have hb14 : Below w9q2.heap.size w9q2 w14q2 := by rw [hw14]; exact bel_one _ _
    have ZL14q2 := Lib.hid (zl_two (HA.out.next j9q2) (HB.out.next j9q2) hw14)
    clear hw14
    obtain ⟨gs14q2, hg⟩ : ∃ g, g = w9q2.heap.size := ⟨_, rfl⟩
    rw [← hg] at ZL14q2 ⊢
    clear hg
    have j14q2 : Below v2.heap.size v2 w14q2 := bst j9q2 hb14 (Nat.le_refl _)
    obtain ⟨x014, y014, _, _⟩ := (B0.out.below j14q2 B0.out.lt).two
    obtain ⟨x114, y114, _, _⟩ := (B1.out.below j14q2 B1.out.lt).two
    obtain ⟨x214, y214, _, _⟩ := (BG.out.below j14q2 BG.out.lt).two
    obtain ⟨x314, y314, _, _⟩ := (BX.out.below j14q2 BX.out.lt).two
    obtain ⟨x414, y414, _, _⟩ := (BY.out.below j14q2 BY.out.lt).two
    refine hK.out _ _ ?hS13q2a (fun hHeld2 => ?_)
    case hS13q2a => (try dsimp only); go_keep
    clear hK K hHeld
    have hHeld := hHeld2
    clear hHeld2 hb14 x014 y014 x114 y114 x214 y214 x314 y314 x414 y414 j9q2
    (try simp only [getElem_toArray, getElem_cons_succ, getElem_cons_zero, Act.put, setIfInBounds_toArray, set_cons_zero, set_cons_succ])
    refine wpAnyH_ready (rs := [14, 17]) (by kernel_rfl) (by simp) ?_
    refine AllReadyH.cons rfl (fun K hK => ?_) (AllReadyH.cons rfl (fun K hK => ?_) AllReadyH.nil)
    ·
      go_simp
      refine ((zgcd_two (ZL14q2.out) hN (HT.out.below j14q2 HTB.out) (Nat.lt_of_lt_of_le HTB.out (j14q2).size)).mono (fun e w' h => h.to V15q2.out.symm)).mono ?_
      rintro e w15q2 ⟨z15q2, A15q2, c15q2, rfl, nn15, rr15, hb15⟩
      have j15q2 : Below v2.heap.size v2 w15q2 := bst j14q2 hb15 (Nat.le_refl _)
      have n15q2 := Lib.hid nn15
      have r15q2 := Lib.hid rr15
      clear nn15 rr15
      obtain ⟨x015, y015, _, _⟩ := (B0.out.below j15q2 B0.out.lt).two
      obtain ⟨x115, y115, _, _⟩ := (B1.out.below j15q2 B1.out.lt).two
      obtain ⟨x215, y215, _, _⟩ := (BG.out.below j15q2 BG.out.lt).two
      obtain ⟨x315, y315, _, _⟩ := (BX.out.below j15q2 BX.out.lt).two
      obtain ⟨x415, y415, _, _⟩ := (BY.out.below j15q2 BY.out.lt).two
      (try go_wp2_with fail)
      refine hK.out _ _ ?hS14q2aa (fun hHeld2 => ?_)
      case hS14q2aa => (try dsimp only); go_keep
      clear hK K hHeld
      have hHeld := hHeld2
      clear hHeld2 hb15 x015 y015 x115 y115 x215 y215 x315 y315 x415 y415 j14q2
      (try simp only [getElem_toArray, getElem_cons_succ, getElem_cons_zero, Act.put, setIfInBounds_toArray, set_cons_zero, set_cons_succ])
      refine wpAnyH_ready (rs := [17]) (by kernel_rfl) (by simp) ?_
      refine AllReadyH.cons rfl (fun K hK => ?_) AllReadyH.nil
      go_simp
      obtain ⟨w18q2, hw18⟩ : ∃ v, v = w15q2.alloc (.cells #[.bool g, .slice A xs.length c, .bool g2, .slice A2 ys.length c2] 28) := ⟨_, rfl⟩
      rw [← hw18]
      have hb18 : Below w15q2.heap.size w15q2 w18q2 := by rw [hw18]; exact bel_one _ _
      have ZL18q2 := Lib.hid (zl_two (HA.out.next j15q2) (HB.out.next j15q2) hw18)
      clear hw18
      obtain ⟨gs18q2, hg⟩ : ∃ g, g = w15q2.heap.size := ⟨_, rfl⟩
      rw [← hg] at ZL18q2 ⊢
      clear hg
      have j18q2 : Below v2.heap.size v2 w18q2 := bst j15q2 hb18 (Nat.le_refl _)
      have d15_18q2 : Below w15q2.heap.size w15q2 w18q2 := hb18
      obtain ⟨x018, y018, _, _⟩ := (B0.out.below j18q2 B0.out.lt).two
      obtain ⟨x118, y118, _, _⟩ := (B1.out.below j18q2 B1.out.lt).two
      obtain ⟨x218, y218, _, _⟩ := (BG.out.below j18q2 BG.out.lt).two
      obtain ⟨x318, y318, _, _⟩ := (BX.out.below j18q2 BX.out.lt).two
      obtain ⟨x418, y418, _, _⟩ := (BY.out.below j18q2 BY.out.lt).two
      refine hK.out _ _ ?hS17q2aa (fun hHeld2 => ?_)
      case hS17q2aa => (try dsimp only); go_keep
      clear hK K hHeld
      have hHeld := hHeld2
      clear hHeld2 hb18 x018 y018 x118 y118 x218 y218 x318 y318 x418 y418 j15q2
      (try simp only [getElem_toArray, getElem_cons_succ, getElem_cons_zero, Act.put, setIfInBounds_toArray, set_cons_zero, set_cons_succ])
      refine wpAnyH_ready (rs := [18]) (by kernel_rfl) (by simp) ?_
      refine AllReadyH.cons rfl (fun K hK => ?_) AllReadyH.nil
      go_simp
      refine ((zlcm_two (ZL18q2.out) hN LZ.out LY.out (HT.out.below j18q2 HTB.out) (Nat.lt_of_lt_of_le HTB.out (j18q2).size)).mono (fun e w' h => h.to V19q2.out.symm)).mono ?_
      rintro e w19q2 ⟨z19q2, A19q2, c19q2, rfl, nn19, rr19, hb19⟩
      have j19q2 : Below v2.heap.size v2 w19q2 := bst j18q2 hb19 (Nat.le_refl _)
      have n19q2 := Lib.hid nn19
      have r19q2 := Lib.hid rr19
      clear nn19 rr19
      have d15_19q2 := bst d15_18q2 hb19 (Nat.le_refl _)
      clear d15_18q2
      obtain ⟨x019, y019, _, _⟩ := (B0.out.below j19q2 B0.out.lt).two
      obtain ⟨x119, y119, _, _⟩ := (B1.out.below j19q2 B1.out.lt).two
      obtain ⟨x219, y219, _, _⟩ := (BG.out.below j19q2 BG.out.lt).two
      obtain ⟨x319, y319, _, _⟩ := (BX.out.below j19q2 BX.out.lt).two
      obtain ⟨x419, y419, _, _⟩ := (BY.out.below j19q2 BY.out.lt).two
      (try go_wp2_with fail)
      refine hK.out _ _ ?hS18q2aa (fun hHeld2 => ?_)
      case hS18q2aa => (try dsimp only); go_keep
      clear hK K hHeld
      have hHeld := hHeld2
      clear hHeld2 hb19 x019 y019 x119 y119 x219 y219 x319 y319 x419 y419 j18q2
      (try simp only [getElem_toArray, getElem_cons_succ, getElem_cons_zero, Act.put, setIfInBounds_toArray, set_cons_zero, set_cons_succ])
      refine wpAnyH_ready (rs := [19]) (by kernel_rfl) (by simp) ?_
      refine AllReadyH.cons rfl (fun K hK => ?_) AllReadyH.nil
      go_simp
      refine ((Zh.mul ((Zn.shrink (K := N) n15q2.out r15q2.out l15q2.out).next d15_19q2).zh ((Zn.shrink (K := (N + N + 1)) n19q2.out r19q2.out l19q2.out)).zh (by omega) (by omega)).mono (fun e w' h => h.to V20q2.out.symm)).mono ?_
      rintro e w20q2 ⟨z20q2, A20q2, c20q2, rfl, nn20, rr20, hb20⟩
      have j20q2 : Below v2.heap.size v2 w20q2 := bst j19q2 hb20 (Nat.le_refl _)
      have n20q2 := Lib.hid nn20
      have r20q2 := Lib.hid rr20
      clear nn20 rr20
      obtain ⟨x020, y020, _, _⟩ := (B0.out.below j20q2 B0.out.lt).two
      obtain ⟨x120, y120, _, _⟩ := (B1.out.below j20q2 B1.out.lt).two
      obtain ⟨x220, y220, _, _⟩ := (BG.out.below j20q2 BG.out.lt).two
      obtain ⟨x320, y320, _, _⟩ := (BX.out.below j20q2 BX.out.lt).two
      obtain ⟨x420, y420, _, _⟩ := (BY.out.below j20q2 BY.out.lt).two
      (try go_wp2_with fail)
      refine hK.out _ _ ?hS19q2aa (fun hHeld2 => ?_)
      case hS19q2aa => (try dsimp only); go_keep
      clear hK K hHeld
      have hHeld := hHeld2
      clear hHeld2 hb20 x020 y020 x120 y120 x220 y220 x320 y320 x420 y420 j19q2
      (try simp only [getElem_toArray, getElem_cons_succ, getElem_cons_zero, Act.put, setIfInBounds_toArray, set_cons_zero, set_cons_succ])
      refine wpAnyH_ready (rs := [22]) (by kernel_rfl) (by simp) ?_
      refine AllReadyH.cons rfl (fun K hK => ?_) AllReadyH.nil
      go_simp
      refine ((Zh.mul (HA.out.next j20q2) (HB.out.next j20q2) (by omega) (by omega)).mono (fun e w' h => h.to V23q2.out.symm)).mono ?_
      rintro e w23q2 ⟨z23q2, A23q2, c23q2, rfl, nn23, rr23, hb23⟩
      have j23q2 : Below v2.heap.size v2 w23q2 := bst j20q2 hb23 (Nat.le_refl _)
      have n23q2 := Lib.hid nn23
      have r23q2 := Lib.hid rr23
      clear nn23 rr23
      have d20_23q2 : Below w20q2.heap.size w20q2 w23q2 := hb23
      obtain ⟨x023, y023, _, _⟩ := (B0.out.below j23q2 B0.out.lt).two
      obtain ⟨x123, y123, _, _⟩ := (B1.out.below j23q2 B1.out.lt).two
      obtain ⟨x223, y223, _, _⟩ := (BG.out.below j23q2 BG.out.lt).two
      obtain ⟨x323, y323, _, _⟩ := (BX.out.below j23q2 BX.out.lt).two
      obtain ⟨x423, y423, _, _⟩ := (BY.out.below j23q2 BY.out.lt).two
      (try go_wp2_with fail)
      refine hK.out _ _ ?hS22q2aa (fun hHeld2 => ?_)
      case hS22q2aa => (try dsimp only); go_keep
      clear hK K hHeld
      have hHeld := hHeld2
      clear hHeld2 hb23 x023 y023 x123 y123 x223 y223 x323 y323 x423 y423 j20q2
      (try simp only [getElem_toArray, getElem_cons_succ, getElem_cons_zero, Act.put, setIfInBounds_toArray, set_cons_zero, set_cons_succ])
      refine wpAnyH_ready (rs := [23]) (by kernel_rfl) (by simp) ?_
      refine AllReadyH.cons rfl (fun K hK => ?_) AllReadyH.nil
      go_simp
      refine ((Zh.abs ((Zn.shrink (K := ((N) + (N))) n23q2.out r23q2.out l23q2.out)).zh (by omega)).mono (fun e w' h => h.to V24q2.out.symm)).mono ?_
      rintro e w24q2 ⟨z24q2, A24q2, c24q2, rfl, nn24, rr24, hb24⟩
      have j24q2 : Below v2.heap.size v2 w24q2 := bst j23q2 hb24 (Nat.le_refl _)
      have n24q2 := Lib.hid nn24
      have r24q2 := Lib.hid rr24
      clear nn24 rr24
      have d20_24q2 := bst d20_23q2 hb24 (Nat.le_refl _)
      clear d20_23q2
      obtain ⟨x024, y024, _, _⟩ := (B0.out.below j24q2 B0.out.lt).two
      obtain ⟨x124, y124, _, _⟩ := (B1.out.below j24q2 B1.out.lt).two
      obtain ⟨x224, y224, _, _⟩ := (BG.out.below j24q2 BG.out.lt).two
      obtain ⟨x324, y324, _, _⟩ := (BX.out.below j24q2 BX.out.lt).two
      obtain ⟨x424, y424, _, _⟩ := (BY.out.below j24q2 BY.out.lt).two
      (try go_wp2_with fail)
      refine hK.out _ _ ?hS23q2aa (fun hHeld2 => ?_)
      case hS23q2aa => (try dsimp only); go_keep
      clear hK K hHeld
      have hHeld := hHeld2
      clear hHeld2 hb24 x024 y024 x124 y124 x224 y224 x324 y324 x424 y424 j23q2
      (try simp only [getElem_toArray, getElem_cons_succ, getElem_cons_zero, Act.put, setIfInBounds_toArray, set_cons_zero, set_cons_succ])
      refine wpAnyH_ready (rs := [24]) (by kernel_rfl) (by simp) ?_
      refine AllReadyH.cons rfl (fun K hK => ?_) AllReadyH.nil
      go_simp
      refine ((lequal_any ((Zn.shrink (K := ((N) + ((N + N + 1)))) n20q2.out r20q2.out l20q2.out).next d20_24q2).zh ((Zn.shrink (K := (((N) + (N)))) n24q2.out r24q2.out l24q2.out)).zh (by omega) (by omega) E25q2.out)).mono ?_
      rintro e w25q2 ⟨rfl, hb25⟩
      have j25q2 : Below v2.heap.size v2 w25q2 := bst j24q2 hb25 (Nat.le_refl _)
      obtain ⟨x025, y025, _, _⟩ := (B0.out.below j25q2 B0.out.lt).two
      obtain ⟨x125, y125, _, _⟩ := (B1.out.below j25q2 B1.out.lt).two
      obtain ⟨x225, y225, _, _⟩ := (BG.out.below j25q2 BG.out.lt).two
      obtain ⟨x325, y325, _, _⟩ := (BX.out.below j25q2 BX.out.lt).two
      obtain ⟨x425, y425, _, _⟩ := (BY.out.below j25q2 BY.out.lt).two
      (try go_wp2_with fail)
      refine hK.out _ _ ?hS24q2aa (fun hHeld2 => ?_)
      case hS24q2aa => (try dsimp only); go_keep
      clear hK K hHeld
      have hHeld := hHeld2
      clear hHeld2 hb25 x025 y025 x125 y125 x225 y225 x325 y325 x425 y425 j24q2
      (try simp only [getElem_toArray, getElem_cons_succ, getElem_cons_zero, Act.put, setIfInBounds_toArray, set_cons_zero, set_cons_succ])
      refine wpAnyH_take (i := 25) (v := ?v25q2aa) rfl (by kernel_rfl) (by kernel_rfl) (by kernel_rfl) (fun _ _ _ h => h) (Or.inl ⟨by rfl, ?hy25q2aa⟩) (by assumption) ?rest25q2aa
      case hy25q2aa => intro w hSw; (try dsimp only at hSw); (try simp only [getElem_toArray, getElem_cons_succ, getElem_cons_zero]); go_simp; (try with_reducible rfl)
      (try simp only [getElem_toArray, getElem_cons_succ, getElem_cons_zero, Act.put, setIfInBounds_toArray, set_cons_zero, set_cons_succ])
      refine wpAnyH_take (i := 26) (v := ?v26q2aa) rfl (by kernel_rfl) (by kernel_rfl) (by kernel_rfl) (fun _ _ _ h => h) (Or.inl ⟨by rfl, ?hy26q2aa⟩) (by assumption) ?rest26q2aa
      case hy26q2aa => intro w hSw; (try dsimp only at hSw); (try simp only [getElem_toArray, getElem_cons_succ, getElem_cons_zero]); go_simp; (try with_reducible rfl)
      (try simp only [getElem_toArray, getElem_cons_succ, getElem_cons_zero, Act.put, setIfInBounds_toArray, set_cons_zero, set_cons_succ])
      refine wpAnyH_done (by kernel_rfl) ?_ _
      refine NoPanic.normal ?_
      (try go_wp2_with fail)
      exact HQ.out _ _ _ _ _ _ _ _ _ _ _ _ _ _ _ _ _ _ _ _ _ _ _ _ _ _ _ j25q2
    ·
      go_simp
      obtain ⟨w18q2, hw18⟩ : ∃ v, v = w14q2.alloc (.cells #[.bool g, .slice A xs.length c, .bool g2, .slice A2 ys.length c2] 28) := ⟨_, rfl⟩
      rw [← hw18]
      have hb18 : Below w14q2.heap.size w14q2 w18q2 := by rw [hw18]; exact bel_one _ _
      have ZL18q2 := Lib.hid (zl_two (HA.out.next j14q2) (HB.out.next j14q2) hw18)
      clear hw18
      obtain ⟨gs18q2, hg⟩ : ∃ g, g = w14q2.heap.size := ⟨_, rfl⟩
      rw [← hg] at ZL18q2 ⊢
      clear hg
      have j18q2 : Below v2.heap.size v2 w18q2 := bst j14q2 hb18 (Nat.le_refl _)
      have d14_18q2 : Below w14q2.heap.size w14q2 w18q2 := hb18
      obtain ⟨x018, y018, _, _⟩ := (B0.out.below j18q2 B0.out.lt).two
      obtain ⟨x118, y118, _, _⟩ := (B1.out.below j18q2 B1.out.lt).two
      obtain ⟨x218, y218, _, _⟩ := (BG.out.below j18q2 BG.out.lt).two
      obtain ⟨x318, y318, _, _⟩ := (BX.out.below j18q2 BX.out.lt).two
      obtain ⟨x418, y418, _, _⟩ := (BY.out.below j18q2 BY.out.lt).two
      refine hK.out _ _ ?hS17q2ab (fun hHeld2 => ?_)
      case hS17q2ab => (try dsimp only); go_keep
      clear hK K hHeld
      have hHeld := hHeld2
      clear hHeld2 hb18 x018 y018 x118 y118 x218 y218 x318 y318 x418 y418 j14q2
      (try simp only [getElem_toArray, getElem_cons_succ, getElem_cons_zero, Act.put, setIfInBounds_toArray, set_cons_zero, set_cons_succ])
      refine wpAnyH_ready (rs := [14]) (by kernel_rfl) (by simp) ?_
      refine AllReadyH.cons rfl (fun K hK => ?_) AllReadyH.nil
      go_simp
      refine ((zgcd_two (ZL14q2.out.next d14_18q2) hN (HT.out.below j18q2 HTB.out) (Nat.lt_of_lt_of_le HTB.out (j18q2).size)).mono (fun e w' h => h.to V15q2.out.symm)).mono ?_
      rintro e w15q2 ⟨z15q2, A15q2, c15q2, rfl, nn15, rr15, hb15⟩
      have j15q2 : Below v2.heap.size v2 w15q2 := bst j18q2 hb15 (Nat.le_refl _)
      have n15q2 := Lib.hid nn15
      have r15q2 := Lib.hid rr15
      clear nn15 rr15
      have d18_15q2 : Below w18q2.heap.size w18q2 w15q2 := hb15
      obtain ⟨x015, y015, _, _⟩ := (B0.out.below j15q2 B0.out.lt).two
      obtain ⟨x115, y115, _, _⟩ := (B1.out.below j15q2 B1.out.lt).two
      obtain ⟨x215, y215, _, _⟩ := (BG.out.below j15q2 BG.out.lt).two
      obtain ⟨x315, y315, _, _⟩ := (BX.out.below j15q2 BX.out.lt).two
      obtain ⟨x415, y415, _, _⟩ := (BY.out.below j15q2 BY.out.lt).two
      (try go_wp2_with fail)
      refine hK.out _ _ ?hS14q2ab (fun hHeld2 => ?_)
      case hS14q2ab => (try dsimp only); go_keep
      clear hK K hHeld
      have hHeld := hHeld2
      clear hHeld2 hb15 x015 y015 x115 y115 x215 y215 x315 y315 x415 y415 j18q2
      (try simp only [getElem_toArray, getElem_cons_succ, getElem_cons_zero, Act.put, setIfInBounds_toArray, set_cons_zero, set_cons_succ])
      refine wpAnyH_ready (rs := [18]) (by kernel_rfl) (by simp) ?_
      refine AllReadyH.cons rfl (fun K hK => ?_) AllReadyH.nil
      go_simp
      refine ((zlcm_two (ZL18q2.out.next d18_15q2) hN LZ.out LY.out (HT.out.below j15q2 HTB.out) (Nat.lt_of_lt_of_le HTB.out (j15q2).size)).mono (fun e w' h => h.to V19q2.out.symm)).mono ?_
      rintro e w19q2 ⟨z19q2, A19q2, c19q2, rfl, nn19, rr19, hb19⟩
      have j19q2 : Below v2.heap.size v2 w19q2 := bst j15q2 hb19 (Nat.le_refl _)
      have n19q2 := Lib.hid nn19
      have r19q2 := Lib.hid rr19
      clear nn19 rr19
      have d15_19q2 : Below w15q2.heap.size w15q2 w19q2 := hb19
      obtain ⟨x019, y019, _, _⟩ := (B0.out.below j19q2 B0.out.lt).two
      obtain ⟨x119, y119, _, _⟩ := (B1.out.below j19q2 B1.out.lt).two
      obtain ⟨x219, y219, _, _⟩ := (BG.out.below j19q2 BG.out.lt).two
      obtain ⟨x319, y319, _, _⟩ := (BX.out.below j19q2 BX.out.lt).two
      obtain ⟨x419, y419, _, _⟩ := (BY.out.below j19q2 BY.out.lt).two
      (try go_wp2_with fail)
      refine hK.out _ _ ?hS18q2ab (fun hHeld2 => ?_)
      case hS18q2ab => (try dsimp only); go_keep
      clear hK K hHeld
      have hHeld := hHeld2
      clear hHeld2 hb19 x019 y019 x119 y119 x219 y219 x319 y319 x419 y419 j15q2
      (try simp only [getElem_toArray, getElem_cons_succ, getElem_cons_zero, Act.put, setIfInBounds_toArray, set_cons_zero, set_cons_succ])
      refine wpAnyH_ready (rs := [19]) (by kernel_rfl) (by simp) ?_
      refine AllReadyH.cons rfl (fun K hK => ?_) AllReadyH.nil
      go_simp
      refine ((Zh.mul ((Zn.shrink (K := N) n15q2.out r15q2.out l15q2.out).next d15_19q2).zh ((Zn.shrink (K := (N + N + 1)) n19q2.out r19q2.out l19q2.out)).zh (by omega) (by omega)).mono (fun e w' h => h.to V20q2.out.symm)).mono ?_
      rintro e w20q2 ⟨z20q2, A20q2, c20q2, rfl, nn20, rr20, hb20⟩
      have j20q2 : Below v2.heap.size v2 w20q2 := bst j19q2 hb20 (Nat.le_refl _)
      have n20q2 := Lib.hid nn20
      have r20q2 := Lib.hid rr20
      clear nn20 rr20
      obtain ⟨x020, y020, _, _⟩ := (B0.out.below j20q2 B0.out.lt).two
      obtain ⟨x120, y120, _, _⟩ := (B1.out.below j20q2 B1.out.lt).two
      obtain ⟨x220, y220, _, _⟩ := (BG.out.below j20q2 BG.out.lt).two
      obtain ⟨x320, y320, _, _⟩ := (BX.out.below j20q2 BX.out.lt).two
      obtain ⟨x420, y420, _, _⟩ := (BY.out.below j20q2 BY.out.lt).two
      (try go_wp2_with fail)
      refine hK.out _ _ ?hS19q2ab (fun hHeld2 => ?_)
      case hS19q2ab => (try dsimp only); go_keep
      clear hK K hHeld
      have hHeld := hHeld2
      clear hHeld2 hb20 x020 y020 x120 y120 x220 y220 x320 y320 x420 y420 j19q2
      (try simp only [getElem_toArray, getElem_cons_succ, getElem_cons_zero, Act.put, setIfInBounds_toArray, set_cons_zero, set_cons_succ])
      refine wpAnyH_ready (rs := [22]) (by kernel_rfl) (by simp) ?_
      refine AllReadyH.cons rfl (fun K hK => ?_) AllReadyH.nil
      go_simp
      refine ((Zh.mul (HA.out.next j20q2) (HB.out.next j20q2) (by omega) (by omega)).mono (fun e w' h => h.to V23q2.out.symm)).mono ?_
      rintro e w23q2 ⟨z23q2, A23q2, c23q2, rfl, nn23, rr23, hb23⟩
      have j23q2 : Below v2.heap.size v2 w23q2 := bst j20q2 hb23 (Nat.le_refl _)
      have n23q2 := Lib.hid nn23
      have r23q2 := Lib.hid rr23
      clear nn23 rr23
      have d20_23q2 : Below w20q2.heap.size w20q2 w23q2 := hb23
      obtain ⟨x023, y023, _, _⟩ := (B0.out.below j23q2 B0.out.lt).two
      obtain ⟨x123, y123, _, _⟩ := (B1.out.below j23q2 B1.out.lt).two
      obtain ⟨x223, y223, _, _⟩ := (BG.out.below j23q2 BG.out.lt).two
      obtain ⟨x323, y323, _, _⟩ := (BX.out.below j23q2 BX.out.lt).two
      obtain ⟨x423, y423, _, _⟩ := (BY.out.below j23q2 BY.out.lt).two
      (try go_wp2_with fail)
      refine hK.out _ _ ?hS22q2ab (fun hHeld2 => ?_)
      case hS22q2ab => (try dsimp only); go_keep
      clear hK K hHeld
      have hHeld := hHeld2
      clear hHeld2 hb23 x023 y023 x123 y123 x223 y223 x323 y323 x423 y423 j20q2
      (try simp only [getElem_toArray, getElem_cons_succ, getElem_cons_zero, Act.put, setIfInBounds_toArray, set_cons_zero, set_cons_succ])
      refine wpAnyH_ready (rs := [23]) (by kernel_rfl) (by simp) ?_
      refine AllReadyH.cons rfl (fun K hK => ?_) AllReadyH.nil
      go_simp
      refine ((Zh.abs ((Zn.shrink (K := ((N) + (N))) n23q2.out r23q2.out l23q2.out)).zh (by omega)).mono (fun e w' h => h.to V24q2.out.symm)).mono ?_
      rintro e w24q2 ⟨z24q2, A24q2, c24q2, rfl, nn24, rr24, hb24⟩
      have j24q2 : Below v2.heap.size v2 w24q2 := bst j23q2 hb24 (Nat.le_refl _)
      have n24q2 := Lib.hid nn24
      have r24q2 := Lib.hid rr24
      clear nn24 rr24
      have d20_24q2 := bst d20_23q2 hb24 (Nat.le_refl _)
      clear d20_23q2
      obtain ⟨x024, y024, _, _⟩ := (B0.out.below j24q2 B0.out.lt).two
      obtain ⟨x124, y124, _, _⟩ := (B1.out.below j24q2 B1.out.lt).two
      obtain ⟨x224, y224, _, _⟩ := (BG.out.below j24q2 BG.out.lt).two
      obtain ⟨x324, y324, _, _⟩ := (BX.out.below j24q2 BX.out.lt).two
      obtain ⟨x424, y424, _, _⟩ := (BY.out.below j24q2 BY.out.lt).two
      (try go_wp2_with fail)
      refine hK.out _ _ ?hS23q2ab (fun hHeld2 => ?_)
      case hS23q2ab => (try dsimp only); go_keep
      clear hK K hHeld
      have hHeld := hHeld2
      clear hHeld2 hb24 x024 y024 x124 y124 x224 y224 x324 y324 x424 y424 j23q2
      (try simp only [getElem_toArray, getElem_cons_succ, getElem_cons_zero, Act.put, setIfInBounds_toArray, set_cons_zero, set_cons_succ])
      refine wpAnyH_ready (rs := [24]) (by kernel_rfl) (by simp) ?_
      refine AllReadyH.cons rfl (fun K hK => ?_) AllReadyH.nil
      go_simp
      refine ((lequal_any ((Zn.shrink (K := ((N) + ((N + N + 1)))) n20q2.out r20q2.out l20q2.out).next d20_24q2).zh ((Zn.shrink (K := (((N) + (N)))) n24q2.out r24q2.out l24q2.out)).zh (by omega) (by omega) E25q2.out)).mono ?_
      rintro e w25q2 ⟨rfl, hb25⟩
      have j25q2 : Below v2.heap.size v2 w25q2 := bst j24q2 hb25 (Nat.le_refl _)
      obtain ⟨x025, y025, _, _⟩ := (B0.out.below j25q2 B0.out.lt).two
      obtain ⟨x125, y125, _, _⟩ := (B1.out.below j25q2 B1.out.lt).two
      obtain ⟨x225, y225, _, _⟩ := (BG.out.below j25q2 BG.out.lt).two
      obtain ⟨x325, y325, _, _⟩ := (BX.out.below j25q2 BX.out.lt).two
      obtain ⟨x425, y425, _, _⟩ := (BY.out.below j25q2 BY.out.lt).two
      (try go_wp2_with fail)
      refine hK.out _ _ ?hS24q2ab (fun hHeld2 => ?_)
      case hS24q2ab => (try dsimp only); go_keep
      clear hK K hHeld
      have hHeld := hHeld2
      clear hHeld2 hb25 x025 y025 x125 y125 x225 y225 x325 y325 x425 y425 j24q2
      (try simp only [getElem_toArray, getElem_cons_succ, getElem_cons_zero, Act.put, setIfInBounds_toArray, set_cons_zero, set_cons_succ])
      refine wpAnyH_take (i := 25) (v := ?v25q2ab) rfl (by kernel_rfl) (by kernel_rfl) (by kernel_rfl) (fun _ _ _ h => h) (Or.inl ⟨by rfl, ?hy25q2ab⟩) (by assumption) ?rest25q2ab
      case hy25q2ab => intro w hSw; (try dsimp only at hSw); (try simp only [getElem_toArray, getElem_cons_succ, getElem_cons_zero]); go_simp; (try with_reducible rfl)
      (try simp only [getElem_toArray, getElem_cons_succ, getElem_cons_zero, Act.put, setIfInBounds_toArray, set_cons_zero, set_cons_succ])
      refine wpAnyH_take (i := 26) (v := ?v26q2ab) rfl (by kernel_rfl) (by kernel_rfl) (by kernel_rfl) (fun _ _ _ h => h) (Or.inl ⟨by rfl, ?hy26q2ab⟩) (by assumption) ?rest26q2ab
      case hy26q2ab => intro w hSw; (try dsimp only at hSw); (try simp only [getElem_toArray, getElem_cons_succ, getElem_cons_zero]); go_simp; (try with_reducible rfl)
      (try simp only [getElem_toArray, getElem_cons_succ, getElem_cons_zero, Act.put, setIfInBounds_toArray, set_cons_zero, set_cons_succ])
      refine wpAnyH_done (by kernel_rfl) ?_ _
      refine NoPanic.normal ?_
      (try go_wp2_with fail)
      exact HQ.out _ _ _ _ _ _ _ _ _ _ _ _ _ _ _ _ _ _ _ _ _ _ _ _ _ _ _ j25q2
  ·
    go_simp
    obtain ⟨w18q2, hw18⟩ : ∃ v, v = w9q2.alloc (.cells #[.bool g, .slice A xs.length c, .bool g2, .slice A2 ys.length c2] 28) := ⟨_, rfl⟩
    rw [← hw18]
    have hb18 : Below w9q2.heap.size w9q2 w18q2 := by rw [hw18]; exact bel_one _ _
    have ZL18q2 := Lib.hid (zl_two (HA.out.next j9q2) (HB.out.next j9q2) hw18)
    clear hw18
    obtain ⟨gs18q2, hg⟩ : ∃ g, g = w9q2.heap.size := ⟨_, rfl⟩
    rw [← hg] at ZL18q2 ⊢
    clear hg
    have j18q2 : Below v2.heap.size v2 w18q2 := bst j9q2 hb18 (Nat.le_refl _)
    obtain ⟨x018, y018, _, _⟩ := (B0.out.below j18q2 B0.out.lt).two
    obtain ⟨x118, y118, _, _⟩ := (B1.out.below j18q2 B1.out.lt).two
    obtain ⟨x218, y218, _, _⟩ := (BG.out.below j18q2 BG.out.lt).two
    obtain ⟨x318, y318, _, _⟩ := (BX.out.below j18q2 BX.out.lt).two
    obtain ⟨x418, y418, _, _⟩ := (BY.out.below j18q2 BY.out.lt).two
    refine hK.out _ _ ?hS17q2b (fun hHeld2 => ?_)
    case hS17q2b => (try dsimp only); go_keep
    clear hK K hHeld
    have hHeld := hHeld2
    clear hHeld2 hb18 x018 y018 x118 y118 x218 y218 x318 y318 x418 y418 j9q2
    (try simp only [getElem_toArray, getElem_cons_succ, getElem_cons_zero, Act.put, setIfInBounds_toArray, set_cons_zero, set_cons_succ])
    refine wpAnyH_ready (rs := [13]) (by kernel_rfl) (by simp) ?_
    refine AllReadyH.cons rfl (fun K hK => ?_) AllReadyH.nil
    go_simp
    obtain ⟨w14q2, hw14⟩ : ∃ v, v = w18q2.alloc (.cells #[.bool g, .slice A xs.length c, .bool g2, .slice A2 ys.length c2] 28) := ⟨_, rfl⟩
    rw [← hw14]
    have hb14 : Below w18q2.heap.size w18q2 w14q2 := by rw [hw14]; exact bel_one _ _
    have ZL14q2 := Lib.hid (zl_two (HA.out.next j18q2) (HB.out.next j18q2) hw14)
    clear hw14
    obtain ⟨gs14q2, hg⟩ : ∃ g, g = w18q2.heap.size := ⟨_, rfl⟩
    rw [← hg] at ZL14q2 ⊢
    clear hg
    have j14q2 : Below v2.heap.size v2 w14q2 := bst j18q2 hb14 (Nat.le_refl _)
    have d18_14q2 : Below w18q2.heap.size w18q2 w14q2 := hb14
    obtain ⟨x014, y014, _, _⟩ := (B0.out.below j14q2 B0.out.lt).two
    obtain ⟨x114, y114, _, _⟩ := (B1.out.below j14q2 B1.out.lt).two
    obtain ⟨x214, y214, _, _⟩ := (BG.out.below j14q2 BG.out.lt).two
    obtain ⟨x314, y314, _, _⟩ := (BX.out.below j14q2 BX.out.lt).two
    obtain ⟨x414, y414, _, _⟩ := (BY.out.below j14q2 BY.out.lt).two
    refine hK.out _ _ ?hS13q2b (fun hHeld2 => ?_)
    case hS13q2b => (try dsimp only); go_keep
    clear hK K hHeld
    have hHeld := hHeld2
    clear hHeld2 hb14 x014 y014 x114 y114 x214 y214 x314 y314 x414 y414 j18q2
    (try simp only [getElem_toArray, getElem_cons_succ, getElem_cons_zero, Act.put, setIfInBounds_toArray, set_cons_zero, set_cons_succ])
    refine wpAnyH_ready (rs := [14]) (by kernel_rfl) (by simp) ?_
    refine AllReadyH.cons rfl (fun K hK => ?_) AllReadyH.nil
    go_simp
    refine ((zgcd_two (ZL14q2.out) hN (HT.out.below j14q2 HTB.out) (Nat.lt_of_lt_of_le HTB.out (j14q2).size)).mono (fun e w' h => h.to V15q2.out.symm)).mono ?_
    rintro e w15q2 ⟨z15q2, A15q2, c15q2, rfl, nn15, rr15, hb15⟩
    have j15q2 : Below v2.heap.size v2 w15q2 := bst j14q2 hb15 (Nat.le_refl _)
    have n15q2 := Lib.hid nn15
    have r15q2 := Lib.hid rr15
    clear nn15 rr15
    have d18_15q2 := bst d18_14q2 hb15 (Nat.le_refl _)
    clear d18_14q2
    obtain ⟨x015, y015, _, _⟩ := (B0.out.below j15q2 B0.out.lt).two
    obtain ⟨x115, y115, _, _⟩ := (B1.out.below j15q2 B1.out.lt).two
    obtain ⟨x215, y215, _, _⟩ := (BG.out.below j15q2 BG.out.lt).two
    obtain ⟨x315, y315, _, _⟩ := (BX.out.below j15q2 BX.out.lt).two
    obtain ⟨x415, y415, _, _⟩ := (BY.out.below j15q2 BY.out.lt).two
    (try go_wp2_with fail)
    refine hK.out _ _ ?hS14q2b (fun hHeld2 => ?_)
    case hS14q2b => (try dsimp only); go_keep
    clear hK K hHeld
    have hHeld := hHeld2
    clear hHeld2 hb15 x015 y015 x115 y115 x215 y215 x315 y315 x415 y415 j14q2
    (try simp only [getElem_toArray, getElem_cons_succ, getElem_cons_zero, Act.put, setIfInBounds_toArray, set_cons_zero, set_cons_succ])
    refine wpAnyH_ready (rs := [18]) (by kernel_rfl) (by simp) ?_
    refine AllReadyH.cons rfl (fun K hK => ?_) AllReadyH.nil
    go_simp
    refine ((zlcm_two (ZL18q2.out.next d18_15q2) hN LZ.out LY.out (HT.out.below j15q2 HTB.out) (Nat.lt_of_lt_of_le HTB.out (j15q2).size)).mono (fun e w' h => h.to V19q2.out.symm)).mono ?_
    rintro e w19q2 ⟨z19q2, A19q2, c19q2, rfl, nn19, rr19, hb19⟩
    have j19q2 : Below v2.heap.size v2 w19q2 := bst j15q2 hb19 (Nat.le_refl _)
    have n19q2 := Lib.hid nn19
    have r19q2 := Lib.hid rr19
    clear nn19 rr19
    have d15_19q2 : Below w15q2.heap.size w15q2 w19q2 := hb19
    obtain ⟨x019, y019, _, _⟩ := (B0.out.below j19q2 B0.out.lt).two
    obtain ⟨x119, y119, _, _⟩ := (B1.out.below j19q2 B1.out.lt).two
    obtain ⟨x219, y219, _, _⟩ := (BG.out.below j19q2 BG.out.lt).two
    obtain ⟨x319, y319, _, _⟩ := (BX.out.below j19q2 BX.out.lt).two
    obtain ⟨x419, y419, _, _⟩ := (BY.out.below j19q2 BY.out.lt).two
    (try go_wp2_with fail)
    refine hK.out _ _ ?hS18q2b (fun hHeld2 => ?_)
    case hS18q2b => (try dsimp only); go_keep
    clear hK K hHeld
    have hHeld := hHeld2
    clear hHeld2 hb19 x019 y019 x119 y119 x219 y219 x319 y319 x419 y419 j15q2
    (try simp only [getElem_toArray, getElem_cons_succ, getElem_cons_zero, Act.put, setIfInBounds_toArray, set_cons_zero, set_cons_succ])
    refine wpAnyH_ready (rs := [19]) (by kernel_rfl) (by simp) ?_
    refine AllReadyH.cons rfl (fun K hK => ?_) AllReadyH.nil
    go_simp
    refine ((Zh.mul ((Zn.shrink (K := N) n15q2.out r15q2.out l15q2.out).next d15_19q2).zh ((Zn.shrink (K := (N + N + 1)) n19q2.out r19q2.out l19q2.out)).zh (by omega) (by omega)).mono (fun e w' h => h.to V20q2.out.symm)).mono ?_
    rintro e w20q2 ⟨z20q2, A20q2, c20q2, rfl, nn20, rr20, hb20⟩
    have j20q2 : Below v2.heap.size v2 w20q2 := bst j19q2 hb20 (Nat.le_refl _)
    have n20q2 := Lib.hid nn20
    have r20q2 := Lib.hid rr20
    clear nn20 rr20
    obtain ⟨x020, y020, _, _⟩ := (B0.out.below j20q2 B0.out.lt).two
    obtain ⟨x120, y120, _, _⟩ := (B1.out.below j20q2 B1.out.lt).two
    obtain ⟨x220, y220, _, _⟩ := (BG.out.below j20q2 BG.out.lt).two
    obtain ⟨x320, y320, _, _⟩ := (BX.out.below j20q2 BX.out.lt).two
    obtain ⟨x420, y420, _, _⟩ := (BY.out.below j20q2 BY.out.lt).two
    (try go_wp2_with fail)
    refine hK.out _ _ ?hS19q2b (fun hHeld2 => ?_)
    case hS19q2b => (try dsimp only); go_keep
    clear hK K hHeld
    have hHeld := hHeld2
    clear hHeld2 hb20 x020 y020 x120 y120 x220 y220 x320 y320 x420 y420 j19q2
    (try simp only [getElem_toArray, getElem_cons_succ, getElem_cons_zero, Act.put, setIfInBounds_toArray, set_cons_zero, set_cons_succ])
    refine wpAnyH_ready (rs := [22]) (by kernel_rfl) (by simp) ?_
    refine AllReadyH.cons rfl (fun K hK => ?_) AllReadyH.nil
    go_simp
    refine ((Zh.mul (HA.out.next j20q2) (HB.out.next j20q2) (by omega) (by omega)).mono (fun e w' h => h.to V23q2.out.symm)).mono ?_
    rintro e w23q2 ⟨z23q2, A23q2, c23q2, rfl, nn23, rr23, hb23⟩
    have j23q2 : Below v2.heap.size v2 w23q2 := bst j20q2 hb23 (Nat.le_refl _)
    have n23q2 := Lib.hid nn23
    have r23q2 := Lib.hid rr23
    clear nn23 rr23
    have d20_23q2 : Below w20q2.heap.size w20q2 w23q2 := hb23
    obtain ⟨x023, y023, _, _⟩ := (B0.out.below j23q2 B0.out.lt).two
    obtain ⟨x123, y123, _, _⟩ := (B1.out.below j23q2 B1.out.lt).two
    obtain ⟨x223, y223, _, _⟩ := (BG.out.below j23q2 BG.out.lt).two
    obtain ⟨x323, y323, _, _⟩ := (BX.out.below j23q2 BX.out.lt).two
    obtain ⟨x423, y423, _, _⟩ := (BY.out.below j23q2 BY.out.lt).two
    (try go_wp2_with fail)
    refine hK.out _ _ ?hS22q2b (fun hHeld2 => ?_)
    case hS22q2b => (try dsimp only); go_keep
    clear hK K hHeld
    have hHeld := hHeld2
    clear hHeld2 hb23 x023 y023 x123 y123 x223 y223 x323 y323 x423 y423 j20q2
    (try simp only [getElem_toArray, getElem_cons_succ, getElem_cons_zero, Act.put, setIfInBounds_toArray, set_cons_zero, set_cons_succ])
    refine wpAnyH_ready (rs := [23]) (by kernel_rfl) (by simp) ?_
    refine AllReadyH.cons rfl (fun K hK => ?_) AllReadyH.nil
    go_simp
    refine ((Zh.abs ((Zn.shrink (K := ((N) + (N))) n23q2.out r23q2.out l23q2.out)).zh (by omega)).mono (fun e w' h => h.to V24q2.out.symm)).mono ?_
    rintro e w24q2 ⟨z24q2, A24q2, c24q2, rfl, nn24, rr24, hb24⟩
    have j24q2 : Below v2.heap.size v2 w24q2 := bst j23q2 hb24 (Nat.le_refl _)
    have n24q2 := Lib.hid nn24
    have r24q2 := Lib.hid rr24
    clear nn24 rr24
    have d20_24q2 := bst d20_23q2 hb24 (Nat.le_refl _)
    clear d20_23q2
    obtain ⟨x024, y024, _, _⟩ := (B0.out.below j24q2 B0.out.lt).two
    obtain ⟨x124, y124, _, _⟩ := (B1.out.below j24q2 B1.out.lt).two
    obtain ⟨x224, y224, _, _⟩ := (BG.out.below j24q2 BG.out.lt).two
    obtain ⟨x324, y324, _, _⟩ := (BX.out.below j24q2 BX.out.lt).two
    obtain ⟨x424, y424, _, _⟩ := (BY.out.below j24q2 BY.out.lt).two
    (try go_wp2_with fail)
    refine hK.out _ _ ?hS23q2b (fun hHeld2 => ?_)
    case hS23q2b => (try dsimp only); go_keep
    clear hK K hHeld
    have hHeld := hHeld2
    clear hHeld2 hb24 x024 y024 x124 y124 x224 y224 x324 y324 x424 y424 j23q2
    (try simp only [getElem_toArray, getElem_cons_succ, getElem_cons_zero, Act.put, setIfInBounds_toArray, set_cons_zero, set_cons_succ])
    refine wpAnyH_ready (rs := [24]) (by kernel_rfl) (by simp) ?_
    refine AllReadyH.cons rfl (fun K hK => ?_) AllReadyH.nil
    go_simp
    refine ((lequal_any ((Zn.shrink (K := ((N) + ((N + N + 1)))) n20q2.out r20q2.out l20q2.out).next d20_24q2).zh ((Zn.shrink (K := (((N) + (N)))) n24q2.out r24q2.out l24q2.out)).zh (by omega) (by omega) E25q2.out)).mono ?_
    rintro e w25q2 ⟨rfl, hb25⟩
    have j25q2 : Below v2.heap.size v2 w25q2 := bst j24q2 hb25 (Nat.le_refl _)
    obtain ⟨x025, y025, _, _⟩ := (B0.out.below j25q2 B0.out.lt).two
    obtain ⟨x125, y125, _, _⟩ := (B1.out.below j25q2 B1.out.lt).two
    obtain ⟨x225, y225, _, _⟩ := (BG.out.below j25q2 BG.out.lt).two
    obtain ⟨x325, y325, _, _⟩ := (BX.out.below j25q2 BX.out.lt).two
    obtain ⟨x425, y425, _, _⟩ := (BY.out.below j25q2 BY.out.lt).two
    (try go_wp2_with fail)
    refine hK.out _ _ ?hS24q2b (fun hHeld2 => ?_)
    case hS24q2b => (try dsimp only); go_keep
    clear hK K hHeld
    have hHeld := hHeld2
    clear hHeld2 hb25 x025 y025 x125 y125 x225 y225 x325 y325 x425 y425 j24q2
    (try simp only [getElem_toArray, getElem_cons_succ, getElem_cons_zero, Act.put, setIfInBounds_toArray, set_cons_zero, set_cons_succ])
    refine wpAnyH_take (i := 25) (v := ?v25q2b) rfl (by kernel_rfl) (by kernel_rfl) (by kernel_rfl) (fun _ _ _ h => h) (Or.inl ⟨by rfl, ?hy25q2b⟩) (by assumption) ?rest25q2b
    case hy25q2b => intro w hSw; (try dsimp only at hSw); (try simp only [getElem_toArray, getElem_cons_succ, getElem_cons_zero]); go_simp; (try with_reducible rfl)
    (try simp only [getElem_toArray, getElem_cons_succ, getElem_cons_zero, Act.put, setIfInBounds_toArray, set_cons_zero, set_cons_succ])
    refine wpAnyH_take (i := 26) (v := ?v26q2b) rfl (by kernel_rfl) (by kernel_rfl) (by kernel_rfl) (fun _ _ _ h => h) (Or.inl ⟨by rfl, ?hy26q2b⟩) (by assumption) ?rest26q2b
    case hy26q2b => intro w hSw; (try dsimp only at hSw); (try simp only [getElem_toArray, getElem_cons_succ, getElem_cons_zero]); go_simp; (try with_reducible rfl)
    (try simp only [getElem_toArray, getElem_cons_succ, getElem_cons_zero, Act.put, setIfInBounds_toArray, set_cons_zero, set_cons_succ])
    refine wpAnyH_done (by kernel_rfl) ?_ _
    refine NoPanic.normal ?_
    (try go_wp2_with fail)
    exact HQ.out _ _ _ _ _ _ _ _ _ _ _ _ _ _ _ _ _ _ _ _ _ _ _ _ _ _ _ j25q2
end
end Go.Proofs.YtanlejlmckdeiaaGreatDoor
