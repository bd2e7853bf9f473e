/- Region 13 of the law ZintRing, apart. Conditions: at most 2^20 limbs each. -/
import Derived.Test.YtanlejlmckdeiaaGreatDoorPkZg37
import Derived.Test.YtanlejlmckdeiaaGreatDoorPkZg34
namespace Go.Proofs.YtanlejlmckdeiaaGreatDoor
open Go.RowKit
open List (getElem_toArray getElem_cons_succ getElem_cons_zero setIfInBounds_toArray set_cons_zero set_cons_succ)

section
variable {w : World} {g g2 : Bool} {A A2 Aq Ar At Au Ao A18 : Option Addr} {c c2 cq cr ct cu co c18 N gq gt g20 g18 : Nat} {xs ys zq zr zt zu zo z18 : List Nat} {z y vq vr vt vu vo : Int}
set_option maxHeartbeats 25600000 in
set_option maxRecDepth 100000 in
theorem ring13 {v5 : World} {Q : Exit → Act → World → Prop} (s0 s1 s2 s5 s6 s7 s8 s9 s12 s15 s16 s17 s21 s22 s23 s24 s25 s26 s27 s28 s29 s30 s31 s32 s33 s34 s35 s36 s37 s38 s39 s40 s41 s42 s43 s44 s45 s46 s47 s48 s49 s50 s51 s52 s53 s54 s55 s56 s57 s58 s59 s60 s61 s62 s63 s64 s65 s66 s67 s68 s69 s70 s71 s72 s73 s74 s75 s76 s77 s78 s79 s80 s81 s82 s83 s84 s85 s86 s87 s88 s89 s90 s91 s92 s93 s94 s95 s96 s97 s98 s99 s100 s101 s102 s103 s104 s105 s106 s107 s108 s109 s110 s111 s112 s113 s114 s115 s116 s117 s118 s119 s120 s121 s122 s123 s124 s125 s126 s127 s128 s129 s130 s131 s132 s133 s134 s135 s136 s137 s138 s139 s140 s141 s142 s143 s144 s145 s146 s147 s148 s149 s150 s151 s152 s153 s154 s155 s156 s157 s158 s159 s160 s161 s162 s163 s164 s165 s166 s167 s168 s169 s170 s171 s172 s173 s174 s175 s176 s177 s178 s179 s180 s181 s182 s183 s184 s185 s186 s187 s188 s189 s190 s191 s192 s193 s194 s195 s196 s197 : Value)
    (hN : N ≤ 1048576) (_ : Hid (z.natAbs < 4294967296 ^ N)) (LY : Hid (y.natAbs < 4294967296 ^ N)) (Lq : Hid (vq.natAbs < 4294967296 ^ N)) (Lr : Hid (vr.natAbs < 4294967296 ^ N)) (Lt : Hid (vt.natAbs < 4294967296 ^ N)) (Lu : Hid (vu.natAbs < 4294967296 ^ N)) (_ : Hid (vo.natAbs < 4294967296 ^ (max N (N + 1 + N) + 1 + 1))) (Er : Hid (0 ≤ vr ∧ vr < (y.natAbs : Int))) (Eq : Hid (vq * y + vr = z)) (Et : Hid (vt * y + vu = z)) (Eo : Hid (vo ≤ (y.natAbs : Int)))
    (HA : Hid (Zh v5 g A c xs z N))
    (HB : Hid (Zh v5 g2 A2 c2 ys y N))
    (Hq : Hid (Zh v5 (isNeg vq) Aq cq zq vq N))
    (Hr : Hid (Zh v5 (isNeg vr) Ar cr zr vr N))
    (Ht : Hid (Zh v5 (isNeg vt) At ct zt vt N))
    (Hu : Hid (Zh v5 (isNeg vu) Au cu zu vu N))
    (Ho : Hid (Zh v5 (isNeg vo) Ao co zo vo (max N (N + 1 + N) + 1 + 1)))
    (H18 : Hid (Zh v5 (isNeg z) A18 c18 z18 z N))
    (B0 : Hid (Blk v5 (w.heap.size) 28 [.bool g, .slice A xs.length c]))
    (B1 : Hid (Blk v5 (w.heap.size + 1) 28 [.bool g2, .slice A2 ys.length c2]))
    (Bq : Hid (Blk v5 (gq) 28 [.bool (isNeg vq), .slice Aq zq.length cq]))
    (Br : Hid (Blk v5 (gq + 1) 28 [.bool (isNeg vr), .slice Ar zr.length cr]))
    (Bt : Hid (Blk v5 (gt) 28 [.bool (isNeg vt), .slice At zt.length ct]))
    (Bu : Hid (Blk v5 (gt + 1) 28 [.bool (isNeg vu), .slice Au zu.length cu]))
    (Bo : Hid (Blk v5 (g20) 28 [.bool (isNeg vo), .slice Ao zo.length co]))
    (B18 : Hid (Blk v5 (g18) 28 [.bool (isNeg z), .slice A18 z18.length c18]))
    (hQ : ∀ (W : World) (u151 u152 u153 u154 u155 u156 u157 u158 u159 u160 u161 u162 u163 u164 u165 u166 u167 u168 u169 u170 u171 u172 u173 u174 u175 u176 u177 u178 u179 u180 u181 u182 u183 u184 u185 u186 u187 u188 u189 u190 u191 u192 u193 u194 u195 u196 u197 : Value), Below v5.heap.size v5 W → Q .normal ⟨#[s0, s1, s2, .pointer (some ⟨w.heap.size, 0, none⟩), .pointer (some ⟨w.heap.size + 1, 0, none⟩), s5, .bool true, s7, s8, s9, .pointer (some ⟨gq, 0, none⟩), .pointer (some ⟨gq + 1, 0, none⟩), s12, .pointer (some ⟨gt, 0, none⟩), .pointer (some ⟨gt + 1, 0, none⟩), s15, s16, s17, .pointer (some ⟨g18, 0, none⟩), .int .i64 0, .pointer (some ⟨g20, 0, none⟩), s21, s22, s23, s24, s25, s26, s27, s28, s29, s30, s31, s32, s33, s34, s35, s36, s37, s38, s39, s40, s41, s42, s43, s44, s45, s46, s47, s48, s49, s50, s51, s52, s53, s54, s55, s56, s57, s58, s59, s60, s61, s62, s63, s64, s65, s66, s67, s68, s69, s70, s71, s72, s73, s74, s75, s76, s77, s78, s79, s80, s81, s82, s83, s84, s85, s86, s87, s88, s89, s90, s91, s92, s93, s94, s95, s96, s97, s98, s99, s100, s101, s102, s103, s104, s105, s106, s107, s108, s109, s110, s111, s112, s113, s114, s115, s116, s117, s118, s119, s120, s121, s122, s123, s124, s125, s126, s127, s128, s129, s130, s131, s132, s133, s134, s135, s136, s137, s138, s139, s140, s141, s142, s143, s144, s145, s146, s147, s148, s149, s150, u151, u152, u153, u154, u155, u156, u157, u158, u159, u160, u161, u162, u163, u164, u165, u166, u167, u168, u169, u170, u171, u172, u173, u174, u175, u176, u177, u178, u179, u180, u181, u182, u183, u184, u185, u186, u187, u188, u189, u190, u191, u192, u193, u194, u195, u196, u197], []⟩ W) :
    Code.wp Tryz.prog (ringR 13) Q ⟨#[s0, s1, s2, .pointer (some ⟨w.heap.size, 0, none⟩), .pointer (some ⟨w.heap.size + 1, 0, none⟩), s5, s6, s7, s8, s9, .pointer (some ⟨gq, 0, none⟩), .pointer (some ⟨gq + 1, 0, none⟩), s12, .pointer (some ⟨gt, 0, none⟩), .pointer (some ⟨gt + 1, 0, none⟩), s15, s16, s17, .pointer (some ⟨g18, 0, none⟩), .int .i64 0, .pointer (some ⟨g20, 0, none⟩), s21, s22, s23, s24, s25, s26, s27, s28, s29, s30, s31, s32, s33, s34, s35, s36, s37, s38, s39, s40, s41, s42, s43, s44, s45, s46, s47, s48, s49, s50, s51, s52, s53, s54, s55, s56, s57, s58, s59, s60, s61, s62, s63, s64, s65, s66, s67, s68, s69, s70, s71, s72, s73, s74, s75, s76, s77, s78, s79, s80, s81, s82, s83, s84, s85, s86, s87, s88, s89, s90, s91, s92, s93, s94, s95, s96, s97, s98, s99, s100, s101, s102, s103, s104, s105, s106, s107, s108, s109, s110, s111, s112, s113, s114, s115, s116, s117, s118, s119, s120, s121, s122, s123, s124, s125, s126, s127, s128, s129, s130, s131, s132, s133, s134, s135, s136, s137, s138, s139, s140, s141, s142, s143, s144, s145, s146, s147, s148, s149, s150, s151, s152, s153, s154, s155, s156, s157, s158, s159, s160, s161, s162, s163, s164, s165, s166, s167, s168, s169, s170, s171, s172, s173, s174, s175, s176, s177, s178, s179, s180, s181, s182, s183, s184, s185, s186, s187, s188, s189, s190, s191, s192, s193, s194, s195, s196, s197], []⟩ v5 := by
  have HQ := Lib.hid hQ
  clear hQ
  obtain ⟨p0B0, p1B0, _, _⟩ := B0.out.two
  obtain ⟨p0B1, p1B1, _, _⟩ := B1.out.two
  obtain ⟨p0Bq, p1Bq, _, _⟩ := Bq.out.two
  obtain ⟨p0Br, p1Br, _, _⟩ := Br.out.two
  obtain ⟨p0Bt, p1Bt, _, _⟩ := Bt.out.two
  obtain ⟨p0Bu, p1Bu, _, _⟩ := Bu.out.two
  obtain ⟨p0Bo, p1Bo, _, _⟩ := Bo.out.two
  obtain ⟨p0B18, p1B18, _, _⟩ := B18.out.two
  obtain ⟨v3q3, h9⟩ : ∃ v : Int, v = vq * y := ⟨_, rfl⟩
  have V3q3 := Lib.hid h9
  clear h9
  have l3q3 : Hid (v3q3.natAbs < 4294967296 ^ ((N) + (N))) := by show _ < _; rw [V3q3.out]; exact zprod_lt Lq.out LY.out
  obtain ⟨v5q3, h9⟩ : ∃ v : Int, v = v3q3 + vr := ⟨_, rfl⟩
  have V5q3 := Lib.hid h9
  clear h9
  have l5q3 : Hid (v5q3.natAbs < 4294967296 ^ (max (((N) + (N))) (N) + 1)) := by show _ < _; rw [V5q3.out]; exact zsum_lt (by omega) l3q3.out Lr.out
  have E7q3 : Hid (v5q3 = z) := by show _ = _; simp only [V5q3.out, V3q3.out]; exact Eq.out
  obtain ⟨v16q3, h9⟩ : ∃ v : Int, v = (y.natAbs : Int) := ⟨_, rfl⟩
  have V16q3 := Lib.hid h9
  clear h9
  have l16q3 : Hid (v16q3.natAbs < 4294967296 ^ (N)) := by show _ < _; rw [V16q3.out]; exact (by rw [Int.natAbs_natCast]; exact LY.out)
  obtain ⟨v23q3, h9⟩ : ∃ v : Int, v = vt * y := ⟨_, rfl⟩
  have V23q3 := Lib.hid h9
  clear h9
  have l23q3 : Hid (v23q3.natAbs < 4294967296 ^ ((N) + (N))) := by show _ < _; rw [V23q3.out]; exact zprod_lt Lt.out LY.out
  obtain ⟨v25q3, h9⟩ : ∃ v : Int, v = v23q3 + vu := ⟨_, rfl⟩
  have V25q3 := Lib.hid h9
  clear h9
  have l25q3 : Hid (v25q3.natAbs < 4294967296 ^ (max (((N) + (N))) (N) + 1)) := by show _ < _; rw [V25q3.out]; exact zsum_lt (by omega) l23q3.out Lu.out
  have E27q3 : Hid (v25q3 = z) := by show _ = _; simp only [V25q3.out, V23q3.out]; exact Et.out
  obtain ⟨v32q3, h9⟩ : ∃ v : Int, v = (y.natAbs : Int) := ⟨_, rfl⟩
  have V32q3 := Lib.hid h9
  clear h9
  have l32q3 : Hid (v32q3.natAbs < 4294967296 ^ (N)) := by show _ < _; rw [V32q3.out]; exact (by rw [Int.natAbs_natCast]; exact LY.out)
  have hsr : decide (0 ≤ vr.sign) = true := by
    have := Er.out.1
    rcases sign_cases vr with ⟨a, b⟩ | ⟨a, b⟩ | ⟨a, b⟩ <;> rw [b] <;> first | rfl | omega
  have hcr : (vr - v16q3).sign = -1 := by
    have h1 := Er.out.2
    have h2 := V16q3.out
    exact Int.sign_eq_neg_one_of_neg (by omega)
  have hco : decide ((vo - v32q3).sign ≤ 0) = true := by
    have h1 := Eo.out
    have h2 := V32q3.out
    rcases sign_cases (vo - v32q3) with ⟨a, b⟩ | ⟨a, b⟩ | ⟨a, b⟩ <;> rw [b] <;> first | rfl | omega
  have hv0 : 0 ≤ vr := Er.out.1
  have hv1 : decide (0 ≤ vr) = true := decide_eq_true hv0
  have hv2 : vo ≤ v32q3 := by have h1 := Eo.out; have h2 := V32q3.out; omega
  have hv3 : vo - v32q3 ≤ 0 := by omega
  conv => arg 2; whnf
  refine wp_region_noPanic ?_
  refine wp_region_held_drew (S := fun W => W.cell? ⟨w.heap.size, 0, none⟩ = some (.bool g) ∧ W.cell? ⟨w.heap.size, 1, none⟩ = some (.slice A xs.length c) ∧ W.cell? ⟨w.heap.size + 1, 0, none⟩ = some (.bool g2) ∧ W.cell? ⟨w.heap.size + 1, 1, none⟩ = some (.slice A2 ys.length c2) ∧ W.cell? ⟨gq, 0, none⟩ = some (.bool (isNeg vq)) ∧ W.cell? ⟨gq, 1, none⟩ = some (.slice Aq zq.length cq) ∧ W.cell? ⟨gq + 1, 0, none⟩ = some (.bool (isNeg vr)) ∧ W.cell? ⟨gq + 1, 1, none⟩ = some (.slice Ar zr.length cr) ∧ W.cell? ⟨gt, 0, none⟩ = some (.bool (isNeg vt)) ∧ W.cell? ⟨gt, 1, none⟩ = some (.slice At zt.length ct) ∧ W.cell? ⟨gt + 1, 0, none⟩ = some (.bool (isNeg vu)) ∧ W.cell? ⟨gt + 1, 1, none⟩ = some (.slice Au zu.length cu) ∧ W.cell? ⟨g20, 0, none⟩ = some (.bool (isNeg vo)) ∧ W.cell? ⟨g20, 1, none⟩ = some (.slice Ao zo.length co) ∧ W.cell? ⟨g18, 0, none⟩ = some (.bool (isNeg z)) ∧ W.cell? ⟨g18, 1, none⟩ = some (.slice A18 z18.length c18)) (by kernel_rfl) ?hSq3 (fun hHeld => ?_)
  case hSq3 => (try dsimp only); go_keep
  refine wpAnyH_take (i := 0) (v := ?v0q3) rfl (by kernel_rfl) (by kernel_rfl) (by kernel_rfl) (fun _ _ _ h => h) (Or.inl ⟨by rfl, ?hy0q3⟩) (by assumption) ?rest0q3
  case hy0q3 => intro w hSw; (try dsimp only at hSw); (try simp only [getElem_toArray, getElem_cons_zero]); go_simp; (try with_reducible rfl)
  (try simp only [getElem_toArray, getElem_cons_zero, Act.put, setIfInBounds_toArray, set_cons_zero, set_cons_succ])
  refine wpAnyH_take (i := 1) (v := ?v1q3) rfl (by kernel_rfl) (by kernel_rfl) (by kernel_rfl) (fun _ _ _ h => h) (Or.inl ⟨by rfl, ?hy1q3⟩) (by assumption) ?rest1q3
  case hy1q3 => intro w hSw; (try dsimp only at hSw); (try simp only [getElem_toArray, getElem_cons_succ, getElem_cons_zero]); go_simp; (try with_reducible rfl)
  (try simp only [getElem_toArray, getElem_cons_succ, getElem_cons_zero, Act.put, setIfInBounds_toArray, set_cons_zero, set_cons_succ])
  refine wpAnyH_take (i := 3) (v := ?v3q3) rfl (by kernel_rfl) (by kernel_rfl) (by kernel_rfl) (fun _ _ _ h => h) (Or.inl ⟨by rfl, ?hy3q3⟩) (by assumption) ?rest3q3
  case hy3q3 => intro w hSw; (try dsimp only at hSw); (try simp only [getElem_toArray, getElem_cons_succ, getElem_cons_zero]); go_simp; (try with_reducible rfl)
  (try simp only [getElem_toArray, getElem_cons_succ, getElem_cons_zero, Act.put, setIfInBounds_toArray, set_cons_zero, set_cons_succ])
  refine wpAnyH_take (i := 5) (v := ?v5q3) rfl (by kernel_rfl) (by kernel_rfl) (by kernel_rfl) (fun _ _ _ h => h) (Or.inl ⟨by rfl, ?hy5q3⟩) (by assumption) ?rest5q3
  case hy5q3 => intro w hSw; (try dsimp only at hSw); (try simp only [getElem_toArray, getElem_cons_succ, getElem_cons_zero]); go_simp; (try with_reducible rfl)
  (try simp only [getElem_toArray, getElem_cons_succ, getElem_cons_zero, Act.put, setIfInBounds_toArray, set_cons_zero, set_cons_succ])
  refine wpAnyH_ready (rs := [2]) (by kernel_rfl) (by simp) ?_
  refine AllReadyH.cons rfl (fun K hK => ?_) AllReadyH.nil
  go_simp
  refine ((Zh.mul (Hq.out.next (bdw (Below.refl _ _))) (HB.out.next (bdw (Below.refl _ _))) (by omega) (by omega)).mono (fun e w' h => h.to V3q3.out.symm)).mono ?_
  rintro e w3q3 ⟨z3q3, A3q3, c3q3, rfl, nn3, rr3, hb3⟩
  have j3q3 : Below v5.heap.size v5 w3q3 := bst (bdw (Below.refl _ _)) hb3 (Nat.le_refl _)
  have n3q3 := Lib.hid nn3
  have r3q3 := Lib.hid rr3
  clear nn3 rr3
  obtain ⟨x03, y03, _, _⟩ := (B0.out.below j3q3 B0.out.lt).two
  obtain ⟨x13, y13, _, _⟩ := (B1.out.below j3q3 B1.out.lt).two
  obtain ⟨x23, y23, _, _⟩ := (Bq.out.below j3q3 Bq.out.lt).two
  obtain ⟨x33, y33, _, _⟩ := (Br.out.below j3q3 Br.out.lt).two
  obtain ⟨x43, y43, _, _⟩ := (Bt.out.below j3q3 Bt.out.lt).two
  obtain ⟨x53, y53, _, _⟩ := (Bu.out.below j3q3 Bu.out.lt).two
  obtain ⟨x63, y63, _, _⟩ := (Bo.out.below j3q3 Bo.out.lt).two
  obtain ⟨x73, y73, _, _⟩ := (B18.out.below j3q3 B18.out.lt).two
  (try go_wp2_with fail)
  refine hK.out _ _ ?hS2q3 (fun hHeld2 => ?_)
  case hS2q3 => (try dsimp only); go_keep
  clear hK K hHeld
  have hHeld := hHeld2
  clear hHeld2 hb3 x03 y03 x13 y13 x23 y23 x33 y33 x43 y43 x53 y53 x63 y63 x73 y73
  (try simp only [getElem_toArray, getElem_cons_succ, getElem_cons_zero, Act.put, setIfInBounds_toArray, set_cons_zero, set_cons_succ])
  refine wpAnyH_ready (rs := [4]) (by kernel_rfl) (by simp) ?_
  refine AllReadyH.cons rfl (fun K hK => ?_) AllReadyH.nil
  go_simp
  refine ((Zh.add ((Zn.shrink (K := ((N) + (N))) n3q3.out r3q3.out l3q3.out)).zh (Hr.out.next j3q3) (by omega) (by omega)).mono (fun e w' h => h.to V5q3.out.symm)).mono ?_
  rintro e w5q3 ⟨z5q3, A5q3, c5q3, rfl, nn5, rr5, hb5⟩
  have j5q3 : Below v5.heap.size v5 w5q3 := bst j3q3 hb5 (Nat.le_refl _)
  have n5q3 := Lib.hid nn5
  have r5q3 := Lib.hid rr5
  clear nn5 rr5
  obtain ⟨x05, y05, _, _⟩ := (B0.out.below j5q3 B0.out.lt).two
  obtain ⟨x15, y15, _, _⟩ := (B1.out.below j5q3 B1.out.lt).two
  obtain ⟨x25, y25, _, _⟩ := (Bq.out.below j5q3 Bq.out.lt).two
  obtain ⟨x35, y35, _, _⟩ := (Br.out.below j5q3 Br.out.lt).two
  obtain ⟨x45, y45, _, _⟩ := (Bt.out.below j5q3 Bt.out.lt).two
  obtain ⟨x55, y55, _, _⟩ := (Bu.out.below j5q3 Bu.out.lt).two
  obtain ⟨x65, y65, _, _⟩ := (Bo.out.below j5q3 Bo.out.lt).two
  obtain ⟨x75, y75, _, _⟩ := (B18.out.below j5q3 B18.out.lt).two
  (try go_wp2_with fail)
  refine hK.out _ _ ?hS4q3 (fun hHeld2 => ?_)
  case hS4q3 => (try dsimp only); go_keep
  clear hK K hHeld
  have hHeld := hHeld2
  clear hHeld2 hb5 x05 y05 x15 y15 x25 y25 x35 y35 x45 y45 x55 y55 x65 y65 x75 y75 j3q3
  (try simp only [getElem_toArray, getElem_cons_succ, getElem_cons_zero, Act.put, setIfInBounds_toArray, set_cons_zero, set_cons_succ])
  refine wpAnyH_ready (rs := [6]) (by kernel_rfl) (by simp) ?_
  refine AllReadyH.cons rfl (fun K hK => ?_) AllReadyH.nil
  go_simp
  refine ((lequal_any ((Zn.shrink (K := (max (((N) + (N))) (N) + 1)) n5q3.out r5q3.out l5q3.out)).zh (HA.out.next j5q3) (by omega) (by omega) E7q3.out)).mono ?_
  rintro e w7q3 ⟨rfl, hb7⟩
  have j7q3 : Below v5.heap.size v5 w7q3 := bst j5q3 hb7 (Nat.le_refl _)
  obtain ⟨x07, y07, _, _⟩ := (B0.out.below j7q3 B0.out.lt).two
  obtain ⟨x17, y17, _, _⟩ := (B1.out.below j7q3 B1.out.lt).two
  obtain ⟨x27, y27, _, _⟩ := (Bq.out.below j7q3 Bq.out.lt).two
  obtain ⟨x37, y37, _, _⟩ := (Br.out.below j7q3 Br.out.lt).two
  obtain ⟨x47, y47, _, _⟩ := (Bt.out.below j7q3 Bt.out.lt).two
  obtain ⟨x57, y57, _, _⟩ := (Bu.out.below j7q3 Bu.out.lt).two
  obtain ⟨x67, y67, _, _⟩ := (Bo.out.below j7q3 Bo.out.lt).two
  obtain ⟨x77, y77, _, _⟩ := (B18.out.below j7q3 B18.out.lt).two
  (try go_wp2_with fail)
  refine hK.out _ _ ?hS6q3 (fun hHeld2 => ?_)
  case hS6q3 => (try dsimp only); go_keep
  clear hK K hHeld
  have hHeld := hHeld2
  clear hHeld2 hb7 x07 y07 x17 y17 x27 y27 x37 y37 x47 y47 x57 y57 x67 y67 x77 y77 j5q3
  (try simp only [getElem_toArray, getElem_cons_succ, getElem_cons_zero, Act.put, setIfInBounds_toArray, set_cons_zero, set_cons_succ])
  refine wpAnyH_take (i := 7) (v := ?v7q3) rfl (by kernel_rfl) (by kernel_rfl) (by kernel_rfl) (fun _ _ _ h => h) (Or.inl ⟨by rfl, ?hy7q3⟩) (by assumption) ?rest7q3
  case hy7q3 => intro w hSw; (try dsimp only at hSw); (try simp only [getElem_toArray, getElem_cons_succ, getElem_cons_zero]); go_simp; (try with_reducible rfl)
  (try simp only [getElem_toArray, getElem_cons_succ, getElem_cons_zero, Act.put, setIfInBounds_toArray, set_cons_zero, set_cons_succ])
  refine wpAnyH_take (i := 8) (v := ?v8q3) rfl (by kernel_rfl) (by kernel_rfl) (by kernel_rfl) (fun _ _ _ h => h) (Or.inl ⟨by rfl, ?hy8q3⟩) (by assumption) ?rest8q3
  case hy8q3 => intro w hSw; (try dsimp only at hSw); (try simp only [getElem_toArray, getElem_cons_succ, getElem_cons_zero]); go_simp; (try with_reducible rfl)
  (try simp only [getElem_toArray, getElem_cons_succ, getElem_cons_zero, Act.put, setIfInBounds_toArray, set_cons_zero, set_cons_succ])
  refine wpAnyH_ready (rs := [9]) (by kernel_rfl) (by simp) ?_
  refine AllReadyH.cons rfl (fun K hK => ?_) AllReadyH.nil
  go_simp
  refine ((Zh.sign (Hr.out.next j7q3) (by omega))).mono ?_
  rintro e w10q3 ⟨rfl, hb10⟩
  have j10q3 : Below v5.heap.size v5 w10q3 := bst j7q3 hb10 (Nat.le_refl _)
  obtain ⟨x010, y010, _, _⟩ := (B0.out.below j10q3 B0.out.lt).two
  obtain ⟨x110, y110, _, _⟩ := (B1.out.below j10q3 B1.out.lt).two
  obtain ⟨x210, y210, _, _⟩ := (Bq.out.below j10q3 Bq.out.lt).two
  obtain ⟨x310, y310, _, _⟩ := (Br.out.below j10q3 Br.out.lt).two
  obtain ⟨x410, y410, _, _⟩ := (Bt.out.below j10q3 Bt.out.lt).two
  obtain ⟨x510, y510, _, _⟩ := (Bu.out.below j10q3 Bu.out.lt).two
  obtain ⟨x610, y610, _, _⟩ := (Bo.out.below j10q3 Bo.out.lt).two
  obtain ⟨x710, y710, _, _⟩ := (B18.out.below j10q3 B18.out.lt).two
  (try go_wp2_with fail)
  refine hK.out _ _ ?hS9q3 (fun hHeld2 => ?_)
  case hS9q3 => (try dsimp only); go_keep
  clear hK K hHeld
  have hHeld := hHeld2
  clear hHeld2 hb10 x010 y010 x110 y110 x210 y210 x310 y310 x410 y410 x510 y510 x610 y610 x710 y710 j7q3
  (try simp only [getElem_toArray, getElem_cons_succ, getElem_cons_zero, Act.put, setIfInBounds_toArray, set_cons_zero, set_cons_succ])
  refine wpAnyH_take (i := 10) (v := ?v10q3) rfl (by kernel_rfl) (by kernel_rfl) (by kernel_rfl) (fun _ _ _ h => h) (Or.inl ⟨by rfl, ?hy10q3⟩) (by assumption) ?rest10q3
  case hy10q3 => intro w hSw; (try dsimp only at hSw); (try simp only [getElem_toArray, getElem_cons_succ, getElem_cons_zero]); go_simp; (try with_reducible rfl)
  (try simp only [getElem_toArray, getElem_cons_succ, getElem_cons_zero, Act.put, setIfInBounds_toArray, set_cons_zero, set_cons_succ])
  refine wpAnyH_take (i := 11) (v := ?v11q3) rfl (by kernel_rfl) (by kernel_rfl) (by kernel_rfl) (fun _ _ _ h => h) (Or.inl ⟨by rfl, ?hy11q3⟩) (by assumption) ?rest11q3
  case hy11q3 => intro w hSw; (try dsimp only at hSw); (try simp only [getElem_toArray, getElem_cons_succ, getElem_cons_zero]); go_simp; (try with_reducible rfl)
  (try simp only [getElem_toArray, getElem_cons_succ, getElem_cons_zero, Act.put, setIfInBounds_toArray, set_cons_zero, set_cons_succ])
  refine wpAnyH_take (i := 12) (v := ?v12q3) rfl (by kernel_rfl) (by kernel_rfl) (by kernel_rfl) (fun _ _ _ h => h) (Or.inl ⟨by rfl, ?hy12q3⟩) (by assumption) ?rest12q3
  case hy12q3 => intro w hSw; (try dsimp only at hSw); (try simp only [getElem_toArray, getElem_cons_succ, getElem_cons_zero]); go_simp; (try with_reducible rfl)
  (try simp only [getElem_toArray, getElem_cons_succ, getElem_cons_zero, Act.put, setIfInBounds_toArray, set_cons_zero, set_cons_succ])
  refine wpAnyH_take (i := 13) (v := ?v13q3) rfl (by kernel_rfl) (by kernel_rfl) (by kernel_rfl) (fun _ _ _ h => h) (Or.inl ⟨by rfl, ?hy13q3⟩) (by assumption) ?rest13q3
  case hy13q3 => intro w hSw; (try dsimp only at hSw); (try simp only [getElem_toArray, getElem_cons_succ, getElem_cons_zero]); go_simp; (try with_reducible rfl)
  (try simp only [getElem_toArray, getElem_cons_succ, getElem_cons_zero, Act.put, setIfInBounds_toArray, set_cons_zero, set_cons_succ])
  refine wpAnyH_take (i := 14) (v := ?v14q3) rfl (by kernel_rfl) (by kernel_rfl) (by kernel_rfl) (fun _ _ _ h => h) (Or.inl ⟨by rfl, ?hy14q3⟩) (by assumption) ?rest14q3
  case hy14q3 => intro w hSw; (try dsimp only at hSw); (try simp only [getElem_toArray, getElem_cons_succ, getElem_cons_zero]); go_simp; (try with_reducible rfl)
  (try simp only [getElem_toArray, getElem_cons_succ, getElem_cons_zero, Act.put, setIfInBounds_toArray, set_cons_zero, set_cons_succ])
  refine wpAnyH_ready (rs := [15]) (by kernel_rfl) (by simp) ?_
  refine AllReadyH.cons rfl (fun K hK => ?_) AllReadyH.nil
  go_simp
  refine ((Zh.abs (HB.out.next j10q3) (by omega)).mono (fun e w' h => h.to V16q3.out.symm)).mono ?_
  rintro e w16q3 ⟨z16q3, A16q3, c16q3, rfl, nn16, rr16, hb16⟩
  have j16q3 : Below v5.heap.size v5 w16q3 := bst j10q3 hb16 (Nat.le_refl _)
  have n16q3 := Lib.hid nn16
  have r16q3 := Lib.hid rr16
  clear nn16 rr16
  obtain ⟨x016, y016, _, _⟩ := (B0.out.below j16q3 B0.out.lt).two
  obtain ⟨x116, y116, _, _⟩ := (B1.out.below j16q3 B1.out.lt).two
  obtain ⟨x216, y216, _, _⟩ := (Bq.out.below j16q3 Bq.out.lt).two
  obtain ⟨x316, y316, _, _⟩ := (Br.out.below j16q3 Br.out.lt).two
  obtain ⟨x416, y416, _, _⟩ := (Bt.out.below j16q3 Bt.out.lt).two
  obtain ⟨x516, y516, _, _⟩ := (Bu.out.below j16q3 Bu.out.lt).two
  obtain ⟨x616, y616, _, _⟩ := (Bo.out.below j16q3 Bo.out.lt).two
  obtain ⟨x716, y716, _, _⟩ := (B18.out.below j16q3 B18.out.lt).two
  (try go_wp2_with fail)
  refine hK.out _ _ ?hS15q3 (fun hHeld2 => ?_)
  case hS15q3 => (try dsimp only); go_keep
  clear hK K hHeld
  have hHeld := hHeld2
  clear hHeld2 hb16 x016 y016 x116 y116 x216 y216 x316 y316 x416 y416 x516 y516 x616 y616 x716 y716 j10q3
  (try simp only [getElem_toArray, getElem_cons_succ, getElem_cons_zero, Act.put, setIfInBounds_toArray, set_cons_zero, set_cons_succ])
  refine wpAnyH_ready (rs := [16]) (by kernel_rfl) (by simp) ?_
  refine AllReadyH.cons rfl (fun K hK => ?_) AllReadyH.nil
  go_simp
  refine ((Zh.cmp (Hr.out.next j16q3) ((Zn.shrink (K := (N)) n16q3.out r16q3.out l16q3.out)).zh (by omega) (by omega))).mono ?_
  rintro e w17q3 ⟨rfl, hb17⟩
  have j17q3 : Below v5.heap.size v5 w17q3 := bst j16q3 hb17 (Nat.le_refl _)
  obtain ⟨x017, y017, _, _⟩ := (B0.out.below j17q3 B0.out.lt).two
  obtain ⟨x117, y117, _, _⟩ := (B1.out.below j17q3 B1.out.lt).two
  obtain ⟨x217, y217, _, _⟩ := (Bq.out.below j17q3 Bq.out.lt).two
  obtain ⟨x317, y317, _, _⟩ := (Br.out.below j17q3 Br.out.lt).two
  obtain ⟨x417, y417, _, _⟩ := (Bt.out.below j17q3 Bt.out.lt).two
  obtain ⟨x517, y517, _, _⟩ := (Bu.out.below j17q3 Bu.out.lt).two
  obtain ⟨x617, y617, _, _⟩ := (Bo.out.below j17q3 Bo.out.lt).two
  obtain ⟨x717, y717, _, _⟩ := (B18.out.below j17q3 B18.out.lt).two
  (try go_wp2_with fail)
  refine hK.out _ _ ?hS16q3 (fun hHeld2 => ?_)
  case hS16q3 => (try dsimp only); go_keep
  clear hK K hHeld
  have hHeld := hHeld2
  clear hHeld2 hb17 x017 y017 x117 y117 x217 y217 x317 y317 x417 y417 x517 y517 x617 y617 x717 y717 j16q3
  (try simp only [getElem_toArray, getElem_cons_succ, getElem_cons_zero, Act.put, setIfInBounds_toArray, set_cons_zero, set_cons_succ])
  refine wpAnyH_take (i := 17) (v := ?v17q3) rfl (by kernel_rfl) (by kernel_rfl) (by kernel_rfl) (fun _ _ _ h => h) (Or.inl ⟨by rfl, ?hy17q3⟩) (by assumption) ?rest17q3
  case hy17q3 => intro w hSw; (try dsimp only at hSw); (try simp only [getElem_toArray, getElem_cons_succ, getElem_cons_zero]); go_simp; (try with_reducible rfl)
  (try simp only [getElem_toArray, getElem_cons_succ, getElem_cons_zero, Act.put, setIfInBounds_toArray, set_cons_zero, set_cons_succ])
  refine wpAnyH_take (i := 18) (v := ?v18q3) rfl (by kernel_rfl) (by kernel_rfl) (by kernel_rfl) (fun _ _ _ h => h) (Or.inl ⟨by rfl, ?hy18q3⟩) (by assumption) ?rest18q3
  case hy18q3 => intro w hSw; (try dsimp only at hSw); (try simp only [getElem_toArray, getElem_cons_succ, getElem_cons_zero]); go_simp; (try with_reducible rfl)
  (try simp only [getElem_toArray, getElem_cons_succ, getElem_cons_zero, Act.put, setIfInBounds_toArray, set_cons_zero, set_cons_succ])
  refine wpAnyH_take (i := 19) (v := ?v19q3) rfl (by kernel_rfl) (by kernel_rfl) (by kernel_rfl) (fun _ _ _ h => h) (Or.inl ⟨by rfl, ?hy19q3⟩) (by assumption) ?rest19q3
  case hy19q3 => intro w hSw; (try dsimp only at hSw); (try simp only [getElem_toArray, getElem_cons_succ, getElem_cons_zero]); go_simp; (try with_reducible rfl)
  (try simp only [getElem_toArray, getElem_cons_succ, getElem_cons_zero, Act.put, setIfInBounds_toArray, set_cons_zero, set_cons_succ])
  refine wpAnyH_take (i := 20) (v := ?v20q3) rfl (by kernel_rfl) (by kernel_rfl) (by kernel_rfl) (fun _ _ _ h => h) (Or.inl ⟨by rfl, ?hy20q3⟩) (by assumption) ?rest20q3
  case hy20q3 => intro w hSw; (try dsimp only at hSw); (try simp only [getElem_toArray, getElem_cons_succ, getElem_cons_zero]); go_simp; (try with_reducible rfl)
  (try simp only [getElem_toArray, getElem_cons_succ, getElem_cons_zero, Act.put, setIfInBounds_toArray, set_cons_zero, set_cons_succ])
  refine wpAnyH_take (i := 21) (v := ?v21q3) rfl (by kernel_rfl) (by kernel_rfl) (by kernel_rfl) (fun _ _ _ h => h) (Or.inl ⟨by rfl, ?hy21q3⟩) (by assumption) ?rest21q3
  case hy21q3 => intro w hSw; (try dsimp only at hSw); (try simp only [getElem_toArray, getElem_cons_succ, getElem_cons_zero]); go_simp; (try with_reducible rfl)
  (try simp only [getElem_toArray, getElem_cons_succ, getElem_cons_zero, Act.put, setIfInBounds_toArray, set_cons_zero, set_cons_succ])
  refine wpAnyH_take (i := 23) (v := ?v23q3) rfl (by kernel_rfl) (by kernel_rfl) (by kernel_rfl) (fun _ _ _ h => h) (Or.inl ⟨by rfl, ?hy23q3⟩) (by assumption) ?rest23q3
  case hy23q3 => intro w hSw; (try dsimp only at hSw); (try simp only [getElem_toArray, getElem_cons_succ, getElem_cons_zero]); go_simp; (try with_reducible rfl)
  (try simp only [getElem_toArray, getElem_cons_succ, getElem_cons_zero, Act.put, setIfInBounds_toArray, set_cons_zero, set_cons_succ])
  refine wpAnyH_take (i := 25) (v := ?v25q3) rfl (by kernel_rfl) (by kernel_rfl) (by kernel_rfl) (fun _ _ _ h => h) (Or.inl ⟨by rfl, ?hy25q3⟩) (by assumption) ?rest25q3
  case hy25q3 => intro w hSw; (try dsimp only at hSw); (try simp only [getElem_toArray, getElem_cons_succ, getElem_cons_zero]); go_simp; (try with_reducible rfl)
  (try simp only [getElem_toArray, getElem_cons_succ, getElem_cons_zero, Act.put, setIfInBounds_toArray, set_cons_zero, set_cons_succ])
  refine wpAnyH_ready (rs := [22]) (by kernel_rfl) (by simp) ?_
  refine AllReadyH.cons rfl (fun K hK => ?_) AllReadyH.nil
  go_simp
  refine ((Zh.mul (Ht.out.next j17q3) (HB.out.next j17q3) (by omega) (by omega)).mono (fun e w' h => h.to V23q3.out.symm)).mono ?_
  rintro e w23q3 ⟨z23q3, A23q3, c23q3, rfl, nn23, rr23, hb23⟩
  have j23q3 : Below v5.heap.size v5 w23q3 := bst j17q3 hb23 (Nat.le_refl _)
  have n23q3 := Lib.hid nn23
  have r23q3 := Lib.hid rr23
  clear nn23 rr23
  obtain ⟨x023, y023, _, _⟩ := (B0.out.below j23q3 B0.out.lt).two
  obtain ⟨x123, y123, _, _⟩ := (B1.out.below j23q3 B1.out.lt).two
  obtain ⟨x223, y223, _, _⟩ := (Bq.out.below j23q3 Bq.out.lt).two
  obtain ⟨x323, y323, _, _⟩ := (Br.out.below j23q3 Br.out.lt).two
  obtain ⟨x423, y423, _, _⟩ := (Bt.out.below j23q3 Bt.out.lt).two
  obtain ⟨x523, y523, _, _⟩ := (Bu.out.below j23q3 Bu.out.lt).two
  obtain ⟨x623, y623, _, _⟩ := (Bo.out.below j23q3 Bo.out.lt).two
  obtain ⟨x723, y723, _, _⟩ := (B18.out.below j23q3 B18.out.lt).two
  (try go_wp2_with fail)
  refine hK.out _ _ ?hS22q3 (fun hHeld2 => ?_)
  case hS22q3 => (try dsimp only); go_keep
  clear hK K hHeld
  have hHeld := hHeld2
  clear hHeld2 hb23 x023 y023 x123 y123 x223 y223 x323 y323 x423 y423 x523 y523 x623 y623 x723 y723 j17q3
  (try simp only [getElem_toArray, getElem_cons_succ, getElem_cons_zero, Act.put, setIfInBounds_toArray, set_cons_zero, set_cons_succ])
  refine wpAnyH_ready (rs := [24]) (by kernel_rfl) (by simp) ?_
  refine AllReadyH.cons rfl (fun K hK => ?_) AllReadyH.nil
  go_simp
  refine ((Zh.add ((Zn.shrink (K := ((N) + (N))) n23q3.out r23q3.out l23q3.out)).zh (Hu.out.next j23q3) (by omega) (by omega)).mono (fun e w' h => h.to V25q3.out.symm)).mono ?_
  rintro e w25q3 ⟨z25q3, A25q3, c25q3, rfl, nn25, rr25, hb25⟩
  have j25q3 : Below v5.heap.size v5 w25q3 := bst j23q3 hb25 (Nat.le_refl _)
  have n25q3 := Lib.hid nn25
  have r25q3 := Lib.hid rr25
  clear nn25 rr25
  obtain ⟨x025, y025, _, _⟩ := (B0.out.below j25q3 B0.out.lt).two
  obtain ⟨x125, y125, _, _⟩ := (B1.out.below j25q3 B1.out.lt).two
  obtain ⟨x225, y225, _, _⟩ := (Bq.out.below j25q3 Bq.out.lt).two
  obtain ⟨x325, y325, _, _⟩ := (Br.out.below j25q3 Br.out.lt).two
  obtain ⟨x425, y425, _, _⟩ := (Bt.out.below j25q3 Bt.out.lt).two
  obtain ⟨x525, y525, _, _⟩ := (Bu.out.below j25q3 Bu.out.lt).two
  obtain ⟨x625, y625, _, _⟩ := (Bo.out.below j25q3 Bo.out.lt).two
  obtain ⟨x725, y725, _, _⟩ := (B18.out.below j25q3 B18.out.lt).two
  (try go_wp2_with fail)
  refine hK.out _ _ ?hS24q3 (fun hHeld2 => ?_)
  case hS24q3 => (try dsimp only); go_keep
  clear hK K hHeld
  have hHeld := hHeld2
  clear hHeld2 hb25 x025 y025 x125 y125 x225 y225 x325 y325 x425 y425 x525 y525 x625 y625 x725 y725 j23q3
  (try simp only [getElem_toArray, getElem_cons_succ, getElem_cons_zero, Act.put, setIfInBounds_toArray, set_cons_zero, set_cons_succ])
  refine wpAnyH_ready (rs := [26]) (by kernel_rfl) (by simp) ?_
  refine AllReadyH.cons rfl (fun K hK => ?_) AllReadyH.nil
  go_simp
  refine ((lequal_any ((Zn.shrink (K := (max (((N) + (N))) (N) + 1)) n25q3.out r25q3.out l25q3.out)).zh (HA.out.next j25q3) (by omega) (by omega) E27q3.out)).mono ?_
  rintro e w27q3 ⟨rfl, hb27⟩
  have j27q3 : Below v5.heap.size v5 w27q3 := bst j25q3 hb27 (Nat.le_refl _)
  obtain ⟨x027, y027, _, _⟩ := (B0.out.below j27q3 B0.out.lt).two
  obtain ⟨x127, y127, _, _⟩ := (B1.out.below j27q3 B1.out.lt).two
  obtain ⟨x227, y227, _, _⟩ := (Bq.out.below j27q3 Bq.out.lt).two
  obtain ⟨x327, y327, _, _⟩ := (Br.out.below j27q3 Br.out.lt).two
  obtain ⟨x427, y427, _, _⟩ := (Bt.out.below j27q3 Bt.out.lt).two
  obtain ⟨x527, y527, _, _⟩ := (Bu.out.below j27q3 Bu.out.lt).two
  obtain ⟨x627, y627, _, _⟩ := (Bo.out.below j27q3 Bo.out.lt).two
  obtain ⟨x727, y727, _, _⟩ := (B18.out.below j27q3 B18.out.lt).two
  (try go_wp2_with fail)
  refine hK.out _ _ ?hS26q3 (fun hHeld2 => ?_)
  case hS26q3 => (try dsimp only); go_keep
  clear hK K hHeld
  have hHeld := hHeld2
  clear hHeld2 hb27 x027 y027 x127 y127 x227 y227 x327 y327 x427 y427 x527 y527 x627 y627 x727 y727 j25q3
  (try simp only [getElem_toArray, getElem_cons_succ, getElem_cons_zero, Act.put, setIfInBounds_toArray, set_cons_zero, set_cons_succ])
  refine wpAnyH_take (i := 27) (v := ?v27q3) rfl (by kernel_rfl) (by kernel_rfl) (by kernel_rfl) (fun _ _ _ h => h) (Or.inl ⟨by rfl, ?hy27q3⟩) (by assumption) ?rest27q3
  case hy27q3 => intro w hSw; (try dsimp only at hSw); (try simp only [getElem_toArray, getElem_cons_succ, getElem_cons_zero]); go_simp; (try with_reducible rfl)
  (try simp only [getElem_toArray, getElem_cons_succ, getElem_cons_zero, Act.put, setIfInBounds_toArray, set_cons_zero, set_cons_succ])
  refine wpAnyH_take (i := 28) (v := ?v28q3) rfl (by kernel_rfl) (by kernel_rfl) (by kernel_rfl) (fun _ _ _ h => h) (Or.inl ⟨by rfl, ?hy28q3⟩) (by assumption) ?rest28q3
  case hy28q3 => intro w hSw; (try dsimp only at hSw); (try simp only [getElem_toArray, getElem_cons_succ, getElem_cons_zero]); go_simp; (try with_reducible rfl)
  (try simp only [getElem_toArray, getElem_cons_succ, getElem_cons_zero, Act.put, setIfInBounds_toArray, set_cons_zero, set_cons_succ])
  refine wpAnyH_take (i := 29) (v := ?v29q3) rfl (by kernel_rfl) (by kernel_rfl) (by kernel_rfl) (fun _ _ _ h => h) (Or.inl ⟨by rfl, ?hy29q3⟩) (by assumption) ?rest29q3
  case hy29q3 => intro w hSw; (try dsimp only at hSw); (try simp only [getElem_toArray, getElem_cons_succ, getElem_cons_zero]); go_simp; (try with_reducible rfl)
  (try simp only [getElem_toArray, getElem_cons_succ, getElem_cons_zero, Act.put, setIfInBounds_toArray, set_cons_zero, set_cons_succ])
  refine wpAnyH_take (i := 30) (v := ?v30q3) rfl (by kernel_rfl) (by kernel_rfl) (by kernel_rfl) (fun _ _ _ h => h) (Or.inl ⟨by rfl, ?hy30q3⟩) (by assumption) ?rest30q3
  case hy30q3 => intro w hSw; (try dsimp only at hSw); (try simp only [getElem_toArray, getElem_cons_succ, getElem_cons_zero]); go_simp; (try with_reducible rfl)
  (try simp only [getElem_toArray, getElem_cons_succ, getElem_cons_zero, Act.put, setIfInBounds_toArray, set_cons_zero, set_cons_succ])
  refine wpAnyH_ready (rs := [31]) (by kernel_rfl) (by simp) ?_
  refine AllReadyH.cons rfl (fun K hK => ?_) AllReadyH.nil
  go_simp
  refine ((Zh.abs (HB.out.next j27q3) (by omega)).mono (fun e w' h => h.to V32q3.out.symm)).mono ?_
  rintro e w32q3 ⟨z32q3, A32q3, c32q3, rfl, nn32, rr32, hb32⟩
  have j32q3 : Below v5.heap.size v5 w32q3 := bst j27q3 hb32 (Nat.le_refl _)
  have n32q3 := Lib.hid nn32
  have r32q3 := Lib.hid rr32
  clear nn32 rr32
  obtain ⟨x032, y032, _, _⟩ := (B0.out.below j32q3 B0.out.lt).two
  obtain ⟨x132, y132, _, _⟩ := (B1.out.below j32q3 B1.out.lt).two
  obtain ⟨x232, y232, _, _⟩ := (Bq.out.below j32q3 Bq.out.lt).two
  obtain ⟨x332, y332, _, _⟩ := (Br.out.below j32q3 Br.out.lt).two
  obtain ⟨x432, y432, _, _⟩ := (Bt.out.below j32q3 Bt.out.lt).two
  obtain ⟨x532, y532, _, _⟩ := (Bu.out.below j32q3 Bu.out.lt).two
  obtain ⟨x632, y632, _, _⟩ := (Bo.out.below j32q3 Bo.out.lt).two
  obtain ⟨x732, y732, _, _⟩ := (B18.out.below j32q3 B18.out.lt).two
  (try go_wp2_with fail)
  refine hK.out _ _ ?hS31q3 (fun hHeld2 => ?_)
  case hS31q3 => (try dsimp only); go_keep
  clear hK K hHeld
  have hHeld := hHeld2
  clear hHeld2 hb32 x032 y032 x132 y132 x232 y232 x332 y332 x432 y432 x532 y532 x632 y632 x732 y732 j27q3
  (try simp only [getElem_toArray, getElem_cons_succ, getElem_cons_zero, Act.put, setIfInBounds_toArray, set_cons_zero, set_cons_succ])
  refine wpAnyH_ready (rs := [32]) (by kernel_rfl) (by simp) ?_
  refine AllReadyH.cons rfl (fun K hK => ?_) AllReadyH.nil
  go_simp
  refine ((Zh.cmp (Ho.out.next j32q3) ((Zn.shrink (K := (N)) n32q3.out r32q3.out l32q3.out)).zh (by omega) (by omega))).mono ?_
  rintro e w33q3 ⟨rfl, hb33⟩
  have j33q3 : Below v5.heap.size v5 w33q3 := bst j32q3 hb33 (Nat.le_refl _)
  obtain ⟨x033, y033, _, _⟩ := (B0.out.below j33q3 B0.out.lt).two
  obtain ⟨x133, y133, _, _⟩ := (B1.out.below j33q3 B1.out.lt).two
  obtain ⟨x233, y233, _, _⟩ := (Bq.out.below j33q3 Bq.out.lt).two
  obtain ⟨x333, y333, _, _⟩ := (Br.out.below j33q3 Br.out.lt).two
  obtain ⟨x433, y433, _, _⟩ := (Bt.out.below j33q3 Bt.out.lt).two
  obtain ⟨x533, y533, _, _⟩ := (Bu.out.below j33q3 Bu.out.lt).two
  obtain ⟨x633, y633, _, _⟩ := (Bo.out.below j33q3 Bo.out.lt).two
  obtain ⟨x733, y733, _, _⟩ := (B18.out.below j33q3 B18.out.lt).two
  (try go_wp2_with fail)
  refine hK.out _ _ ?hS32q3 (fun hHeld2 => ?_)
  case hS32q3 => (try dsimp only); go_keep
  clear hK K hHeld
  have hHeld := hHeld2
  clear hHeld2 hb33 x033 y033 x133 y133 x233 y233 x333 y333 x433 y433 x533 y533 x633 y633 x733 y733 j32q3
  (try simp only [getElem_toArray, getElem_cons_succ, getElem_cons_zero, Act.put, setIfInBounds_toArray, set_cons_zero, set_cons_succ])
  refine wpAnyH_take (i := 33) (v := ?v33q3) rfl (by kernel_rfl) (by kernel_rfl) (by kernel_rfl) (fun _ _ _ h => h) (Or.inl ⟨by rfl, ?hy33q3⟩) (by assumption) ?rest33q3
  case hy33q3 => intro w hSw; (try dsimp only at hSw); (try simp only [getElem_toArray, getElem_cons_succ, getElem_cons_zero]); go_simp; (try with_reducible rfl)
  (try simp only [getElem_toArray, getElem_cons_succ, getElem_cons_zero, Act.put, setIfInBounds_toArray, set_cons_zero, set_cons_succ])
  refine wpAnyH_take (i := 34) (v := ?v34q3) rfl (by kernel_rfl) (by kernel_rfl) (by kernel_rfl) (fun _ _ _ h => h) (Or.inl ⟨by rfl, ?hy34q3⟩) (by assumption) ?rest34q3
  case hy34q3 => intro w hSw; (try dsimp only at hSw); (try simp only [getElem_toArray, getElem_cons_succ, getElem_cons_zero]); go_simp; (try with_reducible rfl)
  (try simp only [getElem_toArray, getElem_cons_succ, getElem_cons_zero, Act.put, setIfInBounds_toArray, set_cons_zero, set_cons_succ])
  refine wpAnyH_take (i := 35) (v := ?v35q3) rfl (by kernel_rfl) (by kernel_rfl) (by kernel_rfl) (fun _ _ _ h => h) (Or.inl ⟨by rfl, ?hy35q3⟩) (by assumption) ?rest35q3
  case hy35q3 => intro w hSw; (try dsimp only at hSw); (try simp only [getElem_toArray, getElem_cons_succ, getElem_cons_zero]); go_simp; (try with_reducible rfl)
  (try simp only [getElem_toArray, getElem_cons_succ, getElem_cons_zero, Act.put, setIfInBounds_toArray, set_cons_zero, set_cons_succ])
  refine wpAnyH_take (i := 36) (v := ?v36q3) rfl (by kernel_rfl) (by kernel_rfl) (by kernel_rfl) (fun _ _ _ h => h) (Or.inl ⟨by rfl, ?hy36q3⟩) (by assumption) ?rest36q3
  case hy36q3 => intro w hSw; (try dsimp only at hSw); (try simp only [getElem_toArray, getElem_cons_succ, getElem_cons_zero]); go_simp; (try with_reducible rfl)
  (try simp only [getElem_toArray, getElem_cons_succ, getElem_cons_zero, Act.put, setIfInBounds_toArray, set_cons_zero, set_cons_succ])
  refine wpAnyH_take (i := 37) (v := ?v37q3) rfl (by kernel_rfl) (by kernel_rfl) (by kernel_rfl) (fun _ _ _ h => h) (Or.inl ⟨by rfl, ?hy37q3⟩) (by assumption) ?rest37q3
  case hy37q3 => intro w hSw; (try dsimp only at hSw); (try simp only [getElem_toArray, getElem_cons_succ, getElem_cons_zero]); go_simp; (try with_reducible rfl)
  (try simp only [getElem_toArray, getElem_cons_succ, getElem_cons_zero, Act.put, setIfInBounds_toArray, set_cons_zero, set_cons_succ])
  refine wpAnyH_take (i := 38) (v := ?v38q3) rfl (by kernel_rfl) (by kernel_rfl) (by kernel_rfl) (fun _ _ _ h => h) (Or.inl ⟨by rfl, ?hy38q3⟩) (by assumption) ?rest38q3
  case hy38q3 => intro w hSw; (try dsimp only at hSw); (try simp only [getElem_toArray, getElem_cons_succ, getElem_cons_zero]); go_simp; (try with_reducible rfl)
  (try simp only [getElem_toArray, getElem_cons_succ, getElem_cons_zero, Act.put, setIfInBounds_toArray, set_cons_zero, set_cons_succ])
  refine wpAnyH_take (i := 39) (v := ?v39q3) rfl (by kernel_rfl) (by kernel_rfl) (by kernel_rfl) (fun _ _ _ h => h) (Or.inl ⟨by rfl, ?hy39q3⟩) (by assumption) ?rest39q3
  case hy39q3 => intro w hSw; (try dsimp only at hSw); (try simp only [getElem_toArray, getElem_cons_succ, getElem_cons_zero]); go_simp; (try with_reducible rfl)
  (try simp only [getElem_toArray, getElem_cons_succ, getElem_cons_zero, Act.put, setIfInBounds_toArray, set_cons_zero, set_cons_succ])
  refine wpAnyH_take (i := 40) (v := ?v40q3) rfl (by kernel_rfl) (by kernel_rfl) (by kernel_rfl) (fun _ _ _ h => h) (Or.inl ⟨by rfl, ?hy40q3⟩) (by assumption) ?rest40q3
  case hy40q3 => intro w hSw; (try dsimp only at hSw); (try simp only [getElem_toArray, getElem_cons_succ, getElem_cons_zero]); go_simp; (try with_reducible rfl)
  (try simp only [getElem_toArray, getElem_cons_succ, getElem_cons_zero, Act.put, setIfInBounds_toArray, set_cons_zero, set_cons_succ])
  refine wpAnyH_take (i := 41) (v := ?v41q3) rfl (by kernel_rfl) (by kernel_rfl) (by kernel_rfl) (fun _ _ _ h => h) (Or.inl ⟨by rfl, ?hy41q3⟩) (by assumption) ?rest41q3
  case hy41q3 => intro w hSw; (try dsimp only at hSw); (try simp only [getElem_toArray, getElem_cons_succ, getElem_cons_zero]); go_simp; (try with_reducible rfl)
  (try simp only [getElem_toArray, getElem_cons_succ, getElem_cons_zero, Act.put, setIfInBounds_toArray, set_cons_zero, set_cons_succ])
  refine wpAnyH_ready (rs := [42]) (by kernel_rfl) (by simp) ?_
  refine AllReadyH.cons rfl (fun K hK => ?_) AllReadyH.nil
  go_simp
  refine ((lequal_any (H18.out.next j33q3) (HA.out.next j33q3) (by omega) (by omega) rfl)).mono ?_
  rintro e w43q3 ⟨rfl, hb43⟩
  have j43q3 : Below v5.heap.size v5 w43q3 := bst j33q3 hb43 (Nat.le_refl _)
  obtain ⟨x043, y043, _, _⟩ := (B0.out.below j43q3 B0.out.lt).two
  obtain ⟨x143, y143, _, _⟩ := (B1.out.below j43q3 B1.out.lt).two
  obtain ⟨x243, y243, _, _⟩ := (Bq.out.below j43q3 Bq.out.lt).two
  obtain ⟨x343, y343, _, _⟩ := (Br.out.below j43q3 Br.out.lt).two
  obtain ⟨x443, y443, _, _⟩ := (Bt.out.below j43q3 Bt.out.lt).two
  obtain ⟨x543, y543, _, _⟩ := (Bu.out.below j43q3 Bu.out.lt).two
  obtain ⟨x643, y643, _, _⟩ := (Bo.out.below j43q3 Bo.out.lt).two
  obtain ⟨x743, y743, _, _⟩ := (B18.out.below j43q3 B18.out.lt).two
  (try go_wp2_with fail)
  refine hK.out _ _ ?hS42q3 (fun hHeld2 => ?_)
  case hS42q3 => (try dsimp only); go_keep
  clear hK K hHeld
  have hHeld := hHeld2
  clear hHeld2 hb43 x043 y043 x143 y143 x243 y243 x343 y343 x443 y443 x543 y543 x643 y643 x743 y743 j33q3
  (try simp only [getElem_toArray, getElem_cons_succ, getElem_cons_zero, Act.put, setIfInBounds_toArray, set_cons_zero, set_cons_succ])
  refine wpAnyH_take (i := 43) (v := ?v43q3) rfl (by kernel_rfl) (by kernel_rfl) (by kernel_rfl) (fun _ _ _ h => h) (Or.inl ⟨by rfl, ?hy43q3⟩) (by assumption) ?rest43q3
  case hy43q3 => intro w hSw; (try dsimp only at hSw); (try simp only [getElem_toArray, getElem_cons_succ, getElem_cons_zero]); go_simp; (try with_reducible rfl)
  (try simp only [getElem_toArray, getElem_cons_succ, getElem_cons_zero, Act.put, setIfInBounds_toArray, set_cons_zero, set_cons_succ])
  refine wpAnyH_take (i := 44) (v := ?v44q3) rfl (by kernel_rfl) (by kernel_rfl) (by kernel_rfl) (fun _ _ _ h => h) (Or.inl ⟨by rfl, ?hy44q3⟩) (by assumption) ?rest44q3
  case hy44q3 => intro w hSw; (try dsimp only at hSw); (try simp only [getElem_toArray, getElem_cons_succ, getElem_cons_zero]); go_simp; (try with_reducible rfl)
  (try simp only [getElem_toArray, getElem_cons_succ, getElem_cons_zero, Act.put, setIfInBounds_toArray, set_cons_zero, set_cons_succ])
  refine wpAnyH_ready (rs := [45]) (by kernel_rfl) (by simp) ?_
  refine AllReadyH.cons rfl (fun K hK => ?_) AllReadyH.nil
  go_simp
  refine ((zlives_any _)).mono ?_
  rintro e w46q3 ⟨rfl, hb46⟩
  have j46q3 : Below v5.heap.size v5 w46q3 := bst j43q3 hb46 (Nat.le_refl _)
  obtain ⟨x046, y046, _, _⟩ := (B0.out.below j46q3 B0.out.lt).two
  obtain ⟨x146, y146, _, _⟩ := (B1.out.below j46q3 B1.out.lt).two
  obtain ⟨x246, y246, _, _⟩ := (Bq.out.below j46q3 Bq.out.lt).two
  obtain ⟨x346, y346, _, _⟩ := (Br.out.below j46q3 Br.out.lt).two
  obtain ⟨x446, y446, _, _⟩ := (Bt.out.below j46q3 Bt.out.lt).two
  obtain ⟨x546, y546, _, _⟩ := (Bu.out.below j46q3 Bu.out.lt).two
  obtain ⟨x646, y646, _, _⟩ := (Bo.out.below j46q3 Bo.out.lt).two
  obtain ⟨x746, y746, _, _⟩ := (B18.out.below j46q3 B18.out.lt).two
  (try go_wp2_with fail)
  refine hK.out _ _ ?hS45q3 (fun hHeld2 => ?_)
  case hS45q3 => (try dsimp only); go_keep
  clear hK K hHeld
  have hHeld := hHeld2
  clear hHeld2 hb46 x046 y046 x146 y146 x246 y246 x346 y346 x446 y446 x546 y546 x646 y646 x746 y746 j43q3
  (try simp only [getElem_toArray, getElem_cons_succ, getElem_cons_zero, Act.put, setIfInBounds_toArray, set_cons_zero, set_cons_succ])
  refine wpAnyH_take (i := 46) (v := ?v46q3) rfl (by kernel_rfl) (by kernel_rfl) (by kernel_rfl) (fun _ _ _ h => h) (Or.inl ⟨by rfl, ?hy46q3⟩) (by assumption) ?rest46q3
  case hy46q3 => intro w hSw; (try dsimp only at hSw); (try simp only [getElem_toArray, getElem_cons_succ, getElem_cons_zero]); go_simp; (try with_reducible rfl)
  (try simp only [getElem_toArray, getElem_cons_succ, getElem_cons_zero, Act.put, setIfInBounds_toArray, set_cons_zero, set_cons_succ])
  refine wpAnyH_take (i := 47) (v := ?v47q3) rfl (by kernel_rfl) (by kernel_rfl) (by kernel_rfl) (fun _ _ _ h => h) (Or.inl ⟨by rfl, ?hy47q3⟩) (by assumption) ?rest47q3
  case hy47q3 => intro w hSw; (try dsimp only at hSw); (try simp only [getElem_toArray, getElem_cons_succ, getElem_cons_zero]); go_simp; (try with_reducible rfl)
  (try simp only [getElem_toArray, getElem_cons_succ, getElem_cons_zero, Act.put, setIfInBounds_toArray, set_cons_zero, set_cons_succ])
  refine wpAnyH_done (by kernel_rfl) ?_ _
  refine NoPanic.normal ?_
  (try go_wp2_with fail)
  exact HQ.out _ _ _ _ _ _ _ _ _ _ _ _ _ _ _ _ _ _ _ _ _ _ _ _ _ _ _ _ _ _ _ _ _ _ _ _ _ _ _ _ _ _ _ _ _ _ _ _ j46q3
end
end Go.Proofs.YtanlejlmckdeiaaGreatDoor
