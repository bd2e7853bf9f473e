/- Region 1 of the law ZintRing, apart. Conditions: at most 2^20 limbs each. -/
import Derived.Test.YtanlejlmckdeiaaGreatDoorPkZg37
import Derived.Test.YtanlejlmckdeiaaGreatDoorPkZg34
namespace Go.Proofs.YtanlejlmckdeiaaGreatDoor
open Go.RowKit
open List (getElem_toArray getElem_cons_succ getElem_cons_zero setIfInBounds_toArray set_cons_zero set_cons_succ)

section
variable {w : World} {g g2 g3 : Bool} {A A2 A3 : Option Addr} {c c2 c3 N : Nat} {xs ys us : List Nat} {z y x : Int}
set_option maxHeartbeats 25600000 in
set_option maxRecDepth 100000 in
theorem ring1 {w0 : World} {Q : Exit → Act → World → Prop} (s0 s1 s2 s6 s7 s8 s9 s10 s11 s12 s13 s14 s15 s16 s17 s18 s19 s20 s21 s22 s23 s24 s25 s26 s27 s28 s29 s30 s31 s32 s33 s34 s35 s36 s37 s38 s39 s40 s41 s42 s43 s44 s45 s46 s47 s48 s49 s50 s51 s52 s53 s54 s55 s56 s57 s58 s59 s60 s61 s62 s63 s64 s65 s66 s67 s68 s69 s70 s71 s72 s73 s74 s75 s76 s77 s78 s79 s80 s81 s82 s83 s84 s85 s86 s87 s88 s89 s90 s91 s92 s93 s94 s95 s96 s97 s98 s99 s100 s101 s102 s103 s104 s105 s106 s107 s108 s109 s110 s111 s112 s113 s114 s115 s116 s117 s118 s119 s120 s121 s122 s123 s124 s125 s126 s127 s128 s129 s130 s131 s132 s133 s134 s135 s136 s137 s138 s139 s140 s141 s142 s143 s144 s145 s146 s147 s148 s149 s150 s151 s152 s153 s154 s155 s156 s157 s158 s159 s160 s161 s162 s163 s164 s165 s166 s167 s168 s169 s170 s171 s172 s173 s174 s175 s176 s177 s178 s179 s180 s181 s182 s183 s184 s185 s186 s187 s188 s189 s190 s191 s192 s193 s194 s195 s196 s197 : Value)
    (hN : N ≤ 1048576) (LZ : Hid (z.natAbs < 4294967296 ^ N)) (LY : Hid (y.natAbs < 4294967296 ^ N)) (LX : Hid (x.natAbs < 4294967296 ^ N))
    (HA : Hid (Zh w0 g A c xs z N))
    (HB : Hid (Zh w0 g2 A2 c2 ys y N))
    (HC : Hid (Zh w0 g3 A3 c3 us x N))
    (B0 : Hid (Blk w0 (w.heap.size) 28 [.bool g, .slice A xs.length c]))
    (B1 : Hid (Blk w0 (w.heap.size + 1) 28 [.bool g2, .slice A2 ys.length c2]))
    (B2 : Hid (Blk w0 (w.heap.size + 1 + 1) 28 [.bool g3, .slice A3 us.length c3]))
    (hQ : ∀ (W : World) (u21 u22 u23 u24 u25 u26 u27 u28 u29 u30 u31 u32 u33 u34 u35 u36 u37 u38 u39 u40 u41 u42 u43 u44 u45 u46 u47 u48 u49 u50 u51 u52 u53 u54 u55 u56 u57 u58 u59 u60 u61 u62 u63 u64 u65 u66 u67 u68 u69 u70 u71 u72 u73 u74 u75 : Value), Below w0.heap.size w0 W → Q .normal ⟨#[s0, s1, s2, .pointer (some ⟨w.heap.size, 0, none⟩), .pointer (some ⟨w.heap.size + 1, 0, none⟩), .pointer (some ⟨w.heap.size + 1 + 1, 0, none⟩), s6, s7, s8, s9, s10, s11, s12, s13, s14, s15, s16, s17, s18, s19, s20, u21, u22, u23, u24, u25, u26, u27, u28, u29, u30, u31, u32, u33, u34, u35, u36, u37, u38, u39, u40, u41, u42, u43, u44, u45, u46, u47, u48, u49, u50, u51, u52, u53, u54, u55, u56, u57, u58, u59, u60, u61, u62, u63, u64, u65, u66, u67, u68, u69, u70, u71, u72, u73, u74, u75, .bool false, s77, s78, s79, s80, s81, s82, s83, s84, s85, s86, s87, s88, s89, s90, s91, s92, s93, s94, s95, s96, s97, s98, s99, s100, s101, s102, s103, s104, s105, s106, s107, s108, s109, s110, s111, s112, s113, s114, s115, s116, s117, s118, s119, s120, s121, s122, s123, s124, s125, s126, s127, s128, s129, s130, s131, s132, s133, s134, s135, s136, s137, s138, s139, s140, s141, s142, s143, s144, s145, s146, s147, s148, s149, s150, s151, s152, s153, s154, s155, s156, s157, s158, s159, s160, s161, s162, s163, s164, s165, s166, s167, s168, s169, s170, s171, s172, s173, s174, s175, s176, s177, s178, s179, s180, s181, s182, s183, s184, s185, s186, s187, s188, s189, s190, s191, s192, s193, s194, s195, s196, s197], []⟩ W) :
    Code.wp Tryz.prog (ringR 1) Q ⟨#[s0, s1, s2, .pointer (some ⟨w.heap.size, 0, none⟩), .pointer (some ⟨w.heap.size + 1, 0, none⟩), .pointer (some ⟨w.heap.size + 1 + 1, 0, none⟩), s6, s7, s8, s9, s10, s11, s12, s13, s14, s15, s16, s17, s18, s19, s20, s21, s22, s23, s24, s25, s26, s27, s28, s29, s30, s31, s32, s33, s34, s35, s36, s37, s38, s39, s40, s41, s42, s43, s44, s45, s46, s47, s48, s49, s50, s51, s52, s53, s54, s55, s56, s57, s58, s59, s60, s61, s62, s63, s64, s65, s66, s67, s68, s69, s70, s71, s72, s73, s74, s75, s76, s77, s78, s79, s80, s81, s82, s83, s84, s85, s86, s87, s88, s89, s90, s91, s92, s93, s94, s95, s96, s97, s98, s99, s100, s101, s102, s103, s104, s105, s106, s107, s108, s109, s110, s111, s112, s113, s114, s115, s116, s117, s118, s119, s120, s121, s122, s123, s124, s125, s126, s127, s128, s129, s130, s131, s132, s133, s134, s135, s136, s137, s138, s139, s140, s141, s142, s143, s144, s145, s146, s147, s148, s149, s150, s151, s152, s153, s154, s155, s156, s157, s158, s159, s160, s161, s162, s163, s164, s165, s166, s167, s168, s169, s170, s171, s172, s173, s174, s175, s176, s177, s178, s179, s180, s181, s182, s183, s184, s185, s186, s187, s188, s189, s190, s191, s192, s193, s194, s195, s196, s197], []⟩ w0 := by
  have HQ := Lib.hid hQ
  clear hQ
  obtain ⟨p0, p1, _, _⟩ := B0.out.two
  obtain ⟨q0, q1, _, _⟩ := B1.out.two
  obtain ⟨t0, t1, _, _⟩ := B2.out.two
  obtain ⟨v3q1, h9⟩ : ∃ v : Int, v = z + y := ⟨_, rfl⟩
  have V3q1 := Lib.hid h9
  clear h9
  have l3q1 : Hid (v3q1.natAbs < 4294967296 ^ (max (N) (N) + 1)) := by show _ < _; rw [V3q1.out]; exact zsum_lt (by omega) LZ.out LY.out
  obtain ⟨v6q1, h9⟩ : ∃ v : Int, v = y + z := ⟨_, rfl⟩
  have V6q1 := Lib.hid h9
  clear h9
  have l6q1 : Hid (v6q1.natAbs < 4294967296 ^ (max (N) (N) + 1)) := by show _ < _; rw [V6q1.out]; exact zsum_lt (by omega) LY.out LZ.out
  have E7q1 : Hid (v3q1 = v6q1) := by show _ = _; simp only [V3q1.out, V6q1.out]; exact Int.add_comm _ _
  obtain ⟨v13q1, h9⟩ : ∃ v : Int, v = y + x := ⟨_, rfl⟩
  have V13q1 := Lib.hid h9
  clear h9
  have l13q1 : Hid (v13q1.natAbs < 4294967296 ^ (max (N) (N) + 1)) := by show _ < _; rw [V13q1.out]; exact zsum_lt (by omega) LY.out LX.out
  obtain ⟨v14q1, h9⟩ : ∃ v : Int, v = z * v13q1 := ⟨_, rfl⟩
  have V14q1 := Lib.hid h9
  clear h9
  have l14q1 : Hid (v14q1.natAbs < 4294967296 ^ ((N) + ((max (N) (N) + 1)))) := by show _ < _; rw [V14q1.out]; exact zprod_lt LZ.out l13q1.out
  obtain ⟨v17q1, h9⟩ : ∃ v : Int, v = z * y := ⟨_, rfl⟩
  have V17q1 := Lib.hid h9
  clear h9
  have l17q1 : Hid (v17q1.natAbs < 4294967296 ^ ((N) + (N))) := by show _ < _; rw [V17q1.out]; exact zprod_lt LZ.out LY.out
  obtain ⟨v20q1, h9⟩ : ∃ v : Int, v = z * x := ⟨_, rfl⟩
  have V20q1 := Lib.hid h9
  clear h9
  have l20q1 : Hid (v20q1.natAbs < 4294967296 ^ ((N) + (N))) := by show _ < _; rw [V20q1.out]; exact zprod_lt LZ.out LX.out
  obtain ⟨v21q1, h9⟩ : ∃ v : Int, v = v17q1 + v20q1 := ⟨_, rfl⟩
  have V21q1 := Lib.hid h9
  clear h9
  have l21q1 : Hid (v21q1.natAbs < 4294967296 ^ (max (((N) + (N))) (((N) + (N))) + 1)) := by show _ < _; rw [V21q1.out]; exact zsum_lt (by omega) l17q1.out l20q1.out
  have E22q1 : Hid (v14q1 = v21q1) := by show _ = _; simp only [V14q1.out, V13q1.out, V21q1.out, V17q1.out, V20q1.out]; exact Int.mul_add _ _ _
  obtain ⟨v28q1, h9⟩ : ∃ v : Int, v = z * y := ⟨_, rfl⟩
  have V28q1 := Lib.hid h9
  clear h9
  have l28q1 : Hid (v28q1.natAbs < 4294967296 ^ ((N) + (N))) := by show _ < _; rw [V28q1.out]; exact zprod_lt LZ.out LY.out
  obtain ⟨v30q1, h9⟩ : ∃ v : Int, v = v28q1 * x := ⟨_, rfl⟩
  have V30q1 := Lib.hid h9
  clear h9
  have l30q1 : Hid (v30q1.natAbs < 4294967296 ^ ((((N) + (N))) + (N))) := by show _ < _; rw [V30q1.out]; exact zprod_lt l28q1.out LX.out
  obtain ⟨v34q1, h9⟩ : ∃ v : Int, v = y * x := ⟨_, rfl⟩
  have V34q1 := Lib.hid h9
  clear h9
  have l34q1 : Hid (v34q1.natAbs < 4294967296 ^ ((N) + (N))) := by show _ < _; rw [V34q1.out]; exact zprod_lt LY.out LX.out
  obtain ⟨v35q1, h9⟩ : ∃ v : Int, v = z * v34q1 := ⟨_, rfl⟩
  have V35q1 := Lib.hid h9
  clear h9
  have l35q1 : Hid (v35q1.natAbs < 4294967296 ^ ((N) + (((N) + (N))))) := by show _ < _; rw [V35q1.out]; exact zprod_lt LZ.out l34q1.out
  have E36q1 : Hid (v30q1 = v35q1) := by show _ = _; simp only [V30q1.out, V28q1.out, V35q1.out, V34q1.out]; exact Int.mul_assoc _ _ _
  obtain ⟨v42q1, h9⟩ : ∃ v : Int, v = z + y := ⟨_, rfl⟩
  have V42q1 := Lib.hid h9
  clear h9
  have l42q1 : Hid (v42q1.natAbs < 4294967296 ^ (max (N) (N) + 1)) := by show _ < _; rw [V42q1.out]; exact zsum_lt (by omega) LZ.out LY.out
  obtain ⟨v44q1, h9⟩ : ∃ v : Int, v = v42q1 - y := ⟨_, rfl⟩
  have V44q1 := Lib.hid h9
  clear h9
  have l44q1 : Hid (v44q1.natAbs < 4294967296 ^ (max ((max (N) (N) + 1)) (N) + 1)) := by show _ < _; rw [V44q1.out]; exact zdiff_lt (by omega) l42q1.out LY.out
  have E46q1 : Hid (v44q1 = z) := by show _ = _; simp only [V44q1.out, V42q1.out]; exact Int.add_sub_cancel _ _
  obtain ⟨v51q1, h9⟩ : ∃ v : Int, v = -z := ⟨_, rfl⟩
  have V51q1 := Lib.hid h9
  clear h9
  have l51q1 : Hid (v51q1.natAbs < 4294967296 ^ (N)) := by show _ < _; rw [V51q1.out]; exact (by rw [Int.natAbs_neg]; exact LZ.out)
  obtain ⟨v52q1, h9⟩ : ∃ v : Int, v = -v51q1 := ⟨_, rfl⟩
  have V52q1 := Lib.hid h9
  clear h9
  have l52q1 : Hid (v52q1.natAbs < 4294967296 ^ ((N))) := by show _ < _; rw [V52q1.out]; exact (by rw [Int.natAbs_neg]; exact l51q1.out)
  have E54q1 : Hid (v52q1 = z) := by show _ = _; simp only [V52q1.out, V51q1.out]; exact Int.neg_neg _
  conv => arg 2; whnf
  refine wp_region_noPanic ?_
  refine wp_region_held_drew (S := fun W => W.cell? ⟨w.heap.size, 0, none⟩ = some (.bool g) ∧ W.cell? ⟨w.heap.size, 1, none⟩ = some (.slice A xs.length c) ∧ W.cell? ⟨w.heap.size + 1, 0, none⟩ = some (.bool g2) ∧ W.cell? ⟨w.heap.size + 1, 1, none⟩ = some (.slice A2 ys.length c2) ∧ W.cell? ⟨w.heap.size + 1 + 1, 0, none⟩ = some (.bool g3) ∧ W.cell? ⟨w.heap.size + 1 + 1, 1, none⟩ = some (.slice A3 us.length c3)) (by kernel_rfl) ?hSq1 (fun hHeld => ?_)
  case hSq1 => (try dsimp only); go_keep
  refine wpAnyH_take (i := 0) (v := ?v0q1) rfl (by kernel_rfl) (by kernel_rfl) (by kernel_rfl) (fun _ _ _ h => h) (Or.inl ⟨by rfl, ?hy0q1⟩) (by assumption) ?rest0q1
  case hy0q1 => intro w hSw; (try dsimp only at hSw); (try simp only [getElem_toArray, getElem_cons_zero]); go_simp; (try with_reducible rfl)
  (try simp only [getElem_toArray, getElem_cons_zero, Act.put, setIfInBounds_toArray, set_cons_zero, set_cons_succ])
  refine wpAnyH_take (i := 1) (v := ?v1q1) rfl (by kernel_rfl) (by kernel_rfl) (by kernel_rfl) (fun _ _ _ h => h) (Or.inl ⟨by rfl, ?hy1q1⟩) (by assumption) ?rest1q1
  case hy1q1 => intro w hSw; (try dsimp only at hSw); (try simp only [getElem_toArray, getElem_cons_succ, getElem_cons_zero]); go_simp; (try with_reducible rfl)
  (try simp only [getElem_toArray, getElem_cons_succ, getElem_cons_zero, Act.put, setIfInBounds_toArray, set_cons_zero, set_cons_succ])
  refine wpAnyH_take (i := 3) (v := ?v3q1) rfl (by kernel_rfl) (by kernel_rfl) (by kernel_rfl) (fun _ _ _ h => h) (Or.inl ⟨by rfl, ?hy3q1⟩) (by assumption) ?rest3q1
  case hy3q1 => intro w hSw; (try dsimp only at hSw); (try simp only [getElem_toArray, getElem_cons_succ, getElem_cons_zero]); go_simp; (try with_reducible rfl)
  (try simp only [getElem_toArray, getElem_cons_succ, getElem_cons_zero, Act.put, setIfInBounds_toArray, set_cons_zero, set_cons_succ])
  refine wpAnyH_take (i := 4) (v := ?v4q1) rfl (by kernel_rfl) (by kernel_rfl) (by kernel_rfl) (fun _ _ _ h => h) (Or.inl ⟨by rfl, ?hy4q1⟩) (by assumption) ?rest4q1
  case hy4q1 => intro w hSw; (try dsimp only at hSw); (try simp only [getElem_toArray, getElem_cons_succ, getElem_cons_zero]); go_simp; (try with_reducible rfl)
  (try simp only [getElem_toArray, getElem_cons_succ, getElem_cons_zero, Act.put, setIfInBounds_toArray, set_cons_zero, set_cons_succ])
  refine wpAnyH_ready (rs := [2]) (by kernel_rfl) (by simp) ?_
  refine AllReadyH.cons rfl (fun K hK => ?_) AllReadyH.nil
  go_simp
  refine ((Zh.add (HA.out.next (bdw (Below.refl _ _))) (HB.out.next (bdw (Below.refl _ _))) (by omega) (by omega)).mono (fun e w' h => h.to V3q1.out.symm)).mono ?_
  rintro e w3q1 ⟨z3q1, A3q1, c3q1, rfl, nn3, rr3, hb3⟩
  have j3q1 : Below w0.heap.size w0 w3q1 := bst (bdw (Below.refl _ _)) hb3 (Nat.le_refl _)
  have n3q1 := Lib.hid nn3
  have r3q1 := Lib.hid rr3
  clear nn3 rr3
  obtain ⟨x03, y03, _, _⟩ := (B0.out.below j3q1 B0.out.lt).two
  obtain ⟨x13, y13, _, _⟩ := (B1.out.below j3q1 B1.out.lt).two
  obtain ⟨x23, y23, _, _⟩ := (B2.out.below j3q1 B2.out.lt).two
  (try go_wp2_with fail)
  refine hK.out _ _ ?hS2q1 (fun hHeld2 => ?_)
  case hS2q1 => (try dsimp only); go_keep
  clear hK K hHeld
  have hHeld := hHeld2
  clear hHeld2 hb3 x03 y03 x13 y13 x23 y23
  (try simp only [getElem_toArray, getElem_cons_succ, getElem_cons_zero, Act.put, setIfInBounds_toArray, set_cons_zero, set_cons_succ])
  refine wpAnyH_ready (rs := [5]) (by kernel_rfl) (by simp) ?_
  refine AllReadyH.cons rfl (fun K hK => ?_) AllReadyH.nil
  go_simp
  refine ((Zh.add (HB.out.next j3q1) (HA.out.next j3q1) (by omega) (by omega)).mono (fun e w' h => h.to V6q1.out.symm)).mono ?_
  rintro e w6q1 ⟨z6q1, A6q1, c6q1, rfl, nn6, rr6, hb6⟩
  have j6q1 : Below w0.heap.size w0 w6q1 := bst j3q1 hb6 (Nat.le_refl _)
  have n6q1 := Lib.hid nn6
  have r6q1 := Lib.hid rr6
  clear nn6 rr6
  have d3_6q1 : Below w3q1.heap.size w3q1 w6q1 := hb6
  obtain ⟨x06, y06, _, _⟩ := (B0.out.below j6q1 B0.out.lt).two
  obtain ⟨x16, y16, _, _⟩ := (B1.out.below j6q1 B1.out.lt).two
  obtain ⟨x26, y26, _, _⟩ := (B2.out.below j6q1 B2.out.lt).two
  (try go_wp2_with fail)
  refine hK.out _ _ ?hS5q1 (fun hHeld2 => ?_)
  case hS5q1 => (try dsimp only); go_keep
  clear hK K hHeld
  have hHeld := hHeld2
  clear hHeld2 hb6 x06 y06 x16 y16 x26 y26 j3q1
  (try simp only [getElem_toArray, getElem_cons_succ, getElem_cons_zero, Act.put, setIfInBounds_toArray, set_cons_zero, set_cons_succ])
  refine wpAnyH_ready (rs := [6]) (by kernel_rfl) (by simp) ?_
  refine AllReadyH.cons rfl (fun K hK => ?_) AllReadyH.nil
  go_simp
  refine ((lequal_any ((Zn.shrink (K := (max (N) (N) + 1)) n3q1.out r3q1.out l3q1.out).next d3_6q1).zh ((Zn.shrink (K := (max (N) (N) + 1)) n6q1.out r6q1.out l6q1.out)).zh (by omega) (by omega) E7q1.out)).mono ?_
  rintro e w7q1 ⟨rfl, hb7⟩
  have j7q1 : Below w0.heap.size w0 w7q1 := bst j6q1 hb7 (Nat.le_refl _)
  obtain ⟨x07, y07, _, _⟩ := (B0.out.below j7q1 B0.out.lt).two
  obtain ⟨x17, y17, _, _⟩ := (B1.out.below j7q1 B1.out.lt).two
  obtain ⟨x27, y27, _, _⟩ := (B2.out.below j7q1 B2.out.lt).two
  (try go_wp2_with fail)
  refine hK.out _ _ ?hS6q1 (fun hHeld2 => ?_)
  case hS6q1 => (try dsimp only); go_keep
  clear hK K hHeld
  have hHeld := hHeld2
  clear hHeld2 hb7 x07 y07 x17 y17 x27 y27 j6q1
  (try simp only [getElem_toArray, getElem_cons_succ, getElem_cons_zero, Act.put, setIfInBounds_toArray, set_cons_zero, set_cons_succ])
  refine wpAnyH_take (i := 7) (v := ?v7q1) rfl (by kernel_rfl) (by kernel_rfl) (by kernel_rfl) (fun _ _ _ h => h) (Or.inl ⟨by rfl, ?hy7q1⟩) (by assumption) ?rest7q1
  case hy7q1 => intro w hSw; (try dsimp only at hSw); (try simp only [getElem_toArray, getElem_cons_succ, getElem_cons_zero]); go_simp; (try with_reducible rfl)
  (try simp only [getElem_toArray, getElem_cons_succ, getElem_cons_zero, Act.put, setIfInBounds_toArray, set_cons_zero, set_cons_succ])
  refine wpAnyH_take (i := 8) (v := ?v8q1) rfl (by kernel_rfl) (by kernel_rfl) (by kernel_rfl) (fun _ _ _ h => h) (Or.inl ⟨by rfl, ?hy8q1⟩) (by assumption) ?rest8q1
  case hy8q1 => intro w hSw; (try dsimp only at hSw); (try simp only [getElem_toArray, getElem_cons_succ, getElem_cons_zero]); go_simp; (try with_reducible rfl)
  (try simp only [getElem_toArray, getElem_cons_succ, getElem_cons_zero, Act.put, setIfInBounds_toArray, set_cons_zero, set_cons_succ])
  refine wpAnyH_take (i := 9) (v := ?v9q1) rfl (by kernel_rfl) (by kernel_rfl) (by kernel_rfl) (fun _ _ _ h => h) (Or.inl ⟨by rfl, ?hy9q1⟩) (by assumption) ?rest9q1
  case hy9q1 => intro w hSw; (try dsimp only at hSw); (try simp only [getElem_toArray, getElem_cons_succ, getElem_cons_zero]); go_simp; (try with_reducible rfl)
  (try simp only [getElem_toArray, getElem_cons_succ, getElem_cons_zero, Act.put, setIfInBounds_toArray, set_cons_zero, set_cons_succ])
  refine wpAnyH_take (i := 10) (v := ?v10q1) rfl (by kernel_rfl) (by kernel_rfl) (by kernel_rfl) (fun _ _ _ h => h) (Or.inl ⟨by rfl, ?hy10q1⟩) (by assumption) ?rest10q1
  case hy10q1 => intro w hSw; (try dsimp only at hSw); (try simp only [getElem_toArray, getElem_cons_succ, getElem_cons_zero]); go_simp; (try with_reducible rfl)
  (try simp only [getElem_toArray, getElem_cons_succ, getElem_cons_zero, Act.put, setIfInBounds_toArray, set_cons_zero, set_cons_succ])
  refine wpAnyH_take (i := 11) (v := ?v11q1) rfl (by kernel_rfl) (by kernel_rfl) (by kernel_rfl) (fun _ _ _ h => h) (Or.inl ⟨by rfl, ?hy11q1⟩) (by assumption) ?rest11q1
  case hy11q1 => intro w hSw; (try dsimp only at hSw); (try simp only [getElem_toArray, getElem_cons_succ, getElem_cons_zero]); go_simp; (try with_reducible rfl)
  (try simp only [getElem_toArray, getElem_cons_succ, getElem_cons_zero, Act.put, setIfInBounds_toArray, set_cons_zero, set_cons_succ])
  refine wpAnyH_take (i := 14) (v := ?v14q1) rfl (by kernel_rfl) (by kernel_rfl) (by kernel_rfl) (fun _ _ _ h => h) (Or.inl ⟨by rfl, ?hy14q1⟩) (by assumption) ?rest14q1
  case hy14q1 => intro w hSw; (try dsimp only at hSw); (try simp only [getElem_toArray, getElem_cons_succ, getElem_cons_zero]); go_simp; (try with_reducible rfl)
  (try simp only [getElem_toArray, getElem_cons_succ, getElem_cons_zero, Act.put, setIfInBounds_toArray, set_cons_zero, set_cons_succ])
  refine wpAnyH_take (i := 15) (v := ?v15q1) rfl (by kernel_rfl) (by kernel_rfl) (by kernel_rfl) (fun _ _ _ h => h) (Or.inl ⟨by rfl, ?hy15q1⟩) (by assumption) ?rest15q1
  case hy15q1 => intro w hSw; (try dsimp only at hSw); (try simp only [getElem_toArray, getElem_cons_succ, getElem_cons_zero]); go_simp; (try with_reducible rfl)
  (try simp only [getElem_toArray, getElem_cons_succ, getElem_cons_zero, Act.put, setIfInBounds_toArray, set_cons_zero, set_cons_succ])
  refine wpAnyH_take (i := 17) (v := ?v17q1) rfl (by kernel_rfl) (by kernel_rfl) (by kernel_rfl) (fun _ _ _ h => h) (Or.inl ⟨by rfl, ?hy17q1⟩) (by assumption) ?rest17q1
  case hy17q1 => intro w hSw; (try dsimp only at hSw); (try simp only [getElem_toArray, getElem_cons_succ, getElem_cons_zero]); go_simp; (try with_reducible rfl)
  (try simp only [getElem_toArray, getElem_cons_succ, getElem_cons_zero, Act.put, setIfInBounds_toArray, set_cons_zero, set_cons_succ])
  refine wpAnyH_take (i := 18) (v := ?v18q1) rfl (by kernel_rfl) (by kernel_rfl) (by kernel_rfl) (fun _ _ _ h => h) (Or.inl ⟨by rfl, ?hy18q1⟩) (by assumption) ?rest18q1
  case hy18q1 => intro w hSw; (try dsimp only at hSw); (try simp only [getElem_toArray, getElem_cons_succ, getElem_cons_zero]); go_simp; (try with_reducible rfl)
  (try simp only [getElem_toArray, getElem_cons_succ, getElem_cons_zero, Act.put, setIfInBounds_toArray, set_cons_zero, set_cons_succ])
  refine wpAnyH_ready (rs := [12]) (by kernel_rfl) (by simp) ?_
  refine AllReadyH.cons rfl (fun K hK => ?_) AllReadyH.nil
  go_simp
  refine ((Zh.add (HB.out.next j7q1) (HC.out.next j7q1) (by omega) (by omega)).mono (fun e w' h => h.to V13q1.out.symm)).mono ?_
  rintro e w13q1 ⟨z13q1, A13q1, c13q1, rfl, nn13, rr13, hb13⟩
  have j13q1 : Below w0.heap.size w0 w13q1 := bst j7q1 hb13 (Nat.le_refl _)
  have n13q1 := Lib.hid nn13
  have r13q1 := Lib.hid rr13
  clear nn13 rr13
  obtain ⟨x013, y013, _, _⟩ := (B0.out.below j13q1 B0.out.lt).two
  obtain ⟨x113, y113, _, _⟩ := (B1.out.below j13q1 B1.out.lt).two
  obtain ⟨x213, y213, _, _⟩ := (B2.out.below j13q1 B2.out.lt).two
  (try go_wp2_with fail)
  refine hK.out _ _ ?hS12q1 (fun hHeld2 => ?_)
  case hS12q1 => (try dsimp only); go_keep
  clear hK K hHeld
  have hHeld := hHeld2
  clear hHeld2 hb13 x013 y013 x113 y113 x213 y213 j7q1
  (try simp only [getElem_toArray, getElem_cons_succ, getElem_cons_zero, Act.put, setIfInBounds_toArray, set_cons_zero, set_cons_succ])
  refine wpAnyH_ready (rs := [13]) (by kernel_rfl) (by simp) ?_
  refine AllReadyH.cons rfl (fun K hK => ?_) AllReadyH.nil
  go_simp
  refine ((Zh.mul (HA.out.next j13q1) ((Zn.shrink (K := (max (N) (N) + 1)) n13q1.out r13q1.out l13q1.out)).zh (by omega) (by omega)).mono (fun e w' h => h.to V14q1.out.symm)).mono ?_
  rintro e w14q1 ⟨z14q1, A14q1, c14q1, rfl, nn14, rr14, hb14⟩
  have j14q1 : Below w0.heap.size w0 w14q1 := bst j13q1 hb14 (Nat.le_refl _)
  have n14q1 := Lib.hid nn14
  have r14q1 := Lib.hid rr14
  clear nn14 rr14
  obtain ⟨x014, y014, _, _⟩ := (B0.out.below j14q1 B0.out.lt).two
  obtain ⟨x114, y114, _, _⟩ := (B1.out.below j14q1 B1.out.lt).two
  obtain ⟨x214, y214, _, _⟩ := (B2.out.below j14q1 B2.out.lt).two
  (try go_wp2_with fail)
  refine hK.out _ _ ?hS13q1 (fun hHeld2 => ?_)
  case hS13q1 => (try dsimp only); go_keep
  clear hK K hHeld
  have hHeld := hHeld2
  clear hHeld2 hb14 x014 y014 x114 y114 x214 y214 j13q1
  (try simp only [getElem_toArray, getElem_cons_succ, getElem_cons_zero, Act.put, setIfInBounds_toArray, set_cons_zero, set_cons_succ])
  refine wpAnyH_ready (rs := [16]) (by kernel_rfl) (by simp) ?_
  refine AllReadyH.cons rfl (fun K hK => ?_) AllReadyH.nil
  go_simp
  refine ((Zh.mul (HA.out.next j14q1) (HB.out.next j14q1) (by omega) (by omega)).mono (fun e w' h => h.to V17q1.out.symm)).mono ?_
  rintro e w17q1 ⟨z17q1, A17q1, c17q1, rfl, nn17, rr17, hb17⟩
  have j17q1 : Below w0.heap.size w0 w17q1 := bst j14q1 hb17 (Nat.le_refl _)
  have n17q1 := Lib.hid nn17
  have r17q1 := Lib.hid rr17
  clear nn17 rr17
  have d14_17q1 : Below w14q1.heap.size w14q1 w17q1 := hb17
  obtain ⟨x017, y017, _, _⟩ := (B0.out.below j17q1 B0.out.lt).two
  obtain ⟨x117, y117, _, _⟩ := (B1.out.below j17q1 B1.out.lt).two
  obtain ⟨x217, y217, _, _⟩ := (B2.out.below j17q1 B2.out.lt).two
  (try go_wp2_with fail)
  refine hK.out _ _ ?hS16q1 (fun hHeld2 => ?_)
  case hS16q1 => (try dsimp only); go_keep
  clear hK K hHeld
  have hHeld := hHeld2
  clear hHeld2 hb17 x017 y017 x117 y117 x217 y217 j14q1
  (try simp only [getElem_toArray, getElem_cons_succ, getElem_cons_zero, Act.put, setIfInBounds_toArray, set_cons_zero, set_cons_succ])
  refine wpAnyH_ready (rs := [19]) (by kernel_rfl) (by simp) ?_
  refine AllReadyH.cons rfl (fun K hK => ?_) AllReadyH.nil
  go_simp
  refine ((Zh.mul (HA.out.next j17q1) (HC.out.next j17q1) (by omega) (by omega)).mono (fun e w' h => h.to V20q1.out.symm)).mono ?_
  rintro e w20q1 ⟨z20q1, A20q1, c20q1, rfl, nn20, rr20, hb20⟩
  have j20q1 : Below w0.heap.size w0 w20q1 := bst j17q1 hb20 (Nat.le_refl _)
  have n20q1 := Lib.hid nn20
  have r20q1 := Lib.hid rr20
  clear nn20 rr20
  have d14_20q1 := bst d14_17q1 hb20 (Nat.le_refl _)
  clear d14_17q1
  have d17_20q1 : Below w17q1.heap.size w17q1 w20q1 := hb20
  obtain ⟨x020, y020, _, _⟩ := (B0.out.below j20q1 B0.out.lt).two
  obtain ⟨x120, y120, _, _⟩ := (B1.out.below j20q1 B1.out.lt).two
  obtain ⟨x220, y220, _, _⟩ := (B2.out.below j20q1 B2.out.lt).two
  (try go_wp2_with fail)
  refine hK.out _ _ ?hS19q1 (fun hHeld2 => ?_)
  case hS19q1 => (try dsimp only); go_keep
  clear hK K hHeld
  have hHeld := hHeld2
  clear hHeld2 hb20 x020 y020 x120 y120 x220 y220 j17q1
  (try simp only [getElem_toArray, getElem_cons_succ, getElem_cons_zero, Act.put, setIfInBounds_toArray, set_cons_zero, set_cons_succ])
  refine wpAnyH_ready (rs := [20]) (by kernel_rfl) (by simp) ?_
  refine AllReadyH.cons rfl (fun K hK => ?_) AllReadyH.nil
  go_simp
  refine ((Zh.add ((Zn.shrink (K := ((N) + (N))) n17q1.out r17q1.out l17q1.out).next d17_20q1).zh ((Zn.shrink (K := ((N) + (N))) n20q1.out r20q1.out l20q1.out)).zh (by omega) (by omega)).mono (fun e w' h => h.to V21q1.out.symm)).mono ?_
  rintro e w21q1 ⟨z21q1, A21q1, c21q1, rfl, nn21, rr21, hb21⟩
  have j21q1 : Below w0.heap.size w0 w21q1 := bst j20q1 hb21 (Nat.le_refl _)
  have n21q1 := Lib.hid nn21
  have r21q1 := Lib.hid rr21
  clear nn21 rr21
  have d14_21q1 := bst d14_20q1 hb21 (Nat.le_refl _)
  clear d14_20q1
  obtain ⟨x021, y021, _, _⟩ := (B0.out.below j21q1 B0.out.lt).two
  obtain ⟨x121, y121, _, _⟩ := (B1.out.below j21q1 B1.out.lt).two
  obtain ⟨x221, y221, _, _⟩ := (B2.out.below j21q1 B2.out.lt).two
  (try go_wp2_with fail)
  refine hK.out _ _ ?hS20q1 (fun hHeld2 => ?_)
  case hS20q1 => (try dsimp only); go_keep
  clear hK K hHeld
  have hHeld := hHeld2
  clear hHeld2 hb21 x021 y021 x121 y121 x221 y221 j20q1
  (try simp only [getElem_toArray, getElem_cons_succ, getElem_cons_zero, Act.put, setIfInBounds_toArray, set_cons_zero, set_cons_succ])
  refine wpAnyH_ready (rs := [21]) (by kernel_rfl) (by simp) ?_
  refine AllReadyH.cons rfl (fun K hK => ?_) AllReadyH.nil
  go_simp
  refine ((lequal_any ((Zn.shrink (K := ((N) + ((max (N) (N) + 1)))) n14q1.out r14q1.out l14q1.out).next d14_21q1).zh ((Zn.shrink (K := (max (((N) + (N))) (((N) + (N))) + 1)) n21q1.out r21q1.out l21q1.out)).zh (by omega) (by omega) E22q1.out)).mono ?_
  rintro e w22q1 ⟨rfl, hb22⟩
  have j22q1 : Below w0.heap.size w0 w22q1 := bst j21q1 hb22 (Nat.le_refl _)
  obtain ⟨x022, y022, _, _⟩ := (B0.out.below j22q1 B0.out.lt).two
  obtain ⟨x122, y122, _, _⟩ := (B1.out.below j22q1 B1.out.lt).two
  obtain ⟨x222, y222, _, _⟩ := (B2.out.below j22q1 B2.out.lt).two
  (try go_wp2_with fail)
  refine hK.out _ _ ?hS21q1 (fun hHeld2 => ?_)
  case hS21q1 => (try dsimp only); go_keep
  clear hK K hHeld
  have hHeld := hHeld2
  clear hHeld2 hb22 x022 y022 x122 y122 x222 y222 j21q1
  (try simp only [getElem_toArray, getElem_cons_succ, getElem_cons_zero, Act.put, setIfInBounds_toArray, set_cons_zero, set_cons_succ])
  refine wpAnyH_take (i := 22) (v := ?v22q1) rfl (by kernel_rfl) (by kernel_rfl) (by kernel_rfl) (fun _ _ _ h => h) (Or.inl ⟨by rfl, ?hy22q1⟩) (by assumption) ?rest22q1
  case hy22q1 => intro w hSw; (try dsimp only at hSw); (try simp only [getElem_toArray, getElem_cons_succ, getElem_cons_zero]); go_simp; (try with_reducible rfl)
  (try simp only [getElem_toArray, getElem_cons_succ, getElem_cons_zero, Act.put, setIfInBounds_toArray, set_cons_zero, set_cons_succ])
  refine wpAnyH_take (i := 23) (v := ?v23q1) rfl (by kernel_rfl) (by kernel_rfl) (by kernel_rfl) (fun _ _ _ h => h) (Or.inl ⟨by rfl, ?hy23q1⟩) (by assumption) ?rest23q1
  case hy23q1 => intro w hSw; (try dsimp only at hSw); (try simp only [getElem_toArray, getElem_cons_succ, getElem_cons_zero]); go_simp; (try with_reducible rfl)
  (try simp only [getElem_toArray, getElem_cons_succ, getElem_cons_zero, Act.put, setIfInBounds_toArray, set_cons_zero, set_cons_succ])
  refine wpAnyH_take (i := 24) (v := ?v24q1) rfl (by kernel_rfl) (by kernel_rfl) (by kernel_rfl) (fun _ _ _ h => h) (Or.inl ⟨by rfl, ?hy24q1⟩) (by assumption) ?rest24q1
  case hy24q1 => intro w hSw; (try dsimp only at hSw); (try simp only [getElem_toArray, getElem_cons_succ, getElem_cons_zero]); go_simp; (try with_reducible rfl)
  (try simp only [getElem_toArray, getElem_cons_succ, getElem_cons_zero, Act.put, setIfInBounds_toArray, set_cons_zero, set_cons_succ])
  refine wpAnyH_take (i := 25) (v := ?v25q1) rfl (by kernel_rfl) (by kernel_rfl) (by kernel_rfl) (fun _ _ _ h => h) (Or.inl ⟨by rfl, ?hy25q1⟩) (by assumption) ?rest25q1
  case hy25q1 => intro w hSw; (try dsimp only at hSw); (try simp only [getElem_toArray, getElem_cons_succ, getElem_cons_zero]); go_simp; (try with_reducible rfl)
  (try simp only [getElem_toArray, getElem_cons_succ, getElem_cons_zero, Act.put, setIfInBounds_toArray, set_cons_zero, set_cons_succ])
  refine wpAnyH_take (i := 26) (v := ?v26q1) rfl (by kernel_rfl) (by kernel_rfl) (by kernel_rfl) (fun _ _ _ h => h) (Or.inl ⟨by rfl, ?hy26q1⟩) (by assumption) ?rest26q1
  case hy26q1 => intro w hSw; (try dsimp only at hSw); (try simp only [getElem_toArray, getElem_cons_succ, getElem_cons_zero]); go_simp; (try with_reducible rfl)
  (try simp only [getElem_toArray, getElem_cons_succ, getElem_cons_zero, Act.put, setIfInBounds_toArray, set_cons_zero, set_cons_succ])
  refine wpAnyH_take (i := 28) (v := ?v28q1) rfl (by kernel_rfl) (by kernel_rfl) (by kernel_rfl) (fun _ _ _ h => h) (Or.inl ⟨by rfl, ?hy28q1⟩) (by assumption) ?rest28q1
  case hy28q1 => intro w hSw; (try dsimp only at hSw); (try simp only [getElem_toArray, getElem_cons_succ, getElem_cons_zero]); go_simp; (try with_reducible rfl)
  (try simp only [getElem_toArray, getElem_cons_succ, getElem_cons_zero, Act.put, setIfInBounds_toArray, set_cons_zero, set_cons_succ])
  refine wpAnyH_take (i := 30) (v := ?v30q1) rfl (by kernel_rfl) (by kernel_rfl) (by kernel_rfl) (fun _ _ _ h => h) (Or.inl ⟨by rfl, ?hy30q1⟩) (by assumption) ?rest30q1
  case hy30q1 => intro w hSw; (try dsimp only at hSw); (try simp only [getElem_toArray, getElem_cons_succ, getElem_cons_zero]); go_simp; (try with_reducible rfl)
  (try simp only [getElem_toArray, getElem_cons_succ, getElem_cons_zero, Act.put, setIfInBounds_toArray, set_cons_zero, set_cons_succ])
  refine wpAnyH_take (i := 31) (v := ?v31q1) rfl (by kernel_rfl) (by kernel_rfl) (by kernel_rfl) (fun _ _ _ h => h) (Or.inl ⟨by rfl, ?hy31q1⟩) (by assumption) ?rest31q1
  case hy31q1 => intro w hSw; (try dsimp only at hSw); (try simp only [getElem_toArray, getElem_cons_succ, getElem_cons_zero]); go_simp; (try with_reducible rfl)
  (try simp only [getElem_toArray, getElem_cons_succ, getElem_cons_zero, Act.put, setIfInBounds_toArray, set_cons_zero, set_cons_succ])
  refine wpAnyH_take (i := 32) (v := ?v32q1) rfl (by kernel_rfl) (by kernel_rfl) (by kernel_rfl) (fun _ _ _ h => h) (Or.inl ⟨by rfl, ?hy32q1⟩) (by assumption) ?rest32q1
  case hy32q1 => intro w hSw; (try dsimp only at hSw); (try simp only [getElem_toArray, getElem_cons_succ, getElem_cons_zero]); go_simp; (try with_reducible rfl)
  (try simp only [getElem_toArray, getElem_cons_succ, getElem_cons_zero, Act.put, setIfInBounds_toArray, set_cons_zero, set_cons_succ])
  refine wpAnyH_ready (rs := [27]) (by kernel_rfl) (by simp) ?_
  refine AllReadyH.cons rfl (fun K hK => ?_) AllReadyH.nil
  go_simp
  refine ((Zh.mul (HA.out.next j22q1) (HB.out.next j22q1) (by omega) (by omega)).mono (fun e w' h => h.to V28q1.out.symm)).mono ?_
  rintro e w28q1 ⟨z28q1, A28q1, c28q1, rfl, nn28, rr28, hb28⟩
  have j28q1 : Below w0.heap.size w0 w28q1 := bst j22q1 hb28 (Nat.le_refl _)
  have n28q1 := Lib.hid nn28
  have r28q1 := Lib.hid rr28
  clear nn28 rr28
  obtain ⟨x028, y028, _, _⟩ := (B0.out.below j28q1 B0.out.lt).two
  obtain ⟨x128, y128, _, _⟩ := (B1.out.below j28q1 B1.out.lt).two
  obtain ⟨x228, y228, _, _⟩ := (B2.out.below j28q1 B2.out.lt).two
  (try go_wp2_with fail)
  refine hK.out _ _ ?hS27q1 (fun hHeld2 => ?_)
  case hS27q1 => (try dsimp only); go_keep
  clear hK K hHeld
  have hHeld := hHeld2
  clear hHeld2 hb28 x028 y028 x128 y128 x228 y228 j22q1
  (try simp only [getElem_toArray, getElem_cons_succ, getElem_cons_zero, Act.put, setIfInBounds_toArray, set_cons_zero, set_cons_succ])
  refine wpAnyH_ready (rs := [29]) (by kernel_rfl) (by simp) ?_
  refine AllReadyH.cons rfl (fun K hK => ?_) AllReadyH.nil
  go_simp
  refine ((Zh.mul ((Zn.shrink (K := ((N) + (N))) n28q1.out r28q1.out l28q1.out)).zh (HC.out.next j28q1) (by omega) (by omega)).mono (fun e w' h => h.to V30q1.out.symm)).mono ?_
  rintro e w30q1 ⟨z30q1, A30q1, c30q1, rfl, nn30, rr30, hb30⟩
  have j30q1 : Below w0.heap.size w0 w30q1 := bst j28q1 hb30 (Nat.le_refl _)
  have n30q1 := Lib.hid nn30
  have r30q1 := Lib.hid rr30
  clear nn30 rr30
  obtain ⟨x030, y030, _, _⟩ := (B0.out.below j30q1 B0.out.lt).two
  obtain ⟨x130, y130, _, _⟩ := (B1.out.below j30q1 B1.out.lt).two
  obtain ⟨x230, y230, _, _⟩ := (B2.out.below j30q1 B2.out.lt).two
  (try go_wp2_with fail)
  refine hK.out _ _ ?hS29q1 (fun hHeld2 => ?_)
  case hS29q1 => (try dsimp only); go_keep
  clear hK K hHeld
  have hHeld := hHeld2
  clear hHeld2 hb30 x030 y030 x130 y130 x230 y230 j28q1
  (try simp only [getElem_toArray, getElem_cons_succ, getElem_cons_zero, Act.put, setIfInBounds_toArray, set_cons_zero, set_cons_succ])
  refine wpAnyH_ready (rs := [33]) (by kernel_rfl) (by simp) ?_
  refine AllReadyH.cons rfl (fun K hK => ?_) AllReadyH.nil
  go_simp
  refine ((Zh.mul (HB.out.next j30q1) (HC.out.next j30q1) (by omega) (by omega)).mono (fun e w' h => h.to V34q1.out.symm)).mono ?_
  rintro e w34q1 ⟨z34q1, A34q1, c34q1, rfl, nn34, rr34, hb34⟩
  have j34q1 : Below w0.heap.size w0 w34q1 := bst j30q1 hb34 (Nat.le_refl _)
  have n34q1 := Lib.hid nn34
  have r34q1 := Lib.hid rr34
  clear nn34 rr34
  have d30_34q1 : Below w30q1.heap.size w30q1 w34q1 := hb34
  obtain ⟨x034, y034, _, _⟩ := (B0.out.below j34q1 B0.out.lt).two
  obtain ⟨x134, y134, _, _⟩ := (B1.out.below j34q1 B1.out.lt).two
  obtain ⟨x234, y234, _, _⟩ := (B2.out.below j34q1 B2.out.lt).two
  (try go_wp2_with fail)
  refine hK.out _ _ ?hS33q1 (fun hHeld2 => ?_)
  case hS33q1 => (try dsimp only); go_keep
  clear hK K hHeld
  have hHeld := hHeld2
  clear hHeld2 hb34 x034 y034 x134 y134 x234 y234 j30q1
  (try simp only [getElem_toArray, getElem_cons_succ, getElem_cons_zero, Act.put, setIfInBounds_toArray, set_cons_zero, set_cons_succ])
  refine wpAnyH_ready (rs := [34]) (by kernel_rfl) (by simp) ?_
  refine AllReadyH.cons rfl (fun K hK => ?_) AllReadyH.nil
  go_simp
  refine ((Zh.mul (HA.out.next j34q1) ((Zn.shrink (K := ((N) + (N))) n34q1.out r34q1.out l34q1.out)).zh (by omega) (by omega)).mono (fun e w' h => h.to V35q1.out.symm)).mono ?_
  rintro e w35q1 ⟨z35q1, A35q1, c35q1, rfl, nn35, rr35, hb35⟩
  have j35q1 : Below w0.heap.size w0 w35q1 := bst j34q1 hb35 (Nat.le_refl _)
  have n35q1 := Lib.hid nn35
  have r35q1 := Lib.hid rr35
  clear nn35 rr35
  have d30_35q1 := bst d30_34q1 hb35 (Nat.le_refl _)
  clear d30_34q1
  obtain ⟨x035, y035, _, _⟩ := (B0.out.below j35q1 B0.out.lt).two
  obtain ⟨x135, y135, _, _⟩ := (B1.out.below j35q1 B1.out.lt).two
  obtain ⟨x235, y235, _, _⟩ := (B2.out.below j35q1 B2.out.lt).two
  (try go_wp2_with fail)
  refine hK.out _ _ ?hS34q1 (fun hHeld2 => ?_)
  case hS34q1 => (try dsimp only); go_keep
  clear hK K hHeld
  have hHeld := hHeld2
  clear hHeld2 hb35 x035 y035 x135 y135 x235 y235 j34q1
  (try simp only [getElem_toArray, getElem_cons_succ, getElem_cons_zero, Act.put, setIfInBounds_toArray, set_cons_zero, set_cons_succ])
  refine wpAnyH_ready (rs := [35]) (by kernel_rfl) (by simp) ?_
  refine AllReadyH.cons rfl (fun K hK => ?_) AllReadyH.nil
  go_simp
  refine ((lequal_any ((Zn.shrink (K := ((((N) + (N))) + (N))) n30q1.out r30q1.out l30q1.out).next d30_35q1).zh ((Zn.shrink (K := ((N) + (((N) + (N))))) n35q1.out r35q1.out l35q1.out)).zh (by omega) (by omega) E36q1.out)).mono ?_
  rintro e w36q1 ⟨rfl, hb36⟩
  have j36q1 : Below w0.heap.size w0 w36q1 := bst j35q1 hb36 (Nat.le_refl _)
  obtain ⟨x036, y036, _, _⟩ := (B0.out.below j36q1 B0.out.lt).two
  obtain ⟨x136, y136, _, _⟩ := (B1.out.below j36q1 B1.out.lt).two
  obtain ⟨x236, y236, _, _⟩ := (B2.out.below j36q1 B2.out.lt).two
  (try go_wp2_with fail)
  refine hK.out _ _ ?hS35q1 (fun hHeld2 => ?_)
  case hS35q1 => (try dsimp only); go_keep
  clear hK K hHeld
  have hHeld := hHeld2
  clear hHeld2 hb36 x036 y036 x136 y136 x236 y236 j35q1
  (try simp only [getElem_toArray, getElem_cons_succ, getElem_cons_zero, Act.put, setIfInBounds_toArray, set_cons_zero, set_cons_succ])
  refine wpAnyH_take (i := 36) (v := ?v36q1) rfl (by kernel_rfl) (by kernel_rfl) (by kernel_rfl) (fun _ _ _ h => h) (Or.inl ⟨by rfl, ?hy36q1⟩) (by assumption) ?rest36q1
  case hy36q1 => intro w hSw; (try dsimp only at hSw); (try simp only [getElem_toArray, getElem_cons_succ, getElem_cons_zero]); go_simp; (try with_reducible rfl)
  (try simp only [getElem_toArray, getElem_cons_succ, getElem_cons_zero, Act.put, setIfInBounds_toArray, set_cons_zero, set_cons_succ])
  refine wpAnyH_take (i := 37) (v := ?v37q1) rfl (by kernel_rfl) (by kernel_rfl) (by kernel_rfl) (fun _ _ _ h => h) (Or.inl ⟨by rfl, ?hy37q1⟩) (by assumption) ?rest37q1
  case hy37q1 => intro w hSw; (try dsimp only at hSw); (try simp only [getElem_toArray, getElem_cons_succ, getElem_cons_zero]); go_simp; (try with_reducible rfl)
  (try simp only [getElem_toArray, getElem_cons_succ, getElem_cons_zero, Act.put, setIfInBounds_toArray, set_cons_zero, set_cons_succ])
  refine wpAnyH_take (i := 38) (v := ?v38q1) rfl (by kernel_rfl) (by kernel_rfl) (by kernel_rfl) (fun _ _ _ h => h) (Or.inl ⟨by rfl, ?hy38q1⟩) (by assumption) ?rest38q1
  case hy38q1 => intro w hSw; (try dsimp only at hSw); (try simp only [getElem_toArray, getElem_cons_succ, getElem_cons_zero]); go_simp; (try with_reducible rfl)
  (try simp only [getElem_toArray, getElem_cons_succ, getElem_cons_zero, Act.put, setIfInBounds_toArray, set_cons_zero, set_cons_succ])
  refine wpAnyH_take (i := 39) (v := ?v39q1) rfl (by kernel_rfl) (by kernel_rfl) (by kernel_rfl) (fun _ _ _ h => h) (Or.inl ⟨by rfl, ?hy39q1⟩) (by assumption) ?rest39q1
  case hy39q1 => intro w hSw; (try dsimp only at hSw); (try simp only [getElem_toArray, getElem_cons_succ, getElem_cons_zero]); go_simp; (try with_reducible rfl)
  (try simp only [getElem_toArray, getElem_cons_succ, getElem_cons_zero, Act.put, setIfInBounds_toArray, set_cons_zero, set_cons_succ])
  refine wpAnyH_take (i := 40) (v := ?v40q1) rfl (by kernel_rfl) (by kernel_rfl) (by kernel_rfl) (fun _ _ _ h => h) (Or.inl ⟨by rfl, ?hy40q1⟩) (by assumption) ?rest40q1
  case hy40q1 => intro w hSw; (try dsimp only at hSw); (try simp only [getElem_toArray, getElem_cons_succ, getElem_cons_zero]); go_simp; (try with_reducible rfl)
  (try simp only [getElem_toArray, getElem_cons_succ, getElem_cons_zero, Act.put, setIfInBounds_toArray, set_cons_zero, set_cons_succ])
  refine wpAnyH_take (i := 42) (v := ?v42q1) rfl (by kernel_rfl) (by kernel_rfl) (by kernel_rfl) (fun _ _ _ h => h) (Or.inl ⟨by rfl, ?hy42q1⟩) (by assumption) ?rest42q1
  case hy42q1 => intro w hSw; (try dsimp only at hSw); (try simp only [getElem_toArray, getElem_cons_succ, getElem_cons_zero]); go_simp; (try with_reducible rfl)
  (try simp only [getElem_toArray, getElem_cons_succ, getElem_cons_zero, Act.put, setIfInBounds_toArray, set_cons_zero, set_cons_succ])
  refine wpAnyH_take (i := 44) (v := ?v44q1) rfl (by kernel_rfl) (by kernel_rfl) (by kernel_rfl) (fun _ _ _ h => h) (Or.inl ⟨by rfl, ?hy44q1⟩) (by assumption) ?rest44q1
  case hy44q1 => intro w hSw; (try dsimp only at hSw); (try simp only [getElem_toArray, getElem_cons_succ, getElem_cons_zero]); go_simp; (try with_reducible rfl)
  (try simp only [getElem_toArray, getElem_cons_succ, getElem_cons_zero, Act.put, setIfInBounds_toArray, set_cons_zero, set_cons_succ])
  refine wpAnyH_ready (rs := [41]) (by kernel_rfl) (by simp) ?_
  refine AllReadyH.cons rfl (fun K hK => ?_) AllReadyH.nil
  go_simp
  refine ((Zh.add (HA.out.next j36q1) (HB.out.next j36q1) (by omega) (by omega)).mono (fun e w' h => h.to V42q1.out.symm)).mono ?_
  rintro e w42q1 ⟨z42q1, A42q1, c42q1, rfl, nn42, rr42, hb42⟩
  have j42q1 : Below w0.heap.size w0 w42q1 := bst j36q1 hb42 (Nat.le_refl _)
  have n42q1 := Lib.hid nn42
  have r42q1 := Lib.hid rr42
  clear nn42 rr42
  obtain ⟨x042, y042, _, _⟩ := (B0.out.below j42q1 B0.out.lt).two
  obtain ⟨x142, y142, _, _⟩ := (B1.out.below j42q1 B1.out.lt).two
  obtain ⟨x242, y242, _, _⟩ := (B2.out.below j42q1 B2.out.lt).two
  (try go_wp2_with fail)
  refine hK.out _ _ ?hS41q1 (fun hHeld2 => ?_)
  case hS41q1 => (try dsimp only); go_keep
  clear hK K hHeld
  have hHeld := hHeld2
  clear hHeld2 hb42 x042 y042 x142 y142 x242 y242 j36q1
  (try simp only [getElem_toArray, getElem_cons_succ, getElem_cons_zero, Act.put, setIfInBounds_toArray, set_cons_zero, set_cons_succ])
  refine wpAnyH_ready (rs := [43]) (by kernel_rfl) (by simp) ?_
  refine AllReadyH.cons rfl (fun K hK => ?_) AllReadyH.nil
  go_simp
  refine ((Zh.sub ((Zn.shrink (K := (max (N) (N) + 1)) n42q1.out r42q1.out l42q1.out)).zh (HB.out.next j42q1) (by omega) (by omega)).mono (fun e w' h => h.to V44q1.out.symm)).mono ?_
  rintro e w44q1 ⟨z44q1, A44q1, c44q1, rfl, nn44, rr44, hb44⟩
  have j44q1 : Below w0.heap.size w0 w44q1 := bst j42q1 hb44 (Nat.le_refl _)
  have n44q1 := Lib.hid nn44
  have r44q1 := Lib.hid rr44
  clear nn44 rr44
  obtain ⟨x044, y044, _, _⟩ := (B0.out.below j44q1 B0.out.lt).two
  obtain ⟨x144, y144, _, _⟩ := (B1.out.below j44q1 B1.out.lt).two
  obtain ⟨x244, y244, _, _⟩ := (B2.out.below j44q1 B2.out.lt).two
  (try go_wp2_with fail)
  refine hK.out _ _ ?hS43q1 (fun hHeld2 => ?_)
  case hS43q1 => (try dsimp only); go_keep
  clear hK K hHeld
  have hHeld := hHeld2
  clear hHeld2 hb44 x044 y044 x144 y144 x244 y244 j42q1
  (try simp only [getElem_toArray, getElem_cons_succ, getElem_cons_zero, Act.put, setIfInBounds_toArray, set_cons_zero, set_cons_succ])
  refine wpAnyH_ready (rs := [45]) (by kernel_rfl) (by simp) ?_
  refine AllReadyH.cons rfl (fun K hK => ?_) AllReadyH.nil
  go_simp
  refine ((lequal_any ((Zn.shrink (K := (max ((max (N) (N) + 1)) (N) + 1)) n44q1.out r44q1.out l44q1.out)).zh (HA.out.next j44q1) (by omega) (by omega) E46q1.out)).mono ?_
  rintro e w46q1 ⟨rfl, hb46⟩
  have j46q1 : Below w0.heap.size w0 w46q1 := bst j44q1 hb46 (Nat.le_refl _)
  obtain ⟨x046, y046, _, _⟩ := (B0.out.below j46q1 B0.out.lt).two
  obtain ⟨x146, y146, _, _⟩ := (B1.out.below j46q1 B1.out.lt).two
  obtain ⟨x246, y246, _, _⟩ := (B2.out.below j46q1 B2.out.lt).two
  (try go_wp2_with fail)
  refine hK.out _ _ ?hS45q1 (fun hHeld2 => ?_)
  case hS45q1 => (try dsimp only); go_keep
  clear hK K hHeld
  have hHeld := hHeld2
  clear hHeld2 hb46 x046 y046 x146 y146 x246 y246 j44q1
  (try simp only [getElem_toArray, getElem_cons_succ, getElem_cons_zero, Act.put, setIfInBounds_toArray, set_cons_zero, set_cons_succ])
  refine wpAnyH_take (i := 46) (v := ?v46q1) rfl (by kernel_rfl) (by kernel_rfl) (by kernel_rfl) (fun _ _ _ h => h) (Or.inl ⟨by rfl, ?hy46q1⟩) (by assumption) ?rest46q1
  case hy46q1 => intro w hSw; (try dsimp only at hSw); (try simp only [getElem_toArray, getElem_cons_succ, getElem_cons_zero]); go_simp; (try with_reducible rfl)
  (try simp only [getElem_toArray, getElem_cons_succ, getElem_cons_zero, Act.put, setIfInBounds_toArray, set_cons_zero, set_cons_succ])
  refine wpAnyH_take (i := 47) (v := ?v47q1) rfl (by kernel_rfl) (by kernel_rfl) (by kernel_rfl) (fun _ _ _ h => h) (Or.inl ⟨by rfl, ?hy47q1⟩) (by assumption) ?rest47q1
  case hy47q1 => intro w hSw; (try dsimp only at hSw); (try simp only [getElem_toArray, getElem_cons_succ, getElem_cons_zero]); go_simp; (try with_reducible rfl)
  (try simp only [getElem_toArray, getElem_cons_succ, getElem_cons_zero, Act.put, setIfInBounds_toArray, set_cons_zero, set_cons_succ])
  refine wpAnyH_take (i := 48) (v := ?v48q1) rfl (by kernel_rfl) (by kernel_rfl) (by kernel_rfl) (fun _ _ _ h => h) (Or.inl ⟨by rfl, ?hy48q1⟩) (by assumption) ?rest48q1
  case hy48q1 => intro w hSw; (try dsimp only at hSw); (try simp only [getElem_toArray, getElem_cons_succ, getElem_cons_zero]); go_simp; (try with_reducible rfl)
  (try simp only [getElem_toArray, getElem_cons_succ, getElem_cons_zero, Act.put, setIfInBounds_toArray, set_cons_zero, set_cons_succ])
  refine wpAnyH_take (i := 49) (v := ?v49q1) rfl (by kernel_rfl) (by kernel_rfl) (by kernel_rfl) (fun _ _ _ h => h) (Or.inl ⟨by rfl, ?hy49q1⟩) (by assumption) ?rest49q1
  case hy49q1 => intro w hSw; (try dsimp only at hSw); (try simp only [getElem_toArray, getElem_cons_succ, getElem_cons_zero]); go_simp; (try with_reducible rfl)
  (try simp only [getElem_toArray, getElem_cons_succ, getElem_cons_zero, Act.put, setIfInBounds_toArray, set_cons_zero, set_cons_succ])
  refine wpAnyH_take (i := 52) (v := ?v52q1) rfl (by kernel_rfl) (by kernel_rfl) (by kernel_rfl) (fun _ _ _ h => h) (Or.inl ⟨by rfl, ?hy52q1⟩) (by assumption) ?rest52q1
  case hy52q1 => intro w hSw; (try dsimp only at hSw); (try simp only [getElem_toArray, getElem_cons_succ, getElem_cons_zero]); go_simp; (try with_reducible rfl)
  (try simp only [getElem_toArray, getElem_cons_succ, getElem_cons_zero, Act.put, setIfInBounds_toArray, set_cons_zero, set_cons_succ])
  refine wpAnyH_ready (rs := [50]) (by kernel_rfl) (by simp) ?_
  refine AllReadyH.cons rfl (fun K hK => ?_) AllReadyH.nil
  go_simp
  refine ((Zh.neg (HA.out.next j46q1) (by omega)).mono (fun e w' h => h.to V51q1.out.symm)).mono ?_
  rintro e w51q1 ⟨z51q1, A51q1, c51q1, rfl, nn51, rr51, hb51⟩
  have j51q1 : Below w0.heap.size w0 w51q1 := bst j46q1 hb51 (Nat.le_refl _)
  have n51q1 := Lib.hid nn51
  have r51q1 := Lib.hid rr51
  clear nn51 rr51
  obtain ⟨x051, y051, _, _⟩ := (B0.out.below j51q1 B0.out.lt).two
  obtain ⟨x151, y151, _, _⟩ := (B1.out.below j51q1 B1.out.lt).two
  obtain ⟨x251, y251, _, _⟩ := (B2.out.below j51q1 B2.out.lt).two
  (try go_wp2_with fail)
  refine hK.out _ _ ?hS50q1 (fun hHeld2 => ?_)
  case hS50q1 => (try dsimp only); go_keep
  clear hK K hHeld
  have hHeld := hHeld2
  clear hHeld2 hb51 x051 y051 x151 y151 x251 y251 j46q1
  (try simp only [getElem_toArray, getElem_cons_succ, getElem_cons_zero, Act.put, setIfInBounds_toArray, set_cons_zero, set_cons_succ])
  refine wpAnyH_ready (rs := [51]) (by kernel_rfl) (by simp) ?_
  refine AllReadyH.cons rfl (fun K hK => ?_) AllReadyH.nil
  go_simp
  refine ((Zh.neg ((Zn.shrink (K := (N)) n51q1.out r51q1.out l51q1.out)).zh (by omega)).mono (fun e w' h => h.to V52q1.out.symm)).mono ?_
  rintro e w52q1 ⟨z52q1, A52q1, c52q1, rfl, nn52, rr52, hb52⟩
  have j52q1 : Below w0.heap.size w0 w52q1 := bst j51q1 hb52 (Nat.le_refl _)
  have n52q1 := Lib.hid nn52
  have r52q1 := Lib.hid rr52
  clear nn52 rr52
  obtain ⟨x052, y052, _, _⟩ := (B0.out.below j52q1 B0.out.lt).two
  obtain ⟨x152, y152, _, _⟩ := (B1.out.below j52q1 B1.out.lt).two
  obtain ⟨x252, y252, _, _⟩ := (B2.out.below j52q1 B2.out.lt).two
  (try go_wp2_with fail)
  refine hK.out _ _ ?hS51q1 (fun hHeld2 => ?_)
  case hS51q1 => (try dsimp only); go_keep
  clear hK K hHeld
  have hHeld := hHeld2
  clear hHeld2 hb52 x052 y052 x152 y152 x252 y252 j51q1
  (try simp only [getElem_toArray, getElem_cons_succ, getElem_cons_zero, Act.put, setIfInBounds_toArray, set_cons_zero, set_cons_succ])
  refine wpAnyH_ready (rs := [53]) (by kernel_rfl) (by simp) ?_
  refine AllReadyH.cons rfl (fun K hK => ?_) AllReadyH.nil
  go_simp
  refine ((lequal_any ((Zn.shrink (K := ((N))) n52q1.out r52q1.out l52q1.out)).zh (HA.out.next j52q1) (by omega) (by omega) E54q1.out)).mono ?_
  rintro e w54q1 ⟨rfl, hb54⟩
  have j54q1 : Below w0.heap.size w0 w54q1 := bst j52q1 hb54 (Nat.le_refl _)
  obtain ⟨x054, y054, _, _⟩ := (B0.out.below j54q1 B0.out.lt).two
  obtain ⟨x154, y154, _, _⟩ := (B1.out.below j54q1 B1.out.lt).two
  obtain ⟨x254, y254, _, _⟩ := (B2.out.below j54q1 B2.out.lt).two
  (try go_wp2_with fail)
  refine hK.out _ _ ?hS53q1 (fun hHeld2 => ?_)
  case hS53q1 => (try dsimp only); go_keep
  clear hK K hHeld
  have hHeld := hHeld2
  clear hHeld2 hb54 x054 y054 x154 y154 x254 y254 j52q1
  (try simp only [getElem_toArray, getElem_cons_succ, getElem_cons_zero, Act.put, setIfInBounds_toArray, set_cons_zero, set_cons_succ])
  refine wpAnyH_take (i := 54) (v := ?v54q1) rfl (by kernel_rfl) (by kernel_rfl) (by kernel_rfl) (fun _ _ _ h => h) (Or.inl ⟨by rfl, ?hy54q1⟩) (by assumption) ?rest54q1
  case hy54q1 => intro w hSw; (try dsimp only at hSw); (try simp only [getElem_toArray, getElem_cons_succ, getElem_cons_zero]); go_simp; (try with_reducible rfl)
  (try simp only [getElem_toArray, getElem_cons_succ, getElem_cons_zero, Act.put, setIfInBounds_toArray, set_cons_zero, set_cons_succ])
  refine wpAnyH_take (i := 55) (v := ?v55q1) rfl (by kernel_rfl) (by kernel_rfl) (by kernel_rfl) (fun _ _ _ h => h) (Or.inl ⟨by rfl, ?hy55q1⟩) (by assumption) ?rest55q1
  case hy55q1 => intro w hSw; (try dsimp only at hSw); (try simp only [getElem_toArray, getElem_cons_succ, getElem_cons_zero]); go_simp; (try with_reducible rfl)
  (try simp only [getElem_toArray, getElem_cons_succ, getElem_cons_zero, Act.put, setIfInBounds_toArray, set_cons_zero, set_cons_succ])
  refine wpAnyH_done (by kernel_rfl) ?_ _
  refine NoPanic.normal ?_
  (try go_wp2_with fail)
  exact HQ.out _ _ _ _ _ _ _ _ _ _ _ _ _ _ _ _ _ _ _ _ _ _ _ _ _ _ _ _ _ _ _ _ _ _ _ _ _ _ _ _ _ _ _ _ _ _ _ _ _ _ _ _ _ _ _ _ j54q1
end
end Go.Proofs.YtanlejlmckdeiaaGreatDoor
