/- The contracts of hess's addColumn and addRow. Conditions: as each states. -/
import Derived.Test.YtbafiahmcfkboaaDoorPkHm24
import Derived.Deep.RegionWith
namespace Go.Proofs.YtbafiahmcfkboaaDoor
open Go.RowKit

/-- c times column from on column to. -/
def acN (p to_ from_ c : Nat) (E : Nat → Nat → Nat) : Nat → Nat → Nat := fun a b => if b = to_ then plN p (E a to_) (E a from_) c else E a b
/-- c times row from on row to. -/
def arN (p to_ from_ c : Nat) (E : Nat → Nat → Nat) : Nat → Nat → Nat := fun a b => if a = to_ then plN p (E to_ b) (E from_ b) c else E a b
/-- Entries below p. -/
def Lt (p m n : Nat) (E : Nat → Nat → Nat) : Prop := ∀ a b, a < m → b < n → E a b < p

set_option maxHeartbeats 1600000 in
theorem addCol_any (A : Option Addr) (g gw p n i k m c cp : Nat) (bs : List Nat) (E : Nat → Nat → Nat) (w : World) (h : Mo w A g bs n E) (hw : Pw w gw p) (hgw : bs ≠ [] → gw ∉ bs) (hp0 : 0 < p) (hp : p < 4294967296) (hc : c < 4294967296) (hL : Lt p m n E) (hi : i < n) (hk : k < n) (hm : bs.length = m) (hl : m ≤ 1000) (_ : n ≤ 1000) :
    Calls Tryd.prog 64 #[.pointer (some ⟨gw, 0, none⟩), .slice A m cp, .int .i64 (i : Int), .int .i64 (k : Int), .int .u32 (c : Int)] w fun e w' => e = .returned (.tuple #[]) ∧ Mo w' A g bs n (acN p i k c E) ∧ Md bs w w' := by
  have Hw := Lib.hid hw
  clear hw
  go_enter Tryd.func64, Tryd.ntmps64
  go_wp2_with fail
  go_loopw [14] (fun jv wr => ∃ j : Nat, j ≤ m ∧ jv = .int .i64 (j : Int) ∧ Hid (Mo wr A g bs n (upto j E (acN p i k c E))) ∧ Hid (Md bs w wr)) (fun jv _ => m - (intOf jv).toNat)
  case atStart => exact ⟨0, Nat.zero_le _, rfl, h.congr fun a b _ _ => by simp [upto], Md.refl _ _⟩
  case round =>
    obtain ⟨j, hj, rfl, hmo, hmd⟩ := hrel
    by_cases hjl : j < m
    · have hjb : j < bs.length := by omega
      obtain ⟨rfl, hmt⟩ := hmo.out.mt hjb
      have hbm : bs[j] ∈ bs := List.getElem_mem hjb
      have hpw := Hw.out.md hmd.out (hgw (List.ne_nil_of_mem hbm))
      have a0 := (hmt.head hjb).1
      obtain ⟨a1, f1⟩ := hmt.cell hjb hi
      obtain ⟨a2, f2⟩ := hmt.cell hjb hk
      have hpl := plN_lt hp0 (E j i) (E j k) c
      have hx1 := hL j i hjl hi
      have hy1 := hL j k hjl hk
      have hpt := Lib.hid ((hmt.put (k := i) hjb (plN p (E j i) (E j k) c)).congr (F := upto (j + 1) E (acN p i k c E)) fun a b ha hb => by
        unfold upto acN
        by_cases e1 : a = j
        · subst e1
          rw [if_pos (Nat.lt_succ_self _)]
          by_cases e2 : b = i
          · subst e2; simp
          · simp [e2]
        · by_cases e2 : a < j
          · simp [e1, e2, show a < j + 1 by omega]
          · simp [e1, e2, show ¬ a < j + 1 by omega])
      have e1 : upto j E (acN p i k c E) j i = E j i := by unfold upto; rw [if_neg (Nat.lt_irrefl _)]
      have e2 : upto j E (acN p i k c E) j k = E j k := by unfold upto; rw [if_neg (Nat.lt_irrefl _)]
      rw [e1] at a1
      rw [e2] at a2
      obtain ⟨bj, hbj⟩ : ∃ bj, bj = bs[j] := ⟨_, rfl⟩
      rw [← hbj] at a0 a1 f1 a2 f2 hpt hbm
      obtain ⟨x, hx⟩ : ∃ x, x = E j i := ⟨_, rfl⟩
      obtain ⟨y, hy⟩ : ∃ y, y = E j k := ⟨_, rfl⟩
      rw [← hx] at a1 hpt hpl hx1
      rw [← hy] at a2 hpt hpl hy1
      have Hpl : Hid (∀ W, Dr wr W → Calls Tryd.prog 37 #[.pointer (some ⟨gw, 0, none⟩), .int .u32 (x : Int), .int .u32 (y : Int), .int .u32 (c : Int)] W fun e w' => e = .returned (.int .u32 (plN p x y c : Int)) ∧ W = w') := fun W hW => hplus_any gw p x y c W hp0 hp (by omega) (by omega) hc (hpw.dr hW)
      obtain ⟨z, hz⟩ : ∃ z, z = plN p x y c := ⟨_, rfl⟩
      rw [← hz] at hpt hpl Hpl
      have hbl := hmt.lt bj (.inr hbm)
      have hgl := hmt.top.lt
      clear hmt e1 e2 hbj hmo hpw hx hy hz hL
      go_upto_region 3 with (fail)
      go_region_with (go_at_call 37; (with_reducible refine (Hpl.out _ (by first | exact Dr.refl _ | exact (Dr.refl _).drew)).mono ?_); rintro _ _ ⟨rfl, rfl⟩)
      all_goals go_wp2_with fail
      all_goals go_roundw
      all_goals first
        | exact ⟨j + 1, by omega, by go_num, .inr ⟨rfl, hpt.out.dr ⟨_, rfl⟩⟩, (hmd.out.setCell hbm _ _).dr ⟨_, rfl⟩⟩
        | (simp [intOf] <;> omega)
    · obtain rfl : j = m := by omega
      go_wp2
      go_end0
      exact ⟨rfl, hmo.out.congr fun a b ha _ => by unfold upto; rw [if_pos (by omega)], hmd.out⟩
/-- The first j places of row to done. -/
def arT (p to_ from_ c j : Nat) (E : Nat → Nat → Nat) : Nat → Nat → Nat := fun a b => if a = to_ ∧ b < j then plN p (E to_ b) (E from_ b) c else E a b

set_option maxHeartbeats 1600000 in
theorem addRow_any (g gw p n i k m c cp : Nat) (bs : List Nat) (E : Nat → Nat → Nat) (w : World) (h : Mt w g bs n E) (hw : Pw w gw p) (hgw : gw ∉ bs) (hp0 : 0 < p) (hp : p < 4294967296) (hc : c < 4294967296) (hL : Lt p m n E) (hi : i < m) (hk : k < m) (hik : i ≠ k) (hm : bs.length = m) (_ : m ≤ 1000) (hn : n ≤ 1000) :
    Calls Tryd.prog 63 #[.pointer (some ⟨gw, 0, none⟩), .slice (some ⟨g, 0, none⟩) m cp, .int .i64 (i : Int), .int .i64 (k : Int), .int .u32 (c : Int)] w fun e w' => e = .returned (.tuple #[]) ∧ Mt w' g bs n (arN p i k c E) ∧ Md bs w w' := by
  have hib : i < bs.length := by omega
  have hkb : k < bs.length := by omega
  have a0 := (h.head hkb).1
  have H : Hid (Mt w g bs n E) := h
  have Hw := Lib.hid hw
  have hnd := h.nd
  obtain ⟨bk, hbk⟩ : ∃ bk, bk = bs[k] := ⟨_, rfl⟩
  have hbki : bk ≠ bs[i] := fun e => hik ((List.getElem_inj hnd).1 (hbk ▸ e)).symm
  rw [← hbk] at a0
  have Hbk := Lib.hid hbk
  clear hw hnd h hbk
  go_enter Tryd.func63, Tryd.ntmps63
  go_wp2_with fail
  go_loopw [17] (fun jv wr => ∃ j : Nat, j ≤ n ∧ jv = .int .i64 (j : Int) ∧ Hid (Mt wr g bs n (arT p i k c j E)) ∧ Hid (Md bs w wr)) (fun jv _ => n - (intOf jv).toNat)
  case atStart => exact ⟨0, Nat.zero_le _, rfl, H.out.congr fun a b _ _ => by simp [arT], Md.refl _ _⟩
  case round =>
    obtain ⟨j, hj, rfl, hmt, hmd⟩ := hrel
    by_cases hjl : j < n
    · have hbm : bs[i] ∈ bs := List.getElem_mem hib
      have hpw := Hw.out.md hmd.out hgw
      have a1 := (hmt.out.head hib).1
      obtain ⟨a2, f2⟩ := hmt.out.cell hib hjl
      have a3 := (hmt.out.cell hkb hjl).1
      have hpl := plN_lt hp0 (E i j) (E k j) c
      have hx1 := hL i j hi hjl
      have hy1 := hL k j hk hjl
      have hpt := Lib.hid ((hmt.out.put (k := j) hib (plN p (E i j) (E k j) c)).congr (F := arT p i k c (j + 1) E) fun a b ha hb => by
        unfold arT
        by_cases e1 : a = i
        · subst e1
          by_cases e2 : b = j
          · subst e2; simp
          · by_cases e3 : b < j
            · simp [e2, e3, show b < j + 1 by omega]
            · simp [e2, e3, show ¬ b < j + 1 by omega]
        · simp [e1])
      have e1 : arT p i k c j E i j = E i j := by unfold arT; rw [if_neg (by omega)]
      have e2 : arT p i k c j E k j = E k j := by unfold arT; rw [if_neg (by omega)]
      rw [e1] at a2
      rw [e2, ← Hbk.out] at a3
      obtain ⟨bi, hbi⟩ : ∃ bi, bi = bs[i] := ⟨_, rfl⟩
      rw [← hbi] at a1 a2 f2 hpt hbm hbki
      obtain ⟨x, hx⟩ : ∃ x, x = E i j := ⟨_, rfl⟩
      obtain ⟨y, hy⟩ : ∃ y, y = E k j := ⟨_, rfl⟩
      rw [← hx] at a2 hpt hpl hx1
      rw [← hy] at a3 hpt hpl hy1
      have Hpl : Hid (∀ W, Dr wr W → Calls Tryd.prog 37 #[.pointer (some ⟨gw, 0, none⟩), .int .u32 (x : Int), .int .u32 (y : Int), .int .u32 (c : Int)] W fun e w' => e = .returned (.int .u32 (plN p x y c : Int)) ∧ W = w') := fun W hW => hplus_any gw p x y c W hp0 hp (by omega) (by omega) hc (hpw.dr hW)
      obtain ⟨z, hz⟩ : ∃ z, z = plN p x y c := ⟨_, rfl⟩
      rw [← hz] at hpt hpl Hpl
      clear e1 e2 hbi hmt hpw hx hy hz hL hbki
      go_upto_region 3 with (fail)
      go_region_with (go_at_call 37; (with_reducible refine (Hpl.out _ (by first | exact Dr.refl _ | exact (Dr.refl _).drew)).mono ?_); rintro _ _ ⟨rfl, rfl⟩)
      all_goals go_wp2_with fail
      all_goals go_roundw
      all_goals first
        | exact ⟨j + 1, by omega, by go_num, hpt.out.dr ⟨_, rfl⟩, (hmd.out.setCell hbm _ _).dr ⟨_, rfl⟩⟩
        | (simp [intOf] <;> omega)
    · obtain rfl : j = n := by omega
      go_wp2
      go_end0
      exact ⟨rfl, hmt.out.congr fun a b _ hb => by simp [arT, arN, hb], hmd.out⟩
end Go.Proofs.YtbafiahmcfkboaaDoor
