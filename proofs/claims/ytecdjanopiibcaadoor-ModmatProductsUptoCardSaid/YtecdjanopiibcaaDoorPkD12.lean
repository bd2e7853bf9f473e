/- The contract of lift: which row is exchanged. Conditions: as it states. Elimination modulo p, as lists: the reduced form and its pivots. No conditions. Rows that grow by append, elements of one cell. No conditions beyond the law's. The contract of a field's reduce. Conditions: p a prime, the rows equally long, below p; bases reads 2, 7, 61. -/
import Derived.Test.YtecdjanopiibcaaDoorPkD11
import Derived.RegionTactic
import Derived.Test.YtecdjanopiibcaaDoorPkD0
import Derived.Maps.AppendAt
import Derived.OwnWalk
import Derived.OneCell
import Derived.StillTailTactics
import Derived.WalkMore
namespace Go.Proofs.YtecdjanopiibcaaDoor
section
open Go.RowKit

/-- An entry; nought where there is none. -/
def ent (M : List (List Nat)) (i k : Nat) : Nat := (M.getD i []).getD k 0
theorem ent_at {M : List (List Nat)} {i k : Nat} (hi : i < M.length) (hk : k < M[i].length) : ent M i k = M[i][k] := by
  simp [ent, List.getD_eq_getElem?_getD, List.getElem?_eq_getElem hi, List.getElem?_eq_getElem hk]
/-- The first row from i on, of n of them, that is not nought in column c. -/
def seekN (M : List (List Nat)) (c : Nat) : Nat → Nat → Option Nat
  | 0, _ => none
  | n + 1, i => if ent M i c = 0 then seekN M c n (i + 1) else some i
def piv (M : List (List Nat)) (c k : Nat) : Option Nat := seekN M c (M.length - k) k
theorem seekN_step {M : List (List Nat)} {c n i : Nat} (h : 0 < n) (h0 : ent M i c = 0) : seekN M c n i = seekN M c (n - 1) (i + 1) := by
  obtain ⟨m, rfl⟩ : ∃ m, n = m + 1 := ⟨n - 1, by omega⟩
  rw [seekN, if_pos h0]; rfl
theorem seekN_here {M : List (List Nat)} {c n i : Nat} (h : 0 < n) (h0 : ent M i c ≠ 0) : seekN M c n i = some i := by
  obtain ⟨m, rfl⟩ : ∃ m, n = m + 1 := ⟨n - 1, by omega⟩
  rw [seekN, if_neg h0]
theorem seekN_some {M : List (List Nat)} {c : Nat} : ∀ {n i j : Nat}, seekN M c n i = some j → i ≤ j ∧ j < i + n ∧ ent M j c ≠ 0
  | 0, _, _, h => by cases h
  | n + 1, i, j, h => by
    rw [seekN] at h
    split at h
    · have := seekN_some h; omega
    · rename_i h0
      obtain rfl : i = j := Option.some.inj h
      exact ⟨Nat.le_refl _, by omega, h0⟩
theorem piv_some {M : List (List Nat)} {c k j : Nat} (h : piv M c k = some j) : k ≤ j ∧ j < M.length ∧ ent M j c ≠ 0 := by
  obtain ⟨h1, h2, h3⟩ := seekN_some h
  exact ⟨h1, by omega, h3⟩
/-- Two places exchanged. -/
def sw {α : Type} (d : α) (l : List α) (i k : Nat) : List α := (l.set i (l.getD k d)).set k (l.getD i d)
theorem sw_length {α : Type} (d : α) (l : List α) (i k : Nat) : (sw d l i k).length = l.length := by simp [sw]
theorem sw_self {α : Type} (d : α) (l : List α) (i : Nat) : sw d l i i = l := by
  unfold sw
  rw [List.set_set]
  by_cases h : i < l.length
  · rw [List.getD_eq_getElem?_getD, List.getElem?_eq_getElem h]; simp
  · rw [List.set_eq_of_length_le (by omega)]
theorem sw_mem {α : Type} {d : α} {l : List α} {i k : Nat} (hi : i < l.length) (hk : k < l.length) {x : α} (h : x ∈ sw d l i k) : x ∈ l := by
  unfold sw at h
  rw [List.getD_eq_getElem?_getD, List.getD_eq_getElem?_getD, List.getElem?_eq_getElem hi, List.getElem?_eq_getElem hk] at h
  rcases List.mem_or_eq_of_mem_set h with h | rfl
  · rcases List.mem_or_eq_of_mem_set h with h | rfl
    · exact h
    · exact List.getElem_mem hk
  · exact List.getElem_mem hi
theorem sw_at {α : Type} (d : α) (l : List α) (i k j : Nat) (hi : i < l.length) (hk : k < l.length) (hj : j < l.length) (h : j < (sw d l i k).length) :
    (sw d l i k)[j] = if j = k then l[i] else if j = i then l[k] else l[j] := by
  unfold sw
  simp only [List.getElem_set, List.getD_eq_getElem?_getD, List.getElem?_eq_getElem hi, List.getElem?_eq_getElem hk, Option.getD_some]
  by_cases h1 : k = j
  · subst h1; simp
  · rw [if_neg h1, if_neg (Ne.symm h1)]
    by_cases h2 : i = j
    · subst h2; simp
    · rw [if_neg h2, if_neg (Ne.symm h2)]

section
variable {w w' : World} {B B' g : Nat} {hs : List (Option Addr × Nat)} {M : List (List Nat)}
/-- Two headers exchanged. -/
theorem Own.swap (h : Own w B g hs M) {i k : Nat} (hi : i < M.length) (hk : k < M.length) :
    Own ((w.setCell ⟨g, i, none⟩ (.slice (hs[k]'(h.len ▸ hk)).1 M[k].length (hs[k]'(h.len ▸ hk)).2)).setCell ⟨g, k, none⟩ (.slice (hs[i]'(h.len ▸ hi)).1 M[i].length (hs[i]'(h.len ▸ hi)).2)) B g (sw (none, 0) hs i k) (sw [] M i k) := by
  have hil : i < hs.length := h.len ▸ hi
  have hkl : k < hs.length := h.len ▸ hk
  have hch : Tn g w ((w.setCell ⟨g, i, none⟩ (.slice (hs[k]'(h.len ▸ hk)).1 M[k].length (hs[k]'(h.len ▸ hk)).2)).setCell ⟨g, k, none⟩ (.slice (hs[i]'(h.len ▸ hi)).1 M[i].length (hs[i]'(h.len ▸ hi)).2)) := Tn.of_ch (((Ch.refl g w).setCell i _).setCell k _)
  have hlen : (sw (none, 0) hs i k).length = (sw [] M i k).length := by rw [sw_length, sw_length]; exact h.len
  -- where place j comes from
  have hfrom : ∀ j (hj : j < (sw [] M i k).length), ∃ j', ∃ hj' : j' < M.length, (sw [] M i k)[j] = M[j'] ∧ (sw (none, 0) hs i k)[j]'(hlen ▸ hj) = hs[j']'(h.len ▸ hj') ∧ j' = (if j = k then i else if j = i then k else j) := fun j hj => by
    have hjM : j < M.length := by rw [sw_length] at hj; exact hj
    have hjh : j < hs.length := h.len ▸ hjM
    rw [sw_at [] M i k j hi hk hjM hj, sw_at (none, 0) hs i k j hil hkl hjh (hlen ▸ hj)]
    by_cases h1 : j = k
    · exact ⟨i, hi, by rw [if_pos h1], by rw [if_pos h1], by rw [if_pos h1]⟩
    · by_cases h2 : j = i
      · exact ⟨k, hk, by rw [if_neg h1, if_pos h2], by rw [if_neg h1, if_pos h2], by rw [if_neg h1, if_pos h2]⟩
      · exact ⟨j, hjM, by rw [if_neg h1, if_neg h2], by rw [if_neg h1, if_neg h2], by rw [if_neg h1, if_neg h2]⟩
  refine ⟨hlen, ?_, h.lo, fun j hj => ?_, fun j hj hne => ?_, fun j l hj hl hjl h1 h2 => ?_⟩
  · obtain ⟨rest, ht⟩ := h.top
    refine ⟨rest, ?_⟩
    have h3 := (ht.set_ i (.slice (hs[k]'(h.len ▸ hk)).1 M[k].length (hs[k]'(h.len ▸ hk)).2)).set_ k (.slice (hs[i]'(h.len ▸ hi)).1 M[i].length (hs[i]'(h.len ▸ hi)).2)
    rw [List.set_append_left _ _ (by rw [hdrs_length h.len]; exact hi), List.set_append_left _ _ (by rw [List.length_set, hdrs_length h.len]; exact hk), hdrs_set, hdrs_set] at h3
    have e1 : sw (none, 0) hs i k = (hs.set i hs[k]).set k hs[i] := by
      unfold sw
      rw [List.getD_eq_getElem?_getD, List.getD_eq_getElem?_getD, List.getElem?_eq_getElem hil, List.getElem?_eq_getElem hkl]; rfl
    have e2 : sw [] M i k = (M.set i M[k]).set k M[i] := by
      unfold sw
      rw [List.getD_eq_getElem?_getD, List.getD_eq_getElem?_getD, List.getElem?_eq_getElem hi, List.getElem?_eq_getElem hk]; rfl
    rw [e1, e2]; exact h3
  · obtain ⟨j', hj', e1, e2, _⟩ := hfrom j hj
    rw [e1, e2]
    exact (h.row j' hj').keepBut hch fun hne => h.ne j' hj' (fun e => hne (by rw [e]; rfl))
  · obtain ⟨j', hj', e1, e2, _⟩ := hfrom j hj
    rw [e1] at hne
    rw [e2]
    exact h.ne j' hj' hne
  · obtain ⟨j', hj', e1, e2, e3⟩ := hfrom j hj
    obtain ⟨l', hl', e4, e5, e6⟩ := hfrom l hl
    rw [e1] at h1
    rw [e4] at h2
    rw [e2, e5]
    refine h.nd j' l' hj' hl' (fun e => hjl ?_) h1 h2
    rw [e3, e6] at e
    split at e <;> split at e <;> (try split at e) <;> (try split at e) <;> omega
end

/-- Which row is exchanged with row k: what lift answers. -/
def lifted (M : List (List Nat)) (k c : Nat) : List (List Nat) := match piv M c k with
  | none => M
  | some i => sw [] M i k
theorem lifted_some {M : List (List Nat)} {k c i : Nat} (h : piv M c k = some i) : lifted M k c = sw [] M i k := by unfold lifted; rw [h]

set_option maxHeartbeats 1600000 in
theorem lift_none (w : World) (B g k c cap : Nat) (hs : List (Option Addr × Nat)) (M : List (List Nat)) (ho : Own w B g hs M) (hk : k ≤ M.length) (hc : ∀ i (h : i < M.length), c < M[i].length) (_ : DigM 4294967296 M) (hm : M.length ≤ 281474976710656) (hp : piv M c k = none) :
    Calls Tryd.prog 61 #[.slice (some ⟨g, 0, none⟩) M.length cap, .int .i64 (k : Int), .int .i64 (c : Int)] w fun e w' => e = .returned (.int .i64 (-1)) ∧ w' = w := by
  have Hp := Lib.hid hp
  have Ho := Lib.hid ho
  have Hc : Hid (∀ i (h : i < M.length), c < M[i].length) := hc
  clear hp ho hc
  go_enter Tryd.func61, Tryd.ntmps61
  go_wp2
  go_loop [7] (fun iv => ∃ i : Nat, k ≤ i ∧ i ≤ M.length ∧ iv = .int .i64 (i : Int) ∧ Hid (piv M c k = seekN M c (M.length - i) i)) (fun iv => M.length - (intOf iv).toNat)
  case atStart => exact ⟨k, by omega, hk, rfl, rfl⟩
  case round =>
    obtain ⟨i, hki, hi, rfl, He⟩ := hrel
    by_cases hlt : i < M.length
    · obtain ⟨hhd, _⟩ := Ho.out.head hlt
      have hcl := Hc.out i hlt
      obtain ⟨gi, rest, e1, h2, h3, h4, h5⟩ := Ho.out.at_ hlt hcl
      have e0 := ent_at hlt hcl
      have h0 : ent M i c = 0 := by
        by_cases h0 : ent M i c = 0
        · exact h0
        · have := He.out
          rw [Hp.out, seekN_here (by omega) h0] at this
          cases this
      have c4 : w.cell? ⟨gi, c, none⟩ = some (.int .u32 0) := by
        rw [h4.cell, List.getElem?_append_left (by rw [u32s_length]; exact hcl), u32s_at hcl, ← e0, h0]; rfl
      rw [e1] at hhd
      have He2 : Hid (piv M c k = seekN M c (M.length - (i + 1)) (i + 1)) := by
        show _ = _
        rw [He.out, seekN_step (by omega) h0, show M.length - i - 1 = M.length - (i + 1) from by omega]
      clear e1 e0 h0 h5
      go_wp2
      go_round
      case rel => exact ⟨i + 1, by omega, by omega, by go_num, He2⟩
      case measure => simp [intOf]; omega
    · go_wp2
      go_ret
      exact ⟨rfl, rfl⟩

set_option maxHeartbeats 3200000 in
theorem lift_some (w : World) (B g k c cap i0 : Nat) (hs : List (Option Addr × Nat)) (M : List (List Nat)) (ho : Own w B g hs M) (hk : k ≤ M.length) (hc : ∀ i (h : i < M.length), c < M[i].length) (hd : DigM 4294967296 M) (hm : M.length ≤ 281474976710656) (hp : piv M c k = some i0) :
    Calls Tryd.prog 61 #[.slice (some ⟨g, 0, none⟩) M.length cap, .int .i64 (k : Int), .int .i64 (c : Int)] w fun e w' => e = .returned (.int .i64 (i0 : Int)) ∧ Own w' B g (sw (none, 0) hs i0 k) (sw [] M i0 k) ∧ Tn g w w' := by
  obtain ⟨hp1, hp2, hp3⟩ := piv_some hp
  have Hp := Lib.hid hp
  have Hp3 := Lib.hid hp3
  have Ho := Lib.hid ho
  have Hc : Hid (∀ i (h : i < M.length), c < M[i].length) := hc
  have Hd : Hid (DigM 4294967296 M) := hd
  clear hp ho hc hd hp3
  go_enter Tryd.func61, Tryd.ntmps61
  go_wp2
  go_loop [7] (fun iv => ∃ i : Nat, k ≤ i ∧ i ≤ M.length ∧ iv = .int .i64 (i : Int) ∧ Hid (piv M c k = seekN M c (M.length - i) i)) (fun iv => M.length - (intOf iv).toNat)
  case atStart => exact ⟨k, by omega, hk, rfl, rfl⟩
  case round =>
    obtain ⟨i, hki, hi, rfl, He⟩ := hrel
    by_cases hlt : i < M.length
    · obtain ⟨hhd, hff⟩ := Ho.out.head hlt
      have hcl := Hc.out i hlt
      obtain ⟨gi, rest, e1, h2, h3, h4, h5⟩ := Ho.out.at_ hlt hcl
      have e0 := ent_at hlt hcl
      by_cases h0 : ent M i c = 0
      · have c4 : w.cell? ⟨gi, c, none⟩ = some (.int .u32 0) := by
          rw [h4.cell, List.getElem?_append_left (by rw [u32s_length]; exact hcl), u32s_at hcl, ← e0, h0]; rfl
        rw [e1] at hhd
        have He2 : Hid (piv M c k = seekN M c (M.length - (i + 1)) (i + 1)) := by
          show _ = _
          rw [He.out, seekN_step (by omega) h0, show M.length - i - 1 = M.length - (i + 1) from by omega]
        clear e1 e0 h0 h5
        go_wp2
        go_round
        case rel => exact ⟨i + 1, by omega, by omega, by go_num, He2⟩
        case measure => simp [intOf]; omega
      · have hii : i = i0 := by
          have := He.out
          rw [Hp.out, seekN_here (by omega) h0] at this
          exact (Option.some.inj this).symm
        subst hii
        have c4 : w.cell? ⟨gi, c, none⟩ = some (.int .u32 (ent M i c : Int)) := by
          rw [h4.cell, List.getElem?_append_left (by rw [u32s_length]; exact hcl), u32s_at hcl, ← e0]
        obtain ⟨x, hx⟩ : ∃ x, x = ent M i c := ⟨_, rfl⟩
        rw [← hx] at c4 h0
        have t1 : ((x : Int) != 0) = true := by simp; omega
        by_cases hik : k = i
        · subst hik
          have hsw := (Ho.out.drew).swap hlt hlt
          have htn := (((Tn.refl g w).drew).setCell k (.slice (hs[k]'(Ho.out.len ▸ hlt)).1 M[k].length (hs[k]'(Ho.out.len ▸ hlt)).2)).setCell k (.slice (hs[k]'(Ho.out.len ▸ hlt)).1 M[k].length (hs[k]'(Ho.out.len ▸ hlt)).2)
          rw [e1] at hhd hsw htn
          obtain ⟨ci, hci⟩ : ∃ ci, ci = (hs[k]'(Ho.out.len ▸ hlt)).2 := ⟨_, rfl⟩
          obtain ⟨ni, hni⟩ : ∃ ni, ni = M[k].length := ⟨_, rfl⟩
          rw [← hci, ← hni] at hhd hsw htn
          have hcn : c < ni := by omega
          clear e1 e0 h5 hx hci hni hcl h2 h3 h4
          have Hsw := Lib.hid hsw
          have Htn := Lib.hid htn
          clear hsw htn
          go_upto_region 5 with (fail)
          go_region
          all_goals
            go_wp2
            go_ret
            exact ⟨rfl, Hsw.out, Htn.out⟩
        · have hkl : k < M.length := by omega
          obtain ⟨hhk, hfk⟩ := Ho.out.head hkl
          have hsw := (Ho.out.drew).swap hlt hkl
          have htn := (((Tn.refl g w).drew).setCell i (.slice (hs[k]'(Ho.out.len ▸ hkl)).1 M[k].length (hs[k]'(Ho.out.len ▸ hkl)).2)).setCell k (.slice (hs[i]'(Ho.out.len ▸ hlt)).1 M[i].length (hs[i]'(Ho.out.len ▸ hlt)).2)
          rw [e1] at hhd hsw htn
          obtain ⟨Ak, hAk⟩ : ∃ Ak, Ak = (hs[k]'(Ho.out.len ▸ hkl)).1 := ⟨_, rfl⟩
          obtain ⟨ck, hck⟩ : ∃ ck, ck = (hs[k]'(Ho.out.len ▸ hkl)).2 := ⟨_, rfl⟩
          obtain ⟨ci, hci⟩ : ∃ ci, ci = (hs[i]'(Ho.out.len ▸ hlt)).2 := ⟨_, rfl⟩
          obtain ⟨nk, hnk⟩ : ∃ nk, nk = M[k].length := ⟨_, rfl⟩
          obtain ⟨ni, hni⟩ : ∃ ni, ni = M[i].length := ⟨_, rfl⟩
          rw [← hAk, ← hck, ← hnk] at hhk hsw htn
          rw [← hci, ← hni] at hhd hsw htn
          have hcn : c < ni := by omega
          clear e1 e0 h5 hx hAk hck hci hnk hni hcl h2 h3 h4
          have Hsw := Lib.hid hsw
          have Htn := Lib.hid htn
          clear hsw htn
          go_upto_region 5 with (fail)
          have hki2 : ¬ (i = k) := fun e => hik e.symm
          go_region
          all_goals
            go_wp2
            go_ret
            exact ⟨rfl, Hsw.out, Htn.out⟩
    · exfalso
      have := He.out
      rw [Hp.out, show M.length - i = 0 from by omega] at this
      cases this
end
section
def scaleR (p u : Nat) (r : List Nat) : List Nat := r.map fun x => plusN p 0 x u
theorem scaleR_length (p u : Nat) (r : List Nat) : (scaleR p u r).length = r.length := by simp [scaleR]
def clearN (p : Nat) (M : List (List Nat)) (k c : Nat) : List (List Nat) := (List.range M.length).map fun i => if i = k then M.getD k [] else subN p (ent M i c) (M.getD i []) (M.getD k [])
theorem clearN_length (p : Nat) (M : List (List Nat)) (k c : Nat) : (clearN p M k c).length = M.length := by simp [clearN]
theorem clearN_at {p : Nat} {M : List (List Nat)} {k c i : Nat} (hi : i < M.length) (hk : k < M.length) (h : i < (clearN p M k c).length) :
    (clearN p M k c)[i] = if i = k then M[k] else subN p (ent M i c) M[i] M[k] := by
  simp [clearN, List.getD_eq_getElem?_getD, List.getElem?_eq_getElem hi, List.getElem?_eq_getElem hk]

/-- All rows of n numbers below p. -/
structure Good (p n : Nat) (M : List (List Nat)) : Prop where
  wid : ∀ r ∈ M, r.length = n
  dig : DigM p M
section
variable {p n : Nat} {M : List (List Nat)}
theorem Good.len (h : Good p n M) {i : Nat} (hi : i < M.length) : M[i].length = n := h.wid _ (List.getElem_mem hi)
theorem Good.lt (h : Good p n M) {i k : Nat} (hi : i < M.length) (hk : k < M[i].length) : M[i][k] < p := h.dig.at_ hi hk
theorem Good.ent_lt (h : Good p n M) (hp : 0 < p) (i k : Nat) : ent M i k < p := by
  by_cases hi : i < M.length
  · by_cases hk : k < M[i].length
    · rw [ent_at hi hk]; exact h.lt hi hk
    · simp [ent, List.getD_eq_getElem?_getD, List.getElem?_eq_getElem hi, List.getElem?_eq_none (Nat.le_of_not_lt hk), hp]
  · simp [ent, List.getD_eq_getElem?_getD, List.getElem?_eq_none (Nat.le_of_not_lt hi), hp]
theorem Good.sw_ (h : Good p n M) {i k : Nat} (hi : i < M.length) (hk : k < M.length) : Good p n (sw [] M i k) :=
  ⟨fun r hr => h.wid r (sw_mem hi hk hr), fun r hr => h.dig r (sw_mem hi hk hr)⟩
theorem Good.set_ (h : Good p n M) (i : Nat) {r : List Nat} (hr : r.length = n) (hd : ∀ x ∈ r, x < p) : Good p n (M.set i r) :=
  ⟨fun x hx => by
    rcases List.mem_or_eq_of_mem_set hx with hx | rfl
    · exact h.wid x hx
    · exact hr, fun x hx => by
    rcases List.mem_or_eq_of_mem_set hx with hx | rfl
    · exact h.dig x hx
    · exact hd⟩
theorem scaleR_lt (hp : 0 < p) (u : Nat) (r : List Nat) : ∀ x ∈ scaleR p u r, x < p := fun x hx => by
  obtain ⟨y, _, rfl⟩ := List.mem_map.1 hx
  exact plusN_lt hp _ _ _
theorem subN_lt (hp : 0 < p) (c : Nat) {xs ys : List Nat} (hx : ∀ x ∈ xs, x < p) : ∀ x ∈ subN p c xs ys, x < p := fun x h => by
  unfold subN at h
  split at h
  · exact hx x h
  · obtain ⟨i, hi, rfl⟩ := List.mem_iff_getElem.1 h
    simp only [List.getElem_zipWith]
    exact plusN_lt hp _ _ _
theorem Good.clear_ (h : Good p n M) (hp : 0 < p) {k : Nat} (hk : k < M.length) (c : Nat) : Good p n (clearN p M k c) := by
  have key : ∀ i (hi : i < (clearN p M k c).length), ((clearN p M k c)[i]).length = n ∧ ∀ x ∈ (clearN p M k c)[i], x < p := fun i hi => by
    have hi2 : i < M.length := by rw [clearN_length] at hi; exact hi
    rw [clearN_at hi2 hk hi]
    split
    · exact ⟨h.len hk, h.dig _ (List.getElem_mem hk)⟩
    · exact ⟨by rw [subN_length (by rw [h.len hi2, h.len hk]), h.len hi2], subN_lt hp _ (h.dig _ (List.getElem_mem hi2))⟩
  exact ⟨fun r hr => by obtain ⟨i, hi, rfl⟩ := List.mem_iff_getElem.1 hr; exact (key i hi).1, fun r hr => by obtain ⟨i, hi, rfl⟩ := List.mem_iff_getElem.1 hr; exact (key i hi).2⟩
end

/-- The matrix with row k scaled so that column c holds 1 there. -/
def unitN (p : Nat) (M : List (List Nat)) (k c : Nat) : List (List Nat) := M.set k (scaleR p (invN p (ent M k c)) (M.getD k []))
theorem unitN_length (p : Nat) (M : List (List Nat)) (k c : Nat) : (unitN p M k c).length = M.length := by simp [unitN]
theorem getD_at {α : Type} {l : List α} {d : α} {i : Nat} (h : i < l.length) : l.getD i d = l[i] := by
  simp [List.getD_eq_getElem?_getD, List.getElem?_eq_getElem h]
theorem Good.unit_ {p n : Nat} {M : List (List Nat)} (h : Good p n M) (hp : 0 < p) {k : Nat} (hk : k < M.length) (c : Nat) : Good p n (unitN p M k c) :=
  h.set_ k (by rw [scaleR_length, getD_at hk, h.len hk]) (scaleR_lt hp _ _)
/-- One column. -/
def colStep (p c : Nat) (s : List (List Nat) × List Nat) : List (List Nat) × List Nat := match piv s.1 c s.2.length with
  | none => s
  | some i => (clearN p (unitN p (sw [] s.1 i s.2.length) s.2.length c) s.2.length c, s.2 ++ [c])
/-- The first columns. -/
def redTo (p : Nat) (M : List (List Nat)) : Nat → List (List Nat) × List Nat
  | 0 => (M, [])
  | c + 1 => colStep p c (redTo p M c)
def redN (p : Nat) (M : List (List Nat)) : List (List Nat) × List Nat := redTo p M (cols M)
theorem colStep_none {p c : Nat} {s : List (List Nat) × List Nat} (h : piv s.1 c s.2.length = none) : colStep p c s = s := by unfold colStep; rw [h]
theorem colStep_some {p c i : Nat} {s : List (List Nat) × List Nat} (h : piv s.1 c s.2.length = some i) : colStep p c s = (clearN p (unitN p (sw [] s.1 i s.2.length) s.2.length c) s.2.length c, s.2 ++ [c]) := by unfold colStep; rw [h]
theorem piv_full {M : List (List Nat)} (c : Nat) : piv M c M.length = none := by simp [piv, seekN]
/-- What stays through the columns. -/
structure RedOk (p n m : Nat) (s : List (List Nat) × List Nat) : Prop where
  good : Good p n s.1
  len : s.1.length = m
  few : s.2.length ≤ m
theorem RedOk.step {p n m c : Nat} {s : List (List Nat) × List Nat} (h : RedOk p n m s) (hp : 0 < p) : RedOk p n m (colStep p c s) := by
  cases e : piv s.1 c s.2.length with
  | none => rw [colStep_none e]; exact h
  | some i =>
    obtain ⟨h1, h2, h3⟩ := piv_some e
    rw [colStep_some e]
    have hk : s.2.length < s.1.length := by omega
    have hk1 : s.2.length < (sw [] s.1 i s.2.length).length := by rw [sw_length]; exact hk
    refine ⟨((h.good.sw_ h2 hk).unit_ hp hk1 c).clear_ hp (by rw [unitN_length]; exact hk1) c, ?_, ?_⟩
    · rw [clearN_length, unitN_length, sw_length, h.len]
    · simp only [List.length_append, List.length_singleton]; rw [h.len] at hk; omega
theorem redTo_ok {p n : Nat} {M : List (List Nat)} (h : Good p n M) (hp : 0 < p) : ∀ c, RedOk p n M.length (redTo p M c)
  | 0 => ⟨h, rfl, Nat.zero_le _⟩
  | c + 1 => (redTo_ok h hp c).step hp
theorem redTo_full {p : Nat} {M : List (List Nat)} {c : Nat} (h : (redTo p M c).2.length = (redTo p M c).1.length) : ∀ d, redTo p M (c + d) = redTo p M c
  | 0 => rfl
  | d + 1 => by
    have ih := redTo_full h d
    show colStep p (c + d) (redTo p M (c + d)) = _
    rw [ih]
    exact colStep_none (by rw [h]; exact piv_full _)
/-- The pivots' columns rise. -/
theorem redTo_lt {p : Nat} {M : List (List Nat)} : ∀ c, ∀ x ∈ (redTo p M c).2, x < c
  | 0, x, h => by cases h
  | c + 1, x, h => by
    have ih := redTo_lt (p := p) (M := M) c
    rw [redTo] at h
    cases e : piv (redTo p M c).1 c (redTo p M c).2.length with
    | none => rw [colStep_none e] at h; have := ih x h; omega
    | some i =>
      rw [colStep_some e] at h
      rcases List.mem_append.1 h with h | h
      · have := ih x h; omega
      · rw [List.mem_singleton] at h; omega
end
section
open Go.RowKit

/-- v is a slice at the head of a row of one's own, from block B on, or nil; it holds xs. -/
def Ro (w : World) (B : Nat) (e : TypeId) (v : Value) (xs : List Value) : Prop := w.ownsRow B e 1 v xs.length xs
theorem Ro.nil_ (w : World) (B : Nat) (e : TypeId) : Ro w B e (.slice none 0 0) [] := ⟨rfl, .inl ⟨rfl, rfl⟩⟩
theorem addr_add (b off j : Nat) : (⟨b, off, none⟩ : Addr).add j = ⟨b, off + j, none⟩ := by unfold Addr.add; split <;> simp_all
theorem Ro.form {w : World} {B : Nat} {e : TypeId} {v : Value} {xs : List Value} (h : Ro w B e v xs) (hm : xs.length ≤ 281474976710656) : ∃ A c, v = .slice A xs.length c ∧ Res w B e A c xs ∧ (∀ a, A = some a → a.block < w.heap.size) := by
  obtain ⟨hl, h1 | ⟨g, cap, cur, rfl, hg, hh, hnc, hcm, hsz, ht⟩⟩ := h
  · obtain ⟨rfl, h0⟩ := h1
    have : xs = [] := List.eq_nil_of_length_eq_zero h0
    subst this
    exact ⟨none, 0, rfl, Res.none_, fun a h => by cases h⟩
  · have hb : Blk w g e cur.toList := by simpa [Blk] using hh
    refine ⟨_, cap, rfl, ⟨hnc, hm, fun _ => ⟨g, cur.toList.drop (xs.length), rfl, hg, ?_, ?_⟩⟩, fun a h => ?_⟩
    · have h9 : cur.toList.take xs.length = xs := by simpa using ht
      have h8 : xs ++ cur.toList.drop xs.length = cur.toList := by
        conv => lhs; lhs; rw [← h9]
        exact List.take_append_drop _ _
      rw [h8]; exact hb
    · rw [List.length_drop]; simp at hsz; simp [hsz]; omega
    · obtain rfl : (⟨g, 0, none⟩ : Addr) = a := by simpa using h
      exact hb.lt
theorem Ro.capLe {w : World} {B : Nat} {e : TypeId} {A : Option Addr} {n c : Nat} {xs : List Value} (h : Ro w B e (.slice A n c) xs) : c ≤ maxLen := by
  obtain ⟨hl, h1 | ⟨g, cap, cur, hv, hg, hh, hnc, hcm, hsz, ht⟩⟩ := h
  · obtain ⟨h1, _⟩ := h1
    injection h1 with _ _ h3
    subst h3; unfold maxLen; omega
  · injection hv with _ _ h3
    subst h3; exact hcm
/-- A row of which the header is written out. -/
theorem Ro.res {w : World} {B : Nat} {e : TypeId} {A : Option Addr} {n c : Nat} {xs : List Value} (h : Ro w B e (.slice A n c) xs) (hm : xs.length ≤ 281474976710656) : n = xs.length ∧ Res w B e A c xs ∧ (∀ a, A = some a → a.block < w.heap.size) := by
  obtain ⟨A', c', h1, h2, h3⟩ := h.form hm
  injection h1 with e1 e2 e3
  subst e1 e2 e3
  exact ⟨rfl, h2, h3⟩
theorem Ro.rd {w : World} {B : Nat} {e : TypeId} {A : Option Addr} {n c : Nat} {xs : List Value} (h : Ro w B e (.slice A n c) xs) : n = xs.length ∧ xs.length ≤ c ∧ Rd w w.heap.size A xs := by
  obtain ⟨hl, ⟨h1, h0⟩ | ⟨g, cap, cur, hv, hg, hh, hnc, hcm, hsz, ht⟩⟩ := h
  · injection h1 with e1 e2 e3
    subst e1 e2 e3
    have : xs = [] := List.eq_nil_of_length_eq_zero h0
    subst this
    exact ⟨rfl, Nat.le_refl _, Rd.nil_⟩
  · injection hv with e1 e2 e3
    subst e1 e2 e3
    have hb : Blk w g e cur.toList := by simpa [Blk] using hh
    have h9 : cur.toList.take xs.length = xs := by simpa using ht
    exact ⟨rfl, hnc, Rd.of_blk hb hb.lt 0 (fun k v hv => by
      rw [Nat.zero_add]
      rw [← h9, List.getElem?_take] at hv
      split at hv
      · exact hv
      · cases hv)⟩
theorem Ro.below {w w' : World} {B B' : Nat} {e : TypeId} {v : Value} {xs : List Value} (h : Ro w B e v xs) (hb : Below B' w w') (hB : w.heap.size ≤ B') : Ro w' B e v xs := by
  obtain ⟨hl, h1 | ⟨g, cap, cur, hv, hg, hh, r⟩⟩ := h
  · exact ⟨hl, .inl h1⟩
  · have hlt : g < w.heap.size := (Array.getElem?_eq_some_iff.1 hh).1
    exact ⟨hl, .inr ⟨g, cap, cur, hv, hg, (hb.block g (by omega)).trans hh, r⟩⟩
theorem Ro.tn {w w' : World} {B k : Nat} {e : TypeId} {v : Value} {xs : List Value} (h : Ro w B e v xs) (ht : Tn k w w') (hk : k < B) : Ro w' B e v xs := by
  obtain ⟨hl, h1 | ⟨g, cap, cur, hv, hg, hh, r⟩⟩ := h
  · exact ⟨hl, .inl h1⟩
  · have hlt : g < w.heap.size := (Array.getElem?_eq_some_iff.1 hh).1
    exact ⟨hl, .inr ⟨g, cap, cur, hv, hg, (ht.block g hlt (by omega)).trans hh, r⟩⟩
theorem Ro.drewN {w : World} {B : Nat} {e : TypeId} {v : Value} {xs : List Value} (h : Ro w B e v xs) (n : Nat) : Ro (w.drewN n) B e v xs := h
theorem Ro.mono {w : World} {B B' : Nat} {e : TypeId} {v : Value} {xs : List Value} (h : Ro w B e v xs) (hB : B' ≤ B) : Ro w B' e v xs := by
  obtain ⟨hl, h1 | ⟨g, cap, cur, hv, hg, r⟩⟩ := h
  · exact ⟨hl, .inl h1⟩
  · exact ⟨hl, .inr ⟨g, cap, cur, hv, by omega, r⟩⟩
theorem Ro.of_blk {w : World} {B g : Nat} {e : TypeId} {xs : List Value} (h : Blk w g e xs) (hg : B ≤ g) (hm : xs.length ≤ maxLen) : Ro w B e (.slice (some ⟨g, 0, none⟩) xs.length xs.length) xs :=
  ⟨by simp, .inr ⟨g, xs.length, xs.toArray, rfl, hg, h, Nat.le_refl _, hm, by simp, by simp⟩⟩

/-- What an append to a row has turned: the row's block at most; new ones may lie behind. -/
theorem below_grown' {w w' : World} {row : Option Nat} (h : w.grownBy w' row) {B : Nat} (hB : ∀ k, row = some k → B ≤ k) (hw : B ≤ w.heap.size) : Below B w w' := (Below.refl B w).grown h hw hB
theorem Ro.block {w : World} {B : Nat} {e : TypeId} {v : Value} {xs : List Value} (h : Ro w B e v xs) : ∀ k, v.ownBlock = some k → B ≤ k := fun k hk => by
  obtain ⟨hl, ⟨rfl, _⟩ | ⟨g, cap, cur, rfl, hg, _⟩⟩ := h
  · simp [Value.ownBlock] at hk
  · simp [Value.ownBlock] at hk; omega

/-- Appending what a slice reads as to a row of one's own. -/
theorem ro_app {P : Program} (w : World) (B : Nat) (t ty e : TypeId) (i : TypeInfo) (z : Value) (bytes : Nat) (ht : P.underlying t = some (.slice e)) (hi : P.info? e = some i) (hz : i.zero = some z)
    (hsize : i.size = 1) (hby : i.bytes = bytes) (hzs : z.cells.size = 1) (v : Value) (xs : List Value) (hown : Ro w B e v xs)
    (A : Option Addr) (m c B2 : Nat) (news : List Value) (hr : Rd w B2 A news) (hm : news.length = m) (h1 : ∀ u ∈ news, u.oneCell' = true) (h63 : xs.length + m ≤ maxLen) (hbytes : (xs.length + m) * bytes ≤ 140737488355328) (hbase : B ≤ w.heap.size) :
    ∃ A' c' w', (Builtin.append_ #[t, t] ty #[v, .slice A m c]).run P w = .ok (.slice A' (xs ++ news).length c') w' ∧ Ro w' B e (.slice A' (xs ++ news).length c') (xs ++ news) ∧ w.grownBy w' v.ownBlock := by
  have fin : ∀ v' w', (Builtin.append_ #[t, t] ty #[v, .slice A m c]).run P w = .ok v' w' → w'.ownsRow B e 1 v' (xs.length + m) (xs ++ news) → w.grownBy w' v.ownBlock → ∃ A' c' w', (Builtin.append_ #[t, t] ty #[v, .slice A m c]).run P w = .ok (.slice A' (xs ++ news).length c') w' ∧ Ro w' B e (.slice A' (xs ++ news).length c') (xs ++ news) ∧ w.grownBy w' v.ownBlock := fun v' w' hrun h2 h3 => by
    have hl : (xs ++ news).length = xs.length + m := by rw [List.length_append, hm]
    rw [← hl] at h2
    have h4 : Ro w' B e v' (xs ++ news) := h2
    obtain ⟨hl2, ⟨rfl, h0⟩ | ⟨g, cap, cur, rfl, r⟩⟩ := h2
    · rw [h0]
      exact ⟨none, 0, w', hrun, h4, h3⟩
    · exact ⟨_, _, w', hrun, h4, h3⟩
  rcases A with _ | ad
  · have h0 : news = [] := by
      by_cases h : news = []
      · exact h
      · obtain ⟨_, _, h2, _⟩ := hr h
        cases h2
    subst h0
    obtain rfl : m = 0 := by simpa using hm.symm
    refine fin v w ?_ (by rw [List.append_nil, Nat.add_zero]; exact hown) (World.grownBy.refl w _)
    obtain ⟨hl, ⟨rfl, h0⟩ | ⟨g', cap', cur, rfl, hg, hh, hnc, hcm, hsz, htk⟩⟩ := hown
    · simp [Builtin.append_, run_underlying ht, sizeOf, typeInfo, hi, Builtin.lenOf, Builtin.firstCells]
    · simp [Builtin.append_, run_underlying ht, sizeOf, typeInfo, hi, Builtin.lenOf, Builtin.firstCells, hnc, storeCells]
  · have hcells : ∀ j u, news[j]? = some u → w.cell? (ad.add j) = some u := fun j u hu => by
      obtain ⟨b, off, h2, _, hc⟩ := hr (by rintro rfl; simp at hu)
      injection h2 with h2
      subst h2
      rw [addr_add]
      exact hc j u hu
    obtain ⟨v', w', hrun, h2, h3, _, _⟩ := run_append_own_at (P := P) w B t ty e i z 1 bytes ht hi hz hsize hby hzs (by omega) _ xs.length xs hown ad m c news (by rw [hm]; omega) hcells h1 h63 hbytes hbase
    exact fin v' w' hrun h2 h3

/-- The walk's step at an append whose run is known. -/
theorem wpList_append_run {P : Program} {w : World} {ops : Array Oper} {rest : List Oper} {o : Oper} {a : Act} {Q : Exit → Act → World → Prop} (hgd : o.guard = none) (d s : Operand) (dT sT : TypeId)
    (ho : o.op = .call { callee := .builtin .append, args := #[d, s], argTypes := #[dT, sT] }) (dv sv : Value) (hd : a.eval d = dv) (hs : a.eval s = sv) (v' : Value) (w' : World)
    (hrun : (Builtin.append_ #[dT, sT] o.type #[dv, sv]).run P w = .ok v' w') (h : wpList P ops Q rest (a.put o.dst v') w') : wpList P ops Q (o :: rest) a w := by
  refine wpList_plain hgd fun K hK => ?_
  unfold Oper.wp
  simp [execOp, ho, resolve, invoke, builtin, hd, hs, hrun, Result.andThen]
  exact hK _ _ h
end
section
open Go.RowKit

def ints (l : List Nat) : List Value := l.map fun x : Nat => Value.int .i64 (x : Int)
theorem ints_length (l : List Nat) : (ints l).length = l.length := by simp [ints]
theorem ints_snoc (l : List Nat) (x : Nat) : ints (l ++ [x]) = ints l ++ [Value.int .i64 (x : Int)] := by simp [ints]
theorem one_ints (l : List Nat) : ∀ u ∈ ints l, u.oneCell' = true := fun u hu => by
  obtain ⟨x, _, rfl⟩ := List.mem_map.1 hu; rfl
theorem Tryd.infoInt : (Tryd.prog.info? 3).map (fun i => (i.zero, i.size, i.bytes)) = some (some (.int .i64 0), 1, 8) := by kernel_rfl

theorem app_int (w : World) (B : Nat) (v : Value) (l : List Nat) (x : Nat) (h : Ro w B 3 v (ints l)) (hB : B ≤ w.heap.size) (hl : l.length ≤ 1099511627776) :
    ∃ A' c' w', (Builtin.append_ #[42, 42] 42 #[v, .slice (some ⟨w.heap.size, 0, none⟩) 1 1]).run Tryd.prog (w.alloc (.cells #[.int .i64 (x : Int)] 3)) = .ok (.slice A' (l.length + 1) c') w' ∧
      Ro w' B 3 (.slice A' (l.length + 1) c') (ints (l ++ [x])) ∧ Below B w w' := by
  obtain ⟨i0, hi, hz0, hz1, hz2⟩ := info_parts Tryd.infoInt
  have hb : Below w.heap.size w (w.alloc (.cells #[.int .i64 (x : Int)] 3)) := (Below.refl _ _).alloc (Nat.le_refl _) _
  have h2 : Ro (w.alloc (.cells #[.int .i64 (x : Int)] 3)) B 3 v (ints l) := h.below hb (Nat.le_refl _)
  have hbk : Blk (w.alloc (.cells #[.int .i64 (x : Int)] 3)) w.heap.size 3 [.int .i64 (x : Int)] := Blk.new_ rfl
  have hrd : Rd (w.alloc (.cells #[.int .i64 (x : Int)] 3)) (w.heap.size + 1) (some ⟨w.heap.size, 0, none⟩) [.int .i64 (x : Int)] := Rd.of_blk hbk (by omega) 0 (fun k u hu => by rw [Nat.zero_add]; exact hu)
  obtain ⟨A', c', w', hrun, h3, h4⟩ := ro_app (P := Tryd.prog) _ B 42 42 3 i0 (.int .i64 0) 8 Tryd.underlying42 hi hz0 hz1 hz2 rfl v (ints l) h2 (some ⟨w.heap.size, 0, none⟩) 1 1 _ [.int .i64 (x : Int)] hrd rfl (one_ints [x]) (by rw [ints_length]; unfold maxLen; omega) (by rw [ints_length]; omega) (by simp; omega)
  have hl2 : (ints l ++ [Value.int .i64 (x : Int)]).length = l.length + 1 := by simp [ints]
  rw [hl2] at hrun h3
  refine ⟨A', c', w', hrun, ?_, (hb.mono hB).trans (below_grown' h4 h.block (by simp; omega))⟩
  rw [ints_snoc]; exact h3

/-- All rows lie below block V, none in a block of X. -/
def UBX (V : Nat) (X : Nat → Prop) (hs : List (Option Addr × Nat)) : Prop := ∀ h ∈ hs, (∀ a, h.1 = some a → a.block < V ∧ ¬ X a.block) ∧ h.2 ≤ maxLen
theorem UBX.ub {V : Nat} {X : Nat → Prop} {hs : List (Option Addr × Nat)} (h : UBX V X hs) : UB V hs := fun x hx => ⟨fun a ha => ((h x hx).1 a ha).1, (h x hx).2⟩
theorem UBX.at_ {V : Nat} {X : Nat → Prop} {hs : List (Option Addr × Nat)} (h : UBX V X hs) {i : Nat} (hi : i < hs.length) {b o : Nat} (e : hs[i].1 = some ⟨b, o, none⟩) : ¬ X b := ((h _ (List.getElem_mem hi)).1 _ e).2
/-- The blocks of X below U are as they were. -/
def MidX (X : Nat → Prop) (U : Nat) (w w' : World) : Prop := ∀ k, X k → k < U → w'.heap[k]? = w.heap[k]?
theorem MidX.tn {X : Nat → Prop} {U k : Nat} {a w w' : World} (h : MidX X U a w) (ht : Tn k w w') (hk : ¬ X k) (hU : U ≤ w.heap.size) : MidX X U a w' := fun i h1 h2 => (ht.block i (by omega) (fun e => hk (e ▸ h1))).trans (h i h1 h2)
theorem MidX.below {X : Nat → Prop} {U B : Nat} {a w w' : World} (h : MidX X U a w) (hb : Below B w w') (hU : U ≤ B) : MidX X U a w' := fun i h1 h2 => (hb.block i (by omega)).trans (h i h1 h2)

set_option maxHeartbeats 3200000 in
set_option maxRecDepth 100000 in
theorem reduce_all (X : Nat → Prop) (p sp : Nat) (w : World) (V U B g cap : Nat) (hs : List (Option Addr × Nat)) (M : List (List Nat)) (hpr : Pr p) (hp : p < 4294967296) (hw : Bases w) (hG : 0 < B) (ho : Own w B g hs M) (hub : UBX V X hs) (hXg : ¬ X g) (hgV : g < V) (hVw : V ≤ w.heap.size) (hB : B ≤ w.heap.size) (hU : U = w.heap.size) (hg : Good p (cols M) M) (hm : M.length ≤ 1099511627776) (hc : M.length ≤ cap) (hn : cols M ≤ 70368744177664) :
    Calls Tryd.prog 50 #[fieldV p sp, .slice (some ⟨g, 0, none⟩) M.length cap] w fun e w' => ∃ A' c' hs', e = .returned (.slice A' (redN p M).2.length c') ∧ Ro w' (U + 1) 3 (.slice A' (redN p M).2.length c') (ints (redN p M).2) ∧
      Own w' B g hs' (redN p M).1 ∧ UBX V X hs' ∧ Below B w w' ∧ MidX X U w w' := by
  have hp0 := hpr.pos
  have hwa : Below B w (w.alloc (.cells #[.int .u64 (p : Int), .int .u64 (sp : Int)] 63 (0, 0))) := (Below.refl _ _).alloc hB _
  have hbx : Blk (w.alloc (.cells #[.int .u64 (p : Int), .int .u64 (sp : Int)] 63 (0, 0))) w.heap.size 63 [.int .u64 (p : Int), .int .u64 (sp : Int)] := Blk.new_ rfl
  have ho1 := ho.below ((Below.refl w.heap.size w).alloc (Nat.le_refl _) (.cells #[.int .u64 (p : Int), .int .u64 (sp : Int)] 63 (0, 0))) (Nat.le_refl _)
  have hgl := ho.lt
  have hcol := columns_any (some ⟨g, 0, none⟩) cap M _ _ ho1.rd hc (by omega)
  have hbw : ∀ W, Below B w W → Bases W := fun W hW => hw.below hW hG
  have Hbw : Hid (∀ W, Below B w W → Bases W) := hbw
  have Hok := Lib.hid (fun c => redTo_ok hg hp0 c)
  have Hfull := Lib.hid (fun c (h : (redTo p M c).2.length = (redTo p M c).1.length) d => redTo_full h d)
  have Hcol := Lib.hid hcol
  clear hcol hbw hw ho hg
  go_enter Tryd.func50, Tryd.ntmps50
  go_wp2_with (first | (go_at_call 51; (with_reducible refine Hcol.out.mono ?_); rintro e w1 ⟨rfl, rfl⟩))
  go_step3
  go_wp2_with fail
  go_step3
  go_wp2_with (first | (go_at_call 51; (with_reducible refine Hcol.out.mono ?_); rintro e w1 ⟨rfl, rfl⟩))
  have hwUa : Below B w (w.alloc (.cells #[.int .u64 (p : Int), .int .u64 (sp : Int)] 63 (0, 0))) := hwa
  rw [← hU] at hbx hgl hB hVw
  have hws : (w.alloc (.cells #[.int .u64 (p : Int), .int .u64 (sp : Int)] 63 (0, 0))).heap.size = U + 1 := by rw [hU]; simp
  obtain ⟨W0, hW0⟩ : ∃ W0, W0 = w.alloc (.cells #[.int .u64 (p : Int), .int .u64 (sp : Int)] 63 (0, 0)) := ⟨_, rfl⟩
  rw [← hW0] at hbx ho1 hwUa hws ⊢
  have hmid0 : MidX X U w W0 := by rw [hW0]; exact (show MidX X U w w from fun _ _ _ => rfl).below ((Below.refl w.heap.size w).alloc (Nat.le_refl _) _) (by omega)
  have HW0 := Lib.hid hW0
  have HU := Lib.hid hU
  have hW0s : U + 1 ≤ W0.heap.size := by omega
  clear hwa Hcol hW0 hws
  rw [← hU]
  clear hU
  go_loopw [5, 14] (fun sv iv wr => ∃ (c : Nat) (A : Option Addr) (ca : Nat) (hs2 : List (Option Addr × Nat)), c ≤ cols M ∧ iv = .int .i64 (c : Int) ∧ sv = .slice A (redTo p M c).2.length ca ∧ Ro wr (U + 1) 3 (.slice A (redTo p M c).2.length ca) (ints (redTo p M c).2) ∧ Own wr B g hs2 (redTo p M c).1 ∧ UBX V X hs2 ∧ Blk wr U 63 [.int .u64 (p : Int), .int .u64 (sp : Int)] ∧ U + 1 ≤ wr.heap.size ∧ Below B w wr ∧ MidX X U w wr) (fun _ iv _ => cols M - (intOf iv).toNat)
  case atStart => exact ⟨0, none, 0, hs, by omega, rfl, rfl, Ro.nil_ _ _ _, ho1, hub, hbx, hW0s, hwUa, hmid0⟩
  case round =>
    clear ho1 hub hbx hwUa hW0s hmid0
    obtain ⟨c, A, ca, hs2, hcn, rfl, rfl, hro, hown, hub, hbx, hUs, hbel, hmid⟩ := hrel
    by_cases hlt : c < cols M
    · obtain ⟨hgood, hlen, hfew⟩ := Hok.out c
      by_cases hfull : (redTo p M c).2.length = (redTo p M c).1.length
      · -- all rows hold a pivot
        have hf := Hfull.out c hfull (cols M - c)
        rw [show c + (cols M - c) = cols M from by omega] at hf
        have hf2 : redN p M = redTo p M c := hf
        have Hf2 := Lib.hid hf2
        have hfl : (redTo p M c).2.length = M.length := by omega
        have t1 : ((((redTo p M c).2.length : Nat) : Int) == (M.length : Int)) = true := by rw [hfl]; simp
        clear hf hf2 hfull hfl
        go_wp2
        rw [Exit.noGoto_ret]
        go_ret
        refine ⟨A, ca, hs2, ?_, ?_, ?_, hub, hbel, hmid⟩
        · rw [Hf2.out]; rfl
        · rw [Hf2.out]; exact hro
        · rw [Hf2.out]; exact hown
      · have hkl : (redTo p M c).2.length < (redTo p M c).1.length := by omega
        obtain ⟨T, hT⟩ : ∃ T, T = redTo p M c := ⟨_, rfl⟩
        have hstep : redTo p M (c + 1) = colStep p c T := by rw [hT]; rfl
        rw [← hT] at hgood hlen hfew hro hown hkl ⊢
        have Hstep := Lib.hid hstep
        have t1 : (((T.2.length : Nat) : Int) == (M.length : Int)) = false := by simp; omega
        have hnz : ∀ i (h : i < T.1.length), c < T.1[i].length := fun i h => by rw [hgood.len h]; exact hlt
        have hgU : g < U := hgl
        cases hpv : piv T.1 c T.2.length with
        | none =>
          have Hl := Lib.hid (lift_none wr B g T.2.length c cap hs2 T.1 hown (by omega) hnz (fun r hr x hx => Nat.lt_trans (hgood.dig r hr x hx) hp) (by omega) hpv)
          rw [hlen] at Hl
          have Hst : Hid (redTo p M (c + 1) = T) := by show _ = _; rw [Hstep.out, colStep_none hpv]
          clear hstep hT hnz hpv hfull
          go_wp2_with (first | (go_at_call 61; (with_reducible refine Hl.out.mono ?_); rintro e w1 ⟨rfl, rfl⟩))
          go_roundw
          case rel => exact ⟨c + 1, A, ca, hs2, by omega, by go_num, by rw [Hst.out], by rw [Hst.out]; exact hro, by rw [Hst.out]; exact hown, hub, hbx, hUs, hbel, hmid⟩
          case measure => simp [intOf]; omega
        | some i0 =>
          obtain ⟨hi1, hi2, hi3⟩ := piv_some hpv
          have Hl := Lib.hid (lift_some wr B g T.2.length c cap i0 hs2 T.1 hown (by omega) hnz (fun r hr x hx => Nat.lt_trans (hgood.dig r hr x hx) hp) (by omega) hpv)
          rw [hlen] at Hl
          obtain ⟨k, hk⟩ : ∃ k, k = T.2.length := ⟨_, rfl⟩
          obtain ⟨N1, hN1⟩ : ∃ N1, N1 = sw [] T.1 i0 k := ⟨_, rfl⟩
          obtain ⟨N2, hN2⟩ : ∃ N2, N2 = unitN p N1 k c := ⟨_, rfl⟩
          obtain ⟨N3, hN3⟩ : ∃ N3, N3 = clearN p N2 k c := ⟨_, rfl⟩
          have Hst : Hid (redTo p M (c + 1) = (N3, T.2 ++ [c])) := by show _ = _; rw [Hstep.out, colStep_some hpv, hN3, hN2, hN1, hk]
          have hkm : k < M.length := by omega
          have hN1l : N1.length = M.length := by rw [hN1, sw_length, hlen]
          have hg1 : Good p (cols M) N1 := by rw [hN1]; exact hgood.sw_ hi2 (by omega)
          have hg2 : Good p (cols M) N2 := by rw [hN2]; exact hg1.unit_ hp0 (by omega) c
          have hN2l : N2.length = M.length := by rw [hN2, unitN_length, hN1l]
          have he1 : ent N1 k c ≠ 0 := by
            have e1 : ent N1 k c = ent T.1 i0 c := by
              have a1 : k < N1.length := by omega
              unfold ent
              rw [getD_at a1, getD_at hi2]
              congr 1
              subst hN1
              rw [sw_at [] T.1 i0 k k hi2 (by omega) (by omega) a1, if_pos rfl]
            rw [e1]; exact hi3
          rw [← hk, ← hN1] at Hl
          clear hstep hT hnz hpv hfull hi3 Hstep hown
          rw [← hk] at hkl t1 hfew
          have Hk := Lib.hid hk
          have HN2 := Lib.hid hN2
          have HN3 := Lib.hid hN3
          have HN1l := Lib.hid hN1l
          have HN2l := Lib.hid hN2l
          have t2 : 0 ≤ (i0 : Int) := by omega
          clear hN1 hN2 hN3 hN1l hN2l hk
          go_upto_region 8 with (go_at_call 61; rw [← Hk.out]; (with_reducible refine Hl.out.mono ?_); rintro e w1 ⟨rfl, hown1, htn1⟩)
          rw [← Hk.out] at hro
          have hgU2 : U ≠ g := by omega
          have hbx1 := hbx.tn htn1 hgU2
          have hmid1 := hmid.tn htn1 hXg (by omega)
          have hub1 : UBX V X (sw (none, 0) hs2 i0 k) := fun x hx => hub x (sw_mem (by have := hown1.len; rw [sw_length, HN1l.out] at this; omega) (by have := hown1.len; rw [sw_length, HN1l.out] at this; omega) hx)
          obtain ⟨hs3, hhs3⟩ : ∃ hs3, hs3 = sw (none, 0) hs2 i0 k := ⟨_, rfl⟩
          rw [← hhs3] at hown1 hub1
          clear hhs3 hub
          have hbel1 : Below B w w1 := hbel.trans (htn1.below hown1.lo (Nat.le_trans hB (by have := hbel.size; rw [← HU.out] at this; omega)))
          have hbel1B : B ≤ w1.heap.size := by have := hbel1.size; rw [← HU.out] at this; omega
          have hU1 : U + 1 ≤ w1.heap.size := Nat.le_trans hUs htn1.size
          have hro1 := hro.tn htn1 (by omega)
          have hk1 : k < N1.length := by rw [HN1l.out]; exact hkm
          have hcl1 : c < N1[k].length := by rw [hg1.len hk1]; exact hlt
          obtain ⟨hhd, hff⟩ := hown1.head hk1
          obtain ⟨gk, restk, e1, h2, h3, h4, h5⟩ := hown1.at_ hk1 hcl1
          rw [e1] at hhd
          rw [hg1.len hk1] at hhd h5
          have hue := ent_at hk1 hcl1
          have c4 : w1.cell? ⟨gk, c, none⟩ = some (.int .u32 (ent N1 k c : Int)) := by
            rw [h4.cell, List.getElem?_append_left (by rw [u32s_length]; exact hcl1), u32s_at hcl1, ← hue]
          have hul := hg1.ent_lt hp0 k c
          have hgkV : gk < V := hub1.ub.at_ (hown1.len ▸ hk1) e1
          have hgkX : ¬ X gk := hub1.at_ (hown1.len ▸ hk1) e1
          have hgkU : gk < U := by omega
          obtain ⟨ck, hck⟩ : ∃ ck, ck = (hs3[k]'(hown1.len ▸ hk1)).2 := ⟨_, rfl⟩
          rw [← hck] at hhd h5
          have c5 := hbx1.cell 0
          have c6 := hbx1.cell 1
          obtain ⟨x0, hx0⟩ : ∃ x0, x0 = ent N1 k c := ⟨_, rfl⟩
          rw [← hx0] at c4 hul he1
          have Hfi : Hid (∀ W, Below w1.heap.size w1 W → Calls Tryd.prog 62 #[fieldV p sp, .int .u32 (x0 : Int)] W fun e w' => e = .returned (.int .u32 (invN p x0 : Int)) ∧ Below W.heap.size W w') := fun W hW => finv_any p sp x0 W hpr hp (Hbw.out W (hbel1.trans (hW.mono hbel1B))) (by rw [Nat.mod_eq_of_lt hul]; exact he1)
          have hvl := invN_lt hp0 x0
          obtain ⟨v0, hv0⟩ : ∃ v0, v0 = invN p x0 := ⟨_, rfl⟩
          rw [← hv0] at Hfi hvl
          have Hx0 := Lib.hid hx0
          have Hv0 := Lib.hid hv0
          have hk3 : k < hs3.length := hown1.len ▸ hk1
          have Hck : Hid (ck = (hs3[k]'hk3).2) := hck
          have He1 : Hid ((hs3[k]'hk3).1 = some ⟨gk, 0, none⟩) := e1
          have H5 := Lib.hid h5
          clear hx0 hv0 hck e1 h5 hue htn1 hro hbx hUs Hl
          go_cut [8] (fun uv wx => uv = .int .u32 (v0 : Int) ∧ Below w1.heap.size w1 wx)
          case first =>
            go_region_held3 (fun W => W.cell? ⟨g, k, none⟩ = some (.slice (some ⟨gk, 0, none⟩) (cols M) ck) ∧ W.cell? ⟨gk, c, none⟩ = some (.int .u32 (x0 : Int)) ∧ W.cell? ⟨U, 0, none⟩ = some (.int .u64 (p : Int)) ∧ W.cell? ⟨U, 1, none⟩ = some (.int .u64 (sp : Int))) (first | exact ⟨hhd, c4, c5, c6⟩ | exact ⟨hhd1.out, c41.out, c51.out, c61.out⟩ | go_keep) (first
              | (go_at_call 62; (with_reducible refine (Hfi.out _ (by first | exact Below.refl _ _ | exact (Below.refl _ _).drew)).mono ?_); rintro e w2 ⟨rfl, hq⟩; have hq2 : Below w1.heap.size w1 w2 := (by first | exact hq | exact (Below.refl _ _).drew.trans hq); clear hq; have hhd1 := Lib.hid ((hq2.cell (p := ⟨g, k, none⟩) (show g < _ by omega)).trans hhd); have c41 := Lib.hid ((hq2.cell (p := ⟨gk, c, none⟩) (show gk < _ by omega)).trans c4); have c51 := Lib.hid ((hq2.cell (p := ⟨U, 0, none⟩) (show U < _ by omega)).trans c5); have c61 := Lib.hid ((hq2.cell (p := ⟨U, 1, none⟩) (show U < _ by omega)).trans c6)))
            all_goals
              go_wp2_with fail
              go_meet
              exact ⟨rfl, by first | exact hq2 | exact hq2.drew⟩
          case rest =>
            obtain ⟨rfl, hq2⟩ := hcut
            have hown2 := hown1.below hq2 (Nat.le_refl _)
            have hbx2 := hbx1.below hq2 (by omega)
            have hro2 := hro1.below hq2 (Nat.le_refl _)
            have hmid2 := hmid1.below hq2 (by omega)
            have hbel2 := hbel1.trans (hq2.mono hbel1B)
            have hU2 : U + 1 ≤ wc.heap.size := Nat.le_trans hU1 hq2.size
            have hhd2 := (hq2.cell (p := ⟨g, k, none⟩) (show g < _ by omega)).trans hhd
            clear hown1 hbx1 hro1 hbel1 hU1 hhd c4 c5 c6 h4 hff Hfi hq2
            obtain ⟨Y, hY⟩ : ∃ Y, Y = N1[k] := ⟨_, rfl⟩
            obtain ⟨Z, hZ⟩ : ∃ Z, Z = scaleR p v0 Y := ⟨_, rfl⟩
            have hYl : Y.length = cols M := by rw [hY]; exact hg1.len hk1
            have hZl : Z.length = Y.length := by rw [hZ]; exact scaleR_length _ _ _
            have hYd : ∀ j (h : j < Y.length), Y[j] < p := fun j h => by subst hY; exact hg1.lt hk1 h
            have hZa : ∀ j (h : j < Y.length) (h2 : j < Z.length), Z[j] = plusN p 0 Y[j] v0 := fun j h h2 => by subst hZ; simp [scaleR]
            have hN2' : N1.set k Z = N2 := by
              rw [HN2.out]; unfold unitN
              rw [getD_at hk1, ← hY, hZ, Hv0.out, Hx0.out]
            have hset0 : N1.set k (mix Z Y 0) = N1 := by rw [mix_zero, hY, List.set_getElem_self]
            have hown2' : Own wc B g hs3 (N1.set k (mix Z Y 0)) := by rw [hset0]; exact hown2
            have hYn : cols M ≤ Y.length := by omega
            have HYl := Lib.hid hYl
            have HZl := Lib.hid hZl
            have HYd : Hid (∀ j (h : j < Y.length), Y[j] < p) := hYd
            have HZa : Hid (∀ j (h : j < Y.length) (h2 : j < Z.length), Z[j] = plusN p 0 Y[j] v0) := hZa
            have HN2' := Lib.hid hN2'
            clear hY hZ hYl hZl hYd hZa hN2' hset0 hown2 HN2
            go_wp2_with fail
            go_loopw [42] (fun jv wr => ∃ (j : Nat), j ≤ cols M ∧ jv = .int .i64 (j : Int) ∧ Own wr B g hs3 (N1.set k (mix Z Y j)) ∧ Ro wr (U + 1) 3 (.slice A k ca) (ints T.2) ∧ Blk wr U 63 [.int .u64 (p : Int), .int .u64 (sp : Int)] ∧ U + 1 ≤ wr.heap.size ∧ Below B w wr ∧ MidX X U w wr) (fun jv _ => cols M - (intOf jv).toNat)
            case atStart => exact ⟨0, by omega, rfl, hown2', hro2, hbx2, hU2, hbel2, hmid2⟩
            case round =>
              clear hown2' hro2 hbx2 hU2 hbel2 hhd2 hmid2
              obtain ⟨j, hj, rfl, hown, hro, hbx, hUs, hbel, hmid⟩ := hrel
              by_cases hjl : j < cols M
              · have hjY : j < Y.length := by omega
                have hjZ : j < Z.length := by rw [HZl.out]; exact hjY
                have hkN : k < (N1.set k (mix Z Y j)).length := by rw [List.length_set]; exact hk1
                have e0 : (N1.set k (mix Z Y j))[k] = mix Z Y j := by simp
                have hml := mix_length HZl.out j
                have hjm : j < (mix Z Y j).length := by rw [hml]; exact hjY
                obtain ⟨hhd, hff⟩ := hown.head hkN
                obtain ⟨gk2, rest2, e2, g2, g3, g4, g5⟩ := hown.at_ hkN (k := j) (by rw [e0]; exact hjm)
                rw [He1.out] at e2 hhd
                obtain rfl : gk = gk2 := by simpa using e2
                rw [e0] at hhd g4 g5
                rw [hml, HYl.out, ← Hck.out] at hhd
                have c1 : wr.cell? ⟨gk, j, none⟩ = some (.int .u32 (Y[j] : Nat)) := by
                  rw [g4.cell, List.getElem?_append_left (by rw [u32s_length]; exact hjm), u32s_at hjm, mix_at HZl.out hjY]
                have f1 := g4.frozen j
                have hyl := HYd.out j hjY
                have hze := HZa.out j hjY hjZ
                obtain ⟨y, hy⟩ : ∃ y, y = Y[j] := ⟨_, rfl⟩
                rw [← hy] at c1 hyl hze
                have Hpl := Lib.hid (fun W => plus0_any p sp y v0 W hp0 hp (by omega) (by omega))
                obtain ⟨z, hz⟩ : ∃ z, z = plusN p 0 y v0 := ⟨_, rfl⟩
                rw [← hz] at hze
                simp only [← hz] at Hpl
                have Hze := Lib.hid hze
                have c5 := hbx.cell 0
                have c6 := hbx.cell 1
                have hgl2 : g < wr.heap.size := by omega
                have hgk2 : gk < wr.heap.size := by omega
                have hUl : U < wr.heap.size := by omega
                have hne1 : ¬ (U = gk) := by omega
                have hne2 : ¬ (gk = U) := by omega
                clear hy hz hze e2
                go_upto_region 12 with (fail)
                go_region_held3 (fun W => W.cell? ⟨g, k, none⟩ = some (.slice (some ⟨gk, 0, none⟩) (cols M) ck) ∧ W.cell? ⟨U, 0, none⟩ = some (.int .u64 (p : Int)) ∧ W.cell? ⟨U, 1, none⟩ = some (.int .u64 (sp : Int))) (first | exact ⟨hhd, c5, c6⟩ | exact ⟨hhd1.out, c51.out, c61.out⟩ | go_keep) (first
                  | (go_at_call 41; (with_reducible refine (Hpl.out _).mono ?_); rintro e w2 ⟨rfl, hq⟩; have hq2 : Below wr.heap.size wr w2 := (by first | exact hq | exact (Below.refl _ _).drew.trans hq); clear hq; have hhd1 := Lib.hid ((hq2.cell (p := ⟨g, k, none⟩) hgl2).trans hhd); have c11 := (hq2.cell (p := ⟨gk, j, none⟩) hgk2).trans c1; have f11 := (hq2.frozen (p := ⟨gk, j, none⟩) hgk2).trans f1; have c51 := Lib.hid ((hq2.cell (p := ⟨U, 0, none⟩) hUl).trans c5); have c61 := Lib.hid ((hq2.cell (p := ⟨U, 1, none⟩) hUl).trans c6)))
                all_goals
                  go_wp2_with fail
                  go_roundw
                  case rel =>
                    have hq := Tn.of_below (g := gk) hq2 (Nat.le_refl _)
                    have htn : Tn gk wr (w2.setCell ⟨gk, j, none⟩ (.int .u32 (z : Int))) := hq.setCell j _
                    have hb9 : Blk (w2.setCell ⟨gk, j, none⟩ (.int .u32 (z : Int))) gk 28 (u32s (mix Z Y (j + 1)) ++ rest2) := by
                      have h7 := (g4.below hq2 hgk2).set_ j (.int .u32 (z : Int))
                      rw [List.set_append_left _ _ (by rw [u32s_length]; exact hjm), u32s_set, ← Hze.out, mix_set HZl.out] at h7
                      rw [← Hze.out]; exact h7
                    have hn := hown.setRow hkN (gi := gk) (r := mix Z Y (j + 1)) (rest := rest2) He1.out htn hb9 (by rw [e0, mix_length HZl.out, hml]) g2 g3 (by rw [e0]; exact g5) (by rw [e0]; intro e; rw [e] at hjm; simp at hjm)
                    rw [List.set_set] at hn
                    exact ⟨j + 1, by omega, by go_num, hn, hro.tn htn (by omega), hbx.tn htn (by omega), by have := htn.size; omega, hbel.trans (htn.below g3 (by omega)), hmid.tn htn hgkX (by omega)⟩
                  case measure => simp [intOf]; omega
              · have hje : j = Y.length := by have := HYl.out; omega
                have hN : Own wr B g hs3 N2 := by
                  rw [hje, mix_all HZl.out, HN2'.out] at hown; exact hown
                have hN3l : N3.length = N2.length := by rw [HN3.out, clearN_length]
                have hN3a : ∀ i (h : i < N2.length) (h2 : i < N3.length), N3[i] = if i = k then N2[k]'(by rw [HN2l.out]; exact hkm) else subN p (ent N2 i c) N2[i] (N2[k]'(by rw [HN2l.out]; exact hkm)) := fun i h h2 => by
                  have e := HN3.out
                  subst e
                  exact clearN_at h (by rw [HN2l.out]; exact hkm) h2
                have HN3l := Lib.hid hN3l
                have HN3a : Hid (∀ i (h : i < N2.length) (h2 : i < N3.length), N3[i] = if i = k then N2[k]'(by rw [HN2l.out]; exact hkm) else subN p (ent N2 i c) N2[i] (N2[k]'(by rw [HN2l.out]; exact hkm))) := hN3a
                have hjn : cols M ≤ j := by omega
                have hown3 : Own wr B g hs3 (mix N3 N2 0) := by rw [mix_zero]; exact hN
                clear hje hN hown hN3l hN3a HZa HYd HZl HYl HN2'
                go_wp2_with fail
                go_loopw [60] (fun iv wr => ∃ (i : Nat), i ≤ M.length ∧ iv = .int .i64 (i : Int) ∧ Own wr B g hs3 (mix N3 N2 i) ∧ Ro wr (U + 1) 3 (.slice A k ca) (ints T.2) ∧ Blk wr U 63 [.int .u64 (p : Int), .int .u64 (sp : Int)] ∧ U + 1 ≤ wr.heap.size ∧ Below B w wr ∧ MidX X U w wr) (fun iv _ => M.length - (intOf iv).toNat)
                case atStart => exact ⟨0, by omega, rfl, hown3, hro, hbx, hUs, hbel, hmid⟩
                case round =>
                  clear hown3 hro hbx hUs hbel hmid
                  obtain ⟨i, hi, rfl, hown, hro, hbx, hUs, hbel, hmid⟩ := hrel
                  have hk2l : k < N2.length := by rw [HN2l.out]; exact hkm
                  have hml := mix_length HN3l.out i
                  by_cases hil : i < M.length
                  · have hi2 : i < N2.length := by rw [HN2l.out]; exact hil
                    have hi3' : i < N3.length := by rw [HN3l.out]; exact hi2
                    have him : i < (mix N3 N2 i).length := by rw [hml]; exact hi2
                    have hkm2 : k < (mix N3 N2 i).length := by rw [hml]; exact hk2l
                    by_cases hik : i = k
                    · have e9 : N3[i] = N2[i] := by rw [HN3a.out i hi2 hi3', if_pos hik]; subst hik; rfl
                      have e8 : mix N3 N2 (i + 1) = mix N3 N2 i := by
                        have e7 := mix_set HN3l.out hi3'
                        rw [← e7, e9]
                        have e6 := mix_at HN3l.out hi2 him
                        rw [← e6, List.set_getElem_self]
                      have t5 : ((i : Int) != (k : Int)) = false := by rw [hik]; simp
                      have H8 := Lib.hid e8
                      clear e9 e8 hik
                      go_wp2_with fail
                      go_roundw
                      case rel => exact ⟨i + 1, by omega, by go_num, by rw [H8.out]; exact hown, hro, hbx, hUs, hbel, hmid⟩
                      case measure => simp [intOf]; omega
                    · have t5 : ((i : Int) != (k : Int)) = true := by simp; omega
                      have ei := mix_at HN3l.out hi2 him
                      have ek := mix_keep HN3l.out hk2l i (by rw [HN3a.out k hk2l (by rw [HN3l.out]; exact hk2l), if_pos rfl]) hkm2
                      have wi : (mix N3 N2 i)[i].length = cols M := by rw [ei]; exact hg2.len hi2
                      have wk : (mix N3 N2 i)[k].length = cols M := by rw [ek]; exact hg2.len hk2l
                      obtain ⟨hdi, _⟩ := hown.head him
                      obtain ⟨hdk, _⟩ := hown.head hkm2
                      obtain ⟨gi, resti, ei1, i2, i3, i4, i5⟩ := hown.at_ him (k := c) (by rw [wi]; exact hlt)
                      obtain ⟨gk2, restk2, ek1, k2, k3, k4, k5⟩ := hown.at_ hkm2 (k := c) (by rw [wk]; exact hlt)
                      have hnek : gi ≠ gk2 := fun e => hown.nd i k him hkm2 hik (fun e => by rw [e] at wi; simp at wi; omega) (fun e => by rw [e] at wk; simp at wk; omega) (by rw [ei1, ek1, e])
                      rw [ei1] at hdi
                      rw [ek1] at hdk
                      rw [wi] at hdi
                      rw [wk] at hdk
                      have hi3l : i < hs3.length := by have := hown.len; omega
                      have hiV : gi < V := hub1.ub.at_ hi3l ei1
                      have hiX : ¬ X gi := hub1.at_ hi3l ei1
                      have hiU : gi < U := by omega
                      obtain ⟨ci, hci⟩ : ∃ ci, ci = (hs3[i]'hi3l).2 := ⟨_, rfl⟩
                      rw [← hci] at hdi i5
                      rw [← Hck.out] at hdk
                      rw [He1.out] at ek1
                      obtain rfl : gk = gk2 := by simpa using ek1
                      have Hnn : Hid ((mix N3 N2 i)[i] ≠ []) := fun e => by rw [e] at wi; simp at wi; omega
                      have Hwi := Lib.hid wi
                      have Hei1 : Hid ((hs3[i]'hi3l).1 = some ⟨gi, 0, none⟩) := ei1
                      have Hi5 := Lib.hid i5
                      have Hci := Lib.hid hci
                      have hwi2 := hg2.len hi2
                      have hwk2 := hg2.len hk2l
                      have hDi : ∀ x ∈ N2[i], x < p := fun x hx => hg2.dig _ (List.getElem_mem hi2) x hx
                      have hDk : ∀ x ∈ N2[k], x < p := fun x hx => hg2.dig _ (List.getElem_mem hk2l) x hx
                      have hent := ent_at (M := N2) hi2 (k := c) (by rw [hwi2]; exact hlt)
                      have hN3i := HN3a.out i hi2 hi3'
                      rw [if_neg hik] at hN3i
                      rw [ei] at i4
                      rw [ek] at k4
                      have Hset := Lib.hid (mix_set HN3l.out hi3')
                      have Hr3l : Hid (N3[i].length = cols M) := by show _ = _; rw [hN3i, subN_length (by rw [hwi2, hwk2]), hwi2]
                      obtain ⟨X, hX⟩ : ∃ X, X = N2[i] := ⟨_, rfl⟩
                      obtain ⟨V, hV⟩ : ∃ V, V = N2[k] := ⟨_, rfl⟩
                      rw [← hX] at i4 hwi2 hDi hN3i
                      rw [← hV] at k4 hwk2 hDk hN3i
                      simp only [← hX] at hent
                      have hcX : c < X.length := by rw [hwi2]; exact hlt
                      have hxl : X[c] < p := hDi _ (List.getElem_mem hcX)
                      have ce : wr.cell? ⟨gi, c, none⟩ = some (.int .u32 (X[c] : Nat)) := by
                        rw [i4.cell, List.getElem?_append_left (by rw [u32s_length]; exact hcX), u32s_at hcX]
                      obtain ⟨x1, hx1⟩ : ∃ x1, x1 = X[c] := ⟨_, rfl⟩
                      rw [← hx1] at ce hxl hent
                      rw [hent] at hN3i
                      have Hsub : Hid (∀ W, Dr wr W → Calls Tryd.prog 63 #[fieldV p sp, .slice (some ⟨gi, 0, none⟩) (cols M) ci, .slice (some ⟨gk, 0, none⟩) (cols M) ck, .int .u32 (x1 : Int)] W fun e w' => e = .returned (.tuple #[]) ∧ Blk w' gi 28 (u32s N3[i] ++ resti) ∧ Tn gi wr w') := fun W hW => by
                        obtain ⟨nd, rfl⟩ := hW
                        have h9 := subtract_any p sp x1 (some ⟨gi, 0, none⟩) (some ⟨gk, 0, none⟩) ci ck X V (wr.drewN nd) hp0 hp hxl (by rw [hwi2, hwk2]) (by rw [hwi2]; omega) (fun x hx => Nat.lt_trans (hDi x hx) hp) (fun x hx => Nat.lt_trans (hDk x hx) hp) gi gk resti restk2 hnek (fun _ => rfl) (fun _ => rfl) (i4.drewN nd) (k4.drewN nd)
                        rw [hwi2, hwk2, ← hN3i] at h9
                        exact h9.mono fun e w' ⟨h1, h2, h3⟩ => ⟨h1, h2, ((Tn.refl gi wr).drewN nd).trans h3⟩
                      have c5 := hbx.cell 0
                      have c6 := hbx.cell 1
                      clear hwi2 hwk2 hDi hDk hent hN3i i4 k4 hX hV hx1 hxl ei ek wi wk ei1 ek1 hci i5 k5 hnek hcX
                      go_upto_region 18 with (fail)
                      go_still_tail 16, (by kernel_rfl)
                      change wpList _ _ _ _ _ wr.drew
                      go_wp2_with (go_at_call 63; (with_reducible refine (Hsub.out wr.drew (Dr.refl _).drew).mono ?_); rintro e w2 ⟨rfl, hb9, htn⟩)
                      go_roundw
                      case rel =>
                        have hn := hown.setRow him (gi := gi) (r := N3[i]) (rest := resti) Hei1.out htn hb9 (by rw [Hr3l.out, Hwi.out]) i2 i3 (by rw [Hwi.out]; have := Hi5.out; rw [Hwi.out] at this; rw [← Hci.out]; exact this) Hnn.out
                        rw [Hset.out] at hn
                        exact ⟨i + 1, by omega, by go_num, hn, hro.tn htn (by omega), hbx.tn htn (by omega), by have := htn.size; omega, hbel.trans (htn.below i3 (by omega)), hmid.tn htn hiX (by omega)⟩
                      case measure => simp [intOf]; omega
                  · have hie : i = N2.length := by have := HN2l.out; omega
                    have hN3o : Own wr B g hs3 N3 := by
                      rw [hie, mix_all HN3l.out] at hown; exact hown
                    have hil2 : M.length ≤ i := by omega
                    clear hie hown
                    obtain ⟨A2, ca2, w3, hrun, hro3, hb3⟩ := app_int wr (U + 1) (.slice A k ca) T.2 c hro hUs (by rw [← Hk.out]; omega)
                    rw [← Hk.out] at hrun hro3
                    have hN3w := hN3o.belowU hub1.ub hgV (hb3.mono (by omega))
                    have hmid3 := hmid.below hb3 (by omega)
                    have hbx3 := hbx.below hb3 (by omega)
                    have hbel3 := hbel.trans (hb3.mono (by omega))
                    have hU3 : U + 1 ≤ w3.heap.size := Nat.le_trans hUs hb3.size
                    have Hrun := Lib.hid hrun
                    have hk1l : Hid ((T.2 ++ [c]).length = k + 1) := by show _ = _; rw [List.length_append, ← Hk.out]; rfl
                    clear hrun hN3o hro hbx hbel hUs hb3
                    go_wp2_with (first | (at_builtin; refine wpList_append_run rfl _ _ _ _ rfl _ _ rfl rfl _ _ Hrun.out ?_))
                    go_roundw
                    case rel => exact ⟨c + 1, A2, ca2, hs3, by omega, by go_num, by rw [Hst.out, hk1l.out], by rw [Hst.out, hk1l.out]; exact hro3, by rw [Hst.out]; exact hN3w, hub1, hbx3, hU3, hbel3, hmid3⟩
                    case measure => simp [intOf]; omega
    · have hce : c = cols M := by omega
      subst hce
      go_wp2
      rw [Exit.noGoto_ret]
      go_ret
      exact ⟨A, ca, hs2, rfl, hro, hown, hub, hbel, hmid⟩

theorem reduce_any (p sp : Nat) (w : World) (V U B g cap : Nat) (hs : List (Option Addr × Nat)) (M : List (List Nat)) (hpr : Pr p) (hp : p < 4294967296) (hw : Bases w) (hG : 0 < B) (ho : Own w B g hs M) (hub : UB V hs) (hgV : g < V) (hVw : V ≤ w.heap.size) (hB : B ≤ w.heap.size) (hU : U = w.heap.size) (hg : Good p (cols M) M) (hm : M.length ≤ 1099511627776) (hc : M.length ≤ cap) (hn : cols M ≤ 70368744177664) :
    Calls Tryd.prog 50 #[fieldV p sp, .slice (some ⟨g, 0, none⟩) M.length cap] w fun e w' => ∃ A' c' hs', e = .returned (.slice A' (redN p M).2.length c') ∧ Ro w' (U + 1) 3 (.slice A' (redN p M).2.length c') (ints (redN p M).2) ∧
      Own w' B g hs' (redN p M).1 ∧ UB V hs' ∧ Below B w w' ∧ Mid V U w w' := by
  refine (reduce_all (fun k => V ≤ k) p sp w V U B g cap hs M hpr hp hw hG ho (fun h hh => ⟨fun a ha => ⟨(hub h hh).1 a ha, Nat.not_le.2 ((hub h hh).1 a ha)⟩, (hub h hh).2⟩) (Nat.not_le.2 hgV) hgV hVw hB hU hg hm hc hn).mono ?_
  rintro e w' ⟨A', c', hs', h1, h2, h3, h4, h5, h6⟩
  exact ⟨A', c', hs', h1, h2, h3, h4.ub, h5, h6⟩
end
end Go.Proofs.YtecdjanopiibcaaDoor
