/- The reckoner: a region that draws its order. No conditions. -/
import Derived.Test.YtadpelhmjmamnaaGreatDoorEvPH
namespace Go.Proofs.YtadpelhmjmamnaaGreatDoor.Ev
open Go Go.RowKit

section
variable {P : Program} {G : Nat} {call : CallT} {yld : YldT} {ops : Array Oper} {H1 : HP} {T1 Tf : PT Value} {N1 Nf : Nat} {rs : List HRec} {ρ1 : Env} {w1 : World} {a1 : Act}
/-- The head comes up, in whatever order; then the tail. -/
theorem head_all (hc : CallOk P G call) (hy : YldOk P G yld) (hS : Sat P ρ1 H1 w1) (hN1 : ∀ n b, H1.get n = some b → n < N1) (hG : Glob G ρ1) (hDm : Dom ρ1 N1) (hT : TR ρ1 T1 a1.tmps)
    (hch : Chain P G call yld ops H1 T1 N1 [] rs Tf Nf) (hrs : rs.map (·.o) = ops.toList.take rs.length) (hm : rs.map (·.m) = (ancs ops.toList).take rs.length) (hD : dsts1B (ops.toList.take rs.length) = true) (hE : edges1B (ops.toList.take rs.length) 0 = true) (hL : looksB ops (ops.toList.take rs.length) = true)
    (hn : rs.length ≤ ops.size) (hanc : ∀ i, rs.length ≤ i → i < ops.size → ∀ j, j < rs.length → ((ancs ops.toList).getD i []).getD j false = true) (hseq : seq1B ops (ops.size - rs.length) rs.length (endA ops.size rs.length) = true)
    (ro : Option Nat) (m : Nat) (Q : Exit → Act → World → Prop)
    (hend : ∀ a w ρ D, HInv P ops rs ρ1 N1 Nf a1 w1 (endA ops.size rs.length) a w ρ D → wpOpsIn (fe ro) m P ops Q (List.range' rs.length (ops.size - rs.length)) a w) :
    ∀ k fuel ls a w ρ D, HInv P ops rs ρ1 N1 Nf a1 w1 ls a w ρ D → openC ls rs.length = k → fuel = ops.size - rs.length + k → wpAnyIn (fe ro) m P .any ops Q fuel ls a w
  | 0, fuel, ls, a, w, ρ, D, I, hk, hfu => by
    obtain rfl : ls = endA ops.size rs.length := endA_eq I.size (openC_zero _ hk) I.tail
    rw [hfu, Nat.add_zero]
    exact tail_any _ _ _ a w hseq (hend a w ρ D I)
  | k + 1, fuel, ls, a, w, ρ, D, I, hk, hfu => by
    obtain ⟨f, rfl⟩ : ∃ f, fuel = f + 1 := ⟨ops.size - rs.length + k, by omega⟩
    obtain ⟨j, hj, hun, hbef⟩ := openC_first rs.length (by omega : openC ls rs.length ≠ 0)
    have hsz := I.size
    have hjr : j ∈ Region.ready .any ops ls := by
      have hjo : j < ops.size := by omega
      refine mem_ready.2 ⟨hun, ops[j], Array.getElem?_eq_getElem hjo, fun e he hb => ?_⟩
      have h1 := edges1_spec _ 0 j ops[j] e hE (by
        rw [List.getElem?_take_of_lt hj, Array.getElem?_toList]; exact Array.getElem?_eq_getElem hjo) he hb
      exact getD_true (by omega) (hbef e.on (by omega))
    refine ⟨fun h0 => (by rw [h0] at hjr; cases hjr), fun i hi => ?_⟩
    have hir : i < rs.length := by
      rcases Nat.lt_or_ge i rs.length with h | h
      · exact h
      · obtain ⟨hui, o, ho, _⟩ := mem_ready.1 hi
        have hio : i < ops.size := (Array.getElem?_eq_some_iff.1 ho).1
        have := ready_anc I.closed hi (hanc i h hio j hj)
        rw [getD_both hun] at this
        cases this
    have hui : ls.getD i true = false := (mem_ready.1 hi).1
    refine head_step hc hy hS hN1 hG hDm hT hch hrs hm hD hE hL I hir hi ro m Q _ (fun a' w' ρ' D' I' => ?_)
    have ho := openC_set hui (getD_size' hui) rs.length hir
    exact head_all hc hy hS hN1 hG hDm hT hch hrs hm hD hE hL hn hanc hseq ro m Q hend k f _ a' w' ρ' D' I' (by omega) (by omega)
end

section
variable {P : Program} {G : Nat} {call : CallT} {yld : YldT} {ops : Array Oper}
theorem drawF_run {okTail : Array Oper → Nat → Bool} {T0 : PT Value} {H0 : HP} {N0 lo : Nat} {D : List DE} {r : Ex × St} (h : (drawF P G okTail ops).run call yld T0 H0 N0 lo D = .ok r) :
    headF call yld (fun tail T N ds =>
      Bool.rec (motive := fun _ => RX) (behind P G call yld ops T0 N0 T H0 N lo D ds)
        (List.rec (motive := fun _ => HP → RX) (fun H => Option.rec (motive := fun _ => RX)
          (.ok (.normal, ⟨T, H, N, lo, D⟩))
          (fun tail => OpsC.rec (motive := fun _ => RX) (fun r => r call yld T H N lo D) tail) tail) (fun d _ ih H => addX d H ih) ds H0)
        (drawB okTail ops ds.length)) H0 (headI P G ops ops.toList (ancs ops.toList)) T0 N0 [] = .ok r := by
  unfold drawF at h
  revert h
  generalize headI P G ops ops.toList (ancs ops.toList) = L
  intro h
  cases L with
  | nil => cases h
  | cons h hs => exact h
theorem seq_full {ops : Array Oper} : (Region.ready .any ops (endA ops.size ops.size)).isEmpty = true := by
  cases hr : Region.ready .any ops (endA ops.size ops.size) with
  | nil => rfl
  | cons i is =>
    exfalso
    have hi : i ∈ Region.ready .any ops (endA ops.size ops.size) := by rw [hr]; exact List.mem_cons_self
    obtain ⟨hui, o, ho, _⟩ := mem_ready.1 hi
    have hio : i < ops.size := (Array.getElem?_eq_some_iff.1 ho).1
    unfold endA at hui
    simp [Array.getD_eq_getD_getElem?, hio] at hui
theorem behind_inv {TS T : PT Value} {H : HP} {NS N lo : Nat} {D : List DE} {ds : List (List (Nat × AB))} {x : Ex} {s' : St} (h : behind P G call yld ops TS NS T H N lo D ds = .ok (x, s')) :
    oneW P G call yld ops ds.length TS H NS lo D = .ok (x, s') ∨ ∃ H' on rest x1 T1 H1 N1 lo1 D1, (∀ n b, H'.get n = some b → (∃ d ∈ ds, (n, b) ∈ d) ∨ H.get n = some b) ∧ ops.toList.drop ds.length = on :: rest ∧ dsts1B (ops.toList.take ds.length) = true ∧ edges1B (ops.toList.take ds.length) 0 = true ∧ looksB ops (ops.toList.take ds.length) = true ∧ okF ops ds.length = true ∧ noneB ds (floats ops ds.length) = true ∧
      (opsF P G ops [on]).run call yld T H' N lo D = .ok (x1, ⟨T1, H1, N1, lo1, D1⟩) ∧ chkF P G call yld ops T H' N (floats ops ds.length) = true ∧ chkF P G call yld ops T1 H1 N1 (floats ops ds.length) = true ∧ (opsF P G ops rest).run call yld T1 H1 N1 lo1 D1 = .ok (x, s') := by
  unfold behind at h
  rw [forceN_eq] at h
  cases hb : drawFB ops ds.length with
  | false => rw [hb] at h; exact .inl h
  | true =>
    rw [hb] at h
    right
    cases hn : noneB ds (floats ops ds.length) with
    | false => rw [hn] at h; cases h
    | true =>
      rw [hn] at h
      obtain ⟨H', h1, h2⟩ := addXs_spec _ H h
      unfold floatF at h1
      split at h1
      · cases h1
      · rename_i on rest hdrop
        have h3 : Bool.rec (motive := fun _ => RX) (.bad 251) (Rs.rec (motive := fun _ => RX) (fun e => .bad e) (fun p => Prod.rec (motive := fun _ => RX) (fun _ s => St.rec (motive := fun _ => RX) (fun T1 H1 N1 lo1 D1 =>
          Bool.rec (motive := fun _ => RX) (.bad 252) ((opsF P G ops rest).run call yld T1 H1 N1 lo1 D1) (chkF P G call yld ops T1 H1 N1 (floats ops ds.length))) s) p) ((opsF P G ops [on]).run call yld T H' N lo D)) (chkF P G call yld ops T H' N (floats ops ds.length)) = .ok (x, s') := h1
        cases hc0 : chkF P G call yld ops T H' N (floats ops ds.length) with
        | false => rw [hc0] at h3; cases h3
        | true =>
          rw [hc0] at h3
          cases hr : (opsF P G ops [on]).run call yld T H' N lo D with
          | bad e => rw [hr] at h3; cases h3
          | ok p =>
            obtain ⟨x1, T1, H1, N1, lo1, D1⟩ := p
            rw [hr] at h3
            have h4 : Bool.rec (motive := fun _ => RX) (.bad 252) ((opsF P G ops rest).run call yld T1 H1 N1 lo1 D1) (chkF P G call yld ops T1 H1 N1 (floats ops ds.length)) = .ok (x, s') := h3
            cases hc1 : chkF P G call yld ops T1 H1 N1 (floats ops ds.length) with
            | false => rw [hc1] at h4; cases h4
            | true =>
              rw [hc1] at h4
              unfold drawFB at hb
              simp only [Bool.and_eq_true] at hb
              exact ⟨H', on, rest, x1, T1, H1, N1, lo1, D1, h2, hdrop, hb.1.1.1, hb.1.1.2, hb.1.2, hb.2, rfl, hr, hc0, hc1, h4⟩
theorem noneB_inv {ds : List (List (Nat × AB))} {fl : List Nat} (h : noneB ds fl = true) {j : Nat} (hj : j ∈ fl) : ds[j]? = some [] := by
  have h1 := List.all_eq_true.1 h j hj
  split at h1
  · rename_i h2; exact h2
  · cases h1
/-- **A region that draws its order.** -/
theorem drawF_sound (hmix : P.follows .mixedOrders = true) (hc : CallOk P G call) (hy : YldOk P G yld) {id : Nat} {T : PT Value} {H : HP} {N lo : Nat} {D : List DE} {x : Ex} {s' : St} (h : (drawF P G okT ops).run call yld T H N lo D = .ok (x, s')) :
    x = .normal ∧ N ≤ s'.N ∧ ∀ ρ0 N0 w0, Free ρ0 N0 s'.N → Glob G ρ0 → ∀ a w ρ, Inv P ρ0 N0 w0 T H N lo D a w ρ → ∀ ro m Q, (∀ a' w' ρ', Inv P ρ0 N0 w0 s'.T s'.H s'.N s'.lo s'.D a' w' ρ' → Q .normal a' w') → (Code.region id ops true).wpIn (fe ro) m P Q a w := by
  have h1 := drawF_run h
  obtain ⟨rs, rest, Tf, Nf, e1, e2, hch, e4⟩ := headF_inv ops.toList (ancs ops.toList) T N [] (ancs_length _) h1
  simp only [List.nil_append, List.length_map] at e4
  have fl : behind P G call yld ops T N Tf H Nf lo D (rs.map (·.d)) = .ok (x, s') → x = .normal ∧ N ≤ s'.N ∧ ∀ ρ0 N0 w0, Free ρ0 N0 s'.N → Glob G ρ0 → ∀ a w ρ, Inv P ρ0 N0 w0 T H N lo D a w ρ → ∀ ro m Q, (∀ a' w' ρ', Inv P ρ0 N0 w0 s'.T s'.H s'.N s'.lo s'.D a' w' ρ' → Q .normal a' w') → (Code.region id ops true).wpIn (fe ro) m P Q a w := fun hbe => by
    rcases behind_inv hbe with h1w | ⟨H', on, rest2, x1, T1, H1, N1, lo1, D1, b1, b2, b3, b4, b5, b6, b7, b8, b9, b10, b11⟩
    · obtain ⟨hx, hle, hw⟩ := oneW_sound hc hy h1w
      exact ⟨hx, hle, fun ρ0 N0 w0 hF hG a w ρ I ro m Q hQ => wpIn_region_any hmix (hw ρ0 N0 w0 hF hG a _ ρ ⟨I.wr.drew, I.tr, I.le, I.dd, I.dom⟩ ro m Q hQ)⟩
    rw [List.length_map] at b2 b3 b4 b5 b6 b7 b9 b10
    obtain ⟨on', F⟩ := FForm.of b6
    have hon : ops[rs.length]? = some on := by
      rw [← Array.getElem?_toList]
      have := congrArg (fun l : List Oper => l[0]?) b2
      simpa using this
    have e' := F.at_
    rw [hon] at e'
    cases e'
    have hlt := F.lt
    have hrest2 : rest2 = ops.toList.drop (rs.length + 1) := by
      have := congrArg (List.drop 1) b2
      rw [List.drop_drop] at this
      simpa using this.symm
    have hrs : rs.map (·.o) = ops.toList.take rs.length := by
      rw [e1]
      exact (List.take_left' (by simp)).symm
    have hle := hch.le
    have hidx1 : Idx ops [rs.length] [on] := ⟨hon, trivial⟩
    obtain ⟨_, hN1, _⟩ := opsF_sound hc hy [on] [rs.length] hidx1 Tf H' Nf lo D x1 _ b8
    obtain ⟨hx, hN', htail⟩ := opsF_sound hc hy rest2 (List.range' (rs.length + 1) (ops.size - (rs.length + 1))) (by
      rw [hrest2]; exact idx_range ops _ _ (by omega)) T1 H1 N1 lo1 D1 x s' b11
    have hN1' : Nf ≤ N1 := hN1
    refine ⟨hx, by omega, fun ρ0 N0 w0 hF hG a w ρ I ro m Q hQ => ?_⟩
    refine wpIn_region_any hmix ?_
    have I1 : Inv P ρ0 N0 w0 T H N lo D a { w with drawn := w.drawn + 1 } ρ := ⟨I.wr.drew, I.tr, I.le, I.dd, I.dom⟩
    have hF1 : Free ρ N Nf := I.free hF (by omega)
    have hno : ∀ i, ¬ (Array.replicate ops.size false).getD i false = true := fun i h => by
      simp [Array.getD_eq_getD_getElem?] at h
      rcases Nat.lt_or_ge i ops.size with hi | hi
      · simp [hi] at h
      · simp [Nat.not_lt.2 hi] at h
    refine stage0 F hc hy hG I1 hF1 hch hrs e2 b3 b4 b5 (fun j r hr ha => ?_) b1 b9 b10 b8 hF hN' ro m Q (fun a' w' ρ' I' => htail ρ0 N0 w0 hF hG a' w' ρ' I' ro m Q hQ) rs.length ops.size _ a _ ρ []
      ⟨.none hF1, fun i r p h => absurd h (hno i), fun i r p h => absurd h (hno i), fun i r p h => absurd h (hno i), fun i r _ hr n h1 h2 => ?_, rfl, fun t _ => rfl, fun i r t h => absurd h (hno i), fun i j h => absurd h (hno i), by simp, fun i h1 h2 => by simp [Array.getD_eq_getD_getElem?, h2]⟩
      (openC_new _ _ (by omega)) (by omega)
    · have hj : j < rs.length := (List.getElem?_eq_some_iff.1 hr).1
      have := noneB_inv b7 (mem_floats.2 ⟨hj, ha⟩)
      rw [List.getElem?_map, hr] at this
      exact Option.some.inj this
    · obtain ⟨_, c2, _, c4, _⟩ := hch.at i r hr
      exact hF1 n (by omega) (by omega)
  cases hb : drawB okT ops rs.length with
  | false => exact fl (by rcases e4 with ⟨_, h2⟩ | ⟨_, h2⟩ <;> (rw [hb] at h2; exact h2))
  | true =>
  have hlen : rs.length + rest.length = ops.size := by
    have := congrArg List.length e1
    rw [List.length_append, List.length_map, Array.length_toList] at this
    exact this.symm
  have hrs : rs.map (·.o) = ops.toList.take rs.length := by
    rw [e1]
    exact (List.take_left' (by simp)).symm
  have hrest : rest = ops.toList.drop rs.length := by
    rw [e1]
    exact (List.drop_left' (by simp)).symm
  have hle := hch.le
  -- what stands from the head on
  have key : ∃ H', dsts1B (ops.toList.take rs.length) = true ∧ edges1B (ops.toList.take rs.length) 0 = true ∧ looksB ops (ops.toList.take rs.length) = true ∧
      (∀ i, rs.length ≤ i → i < ops.size → ∀ j, j < rs.length → ((ancs ops.toList).getD i []).getD j false = true) ∧ seq1B ops (ops.size - rs.length) rs.length (endA ops.size rs.length) = true ∧
      (∀ n b, H'.get n = some b → (∃ d ∈ rs.map (·.d), (n, b) ∈ d) ∨ H.get n = some b) ∧ (opsF P G ops rest).run call yld Tf H' Nf lo D = .ok (x, s') := by
    have form : drawB okT ops rs.length = true → dsts1B (ops.toList.take rs.length) = true ∧ edges1B (ops.toList.take rs.length) 0 = true ∧ looksB ops (ops.toList.take rs.length) = true ∧
        (∀ i, rs.length ≤ i → i < ops.size → ∀ j, j < rs.length → ((ancs ops.toList).getD i []).getD j false = true) ∧ seq1B ops (ops.size - rs.length) rs.length (endA ops.size rs.length) = true := fun hb => by
      unfold drawB at hb
      simp only [Bool.and_eq_true, Bool.or_eq_true] at hb
      obtain ⟨⟨⟨b1, b2⟩, b3⟩, b4⟩ := hb
      refine ⟨b1, b2, b3, ?_⟩
      rcases b4 with b4 | b4
      · have he : rs.length = ops.size := by
          have := Nat.eq_of_beq_eq_true b4
          rwa [Array.length_toList] at this
        refine ⟨fun i h1 h2 => by omega, ?_⟩
        rw [he, Nat.sub_self]
        exact seq_full
      · unfold okT at b4
        simp only [Bool.and_eq_true] at b4
        refine ⟨fun i h1 h2 j hj => ?_, b4.2⟩
        have h3 := List.all_eq_true.1 b4.1 i (by rw [List.mem_range', Array.length_toList]; exact ⟨i - rs.length, by omega, by omega⟩)
        exact List.all_eq_true.1 h3 j (List.mem_range.2 hj)
    rcases e4 with ⟨rfl, h2⟩ | ⟨_, h2⟩
    · rw [hb] at h2
      obtain ⟨H', h3, h4⟩ := addXs_spec _ H h2
      obtain ⟨f1, f2, f3, f4, f5⟩ := form hb
      exact ⟨H', f1, f2, f3, f4, f5, h4, h3⟩
    · rw [hb] at h2
      obtain ⟨H', h3, h4⟩ := addXs_spec _ H h2
      obtain ⟨f1, f2, f3, f4, f5⟩ := form hb
      exact ⟨H', f1, f2, f3, f4, f5, h4, h3⟩
  obtain ⟨H', hD, hE, hL, hanc, hseq, hH', hrun⟩ := key
  obtain ⟨hx, hN', htail⟩ := opsF_sound hc hy rest (List.range' rs.length (ops.size - rs.length)) (by
    rw [hrest]; exact idx_range ops _ _ (by omega)) Tf H' Nf lo D x s' hrun
  refine ⟨hx, Nat.le_trans hle hN', fun ρ0 N0 w0 hF hG a w ρ I ro m Q hQ => ?_⟩
  refine wpIn_region_any hmix ?_
  have I1 : Inv P ρ0 N0 w0 T H N lo D a { w with drawn := w.drawn + 1 } ρ := ⟨I.wr.drew, I.tr, I.le, I.dd, I.dom⟩
  have hF1 : Free ρ N Nf := I.free hF hN'
  have hno : ∀ i, ¬ (Array.replicate ops.size false).getD i false = true := fun i h => by
    simp [Array.getD_eq_getD_getElem?] at h
    rcases Nat.lt_or_ge i ops.size with hi | hi
    · simp [hi] at h
    · simp [Nat.not_lt.2 hi] at h
  refine head_all hc hy I1.wr.sat I1.wr.named (hG.mono I1.wr.ext) I1.dom I1.tr hch hrs e2 hD hE hL (by omega) hanc hseq ro m Q (fun a' w' ρ' D' hi => ?_) rs.length ops.size _ a _ ρ []
    ⟨.none hF1, fun i r p h => absurd h (hno i), fun i r p h => absurd h (hno i), fun i r p h => absurd h (hno i), fun i r _ hr n h1 h2 => ?_, rfl, fun t _ => rfl, fun i r t h => absurd h (hno i), fun i j h => absurd h (hno i), by simp, fun i h1 h2 => by simp [Array.getD_eq_getD_getElem?, h2]⟩
    (openC_new _ _ (by omega)) (by omega)
  · have hdone : ∀ j r, rs[j]? = some r → (endA ops.size rs.length).getD j false = true := fun j r hr => by
      have hj : j < rs.length := (List.getElem?_eq_some_iff.1 hr).1
      have hjo : j < ops.size := by omega
      unfold endA
      simp [Array.getD_eq_getD_getElem?, hjo, hj]
    refine htail ρ0 N0 w0 hF hG a' w' ρ' (I1.grew hi.grew hF1 hle (fun n b hn => ?_) (fun t v hv => ?_) hi.dfr) ro m Q hQ
    · rcases hH' n b hn with ⟨d, g1, g2⟩ | g
      · obtain ⟨r, hr, rfl⟩ := List.mem_map.1 g1
        obtain ⟨j, hj⟩ := List.getElem?_of_mem hr
        exact .inl (hi.cov j r _ (hdone j r hj) hj g2)
      · exact .inr g
    · rcases hch.fin t v hv with ⟨j, r, g1, g2, rfl⟩ | ⟨g1, g2⟩
      · obtain ⟨y, hy1, hy2⟩ := hi.got j r t (hdone j r g1) g1 g2
        exact ⟨y, hy1, hy2.mono (cut_ext _ _)⟩
      · obtain ⟨y, hy1, hy2⟩ := I1.tr t v g2
        refine ⟨y, ?_, hy2.mono hi.grew.ext⟩
        rw [hi.old t (fun i r _ hr => g1 i r hr)]
        exact hy1
  · obtain ⟨_, c2, _, c4, _⟩ := hch.at i r hr
    exact hF1 n (by omega) (by omega)
end
end Go.Proofs.YtadpelhmjmamnaaGreatDoor.Ev
