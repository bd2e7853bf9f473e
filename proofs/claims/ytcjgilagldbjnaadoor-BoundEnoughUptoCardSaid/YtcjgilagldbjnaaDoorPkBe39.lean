/- prime's inverse, Quo and Inv modulo a prime: by Fermat's power. Conditions: p a prime; bases reads 2, 7, 61. The walk of PrimeLaws: true. Conditions: bases reads 2, 7, 61. bound.Enough. Conditions: at most 2^26 limbs, at most 2^20 primes. The contract of the reference's half. Conditions: limbs. The contract of the reference's Len. -/
import Derived.Test.YtcjgilagldbjnaaDoorPkBe38
import Derived.Deep.CutBlock
import Derived.RegionTactic
import Derived.Deep.QuietTactic
import Derived.BigQuiet
import Derived.WalkMore
import Derived.IntWalk
import Derived.Deep.DeepCutAuto
import Derived.Test.YtcjgilagldbjnaaDoorPkBe18
import Derived.Test.YtcjgilagldbjnaaDoorPkBe17
namespace Go.Proofs.YtcjgilagldbjnaaDoor
section
open Go.RowKit

theorem Pr.inv_right {p a : Nat} (hp : Pr p) (ha : ¬ p ∣ a) : a * (a ^ (p - 2) % p) % p = 1 := by
  have h2 := hp.1
  rw [Nat.mul_mod_mod, ← hp.fermat ha]
  congr 1
  rw [Nat.mul_comm, ← Nat.pow_succ]
  congr 1; omega
theorem inv_unique {p a u v : Nat} (hu : a * u % p = 1) (hv : a * v % p = 1) (hlt : v < p) (hul : u < p) : v = u := by
  have h1 : v * (a * u) % p = v := by rw [Nat.mul_mod, hu, Nat.mul_one, Nat.mod_mod, Nat.mod_eq_of_lt hlt]
  have h2 : u * (a * v) % p = u := by rw [Nat.mul_mod, hv, Nat.mul_one, Nat.mod_mod, Nat.mod_eq_of_lt hul]
  exact h1.symm.trans ((congrArg (· % p) (show v * (a * u) = u * (a * v) from by ac_rfl)).trans h2)

/-- What Euclid's steps keep. -/
def Eu (a p r s X Y : Nat) (x y : Int) : Prop :=
  s < r ∧ 1 ≤ s ∧ Nat.gcd r s = 1 ∧ Y * r + X * s = p ∧ ((x = -(X : Int) ∧ y = (Y : Int)) ∨ (x = (X : Int) ∧ y = -(Y : Int))) ∧ (∃ k : Int, (a : Int) * x = r + k * p) ∧ (∃ k : Int, (a : Int) * y = s + k * p)
theorem Eu.start {a p : Nat} (hp : Pr p) (ha : 0 < a) (hap : a < p) : Eu a p p a 0 1 0 1 :=
  ⟨hap, ha, hp.gcd (hp.not_dvd_lt ha hap), by simp, Or.inl ⟨rfl, rfl⟩, ⟨-1, by omega⟩, ⟨0, by omega⟩⟩
theorem Eu.step {a p r s X Y : Nat} {x y : Int} (h : Eu a p r s X Y x y) (hs : s ≠ 1) : Eu a p s (r % s) Y (X + r / s * Y) y (x - ((r / s : Nat) : Int) * y) := by
  obtain ⟨h1, h2, h3, h4, h5, ⟨k, h6⟩, ⟨j, h7⟩⟩ := h
  have hdm := Nat.div_add_mod r s
  have hg : Nat.gcd s (r % s) = 1 := by rw [Nat.gcd_comm, ← Nat.gcd_rec, Nat.gcd_comm]; exact h3
  have hm0 : r % s ≠ 0 := fun h0 => by rw [h0, Nat.gcd_zero_right] at hg; exact hs hg
  have hrI : (r : Int) = s * ((r / s : Nat) : Int) + ((r % s : Nat) : Int) := by rw [← Int.natCast_mul, ← Int.natCast_add, hdm]
  refine ⟨Nat.mod_lt _ (by omega), by omega, hg, ?_, ?_, ⟨j, h7⟩, ⟨k - ((r / s : Nat) : Int) * j, ?_⟩⟩
  · generalize r / s = q at hdm
    generalize r % s = m at hdm
    rw [← h4, ← hdm, Nat.add_mul, Nat.mul_add]
    rw [show q * Y * s = Y * (s * q) from by ac_rfl]
    omega
  · rcases h5 with ⟨rfl, rfl⟩ | ⟨rfl, rfl⟩
    · refine Or.inr ⟨rfl, ?_⟩
      rw [Int.natCast_add, Int.natCast_mul]; omega
    · refine Or.inl ⟨rfl, ?_⟩
      rw [Int.natCast_add, Int.natCast_mul, Int.mul_neg]; omega
  · generalize ((r / s : Nat) : Int) = q at hrI
    generalize ((r % s : Nat) : Int) = m at hrI
    rw [Int.mul_sub, h6, show (a : Int) * (q * y) = q * (a * y) from by ac_rfl, h7, hrI, Int.sub_mul, Int.mul_add, show q * (s : Int) = s * q from Int.mul_comm _ _, Int.mul_assoc]
    omega
theorem Eu.bounds {a p r s X Y : Nat} {x y : Int} (h : Eu a p r s X Y x y) : -(p : Int) ≤ x ∧ x ≤ p ∧ -(p : Int) ≤ y ∧ y ≤ p ∧ r ≤ p + r := by
  obtain ⟨h1, h2, h3, h4, h5, _, _⟩ := h
  have a1 : Y ≤ Y * r := Nat.le_mul_of_pos_right _ (by omega)
  have a2 : X ≤ X * s := Nat.le_mul_of_pos_right _ (by omega)
  rcases h5 with ⟨rfl, rfl⟩ | ⟨rfl, rfl⟩ <;> omega
theorem Eu.last {a p r X Y : Nat} {x y : Int} (h : Eu a p r 1 X Y x y) (hp : Pr p) (ha : ¬ p ∣ a) :
    (0 ≤ y → y = ((a ^ (p - 2) % p : Nat) : Int)) ∧ (y < 0 → y + p = ((a ^ (p - 2) % p : Nat) : Int)) := by
  have h2 := hp.1
  obtain ⟨h1, _, h3, h4, h5, _, ⟨j, h7⟩⟩ := h
  have hY : Y * 2 ≤ Y * r := Nat.mul_le_mul_left _ (by omega)
  have hYp : Y < p := by omega
  have hl : a ^ (p - 2) % p < p := Nat.mod_lt _ hp.pos
  have key : ∀ (v : Nat) (c : Int), (v : Int) = y + c * p → v < p → v = a ^ (p - 2) % p := fun v c hv hvp => by
    refine inv_unique (hp.inv_right ha) ?_ hvp hl
    have : ((a * v : Nat) : Int) = 1 + (j + a * c) * p := by
      rw [Int.natCast_mul, hv, Int.mul_add, h7, Int.add_mul, Int.mul_assoc]; omega
    have h8 : ((a * v % p : Nat) : Int) = 1 := by
      rw [Int.natCast_emod, this, Int.add_mul_emod_self_right, Int.emod_eq_of_lt (by omega) (by omega)]
    omega
  refine ⟨fun hy => ?_, fun hy => ?_⟩
  · have : y.toNat = a ^ (p - 2) % p := key y.toNat 0 (by omega) (by omega)
    omega
  · have : (y + p).toNat = a ^ (p - 2) % p := key (y + p).toNat 1 (by omega) (by omega)
    omega
end
section
open Go.RowKit

theorem Bases.lt {w : World} (h : Bases w) : 0 < w.heap.size := by
  rcases Nat.lt_or_ge 0 w.heap.size with h1 | h1
  · exact h1
  · exfalso
    have h2 := h.1
    simp [World.cell?, Array.getElem?_eq_none h1] at h2
theorem Bases.keep {w w' : World} (h : Bases w) {B : Nat} (hb : Below B w w') (hB : 0 < B) : Bases w' :=
  ⟨(hb.cell (p := ⟨_, 0, none⟩) hB).trans h.1, (hb.cell (p := ⟨_, 1, none⟩) hB).trans h.2.1, (hb.cell (p := ⟨_, 2, none⟩) hB).trans h.2.2⟩
theorem Bases.alloc {w : World} (h : Bases w) (o : Obj) : Bases (w.alloc o) := h.keep ((Below.refl w.heap.size w).alloc (Nat.le_refl _) o) h.lt
end
section
open Go.RowKit Go.Maps
theorem twice_lt9 {n K : Nat} (h : n < 4294967296 ^ K) : n + n < 4294967296 ^ (K + 1) := by
  rw [Nat.pow_succ]
  omega
theorem Rd.grown_map {w w' : World} {B g : Nat} {A : Option Addr} {vs : List Value} {S : List Nat} (h : Rd w B A vs) (hm : Mp w g S) (hg : w.grownBy w' (some g)) : Rd w' B A vs := fun hn => by
  obtain ⟨b, off, e, hb, hc⟩ := h hn
  refine ⟨b, off, e, hb, fun k v hv => hg.cell (hc k v hv) ?_⟩
  intro e2
  injection e2 with e2
  have h1 := hc k v hv
  obtain ⟨D, ⟨es, clock, h2, _⟩, _⟩ := hm
  subst e2
  simp [World.cell?, h2] at h1
theorem Hv.grown_map {w w' : World} {g c n K : Nat} {A : Option Addr} {xs S : List Nat} (h : Hv w A c xs n K) (hm : Mp w g S) (hg : w.grownBy w' (some g)) : Hv w' A c xs n K := ⟨h.dig, h.val_, (h.rd.grown_map hm hg).mono hg.size, h.cap, h.len⟩
theorem below_grown9 {w w' : World} {g B : Nat} (hg : w.grownBy w' (some g)) (hB : B ≤ g) (hs : B ≤ w.heap.size) : Below B w w' := ⟨hg.os, hg.tape, hg.output, hg.size, fun k hk => hg.block k (by omega) (by intro e; injection e with e; omega)⟩
/-- Was the product above t without the last one? -/
def lastB (ps : List Nat) (t : Nat) : Nat → Bool
  | 0 => false
  | k + 1 => decide (t < prodTo9 ps k)
section
variable {w w' : World} {A P : Option Addr} {c cP K ce : Nat} {xs ps : List Nat} {z : Int} {g x y : Bool}
set_option maxHeartbeats 1600000 in
theorem enough_neg (h : Zh w g A c xs z K) (hK : K ≤ 67108864) (hz : z < 0) :
    Calls Tryd.prog 4 #[.agg #[.bool g, .slice A xs.length c], .slice P ps.length cP] w fun e w' => e = .returned (.tuple #[.bool false, .bool false, .int .i64 1]) ∧ Below w.heap.size w w' := by
  have SG : Hid (∀ W (_ : Below w.heap.size w W), Calls Tryd.prog 8 #[.agg #[.bool g, .slice A xs.length c]] W fun e w' => e = .returned (.int .i64 z.sign) ∧ Below W.heap.size W w') := fun W hW => (h.next hW).sign hK
  have k0 := bel_one w (.cells #[.bool g, .slice A xs.length c] 25)
  have b0 := blk_one w (.bool g) (.slice A xs.length c)
  have t1 : z.sign < 0 := Int.sign_neg_iff.2 hz
  clear h
  go_enter Tryd.func4, Tryd.ntmps4
  go_wp2_with fail
  refine (SG.out _ k0).mono ?_
  rintro e w1 ⟨rfl, hb⟩
  have k1 := bst k0 hb (Nat.le_refl _)
  have b1 := b0.below hb b0.lt
  clear hb k0 b0
  go_wp2_with fail
  refine bodyPost_ret (v := .tuple #[.bool false, .bool false, .int .i64 1]) (by simp [results, Tryd.f4]) rfl ?_
  exact ⟨rfl, k1⟩
set_option maxHeartbeats 6400000 in
theorem enough_any (h : Zh w g A c xs z K) (hK : K ≤ 67108862) (hz : 0 ≤ z) (hp : Rd w w.heap.size P (u32s ps)) (hd : ∀ x ∈ ps, x < 4294967296) (hl : ps.length ≤ 1048576) (hw : Bases w) (hE : EnIs ps (z.natAbs + z.natAbs) ce x y) :
    Calls Tryd.prog 4 #[.agg #[.bool g, .slice A xs.length c], .slice P ps.length cP] w fun e w' => e = .returned (.tuple #[.bool x, .bool y, .int .i64 (ce : Int)]) ∧ Below w.heap.size w w' := by
  have SG : Hid (∀ W (_ : Below w.heap.size w W), Calls Tryd.prog 8 #[.agg #[.bool g, .slice A xs.length c]] W fun e w' => e = .returned (.int .i64 z.sign) ∧ Below W.heap.size W w') := fun W hW => (h.next hW).sign (by omega)
  have AD : Hid (∀ W (_ : Below w.heap.size w W), Calls Tryd.prog 9 #[.slice A xs.length c, .slice A xs.length c] W fun e w' => NOut W w' (z.natAbs + z.natAbs) e) := fun W hW => (h.next hW).hv.addN (h.next hW).hv (by omega) (by omega)
  have OF : Hid (∀ W, Calls Tryd.prog 10 #[.int .u64 1] W fun e w' => NOut W w' 1 e) := fun W => of_out 1 (by omega) W
  have HT : Hid (z.natAbs + z.natAbs < 4294967296 ^ (K + 1)) := twice_lt9 h.hv.lt
  have IS : Hid (∀ n : Nat, n < 4294967296 → ∀ W (_ : Below w.heap.size w W), Calls Tryd.prog 11 #[.int .u32 (n : Int)] W fun e w' => e = .returned (.bool (isP n)) ∧ w' = W) := fun n hn W hW => is_all n hn W (hw.keep hW hw.lt)
  have k0 := bel_one w (.cells #[.bool g, .slice A xs.length c] 25)
  have b0 := blk_one w (.bool g) (.slice A xs.length c)
  have t1 : ¬ z < 0 := by omega
  have t2 : ¬ z.sign < 0 := fun h => t1 (Int.sign_neg_iff.1 h)
  obtain ⟨t, ht⟩ : ∃ t, t = z.natAbs + z.natAbs := ⟨_, rfl⟩
  rw [← ht] at AD HT hE
  have HE := Lib.hid hE
  have HP := Lib.hid hp
  have HD := Lib.hid hd
  have hmm := @run_makeMap Tryd.prog
  clear h ht hE hp hd hw hz
  go_enter Tryd.func4, Tryd.ntmps4
  go_wp2_with fail
  refine (SG.out _ k0).mono ?_
  rintro e w1 ⟨rfl, hb⟩
  have k1 := bst k0 hb (Nat.le_refl _)
  have b1 := b0.below hb b0.lt
  obtain ⟨q0, q1, q2, q3⟩ := b1.two
  clear hb k0 b0 SG
  go_wp2_with fail
  refine (AD.out _ k1).mono ?_
  rintro e w2 ⟨ts, At, ct, rfl, hts, hrt, hb⟩
  have k2 := bst k1 hb (Nat.le_refl _)
  clear hb q0 q1 q2 q3 b1
  go_upto_region 5 with fail
  have kA := bel_two w2 (.cells #[.slice At ts.length ct] 37) (.map #[] 0)
  have bT : Blk ((w2.alloc (.cells #[.slice At ts.length ct] 37)).alloc (.map #[] 0)) w2.heap.size 37 [.slice At ts.length ct] := (Blk.new_ rfl).heapAlloc _
  have mM : Mp ((w2.alloc (.cells #[.slice At ts.length ct] 37)).alloc (.map #[] 0)) (w2.heap.size + 1) [] := by
    have h9 := Mp.made (w2.alloc (.cells #[.slice At ts.length ct] 37))
    rwa [World.size_alloc] at h9
  have rT := hrt.rd.below kA
  have k3 := bst k2 kA (Nat.le_refl _)
  have vT : Dig 4294967296 ts ∧ val 4294967296 ts = t ∧ ts.length ≤ ct ∧ ts.length ≤ K + 1 := ⟨hts.1, hts.2.2, by have := hrt.1; rwa [u32s_length] at this, num32_len hts (Nat.le_refl _) HT.out⟩
  obtain ⟨W3, hW3⟩ : ∃ v, v = (w2.alloc (.cells #[.slice At ts.length ct] 37)).alloc (.map #[] 0) := ⟨_, rfl⟩
  rw [← hW3] at bT mM rT k3 ⊢
  have hgw := k2.size
  obtain ⟨gT, hgT⟩ : ∃ gT, gT = w2.heap.size := ⟨_, rfl⟩
  rw [← hgT] at bT mM rT hgw ⊢
  clear hgT hW3 kA hrt k2 k1 hts
  go_wp2_with fail
  refine (OF.out _).mono ?_
  rintro e w4 ⟨os, Ao, co, rfl, hzo, hro, hb⟩
  have bT := bT.below hb bT.lt
  have sM := mM.lt
  have rT := rT.below (hb.mono (by omega))
  have mM := mM.same (hb.block _ sM)
  have k3 := bst k3 hb (Nat.le_refl _)
  have sM := Nat.lt_of_lt_of_le sM hb.size
  have br : Blk (w4.alloc (.cells #[.slice Ao os.length co, .slice none 0 0] 42)) w4.heap.size 42 [.slice Ao os.length co, .slice none 0 0] := Blk.new_ rfl
  have kO := bel_one w4 (.cells #[.slice Ao os.length co, .slice none 0 0] 42)
  have hm : Hv (w4.alloc (.cells #[.slice Ao os.length co, .slice none 0 0] 42)) Ao co os (prodTo9 ps 0) (0 + 1) := (Hv.of hzo hro (by decide)).next kO
  have rw0 : Rw9 (w4.alloc (.cells #[.slice Ao os.length co, .slice none 0 0] 42)) (w4.heap.size + 1) none 0 [] := World.ownsRow_nil _ _ _ _
  have bT := bT.below kO bT.lt
  have rT := rT.below (kO.mono (by omega))
  have mM := mM.same (kO.block _ sM)
  have k3 := bst k3 kO (Nat.le_refl _)
  clear hb hzo hro kO
  go_upto_region 7 with fail
  obtain ⟨W5, hW5⟩ : ∃ v, v = w4.alloc (.cells #[.slice Ao os.length co, .slice none 0 0] 42) := ⟨_, rfl⟩
  rw [← hW5] at br hm rw0 bT rT mM k3 ⊢
  obtain ⟨r, hr⟩ : ∃ r, r = w4.heap.size := ⟨_, rfl⟩
  rw [← hr] at br rw0 sM ⊢
  clear hr hW5 OF AD
  go_wp2_with fail
  go_loopw [10, 11, 12, 13, 14, 30] (fun lv _ _ _ _ iv wr => ∃ (k : Nat) (zs : List Nat) (Am AR : Option Addr) (cm cR : Nat), k ≤ ps.length ∧ lv = .bool (lastB ps t k) ∧ iv = .int .i64 (k : Int) ∧ En ps k ∧ Blk wr r 42 [.slice Am zs.length cm, .slice AR (ps.take k).length cR] ∧ Hv wr Am cm zs (prodTo9 ps k) (k + 1) ∧
      Rw9 wr (r + 1) AR cR (ps.take k) ∧ Blk wr gT 37 [.slice At ts.length ct] ∧ Rd wr gT At (u32s ts) ∧ Mp wr (gT + 1) (ps.take k) ∧ Below w.heap.size w wr) (fun _ _ _ _ _ iv _ => ps.length - (intOf iv).toNat)
  case atStart => exact ⟨0, os, Ao, none, co, 0, Nat.zero_le _, rfl, rfl, En.zero ps, br, hm, rw0, bT, rT, mM, k3⟩
  case round =>
    obtain ⟨k, zs, Am, AR, cm, cR, hk, rfl, rfl, hEn, br9, hm9, hrw9, bT9, rT9, mM9, k9⟩ := hrel
    clear bT rT mM br hm rw0 k3
    obtain ⟨R, hR⟩ : ∃ R, R = ps.take k := ⟨_, rfl⟩
    rw [← hR] at br9 hrw9 mM9
    have hRl : R.length = k := by rw [hR]; simp; omega
    obtain ⟨m, hm⟩ : ∃ m, m = prodTo9 ps k := ⟨_, rfl⟩
    rw [← hm] at hm9
    have HR := Lib.hid hR
    have HRl := Lib.hid hRl
    have Hm := Lib.hid hm
    have HM := Lib.hid hm9
    have HO := Lib.hid hrw9
    have HB := Lib.hid br9
    have HBT := Lib.hid bT9
    have HRT := Lib.hid rT9
    have HMP := Lib.hid mM9
    have HK := Lib.hid k9
    have HEn := Lib.hid hEn
    have VT := Lib.hid vT
    have hrl := br9.lt
    clear hR hRl hm hm9 hrw9 br9 bT9 rT9 mM9 k9 hEn vT
    by_cases hlt : k < ps.length
    · obtain ⟨b, off, rfl, hbw, hx0⟩ := HP.out.at32 hlt
      have hx := (HK.out.cell (p := ⟨b, off + k, none⟩) hbw).trans hx0
      obtain ⟨q, hq⟩ : ∃ q, q = ps[k] := ⟨_, rfl⟩
      have hq32 : q < 4294967296 := by rw [hq]; exact HD.out _ (List.getElem_mem hlt)
      rw [← hq] at hx
      have IQ : Hid (Calls Tryd.prog 11 #[.int .u32 (q : Int)] wr fun e w' => e = .returned (.bool (isP q)) ∧ w' = wr) := IS.out q hq32 wr HK.out
      clear hx0
      by_cases hp : Pr q
      · rw [isP_true hp] at IQ
        obtain ⟨cv, hlook⟩ := HMP.out.look hq32
        by_cases hmem : q ∈ R
        · rw [decide_eq_true hmem] at hlook
          obtain ⟨h40, hx9, hy9⟩ := HE.out.twice hlt HEn.out (hq ▸ hp) (by rw [← HR.out, ← hq]; exact hmem)
          have HLO := Lib.hid hlook
          subst h40 hx9 hy9
          clear hlook hp hmem hq hq32 HD IS HE
          go_wp2_with fail
          refine IQ.out.mono ?_
          rintro e w5 ⟨rfl, rfl⟩
          go_wp2_with (first | (at_lookup; refine wpList_mp_look rfl _ _ _ _ rfl _ _ rfl rfl _ HLO.out ?_))
          refine bodyPost_ret (v := .tuple #[.bool false, .bool false, .int .i64 60]) (by simp [results, Tryd.f4]) rfl ?_
          exact ⟨rfl, HK.out⟩
        · rw [decide_eq_false hmem] at hlook
          have HLO := Lib.hid hlook
          obtain ⟨w5, hput, mM5, hg5⟩ := HMP.out.put (v := (k : Int)) (by rw [HRl.out]; omega) hq32 ⟨by omega, by omega⟩
          have HPU := Lib.hid hput
          have k5 := HK.out.trans (below_grown9 hg5 (by omega) HK.out.size)
          have b5 : Blk w5 r 42 [.slice Am zs.length cm, .slice AR R.length cR] := (hg5.block r hrl (by intro e; injection e with e; omega)).trans HB.out
          have bT5 : Blk w5 gT 37 [.slice At ts.length ct] := (hg5.block gT HBT.out.lt (by intro e; injection e with e; omega)).trans HBT.out
          have m5 := HM.out.grown_map HMP.out hg5
          have rT5 := HRT.out.grown_map HMP.out hg5
          have o5 : Rw9 w5 (r + 1) AR cR R := HO.out.kept hg5 (.inr (fun e => by have := HO.out.lt _ e; omega))
          have AB : Hid (Calls Tryd.prog 12 #[.agg #[.slice Am zs.length cm], .agg #[.slice At ts.length ct]] w5 fun e w' => e = .returned (.bool (decide (t < m))) ∧ Below w5.heap.size w5 w') := above_any m5 (K := k + 1) (J := K + 1) ⟨VT.out.1, VT.out.2.1, rT5.mono (by have := bT5.lt; omega), VT.out.2.2.1, VT.out.2.2.2⟩ (by omega) (by omega)
          have TK : Hid (∀ w6, Below w5.heap.size w5 w6 → Calls Tryd.prog 13 #[.pointer (some ⟨r, 0, none⟩), .int .u32 (q : Int)] w6 fun e w' => ∃ zs A' c' g cp, e = .returned (.tuple #[]) ∧ Blk w' r 42 [.slice A' zs.length c', .slice (some ⟨g, 0, none⟩) (R.length + 1) cp] ∧
              Num 4294967296 zs (m * q) ∧ Res w' (r + 1) 43 A' c' (u32s zs) ∧ Rw9 w' (r + 1) (some ⟨g, 0, none⟩) cp (R ++ [q]) ∧ Below r w6 w') := fun w6 h6 => take_any (K := k + 1) (b5.below h6 b5.lt) (m5.next h6) (by omega) hq32 (o5.kept (row := none) ⟨h6.os, h6.tape, h6.output, h6.size, fun k hk _ => h6.block k hk⟩ (by cases (Value.slice AR R.length cR).ownBlock <;> simp)) (by rw [HRl.out]; omega)
          have T1 : Hid (ps.take (k + 1) = R ++ [q]) := by show _ = _; rw [List.take_succ_eq_append_getElem hlt, HR.out, hq]
          have T2 : Hid (prodTo9 ps (k + 1) = m * q) := by show _ = _; rw [prodTo9, Hm.out, hq, List.getD_eq_getElem?_getD, List.getElem?_eq_getElem hlt]; rfl
          have T3 : Hid (En ps (k + 1)) := HEn.out.next hlt (hq ▸ hp) (by rw [← hq, ← HR.out]; exact hmem)
          have T4 : Hid (m * q < 4294967296 ^ (k + 1 + 1)) := T2.out ▸ prodTo9_lt ps HD.out (k + 1) (by omega)
          have BT := Lib.hid bT5
          have RT := Lib.hid rT5
          have MP5 := Lib.hid mM5
          have K5 := Lib.hid k5
          have s5 : gT + 1 < w5.heap.size := mM5.lt
          have s6 : gT + 1 < r := by omega
          have b55 : Blk w5 r 42 [.slice Am zs.length cm, .slice AR R.length cR] := b5
          obtain ⟨p0, p1, p2, p3⟩ := b5.two
          have p4 := bT5.cell0
          clear hlook hput mM5 hg5 k5 b5 b55 bT5 m5 rT5 o5 hp hmem HO HB HBT HRT HMP HK HM HE IS HD HR hq hq32
          go_wp2_with fail
          refine IQ.out.mono ?_
          rintro e w9 ⟨rfl, rfl⟩
          go_wp2_with (first | (at_lookup; refine wpList_mp_look rfl _ _ _ _ rfl _ _ rfl rfl _ HLO.out ?_) | (at_mapUpdate; refine wpList_mp_put rfl _ _ _ _ rfl _ _ _ rfl rfl rfl _ HPU.out ?_))
          refine AB.out.mono ?_
          rintro e w6 ⟨rfl, h6⟩
          have HBT6 := Lib.hid (BT.out.below h6 BT.out.lt)
          have HRT6 := Lib.hid (RT.out.below (h6.mono (by omega)))
          have HMP6 := Lib.hid (MP5.out.same (h6.block _ s5))
          have HK6 := Lib.hid (bst K5.out h6 (Nat.le_refl _))
          have TK6 := Lib.hid (TK.out w6 h6)
          clear TK AB BT RT MP5 K5 h6 p0 p1 p2 p3 p4
          go_wp2_with fail
          refine TK6.out.mono ?_
          rintro e w7 ⟨zs7, A7, c7, g7, cp7, rfl, b7, hz7, hr7, o7, h7⟩
          have X1 := Lib.hid b7
          have X2 := Lib.hid (Hv.of (K := k + 1 + 1) hz7 hr7 T4.out)
          have X3 := Lib.hid o7
          have X4 := Lib.hid (HBT6.out.below h7 (by omega))
          have X5 := Lib.hid (HRT6.out.below (h7.mono (by omega)))
          have X6 := Lib.hid (HMP6.out.same (h7.block _ (by omega)))
          have X7 := Lib.hid (HK6.out.trans (h7.mono (by omega)))
          clear b7 hz7 hr7 o7 h7 HBT6 HRT6 HMP6 HK6 TK6
          go_wp2_with fail
          go_roundw
          case rel => exact ⟨k + 1, zs7, A7, some ⟨g7, 0, none⟩, c7, cp7, by omega, by rw [Hm.out]; rfl, by go_num, T3.out, by rw [T1.out, List.length_append]; exact X1.out, by rw [T2.out]; exact X2.out, by rw [T1.out]; exact X3.out, X4.out, X5.out, by rw [T1.out]; exact X6.out, X7.out⟩
          case measure => simp [intOf]; omega
      · rw [isP_false hp] at IQ
        obtain ⟨h40, hx9, hy9⟩ := HE.out.none hlt HEn.out (hq ▸ hp)
        subst h40 hx9 hy9
        clear hp hq hq32 HD IS HE
        go_wp2_with fail
        refine IQ.out.mono ?_
        rintro e w5 ⟨rfl, rfl⟩
        go_wp2_with fail
        refine bodyPost_ret (v := .tuple #[.bool false, .bool false, .int .i64 40]) (by simp [results, Tryd.f4]) rfl ?_
        exact ⟨rfl, HK.out⟩
    · obtain rfl : k = ps.length := by omega
      obtain ⟨h0, hx9, hy9⟩ := HE.out.fine HEn.out
      have AB : Hid (Calls Tryd.prog 12 #[.agg #[.slice Am zs.length cm], .agg #[.slice At ts.length ct]] wr fun e w' => e = .returned (.bool (decide (t < m))) ∧ Below wr.heap.size wr w') := above_any HM.out (J := K + 1) ⟨VT.out.1, VT.out.2.1, HRT.out.mono (by have := HBT.out.lt; omega), VT.out.2.2.1, VT.out.2.2.2⟩ (by omega) (by omega)
      have hxm : decide (t < m) = x := by rw [hx9, Hm.out]
      have hym : (!lastB ps t ps.length) = y := by
        rw [hy9]
        cases hps : ps.length with
        | zero => simp [lastB]
        | succ n =>
          show (!decide (t < prodTo9 ps n)) = (decide (n + 1 = 0) || decide (prodTo9 ps n ≤ t))
          rw [decide_eq_false (by omega : ¬ n + 1 = 0), Bool.false_or, ← decide_not]
          exact decide_eq_decide.2 Nat.not_lt
      rw [hxm] at AB
      obtain ⟨lb, hlb⟩ : ∃ lb, lb = lastB ps t ps.length := ⟨_, rfl⟩
      rw [← hlb] at hym ⊢
      subst h0
      obtain ⟨p0, p1, p2, p3⟩ := HB.out.two
      have p4 := HBT.out.cell0
      clear hxm hx9 hy9 hlb HE IS HD HR HM HO HB HBT HRT HMP HEn VT Hm HRl hlt hk
      go_wp2_with fail
      refine AB.out.mono ?_
      rintro e w6 ⟨rfl, h6⟩
      have HK6 := Lib.hid (bst HK.out h6 (Nat.le_refl _))
      have HY := Lib.hid hym
      clear h6 hym p0 p1 p2 p3 p4
      go_wp2_with fail
      refine bodyPost_ret (v := .tuple #[.bool x, .bool y, .int .i64 0]) (by simp [results, Tryd.f4, HY.out]) rfl ?_
      exact ⟨rfl, HK6.out⟩
end
end
section
open Go.RowKit

def Halved (xs : List Nat) (k : Nat) (zs : List Nat) : Prop :=
  Dig 4294967296 zs ∧ 2 * val 4294967296 zs + at0 xs 0 % 2 = val 4294967296 (xs.take k) + 4294967296 ^ k * (at0 xs k % 2) ∧ ∀ j (h : j < zs.length), k ≤ j → zs[j] = 0
theorem Halved.start (xs : List Nat) (n : Nat) : Halved xs 0 (List.replicate n 0) :=
  ⟨Dig.zeros_ (by omega) _, by simp [val_zeros, val], fun j h _ => by simp⟩
theorem Halved.step {xs zs : List Nat} {k v : Nat} (h : Halved xs k zs) (hz : k < zs.length) (hd : Dig 4294967296 xs) (hv : v = at0 xs k / 2 + at0 xs (k + 1) % 2 * 2147483648) : Halved xs (k + 1) (zs.set k v) := by
  obtain ⟨h1, h2, h3⟩ := h
  have ha := at0_lt hd k
  refine ⟨h1.set_ _ _ (by omega), ?_, fun i hi hki => ?_⟩
  · have e1 := val_set 4294967296 zs k v hz
    rw [h3 k hz (Nat.le_refl _)] at e1
    rw [val_take_at0, Nat.pow_succ, Nat.mul_assoc]
    have e2 : 2 * v + at0 xs k % 2 = at0 xs k + 4294967296 * (at0 xs (k + 1) % 2) := by omega
    have e3 : 4294967296 ^ k * (2 * v + at0 xs k % 2) = 4294967296 ^ k * (at0 xs k + 4294967296 * (at0 xs (k + 1) % 2)) := by rw [e2]
    rw [Nat.mul_add, Nat.mul_add, Nat.mul_left_comm] at e3
    omega
  · rw [List.getElem_set, if_neg (by omega)]
    exact h3 i (by simpa using hi) (by omega)
theorem Halved.last {xs zs : List Nat} (h : Halved xs xs.length zs) : val 4294967296 zs = val 4294967296 xs / 2 := by
  have h2 := h.2.1
  rw [List.take_length, at0_out (Nat.le_refl _)] at h2
  have : at0 xs 0 % 2 < 2 := Nat.mod_lt _ (by omega)
  omega
end
section
open Go.RowKit
end
end Go.Proofs.YtcjgilagldbjnaaDoor
