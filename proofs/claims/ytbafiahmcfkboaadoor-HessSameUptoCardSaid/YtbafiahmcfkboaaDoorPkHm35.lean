/- The contract of hess.Char, over a contract of modpoly.Normal. Conditions: bases reads 2, 7, 61; the sizes. Polynomials with integer coefficients by their values, and when they are one modulo p. No conditions. Polynomials modulo a prime: degrees, what division tells, greatest common divisors. Conditions: p a prime. Values and roots of polynomials modulo a prime. Conditions: p a prime. -/
import Derived.Test.YtbafiahmcfkboaaDoorPkHm34
import Derived.Test.YtbafiahmcfkboaaDoorPkHm29
import Derived.Test.YtbafiahmcfkboaaDoorPkHm11
import Derived.Test.YtbafiahmcfkboaaDoorPkHm12
namespace Go.Proofs.YtbafiahmcfkboaaDoor
section
open Go.RowKit

set_option maxRecDepth 20000 in
set_option maxHeartbeats 6400000 in
theorem hChar_ok (A : Option Addr) (c p : Nat) (M : List (List Nat)) (w : World) (hp : p < 4294967296) (hw : Bases w) (hG : 0 < w.heap.size) (hr : RdM w w.heap.size A M) (hm : M.length ≤ 1048576) (hd : DigM 4294967296 M) (hk : Ft p M 0) (r : List Nat)
    (hnm : ∀ (W : World) (A' : Option Addr) (c' : Nat), Bases W → Rd W W.heap.size A' (u32s (polR (chT p (rdS p M.length (M.length - 1) 0 ⟨inN p M, zrN, zrN⟩).h M.length) M.length)) → Calls Tryd.prog 24 #[.slice A' (M.length + 1) c', .int .u32 (p : Int)] W fun e w' => ∃ A2 c2, e = .returned (.tuple #[.slice A2 r.length c2, .int .i64 0]) ∧ Res w' W.heap.size 24 A2 c2 (u32s r) ∧ Below W.heap.size W w') :
    Calls Tryd.prog 9 #[.slice A M.length c, .int .u32 (p : Int)] w fun e w' => ∃ A2 c2, e = .returned (.tuple #[.slice A2 r.length c2, .int .i64 0]) ∧ Res w' w.heap.size 24 A2 c2 (u32s r) ∧ Below w.heap.size w w' := by
  have HB := Lib.hid (begun_ok A c p M w hp hw hG hr hm hd hk)
  have HBS : Hid (∀ W, Below w.heap.size w W → Bases W) := fun W hW => ⟨(hW.cell (p := ⟨_, 0, none⟩) hG).trans hw.1, (hW.cell (p := ⟨_, 1, none⟩) hG).trans hw.2.1, (hW.cell (p := ⟨_, 2, none⟩) hG).trans hw.2.2⟩
  obtain ⟨hpr, _, hn0, _, hn24⟩ := hk.some
  obtain ⟨n, hn⟩ : ∃ n, n = M.length := ⟨_, rfl⟩
  rw [← hn] at HB hn0 hn24 hnm ⊢
  obtain ⟨x0, hx0⟩ : ∃ x0, x0 = (⟨inN p M, zrN, zrN⟩ : St) := ⟨_, rfl⟩
  rw [← hx0] at HB hnm
  obtain ⟨x, hx⟩ : ∃ x, x = rdS p n (n - 1) 0 x0 := ⟨_, rfl⟩
  rw [← hx] at hnm
  have HRD : Hid (∀ W gw, WS W w.heap.size gw p n false x0 → Below w.heap.size w W → Calls Tryd.prog 23 #[.pointer (some ⟨gw, 0, none⟩)] W fun e w' => e = .returned (.tuple #[]) ∧ WS w' w.heap.size gw p n false x ∧ Below w.heap.size W w') := fun W gw h hW => by
    rw [hx]
    exact reduce_any W w.heap.size gw p n false x0 hpr hp (HBS.out W hW) hG h hW.size hn0 (by omega)
  have HCH : Hid (∀ W gw, WS W w.heap.size gw p n false x → Calls Tryd.prog 25 #[.pointer (some ⟨gw, 0, none⟩)] W fun e w' => ∃ A' c', e = .returned (.slice A' (n + 1) c') ∧ Rd w' w'.heap.size A' (u32s (polR (chT p x.h n) n)) ∧ n + 1 ≤ c' ∧ Below W.heap.size W w') := fun W gw h => char_any W w.heap.size gw p n false x hpr.two hp h (by omega)
  have HNM := Lib.hid hnm
  clear hw hr hm hd hn hG hx0 hx hk hpr hnm
  go_enter Tryd.func9, Tryd.ntmps9
  go_upto_region 4 with (go_at_call 22; (with_reducible refine HB.out.mono ?_); rintro _ w1 ⟨gw, rfl, hws, hb1⟩; have HW1 := Lib.hid hws; have Hb1 := Lib.hid hb1; clear hws hb1)
  go_upto_region 5 with (go_at_call 23; (with_reducible refine (HRD.out w1 gw HW1.out Hb1.out).mono ?_); rintro _ w2 ⟨rfl, hws, hb2⟩; have HW2 := Lib.hid hws; have Hb2 := Lib.hid (Hb1.out.trans hb2); clear hws hb2)
  go_wp2_with (first
    | (go_at_call 25; (with_reducible refine (HCH.out w2 gw HW2.out).mono ?_); rintro _ w3 ⟨A3, c3, rfl, hr3, _, hb3⟩; have Hr3 := Lib.hid hr3; have Hb3 := Lib.hid (Hb2.out.trans (hb3.mono Hb2.out.size)); clear hr3 hb3)
    | (go_at_call 24; (with_reducible refine (HNM.out w3 A3 c3 (HBS.out w3 Hb3.out) Hr3.out).mono ?_); rintro _ w4 ⟨A4, c4, rfl, hr4, hb4⟩; have Hr4 := Lib.hid (hr4.mono Hb3.out.size); have Hb4 := Lib.hid (Hb3.out.trans (hb4.mono Hb3.out.size)); clear hr4 hb4))
  go_ret2
  exact ⟨A4, c4, rfl, Hr4.out, Hb4.out⟩
end
section
def ev : List Int → Int → Int
  | [], _ => 0
  | c :: a, x => c + x * ev a x
def addI : List Int → List Int → List Int
  | [], b => b
  | x :: a, [] => x :: a
  | x :: a, y :: b => (x + y) :: addI a b
def sclI (c : Int) (a : List Int) : List Int := a.map fun x => c * x
def mulI : List Int → List Int → List Int
  | [], _ => []
  | c :: a, b => addI (sclI c b) (0 :: mulI a b)
theorem ev_addI (a b : List Int) (x : Int) : ev (addI a b) x = ev a x + ev b x := by
  induction a generalizing b with
  | nil => simp [addI, ev]
  | cons c a ih =>
    cases b with
    | nil => simp [addI, ev]
    | cons d b => simp only [addI, ev, ih]; grind
theorem ev_sclI (c : Int) (a : List Int) (x : Int) : ev (sclI c a) x = c * ev a x := by
  unfold sclI
  induction a with
  | nil => simp [ev]
  | cons d a ih => simp only [List.map_cons, ev, ih]; grind
theorem ev_mulI (a b : List Int) (x : Int) : ev (mulI a b) x = ev a x * ev b x := by
  induction a with
  | nil => simp [mulI, ev]
  | cons c a ih => simp only [mulI, ev, ev_addI, ev_sclI, ih]; grind
theorem getD_addI (a b : List Int) (i : Nat) : (addI a b).getD i 0 = a.getD i 0 + b.getD i 0 := by
  induction a generalizing b i with
  | nil => simp [addI]
  | cons c a ih =>
    cases b with
    | nil => simp [addI]
    | cons d b =>
      cases i with
      | zero => simp [addI]
      | succ i => simpa [addI] using ih b i
theorem getD_sclI (c : Int) (a : List Int) (i : Nat) : (sclI c a).getD i 0 = c * a.getD i 0 := by
  unfold sclI
  simp only [List.getD_eq_getElem?_getD, List.getElem?_map]
  cases a[i]? <;> simp
theorem getD_none {a : List Int} {i : Nat} (h : a.length ≤ i) : a.getD i 0 = 0 := by
  simp [List.getD_eq_getElem?_getD, List.getElem?_eq_none h]
/-- The top of a product. -/
theorem top_mulI (a b : List Int) (m n : Nat) (ha : a.length ≤ m + 1) (hb : b.length ≤ n + 1) : (mulI a b).getD (m + n) 0 = a.getD m 0 * b.getD n 0 := by
  induction a generalizing m with
  | nil => simp [mulI]
  | cons c a ih =>
    rw [mulI, getD_addI, getD_sclI]
    cases m with
    | zero =>
      obtain rfl : a = [] := List.eq_nil_of_length_eq_zero (by rw [List.length_cons] at ha; omega)
      cases n <;> simp [mulI]
    | succ m =>
      rw [getD_none (a := b) (i := m + 1 + n) (by omega)]
      have := ih m (by simpa using ha)
      rw [show m + 1 + n = (m + n) + 1 by omega]
      simpa using this
theorem far_mulI (a b : List Int) (i : Nat) (h : a.length + b.length ≤ i + 1) : (mulI a b).getD i 0 = 0 := by
  induction a generalizing i with
  | nil => simp [mulI]
  | cons c a ih =>
    rw [mulI, getD_addI, getD_sclI, getD_none (a := b) (by simp at h; omega)]
    cases i with
    | zero => simp
    | succ i => simpa using ih i (by simp at h; omega)

/-- A polynomial that is 0 at every number from 1 on has no coefficient but 0. -/
theorem ev_none {c : List Int} (h : ∀ x : Int, 1 ≤ x → ev c x = 0) (i : Nat) : c.getD i 0 = 0 := by
  induction c generalizing i with
  | nil => simp
  | cons d a ih =>
    have hd : d = 0 := by
      have h1 := h (d.natAbs + 1) (by omega)
      simp only [ev] at h1
      generalize ev a _ = y at h1
      by_cases hy : y = 0
      · subst hy; simpa using h1
      · exfalso
        have h2 : d = -(((d.natAbs : Int) + 1) * y) := by omega
        have h3 : d.natAbs = (d.natAbs + 1) * y.natAbs := by
          have h4 := congrArg Int.natAbs h2
          rw [Int.natAbs_neg, Int.natAbs_mul] at h4
          have h5 : ((d.natAbs : Int) + 1).natAbs = d.natAbs + 1 := by omega
          rwa [h5] at h4
        have h6 : 1 ≤ y.natAbs := by omega
        have h7 := Nat.mul_le_mul_left (d.natAbs + 1) h6
        omega
    subst hd
    have ha : ∀ x : Int, 1 ≤ x → ev a x = 0 := fun x hx => by
      have h1 := h x hx
      simp only [ev, Int.zero_add] at h1
      rcases Int.mul_eq_zero.1 h1 with h2 | h2
      · omega
      · exact h2
    cases i with
    | zero => simp
    | succ i => simpa using ih ha i

/-! A polynomial. -/
structure Z where
  l : List Int
namespace Z
def v (a : Z) (x : Int) : Int := ev a.l x
instance : Add Z := ⟨fun a b => ⟨addI a.l b.l⟩⟩
instance : Mul Z := ⟨fun a b => ⟨mulI a.l b.l⟩⟩
instance : Neg Z := ⟨fun a => ⟨sclI (-1) a.l⟩⟩
instance : Sub Z := ⟨fun a b => a + -b⟩
def c (k : Int) : Z := ⟨[k]⟩
def X : Z := ⟨[0, 1]⟩
theorem v_add (a b : Z) (x : Int) : (a + b).v x = a.v x + b.v x := ev_addI a.l b.l x
theorem v_mul (a b : Z) (x : Int) : (a * b).v x = a.v x * b.v x := ev_mulI a.l b.l x
theorem v_neg (a : Z) (x : Int) : (-a).v x = -a.v x := by
  show ev (sclI (-1) a.l) x = - ev a.l x
  rw [ev_sclI]; omega
theorem v_sub (a b : Z) (x : Int) : (a - b).v x = a.v x - b.v x := by
  show (a + -b).v x = _
  rw [v_add, v_neg]; omega
theorem v_c (k x : Int) : (c k).v x = k := by simp [c, v, ev]
theorem v_X (x : Int) : X.v x = x := by simp [X, v, ev]
def pow (a : Z) : Nat → Z
  | 0 => c 1
  | n + 1 => pow a n * a
theorem v_pow (a : Z) (n : Nat) (x : Int) : (a.pow n).v x = a.v x ^ n := by
  induction n with
  | zero => simp [pow, v_c]
  | succ n ih => rw [pow, v_mul, ih, Int.pow_succ]
/-- The coefficient at i. -/
def co (a : Z) (i : Nat) : Int := a.l.getD i 0
theorem co_add (a b : Z) (i : Nat) : (a + b).co i = a.co i + b.co i := getD_addI a.l b.l i
theorem co_neg (a : Z) (i : Nat) : (-a).co i = - a.co i := by
  show (sclI (-1) a.l).getD i 0 = _
  rw [getD_sclI]; simp [co]
theorem co_sub (a b : Z) (i : Nat) : (a - b).co i = a.co i - b.co i := by
  show (a + -b).co i = _
  rw [co_add, co_neg]; omega
theorem co_of_v {a b : Z} (h : ∀ x, a.v x = b.v x) (i : Nat) : a.co i = b.co i := by
  have h1 := ev_none (c := (a - b).l) (fun x _ => by have := v_sub a b x; rw [h x] at this; show (a - b).v x = 0; omega) i
  have h2 : (a - b).co i = 0 := h1
  rw [co_sub] at h2; omega
theorem v_of_co {a b : List Int} (h : ∀ i, a.getD i 0 = b.getD i 0) (x : Int) : ev a x = ev b x := by
  induction a generalizing b with
  | nil =>
    induction b with
    | nil => rfl
    | cons d b ih =>
      have h0 := h 0
      simp at h0
      have := ih (fun i => by simpa using h (i + 1))
      simp only [ev] at this ⊢
      rw [← h0, ← this]; simp
  | cons c a ih =>
    cases b with
    | nil =>
      have h0 := h 0
      simp at h0
      have := ih (b := []) (fun i => by simpa using h (i + 1))
      simp only [ev] at this ⊢
      rw [h0, this]; simp
    | cons d b =>
      have h0 := h 0
      simp at h0
      have := ih (b := b) (fun i => by simpa using h (i + 1))
      simp only [ev]
      rw [h0, this]
end Z

/-- One and the same modulo p. -/
def Cg (p : Nat) (a b : Z) : Prop := ∃ c : Z, ∀ x, a.v x = b.v x + (p : Int) * c.v x
section
variable {p : Nat} {a b d e a' b' : Z}
theorem Cg.of_eq (h : ∀ x, a.v x = b.v x) : Cg p a b := ⟨.c 0, fun x => by rw [h, Z.v_c]; omega⟩
theorem Cg.refl (a : Z) : Cg p a a := .of_eq fun _ => rfl
theorem Cg.lin1 (h : Cg p a b) (k : Z) (hx : ∀ x, d.v x - e.v x = k.v x * (a.v x - b.v x)) : Cg p d e := by
  obtain ⟨c, hc⟩ := h
  exact ⟨k * c, fun x => by have h1 := hx x; rw [hc x] at h1; rw [Z.v_mul]; grind⟩
theorem Cg.lin2 {a2 b2 : Z} (h : Cg p a b) (h2 : Cg p a2 b2) (k k2 : Z) (hx : ∀ x, d.v x - e.v x = k.v x * (a.v x - b.v x) + k2.v x * (a2.v x - b2.v x)) : Cg p d e := by
  obtain ⟨c, hc⟩ := h
  obtain ⟨c2, hc2⟩ := h2
  exact ⟨k * c + k2 * c2, fun x => by have h1 := hx x; rw [hc x, hc2 x] at h1; rw [Z.v_add, Z.v_mul, Z.v_mul]; grind⟩
theorem Cg.lin3 {a2 b2 a3 b3 : Z} (h : Cg p a b) (h2 : Cg p a2 b2) (h3 : Cg p a3 b3) (k k2 k3 : Z) (hx : ∀ x, d.v x - e.v x = k.v x * (a.v x - b.v x) + k2.v x * (a2.v x - b2.v x) + k3.v x * (a3.v x - b3.v x)) : Cg p d e := by
  obtain ⟨c, hc⟩ := h
  obtain ⟨c2, hc2⟩ := h2
  obtain ⟨c3, hc3⟩ := h3
  exact ⟨k * c + k2 * c2 + k3 * c3, fun x => by have h1 := hx x; rw [hc x, hc2 x, hc3 x] at h1; rw [Z.v_add, Z.v_add, Z.v_mul, Z.v_mul, Z.v_mul]; grind⟩
theorem Cg.symm (h : Cg p a b) : Cg p b a := h.lin1 (.c (-1)) fun x => by rw [Z.v_c]; omega
theorem Cg.trans (h : Cg p a b) (h2 : Cg p b d) : Cg p a d := h.lin2 h2 (.c 1) (.c 1) fun x => by rw [Z.v_c]; omega
theorem Cg.add (h : Cg p a b) (h2 : Cg p a' b') : Cg p (a + a') (b + b') := h.lin2 h2 (.c 1) (.c 1) fun x => by rw [Z.v_c, Z.v_add, Z.v_add]; omega
theorem Cg.sub (h : Cg p a b) (h2 : Cg p a' b') : Cg p (a - a') (b - b') := h.lin2 h2 (.c 1) (.c (-1)) fun x => by rw [Z.v_c, Z.v_c, Z.v_sub, Z.v_sub]; omega
theorem Cg.mul (h : Cg p a b) (h2 : Cg p a' b') : Cg p (a * a') (b * b') := h.lin2 h2 a' b fun x => by rw [Z.v_mul, Z.v_mul]; grind
/-- The coefficients are one modulo p. -/
theorem Cg.co (h : Cg p a b) (i : Nat) : (p : Int) ∣ a.co i - b.co i := by
  obtain ⟨c, hc⟩ := h
  have := Z.co_of_v (a := a) (b := b + .c p * c) (fun x => by rw [Z.v_add, Z.v_mul, Z.v_c]; exact hc x) i
  rw [Z.co_add] at this
  have h2 : (Z.c p * c).co i = p * c.co i := by
    rw [Z.co_of_v (b := ⟨sclI p c.l⟩) (fun x => by rw [Z.v_mul, Z.v_c]; exact (ev_sclI _ _ _).symm)]
    exact getD_sclI _ _ _
  rw [h2] at this
  exact ⟨c.co i, by omega⟩
end

/-- By its coefficients. -/
theorem Cg.of_co {p : Nat} {a b : List Int} (h : ∀ i, (p : Int) ∣ a.getD i 0 - b.getD i 0) : Cg p ⟨a⟩ ⟨b⟩ := by
  have key : ∀ a : List Int, (∀ i, (p : Int) ∣ a.getD i 0) → ∃ c : List Int, ∀ x, ev a x = p * ev c x := by
    intro a
    induction a with
    | nil => exact fun _ => ⟨[], fun x => by simp [ev]⟩
    | cons d a ih =>
      intro h
      obtain ⟨c, hc⟩ := ih fun i => by simpa using h (i + 1)
      obtain ⟨k, hk⟩ := h 0
      simp at hk
      exact ⟨k :: c, fun x => by simp only [ev, hc x, hk]; grind⟩
  obtain ⟨c, hc⟩ := key (addI a (sclI (-1) b)) fun i => by
    rw [getD_addI, getD_sclI]
    have := h i
    rwa [show a.getD i 0 + -1 * b.getD i 0 = a.getD i 0 - b.getD i 0 by omega]
  refine ⟨⟨c⟩, fun x => ?_⟩
  have h1 := hc x
  rw [ev_addI, ev_sclI] at h1
  show ev a x = ev b x + p * ev c x
  omega

/-! Lists of numbers. -/
def zi (a : List Nat) : List Int := a.map fun n : Nat => (n : Int)
def zo (a : List Nat) : Z := ⟨zi a⟩
theorem zi_getD (a : List Nat) (i : Nat) : (zi a).getD i 0 = ((a.getD i 0 : Nat) : Int) := by
  simp only [zi, List.getD_eq_getElem?_getD, List.getElem?_map]
  cases a[i]? <;> simp
theorem zo_co (a : List Nat) (i : Nat) : (zo a).co i = ((a.getD i 0 : Nat) : Int) := zi_getD a i
theorem zo_nil (x : Int) : (zo []).v x = 0 := rfl
theorem zo_cons (n : Nat) (a : List Nat) (x : Int) : (zo (n :: a)).v x = n + x * (zo a).v x := rfl
theorem zi_length (a : List Nat) : (zi a).length = a.length := by simp [zi]

theorem trimL_getD (a : List Nat) (i : Nat) : (trimL a).getD i 0 = a.getD i 0 := by
  induction a generalizing i with
  | nil => simp [trimL]
  | cons c a ih =>
    simp only [trimL]
    split
    · rename_i e
      have h0 : ∀ i, a.getD i 0 = 0 := fun i => by rw [← ih i, e]; simp
      split
      · rename_i e2
        cases i with
        | zero => simp [e2]
        | succ i => simpa using (h0 i).symm
      · cases i with
        | zero => simp
        | succ i => simpa using (h0 i).symm
    · rename_i y ys e
      cases i with
      | zero => simp
      | succ i => simpa [e] using ih i
theorem trimL_trimL (a : List Nat) : trimL (trimL a) = trimL a := by
  induction a with
  | nil => rfl
  | cons c a ih =>
    simp only [trimL]
    split
    · split
      · rfl
      · rename_i e2; simp [trimL, e2]
    · rename_i y ys e
      rw [e] at ih
      simp only [trimL] at ih ⊢
      rw [ih]
theorem trimL_top {a : List Nat} (h : trimL a = a) (hn : a ≠ []) : a.getD (a.length - 1) 0 ≠ 0 := by
  rcases List.eq_nil_or_concat a with rfl | ⟨l, x, rfl⟩
  · exact absurd rfl hn
  · rw [List.concat_eq_append] at h ⊢
    intro h0
    have hx : x = 0 := by simpa using h0
    subst hx
    rw [trimL_snoc_zero] at h
    have := trimL_length_le l
    rw [h] at this
    simp at this
    omega
theorem trimL_eq {a b : List Nat} (ha : trimL a = a) (hb : trimL b = b) (h : ∀ i, a.getD i 0 = b.getD i 0) : a = b := by
  have len : ∀ {a b : List Nat}, trimL a = a → (∀ i, a.getD i 0 = b.getD i 0) → a.length ≤ b.length := fun {a b} ha h => by
    by_cases hn : a = []
    · subst hn; simp
    · have h1 := trimL_top ha hn
      rw [h] at h1
      have : 0 < a.length := List.length_pos_iff.2 hn
      rcases Nat.lt_or_ge (a.length - 1) b.length with h2 | h2
      · omega
      · rw [List.getD_eq_getElem?_getD, List.getElem?_eq_none h2] at h1; exact absurd rfl h1
  have hl : a.length = b.length := Nat.le_antisymm (len ha h) (len hb fun i => (h i).symm)
  apply List.ext_getElem hl
  intro i h1 h2
  have := h i
  simpa [List.getD_eq_getElem?_getD, List.getElem?_eq_getElem h1, List.getElem?_eq_getElem h2] using this

/-- Normal modulo p. -/
def Nf (p : Nat) (a : List Nat) : Prop := (∀ x ∈ a, x < p) ∧ trimL a = a
theorem trimL_mem {a : List Nat} {x : Nat} (h : x ∈ trimL a) : x ∈ a := by rw [← trimL_take] at h; exact List.mem_of_mem_take h
theorem Nf.nil_ (p : Nat) : Nf p [] := ⟨(fun _ h => by cases h), rfl⟩
theorem Nf.trim {p : Nat} {a : List Nat} (h : ∀ x ∈ a, x < p) : Nf p (trimL a) := ⟨fun x hx => h x (trimL_mem hx), trimL_trimL a⟩
theorem Nf.getD_lt {p : Nat} {a : List Nat} (h : Nf p a) (hp : 0 < p) (i : Nat) : a.getD i 0 < p := by
  rw [List.getD_eq_getElem?_getD]
  cases e : a[i]? with
  | none => simpa
  | some x => exact h.1 x (List.mem_of_getElem? e)
theorem Nf.unique {p : Nat} {a b : List Nat} (ha : Nf p a) (hb : Nf p b) (hp : 0 < p) (h : Cg p (zo a) (zo b)) : a = b := by
  refine trimL_eq ha.2 hb.2 fun i => ?_
  have h1 := h.co i
  rw [zo_co, zo_co] at h1
  have h2 := ha.getD_lt hp i
  have h3 := hb.getD_lt hp i
  obtain ⟨k, hk⟩ := h1
  have : k = 0 := by
    rcases Int.lt_trichotomy k 0 with h | h | h
    · have : (p : Int) * k ≤ (p : Int) * (-1) := Int.mul_le_mul_of_nonneg_left (by omega) (by omega)
      omega
    · exact h
    · have : (p : Int) * 1 ≤ (p : Int) * k := Int.mul_le_mul_of_nonneg_left (by omega) (by omega)
      omega
  subst this
  omega
theorem Cg.trim {p : Nat} (a : List Nat) : Cg p (zo (trimL a)) (zo a) := Cg.of_eq fun x => Z.v_of_co (fun i => by show (zi _).getD i 0 = (zi _).getD i 0; rw [zi_getD, zi_getD, trimL_getD]) x
theorem Cg.mods {p : Nat} (a : List Nat) : Cg p (zo (a.map (· % p))) (zo a) := Cg.of_co fun i => by
  rw [zi_getD, zi_getD]
  have : (a.map (· % p)).getD i 0 = a.getD i 0 % p := by
    simp only [List.getD_eq_getElem?_getD, List.getElem?_map]
    cases a[i]? <;> simp
  rw [this]
  have h := Nat.div_add_mod (a.getD i 0) p
  exact ⟨-((a.getD i 0 / p : Nat) : Int), by
    have h2 : ((p * (a.getD i 0 / p) + a.getD i 0 % p : Nat) : Int) = (a.getD i 0 : Nat) := by rw [h]
    push_cast at h2 ⊢
    rw [Int.mul_neg]; omega⟩
/-- The normal form. -/
def mnP (p : Nat) (a : List Nat) : List Nat := trimL (a.map (· % p))
theorem mnP_nf {p : Nat} (hp : 0 < p) (a : List Nat) : Nf p (mnP p a) := Nf.trim fun x hx => by
  obtain ⟨y, _, rfl⟩ := List.mem_map.1 hx
  exact Nat.mod_lt _ hp
theorem mnP_cg (p : Nat) (a : List Nat) : Cg p (zo (mnP p a)) (zo a) := (Cg.trim _).trans (Cg.mods a)
/-- Each polynomial has one. -/
theorem nf_of {p : Nat} (hp : 0 < p) (a : Z) : ∃ r, Nf p r ∧ Cg p (zo r) a := by
  refine ⟨trimL (a.l.map fun x : Int => (x % (p : Int)).toNat), Nf.trim fun x hx => ?_, (Cg.trim _).trans (Cg.of_co fun i => ?_)⟩
  · obtain ⟨y, _, rfl⟩ := List.mem_map.1 hx
    have := Int.emod_lt_of_pos y (show (0 : Int) < p by omega)
    omega
  · rw [zi_getD]
    have : (a.l.map fun x : Int => (x % (p : Int)).toNat).getD i 0 = (a.l.getD i 0 % p).toNat := by
      simp only [List.getD_eq_getElem?_getD, List.getElem?_map]
      cases a.l[i]? <;> simp
    rw [this]
    have h0 := Int.emod_nonneg (a.l.getD i 0) (show (p : Int) ≠ 0 by omega)
    have h := Int.mul_ediv_add_emod (a.l.getD i 0) p
    exact ⟨-(a.l.getD i 0 / p), by rw [Int.toNat_of_nonneg h0, Int.mul_neg]; omega⟩
end
section
theorem Pr.int_mul {p : Nat} (h : Pr p) {a b : Int} (hd : (p : Int) ∣ a * b) : (p : Int) ∣ a ∨ (p : Int) ∣ b := by
  rw [Int.ofNat_dvd_left, Int.natAbs_mul] at hd
  rw [Int.ofNat_dvd_left, Int.ofNat_dvd_left]
  exact h.dvd_mul hd
theorem Nf.top {p : Nat} {a : List Nat} (h : Nf p a) (hp : 0 < p) (hn : a ≠ []) : ¬ (p : Int) ∣ ((a.getD (a.length - 1) 0 : Nat) : Int) := fun hd => by
  have h1 := trimL_top h.2 hn
  have h2 := h.getD_lt hp (a.length - 1)
  have h3 := Nat.le_of_dvd (by omega) (Int.natCast_dvd_natCast.1 hd)
  omega
theorem len_pos {a : List Nat} (h : a ≠ []) : 0 < a.length := List.length_pos_iff.2 h
theorem getD_nat {a : List Nat} {i : Nat} (h : a.length ≤ i) : a.getD i 0 = 0 := by simp [List.getD_eq_getElem?_getD, List.getElem?_eq_none h]
section
variable {p : Nat}
/-- The top coefficient of a product. -/
theorem Nf.top_mul (hp : Pr p) {a b : List Nat} (ha : Nf p a) (hb : Nf p b) (na : a ≠ []) (nb : b ≠ []) : ¬ (p : Int) ∣ (zo a * zo b).co (a.length + b.length - 2) := fun hd => by
  have h1 := len_pos na
  have h2 := len_pos nb
  have h3 := top_mulI (zi a) (zi b) (a.length - 1) (b.length - 1) (by rw [zi_length]; omega) (by rw [zi_length]; omega)
  rw [show a.length - 1 + (b.length - 1) = a.length + b.length - 2 by omega, zi_getD, zi_getD] at h3
  have h4 : (zo a * zo b).co (a.length + b.length - 2) = ((a.getD (a.length - 1) 0 : Nat) : Int) * ((b.getD (b.length - 1) 0 : Nat) : Int) := h3
  rw [h4] at hd
  rcases hp.int_mul hd with h | h
  · exact ha.top hp.pos na h
  · exact hb.top hp.pos nb h
theorem Nf.len_mul (hp : Pr p) {a b r : List Nat} (ha : Nf p a) (hb : Nf p b) (hr : Nf p r) (h : Cg p (zo r) (zo a * zo b)) (na : a ≠ []) (nb : b ≠ []) : r.length + 1 = a.length + b.length := by
  have h1 := len_pos na
  have h2 := len_pos nb
  have h3 := Nf.top_mul hp ha hb na nb
  have h4 := h.co (a.length + b.length - 2)
  rw [zo_co] at h4
  have h5 : a.length + b.length - 2 < r.length := by
    rcases Nat.lt_or_ge (a.length + b.length - 2) r.length with h5 | h5
    · exact h5
    · rw [getD_nat h5] at h4
      exact absurd (by simpa using h4) h3
  rcases Nat.lt_or_ge (a.length + b.length) (r.length + 1) with h6 | h6
  · exfalso
    have h7 := h.co (r.length - 1)
    have h8 : (zo a * zo b).co (r.length - 1) = 0 := far_mulI (zi a) (zi b) _ (by rw [zi_length, zi_length]; omega)
    rw [zo_co, h8] at h7
    exact hr.top hp.pos (by rintro rfl; simp at h5) (by simpa using h7)
  · omega
theorem Nf.of_zero (hp : 0 < p) {a : List Nat} (ha : Nf p a) (h : Cg p (zo a) (.c 0)) : a = [] :=
  ha.unique (Nf.nil_ p) hp (h.trans (Cg.of_eq fun x => by rw [Z.v_c, zo_nil]))

/-- q and r: the quotient and the rest of a by b. -/
structure Dv (p : Nat) (a b : Z) (n : Nat) (q r : List Nat) : Prop where
  nq : Nf p q
  nr : Nf p r
  lt : r.length < n
  eq : Cg p a (zo q * b + zo r)
theorem Dv.unique (hp : Pr p) {a a' : Z} {b q r q' r' : List Nat} (hb : Nf p b) (h : Dv p a (zo b) b.length q r) (h' : Dv p a' (zo b) b.length q' r') (he : Cg p a a') : q = q' ∧ r = r' := by
  obtain ⟨d, hd, hde⟩ := nf_of hp.pos (zo q - zo q')
  have h1 : Cg p (zo q * zo b + zo r) (zo q' * zo b + zo r') := (h.eq.symm.trans he).trans h'.eq
  by_cases nd : d = []
  · subst nd
    have e1 : q = q' := h.nq.unique h'.nq hp.pos (hde.lin1 (.c (-1)) fun x => by rw [Z.v_c, Z.v_sub, zo_nil]; omega)
    subst e1
    exact ⟨rfl, h.nr.unique h'.nr hp.pos (h1.lin1 (.c 1) fun x => by rw [Z.v_c, Z.v_add, Z.v_add]; omega)⟩
  · exfalso
    have nb : b ≠ [] := by rintro rfl; have := h.lt; simp at this
    have h2 : Cg p (zo d * zo b) (zo r' - zo r) := hde.lin2 h1 (zo b) (.c 1) fun x => by
      rw [Z.v_c, Z.v_mul, Z.v_sub, Z.v_sub, Z.v_add, Z.v_add, Z.v_mul, Z.v_mul]; grind
    have h3 := h2.co (d.length + b.length - 2)
    have h4 := len_pos nd
    have h5 := h.lt
    have h6 := h'.lt
    rw [Z.co_sub, zo_co, zo_co, getD_nat (by omega), getD_nat (by omega)] at h3
    exact Nf.top_mul hp hd hb nd nb (by simpa using h3)
/-- d divides a. -/
def Dd (p : Nat) (d a : Z) : Prop := ∃ u : Z, Cg p a (u * d)
theorem Dd.refl (a : Z) : Dd p a a := ⟨.c 1, Cg.of_eq fun x => by rw [Z.v_mul, Z.v_c]; omega⟩
theorem Dd.trans {a b d : Z} (h : Dd p a b) (k : Dd p b d) : Dd p a d := by
  obtain ⟨u, hu⟩ := h
  obtain ⟨v, hv⟩ := k
  exact ⟨v * u, hv.lin2 hu (.c 1) v fun x => by simp only [Z.v_c, Z.v_mul]; grind⟩
theorem Dd.lin {a b d e : Z} (h : Dd p d a) (k : Dd p d b) (m n : Z) (he : Cg p e (m * a + n * b)) : Dd p d e := by
  obtain ⟨u, hu⟩ := h
  obtain ⟨v, hv⟩ := k
  exact ⟨m * u + n * v, he.lin3 hu hv (.c 1) m n fun x => by simp only [Z.v_c, Z.v_mul, Z.v_add]; grind⟩
theorem Dd.cg {a b d : Z} (h : Dd p d a) (k : Cg p a b) : Dd p d b := by
  obtain ⟨u, hu⟩ := h
  exact ⟨u, k.symm.trans hu⟩
theorem Dd.none (d : Z) : Dd p d (.c 0) := ⟨.c 0, Cg.of_eq fun x => by rw [Z.v_mul, Z.v_c]; omega⟩
theorem Dd.len (hp : Pr p) {a d : List Nat} (ha : Nf p a) (hd : Nf p d) (h : Dd p (zo d) (zo a)) (na : a ≠ []) : d ≠ [] ∧ d.length ≤ a.length := by
  obtain ⟨u, hu⟩ := h
  obtain ⟨u', nu, hu'⟩ := nf_of hp.pos u
  have h1 : Cg p (zo a) (zo u' * zo d) := hu.lin2 hu' (.c 1) (.c (-1) * zo d) fun x => by simp only [Z.v_c, Z.v_mul]; grind
  have nd : d ≠ [] := by
    rintro rfl
    exact na (ha.of_zero hp.pos (h1.trans (Cg.of_eq fun x => by rw [Z.v_mul, Z.v_c, zo_nil]; omega)))
  have nu' : u' ≠ [] := by
    rintro rfl
    exact na (ha.of_zero hp.pos (h1.trans (Cg.of_eq fun x => by rw [Z.v_mul, Z.v_c, zo_nil]; omega)))
  have := Nf.len_mul hp nu hd ha h1 nu' nd
  have := len_pos nu'
  exact ⟨nd, by omega⟩
/-- It is 0, or its top coefficient is 1. -/
def Mo9z (a : List Nat) : Prop := a ≠ [] → a.getD (a.length - 1) 0 = 1
theorem Dd.eq (hp : Pr p) {a d : List Nat} (ha : Nf p a) (hd : Nf p d) (h : Dd p (zo d) (zo a)) (na : a ≠ []) (hl : a.length ≤ d.length) (ma : Mo9z a) (md : Mo9z d) : a = d := by
  obtain ⟨u, hu⟩ := h
  obtain ⟨u', nu, hu'⟩ := nf_of hp.pos u
  have h1 : Cg p (zo a) (zo u' * zo d) := hu.lin2 hu' (.c 1) (.c (-1) * zo d) fun x => by simp only [Z.v_c, Z.v_mul]; grind
  obtain ⟨nd, hdl⟩ := Dd.len hp ha hd ⟨u, hu⟩ na
  have nu' : u' ≠ [] := by
    rintro rfl
    exact na (ha.of_zero hp.pos (h1.trans (Cg.of_eq fun x => by rw [Z.v_mul, Z.v_c, zo_nil]; omega)))
  have h2 := Nf.len_mul hp nu hd ha h1 nu' nd
  have hl' : a.length = d.length := by omega
  obtain ⟨k, rfl⟩ : ∃ k, u' = [k] := by
    match u', (show u'.length = 1 by omega) with
    | [k], _ => exact ⟨k, rfl⟩
  have hk : k < p := nu.1 k (by simp)
  have h3 := h1.co (a.length - 1)
  have h4 := len_pos na
  have h5 : (zo [k] * zo d).co (a.length - 1) = (k : Int) * ((d.getD (d.length - 1) 0 : Nat) : Int) := by
    have := top_mulI (zi [k]) (zi d) 0 (d.length - 1) (by simp [zi]) (by rw [zi_length]; omega)
    rw [zi_getD, zi_getD, Nat.zero_add] at this
    rw [hl']
    exact this
  rw [zo_co, h5, ma na, md nd] at h3
  have hk1 : k = 1 := by
    obtain ⟨c, hc⟩ := h3
    have hp2 := hp.two
    have : c = 0 := by
      rcases Int.lt_trichotomy c 0 with h | h | h
      · have : (p : Int) * c ≤ (p : Int) * (-1) := Int.mul_le_mul_of_nonneg_left (by omega) (by omega)
        omega
      · exact h
      · have : (p : Int) * 1 ≤ (p : Int) * c := Int.mul_le_mul_of_nonneg_left (by omega) (by omega)
        omega
    subst this
    omega
  subst hk1
  exact ha.unique hd hp.pos (h1.trans (Cg.of_eq fun x => by rw [Z.v_mul]; show (1 + x * 0) * _ = _; grind))

/-- g: the greatest common divisor of a and b. -/
structure Gc (p : Nat) (a b : Z) (g : List Nat) : Prop where
  nf : Nf p g
  mo : Mo9z g
  lin : ∃ s t : Z, Cg p (zo g) (s * a + t * b)
  left : Dd p (zo g) a
  right : Dd p (zo g) b
theorem Gc.unique (hp : Pr p) {a b a' b' : Z} {g g' : List Nat} (h : Gc p a b g) (h' : Gc p a' b' g') (ha : Cg p a a') (hb : Cg p b b') : g = g' := by
  obtain ⟨s, t, h1⟩ := h.lin
  obtain ⟨s', t', h1'⟩ := h'.lin
  have d1 : Dd p (zo g') (zo g) := Dd.lin (h'.left.cg ha.symm) (h'.right.cg hb.symm) s t h1
  have d2 : Dd p (zo g) (zo g') := Dd.lin (h.left.cg ha) (h.right.cg hb) s' t' h1'
  by_cases ng : g = []
  · subst ng
    obtain ⟨u, hu⟩ := d2
    exact (h'.nf.of_zero hp.pos (hu.trans (Cg.of_eq fun x => by rw [Z.v_mul, Z.v_c, zo_nil]; omega))).symm
  · have h2 := Dd.len hp h.nf h'.nf d1 ng
    have h3 := Dd.len hp h'.nf h.nf d2 h2.1
    exact Dd.eq hp h.nf h'.nf d1 ng h3.2 h.mo h'.mo
end
end
section
/-- A value, modulo p. -/
theorem Cg.val {p : Nat} {a b : Z} (h : Cg p a b) (x : Int) : (p : Int) ∣ a.v x - b.v x := by
  obtain ⟨c, hc⟩ := h
  exact ⟨c.v x, by rw [hc x]; omega⟩
theorem Nf.len_le {p : Nat} (hp : 0 < p) {r : List Nat} {z : Z} {n : Nat} (hr : Nf p r) (h : Cg p (zo r) z) (hz : ∀ i, n ≤ i → (p : Int) ∣ z.co i) : r.length ≤ n := by
  rcases Nat.lt_or_ge n r.length with h1 | h1
  · exfalso
    have h2 := h.co (r.length - 1)
    rw [zo_co] at h2
    have h3 := hz (r.length - 1) (by omega)
    refine hr.top hp (by rintro rfl; simp at h1) ?_
    have := Int.dvd_add h2 h3
    rwa [Int.sub_add_cancel] at this
  · exact h1
theorem zo_far {a : List Nat} {i : Nat} (h : a.length ≤ i) : (zo a).co i = 0 := by rw [zo_co, getD_nat h]; rfl
end
end Go.Proofs.YtbafiahmcfkboaaDoor
