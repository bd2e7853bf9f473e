/- Least divisors, and the contract of the reference's least. Conditions: n at least 2. The factors of a number as a list, and the contract of prime's Factors. No conditions. The contract of prime's Factors. No conditions. Fac says one list of each number; the contract of the reference's Factors. No conditions. -/
import Derived.Test.YtcopkeccogpkmaaDoorPkPp1
import Derived.Maps.AppendAt
import Derived.OwnWalk
namespace Go.Proofs.YtcopkeccogpkmaaDoor
section
open Go.RowKit

/-- No number from 2 on below d divides n. -/
def NoDiv (n d : Nat) : Prop := ∀ e, 2 ≤ e → e < d → n % e ≠ 0
theorem NoDiv.two (n : Nat) : NoDiv n 2 := fun e h1 h2 => absurd h1 (by omega)
theorem NoDiv.succ {n d : Nat} (h : NoDiv n d) (hd : n % d ≠ 0) : NoDiv n (d + 1) := fun e h1 h2 => by
  rcases Nat.lt_or_ge e d with h3 | h3
  · exact h e h1 h3
  · obtain rfl : e = d := by omega
    exact hd
/-- m is the least number from 2 on that divides n. -/
def Least (n m : Nat) : Prop := 2 ≤ m ∧ n % m = 0 ∧ NoDiv n m
theorem Least.unique {n a b : Nat} (h : Least n a) (k : Least n b) : a = b := by
  rcases Nat.lt_trichotomy a b with h1 | h1 | h1
  · exact absurd h.2.1 (k.2.2 a h.1 h1)
  · exact h1
  · exact absurd k.2.1 (h.2.2 b k.1 h1)
theorem NoDiv.ends {n d : Nat} (h : NoDiv n d) (hn : n < d * d) (h2 : 2 ≤ n) : Least n n := by
  refine ⟨h2, Nat.mod_self n, fun e h1 he h0 => ?_⟩
  have hm := Nat.div_add_mod n e
  rw [h0, Nat.add_zero] at hm
  have hk : 2 ≤ n / e := by
    rcases Nat.lt_or_ge (n / e) 2 with h3 | h3
    · have : e * (n / e) ≤ e * 1 := Nat.mul_le_mul_left _ (by omega)
      omega
    · exact h3
  have h4 : d ≤ e := Nat.le_of_not_lt fun h5 => h e h1 h5 h0
  have h6 : n % (n / e) = 0 := by
    have := Nat.mul_mod_left e (n / e)
    rwa [hm] at this
  have h5 : d ≤ n / e := Nat.le_of_not_lt fun h7 => h _ hk h7 h6
  have : d * d ≤ e * (n / e) := Nat.mul_le_mul h4 h5
  omega
theorem NoDiv.le {n d m : Nat} (h : NoDiv n d) (hm : m ≤ d) : NoDiv n m := fun e h1 h2 => h e h1 (by omega)
end
section
open Go.RowKit

/-- l is the list of n's primes, rising, each with how often it divides. -/
def Fac : Nat → List (Nat × Nat) → Prop
  | n, [] => n = 1
  | n, (p, t) :: l => ∃ m, 0 < t ∧ n = p ^ t * m ∧ Least n p ∧ m % p ≠ 0 ∧ Fac m l

def facCells (l : List (Nat × Nat)) : List Value := l.flatMap fun x => [.int .u32 (x.1 : Int), .int .i64 (x.2 : Int)]
theorem facCells_length (l : List (Nat × Nat)) : (facCells l).length = l.length * 2 := by
  induction l with
  | nil => rfl
  | cons x l ih => simp only [facCells, List.flatMap_cons, List.length_append, List.length_cons] at ih ⊢; simp only [List.length_nil]; omega
theorem facCells_snoc (l : List (Nat × Nat)) (x : Nat × Nat) : facCells (l ++ [x]) = facCells l ++ [.int .u32 (x.1 : Int), .int .i64 (x.2 : Int)] := by simp [facCells]

/-- Stripping: what is left when d's power is out. -/
theorem Fac.step {n m m2 d t : Nat} {L : List (Nat × Nat)} (h : ∀ l, Fac m l → Fac n (L ++ l)) (ht : 0 < t) (hm : m = d ^ t * m2) (hd : 2 ≤ d) (hno : NoDiv m d) (h2 : m2 % d ≠ 0) : ∀ l, Fac m2 l → Fac n ((L ++ [(d, t)]) ++ l) := fun l hl => by
  rw [List.append_assoc]
  refine h _ ⟨m2, ht, hm, ⟨hd, ?_, hno⟩, h2, hl⟩
  obtain ⟨k, rfl⟩ : ∃ k, t = k + 1 := ⟨t - 1, by omega⟩
  rw [hm, Nat.pow_succ, Nat.mul_comm (d ^ k) d, Nat.mul_assoc]
  exact Nat.mul_mod_right _ _
theorem NoDiv.strip {m m2 d t : Nat} (h : NoDiv m d) (hm : m = d ^ t * m2) (h2 : m2 % d ≠ 0) : NoDiv m2 (d + 1) := NoDiv.succ (fun e h1 he h0 => h e h1 he (by
  rw [hm]
  exact Nat.mod_eq_zero_of_dvd (Nat.dvd_trans (Nat.dvd_of_mod_eq_zero h0) (Nat.dvd_mul_left _ _)))) h2
theorem Fac.last {m d : Nat} (hno : NoDiv m d) (hd : m < d * d) (h1 : 1 < m) : Fac m [(m, 1)] :=
  ⟨1, by omega, by simp, hno.ends hd h1, by rw [Nat.mod_eq_of_lt h1]; omega, rfl⟩

theorem Tryd.infoFactor : (Tryd.prog.info? 29).map (fun i => (i.zero.map (fun z => z.cells.size), i.size, i.bytes)) = some (some 2, 2, 16) := by kernel_rfl

theorem cell_two_new (w : World) (x y : Value) (t : TypeId) : ∀ j u, [x, y][j]? = some u → (w.alloc (.cells #[x, y] t)).cell? ((⟨w.heap.size, 0, none⟩ : Addr).add j) = some u := by
  intro j u hu
  have hb : Blk (w.alloc (.cells #[x, y] t)) w.heap.size t [x, y] := Blk.new_ rfl
  have ha : (⟨w.heap.size, 0, none⟩ : Addr).add j = ⟨w.heap.size, 0 + j, none⟩ := by unfold Addr.add; split <;> simp_all
  rw [ha, hb.cell, Nat.zero_add]
  exact hu

/-- One factor more. -/
theorem app_factor (w : World) (base : Nat) (v : Value) (L : List (Nat × Nat)) (p t : Nat) (hown : w.ownsRow base 29 2 v L.length (facCells L)) (hL : L.length ≤ 100000) (hbase : base ≤ w.heap.size) :
    ∃ v' w', (Builtin.append_ #[23, 23] 23 #[v, .slice (some ⟨w.heap.size, 0, none⟩) 1 1]).run Tryd.prog (w.alloc (.cells #[.int .u32 (p : Int), .int .i64 (t : Int)] 29)) = .ok v' w' ∧
      w'.ownsRow base 29 2 v' (L ++ [(p, t)]).length (facCells (L ++ [(p, t)])) ∧ Below base w w' := by
  have hI := Tryd.infoFactor
  cases hi : Tryd.prog.info? 29 with
  | none => rw [hi] at hI; cases hI
  | some i =>
    rw [hi] at hI
    simp only [Option.map_some, Option.some.injEq, Prod.mk.injEq] at hI
    obtain ⟨hz, h2, h3⟩ := hI
    cases hz0 : i.zero with
    | none => rw [hz0] at hz; cases hz
    | some z =>
      rw [hz0] at hz
      have hzs : z.cells.size = 2 := by simpa using hz
      have hbel : Below base w (w.alloc (.cells #[.int .u32 (p : Int), .int .i64 (t : Int)] 29)) := (Below.refl _ _).alloc hbase _
      have hown1 : (w.alloc (.cells #[.int .u32 (p : Int), .int .i64 (t : Int)] 29)).ownsRow base 29 2 v L.length (facCells L) := by
        obtain ⟨hl, h | ⟨g, cap, cur, e1, e2, e3, e4⟩⟩ := hown
        · exact ⟨hl, .inl h⟩
        · exact ⟨hl, .inr ⟨g, cap, cur, e1, e2, by
            have hb : Blk w g 29 cur.toList := by simpa [Blk] using e3
            have := hb.heapAlloc (.cells #[.int .u32 (p : Int), .int .i64 (t : Int)] 29)
            simpa [Blk] using this, e4⟩⟩
      obtain ⟨v', w', hrun, ho, hg, _⟩ := run_append_own_at (P := Tryd.prog) _ base 23 23 29 i z 2 16 Tryd.underlying23 hi hz0 h2 h3 hzs (by omega) v L.length (facCells L) hown1
        ⟨w.heap.size, 0, none⟩ 1 1 [.int .u32 (p : Int), .int .i64 (t : Int)] rfl (cell_two_new w _ _ _) (by intro u hu; simp at hu; rcases hu with rfl | rfl <;> rfl) (by unfold maxLen; omega) (by omega) (by simp; omega)
      refine ⟨v', w', hrun, ?_, hbel.trans ?_⟩
      · rw [facCells_snoc, List.length_append]
        exact ho
      · refine ⟨hg.os, hg.tape, hg.output, hg.size, fun k hk => hg.block k (by simp; omega) (fun e => ?_)⟩
        have := hown1.lt k e.symm
        omega

/-- The walk's step at an append whose run is known. -/
theorem wpList_append_done {P : Program} {w : World} {ops : Array Oper} {rest : List Oper} {o : Oper} {a : Act} {Q : Exit → Act → World → Prop} (hgd : o.guard = none) (d s : Operand) (dT sT : TypeId)
    (ho : o.op = .call { callee := .builtin .append, args := #[d, s], argTypes := #[dT, sT] }) (dv sv : Value) (hd : a.eval d = dv) (hs : a.eval s = sv) (v' : Value) (w' : World)
    (hrun : (Builtin.append_ #[dT, sT] o.type #[dv, sv]).run P w = .ok v' w') (h : wpList P ops Q rest (a.put o.dst v') w') : wpList P ops Q (o :: rest) a w := by
  refine wpList_plain hgd fun K hK => ?_
  unfold Oper.wp
  simp [execOp, ho, resolve, invoke, builtin, hd, hs, hrun, Result.andThen]
  exact hK _ _ h
end
section
open Go.RowKit

set_option maxHeartbeats 1600000 in
theorem factors_zero (w : World) : Calls Tryd.prog 5 #[.int .u32 0] w fun r w' => r = .returned (.slice none 0 0) ∧ w' = w := by
  go_enter Tryd.func5, Tryd.ntmps5
  go_wp2
  go_ret
  exact ⟨rfl, rfl⟩

set_option maxHeartbeats 1600000 in
theorem factors_any (n : Nat) (hn : n < 4294967296) (h0 : 0 < n) (w : World) :
    Calls Tryd.prog 5 #[.int .u32 (n : Int)] w fun r w' => ∃ v L, r = .returned v ∧ Fac n L ∧ w'.ownsRow w.heap.size 29 2 v L.length (facCells L) ∧ Below w.heap.size w w' := by
  have t0 : ((n : Int) == 0) = false := by simp; omega
  go_enter Tryd.func5, Tryd.ntmps5
  go_wp2
  go_loopw [0, 3, 4] (fun nv ov dv wr => ∃ (m d : Nat) (L : List (Nat × Nat)), nv = .int .u32 (m : Int) ∧ dv = .int .u32 (d : Int) ∧ wr.ownsRow w.heap.size 29 2 ov L.length (facCells L) ∧ Below w.heap.size w wr ∧ 0 < m ∧ m < 4294967296 ∧ NoDiv m d ∧ 2 ≤ d ∧ d ≤ 65536 ∧ L.length + 2 ≤ d ∧ ∀ l, Fac m l → Fac n (L ++ l)) (fun _ _ dv _ => 65537 - (intOf dv).toNat)
  case atStart => exact ⟨n, 2, [], rfl, rfl, ⟨rfl, .inl ⟨rfl, rfl⟩⟩, Below.refl _ _, h0, hn, NoDiv.two n, by omega, by omega, by simp, fun l hl => hl⟩
  case round =>
    obtain ⟨m, d, L, rfl, rfl, hown, hb, hm0, hm, hno, hd2, hdm, hLd, hfac⟩ := hrel
    obtain ⟨q, hq⟩ : ∃ q, q = d * d := ⟨_, rfl⟩
    have Hfac := Lib.hid hfac
    have Hno := Lib.hid hno
    have Hq := Lib.hid hq
    have Hown := Lib.hid hown
    by_cases hdd : d ≤ 65535 ∧ q ≤ m
    · obtain ⟨hd5, hqm⟩ := hdd
      have t1 : IntKind.u32.wrap ((d : Int) * (d : Int)) = (q : Int) := by
        rw [IntKind.wrap_u32, ← Int.natCast_mul, ← hq]; omega
      clear hfac hno hq hown
      have td : ¬ (d = 0) := by omega
      go_wp2
      go_loop [0, 5] (fun nv tv => ∃ (k c : Nat), nv = .int .u32 (k : Int) ∧ tv = .int .i64 (c : Int) ∧ m = d ^ c * k ∧ 0 < k ∧ k ≤ m ∧ c + k ≤ m) (fun nv _ => (intOf nv).toNat)
      case atStart => exact ⟨m, 0, rfl, rfl, by simp, hm0, by omega, by omega⟩
      case round =>
        obtain ⟨k, c, rfl, rfl, hk, hk0, hkm, hck⟩ := hrel
        by_cases hkd : k % d = 0
        · have t2 : ((k : Int) % (d : Int) == 0) = true := by
            rw [show (k : Int) % (d : Int) = ((k % d : Nat) : Int) from by norm_cast, hkd]; rfl
          have hdv := Nat.div_add_mod k d
          rw [hkd, Nat.add_zero] at hdv
          obtain ⟨x, hx⟩ : ∃ x, x = k / d := ⟨_, rfl⟩
          rw [← hx] at hdv
          have hx0 : 0 < x := by
            rcases Nat.eq_zero_or_pos x with h | h
            · rw [h] at hdv; omega
            · exact h
          have hxk : 2 * x ≤ k := by rw [← hdv]; exact Nat.mul_le_mul_right _ hd2
          have hk2 : m = d ^ (c + 1) * x := by rw [Nat.pow_succ, Nat.mul_assoc, hdv]; exact hk
          have t3 : (k : Int) / (d : Int) = (x : Int) := by rw [hx]; norm_cast
          have Hk2 := Lib.hid hk2
          clear hk hk2 hdv hx hkd
          go_wp2
          go_round
          case rel => exact ⟨x, c + 1, by go_num, by go_num, Hk2.out, hx0, by omega, by omega⟩
          case measure => simp [intOf]; omega
        · have t2 : ((k : Int) % (d : Int) == 0) = false := by
            rw [show (k : Int) % (d : Int) = ((k % d : Nat) : Int) from by norm_cast, beq_eq_false_iff_ne]; exact fun h => hkd (Int.ofNat.inj h)
          have Hk := Lib.hid hk
          have Hkd := Lib.hid hkd
          clear hk hkd
          rcases Nat.eq_zero_or_pos c with hc | hc
          · subst hc
            go_wp2
            go_roundw
            case rel => exact ⟨k, d + 1, L, rfl, by go_num, Hown.out, hb, hk0, by omega, by
              have := Hk.out; rw [Nat.pow_zero, Nat.one_mul] at this; rw [← this]; exact Hno.out.succ (by rw [this]; exact Hkd.out), by omega, by omega, by omega, by
              have := Hk.out; rw [Nat.pow_zero, Nat.one_mul] at this; rw [← this]; exact Hfac.out⟩
            case measure => simp [intOf]; omega
          · obtain ⟨v', w', hrun, hown', hbel'⟩ := app_factor _ w.heap.size _ L d c Hown.out (by omega) hb.size
            have Hrun := Lib.hid hrun
            have Hown' := Lib.hid hown'
            have hc1 : decide ((0 : Int) < (c : Int)) = true := by simp; omega
            clear hrun hown'
            go_wp2_with (at_builtin; refine wpList_append_done rfl _ _ _ _ rfl _ _ rfl rfl _ _ Hrun.out ?_)
            go_roundw
            case rel => exact ⟨k, d + 1, L ++ [(d, c)], rfl, by go_num, Hown'.out, hb.trans hbel', hk0, by omega, Hno.out.strip Hk.out Hkd.out, by omega, by omega, by simp; omega, Fac.step Hfac.out hc Hk.out hd2 Hno.out Hkd.out⟩
            case measure => simp [intOf]; omega
    · have hbig : m < d * d := by
        rcases Nat.lt_or_ge 65535 d with h | h
        · obtain rfl : d = 65536 := by omega
          omega
        · have := fun h2 => hdd ⟨h, h2⟩
          omega
      have Hlast := Lib.hid (fun h1 => Fac.last hno hbig h1)
      have hst : ∀ K : Prop, (65535 < d → K) → (d ≤ 65535 → IntKind.u32.wrap ((d : Int) * (d : Int)) = (q : Int) → q < 4294967296 → m < q → K) → K := fun K a b => by
        rcases Nat.lt_or_ge 65535 d with h5 | h5
        · exact a h5
        · have hq1 : d * d ≤ 65535 * 65535 := Nat.mul_le_mul h5 h5
          exact b h5 (by rw [IntKind.wrap_u32, ← Int.natCast_mul, ← hq]; omega) (by omega) (by omega)
      clear hfac hno hq hown hdd hbig
      by_cases h1 : 1 < m
      · obtain ⟨v', w', hrun, hown', hbel'⟩ := app_factor _ w.heap.size _ L m 1 Hown.out (by omega) hb.size
        have Hrun := Lib.hid hrun
        have Hown' := Lib.hid hown'
        clear hrun hown'
        refine hst _ (fun h5 => ?_) (fun h5 h6 h7 h8 => ?_)
        · clear hst
          go_wp2_with (at_builtin; refine wpList_append_done rfl _ _ _ _ rfl _ _ rfl rfl _ _ Hrun.out ?_)
          go_ret
          first
            | exact ⟨v', rfl, L ++ [(m, 1)], Hfac.out _ (Hlast.out h1), Hown'.out, hb.trans hbel'⟩
            | exact ⟨v', L ++ [(m, 1)], rfl, Hfac.out _ (Hlast.out h1), Hown'.out, hb.trans hbel'⟩
        · clear hst
          go_wp2_with (at_builtin; refine wpList_append_done rfl _ _ _ _ rfl _ _ rfl rfl _ _ Hrun.out ?_)
          go_ret
          first
            | exact ⟨v', rfl, L ++ [(m, 1)], Hfac.out _ (Hlast.out h1), Hown'.out, hb.trans hbel'⟩
            | exact ⟨v', L ++ [(m, 1)], rfl, Hfac.out _ (Hlast.out h1), Hown'.out, hb.trans hbel'⟩
      · obtain rfl : m = 1 := by omega
        refine hst _ (fun h5 => ?_) (fun h5 h6 h7 h8 => ?_)
        · clear hst
          go_wp2
          go_ret
          have hF := Hfac.out [] rfl
          rw [List.append_nil] at hF
          first
            | exact ⟨_, rfl, L, hF, Hown.out, hb⟩
            | exact ⟨_, L, rfl, hF, Hown.out, hb⟩
        · clear hst
          go_wp2
          go_ret
          have hF := Hfac.out [] rfl
          rw [List.append_nil] at hF
          first
            | exact ⟨_, rfl, L, hF, Hown.out, hb⟩
            | exact ⟨_, L, rfl, hF, Hown.out, hb⟩
end
section
open Go.RowKit

theorem pow_strip {p : Nat} (hp : 2 ≤ p) : ∀ (a b x y : Nat), p ^ a * x = p ^ b * y → x % p ≠ 0 → y % p ≠ 0 → a = b ∧ x = y
  | 0, 0, x, y, h, _, _ => ⟨rfl, by simpa using h⟩
  | 0, b + 1, x, y, h, hx, _ => by
    exfalso
    rw [Nat.pow_zero, Nat.one_mul, Nat.pow_succ, Nat.mul_comm (p ^ b) p, Nat.mul_assoc] at h
    exact hx (by rw [h]; exact Nat.mul_mod_right _ _)
  | a + 1, 0, x, y, h, _, hy => by
    exfalso
    rw [Nat.pow_zero, Nat.one_mul, Nat.pow_succ, Nat.mul_comm (p ^ a) p, Nat.mul_assoc] at h
    exact hy (by rw [← h]; exact Nat.mul_mod_right _ _)
  | a + 1, b + 1, x, y, h, hx, hy => by
    rw [Nat.pow_succ, Nat.pow_succ, Nat.mul_comm (p ^ a) p, Nat.mul_comm (p ^ b) p, Nat.mul_assoc, Nat.mul_assoc] at h
    obtain ⟨h1, h2⟩ := pow_strip hp a b x y (Nat.eq_of_mul_eq_mul_left (by omega) h) hx hy
    exact ⟨by omega, h2⟩

theorem Fac.one_nil {l : List (Nat × Nat)} (h : Fac 1 l) : l = [] := by
  cases l with
  | nil => rfl
  | cons x l =>
    obtain ⟨p, t⟩ := x
    obtain ⟨m, _, _, ⟨h2, h3, _⟩, _⟩ := h
    rw [Nat.mod_eq_of_lt (by omega)] at h3
    cases h3
theorem Fac.unique : ∀ {n : Nat} {l k : List (Nat × Nat)}, Fac n l → Fac n k → l = k
  | n, [], k, h, h' => by
    obtain rfl : n = 1 := h
    exact h'.one_nil.symm
  | n, (p, t) :: l, k, h, h' => by
    cases k with
    | nil =>
      obtain rfl : n = 1 := h'
      exact absurd h.one_nil (by simp)
    | cons x k =>
      obtain ⟨q, s⟩ := x
      obtain ⟨m, ht, hm, hl, hmp, hf⟩ := h
      obtain ⟨m', hs, hm', hl', hmp', hf'⟩ := h'
      obtain rfl := hl.unique hl'
      obtain ⟨rfl, rfl⟩ := pow_strip hl.1 t s m m' (by rw [← hm, hm']) hmp hmp'
      rw [Fac.unique hf hf']

/-- The reference's list so far, m being what is left of n. -/
def Acc (n m : Nat) (L : List (Nat × Nat)) : Prop :=
  (L = [] ∧ m = n) ∨ ∃ L0 p t m1, L = L0 ++ [(p, t)] ∧ 0 < t ∧ m1 = p ^ t * m ∧ Least m1 p ∧ 0 < m ∧ m1 ≤ n ∧ ∀ l, Fac m1 l → Fac n (L0 ++ l)
/-- One more of the last prime. -/
theorem Acc.more {n m : Nat} {L0 : List (Nat × Nat)} {p t m1 x : Nat} (ht : 0 < t) (hm : m1 = p ^ t * m) (hl : Least m1 p) (hn : m1 ≤ n) (hf : ∀ l, Fac m1 l → Fac n (L0 ++ l)) (hx : m = p * x) (hx0 : 0 < x) : Acc n x (L0 ++ [(p, t + 1)]) :=
  .inr ⟨L0, p, t + 1, m1, rfl, by omega, by rw [hm, hx, Nat.pow_succ, Nat.mul_assoc], hl, hx0, hn, hf⟩
/-- A new prime. -/
theorem Acc.new {n m : Nat} {L : List (Nat × Nat)} {q x : Nat} (h : Acc n m L) (hq : Least m q) (hne : ∀ L0 p t, L = L0 ++ [(p, t)] → p ≠ q) (hx : m = q * x) (hx0 : 0 < x) : Acc n x (L ++ [(q, 1)]) := by
  refine .inr ⟨L, q, 1, m, rfl, by omega, by rw [Nat.pow_one]; exact hx, hq, hx0, ?_⟩
  rcases h with ⟨rfl, rfl⟩ | ⟨L0, p, t, m1, rfl, ht, hm, hl, hm0, hn1, hf⟩
  · exact ⟨Nat.le_refl _, fun l hl => hl⟩
  · refine ⟨?_, fun l hfl => ?_⟩
    · have : m ≤ p ^ t * m := Nat.le_mul_of_pos_left _ (Nat.pow_pos (by have := hl.1; omega))
      omega
    rw [List.append_assoc]
    refine hf _ ⟨m, ht, hm, hl, fun h0 => hne L0 p t rfl ?_, hfl⟩
    refine Least.unique (n := m) ⟨hl.1, h0, fun e h1 h2 h3 => hl.2.2 e h1 h2 ?_⟩ hq
    rw [hm]
    exact Nat.mod_eq_zero_of_dvd (Nat.dvd_trans (Nat.dvd_of_mod_eq_zero h3) (Nat.dvd_mul_left _ _))
end
end Go.Proofs.YtcopkeccogpkmaaDoor
