/- The nodes that a polynomial is asked at: as lists, and as a row that grows by append. No conditions. The p-th power of a polynomial modulo p: it at x^p. Conditions: p a prime. -/
import Derived.Test.YtddhhndnkjajmaaDoorPkMq29
import Derived.Maps.AppendAt
import Derived.OwnWalk
import Derived.Test.YtddhhndnkjajmaaDoorPkMq25
namespace Go.Proofs.YtddhhndnkjajmaaDoor
section
open Go.RowKit

def has (p : Nat) (l : List (Nat × Nat)) (v : Nat) : Bool := l.any fun n => n.1 % p == v % p
def ndP (p : Nat) (m : List Nat) (l : List (Nat × Nat)) (v : Nat) : List (Nat × Nat) := if has p l v then l else l ++ [(v, evN p m (v % p))]
/-- The nodes for the places xs, each once. -/
def ndT (p : Nat) (m : List Nat) (xs : List Nat) : List (Nat × Nat) := xs.foldl (ndP p m) []
theorem ndT_snoc (p : Nat) (m xs : List Nat) {k : Nat} (h : k < xs.length) : ndT p m (xs.take (k + 1)) = ndP p m (ndT p m (xs.take k)) xs[k] := by
  unfold ndT
  rw [List.take_succ_eq_append_getElem h, List.foldl_append]; rfl
theorem has_step (p : Nat) (l : List (Nat × Nat)) (v : Nat) {j : Nat} (h : j < l.length) : has p (l.take (j + 1)) v = (has p (l.take j) v || l[j].1 % p == v % p) := by
  unfold has
  rw [List.take_succ_eq_append_getElem h, List.any_append]; simp
/-- What such a list holds. -/
structure Nds (p : Nat) (m : List Nat) (n : Nat) (l : List (Nat × Nat)) : Prop where
  len : l.length ≤ n
  dig : ∀ x ∈ l, x.1 < 4294967296 ∧ x.2 < 4294967296
  pw : l.Pairwise fun n m => ¬ (p : Int) ∣ (m.1 : Int) - (n.1 : Int)
  at_ : ∀ x ∈ l, (p : Int) ∣ (zo m).v (x.1 : Int) - (x.2 : Int)
theorem dvd_mods {p a b : Nat} (h : (p : Int) ∣ (a : Int) - (b : Int)) : a % p = b % p := by
  have h1 := Int.emod_emod_of_dvd (a : Int) (Int.dvd_refl (p : Int))
  have h2 := Int.emod_eq_emod_iff_emod_sub_eq_zero.2 (Int.emod_eq_zero_of_dvd h)
  exact Int.ofNat.inj (by simpa using h2)
theorem Nds.step {p : Nat} {m : List Nat} {n v : Nat} {l : List (Nat × Nat)} (hp : 0 < p) (hlt : p < 4294967296) (h : Nds p m n l) (hv : v < 4294967296) : Nds p m (n + 1) (ndP p m l v) := by
  unfold ndP
  split
  · exact ⟨Nat.le_succ_of_le h.len, h.dig, h.pw, h.at_⟩
  · rename_i hn
    have he : evN p m (v % p) < p := evN_lt hp _ _
    refine ⟨by have := h.len; simp; omega, fun x hx => ?_, ?_, fun x hx => ?_⟩
    · rcases List.mem_append.1 hx with hx | hx
      · exact h.dig x hx
      · obtain rfl := List.mem_singleton.1 hx
        exact ⟨hv, by show evN p m (v % p) < _; omega⟩
    · rw [List.pairwise_append]
      refine ⟨h.pw, List.pairwise_singleton _ _, fun x hx y hy hd => hn ?_⟩
      obtain rfl := List.mem_singleton.1 hy
      unfold has
      rw [List.any_eq_true]
      exact ⟨x, hx, by simpa using (dvd_mods hd).symm⟩
    · rcases List.mem_append.1 hx with hx | hx
      · exact h.at_ x hx
      · obtain rfl := List.mem_singleton.1 hx
        obtain ⟨a, ha⟩ := evN_cg p m (v % p)
        obtain ⟨k, hk⟩ := mod_dvd v p
        obtain ⟨b, hb⟩ := (zo m).val_mod (p := p) (x := v) (y := ((v % p : Nat) : Int)) ⟨-k, by rw [Int.mul_neg]; omega⟩
        refine ⟨b - a, ?_⟩
        show (zo m).v (v : Int) - ((evN p m (v % p) : Nat) : Int) = _
        rw [Int.mul_sub]; omega
theorem ndT_ok {p : Nat} (m xs : List Nat) (hp : 0 < p) (hlt : p < 4294967296) (hd : ∀ x ∈ xs, x < 4294967296) : ∀ k, k ≤ xs.length → Nds p m k (ndT p m (xs.take k))
  | 0, _ => by rw [List.take_zero]; exact ⟨Nat.le_refl _, fun _ h => absurd h List.not_mem_nil, List.Pairwise.nil, fun _ h => absurd h List.not_mem_nil⟩
  | k + 1, hk => by
    rw [ndT_snoc p m xs (by omega)]
    exact (ndT_ok m xs hp hlt hd k (by omega)).step hp hlt (hd _ (List.getElem_mem _))
/-- Told by its values. -/
theorem Nds.told {p : Nat} (hp : Pr p) {m r : List Nat} {n : Nat} {l : List (Nat × Nat)} (h : Nds p m n l) (hm : Nf p m) (hr : Nf p r) (lr : r.length ≤ l.length) (hv : ∀ x ∈ l, (p : Int) ∣ (zo r).v (x.1 : Int) - (x.2 : Int)) (lm : m.length ≤ l.length) : r = m := by
  refine told_by hp hr hm (l.map fun x => (x.1 : Int)) ?_ (fun y hy => ?_) (by simpa using lr) (by simpa using lm)
  · rw [List.pairwise_map]; exact h.pw
  · obtain ⟨x, hx, rfl⟩ := List.mem_map.1 hy
    obtain ⟨a, ha⟩ := hv x hx
    obtain ⟨b, hb⟩ := h.at_ x hx
    exact ⟨a - b, by rw [Int.mul_sub]; omega⟩

def ndCells (l : List (Nat × Nat)) : List Value := l.flatMap fun x => [.int .u32 (x.1 : Int), .int .u32 (x.2 : Int)]
theorem ndCells_length (l : List (Nat × Nat)) : (ndCells l).length = l.length * 2 := by
  induction l with
  | nil => rfl
  | cons x l ih => simp only [ndCells, List.flatMap_cons, List.length_append, List.length_cons] at ih ⊢; simp only [List.length_nil]; omega
theorem ndCells_snoc (l : List (Nat × Nat)) (x : Nat × Nat) : ndCells (l ++ [x]) = ndCells l ++ [.int .u32 (x.1 : Int), .int .u32 (x.2 : Int)] := by simp [ndCells]
theorem ndCells_at (l : List (Nat × Nat)) : ∀ k (h : k < l.length), (ndCells l)[k * 2]? = some (.int .u32 (l[k].1 : Int)) ∧ (ndCells l)[k * 2 + 1]? = some (.int .u32 (l[k].2 : Int)) := by
  induction l with
  | nil => intro k h; simp at h
  | cons x l ih =>
    intro k h
    have e : ndCells (x :: l) = .int .u32 (x.1 : Int) :: .int .u32 (x.2 : Int) :: ndCells l := by simp [ndCells]
    rw [e]
    rcases k with _ | k
    · exact ⟨rfl, rfl⟩
    · have := ih k (by simpa using h)
      rw [show (k + 1) * 2 = k * 2 + 1 + 1 by omega]
      simpa using this
/-- A row of nodes of one's own. -/
def On (w : World) (B : Nat) (v : Value) (l : List (Nat × Nat)) : Prop := w.ownsRow B 65 2 v l.length (ndCells l)
theorem On.nil_ (w : World) (B : Nat) : On w B (.slice none 0 0) [] := ⟨rfl, .inl ⟨rfl, rfl⟩⟩
theorem On.form {w : World} {B : Nat} {v : Value} {l : List (Nat × Nat)} (h : On w B v l) : ∃ A c, v = .slice A l.length c ∧ NL w A l := by
  obtain ⟨hl, h1 | ⟨g, cap, cur, rfl, hg, hh, hnc, hcm, hsz, ht⟩⟩ := h
  · obtain ⟨rfl, h0⟩ := h1
    exact ⟨none, 0, by rw [h0], fun k hk => by omega⟩
  · have hb : Blk w g 65 cur.toList := by simpa [Blk] using hh
    refine ⟨_, cap, rfl, fun k hk => ⟨g, 0, rfl, hb.lt, ?_, ?_⟩⟩
    all_goals
      rw [hb.cell, Nat.zero_add]
      have h9 : cur.toList.take (l.length * 2) = ndCells l := ht
      have h8 := ndCells_at l k hk
      rw [← h9] at h8
      simp only [List.getElem?_take] at h8
      rw [if_pos (by omega), if_pos (by omega)] at h8
      first | exact h8.1 | exact h8.2
theorem On.below {w w' : World} {B B' : Nat} {v : Value} {l : List (Nat × Nat)} (h : On w B v l) (hb : Below B' w w') (hB : w.heap.size ≤ B') : On w' B v l := by
  obtain ⟨hl, h1 | ⟨g, cap, cur, hv, hg, hh, r⟩⟩ := h
  · exact ⟨hl, .inl h1⟩
  · have hlt : g < w.heap.size := (Array.getElem?_eq_some_iff.1 hh).1
    exact ⟨hl, .inr ⟨g, cap, cur, hv, hg, (hb.block g (by omega)).trans hh, r⟩⟩
theorem Tryd.infoNode : (Tryd.prog.info? 65).map (fun i => (i.zero.map (fun z => z.cells.size), i.size, i.bytes)) = some (some 2, 2, 8) := by kernel_rfl
theorem cell_two_new (w : World) (x y : Value) (t : TypeId) : ∀ j u, [x, y][j]? = some u → (w.alloc (.cells #[x, y] t)).cell? ((⟨w.heap.size, 0, none⟩ : Addr).add j) = some u := by
  intro j u hu
  have hb : Blk (w.alloc (.cells #[x, y] t)) w.heap.size t [x, y] := Blk.new_ rfl
  have ha : (⟨w.heap.size, 0, none⟩ : Addr).add j = ⟨w.heap.size, 0 + j, none⟩ := by unfold Addr.add; split <;> simp_all
  rw [ha, hb.cell, Nat.zero_add]
  exact hu
/-- One node more. -/
theorem app_node (w : World) (base : Nat) (v : Value) (L : List (Nat × Nat)) (x y : Nat) (hown : On w base v L) (hL : L.length ≤ 100000) (hbase : base ≤ w.heap.size) :
    ∃ A c w', (Builtin.append_ #[63, 63] 63 #[v, .slice (some ⟨w.heap.size, 0, none⟩) 1 1]).run Tryd.prog (w.alloc (.cells #[.int .u32 (x : Int), .int .u32 (y : Int)] 65)) = .ok (.slice A (L ++ [(x, y)]).length c) w' ∧
      On w' base (.slice A (L ++ [(x, y)]).length c) (L ++ [(x, y)]) ∧ Below base w w' := by
  have hI := Tryd.infoNode
  cases hi : Tryd.prog.info? 65 with
  | none => rw [hi] at hI; cases hI
  | some i =>
    rw [hi] at hI
    simp only [Option.map_some, Option.some.injEq, Prod.mk.injEq] at hI
    obtain ⟨hz, h2, h3⟩ := hI
    cases hz0 : i.zero with
    | none => rw [hz0] at hz; cases hz
    | some z =>
      rw [hz0] at hz
      have hzs : z.cells.size = 2 := by simpa using hz
      have hbel : Below base w (w.alloc (.cells #[.int .u32 (x : Int), .int .u32 (y : Int)] 65)) := (Below.refl _ _).alloc hbase _
      have hown1 : (w.alloc (.cells #[.int .u32 (x : Int), .int .u32 (y : Int)] 65)).ownsRow base 65 2 v L.length (ndCells L) := hown.below ((Below.refl _ _).alloc (Nat.le_refl _) _) (Nat.le_refl _)
      obtain ⟨v', w', hrun, ho, hg, _⟩ := run_append_own_at (P := Tryd.prog) _ base 63 63 65 i z 2 8 Tryd.underlying63 hi hz0 h2 h3 hzs (by omega) v L.length (ndCells L) hown1
        ⟨w.heap.size, 0, none⟩ 1 1 [.int .u32 (x : Int), .int .u32 (y : Int)] rfl (cell_two_new w _ _ _) (by intro u hu; simp at hu; rcases hu with rfl | rfl <;> rfl) (by unfold maxLen; omega) (by omega) (by simp; omega)
      have hl : (L ++ [(x, y)]).length = L.length + 1 := by simp
      rw [show ndCells L ++ [.int .u32 (x : Int), .int .u32 (y : Int)] = ndCells (L ++ [(x, y)]) from (ndCells_snoc L (x, y)).symm, ← hl] at ho
      obtain ⟨A, c, rfl, _⟩ := On.form ho
      refine ⟨A, c, w', hrun, ho, hbel.trans ⟨hg.os, hg.tape, hg.output, hg.size, fun k hk => hg.block k (by simp; omega) (fun e => ?_)⟩⟩
      have := hown1.lt k e.symm
      omega
theorem wpList_append_done {P : Program} {w : World} {ops : Array Oper} {rest : List Oper} {o : Oper} {a : Act} {Q : Exit → Act → World → Prop} (hgd : o.guard = none) (d s : Operand) (dT sT : TypeId)
    (ho : o.op = .call { callee := .builtin .append, args := #[d, s], argTypes := #[dT, sT] }) (dv sv : Value) (hd : a.eval d = dv) (hs : a.eval s = sv) (v' : Value) (w' : World)
    (hrun : (Builtin.append_ #[dT, sT] o.type #[dv, sv]).run P w = .ok v' w') (h : wpList P ops Q rest (a.put o.dst v') w') : wpList P ops Q (o :: rest) a w := by
  refine wpList_plain hgd fun K hK => ?_
  unfold Oper.wp
  simp [execOp, ho, resolve, invoke, builtin, hd, hs, hrun, Result.andThen]
  exact hK _ _ h
end
section
def sumI (f : Nat → Int) : Nat → Int
  | 0 => 0
  | n + 1 => sumI f n + f n
/-- A term of the binomial formula. -/
def bt (a b : Int) (n j : Nat) : Int := (ch n j : Int) * a ^ j * b ^ (n - j)
theorem bt_step (a b : Int) (n : Nat) : ∀ k, k ≤ n → sumI (bt a b (n + 1)) (k + 1) = (a + b) * sumI (bt a b n) k + b * bt a b n k
  | 0, _ => by
    simp only [sumI, bt, ch_zero, Nat.sub_zero, Int.pow_succ, Int.pow_zero]; grind
  | k + 1, h => by
    have ih := bt_step a b n k (by omega)
    have e1 : sumI (bt a b (n + 1)) (k + 1 + 1) = sumI (bt a b (n + 1)) (k + 1) + bt a b (n + 1) (k + 1) := rfl
    have e2 : sumI (bt a b n) (k + 1) = sumI (bt a b n) k + bt a b n k := rfl
    have e3 : bt a b (n + 1) (k + 1) = a * bt a b n k + b * bt a b n (k + 1) := by
      unfold bt
      have h1 : n + 1 - (k + 1) = (n - (k + 1)) + 1 := by omega
      have h2 : n - k = (n - (k + 1)) + 1 := by omega
      have h3 : ((ch (n + 1) (k + 1) : Nat) : Int) = (ch n k : Int) + (ch n (k + 1) : Int) := by
        rw [show ch (n + 1) (k + 1) = ch n k + ch n (k + 1) from rfl]; simp
      rw [h1, h2, h3, Int.pow_succ, Int.pow_succ]
      grind
    rw [e1, ih, e2, e3]
    grind
theorem bt_all (a b : Int) : ∀ n, (a + b) ^ n = sumI (bt a b n) (n + 1)
  | 0 => by simp [sumI, bt, ch]
  | n + 1 => by
    have h := bt_step a b n n (Nat.le_refl _)
    have e1 : sumI (bt a b (n + 1)) (n + 1 + 1) = sumI (bt a b (n + 1)) (n + 1) + bt a b (n + 1) (n + 1) := rfl
    have e2 : sumI (bt a b n) (n + 1) = sumI (bt a b n) n + bt a b n n := rfl
    have e3 : bt a b (n + 1) (n + 1) = a * bt a b n n := by
      unfold bt
      rw [ch_self, ch_self, Nat.sub_self, Nat.sub_self, Int.pow_succ]; grind
    rw [e1, h, e3, Int.pow_succ, bt_all a b n, e2]
    grind

namespace Z
def sum (f : Nat → Z) : Nat → Z
  | 0 => .c 0
  | n + 1 => sum f n + f n
theorem v_sum (f : Nat → Z) (x : Int) : ∀ n, (sum f n).v x = sumI (fun j => (f j).v x) n
  | 0 => v_c 0 x
  | n + 1 => by rw [sum, v_add, v_sum f x n]; rfl
end Z
theorem sumI_mul (p : Int) (f g : Nat → Int) (h : ∀ j, f j = p * g j) : ∀ n, sumI f n = p * sumI g n
  | 0 => by simp [sumI]
  | n + 1 => by rw [sumI, sumI, sumI_mul p f g h n, h n]; grind
/-- The sum without its first term. -/
theorem sumI_first (f : Nat → Int) : ∀ n, sumI f (n + 1) = f 0 + sumI (fun j => f (j + 1)) n
  | 0 => by simp [sumI]
  | n + 1 => by
    have e : sumI f (n + 1 + 1) = sumI f (n + 1) + f (n + 1) := rfl
    rw [e, sumI_first f n]
    show f 0 + _ + f (n + 1) = f 0 + (_ + f (n + 1))
    omega
theorem sumI_congr {f g : Nat → Int} : ∀ n, (∀ j, j < n → f j = g j) → sumI f n = sumI g n
  | 0, _ => rfl
  | n + 1, h => by rw [sumI, sumI, sumI_congr n (fun j hj => h j (by omega)), h n (by omega)]

/-- The p-th power of a sum. -/
theorem Cg.freshman {p : Nat} (hp : Pr p) (A B : Z) : Cg p ((A + B).pow p) (A.pow p + B.pow p) := by
  obtain ⟨m, rfl⟩ : ∃ m, p = m + 1 := ⟨p - 1, by have := hp.pos; omega⟩
  refine ⟨Z.sum (fun j => .c ((ch (m + 1) (j + 1) / (m + 1) : Nat) : Int) * A.pow (j + 1) * B.pow (m + 1 - (j + 1))) m, fun x => ?_⟩
  rw [Z.v_pow, Z.v_add, Z.v_add, Z.v_pow, Z.v_pow, bt_all, Z.v_sum]
  have e1 : sumI (bt (A.v x) (B.v x) (m + 1)) (m + 1 + 1) = sumI (bt (A.v x) (B.v x) (m + 1)) (m + 1) + bt (A.v x) (B.v x) (m + 1) (m + 1) := rfl
  rw [e1, sumI_first]
  have e2 : bt (A.v x) (B.v x) (m + 1) 0 = B.v x ^ (m + 1) := by simp [bt, ch_zero]
  have e3 : bt (A.v x) (B.v x) (m + 1) (m + 1) = A.v x ^ (m + 1) := by simp [bt, ch_self]
  rw [e2, e3]
  have e4 : sumI (fun j => bt (A.v x) (B.v x) (m + 1) (j + 1)) m = ((m + 1 : Nat) : Int) * sumI (fun j => (Z.c ((ch (m + 1) (j + 1) / (m + 1) : Nat) : Int) * A.pow (j + 1) * B.pow (m + 1 - (j + 1))).v x) m := by
    rw [← sumI_mul ((m + 1 : Nat) : Int) _ _ (fun j => rfl)]
    refine sumI_congr m fun j hj => ?_
    obtain ⟨q, hq⟩ := hp.dvd_ch (show 0 < j + 1 by omega) (show j + 1 < m + 1 by omega)
    have e5 : ch (m + 1) (j + 1) / (m + 1) = q := by rw [hq]; exact Nat.mul_div_cancel_left q (by omega)
    rw [e5, Z.v_mul, Z.v_mul, Z.v_c, Z.v_pow, Z.v_pow]
    unfold bt
    rw [hq]
    push_cast
    grind
  rw [e4]
  omega
theorem Cg.pow {p : Nat} {a b : Z} (h : Cg p a b) : ∀ n, Cg p (a.pow n) (b.pow n)
  | 0 => Cg.refl _
  | n + 1 => (Cg.pow h n).mul h
theorem Cg.const {p : Nat} (hp : Pr p) (n : Nat) : Cg p ((Z.c (n : Int)).pow p) (.c n) := by
  have h := hp.fermat' n
  have h1 : (p : Int) ∣ ((n ^ p : Nat) : Int) - ((n : Nat) : Int) := by
    refine Int.dvd_of_emod_eq_zero ?_
    rw [Int.sub_emod, ← Int.natCast_emod, ← Int.natCast_emod, h, Int.sub_self, Int.zero_emod]
  obtain ⟨k, hk⟩ := h1
  refine ⟨.c k, fun x => ?_⟩
  simp only [Z.v_pow, Z.v_c]
  rw [Int.natCast_pow] at hk
  omega
/-- A polynomial at another one. -/
def compZ : List Nat → Z → Z
  | [], _ => .c 0
  | n :: l, Y => compZ l Y * Y + .c n
theorem Cg.frob {p : Nat} (hp : Pr p) : ∀ a : List Nat, Cg p ((zo a).pow p) (compZ a (Z.X.pow p))
  | [] => by
    have h := Cg.const hp 0
    exact (Cg.of_eq fun x => by rw [Z.v_pow, Z.v_pow, zo_nil, Z.v_c]; rfl : Cg p ((zo []).pow p) ((Z.c ((0 : Nat) : Int)).pow p)).trans h
  | n :: l => by
    have h1 : Cg p ((zo (n :: l)).pow p) ((.c (n : Int) + Z.X * zo l).pow p) := Cg.pow (Cg.of_eq fun x => by rw [zo_cons, Z.v_add, Z.v_c, Z.v_mul, Z.v_X]) p
    refine h1.trans ((Cg.freshman hp _ _).trans ?_)
    have h2 : Cg p ((Z.X * zo l).pow p) (Z.X.pow p * (zo l).pow p) := Cg.of_eq fun x => by rw [Z.v_pow, Z.v_mul, Z.v_mul, Z.v_pow, Z.v_pow, Int.mul_pow]
    exact ((Cg.const hp n).add (h2.trans ((Cg.refl _).mul (Cg.frob hp l)))).trans (Cg.of_eq fun x => by
      show _ = (compZ l (Z.X.pow p) * Z.X.pow p + .c n).v x
      rw [Z.v_add, Z.v_add, Z.v_mul, Z.v_mul]; grind)
theorem fresh_step {p : Nat} {F want y s r : List Nat} {L Y : Z} {n : Nat} (h1 : Rs p F L want) (h2 : Rs p F Y y) (hs : Cg p (zo s) (zo want * zo y + .c n)) (h : Rs p F (zo s) r) : Rs p F (L * Y + .c n) r := by
  obtain ⟨u1, hu1⟩ := h1.eq
  obtain ⟨u2, hu2⟩ := h2.eq
  exact h.cg ⟨u1 * Y + zo want * u2, hu1.lin3 hu2 hs Y (zo want) (.c (-1)) fun x => by simp only [Z.v_add, Z.v_mul, Z.v_c]; grind⟩
end
end Go.Proofs.YtddhhndnkjajmaaDoor
