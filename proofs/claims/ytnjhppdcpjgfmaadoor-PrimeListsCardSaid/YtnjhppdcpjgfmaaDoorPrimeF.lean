/- The factors of a number as a list, and the contract of prime's Factors. No conditions. -/
import Derived.Test.YtnjhppdcpjgfmaaDoorPrimeE
import Derived.Maps.AppendAt
import Derived.OwnWalk
namespace Go.Proofs.YtnjhppdcpjgfmaaDoor
open Go.RowKit

/-- l is the list of n's primes, rising, each with how often it divides. -/
def Fac : Nat → List (Nat × Nat) → Prop
  | n, [] => n = 1
  | n, (p, t) :: l => ∃ m, 0 < t ∧ n = p ^ t * m ∧ Least n p ∧ m % p ≠ 0 ∧ Fac m l

def facCells (l : List (Nat × Nat)) : List Value := l.flatMap fun x => [.int .u32 (x.1 : Int), .int .i64 (x.2 : Int)]
theorem facCells_length (l : List (Nat × Nat)) : (facCells l).length = l.length * 2 := by
  induction l with
  | nil => rfl
  | cons x l ih => simp only [facCells, List.flatMap_cons, List.length_append, List.length_cons] at ih ⊢; simp only [List.length_nil]; omega
theorem facCells_snoc (l : List (Nat × Nat)) (x : Nat × Nat) : facCells (l ++ [x]) = facCells l ++ [.int .u32 (x.1 : Int), .int .i64 (x.2 : Int)] := by simp [facCells]

/-- Stripping: what is left when d's power is out. -/
theorem Fac.step {n m m2 d t : Nat} {L : List (Nat × Nat)} (h : ∀ l, Fac m l → Fac n (L ++ l)) (ht : 0 < t) (hm : m = d ^ t * m2) (hd : 2 ≤ d) (hno : NoDiv m d) (h2 : m2 % d ≠ 0) : ∀ l, Fac m2 l → Fac n ((L ++ [(d, t)]) ++ l) := fun l hl => by
  rw [List.append_assoc]
  refine h _ ⟨m2, ht, hm, ⟨hd, ?_, hno⟩, h2, hl⟩
  obtain ⟨k, rfl⟩ : ∃ k, t = k + 1 := ⟨t - 1, by omega⟩
  rw [hm, Nat.pow_succ, Nat.mul_comm (d ^ k) d, Nat.mul_assoc]
  exact Nat.mul_mod_right _ _
theorem NoDiv.strip {m m2 d t : Nat} (h : NoDiv m d) (hm : m = d ^ t * m2) (h2 : m2 % d ≠ 0) : NoDiv m2 (d + 1) := NoDiv.succ (fun e h1 he h0 => h e h1 he (by
  rw [hm]
  exact Nat.mod_eq_zero_of_dvd (Nat.dvd_trans (Nat.dvd_of_mod_eq_zero h0) (Nat.dvd_mul_left _ _)))) h2
theorem Fac.last {m d : Nat} (hno : NoDiv m d) (hd : m < d * d) (h1 : 1 < m) : Fac m [(m, 1)] :=
  ⟨1, by omega, by simp, hno.ends hd h1, by rw [Nat.mod_eq_of_lt h1]; omega, rfl⟩

theorem Tryd.infoFactor : (Tryd.prog.info? 43).map (fun i => (i.zero.map (fun z => z.cells.size), i.size, i.bytes)) = some (some 2, 2, 16) := by kernel_rfl

theorem cell_two_new (w : World) (x y : Value) (t : TypeId) : ∀ j u, [x, y][j]? = some u → (w.alloc (.cells #[x, y] t)).cell? ((⟨w.heap.size, 0, none⟩ : Addr).add j) = some u := by
  intro j u hu
  have hb : Blk (w.alloc (.cells #[x, y] t)) w.heap.size t [x, y] := Blk.new_ rfl
  have ha : (⟨w.heap.size, 0, none⟩ : Addr).add j = ⟨w.heap.size, 0 + j, none⟩ := by unfold Addr.add; split <;> simp_all
  rw [ha, hb.cell, Nat.zero_add]
  exact hu

/-- One factor more. -/
theorem app_factor (w : World) (base : Nat) (v : Value) (L : List (Nat × Nat)) (p t : Nat) (hown : w.ownsRow base 43 2 v L.length (facCells L)) (hL : L.length ≤ 100000) (hbase : base ≤ w.heap.size) :
    ∃ v' w', (Builtin.append_ #[38, 38] 38 #[v, .slice (some ⟨w.heap.size, 0, none⟩) 1 1]).run Tryd.prog (w.alloc (.cells #[.int .u32 (p : Int), .int .i64 (t : Int)] 43)) = .ok v' w' ∧
      w'.ownsRow base 43 2 v' (L ++ [(p, t)]).length (facCells (L ++ [(p, t)])) ∧ Below base w w' := by
  have hI := Tryd.infoFactor
  cases hi : Tryd.prog.info? 43 with
  | none => rw [hi] at hI; cases hI
  | some i =>
    rw [hi] at hI
    simp only [Option.map_some, Option.some.injEq, Prod.mk.injEq] at hI
    obtain ⟨hz, h2, h3⟩ := hI
    cases hz0 : i.zero with
    | none => rw [hz0] at hz; cases hz
    | some z =>
      rw [hz0] at hz
      have hzs : z.cells.size = 2 := by simpa using hz
      have hbel : Below base w (w.alloc (.cells #[.int .u32 (p : Int), .int .i64 (t : Int)] 43)) := (Below.refl _ _).alloc hbase _
      have hown1 : (w.alloc (.cells #[.int .u32 (p : Int), .int .i64 (t : Int)] 43)).ownsRow base 43 2 v L.length (facCells L) := by
        obtain ⟨hl, h | ⟨g, cap, cur, e1, e2, e3, e4⟩⟩ := hown
        · exact ⟨hl, .inl h⟩
        · exact ⟨hl, .inr ⟨g, cap, cur, e1, e2, by
            have hb : Blk w g 43 cur.toList := by simpa [Blk] using e3
            have := hb.heapAlloc (.cells #[.int .u32 (p : Int), .int .i64 (t : Int)] 43)
            simpa [Blk] using this, e4⟩⟩
      obtain ⟨v', w', hrun, ho, hg, _⟩ := run_append_own_at (P := Tryd.prog) _ base 38 38 43 i z 2 16 Tryd.underlying38 hi hz0 h2 h3 hzs (by omega) v L.length (facCells L) hown1
        ⟨w.heap.size, 0, none⟩ 1 1 [.int .u32 (p : Int), .int .i64 (t : Int)] rfl (cell_two_new w _ _ _) (by intro u hu; simp at hu; rcases hu with rfl | rfl <;> rfl) (by unfold maxLen; omega) (by omega) (by simp; omega)
      refine ⟨v', w', hrun, ?_, hbel.trans ?_⟩
      · rw [facCells_snoc, List.length_append]
        exact ho
      · refine ⟨hg.os, hg.tape, hg.output, hg.size, fun k hk => hg.block k (by simp; omega) (fun e => ?_)⟩
        have := hown1.lt k e.symm
        omega

/-- The walk's step at an append whose run is known. -/
theorem wpList_append_done {P : Program} {w : World} {ops : Array Oper} {rest : List Oper} {o : Oper} {a : Act} {Q : Exit → Act → World → Prop} (hgd : o.guard = none) (d s : Operand) (dT sT : TypeId)
    (ho : o.op = .call { callee := .builtin .append, args := #[d, s], argTypes := #[dT, sT] }) (dv sv : Value) (hd : a.eval d = dv) (hs : a.eval s = sv) (v' : Value) (w' : World)
    (hrun : (Builtin.append_ #[dT, sT] o.type #[dv, sv]).run P w = .ok v' w') (h : wpList P ops Q rest (a.put o.dst v') w') : wpList P ops Q (o :: rest) a w := by
  refine wpList_plain hgd fun K hK => ?_
  unfold Oper.wp
  simp [execOp, ho, resolve, invoke, builtin, hd, hs, hrun, Result.andThen]
  exact hK _ _ h
end Go.Proofs.YtnjhppdcpjgfmaaDoor
