/- The reckoner: one operation. No conditions. -/
import Derived.Test.YtadpelhmjmamnaaGreatDoorEvP16
namespace Go.Proofs.YtadpelhmjmamnaaGreatDoor.Ev
open Go Go.RowKit

/-- What a call, or a round, leads to. -/
def NextOk (P : Program) (s : Sem Next) (ρ : Env) (N : Nat) (out : Out) (w : World) : Prop :=
  match out with
  | .v u d N' => N ≤ N' ∧ (Dom ρ N → ∀ (ro : Option Nat) (m : Nat) (o : Oper) (a : Act) (K : Act → World → Prop) (Q : Exit → Act → World → Prop),
      (∀ v w' ρ', Grew P ρ ρ' N N' d w w' → VR ρ' u v → K (a.put o.dst v) w') → o.uponIn (fe ro) m P a K Q (s.run P w))
  | .w u H' N' lo => N ≤ N' ∧ (Dom ρ N → ∀ (ro : Option Nat) (m : Nat) (o : Oper) (a : Act) (K : Act → World → Prop) (Q : Exit → Act → World → Prop),
      (∀ v w' ρ', Wrote P ρ ρ' N N' lo H' w w' → VR ρ' u v → K (a.put o.dst v) w') → o.uponIn (fe ro) m P a K Q (s.run P w))
def CallOk (P : Program) (G : Nat) (call : CallT) : Prop := ∀ f us vs H N out ρ w, call f us H N = .ok out → Sat P ρ H w → Glob G ρ → (∀ n b, H.get n = some b → n < N) → VL ρ us vs → NextOk P (callFunc f ⟨vs⟩) ρ N out w
def YldOk (P : Program) (G : Nat) (yld : YldT) : Prop := ∀ l b C us vs H N out ρ w, yld l us H N = .ok out → Sat P ρ H w → Glob G ρ → (∀ n b, H.get n = some b → n < N) → ρ l = some (b, C) → VL ρ us vs → NextOk P (Instr.yield b ⟨vs⟩) ρ N out w
theorem NextOk.op {P : Program} {s : Sem Next} {ρ : Env} {N : Nat} {out : Out} {a : Act} {w : World} {o : Oper} (h : NextOk P s ρ N out w) (hd : ∀ c, o.op ≠ .defer c) (hs : (execOp a.eval o).run P w = s.run P w) : OpOk P o ρ N out a w := by
  cases out with
  | v u d N' => exact ⟨h.1, fun hF ro m K Q hK => ⟨fun _ _ => trivial, by rw [Oper.semAt_eq _ _ _ hd, hs]; exact h.2 hF ro m o a K Q hK⟩⟩
  | w u H' N' lo => exact ⟨h.1, fun hF ro m K Q hK => ⟨fun _ _ => trivial, by rw [Oper.semAt_eq _ _ _ hd, hs]; exact h.2 hF ro m o a K Q hK⟩⟩

section
variable {P : Program} {G : Nat} {ρ : Env} {T : PT Value} {H : HP} {N : Nat} {out : Out} {a : Act} {w : World} {dst : Option Tmp} {type : TypeId} {pos : String} {after : Array Edge} {guard : Option (Nat × Bool)}
theorem callv_ok {call : CallT} {yld : YldT} {f : Operand} {args : Array Operand} {ts : Array TypeId} (hc : CallOk P G call) (hy : YldOk P G yld) (hS : Sat P ρ H w) (hT : TR ρ T a.tmps) (hG : Glob G ρ) (hN : ∀ n b, H.get n = some b → n < N)
    (h : (match aeval G T f with
    | some (.func (.func g) first captured) => vals G T args.toList fun vs => appK vs captured.toList fun l => appK first.toList l fun l => call g l H N
    | some (.func (.yield n) _ _) => vals G T args.toList fun vs => yld n vs H N
    | _ => .bad 112) = Rs.ok out) : OpOk P ⟨dst, .call { callee := .value f, args, argTypes := ts }, type, pos, after, guard⟩ ρ N out a w := by
  have e : ∀ (l : Array Operand), l.map a.eval = ⟨l.toList.map a.eval⟩ := fun l => Array.ext' (by simp)
  split at h
  · rename_i g first captured hf
    have h1 := aeval_sound hT hG hf
    obtain ⟨us, h2, hv, _⟩ := vals_sound hT hG _ _ _ h
    rw [appK_eq, appK_eq] at h2
    generalize hvf : a.eval f = vf at h1
    cases h1 with
    | @func _ us0 vs0 xs0 ys0 e1 e2 e3 e4 =>
    have hall : VL ρ (us0 ++ (us ++ xs0)) (vs0 ++ (args.toList.map a.eval ++ ys0)) := VL.append ⟨e1, e2⟩ (hv.append ⟨e3, e4⟩)
    have hn := hc _ _ _ _ _ _ _ _ h2 hS hG hN hall
    refine hn.op (fun _ h => (by cases h)) ?_
    simp only [execOp, resolve, hvf, Deferred.ofValue, Sem.run_bind, Sem.run_pure, Result.andThen_ok, invoke]
    congr 2
    apply Array.ext'
    simp
  · rename_i n b c hf
    have h1 := aeval_sound hT hG hf
    obtain ⟨us, h2, hv, _⟩ := vals_sound hT hG _ _ _ h
    generalize hvf : a.eval f = vf at h1
    cases h1 with
    | @yld _ b C hb =>
    have hn := hy _ _ _ _ _ _ _ _ _ _ h2 hS hG hN hb hv
    refine hn.op (fun _ h => (by cases h)) ?_
    simp only [execOp, resolve, hvf, Deferred.ofValue, Sem.run_bind, Sem.run_pure, Result.andThen_ok, invoke]
    congr 2
    apply Array.ext'
    simp
  · cases h
theorem meth_run {t : TypeId} {name : String} {f : FuncId} (h : methO P t name = some f) (v : Value) (args : Array Value) : (callMethod (.iface t v) name args).run P w = (callFunc f (#[v] ++ args)).run P w := by
  unfold methO at h
  split at h
  · rename_i i hi
    split at h
    · rename_i m hm
      split at h
      · rename_i f' hf hp
        split at h
        · cases h
        · rename_i d hd hu
          cases h
          have hn : P.types.size + Made.depth = (P.types.size + (Made.depth - 1)) + 1 := rfl
          have hpath : m.path.isEmpty = true := by
            rw [Array.isEmpty_iff]
            exact Array.ext' (by simpa using hp)
          have hrec : ∀ wr, (receiverAt t (.val v) false wr).run P w = .ok v w := fun wr => by
            unfold receiverAt
            rw [Sem.run_bind, run_under hu, Result.andThen_ok]
            cases d <;> first | exact absurd rfl (hd _) | rfl
          have hmeth : (method (P.types.size + Made.depth) t v name).run P w = .ok (f, v) w := by
            rw [hn]
            unfold method
            rw [Sem.run_bind, run_info hi, Result.andThen_ok, hm]
            simp only [hp, follow, Sem.run_bind, Sem.run_pure, Result.andThen_ok, hf, hrec]
          simp [callMethod, hmeth]
        · cases h
      · cases h
    · cases h
  · cases h
theorem invoke_ok {call : CallT} {r : Operand} {name : String} {args : Array Operand} {ts : Array TypeId} (hc : CallOk P G call) (hS : Sat P ρ H w) (hT : TR ρ T a.tmps) (hG : Glob G ρ) (hN : ∀ n b, H.get n = some b → n < N)
    (h : (match aeval G T r with
    | some (.iface t v) => (match methO P t name with
      | some f => vals G T args.toList fun vs => call f (v :: vs) H N
      | none => .bad 163)
    | _ => .bad 164) = Rs.ok out) : OpOk P ⟨dst, .call { callee := .invoke r name, args, argTypes := ts }, type, pos, after, guard⟩ ρ N out a w := by
  split at h
  · rename_i t v hr
    split at h
    · rename_i f hm
      have h1 := aeval_sound hT hG hr
      obtain ⟨us, h2, hv, _⟩ := vals_sound hT hG _ _ _ h
      generalize hvr : a.eval r = vr at h1
      cases h1 with
      | @iface _ _ v' h1 =>
      have hn := hc _ _ _ _ _ _ _ _ h2 hS hG hN (VL.cons h1 hv)
      refine hn.op (fun _ h => (by cases h)) ?_
      simp only [execOp, resolve, Sem.run_bind, Sem.run_pure, Result.andThen_ok, invoke, hvr]
      have e0 : (#[Value.iface t v'] ++ args.map a.eval)[0]? = some (.iface t v') := by
        rw [Array.getElem?_append_left (show 0 < (#[Value.iface t v'] : Array Value).size from Nat.zero_lt_one)]; rfl
      rw [e0]
      have e1 : (#[Value.iface t v'] ++ args.map a.eval).extract 1 (#[Value.iface t v'] ++ args.map a.eval).size = args.map a.eval := by simp
      simp only [e1]
      rw [meth_run hm]
      congr 2
      exact Array.ext' (by simp)
    · cases h
  · cases h
theorem run_len {t : TypeId} {x : Operand} {n : Nat} {e : TypeId} (hu : P.underlying t = some (.slice e)) {b : Option Addr} {c : Nat} (hx : a.eval x = .slice b n c) :
    (execOp a.eval ⟨dst, .call { callee := .builtin .len, args := ⟨[x]⟩, argTypes := ⟨[t]⟩ }, type, pos, after, guard⟩).run P w = .ok (.value (.int .i64 (n : Int))) w := by
  refine run_call_builtin (fun consts => ?_)
  have : (⟨[x]⟩ : Array Operand).map a.eval = #[.slice b n c] := Array.ext' (by simp [hx])
  rw [this]
  simp only [builtin, Builtin.len_, Sem.run_bind, List.getElem?_toArray, List.getElem?_cons_zero, run_under hu, Result.andThen_ok]
  rfl
theorem run_cap {t : TypeId} {x : Operand} {n : Nat} {e : TypeId} (hu : P.underlying t = some (.slice e)) {b : Option Addr} {c : Nat} (hx : a.eval x = .slice b n c) :
    (execOp a.eval ⟨dst, .call { callee := .builtin .cap, args := ⟨[x]⟩, argTypes := ⟨[t]⟩ }, type, pos, after, guard⟩).run P w = .ok (.value (.int .i64 (c : Int))) w := by
  refine run_call_builtin (fun consts => ?_)
  have : (⟨[x]⟩ : Array Operand).map a.eval = #[.slice b n c] := Array.ext' (by simp [hx])
  rw [this]
  simp only [builtin, Builtin.cap_, Sem.run_bind, List.getElem?_toArray, List.getElem?_cons_zero, run_under hu, Result.andThen_ok]
  rfl
theorem len_ok {t : TypeId} {x : Operand} (hS : Sat P ρ H w) (hT : TR ρ T a.tmps) (hG : Glob G ρ)
    (h : (match aeval G T x with
      | some (.map r) => (match mapO' P t, mapAt H (.map r) with | some _, some l => Rs.ok (.v (.int .i64 l.length) [] N) | _, _ => .bad 148)
      | some v => (match lenV v, sliceO P t with | some n, some _ => .ok (.v (.int .i64 n) [] N) | _, _ => flatC P G T N ⟨dst, .call { callee := .builtin .len, args := ⟨[x]⟩, argTypes := ⟨[t]⟩ }, type, pos, after, guard⟩)
      | none => .bad 110) = Rs.ok out) : OpOk P ⟨dst, .call { callee := .builtin .len, args := ⟨[x]⟩, argTypes := ⟨[t]⟩ }, type, pos, after, guard⟩ ρ N out a w := by
  split at h
  · rename_i r hx
    have h1 := aeval_sound hT hG hx
    split at h
    · rename_i p l hmo hma
      obtain ⟨d, e⟩ := p
      obtain ⟨k, hu, _, _⟩ := mapO_spec hmo
      cases h
      refine pure_ok rfl (v := .int .i64 (l.length : Int)) (run_call_builtin (fun consts => ?_)) (.int _ _) (fun _ h => (by cases h))
      rcases mapAt_sound hS h1 hma with ⟨hax, rfl⟩ | ⟨n, r, C, es, clock, _, hax, hn, hg, hr, hv1, hv2⟩
      · have : (⟨[x]⟩ : Array Operand).map a.eval = #[.map none] := Array.ext' (by simp [hax])
        rw [this]
        simp only [builtin, Builtin.len_, Sem.run_bind, List.getElem?_toArray, List.getElem?_cons_zero, run_under hu, Result.andThen_ok]
        rfl
      · have : (⟨[x]⟩ : Array Operand).map a.eval = #[.map (some r)] := Array.ext' (by simp [hax])
        rw [this]
        simp only [builtin, Builtin.len_, Sem.run_bind, List.getElem?_toArray, List.getElem?_cons_zero, run_under hu, Result.andThen_ok, run_getMap hr]
        have hl : l.length = es.size := by have := hv1.1; simpa using this
        rw [hl]
        rfl
    · cases h
  · rename_i v _ hx
    have h1 := aeval_sound hT hG hx
    split at h
    · rename_i n p hl hso
      obtain ⟨e, sz⟩ := p
      obtain ⟨hu, _⟩ := sliceO_spec hso
      cases h
      obtain ⟨b, c, rfl⟩ := lenV_spec hl
      obtain ⟨bs, c', hax, _⟩ := h1.slice rfl
      exact pure_ok rfl (run_len hu hax) (.int _ _) (fun _ h => (by cases h))
    · exact flat_ok hT hG h (fun _ h => (by cases h)) (fun _ _ h => (by cases h))
  · cases h
theorem cap_ok {t : TypeId} {x : Operand} (hT : TR ρ T a.tmps) (hG : Glob G ρ)
    (h : (match aeval G T x with | some v => (match capV v, sliceO P t with | some n, some _ => Rs.ok (.v (.int .i64 n) [] N) | _, _ => flatC P G T N ⟨dst, .call { callee := .builtin .cap, args := ⟨[x]⟩, argTypes := ⟨[t]⟩ }, type, pos, after, guard⟩) | none => .bad 111) = Rs.ok out) :
    OpOk P ⟨dst, .call { callee := .builtin .cap, args := ⟨[x]⟩, argTypes := ⟨[t]⟩ }, type, pos, after, guard⟩ ρ N out a w := by
  split at h
  · rename_i v hx
    have h1 := aeval_sound hT hG hx
    split at h
    · rename_i n p hl hso
      obtain ⟨e, sz⟩ := p
      obtain ⟨hu, _⟩ := sliceO_spec hso
      cases h
      obtain ⟨b, o, l, rfl⟩ := capV_spec hl
      obtain ⟨bs, c', hax, _, hbase⟩ := h1.slice rfl
      obtain ⟨ba, C, rfl, _, hcap, _⟩ := hbase b o none rfl
      obtain rfl := hcap rfl
      exact pure_ok rfl (run_cap hu hax) (.int _ _) (fun _ h => (by cases h))
    · exact flat_ok hT hG h (fun _ h => (by cases h)) (fun _ _ h => (by cases h))
  · cases h
theorem builtin_ok {b : Builtin} {args : List Operand} {ts : List TypeId} (hS : Sat P ρ H w) (hT : TR ρ T a.tmps) (hG : Glob G ρ) (hN : ∀ n b, H.get n = some b → n < N)
    (h : builtinC P G ⟨dst, .call { callee := .builtin b, args := ⟨args⟩, argTypes := ⟨ts⟩ }, type, pos, after, guard⟩ T H N b args ts = .ok out) : OpOk P ⟨dst, .call { callee := .builtin b, args := ⟨args⟩, argTypes := ⟨ts⟩ }, type, pos, after, guard⟩ ρ N out a w := by
  unfold builtinC at h
  split at h
  · exact append_ok hS hT hG hN h
  · exact copy_ok hS hT hG hN h
  · exact len_ok hS hT hG h
  · exact cap_ok hT hG h
  · exact flat_ok hT hG h (fun _ h => (by cases h)) (fun _ _ h => (by cases h))
/-- **One operation.** -/
theorem aop_ok {call : CallT} {yld : YldT} {o : Oper} (hc : CallOk P G call) (hy : YldOk P G yld) (hS : Sat P ρ H w) (hT : TR ρ T a.tmps) (hG : Glob G ρ) (hN : ∀ n b, H.get n = some b → n < N) (h : aop P G call yld o T H N = .ok out) : OpOk P o ρ N out a w := by
  obtain ⟨dst, op, type, pos, after, guard⟩ := o
  cases op with
  | move x => exact move_ok (.inl rfl) hT hG h
  | assign x => exact move_ok (.inr rfl) hT hG h
  | pick c x y => exact pick_ok hT hG h
  | alloc e => exact alloc_ok h
  | box e x => exact box_ok hT hG h
  | build t parts => exact build_ok hT hG h
  | buildSlice t len parts => exact buildSlice_ok hT hG h
  | load t x => exact load_ok hS hT hG h
  | store t x y => exact store_ok hS hT hG hN h
  | nilCheck x => exact nilCheck_ok hT hG h
  | binOp op t x y yt => exact binOp_ok hT hG h
  | unOp op t x => exact unOp_ok hT hG h
  | convert s d x => exact convert_ok hT hG h
  | makeInterface t x => exact makeInterface_ok hT hG h
  | makeFunc fn first captured => cases fn with
    | func f => exact makeFunc_ok hT hG h
    | method f => exact makeMeth_ok hT hG h
    | _ => cases h
  | makeMap t r => cases r with
    | none => exact makeMap_ok h
    | some r => cases h
  | makeSlice t x y => exact makeSlice_ok hT hG h
  | slice t x lo hi mx => exact slice_ok hT hG h
  | fieldAddr t x f => exact fieldAddr_ok hT hG h
  | field t x f => exact field_ok hT hG h
  | indexAddr t x i => exact indexAddr_ok hT hG h
  | index t x i => exact index_ok hT hG h
  | lookup t x i ok => exact lookup_ok hS hT hG h
  | mapUpdate t x i y => exact mapUpdate_ok hS hT hG hN h
  | typeAssert x xt t ok => exact typeAssert_ok hT hG h
  | extract x i => exact extract_ok hT hG h
  | call c =>
    obtain ⟨callee, args, ts⟩ := c
    cases callee with
    | value f => exact callv_ok hc hy hS hT hG hN h
    | invoke r m => exact invoke_ok hc hS hT hG hN h
    | builtin b =>
      obtain ⟨args⟩ := args
      obtain ⟨ts⟩ := ts
      exact builtin_ok hS hT hG hN h
  | _ => cases h
end
end Go.Proofs.YtadpelhmjmamnaaGreatDoor.Ev
