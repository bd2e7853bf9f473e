/- The reckoner with a memory of calls: its data. No conditions. -/
import Derived.Test.YtacelbpkhdagmaaGreatDoorEvP33
namespace Go.Proofs.YtacelbpkhdagmaaGreatDoor.Ev
open Go

/-- A call that is remembered: its arguments, what hangs on them (named from G to c - 1); its answer, and what hangs on that (named from c to n - 1). -/
structure Ent where
  us : List Value
  l : List (Nat × AB)
  c : Nat
  u : Value
  d : List (Nat × AB)
  n : Nat
/-- By function, by key. -/
abbrev MT := PT (PT (List Ent))

noncomputable def keyI (h : Nat) (n : Int) : Nat := match n with
  | .ofNat n => Nat.mod (Nat.add (Nat.mul h 31) (Nat.add n 3)) 4093
  | .negSucc n => Nat.mod (Nat.add (Nat.mul h 37) (Nat.add n 5)) 4093
noncomputable def keyV (d : Nat) : Value → Nat → Nat :=
  Nat.rec (motive := fun _ => Value → Nat → Nat) (fun _ h => h) (fun _ ih v h => match v with
    | .int _ n => keyI h n
    | .bool b => cond b (Nat.mod (Nat.add (Nat.mul h 3) 11) 4093) h
    | .slice _ l _ => Nat.mod (Nat.add (Nat.mul h 7) l) 4093
    | .string s => List.rec (motive := fun _ => Nat → Nat) (fun h => h) (fun x _ ih h => ih (Nat.mod (Nat.add (Nat.mul h 13) x.toNat) 4093)) s.data.toList h
    | .agg cs => List.rec (motive := fun _ => Nat → Nat) (fun h => h) (fun x _ r h => r (ih x h)) cs.toList h
    | _ => h) d
noncomputable def keyL (l : List Value) : Nat → Nat := List.rec (motive := fun _ => Nat → Nat) (fun h => h) (fun x _ r h => r (keyV 4 x h)) l
noncomputable def keyB (b : AB) (h : Nat) : Nat := match b with | .cells _ _ l => keyL l h | _ => h
noncomputable def keyC (us : List Value) (l : List (Nat × AB)) : Nat := List.rec (motive := fun _ => Nat → Nat) (fun h => h) (fun p _ r h => r (keyB p.2 h)) l (keyL us 1)

noncomputable def findE (us : List Value) (l : List (Nat × AB)) (c : Nat) (es : List Ent) : Option Ent :=
  List.rec (motive := fun _ => Option Ent) none (fun e _ ih => cond (Nat.beq e.c c && beqL (beqV 8) e.us us && beqL beqP e.l l) (some e) ih) es

/-- The names of what was there, back. -/
noncomputable def oldT (N : Nat) (σ : PT Nat) (olds : List Nat) : (PT Nat → Rs Out) → Rs Out :=
  List.rec (motive := fun _ => (PT Nat → Rs Out) → Rs Out) (fun k => k .nil) (fun n _ ih k => ih (fun τ => match σ.get n with
    | some m => cond (Nat.blt n N) (PT.insK 60 τ m (some n) k (.bad 301)) (.bad 302)
    | none => .bad 303)) olds
/-- The names of what is new. -/
noncomputable def newT (c N : Nat) (j : Nat) : PT Nat → (PT Nat → Rs Out) → Rs Out :=
  Nat.rec (motive := fun _ => PT Nat → (PT Nat → Rs Out) → Rs Out) (fun τ k => k τ) (fun j ih τ k => forceN (Nat.add c j) fun m => forceN (Nat.add N j) fun n => PT.insK 60 τ m (some n) (fun τ' => ih τ' k) (.bad 304)) j
noncomputable def renP (G : Nat) (τ : PT Nat) (p : Nat × AB) : Option (Nat × AB) := match τ.get p.1, renB G τ p.2 with | some m, some b => some (m, b) | _, _ => none
noncomputable def back (G N : Nat) (σ : PT Nat) (olds : List Nat) (e : Ent) : Rs Out :=
  cond (flat 3 e.u) (match e.d with | [] => .ok (.v e.u [] N) | _ => .bad 306)
    (oldT N σ olds fun τ => forceN (Nat.sub e.n e.c) fun j => newT e.c N j τ fun τ => match renV G τ 6 e.u, mapO (renP G τ) e.d with
      | some u, some d => forceN (Nat.add N j) fun N' => .ok (.v u d N')
      | _, _ => .bad 305)
/-- Do the tables stand as they are laid? -/
noncomputable def tabChk (H : HP) (tabs : List (Nat × List Value)) : Bool :=
  List.rec (motive := fun _ => Bool) true (fun p _ ih => (match H.get p.1 with | some (.cells false _ l) => beqL (beqV 8) l p.2 | _ => false) && ih) tabs
/-- The tables, as blocks; te: their elements' types. -/
def tabE (te : Nat → TypeId) (tabs : List (Nat × List Value)) : List (Nat × AB) := tabs.map fun p => (p.1, .cells false (te p.1) p.2)
noncomputable def memoEnd (G : Nat) (tabs : List (Nat × List Value)) (t : PT (List Ent)) (own : Rs Out) (us : List Value) (H : HP) (N : Nat) (olds : List Nat) (σ : PT Nat) (cnt : Nat) : Rs Out :=
  match mapO (renV G σ 6) us, gather G H σ olds with
  | some us, some l => (match t.get (keyC us l) with
    | some es => (match findE us l cnt es with
      | some e => cond (tabChk H tabs) (back G N σ olds e) own
      | none => own)
    | none => own)
  | _, _ => own
/-- A call: is it remembered? -/
noncomputable def memoC (G : Nat) (tabs : List (Nat × List Value)) (tbl : MT) (call : CallT) (f : FuncId) (us : List Value) (H : HP) (N : Nat) : Rs Out :=
  match tbl.get f with
  | none => call f us H N
  | some t => disc G H packFuel us [] .nil G (memoEnd G tabs t (call f us H N) us H N)
noncomputable def machM (P : Program) (G : Nat) (okTail : Array Oper → Nat → Bool) (tabs : List (Nat × List Value)) (tbl : MT) (n : Nat) : Mc :=
  Nat.rec (motive := fun _ => Mc) ⟨fun _ _ _ _ => .bad 220, fun _ _ _ _ => .bad 220⟩ (fun _ ih => ⟨memoC G tabs tbl fun f args H N => ckOut N ((fnF P G okTail f).run ih args H N), fun l args H N => ckOut N (yieldC P G okTail ih l args H N)⟩) n

/-- One entry more. -/
noncomputable def addK1 {β : Type} (tbl : MT) (f : FuncId) (t : PT (List Ent)) (key : Nat) (es : List Ent) (k : MT → β) : β :=
  PT.insK 60 t key (some es) (fun t => PT.insK 60 tbl f (some t) k (k tbl)) (k tbl)
noncomputable def addEK {β : Type} (tbl : MT) (f : FuncId) (e : Ent) (k : MT → β) : β :=
  forceN (keyC e.us e.l) fun key => match tbl.get f with
  | none => addK1 tbl f .nil key [e] k
  | some t => (match t.get key with
    | none => addK1 tbl f t key [e] k
    | some es => addK1 tbl f t key (e :: es) k)
noncomputable def addL (es : List (FuncId × Ent)) : MT → MT := List.rec (motive := fun _ => MT → MT) (fun t => t) (fun p _ ih t => addEK t p.1 p.2 ih) es
/-- Is that the answer? -/
noncomputable def isE (e : Ent) (r : Rs Out) : Bool := match r with
  | .ok (.v u d n) => Nat.beq e.n n && beqV 8 e.u u && beqL beqP e.d d
  | _ => false
/-- Is each the answer, with those ahead of it remembered? -/
noncomputable def chkE (P : Program) (G : Nat) (okTail : Array Oper → Nat → Bool) (tabs : List (Nat × List Value)) (te : Nat → TypeId) (n : Nat) (es : List (FuncId × Ent)) : MT → Bool :=
  List.rec (motive := fun _ => MT → Bool) (fun _ => true) (fun p _ ih tbl => isE p.2 ((machM P G okTail tabs tbl n).call p.1 p.2.us (tabH (p.2.l ++ tabE te tabs)) p.2.c) && addEK tbl p.1 p.2 ih) es

/-! Short names for what is remembered. -/
def wT : Value := .bool true
def wF : Value := .bool false
def wi (n : Nat) : Value := .int .i64 (.ofNat n)
def wu (n : Nat) : Value := .int .u64 (.ofNat n)
def wn (k : IntKind) (n : Nat) : Value := .int k (.ofNat n)
def wm (k : IntKind) (n : Nat) : Value := .int k (.negSucc n)
def ws (l : List Nat) : Value := .string ⟨⟨l.map UInt8.ofNat⟩⟩
def wP : Value := .pointer none
def wp (n o : Nat) (s : Option Nat) : Value := .pointer (some ⟨n, o, s⟩)
def w0 (l c : Nat) : Value := .slice none l c
def wl (n o l c : Nat) : Value := .slice (some ⟨n, o, none⟩) l c
def wq (n o q l c : Nat) : Value := .slice (some ⟨n, o, some q⟩) l c
def wa (l : List Value) : Value := .agg ⟨l⟩
def wc (l : List Value) : Value := .tuple ⟨l⟩
def h0 (n e : Nat) (l : List Value) : Nat × AB := (n, .cells false e l)
def h1 (n e : Nat) (l : List Value) : Nat × AB := (n, .cells true e l)
end Go.Proofs.YtacelbpkhdagmaaGreatDoor.Ev
