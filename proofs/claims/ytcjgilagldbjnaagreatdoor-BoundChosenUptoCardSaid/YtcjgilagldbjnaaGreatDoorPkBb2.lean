/- The reckoner, made ready: each operation is first turned int. The reckoner: are two values one? No conditions. -/
import Derived.Test.YtcjgilagldbjnaaGreatDoorPkBb1
namespace Go.Proofs.YtcjgilagldbjnaaGreatDoor
section
namespace Ev
open Go
inductive DE where
 | mark (n : Nat)
 | call (g : FuncId) (us : List Value)
structure St where
 T : PT Value
 H : HP
 N : Nat
 lo : Nat
 D : List DE
inductive Ex where
 | normal
 | exit (id : Nat)
 | ret
abbrev RX := Rs (Ex × St)
abbrev CallT := FuncId → List Value → HP → Nat → Rs Out
abbrev YldT := Nat → List Value → HP → Nat → Rs Out
/-! Values, by what is asked of them. -/
inductive VI where
 | int (k : IntKind) (n : Int)
 | no
inductive VP where
 | ptr (n o : Nat)
 | no
inductive VS where
 | sl (n o l : Nat)
 | no
inductive VB where
 | b (b : Bool)
 | no
inductive VF where
 | fn (f : FuncId) (a b : List Value)
 | yl (n : Nat)
 | no
noncomputable def vI (v : Value) : VI := Value.rec (motive_1 := fun _ => VI) (motive_2 := fun _ => Unit) (motive_3 := fun _ => Unit) (fun _ => .no) (fun k n => .int k n) (fun _ _ => .no) (fun _ _ _ => .no) (fun _ => .no) (fun _ => .no) (fun _ _ _ => .no) (fun _ => .no) (fun _ => .no) (fun _ _ _ _ _ => .no) (.no) (fun _ _ _ => .no) (.no) (fun _ _ => .no) (fun _ _ => .no) (fun _ _ => ()) () (fun _ _ _ _ => ()) v
noncomputable def vP (v : Value) : VP := Value.rec (motive_1 := fun _ => VP) (motive_2 := fun _ => Unit) (motive_3 := fun _ => Unit) (fun _ => .no) (fun _ _ => .no) (fun _ _ => .no) (fun _ _ _ => .no) (fun _ => .no) (fun a => Option.rec (motive := fun _ => VP) .no (fun a => Addr.rec (motive := fun _ => VP) (fun n o _ => .ptr n o) a) a) (fun _ _ _ => .no) (fun _ => .no) (fun _ => .no) (fun _ _ _ _ _ => .no) (.no) (fun _ _ _ => .no) (.no) (fun _ _ => .no) (fun _ _ => .no) (fun _ _ => ()) () (fun _ _ _ _ => ()) v
noncomputable def vS (v : Value) : VS := Value.rec (motive_1 := fun _ => VS) (motive_2 := fun _ => Unit) (motive_3 := fun _ => Unit) (fun _ => .no) (fun _ _ => .no) (fun _ _ => .no) (fun _ _ _ => .no) (fun _ => .no) (fun _ => .no) (fun a l _ => Option.rec (motive := fun _ => VS) .no (fun a => Addr.rec (motive := fun _ => VS) (fun n o _ => .sl n o l) a) a) (fun _ => .no) (fun _ => .no) (fun _ _ _ _ _ => .no) (.no) (fun _ _ _ => .no) (.no) (fun _ _ => .no) (fun _ _ => .no) (fun _ _ => ()) () (fun _ _ _ _ => ()) v
noncomputable def vB (v : Value) : VB := Value.rec (motive_1 := fun _ => VB) (motive_2 := fun _ => Unit) (motive_3 := fun _ => Unit) (fun b => .b b) (fun _ _ => .no) (fun _ _ => .no) (fun _ _ _ => .no) (fun _ => .no) (fun _ => .no) (fun _ _ _ => .no) (fun _ => .no) (fun _ => .no) (fun _ _ _ _ _ => .no) (.no) (fun _ _ _ => .no) (.no) (fun _ _ => .no) (fun _ _ => .no) (fun _ _ => ()) () (fun _ _ _ _ => ()) v
noncomputable def vF (v : Value) : VF := Value.rec (motive_1 := fun _ => VF) (motive_2 := fun _ => Unit) (motive_3 := fun _ => Unit) (fun _ => .no) (fun _ _ => .no) (fun _ _ => .no) (fun _ _ _ => .no) (fun _ => .no) (fun _ => .no) (fun _ _ _ => .no) (fun _ => .no) (fun _ => .no) (fun f a b _ _ => Fn.rec (motive := fun _ => VF) (fun f => .fn f a.toList b.toList) (fun _ => .no) (fun _ _ => .no) (fun _ _ _ _ => .no) (fun n => .yl n) f) (.no) (fun _ _ _ => .no) (.no) (fun _ _ => .no) (fun _ _ => .no) (fun _ _ => ()) () (fun _ _ _ _ => ()) v
structure GetC where
 run : PT Value → Option Value
structure SetC (β : Type) where
 run : PT Value → Value → (PT Value → Rs β) → Rs β
def pathN (d : Nat) : Nat → List Bool :=
 Nat.rec (motive := fun _ => Nat → List Bool) (fun _ => []) (fun _ ih i => cond (Nat.beq i 0) [] (cond (Nat.beq (Nat.mod i 2) 1) (true :: ih (Nat.div i 2)) (false :: ih (Nat.pred (Nat.div i 2))))) d
noncomputable def getF (p : List Bool) : GetC :=
 List.rec (motive := fun _ => GetC) ⟨fun T => PT.rec (motive := fun _ => Option Value) none (fun _ v _ _ _ => v) T⟩
  (fun b _ ih => GetC.rec (motive := fun _ => GetC) (fun g => Bool.rec (motive := fun _ => GetC)
   ⟨fun T => PT.rec (motive := fun _ => Option Value) none (fun _ _ r _ _ => g r) T⟩
   ⟨fun T => PT.rec (motive := fun _ => Option Value) none (fun l _ _ _ _ => g l) T⟩ b) ih) p
noncomputable def setF {β : Type} (p : List Bool) : SetC β :=
 List.rec (motive := fun _ => SetC β) ⟨fun T x k => PT.rec (motive := fun _ => Rs β) (.bad 204) (fun l v r _ _ => Option.rec (motive := fun _ => Rs β) (.bad 204) (fun _ => k (.node l (some x) r)) v) T⟩
  (fun b _ ih => SetC.rec (motive := fun _ => SetC β) (fun g => Bool.rec (motive := fun _ => SetC β)
   ⟨fun T x k => PT.rec (motive := fun _ => Rs β) (.bad 204) (fun l v r _ _ => g r x (fun r' => k (.node l v r'))) T⟩
   ⟨fun T x k => PT.rec (motive := fun _ => Rs β) (.bad 204) (fun l v r _ _ => g l x (fun l' => k (.node l' v r))) T⟩ b) ih) p
noncomputable def argF (G : Nat) (x : Operand) : GetC :=
 match x with
 | .tmp t => getF (pathN (Nat.succ t) t)
 | .const v => cond (flat 5 v) ⟨fun _ => some v⟩ ⟨fun _ => none⟩
 | .global g => cond (Nat.blt g G) ⟨fun _ => some (.pointer (some ⟨g, 0, none⟩))⟩ ⟨fun _ => none⟩
 | .func f => ⟨fun _ => some (.func (.func f) #[] #[])⟩
structure ValsC where
 run : PT Value → (List Value → Rs Out) → Rs Out
noncomputable def valsF (G : Nat) (l : List Operand) : ValsC :=
 List.rec (motive := fun _ => ValsC) ⟨fun _ k => k []⟩ (fun x _ ih => GetC.rec (motive := fun _ => ValsC) (fun a => ValsC.rec (motive := fun _ => ValsC) (fun r =>
  ⟨fun T k => Option.rec (motive := fun _ => Rs Out) (.bad 81) (fun v => r T (fun l => k (v :: l))) (a T)⟩) ih) (argF G x)) l
inductive OpC where
 | pure (f : PT Value → (Value → RX) → RX)
 | gen (f : CallT → YldT → PT Value → HP → Nat → Rs Out)
section
variable (P : Program) (G : Nat) (o : Oper)
noncomputable def flatF (T : PT Value) (k : Value → RX) : RX :=
 Rs.rec (motive := fun _ => RX) (fun e => .bad e) (fun out => Out.rec (motive := fun _ => RX) (fun v _ _ => k v) (fun _ _ _ _ => .bad 84) out) (flatC P G T 0 o)
noncomputable def orF (T : PT Value) (r : Rs Value) (k : Value → RX) : RX := Rs.rec (motive := fun _ => RX) (fun _ => flatF P G o T k) (fun v => k v) r
noncomputable def rawN (n : Nat) (k : Nat → RX) : RX := Nat.rec (motive := fun _ => RX) (k 0) (fun m _ => k (Nat.succ m)) n
noncomputable def rawB (b : Bool) (k : Value → RX) : RX := Bool.rec (motive := fun _ => RX) (k (.bool false)) (k (.bool true)) b
noncomputable def rawI (j : IntKind) (n : Int) (k : Value → RX) : RX := Int.rec (motive := fun _ => RX) (fun m => Nat.rec (motive := fun _ => RX) (k (.int j (.ofNat 0))) (fun m _ => k (.int j (.ofNat (Nat.succ m)))) m) (fun m => Nat.rec (motive := fun _ => RX) (k (.int j (.negSucc 0))) (fun m _ => k (.int j (.negSucc (Nat.succ m)))) m) n
noncomputable def wrapK (j : IntKind) (n : Int) (k : Value → RX) : RX :=
 Int.rec (motive := fun _ => RX) (fun m => Bool.rec (motive := fun _ => RX) (rawI j (j.wrap (.ofNat m)) k) (Nat.rec (motive := fun _ => RX) (k (.int j (.ofNat 0))) (fun m _ => k (.int j (.ofNat (Nat.succ m)))) m) (Nat.blt m (topN j))) (fun m => rawI j (j.wrap (.negSucc m)) k) n
noncomputable def ltI (a b : Int) : Bool := Int.rec (motive := fun _ => Bool) (fun m => Int.rec (motive := fun _ => Bool) (fun n => Nat.blt m n) (fun _ => false) b) (fun m => Int.rec (motive := fun _ => Bool) (fun _ => true) (fun n => Nat.blt n m) b) a
noncomputable def eqI (a b : Int) : Bool := Int.rec (motive := fun _ => Bool) (fun m => Int.rec (motive := fun _ => Bool) (fun n => Nat.beq m n) (fun _ => false) b) (fun m => Int.rec (motive := fun _ => Bool) (fun _ => false) (fun n => Nat.beq m n) b) a
noncomputable def addI (j : IntKind) (a b : Int) (k : Value → RX) (_ : RX) : RX := wrapK j (Int.add a b) k
noncomputable def subI (j : IntKind) (a b : Int) (k : Value → RX) (_ : RX) : RX := wrapK j (Int.sub a b) k
noncomputable def mulI (j : IntKind) (a b : Int) (k : Value → RX) (_ : RX) : RX := wrapK j (Int.mul a b) k
noncomputable def lssI (_ : IntKind) (a b : Int) (k : Value → RX) (_ : RX) : RX := Bool.rec (motive := fun _ => RX) (k (.bool false)) (k (.bool true)) (ltI a b)
noncomputable def gtrI (_ : IntKind) (a b : Int) (k : Value → RX) (_ : RX) : RX := Bool.rec (motive := fun _ => RX) (k (.bool false)) (k (.bool true)) (ltI b a)
noncomputable def leqI (_ : IntKind) (a b : Int) (k : Value → RX) (_ : RX) : RX := Bool.rec (motive := fun _ => RX) (k (.bool true)) (k (.bool false)) (ltI b a)
noncomputable def geqI (_ : IntKind) (a b : Int) (k : Value → RX) (_ : RX) : RX := Bool.rec (motive := fun _ => RX) (k (.bool true)) (k (.bool false)) (ltI a b)
noncomputable def eqlI (_ : IntKind) (a b : Int) (k : Value → RX) (_ : RX) : RX := Bool.rec (motive := fun _ => RX) (k (.bool false)) (k (.bool true)) (eqI a b)
noncomputable def neqI (_ : IntKind) (a b : Int) (k : Value → RX) (_ : RX) : RX := Bool.rec (motive := fun _ => RX) (k (.bool true)) (k (.bool false)) (eqI a b)
noncomputable def slowI (op : BinOp) (j : IntKind) (a b : Int) (k : Value → RX) (e : RX) : RX := Option.rec (motive := fun _ => RX) e (fun r => forceV r k) (fastBin op j a b)
noncomputable def kindB (j k : IntKind) : Bool := IntKind.rec (motive := fun _ => Bool) (kindEq .i8 k) (kindEq .i16 k) (kindEq .i32 k) (kindEq .i64 k) (kindEq .u8 k) (kindEq .u16 k) (kindEq .u32 k) (kindEq .u64 k) j
noncomputable def binI (f : IntKind → Int → Int → (Value → RX) → RX → RX) (op : BinOp) (t : TypeId) (x y : PT Value → Option Value) : OpC :=
 .pure fun T k => (Option.rec (motive := fun _ => RX) (.bad 116) (fun u => (Option.rec (motive := fun _ => RX) (.bad 116) (fun v => (VI.rec (motive := fun _ => RX) (fun j a => (VI.rec (motive := fun _ => RX) (fun l b => (Bool.rec (motive := fun _ => RX) (flatF P G o T k) (f j a b k (flatF P G o T k)) (kindB j l))) (Option.rec (motive := fun _ => RX) (flatF P G o T k) (fun r => forceV r k) (binC P op t u v)) (vI (v)))) (Option.rec (motive := fun _ => RX) (flatF P G o T k) (fun r => forceV r k) (binC P op t u v)) (vI (u)))) (y T))) (x T))
noncomputable def binS (op : BinOp) (t : TypeId) (x y : PT Value → Option Value) : OpC :=
 .pure fun T k => (Option.rec (motive := fun _ => RX) (.bad 116) (fun u => (Option.rec (motive := fun _ => RX) (.bad 116) (fun v => Option.rec (motive := fun _ => RX) (flatF P G o T k) (fun r => forceV r k) (binC P op t u v)) (y T))) (x T))
noncomputable def loadF (x : PT Value → Option Value) (t : TypeId) : OpC :=
 match aggO P t with
 | some false => .gen fun _ _ T H N => (Option.rec (motive := fun _ => Rs Out) (.bad 104) (fun u => (VP.rec (motive := fun _ => Rs Out) (fun n off => (Option.rec (motive := fun _ => Rs Out) (.bad 15) (fun b => AB.rec (motive := fun _ => Rs Out) (fun _ _ l => (Option.rec (motive := fun _ => Rs Out) (.bad 13) (fun v => .ok (.v v [] N)) (nth l off))) (fun _ => .bad 15) (.bad 15) (fun _ _ _ _ _ _ _ => .bad 15) b) (H.get n))) (.bad 104) (vP (u)))) (x T))
 | _ => .gen fun _ _ T H N => (match x T with | some (.pointer (some ⟨n, off, _⟩)) => loadC P H t n off fun v => .ok (.v v [] N) | _ => .bad 104)
noncomputable def idxF (t : TypeId) (x y : PT Value → Option Value) : OpC :=
 match sliceO P t with
 | some (_, sz) => .pure fun T k => (Option.rec (motive := fun _ => RX) (.bad 142) (fun u => (Option.rec (motive := fun _ => RX) (.bad 142) (fun v => (VS.rec (motive := fun _ => RX) (fun n b len => (VI.rec (motive := fun _ => RX) (fun _ i => (Int.rec (motive := fun _ => RX) (fun i => (Bool.rec (motive := fun _ => RX) (flatF P G o T k) (rawN (Nat.add b (Nat.mul i sz)) fun b => k (.pointer (some ⟨n, b, none⟩))) (Nat.blt i len))) (fun _ => flatF P G o T k) (i))) (flatF P G o T k) (vI (v)))) (orF P G o T (indexAddrC P t u v) k) (vS (u)))) (y T))) (x T))
 | none => .pure fun T k => (Option.rec (motive := fun _ => RX) (.bad 142) (fun u => (Option.rec (motive := fun _ => RX) (.bad 142) (fun v => orF P G o T (indexAddrC P t u v) k) (y T))) (x T))
noncomputable def fldF (t : TypeId) (f : Nat) (x : PT Value → Option Value) : OpC :=
 match fieldO P t f with
 | some (ft, off) => (match sizeO P ft with
  | some s => cond (Nat.beq s 0) (.pure fun T k => (Option.rec (motive := fun _ => RX) (.bad 118) (fun u => orF P G o T (fieldAddrC P t u f) k) (x T)))
   (.pure fun T k => (Option.rec (motive := fun _ => RX) (.bad 118) (fun u => (VP.rec (motive := fun _ => RX) (fun n b => rawN (Nat.add b off) fun b => k (.pointer (some ⟨n, b, none⟩))) (orF P G o T (fieldAddrC P t u f) k) (vP (u)))) (x T)))
  | none => .pure fun T k => (Option.rec (motive := fun _ => RX) (.bad 118) (fun u => orF P G o T (fieldAddrC P t u f) k) (x T)))
 | none => .pure fun T k => (Option.rec (motive := fun _ => RX) (.bad 118) (fun u => orF P G o T (fieldAddrC P t u f) k) (x T))
noncomputable def opF : OpC :=
 match o.op with
 | .move x => (match argF G x with | ⟨x⟩ => .pure fun T k => (Option.rec (motive := fun _ => RX) (.bad 101) (fun v => k v) (x T)))
 | .assign x => (match argF G x with | ⟨x⟩ => .pure fun T k => (Option.rec (motive := fun _ => RX) (.bad 101) (fun v => k v) (x T)))
 | .load t x => (match argF G x with | ⟨x⟩ => loadF P x t)
 | .fieldAddr t x f => (match argF G x with | ⟨x⟩ => fldF P G o t f x)
 | .field t x f => (match argF G x with | ⟨x⟩ => .pure fun T k => (Option.rec (motive := fun _ => RX) (.bad 119) (fun v => orF P G o T (fieldC P t v f) k) (x T)))
 | .indexAddr t x i => (match argF G x, argF G i with | ⟨x⟩, ⟨i⟩ => idxF P G o t x i)
 | .extract x i => (match argF G x with | ⟨x⟩ => .pure fun T k => (Option.rec (motive := fun _ => RX) (.bad 144) (fun v => orF P G o T (extractC v i) k) (x T)))
 | .nilCheck x => (match argF G x with | ⟨x⟩ => .pure fun T k => (Option.rec (motive := fun _ => RX) (.bad 115) (fun v => orF P G o T (nilCheckC P v) k) (x T)))
 | .binOp op t x y _ => (match argF G x, argF G y with
  | ⟨x⟩, ⟨y⟩ => (match op with
   | .add => binI P G o addI .add t x y
   | .sub => binI P G o subI .sub t x y
   | .mul => binI P G o mulI .mul t x y
   | .lss => binI P G o lssI .lss t x y
   | .gtr => binI P G o gtrI .gtr t x y
   | .leq => binI P G o leqI .leq t x y
   | .geq => binI P G o geqI .geq t x y
   | .eql => binI P G o eqlI .eql t x y
   | .neq => binI P G o neqI .neq t x y
   | .quo => binI P G o (slowI .quo) .quo t x y
   | .rem => binI P G o (slowI .rem) .rem t x y
   | .and => binI P G o (slowI .and) .and t x y
   | .or => binI P G o (slowI .or) .or t x y
   | .xor => binI P G o (slowI .xor) .xor t x y
   | op => binS P G o op t x y))
 | .unOp op _ x => (match argF G x with | ⟨x⟩ => .pure fun T k => (Option.rec (motive := fun _ => RX) (.bad 160) (fun u => (Option.rec (motive := fun _ => RX) (flatF P G o T k) (fun r => forceV r k) (unC op u))) (x T)))
 | .convert s d x => (match argF G x, P.underlying s, P.underlying d with
  | ⟨x⟩, some _, some (.int j) => .pure fun T k => (Option.rec (motive := fun _ => RX) (.bad 161) (fun u => (VI.rec (motive := fun _ => RX) (fun _ n => wrapK j n k) (flatF P G o T k) (vI (u)))) (x T))
  | ⟨x⟩, _, _ => .pure fun T k => (Option.rec (motive := fun _ => RX) (.bad 161) (fun u => (Option.rec (motive := fun _ => RX) (flatF P G o T k) (fun r => forceV r k) (convC P s d u))) (x T)))
 | .call { callee := .value f, args, .. } => (match argF G f, valsF G args.toList with
  | ⟨f⟩, ⟨vs⟩ => .gen fun call yld T H N => (Option.rec (motive := fun _ => Rs Out) (.bad 112) (fun u => VF.rec (motive := fun _ => Rs Out) (fun g a b => vs T fun vs => appK vs b fun l => appK a l fun l => call g l H N) (fun n => vs T fun vs => yld n vs H N) (.bad 112) (vF u)) (f T)))
 | _ => .gen fun call yld T H N => aop P G call yld o T H N
end
end Ev
end
section
namespace Ev
open Go
noncomputable def beqL {α : Type} (f : α → α → Bool) (a : List α) : List α → Bool :=
 List.rec (motive := fun _ => List α → Bool) (fun b => match b with | [] => true | _ :: _ => false) (fun x _ ih b => match b with | [] => false | y :: b => f x y && ih b) a
def beqO (a b : Option Nat) : Bool := match a, b with | none, none => true | some a, some b => Nat.beq a b | _, _ => false
def beqA (a b : Option Addr) : Bool := match a, b with | none, none => true | some ⟨n, o, s⟩, some ⟨m, p, t⟩ => Nat.beq n m && Nat.beq o p && beqO s t | _, _ => false
def beqT (a b : Bool) : Bool := cond a b (!b)
noncomputable def beqS (a b : ByteArray) : Bool := beqL (fun x y => Nat.beq x.toNat y.toNat) a.data.toList b.data.toList
noncomputable def beqV (d : Nat) : Value → Value → Bool :=
 Nat.rec (motive := fun _ => Value → Value → Bool) (fun _ _ => false) (fun _ ih a b => match a with
  | .bool x => (match b with | .bool y => beqT x y | _ => false)
  | .int j x => (match b with | .int k y => kindEq j k && eqF x y | _ => false)
  | .string x => (match b with | .string y => beqS x y | _ => false)
  | .pointer x => (match b with | .pointer y => beqA x y | _ => false)
  | .slice x l c => (match b with | .slice y m e => beqA x y && Nat.beq l m && Nat.beq c e | _ => false)
  | .nilFunc => (match b with | .nilFunc => true | _ => false)
  | .nilIface => (match b with | .nilIface => true | _ => false)
  | .iface t x => (match b with | .iface u y => Nat.beq t u && ih x y | _ => false)
  | .agg xs => (match b with | .agg ys => beqL ih xs.toList ys.toList | _ => false)
  | .tuple xs => (match b with | .tuple ys => beqL ih xs.toList ys.toList | _ => false)
  | _ => false) d
noncomputable def beqB (a b : AB) : Bool := match a with
 | .cells g e l => (match b with | .cells h f m => beqT g h && Nat.beq e f && beqL (beqV 8) l m | _ => false)
 | _ => false
noncomputable def beqP (p q : Nat × AB) : Bool := Nat.beq p.1 q.1 && beqB p.2 q.2
end Ev
end
end Go.Proofs.YtcjgilagldbjnaaGreatDoor
