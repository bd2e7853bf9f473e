/- A reckoner for closed runs: operations. -/
import Derived.Test.YtcjgilagldbjnaaGreatDoorPkBb0
namespace Go.Proofs.YtcjgilagldbjnaaGreatDoor
namespace Ev
open Go
section lists
variable {α β : Type}
noncomputable def nth (l : List α) : Nat → Option α :=
 List.rec (motive := fun _ => Nat → Option α) (fun _ => none) (fun x _ ih i => Nat.rec (motive := fun _ => Option α) (some x) (fun j _ => ih j) i) l
noncomputable def dropN (l : List α) : Nat → List α :=
 List.rec (motive := fun _ => Nat → List α) (fun _ => []) (fun x r ih i => Nat.rec (motive := fun _ => List α) (x :: r) (fun j _ => ih j) i) l
noncomputable def takeK (l : List α) : Nat → (List α → β) → β → β :=
 List.rec (motive := fun _ => Nat → (List α → β) → β → β) (fun n k e => Nat.rec (motive := fun _ => β) (k []) (fun _ _ => e) n)
  (fun x _ ih n k e => Nat.rec (motive := fun _ => β) (k []) (fun m _ => ih m (fun l' => k (x :: l')) e) n) l
noncomputable def layK (vs : List α) : List α → (List α → β) → β → β :=
 List.rec (motive := fun _ => List α → (List α → β) → β → β) (fun l k _ => k l)
  (fun v _ ih l k e => match l with | [] => e | _ :: l => ih l (fun l' => k (v :: l')) e) vs
noncomputable def spliceK (l : List α) : Nat → List α → (List α → β) → β → β :=
 List.rec (motive := fun _ => Nat → List α → (List α → β) → β → β) (fun i vs k e => Nat.rec (motive := fun _ => β) (layK vs [] k e) (fun _ _ => e) i)
  (fun x r ih i vs k e => Nat.rec (motive := fun _ => β) (layK vs (x :: r) k e) (fun j _ => ih j vs (fun l' => k (x :: l')) e) i) l
noncomputable def appK (a : List α) (b : List α) (k : List α → β) : β :=
 List.rec (motive := fun _ => (List α → β) → β) (fun k => k b) (fun x _ ih k => ih (fun l => k (x :: l))) a k
noncomputable def repl (n : Nat) (z : List α) : List α := Nat.rec (motive := fun _ => List α) [] (fun _ ih => z ++ ih) n
end lists
def oneC : Value → Bool
 | .agg _ | .tuple _ => false
 | _ => true
def sizeO (P : Program) (t : TypeId) : Option Nat := match P.info? t with | some i => some i.size | none => none
def zeroO (P : Program) (t : TypeId) : Option (List Value) := match P.info? t with | some i => (match i.zero with | some v => cond (v.cells.toList.all (flat 5)) (some v.cells.toList) none | none => none) | none => none
def aggO (P : Program) (t : TypeId) : Option Bool := match P.underlying t with
 | some (.struct _) | some (.array _ _) => some true
 | some _ => some false
 | none => none
def sliceO (P : Program) (t : TypeId) : Option (TypeId × Nat) := match P.underlying t with
 | some (.slice e) => (match sizeO P e with | some s => some (e, s) | none => none)
 | _ => none
section
variable {β : Type}
noncomputable def loadC (P : Program) (H : HP) (t : TypeId) (n off : Nat) (k : Value → Rs β) : Rs β :=
 match H.get n with
 | some (.cells _ _ l) => (match aggO P t with
  | some true => (match sizeO P t with | some s => takeK (dropN l off) s (fun cs => k (.agg ⟨cs⟩)) (.bad 11) | none => .bad 12)
  | some false => (match nth l off with | some v => k v | none => .bad 13)
  | none => .bad 14)
 | _ => .bad 15
noncomputable def storeC (P : Program) (H : HP) (t : TypeId) (n off : Nat) (v : Value) (k : HP → Rs β) : Rs β :=
 match H.get n with
 | some (.cells g e l) => (match sizeO P t with
  | some s => cond (Nat.beq v.cells.toList.length s && v.cells.toList.all oneC) (spliceK l off v.cells.toList (fun l' => PT.insK 60 H n (some (.cells g e l')) k (.bad 21)) (.bad 22)) (.bad 23)
  | none => .bad 24)
 | _ => .bad 25
noncomputable def cellsC (H : HP) (sz : Nat) (x : Value) (n : Nat) (k : List Value → Rs β) : Rs β :=
 match x with
 | .slice none _ _ => Nat.rec (motive := fun _ => Rs β) (k []) (fun _ _ => .bad 31) n
 | .slice (some ⟨m, o, _⟩) _ _ => (match H.get m with
  | some (.cells _ _ l) => takeK (dropN l o) (n * sz) k (.bad 32)
  | _ => .bad 33)
 | .string s => k ((s.extract 0 n).data.toList.map fun b => .int .u8 b.toNat)
 | _ => .bad 34
noncomputable def lenC (x : Value) (k : Nat → Rs β) : Rs β :=
 match x with
 | .slice _ n _ => k n
 | .string s => k s.size
 | _ => .bad 35
end
noncomputable def newC (N : Nat) (e : TypeId) (l : List Value) : Rs Out := .ok (.v (.pointer (some ⟨N, 0, none⟩)) [(N, .cells false e l)] (Nat.succ N))
noncomputable def grownC (N : Nat) (e : TypeId) (sz : Nat) (l : List Value) (n : Nat) : Rs Out := cond (Nat.beq l.length (Nat.mul n sz)) (.ok (.v (.slice (some ⟨N, 0, some 0⟩) n n) [(N, .cells true e l)] (Nat.succ N))) (.bad 40)
def rowO (P : Program) (t : TypeId) : Option (TypeId × Nat × Nat × List Value) :=
 match sliceO P t with
 | some (e, sz) => (match P.info? e, zeroO P e with
  | some i, some z => cond (Nat.beq z.length sz && Nat.ble sz 256) (some (e, sz, i.bytes, z)) none
  | _, _ => none)
 | none => none
def notInt (P : Program) (t : TypeId) : Bool := match P.underlying t with
 | some (.int _) => false
 | some _ => true
 | none => false
noncomputable def layC (H : HP) (N b off : Nat) (new : List Value) (u : Value) : Rs Out :=
 match H.get b with
 | some (.cells g e l) => cond (new.all oneC) (spliceK l off new (fun l' => PT.insK 60 H b (some (.cells g e l')) (fun H' => .ok (.w u H' N b)) (.bad 42)) (.bad 43)) (.bad 44)
 | _ => .bad 45
noncomputable def appendC (P : Program) (H : HP) (N : Nat) (st xt : TypeId) (s x : Value) : Rs Out :=
 match rowO P st, s with
 | some (e, sz, by_, _), .slice base sl sc =>
  lenC x fun n => cellsC H sz x n fun new => forceN (Nat.add sl n) fun need => cond (notInt P xt && Nat.ble need 65536 && Nat.ble by_ 65536 && Nat.blt 0 by_)
   (match base with
   | none => cond (Nat.beq sl 0 && Nat.beq sc 0) (cond (Nat.beq n 0) (.ok (.v s [] N)) (grownC N e sz new need)) (.bad 41)
   | some ⟨b, o, none⟩ => cond (Nat.ble need sc)
    (match new with
     | [] => .ok (.v (.slice base need sc) [] N)
     | _ => layC H N b (o + sl * sz) new (.slice base need sc))
    (cellsC H sz s sl fun old => appK old new fun l => grownC N e sz l need)
   | some ⟨b, o, some _⟩ => cond (Nat.beq n 0) (match new with | [] => .ok (.v s [] N) | _ => .bad 38) (cond (Nat.beq o 0)
     (match H.get b with
     | some (.cells true e' l) => cond (Nat.beq e' e && new.all oneC) (takeK l (sl * sz) (fun old => appK old new fun l => cond (Nat.beq l.length (Nat.mul need sz))
      (PT.insK 60 H b none (fun H1 => PT.insK 60 H1 N (some (.cells true e l)) (fun H2 => .ok (.w (.slice (some ⟨N, 0, some 0⟩) need need) H2 (Nat.succ N) b)) (.bad 46)) (.bad 47)) (.bad 39)) (.bad 48)) (.bad 49)
     | _ => .bad 50) (.bad 51))) (.bad 52)
 | _, _ => .bad 53
noncomputable def copyC (P : Program) (H : HP) (N : Nat) (st : TypeId) (d x : Value) : Rs Out :=
 match sliceO P st, d with
 | some (_, sz), .slice base dl _ =>
  lenC x fun m => forceN (cond (Nat.ble m dl) m dl) fun n => cellsC H sz x n fun new =>
   match new with
   | [] => .ok (.v (.int .i64 n) [] N)
   | _ => (match base with
    | some ⟨b, o, _⟩ => layC H N b o new (.int .i64 n)
    | none => .bad 56)
 | _, _ => .bad 57
noncomputable def makeSliceC (P : Program) (N : Nat) (t : TypeId) (l c : Value) : Rs Out :=
 match rowO P t, l, c with
 | some (e, _, by_, z), .int _ (.ofNat l), .int _ (.ofNat c) => cond (Nat.ble l c && Nat.ble c 65536 && Nat.ble (Nat.mul by_ c) 281474976710656) (.ok (.v (.slice (some ⟨N, 0, none⟩) l c) [(N, .cells false e (repl c z))] (Nat.succ N))) (.bad 61)
 | _, _, _ => .bad 63
noncomputable def buildSliceC (P : Program) (N : Nat) (t : TypeId) (len : Nat) (parts : List (Nat × Value)) : Rs Out :=
 match rowO P t with
 | some (e, sz, _, z) => (match Instr.fill (fun i => some (i * sz, sz)) ⟨repl len z⟩ parts with
   | some ⟨l⟩ => cond (Nat.ble len 60000) (.ok (.v (.slice (some ⟨N, 0, none⟩) len len) [(N, .cells false e l)] (Nat.succ N))) (.bad 64)
   | none => .bad 65)
 | none => .bad 67
def softB : Value → Bool
 | .slice (some ⟨_, _, some _⟩) _ _ => true
 | _ => false
def natO : Value → Option Nat
 | .int _ (.ofNat n) => some n
 | _ => none
def bndO (u : Option Value) (d : Nat) : Option Nat := match u with | none => some d | some v => natO v
noncomputable def softSliceC (P : Program) (N : Nat) (t : TypeId) (x : Value) (lo hi mx : Option Value) : Rs Out :=
 match sliceO P t, x with
 | some (_, sz), .slice (some ⟨b, o, some q⟩) len _ =>
  (match bndO lo 0, bndO hi len with
  | some l, some h => cond (Nat.ble l h && Nat.ble h len)
   (match mx with
    | none => cond (Nat.beq l 0 || (Nat.blt l len && Nat.blt 0 sz)) (forceN (Nat.add o (Nat.mul l sz)) fun o => forceN (Nat.sub h l) fun n => .ok (.v (.slice (some ⟨b, o, some q⟩) n n) [] N)) (.bad 71)
    | some v => (match natO v with
     | some m => cond (Nat.ble h m && Nat.ble m len && hi.isSome) (forceN (cond (Nat.beq m l) o (o + l * sz)) fun o => forceN (Nat.sub h l) fun n => forceN (Nat.sub m l) fun c => .ok (.v (.slice (some ⟨b, o, none⟩) n c) [] N)) (.bad 72)
     | none => .bad 73)) (.bad 74)
  | _, _ => .bad 75)
 | _, _ => .bad 76
/-! Maps whose keys are numbers or texts. -/
noncomputable def mfind (d : TypeDesc) (k : Value) (l : List (Value × Value)) : Nat → Option (Option (Nat × Value)) :=
 List.rec (motive := fun _ => Nat → Option (Option (Nat × Value))) (fun _ => some none) (fun p _ ih i => match Instr.sameNow d k p.1 with
  | some true => some (some (i, p.2))
  | some false => ih (Nat.succ i)
  | none => none) l
def mapO' (P : Program) (t : TypeId) : Option (TypeDesc × TypeId) := match P.underlying t with
 | some (.map k e) => (match P.underlying k with
  | some (.int j) => some (.int j, e)
  | _ => none)
 | _ => none
noncomputable def mapAt (H : HP) (x : Value) : Option (List (Value × Value)) := match x with
 | .map none => some []
 | .map (some n) => (match H.get n with | some (.map l) => some l | _ => none)
 | _ => none
noncomputable def lookupC (P : Program) (H : HP) (N : Nat) (t : TypeId) (x ix : Value) (ok : Bool) : Rs Out :=
 match mapO' P t, mapAt H x with
 | some (d, e), some l => (match mfind d ix l 0 with
  | some (some (_, v)) => .ok (.v (cond ok (.tuple ⟨[v, .bool true]⟩) v) [] N)
  | some none => (match P.info? e with
   | some i => (match i.zero with
    | some z => cond (flat 4 z) (.ok (.v (cond ok (.tuple ⟨[z, .bool false]⟩) z) [] N)) (.bad 150)
    | none => .bad 151)
   | none => .bad 152)
  | none => .bad 153)
 | _, _ => .bad 154
noncomputable def mapUpdateC (P : Program) (H : HP) (N : Nat) (t : TypeId) (x ix v : Value) : Rs Out :=
 match mapO' P t, x with
 | some (d, _), .map (some n) => (match H.get n with
  | some (.map l) => (match mfind d ix l 0 with
   | some (some (i, _)) => PT.insK 60 H n (some (.map (l.set i (ix, v)))) (fun H' => .ok (.w undef H' N n)) (.bad 155)
   | some none => appK l [(ix, v)] fun l' => PT.insK 60 H n (some (.map l')) (fun H' => .ok (.w undef H' N n)) (.bad 156)
   | none => .bad 157)
  | _ => .bad 158)
 | _, _ => .bad 159
noncomputable def vals (G : Nat) (T : PT Value) (l : List Operand) (k : List Value → Rs Out) : Rs Out :=
 List.rec (motive := fun _ => (List Value → Rs Out) → Rs Out) (fun k => k []) (fun x _ ih k => match aeval G T x with | some v => ih (fun l => k (v :: l)) | none => .bad 81) l k
noncomputable def aevalD (G : Nat) (T : PT Value) (x : Operand) : Value := match aeval G T x with | some v => v | none => undef
noncomputable def flatC (P : Program) (G : Nat) (T : PT Value) (N : Nat) (o : Oper) : Rs Out :=
 vals G T o.op.operands.toList fun vs => cond (vs.all (flat 5)) (match prun P (execOp (aevalD G T) o) with
  | some (.value v) => forceV v fun v => cond (flat 5 v) (.ok (.v v [] N)) (.bad 82)
  | _ => .bad 83) (.bad 84)
/-! Whole numbers, fast. -/
noncomputable def topN : IntKind → Nat
 | .i8 => 128 | .i16 => 32768 | .i32 => 2147483648 | .i64 => 9223372036854775808
 | .u8 => 256 | .u16 => 65536 | .u32 => 4294967296 | .u64 => 18446744073709551616
noncomputable def wrapF (k : IntKind) (n : Int) : Int :=
 match n with
 | .ofNat m => cond (Nat.blt m (topN k)) (.ofNat m) (k.wrap (.ofNat m))
 | .negSucc m => k.wrap (.negSucc m)
def ltF : Int → Int → Bool
 | .ofNat a, .ofNat b => Nat.blt a b
 | .ofNat _, .negSucc _ => false
 | .negSucc _, .ofNat _ => true
 | .negSucc a, .negSucc b => Nat.blt b a
def eqF : Int → Int → Bool
 | .ofNat a, .ofNat b => Nat.beq a b
 | .ofNat _, .negSucc _ => false
 | .negSucc _, .ofNat _ => false
 | .negSucc a, .negSucc b => Nat.beq a b
noncomputable def fastBin (op : BinOp) (k : IntKind) (a b : Int) : Option Value :=
 match op with
 | .add => some (.int k (wrapF k (Int.add a b)))
 | .sub => some (.int k (wrapF k (Int.sub a b)))
 | .mul => some (.int k (wrapF k (Int.mul a b)))
 | .lss => some (.bool (ltF a b))
 | .gtr => some (.bool (ltF b a))
 | .leq => some (.bool (!(ltF b a)))
 | .geq => some (.bool (!(ltF a b)))
 | .eql => some (.bool (eqF a b))
 | .neq => some (.bool (!(eqF a b)))
 | .quo => (match a, b with | .ofNat m, .ofNat (n + 1) => some (.int k (wrapF k (.ofNat (Nat.div m (n + 1))))) | _, _ => none)
 | .rem => (match a, b with | .ofNat m, .ofNat (n + 1) => some (.int k (.ofNat (Nat.mod m (n + 1)))) | _, _ => none)
 | .and => (match a, b with | .ofNat m, .ofNat n => cond (Nat.blt m (topN k) && Nat.blt n (topN k)) (some (.int k (.ofNat (Nat.land m n)))) none | _, _ => none)
 | .or => (match a, b with | .ofNat m, .ofNat n => cond (Nat.blt m (topN k) && Nat.blt n (topN k)) (some (.int k (.ofNat (Nat.lor m n)))) none | _, _ => none)
 | .xor => (match a, b with | .ofNat m, .ofNat n => cond (Nat.blt m (topN k) && Nat.blt n (topN k)) (some (.int k (.ofNat (Nat.xor m n)))) none | _, _ => none)
 | _ => none
noncomputable def fastSh (op : BinOp) (k : IntKind) (a b : Int) : Option Value :=
 match a, b with
 | .ofNat m, .ofNat n => cond (Nat.ble n 64) (match op with
  | .shl => cond (Nat.ble n k.bits) (some (.int k (k.wrap (.ofNat (Nat.mul m (Nat.pow 2 n)))))) none
  | .shr => cond (Nat.ble n k.bits) (some (.int k (.ofNat (Nat.div m (Nat.pow 2 n))))) none
  | _ => none) none
 | _, _ => none
def kindEq (j k : IntKind) : Bool := match j, k with
 | .i8, .i8 | .i16, .i16 | .i32, .i32 | .i64, .i64 | .u8, .u8 | .u16, .u16 | .u32, .u32 | .u64, .u64 => true
 | _, _ => false
def nilEq (d : Option TypeDesc) (x y : Value) : Option Bool :=
 match d, x, y with
 | some (.pointer _), .pointer (some _), .pointer none | some (.pointer _), .pointer none, .pointer (some _) => some false
 | some (.slice _), .slice (some _) _ _, .slice none _ _ | some (.slice _), .slice none _ _, .slice (some _) _ _ => some false
 | some (.map _ _), .map (some _), .map none | some (.map _ _), .map none, .map (some _) => some false
 | some (.func _ _ _), .func _ _ _, .nilFunc | some (.func _ _ _), .nilFunc, .func _ _ _ => some false
 | some (.interface _), .iface _ _, .nilIface | some (.interface _), .nilIface, .iface _ _ => some false
 | _, _, _ => none
noncomputable def binC (P : Program) (op : BinOp) (t : TypeId) (x y : Value) : Option Value :=
 match x, y with
 | .int j a, .int k b => (match op with
  | .shl | .shr => fastSh op j a b
  | _ => cond (kindEq j k) (fastBin op j a b) none)
 | x, y => (match op with
  | .eql => (match nilEq (P.underlying t) x y with | some b => some (.bool b) | none => none)
  | .neq => (match nilEq (P.underlying t) x y with | some b => some (.bool (!b)) | none => none)
  | _ => none)
noncomputable def convC (P : Program) (src dst : TypeId) (x : Value) : Option Value :=
 match P.underlying src, P.underlying dst, x with
 | some _, some (.int k), .int _ n => some (.int k (wrapF k n))
 | _, _, _ => none
noncomputable def unC (op : UnOp) (x : Value) : Option Value :=
 match op, x with
 | .not, .bool b => some (.bool (!b))
 | .neg, .int k n => some (.int k (wrapF k (Int.sub 0 n)))
 | _, _ => none
noncomputable def partC (P : Program) (t : TypeId) (cs : List Value) (off : Nat) : Rs Value :=
 match aggO P t with
 | some true => (match sizeO P t with | some s => takeK (dropN cs off) s (fun l => .ok (.agg ⟨l⟩)) (.bad 85) | none => .bad 86)
 | some false => (match nth cs off with | some v => .ok v | none => .bad 87)
 | none => .bad 88
def fieldO (P : Program) (t : TypeId) (f : Nat) : Option (TypeId × Nat) :=
 match P.underlying t with
 | some (.struct fs) => (match fs[f]? with | some x => some (x.type, x.offset) | none => none)
 | _ => none
def arrayO (P : Program) (t : TypeId) : Option (TypeId × Nat × Nat) := match P.underlying t with
 | some (.array n e) => (match sizeO P e with | some s => some (e, s, n) | none => none)
 | _ => none
noncomputable def indexAddrC (P : Program) (t : TypeId) (x ix : Value) : Rs Value :=
 match x, ix with
 | .slice (some ⟨n, o, _⟩) len _, .int _ (.ofNat i) => (match sliceO P t with
  | some (_, sz) => cond (Nat.blt i len) (forceN (Nat.add o (Nat.mul i sz)) fun o => .ok (.pointer (some ⟨n, o, none⟩))) (.bad 89)
  | none => .bad 90)
 | .pointer (some ⟨n, o, _⟩), .int _ (.ofNat i) => (match arrayO P t with
  | some (_, sz, len) => cond (Nat.blt i len) (forceN (Nat.add o (Nat.mul i sz)) fun o => .ok (.pointer (some ⟨n, o, none⟩))) (.bad 91)
  | none => .bad 92)
 | _, _ => .bad 93
noncomputable def indexC (P : Program) (t : TypeId) (x ix : Value) : Rs Value :=
 match x, ix with
 | .agg cs, .int _ (.ofNat i) => (match arrayO P t with
  | some (e, sz, len) => cond (Nat.blt i len) (partC P e cs.toList (i * sz)) (.bad 94)
  | none => .bad 95)
 | _, _ => .bad 96
noncomputable def fieldAddrC (P : Program) (t : TypeId) (x : Value) (f : Nat) : Rs Value :=
 match fieldO P t f, x with
 | some (ft, off), .pointer (some ⟨n, o, _⟩) => (match sizeO P ft with
  | some s => cond (Nat.beq s 0) (.bad 97) (forceN (Nat.add o off) fun o => .ok (.pointer (some ⟨n, o, none⟩)))
  | none => .bad 98)
 | _, _ => .bad 99
noncomputable def fieldC (P : Program) (t : TypeId) (x : Value) (f : Nat) : Rs Value :=
 match fieldO P t f, x with
 | some (ft, off), .agg cs => partC P ft cs.toList off
 | _, _ => .bad 120
noncomputable def extractC (x : Value) (ix : Nat) : Rs Value :=
 match x with
 | .tuple vs => (match nth vs.toList ix with | some v => .ok v | none => .bad 121)
 | _ => .bad 122
def plainType (P : Program) (t : TypeId) : Bool := match P.underlying t with
 | some (.interface _) => false
 | some _ => true
 | none => false
noncomputable def makeInterfaceC (P : Program) (t : TypeId) (x : Value) : Rs Value := cond (plainType P t) (.ok (.iface t x)) (.bad 123)
def methO (P : Program) (t : TypeId) (name : String) : Option FuncId :=
 match P.info? t with
 | some i => (match i.methods.find? (fun m => m.name == name) with
  | some m => (match m.func, m.path.toList with
   | some (f, false), [] => (match P.underlying t with
    | some (.pointer _) => none
    | some _ => some f
    | none => none)
   | _, _ => none)
  | none => none)
 | none => none
noncomputable def nilCheckC (P : Program) (x : Value) : Rs Value :=
 match x with
 | .pointer (some _) | .iface _ _ | .func (.func _) _ _ => .ok x
 | .func (.method name) ⟨.iface t _ :: _⟩ _ => (match methO P t name with | some _ => .ok x | none => .bad 165)
 | _ => .bad 124
def assertO (P : Program) (asserted : TypeId) (t : TypeId) (whole v : Value) : Option (Option Value) :=
 match P.underlying asserted with
 | some (.interface want) => (match P.info? t with
  | some i => (match Instr.missingMethod want i.methods with | none => some (some whole) | some _ => some none)
  | none => none)
 | some _ => cond (Nat.beq t asserted) (some (some v)) (some none)
 | none => none
def zeroV (P : Program) (t : TypeId) : Option Value := match P.info? t with | some i => i.zero | none => none
noncomputable def typeAssertC (P : Program) (x : Value) (asserted : TypeId) (ok : Bool) : Rs Value :=
 match x with
 | .iface t v => (match assertO P asserted t x v with
  | some (some r) => .ok (cond ok (.tuple ⟨[r, .bool true]⟩) r)
  | some none => cond ok (match zeroV P asserted with | some z => cond (flat 4 z) (.ok (.tuple ⟨[z, .bool false]⟩)) (.bad 125) | none => .bad 126) (.bad 127)
  | none => .bad 128)
 | _ => .bad 129
noncomputable def sliceC (P : Program) (t : TypeId) (x : Value) (lo hi mx : Option Value) : Rs Value :=
 match x with
 | .slice (some ⟨b, o, none⟩) len cap => (match sliceO P t with
  | some (_, sz) => (match bndO lo 0, bndO hi len, bndO mx cap with
   | some l, some h, some m => cond (Nat.ble l h && Nat.ble h m && Nat.ble m cap && (hi.isSome || mx.isNone))
     (forceN (cond (Nat.beq m l) o (o + l * sz)) fun o => forceN (h - l) fun n => forceN (m - l) fun c => .ok (.slice (some ⟨b, o, none⟩) n c)) (.bad 130)
   | _, _, _ => .bad 131)
  | none => .bad 132)
 | .pointer (some ⟨b, o, _⟩) => (match arrayO P t with
  | some (_, sz, n) => (match bndO lo 0, bndO hi n, bndO mx n with
   | some l, some h, some m => cond (Nat.ble l h && Nat.ble h m && Nat.ble m n && (hi.isSome || mx.isNone))
     (forceN (cond (Nat.beq m l) o (o + l * sz)) fun o => forceN (h - l) fun n => forceN (m - l) fun c => .ok (.slice (some ⟨b, o, none⟩) n c)) (.bad 133)
   | _, _, _ => .bad 134)
  | none => .bad 135)
 | _ => .bad 136
noncomputable def lenV (x : Value) : Option Nat := match x with | .slice (some _) n _ => some n | _ => none
noncomputable def capV (x : Value) : Option Nat := match x with | .slice (some ⟨_, _, none⟩) _ n => some n | _ => none
def placeO (P : Program) (fs : List Field) (i : Nat) : Option (Nat × Nat) := match fs[i]? with | some f => some (f.offset, (sizeO P f.type).getD 0) | none => none
noncomputable def buildC (P : Program) (t : TypeId) (parts : List (Nat × Value)) : Rs Value :=
 match zeroO P t with
 | none => .bad 137
 | some z => (match P.underlying t with
  | some (.struct fs) => cond (fs.toList.all fun f => (sizeO P f.type).isSome) (match Instr.fill (placeO P fs.toList) ⟨z⟩ parts with
   | some cs => .ok (.agg cs)
   | none => .bad 138) (.bad 162)
  | some (.array _ e) => (match sizeO P e with
   | some sz => (match Instr.fill (fun i => some (i * sz, sz)) ⟨z⟩ parts with
    | some cs => .ok (.agg cs)
    | none => .bad 139)
   | none => .bad 140)
  | _ => .bad 141)
noncomputable def orFlat (P : Program) (G : Nat) (T : PT Value) (N : Nat) (o : Oper) (r : Rs Value) : Rs Out :=
 match r with
 | .ok v => .ok (.v v [] N)
 | .bad _ => flatC P G T N o
noncomputable def optO (G : Nat) (T : PT Value) (x : Option Operand) : Option (Option Value) :=
 match x with
 | none => some none
 | some x => (match aeval G T x with | some v => some (some v) | none => none)
noncomputable def builtinC (P : Program) (G : Nat) (o : Oper) (T : PT Value) (H : HP) (N : Nat) (b : Builtin) (args : List Operand) (ts : List TypeId) : Rs Out :=
 match b, args, ts with
 | .append, [x, y], [st, xt] => (match aeval G T x, aeval G T y with | some s, some v => appendC P H N st xt s v | _, _ => .bad 108)
 | .copy, [x, y], [st, _] => (match aeval G T x, aeval G T y with | some s, some v => copyC P H N st s v | _, _ => .bad 109)
 | .len, [x], [t] => (match aeval G T x with
  | some (.map r) => (match mapO' P t, mapAt H (.map r) with | some _, some l => .ok (.v (.int .i64 l.length) [] N) | _, _ => .bad 148)
  | some v => (match lenV v, sliceO P t with | some n, some _ => .ok (.v (.int .i64 n) [] N) | _, _ => flatC P G T N o)
  | none => .bad 110)
 | .cap, [x], [t] => (match aeval G T x with | some v => (match capV v, sliceO P t with | some n, some _ => .ok (.v (.int .i64 n) [] N) | _, _ => flatC P G T N o) | none => .bad 111)
 | _, _, _ => flatC P G T N o
noncomputable def aop (P : Program) (G : Nat) (call : FuncId → List Value → HP → Nat → Rs Out) (yld : Nat → List Value → HP → Nat → Rs Out) (o : Oper) (T : PT Value) (H : HP) (N : Nat) : Rs Out :=
 match o.op with
 | .move x => (match aeval G T x with | some v => .ok (.v v [] N) | none => .bad 101)
 | .assign x => (match aeval G T x with | some v => .ok (.v v [] N) | none => .bad 101)
 | .alloc e => (match zeroO P e with | some l => newC N e l | none => .bad 102)
 | .box e x => (match aeval G T x with | some v => newC N e v.cells.toList | none => .bad 103)
 | .load t x => (match aeval G T x with | some (.pointer (some ⟨n, off, _⟩)) => loadC P H t n off fun v => .ok (.v v [] N) | _ => .bad 104)
 | .store t x y => (match aeval G T x, aeval G T y with | some (.pointer (some ⟨n, off, _⟩)), some v => storeC P H t n off v fun H' => .ok (.w undef H' N n) | _, _ => .bad 105)
 | .makeSlice t x y => (match aeval G T x, aeval G T y with | some l, some c => makeSliceC P N t l c | _, _ => .bad 106)
 | .buildSlice t len parts => vals G T (parts.toList.map (·.2)) fun vs => buildSliceC P N t len (List.zip (parts.toList.map (·.1)) vs)
 | .build t parts => vals G T (parts.toList.map (·.2)) fun vs => orFlat P G T N o (buildC P t (List.zip (parts.toList.map (·.1)) vs))
 | .slice t x lo hi mx => (match aeval G T x, optO G T lo, optO G T hi, optO G T mx with
  | some v, some lo, some hi, some mx => cond (softB v) (softSliceC P N t v lo hi mx) (orFlat P G T N o (sliceC P t v lo hi mx))
  | _, _, _, _ => .bad 107)
 | .pick c x y => (match aeval G T c, aeval G T x, aeval G T y with | some (.bool b), some u, some v => .ok (.v (cond b u v) [] N) | _, _, _ => .bad 114)
 | .nilCheck x => (match aeval G T x with | some v => orFlat P G T N o (nilCheckC P v) | none => .bad 115)
 | .binOp op t x y _ => (match aeval G T x, aeval G T y with
  | some u, some v => (match binC P op t u v with
   | some r => forceV r fun r => .ok (.v r [] N)
   | none => flatC P G T N o)
  | _, _ => .bad 116)
 | .unOp op _ x => (match aeval G T x with
  | some u => (match unC op u with
   | some r => forceV r fun r => .ok (.v r [] N)
   | none => flatC P G T N o)
  | none => .bad 160)
 | .convert s d x => (match aeval G T x with
  | some u => (match convC P s d u with
   | some r => forceV r fun r => .ok (.v r [] N)
   | none => flatC P G T N o)
  | none => .bad 161)
 | .makeInterface t x => (match aeval G T x with | some v => orFlat P G T N o (makeInterfaceC P t v) | none => .bad 117)
 | .makeFunc (.func f) first captured => vals G T first.toList fun a => vals G T captured.toList fun b => .ok (.v (.func (.func f) ⟨a⟩ ⟨b⟩) [] N)
 | .makeFunc (.method f) first captured => vals G T first.toList fun a => vals G T captured.toList fun b => .ok (.v (.func (.method f) ⟨a⟩ ⟨b⟩) [] N)
 | .fieldAddr t x f => (match aeval G T x with | some v => orFlat P G T N o (fieldAddrC P t v f) | none => .bad 118)
 | .field t x f => (match aeval G T x with | some v => orFlat P G T N o (fieldC P t v f) | none => .bad 119)
 | .indexAddr t x i => (match aeval G T x, aeval G T i with | some u, some v => orFlat P G T N o (indexAddrC P t u v) | _, _ => .bad 142)
 | .index t x i => (match aeval G T x, aeval G T i with | some u, some v => orFlat P G T N o (indexC P t u v) | _, _ => .bad 143)
 | .extract x i => (match aeval G T x with | some v => orFlat P G T N o (extractC v i) | none => .bad 144)
 | .typeAssert x _ t ok => (match aeval G T x with | some v => orFlat P G T N o (typeAssertC P v t ok) | none => .bad 145)
 | .makeMap _ none => .ok (.v (.map (some N)) [(N, .map [])] (Nat.succ N))
 | .lookup t x i ok => (match aeval G T x, aeval G T i with
  | some u, some v => (match u with | .map _ => lookupC P H N t u v ok | _ => flatC P G T N o)
  | _, _ => .bad 146)
 | .mapUpdate t x i v => (match aeval G T x, aeval G T i, aeval G T v with | some u, some i, some v => mapUpdateC P H N t u i v | _, _, _ => .bad 147)
 | .call { callee := .builtin b, args := ⟨args⟩, argTypes := ⟨ts⟩ } => builtinC P G o T H N b args ts
 | .call { callee := .value f, args, .. } => (match aeval G T f with
  | some (.func (.func g) first captured) => vals G T args.toList fun vs => appK vs captured.toList fun l => appK first.toList l fun l => call g l H N
  | some (.func (.yield n) _ _) => vals G T args.toList fun vs => yld n vs H N
  | _ => .bad 112)
 | .call { callee := .invoke r name, args, .. } => (match aeval G T r with
  | some (.iface t v) => (match methO P t name with
   | some f => vals G T args.toList fun vs => call f (v :: vs) H N
   | none => .bad 163)
  | _ => .bad 164)
 | _ => .bad 113
end Ev
end Go.Proofs.YtcjgilagldbjnaaGreatDoor
