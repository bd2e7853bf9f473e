/- A reckoner for closed runs: what a call hands back, regions,. -/
import Derived.Test.YtcjgilagldbjnaaGreatDoorPkBb2
namespace Go.Proofs.YtcjgilagldbjnaaGreatDoor
namespace Ev
open Go
noncomputable def mapO {α β : Type} (f : α → Option β) (l : List α) : Option (List β) :=
 List.rec (motive := fun _ => Option (List β)) (some []) (fun x _ ih => match f x with | some y => (match ih with | some l => some (y :: l) | none => none) | none => none) l
noncomputable def renN (N : Nat) (σ : PT Nat) (n : Nat) : Option Nat := cond (Nat.blt n N) (some n) (σ.get n)
noncomputable def renV (N : Nat) (σ : PT Nat) (d : Nat) : Value → Option Value :=
 Nat.rec (motive := fun _ => Value → Option Value) (fun _ => none) (fun _ ih v => match v with
  | .pointer (some ⟨n, o, s⟩) => (match renN N σ n with | some m => some (.pointer (some ⟨m, o, s⟩)) | none => none)
  | .slice (some ⟨n, o, s⟩) l c => (match renN N σ n with | some m => some (.slice (some ⟨m, o, s⟩) l c) | none => none)
  | .map (some n) => (match renN N σ n with | some m => some (.map (some m)) | none => none)
  | .iface t v => (match ih v with | some v => some (.iface t v) | none => none)
  | .agg cs => (match mapO ih cs.toList with | some l => some (.agg ⟨l⟩) | none => none)
  | .tuple cs => (match mapO ih cs.toList with | some l => some (.tuple ⟨l⟩) | none => none)
  | .func (.func f) a b => (match mapO ih a.toList, mapO ih b.toList with | some a, some b => some (.func (.func f) ⟨a⟩ ⟨b⟩) | _, _ => none)
  | v => cond (flat 1 v) (some v) none) d
noncomputable def renE (N : Nat) (σ : PT Nat) (p : Value × Value) : Option (Value × Value) := match renV N σ 6 p.1, renV N σ 6 p.2 with | some a, some b => some (a, b) | _, _ => none
noncomputable def renB (N : Nat) (σ : PT Nat) (b : AB) : Option AB :=
 match b with
 | .cells g e l => (match mapO (renV N σ 6) l with | some l => some (.cells g e l) | none => none)
 | .map l => (match mapO (renE N σ) l with | some l => some (.map l) | none => none)
 | _ => none
noncomputable def discAt {β : Type} (N : Nat) (H : HP) (ih : List Value → List Nat → PT Nat → Nat → (List Nat → PT Nat → Nat → Rs β) → Rs β) (n : Nat) (rest : List Value) (olds : List Nat) (σ : PT Nat) (cnt : Nat) (k : List Nat → PT Nat → Nat → Rs β) : Rs β :=
 cond (Nat.blt n N) (ih rest olds σ cnt k) (match σ.get n with
  | some _ => ih rest olds σ cnt k
  | none => PT.insK 60 σ n (some cnt) (fun σ' => match H.get n with
   | some (.cells _ _ l) => appK l rest fun todo => ih todo (n :: olds) σ' (Nat.succ cnt) k
   | some (.map l) => appK (l.map (·.2)) rest fun todo => ih todo (n :: olds) σ' (Nat.succ cnt) k
   | _ => ih rest (n :: olds) σ' (Nat.succ cnt) k) (.bad 201))
noncomputable def disc {β : Type} (N : Nat) (H : HP) (fuel : Nat) : List Value → List Nat → PT Nat → Nat → (List Nat → PT Nat → Nat → Rs β) → Rs β :=
 Nat.rec (motive := fun _ => List Value → List Nat → PT Nat → Nat → (List Nat → PT Nat → Nat → Rs β) → Rs β) (fun _ _ _ _ _ => .bad 200)
  (fun _ ih todo olds σ cnt k => match todo with
   | [] => k olds σ cnt
   | v :: rest =>
    match v with
    | .pointer (some ⟨n, _, _⟩) => discAt N H ih n rest olds σ cnt k
    | .slice (some ⟨n, _, _⟩) _ _ => discAt N H ih n rest olds σ cnt k
    | .map (some n) => discAt N H ih n rest olds σ cnt k
    | .iface _ v => ih (v :: rest) olds σ cnt k
    | .agg cs => appK cs.toList rest fun todo => ih todo olds σ cnt k
    | .tuple cs => appK cs.toList rest fun todo => ih todo olds σ cnt k
    | .func _ a b => appK a.toList rest fun todo => appK b.toList todo fun todo => ih todo olds σ cnt k
    | _ => ih rest olds σ cnt k) fuel
noncomputable def gather (N : Nat) (H : HP) (σ : PT Nat) (olds : List Nat) : Option (List (Nat × AB)) :=
 List.rec (motive := fun _ => Option (List (Nat × AB))) (some []) (fun n _ ih => match ih with
  | none => none
  | some l => (match H.get n with
   | none => some l
   | some b => (match σ.get n, renB N σ b with | some m, some b => some ((m, b) :: l) | _, _ => none))) olds
def packFuel : Nat := 100000
noncomputable def packEnd (N : Nat) (H : HP) (v : Value) (olds : List Nat) (σ : PT Nat) (cnt : Nat) : Rs Out :=
 match renV N σ 6 v, gather N H σ olds with
 | some v, some l => .ok (.v v l cnt)
 | _, _ => .bad 202
noncomputable def packC (N : Nat) (H : HP) (v : Value) : Rs Out :=
 cond (flat 3 v) (.ok (.v v [] N)) (disc N H packFuel [v] [] .nil N (packEnd N H v))
noncomputable def addK {β : Type} (d : List (Nat × AB)) (H : HP) (k : HP → Rs β) : Rs β :=
 List.rec (motive := fun _ => HP → (HP → Rs β) → Rs β) (fun H k => k H) (fun p _ ih H k => PT.insK 60 H p.1 (some p.2) (fun H' => ih H' k) (.bad 203)) d H k
noncomputable def putK {β : Type} (dst : Option Tmp) (T : PT Value) (v : Value) (k : PT Value → Rs β) : Rs β :=
 match dst with | none => k T | some d => T.setK d v k (.bad 204)
noncomputable def wantC (ops : Array Oper) (o : Oper) (T : PT Value) : Option Bool :=
 match o.guard with
 | none => some true
 | some (j, want) => (match nth ops.toList j with
  | some oj => (match oj.dst with
   | some d => (match T.get d with
    | some (.bool b) => some (b == want)
    | some _ => some false
    | none => none)
   | none => none)
  | none => none)
def dsts1B : List Oper → Bool
 | [] => true
 | o :: l => (match o.dst with | some d => l.all (fun o2 => o2.dst != some d) | none => false) && dsts1B l
def edges1B : List Oper → Nat → Bool
 | [], _ => true
 | o :: l, i => o.after.all (fun e => !Region.binds .any e || decide (e.on < i)) && edges1B l (i + 1)
def waits1B (o : Oper) (j : Nat) : Bool := o.after.toList.any fun e => Region.binds .any e && e.on == j
def ancs (l : List Oper) : List (List Bool) :=
 (l.foldl (fun acc o => acc ++ [(List.range acc.length).map fun j => waits1B o j || (List.range acc.length).any fun i => waits1B o i && ((acc.getD i []).getD j false)]) [])
def looksB (ops : Array Oper) (head : List Oper) : Bool :=
 head.zipIdx.all fun q => (q.1.looksAt ops).all fun t => head.zipIdx.all fun p => p.1.dst != some t || waits1B q.1 p.2 || (((ancs head).getD p.2 []).getD q.2 false)
noncomputable def heapFor (H : HP) (mask : List Bool) (ds : List (List (Nat × AB))) : HP :=
 List.rec (motive := fun _ => List (List (Nat × AB)) → HP → HP) (fun _ H => H) (fun b _ ih ds H => match ds with
  | [] => H
  | d :: ds => ih ds (cond b (List.rec (motive := fun _ => HP → HP) (fun H => H) (fun p _ ih H => ih (PT.insK 60 H p.1 (some p.2) (fun H' => H') .nil)) d H) H)) mask ds H
def seq1B (ops : Array Oper) : Nat → Nat → Array Bool → Bool
 | 0, _, ls => (Region.ready .any ops ls).isEmpty
 | k + 1, i, ls => (Region.ready .any ops ls) == [i] && seq1B ops k (i + 1) (ls.setIfInBounds i true)
def endA (m n : Nat) : Array Bool := ((List.range m).map fun i => decide (i < n)).toArray
def ancB (ops : Array Oper) (k j : Nat) : Bool := ((ancs ops.toList).getD k []).getD j false
def floats (ops : Array Oper) (n : Nat) : List Nat := (List.range n).filter fun j => !(ancB ops n j)
def floatB (ops : Array Oper) (n : Nat) (on oj : Oper) : Bool :=
 oj.guard.isNone && (match oj.dst with | some d => !((on.looksAt ops).contains d) && on.dst != some d | none => false) &&
  (oj.looksAt ops).all fun t => (ops.toList.take n).zipIdx.all fun p => p.1.dst != some t || waits1B oj p.2
def okF (ops : Array Oper) (n : Nat) : Bool :=
 ((List.range' (n + 1) (ops.size - (n + 1))).all fun k => (List.range (n + 1)).all fun j => ancB ops k j) && seq1B ops (ops.size - (n + 1)) (n + 1) (endA ops.size (n + 1)) && edges1B (ops.toList.take (n + 1)) 0 &&
   match ops[n]? with
   | some on => on.guard.isNone && (floats ops n).all fun j => (match ops[j]? with | some oj => floatB ops n on oj | none => false)
   | none => false
def drawB (okTail : Array Oper → Nat → Bool) (ops : Array Oper) (n : Nat) : Bool :=
 let head := ops.toList.take n
 dsts1B head && edges1B head 0 && looksB ops head && (Nat.beq n ops.toList.length || okTail ops n)
section
variable (P : Program)
noncomputable def resK (H : HP) (T : PT Value) (rs : List ResultVar) (k : List Value → Rs Out) : Rs Out :=
 List.rec (motive := fun _ => (List Value → Rs Out) → Rs Out) (fun k => k []) (fun r _ ih k => match r with
  | .tmp t => (match T.get t with | some v => ih fun l => k (v :: l) | none => .bad 210)
  | .cell a t => (match T.get a with | some (.pointer (some ⟨n, off, _⟩)) => loadC P H t n off fun v => ih fun l => k (v :: l) | _ => .bad 211)) rs k
noncomputable def putArgs (l : List Value) : Nat → PT Value → (PT Value → Rs Out) → Rs Out :=
 List.rec (motive := fun _ => Nat → PT Value → (PT Value → Rs Out) → Rs Out) (fun _ T k => k T) (fun v _ ih i T k => T.setK i v (fun T' => ih (Nat.succ i) T' k) (.bad 212)) l
noncomputable def externC (f : FuncId) (args : List Value) (N : Nat) : Rs Out :=
 cond (args.all (flat 3)) (match prun P (callFunc f ⟨args⟩) with
  | some (.value v) => forceV v fun v => cond (flat 3 v) (.ok (.v v [] N)) (.bad 215)
  | _ => .bad (Nat.add 100000 f)) (.bad 216)
noncomputable def marksK (dc : FuncId → List Value → HP → Nat → Rs Out) (D : List DE) : HP → Nat → Nat → (HP → Nat → Nat → Rs Out) → Rs Out :=
 List.rec (motive := fun _ => HP → Nat → Nat → (HP → Nat → Nat → Rs Out) → Rs Out) (fun H N lo k => k H N lo) (fun e _ ih H N lo k => DE.rec (motive := fun _ => Rs Out)
  (fun n => match H.get n with
   | some .dfr => PT.insK 60 H n none (fun H' => forceN (cond (Nat.ble lo n) lo n) fun lo' => ih H' N lo' k) (.bad 217)
   | _ => .bad 218)
  (fun g us => match dc g us H N with
   | .ok (.v _ d N') => cond (Nat.ble N N') (addK d H fun H' => ih H' N' lo k) (.bad 219)
   | .ok (.w _ H' N' lo') => cond (Nat.ble N N') (forceN (cond (Nat.ble lo lo') lo lo') fun lo => ih H' N' lo k) (.bad 219)
   | .bad e => .bad e) e) D
noncomputable def putPs (ps : List Tmp) : List Value → PT Value → (PT Value → Rs Out) → Rs Out :=
 List.rec (motive := fun _ => List Value → PT Value → (PT Value → Rs Out) → Rs Out) (fun vs T k => match vs with | [] => k T | _ => .bad 230)
  (fun p _ ih vs T k => match vs with | [] => .bad 231 | v :: vs => T.setK p v (fun T' => ih vs T' k) (.bad 232)) ps
end
section
variable (P : Program) (G : Nat) (okTail : Array Oper → Nat → Bool)
structure OpsC where
 run : CallT → YldT → PT Value → HP → Nat → Nat → List DE → RX
structure WantC where
 run : PT Value → Option Bool
noncomputable def wantF (ops : Array Oper) (o : Oper) : WantC :=
 match o.guard with
 | none => ⟨fun _ => some true⟩
 | some (j, want) => (match nth ops.toList j with
  | some oj => (match oj.dst with
   | some d => (match getF (pathN (Nat.succ d) d) with
    | ⟨g⟩ => ⟨fun T => match g T with
     | some (.bool b) => some (b == want)
     | some _ => some false
     | none => none⟩)
   | none => ⟨fun _ => none⟩)
  | none => ⟨fun _ => none⟩)
noncomputable def putF (dst : Option Tmp) {β : Type} : SetC β :=
 match dst with
 | none => ⟨fun T _ k => k T⟩
 | some d => setF (pathN (Nat.succ d) d)
noncomputable def addX (d : List (Nat × AB)) (H : HP) (k : HP → RX) : RX :=
 List.rec (motive := fun _ => HP → (HP → RX) → RX) (fun H k => k H) (fun p _ ih H k => PT.insK 60 H p.1 (some p.2) (fun H' => ih H' k) (.bad 203)) d H k
noncomputable def oneF (o : Oper) (R : OpsC) : OpsC :=
 OpsC.rec (motive := fun _ => OpsC) (fun r => SetC.rec (motive := fun _ => OpsC) (fun put => OpC.rec (motive := fun _ => OpsC)
  (fun f => ⟨fun call yld T H N lo D => f T (fun u => put T u (fun T => r call yld T H N lo D))⟩)
  (fun f => ⟨fun call yld T H N lo D => Rs.rec (motive := fun _ => RX) (fun e => .bad e) (fun out => Out.rec (motive := fun _ => RX)
   (fun u d N' => Bool.rec (motive := fun _ => RX) (.bad 219) (put T u (fun T => addX d H (fun H => r call yld T H N' lo D))) (Nat.ble N N'))
   (fun u H N' lo' => Bool.rec (motive := fun _ => RX) (.bad 219) (put T u (fun T => rawN (Bool.rec (motive := fun _ => Nat) lo' lo (Nat.ble lo lo')) (fun lo => r call yld T H N' lo D))) (Nat.ble N N')) out) (f call yld T H N)⟩)
  (opF P G o)) (putF (β := Ex × St) o.dst)) R
noncomputable def opsF (ops : Array Oper) (l : List Oper) : OpsC :=
 List.rec (motive := fun _ => OpsC) ⟨fun _ _ T H N lo D => .ok (.normal, ⟨T, H, N, lo, D⟩)⟩ (fun o _ R =>
  Option.rec (motive := fun _ => OpsC) (oneF P G o R)
  (fun _ => WantC.rec (motive := fun _ => OpsC) (fun want => OpsC.rec (motive := fun _ => OpsC) (fun yes => SetC.rec (motive := fun _ => OpsC) (fun put => OpsC.rec (motive := fun _ => OpsC) (fun r =>
   ⟨fun call yld T H N lo D => Option.rec (motive := fun _ => RX) (.bad 205) (fun b => Bool.rec (motive := fun _ => RX) (put T undef (fun T => r call yld T H N lo D)) (yes call yld T H N lo D) b) (want T)⟩) R)
   (putF (β := Ex × St) o.dst)) (oneF P G o R)) (wantF ops o)) o.guard) l
structure HeadI where
 op : OpC
 put : PT Value → Value → (PT Value → RX) → RX
 want : PT Value → Option Bool
 mask : List Bool
 tail : OpsC
noncomputable def headI (ops : Array Oper) (l : List Oper) : List (List Bool) → List HeadI :=
 List.rec (motive := fun _ => List (List Bool) → List HeadI) (fun _ => []) (fun o rest ih an => match an with
  | [] => []
  | m :: an => (match putF (β := Ex × St) o.dst, wantF ops o with | ⟨put⟩, ⟨want⟩ => ⟨opF P G o, put, want, m, opsF P G ops (o :: rest)⟩ :: ih an)) l
noncomputable def headF (call : CallT) (yld : YldT) (k : Option OpsC → PT Value → Nat → List (List (Nat × AB)) → RX) (H : HP) (l : List HeadI) : PT Value → Nat → List (List (Nat × AB)) → RX :=
 List.rec (motive := fun _ => PT Value → Nat → List (List (Nat × AB)) → RX) (fun T N ds => k none T N ds)
  (fun h _ ih T N ds => HeadI.rec (motive := fun _ => RX) (fun op put want mask tail => Option.rec (motive := fun _ => RX) (.bad 207) (fun b => Bool.rec (motive := fun _ => RX)
    (put T undef fun T' => appK ds [[]] fun ds' => ih T' N ds')
    (OpC.rec (motive := fun _ => RX) (fun f => f T (fun u => put T u fun T' => appK ds [[]] fun ds' => ih T' N ds'))
     (fun f => Rs.rec (motive := fun _ => RX) (fun e => .bad e) (fun out => Out.rec (motive := fun _ => RX)
      (fun u d N' => Bool.rec (motive := fun _ => RX) (.bad 219) (put T u fun T' => appK ds [d] fun ds' => ih T' N' ds') (Nat.ble N N'))
      (fun _ _ _ _ => k (some tail) T N ds) out) (f call yld T (heapFor H mask ds) N)) op) b) (want T)) h) l
noncomputable def chkF (call : CallT) (yld : YldT) (ops : Array Oper) (T : PT Value) (H : HP) (N : Nat) (fl : List Nat) : Bool :=
 List.rec (motive := fun _ => Bool) true (fun j _ ih => (match nth ops.toList j with
  | some o => (match o.dst with
   | some d => (match aop P G call yld o T H N with
    | .ok (.v u [] N') => Nat.beq N' N && (match T.get d with | some u' => beqV 6 u u' | none => false)
    | _ => false)
   | none => false)
  | none => false) && ih) fl
noncomputable def floatF (ops : Array Oper) (n : Nat) : OpsC :=
 match ops.toList.drop n with
 | [] => ⟨fun _ _ _ _ _ _ _ => .bad 250⟩
 | on :: rest => (match opsF P G ops [on], opsF P G ops rest with
  | ⟨a⟩, ⟨r⟩ => ⟨fun call yld T H N lo D => Bool.rec (motive := fun _ => RX) (.bad 251) (Rs.rec (motive := fun _ => RX) (fun e => .bad e) (fun p => Prod.rec (motive := fun _ => RX) (fun _ s => St.rec (motive := fun _ => RX) (fun T1 H1 N1 lo1 D1 =>
    Bool.rec (motive := fun _ => RX) (.bad 252) (r call yld T1 H1 N1 lo1 D1) (chkF P G call yld ops T1 H1 N1 (floats ops n))) s) p) (a call yld T H N lo D)) (chkF P G call yld ops T H N (floats ops n))⟩)
def noneB (ds : List (List (Nat × AB))) (fl : List Nat) : Bool := fl.all fun j => match ds[j]? with | some [] => true | _ => false
def drawFB (ops : Array Oper) (n : Nat) : Bool :=
 let head := ops.toList.take n
 dsts1B head && edges1B head 0 && looksB ops head && okF ops n
noncomputable def runV (call : CallT) (yld : YldT) (ops : Array Oper) (H : HP) (N : Nat) (l : List Nat) : PT Value → (PT Value → RX) → RX :=
 List.rec (motive := fun _ => PT Value → (PT Value → RX) → RX) (fun T k => k T) (fun j _ ih T k => match nth ops.toList j with
  | some o => (match o.dst with
   | some d => (match aop P G call yld o T H N with
    | .ok (.v u _ _) => T.setK d u (fun T' => ih T' k) (.bad 261)
    | .ok _ => .bad 262
    | .bad e => .bad e)
   | none => .bad 263)
  | none => .bad 264) l
def preW (ops : Array Oper) (k : Nat) : List Nat := (List.range ops.size).filter fun j => j != k && !(ancB ops j k)
def postW (ops : Array Oper) (k : Nat) : List Nat := (List.range ops.size).filter fun j => j != k && ancB ops j k
def behW (ops : Array Oper) (k : Nat) : List Nat := (List.range ops.size).filter fun j => j != k && !(ancB ops k j)
def okW (ops : Array Oper) (k : Nat) : Bool :=
 Nat.blt k ops.size && edges1B ops.toList 0 && ops.toList.zipIdx.all fun p => p.1.guard.isNone && (p.1.dst.isSome || p.2 == k) && ((p.1.looksAt ops).all fun t => ops.toList.zipIdx.all fun q => q.1.dst != some t || waits1B p.1 q.2) &&
  ops.toList.zipIdx.all fun q => q.2 == p.2 || p.1.dst.isNone || q.1.dst != p.1.dst
noncomputable def roomB (T : PT Value) (ops : Array Oper) (k : Nat) : Bool := ops.toList.zipIdx.all fun p => p.2 == k || (match p.1.dst with | some d => (T.get d).isSome | none => false)
noncomputable def oneW (call : CallT) (yld : YldT) (ops : Array Oper) (k : Nat) (T : PT Value) (H : HP) (N lo : Nat) (D : List DE) : RX :=
 Bool.rec (motive := fun _ => RX) (.bad 265) (match ops[k]? with
  | none => .bad 266
  | some on => runV P G call yld ops H N (preW ops k) T fun T0 => Bool.rec (motive := fun _ => RX) (.bad 267)
   (Rs.rec (motive := fun _ => RX) (fun e => .bad e) (fun p => Prod.rec (motive := fun _ => RX) (fun _ s => St.rec (motive := fun _ => RX) (fun T1 H1 N1 lo1 D1 =>
    runV P G call yld ops H1 N1 (postW ops k) T1 fun T2 => Bool.rec (motive := fun _ => RX) (.bad 268) (.ok (.normal, ⟨T2, H1, N1, lo1, D1⟩)) (chkF P G call yld ops T2 H1 N1 (behW ops k))) s) p) ((opsF P G ops [on]).run call yld T0 H N lo D))
   (chkF P G call yld ops T0 H N (preW ops k))) (okW ops k && roomB T ops k)
noncomputable def behind (call : CallT) (yld : YldT) (ops : Array Oper) (TS : PT Value) (NS : Nat) (T : PT Value) (H0 : HP) (N lo : Nat) (D : List DE) (ds : List (List (Nat × AB))) : RX :=
 forceN ds.length fun n => Bool.rec (motive := fun _ => RX) (oneW P G call yld ops n TS H0 NS lo D) (Bool.rec (motive := fun _ => RX) (.bad 253)
  (List.rec (motive := fun _ => HP → RX) (fun H => OpsC.rec (motive := fun _ => RX) (fun r => r call yld T H N lo D) (floatF P G ops n)) (fun d _ ih H => addX d H ih) ds H0)
  (noneB ds (floats ops n))) (drawFB ops n)
noncomputable def drawF (ops : Array Oper) : OpsC :=
 List.rec (motive := fun _ => OpsC) ⟨fun _ _ _ _ _ _ _ => .bad 209⟩ (fun h hs _ => ⟨fun call yld T0 H0 N0 lo D => headF call yld (fun tail T N ds =>
   Bool.rec (motive := fun _ => RX) (behind P G call yld ops T0 N0 T H0 N lo D ds)
    (List.rec (motive := fun _ => HP → RX) (fun H => Option.rec (motive := fun _ => RX)
     (.ok (.normal, ⟨T, H, N, lo, D⟩))
     (fun tail => OpsC.rec (motive := fun _ => RX) (fun r => r call yld T H N lo D) tail) tail) (fun d _ ih H => addX d H ih) ds H0)
    (drawB okTail ops ds.length)) H0 (h :: hs) T0 N0 []⟩) (headI P G ops ops.toList (ancs ops.toList))
structure Cd where
 run : CallT → YldT → Nat → Option Nat → St → Rs (Ex × St)
noncomputable def bodyO (P : Program) (g : FuncId) : Option Code := match P.funcs[g]? with | some fn => fn.body | none => none
noncomputable def rangeFin (s : St) (l N : Nat) (D : List DE) (H2 : HP) (N2 lo2 : Nat) : RX :=
 Bool.rec (motive := fun _ => RX) (.bad 219) (match H2.get l with
  | some (.loop st pend _ _ _ _ _) =>
   PT.insK 60 H2 l none (fun H3 => forceN (cond (Nat.ble s.lo lo2) s.lo lo2) fun lo => match st, pend with
    | .ready, none => .ok (.normal, ⟨s.T, H3, N2, lo, D⟩)
    | .done, some .ret => .ok (.ret, ⟨s.T, H3, N2, lo, D⟩)
    | .done, some (.exit id) => .ok (.exit id, ⟨s.T, H3, N2, lo, D⟩)
    | _, _ => .bad 241) (.bad 242)
  | _ => .bad 243) (Nat.ble N N2)
noncomputable def rangeGo (call : CallT) (s : St) (ps : Array Tmp) (assign body : Code) (g : FuncId) (first captured : Array Value) (H : HP) (d l N : Nat) (D : List DE) : RX :=
 PT.insK 60 H l (some (.loop .ready none s.T ps assign body d)) (fun H1 =>
  appK [.func (.yield l) #[] #[]] captured.toList fun args => appK first.toList args fun args =>
  Rs.rec (motive := fun _ => RX) (fun e => .bad e) (fun out => Out.rec (motive := fun _ => RX) (fun _ d N2 => addX d H1 fun H2 => rangeFin s l N D H2 N2 N) (fun _ H2 N2 lo2 => rangeFin s l N D H2 N2 lo2) out) (call g args H1 N)) (.bad 244)
noncomputable def rangeC (P : Program) (call : CallT) (rd : Option Nat) (f : Option Value) (ps : Array Tmp) (assign body : Code) (s : St) : RX :=
 match f with
 | some (.func (.func g) first captured) =>
  (match bodyO P g with
  | none => .bad 248
  | some _ => (match rd with
   | none => PT.insK 60 s.H s.N (some .dfr) (fun H0 => rangeGo call s ps assign body g first captured H0 s.N (Nat.succ s.N) (Nat.succ (Nat.succ s.N)) (.mark s.N :: s.D)) (.bad 245)
   | some l => (match s.H.get l with
    | some (.loop _ _ _ _ _ _ d) => rangeGo call s ps assign body g first captured s.H d s.N (Nat.succ s.N) s.D
    | _ => .bad 246)))
 | _ => .bad 247
def lastD (ops : Array Oper) : Option (List Oper × Oper × Operand) := match ops.toList.reverse with
 | o :: r => (match o.guard, o.op with
  | none, .defer { callee := .value f, args := ⟨[]⟩, .. } => some (r.reverse, o, f)
  | _, _ => none)
 | [] => none
noncomputable def deferF (ops : Array Oper) (init : List Oper) (o : Oper) (f : Operand) : Cd :=
 match opsF P G ops init, argF G f, putF (β := Ex × St) o.dst with
 | ⟨r⟩, ⟨g⟩, ⟨put⟩ => ⟨fun call yld _ rd s => Option.rec (motive := fun _ => RX)
  (Rs.rec (motive := fun _ => RX) (fun e => .bad e) (fun p => Prod.rec (motive := fun _ => RX) (fun _ s1 => St.rec (motive := fun _ => RX) (fun T H N lo D =>
   Option.rec (motive := fun _ => RX) (.bad 272) (fun u => VF.rec (motive := fun _ => RX) (fun h a b => put T undef fun T' => appK a b fun us => .ok (.normal, ⟨T', H, N, lo, .call h us :: D⟩)) (fun _ => .bad 273) (.bad 274) (vF u)) (g T)) s1) p) (r call yld s.T s.H s.N s.lo s.D))
  (fun _ => .bad 271) rd⟩
noncomputable def regF (ops : Array Oper) : Cd :=
 match lastD ops with
 | some (init, o, f) => deferF P G ops init o f
 | none => OpsC.rec (motive := fun _ => Cd) (fun r => ⟨fun call yld _ _ s => St.rec (motive := fun _ => RX) (fun T H N lo D => r call yld T H N lo D) s⟩) (opsF P G ops ops.toList)
noncomputable def comp (c : Code) : Cd :=
 Code.rec (motive := fun _ => Cd)
  ⟨fun _ _ _ _ s => .ok (.normal, s)⟩
  (fun _ ops draw => Bool.rec (motive := fun _ => Cd)
   (regF P G ops)
   (OpsC.rec (motive := fun _ => Cd) (fun r => ⟨fun call yld _ _ s => St.rec (motive := fun _ => RX) (fun T H N lo D => r call yld T H N lo D) s⟩) (drawF P G okTail ops)) draw)
  (fun _ _ A B => Cd.rec (motive := fun _ => Cd) (fun a => Cd.rec (motive := fun _ => Cd) (fun b => ⟨fun call yld lf rd s => Rs.rec (motive := fun _ => RX) (fun e => .bad e) (fun p => Prod.rec (motive := fun _ => RX) (fun x s => Ex.rec (motive := fun _ => RX) (b call yld lf rd s) (fun i => .ok (.exit i, s)) (.ok (.ret, s)) x) p) (a call yld lf rd s)⟩) B) A)
  (fun c _ _ A B => GetC.rec (motive := fun _ => Cd) (fun c => Cd.rec (motive := fun _ => Cd) (fun a => Cd.rec (motive := fun _ => Cd) (fun b => ⟨fun call yld lf rd s => (Option.rec (motive := fun _ => RX) (.bad 221) (fun v => VB.rec (motive := fun _ => RX) (fun t => Bool.rec (motive := fun _ => RX) (b call yld lf rd s) (a call yld lf rd s) t) (.bad 221) (vB v)) (c s.T))⟩) B) A) (argF G c))
  (fun id _ A => Cd.rec (motive := fun _ => Cd) (fun a => ⟨fun call yld lf rd s => Rs.rec (motive := fun _ => RX) (fun e => .bad e) (fun p => Prod.rec (motive := fun _ => RX) (fun x s => Ex.rec (motive := fun _ => RX) (.ok (.normal, s)) (fun j => Bool.rec (motive := fun _ => RX) (.ok (.exit j, s)) (.ok (.normal, s)) (Nat.beq j id)) (.ok (.ret, s)) x) p) (a call yld lf rd s)⟩) A)
  (fun _ A => Cd.rec (motive := fun _ => Cd) (fun a => ⟨fun call yld lf rd s => Nat.rec (motive := fun _ => St → RX) (fun _ => .bad 222) (fun _ ih s => Rs.rec (motive := fun _ => RX) (fun e => .bad e) (fun p => Prod.rec (motive := fun _ => RX) (fun x s => Ex.rec (motive := fun _ => RX) (ih s) (fun i => .ok (.exit i, s)) (.ok (.ret, s)) x) p) (a call yld lf rd s)) lf s⟩) A)
  (fun f ps assign body _ _ => GetC.rec (motive := fun _ => Cd) (fun f => ⟨fun call _ _ rd s => rangeC P call rd (f s.T) ps assign body s⟩) (argF G f))
  (fun id => ⟨fun _ _ _ _ s => .ok (.exit id, s)⟩)
  (fun _ A => A)
  (fun _ => ⟨fun _ _ _ _ s => .ok (.normal, s)⟩)
  (fun _ => ⟨fun _ _ _ _ _ => .bad 223⟩)
  ⟨fun _ _ _ _ s => .ok (.ret, s)⟩
  (fun _ => ⟨fun _ _ _ _ _ => .bad 224⟩) c
structure Mc where
 call : CallT
 yld : YldT
structure FnC where
 run : Mc → List Value → HP → Nat → Rs Out
def loopFuel : Nat := 1000000
noncomputable def oneV (vs : List Value) : Value := match vs with | [v] => v | vs => .tuple ⟨vs⟩
structure CdS where
 run : CallT → YldT → Nat → St → RX
noncomputable def liftS (c : Cd) : CdS := match c with | ⟨r⟩ => ⟨fun call yld lf s => r call yld lf none s⟩
def isRec (o : Oper) : Bool := match o.op with
 | .call { callee := .builtin .recover, args := ⟨[]⟩, .. } => true
 | _ => false
def notSel (o : Oper) : Bool := match o.op with
 | .select _ _ => false
 | _ => true
noncomputable def opsS (l : List Oper) : PT Value → (PT Value → RX) → RX :=
 List.rec (motive := fun _ => PT Value → (PT Value → RX) → RX) (fun T k => k T) (fun o _ ih T k => match o.guard with
  | some _ => .bad 280
  | none => cond (isRec o) ((putF (β := Ex × St) o.dst).run T .nilIface fun T => ih T k) (cond (notSel o)
   (Rs.rec (motive := fun _ => RX) (fun e => .bad e) (fun out => Out.rec (motive := fun _ => RX) (fun u _ _ => (putF (β := Ex × St) o.dst).run T u fun T => ih T k) (fun _ _ _ _ => .bad 281) out) (flatC P G T 0 o)) (.bad 282))) l
noncomputable def compS (c : Code) : CdS :=
 Code.rec (motive := fun _ => CdS)
  (liftS (comp P G okTail .skip))
  (fun id ops draw => cond (ops.toList.any isRec) (cond draw ⟨fun _ _ _ _ => .bad 283⟩ ⟨fun _ _ _ s => St.rec (motive := fun _ => RX) (fun T H N lo D => opsS P G ops.toList T fun T => .ok (.normal, ⟨T, H, N, lo, D⟩)) s⟩) (liftS (comp P G okTail (.region id ops draw))))
  (fun _ _ A B => match A, B with | ⟨a⟩, ⟨b⟩ => ⟨fun call yld lf s => Rs.rec (motive := fun _ => RX) (fun e => .bad e) (fun p => Prod.rec (motive := fun _ => RX) (fun x s => Ex.rec (motive := fun _ => RX) (b call yld lf s) (fun i => .ok (.exit i, s)) (.ok (.ret, s)) x) p) (a call yld lf s)⟩)
  (fun c _ _ A B => match argF G c, A, B with | ⟨c⟩, ⟨a⟩, ⟨b⟩ => ⟨fun call yld lf s => (Option.rec (motive := fun _ => RX) (.bad 221) (fun v => VB.rec (motive := fun _ => RX) (fun t => Bool.rec (motive := fun _ => RX) (b call yld lf s) (a call yld lf s) t) (.bad 221) (vB v)) (c s.T))⟩)
  (fun id b _ => liftS (comp P G okTail (.block id b)))
  (fun b _ => liftS (comp P G okTail (.loop b)))
  (fun f ps a b _ _ => liftS (comp P G okTail (.rangeFunc f ps a b)))
  (fun id => liftS (comp P G okTail (.exit id)))
  (fun b _ => liftS (comp P G okTail (.scope b)))
  (fun l => liftS (comp P G okTail (.label l)))
  (fun l => liftS (comp P G okTail (.goto l)))
  (liftS (comp P G okTail .ret))
  (fun w => liftS (comp P G okTail (.refuse w))) c
noncomputable def finD (fn : Func) (N : Nat) (s : St) : Rs Out :=
 match s.D with
 | [] => resK P s.H s.T fn.results.toList fun vs => cond (Nat.ble N s.lo) (packC N s.H (oneV vs)) (.ok (.w (oneV vs) s.H s.N s.lo))
 | _ => .bad 284
noncomputable def dfnF (f : FuncId) : FnC :=
 match P.funcs[f]? with
 | none => ⟨fun _ _ _ _ => .bad 285⟩
 | some fn => (match fn.body with
  | none => ⟨fun _ _ _ _ => .bad 286⟩
  | some c => (match compS P G okTail c with
   | ⟨r⟩ => ⟨fun mc args H N => putArgs args 0 (PT.full undef 60 fn.ntmps) fun T =>
    match r mc.call mc.yld loopFuel ⟨T, H, N, N, []⟩ with
    | .ok (.normal, s) => finD P fn N s
    | .ok (.ret, s) => finD P fn N s
    | .ok (.exit _, _) => .bad 287
    | .bad e => .bad (Nat.add (Nat.mul e 1000) f)⟩))
noncomputable def finC (mc : Mc) (fn : Func) (N : Nat) (s : St) : Rs Out :=
 marksK (fun g us H N => (dfnF P G okTail g).run mc us H N) s.D s.H s.N s.lo fun H' N' lo => resK P H' s.T fn.results.toList fun vs => cond (Nat.ble N lo) (packC N H' (oneV vs)) (.ok (.w (oneV vs) H' N' lo))
noncomputable def fnF (f : FuncId) : FnC :=
 match P.funcs[f]? with
 | none => ⟨fun _ _ _ _ => .bad 213⟩
 | some fn => (match fn.body with
  | none => ⟨fun _ args _ N => externC P f args N⟩
  | some c => (match comp P G okTail c with
   | ⟨r⟩ => ⟨fun mc args H N => putArgs args 0 (PT.full undef 60 fn.ntmps) fun T =>
    match r mc.call mc.yld loopFuel none ⟨T, H, N, N, []⟩ with
    | .ok (.normal, s) => finC P G okTail mc fn N s
    | .ok (.ret, s) => finC P G okTail mc fn N s
    | .ok (.exit _, _) => .bad 214
    | .bad e => .bad (Nat.add (Nat.mul e 1000) f)⟩))
noncomputable def roundEnd (l : Nat) (x : Ex) (s : St) : Rs Out :=
 match s.H.get l with
 | some (.loop _ _ T ps assign body d) => forceN (cond (Nat.ble s.lo l) s.lo l) fun lo => (match x with
  | .normal => PT.insK 60 s.H l (some (.loop .ready none T ps assign body d)) (fun H3 => .ok (.w (.bool true) H3 s.N lo)) (.bad 233)
  | .ret => PT.insK 60 s.H l (some (.loop .done (some .ret) T ps assign body d)) (fun H3 => .ok (.w (.bool false) H3 s.N lo)) (.bad 234)
  | .exit id => PT.insK 60 s.H l (some (.loop .done (some (.exit id)) T ps assign body d)) (fun H3 => .ok (.w (.bool false) H3 s.N lo)) (.bad 235))
 | _ => .bad 236
noncomputable def roundMid (mc : Mc) (l : Nat) (body : Code) (x : Ex) (s : St) : Rs Out :=
 match x with
 | .normal => (match s.H.get l with
  | some (.loop .ready pend T ps assign bo d) => PT.insK 60 s.H l (some (.loop .busy pend T ps assign bo d)) (fun H2 =>
   forceN (cond (Nat.ble s.lo l) s.lo l) fun lo =>
   match (comp P G okTail body).run mc.call mc.yld loopFuel (some l) ⟨s.T, H2, s.N, lo, s.D⟩ with
   | .ok (x, s2) => roundEnd l x s2
   | .bad e => .bad e) (.bad 237)
  | _ => .bad 238)
 | _ => .bad 239
noncomputable def yieldC (mc : Mc) (l : Nat) (args : List Value) (H : HP) (N : Nat) : Rs Out :=
 match H.get l with
 | some (.loop _ _ T ps assign body _) => putPs ps.toList args T fun T1 =>
  match (comp P G okTail assign).run mc.call mc.yld loopFuel (some l) ⟨T1, H, N, N, []⟩ with
  | .ok (x, s) => roundMid P G okTail mc l body x s
  | .bad e => .bad e
 | _ => .bad 240
noncomputable def ckOut (N : Nat) (r : Rs Out) : Rs Out :=
 Rs.rec (motive := fun _ => Rs Out) (fun e => .bad e) (fun out => Out.rec (motive := fun _ => Rs Out)
  (fun u d N' => Bool.rec (motive := fun _ => Rs Out) (.bad 219) (.ok (.v u d N')) (Nat.ble N N'))
  (fun u H N' lo => Bool.rec (motive := fun _ => Rs Out) (.bad 219) (.ok (.w u H N' lo)) (Nat.ble N N')) out) r
noncomputable def mach (n : Nat) : Mc :=
 Nat.rec (motive := fun _ => Mc) ⟨fun _ _ _ _ => .bad 220, fun _ _ _ _ => .bad 220⟩ (fun _ ih => ⟨fun f args H N => ckOut N ((fnF P G okTail f).run ih args H N), fun l args H N => ckOut N (yieldC P G okTail ih l args H N)⟩) n
end
end Ev
end Go.Proofs.YtcjgilagldbjnaaGreatDoor
