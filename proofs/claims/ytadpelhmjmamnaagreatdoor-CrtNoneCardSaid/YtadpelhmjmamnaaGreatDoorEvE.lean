/- The reckoner: are two values one? No conditions. -/
import Derived.Test.YtadpelhmjmamnaaGreatDoorEvF
namespace Go.Proofs.YtadpelhmjmamnaaGreatDoor.Ev
open Go

noncomputable def beqL {α : Type} (f : α → α → Bool) (a : List α) : List α → Bool :=
  List.rec (motive := fun _ => List α → Bool) (fun b => match b with | [] => true | _ :: _ => false) (fun x _ ih b => match b with | [] => false | y :: b => f x y && ih b) a
def beqO (a b : Option Nat) : Bool := match a, b with | none, none => true | some a, some b => Nat.beq a b | _, _ => false
def beqA (a b : Option Addr) : Bool := match a, b with | none, none => true | some ⟨n, o, s⟩, some ⟨m, p, t⟩ => Nat.beq n m && Nat.beq o p && beqO s t | _, _ => false
def beqT (a b : Bool) : Bool := cond a b (!b)
noncomputable def beqS (a b : ByteArray) : Bool := beqL (fun x y => Nat.beq x.toNat y.toNat) a.data.toList b.data.toList
/-- Are two values one, as far as is looked? -/
noncomputable def beqV (d : Nat) : Value → Value → Bool :=
  Nat.rec (motive := fun _ => Value → Value → Bool) (fun _ _ => false) (fun _ ih a b => match a with
    | .bool x => (match b with | .bool y => beqT x y | _ => false)
    | .int j x => (match b with | .int k y => kindEq j k && eqF x y | _ => false)
    | .string x => (match b with | .string y => beqS x y | _ => false)
    | .pointer x => (match b with | .pointer y => beqA x y | _ => false)
    | .slice x l c => (match b with | .slice y m e => beqA x y && Nat.beq l m && Nat.beq c e | _ => false)
    | .nilFunc => (match b with | .nilFunc => true | _ => false)
    | .nilIface => (match b with | .nilIface => true | _ => false)
    | .iface t x => (match b with | .iface u y => Nat.beq t u && ih x y | _ => false)
    | .agg xs => (match b with | .agg ys => beqL ih xs.toList ys.toList | _ => false)
    | .tuple xs => (match b with | .tuple ys => beqL ih xs.toList ys.toList | _ => false)
    | _ => false) d
noncomputable def beqB (a b : AB) : Bool := match a with
  | .cells g e l => (match b with | .cells h f m => beqT g h && Nat.beq e f && beqL (beqV 8) l m | _ => false)
  | _ => false
noncomputable def beqP (p q : Nat × AB) : Bool := Nat.beq p.1 q.1 && beqB p.2 q.2
end Go.Proofs.YtadpelhmjmamnaaGreatDoor.Ev
