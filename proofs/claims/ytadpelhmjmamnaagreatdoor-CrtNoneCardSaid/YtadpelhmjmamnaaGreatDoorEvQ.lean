/- The reckoner: what is one. No conditions. -/
import Derived.Test.YtadpelhmjmamnaaGreatDoorEvP11
namespace Go.Proofs.YtadpelhmjmamnaaGreatDoor.Ev
open Go

theorem beqL_eq {α : Type} {f : α → α → Bool} (hf : ∀ x y, f x y = true → x = y) : ∀ {a b : List α}, beqL f a b = true → a = b
  | [], [], _ => rfl
  | [], _ :: _, h => by cases h
  | _ :: _, [], h => by cases h
  | x :: a, y :: b, h => by
    have h' : (f x y && beqL f a b) = true := h
    rw [Bool.and_eq_true] at h'
    rw [hf x y h'.1, beqL_eq hf h'.2]
theorem beqO_eq {a b : Option Nat} (h : beqO a b = true) : a = b := by
  cases a <;> cases b
  · rfl
  · cases h
  · cases h
  · exact congrArg some (Nat.eq_of_beq_eq_true h)
theorem beqA_eq {a b : Option Addr} (h : beqA a b = true) : a = b := by
  cases a <;> cases b
  · rfl
  · cases h
  · cases h
  · rename_i a b
    obtain ⟨n, o, s⟩ := a
    obtain ⟨m, p, t⟩ := b
    have h' : (Nat.beq n m && Nat.beq o p && beqO s t) = true := h
    rw [Bool.and_eq_true, Bool.and_eq_true] at h'
    rw [Nat.eq_of_beq_eq_true h'.1.1, Nat.eq_of_beq_eq_true h'.1.2, beqO_eq h'.2]
theorem beqT_eq {a b : Bool} (h : beqT a b = true) : a = b := by cases a <;> cases b <;> first | rfl | cases h
theorem beqS_eq {a b : ByteArray} (h : beqS a b = true) : a = b := by
  have h1 := beqL_eq (f := fun x y : UInt8 => Nat.beq x.toNat y.toNat) (fun x y h => UInt8.toNat_inj.1 (Nat.eq_of_beq_eq_true h)) h
  cases a
  cases b
  congr 1
  exact Array.ext' h1
theorem eqF_one {a b : Int} (h : eqF a b = true) : a = b := by rw [eqF_eq] at h; exact eq_of_beq h
theorem beqV_eq : ∀ (d : Nat) (a b : Value), beqV d a b = true → a = b := by
  intro d
  induction d with
  | zero => intro a b h; cases h
  | succ d ih =>
    intro a b h
    cases a with
    | bool x => cases b with
      | bool y => exact congrArg Value.bool (beqT_eq h)
      | _ => cases h
    | int j x => cases b with
      | int k y =>
        have h' : (kindEq j k && eqF x y) = true := h
        rw [Bool.and_eq_true] at h'
        rw [kindEq_eq h'.1, eqF_one h'.2]
      | _ => cases h
    | string x => cases b with
      | string y => exact congrArg Value.string (beqS_eq h)
      | _ => cases h
    | pointer x => cases b with
      | pointer y => exact congrArg Value.pointer (beqA_eq h)
      | _ => cases h
    | slice x l c => cases b with
      | slice y m e =>
        have h' : (beqA x y && Nat.beq l m && Nat.beq c e) = true := h
        rw [Bool.and_eq_true, Bool.and_eq_true] at h'
        rw [beqA_eq h'.1.1, Nat.eq_of_beq_eq_true h'.1.2, Nat.eq_of_beq_eq_true h'.2]
      | _ => cases h
    | nilFunc => cases b with
      | nilFunc => rfl
      | _ => cases h
    | nilIface => cases b with
      | nilIface => rfl
      | _ => cases h
    | iface t x => cases b with
      | iface u y =>
        have h' : (Nat.beq t u && beqV d x y) = true := h
        rw [Bool.and_eq_true] at h'
        rw [Nat.eq_of_beq_eq_true h'.1, ih _ _ h'.2]
      | _ => cases h
    | agg xs => cases b with
      | agg ys => exact congrArg Value.agg (Array.ext' (beqL_eq (fun x y => ih x y) h))
      | _ => cases h
    | tuple xs => cases b with
      | tuple ys => exact congrArg Value.tuple (Array.ext' (beqL_eq (fun x y => ih x y) h))
      | _ => cases h
    | float k n => cases h
    | complex k a b => cases h
    | map r => cases h
    | chan r => cases h
    | func f a b => cases h
theorem beqB_eq {a b : AB} (h : beqB a b = true) : a = b := by
  cases a with
  | cells g e l => cases b with
    | cells g' e' m =>
      have h' : (beqT g g' && Nat.beq e e' && beqL (beqV 8) l m) = true := h
      rw [Bool.and_eq_true, Bool.and_eq_true] at h'
      rw [beqT_eq h'.1.1, Nat.eq_of_beq_eq_true h'.1.2, beqL_eq (fun x y => beqV_eq 8 x y) h'.2]
    | _ => cases h
  | _ => cases h
theorem beqP_eq (p q : Nat × AB) (h : beqP p q = true) : p = q := by
  obtain ⟨n, a⟩ := p
  obtain ⟨m, b⟩ := q
  have h' : (Nat.beq n m && beqB a b) = true := h
  rw [Bool.and_eq_true] at h'
  rw [Nat.eq_of_beq_eq_true h'.1, beqB_eq h'.2]
end Go.Proofs.YtadpelhmjmamnaaGreatDoor.Ev
