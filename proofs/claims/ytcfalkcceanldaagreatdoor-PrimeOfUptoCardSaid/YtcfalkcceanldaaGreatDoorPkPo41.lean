/- The contracts of zint's Of and Near. Conditions: at most 2^26 limbs. The contract of zint's Near. Conditions: at most 2^26 limbs. The contracts of the laws' own of, same and lives. No conditions beyond the sizes. The contract of the reference's Copy; an append that is known whole; steps that keep limbs. No conditions beyond the sizes. -/
import Derived.Test.YtcfalkcceanldaaGreatDoorPkPo39
import Derived.Test.YtcfalkcceanldaaGreatDoorPkPo34
namespace Go.Proofs.YtcfalkcceanldaaGreatDoor
section
open Go.RowKit


theorem sign_range (z : Int) : -9223372036854775808 ≤ z.sign ∧ z.sign ≤ 9223372036854775807 := by
  rcases sign_cases z with ⟨a, b⟩ | ⟨a, b⟩ | ⟨a, b⟩ <;> omega
def nrE (y : Int) : Int := if y = 0 then 5 else 0
def nrQ (z y : Int) : Int := if y = 0 then 0 else nearZ z y
section
variable {w : World} {g g2 : Bool} {A A2 : Option Addr} {c c2 K J : Nat} {xs ys : List Nat} {z y : Int}













end
end
section
open Go.RowKit

section
variable {w : World} {g g2 : Bool} {A A2 : Option Addr} {c c2 K J : Nat} {xs ys : List Nat} {z y : Int}
end
end
section
open Go.RowKit


end
section
open Go.RowKit

/-- A slice at the head of a row of limbs of the call's own, whatever its room. -/
def Rs (w : World) (B : Nat) (A : Option Addr) (vs : List Value) : Prop := vs ≠ [] → ∃ g rest, A = some ⟨g, 0, none⟩ ∧ B ≤ g ∧ Blk w g 28 (vs ++ rest)
section
variable {w w' : World} {B B2 g : Nat} {A : Option Addr} {vs : List Value} {x y : Value}
theorem Res.rs {c : Nat} (h : Res w B 28 A c vs) : Rs w B A vs := fun hn => by
  obtain ⟨g, rest, e, hg, hk, _⟩ := h.2.2 hn
  exact ⟨g, rest, e, hg, hk⟩
theorem Rs.rd (h : Rs w B A vs) : Rd w w.heap.size A vs := fun hn => by
  obtain ⟨g, rest, rfl, _, hb⟩ := h hn
  exact Rd.of_blk hb hb.lt 0 (fun k v hv => by
    rw [Nat.zero_add, List.getElem?_append_left (List.getElem?_eq_some_iff.1 hv).1]; exact hv) hn
theorem Rs.next (h : Rs w B A vs) (hb : Below w.heap.size w w') : Rs w' B A vs := fun hn => by
  obtain ⟨g, rest, e, hg, hk⟩ := h hn
  exact ⟨g, rest, e, hg, hk.below hb hk.lt⟩
theorem Rs.mono (h : Rs w B A vs) (hB : B2 ≤ B) : Rs w B2 A vs := fun hn => by
  obtain ⟨g, rest, e, hg, hk⟩ := h hn
  exact ⟨g, rest, e, by omega, hk⟩
theorem Rs.al (h : Rs w B A vs) (o : Obj) : Rs (w.alloc o) B A vs := h.next ((Below.refl _ _).alloc (Nat.le_refl _) o)
theorem Rs.dw (h : Rs w B A vs) : Rs w.drew B A vs := h
theorem Rs.dn (h : Rs w B A vs) (n : Nat) : Rs (w.drewN n) B A vs := h
theorem Rs.var2 (h : Rs w B A vs) (hB : Blk w g 25 [x, y]) (u v : Value) : Rs ((w.setCell ⟨g, 0, none⟩ u).setCell ⟨g, 1, none⟩ v) B A vs := fun hn => by
  obtain ⟨b, rest, e, hb, hk⟩ := h hn
  have hne : b ≠ g := by
    rintro rfl
    unfold Blk at hk hB
    rw [hk] at hB
    have hB2 := Option.some.inj hB
    injection hB2 with _ e2 _
    exact type_ne e2
  exact ⟨b, rest, e, hb, (hk.far (p := ⟨g, 0, none⟩) hne _).far (p := ⟨g, 1, none⟩) hne _⟩
end
theorem own_rs {w : World} {base : Nat} {v : Value} {n : Nat} {xs : List Value} (h : w.ownsRow base 28 1 v n xs) : ∃ A c, v = .slice A n c ∧ n ≤ c ∧ Rs w base A xs := by
  obtain ⟨hl, h1 | ⟨g, cap, cur, rfl, hg, hh, hnc, hcm, hsz, ht⟩⟩ := h
  · obtain ⟨rfl, rfl⟩ := h1
    have : xs = [] := List.eq_nil_of_length_eq_zero (by simpa using hl)
    subst this
    exact ⟨none, 0, rfl, Nat.le_refl _, fun h => absurd rfl h⟩
  · have hl' : xs.length = n := by simpa using hl
    have hb : Blk w g 28 cur.toList := by simpa [Blk] using hh
    have e1 : cur.toList = xs ++ cur.toList.drop xs.length := by
      conv => lhs; rw [← List.take_append_drop xs.length cur.toList]
      congr 1
      rw [hl']; simpa using ht
    exact ⟨_, cap, rfl, hnc, fun _ => ⟨g, cur.toList.drop xs.length, rfl, hg, by rw [← e1]; exact hb⟩⟩
theorem res_al {w : World} {B : Nat} {t : TypeId} {A : Option Addr} {c : Nat} {vs : List Value} (h : Res w B t A c vs) (o : Obj) : Res (w.alloc o) B t A c vs := h.below ((Below.refl _ _).alloc (Nat.le_refl _) o) (Nat.le_refl _)
theorem res_dw {w : World} {B : Nat} {t : TypeId} {A : Option Addr} {c : Nat} {vs : List Value} (h : Res w B t A c vs) : Res w.drew B t A c vs := h
theorem res_dn {w : World} {B n : Nat} {t : TypeId} {A : Option Addr} {c : Nat} {vs : List Value} (h : Res w B t A c vs) : Res (w.drewN n) B t A c vs := h
end
end Go.Proofs.YtcfalkcceanldaaGreatDoor
