/-
  The document's own answers: within, Char, NameStart, NameChar, Next.
-/
import Derived.Test.YtdfgmdddnehocabGreatDoorCWhat
namespace Go.Proofs.YtdfgmdddnehocabGreatDoor
open Go.RowKit Go.Maps

def wi (r a b : Int) : Bool := decide (a ≤ r ∧ r ≤ b)
theorem Hid.mk {p : Prop} (h : p) : Hid p := h
theorem not_one {r a : Int} (h : ¬ r = a) : ¬ (a ≤ r ∧ r ≤ a) := by omega
theorem not_two {r a b : Int} (h : ¬ r = a) (k : ¬ r = b) (e : b = a + 1) : ¬ (a ≤ r ∧ r ≤ b) := by omega
theorem in_of {L : List (Int × Int)} {r : Int} (p : Int × Int) (hp : p ∈ L) (h : p.1 ≤ r ∧ r ≤ p.2) : inR L r = true := List.any_eq_true.2 ⟨p, hp, decide_eq_true h⟩

end Go.Proofs.YtdfgmdddnehocabGreatDoor
