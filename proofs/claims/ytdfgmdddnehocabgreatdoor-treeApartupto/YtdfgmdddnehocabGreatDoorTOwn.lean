/-
  The map of attributes' names, as data.
-/
import Derived.Test.YtdfgmdddnehocabGreatDoorTMath
import Derived.Maps.OwnSet
namespace Go.Proofs.YtdfgmdddnehocabGreatDoor
open Go.RowKit Go.Maps

def keyL (n : ByteArray) : Lit := .string (bl n)
theorem keyL_ne {a b : ByteArray} (h : a ≠ b) : keyL a ≠ keyL b := fun e => h (by
  have e' : a.data.toList = b.data.toList := by injection e
  cases a; cases b
  simp at e'
  rw [e'])
theorem keyL_lit (n : ByteArray) : WideAt.IsKeyLit (keyL n) := by first | exact trivial | (unfold WideAt.IsKeyLit keyL; simp) | trivial
def ownD (t : List Nd) : Nat → DataW Unit
  | 0 => .map []
  | i + 1 => if knd t i = 3 then (ownD t i).put (keyL (nam t i)) (.lit (.int .i64 (par t i))) else ownD t i
theorem ownD_map (t : List Nd) : ∀ i, IsMap (ownD t i)
  | 0 => isMap_empty
  | i + 1 => by
    unfold ownD
    split
    · exact (ownD_map t i).put _ _
    · exact ownD_map t i
theorem ownD_says (t : List Nd) (n : ByteArray) : ∀ i, Maps.has (ownD t i) (keyL n) = (lastOwn t i n).isSome ∧ (ownD t i).atKey (keyL n) (.lit (.int .i64 0)) = .lit (.int .i64 ((lastOwn t i n).getD 0))
  | 0 => ⟨rfl, rfl⟩
  | i + 1 => by
    obtain ⟨h1, h2⟩ := ownD_says t n i
    unfold ownD lastOwn
    by_cases c : knd t i = 3
    · rw [if_pos c]
      by_cases e : nam t i = n
      · rw [if_pos ⟨c, e⟩, e]
        exact ⟨has_put_same (ownD_map t i) (keyL_lit n) _, atKey_put_same (ownD_map t i) (keyL_lit n) _ _⟩
      · rw [if_neg (fun x => e x.2), has_put_other (keyL_ne (fun x => e x.symm)), atKey_put_other (keyL_ne (fun x => e x.symm))]
        exact ⟨h1, h2⟩
    · rw [if_neg c, if_neg (fun x => c x.1)]
      exact ⟨h1, h2⟩
end Go.Proofs.YtdfgmdddnehocabGreatDoor
