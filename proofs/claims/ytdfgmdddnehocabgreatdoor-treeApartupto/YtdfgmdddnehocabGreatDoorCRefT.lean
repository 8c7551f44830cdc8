/-
  The document's own Name, Texts, Blank.
-/
import Derived.Test.YtdfgmdddnehocabGreatDoorCNext
namespace Go.Proofs.YtdfgmdddnehocabGreatDoor
open Go.RowKit Go.Maps

def isNc : Option (List Nat) → Bool
  | some rs => rs.all (fun q => nch q)
  | none => false
theorem tx_none {l : List UInt8} (hne : l ≠ []) (h : (nx l).2 = 0) : isTx (runes l) = false := by rw [runes_step l hne, if_pos h]; rfl
theorem tx_step {l : List UInt8} (hne : l ≠ []) (h : (nx l).2 ≠ 0) : isTx (runes l) = (txt ((nx l).1 : Nat) && isTx (runes (l.drop (nx l).2))) := by
  rw [runes_step l hne, if_neg h]
  cases runes (l.drop (nx l).2) with
  | none => simp [isTx]
  | some rs => rfl
theorem nc_none {l : List UInt8} (hne : l ≠ []) (h : (nx l).2 = 0) : isNc (runes l) = false := by rw [runes_step l hne, if_pos h]; rfl
theorem nc_step {l : List UInt8} (hne : l ≠ []) (h : (nx l).2 ≠ 0) : isNc (runes l) = (nch ((nx l).1 : Nat) && isNc (runes (l.drop (nx l).2))) := by
  rw [runes_step l hne, if_neg h]
  cases runes (l.drop (nx l).2) with
  | none => simp [isNc]
  | some rs => rfl
theorem nm_none {l : List UInt8} (hne : l ≠ []) (h : (nx l).2 = 0) : isNm (runes l) = false := by rw [runes_step l hne, if_pos h]; rfl
theorem nm_step {l : List UInt8} (hne : l ≠ []) (h : (nx l).2 ≠ 0) : isNm (runes l) = (nst ((nx l).1 : Nat) && isNc (runes (l.drop (nx l).2))) := by
  rw [runes_step l hne, if_neg h]
  cases runes (l.drop (nx l).2) with
  | none => simp [isNm, isNc]
  | some rs => rfl
theorem drop_ne (s : ByteArray) (p : Nat) (h : p < s.size) : (bl s).drop p ≠ [] := by
  intro e
  have := congrArg List.length e
  rw [List.length_drop, bl_length] at this
  simp at this
  omega
theorem drop_end (s : ByteArray) (p : Nat) (h : s.size ≤ p) : (bl s).drop p = [] := List.drop_eq_nil_of_le (by rw [bl_length]; exact h)

def nmAt (p : Nat) (o : Option (List Nat)) : Bool := if p = 0 then isNm o else isNc o
theorem nst_nch {r : Int} (h : nst r = true) : nch r = true := by unfold nch; rw [h]; rfl

theorem blank_step (l : List UInt8) (p : Nat) (h : p < l.length) : blankB (l.drop p) = (blk (l.getD p 0) && blankB (l.drop (p + 1))) := by
  rw [List.drop_eq_getElem_cons h]
  have : l.getD p 0 = l[p] := by simp [List.getD, h]
  rw [this]
  rfl
end Go.Proofs.YtdfgmdddnehocabGreatDoor
