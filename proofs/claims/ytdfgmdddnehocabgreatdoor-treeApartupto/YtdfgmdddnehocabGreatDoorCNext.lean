/-
  The document's own Next: one character off its bytes.
-/
import Derived.Test.YtdfgmdddnehocabGreatDoorCRef
namespace Go.Proofs.YtdfgmdddnehocabGreatDoor
open Go.RowKit Go.Maps

/-- the number so far. -/
def acc (base : Nat) (l : List UInt8) : Nat → Nat
  | 0 => 0
  | 1 => (l.getD 0 0).toNat - base
  | j + 2 => acc base l (j + 1) * 64 + ((l.getD (j + 1) 0).toNat - 128)
theorem acc_step (base : Nat) (l : List UInt8) (j : Nat) (h : 1 ≤ j) : acc base l (j + 1) = acc base l j * 64 + ((l.getD j 0).toNat - 128) := by
  obtain ⟨k, rfl⟩ : ∃ k, j = k + 1 := ⟨j - 1, by omega⟩
  rfl
theorem drop_at (s : ByteArray) (p k : Nat) : byteAt (bl s) (p + k) = ((bl s).drop p).getD k 0 := by
  unfold byteAt
  simp [List.getD, List.getElem?_drop]
theorem i32_mul (r x : Nat) (hr : r < 1048576) (hx : x < 256) (h2 : 128 ≤ x) : wrap32 (wrap32 (wrap32 (64 * (r : Int)) + (x : Int)) - 128) = ((r * 64 + (x - 128) : Nat) : Int) := by
  unfold wrap32
  omega
def contTo (l : List UInt8) (j : Nat) : Prop := ∀ k, 1 ≤ k → k < j → cont (l.getD k 0).toNat
theorem acc_two (base : Nat) (l : List UInt8) : acc base l 2 = ((l.getD 0 0).toNat - base) * 64 + ((l.getD 1 0).toNat - 128) := rfl
theorem acc_three (base : Nat) (l : List UInt8) : acc base l 3 = (((l.getD 0 0).toNat - base) * 64 + ((l.getD 1 0).toNat - 128)) * 64 + ((l.getD 2 0).toNat - 128) := rfl
theorem acc_four (base : Nat) (l : List UInt8) : acc base l 4 = ((((l.getD 0 0).toNat - base) * 64 + ((l.getD 1 0).toNat - 128)) * 64 + ((l.getD 2 0).toNat - 128)) * 64 + ((l.getD 3 0).toNat - 128) := rfl
def fine : Nat → Nat → Prop
  | 3, v => 2048 ≤ v ∧ ¬ (55296 ≤ v ∧ v ≤ 57343)
  | 4, v => 65536 ≤ v ∧ v ≤ 1114111
  | _, _ => True

theorem nx_two_short (l : List UInt8) (h1 : 194 ≤ (l.getD 0 0).toNat) (h2 : (l.getD 0 0).toNat ≤ 223) (hl : l.length < 2) : nx l = (0, 0) := by
  unfold nx nxN
  rw [if_neg (by omega), if_pos ⟨h1, h2⟩, if_neg (fun h => by have := h.1; omega)]
theorem nx_two_bad (l : List UInt8) (h1 : 194 ≤ (l.getD 0 0).toNat) (h2 : (l.getD 0 0).toNat ≤ 223) (j : Nat) (hj : 1 ≤ j) (hj2 : j < 2) (hc : ¬ cont (l.getD j 0).toNat) : nx l = (0, 0) := by
  unfold nx nxN
  rw [if_neg (by omega), if_pos ⟨h1, h2⟩, if_neg (fun h => ?_)]

  obtain rfl : j = 1 := by omega
  exact hc h.2

theorem nx_two_ok (l : List UInt8) (h1 : 194 ≤ (l.getD 0 0).toNat) (h2 : (l.getD 0 0).toNat ≤ 223) (hl : 2 ≤ l.length) (hc : contTo l 2) : nx l = (acc 192 l 2, 2) := by
  unfold nx nxN
  rw [if_neg (by omega), if_pos ⟨h1, h2⟩, if_pos ⟨hl, hc 1 (by omega) (by omega)⟩]
  rfl

theorem nx_three_short (l : List UInt8) (h1 : 224 ≤ (l.getD 0 0).toNat) (h2 : (l.getD 0 0).toNat ≤ 239) (hl : l.length < 3) : nx l = (0, 0) := by
  unfold nx nxN
  rw [if_neg (by omega), if_neg (by omega), if_pos ⟨h1, h2⟩, if_neg (fun h => by have := h.1.1; omega)]
theorem nx_three_bad (l : List UInt8) (h1 : 224 ≤ (l.getD 0 0).toNat) (h2 : (l.getD 0 0).toNat ≤ 239) (j : Nat) (hj : 1 ≤ j) (hj2 : j < 3) (hc : ¬ cont (l.getD j 0).toNat) : nx l = (0, 0) := by
  unfold nx nxN
  rw [if_neg (by omega), if_neg (by omega), if_pos ⟨h1, h2⟩, if_neg (fun h => ?_)]

  rcases (by omega : j = 1 ∨ j = 2) with rfl | rfl
  · exact hc h.1.2.1
  · exact hc h.1.2.2

theorem nx_three_ok (l : List UInt8) (h1 : 224 ≤ (l.getD 0 0).toNat) (h2 : (l.getD 0 0).toNat ≤ 239) (hl : 3 ≤ l.length) (hc : contTo l 3) (hf : fine 3 (acc 224 l 3)) : nx l = (acc 224 l 3, 3) := by
  unfold fine at hf
  rw [acc_three] at hf ⊢
  unfold nx nxN
  rw [if_neg (by omega), if_neg (by omega), if_pos ⟨h1, h2⟩, if_pos ⟨⟨hl, hc 1 (by omega) (by omega), hc 2 (by omega) (by omega)⟩, hf⟩]
theorem nx_three_no (l : List UInt8) (h1 : 224 ≤ (l.getD 0 0).toNat) (h2 : (l.getD 0 0).toNat ≤ 239) (hf : ¬ fine 3 (acc 224 l 3)) : nx l = (0, 0) := by
  unfold fine at hf
  rw [acc_three] at hf
  unfold nx nxN
  rw [if_neg (by omega), if_neg (by omega), if_pos ⟨h1, h2⟩, if_neg (fun h => hf h.2)]

theorem nx_four_short (l : List UInt8) (h1 : 240 ≤ (l.getD 0 0).toNat) (h2 : (l.getD 0 0).toNat ≤ 244) (hl : l.length < 4) : nx l = (0, 0) := by
  unfold nx nxN
  rw [if_neg (by omega), if_neg (by omega), if_neg (by omega), if_pos ⟨h1, h2⟩, if_neg (fun h => by have := h.1.1; omega)]
theorem nx_four_bad (l : List UInt8) (h1 : 240 ≤ (l.getD 0 0).toNat) (h2 : (l.getD 0 0).toNat ≤ 244) (j : Nat) (hj : 1 ≤ j) (hj2 : j < 4) (hc : ¬ cont (l.getD j 0).toNat) : nx l = (0, 0) := by
  unfold nx nxN
  rw [if_neg (by omega), if_neg (by omega), if_neg (by omega), if_pos ⟨h1, h2⟩, if_neg (fun h => ?_)]

  rcases (by omega : j = 1 ∨ j = 2 ∨ j = 3) with rfl | rfl | rfl
  · exact hc h.1.2.1
  · exact hc h.1.2.2.1
  · exact hc h.1.2.2.2

theorem nx_four_ok (l : List UInt8) (h1 : 240 ≤ (l.getD 0 0).toNat) (h2 : (l.getD 0 0).toNat ≤ 244) (hl : 4 ≤ l.length) (hc : contTo l 4) (hf : fine 4 (acc 240 l 4)) : nx l = (acc 240 l 4, 4) := by
  unfold fine at hf
  rw [acc_four] at hf ⊢
  unfold nx nxN
  rw [if_neg (by omega), if_neg (by omega), if_neg (by omega), if_pos ⟨h1, h2⟩, if_pos ⟨⟨hl, hc 1 (by omega) (by omega), hc 2 (by omega) (by omega), hc 3 (by omega) (by omega)⟩, hf⟩]
theorem nx_four_no (l : List UInt8) (h1 : 240 ≤ (l.getD 0 0).toNat) (h2 : (l.getD 0 0).toNat ≤ 244) (hf : ¬ fine 4 (acc 240 l 4)) : nx l = (0, 0) := by
  unfold fine at hf
  rw [acc_four] at hf
  unfold nx nxN
  rw [if_neg (by omega), if_neg (by omega), if_neg (by omega), if_pos ⟨h1, h2⟩, if_neg (fun h => hf h.2)]

end Go.Proofs.YtdfgmdddnehocabGreatDoor
