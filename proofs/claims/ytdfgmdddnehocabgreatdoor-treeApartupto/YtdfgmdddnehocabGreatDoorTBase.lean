/-
  Rows of nodes in memory.
-/
import Derived.Test.YtdfgmdddnehocabGreatDoorCCode
import Derived.Test.YtdfgmdddnehocabGreatDoorTMath
namespace Go.Proofs.YtdfgmdddnehocabGreatDoor
open Go.RowKit Go.Maps

/-- What the numbers and texts of a row may be. -/
def Sane (t : List Nd) : Prop := ∀ i, i < t.length → knd t i < 256 ∧ (-9223372036854775808 ≤ par t i ∧ par t i ≤ 9223372036854775807) ∧ (nam t i).size < 9223372036854775808 ∧ (vlu t i).size < 9223372036854775808
/-- A row of nodes in memory: four cells each. -/
def NodesAt (w : World) (ad : Option Addr) (t : List Nd) : Prop := ∀ i, i < t.length → ∃ b off, ad = some ⟨b, off, none⟩ ∧ w.cell? ⟨b, off + i * 4, none⟩ = some (.int .u8 (knd t i : Nat)) ∧ w.cell? ⟨b, off + i * 4 + 1, none⟩ = some (.string (nam t i)) ∧ w.cell? ⟨b, off + i * 4 + 2, none⟩ = some (.string (vlu t i)) ∧ w.cell? ⟨b, off + i * 4 + 3, none⟩ = some (.int .i64 (par t i))
/-- .. where it lies is known. -/
def NodesIn (w : World) (b off : Nat) (t : List Nd) : Prop := ∀ i, i < t.length → w.cell? ⟨b, off + i * 4, none⟩ = some (.int .u8 (knd t i : Nat)) ∧ w.cell? ⟨b, off + i * 4 + 1, none⟩ = some (.string (nam t i)) ∧ w.cell? ⟨b, off + i * 4 + 2, none⟩ = some (.string (vlu t i)) ∧ w.cell? ⟨b, off + i * 4 + 3, none⟩ = some (.int .i64 (par t i))
theorem NodesAt.in {w : World} {ad : Option Addr} {t : List Nd} (h : NodesAt w ad t) (hne : 0 < t.length) : ∃ b off, ad = some ⟨b, off, none⟩ ∧ NodesIn w b off t := by
  obtain ⟨b, off, e, _⟩ := h 0 hne
  subst e
  refine ⟨b, off, rfl, fun i hi => ?_⟩
  obtain ⟨b', off', e, r⟩ := h i hi
  cases e
  exact r
theorem NodesIn.at {w : World} {b off : Nat} {t : List Nd} (h : NodesIn w b off t) : NodesAt w (some ⟨b, off, none⟩) t := fun i hi => ⟨b, off, rfl, h i hi⟩
theorem NodesIn.kept {w w' : World} {b off : Nat} {t : List Nd} {L : List Nat} (h : NodesIn w b off t) (f : Fr L w w') (hb : b ∉ L) : NodesIn w' b off t := fun i hi =>
  ⟨cell_fr f hb (h i hi).1, cell_fr f hb (h i hi).2.1, cell_fr f hb (h i hi).2.2.1, cell_fr f hb (h i hi).2.2.2⟩
theorem NodesAt.kept {w w' : World} {ad : Option Addr} {t : List Nd} (h : NodesAt w ad t) (f : Fr [] w w') : NodesAt w' ad t := fun i hi => by
  obtain ⟨b, off, e, c0, c1, c2, c3⟩ := h i hi
  exact ⟨b, off, e, cell_fr f (by simp) c0, cell_fr f (by simp) c1, cell_fr f (by simp) c2, cell_fr f (by simp) c3⟩

end Go.Proofs.YtdfgmdddnehocabGreatDoor
