/-
  KeptNodes.
-/
import Derived.Test.YtdfgmdddnehocabDoorTLent
set_option linter.unusedSimpArgs false
namespace Go.Proofs.YtdfgmdddnehocabDoor
open Go.RowKit Go.Maps Go.Lib

abbrev SX (w : World) (g i : Nat) (M : Int) : Prop := w.cell? ⟨g, i * 4, none⟩ = some (.int .u8 0) ∧ w.cell? ⟨g, i * 4 + 1, none⟩ = some (.string ⟨#[]⟩) ∧ w.cell? ⟨g, i * 4 + 2, none⟩ = some (.string ⟨#[]⟩) ∧ w.cell? ⟨g, i * 4 + 3, none⟩ = some (.int .i64 M)
theorem LentN.lt {w : World} {g cap : Nat} {t : List Nd} (h : LentN w g cap t) : g < w.heap.size := by
  obtain ⟨cur, hg, _⟩ := h.ex
  exact (Array.getElem?_eq_some_iff.1 hg).1
theorem marks_at (m : Nat) (h : m < 12) : nth (marksL 12) m = markNd 1 (m : Int) := by
  rw [nth_lt (by rw [marks_len]; exact h)]
  simp [marksL]
theorem LentN.mark {w : World} {g cap : Nat} {t : List Nd} (h : LentN w g cap t) (m : Nat) (hm : m < 12) : SX w g (t.length + m) (1000003 * (1 + 7) + (m : Int)) := by
  have := h.all (t.length + m) (by rw [List.length_append, marks_len]; omega)
  unfold knd nam vlu par at this
  rw [nth_app_right (by rw [marks_len]; exact hm), marks_at m hm] at this
  rw [Nat.zero_add] at this
  exact this
end Go.Proofs.YtdfgmdddnehocabDoor
