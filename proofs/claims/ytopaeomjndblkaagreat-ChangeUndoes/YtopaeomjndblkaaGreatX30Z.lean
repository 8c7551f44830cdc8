/-
  ChangeUndoes: the closed facts of its row, another piece.
-/
import Derived.Test.YtopaeomjndblkaaGreatRows
import Derived.WalkKit
import Derived.ProofKit
import Derived.OpenShut
namespace Go.Proofs.YtopaeomjndblkaaGreat.changeUndoes
open Go.ChangeShapes Go.WideShapes Go.ChangeAt Go.RowKit
theorem cl3 : (Rows.changeUndoesRow.recurses == Tryz.pinned.checked.prog.recurses 6) = true := by kernel_rfl
theorem cl4 : (Rows.changeUndoesRow.named == Tryz.pinned.checked.prog.varsNamed 6) = true := by kernel_rfl
end Go.Proofs.YtopaeomjndblkaaGreat.changeUndoes

