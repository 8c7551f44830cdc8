/-
  ChangeDoes: the closed facts of its row, another piece.
-/
import Derived.Test.YtopaeomjndblkaaGreatRows
import Derived.WalkKit
import Derived.ProofKit
import Derived.OpenShut
namespace Go.Proofs.YtopaeomjndblkaaGreat.changeDoes
open Go.ChangeShapes Go.WideShapes Go.ChangeAt Go.RowKit
theorem cl3 : (Rows.changeDoesRow.recurses == Tryz.pinned.checked.prog.recurses 4) = true := by kernel_rfl
theorem cl4 : (Rows.changeDoesRow.named == Tryz.pinned.checked.prog.varsNamed 4) = true := by kernel_rfl
end Go.Proofs.YtopaeomjndblkaaGreat.changeDoes

