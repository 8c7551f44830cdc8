/-
  SpaceOnce: the closed facts of its row, another piece.
-/
import Derived.Test.YtopaeomjndblkaaGreatRows
import Derived.WalkKit
import Derived.ProofKit
import Derived.OpenShut
namespace Go.Proofs.YtopaeomjndblkaaGreat.spaceOnce
open Go.ChangeShapes Go.WideShapes Go.ChangeAt Go.RowKit
theorem cl3 : (Rows.spaceOnceRow.recurses == Tryz.pinned.checked.prog.recurses 13) = true := by kernel_rfl
theorem cl4 : (Rows.spaceOnceRow.named == Tryz.pinned.checked.prog.varsNamed 13) = true := by kernel_rfl
end Go.Proofs.YtopaeomjndblkaaGreat.spaceOnce
