/-
  SpaceNumbers: the closed facts of its row, another piece.
-/
import Derived.Test.YtopaeomjndblkaaGreatRows
import Derived.WalkKit
import Derived.ProofKit
import Derived.OpenShut
namespace Go.Proofs.YtopaeomjndblkaaGreat.spaceNumbers
open Go.ChangeShapes Go.WideShapes Go.ChangeAt Go.RowKit
theorem cl3 : (Rows.spaceNumbersRow.recurses == Tryz.pinned.checked.prog.recurses 12) = true := by kernel_rfl
theorem cl4 : (Rows.spaceNumbersRow.named == Tryz.pinned.checked.prog.varsNamed 12) = true := by kernel_rfl
end Go.Proofs.YtopaeomjndblkaaGreat.spaceNumbers
