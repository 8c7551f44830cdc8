/-
  SpaceLives: the closed facts of its row, another piece.
-/
import Derived.Test.YtopaeomjndblkaaGreatRows
import Derived.WalkKit
import Derived.ProofKit
import Derived.OpenShut
namespace Go.Proofs.YtopaeomjndblkaaGreat.spaceLives
open Go.ChangeShapes Go.WideShapes Go.ChangeAt Go.RowKit
theorem cl3 : (Rows.spaceLivesRow.recurses == Tryz.pinned.checked.prog.recurses 10) = true := by kernel_rfl
theorem cl4 : (Rows.spaceLivesRow.named == Tryz.pinned.checked.prog.varsNamed 10) = true := by kernel_rfl
end Go.Proofs.YtopaeomjndblkaaGreat.spaceLives
