/-
  SpaceLives: the closed facts of its row, a piece.
-/
import Derived.Test.YtopaeomjndblkaaGreatRows
import Derived.WalkKit
import Derived.ProofKit
import Derived.OpenShut
namespace Go.Proofs.YtopaeomjndblkaaGreat.spaceLives
open Go.ChangeShapes Go.WideShapes Go.ChangeAt Go.RowKit
theorem cl1 : (Rows.spaceLivesRow.inPlace == Tryz.pinned.checked.prog.inPlace 10) = true := by kernel_rfl
theorem cl2 : (Rows.spaceLivesRow.unfollowed == Tryz.pinned.checked.prog.unfollowed 10) = true := by kernel_rfl
end Go.Proofs.YtopaeomjndblkaaGreat.spaceLives
