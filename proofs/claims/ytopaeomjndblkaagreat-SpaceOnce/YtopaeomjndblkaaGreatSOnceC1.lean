/-
  SpaceOnce: the closed facts of its row, a piece.
-/
import Derived.Test.YtopaeomjndblkaaGreatRows
import Derived.WalkKit
import Derived.ProofKit
import Derived.OpenShut
namespace Go.Proofs.YtopaeomjndblkaaGreat.spaceOnce
open Go.ChangeShapes Go.WideShapes Go.ChangeAt Go.RowKit
theorem cl1 : (Rows.spaceOnceRow.inPlace == Tryz.pinned.checked.prog.inPlace 13) = true := by kernel_rfl
theorem cl2 : (Rows.spaceOnceRow.unfollowed == Tryz.pinned.checked.prog.unfollowed 13) = true := by kernel_rfl
end Go.Proofs.YtopaeomjndblkaaGreat.spaceOnce
