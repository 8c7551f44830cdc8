/-
  SpaceNumbers: the closed facts of its row, a piece.
-/
import Derived.Test.YtopaeomjndblkaaGreatRows
import Derived.WalkKit
import Derived.ProofKit
import Derived.OpenShut
namespace Go.Proofs.YtopaeomjndblkaaGreat.spaceNumbers
open Go.ChangeShapes Go.WideShapes Go.ChangeAt Go.RowKit
theorem cl1 : (Rows.spaceNumbersRow.inPlace == Tryz.pinned.checked.prog.inPlace 12) = true := by kernel_rfl
theorem cl2 : (Rows.spaceNumbersRow.unfollowed == Tryz.pinned.checked.prog.unfollowed 12) = true := by kernel_rfl
end Go.Proofs.YtopaeomjndblkaaGreat.spaceNumbers
