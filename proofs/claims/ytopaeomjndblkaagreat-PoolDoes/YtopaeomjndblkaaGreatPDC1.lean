/-
  PoolDoes: the closed facts of its row, a piece.
-/
import Derived.Test.YtopaeomjndblkaaGreatRows
import Derived.WalkKit
import Derived.ProofKit
import Derived.OpenShut
namespace Go.Proofs.YtopaeomjndblkaaGreat.poolDoes
open Go.ChangeShapes Go.WideShapes Go.ChangeAt Go.RowKit
theorem cl1 : (Rows.poolDoesRow.inPlace == Tryz.pinned.checked.prog.inPlace 3) = true := by kernel_rfl
theorem cl2 : (Rows.poolDoesRow.unfollowed == Tryz.pinned.checked.prog.unfollowed 3) = true := by kernel_rfl
end Go.Proofs.YtopaeomjndblkaaGreat.poolDoes
