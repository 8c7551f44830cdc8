/-
  PoolDoes: the closed facts of its row, another piece.
-/
import Derived.Test.YtopaeomjndblkaaGreatRows
import Derived.WalkKit
import Derived.ProofKit
import Derived.OpenShut
namespace Go.Proofs.YtopaeomjndblkaaGreat.poolDoes
open Go.ChangeShapes Go.WideShapes Go.ChangeAt Go.RowKit
theorem cl3 : (Rows.poolDoesRow.recurses == Tryz.pinned.checked.prog.recurses 3) = true := by kernel_rfl
theorem cl4 : (Rows.poolDoesRow.named == Tryz.pinned.checked.prog.varsNamed 3) = true := by kernel_rfl
end Go.Proofs.YtopaeomjndblkaaGreat.poolDoes
