/-
  ChangeUndoes: the closed facts of its row.
-/
import Derived.Test.YtopaeomjndblkaaGreatRows
import Derived.WalkKit
import Derived.ProofKit
import Derived.OpenShut
import Derived.Test.YtopaeomjndblkaaGreatX29Z
import Derived.Test.YtopaeomjndblkaaGreatX30Z
namespace Go.Proofs.YtopaeomjndblkaaGreat.changeUndoes
open Go.ChangeShapes Go.WideShapes Go.ChangeAt Go.RowKit
theorem closed : joinedFacts Tryz.pinned.checked.prog 6 Tryz.f6 Rows.changeUndoesSpec Rows.changeUndoesRow = true := by
  unfold joinedFacts
  rw [cl1, cl2, cl3, cl4]
  kernel_rfl
end Go.Proofs.YtopaeomjndblkaaGreat.changeUndoes

