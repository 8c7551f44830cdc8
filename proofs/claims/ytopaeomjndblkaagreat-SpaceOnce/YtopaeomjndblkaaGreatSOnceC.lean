/-
  SpaceOnce: the closed facts of its row.
-/
import Derived.Test.YtopaeomjndblkaaGreatRows
import Derived.WalkKit
import Derived.ProofKit
import Derived.OpenShut
import Derived.Test.YtopaeomjndblkaaGreatSOnceC1
import Derived.Test.YtopaeomjndblkaaGreatSOnceC2
namespace Go.Proofs.YtopaeomjndblkaaGreat.spaceOnce
open Go.ChangeShapes Go.WideShapes Go.ChangeAt Go.RowKit
theorem closed : joinedFacts Tryz.pinned.checked.prog 13 Tryz.f13 Rows.spaceOnceSpec Rows.spaceOnceRow = true := by
  unfold joinedFacts
  rw [cl1, cl2, cl3, cl4]
  kernel_rfl
end Go.Proofs.YtopaeomjndblkaaGreat.spaceOnce
