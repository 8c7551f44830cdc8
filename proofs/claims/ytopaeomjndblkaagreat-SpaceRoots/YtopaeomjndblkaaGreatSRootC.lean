/-
  SpaceRoots: the closed facts of its row.
-/
import Derived.Test.YtopaeomjndblkaaGreatRows
import Derived.WalkKit
import Derived.ProofKit
import Derived.OpenShut
import Derived.Test.YtopaeomjndblkaaGreatSRootC1
import Derived.Test.YtopaeomjndblkaaGreatSRootC2
namespace Go.Proofs.YtopaeomjndblkaaGreat.spaceRoots
open Go.ChangeShapes Go.WideShapes Go.ChangeAt Go.RowKit
theorem closed : joinedFacts Tryz.pinned.checked.prog 14 Tryz.f14 Rows.spaceRootsSpec Rows.spaceRootsRow = true := by
  unfold joinedFacts
  rw [cl1, cl2, cl3, cl4]
  kernel_rfl
end Go.Proofs.YtopaeomjndblkaaGreat.spaceRoots
