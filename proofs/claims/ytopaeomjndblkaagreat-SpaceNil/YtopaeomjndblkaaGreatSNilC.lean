/-
  SpaceNil: the closed facts of its row.
-/
import Derived.Test.YtopaeomjndblkaaGreatRows
import Derived.WalkKit
import Derived.ProofKit
import Derived.OpenShut
namespace Go.Proofs.YtopaeomjndblkaaGreat.spaceNil
open Go.ChangeShapes Go.WideShapes Go.ChangeAt Go.RowKit
theorem closed : joinedFacts Tryz.pinned.checked.prog 11 Tryz.f11 Rows.spaceNilSpec Rows.spaceNilRow = true := by kernel_rfl
end Go.Proofs.YtopaeomjndblkaaGreat.spaceNil
