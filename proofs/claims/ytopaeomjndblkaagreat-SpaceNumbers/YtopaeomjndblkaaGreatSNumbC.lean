/-
  SpaceNumbers: the closed facts of its row.
-/
import Derived.Test.YtopaeomjndblkaaGreatRows
import Derived.WalkKit
import Derived.ProofKit
import Derived.OpenShut
import Derived.Test.YtopaeomjndblkaaGreatSNumbC1
import Derived.Test.YtopaeomjndblkaaGreatSNumbC2
namespace Go.Proofs.YtopaeomjndblkaaGreat.spaceNumbers
open Go.ChangeShapes Go.WideShapes Go.ChangeAt Go.RowKit
theorem closed : joinedFacts Tryz.pinned.checked.prog 12 Tryz.f12 Rows.spaceNumbersSpec Rows.spaceNumbersRow = true := by
  unfold joinedFacts
  rw [cl1, cl2, cl3, cl4]
  kernel_rfl
end Go.Proofs.YtopaeomjndblkaaGreat.spaceNumbers
