/-
  ChangeDoes: the closed facts of its row.
-/
import Derived.Test.YtopaeomjndblkaaGreatRows
import Derived.WalkKit
import Derived.ProofKit
import Derived.OpenShut
import Derived.Test.YtopaeomjndblkaaGreatCDC1
import Derived.Test.YtopaeomjndblkaaGreatCDC2
namespace Go.Proofs.YtopaeomjndblkaaGreat.changeDoes
open Go.ChangeShapes Go.WideShapes Go.ChangeAt Go.RowKit
theorem closed : joinedFacts Tryz.pinned.checked.prog 4 Tryz.f4 Rows.changeDoesSpec Rows.changeDoesRow = true := by
  unfold joinedFacts
  rw [cl1, cl2, cl3, cl4]
  kernel_rfl
end Go.Proofs.YtopaeomjndblkaaGreat.changeDoes

