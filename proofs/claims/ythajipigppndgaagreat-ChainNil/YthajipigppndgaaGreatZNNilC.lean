/-
  ChainNil: the closed facts of its row.
-/
import Derived.Test.YthajipigppndgaaGreatRows
import Derived.WalkKit
import Derived.ProofKit
import Derived.OpenShut
namespace Go.Proofs.YthajipigppndgaaGreat.chainNil
open Go.ChangeShapes Go.WideShapes Go.ChangeAt Go.RowKit
theorem closed : joinedFacts Tryz.pinned.checked.prog 4 Tryz.f4 Rows.chainNilSpec Rows.chainNilRow = true := by kernel_rfl
end Go.Proofs.YthajipigppndgaaGreat.chainNil

