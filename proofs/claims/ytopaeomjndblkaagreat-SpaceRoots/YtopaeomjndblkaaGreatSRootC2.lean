/-
  SpaceRoots: the closed facts of its row, another piece.
-/
import Derived.Test.YtopaeomjndblkaaGreatRows
import Derived.WalkKit
import Derived.ProofKit
import Derived.OpenShut
namespace Go.Proofs.YtopaeomjndblkaaGreat.spaceRoots
open Go.ChangeShapes Go.WideShapes Go.ChangeAt Go.RowKit
theorem cl3 : (Rows.spaceRootsRow.recurses == Tryz.pinned.checked.prog.recurses 14) = true := by kernel_rfl
theorem cl4 : (Rows.spaceRootsRow.named == Tryz.pinned.checked.prog.varsNamed 14) = true := by kernel_rfl
end Go.Proofs.YtopaeomjndblkaaGreat.spaceRoots
