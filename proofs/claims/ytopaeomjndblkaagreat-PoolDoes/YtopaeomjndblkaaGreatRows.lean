/-
  No cell of these rows narrows 'for every input' (looked for: loops, veiled, ifaces, maps, wideKeys, modest, calm, conditions, laid).
  DERIVED. THE GIVEN ROWS OF THIS SEAT. 12 by the template 'for every input the law returns true; each argument reads behind the call as it read before'; 0 by the template 'total and deterministic' (their statements: YtopaeomjndblkaaGreatTotals.lean).
  GIVEN WITH THE SEED: the statements are not yours to turn. If you find one false, say at which input.
  Laid BY PROGRAM, IN A SANDBOX (cutbox-rows.mjs): the forced cells as the released guide's own fill.sh prints them over the translation 2a58536ff711de45… (all of the seat's roots in one cut). By AI agents, Wed Nov 11 2026. No macro, syntax, notation, axiom, sorry.
-/
import Derived.Test.YtopaeomjndblkaaGreatChecked
import GoSem.Claim
import GoSem.ClaimJoined
import GoSem.ClaimMapViews
import Derived.JoinedTies
import Derived.KernelRfl
namespace Go.Proofs.YtopaeomjndblkaaGreat
/- THE CELL 'sum', in the pinned program and in every row, IS THE sha256 OF THE DUMP (.gsa) THAT YtopaeomjndblkaaGreatProg.lean LOADS. Nothing in Lean hashes anything: it is a label: what it is worth is what the hold of that sum in a sandbox is worth. -/
noncomputable def Tryz.pinned : Pinned := { name := "ytopaeomjndblkaagreat", sum := "2a58536ff711de457f8e8c88f049dd5e6a4e90990bd955786e7ddd623c72970f", checked := Tryz.checked }
namespace Rows
def none {H : Type} : Left H := { results := [], args := [] }

/-- 'parchmentlaw11.PoolDoes': WHATEVER THE INPUT: true; the input reads as it did. -/
def poolDoesSpec : ChangeSpec := { name := "poolDoes", fn := fun _ => fun
  | [d1, d2, d3] => { results := [.lit (.bool true)], args := [d1, d2, d3] }
  | _ => none }
def poolDoesRow : OpenClaim := { program := "ytopaeomjndblkaagreat", sum := "2a58536ff711de457f8e8c88f049dd5e6a4e90990bd955786e7ddd623c72970f", func := "parchment/parchmentlaw11.PoolDoes", spec := "poolDoes", unfollowed := true, recurses := true, apart := false }
def PoolDoesSaid : Prop := poolDoesRow.holds Tryz.pinned (OpenSpec.ofChange poolDoesSpec)

/-- ITS FALSE NEIGHBOUR: 'it returns false'. Refute it at one input. -/
def poolDoesWrong : ChangeSpec := { name := "poolDoes", fn := fun _ => fun
  | [d1, d2, d3] => { results := [.lit (.bool false)], args := [d1, d2, d3] }
  | _ => none }
def PoolDoesWrongFalsely : Prop := poolDoesRow.holds Tryz.pinned (OpenSpec.ofChange poolDoesWrong)

/-- 'parchmentlaw12.ChangeDoes': WHATEVER THE INPUT: true; the input reads as it did. -/
def changeDoesSpec : ChangeSpec := { name := "changeDoes", fn := fun _ => fun
  | [d1, d2, d3] => { results := [.lit (.bool true)], args := [d1, d2, d3] }
  | _ => none }
def changeDoesRow : OpenClaim := { program := "ytopaeomjndblkaagreat", sum := "2a58536ff711de457f8e8c88f049dd5e6a4e90990bd955786e7ddd623c72970f", func := "parchment/parchmentlaw12.ChangeDoes", spec := "changeDoes", unfollowed := true, recurses := true, apart := false }
def ChangeDoesSaid : Prop := changeDoesRow.holds Tryz.pinned (OpenSpec.ofChange changeDoesSpec)

/-- ITS FALSE NEIGHBOUR: 'it returns false'. Refute it at one input. -/
def changeDoesWrong : ChangeSpec := { name := "changeDoes", fn := fun _ => fun
  | [d1, d2, d3] => { results := [.lit (.bool false)], args := [d1, d2, d3] }
  | _ => none }
def ChangeDoesWrongFalsely : Prop := changeDoesRow.holds Tryz.pinned (OpenSpec.ofChange changeDoesWrong)

/-- 'parchmentlaw12.ChangeNone': WHATEVER THE INPUT: true; the input reads as it did. -/
def changeNoneSpec : ChangeSpec := { name := "changeNone", fn := fun _ => fun
  | [d1, d2, d3] => { results := [.lit (.bool true)], args := [d1, d2, d3] }
  | _ => none }
def changeNoneRow : OpenClaim := { program := "ytopaeomjndblkaagreat", sum := "2a58536ff711de457f8e8c88f049dd5e6a4e90990bd955786e7ddd623c72970f", func := "parchment/parchmentlaw12.ChangeNone", spec := "changeNone", unfollowed := true, recurses := true, apart := false }
def ChangeNoneSaid : Prop := changeNoneRow.holds Tryz.pinned (OpenSpec.ofChange changeNoneSpec)

/-- ITS FALSE NEIGHBOUR: 'it returns false'. Refute it at one input. -/
def changeNoneWrong : ChangeSpec := { name := "changeNone", fn := fun _ => fun
  | [d1, d2, d3] => { results := [.lit (.bool false)], args := [d1, d2, d3] }
  | _ => none }
def ChangeNoneWrongFalsely : Prop := changeNoneRow.holds Tryz.pinned (OpenSpec.ofChange changeNoneWrong)

/-- 'parchmentlaw12.ChangeUndoes': WHATEVER THE INPUT: true; the input reads as it did. -/
def changeUndoesSpec : ChangeSpec := { name := "changeUndoes", fn := fun _ => fun
  | [d1, d2, d3] => { results := [.lit (.bool true)], args := [d1, d2, d3] }
  | _ => none }
def changeUndoesRow : OpenClaim := { program := "ytopaeomjndblkaagreat", sum := "2a58536ff711de457f8e8c88f049dd5e6a4e90990bd955786e7ddd623c72970f", func := "parchment/parchmentlaw12.ChangeUndoes", spec := "changeUndoes", unfollowed := true, recurses := true, apart := false }
def ChangeUndoesSaid : Prop := changeUndoesRow.holds Tryz.pinned (OpenSpec.ofChange changeUndoesSpec)

/-- ITS FALSE NEIGHBOUR: 'it returns false'. Refute it at one input. -/
def changeUndoesWrong : ChangeSpec := { name := "changeUndoes", fn := fun _ => fun
  | [d1, d2, d3] => { results := [.lit (.bool false)], args := [d1, d2, d3] }
  | _ => none }
def ChangeUndoesWrongFalsely : Prop := changeUndoesRow.holds Tryz.pinned (OpenSpec.ofChange changeUndoesWrong)

/-- 'parchmentlaw13.RestoreWhole': WHATEVER THE INPUT: true; the input reads as it did. -/
def restoreWholeSpec : ChangeSpec := { name := "restoreWhole", fn := fun _ => fun
  | [d1, d2] => { results := [.lit (.bool true)], args := [d1, d2] }
  | _ => none }
def restoreWholeRow : OpenClaim := { program := "ytopaeomjndblkaagreat", sum := "2a58536ff711de457f8e8c88f049dd5e6a4e90990bd955786e7ddd623c72970f", func := "parchment/parchmentlaw13.RestoreWhole", spec := "restoreWhole", unfollowed := true, recurses := true, apart := false }
def RestoreWholeSaid : Prop := restoreWholeRow.holds Tryz.pinned (OpenSpec.ofChange restoreWholeSpec)

/-- ITS FALSE NEIGHBOUR: 'it returns false'. Refute it at one input. -/
def restoreWholeWrong : ChangeSpec := { name := "restoreWhole", fn := fun _ => fun
  | [d1, d2] => { results := [.lit (.bool false)], args := [d1, d2] }
  | _ => none }
def RestoreWholeWrongFalsely : Prop := restoreWholeRow.holds Tryz.pinned (OpenSpec.ofChange restoreWholeWrong)

/-- 'parchmentlaw13.RestoreTells': WHATEVER THE INPUT: true; the input reads as it did. -/
def restoreTellsSpec : ChangeSpec := { name := "restoreTells", fn := fun _ => fun
  | [d1, d2] => { results := [.lit (.bool true)], args := [d1, d2] }
  | _ => none }
def restoreTellsRow : OpenClaim := { program := "ytopaeomjndblkaagreat", sum := "2a58536ff711de457f8e8c88f049dd5e6a4e90990bd955786e7ddd623c72970f", func := "parchment/parchmentlaw13.RestoreTells", spec := "restoreTells", unfollowed := true, recurses := true, apart := false }
def RestoreTellsSaid : Prop := restoreTellsRow.holds Tryz.pinned (OpenSpec.ofChange restoreTellsSpec)

/-- ITS FALSE NEIGHBOUR: 'it returns false'. Refute it at one input. -/
def restoreTellsWrong : ChangeSpec := { name := "restoreTells", fn := fun _ => fun
  | [d1, d2] => { results := [.lit (.bool false)], args := [d1, d2] }
  | _ => none }
def RestoreTellsWrongFalsely : Prop := restoreTellsRow.holds Tryz.pinned (OpenSpec.ofChange restoreTellsWrong)

/-- 'parchmentlaw13.RestoreTwice': WHATEVER THE INPUT: true; the input reads as it did. -/
def restoreTwiceSpec : ChangeSpec := { name := "restoreTwice", fn := fun _ => fun
  | [d1, d2, d3] => { results := [.lit (.bool true)], args := [d1, d2, d3] }
  | _ => none }
def restoreTwiceRow : OpenClaim := { program := "ytopaeomjndblkaagreat", sum := "2a58536ff711de457f8e8c88f049dd5e6a4e90990bd955786e7ddd623c72970f", func := "parchment/parchmentlaw13.RestoreTwice", spec := "restoreTwice", inPlace := ["maps.clone"], unfollowed := true, recurses := true, apart := false }
def RestoreTwiceSaid : Prop := restoreTwiceRow.holds Tryz.pinned (OpenSpec.ofChange restoreTwiceSpec)

/-- ITS FALSE NEIGHBOUR: 'it returns false'. Refute it at one input. -/
def restoreTwiceWrong : ChangeSpec := { name := "restoreTwice", fn := fun _ => fun
  | [d1, d2, d3] => { results := [.lit (.bool false)], args := [d1, d2, d3] }
  | _ => none }
def RestoreTwiceWrongFalsely : Prop := restoreTwiceRow.holds Tryz.pinned (OpenSpec.ofChange restoreTwiceWrong)

/-- 'parchmentlaw14.SpaceLives': WHATEVER THE INPUT: true; the input reads as it did. -/
def spaceLivesSpec : ChangeSpec := { name := "spaceLives", fn := fun _ => fun
  | [d1, d2] => { results := [.lit (.bool true)], args := [d1, d2] }
  | _ => none }
def spaceLivesRow : OpenClaim := { program := "ytopaeomjndblkaagreat", sum := "2a58536ff711de457f8e8c88f049dd5e6a4e90990bd955786e7ddd623c72970f", func := "parchment/parchmentlaw14.SpaceLives", spec := "spaceLives", unfollowed := true, recurses := true, apart := false }
def SpaceLivesSaid : Prop := spaceLivesRow.holds Tryz.pinned (OpenSpec.ofChange spaceLivesSpec)

/-- ITS FALSE NEIGHBOUR: 'it returns false'. Refute it at one input. -/
def spaceLivesWrong : ChangeSpec := { name := "spaceLives", fn := fun _ => fun
  | [d1, d2] => { results := [.lit (.bool false)], args := [d1, d2] }
  | _ => none }
def SpaceLivesWrongFalsely : Prop := spaceLivesRow.holds Tryz.pinned (OpenSpec.ofChange spaceLivesWrong)

/-- 'parchmentlaw14.SpaceNil': WHATEVER THE INPUT: true; the input reads as it did. -/
def spaceNilSpec : ChangeSpec := { name := "spaceNil", fn := fun _ => fun
  | [d] => { results := [.lit (.bool true)], args := [d] }
  | _ => none }
def spaceNilRow : OpenClaim := { program := "ytopaeomjndblkaagreat", sum := "2a58536ff711de457f8e8c88f049dd5e6a4e90990bd955786e7ddd623c72970f", func := "parchment/parchmentlaw14.SpaceNil", spec := "spaceNil", unfollowed := true, recurses := true, apart := false }
def SpaceNilSaid : Prop := spaceNilRow.holds Tryz.pinned (OpenSpec.ofChange spaceNilSpec)

/-- ITS FALSE NEIGHBOUR: 'it returns false'. Refute it at one input. -/
def spaceNilWrong : ChangeSpec := { name := "spaceNil", fn := fun _ => fun
  | [d] => { results := [.lit (.bool false)], args := [d] }
  | _ => none }
def SpaceNilWrongFalsely : Prop := spaceNilRow.holds Tryz.pinned (OpenSpec.ofChange spaceNilWrong)

/-- 'parchmentlaw14.SpaceNumbers': WHATEVER THE INPUT: true; the input reads as it did. -/
def spaceNumbersSpec : ChangeSpec := { name := "spaceNumbers", fn := fun _ => fun
  | [] => { results := [.lit (.bool true)], args := [] }
  | _ => none }
def spaceNumbersRow : OpenClaim := { program := "ytopaeomjndblkaagreat", sum := "2a58536ff711de457f8e8c88f049dd5e6a4e90990bd955786e7ddd623c72970f", func := "parchment/parchmentlaw14.SpaceNumbers", spec := "spaceNumbers", unfollowed := true, recurses := true, apart := false }
def SpaceNumbersSaid : Prop := spaceNumbersRow.holds Tryz.pinned (OpenSpec.ofChange spaceNumbersSpec)

/-- ITS FALSE NEIGHBOUR: 'it returns false'. Refute it at one input. -/
def spaceNumbersWrong : ChangeSpec := { name := "spaceNumbers", fn := fun _ => fun
  | [] => { results := [.lit (.bool false)], args := [] }
  | _ => none }
def SpaceNumbersWrongFalsely : Prop := spaceNumbersRow.holds Tryz.pinned (OpenSpec.ofChange spaceNumbersWrong)

/-- 'parchmentlaw14.SpaceOnce': WHATEVER THE INPUT: true; the input reads as it did. -/
def spaceOnceSpec : ChangeSpec := { name := "spaceOnce", fn := fun _ => fun
  | [d] => { results := [.lit (.bool true)], args := [d] }
  | _ => none }
def spaceOnceRow : OpenClaim := { program := "ytopaeomjndblkaagreat", sum := "2a58536ff711de457f8e8c88f049dd5e6a4e90990bd955786e7ddd623c72970f", func := "parchment/parchmentlaw14.SpaceOnce", spec := "spaceOnce", unfollowed := true, recurses := true, apart := false }
def SpaceOnceSaid : Prop := spaceOnceRow.holds Tryz.pinned (OpenSpec.ofChange spaceOnceSpec)

/-- ITS FALSE NEIGHBOUR: 'it returns false'. Refute it at one input. -/
def spaceOnceWrong : ChangeSpec := { name := "spaceOnce", fn := fun _ => fun
  | [d] => { results := [.lit (.bool false)], args := [d] }
  | _ => none }
def SpaceOnceWrongFalsely : Prop := spaceOnceRow.holds Tryz.pinned (OpenSpec.ofChange spaceOnceWrong)

/-- 'parchmentlaw14.SpaceRoots': WHATEVER THE INPUT: true; the input reads as it did. -/
def spaceRootsSpec : ChangeSpec := { name := "spaceRoots", fn := fun _ => fun
  | [d] => { results := [.lit (.bool true)], args := [d] }
  | _ => none }
def spaceRootsRow : OpenClaim := { program := "ytopaeomjndblkaagreat", sum := "2a58536ff711de457f8e8c88f049dd5e6a4e90990bd955786e7ddd623c72970f", func := "parchment/parchmentlaw14.SpaceRoots", spec := "spaceRoots", unfollowed := true, recurses := true, apart := false }
def SpaceRootsSaid : Prop := spaceRootsRow.holds Tryz.pinned (OpenSpec.ofChange spaceRootsSpec)

/-- ITS FALSE NEIGHBOUR: 'it returns false'. Refute it at one input. -/
def spaceRootsWrong : ChangeSpec := { name := "spaceRoots", fn := fun _ => fun
  | [d] => { results := [.lit (.bool false)], args := [d] }
  | _ => none }
def SpaceRootsWrongFalsely : Prop := spaceRootsRow.holds Tryz.pinned (OpenSpec.ofChange spaceRootsWrong)

/- THE SECOND FORM. 'bulk': how many values and letters a reading holds, each counted each time it is reached (what is shared counts as often as it is met; a slice's spare places count too). A statement '..UptoSaid' is the law's where the arguments, and the package variables that the reading takes, are together of bulk at most 1048576: NARROWER than '..Said'. Prove '..Said' where nothing that the law and all that it calls make is longer than what came in: it says more and counts as full. Else prove '..UptoSaid'. A law counts once. -/
mutual
def uptoBulk {H : Type} : DataW H → Nat
  | .lit (.string bytes) => bytes.length + 1
  | .lit _ => 1
  | .nil => 1
  | .ptr d => uptoBulk d + 1
  | .slice elems spare => uptoBulkAll elems + uptoBulkAll spare + 1
  | .agg parts => uptoBulkAll parts + 1
  | .iface _ d => uptoBulk d + 1
  | .map entries => uptoBulkEntries entries + 1
  | .held _ => 1
def uptoBulkAll {H : Type} : List (DataW H) → Nat
  | [] => 0
  | d :: r => uptoBulk d + uptoBulkAll r
def uptoBulkEntries {H : Type} : List (Lit × DataW H) → Nat
  | [] => 0
  | x :: r => uptoBulkEntry x + uptoBulkEntries r
def uptoBulkEntry {H : Type} : Lit × DataW H → Nat
  | (.string bytes, d) => bytes.length + uptoBulk d + 1
  | (_, d) => uptoBulk d + 1
 end
def uptoSmall : (H : Type) → List (DataW H) → Bool := fun _ ds => decide (uptoBulkAll ds ≤ 1048576)
def OpenSpec.upto (s : _root_.Go.ChangeSpec) : _root_.Go.OpenSpec := { _root_.Go.OpenSpec.ofChange s with cond := some uptoSmall }

/-- 'parchmentlaw11.PoolDoes', WHERE WHAT IT READS IS OF BULK AT MOST 1048576: true; the input reads as it did. -/
def poolDoesUptoRow : OpenClaim := { program := "ytopaeomjndblkaagreat", sum := "2a58536ff711de457f8e8c88f049dd5e6a4e90990bd955786e7ddd623c72970f", func := "parchment/parchmentlaw11.PoolDoes", spec := "poolDoes", unfollowed := true, recurses := true, apart := false, narrowed := true }
def PoolDoesUptoSaid : Prop := poolDoesUptoRow.holds Tryz.pinned (OpenSpec.upto poolDoesSpec)

/-- 'parchmentlaw12.ChangeDoes', WHERE WHAT IT READS IS OF BULK AT MOST 1048576: true; the input reads as it did. -/
def changeDoesUptoRow : OpenClaim := { program := "ytopaeomjndblkaagreat", sum := "2a58536ff711de457f8e8c88f049dd5e6a4e90990bd955786e7ddd623c72970f", func := "parchment/parchmentlaw12.ChangeDoes", spec := "changeDoes", unfollowed := true, recurses := true, apart := false, narrowed := true }
def ChangeDoesUptoSaid : Prop := changeDoesUptoRow.holds Tryz.pinned (OpenSpec.upto changeDoesSpec)

/-- 'parchmentlaw12.ChangeNone', WHERE WHAT IT READS IS OF BULK AT MOST 1048576: true; the input reads as it did. -/
def changeNoneUptoRow : OpenClaim := { program := "ytopaeomjndblkaagreat", sum := "2a58536ff711de457f8e8c88f049dd5e6a4e90990bd955786e7ddd623c72970f", func := "parchment/parchmentlaw12.ChangeNone", spec := "changeNone", unfollowed := true, recurses := true, apart := false, narrowed := true }
def ChangeNoneUptoSaid : Prop := changeNoneUptoRow.holds Tryz.pinned (OpenSpec.upto changeNoneSpec)

/-- 'parchmentlaw12.ChangeUndoes', WHERE WHAT IT READS IS OF BULK AT MOST 1048576: true; the input reads as it did. -/
def changeUndoesUptoRow : OpenClaim := { program := "ytopaeomjndblkaagreat", sum := "2a58536ff711de457f8e8c88f049dd5e6a4e90990bd955786e7ddd623c72970f", func := "parchment/parchmentlaw12.ChangeUndoes", spec := "changeUndoes", unfollowed := true, recurses := true, apart := false, narrowed := true }
def ChangeUndoesUptoSaid : Prop := changeUndoesUptoRow.holds Tryz.pinned (OpenSpec.upto changeUndoesSpec)

/-- 'parchmentlaw13.RestoreWhole', WHERE WHAT IT READS IS OF BULK AT MOST 1048576: true; the input reads as it did. -/
def restoreWholeUptoRow : OpenClaim := { program := "ytopaeomjndblkaagreat", sum := "2a58536ff711de457f8e8c88f049dd5e6a4e90990bd955786e7ddd623c72970f", func := "parchment/parchmentlaw13.RestoreWhole", spec := "restoreWhole", unfollowed := true, recurses := true, apart := false, narrowed := true }
def RestoreWholeUptoSaid : Prop := restoreWholeUptoRow.holds Tryz.pinned (OpenSpec.upto restoreWholeSpec)

/-- 'parchmentlaw13.RestoreTells', WHERE WHAT IT READS IS OF BULK AT MOST 1048576: true; the input reads as it did. -/
def restoreTellsUptoRow : OpenClaim := { program := "ytopaeomjndblkaagreat", sum := "2a58536ff711de457f8e8c88f049dd5e6a4e90990bd955786e7ddd623c72970f", func := "parchment/parchmentlaw13.RestoreTells", spec := "restoreTells", unfollowed := true, recurses := true, apart := false, narrowed := true }
def RestoreTellsUptoSaid : Prop := restoreTellsUptoRow.holds Tryz.pinned (OpenSpec.upto restoreTellsSpec)

/-- 'parchmentlaw13.RestoreTwice', WHERE WHAT IT READS IS OF BULK AT MOST 1048576: true; the input reads as it did. -/
def restoreTwiceUptoRow : OpenClaim := { program := "ytopaeomjndblkaagreat", sum := "2a58536ff711de457f8e8c88f049dd5e6a4e90990bd955786e7ddd623c72970f", func := "parchment/parchmentlaw13.RestoreTwice", spec := "restoreTwice", inPlace := ["maps.clone"], unfollowed := true, recurses := true, apart := false, narrowed := true }
def RestoreTwiceUptoSaid : Prop := restoreTwiceUptoRow.holds Tryz.pinned (OpenSpec.upto restoreTwiceSpec)

/-- 'parchmentlaw14.SpaceLives', WHERE WHAT IT READS IS OF BULK AT MOST 1048576: true; the input reads as it did. -/
def spaceLivesUptoRow : OpenClaim := { program := "ytopaeomjndblkaagreat", sum := "2a58536ff711de457f8e8c88f049dd5e6a4e90990bd955786e7ddd623c72970f", func := "parchment/parchmentlaw14.SpaceLives", spec := "spaceLives", unfollowed := true, recurses := true, apart := false, narrowed := true }
def SpaceLivesUptoSaid : Prop := spaceLivesUptoRow.holds Tryz.pinned (OpenSpec.upto spaceLivesSpec)

/-- 'parchmentlaw14.SpaceNil', WHERE WHAT IT READS IS OF BULK AT MOST 1048576: true; the input reads as it did. -/
def spaceNilUptoRow : OpenClaim := { program := "ytopaeomjndblkaagreat", sum := "2a58536ff711de457f8e8c88f049dd5e6a4e90990bd955786e7ddd623c72970f", func := "parchment/parchmentlaw14.SpaceNil", spec := "spaceNil", unfollowed := true, recurses := true, apart := false, narrowed := true }
def SpaceNilUptoSaid : Prop := spaceNilUptoRow.holds Tryz.pinned (OpenSpec.upto spaceNilSpec)

/-- 'parchmentlaw14.SpaceNumbers', WHERE WHAT IT READS IS OF BULK AT MOST 1048576: true; the input reads as it did. -/
def spaceNumbersUptoRow : OpenClaim := { program := "ytopaeomjndblkaagreat", sum := "2a58536ff711de457f8e8c88f049dd5e6a4e90990bd955786e7ddd623c72970f", func := "parchment/parchmentlaw14.SpaceNumbers", spec := "spaceNumbers", unfollowed := true, recurses := true, apart := false, narrowed := true }
def SpaceNumbersUptoSaid : Prop := spaceNumbersUptoRow.holds Tryz.pinned (OpenSpec.upto spaceNumbersSpec)

/-- 'parchmentlaw14.SpaceOnce', WHERE WHAT IT READS IS OF BULK AT MOST 1048576: true; the input reads as it did. -/
def spaceOnceUptoRow : OpenClaim := { program := "ytopaeomjndblkaagreat", sum := "2a58536ff711de457f8e8c88f049dd5e6a4e90990bd955786e7ddd623c72970f", func := "parchment/parchmentlaw14.SpaceOnce", spec := "spaceOnce", unfollowed := true, recurses := true, apart := false, narrowed := true }
def SpaceOnceUptoSaid : Prop := spaceOnceUptoRow.holds Tryz.pinned (OpenSpec.upto spaceOnceSpec)

/-- 'parchmentlaw14.SpaceRoots', WHERE WHAT IT READS IS OF BULK AT MOST 1048576: true; the input reads as it did. -/
def spaceRootsUptoRow : OpenClaim := { program := "ytopaeomjndblkaagreat", sum := "2a58536ff711de457f8e8c88f049dd5e6a4e90990bd955786e7ddd623c72970f", func := "parchment/parchmentlaw14.SpaceRoots", spec := "spaceRoots", unfollowed := true, recurses := true, apart := false, narrowed := true }
def SpaceRootsUptoSaid : Prop := spaceRootsUptoRow.holds Tryz.pinned (OpenSpec.upto spaceRootsSpec)

end Rows
end Go.Proofs.YtopaeomjndblkaaGreat
