/-
  No cell of these rows narrows 'for every input' (looked for: loops, veiled, ifaces, maps, wideKeys, modest, calm, conditions, laid).
  DERIVED. THE GIVEN ROWS OF THIS SEAT. 6 by the template 'for every input the law returns true; each argument reads behind the call as it read before'; 0 by the template 'total and deterministic' (their statements: YtlfpoeimgoikkaaTotals.lean).
  GIVEN WITH THE SEED: the statements are not yours to turn. If you find one false, say at which input.
  Laid BY PROGRAM, IN A SANDBOX (cutbox-rows.mjs): the forced cells as the released guide's own fill.sh prints them over the translation 8159f1e3b86940f4… (all of the seat's roots in one cut). By AI agents, Wed Nov 11 2026. No macro, syntax, notation, axiom, sorry.
-/
import Derived.Test.YtlfpoeimgoikkaaChecked
import GoSem.Claim
import GoSem.ClaimJoined
import GoSem.ClaimMapViews
import Derived.JoinedTies
import Derived.KernelRfl
namespace Go.Proofs.Ytlfpoeimgoikkaa
/- THE CELL 'sum', in the pinned program and in every row, IS THE sha256 OF THE DUMP (.gsa) THAT YtlfpoeimgoikkaaProg.lean LOADS. Nothing in Lean hashes anything: it is a label: what it is worth is what the hold of that sum in a sandbox is worth. -/
noncomputable def Try.pinned : Pinned := { name := "ytlfpoeimgoikkaa", sum := "8159f1e3b86940f4b2945c1c50a79ac64c9b52f12fd195fcf826c652ddd2487b", checked := Try.checked }
namespace Rows
def none {H : Type} : Left H := { results := [], args := [] }

/-- 'parchmentlaw09.PageTells': WHATEVER THE INPUT: true; the input reads as it did. -/
def pageTellsSpec : ChangeSpec := { name := "pageTells", fn := fun _ => fun
  | [d1, d2] => { results := [.lit (.bool true)], args := [d1, d2] }
  | _ => none }
def pageTellsRow : OpenClaim := { program := "ytlfpoeimgoikkaa", sum := "8159f1e3b86940f4b2945c1c50a79ac64c9b52f12fd195fcf826c652ddd2487b", func := "parchment/parchmentlaw09.PageTells", spec := "pageTells", recurses := true, apart := false }
def PageTellsSaid : Prop := pageTellsRow.holds Try.pinned (OpenSpec.ofChange pageTellsSpec)

/-- ITS FALSE NEIGHBOUR: 'it returns false'. Refute it at one input. -/
def pageTellsWrong : ChangeSpec := { name := "pageTells", fn := fun _ => fun
  | [d1, d2] => { results := [.lit (.bool false)], args := [d1, d2] }
  | _ => none }
def PageTellsWrongFalsely : Prop := pageTellsRow.holds Try.pinned (OpenSpec.ofChange pageTellsWrong)

/-- 'parchmentlaw09.PageLives': WHATEVER THE INPUT: true; the input reads as it did. -/
def pageLivesSpec : ChangeSpec := { name := "pageLives", fn := fun _ => fun
  | [d1, d2, d3] => { results := [.lit (.bool true)], args := [d1, d2, d3] }
  | _ => none }
def pageLivesRow : OpenClaim := { program := "ytlfpoeimgoikkaa", sum := "8159f1e3b86940f4b2945c1c50a79ac64c9b52f12fd195fcf826c652ddd2487b", func := "parchment/parchmentlaw09.PageLives", spec := "pageLives", apart := false }
def PageLivesSaid : Prop := pageLivesRow.holds Try.pinned (OpenSpec.ofChange pageLivesSpec)

/-- ITS FALSE NEIGHBOUR: 'it returns false'. Refute it at one input. -/
def pageLivesWrong : ChangeSpec := { name := "pageLives", fn := fun _ => fun
  | [d1, d2, d3] => { results := [.lit (.bool false)], args := [d1, d2, d3] }
  | _ => none }
def PageLivesWrongFalsely : Prop := pageLivesRow.holds Try.pinned (OpenSpec.ofChange pageLivesWrong)

/-- 'parchmentlaw09.PageDiffs': WHATEVER THE INPUT: true; the input reads as it did. -/
def pageDiffsSpec : ChangeSpec := { name := "pageDiffs", fn := fun _ => fun
  | [d1, d2] => { results := [.lit (.bool true)], args := [d1, d2] }
  | _ => none }
def pageDiffsRow : OpenClaim := { program := "ytlfpoeimgoikkaa", sum := "8159f1e3b86940f4b2945c1c50a79ac64c9b52f12fd195fcf826c652ddd2487b", func := "parchment/parchmentlaw09.PageDiffs", spec := "pageDiffs", unfollowed := true, recurses := true, apart := false }
def PageDiffsSaid : Prop := pageDiffsRow.holds Try.pinned (OpenSpec.ofChange pageDiffsSpec)

/-- ITS FALSE NEIGHBOUR: 'it returns false'. Refute it at one input. -/
def pageDiffsWrong : ChangeSpec := { name := "pageDiffs", fn := fun _ => fun
  | [d1, d2] => { results := [.lit (.bool false)], args := [d1, d2] }
  | _ => none }
def PageDiffsWrongFalsely : Prop := pageDiffsRow.holds Try.pinned (OpenSpec.ofChange pageDiffsWrong)

/-- 'parchmentlaw09.PageNumbers': WHATEVER THE INPUT: true; the input reads as it did. -/
def pageNumbersSpec : ChangeSpec := { name := "pageNumbers", fn := fun _ => fun
  | [] => { results := [.lit (.bool true)], args := [] }
  | _ => none }
def pageNumbersRow : OpenClaim := { program := "ytlfpoeimgoikkaa", sum := "8159f1e3b86940f4b2945c1c50a79ac64c9b52f12fd195fcf826c652ddd2487b", func := "parchment/parchmentlaw09.PageNumbers", spec := "pageNumbers", unfollowed := true, recurses := true, apart := false }
def PageNumbersSaid : Prop := pageNumbersRow.holds Try.pinned (OpenSpec.ofChange pageNumbersSpec)

/-- ITS FALSE NEIGHBOUR: 'it returns false'. Refute it at one input. -/
def pageNumbersWrong : ChangeSpec := { name := "pageNumbers", fn := fun _ => fun
  | [] => { results := [.lit (.bool false)], args := [] }
  | _ => none }
def PageNumbersWrongFalsely : Prop := pageNumbersRow.holds Try.pinned (OpenSpec.ofChange pageNumbersWrong)

/-- 'parchmentlaw09.PageCells': WHATEVER THE INPUT: true; the input reads as it did. -/
def pageCellsSpec : ChangeSpec := { name := "pageCells", fn := fun _ => fun
  | [d1, d2] => { results := [.lit (.bool true)], args := [d1, d2] }
  | _ => none }
def pageCellsRow : OpenClaim := { program := "ytlfpoeimgoikkaa", sum := "8159f1e3b86940f4b2945c1c50a79ac64c9b52f12fd195fcf826c652ddd2487b", func := "parchment/parchmentlaw09.PageCells", spec := "pageCells", apart := false }
def PageCellsSaid : Prop := pageCellsRow.holds Try.pinned (OpenSpec.ofChange pageCellsSpec)

/-- ITS FALSE NEIGHBOUR: 'it returns false'. Refute it at one input. -/
def pageCellsWrong : ChangeSpec := { name := "pageCells", fn := fun _ => fun
  | [d1, d2] => { results := [.lit (.bool false)], args := [d1, d2] }
  | _ => none }
def PageCellsWrongFalsely : Prop := pageCellsRow.holds Try.pinned (OpenSpec.ofChange pageCellsWrong)

/-- 'parchmentlaw09.PageTurned': WHATEVER THE INPUT: true; the input reads as it did. -/
def pageTurnedSpec : ChangeSpec := { name := "pageTurned", fn := fun _ => fun
  | [d1, d2] => { results := [.lit (.bool true)], args := [d1, d2] }
  | _ => none }
def pageTurnedRow : OpenClaim := { program := "ytlfpoeimgoikkaa", sum := "8159f1e3b86940f4b2945c1c50a79ac64c9b52f12fd195fcf826c652ddd2487b", func := "parchment/parchmentlaw09.PageTurned", spec := "pageTurned", unfollowed := true, recurses := true, apart := false }
def PageTurnedSaid : Prop := pageTurnedRow.holds Try.pinned (OpenSpec.ofChange pageTurnedSpec)

/-- ITS FALSE NEIGHBOUR: 'it returns false'. Refute it at one input. -/
def pageTurnedWrong : ChangeSpec := { name := "pageTurned", fn := fun _ => fun
  | [d1, d2] => { results := [.lit (.bool false)], args := [d1, d2] }
  | _ => none }
def PageTurnedWrongFalsely : Prop := pageTurnedRow.holds Try.pinned (OpenSpec.ofChange pageTurnedWrong)

/- THE SECOND FORM. 'bulk': how many values and letters a reading holds, each counted each time it is reached (what is shared counts as often as it is met; a slice's spare places count too). A statement '..UptoSaid' is the law's where the arguments, and the package variables that the reading takes, are together of bulk at most 1048576: NARROWER than '..Said'. Prove '..Said' where nothing that the law and all that it calls make is longer than what came in: it says more and counts as full. Else prove '..UptoSaid'. A law counts once. -/
mutual
def uptoBulk {H : Type} : DataW H → Nat
  | .lit (.string bytes) => bytes.length + 1
  | .lit _ => 1
  | .nil => 1
  | .ptr d => uptoBulk d + 1
  | .slice elems spare => uptoBulkAll elems + uptoBulkAll spare + 1
  | .agg parts => uptoBulkAll parts + 1
  | .iface _ d => uptoBulk d + 1
  | .map entries => uptoBulkEntries entries + 1
  | .held _ => 1
def uptoBulkAll {H : Type} : List (DataW H) → Nat
  | [] => 0
  | d :: r => uptoBulk d + uptoBulkAll r
def uptoBulkEntries {H : Type} : List (Lit × DataW H) → Nat
  | [] => 0
  | x :: r => uptoBulkEntry x + uptoBulkEntries r
def uptoBulkEntry {H : Type} : Lit × DataW H → Nat
  | (.string bytes, d) => bytes.length + uptoBulk d + 1
  | (_, d) => uptoBulk d + 1
 end
def uptoSmall : (H : Type) → List (DataW H) → Bool := fun _ ds => decide (uptoBulkAll ds ≤ 1048576)
def OpenSpec.upto (s : _root_.Go.ChangeSpec) : _root_.Go.OpenSpec := { _root_.Go.OpenSpec.ofChange s with cond := some uptoSmall }

/-- 'parchmentlaw09.PageTells', WHERE WHAT IT READS IS OF BULK AT MOST 1048576: true; the input reads as it did. -/
def pageTellsUptoRow : OpenClaim := { program := "ytlfpoeimgoikkaa", sum := "8159f1e3b86940f4b2945c1c50a79ac64c9b52f12fd195fcf826c652ddd2487b", func := "parchment/parchmentlaw09.PageTells", spec := "pageTells", recurses := true, apart := false, narrowed := true }
def PageTellsUptoSaid : Prop := pageTellsUptoRow.holds Try.pinned (OpenSpec.upto pageTellsSpec)

/-- 'parchmentlaw09.PageLives', WHERE WHAT IT READS IS OF BULK AT MOST 1048576: true; the input reads as it did. -/
def pageLivesUptoRow : OpenClaim := { program := "ytlfpoeimgoikkaa", sum := "8159f1e3b86940f4b2945c1c50a79ac64c9b52f12fd195fcf826c652ddd2487b", func := "parchment/parchmentlaw09.PageLives", spec := "pageLives", apart := false, narrowed := true }
def PageLivesUptoSaid : Prop := pageLivesUptoRow.holds Try.pinned (OpenSpec.upto pageLivesSpec)

/-- 'parchmentlaw09.PageDiffs', WHERE WHAT IT READS IS OF BULK AT MOST 1048576: true; the input reads as it did. -/
def pageDiffsUptoRow : OpenClaim := { program := "ytlfpoeimgoikkaa", sum := "8159f1e3b86940f4b2945c1c50a79ac64c9b52f12fd195fcf826c652ddd2487b", func := "parchment/parchmentlaw09.PageDiffs", spec := "pageDiffs", unfollowed := true, recurses := true, apart := false, narrowed := true }
def PageDiffsUptoSaid : Prop := pageDiffsUptoRow.holds Try.pinned (OpenSpec.upto pageDiffsSpec)

/-- 'parchmentlaw09.PageNumbers', WHERE WHAT IT READS IS OF BULK AT MOST 1048576: true; the input reads as it did. -/
def pageNumbersUptoRow : OpenClaim := { program := "ytlfpoeimgoikkaa", sum := "8159f1e3b86940f4b2945c1c50a79ac64c9b52f12fd195fcf826c652ddd2487b", func := "parchment/parchmentlaw09.PageNumbers", spec := "pageNumbers", unfollowed := true, recurses := true, apart := false, narrowed := true }
def PageNumbersUptoSaid : Prop := pageNumbersUptoRow.holds Try.pinned (OpenSpec.upto pageNumbersSpec)

/-- 'parchmentlaw09.PageCells', WHERE WHAT IT READS IS OF BULK AT MOST 1048576: true; the input reads as it did. -/
def pageCellsUptoRow : OpenClaim := { program := "ytlfpoeimgoikkaa", sum := "8159f1e3b86940f4b2945c1c50a79ac64c9b52f12fd195fcf826c652ddd2487b", func := "parchment/parchmentlaw09.PageCells", spec := "pageCells", apart := false, narrowed := true }
def PageCellsUptoSaid : Prop := pageCellsUptoRow.holds Try.pinned (OpenSpec.upto pageCellsSpec)

/-- 'parchmentlaw09.PageTurned', WHERE WHAT IT READS IS OF BULK AT MOST 1048576: true; the input reads as it did. -/
def pageTurnedUptoRow : OpenClaim := { program := "ytlfpoeimgoikkaa", sum := "8159f1e3b86940f4b2945c1c50a79ac64c9b52f12fd195fcf826c652ddd2487b", func := "parchment/parchmentlaw09.PageTurned", spec := "pageTurned", unfollowed := true, recurses := true, apart := false, narrowed := true }
def PageTurnedUptoSaid : Prop := pageTurnedUptoRow.holds Try.pinned (OpenSpec.upto pageTurnedSpec)

end Rows
end Go.Proofs.Ytlfpoeimgoikkaa
