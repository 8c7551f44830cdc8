/-
  A slice of bytes that came in, opened: with what its reading is.
-/
import Derived.Test.YtopaeomjndblkaaGreatY49Z
import Derived.Test.YtopaeomjndblkaaGreatY00Z
import Derived.Deep.Slices
import Derived.ProofKit
import Derived.SizedLaws
namespace Go.Proofs.YtopaeomjndblkaaGreat
open Go.RowKit Go.Maps

structure SDo where
  op : Int
  page : Int
  which : Int
structure SDoOk (d : SDo) : Prop where
  op : (Lit.int .i64 d.op).wf = true
  page : (Lit.int .i64 d.page).wf = true
  which : (Lit.int .i64 d.which).wf = true
def SDosAt (w : World) (ad : Option Addr) (L : List SDo) : Prop :=
  ∀ i d, L[i]? = some d → SDoOk d ∧ ∃ b off, ad = some ⟨b, off, none⟩ ∧ w.cell? ⟨b, off + i * 3, none⟩ = some (.int .i64 d.op) ∧ w.cell? ⟨b, off + i * 3 + 1, none⟩ = some (.int .i64 d.page) ∧ w.cell? ⟨b, off + i * 3 + 2, none⟩ = some (.int .i64 d.which)
theorem SDosAt.kept {w w' : World} {ad : Option Addr} {L : List SDo} (h : SDosAt w ad L) (k : Fr [] w w') : SDosAt w' ad L := by
  intro i d hd
  obtain ⟨ok, b, off, ha, c0, c1, c2⟩ := h i d hd
  have e := k.block b (block_lt_of_cell c0) (by simp)
  exact ⟨ok, b, off, ha, (World.cell?_of_block e).trans c0, (World.cell?_of_block e).trans c1, (World.cell?_of_block e).trans c2⟩
/-- The laws look at their first 80 steps alone. -/
theorem SDosAt.take {w : World} {ad : Option Addr} {L : List SDo} (h : SDosAt w ad L) (n : Nat) : SDosAt w ad (L.take n) := by
  intro i d hd
  rw [List.getElem?_take] at hd
  split at hd
  · exact h i d hd
  · cases hd
end Go.Proofs.YtopaeomjndblkaaGreat

namespace Go.Proofs.YtopaeomjndblkaaGreat
open Go.RowKit Go.Deep Go.ChangeShapes Go.WideShapes Go.ChangeAt

variable {H : Type} {enc : TypeId × Value → H} {w : World} {base : Nat} {spare : Nat → Bool} {held : Bool}

end Go.Proofs.YtopaeomjndblkaaGreat

namespace Go.Proofs.YtopaeomjndblkaaGreat
open Go.RowKit Go.Deep Go.ChangeShapes Go.WideShapes Go.ChangeAt

variable {H : Type} {enc : TypeId × Value → H} {w : World} {base : Nat} {spare : Nat → Bool} {held : Bool}

end Go.Proofs.YtopaeomjndblkaaGreat

