/-
  One change undone, as a whole: the book's undoNext; all of them: undo.
-/
import Derived.Test.YthajipigppndgaaGreatY29Z
namespace Go.Proofs.YthajipigppndgaaGreat
open Go.RowKit Go.Maps
section
variable {ops : Array Oper} {o : Oper} {a : Act} {w : World} {Q : Exit → Act → World → Prop}
end
def UnI (w : World) (b : Bk) (c : Ch) (H : List Ch) : Nat → World → Prop
  | 0, wr => BStep w wr b b
  | 1, wr => ∃ y', Appd b.x.y y' (51 + c.new.length) (txRec b.t (undRec c.pg c.off (nextOf H) c.old)) ∧ BStep w wr b { b with x := { b.x with y := y' }, t := { b.t with last := (b.x.y.E : Int) + 1, und := (b.x.y.E : Int) + 1, st := 3 } }
  | 2, wr => ∃ y' x'', Appd b.x.y y' (51 + c.new.length) (txRec b.t (undRec c.pg c.off (nextOf H) c.old)) ∧ Chg { b.x with y := y' } x'' c.pg c.off c.old ((b.x.y.E : Int) + 1) ∧ (∃ wm, PoAt wm { b.x with y := y' }) ∧ BStep w wr b { b with x := x'', t := { b.t with last := (b.x.y.E : Int) + 1, und := (b.x.y.E : Int) + 1, st := 3 } }
  | _, wr => ∃ y' x'', Appd b.x.y y' (51 + c.new.length) (txRec b.t (undRec c.pg c.off (nextOf H) c.old)) ∧ Chg { b.x with y := y' } x'' c.pg c.off c.old ((b.x.y.E : Int) + 1) ∧ (∃ wm, PoAt wm { b.x with y := y' }) ∧ BStep w wr b { b with x := x'', t := { b.t with last := (b.x.y.E : Int) + 1, und := 0, st := 3, next := nextOf H } }
theorem UnI.st {w : World} {b : Bk} {c : Ch} {H : List Ch} {i : Nat} {wr : World} (h : UnI w b c H i wr) : ∃ b', BStep w wr b b' := by
  match i, h with
  | 0, h => exact ⟨_, h⟩
  | 1, ⟨_, _, h⟩ => exact ⟨_, h⟩
  | 2, ⟨_, _, _, _, _, h⟩ => exact ⟨_, h⟩
  | n + 3, ⟨_, _, _, _, _, h⟩ => exact ⟨_, h⟩
end Go.Proofs.YthajipigppndgaaGreat

