/-
  An argument that is a row of nodes: none has no room.
-/
import Derived.Test.YtjdcfaaoicnajaaDoorTOpen
namespace Go.Proofs.YtjdcfaaoicnajaaDoor
open Go.ChangeShapes Go.WideShapes Go.ChangeAt Go.RowKit Go.Deep
section
variable {H : Type} {enc : TypeId × Value → H} {w : World} {base : Nat} {spare : Nat → Bool} {held : Bool}
theorem nodes_cap {fuel : Nat} {ad : Option Addr} {len cap : Nat} {x : DataW H × List MemPlace} (h : DataW.trod enc Tryd.prog w base spare held fuel 22 [.slice ad len cap] = some x) : ad = none → cap = 0 := by
  intro e
  subst e
  rcases open_slice Tryd.underlying22 h with ⟨hcs, _⟩ | ⟨a, len, cap, m, n, D, Pl, hcs, _⟩
  · simp at hcs
    exact hcs.2
  · simp at hcs
end
end Go.Proofs.YtjdcfaaoicnajaaDoor
