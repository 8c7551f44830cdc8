/-
  TreeChecks: the walk.
-/
import Derived.Test.YtdfgmdddnehocaaGreatDoorXLent
import Derived.Test.YtdfgmdddnehocaaGreatDoorXRefA
namespace Go.Proofs.YtdfgmdddnehocaaGreatDoor
open Go.RowKit Go.Maps Go.Lib

theorem lent_any (w : World) (ad : Option Addr) (c n : Nat) (t : List Nd) (hn : t.length = n) (hN : NodesAt w ad t) (hl : n ≤ 300) (hnil : ad = none → c = 0) :
    Calls Tryz.prog 5 #[.slice ad n c] w fun e w' => (∃ g cap, e = .returned (.slice (some ⟨g, 0, none⟩) n cap) ∧ LentN w' g cap t ∧ w.heap.size ≤ g) ∧ Fr [] w w' := by
  by_cases h0 : n = 0
  · subst h0
    have ht : t = [] := List.length_eq_zero_iff.1 hn
    cases ad with
    | none =>
      rw [hnil rfl]
      exact lent_nil w t ht
    | some x => exact lent_zero w x c t ht
  · obtain ⟨b, off, rfl, _⟩ := hN 0 (by omega)
    exact lent_some w b off c n t hn (fun i hi => by
      obtain ⟨b', off', e, q⟩ := hN i hi
      cases e
      exact q) (by omega) hl

end Go.Proofs.YtdfgmdddnehocaaGreatDoor
