/-
  TreeParts, whatever is handed in.
-/
import Derived.Test.YtdfgmdddnehocaaDoorTParts
namespace Go.Proofs.YtdfgmdddnehocaaDoor
open Go.RowKit Go.Maps Go.Lib

theorem parts_all (w : World) (L : LaidW w) (ad : Option Addr) (n c : Nat) (t : List Nd) (hn : t.length = n) (hN : NodesAt w ad t) (hS : Sane t) (x : Int) (hx : (Lit.int .i64 x).wf = true) :
    Calls Tryd.prog 7 #[.slice ad n c, .int .i64 x] w fun e w' => e = .returned (.bool true) ∧ Fr [] w w' := by
  by_cases h : n ≤ 300
  · by_cases hJ : judged t (oneB t) = 0
    · have h0 : 0 < t.length := by
        rcases Nat.eq_zero_or_pos t.length with e | e
        · obtain rfl : t = [] := List.eq_nil_of_length_eq_zero e
          rw [judged_none1] at hJ
          cases hJ
        · exact e
      obtain ⟨b, off, rfl, hI⟩ := hN.in h0
      subst hn
      exact parts_main w L b off c t hI hS x hx h h0 hJ
    · exact parts_bad w L ad n c t hn hN hS x h hJ
  · exact parts_long w L ad n c x (by omega)
end Go.Proofs.YtdfgmdddnehocaaDoor
