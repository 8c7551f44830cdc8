/-
  PageCells: the law, for whatever comes in.
-/
import Derived.Test.YtlfpoeimgoikkaaGCells
namespace Go.Proofs.Ytlfpoeimgoikkaa
open Go.RowKit Go.Maps

set_option maxHeartbeats 400000 in
set_option maxRecDepth 100000 in
theorem cells_long (w : World) (X : Int) (ad : Option Addr) (len cap : Nat) (hlong : 120 < len) (hs : len < 9223372036854775808) :
    Calls Try.prog 7 #[.int .u8 X, .slice ad len cap] w fun e w' => e = .returned (.bool true) ∧ Fr [] w w' := by
  have hs' : (120 : Int) < len := by omega
  go_enter Try.func7, Try.ntmps7
  go_wp2_with fail
  refine (awake_any _).mono ?_
  rintro e w1 ⟨rfl, f1⟩
  go_wp2_with fail
  go_ret
  exact ⟨rfl, f1⟩

theorem byte_of {x : Int} (h : (Lit.int .u8 x).wf = true) : x = ((UInt8.ofNat x.toNat).toNat : Int) := by
  have := u8_bounds h
  rw [u8_ofNat_toNat]
  omega

theorem pageCells_law (w : World) (X : Int) (hX : (Lit.int .u8 X).wf = true) (ad : Option Addr) (len cap : Nat) (L : List DoV) (hL : L.length = len) (hs : len < 9223372036854775808) (hD : DosAt w ad L) :
    Calls Try.prog 7 #[.int .u8 X, .slice ad len cap] w fun e w' => e = .returned (.bool true) ∧ Fr [] w w' := by
  by_cases h : len ≤ 120
  · exact cells_any w _ X (byte_of hX) ad L len cap hL h hD
  · exact cells_long w X ad len cap (by omega) hs
end Go.Proofs.Ytlfpoeimgoikkaa
