/-
  LabelTree, where there is nothing to go through.
-/
import Derived.Test.YtddcilmeignlmaaDoorLTree
namespace Go.Proofs.YtddcilmeignlmaaDoor
open Go.RowKit Go.Maps Go.Lib

set_option maxHeartbeats 2000000 in
set_option maxRecDepth 100000 in
theorem tree_long (w : World) (hL : Laid w) (pa : Option Addr) (pn pc : Nat) (hp : 60 < pn) :
    Calls Tryd.prog 5 #[.slice pa pn pc] w fun e w' => e = .returned (.bool true) ∧ Fr [] w w' := by
  have hp' : (60 : Int) < (pn : Int) := by omega
  go_enter Tryd.func5, Tryd.ntmps5
  go_wp2_with fail
  refine (awake_any _ hL).mono ?_
  rintro e w1 ⟨rfl, f1⟩
  go_wp2_with fail
  go_ret
  exact ⟨rfl, f1⟩
end Go.Proofs.YtddcilmeignlmaaDoor
