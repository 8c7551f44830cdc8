/-
  KeyOrder, where the rows are too long to be gone through.
-/
import Derived.Test.YthaekjolbjmjfaaDoorKOrd
namespace Go.Proofs.YthaekjolbjmjfaaDoor
open Go.RowKit Go.Maps

set_option maxHeartbeats 4000000 in
set_option maxRecDepth 100000 in
theorem keyOrder_long (w : World) (L : LaidW w) (a1 a2 a3 a4 : Option Addr) (n1 n2 n3 n4 c1 c2 c3 c4 : Nat) (z1 : n1 < 140737488355328) (z2 : n2 < 140737488355328) (z3 : n3 < 140737488355328) (z4 : n4 < 140737488355328) (hn : 20000 < n1 + n2 + n3 + n4) (x y : Int) :
    Calls Tryd.prog 8 #[.slice a1 n1 c1, .slice a2 n2 c2, .slice a3 n3 c3, .slice a4 n4 c4, .int .i64 x, .int .i64 y] w fun e w' => e = .returned (.bool true) ∧ Fr [] w w' := by
  have q1 : (20000 : Int) < (n1 : Int) + (n2 : Int) + (n3 : Int) + (n4 : Int) := by omega
  go_enter Tryd.func8, Tryd.ntmps8
  go_wp2_with fail
  refine (awake_any _ L).mono ?_
  rintro e w0 ⟨rfl, f0⟩
  go_wp2_with fail
  go_ret
  exact ⟨rfl, f0⟩

end Go.Proofs.YthaekjolbjmjfaaDoor
