/-
  Numbers put behind a row, and taken off one: how many bytes they have.
-/
import Derived.Test.YtopaeomjndblkaaGreatLent
import Derived.Test.YtopaeomjndblkaaGreatQMath
import Derived.Laws.ShiftsVarLaws
namespace Go.Proofs.YtopaeomjndblkaaGreat
open Go.RowKit Go.Maps

section
variable {ops : Array Oper} {rest : List Oper} {o : Oper} {a : Act} {w : World} {Q : Exit → Act → World → Prop}
theorem wp_idxc (hgd : o.guard = none) (x y : Operand) (ho : o.op = .index 9 x y) (v : Value) (hrun : (Instr.index 9 (a.eval x) (a.eval y)).run Tryz.prog w = .ok v w)
    (h : wpList Tryz.prog ops Q rest (a.put o.dst v) w) : wpList Tryz.prog ops Q (o :: rest) a w :=
  wpList_plain hgd fun K hK => by
    unfold Oper.wp execOp
    simp [ho, hrun, Result.andThen]
    exact hK _ _ h
end

set_option maxHeartbeats 400000 in
set_option maxRecDepth 100000 in
theorem len64_any (w : World) : Calls Tryz.prog 276 #[.int .u64 18446744073709551615] w fun e w' => e = .returned (.int .i64 64) ∧ w' = w := by
  go_enter Tryz.func276, Tryz.ntmps276
  go_wp2_with (refine wp_idxc rfl _ _ rfl (.int .u8 8) (by kernel_rfl) ?_)
  go_ret
  exact ⟨rfl, rfl⟩

set_option maxHeartbeats 400000 in
set_option maxRecDepth 100000 in
theorem len32_any (w : World) : Calls Tryz.prog 276 #[.int .u64 4294967295] w fun e w' => e = .returned (.int .i64 32) ∧ w' = w := by
  go_enter Tryz.func276, Tryz.ntmps276
  go_wp2_with (refine wp_idxc rfl _ _ rfl (.int .u8 8) (by kernel_rfl) ?_)
  go_ret
  exact ⟨rfl, rfl⟩

set_option maxHeartbeats 400000 in
set_option maxRecDepth 100000 in
theorem len16_any (w : World) : Calls Tryz.prog 276 #[.int .u64 65535] w fun e w' => e = .returned (.int .i64 16) ∧ w' = w := by
  go_enter Tryz.func276, Tryz.ntmps276
  go_wp2_with (refine wp_idxc rfl _ _ rfl (.int .u8 8) (by kernel_rfl) ?_)
  go_ret
  exact ⟨rfl, rfl⟩

set_option maxHeartbeats 400000 in
set_option maxRecDepth 100000 in
theorem len8_any (w : World) : Calls Tryz.prog 276 #[.int .u64 255] w fun e w' => e = .returned (.int .i64 8) ∧ w' = w := by
  go_enter Tryz.func276, Tryz.ntmps276
  go_wp2_with (refine wp_idxc rfl _ _ rfl (.int .u8 8) (by kernel_rfl) ?_)
  go_ret
  exact ⟨rfl, rfl⟩

set_option maxHeartbeats 400000 in
set_option maxRecDepth 100000 in
theorem width64_any (w : World) : Calls Tryz.prog 280 #[] w fun e w' => e = .returned (.int .i64 8) ∧ w' = w := by
  go_enter Tryz.func280, Tryz.ntmps280
  go_wp2_with (go_at_call 276; refine (len64_any _).mono ?_; rintro e w' ⟨rfl, rfl⟩)
  go_ret
  exact ⟨rfl, rfl⟩

set_option maxHeartbeats 400000 in
set_option maxRecDepth 100000 in
theorem width32_any (w : World) : Calls Tryz.prog 281 #[] w fun e w' => e = .returned (.int .i64 4) ∧ w' = w := by
  go_enter Tryz.func281, Tryz.ntmps281
  go_wp2_with (go_at_call 276; refine (len32_any _).mono ?_; rintro e w' ⟨rfl, rfl⟩)
  go_ret
  exact ⟨rfl, rfl⟩

set_option maxHeartbeats 400000 in
set_option maxRecDepth 100000 in
theorem width16_any (w : World) : Calls Tryz.prog 282 #[] w fun e w' => e = .returned (.int .i64 2) ∧ w' = w := by
  go_enter Tryz.func282, Tryz.ntmps282
  go_wp2_with (go_at_call 276; refine (len16_any _).mono ?_; rintro e w' ⟨rfl, rfl⟩)
  go_ret
  exact ⟨rfl, rfl⟩

set_option maxHeartbeats 400000 in
set_option maxRecDepth 100000 in
theorem width8_any (w : World) : Calls Tryz.prog 283 #[] w fun e w' => e = .returned (.int .i64 1) ∧ w' = w := by
  go_enter Tryz.func283, Tryz.ntmps283
  go_wp2_with (go_at_call 276; refine (len8_any _).mono ?_; rintro e w' ⟨rfl, rfl⟩)
  go_ret
  exact ⟨rfl, rfl⟩

end Go.Proofs.YtopaeomjndblkaaGreat
