/-
  Numbers put behind a row, and taken off one: how many bytes they have.
-/
import Derived.Test.YticmjdblcomecaaLent
import Derived.Test.YticmjdblcomecaaQMath
import Derived.Laws.ShiftsVarLaws
namespace Go.Proofs.Yticmjdblcomecaa
open Go.RowKit Go.Maps

section
variable {ops : Array Oper} {rest : List Oper} {o : Oper} {a : Act} {w : World} {Q : Exit → Act → World → Prop}
theorem wp_idxc (hgd : o.guard = none) (x y : Operand) (ho : o.op = .index 9 x y) (v : Value) (hrun : (Instr.index 9 (a.eval x) (a.eval y)).run Try.prog w = .ok v w)
    (h : wpList Try.prog ops Q rest (a.put o.dst v) w) : wpList Try.prog ops Q (o :: rest) a w :=
  wpList_plain hgd fun K hK => by
    unfold Oper.wp execOp
    simp [ho, hrun, Result.andThen]
    exact hK _ _ h
end

set_option maxHeartbeats 400000 in
set_option maxRecDepth 100000 in
theorem len64_any (w : World) : Calls Try.prog 91 #[.int .u64 18446744073709551615] w fun e w' => e = .returned (.int .i64 64) ∧ w' = w := by
  go_enter Try.func91, Try.ntmps91
  go_wp2_with (refine wp_idxc rfl _ _ rfl (.int .u8 8) (by kernel_rfl) ?_)
  go_ret
  exact ⟨rfl, rfl⟩

set_option maxHeartbeats 400000 in
set_option maxRecDepth 100000 in
theorem len32_any (w : World) : Calls Try.prog 91 #[.int .u64 4294967295] w fun e w' => e = .returned (.int .i64 32) ∧ w' = w := by
  go_enter Try.func91, Try.ntmps91
  go_wp2_with (refine wp_idxc rfl _ _ rfl (.int .u8 8) (by kernel_rfl) ?_)
  go_ret
  exact ⟨rfl, rfl⟩

set_option maxHeartbeats 400000 in
set_option maxRecDepth 100000 in
theorem len16_any (w : World) : Calls Try.prog 91 #[.int .u64 65535] w fun e w' => e = .returned (.int .i64 16) ∧ w' = w := by
  go_enter Try.func91, Try.ntmps91
  go_wp2_with (refine wp_idxc rfl _ _ rfl (.int .u8 8) (by kernel_rfl) ?_)
  go_ret
  exact ⟨rfl, rfl⟩

set_option maxHeartbeats 400000 in
set_option maxRecDepth 100000 in
theorem len8_any (w : World) : Calls Try.prog 91 #[.int .u64 255] w fun e w' => e = .returned (.int .i64 8) ∧ w' = w := by
  go_enter Try.func91, Try.ntmps91
  go_wp2_with (refine wp_idxc rfl _ _ rfl (.int .u8 8) (by kernel_rfl) ?_)
  go_ret
  exact ⟨rfl, rfl⟩

set_option maxHeartbeats 400000 in
set_option maxRecDepth 100000 in
theorem width64_any (w : World) : Calls Try.prog 72 #[] w fun e w' => e = .returned (.int .i64 8) ∧ w' = w := by
  go_enter Try.func72, Try.ntmps72
  go_wp2_with (go_at_call 91; refine (len64_any _).mono ?_; rintro e w' ⟨rfl, rfl⟩)
  go_ret
  exact ⟨rfl, rfl⟩

set_option maxHeartbeats 400000 in
set_option maxRecDepth 100000 in
theorem width32_any (w : World) : Calls Try.prog 73 #[] w fun e w' => e = .returned (.int .i64 4) ∧ w' = w := by
  go_enter Try.func73, Try.ntmps73
  go_wp2_with (go_at_call 91; refine (len32_any _).mono ?_; rintro e w' ⟨rfl, rfl⟩)
  go_ret
  exact ⟨rfl, rfl⟩

set_option maxHeartbeats 400000 in
set_option maxRecDepth 100000 in
theorem width16_any (w : World) : Calls Try.prog 74 #[] w fun e w' => e = .returned (.int .i64 2) ∧ w' = w := by
  go_enter Try.func74, Try.ntmps74
  go_wp2_with (go_at_call 91; refine (len16_any _).mono ?_; rintro e w' ⟨rfl, rfl⟩)
  go_ret
  exact ⟨rfl, rfl⟩

set_option maxHeartbeats 400000 in
set_option maxRecDepth 100000 in
theorem width8_any (w : World) : Calls Try.prog 90 #[] w fun e w' => e = .returned (.int .i64 1) ∧ w' = w := by
  go_enter Try.func90, Try.ntmps90
  go_wp2_with (go_at_call 91; refine (len8_any _).mono ?_; rintro e w' ⟨rfl, rfl⟩)
  go_ret
  exact ⟨rfl, rfl⟩

end Go.Proofs.Yticmjdblcomecaa
