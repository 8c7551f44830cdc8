/-
  The walks of DeviceNil: of no device, and of one that nobody made, every call does and tells nothing, and ErrNil.
-/
import Derived.Test.YtkenkgfohgmpnaaAwake
import Derived.RowKit3
namespace Go.Proofs.Ytkenkgfohgmpnaa
open Go.RowKit Go.Maps

set_option maxHeartbeats 400000 in
theorem copy_none (w : World) (v : Value) (h : NoDev w v) : Calls Try.prog 19 #[v] w fun e w' => e = .returned (.pointer none) ∧ w' = w := by
  go_enter Try.func19, Try.ntmps19
  go_wp2_with (go_at_call 42; refine (made_none _ _ h).mono ?_; rintro e w ⟨rfl, rfl⟩)
  go_ret
  exact ⟨rfl, rfl⟩

set_option maxHeartbeats 1000000 in
set_option maxRecDepth 100000 in
theorem none_law (w : World) (v : Value) (n : Int) (h : NoDev w v) : Calls Try.prog 25 #[v, .int .i64 n] w fun e w' => e = .returned (.bool true) ∧ Fr [] w w' := by
  go_enter Try.func25, Try.ntmps25
  go_wp2_with fail
  refine (read_none _ _ _ h).mono ?_
  rintro e w ⟨rfl, rfl⟩
  go_wp2_with fail
  refine (arm_none _ _ _ h).mono ?_
  rintro e w ⟨rfl, rfl⟩
  go_wp2_with fail
  refine (wake_none _ _ _ h).mono ?_
  rintro e w ⟨rfl, rfl⟩
  go_wp2_with fail
  refine (full_any _ 1 (by omega) (by omega)).mono ?_
  rintro e w2 ⟨rfl, b2, f2⟩
  have h2 := h.kept f2 (by simp)
  go_wp2_with fail
  refine (write_none _ _ _ _ h2).mono ?_
  rintro e w2 ⟨rfl, rfl⟩
  go_wp2_with fail
  refine (sync_none _ _ h2).mono ?_
  rintro e w2 ⟨rfl, rfl⟩
  go_wp2_with fail
  refine (down_none _ _ h2).mono ?_
  rintro e w2 ⟨rfl, rfl⟩
  go_wp2_with fail
  refine (blocks_none _ _ h2).mono ?_
  rintro e w2 ⟨rfl, rfl⟩
  go_wp2_with fail
  refine (copy_none _ _ h2).mono ?_
  rintro e w2 ⟨rfl, rfl⟩
  go_wp2_with fail
  go_ret
  exact ⟨rfl, f2⟩

set_option maxHeartbeats 1000000 in
set_option maxRecDepth 100000 in
theorem nil_law (w : World) (n : Int) : Calls Try.prog 5 #[.int .i64 n] w fun e w' => e = .returned (.bool true) ∧ Fr [] w w' := by
  go_enter Try.func5, Try.ntmps5
  go_wp2_with fail
  refine (awake_law _).mono ?_
  rintro e w1 ⟨rfl, f1⟩
  go_wp2_with fail
  refine (none_law _ _ n (Or.inl rfl)).mono ?_
  rintro e w2 ⟨rfl, f2⟩
  go_wp2_with fail
  refine (none_law _ _ n (Or.inr ⟨w2.heap.size, rfl, by rw [cell_of_row _ _ _ _ _ _ (heap_alloc_new w2 _)]; rfl⟩)).mono ?_
  rintro e w3 ⟨rfl, f3⟩
  go_wp2_with fail
  go_ret
  exact ⟨rfl, (((f1.trans f2).alloc _).trans f3)⟩

end Go.Proofs.Ytkenkgfohgmpnaa
