/-
  strconv.FormatInt at base 2: TrailingZeros of 2.
-/
import Derived.Test.YtddcilmeignlmaaGreatDoorLabOrd
namespace Go.Proofs.YtddcilmeignlmaaGreatDoor
open Go.RowKit Go.Maps Go.Lib

/-- The one cell of math/bits.deBruijn64tab that base 2 reads. -/
def Laid (w : World) : Prop := w.cell? ⟨3, 1, none⟩ = some (.int .u8 1)

set_option maxHeartbeats 1000000 in
set_option maxRecDepth 100000 in
theorem tz64_two (w : World) (h : Laid w) :
    Calls Tryz.prog 153 #[.int .u64 2] w fun e w' => e = .returned (.int .i64 1) ∧ w = w' := by
  have h' : w.cell? ⟨3, 1, none⟩ = some (.int .u8 1) := h
  have e1 : IntKind.u64.wrap (Go.bits BinOp.and IntKind.u64 2 (IntKind.u64.wrap (-2)) * 285870213051353865) / 288230376151711744 = 1 := by decide
  go_enter Tryz.func153, Tryz.ntmps153
  go_wp2_with fail
  go_ret
  exact ⟨rfl, rfl⟩

set_option maxHeartbeats 1000000 in
set_option maxRecDepth 100000 in
theorem tz_two (w : World) (h : Laid w) :
    Calls Tryz.prog 147 #[.int .u64 2] w fun e w' => e = .returned (.int .i64 1) ∧ w = w' := by
  have h1 := tz64_two w h
  go_enter Tryz.func147, Tryz.ntmps147
  go_wp2_with fail
  refine h1.mono ?_
  rintro e w1 ⟨rfl, rfl⟩
  go_wp2_with fail
  go_ret
  exact ⟨rfl, rfl⟩

set_option maxHeartbeats 1000000 in
set_option maxRecDepth 100000 in
theorem pow2_two (w : World) :
    Calls Tryz.prog 146 #[.int .i64 2] w fun e w' => e = .returned (.bool true) ∧ w = w' := by
  have e1 : Go.bits BinOp.and IntKind.i64 2 1 = 0 := by decide
  go_enter Tryz.func146, Tryz.ntmps146
  go_wp2_with fail
  go_ret
  exact ⟨rfl, rfl⟩

theorem Laid.lt {w : World} (h : Laid w) : 3 < w.heap.size := by
  unfold Laid World.cell? at h
  rcases Nat.lt_or_ge 3 w.heap.size with h' | h'
  · exact h'
  · rw [Array.getElem?_eq_none h'] at h; simp at h
theorem Laid.kept {w w' : World} (h : Laid w) (f : Fr [] w w') : Laid w' := by
  have e := f.block 3 h.lt (by simp)
  unfold Laid World.cell? at h ⊢
  rw [e]
  exact h

end Go.Proofs.YtddcilmeignlmaaGreatDoor
