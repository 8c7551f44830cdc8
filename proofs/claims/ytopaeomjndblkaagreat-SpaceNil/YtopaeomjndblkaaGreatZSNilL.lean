/-
  SpaceNil's law.
-/
import Derived.Test.YtopaeomjndblkaaGreatY49Z
namespace Go.Proofs.YtopaeomjndblkaaGreat
open Go.RowKit Go.Maps

set_option maxHeartbeats 2000000 in
set_option maxRecDepth 100000 in
theorem spaceNil_law (w : World) (page : Int) (_h : (Lit.int .i64 page).wf = true) : Calls Tryz.prog 11 #[.int .i64 page] w fun e w' => e = .returned (.bool true) ∧ Fr [] w w' := by
  go_enter Tryz.func11, Tryz.ntmps11
  go_wp2_with (go_at_call 58; refine (sawake_ok w).mono ?_; rintro e w1 ⟨rfl, f1⟩)
  refine (snone_ok w1 _ (Or.inl rfl) page).mono ?_
  rintro e wz ⟨rfl, hz⟩
  rw [hz]
  clear hz
  go_wp2_with fail
  have f2 : Fr [] w1 (w1.alloc (.cells #[.pointer none, .pointer none, .pointer none, .pointer none] 75)) := (Fr.refl [] w1).alloc _
  have h2 := heap_alloc_new w1 (.cells #[.pointer none, .pointer none, .pointer none, .pointer none] 75)
  have HN : NoBook (w1.alloc (.cells #[.pointer none, .pointer none, .pointer none, .pointer none] 75)) (.pointer (some ⟨w1.heap.size, 0, none⟩)) := Or.inr ⟨_, rfl, cell_of_row _ w1.heap.size 0 _ _ _ h2⟩
  have HX := hidI (snone_ok _ _ HN page)
  have F2 := hidI f2
  clear f2 h2 HN
  refine HX.out.mono ?_
  rintro e wz ⟨rfl, hz⟩
  rw [hz]
  clear hz
  go_wp2_with fail
  go_ret
  exact ⟨rfl, f1.trans F2.out⟩
end Go.Proofs.YtopaeomjndblkaaGreat

