/-
  From the row's listed variables to what the walks ask; the door's own heap meets the condition.
-/
import Derived.Test.YthaekjolbjmjfaaDoorRows
import Derived.Test.YthaekjolbjmjfaaDoorWhole
import Derived.Lib.LaidTab
import Derived.Stop.LaidErr
import Derived.LaidMore
import Derived.ProofKit
import Derived.Stop.Joined
namespace Go.Proofs.YthaekjolbjmjfaaDoor
open Go.ChangeShapes Go.WideShapes Go.ChangeAt Go.RowKit

def laidL : List (String × DataW Unit) := [("math/bits.deBruijn32tab", Rows.laid_math_bits_deBruijn32tab), ("math/bits.deBruijn64tab", Rows.laid_math_bits_deBruijn64tab), ("internal/strconv.uint64pow10", Rows.laid_internal_strconv_uint64pow10), ("strconv.ErrRange", Rows.laid_strconv_ErrRange), ("strconv.ErrSyntax", Rows.laid_strconv_ErrSyntax)]

theorem lp1 : (Tryd.prog.globals[2]?).map (·.type) = some 181 := by kernel_rfl
theorem lp2 : Tryd.prog.cellsOf 43 = 1 := by kernel_rfl
theorem lp3 : Tryd.prog.cellsOf 181 = 20 := by kernel_rfl
theorem lp4 : (Tryd.prog.globals[1]?).map (·.type) = some 47 := by kernel_rfl
theorem lp5 : (Tryd.prog.globals[0]?).map (·.type) = some 47 := by kernel_rfl
theorem lp6 : Tryd.prog.cellsOf 192 = 1 := by kernel_rfl
theorem lp7 : Tryd.prog.cellsOf 9 = 1 := by kernel_rfl
theorem star : "*" ++ "errors.errorString" = "*errors.errorString" := by decide
theorem rowEP (u : TypeId) (h : Tryd.prog.typeName? 3 u = some "*errors.errorString") : u = 190 :=
  typeName_ptr_named (nm := "errors.errorString") (by rw [star]; kernel_rfl) (by kernel_rfl) (by decide) u (by rw [star]; exact h)
theorem tabEq : (Rows.laid_internal_strconv_uint64pow10 : DataW Unit) = Lib.tabData .u64 Lib.pow10Tab := by kernel_rfl

theorem of_laid {W : World} (h : laidMetH Tryd.prog laidL W) : LaidW W := by
  rw [MakeChecks.laidMetH_plain _ _ _ (by kernel_rfl)] at h
  have h2 := h.tail.tail
  rw [tabEq] at h2
  obtain ⟨a1, s1, hv1, -, -, -⟩ := laid_sentinel h2.tail gRng lp4 Tryd.underlying47 rowEP Tryd.underlying190 Tryd.underlying192 rfl rfl Tryd.underlying9 lp6 lp7
  obtain ⟨a0, s0, hv0, -, -, -⟩ := laid_sentinel h2.tail.tail gSyn lp5 Tryd.underlying47 rowEP Tryd.underlying190 Tryd.underlying192 rfl rfl Tryd.underlying9 lp6 lp7
  exact ⟨Lib.tabIs_of_head gTab lp1 Tryd.underlying181 Tryd.underlying43 lp2 lp3 h2, ⟨_, _, hv0⟩, ⟨_, _, hv1⟩⟩

theorem door_met (os : Os) (args : Array Value) : laidMetH Tryd.prog laidL ((World.doorLaid Tryd.prog 400 os).forCall (fun _ _ => 0) ⟨#[], args, []⟩).memory :=
  laidMetH_of_parts3 (fuel := 8) (laidMet_of_run' 8 (by kernel_rfl) (by kernel_rfl)) (by kernel_rfl) (by kernel_rfl)

end Go.Proofs.YthaekjolbjmjfaaDoor
