/-
  The kit's lists that are held apart: at no lists each of the flat functions answers true.
-/
import Derived.Test.YticmjdblcomecaaGreatAbBase
namespace Go.Proofs.YticmjdblcomecaaGreat.Ab
open Go.RowKit

theorem mk_flatWords (w : World) : (Instr.makeSlice 73 (.int .i64 0) (.int .i64 0)).run Tryz.prog w = .ok (.slice (some ⟨w.heap.size, 0, none⟩) 0 0) (w.alloc (.cells #[] 151)) := by kernel_rfl
set_option maxHeartbeats 2000000 in
set_option maxRecDepth 100000 in
theorem flatWords_nil (w : World) : Calls Tryz.prog 60 #[.slice none 0 0] w fun e w' => e = .returned (.bool true) ∧ Fr [] w w' := by
  have hmk := mk_flatWords
  go_enter Tryz.func60, Tryz.ntmps60
  go_wp2_with go_in
  go_loopw [3] (fun i wr => i = .int .i64 0 ∧ Fr [] w wr) (fun _ _ => 0)
  case atStart => exact ⟨rfl, Fr.refl _ _⟩
  case round =>
    obtain ⟨rfl, f1⟩ := hrel
    go_wp2_with go_in
    go_loopw [6] (fun i wx => i = .int .i64 0 ∧ Fr [] w wx) (fun _ _ => 0)
    case atStart => exact ⟨rfl, f1.alloc _⟩
    case round =>
      obtain ⟨rfl, f2⟩ := hrel
      go_wp2_with go_in
      go_loopw [9] (fun i wx => i = .int .i64 0 ∧ Fr [] w wx) (fun _ _ => 0)
      case atStart => exact ⟨rfl, f2⟩
      case round =>
        obtain ⟨rfl, f3⟩ := hrel
        go_wp2_with go_in
        go_loopw [11] (fun i wx => i = .int .i64 0 ∧ Fr [] w wx) (fun _ _ => 0)
        case atStart => exact ⟨rfl, f3⟩
        case round =>
          obtain ⟨rfl, f4⟩ := hrel
          go_wp2_with go_in
          go_loopw [14] (fun i wx => i = .int .i64 0 ∧ Fr [] w wx) (fun _ _ => 0)
          case atStart => exact ⟨rfl, f4⟩
          case round =>
            obtain ⟨rfl, f5⟩ := hrel
            go_wp2_with go_in
            go_ret
            exact ⟨rfl, f5⟩

theorem mk_flatInts (w : World) : (Instr.makeSlice 74 (.int .i64 0) (.int .i64 0)).run Tryz.prog w = .ok (.slice (some ⟨w.heap.size, 0, none⟩) 0 0) (w.alloc (.cells #[] 152)) := by kernel_rfl
set_option maxHeartbeats 2000000 in
set_option maxRecDepth 100000 in
theorem flatInts_nil (w : World) : Calls Tryz.prog 61 #[.slice none 0 0] w fun e w' => e = .returned (.bool true) ∧ Fr [] w w' := by
  have hmk := mk_flatInts
  go_enter Tryz.func61, Tryz.ntmps61
  go_wp2_with go_in
  go_loopw [3] (fun i wr => i = .int .i64 0 ∧ Fr [] w wr) (fun _ _ => 0)
  case atStart => exact ⟨rfl, Fr.refl _ _⟩
  case round =>
    obtain ⟨rfl, f1⟩ := hrel
    go_wp2_with go_in
    go_loopw [6] (fun i wx => i = .int .i64 0 ∧ Fr [] w wx) (fun _ _ => 0)
    case atStart => exact ⟨rfl, f1.alloc _⟩
    case round =>
      obtain ⟨rfl, f2⟩ := hrel
      go_wp2_with go_in
      go_loopw [9] (fun i wx => i = .int .i64 0 ∧ Fr [] w wx) (fun _ _ => 0)
      case atStart => exact ⟨rfl, f2⟩
      case round =>
        obtain ⟨rfl, f3⟩ := hrel
        go_wp2_with go_in
        go_loopw [11] (fun i wx => i = .int .i64 0 ∧ Fr [] w wx) (fun _ _ => 0)
        case atStart => exact ⟨rfl, f3⟩
        case round =>
          obtain ⟨rfl, f4⟩ := hrel
          go_wp2_with go_in
          go_loopw [14] (fun i wx => i = .int .i64 0 ∧ Fr [] w wx) (fun _ _ => 0)
          case atStart => exact ⟨rfl, f4⟩
          case round =>
            obtain ⟨rfl, f5⟩ := hrel
            go_wp2_with go_in
            go_ret
            exact ⟨rfl, f5⟩

theorem mk_flatLongs (w : World) : (Instr.makeSlice 75 (.int .i64 0) (.int .i64 0)).run Tryz.prog w = .ok (.slice (some ⟨w.heap.size, 0, none⟩) 0 0) (w.alloc (.cells #[] 99)) := by kernel_rfl
set_option maxHeartbeats 2000000 in
set_option maxRecDepth 100000 in
theorem flatLongs_nil (w : World) : Calls Tryz.prog 62 #[.slice none 0 0] w fun e w' => e = .returned (.bool true) ∧ Fr [] w w' := by
  have hmk := mk_flatLongs
  go_enter Tryz.func62, Tryz.ntmps62
  go_wp2_with go_in
  go_loopw [3] (fun i wr => i = .int .i64 0 ∧ Fr [] w wr) (fun _ _ => 0)
  case atStart => exact ⟨rfl, Fr.refl _ _⟩
  case round =>
    obtain ⟨rfl, f1⟩ := hrel
    go_wp2_with go_in
    go_loopw [6] (fun i wx => i = .int .i64 0 ∧ Fr [] w wx) (fun _ _ => 0)
    case atStart => exact ⟨rfl, f1.alloc _⟩
    case round =>
      obtain ⟨rfl, f2⟩ := hrel
      go_wp2_with go_in
      go_loopw [9] (fun i wx => i = .int .i64 0 ∧ Fr [] w wx) (fun _ _ => 0)
      case atStart => exact ⟨rfl, f2⟩
      case round =>
        obtain ⟨rfl, f3⟩ := hrel
        go_wp2_with go_in
        go_loopw [11] (fun i wx => i = .int .i64 0 ∧ Fr [] w wx) (fun _ _ => 0)
        case atStart => exact ⟨rfl, f3⟩
        case round =>
          obtain ⟨rfl, f4⟩ := hrel
          go_wp2_with go_in
          go_loopw [14] (fun i wx => i = .int .i64 0 ∧ Fr [] w wx) (fun _ _ => 0)
          case atStart => exact ⟨rfl, f4⟩
          case round =>
            obtain ⟨rfl, f5⟩ := hrel
            go_wp2_with go_in
            go_ret
            exact ⟨rfl, f5⟩

theorem mk_flatTexts (w : World) : (Instr.makeSlice 76 (.int .i64 0) (.int .i64 0)).run Tryz.prog w = .ok (.slice (some ⟨w.heap.size, 0, none⟩) 0 0) (w.alloc (.cells #[] 153)) := by kernel_rfl
set_option maxHeartbeats 2000000 in
set_option maxRecDepth 100000 in
theorem flatTexts_nil (w : World) : Calls Tryz.prog 63 #[.slice none 0 0] w fun e w' => e = .returned (.bool true) ∧ Fr [] w w' := by
  have hmk := mk_flatTexts
  go_enter Tryz.func63, Tryz.ntmps63
  go_wp2_with go_in
  go_loopw [3] (fun i wr => i = .int .i64 0 ∧ Fr [] w wr) (fun _ _ => 0)
  case atStart => exact ⟨rfl, Fr.refl _ _⟩
  case round =>
    obtain ⟨rfl, f1⟩ := hrel
    go_wp2_with go_in
    go_loopw [6] (fun i wx => i = .int .i64 0 ∧ Fr [] w wx) (fun _ _ => 0)
    case atStart => exact ⟨rfl, f1.alloc _⟩
    case round =>
      obtain ⟨rfl, f2⟩ := hrel
      go_wp2_with go_in
      go_loopw [9] (fun i wx => i = .int .i64 0 ∧ Fr [] w wx) (fun _ _ => 0)
      case atStart => exact ⟨rfl, f2⟩
      case round =>
        obtain ⟨rfl, f3⟩ := hrel
        go_wp2_with go_in
        go_loopw [11] (fun i wx => i = .int .i64 0 ∧ Fr [] w wx) (fun _ _ => 0)
        case atStart => exact ⟨rfl, f3⟩
        case round =>
          obtain ⟨rfl, f4⟩ := hrel
          go_wp2_with go_in
          go_loopw [14] (fun i wx => i = .int .i64 0 ∧ Fr [] w wx) (fun _ _ => 0)
          case atStart => exact ⟨rfl, f4⟩
          case round =>
            obtain ⟨rfl, f5⟩ := hrel
            go_wp2_with go_in
            go_ret
            exact ⟨rfl, f5⟩

theorem mk_flatBytes (w : World) : (Instr.makeSlice 39 (.int .i64 0) (.int .i64 0)).run Tryz.prog w = .ok (.slice (some ⟨w.heap.size, 0, none⟩) 0 0) (w.alloc (.cells #[] 23)) := by kernel_rfl
set_option maxHeartbeats 2000000 in
set_option maxRecDepth 100000 in
theorem flatBytes_nil (w : World) : Calls Tryz.prog 64 #[.slice none 0 0] w fun e w' => e = .returned (.bool true) ∧ Fr [] w w' := by
  have hmk := mk_flatBytes
  go_enter Tryz.func64, Tryz.ntmps64
  go_wp2_with go_in
  go_loopw [3] (fun i wr => i = .int .i64 0 ∧ Fr [] w wr) (fun _ _ => 0)
  case atStart => exact ⟨rfl, Fr.refl _ _⟩
  case round =>
    obtain ⟨rfl, f1⟩ := hrel
    go_wp2_with go_in
    go_loopw [6] (fun i wx => i = .int .i64 0 ∧ Fr [] w wx) (fun _ _ => 0)
    case atStart => exact ⟨rfl, f1.alloc _⟩
    case round =>
      obtain ⟨rfl, f2⟩ := hrel
      go_wp2_with go_in
      go_loopw [9] (fun i wx => i = .int .i64 0 ∧ Fr [] w wx) (fun _ _ => 0)
      case atStart => exact ⟨rfl, f2⟩
      case round =>
        obtain ⟨rfl, f3⟩ := hrel
        go_wp2_with go_in
        go_loopw [11] (fun i wx => i = .int .i64 0 ∧ Fr [] w wx) (fun _ _ => 0)
        case atStart => exact ⟨rfl, f3⟩
        case round =>
          obtain ⟨rfl, f4⟩ := hrel
          go_wp2_with go_in
          go_loopw [14] (fun i wx => i = .int .i64 0 ∧ Fr [] w wx) (fun _ _ => 0)
          case atStart => exact ⟨rfl, f4⟩
          case round =>
            obtain ⟨rfl, f5⟩ := hrel
            go_wp2_with go_in
            go_ret
            exact ⟨rfl, f5⟩

theorem mk_flatNodes (w : World) : (Instr.makeSlice 77 (.int .i64 0) (.int .i64 0)).run Tryz.prog w = .ok (.slice (some ⟨w.heap.size, 0, none⟩) 0 0) (w.alloc (.cells #[] 156)) := by kernel_rfl
set_option maxHeartbeats 2000000 in
set_option maxRecDepth 100000 in
theorem flatNodes_nil (w : World) : Calls Tryz.prog 65 #[.slice none 0 0] w fun e w' => e = .returned (.bool true) ∧ Fr [] w w' := by
  have hmk := mk_flatNodes
  go_enter Tryz.func65, Tryz.ntmps65
  go_wp2_with go_in
  go_loopw [3] (fun i wr => i = .int .i64 0 ∧ Fr [] w wr) (fun _ _ => 0)
  case atStart => exact ⟨rfl, Fr.refl _ _⟩
  case round =>
    obtain ⟨rfl, f1⟩ := hrel
    go_wp2_with go_in
    go_loopw [6] (fun i wx => i = .int .i64 0 ∧ Fr [] w wx) (fun _ _ => 0)
    case atStart => exact ⟨rfl, f1.alloc _⟩
    case round =>
      obtain ⟨rfl, f2⟩ := hrel
      go_wp2_with go_in
      go_loopw [9] (fun i wx => i = .int .i64 0 ∧ Fr [] w wx) (fun _ _ => 0)
      case atStart => exact ⟨rfl, f2⟩
      case round =>
        obtain ⟨rfl, f3⟩ := hrel
        go_wp2_with go_in
        go_loopw [11] (fun i wx => i = .int .i64 0 ∧ Fr [] w wx) (fun _ _ => 0)
        case atStart => exact ⟨rfl, f3⟩
        case round =>
          obtain ⟨rfl, f4⟩ := hrel
          go_wp2_with go_in
          go_loopw [14] (fun i wx => i = .int .i64 0 ∧ Fr [] w wx) (fun _ _ => 0)
          case atStart => exact ⟨rfl, f4⟩
          case round =>
            obtain ⟨rfl, f5⟩ := hrel
            go_wp2_with go_in
            go_ret
            exact ⟨rfl, f5⟩

theorem mk_flatFates (w : World) : (Instr.makeSlice 78 (.int .i64 0) (.int .i64 0)).run Tryz.prog w = .ok (.slice (some ⟨w.heap.size, 0, none⟩) 0 0) (w.alloc (.cells #[] 107)) := by kernel_rfl
set_option maxHeartbeats 2000000 in
set_option maxRecDepth 100000 in
theorem flatFates_nil (w : World) : Calls Tryz.prog 66 #[.slice none 0 0] w fun e w' => e = .returned (.bool true) ∧ Fr [] w w' := by
  have hmk := mk_flatFates
  go_enter Tryz.func66, Tryz.ntmps66
  go_wp2_with go_in
  go_loopw [3] (fun i wr => i = .int .i64 0 ∧ Fr [] w wr) (fun _ _ => 0)
  case atStart => exact ⟨rfl, Fr.refl _ _⟩
  case round =>
    obtain ⟨rfl, f1⟩ := hrel
    go_wp2_with go_in
    go_loopw [6] (fun i wx => i = .int .i64 0 ∧ Fr [] w wx) (fun _ _ => 0)
    case atStart => exact ⟨rfl, f1.alloc _⟩
    case round =>
      obtain ⟨rfl, f2⟩ := hrel
      go_wp2_with go_in
      go_loopw [9] (fun i wx => i = .int .i64 0 ∧ Fr [] w wx) (fun _ _ => 0)
      case atStart => exact ⟨rfl, f2⟩
      case round =>
        obtain ⟨rfl, f3⟩ := hrel
        go_wp2_with go_in
        go_loopw [11] (fun i wx => i = .int .i64 0 ∧ Fr [] w wx) (fun _ _ => 0)
        case atStart => exact ⟨rfl, f3⟩
        case round =>
          obtain ⟨rfl, f4⟩ := hrel
          go_wp2_with go_in
          go_loopw [14] (fun i wx => i = .int .i64 0 ∧ Fr [] w wx) (fun _ _ => 0)
          case atStart => exact ⟨rfl, f4⟩
          case round =>
            obtain ⟨rfl, f5⟩ := hrel
            go_wp2_with go_in
            go_ret
            exact ⟨rfl, f5⟩

theorem mk_flatSpans (w : World) : (Instr.makeSlice 79 (.int .i64 0) (.int .i64 0)).run Tryz.prog w = .ok (.slice (some ⟨w.heap.size, 0, none⟩) 0 0) (w.alloc (.cells #[] 162)) := by kernel_rfl
set_option maxHeartbeats 2000000 in
set_option maxRecDepth 100000 in
theorem flatSpans_nil (w : World) : Calls Tryz.prog 67 #[.slice none 0 0] w fun e w' => e = .returned (.bool true) ∧ Fr [] w w' := by
  have hmk := mk_flatSpans
  go_enter Tryz.func67, Tryz.ntmps67
  go_wp2_with go_in
  go_loopw [3] (fun i wr => i = .int .i64 0 ∧ Fr [] w wr) (fun _ _ => 0)
  case atStart => exact ⟨rfl, Fr.refl _ _⟩
  case round =>
    obtain ⟨rfl, f1⟩ := hrel
    go_wp2_with go_in
    go_loopw [6] (fun i wx => i = .int .i64 0 ∧ Fr [] w wx) (fun _ _ => 0)
    case atStart => exact ⟨rfl, f1.alloc _⟩
    case round =>
      obtain ⟨rfl, f2⟩ := hrel
      go_wp2_with go_in
      go_loopw [9] (fun i wx => i = .int .i64 0 ∧ Fr [] w wx) (fun _ _ => 0)
      case atStart => exact ⟨rfl, f2⟩
      case round =>
        obtain ⟨rfl, f3⟩ := hrel
        go_wp2_with go_in
        go_loopw [11] (fun i wx => i = .int .i64 0 ∧ Fr [] w wx) (fun _ _ => 0)
        case atStart => exact ⟨rfl, f3⟩
        case round =>
          obtain ⟨rfl, f4⟩ := hrel
          go_wp2_with go_in
          go_loopw [14] (fun i wx => i = .int .i64 0 ∧ Fr [] w wx) (fun _ _ => 0)
          case atStart => exact ⟨rfl, f4⟩
          case round =>
            obtain ⟨rfl, f5⟩ := hrel
            go_wp2_with go_in
            go_ret
            exact ⟨rfl, f5⟩

theorem mk_flatDirties (w : World) : (Instr.makeSlice 80 (.int .i64 0) (.int .i64 0)).run Tryz.prog w = .ok (.slice (some ⟨w.heap.size, 0, none⟩) 0 0) (w.alloc (.cells #[] 164)) := by kernel_rfl
set_option maxHeartbeats 2000000 in
set_option maxRecDepth 100000 in
theorem flatDirties_nil (w : World) : Calls Tryz.prog 68 #[.slice none 0 0] w fun e w' => e = .returned (.bool true) ∧ Fr [] w w' := by
  have hmk := mk_flatDirties
  go_enter Tryz.func68, Tryz.ntmps68
  go_wp2_with go_in
  go_loopw [3] (fun i wr => i = .int .i64 0 ∧ Fr [] w wr) (fun _ _ => 0)
  case atStart => exact ⟨rfl, Fr.refl _ _⟩
  case round =>
    obtain ⟨rfl, f1⟩ := hrel
    go_wp2_with go_in
    go_loopw [6] (fun i wx => i = .int .i64 0 ∧ Fr [] w wx) (fun _ _ => 0)
    case atStart => exact ⟨rfl, f1.alloc _⟩
    case round =>
      obtain ⟨rfl, f2⟩ := hrel
      go_wp2_with go_in
      go_loopw [9] (fun i wx => i = .int .i64 0 ∧ Fr [] w wx) (fun _ _ => 0)
      case atStart => exact ⟨rfl, f2⟩
      case round =>
        obtain ⟨rfl, f3⟩ := hrel
        go_wp2_with go_in
        go_loopw [11] (fun i wx => i = .int .i64 0 ∧ Fr [] w wx) (fun _ _ => 0)
        case atStart => exact ⟨rfl, f3⟩
        case round =>
          obtain ⟨rfl, f4⟩ := hrel
          go_wp2_with go_in
          go_loopw [14] (fun i wx => i = .int .i64 0 ∧ Fr [] w wx) (fun _ _ => 0)
          case atStart => exact ⟨rfl, f4⟩
          case round =>
            obtain ⟨rfl, f5⟩ := hrel
            go_wp2_with go_in
            go_ret
            exact ⟨rfl, f5⟩

theorem mk_flatRecords (w : World) : (Instr.makeSlice 81 (.int .i64 0) (.int .i64 0)).run Tryz.prog w = .ok (.slice (some ⟨w.heap.size, 0, none⟩) 0 0) (w.alloc (.cells #[] 53)) := by kernel_rfl
set_option maxHeartbeats 2000000 in
set_option maxRecDepth 100000 in
theorem flatRecords_nil (w : World) : Calls Tryz.prog 69 #[.slice none 0 0] w fun e w' => e = .returned (.bool true) ∧ Fr [] w w' := by
  have hmk := mk_flatRecords
  go_enter Tryz.func69, Tryz.ntmps69
  go_wp2_with go_in
  go_loopw [3] (fun i wr => i = .int .i64 0 ∧ Fr [] w wr) (fun _ _ => 0)
  case atStart => exact ⟨rfl, Fr.refl _ _⟩
  case round =>
    obtain ⟨rfl, f1⟩ := hrel
    go_wp2_with go_in
    go_loopw [6] (fun i wx => i = .int .i64 0 ∧ Fr [] w wx) (fun _ _ => 0)
    case atStart => exact ⟨rfl, f1.alloc _⟩
    case round =>
      obtain ⟨rfl, f2⟩ := hrel
      go_wp2_with go_in
      go_loopw [9] (fun i wx => i = .int .i64 0 ∧ Fr [] w wx) (fun _ _ => 0)
      case atStart => exact ⟨rfl, f2⟩
      case round =>
        obtain ⟨rfl, f3⟩ := hrel
        go_wp2_with go_in
        go_loopw [11] (fun i wx => i = .int .i64 0 ∧ Fr [] w wx) (fun _ _ => 0)
        case atStart => exact ⟨rfl, f3⟩
        case round =>
          obtain ⟨rfl, f4⟩ := hrel
          go_wp2_with go_in
          go_loopw [14] (fun i wx => i = .int .i64 0 ∧ Fr [] w wx) (fun _ _ => 0)
          case atStart => exact ⟨rfl, f4⟩
          case round =>
            obtain ⟨rfl, f5⟩ := hrel
            go_wp2_with go_in
            go_ret
            exact ⟨rfl, f5⟩

theorem mk_flatCells (w : World) : (Instr.makeSlice 82 (.int .i64 0) (.int .i64 0)).run Tryz.prog w = .ok (.slice (some ⟨w.heap.size, 0, none⟩) 0 0) (w.alloc (.cells #[] 169)) := by kernel_rfl
set_option maxHeartbeats 2000000 in
set_option maxRecDepth 100000 in
theorem flatCells_nil (w : World) : Calls Tryz.prog 70 #[.slice none 0 0] w fun e w' => e = .returned (.bool true) ∧ Fr [] w w' := by
  have hmk := mk_flatCells
  go_enter Tryz.func70, Tryz.ntmps70
  go_wp2_with go_in
  go_loopw [3] (fun i wr => i = .int .i64 0 ∧ Fr [] w wr) (fun _ _ => 0)
  case atStart => exact ⟨rfl, Fr.refl _ _⟩
  case round =>
    obtain ⟨rfl, f1⟩ := hrel
    go_wp2_with go_in
    go_loopw [6] (fun i wx => i = .int .i64 0 ∧ Fr [] w wx) (fun _ _ => 0)
    case atStart => exact ⟨rfl, f1.alloc _⟩
    case round =>
      obtain ⟨rfl, f2⟩ := hrel
      go_wp2_with go_in
      go_loopw [9] (fun i wx => i = .int .i64 0 ∧ Fr [] w wx) (fun _ _ => 0)
      case atStart => exact ⟨rfl, f2⟩
      case round =>
        obtain ⟨rfl, f3⟩ := hrel
        go_wp2_with go_in
        go_loopw [11] (fun i wx => i = .int .i64 0 ∧ Fr [] w wx) (fun _ _ => 0)
        case atStart => exact ⟨rfl, f3⟩
        case round =>
          obtain ⟨rfl, f4⟩ := hrel
          go_wp2_with go_in
          go_loopw [14] (fun i wx => i = .int .i64 0 ∧ Fr [] w wx) (fun _ _ => 0)
          case atStart => exact ⟨rfl, f4⟩
          case round =>
            obtain ⟨rfl, f5⟩ := hrel
            go_wp2_with go_in
            go_ret
            exact ⟨rfl, f5⟩

theorem mk_flatHelds (w : World) : (Instr.makeSlice 83 (.int .i64 0) (.int .i64 0)).run Tryz.prog w = .ok (.slice (some ⟨w.heap.size, 0, none⟩) 0 0) (w.alloc (.cells #[] 174)) := by kernel_rfl
set_option maxHeartbeats 2000000 in
set_option maxRecDepth 100000 in
theorem flatHelds_nil (w : World) : Calls Tryz.prog 71 #[.slice none 0 0] w fun e w' => e = .returned (.bool true) ∧ Fr [] w w' := by
  have hmk := mk_flatHelds
  go_enter Tryz.func71, Tryz.ntmps71
  go_wp2_with go_in
  go_loopw [3] (fun i wr => i = .int .i64 0 ∧ Fr [] w wr) (fun _ _ => 0)
  case atStart => exact ⟨rfl, Fr.refl _ _⟩
  case round =>
    obtain ⟨rfl, f1⟩ := hrel
    go_wp2_with go_in
    go_loopw [6] (fun i wx => i = .int .i64 0 ∧ Fr [] w wx) (fun _ _ => 0)
    case atStart => exact ⟨rfl, f1.alloc _⟩
    case round =>
      obtain ⟨rfl, f2⟩ := hrel
      go_wp2_with go_in
      go_loopw [9] (fun i wx => i = .int .i64 0 ∧ Fr [] w wx) (fun _ _ => 0)
      case atStart => exact ⟨rfl, f2⟩
      case round =>
        obtain ⟨rfl, f3⟩ := hrel
        go_wp2_with go_in
        go_loopw [11] (fun i wx => i = .int .i64 0 ∧ Fr [] w wx) (fun _ _ => 0)
        case atStart => exact ⟨rfl, f3⟩
        case round =>
          obtain ⟨rfl, f4⟩ := hrel
          go_wp2_with go_in
          go_loopw [14] (fun i wx => i = .int .i64 0 ∧ Fr [] w wx) (fun _ _ => 0)
          case atStart => exact ⟨rfl, f4⟩
          case round =>
            obtain ⟨rfl, f5⟩ := hrel
            go_wp2_with go_in
            go_ret
            exact ⟨rfl, f5⟩

theorem mk_flatTokens (w : World) : (Instr.makeSlice 84 (.int .i64 0) (.int .i64 0)).run Tryz.prog w = .ok (.slice (some ⟨w.heap.size, 0, none⟩) 0 0) (w.alloc (.cells #[] 179)) := by kernel_rfl
set_option maxHeartbeats 2000000 in
set_option maxRecDepth 100000 in
theorem flatTokens_nil (w : World) : Calls Tryz.prog 72 #[.slice none 0 0] w fun e w' => e = .returned (.bool true) ∧ Fr [] w w' := by
  have hmk := mk_flatTokens
  go_enter Tryz.func72, Tryz.ntmps72
  go_wp2_with go_in
  go_loopw [3] (fun i wr => i = .int .i64 0 ∧ Fr [] w wr) (fun _ _ => 0)
  case atStart => exact ⟨rfl, Fr.refl _ _⟩
  case round =>
    obtain ⟨rfl, f1⟩ := hrel
    go_wp2_with go_in
    go_loopw [6] (fun i wx => i = .int .i64 0 ∧ Fr [] w wx) (fun _ _ => 0)
    case atStart => exact ⟨rfl, f1.alloc _⟩
    case round =>
      obtain ⟨rfl, f2⟩ := hrel
      go_wp2_with go_in
      go_loopw [9] (fun i wx => i = .int .i64 0 ∧ Fr [] w wx) (fun _ _ => 0)
      case atStart => exact ⟨rfl, f2⟩
      case round =>
        obtain ⟨rfl, f3⟩ := hrel
        go_wp2_with go_in
        go_loopw [11] (fun i wx => i = .int .i64 0 ∧ Fr [] w wx) (fun _ _ => 0)
        case atStart => exact ⟨rfl, f3⟩
        case round =>
          obtain ⟨rfl, f4⟩ := hrel
          go_wp2_with go_in
          go_loopw [14] (fun i wx => i = .int .i64 0 ∧ Fr [] w wx) (fun _ _ => 0)
          case atStart => exact ⟨rfl, f4⟩
          case round =>
            obtain ⟨rfl, f5⟩ := hrel
            go_wp2_with go_in
            go_ret
            exact ⟨rfl, f5⟩

theorem mk_flatExprs (w : World) : (Instr.makeSlice 85 (.int .i64 0) (.int .i64 0)).run Tryz.prog w = .ok (.slice (some ⟨w.heap.size, 0, none⟩) 0 0) (w.alloc (.cells #[] 184)) := by kernel_rfl
set_option maxHeartbeats 2000000 in
set_option maxRecDepth 100000 in
theorem flatExprs_nil (w : World) : Calls Tryz.prog 73 #[.slice none 0 0] w fun e w' => e = .returned (.bool true) ∧ Fr [] w w' := by
  have hmk := mk_flatExprs
  go_enter Tryz.func73, Tryz.ntmps73
  go_wp2_with go_in
  go_loopw [3] (fun i wr => i = .int .i64 0 ∧ Fr [] w wr) (fun _ _ => 0)
  case atStart => exact ⟨rfl, Fr.refl _ _⟩
  case round =>
    obtain ⟨rfl, f1⟩ := hrel
    go_wp2_with go_in
    go_loopw [6] (fun i wx => i = .int .i64 0 ∧ Fr [] w wx) (fun _ _ => 0)
    case atStart => exact ⟨rfl, f1.alloc _⟩
    case round =>
      obtain ⟨rfl, f2⟩ := hrel
      go_wp2_with go_in
      go_loopw [9] (fun i wx => i = .int .i64 0 ∧ Fr [] w wx) (fun _ _ => 0)
      case atStart => exact ⟨rfl, f2⟩
      case round =>
        obtain ⟨rfl, f3⟩ := hrel
        go_wp2_with go_in
        go_loopw [11] (fun i wx => i = .int .i64 0 ∧ Fr [] w wx) (fun _ _ => 0)
        case atStart => exact ⟨rfl, f3⟩
        case round =>
          obtain ⟨rfl, f4⟩ := hrel
          go_wp2_with go_in
          go_loopw [14] (fun i wx => i = .int .i64 0 ∧ Fr [] w wx) (fun _ _ => 0)
          case atStart => exact ⟨rfl, f4⟩
          case round =>
            obtain ⟨rfl, f5⟩ := hrel
            go_wp2_with go_in
            go_ret
            exact ⟨rfl, f5⟩

theorem mk_flatItems (w : World) : (Instr.makeSlice 86 (.int .i64 0) (.int .i64 0)).run Tryz.prog w = .ok (.slice (some ⟨w.heap.size, 0, none⟩) 0 0) (w.alloc (.cells #[] 192)) := by kernel_rfl
set_option maxHeartbeats 2000000 in
set_option maxRecDepth 100000 in
theorem flatItems_nil (w : World) : Calls Tryz.prog 74 #[.slice none 0 0] w fun e w' => e = .returned (.bool true) ∧ Fr [] w w' := by
  have hmk := mk_flatItems
  go_enter Tryz.func74, Tryz.ntmps74
  go_wp2_with go_in
  go_loopw [3] (fun i wr => i = .int .i64 0 ∧ Fr [] w wr) (fun _ _ => 0)
  case atStart => exact ⟨rfl, Fr.refl _ _⟩
  case round =>
    obtain ⟨rfl, f1⟩ := hrel
    go_wp2_with go_in
    go_loopw [6] (fun i wx => i = .int .i64 0 ∧ Fr [] w wx) (fun _ _ => 0)
    case atStart => exact ⟨rfl, f1.alloc _⟩
    case round =>
      obtain ⟨rfl, f2⟩ := hrel
      go_wp2_with go_in
      go_loopw [9] (fun i wx => i = .int .i64 0 ∧ Fr [] w wx) (fun _ _ => 0)
      case atStart => exact ⟨rfl, f2⟩
      case round =>
        obtain ⟨rfl, f3⟩ := hrel
        go_wp2_with go_in
        go_loopw [11] (fun i wx => i = .int .i64 0 ∧ Fr [] w wx) (fun _ _ => 0)
        case atStart => exact ⟨rfl, f3⟩
        case round =>
          obtain ⟨rfl, f4⟩ := hrel
          go_wp2_with go_in
          go_loopw [14] (fun i wx => i = .int .i64 0 ∧ Fr [] w wx) (fun _ _ => 0)
          case atStart => exact ⟨rfl, f4⟩
          case round =>
            obtain ⟨rfl, f5⟩ := hrel
            go_wp2_with go_in
            go_ret
            exact ⟨rfl, f5⟩

theorem mk_flatShowns (w : World) : (Instr.makeSlice 87 (.int .i64 0) (.int .i64 0)).run Tryz.prog w = .ok (.slice (some ⟨w.heap.size, 0, none⟩) 0 0) (w.alloc (.cells #[] 197)) := by kernel_rfl
set_option maxHeartbeats 2000000 in
set_option maxRecDepth 100000 in
theorem flatShowns_nil (w : World) : Calls Tryz.prog 75 #[.slice none 0 0] w fun e w' => e = .returned (.bool true) ∧ Fr [] w w' := by
  have hmk := mk_flatShowns
  go_enter Tryz.func75, Tryz.ntmps75
  go_wp2_with go_in
  go_loopw [3] (fun i wr => i = .int .i64 0 ∧ Fr [] w wr) (fun _ _ => 0)
  case atStart => exact ⟨rfl, Fr.refl _ _⟩
  case round =>
    obtain ⟨rfl, f1⟩ := hrel
    go_wp2_with go_in
    go_loopw [6] (fun i wx => i = .int .i64 0 ∧ Fr [] w wx) (fun _ _ => 0)
    case atStart => exact ⟨rfl, f1.alloc _⟩
    case round =>
      obtain ⟨rfl, f2⟩ := hrel
      go_wp2_with go_in
      go_loopw [9] (fun i wx => i = .int .i64 0 ∧ Fr [] w wx) (fun _ _ => 0)
      case atStart => exact ⟨rfl, f2⟩
      case round =>
        obtain ⟨rfl, f3⟩ := hrel
        go_wp2_with go_in
        go_loopw [11] (fun i wx => i = .int .i64 0 ∧ Fr [] w wx) (fun _ _ => 0)
        case atStart => exact ⟨rfl, f3⟩
        case round =>
          obtain ⟨rfl, f4⟩ := hrel
          go_wp2_with go_in
          go_loopw [14] (fun i wx => i = .int .i64 0 ∧ Fr [] w wx) (fun _ _ => 0)
          case atStart => exact ⟨rfl, f4⟩
          case round =>
            obtain ⟨rfl, f5⟩ := hrel
            go_wp2_with go_in
            go_ret
            exact ⟨rfl, f5⟩

theorem mk_flatParts (w : World) : (Instr.makeSlice 88 (.int .i64 0) (.int .i64 0)).run Tryz.prog w = .ok (.slice (some ⟨w.heap.size, 0, none⟩) 0 0) (w.alloc (.cells #[] 201)) := by kernel_rfl
set_option maxHeartbeats 2000000 in
set_option maxRecDepth 100000 in
theorem flatParts_nil (w : World) : Calls Tryz.prog 76 #[.slice none 0 0] w fun e w' => e = .returned (.bool true) ∧ Fr [] w w' := by
  have hmk := mk_flatParts
  go_enter Tryz.func76, Tryz.ntmps76
  go_wp2_with go_in
  go_loopw [3] (fun i wr => i = .int .i64 0 ∧ Fr [] w wr) (fun _ _ => 0)
  case atStart => exact ⟨rfl, Fr.refl _ _⟩
  case round =>
    obtain ⟨rfl, f1⟩ := hrel
    go_wp2_with go_in
    go_loopw [6] (fun i wx => i = .int .i64 0 ∧ Fr [] w wx) (fun _ _ => 0)
    case atStart => exact ⟨rfl, f1.alloc _⟩
    case round =>
      obtain ⟨rfl, f2⟩ := hrel
      go_wp2_with go_in
      go_loopw [9] (fun i wx => i = .int .i64 0 ∧ Fr [] w wx) (fun _ _ => 0)
      case atStart => exact ⟨rfl, f2⟩
      case round =>
        obtain ⟨rfl, f3⟩ := hrel
        go_wp2_with go_in
        go_loopw [11] (fun i wx => i = .int .i64 0 ∧ Fr [] w wx) (fun _ _ => 0)
        case atStart => exact ⟨rfl, f3⟩
        case round =>
          obtain ⟨rfl, f4⟩ := hrel
          go_wp2_with go_in
          go_loopw [14] (fun i wx => i = .int .i64 0 ∧ Fr [] w wx) (fun _ _ => 0)
          case atStart => exact ⟨rfl, f4⟩
          case round =>
            obtain ⟨rfl, f5⟩ := hrel
            go_wp2_with go_in
            go_ret
            exact ⟨rfl, f5⟩

theorem mk_flatCommands (w : World) : (Instr.makeSlice 89 (.int .i64 0) (.int .i64 0)).run Tryz.prog w = .ok (.slice (some ⟨w.heap.size, 0, none⟩) 0 0) (w.alloc (.cells #[] 207)) := by kernel_rfl
set_option maxHeartbeats 2000000 in
set_option maxRecDepth 100000 in
theorem flatCommands_nil (w : World) : Calls Tryz.prog 77 #[.slice none 0 0] w fun e w' => e = .returned (.bool true) ∧ Fr [] w w' := by
  have hmk := mk_flatCommands
  go_enter Tryz.func77, Tryz.ntmps77
  go_wp2_with go_in
  go_loopw [3] (fun i wr => i = .int .i64 0 ∧ Fr [] w wr) (fun _ _ => 0)
  case atStart => exact ⟨rfl, Fr.refl _ _⟩
  case round =>
    obtain ⟨rfl, f1⟩ := hrel
    go_wp2_with go_in
    go_loopw [6] (fun i wx => i = .int .i64 0 ∧ Fr [] w wx) (fun _ _ => 0)
    case atStart => exact ⟨rfl, f1.alloc _⟩
    case round =>
      obtain ⟨rfl, f2⟩ := hrel
      go_wp2_with go_in
      go_loopw [9] (fun i wx => i = .int .i64 0 ∧ Fr [] w wx) (fun _ _ => 0)
      case atStart => exact ⟨rfl, f2⟩
      case round =>
        obtain ⟨rfl, f3⟩ := hrel
        go_wp2_with go_in
        go_loopw [11] (fun i wx => i = .int .i64 0 ∧ Fr [] w wx) (fun _ _ => 0)
        case atStart => exact ⟨rfl, f3⟩
        case round =>
          obtain ⟨rfl, f4⟩ := hrel
          go_wp2_with go_in
          go_loopw [14] (fun i wx => i = .int .i64 0 ∧ Fr [] w wx) (fun _ _ => 0)
          case atStart => exact ⟨rfl, f4⟩
          case round =>
            obtain ⟨rfl, f5⟩ := hrel
            go_wp2_with go_in
            go_ret
            exact ⟨rfl, f5⟩

end Go.Proofs.YticmjdblcomecaaGreat.Ab
