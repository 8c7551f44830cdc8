/-
  The kit's lists that are held apart: at no lists each of the flat functions answers true.
-/
import Derived.Test.YtlfpoeimgoikkaaAbBase
namespace Go.Proofs.Ytlfpoeimgoikkaa.Ab
open Go.RowKit

theorem mk_flatWords (w : World) : (Instr.makeSlice 56 (.int .i64 0) (.int .i64 0)).run Try.prog w = .ok (.slice (some ⟨w.heap.size, 0, none⟩) 0 0) (w.alloc (.cells #[] 105)) := by kernel_rfl
set_option maxHeartbeats 2000000 in
set_option maxRecDepth 100000 in
theorem flatWords_nil (w : World) : Calls Try.prog 58 #[.slice none 0 0] w fun e w' => e = .returned (.bool true) ∧ Fr [] w w' := by
  have hmk := mk_flatWords
  go_enter Try.func58, Try.ntmps58
  go_wp2_with go_in
  go_loopw [3] (fun i wr => i = .int .i64 0 ∧ Fr [] w wr) (fun _ _ => 0)
  case atStart => exact ⟨rfl, Fr.refl _ _⟩
  case round =>
    obtain ⟨rfl, f1⟩ := hrel
    go_wp2_with go_in
    go_loopw [6] (fun i wx => i = .int .i64 0 ∧ Fr [] w wx) (fun _ _ => 0)
    case atStart => exact ⟨rfl, f1.alloc _⟩
    case round =>
      obtain ⟨rfl, f2⟩ := hrel
      go_wp2_with go_in
      go_loopw [9] (fun i wx => i = .int .i64 0 ∧ Fr [] w wx) (fun _ _ => 0)
      case atStart => exact ⟨rfl, f2⟩
      case round =>
        obtain ⟨rfl, f3⟩ := hrel
        go_wp2_with go_in
        go_loopw [11] (fun i wx => i = .int .i64 0 ∧ Fr [] w wx) (fun _ _ => 0)
        case atStart => exact ⟨rfl, f3⟩
        case round =>
          obtain ⟨rfl, f4⟩ := hrel
          go_wp2_with go_in
          go_loopw [14] (fun i wx => i = .int .i64 0 ∧ Fr [] w wx) (fun _ _ => 0)
          case atStart => exact ⟨rfl, f4⟩
          case round =>
            obtain ⟨rfl, f5⟩ := hrel
            go_wp2_with go_in
            go_ret
            exact ⟨rfl, f5⟩

theorem mk_flatInts (w : World) : (Instr.makeSlice 57 (.int .i64 0) (.int .i64 0)).run Try.prog w = .ok (.slice (some ⟨w.heap.size, 0, none⟩) 0 0) (w.alloc (.cells #[] 106)) := by kernel_rfl
set_option maxHeartbeats 2000000 in
set_option maxRecDepth 100000 in
theorem flatInts_nil (w : World) : Calls Try.prog 59 #[.slice none 0 0] w fun e w' => e = .returned (.bool true) ∧ Fr [] w w' := by
  have hmk := mk_flatInts
  go_enter Try.func59, Try.ntmps59
  go_wp2_with go_in
  go_loopw [3] (fun i wr => i = .int .i64 0 ∧ Fr [] w wr) (fun _ _ => 0)
  case atStart => exact ⟨rfl, Fr.refl _ _⟩
  case round =>
    obtain ⟨rfl, f1⟩ := hrel
    go_wp2_with go_in
    go_loopw [6] (fun i wx => i = .int .i64 0 ∧ Fr [] w wx) (fun _ _ => 0)
    case atStart => exact ⟨rfl, f1.alloc _⟩
    case round =>
      obtain ⟨rfl, f2⟩ := hrel
      go_wp2_with go_in
      go_loopw [9] (fun i wx => i = .int .i64 0 ∧ Fr [] w wx) (fun _ _ => 0)
      case atStart => exact ⟨rfl, f2⟩
      case round =>
        obtain ⟨rfl, f3⟩ := hrel
        go_wp2_with go_in
        go_loopw [11] (fun i wx => i = .int .i64 0 ∧ Fr [] w wx) (fun _ _ => 0)
        case atStart => exact ⟨rfl, f3⟩
        case round =>
          obtain ⟨rfl, f4⟩ := hrel
          go_wp2_with go_in
          go_loopw [14] (fun i wx => i = .int .i64 0 ∧ Fr [] w wx) (fun _ _ => 0)
          case atStart => exact ⟨rfl, f4⟩
          case round =>
            obtain ⟨rfl, f5⟩ := hrel
            go_wp2_with go_in
            go_ret
            exact ⟨rfl, f5⟩

theorem mk_flatLongs (w : World) : (Instr.makeSlice 58 (.int .i64 0) (.int .i64 0)).run Try.prog w = .ok (.slice (some ⟨w.heap.size, 0, none⟩) 0 0) (w.alloc (.cells #[] 107)) := by kernel_rfl
set_option maxHeartbeats 2000000 in
set_option maxRecDepth 100000 in
theorem flatLongs_nil (w : World) : Calls Try.prog 60 #[.slice none 0 0] w fun e w' => e = .returned (.bool true) ∧ Fr [] w w' := by
  have hmk := mk_flatLongs
  go_enter Try.func60, Try.ntmps60
  go_wp2_with go_in
  go_loopw [3] (fun i wr => i = .int .i64 0 ∧ Fr [] w wr) (fun _ _ => 0)
  case atStart => exact ⟨rfl, Fr.refl _ _⟩
  case round =>
    obtain ⟨rfl, f1⟩ := hrel
    go_wp2_with go_in
    go_loopw [6] (fun i wx => i = .int .i64 0 ∧ Fr [] w wx) (fun _ _ => 0)
    case atStart => exact ⟨rfl, f1.alloc _⟩
    case round =>
      obtain ⟨rfl, f2⟩ := hrel
      go_wp2_with go_in
      go_loopw [9] (fun i wx => i = .int .i64 0 ∧ Fr [] w wx) (fun _ _ => 0)
      case atStart => exact ⟨rfl, f2⟩
      case round =>
        obtain ⟨rfl, f3⟩ := hrel
        go_wp2_with go_in
        go_loopw [11] (fun i wx => i = .int .i64 0 ∧ Fr [] w wx) (fun _ _ => 0)
        case atStart => exact ⟨rfl, f3⟩
        case round =>
          obtain ⟨rfl, f4⟩ := hrel
          go_wp2_with go_in
          go_loopw [14] (fun i wx => i = .int .i64 0 ∧ Fr [] w wx) (fun _ _ => 0)
          case atStart => exact ⟨rfl, f4⟩
          case round =>
            obtain ⟨rfl, f5⟩ := hrel
            go_wp2_with go_in
            go_ret
            exact ⟨rfl, f5⟩

theorem mk_flatTexts (w : World) : (Instr.makeSlice 59 (.int .i64 0) (.int .i64 0)).run Try.prog w = .ok (.slice (some ⟨w.heap.size, 0, none⟩) 0 0) (w.alloc (.cells #[] 108)) := by kernel_rfl
set_option maxHeartbeats 2000000 in
set_option maxRecDepth 100000 in
theorem flatTexts_nil (w : World) : Calls Try.prog 61 #[.slice none 0 0] w fun e w' => e = .returned (.bool true) ∧ Fr [] w w' := by
  have hmk := mk_flatTexts
  go_enter Try.func61, Try.ntmps61
  go_wp2_with go_in
  go_loopw [3] (fun i wr => i = .int .i64 0 ∧ Fr [] w wr) (fun _ _ => 0)
  case atStart => exact ⟨rfl, Fr.refl _ _⟩
  case round =>
    obtain ⟨rfl, f1⟩ := hrel
    go_wp2_with go_in
    go_loopw [6] (fun i wx => i = .int .i64 0 ∧ Fr [] w wx) (fun _ _ => 0)
    case atStart => exact ⟨rfl, f1.alloc _⟩
    case round =>
      obtain ⟨rfl, f2⟩ := hrel
      go_wp2_with go_in
      go_loopw [9] (fun i wx => i = .int .i64 0 ∧ Fr [] w wx) (fun _ _ => 0)
      case atStart => exact ⟨rfl, f2⟩
      case round =>
        obtain ⟨rfl, f3⟩ := hrel
        go_wp2_with go_in
        go_loopw [11] (fun i wx => i = .int .i64 0 ∧ Fr [] w wx) (fun _ _ => 0)
        case atStart => exact ⟨rfl, f3⟩
        case round =>
          obtain ⟨rfl, f4⟩ := hrel
          go_wp2_with go_in
          go_loopw [14] (fun i wx => i = .int .i64 0 ∧ Fr [] w wx) (fun _ _ => 0)
          case atStart => exact ⟨rfl, f4⟩
          case round =>
            obtain ⟨rfl, f5⟩ := hrel
            go_wp2_with go_in
            go_ret
            exact ⟨rfl, f5⟩

theorem mk_flatBytes (w : World) : (Instr.makeSlice 30 (.int .i64 0) (.int .i64 0)).run Try.prog w = .ok (.slice (some ⟨w.heap.size, 0, none⟩) 0 0) (w.alloc (.cells #[] 22)) := by kernel_rfl
set_option maxHeartbeats 2000000 in
set_option maxRecDepth 100000 in
theorem flatBytes_nil (w : World) : Calls Try.prog 62 #[.slice none 0 0] w fun e w' => e = .returned (.bool true) ∧ Fr [] w w' := by
  have hmk := mk_flatBytes
  go_enter Try.func62, Try.ntmps62
  go_wp2_with go_in
  go_loopw [3] (fun i wr => i = .int .i64 0 ∧ Fr [] w wr) (fun _ _ => 0)
  case atStart => exact ⟨rfl, Fr.refl _ _⟩
  case round =>
    obtain ⟨rfl, f1⟩ := hrel
    go_wp2_with go_in
    go_loopw [6] (fun i wx => i = .int .i64 0 ∧ Fr [] w wx) (fun _ _ => 0)
    case atStart => exact ⟨rfl, f1.alloc _⟩
    case round =>
      obtain ⟨rfl, f2⟩ := hrel
      go_wp2_with go_in
      go_loopw [9] (fun i wx => i = .int .i64 0 ∧ Fr [] w wx) (fun _ _ => 0)
      case atStart => exact ⟨rfl, f2⟩
      case round =>
        obtain ⟨rfl, f3⟩ := hrel
        go_wp2_with go_in
        go_loopw [11] (fun i wx => i = .int .i64 0 ∧ Fr [] w wx) (fun _ _ => 0)
        case atStart => exact ⟨rfl, f3⟩
        case round =>
          obtain ⟨rfl, f4⟩ := hrel
          go_wp2_with go_in
          go_loopw [14] (fun i wx => i = .int .i64 0 ∧ Fr [] w wx) (fun _ _ => 0)
          case atStart => exact ⟨rfl, f4⟩
          case round =>
            obtain ⟨rfl, f5⟩ := hrel
            go_wp2_with go_in
            go_ret
            exact ⟨rfl, f5⟩

theorem mk_flatNodes (w : World) : (Instr.makeSlice 60 (.int .i64 0) (.int .i64 0)).run Try.prog w = .ok (.slice (some ⟨w.heap.size, 0, none⟩) 0 0) (w.alloc (.cells #[] 110)) := by kernel_rfl
set_option maxHeartbeats 2000000 in
set_option maxRecDepth 100000 in
theorem flatNodes_nil (w : World) : Calls Try.prog 63 #[.slice none 0 0] w fun e w' => e = .returned (.bool true) ∧ Fr [] w w' := by
  have hmk := mk_flatNodes
  go_enter Try.func63, Try.ntmps63
  go_wp2_with go_in
  go_loopw [3] (fun i wr => i = .int .i64 0 ∧ Fr [] w wr) (fun _ _ => 0)
  case atStart => exact ⟨rfl, Fr.refl _ _⟩
  case round =>
    obtain ⟨rfl, f1⟩ := hrel
    go_wp2_with go_in
    go_loopw [6] (fun i wx => i = .int .i64 0 ∧ Fr [] w wx) (fun _ _ => 0)
    case atStart => exact ⟨rfl, f1.alloc _⟩
    case round =>
      obtain ⟨rfl, f2⟩ := hrel
      go_wp2_with go_in
      go_loopw [9] (fun i wx => i = .int .i64 0 ∧ Fr [] w wx) (fun _ _ => 0)
      case atStart => exact ⟨rfl, f2⟩
      case round =>
        obtain ⟨rfl, f3⟩ := hrel
        go_wp2_with go_in
        go_loopw [11] (fun i wx => i = .int .i64 0 ∧ Fr [] w wx) (fun _ _ => 0)
        case atStart => exact ⟨rfl, f3⟩
        case round =>
          obtain ⟨rfl, f4⟩ := hrel
          go_wp2_with go_in
          go_loopw [14] (fun i wx => i = .int .i64 0 ∧ Fr [] w wx) (fun _ _ => 0)
          case atStart => exact ⟨rfl, f4⟩
          case round =>
            obtain ⟨rfl, f5⟩ := hrel
            go_wp2_with go_in
            go_ret
            exact ⟨rfl, f5⟩

theorem mk_flatFates (w : World) : (Instr.makeSlice 61 (.int .i64 0) (.int .i64 0)).run Try.prog w = .ok (.slice (some ⟨w.heap.size, 0, none⟩) 0 0) (w.alloc (.cells #[] 115)) := by kernel_rfl
set_option maxHeartbeats 2000000 in
set_option maxRecDepth 100000 in
theorem flatFates_nil (w : World) : Calls Try.prog 64 #[.slice none 0 0] w fun e w' => e = .returned (.bool true) ∧ Fr [] w w' := by
  have hmk := mk_flatFates
  go_enter Try.func64, Try.ntmps64
  go_wp2_with go_in
  go_loopw [3] (fun i wr => i = .int .i64 0 ∧ Fr [] w wr) (fun _ _ => 0)
  case atStart => exact ⟨rfl, Fr.refl _ _⟩
  case round =>
    obtain ⟨rfl, f1⟩ := hrel
    go_wp2_with go_in
    go_loopw [6] (fun i wx => i = .int .i64 0 ∧ Fr [] w wx) (fun _ _ => 0)
    case atStart => exact ⟨rfl, f1.alloc _⟩
    case round =>
      obtain ⟨rfl, f2⟩ := hrel
      go_wp2_with go_in
      go_loopw [9] (fun i wx => i = .int .i64 0 ∧ Fr [] w wx) (fun _ _ => 0)
      case atStart => exact ⟨rfl, f2⟩
      case round =>
        obtain ⟨rfl, f3⟩ := hrel
        go_wp2_with go_in
        go_loopw [11] (fun i wx => i = .int .i64 0 ∧ Fr [] w wx) (fun _ _ => 0)
        case atStart => exact ⟨rfl, f3⟩
        case round =>
          obtain ⟨rfl, f4⟩ := hrel
          go_wp2_with go_in
          go_loopw [14] (fun i wx => i = .int .i64 0 ∧ Fr [] w wx) (fun _ _ => 0)
          case atStart => exact ⟨rfl, f4⟩
          case round =>
            obtain ⟨rfl, f5⟩ := hrel
            go_wp2_with go_in
            go_ret
            exact ⟨rfl, f5⟩

theorem mk_flatSpans (w : World) : (Instr.makeSlice 42 (.int .i64 0) (.int .i64 0)).run Try.prog w = .ok (.slice (some ⟨w.heap.size, 0, none⟩) 0 0) (w.alloc (.cells #[] 37)) := by kernel_rfl
set_option maxHeartbeats 2000000 in
set_option maxRecDepth 100000 in
theorem flatSpans_nil (w : World) : Calls Try.prog 65 #[.slice none 0 0] w fun e w' => e = .returned (.bool true) ∧ Fr [] w w' := by
  have hmk := mk_flatSpans
  go_enter Try.func65, Try.ntmps65
  go_wp2_with go_in
  go_loopw [3] (fun i wr => i = .int .i64 0 ∧ Fr [] w wr) (fun _ _ => 0)
  case atStart => exact ⟨rfl, Fr.refl _ _⟩
  case round =>
    obtain ⟨rfl, f1⟩ := hrel
    go_wp2_with go_in
    go_loopw [6] (fun i wx => i = .int .i64 0 ∧ Fr [] w wx) (fun _ _ => 0)
    case atStart => exact ⟨rfl, f1.alloc _⟩
    case round =>
      obtain ⟨rfl, f2⟩ := hrel
      go_wp2_with go_in
      go_loopw [9] (fun i wx => i = .int .i64 0 ∧ Fr [] w wx) (fun _ _ => 0)
      case atStart => exact ⟨rfl, f2⟩
      case round =>
        obtain ⟨rfl, f3⟩ := hrel
        go_wp2_with go_in
        go_loopw [11] (fun i wx => i = .int .i64 0 ∧ Fr [] w wx) (fun _ _ => 0)
        case atStart => exact ⟨rfl, f3⟩
        case round =>
          obtain ⟨rfl, f4⟩ := hrel
          go_wp2_with go_in
          go_loopw [14] (fun i wx => i = .int .i64 0 ∧ Fr [] w wx) (fun _ _ => 0)
          case atStart => exact ⟨rfl, f4⟩
          case round =>
            obtain ⟨rfl, f5⟩ := hrel
            go_wp2_with go_in
            go_ret
            exact ⟨rfl, f5⟩

theorem mk_flatDirties (w : World) : (Instr.makeSlice 62 (.int .i64 0) (.int .i64 0)).run Try.prog w = .ok (.slice (some ⟨w.heap.size, 0, none⟩) 0 0) (w.alloc (.cells #[] 120)) := by kernel_rfl
set_option maxHeartbeats 2000000 in
set_option maxRecDepth 100000 in
theorem flatDirties_nil (w : World) : Calls Try.prog 66 #[.slice none 0 0] w fun e w' => e = .returned (.bool true) ∧ Fr [] w w' := by
  have hmk := mk_flatDirties
  go_enter Try.func66, Try.ntmps66
  go_wp2_with go_in
  go_loopw [3] (fun i wr => i = .int .i64 0 ∧ Fr [] w wr) (fun _ _ => 0)
  case atStart => exact ⟨rfl, Fr.refl _ _⟩
  case round =>
    obtain ⟨rfl, f1⟩ := hrel
    go_wp2_with go_in
    go_loopw [6] (fun i wx => i = .int .i64 0 ∧ Fr [] w wx) (fun _ _ => 0)
    case atStart => exact ⟨rfl, f1.alloc _⟩
    case round =>
      obtain ⟨rfl, f2⟩ := hrel
      go_wp2_with go_in
      go_loopw [9] (fun i wx => i = .int .i64 0 ∧ Fr [] w wx) (fun _ _ => 0)
      case atStart => exact ⟨rfl, f2⟩
      case round =>
        obtain ⟨rfl, f3⟩ := hrel
        go_wp2_with go_in
        go_loopw [11] (fun i wx => i = .int .i64 0 ∧ Fr [] w wx) (fun _ _ => 0)
        case atStart => exact ⟨rfl, f3⟩
        case round =>
          obtain ⟨rfl, f4⟩ := hrel
          go_wp2_with go_in
          go_loopw [14] (fun i wx => i = .int .i64 0 ∧ Fr [] w wx) (fun _ _ => 0)
          case atStart => exact ⟨rfl, f4⟩
          case round =>
            obtain ⟨rfl, f5⟩ := hrel
            go_wp2_with go_in
            go_ret
            exact ⟨rfl, f5⟩

theorem mk_flatRecords (w : World) : (Instr.makeSlice 63 (.int .i64 0) (.int .i64 0)).run Try.prog w = .ok (.slice (some ⟨w.heap.size, 0, none⟩) 0 0) (w.alloc (.cells #[] 124)) := by kernel_rfl
set_option maxHeartbeats 2000000 in
set_option maxRecDepth 100000 in
theorem flatRecords_nil (w : World) : Calls Try.prog 67 #[.slice none 0 0] w fun e w' => e = .returned (.bool true) ∧ Fr [] w w' := by
  have hmk := mk_flatRecords
  go_enter Try.func67, Try.ntmps67
  go_wp2_with go_in
  go_loopw [3] (fun i wr => i = .int .i64 0 ∧ Fr [] w wr) (fun _ _ => 0)
  case atStart => exact ⟨rfl, Fr.refl _ _⟩
  case round =>
    obtain ⟨rfl, f1⟩ := hrel
    go_wp2_with go_in
    go_loopw [6] (fun i wx => i = .int .i64 0 ∧ Fr [] w wx) (fun _ _ => 0)
    case atStart => exact ⟨rfl, f1.alloc _⟩
    case round =>
      obtain ⟨rfl, f2⟩ := hrel
      go_wp2_with go_in
      go_loopw [9] (fun i wx => i = .int .i64 0 ∧ Fr [] w wx) (fun _ _ => 0)
      case atStart => exact ⟨rfl, f2⟩
      case round =>
        obtain ⟨rfl, f3⟩ := hrel
        go_wp2_with go_in
        go_loopw [11] (fun i wx => i = .int .i64 0 ∧ Fr [] w wx) (fun _ _ => 0)
        case atStart => exact ⟨rfl, f3⟩
        case round =>
          obtain ⟨rfl, f4⟩ := hrel
          go_wp2_with go_in
          go_loopw [14] (fun i wx => i = .int .i64 0 ∧ Fr [] w wx) (fun _ _ => 0)
          case atStart => exact ⟨rfl, f4⟩
          case round =>
            obtain ⟨rfl, f5⟩ := hrel
            go_wp2_with go_in
            go_ret
            exact ⟨rfl, f5⟩

theorem mk_flatCells (w : World) : (Instr.makeSlice 64 (.int .i64 0) (.int .i64 0)).run Try.prog w = .ok (.slice (some ⟨w.heap.size, 0, none⟩) 0 0) (w.alloc (.cells #[] 130)) := by kernel_rfl
set_option maxHeartbeats 2000000 in
set_option maxRecDepth 100000 in
theorem flatCells_nil (w : World) : Calls Try.prog 68 #[.slice none 0 0] w fun e w' => e = .returned (.bool true) ∧ Fr [] w w' := by
  have hmk := mk_flatCells
  go_enter Try.func68, Try.ntmps68
  go_wp2_with go_in
  go_loopw [3] (fun i wr => i = .int .i64 0 ∧ Fr [] w wr) (fun _ _ => 0)
  case atStart => exact ⟨rfl, Fr.refl _ _⟩
  case round =>
    obtain ⟨rfl, f1⟩ := hrel
    go_wp2_with go_in
    go_loopw [6] (fun i wx => i = .int .i64 0 ∧ Fr [] w wx) (fun _ _ => 0)
    case atStart => exact ⟨rfl, f1.alloc _⟩
    case round =>
      obtain ⟨rfl, f2⟩ := hrel
      go_wp2_with go_in
      go_loopw [9] (fun i wx => i = .int .i64 0 ∧ Fr [] w wx) (fun _ _ => 0)
      case atStart => exact ⟨rfl, f2⟩
      case round =>
        obtain ⟨rfl, f3⟩ := hrel
        go_wp2_with go_in
        go_loopw [11] (fun i wx => i = .int .i64 0 ∧ Fr [] w wx) (fun _ _ => 0)
        case atStart => exact ⟨rfl, f3⟩
        case round =>
          obtain ⟨rfl, f4⟩ := hrel
          go_wp2_with go_in
          go_loopw [14] (fun i wx => i = .int .i64 0 ∧ Fr [] w wx) (fun _ _ => 0)
          case atStart => exact ⟨rfl, f4⟩
          case round =>
            obtain ⟨rfl, f5⟩ := hrel
            go_wp2_with go_in
            go_ret
            exact ⟨rfl, f5⟩

theorem mk_flatHelds (w : World) : (Instr.makeSlice 65 (.int .i64 0) (.int .i64 0)).run Try.prog w = .ok (.slice (some ⟨w.heap.size, 0, none⟩) 0 0) (w.alloc (.cells #[] 135)) := by kernel_rfl
set_option maxHeartbeats 2000000 in
set_option maxRecDepth 100000 in
theorem flatHelds_nil (w : World) : Calls Try.prog 69 #[.slice none 0 0] w fun e w' => e = .returned (.bool true) ∧ Fr [] w w' := by
  have hmk := mk_flatHelds
  go_enter Try.func69, Try.ntmps69
  go_wp2_with go_in
  go_loopw [3] (fun i wr => i = .int .i64 0 ∧ Fr [] w wr) (fun _ _ => 0)
  case atStart => exact ⟨rfl, Fr.refl _ _⟩
  case round =>
    obtain ⟨rfl, f1⟩ := hrel
    go_wp2_with go_in
    go_loopw [6] (fun i wx => i = .int .i64 0 ∧ Fr [] w wx) (fun _ _ => 0)
    case atStart => exact ⟨rfl, f1.alloc _⟩
    case round =>
      obtain ⟨rfl, f2⟩ := hrel
      go_wp2_with go_in
      go_loopw [9] (fun i wx => i = .int .i64 0 ∧ Fr [] w wx) (fun _ _ => 0)
      case atStart => exact ⟨rfl, f2⟩
      case round =>
        obtain ⟨rfl, f3⟩ := hrel
        go_wp2_with go_in
        go_loopw [11] (fun i wx => i = .int .i64 0 ∧ Fr [] w wx) (fun _ _ => 0)
        case atStart => exact ⟨rfl, f3⟩
        case round =>
          obtain ⟨rfl, f4⟩ := hrel
          go_wp2_with go_in
          go_loopw [14] (fun i wx => i = .int .i64 0 ∧ Fr [] w wx) (fun _ _ => 0)
          case atStart => exact ⟨rfl, f4⟩
          case round =>
            obtain ⟨rfl, f5⟩ := hrel
            go_wp2_with go_in
            go_ret
            exact ⟨rfl, f5⟩

theorem mk_flatTokens (w : World) : (Instr.makeSlice 66 (.int .i64 0) (.int .i64 0)).run Try.prog w = .ok (.slice (some ⟨w.heap.size, 0, none⟩) 0 0) (w.alloc (.cells #[] 140)) := by kernel_rfl
set_option maxHeartbeats 2000000 in
set_option maxRecDepth 100000 in
theorem flatTokens_nil (w : World) : Calls Try.prog 70 #[.slice none 0 0] w fun e w' => e = .returned (.bool true) ∧ Fr [] w w' := by
  have hmk := mk_flatTokens
  go_enter Try.func70, Try.ntmps70
  go_wp2_with go_in
  go_loopw [3] (fun i wr => i = .int .i64 0 ∧ Fr [] w wr) (fun _ _ => 0)
  case atStart => exact ⟨rfl, Fr.refl _ _⟩
  case round =>
    obtain ⟨rfl, f1⟩ := hrel
    go_wp2_with go_in
    go_loopw [6] (fun i wx => i = .int .i64 0 ∧ Fr [] w wx) (fun _ _ => 0)
    case atStart => exact ⟨rfl, f1.alloc _⟩
    case round =>
      obtain ⟨rfl, f2⟩ := hrel
      go_wp2_with go_in
      go_loopw [9] (fun i wx => i = .int .i64 0 ∧ Fr [] w wx) (fun _ _ => 0)
      case atStart => exact ⟨rfl, f2⟩
      case round =>
        obtain ⟨rfl, f3⟩ := hrel
        go_wp2_with go_in
        go_loopw [11] (fun i wx => i = .int .i64 0 ∧ Fr [] w wx) (fun _ _ => 0)
        case atStart => exact ⟨rfl, f3⟩
        case round =>
          obtain ⟨rfl, f4⟩ := hrel
          go_wp2_with go_in
          go_loopw [14] (fun i wx => i = .int .i64 0 ∧ Fr [] w wx) (fun _ _ => 0)
          case atStart => exact ⟨rfl, f4⟩
          case round =>
            obtain ⟨rfl, f5⟩ := hrel
            go_wp2_with go_in
            go_ret
            exact ⟨rfl, f5⟩

theorem mk_flatExprs (w : World) : (Instr.makeSlice 67 (.int .i64 0) (.int .i64 0)).run Try.prog w = .ok (.slice (some ⟨w.heap.size, 0, none⟩) 0 0) (w.alloc (.cells #[] 145)) := by kernel_rfl
set_option maxHeartbeats 2000000 in
set_option maxRecDepth 100000 in
theorem flatExprs_nil (w : World) : Calls Try.prog 71 #[.slice none 0 0] w fun e w' => e = .returned (.bool true) ∧ Fr [] w w' := by
  have hmk := mk_flatExprs
  go_enter Try.func71, Try.ntmps71
  go_wp2_with go_in
  go_loopw [3] (fun i wr => i = .int .i64 0 ∧ Fr [] w wr) (fun _ _ => 0)
  case atStart => exact ⟨rfl, Fr.refl _ _⟩
  case round =>
    obtain ⟨rfl, f1⟩ := hrel
    go_wp2_with go_in
    go_loopw [6] (fun i wx => i = .int .i64 0 ∧ Fr [] w wx) (fun _ _ => 0)
    case atStart => exact ⟨rfl, f1.alloc _⟩
    case round =>
      obtain ⟨rfl, f2⟩ := hrel
      go_wp2_with go_in
      go_loopw [9] (fun i wx => i = .int .i64 0 ∧ Fr [] w wx) (fun _ _ => 0)
      case atStart => exact ⟨rfl, f2⟩
      case round =>
        obtain ⟨rfl, f3⟩ := hrel
        go_wp2_with go_in
        go_loopw [11] (fun i wx => i = .int .i64 0 ∧ Fr [] w wx) (fun _ _ => 0)
        case atStart => exact ⟨rfl, f3⟩
        case round =>
          obtain ⟨rfl, f4⟩ := hrel
          go_wp2_with go_in
          go_loopw [14] (fun i wx => i = .int .i64 0 ∧ Fr [] w wx) (fun _ _ => 0)
          case atStart => exact ⟨rfl, f4⟩
          case round =>
            obtain ⟨rfl, f5⟩ := hrel
            go_wp2_with go_in
            go_ret
            exact ⟨rfl, f5⟩

theorem mk_flatItems (w : World) : (Instr.makeSlice 68 (.int .i64 0) (.int .i64 0)).run Try.prog w = .ok (.slice (some ⟨w.heap.size, 0, none⟩) 0 0) (w.alloc (.cells #[] 153)) := by kernel_rfl
set_option maxHeartbeats 2000000 in
set_option maxRecDepth 100000 in
theorem flatItems_nil (w : World) : Calls Try.prog 72 #[.slice none 0 0] w fun e w' => e = .returned (.bool true) ∧ Fr [] w w' := by
  have hmk := mk_flatItems
  go_enter Try.func72, Try.ntmps72
  go_wp2_with go_in
  go_loopw [3] (fun i wr => i = .int .i64 0 ∧ Fr [] w wr) (fun _ _ => 0)
  case atStart => exact ⟨rfl, Fr.refl _ _⟩
  case round =>
    obtain ⟨rfl, f1⟩ := hrel
    go_wp2_with go_in
    go_loopw [6] (fun i wx => i = .int .i64 0 ∧ Fr [] w wx) (fun _ _ => 0)
    case atStart => exact ⟨rfl, f1.alloc _⟩
    case round =>
      obtain ⟨rfl, f2⟩ := hrel
      go_wp2_with go_in
      go_loopw [9] (fun i wx => i = .int .i64 0 ∧ Fr [] w wx) (fun _ _ => 0)
      case atStart => exact ⟨rfl, f2⟩
      case round =>
        obtain ⟨rfl, f3⟩ := hrel
        go_wp2_with go_in
        go_loopw [11] (fun i wx => i = .int .i64 0 ∧ Fr [] w wx) (fun _ _ => 0)
        case atStart => exact ⟨rfl, f3⟩
        case round =>
          obtain ⟨rfl, f4⟩ := hrel
          go_wp2_with go_in
          go_loopw [14] (fun i wx => i = .int .i64 0 ∧ Fr [] w wx) (fun _ _ => 0)
          case atStart => exact ⟨rfl, f4⟩
          case round =>
            obtain ⟨rfl, f5⟩ := hrel
            go_wp2_with go_in
            go_ret
            exact ⟨rfl, f5⟩

theorem mk_flatShowns (w : World) : (Instr.makeSlice 69 (.int .i64 0) (.int .i64 0)).run Try.prog w = .ok (.slice (some ⟨w.heap.size, 0, none⟩) 0 0) (w.alloc (.cells #[] 158)) := by kernel_rfl
set_option maxHeartbeats 2000000 in
set_option maxRecDepth 100000 in
theorem flatShowns_nil (w : World) : Calls Try.prog 73 #[.slice none 0 0] w fun e w' => e = .returned (.bool true) ∧ Fr [] w w' := by
  have hmk := mk_flatShowns
  go_enter Try.func73, Try.ntmps73
  go_wp2_with go_in
  go_loopw [3] (fun i wr => i = .int .i64 0 ∧ Fr [] w wr) (fun _ _ => 0)
  case atStart => exact ⟨rfl, Fr.refl _ _⟩
  case round =>
    obtain ⟨rfl, f1⟩ := hrel
    go_wp2_with go_in
    go_loopw [6] (fun i wx => i = .int .i64 0 ∧ Fr [] w wx) (fun _ _ => 0)
    case atStart => exact ⟨rfl, f1.alloc _⟩
    case round =>
      obtain ⟨rfl, f2⟩ := hrel
      go_wp2_with go_in
      go_loopw [9] (fun i wx => i = .int .i64 0 ∧ Fr [] w wx) (fun _ _ => 0)
      case atStart => exact ⟨rfl, f2⟩
      case round =>
        obtain ⟨rfl, f3⟩ := hrel
        go_wp2_with go_in
        go_loopw [11] (fun i wx => i = .int .i64 0 ∧ Fr [] w wx) (fun _ _ => 0)
        case atStart => exact ⟨rfl, f3⟩
        case round =>
          obtain ⟨rfl, f4⟩ := hrel
          go_wp2_with go_in
          go_loopw [14] (fun i wx => i = .int .i64 0 ∧ Fr [] w wx) (fun _ _ => 0)
          case atStart => exact ⟨rfl, f4⟩
          case round =>
            obtain ⟨rfl, f5⟩ := hrel
            go_wp2_with go_in
            go_ret
            exact ⟨rfl, f5⟩

theorem mk_flatParts (w : World) : (Instr.makeSlice 70 (.int .i64 0) (.int .i64 0)).run Try.prog w = .ok (.slice (some ⟨w.heap.size, 0, none⟩) 0 0) (w.alloc (.cells #[] 162)) := by kernel_rfl
set_option maxHeartbeats 2000000 in
set_option maxRecDepth 100000 in
theorem flatParts_nil (w : World) : Calls Try.prog 74 #[.slice none 0 0] w fun e w' => e = .returned (.bool true) ∧ Fr [] w w' := by
  have hmk := mk_flatParts
  go_enter Try.func74, Try.ntmps74
  go_wp2_with go_in
  go_loopw [3] (fun i wr => i = .int .i64 0 ∧ Fr [] w wr) (fun _ _ => 0)
  case atStart => exact ⟨rfl, Fr.refl _ _⟩
  case round =>
    obtain ⟨rfl, f1⟩ := hrel
    go_wp2_with go_in
    go_loopw [6] (fun i wx => i = .int .i64 0 ∧ Fr [] w wx) (fun _ _ => 0)
    case atStart => exact ⟨rfl, f1.alloc _⟩
    case round =>
      obtain ⟨rfl, f2⟩ := hrel
      go_wp2_with go_in
      go_loopw [9] (fun i wx => i = .int .i64 0 ∧ Fr [] w wx) (fun _ _ => 0)
      case atStart => exact ⟨rfl, f2⟩
      case round =>
        obtain ⟨rfl, f3⟩ := hrel
        go_wp2_with go_in
        go_loopw [11] (fun i wx => i = .int .i64 0 ∧ Fr [] w wx) (fun _ _ => 0)
        case atStart => exact ⟨rfl, f3⟩
        case round =>
          obtain ⟨rfl, f4⟩ := hrel
          go_wp2_with go_in
          go_loopw [14] (fun i wx => i = .int .i64 0 ∧ Fr [] w wx) (fun _ _ => 0)
          case atStart => exact ⟨rfl, f4⟩
          case round =>
            obtain ⟨rfl, f5⟩ := hrel
            go_wp2_with go_in
            go_ret
            exact ⟨rfl, f5⟩

theorem mk_flatCommands (w : World) : (Instr.makeSlice 71 (.int .i64 0) (.int .i64 0)).run Try.prog w = .ok (.slice (some ⟨w.heap.size, 0, none⟩) 0 0) (w.alloc (.cells #[] 168)) := by kernel_rfl
set_option maxHeartbeats 2000000 in
set_option maxRecDepth 100000 in
theorem flatCommands_nil (w : World) : Calls Try.prog 75 #[.slice none 0 0] w fun e w' => e = .returned (.bool true) ∧ Fr [] w w' := by
  have hmk := mk_flatCommands
  go_enter Try.func75, Try.ntmps75
  go_wp2_with go_in
  go_loopw [3] (fun i wr => i = .int .i64 0 ∧ Fr [] w wr) (fun _ _ => 0)
  case atStart => exact ⟨rfl, Fr.refl _ _⟩
  case round =>
    obtain ⟨rfl, f1⟩ := hrel
    go_wp2_with go_in
    go_loopw [6] (fun i wx => i = .int .i64 0 ∧ Fr [] w wx) (fun _ _ => 0)
    case atStart => exact ⟨rfl, f1.alloc _⟩
    case round =>
      obtain ⟨rfl, f2⟩ := hrel
      go_wp2_with go_in
      go_loopw [9] (fun i wx => i = .int .i64 0 ∧ Fr [] w wx) (fun _ _ => 0)
      case atStart => exact ⟨rfl, f2⟩
      case round =>
        obtain ⟨rfl, f3⟩ := hrel
        go_wp2_with go_in
        go_loopw [11] (fun i wx => i = .int .i64 0 ∧ Fr [] w wx) (fun _ _ => 0)
        case atStart => exact ⟨rfl, f3⟩
        case round =>
          obtain ⟨rfl, f4⟩ := hrel
          go_wp2_with go_in
          go_loopw [14] (fun i wx => i = .int .i64 0 ∧ Fr [] w wx) (fun _ _ => 0)
          case atStart => exact ⟨rfl, f4⟩
          case round =>
            obtain ⟨rfl, f5⟩ := hrel
            go_wp2_with go_in
            go_ret
            exact ⟨rfl, f5⟩

end Go.Proofs.Ytlfpoeimgoikkaa.Ab
