/-
  The kit's lists that are held apart: at no lists each of the flat functions answers true.
-/
import Derived.Test.YtddcilmeignlmaaGreatDoorAbBase
namespace Go.Proofs.YtddcilmeignlmaaGreatDoor.Ab
open Go.RowKit

theorem mk_flatWords (w : World) : (Instr.makeSlice 72 (.int .i64 0) (.int .i64 0)).run Tryz.prog w = .ok (.slice (some ⟨w.heap.size, 0, none⟩) 0 0) (w.alloc (.cells #[] 148)) := by kernel_rfl
set_option maxHeartbeats 2000000 in
set_option maxRecDepth 100000 in
theorem flatWords_nil (w : World) : Calls Tryz.prog 72 #[.slice none 0 0] w fun e w' => e = .returned (.bool true) ∧ Fr [] w w' := by
  have hmk := mk_flatWords
  go_enter Tryz.func72, Tryz.ntmps72
  go_wp2_with go_in
  go_loopw [3] (fun i wr => i = .int .i64 0 ∧ Fr [] w wr) (fun _ _ => 0)
  case atStart => exact ⟨rfl, Fr.refl _ _⟩
  case round =>
    obtain ⟨rfl, f1⟩ := hrel
    go_wp2_with go_in
    go_loopw [6] (fun i wx => i = .int .i64 0 ∧ Fr [] w wx) (fun _ _ => 0)
    case atStart => exact ⟨rfl, f1.alloc _⟩
    case round =>
      obtain ⟨rfl, f2⟩ := hrel
      go_wp2_with go_in
      go_loopw [9] (fun i wx => i = .int .i64 0 ∧ Fr [] w wx) (fun _ _ => 0)
      case atStart => exact ⟨rfl, f2⟩
      case round =>
        obtain ⟨rfl, f3⟩ := hrel
        go_wp2_with go_in
        go_loopw [11] (fun i wx => i = .int .i64 0 ∧ Fr [] w wx) (fun _ _ => 0)
        case atStart => exact ⟨rfl, f3⟩
        case round =>
          obtain ⟨rfl, f4⟩ := hrel
          go_wp2_with go_in
          go_loopw [14] (fun i wx => i = .int .i64 0 ∧ Fr [] w wx) (fun _ _ => 0)
          case atStart => exact ⟨rfl, f4⟩
          case round =>
            obtain ⟨rfl, f5⟩ := hrel
            go_wp2_with go_in
            go_ret
            exact ⟨rfl, f5⟩

theorem mk_flatInts (w : World) : (Instr.makeSlice 73 (.int .i64 0) (.int .i64 0)).run Tryz.prog w = .ok (.slice (some ⟨w.heap.size, 0, none⟩) 0 0) (w.alloc (.cells #[] 149)) := by kernel_rfl
set_option maxHeartbeats 2000000 in
set_option maxRecDepth 100000 in
theorem flatInts_nil (w : World) : Calls Tryz.prog 73 #[.slice none 0 0] w fun e w' => e = .returned (.bool true) ∧ Fr [] w w' := by
  have hmk := mk_flatInts
  go_enter Tryz.func73, Tryz.ntmps73
  go_wp2_with go_in
  go_loopw [3] (fun i wr => i = .int .i64 0 ∧ Fr [] w wr) (fun _ _ => 0)
  case atStart => exact ⟨rfl, Fr.refl _ _⟩
  case round =>
    obtain ⟨rfl, f1⟩ := hrel
    go_wp2_with go_in
    go_loopw [6] (fun i wx => i = .int .i64 0 ∧ Fr [] w wx) (fun _ _ => 0)
    case atStart => exact ⟨rfl, f1.alloc _⟩
    case round =>
      obtain ⟨rfl, f2⟩ := hrel
      go_wp2_with go_in
      go_loopw [9] (fun i wx => i = .int .i64 0 ∧ Fr [] w wx) (fun _ _ => 0)
      case atStart => exact ⟨rfl, f2⟩
      case round =>
        obtain ⟨rfl, f3⟩ := hrel
        go_wp2_with go_in
        go_loopw [11] (fun i wx => i = .int .i64 0 ∧ Fr [] w wx) (fun _ _ => 0)
        case atStart => exact ⟨rfl, f3⟩
        case round =>
          obtain ⟨rfl, f4⟩ := hrel
          go_wp2_with go_in
          go_loopw [14] (fun i wx => i = .int .i64 0 ∧ Fr [] w wx) (fun _ _ => 0)
          case atStart => exact ⟨rfl, f4⟩
          case round =>
            obtain ⟨rfl, f5⟩ := hrel
            go_wp2_with go_in
            go_ret
            exact ⟨rfl, f5⟩

theorem mk_flatLongs (w : World) : (Instr.makeSlice 74 (.int .i64 0) (.int .i64 0)).run Tryz.prog w = .ok (.slice (some ⟨w.heap.size, 0, none⟩) 0 0) (w.alloc (.cells #[] 150)) := by kernel_rfl
set_option maxHeartbeats 2000000 in
set_option maxRecDepth 100000 in
theorem flatLongs_nil (w : World) : Calls Tryz.prog 74 #[.slice none 0 0] w fun e w' => e = .returned (.bool true) ∧ Fr [] w w' := by
  have hmk := mk_flatLongs
  go_enter Tryz.func74, Tryz.ntmps74
  go_wp2_with go_in
  go_loopw [3] (fun i wr => i = .int .i64 0 ∧ Fr [] w wr) (fun _ _ => 0)
  case atStart => exact ⟨rfl, Fr.refl _ _⟩
  case round =>
    obtain ⟨rfl, f1⟩ := hrel
    go_wp2_with go_in
    go_loopw [6] (fun i wx => i = .int .i64 0 ∧ Fr [] w wx) (fun _ _ => 0)
    case atStart => exact ⟨rfl, f1.alloc _⟩
    case round =>
      obtain ⟨rfl, f2⟩ := hrel
      go_wp2_with go_in
      go_loopw [9] (fun i wx => i = .int .i64 0 ∧ Fr [] w wx) (fun _ _ => 0)
      case atStart => exact ⟨rfl, f2⟩
      case round =>
        obtain ⟨rfl, f3⟩ := hrel
        go_wp2_with go_in
        go_loopw [11] (fun i wx => i = .int .i64 0 ∧ Fr [] w wx) (fun _ _ => 0)
        case atStart => exact ⟨rfl, f3⟩
        case round =>
          obtain ⟨rfl, f4⟩ := hrel
          go_wp2_with go_in
          go_loopw [14] (fun i wx => i = .int .i64 0 ∧ Fr [] w wx) (fun _ _ => 0)
          case atStart => exact ⟨rfl, f4⟩
          case round =>
            obtain ⟨rfl, f5⟩ := hrel
            go_wp2_with go_in
            go_ret
            exact ⟨rfl, f5⟩

theorem mk_flatTexts (w : World) : (Instr.makeSlice 75 (.int .i64 0) (.int .i64 0)).run Tryz.prog w = .ok (.slice (some ⟨w.heap.size, 0, none⟩) 0 0) (w.alloc (.cells #[] 49)) := by kernel_rfl
set_option maxHeartbeats 2000000 in
set_option maxRecDepth 100000 in
theorem flatTexts_nil (w : World) : Calls Tryz.prog 75 #[.slice none 0 0] w fun e w' => e = .returned (.bool true) ∧ Fr [] w w' := by
  have hmk := mk_flatTexts
  go_enter Tryz.func75, Tryz.ntmps75
  go_wp2_with go_in
  go_loopw [3] (fun i wr => i = .int .i64 0 ∧ Fr [] w wr) (fun _ _ => 0)
  case atStart => exact ⟨rfl, Fr.refl _ _⟩
  case round =>
    obtain ⟨rfl, f1⟩ := hrel
    go_wp2_with go_in
    go_loopw [6] (fun i wx => i = .int .i64 0 ∧ Fr [] w wx) (fun _ _ => 0)
    case atStart => exact ⟨rfl, f1.alloc _⟩
    case round =>
      obtain ⟨rfl, f2⟩ := hrel
      go_wp2_with go_in
      go_loopw [9] (fun i wx => i = .int .i64 0 ∧ Fr [] w wx) (fun _ _ => 0)
      case atStart => exact ⟨rfl, f2⟩
      case round =>
        obtain ⟨rfl, f3⟩ := hrel
        go_wp2_with go_in
        go_loopw [11] (fun i wx => i = .int .i64 0 ∧ Fr [] w wx) (fun _ _ => 0)
        case atStart => exact ⟨rfl, f3⟩
        case round =>
          obtain ⟨rfl, f4⟩ := hrel
          go_wp2_with go_in
          go_loopw [14] (fun i wx => i = .int .i64 0 ∧ Fr [] w wx) (fun _ _ => 0)
          case atStart => exact ⟨rfl, f4⟩
          case round =>
            obtain ⟨rfl, f5⟩ := hrel
            go_wp2_with go_in
            go_ret
            exact ⟨rfl, f5⟩

theorem mk_flatBytes (w : World) : (Instr.makeSlice 35 (.int .i64 0) (.int .i64 0)).run Tryz.prog w = .ok (.slice (some ⟨w.heap.size, 0, none⟩) 0 0) (w.alloc (.cells #[] 22)) := by kernel_rfl
set_option maxHeartbeats 2000000 in
set_option maxRecDepth 100000 in
theorem flatBytes_nil (w : World) : Calls Tryz.prog 76 #[.slice none 0 0] w fun e w' => e = .returned (.bool true) ∧ Fr [] w w' := by
  have hmk := mk_flatBytes
  go_enter Tryz.func76, Tryz.ntmps76
  go_wp2_with go_in
  go_loopw [3] (fun i wr => i = .int .i64 0 ∧ Fr [] w wr) (fun _ _ => 0)
  case atStart => exact ⟨rfl, Fr.refl _ _⟩
  case round =>
    obtain ⟨rfl, f1⟩ := hrel
    go_wp2_with go_in
    go_loopw [6] (fun i wx => i = .int .i64 0 ∧ Fr [] w wx) (fun _ _ => 0)
    case atStart => exact ⟨rfl, f1.alloc _⟩
    case round =>
      obtain ⟨rfl, f2⟩ := hrel
      go_wp2_with go_in
      go_loopw [9] (fun i wx => i = .int .i64 0 ∧ Fr [] w wx) (fun _ _ => 0)
      case atStart => exact ⟨rfl, f2⟩
      case round =>
        obtain ⟨rfl, f3⟩ := hrel
        go_wp2_with go_in
        go_loopw [11] (fun i wx => i = .int .i64 0 ∧ Fr [] w wx) (fun _ _ => 0)
        case atStart => exact ⟨rfl, f3⟩
        case round =>
          obtain ⟨rfl, f4⟩ := hrel
          go_wp2_with go_in
          go_loopw [14] (fun i wx => i = .int .i64 0 ∧ Fr [] w wx) (fun _ _ => 0)
          case atStart => exact ⟨rfl, f4⟩
          case round =>
            obtain ⟨rfl, f5⟩ := hrel
            go_wp2_with go_in
            go_ret
            exact ⟨rfl, f5⟩

theorem mk_flatNodes (w : World) : (Instr.makeSlice 76 (.int .i64 0) (.int .i64 0)).run Tryz.prog w = .ok (.slice (some ⟨w.heap.size, 0, none⟩) 0 0) (w.alloc (.cells #[] 151)) := by kernel_rfl
set_option maxHeartbeats 2000000 in
set_option maxRecDepth 100000 in
theorem flatNodes_nil (w : World) : Calls Tryz.prog 77 #[.slice none 0 0] w fun e w' => e = .returned (.bool true) ∧ Fr [] w w' := by
  have hmk := mk_flatNodes
  go_enter Tryz.func77, Tryz.ntmps77
  go_wp2_with go_in
  go_loopw [3] (fun i wr => i = .int .i64 0 ∧ Fr [] w wr) (fun _ _ => 0)
  case atStart => exact ⟨rfl, Fr.refl _ _⟩
  case round =>
    obtain ⟨rfl, f1⟩ := hrel
    go_wp2_with go_in
    go_loopw [6] (fun i wx => i = .int .i64 0 ∧ Fr [] w wx) (fun _ _ => 0)
    case atStart => exact ⟨rfl, f1.alloc _⟩
    case round =>
      obtain ⟨rfl, f2⟩ := hrel
      go_wp2_with go_in
      go_loopw [9] (fun i wx => i = .int .i64 0 ∧ Fr [] w wx) (fun _ _ => 0)
      case atStart => exact ⟨rfl, f2⟩
      case round =>
        obtain ⟨rfl, f3⟩ := hrel
        go_wp2_with go_in
        go_loopw [11] (fun i wx => i = .int .i64 0 ∧ Fr [] w wx) (fun _ _ => 0)
        case atStart => exact ⟨rfl, f3⟩
        case round =>
          obtain ⟨rfl, f4⟩ := hrel
          go_wp2_with go_in
          go_loopw [14] (fun i wx => i = .int .i64 0 ∧ Fr [] w wx) (fun _ _ => 0)
          case atStart => exact ⟨rfl, f4⟩
          case round =>
            obtain ⟨rfl, f5⟩ := hrel
            go_wp2_with go_in
            go_ret
            exact ⟨rfl, f5⟩

theorem mk_flatFates (w : World) : (Instr.makeSlice 77 (.int .i64 0) (.int .i64 0)).run Tryz.prog w = .ok (.slice (some ⟨w.heap.size, 0, none⟩) 0 0) (w.alloc (.cells #[] 156)) := by kernel_rfl
set_option maxHeartbeats 2000000 in
set_option maxRecDepth 100000 in
theorem flatFates_nil (w : World) : Calls Tryz.prog 78 #[.slice none 0 0] w fun e w' => e = .returned (.bool true) ∧ Fr [] w w' := by
  have hmk := mk_flatFates
  go_enter Tryz.func78, Tryz.ntmps78
  go_wp2_with go_in
  go_loopw [3] (fun i wr => i = .int .i64 0 ∧ Fr [] w wr) (fun _ _ => 0)
  case atStart => exact ⟨rfl, Fr.refl _ _⟩
  case round =>
    obtain ⟨rfl, f1⟩ := hrel
    go_wp2_with go_in
    go_loopw [6] (fun i wx => i = .int .i64 0 ∧ Fr [] w wx) (fun _ _ => 0)
    case atStart => exact ⟨rfl, f1.alloc _⟩
    case round =>
      obtain ⟨rfl, f2⟩ := hrel
      go_wp2_with go_in
      go_loopw [9] (fun i wx => i = .int .i64 0 ∧ Fr [] w wx) (fun _ _ => 0)
      case atStart => exact ⟨rfl, f2⟩
      case round =>
        obtain ⟨rfl, f3⟩ := hrel
        go_wp2_with go_in
        go_loopw [11] (fun i wx => i = .int .i64 0 ∧ Fr [] w wx) (fun _ _ => 0)
        case atStart => exact ⟨rfl, f3⟩
        case round =>
          obtain ⟨rfl, f4⟩ := hrel
          go_wp2_with go_in
          go_loopw [14] (fun i wx => i = .int .i64 0 ∧ Fr [] w wx) (fun _ _ => 0)
          case atStart => exact ⟨rfl, f4⟩
          case round =>
            obtain ⟨rfl, f5⟩ := hrel
            go_wp2_with go_in
            go_ret
            exact ⟨rfl, f5⟩

theorem mk_flatSpans (w : World) : (Instr.makeSlice 78 (.int .i64 0) (.int .i64 0)).run Tryz.prog w = .ok (.slice (some ⟨w.heap.size, 0, none⟩) 0 0) (w.alloc (.cells #[] 160)) := by kernel_rfl
set_option maxHeartbeats 2000000 in
set_option maxRecDepth 100000 in
theorem flatSpans_nil (w : World) : Calls Tryz.prog 79 #[.slice none 0 0] w fun e w' => e = .returned (.bool true) ∧ Fr [] w w' := by
  have hmk := mk_flatSpans
  go_enter Tryz.func79, Tryz.ntmps79
  go_wp2_with go_in
  go_loopw [3] (fun i wr => i = .int .i64 0 ∧ Fr [] w wr) (fun _ _ => 0)
  case atStart => exact ⟨rfl, Fr.refl _ _⟩
  case round =>
    obtain ⟨rfl, f1⟩ := hrel
    go_wp2_with go_in
    go_loopw [6] (fun i wx => i = .int .i64 0 ∧ Fr [] w wx) (fun _ _ => 0)
    case atStart => exact ⟨rfl, f1.alloc _⟩
    case round =>
      obtain ⟨rfl, f2⟩ := hrel
      go_wp2_with go_in
      go_loopw [9] (fun i wx => i = .int .i64 0 ∧ Fr [] w wx) (fun _ _ => 0)
      case atStart => exact ⟨rfl, f2⟩
      case round =>
        obtain ⟨rfl, f3⟩ := hrel
        go_wp2_with go_in
        go_loopw [11] (fun i wx => i = .int .i64 0 ∧ Fr [] w wx) (fun _ _ => 0)
        case atStart => exact ⟨rfl, f3⟩
        case round =>
          obtain ⟨rfl, f4⟩ := hrel
          go_wp2_with go_in
          go_loopw [14] (fun i wx => i = .int .i64 0 ∧ Fr [] w wx) (fun _ _ => 0)
          case atStart => exact ⟨rfl, f4⟩
          case round =>
            obtain ⟨rfl, f5⟩ := hrel
            go_wp2_with go_in
            go_ret
            exact ⟨rfl, f5⟩

theorem mk_flatDirties (w : World) : (Instr.makeSlice 79 (.int .i64 0) (.int .i64 0)).run Tryz.prog w = .ok (.slice (some ⟨w.heap.size, 0, none⟩) 0 0) (w.alloc (.cells #[] 165)) := by kernel_rfl
set_option maxHeartbeats 2000000 in
set_option maxRecDepth 100000 in
theorem flatDirties_nil (w : World) : Calls Tryz.prog 80 #[.slice none 0 0] w fun e w' => e = .returned (.bool true) ∧ Fr [] w w' := by
  have hmk := mk_flatDirties
  go_enter Tryz.func80, Tryz.ntmps80
  go_wp2_with go_in
  go_loopw [3] (fun i wr => i = .int .i64 0 ∧ Fr [] w wr) (fun _ _ => 0)
  case atStart => exact ⟨rfl, Fr.refl _ _⟩
  case round =>
    obtain ⟨rfl, f1⟩ := hrel
    go_wp2_with go_in
    go_loopw [6] (fun i wx => i = .int .i64 0 ∧ Fr [] w wx) (fun _ _ => 0)
    case atStart => exact ⟨rfl, f1.alloc _⟩
    case round =>
      obtain ⟨rfl, f2⟩ := hrel
      go_wp2_with go_in
      go_loopw [9] (fun i wx => i = .int .i64 0 ∧ Fr [] w wx) (fun _ _ => 0)
      case atStart => exact ⟨rfl, f2⟩
      case round =>
        obtain ⟨rfl, f3⟩ := hrel
        go_wp2_with go_in
        go_loopw [11] (fun i wx => i = .int .i64 0 ∧ Fr [] w wx) (fun _ _ => 0)
        case atStart => exact ⟨rfl, f3⟩
        case round =>
          obtain ⟨rfl, f4⟩ := hrel
          go_wp2_with go_in
          go_loopw [14] (fun i wx => i = .int .i64 0 ∧ Fr [] w wx) (fun _ _ => 0)
          case atStart => exact ⟨rfl, f4⟩
          case round =>
            obtain ⟨rfl, f5⟩ := hrel
            go_wp2_with go_in
            go_ret
            exact ⟨rfl, f5⟩

theorem mk_flatRecords (w : World) : (Instr.makeSlice 80 (.int .i64 0) (.int .i64 0)).run Tryz.prog w = .ok (.slice (some ⟨w.heap.size, 0, none⟩) 0 0) (w.alloc (.cells #[] 169)) := by kernel_rfl
set_option maxHeartbeats 2000000 in
set_option maxRecDepth 100000 in
theorem flatRecords_nil (w : World) : Calls Tryz.prog 81 #[.slice none 0 0] w fun e w' => e = .returned (.bool true) ∧ Fr [] w w' := by
  have hmk := mk_flatRecords
  go_enter Tryz.func81, Tryz.ntmps81
  go_wp2_with go_in
  go_loopw [3] (fun i wr => i = .int .i64 0 ∧ Fr [] w wr) (fun _ _ => 0)
  case atStart => exact ⟨rfl, Fr.refl _ _⟩
  case round =>
    obtain ⟨rfl, f1⟩ := hrel
    go_wp2_with go_in
    go_loopw [6] (fun i wx => i = .int .i64 0 ∧ Fr [] w wx) (fun _ _ => 0)
    case atStart => exact ⟨rfl, f1.alloc _⟩
    case round =>
      obtain ⟨rfl, f2⟩ := hrel
      go_wp2_with go_in
      go_loopw [9] (fun i wx => i = .int .i64 0 ∧ Fr [] w wx) (fun _ _ => 0)
      case atStart => exact ⟨rfl, f2⟩
      case round =>
        obtain ⟨rfl, f3⟩ := hrel
        go_wp2_with go_in
        go_loopw [11] (fun i wx => i = .int .i64 0 ∧ Fr [] w wx) (fun _ _ => 0)
        case atStart => exact ⟨rfl, f3⟩
        case round =>
          obtain ⟨rfl, f4⟩ := hrel
          go_wp2_with go_in
          go_loopw [14] (fun i wx => i = .int .i64 0 ∧ Fr [] w wx) (fun _ _ => 0)
          case atStart => exact ⟨rfl, f4⟩
          case round =>
            obtain ⟨rfl, f5⟩ := hrel
            go_wp2_with go_in
            go_ret
            exact ⟨rfl, f5⟩

theorem mk_flatCells (w : World) : (Instr.makeSlice 81 (.int .i64 0) (.int .i64 0)).run Tryz.prog w = .ok (.slice (some ⟨w.heap.size, 0, none⟩) 0 0) (w.alloc (.cells #[] 175)) := by kernel_rfl
set_option maxHeartbeats 2000000 in
set_option maxRecDepth 100000 in
theorem flatCells_nil (w : World) : Calls Tryz.prog 82 #[.slice none 0 0] w fun e w' => e = .returned (.bool true) ∧ Fr [] w w' := by
  have hmk := mk_flatCells
  go_enter Tryz.func82, Tryz.ntmps82
  go_wp2_with go_in
  go_loopw [3] (fun i wr => i = .int .i64 0 ∧ Fr [] w wr) (fun _ _ => 0)
  case atStart => exact ⟨rfl, Fr.refl _ _⟩
  case round =>
    obtain ⟨rfl, f1⟩ := hrel
    go_wp2_with go_in
    go_loopw [6] (fun i wx => i = .int .i64 0 ∧ Fr [] w wx) (fun _ _ => 0)
    case atStart => exact ⟨rfl, f1.alloc _⟩
    case round =>
      obtain ⟨rfl, f2⟩ := hrel
      go_wp2_with go_in
      go_loopw [9] (fun i wx => i = .int .i64 0 ∧ Fr [] w wx) (fun _ _ => 0)
      case atStart => exact ⟨rfl, f2⟩
      case round =>
        obtain ⟨rfl, f3⟩ := hrel
        go_wp2_with go_in
        go_loopw [11] (fun i wx => i = .int .i64 0 ∧ Fr [] w wx) (fun _ _ => 0)
        case atStart => exact ⟨rfl, f3⟩
        case round =>
          obtain ⟨rfl, f4⟩ := hrel
          go_wp2_with go_in
          go_loopw [14] (fun i wx => i = .int .i64 0 ∧ Fr [] w wx) (fun _ _ => 0)
          case atStart => exact ⟨rfl, f4⟩
          case round =>
            obtain ⟨rfl, f5⟩ := hrel
            go_wp2_with go_in
            go_ret
            exact ⟨rfl, f5⟩

theorem mk_flatHelds (w : World) : (Instr.makeSlice 82 (.int .i64 0) (.int .i64 0)).run Tryz.prog w = .ok (.slice (some ⟨w.heap.size, 0, none⟩) 0 0) (w.alloc (.cells #[] 180)) := by kernel_rfl
set_option maxHeartbeats 2000000 in
set_option maxRecDepth 100000 in
theorem flatHelds_nil (w : World) : Calls Tryz.prog 83 #[.slice none 0 0] w fun e w' => e = .returned (.bool true) ∧ Fr [] w w' := by
  have hmk := mk_flatHelds
  go_enter Tryz.func83, Tryz.ntmps83
  go_wp2_with go_in
  go_loopw [3] (fun i wr => i = .int .i64 0 ∧ Fr [] w wr) (fun _ _ => 0)
  case atStart => exact ⟨rfl, Fr.refl _ _⟩
  case round =>
    obtain ⟨rfl, f1⟩ := hrel
    go_wp2_with go_in
    go_loopw [6] (fun i wx => i = .int .i64 0 ∧ Fr [] w wx) (fun _ _ => 0)
    case atStart => exact ⟨rfl, f1.alloc _⟩
    case round =>
      obtain ⟨rfl, f2⟩ := hrel
      go_wp2_with go_in
      go_loopw [9] (fun i wx => i = .int .i64 0 ∧ Fr [] w wx) (fun _ _ => 0)
      case atStart => exact ⟨rfl, f2⟩
      case round =>
        obtain ⟨rfl, f3⟩ := hrel
        go_wp2_with go_in
        go_loopw [11] (fun i wx => i = .int .i64 0 ∧ Fr [] w wx) (fun _ _ => 0)
        case atStart => exact ⟨rfl, f3⟩
        case round =>
          obtain ⟨rfl, f4⟩ := hrel
          go_wp2_with go_in
          go_loopw [14] (fun i wx => i = .int .i64 0 ∧ Fr [] w wx) (fun _ _ => 0)
          case atStart => exact ⟨rfl, f4⟩
          case round =>
            obtain ⟨rfl, f5⟩ := hrel
            go_wp2_with go_in
            go_ret
            exact ⟨rfl, f5⟩

theorem mk_flatTokens (w : World) : (Instr.makeSlice 83 (.int .i64 0) (.int .i64 0)).run Tryz.prog w = .ok (.slice (some ⟨w.heap.size, 0, none⟩) 0 0) (w.alloc (.cells #[] 185)) := by kernel_rfl
set_option maxHeartbeats 2000000 in
set_option maxRecDepth 100000 in
theorem flatTokens_nil (w : World) : Calls Tryz.prog 84 #[.slice none 0 0] w fun e w' => e = .returned (.bool true) ∧ Fr [] w w' := by
  have hmk := mk_flatTokens
  go_enter Tryz.func84, Tryz.ntmps84
  go_wp2_with go_in
  go_loopw [3] (fun i wr => i = .int .i64 0 ∧ Fr [] w wr) (fun _ _ => 0)
  case atStart => exact ⟨rfl, Fr.refl _ _⟩
  case round =>
    obtain ⟨rfl, f1⟩ := hrel
    go_wp2_with go_in
    go_loopw [6] (fun i wx => i = .int .i64 0 ∧ Fr [] w wx) (fun _ _ => 0)
    case atStart => exact ⟨rfl, f1.alloc _⟩
    case round =>
      obtain ⟨rfl, f2⟩ := hrel
      go_wp2_with go_in
      go_loopw [9] (fun i wx => i = .int .i64 0 ∧ Fr [] w wx) (fun _ _ => 0)
      case atStart => exact ⟨rfl, f2⟩
      case round =>
        obtain ⟨rfl, f3⟩ := hrel
        go_wp2_with go_in
        go_loopw [11] (fun i wx => i = .int .i64 0 ∧ Fr [] w wx) (fun _ _ => 0)
        case atStart => exact ⟨rfl, f3⟩
        case round =>
          obtain ⟨rfl, f4⟩ := hrel
          go_wp2_with go_in
          go_loopw [14] (fun i wx => i = .int .i64 0 ∧ Fr [] w wx) (fun _ _ => 0)
          case atStart => exact ⟨rfl, f4⟩
          case round =>
            obtain ⟨rfl, f5⟩ := hrel
            go_wp2_with go_in
            go_ret
            exact ⟨rfl, f5⟩

theorem mk_flatExprs (w : World) : (Instr.makeSlice 84 (.int .i64 0) (.int .i64 0)).run Tryz.prog w = .ok (.slice (some ⟨w.heap.size, 0, none⟩) 0 0) (w.alloc (.cells #[] 190)) := by kernel_rfl
set_option maxHeartbeats 2000000 in
set_option maxRecDepth 100000 in
theorem flatExprs_nil (w : World) : Calls Tryz.prog 85 #[.slice none 0 0] w fun e w' => e = .returned (.bool true) ∧ Fr [] w w' := by
  have hmk := mk_flatExprs
  go_enter Tryz.func85, Tryz.ntmps85
  go_wp2_with go_in
  go_loopw [3] (fun i wr => i = .int .i64 0 ∧ Fr [] w wr) (fun _ _ => 0)
  case atStart => exact ⟨rfl, Fr.refl _ _⟩
  case round =>
    obtain ⟨rfl, f1⟩ := hrel
    go_wp2_with go_in
    go_loopw [6] (fun i wx => i = .int .i64 0 ∧ Fr [] w wx) (fun _ _ => 0)
    case atStart => exact ⟨rfl, f1.alloc _⟩
    case round =>
      obtain ⟨rfl, f2⟩ := hrel
      go_wp2_with go_in
      go_loopw [9] (fun i wx => i = .int .i64 0 ∧ Fr [] w wx) (fun _ _ => 0)
      case atStart => exact ⟨rfl, f2⟩
      case round =>
        obtain ⟨rfl, f3⟩ := hrel
        go_wp2_with go_in
        go_loopw [11] (fun i wx => i = .int .i64 0 ∧ Fr [] w wx) (fun _ _ => 0)
        case atStart => exact ⟨rfl, f3⟩
        case round =>
          obtain ⟨rfl, f4⟩ := hrel
          go_wp2_with go_in
          go_loopw [14] (fun i wx => i = .int .i64 0 ∧ Fr [] w wx) (fun _ _ => 0)
          case atStart => exact ⟨rfl, f4⟩
          case round =>
            obtain ⟨rfl, f5⟩ := hrel
            go_wp2_with go_in
            go_ret
            exact ⟨rfl, f5⟩

theorem mk_flatItems (w : World) : (Instr.makeSlice 85 (.int .i64 0) (.int .i64 0)).run Tryz.prog w = .ok (.slice (some ⟨w.heap.size, 0, none⟩) 0 0) (w.alloc (.cells #[] 198)) := by kernel_rfl
set_option maxHeartbeats 2000000 in
set_option maxRecDepth 100000 in
theorem flatItems_nil (w : World) : Calls Tryz.prog 86 #[.slice none 0 0] w fun e w' => e = .returned (.bool true) ∧ Fr [] w w' := by
  have hmk := mk_flatItems
  go_enter Tryz.func86, Tryz.ntmps86
  go_wp2_with go_in
  go_loopw [3] (fun i wr => i = .int .i64 0 ∧ Fr [] w wr) (fun _ _ => 0)
  case atStart => exact ⟨rfl, Fr.refl _ _⟩
  case round =>
    obtain ⟨rfl, f1⟩ := hrel
    go_wp2_with go_in
    go_loopw [6] (fun i wx => i = .int .i64 0 ∧ Fr [] w wx) (fun _ _ => 0)
    case atStart => exact ⟨rfl, f1.alloc _⟩
    case round =>
      obtain ⟨rfl, f2⟩ := hrel
      go_wp2_with go_in
      go_loopw [9] (fun i wx => i = .int .i64 0 ∧ Fr [] w wx) (fun _ _ => 0)
      case atStart => exact ⟨rfl, f2⟩
      case round =>
        obtain ⟨rfl, f3⟩ := hrel
        go_wp2_with go_in
        go_loopw [11] (fun i wx => i = .int .i64 0 ∧ Fr [] w wx) (fun _ _ => 0)
        case atStart => exact ⟨rfl, f3⟩
        case round =>
          obtain ⟨rfl, f4⟩ := hrel
          go_wp2_with go_in
          go_loopw [14] (fun i wx => i = .int .i64 0 ∧ Fr [] w wx) (fun _ _ => 0)
          case atStart => exact ⟨rfl, f4⟩
          case round =>
            obtain ⟨rfl, f5⟩ := hrel
            go_wp2_with go_in
            go_ret
            exact ⟨rfl, f5⟩

theorem mk_flatShowns (w : World) : (Instr.makeSlice 86 (.int .i64 0) (.int .i64 0)).run Tryz.prog w = .ok (.slice (some ⟨w.heap.size, 0, none⟩) 0 0) (w.alloc (.cells #[] 203)) := by kernel_rfl
set_option maxHeartbeats 2000000 in
set_option maxRecDepth 100000 in
theorem flatShowns_nil (w : World) : Calls Tryz.prog 87 #[.slice none 0 0] w fun e w' => e = .returned (.bool true) ∧ Fr [] w w' := by
  have hmk := mk_flatShowns
  go_enter Tryz.func87, Tryz.ntmps87
  go_wp2_with go_in
  go_loopw [3] (fun i wr => i = .int .i64 0 ∧ Fr [] w wr) (fun _ _ => 0)
  case atStart => exact ⟨rfl, Fr.refl _ _⟩
  case round =>
    obtain ⟨rfl, f1⟩ := hrel
    go_wp2_with go_in
    go_loopw [6] (fun i wx => i = .int .i64 0 ∧ Fr [] w wx) (fun _ _ => 0)
    case atStart => exact ⟨rfl, f1.alloc _⟩
    case round =>
      obtain ⟨rfl, f2⟩ := hrel
      go_wp2_with go_in
      go_loopw [9] (fun i wx => i = .int .i64 0 ∧ Fr [] w wx) (fun _ _ => 0)
      case atStart => exact ⟨rfl, f2⟩
      case round =>
        obtain ⟨rfl, f3⟩ := hrel
        go_wp2_with go_in
        go_loopw [11] (fun i wx => i = .int .i64 0 ∧ Fr [] w wx) (fun _ _ => 0)
        case atStart => exact ⟨rfl, f3⟩
        case round =>
          obtain ⟨rfl, f4⟩ := hrel
          go_wp2_with go_in
          go_loopw [14] (fun i wx => i = .int .i64 0 ∧ Fr [] w wx) (fun _ _ => 0)
          case atStart => exact ⟨rfl, f4⟩
          case round =>
            obtain ⟨rfl, f5⟩ := hrel
            go_wp2_with go_in
            go_ret
            exact ⟨rfl, f5⟩

theorem mk_flatParts (w : World) : (Instr.makeSlice 87 (.int .i64 0) (.int .i64 0)).run Tryz.prog w = .ok (.slice (some ⟨w.heap.size, 0, none⟩) 0 0) (w.alloc (.cells #[] 207)) := by kernel_rfl
set_option maxHeartbeats 2000000 in
set_option maxRecDepth 100000 in
theorem flatParts_nil (w : World) : Calls Tryz.prog 88 #[.slice none 0 0] w fun e w' => e = .returned (.bool true) ∧ Fr [] w w' := by
  have hmk := mk_flatParts
  go_enter Tryz.func88, Tryz.ntmps88
  go_wp2_with go_in
  go_loopw [3] (fun i wr => i = .int .i64 0 ∧ Fr [] w wr) (fun _ _ => 0)
  case atStart => exact ⟨rfl, Fr.refl _ _⟩
  case round =>
    obtain ⟨rfl, f1⟩ := hrel
    go_wp2_with go_in
    go_loopw [6] (fun i wx => i = .int .i64 0 ∧ Fr [] w wx) (fun _ _ => 0)
    case atStart => exact ⟨rfl, f1.alloc _⟩
    case round =>
      obtain ⟨rfl, f2⟩ := hrel
      go_wp2_with go_in
      go_loopw [9] (fun i wx => i = .int .i64 0 ∧ Fr [] w wx) (fun _ _ => 0)
      case atStart => exact ⟨rfl, f2⟩
      case round =>
        obtain ⟨rfl, f3⟩ := hrel
        go_wp2_with go_in
        go_loopw [11] (fun i wx => i = .int .i64 0 ∧ Fr [] w wx) (fun _ _ => 0)
        case atStart => exact ⟨rfl, f3⟩
        case round =>
          obtain ⟨rfl, f4⟩ := hrel
          go_wp2_with go_in
          go_loopw [14] (fun i wx => i = .int .i64 0 ∧ Fr [] w wx) (fun _ _ => 0)
          case atStart => exact ⟨rfl, f4⟩
          case round =>
            obtain ⟨rfl, f5⟩ := hrel
            go_wp2_with go_in
            go_ret
            exact ⟨rfl, f5⟩

theorem mk_flatCommands (w : World) : (Instr.makeSlice 88 (.int .i64 0) (.int .i64 0)).run Tryz.prog w = .ok (.slice (some ⟨w.heap.size, 0, none⟩) 0 0) (w.alloc (.cells #[] 213)) := by kernel_rfl
set_option maxHeartbeats 2000000 in
set_option maxRecDepth 100000 in
theorem flatCommands_nil (w : World) : Calls Tryz.prog 89 #[.slice none 0 0] w fun e w' => e = .returned (.bool true) ∧ Fr [] w w' := by
  have hmk := mk_flatCommands
  go_enter Tryz.func89, Tryz.ntmps89
  go_wp2_with go_in
  go_loopw [3] (fun i wr => i = .int .i64 0 ∧ Fr [] w wr) (fun _ _ => 0)
  case atStart => exact ⟨rfl, Fr.refl _ _⟩
  case round =>
    obtain ⟨rfl, f1⟩ := hrel
    go_wp2_with go_in
    go_loopw [6] (fun i wx => i = .int .i64 0 ∧ Fr [] w wx) (fun _ _ => 0)
    case atStart => exact ⟨rfl, f1.alloc _⟩
    case round =>
      obtain ⟨rfl, f2⟩ := hrel
      go_wp2_with go_in
      go_loopw [9] (fun i wx => i = .int .i64 0 ∧ Fr [] w wx) (fun _ _ => 0)
      case atStart => exact ⟨rfl, f2⟩
      case round =>
        obtain ⟨rfl, f3⟩ := hrel
        go_wp2_with go_in
        go_loopw [11] (fun i wx => i = .int .i64 0 ∧ Fr [] w wx) (fun _ _ => 0)
        case atStart => exact ⟨rfl, f3⟩
        case round =>
          obtain ⟨rfl, f4⟩ := hrel
          go_wp2_with go_in
          go_loopw [14] (fun i wx => i = .int .i64 0 ∧ Fr [] w wx) (fun _ _ => 0)
          case atStart => exact ⟨rfl, f4⟩
          case round =>
            obtain ⟨rfl, f5⟩ := hrel
            go_wp2_with go_in
            go_ret
            exact ⟨rfl, f5⟩

end Go.Proofs.YtddcilmeignlmaaGreatDoor.Ab
