/-
  The kit's lists that are held apart: at no lists each of the flat functions answers true.
-/
import Derived.Test.YtplboeplknggbaaGreatAbBase
namespace Go.Proofs.YtplboeplknggbaaGreat.Ab
open Go.RowKit

theorem mk_flatWords (w : World) : (Instr.makeSlice 132 (.int .i64 0) (.int .i64 0)).run Tryz.prog w = .ok (.slice (some ⟨w.heap.size, 0, none⟩) 0 0) (w.alloc (.cells #[] 210)) := by kernel_rfl
set_option maxHeartbeats 2000000 in
set_option maxRecDepth 100000 in
theorem flatWords_nil (w : World) : Calls Tryz.prog 97 #[.slice none 0 0] w fun e w' => e = .returned (.bool true) ∧ Fr [] w w' := by
  have hmk := mk_flatWords
  go_enter Tryz.func97, Tryz.ntmps97
  go_wp2_with go_in
  go_loopw [3] (fun i wr => i = .int .i64 0 ∧ Fr [] w wr) (fun _ _ => 0)
  case atStart => exact ⟨rfl, Fr.refl _ _⟩
  case round =>
    obtain ⟨rfl, f1⟩ := hrel
    go_wp2_with go_in
    go_loopw [6] (fun i wx => i = .int .i64 0 ∧ Fr [] w wx) (fun _ _ => 0)
    case atStart => exact ⟨rfl, f1.alloc _⟩
    case round =>
      obtain ⟨rfl, f2⟩ := hrel
      go_wp2_with go_in
      go_loopw [9] (fun i wx => i = .int .i64 0 ∧ Fr [] w wx) (fun _ _ => 0)
      case atStart => exact ⟨rfl, f2⟩
      case round =>
        obtain ⟨rfl, f3⟩ := hrel
        go_wp2_with go_in
        go_loopw [11] (fun i wx => i = .int .i64 0 ∧ Fr [] w wx) (fun _ _ => 0)
        case atStart => exact ⟨rfl, f3⟩
        case round =>
          obtain ⟨rfl, f4⟩ := hrel
          go_wp2_with go_in
          go_loopw [14] (fun i wx => i = .int .i64 0 ∧ Fr [] w wx) (fun _ _ => 0)
          case atStart => exact ⟨rfl, f4⟩
          case round =>
            obtain ⟨rfl, f5⟩ := hrel
            go_wp2_with go_in
            go_ret
            exact ⟨rfl, f5⟩

theorem mk_flatInts (w : World) : (Instr.makeSlice 133 (.int .i64 0) (.int .i64 0)).run Tryz.prog w = .ok (.slice (some ⟨w.heap.size, 0, none⟩) 0 0) (w.alloc (.cells #[] 33)) := by kernel_rfl
set_option maxHeartbeats 2000000 in
set_option maxRecDepth 100000 in
theorem flatInts_nil (w : World) : Calls Tryz.prog 98 #[.slice none 0 0] w fun e w' => e = .returned (.bool true) ∧ Fr [] w w' := by
  have hmk := mk_flatInts
  go_enter Tryz.func98, Tryz.ntmps98
  go_wp2_with go_in
  go_loopw [3] (fun i wr => i = .int .i64 0 ∧ Fr [] w wr) (fun _ _ => 0)
  case atStart => exact ⟨rfl, Fr.refl _ _⟩
  case round =>
    obtain ⟨rfl, f1⟩ := hrel
    go_wp2_with go_in
    go_loopw [6] (fun i wx => i = .int .i64 0 ∧ Fr [] w wx) (fun _ _ => 0)
    case atStart => exact ⟨rfl, f1.alloc _⟩
    case round =>
      obtain ⟨rfl, f2⟩ := hrel
      go_wp2_with go_in
      go_loopw [9] (fun i wx => i = .int .i64 0 ∧ Fr [] w wx) (fun _ _ => 0)
      case atStart => exact ⟨rfl, f2⟩
      case round =>
        obtain ⟨rfl, f3⟩ := hrel
        go_wp2_with go_in
        go_loopw [11] (fun i wx => i = .int .i64 0 ∧ Fr [] w wx) (fun _ _ => 0)
        case atStart => exact ⟨rfl, f3⟩
        case round =>
          obtain ⟨rfl, f4⟩ := hrel
          go_wp2_with go_in
          go_loopw [14] (fun i wx => i = .int .i64 0 ∧ Fr [] w wx) (fun _ _ => 0)
          case atStart => exact ⟨rfl, f4⟩
          case round =>
            obtain ⟨rfl, f5⟩ := hrel
            go_wp2_with go_in
            go_ret
            exact ⟨rfl, f5⟩

theorem mk_flatLongs (w : World) : (Instr.makeSlice 134 (.int .i64 0) (.int .i64 0)).run Tryz.prog w = .ok (.slice (some ⟨w.heap.size, 0, none⟩) 0 0) (w.alloc (.cells #[] 111)) := by kernel_rfl
set_option maxHeartbeats 2000000 in
set_option maxRecDepth 100000 in
theorem flatLongs_nil (w : World) : Calls Tryz.prog 99 #[.slice none 0 0] w fun e w' => e = .returned (.bool true) ∧ Fr [] w w' := by
  have hmk := mk_flatLongs
  go_enter Tryz.func99, Tryz.ntmps99
  go_wp2_with go_in
  go_loopw [3] (fun i wr => i = .int .i64 0 ∧ Fr [] w wr) (fun _ _ => 0)
  case atStart => exact ⟨rfl, Fr.refl _ _⟩
  case round =>
    obtain ⟨rfl, f1⟩ := hrel
    go_wp2_with go_in
    go_loopw [6] (fun i wx => i = .int .i64 0 ∧ Fr [] w wx) (fun _ _ => 0)
    case atStart => exact ⟨rfl, f1.alloc _⟩
    case round =>
      obtain ⟨rfl, f2⟩ := hrel
      go_wp2_with go_in
      go_loopw [9] (fun i wx => i = .int .i64 0 ∧ Fr [] w wx) (fun _ _ => 0)
      case atStart => exact ⟨rfl, f2⟩
      case round =>
        obtain ⟨rfl, f3⟩ := hrel
        go_wp2_with go_in
        go_loopw [11] (fun i wx => i = .int .i64 0 ∧ Fr [] w wx) (fun _ _ => 0)
        case atStart => exact ⟨rfl, f3⟩
        case round =>
          obtain ⟨rfl, f4⟩ := hrel
          go_wp2_with go_in
          go_loopw [14] (fun i wx => i = .int .i64 0 ∧ Fr [] w wx) (fun _ _ => 0)
          case atStart => exact ⟨rfl, f4⟩
          case round =>
            obtain ⟨rfl, f5⟩ := hrel
            go_wp2_with go_in
            go_ret
            exact ⟨rfl, f5⟩

theorem mk_flatTexts (w : World) : (Instr.makeSlice 135 (.int .i64 0) (.int .i64 0)).run Tryz.prog w = .ok (.slice (some ⟨w.heap.size, 0, none⟩) 0 0) (w.alloc (.cells #[] 211)) := by kernel_rfl
set_option maxHeartbeats 2000000 in
set_option maxRecDepth 100000 in
theorem flatTexts_nil (w : World) : Calls Tryz.prog 100 #[.slice none 0 0] w fun e w' => e = .returned (.bool true) ∧ Fr [] w w' := by
  have hmk := mk_flatTexts
  go_enter Tryz.func100, Tryz.ntmps100
  go_wp2_with go_in
  go_loopw [3] (fun i wr => i = .int .i64 0 ∧ Fr [] w wr) (fun _ _ => 0)
  case atStart => exact ⟨rfl, Fr.refl _ _⟩
  case round =>
    obtain ⟨rfl, f1⟩ := hrel
    go_wp2_with go_in
    go_loopw [6] (fun i wx => i = .int .i64 0 ∧ Fr [] w wx) (fun _ _ => 0)
    case atStart => exact ⟨rfl, f1.alloc _⟩
    case round =>
      obtain ⟨rfl, f2⟩ := hrel
      go_wp2_with go_in
      go_loopw [9] (fun i wx => i = .int .i64 0 ∧ Fr [] w wx) (fun _ _ => 0)
      case atStart => exact ⟨rfl, f2⟩
      case round =>
        obtain ⟨rfl, f3⟩ := hrel
        go_wp2_with go_in
        go_loopw [11] (fun i wx => i = .int .i64 0 ∧ Fr [] w wx) (fun _ _ => 0)
        case atStart => exact ⟨rfl, f3⟩
        case round =>
          obtain ⟨rfl, f4⟩ := hrel
          go_wp2_with go_in
          go_loopw [14] (fun i wx => i = .int .i64 0 ∧ Fr [] w wx) (fun _ _ => 0)
          case atStart => exact ⟨rfl, f4⟩
          case round =>
            obtain ⟨rfl, f5⟩ := hrel
            go_wp2_with go_in
            go_ret
            exact ⟨rfl, f5⟩

theorem mk_flatBytes (w : World) : (Instr.makeSlice 84 (.int .i64 0) (.int .i64 0)).run Tryz.prog w = .ok (.slice (some ⟨w.heap.size, 0, none⟩) 0 0) (w.alloc (.cells #[] 37)) := by kernel_rfl
set_option maxHeartbeats 2000000 in
set_option maxRecDepth 100000 in
theorem flatBytes_nil (w : World) : Calls Tryz.prog 101 #[.slice none 0 0] w fun e w' => e = .returned (.bool true) ∧ Fr [] w w' := by
  have hmk := mk_flatBytes
  go_enter Tryz.func101, Tryz.ntmps101
  go_wp2_with go_in
  go_loopw [3] (fun i wr => i = .int .i64 0 ∧ Fr [] w wr) (fun _ _ => 0)
  case atStart => exact ⟨rfl, Fr.refl _ _⟩
  case round =>
    obtain ⟨rfl, f1⟩ := hrel
    go_wp2_with go_in
    go_loopw [6] (fun i wx => i = .int .i64 0 ∧ Fr [] w wx) (fun _ _ => 0)
    case atStart => exact ⟨rfl, f1.alloc _⟩
    case round =>
      obtain ⟨rfl, f2⟩ := hrel
      go_wp2_with go_in
      go_loopw [9] (fun i wx => i = .int .i64 0 ∧ Fr [] w wx) (fun _ _ => 0)
      case atStart => exact ⟨rfl, f2⟩
      case round =>
        obtain ⟨rfl, f3⟩ := hrel
        go_wp2_with go_in
        go_loopw [11] (fun i wx => i = .int .i64 0 ∧ Fr [] w wx) (fun _ _ => 0)
        case atStart => exact ⟨rfl, f3⟩
        case round =>
          obtain ⟨rfl, f4⟩ := hrel
          go_wp2_with go_in
          go_loopw [14] (fun i wx => i = .int .i64 0 ∧ Fr [] w wx) (fun _ _ => 0)
          case atStart => exact ⟨rfl, f4⟩
          case round =>
            obtain ⟨rfl, f5⟩ := hrel
            go_wp2_with go_in
            go_ret
            exact ⟨rfl, f5⟩

theorem mk_flatNodes (w : World) : (Instr.makeSlice 136 (.int .i64 0) (.int .i64 0)).run Tryz.prog w = .ok (.slice (some ⟨w.heap.size, 0, none⟩) 0 0) (w.alloc (.cells #[] 213)) := by kernel_rfl
set_option maxHeartbeats 2000000 in
set_option maxRecDepth 100000 in
theorem flatNodes_nil (w : World) : Calls Tryz.prog 102 #[.slice none 0 0] w fun e w' => e = .returned (.bool true) ∧ Fr [] w w' := by
  have hmk := mk_flatNodes
  go_enter Tryz.func102, Tryz.ntmps102
  go_wp2_with go_in
  go_loopw [3] (fun i wr => i = .int .i64 0 ∧ Fr [] w wr) (fun _ _ => 0)
  case atStart => exact ⟨rfl, Fr.refl _ _⟩
  case round =>
    obtain ⟨rfl, f1⟩ := hrel
    go_wp2_with go_in
    go_loopw [6] (fun i wx => i = .int .i64 0 ∧ Fr [] w wx) (fun _ _ => 0)
    case atStart => exact ⟨rfl, f1.alloc _⟩
    case round =>
      obtain ⟨rfl, f2⟩ := hrel
      go_wp2_with go_in
      go_loopw [9] (fun i wx => i = .int .i64 0 ∧ Fr [] w wx) (fun _ _ => 0)
      case atStart => exact ⟨rfl, f2⟩
      case round =>
        obtain ⟨rfl, f3⟩ := hrel
        go_wp2_with go_in
        go_loopw [11] (fun i wx => i = .int .i64 0 ∧ Fr [] w wx) (fun _ _ => 0)
        case atStart => exact ⟨rfl, f3⟩
        case round =>
          obtain ⟨rfl, f4⟩ := hrel
          go_wp2_with go_in
          go_loopw [14] (fun i wx => i = .int .i64 0 ∧ Fr [] w wx) (fun _ _ => 0)
          case atStart => exact ⟨rfl, f4⟩
          case round =>
            obtain ⟨rfl, f5⟩ := hrel
            go_wp2_with go_in
            go_ret
            exact ⟨rfl, f5⟩

theorem mk_flatFates (w : World) : (Instr.makeSlice 137 (.int .i64 0) (.int .i64 0)).run Tryz.prog w = .ok (.slice (some ⟨w.heap.size, 0, none⟩) 0 0) (w.alloc (.cells #[] 69)) := by kernel_rfl
set_option maxHeartbeats 2000000 in
set_option maxRecDepth 100000 in
theorem flatFates_nil (w : World) : Calls Tryz.prog 103 #[.slice none 0 0] w fun e w' => e = .returned (.bool true) ∧ Fr [] w w' := by
  have hmk := mk_flatFates
  go_enter Tryz.func103, Tryz.ntmps103
  go_wp2_with go_in
  go_loopw [3] (fun i wr => i = .int .i64 0 ∧ Fr [] w wr) (fun _ _ => 0)
  case atStart => exact ⟨rfl, Fr.refl _ _⟩
  case round =>
    obtain ⟨rfl, f1⟩ := hrel
    go_wp2_with go_in
    go_loopw [6] (fun i wx => i = .int .i64 0 ∧ Fr [] w wx) (fun _ _ => 0)
    case atStart => exact ⟨rfl, f1.alloc _⟩
    case round =>
      obtain ⟨rfl, f2⟩ := hrel
      go_wp2_with go_in
      go_loopw [9] (fun i wx => i = .int .i64 0 ∧ Fr [] w wx) (fun _ _ => 0)
      case atStart => exact ⟨rfl, f2⟩
      case round =>
        obtain ⟨rfl, f3⟩ := hrel
        go_wp2_with go_in
        go_loopw [11] (fun i wx => i = .int .i64 0 ∧ Fr [] w wx) (fun _ _ => 0)
        case atStart => exact ⟨rfl, f3⟩
        case round =>
          obtain ⟨rfl, f4⟩ := hrel
          go_wp2_with go_in
          go_loopw [14] (fun i wx => i = .int .i64 0 ∧ Fr [] w wx) (fun _ _ => 0)
          case atStart => exact ⟨rfl, f4⟩
          case round =>
            obtain ⟨rfl, f5⟩ := hrel
            go_wp2_with go_in
            go_ret
            exact ⟨rfl, f5⟩

theorem mk_flatSpans (w : World) : (Instr.makeSlice 138 (.int .i64 0) (.int .i64 0)).run Tryz.prog w = .ok (.slice (some ⟨w.heap.size, 0, none⟩) 0 0) (w.alloc (.cells #[] 219)) := by kernel_rfl
set_option maxHeartbeats 2000000 in
set_option maxRecDepth 100000 in
theorem flatSpans_nil (w : World) : Calls Tryz.prog 104 #[.slice none 0 0] w fun e w' => e = .returned (.bool true) ∧ Fr [] w w' := by
  have hmk := mk_flatSpans
  go_enter Tryz.func104, Tryz.ntmps104
  go_wp2_with go_in
  go_loopw [3] (fun i wr => i = .int .i64 0 ∧ Fr [] w wr) (fun _ _ => 0)
  case atStart => exact ⟨rfl, Fr.refl _ _⟩
  case round =>
    obtain ⟨rfl, f1⟩ := hrel
    go_wp2_with go_in
    go_loopw [6] (fun i wx => i = .int .i64 0 ∧ Fr [] w wx) (fun _ _ => 0)
    case atStart => exact ⟨rfl, f1.alloc _⟩
    case round =>
      obtain ⟨rfl, f2⟩ := hrel
      go_wp2_with go_in
      go_loopw [9] (fun i wx => i = .int .i64 0 ∧ Fr [] w wx) (fun _ _ => 0)
      case atStart => exact ⟨rfl, f2⟩
      case round =>
        obtain ⟨rfl, f3⟩ := hrel
        go_wp2_with go_in
        go_loopw [11] (fun i wx => i = .int .i64 0 ∧ Fr [] w wx) (fun _ _ => 0)
        case atStart => exact ⟨rfl, f3⟩
        case round =>
          obtain ⟨rfl, f4⟩ := hrel
          go_wp2_with go_in
          go_loopw [14] (fun i wx => i = .int .i64 0 ∧ Fr [] w wx) (fun _ _ => 0)
          case atStart => exact ⟨rfl, f4⟩
          case round =>
            obtain ⟨rfl, f5⟩ := hrel
            go_wp2_with go_in
            go_ret
            exact ⟨rfl, f5⟩

theorem mk_flatDirties (w : World) : (Instr.makeSlice 139 (.int .i64 0) (.int .i64 0)).run Tryz.prog w = .ok (.slice (some ⟨w.heap.size, 0, none⟩) 0 0) (w.alloc (.cells #[] 47)) := by kernel_rfl
set_option maxHeartbeats 2000000 in
set_option maxRecDepth 100000 in
theorem flatDirties_nil (w : World) : Calls Tryz.prog 105 #[.slice none 0 0] w fun e w' => e = .returned (.bool true) ∧ Fr [] w w' := by
  have hmk := mk_flatDirties
  go_enter Tryz.func105, Tryz.ntmps105
  go_wp2_with go_in
  go_loopw [3] (fun i wr => i = .int .i64 0 ∧ Fr [] w wr) (fun _ _ => 0)
  case atStart => exact ⟨rfl, Fr.refl _ _⟩
  case round =>
    obtain ⟨rfl, f1⟩ := hrel
    go_wp2_with go_in
    go_loopw [6] (fun i wx => i = .int .i64 0 ∧ Fr [] w wx) (fun _ _ => 0)
    case atStart => exact ⟨rfl, f1.alloc _⟩
    case round =>
      obtain ⟨rfl, f2⟩ := hrel
      go_wp2_with go_in
      go_loopw [9] (fun i wx => i = .int .i64 0 ∧ Fr [] w wx) (fun _ _ => 0)
      case atStart => exact ⟨rfl, f2⟩
      case round =>
        obtain ⟨rfl, f3⟩ := hrel
        go_wp2_with go_in
        go_loopw [11] (fun i wx => i = .int .i64 0 ∧ Fr [] w wx) (fun _ _ => 0)
        case atStart => exact ⟨rfl, f3⟩
        case round =>
          obtain ⟨rfl, f4⟩ := hrel
          go_wp2_with go_in
          go_loopw [14] (fun i wx => i = .int .i64 0 ∧ Fr [] w wx) (fun _ _ => 0)
          case atStart => exact ⟨rfl, f4⟩
          case round =>
            obtain ⟨rfl, f5⟩ := hrel
            go_wp2_with go_in
            go_ret
            exact ⟨rfl, f5⟩

theorem mk_flatRecords (w : World) : (Instr.makeSlice 140 (.int .i64 0) (.int .i64 0)).run Tryz.prog w = .ok (.slice (some ⟨w.heap.size, 0, none⟩) 0 0) (w.alloc (.cells #[] 78)) := by kernel_rfl
set_option maxHeartbeats 2000000 in
set_option maxRecDepth 100000 in
theorem flatRecords_nil (w : World) : Calls Tryz.prog 106 #[.slice none 0 0] w fun e w' => e = .returned (.bool true) ∧ Fr [] w w' := by
  have hmk := mk_flatRecords
  go_enter Tryz.func106, Tryz.ntmps106
  go_wp2_with go_in
  go_loopw [3] (fun i wr => i = .int .i64 0 ∧ Fr [] w wr) (fun _ _ => 0)
  case atStart => exact ⟨rfl, Fr.refl _ _⟩
  case round =>
    obtain ⟨rfl, f1⟩ := hrel
    go_wp2_with go_in
    go_loopw [6] (fun i wx => i = .int .i64 0 ∧ Fr [] w wx) (fun _ _ => 0)
    case atStart => exact ⟨rfl, f1.alloc _⟩
    case round =>
      obtain ⟨rfl, f2⟩ := hrel
      go_wp2_with go_in
      go_loopw [9] (fun i wx => i = .int .i64 0 ∧ Fr [] w wx) (fun _ _ => 0)
      case atStart => exact ⟨rfl, f2⟩
      case round =>
        obtain ⟨rfl, f3⟩ := hrel
        go_wp2_with go_in
        go_loopw [11] (fun i wx => i = .int .i64 0 ∧ Fr [] w wx) (fun _ _ => 0)
        case atStart => exact ⟨rfl, f3⟩
        case round =>
          obtain ⟨rfl, f4⟩ := hrel
          go_wp2_with go_in
          go_loopw [14] (fun i wx => i = .int .i64 0 ∧ Fr [] w wx) (fun _ _ => 0)
          case atStart => exact ⟨rfl, f4⟩
          case round =>
            obtain ⟨rfl, f5⟩ := hrel
            go_wp2_with go_in
            go_ret
            exact ⟨rfl, f5⟩

theorem mk_flatCells (w : World) : (Instr.makeSlice 141 (.int .i64 0) (.int .i64 0)).run Tryz.prog w = .ok (.slice (some ⟨w.heap.size, 0, none⟩) 0 0) (w.alloc (.cells #[] 224)) := by kernel_rfl
set_option maxHeartbeats 2000000 in
set_option maxRecDepth 100000 in
theorem flatCells_nil (w : World) : Calls Tryz.prog 107 #[.slice none 0 0] w fun e w' => e = .returned (.bool true) ∧ Fr [] w w' := by
  have hmk := mk_flatCells
  go_enter Tryz.func107, Tryz.ntmps107
  go_wp2_with go_in
  go_loopw [3] (fun i wr => i = .int .i64 0 ∧ Fr [] w wr) (fun _ _ => 0)
  case atStart => exact ⟨rfl, Fr.refl _ _⟩
  case round =>
    obtain ⟨rfl, f1⟩ := hrel
    go_wp2_with go_in
    go_loopw [6] (fun i wx => i = .int .i64 0 ∧ Fr [] w wx) (fun _ _ => 0)
    case atStart => exact ⟨rfl, f1.alloc _⟩
    case round =>
      obtain ⟨rfl, f2⟩ := hrel
      go_wp2_with go_in
      go_loopw [9] (fun i wx => i = .int .i64 0 ∧ Fr [] w wx) (fun _ _ => 0)
      case atStart => exact ⟨rfl, f2⟩
      case round =>
        obtain ⟨rfl, f3⟩ := hrel
        go_wp2_with go_in
        go_loopw [11] (fun i wx => i = .int .i64 0 ∧ Fr [] w wx) (fun _ _ => 0)
        case atStart => exact ⟨rfl, f3⟩
        case round =>
          obtain ⟨rfl, f4⟩ := hrel
          go_wp2_with go_in
          go_loopw [14] (fun i wx => i = .int .i64 0 ∧ Fr [] w wx) (fun _ _ => 0)
          case atStart => exact ⟨rfl, f4⟩
          case round =>
            obtain ⟨rfl, f5⟩ := hrel
            go_wp2_with go_in
            go_ret
            exact ⟨rfl, f5⟩

theorem mk_flatHelds (w : World) : (Instr.makeSlice 142 (.int .i64 0) (.int .i64 0)).run Tryz.prog w = .ok (.slice (some ⟨w.heap.size, 0, none⟩) 0 0) (w.alloc (.cells #[] 229)) := by kernel_rfl
set_option maxHeartbeats 2000000 in
set_option maxRecDepth 100000 in
theorem flatHelds_nil (w : World) : Calls Tryz.prog 108 #[.slice none 0 0] w fun e w' => e = .returned (.bool true) ∧ Fr [] w w' := by
  have hmk := mk_flatHelds
  go_enter Tryz.func108, Tryz.ntmps108
  go_wp2_with go_in
  go_loopw [3] (fun i wr => i = .int .i64 0 ∧ Fr [] w wr) (fun _ _ => 0)
  case atStart => exact ⟨rfl, Fr.refl _ _⟩
  case round =>
    obtain ⟨rfl, f1⟩ := hrel
    go_wp2_with go_in
    go_loopw [6] (fun i wx => i = .int .i64 0 ∧ Fr [] w wx) (fun _ _ => 0)
    case atStart => exact ⟨rfl, f1.alloc _⟩
    case round =>
      obtain ⟨rfl, f2⟩ := hrel
      go_wp2_with go_in
      go_loopw [9] (fun i wx => i = .int .i64 0 ∧ Fr [] w wx) (fun _ _ => 0)
      case atStart => exact ⟨rfl, f2⟩
      case round =>
        obtain ⟨rfl, f3⟩ := hrel
        go_wp2_with go_in
        go_loopw [11] (fun i wx => i = .int .i64 0 ∧ Fr [] w wx) (fun _ _ => 0)
        case atStart => exact ⟨rfl, f3⟩
        case round =>
          obtain ⟨rfl, f4⟩ := hrel
          go_wp2_with go_in
          go_loopw [14] (fun i wx => i = .int .i64 0 ∧ Fr [] w wx) (fun _ _ => 0)
          case atStart => exact ⟨rfl, f4⟩
          case round =>
            obtain ⟨rfl, f5⟩ := hrel
            go_wp2_with go_in
            go_ret
            exact ⟨rfl, f5⟩

theorem mk_flatTokens (w : World) : (Instr.makeSlice 143 (.int .i64 0) (.int .i64 0)).run Tryz.prog w = .ok (.slice (some ⟨w.heap.size, 0, none⟩) 0 0) (w.alloc (.cells #[] 234)) := by kernel_rfl
set_option maxHeartbeats 2000000 in
set_option maxRecDepth 100000 in
theorem flatTokens_nil (w : World) : Calls Tryz.prog 109 #[.slice none 0 0] w fun e w' => e = .returned (.bool true) ∧ Fr [] w w' := by
  have hmk := mk_flatTokens
  go_enter Tryz.func109, Tryz.ntmps109
  go_wp2_with go_in
  go_loopw [3] (fun i wr => i = .int .i64 0 ∧ Fr [] w wr) (fun _ _ => 0)
  case atStart => exact ⟨rfl, Fr.refl _ _⟩
  case round =>
    obtain ⟨rfl, f1⟩ := hrel
    go_wp2_with go_in
    go_loopw [6] (fun i wx => i = .int .i64 0 ∧ Fr [] w wx) (fun _ _ => 0)
    case atStart => exact ⟨rfl, f1.alloc _⟩
    case round =>
      obtain ⟨rfl, f2⟩ := hrel
      go_wp2_with go_in
      go_loopw [9] (fun i wx => i = .int .i64 0 ∧ Fr [] w wx) (fun _ _ => 0)
      case atStart => exact ⟨rfl, f2⟩
      case round =>
        obtain ⟨rfl, f3⟩ := hrel
        go_wp2_with go_in
        go_loopw [11] (fun i wx => i = .int .i64 0 ∧ Fr [] w wx) (fun _ _ => 0)
        case atStart => exact ⟨rfl, f3⟩
        case round =>
          obtain ⟨rfl, f4⟩ := hrel
          go_wp2_with go_in
          go_loopw [14] (fun i wx => i = .int .i64 0 ∧ Fr [] w wx) (fun _ _ => 0)
          case atStart => exact ⟨rfl, f4⟩
          case round =>
            obtain ⟨rfl, f5⟩ := hrel
            go_wp2_with go_in
            go_ret
            exact ⟨rfl, f5⟩

theorem mk_flatExprs (w : World) : (Instr.makeSlice 144 (.int .i64 0) (.int .i64 0)).run Tryz.prog w = .ok (.slice (some ⟨w.heap.size, 0, none⟩) 0 0) (w.alloc (.cells #[] 239)) := by kernel_rfl
set_option maxHeartbeats 2000000 in
set_option maxRecDepth 100000 in
theorem flatExprs_nil (w : World) : Calls Tryz.prog 110 #[.slice none 0 0] w fun e w' => e = .returned (.bool true) ∧ Fr [] w w' := by
  have hmk := mk_flatExprs
  go_enter Tryz.func110, Tryz.ntmps110
  go_wp2_with go_in
  go_loopw [3] (fun i wr => i = .int .i64 0 ∧ Fr [] w wr) (fun _ _ => 0)
  case atStart => exact ⟨rfl, Fr.refl _ _⟩
  case round =>
    obtain ⟨rfl, f1⟩ := hrel
    go_wp2_with go_in
    go_loopw [6] (fun i wx => i = .int .i64 0 ∧ Fr [] w wx) (fun _ _ => 0)
    case atStart => exact ⟨rfl, f1.alloc _⟩
    case round =>
      obtain ⟨rfl, f2⟩ := hrel
      go_wp2_with go_in
      go_loopw [9] (fun i wx => i = .int .i64 0 ∧ Fr [] w wx) (fun _ _ => 0)
      case atStart => exact ⟨rfl, f2⟩
      case round =>
        obtain ⟨rfl, f3⟩ := hrel
        go_wp2_with go_in
        go_loopw [11] (fun i wx => i = .int .i64 0 ∧ Fr [] w wx) (fun _ _ => 0)
        case atStart => exact ⟨rfl, f3⟩
        case round =>
          obtain ⟨rfl, f4⟩ := hrel
          go_wp2_with go_in
          go_loopw [14] (fun i wx => i = .int .i64 0 ∧ Fr [] w wx) (fun _ _ => 0)
          case atStart => exact ⟨rfl, f4⟩
          case round =>
            obtain ⟨rfl, f5⟩ := hrel
            go_wp2_with go_in
            go_ret
            exact ⟨rfl, f5⟩

theorem mk_flatItems (w : World) : (Instr.makeSlice 145 (.int .i64 0) (.int .i64 0)).run Tryz.prog w = .ok (.slice (some ⟨w.heap.size, 0, none⟩) 0 0) (w.alloc (.cells #[] 247)) := by kernel_rfl
set_option maxHeartbeats 2000000 in
set_option maxRecDepth 100000 in
theorem flatItems_nil (w : World) : Calls Tryz.prog 111 #[.slice none 0 0] w fun e w' => e = .returned (.bool true) ∧ Fr [] w w' := by
  have hmk := mk_flatItems
  go_enter Tryz.func111, Tryz.ntmps111
  go_wp2_with go_in
  go_loopw [3] (fun i wr => i = .int .i64 0 ∧ Fr [] w wr) (fun _ _ => 0)
  case atStart => exact ⟨rfl, Fr.refl _ _⟩
  case round =>
    obtain ⟨rfl, f1⟩ := hrel
    go_wp2_with go_in
    go_loopw [6] (fun i wx => i = .int .i64 0 ∧ Fr [] w wx) (fun _ _ => 0)
    case atStart => exact ⟨rfl, f1.alloc _⟩
    case round =>
      obtain ⟨rfl, f2⟩ := hrel
      go_wp2_with go_in
      go_loopw [9] (fun i wx => i = .int .i64 0 ∧ Fr [] w wx) (fun _ _ => 0)
      case atStart => exact ⟨rfl, f2⟩
      case round =>
        obtain ⟨rfl, f3⟩ := hrel
        go_wp2_with go_in
        go_loopw [11] (fun i wx => i = .int .i64 0 ∧ Fr [] w wx) (fun _ _ => 0)
        case atStart => exact ⟨rfl, f3⟩
        case round =>
          obtain ⟨rfl, f4⟩ := hrel
          go_wp2_with go_in
          go_loopw [14] (fun i wx => i = .int .i64 0 ∧ Fr [] w wx) (fun _ _ => 0)
          case atStart => exact ⟨rfl, f4⟩
          case round =>
            obtain ⟨rfl, f5⟩ := hrel
            go_wp2_with go_in
            go_ret
            exact ⟨rfl, f5⟩

theorem mk_flatShowns (w : World) : (Instr.makeSlice 146 (.int .i64 0) (.int .i64 0)).run Tryz.prog w = .ok (.slice (some ⟨w.heap.size, 0, none⟩) 0 0) (w.alloc (.cells #[] 252)) := by kernel_rfl
set_option maxHeartbeats 2000000 in
set_option maxRecDepth 100000 in
theorem flatShowns_nil (w : World) : Calls Tryz.prog 112 #[.slice none 0 0] w fun e w' => e = .returned (.bool true) ∧ Fr [] w w' := by
  have hmk := mk_flatShowns
  go_enter Tryz.func112, Tryz.ntmps112
  go_wp2_with go_in
  go_loopw [3] (fun i wr => i = .int .i64 0 ∧ Fr [] w wr) (fun _ _ => 0)
  case atStart => exact ⟨rfl, Fr.refl _ _⟩
  case round =>
    obtain ⟨rfl, f1⟩ := hrel
    go_wp2_with go_in
    go_loopw [6] (fun i wx => i = .int .i64 0 ∧ Fr [] w wx) (fun _ _ => 0)
    case atStart => exact ⟨rfl, f1.alloc _⟩
    case round =>
      obtain ⟨rfl, f2⟩ := hrel
      go_wp2_with go_in
      go_loopw [9] (fun i wx => i = .int .i64 0 ∧ Fr [] w wx) (fun _ _ => 0)
      case atStart => exact ⟨rfl, f2⟩
      case round =>
        obtain ⟨rfl, f3⟩ := hrel
        go_wp2_with go_in
        go_loopw [11] (fun i wx => i = .int .i64 0 ∧ Fr [] w wx) (fun _ _ => 0)
        case atStart => exact ⟨rfl, f3⟩
        case round =>
          obtain ⟨rfl, f4⟩ := hrel
          go_wp2_with go_in
          go_loopw [14] (fun i wx => i = .int .i64 0 ∧ Fr [] w wx) (fun _ _ => 0)
          case atStart => exact ⟨rfl, f4⟩
          case round =>
            obtain ⟨rfl, f5⟩ := hrel
            go_wp2_with go_in
            go_ret
            exact ⟨rfl, f5⟩

theorem mk_flatParts (w : World) : (Instr.makeSlice 147 (.int .i64 0) (.int .i64 0)).run Tryz.prog w = .ok (.slice (some ⟨w.heap.size, 0, none⟩) 0 0) (w.alloc (.cells #[] 256)) := by kernel_rfl
set_option maxHeartbeats 2000000 in
set_option maxRecDepth 100000 in
theorem flatParts_nil (w : World) : Calls Tryz.prog 113 #[.slice none 0 0] w fun e w' => e = .returned (.bool true) ∧ Fr [] w w' := by
  have hmk := mk_flatParts
  go_enter Tryz.func113, Tryz.ntmps113
  go_wp2_with go_in
  go_loopw [3] (fun i wr => i = .int .i64 0 ∧ Fr [] w wr) (fun _ _ => 0)
  case atStart => exact ⟨rfl, Fr.refl _ _⟩
  case round =>
    obtain ⟨rfl, f1⟩ := hrel
    go_wp2_with go_in
    go_loopw [6] (fun i wx => i = .int .i64 0 ∧ Fr [] w wx) (fun _ _ => 0)
    case atStart => exact ⟨rfl, f1.alloc _⟩
    case round =>
      obtain ⟨rfl, f2⟩ := hrel
      go_wp2_with go_in
      go_loopw [9] (fun i wx => i = .int .i64 0 ∧ Fr [] w wx) (fun _ _ => 0)
      case atStart => exact ⟨rfl, f2⟩
      case round =>
        obtain ⟨rfl, f3⟩ := hrel
        go_wp2_with go_in
        go_loopw [11] (fun i wx => i = .int .i64 0 ∧ Fr [] w wx) (fun _ _ => 0)
        case atStart => exact ⟨rfl, f3⟩
        case round =>
          obtain ⟨rfl, f4⟩ := hrel
          go_wp2_with go_in
          go_loopw [14] (fun i wx => i = .int .i64 0 ∧ Fr [] w wx) (fun _ _ => 0)
          case atStart => exact ⟨rfl, f4⟩
          case round =>
            obtain ⟨rfl, f5⟩ := hrel
            go_wp2_with go_in
            go_ret
            exact ⟨rfl, f5⟩

theorem mk_flatCommands (w : World) : (Instr.makeSlice 148 (.int .i64 0) (.int .i64 0)).run Tryz.prog w = .ok (.slice (some ⟨w.heap.size, 0, none⟩) 0 0) (w.alloc (.cells #[] 262)) := by kernel_rfl
set_option maxHeartbeats 2000000 in
set_option maxRecDepth 100000 in
theorem flatCommands_nil (w : World) : Calls Tryz.prog 114 #[.slice none 0 0] w fun e w' => e = .returned (.bool true) ∧ Fr [] w w' := by
  have hmk := mk_flatCommands
  go_enter Tryz.func114, Tryz.ntmps114
  go_wp2_with go_in
  go_loopw [3] (fun i wr => i = .int .i64 0 ∧ Fr [] w wr) (fun _ _ => 0)
  case atStart => exact ⟨rfl, Fr.refl _ _⟩
  case round =>
    obtain ⟨rfl, f1⟩ := hrel
    go_wp2_with go_in
    go_loopw [6] (fun i wx => i = .int .i64 0 ∧ Fr [] w wx) (fun _ _ => 0)
    case atStart => exact ⟨rfl, f1.alloc _⟩
    case round =>
      obtain ⟨rfl, f2⟩ := hrel
      go_wp2_with go_in
      go_loopw [9] (fun i wx => i = .int .i64 0 ∧ Fr [] w wx) (fun _ _ => 0)
      case atStart => exact ⟨rfl, f2⟩
      case round =>
        obtain ⟨rfl, f3⟩ := hrel
        go_wp2_with go_in
        go_loopw [11] (fun i wx => i = .int .i64 0 ∧ Fr [] w wx) (fun _ _ => 0)
        case atStart => exact ⟨rfl, f3⟩
        case round =>
          obtain ⟨rfl, f4⟩ := hrel
          go_wp2_with go_in
          go_loopw [14] (fun i wx => i = .int .i64 0 ∧ Fr [] w wx) (fun _ _ => 0)
          case atStart => exact ⟨rfl, f4⟩
          case round =>
            obtain ⟨rfl, f5⟩ := hrel
            go_wp2_with go_in
            go_ret
            exact ⟨rfl, f5⟩

end Go.Proofs.YtplboeplknggbaaGreat.Ab
