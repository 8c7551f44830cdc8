/-
  The kit's lists that are held apart: at no lists each of the flat functions answers true.
-/
import Derived.Test.YthaekjolbjmjfaaDoorAbBase
namespace Go.Proofs.YthaekjolbjmjfaaDoor.Ab
open Go.RowKit

theorem mk_flatWords (w : World) : (Instr.makeSlice 53 (.int .i64 0) (.int .i64 0)).run Tryd.prog w = .ok (.slice (some ⟨w.heap.size, 0, none⟩) 0 0) (w.alloc (.cells #[] 103)) := by kernel_rfl
set_option maxHeartbeats 2000000 in
set_option maxRecDepth 100000 in
theorem flatWords_nil (w : World) : Calls Tryd.prog 37 #[.slice none 0 0] w fun e w' => e = .returned (.bool true) ∧ Fr [] w w' := by
  have hmk := mk_flatWords
  go_enter Tryd.func37, Tryd.ntmps37
  go_wp2_with go_in
  go_loopw [3] (fun i wr => i = .int .i64 0 ∧ Fr [] w wr) (fun _ _ => 0)
  case atStart => exact ⟨rfl, Fr.refl _ _⟩
  case round =>
    obtain ⟨rfl, f1⟩ := hrel
    go_wp2_with go_in
    go_loopw [6] (fun i wx => i = .int .i64 0 ∧ Fr [] w wx) (fun _ _ => 0)
    case atStart => exact ⟨rfl, f1.alloc _⟩
    case round =>
      obtain ⟨rfl, f2⟩ := hrel
      go_wp2_with go_in
      go_loopw [9] (fun i wx => i = .int .i64 0 ∧ Fr [] w wx) (fun _ _ => 0)
      case atStart => exact ⟨rfl, f2⟩
      case round =>
        obtain ⟨rfl, f3⟩ := hrel
        go_wp2_with go_in
        go_loopw [11] (fun i wx => i = .int .i64 0 ∧ Fr [] w wx) (fun _ _ => 0)
        case atStart => exact ⟨rfl, f3⟩
        case round =>
          obtain ⟨rfl, f4⟩ := hrel
          go_wp2_with go_in
          go_loopw [14] (fun i wx => i = .int .i64 0 ∧ Fr [] w wx) (fun _ _ => 0)
          case atStart => exact ⟨rfl, f4⟩
          case round =>
            obtain ⟨rfl, f5⟩ := hrel
            go_wp2_with go_in
            go_ret
            exact ⟨rfl, f5⟩

theorem mk_flatInts (w : World) : (Instr.makeSlice 54 (.int .i64 0) (.int .i64 0)).run Tryd.prog w = .ok (.slice (some ⟨w.heap.size, 0, none⟩) 0 0) (w.alloc (.cells #[] 104)) := by kernel_rfl
set_option maxHeartbeats 2000000 in
set_option maxRecDepth 100000 in
theorem flatInts_nil (w : World) : Calls Tryd.prog 38 #[.slice none 0 0] w fun e w' => e = .returned (.bool true) ∧ Fr [] w w' := by
  have hmk := mk_flatInts
  go_enter Tryd.func38, Tryd.ntmps38
  go_wp2_with go_in
  go_loopw [3] (fun i wr => i = .int .i64 0 ∧ Fr [] w wr) (fun _ _ => 0)
  case atStart => exact ⟨rfl, Fr.refl _ _⟩
  case round =>
    obtain ⟨rfl, f1⟩ := hrel
    go_wp2_with go_in
    go_loopw [6] (fun i wx => i = .int .i64 0 ∧ Fr [] w wx) (fun _ _ => 0)
    case atStart => exact ⟨rfl, f1.alloc _⟩
    case round =>
      obtain ⟨rfl, f2⟩ := hrel
      go_wp2_with go_in
      go_loopw [9] (fun i wx => i = .int .i64 0 ∧ Fr [] w wx) (fun _ _ => 0)
      case atStart => exact ⟨rfl, f2⟩
      case round =>
        obtain ⟨rfl, f3⟩ := hrel
        go_wp2_with go_in
        go_loopw [11] (fun i wx => i = .int .i64 0 ∧ Fr [] w wx) (fun _ _ => 0)
        case atStart => exact ⟨rfl, f3⟩
        case round =>
          obtain ⟨rfl, f4⟩ := hrel
          go_wp2_with go_in
          go_loopw [14] (fun i wx => i = .int .i64 0 ∧ Fr [] w wx) (fun _ _ => 0)
          case atStart => exact ⟨rfl, f4⟩
          case round =>
            obtain ⟨rfl, f5⟩ := hrel
            go_wp2_with go_in
            go_ret
            exact ⟨rfl, f5⟩

theorem mk_flatLongs (w : World) : (Instr.makeSlice 55 (.int .i64 0) (.int .i64 0)).run Tryd.prog w = .ok (.slice (some ⟨w.heap.size, 0, none⟩) 0 0) (w.alloc (.cells #[] 39)) := by kernel_rfl
set_option maxHeartbeats 2000000 in
set_option maxRecDepth 100000 in
theorem flatLongs_nil (w : World) : Calls Tryd.prog 39 #[.slice none 0 0] w fun e w' => e = .returned (.bool true) ∧ Fr [] w w' := by
  have hmk := mk_flatLongs
  go_enter Tryd.func39, Tryd.ntmps39
  go_wp2_with go_in
  go_loopw [3] (fun i wr => i = .int .i64 0 ∧ Fr [] w wr) (fun _ _ => 0)
  case atStart => exact ⟨rfl, Fr.refl _ _⟩
  case round =>
    obtain ⟨rfl, f1⟩ := hrel
    go_wp2_with go_in
    go_loopw [6] (fun i wx => i = .int .i64 0 ∧ Fr [] w wx) (fun _ _ => 0)
    case atStart => exact ⟨rfl, f1.alloc _⟩
    case round =>
      obtain ⟨rfl, f2⟩ := hrel
      go_wp2_with go_in
      go_loopw [9] (fun i wx => i = .int .i64 0 ∧ Fr [] w wx) (fun _ _ => 0)
      case atStart => exact ⟨rfl, f2⟩
      case round =>
        obtain ⟨rfl, f3⟩ := hrel
        go_wp2_with go_in
        go_loopw [11] (fun i wx => i = .int .i64 0 ∧ Fr [] w wx) (fun _ _ => 0)
        case atStart => exact ⟨rfl, f3⟩
        case round =>
          obtain ⟨rfl, f4⟩ := hrel
          go_wp2_with go_in
          go_loopw [14] (fun i wx => i = .int .i64 0 ∧ Fr [] w wx) (fun _ _ => 0)
          case atStart => exact ⟨rfl, f4⟩
          case round =>
            obtain ⟨rfl, f5⟩ := hrel
            go_wp2_with go_in
            go_ret
            exact ⟨rfl, f5⟩

theorem mk_flatTexts (w : World) : (Instr.makeSlice 56 (.int .i64 0) (.int .i64 0)).run Tryd.prog w = .ok (.slice (some ⟨w.heap.size, 0, none⟩) 0 0) (w.alloc (.cells #[] 40)) := by kernel_rfl
set_option maxHeartbeats 2000000 in
set_option maxRecDepth 100000 in
theorem flatTexts_nil (w : World) : Calls Tryd.prog 40 #[.slice none 0 0] w fun e w' => e = .returned (.bool true) ∧ Fr [] w w' := by
  have hmk := mk_flatTexts
  go_enter Tryd.func40, Tryd.ntmps40
  go_wp2_with go_in
  go_loopw [3] (fun i wr => i = .int .i64 0 ∧ Fr [] w wr) (fun _ _ => 0)
  case atStart => exact ⟨rfl, Fr.refl _ _⟩
  case round =>
    obtain ⟨rfl, f1⟩ := hrel
    go_wp2_with go_in
    go_loopw [6] (fun i wx => i = .int .i64 0 ∧ Fr [] w wx) (fun _ _ => 0)
    case atStart => exact ⟨rfl, f1.alloc _⟩
    case round =>
      obtain ⟨rfl, f2⟩ := hrel
      go_wp2_with go_in
      go_loopw [9] (fun i wx => i = .int .i64 0 ∧ Fr [] w wx) (fun _ _ => 0)
      case atStart => exact ⟨rfl, f2⟩
      case round =>
        obtain ⟨rfl, f3⟩ := hrel
        go_wp2_with go_in
        go_loopw [11] (fun i wx => i = .int .i64 0 ∧ Fr [] w wx) (fun _ _ => 0)
        case atStart => exact ⟨rfl, f3⟩
        case round =>
          obtain ⟨rfl, f4⟩ := hrel
          go_wp2_with go_in
          go_loopw [14] (fun i wx => i = .int .i64 0 ∧ Fr [] w wx) (fun _ _ => 0)
          case atStart => exact ⟨rfl, f4⟩
          case round =>
            obtain ⟨rfl, f5⟩ := hrel
            go_wp2_with go_in
            go_ret
            exact ⟨rfl, f5⟩

theorem mk_flatBytes (w : World) : (Instr.makeSlice 38 (.int .i64 0) (.int .i64 0)).run Tryd.prog w = .ok (.slice (some ⟨w.heap.size, 0, none⟩) 0 0) (w.alloc (.cells #[] 22)) := by kernel_rfl
set_option maxHeartbeats 2000000 in
set_option maxRecDepth 100000 in
theorem flatBytes_nil (w : World) : Calls Tryd.prog 41 #[.slice none 0 0] w fun e w' => e = .returned (.bool true) ∧ Fr [] w w' := by
  have hmk := mk_flatBytes
  go_enter Tryd.func41, Tryd.ntmps41
  go_wp2_with go_in
  go_loopw [3] (fun i wr => i = .int .i64 0 ∧ Fr [] w wr) (fun _ _ => 0)
  case atStart => exact ⟨rfl, Fr.refl _ _⟩
  case round =>
    obtain ⟨rfl, f1⟩ := hrel
    go_wp2_with go_in
    go_loopw [6] (fun i wx => i = .int .i64 0 ∧ Fr [] w wx) (fun _ _ => 0)
    case atStart => exact ⟨rfl, f1.alloc _⟩
    case round =>
      obtain ⟨rfl, f2⟩ := hrel
      go_wp2_with go_in
      go_loopw [9] (fun i wx => i = .int .i64 0 ∧ Fr [] w wx) (fun _ _ => 0)
      case atStart => exact ⟨rfl, f2⟩
      case round =>
        obtain ⟨rfl, f3⟩ := hrel
        go_wp2_with go_in
        go_loopw [11] (fun i wx => i = .int .i64 0 ∧ Fr [] w wx) (fun _ _ => 0)
        case atStart => exact ⟨rfl, f3⟩
        case round =>
          obtain ⟨rfl, f4⟩ := hrel
          go_wp2_with go_in
          go_loopw [14] (fun i wx => i = .int .i64 0 ∧ Fr [] w wx) (fun _ _ => 0)
          case atStart => exact ⟨rfl, f4⟩
          case round =>
            obtain ⟨rfl, f5⟩ := hrel
            go_wp2_with go_in
            go_ret
            exact ⟨rfl, f5⟩

theorem mk_flatNodes (w : World) : (Instr.makeSlice 57 (.int .i64 0) (.int .i64 0)).run Tryd.prog w = .ok (.slice (some ⟨w.heap.size, 0, none⟩) 0 0) (w.alloc (.cells #[] 106)) := by kernel_rfl
set_option maxHeartbeats 2000000 in
set_option maxRecDepth 100000 in
theorem flatNodes_nil (w : World) : Calls Tryd.prog 42 #[.slice none 0 0] w fun e w' => e = .returned (.bool true) ∧ Fr [] w w' := by
  have hmk := mk_flatNodes
  go_enter Tryd.func42, Tryd.ntmps42
  go_wp2_with go_in
  go_loopw [3] (fun i wr => i = .int .i64 0 ∧ Fr [] w wr) (fun _ _ => 0)
  case atStart => exact ⟨rfl, Fr.refl _ _⟩
  case round =>
    obtain ⟨rfl, f1⟩ := hrel
    go_wp2_with go_in
    go_loopw [6] (fun i wx => i = .int .i64 0 ∧ Fr [] w wx) (fun _ _ => 0)
    case atStart => exact ⟨rfl, f1.alloc _⟩
    case round =>
      obtain ⟨rfl, f2⟩ := hrel
      go_wp2_with go_in
      go_loopw [9] (fun i wx => i = .int .i64 0 ∧ Fr [] w wx) (fun _ _ => 0)
      case atStart => exact ⟨rfl, f2⟩
      case round =>
        obtain ⟨rfl, f3⟩ := hrel
        go_wp2_with go_in
        go_loopw [11] (fun i wx => i = .int .i64 0 ∧ Fr [] w wx) (fun _ _ => 0)
        case atStart => exact ⟨rfl, f3⟩
        case round =>
          obtain ⟨rfl, f4⟩ := hrel
          go_wp2_with go_in
          go_loopw [14] (fun i wx => i = .int .i64 0 ∧ Fr [] w wx) (fun _ _ => 0)
          case atStart => exact ⟨rfl, f4⟩
          case round =>
            obtain ⟨rfl, f5⟩ := hrel
            go_wp2_with go_in
            go_ret
            exact ⟨rfl, f5⟩

theorem mk_flatFates (w : World) : (Instr.makeSlice 58 (.int .i64 0) (.int .i64 0)).run Tryd.prog w = .ok (.slice (some ⟨w.heap.size, 0, none⟩) 0 0) (w.alloc (.cells #[] 111)) := by kernel_rfl
set_option maxHeartbeats 2000000 in
set_option maxRecDepth 100000 in
theorem flatFates_nil (w : World) : Calls Tryd.prog 43 #[.slice none 0 0] w fun e w' => e = .returned (.bool true) ∧ Fr [] w w' := by
  have hmk := mk_flatFates
  go_enter Tryd.func43, Tryd.ntmps43
  go_wp2_with go_in
  go_loopw [3] (fun i wr => i = .int .i64 0 ∧ Fr [] w wr) (fun _ _ => 0)
  case atStart => exact ⟨rfl, Fr.refl _ _⟩
  case round =>
    obtain ⟨rfl, f1⟩ := hrel
    go_wp2_with go_in
    go_loopw [6] (fun i wx => i = .int .i64 0 ∧ Fr [] w wx) (fun _ _ => 0)
    case atStart => exact ⟨rfl, f1.alloc _⟩
    case round =>
      obtain ⟨rfl, f2⟩ := hrel
      go_wp2_with go_in
      go_loopw [9] (fun i wx => i = .int .i64 0 ∧ Fr [] w wx) (fun _ _ => 0)
      case atStart => exact ⟨rfl, f2⟩
      case round =>
        obtain ⟨rfl, f3⟩ := hrel
        go_wp2_with go_in
        go_loopw [11] (fun i wx => i = .int .i64 0 ∧ Fr [] w wx) (fun _ _ => 0)
        case atStart => exact ⟨rfl, f3⟩
        case round =>
          obtain ⟨rfl, f4⟩ := hrel
          go_wp2_with go_in
          go_loopw [14] (fun i wx => i = .int .i64 0 ∧ Fr [] w wx) (fun _ _ => 0)
          case atStart => exact ⟨rfl, f4⟩
          case round =>
            obtain ⟨rfl, f5⟩ := hrel
            go_wp2_with go_in
            go_ret
            exact ⟨rfl, f5⟩

theorem mk_flatSpans (w : World) : (Instr.makeSlice 59 (.int .i64 0) (.int .i64 0)).run Tryd.prog w = .ok (.slice (some ⟨w.heap.size, 0, none⟩) 0 0) (w.alloc (.cells #[] 115)) := by kernel_rfl
set_option maxHeartbeats 2000000 in
set_option maxRecDepth 100000 in
theorem flatSpans_nil (w : World) : Calls Tryd.prog 44 #[.slice none 0 0] w fun e w' => e = .returned (.bool true) ∧ Fr [] w w' := by
  have hmk := mk_flatSpans
  go_enter Tryd.func44, Tryd.ntmps44
  go_wp2_with go_in
  go_loopw [3] (fun i wr => i = .int .i64 0 ∧ Fr [] w wr) (fun _ _ => 0)
  case atStart => exact ⟨rfl, Fr.refl _ _⟩
  case round =>
    obtain ⟨rfl, f1⟩ := hrel
    go_wp2_with go_in
    go_loopw [6] (fun i wx => i = .int .i64 0 ∧ Fr [] w wx) (fun _ _ => 0)
    case atStart => exact ⟨rfl, f1.alloc _⟩
    case round =>
      obtain ⟨rfl, f2⟩ := hrel
      go_wp2_with go_in
      go_loopw [9] (fun i wx => i = .int .i64 0 ∧ Fr [] w wx) (fun _ _ => 0)
      case atStart => exact ⟨rfl, f2⟩
      case round =>
        obtain ⟨rfl, f3⟩ := hrel
        go_wp2_with go_in
        go_loopw [11] (fun i wx => i = .int .i64 0 ∧ Fr [] w wx) (fun _ _ => 0)
        case atStart => exact ⟨rfl, f3⟩
        case round =>
          obtain ⟨rfl, f4⟩ := hrel
          go_wp2_with go_in
          go_loopw [14] (fun i wx => i = .int .i64 0 ∧ Fr [] w wx) (fun _ _ => 0)
          case atStart => exact ⟨rfl, f4⟩
          case round =>
            obtain ⟨rfl, f5⟩ := hrel
            go_wp2_with go_in
            go_ret
            exact ⟨rfl, f5⟩

theorem mk_flatDirties (w : World) : (Instr.makeSlice 60 (.int .i64 0) (.int .i64 0)).run Tryd.prog w = .ok (.slice (some ⟨w.heap.size, 0, none⟩) 0 0) (w.alloc (.cells #[] 120)) := by kernel_rfl
set_option maxHeartbeats 2000000 in
set_option maxRecDepth 100000 in
theorem flatDirties_nil (w : World) : Calls Tryd.prog 45 #[.slice none 0 0] w fun e w' => e = .returned (.bool true) ∧ Fr [] w w' := by
  have hmk := mk_flatDirties
  go_enter Tryd.func45, Tryd.ntmps45
  go_wp2_with go_in
  go_loopw [3] (fun i wr => i = .int .i64 0 ∧ Fr [] w wr) (fun _ _ => 0)
  case atStart => exact ⟨rfl, Fr.refl _ _⟩
  case round =>
    obtain ⟨rfl, f1⟩ := hrel
    go_wp2_with go_in
    go_loopw [6] (fun i wx => i = .int .i64 0 ∧ Fr [] w wx) (fun _ _ => 0)
    case atStart => exact ⟨rfl, f1.alloc _⟩
    case round =>
      obtain ⟨rfl, f2⟩ := hrel
      go_wp2_with go_in
      go_loopw [9] (fun i wx => i = .int .i64 0 ∧ Fr [] w wx) (fun _ _ => 0)
      case atStart => exact ⟨rfl, f2⟩
      case round =>
        obtain ⟨rfl, f3⟩ := hrel
        go_wp2_with go_in
        go_loopw [11] (fun i wx => i = .int .i64 0 ∧ Fr [] w wx) (fun _ _ => 0)
        case atStart => exact ⟨rfl, f3⟩
        case round =>
          obtain ⟨rfl, f4⟩ := hrel
          go_wp2_with go_in
          go_loopw [14] (fun i wx => i = .int .i64 0 ∧ Fr [] w wx) (fun _ _ => 0)
          case atStart => exact ⟨rfl, f4⟩
          case round =>
            obtain ⟨rfl, f5⟩ := hrel
            go_wp2_with go_in
            go_ret
            exact ⟨rfl, f5⟩

theorem mk_flatRecords (w : World) : (Instr.makeSlice 61 (.int .i64 0) (.int .i64 0)).run Tryd.prog w = .ok (.slice (some ⟨w.heap.size, 0, none⟩) 0 0) (w.alloc (.cells #[] 124)) := by kernel_rfl
set_option maxHeartbeats 2000000 in
set_option maxRecDepth 100000 in
theorem flatRecords_nil (w : World) : Calls Tryd.prog 46 #[.slice none 0 0] w fun e w' => e = .returned (.bool true) ∧ Fr [] w w' := by
  have hmk := mk_flatRecords
  go_enter Tryd.func46, Tryd.ntmps46
  go_wp2_with go_in
  go_loopw [3] (fun i wr => i = .int .i64 0 ∧ Fr [] w wr) (fun _ _ => 0)
  case atStart => exact ⟨rfl, Fr.refl _ _⟩
  case round =>
    obtain ⟨rfl, f1⟩ := hrel
    go_wp2_with go_in
    go_loopw [6] (fun i wx => i = .int .i64 0 ∧ Fr [] w wx) (fun _ _ => 0)
    case atStart => exact ⟨rfl, f1.alloc _⟩
    case round =>
      obtain ⟨rfl, f2⟩ := hrel
      go_wp2_with go_in
      go_loopw [9] (fun i wx => i = .int .i64 0 ∧ Fr [] w wx) (fun _ _ => 0)
      case atStart => exact ⟨rfl, f2⟩
      case round =>
        obtain ⟨rfl, f3⟩ := hrel
        go_wp2_with go_in
        go_loopw [11] (fun i wx => i = .int .i64 0 ∧ Fr [] w wx) (fun _ _ => 0)
        case atStart => exact ⟨rfl, f3⟩
        case round =>
          obtain ⟨rfl, f4⟩ := hrel
          go_wp2_with go_in
          go_loopw [14] (fun i wx => i = .int .i64 0 ∧ Fr [] w wx) (fun _ _ => 0)
          case atStart => exact ⟨rfl, f4⟩
          case round =>
            obtain ⟨rfl, f5⟩ := hrel
            go_wp2_with go_in
            go_ret
            exact ⟨rfl, f5⟩

theorem mk_flatCells (w : World) : (Instr.makeSlice 62 (.int .i64 0) (.int .i64 0)).run Tryd.prog w = .ok (.slice (some ⟨w.heap.size, 0, none⟩) 0 0) (w.alloc (.cells #[] 130)) := by kernel_rfl
set_option maxHeartbeats 2000000 in
set_option maxRecDepth 100000 in
theorem flatCells_nil (w : World) : Calls Tryd.prog 47 #[.slice none 0 0] w fun e w' => e = .returned (.bool true) ∧ Fr [] w w' := by
  have hmk := mk_flatCells
  go_enter Tryd.func47, Tryd.ntmps47
  go_wp2_with go_in
  go_loopw [3] (fun i wr => i = .int .i64 0 ∧ Fr [] w wr) (fun _ _ => 0)
  case atStart => exact ⟨rfl, Fr.refl _ _⟩
  case round =>
    obtain ⟨rfl, f1⟩ := hrel
    go_wp2_with go_in
    go_loopw [6] (fun i wx => i = .int .i64 0 ∧ Fr [] w wx) (fun _ _ => 0)
    case atStart => exact ⟨rfl, f1.alloc _⟩
    case round =>
      obtain ⟨rfl, f2⟩ := hrel
      go_wp2_with go_in
      go_loopw [9] (fun i wx => i = .int .i64 0 ∧ Fr [] w wx) (fun _ _ => 0)
      case atStart => exact ⟨rfl, f2⟩
      case round =>
        obtain ⟨rfl, f3⟩ := hrel
        go_wp2_with go_in
        go_loopw [11] (fun i wx => i = .int .i64 0 ∧ Fr [] w wx) (fun _ _ => 0)
        case atStart => exact ⟨rfl, f3⟩
        case round =>
          obtain ⟨rfl, f4⟩ := hrel
          go_wp2_with go_in
          go_loopw [14] (fun i wx => i = .int .i64 0 ∧ Fr [] w wx) (fun _ _ => 0)
          case atStart => exact ⟨rfl, f4⟩
          case round =>
            obtain ⟨rfl, f5⟩ := hrel
            go_wp2_with go_in
            go_ret
            exact ⟨rfl, f5⟩

theorem mk_flatHelds (w : World) : (Instr.makeSlice 63 (.int .i64 0) (.int .i64 0)).run Tryd.prog w = .ok (.slice (some ⟨w.heap.size, 0, none⟩) 0 0) (w.alloc (.cells #[] 135)) := by kernel_rfl
set_option maxHeartbeats 2000000 in
set_option maxRecDepth 100000 in
theorem flatHelds_nil (w : World) : Calls Tryd.prog 48 #[.slice none 0 0] w fun e w' => e = .returned (.bool true) ∧ Fr [] w w' := by
  have hmk := mk_flatHelds
  go_enter Tryd.func48, Tryd.ntmps48
  go_wp2_with go_in
  go_loopw [3] (fun i wr => i = .int .i64 0 ∧ Fr [] w wr) (fun _ _ => 0)
  case atStart => exact ⟨rfl, Fr.refl _ _⟩
  case round =>
    obtain ⟨rfl, f1⟩ := hrel
    go_wp2_with go_in
    go_loopw [6] (fun i wx => i = .int .i64 0 ∧ Fr [] w wx) (fun _ _ => 0)
    case atStart => exact ⟨rfl, f1.alloc _⟩
    case round =>
      obtain ⟨rfl, f2⟩ := hrel
      go_wp2_with go_in
      go_loopw [9] (fun i wx => i = .int .i64 0 ∧ Fr [] w wx) (fun _ _ => 0)
      case atStart => exact ⟨rfl, f2⟩
      case round =>
        obtain ⟨rfl, f3⟩ := hrel
        go_wp2_with go_in
        go_loopw [11] (fun i wx => i = .int .i64 0 ∧ Fr [] w wx) (fun _ _ => 0)
        case atStart => exact ⟨rfl, f3⟩
        case round =>
          obtain ⟨rfl, f4⟩ := hrel
          go_wp2_with go_in
          go_loopw [14] (fun i wx => i = .int .i64 0 ∧ Fr [] w wx) (fun _ _ => 0)
          case atStart => exact ⟨rfl, f4⟩
          case round =>
            obtain ⟨rfl, f5⟩ := hrel
            go_wp2_with go_in
            go_ret
            exact ⟨rfl, f5⟩

theorem mk_flatTokens (w : World) : (Instr.makeSlice 64 (.int .i64 0) (.int .i64 0)).run Tryd.prog w = .ok (.slice (some ⟨w.heap.size, 0, none⟩) 0 0) (w.alloc (.cells #[] 140)) := by kernel_rfl
set_option maxHeartbeats 2000000 in
set_option maxRecDepth 100000 in
theorem flatTokens_nil (w : World) : Calls Tryd.prog 49 #[.slice none 0 0] w fun e w' => e = .returned (.bool true) ∧ Fr [] w w' := by
  have hmk := mk_flatTokens
  go_enter Tryd.func49, Tryd.ntmps49
  go_wp2_with go_in
  go_loopw [3] (fun i wr => i = .int .i64 0 ∧ Fr [] w wr) (fun _ _ => 0)
  case atStart => exact ⟨rfl, Fr.refl _ _⟩
  case round =>
    obtain ⟨rfl, f1⟩ := hrel
    go_wp2_with go_in
    go_loopw [6] (fun i wx => i = .int .i64 0 ∧ Fr [] w wx) (fun _ _ => 0)
    case atStart => exact ⟨rfl, f1.alloc _⟩
    case round =>
      obtain ⟨rfl, f2⟩ := hrel
      go_wp2_with go_in
      go_loopw [9] (fun i wx => i = .int .i64 0 ∧ Fr [] w wx) (fun _ _ => 0)
      case atStart => exact ⟨rfl, f2⟩
      case round =>
        obtain ⟨rfl, f3⟩ := hrel
        go_wp2_with go_in
        go_loopw [11] (fun i wx => i = .int .i64 0 ∧ Fr [] w wx) (fun _ _ => 0)
        case atStart => exact ⟨rfl, f3⟩
        case round =>
          obtain ⟨rfl, f4⟩ := hrel
          go_wp2_with go_in
          go_loopw [14] (fun i wx => i = .int .i64 0 ∧ Fr [] w wx) (fun _ _ => 0)
          case atStart => exact ⟨rfl, f4⟩
          case round =>
            obtain ⟨rfl, f5⟩ := hrel
            go_wp2_with go_in
            go_ret
            exact ⟨rfl, f5⟩

theorem mk_flatExprs (w : World) : (Instr.makeSlice 65 (.int .i64 0) (.int .i64 0)).run Tryd.prog w = .ok (.slice (some ⟨w.heap.size, 0, none⟩) 0 0) (w.alloc (.cells #[] 145)) := by kernel_rfl
set_option maxHeartbeats 2000000 in
set_option maxRecDepth 100000 in
theorem flatExprs_nil (w : World) : Calls Tryd.prog 50 #[.slice none 0 0] w fun e w' => e = .returned (.bool true) ∧ Fr [] w w' := by
  have hmk := mk_flatExprs
  go_enter Tryd.func50, Tryd.ntmps50
  go_wp2_with go_in
  go_loopw [3] (fun i wr => i = .int .i64 0 ∧ Fr [] w wr) (fun _ _ => 0)
  case atStart => exact ⟨rfl, Fr.refl _ _⟩
  case round =>
    obtain ⟨rfl, f1⟩ := hrel
    go_wp2_with go_in
    go_loopw [6] (fun i wx => i = .int .i64 0 ∧ Fr [] w wx) (fun _ _ => 0)
    case atStart => exact ⟨rfl, f1.alloc _⟩
    case round =>
      obtain ⟨rfl, f2⟩ := hrel
      go_wp2_with go_in
      go_loopw [9] (fun i wx => i = .int .i64 0 ∧ Fr [] w wx) (fun _ _ => 0)
      case atStart => exact ⟨rfl, f2⟩
      case round =>
        obtain ⟨rfl, f3⟩ := hrel
        go_wp2_with go_in
        go_loopw [11] (fun i wx => i = .int .i64 0 ∧ Fr [] w wx) (fun _ _ => 0)
        case atStart => exact ⟨rfl, f3⟩
        case round =>
          obtain ⟨rfl, f4⟩ := hrel
          go_wp2_with go_in
          go_loopw [14] (fun i wx => i = .int .i64 0 ∧ Fr [] w wx) (fun _ _ => 0)
          case atStart => exact ⟨rfl, f4⟩
          case round =>
            obtain ⟨rfl, f5⟩ := hrel
            go_wp2_with go_in
            go_ret
            exact ⟨rfl, f5⟩

theorem mk_flatItems (w : World) : (Instr.makeSlice 66 (.int .i64 0) (.int .i64 0)).run Tryd.prog w = .ok (.slice (some ⟨w.heap.size, 0, none⟩) 0 0) (w.alloc (.cells #[] 153)) := by kernel_rfl
set_option maxHeartbeats 2000000 in
set_option maxRecDepth 100000 in
theorem flatItems_nil (w : World) : Calls Tryd.prog 51 #[.slice none 0 0] w fun e w' => e = .returned (.bool true) ∧ Fr [] w w' := by
  have hmk := mk_flatItems
  go_enter Tryd.func51, Tryd.ntmps51
  go_wp2_with go_in
  go_loopw [3] (fun i wr => i = .int .i64 0 ∧ Fr [] w wr) (fun _ _ => 0)
  case atStart => exact ⟨rfl, Fr.refl _ _⟩
  case round =>
    obtain ⟨rfl, f1⟩ := hrel
    go_wp2_with go_in
    go_loopw [6] (fun i wx => i = .int .i64 0 ∧ Fr [] w wx) (fun _ _ => 0)
    case atStart => exact ⟨rfl, f1.alloc _⟩
    case round =>
      obtain ⟨rfl, f2⟩ := hrel
      go_wp2_with go_in
      go_loopw [9] (fun i wx => i = .int .i64 0 ∧ Fr [] w wx) (fun _ _ => 0)
      case atStart => exact ⟨rfl, f2⟩
      case round =>
        obtain ⟨rfl, f3⟩ := hrel
        go_wp2_with go_in
        go_loopw [11] (fun i wx => i = .int .i64 0 ∧ Fr [] w wx) (fun _ _ => 0)
        case atStart => exact ⟨rfl, f3⟩
        case round =>
          obtain ⟨rfl, f4⟩ := hrel
          go_wp2_with go_in
          go_loopw [14] (fun i wx => i = .int .i64 0 ∧ Fr [] w wx) (fun _ _ => 0)
          case atStart => exact ⟨rfl, f4⟩
          case round =>
            obtain ⟨rfl, f5⟩ := hrel
            go_wp2_with go_in
            go_ret
            exact ⟨rfl, f5⟩

theorem mk_flatShowns (w : World) : (Instr.makeSlice 67 (.int .i64 0) (.int .i64 0)).run Tryd.prog w = .ok (.slice (some ⟨w.heap.size, 0, none⟩) 0 0) (w.alloc (.cells #[] 158)) := by kernel_rfl
set_option maxHeartbeats 2000000 in
set_option maxRecDepth 100000 in
theorem flatShowns_nil (w : World) : Calls Tryd.prog 52 #[.slice none 0 0] w fun e w' => e = .returned (.bool true) ∧ Fr [] w w' := by
  have hmk := mk_flatShowns
  go_enter Tryd.func52, Tryd.ntmps52
  go_wp2_with go_in
  go_loopw [3] (fun i wr => i = .int .i64 0 ∧ Fr [] w wr) (fun _ _ => 0)
  case atStart => exact ⟨rfl, Fr.refl _ _⟩
  case round =>
    obtain ⟨rfl, f1⟩ := hrel
    go_wp2_with go_in
    go_loopw [6] (fun i wx => i = .int .i64 0 ∧ Fr [] w wx) (fun _ _ => 0)
    case atStart => exact ⟨rfl, f1.alloc _⟩
    case round =>
      obtain ⟨rfl, f2⟩ := hrel
      go_wp2_with go_in
      go_loopw [9] (fun i wx => i = .int .i64 0 ∧ Fr [] w wx) (fun _ _ => 0)
      case atStart => exact ⟨rfl, f2⟩
      case round =>
        obtain ⟨rfl, f3⟩ := hrel
        go_wp2_with go_in
        go_loopw [11] (fun i wx => i = .int .i64 0 ∧ Fr [] w wx) (fun _ _ => 0)
        case atStart => exact ⟨rfl, f3⟩
        case round =>
          obtain ⟨rfl, f4⟩ := hrel
          go_wp2_with go_in
          go_loopw [14] (fun i wx => i = .int .i64 0 ∧ Fr [] w wx) (fun _ _ => 0)
          case atStart => exact ⟨rfl, f4⟩
          case round =>
            obtain ⟨rfl, f5⟩ := hrel
            go_wp2_with go_in
            go_ret
            exact ⟨rfl, f5⟩

theorem mk_flatParts (w : World) : (Instr.makeSlice 68 (.int .i64 0) (.int .i64 0)).run Tryd.prog w = .ok (.slice (some ⟨w.heap.size, 0, none⟩) 0 0) (w.alloc (.cells #[] 162)) := by kernel_rfl
set_option maxHeartbeats 2000000 in
set_option maxRecDepth 100000 in
theorem flatParts_nil (w : World) : Calls Tryd.prog 53 #[.slice none 0 0] w fun e w' => e = .returned (.bool true) ∧ Fr [] w w' := by
  have hmk := mk_flatParts
  go_enter Tryd.func53, Tryd.ntmps53
  go_wp2_with go_in
  go_loopw [3] (fun i wr => i = .int .i64 0 ∧ Fr [] w wr) (fun _ _ => 0)
  case atStart => exact ⟨rfl, Fr.refl _ _⟩
  case round =>
    obtain ⟨rfl, f1⟩ := hrel
    go_wp2_with go_in
    go_loopw [6] (fun i wx => i = .int .i64 0 ∧ Fr [] w wx) (fun _ _ => 0)
    case atStart => exact ⟨rfl, f1.alloc _⟩
    case round =>
      obtain ⟨rfl, f2⟩ := hrel
      go_wp2_with go_in
      go_loopw [9] (fun i wx => i = .int .i64 0 ∧ Fr [] w wx) (fun _ _ => 0)
      case atStart => exact ⟨rfl, f2⟩
      case round =>
        obtain ⟨rfl, f3⟩ := hrel
        go_wp2_with go_in
        go_loopw [11] (fun i wx => i = .int .i64 0 ∧ Fr [] w wx) (fun _ _ => 0)
        case atStart => exact ⟨rfl, f3⟩
        case round =>
          obtain ⟨rfl, f4⟩ := hrel
          go_wp2_with go_in
          go_loopw [14] (fun i wx => i = .int .i64 0 ∧ Fr [] w wx) (fun _ _ => 0)
          case atStart => exact ⟨rfl, f4⟩
          case round =>
            obtain ⟨rfl, f5⟩ := hrel
            go_wp2_with go_in
            go_ret
            exact ⟨rfl, f5⟩

theorem mk_flatCommands (w : World) : (Instr.makeSlice 69 (.int .i64 0) (.int .i64 0)).run Tryd.prog w = .ok (.slice (some ⟨w.heap.size, 0, none⟩) 0 0) (w.alloc (.cells #[] 168)) := by kernel_rfl
set_option maxHeartbeats 2000000 in
set_option maxRecDepth 100000 in
theorem flatCommands_nil (w : World) : Calls Tryd.prog 54 #[.slice none 0 0] w fun e w' => e = .returned (.bool true) ∧ Fr [] w w' := by
  have hmk := mk_flatCommands
  go_enter Tryd.func54, Tryd.ntmps54
  go_wp2_with go_in
  go_loopw [3] (fun i wr => i = .int .i64 0 ∧ Fr [] w wr) (fun _ _ => 0)
  case atStart => exact ⟨rfl, Fr.refl _ _⟩
  case round =>
    obtain ⟨rfl, f1⟩ := hrel
    go_wp2_with go_in
    go_loopw [6] (fun i wx => i = .int .i64 0 ∧ Fr [] w wx) (fun _ _ => 0)
    case atStart => exact ⟨rfl, f1.alloc _⟩
    case round =>
      obtain ⟨rfl, f2⟩ := hrel
      go_wp2_with go_in
      go_loopw [9] (fun i wx => i = .int .i64 0 ∧ Fr [] w wx) (fun _ _ => 0)
      case atStart => exact ⟨rfl, f2⟩
      case round =>
        obtain ⟨rfl, f3⟩ := hrel
        go_wp2_with go_in
        go_loopw [11] (fun i wx => i = .int .i64 0 ∧ Fr [] w wx) (fun _ _ => 0)
        case atStart => exact ⟨rfl, f3⟩
        case round =>
          obtain ⟨rfl, f4⟩ := hrel
          go_wp2_with go_in
          go_loopw [14] (fun i wx => i = .int .i64 0 ∧ Fr [] w wx) (fun _ _ => 0)
          case atStart => exact ⟨rfl, f4⟩
          case round =>
            obtain ⟨rfl, f5⟩ := hrel
            go_wp2_with go_in
            go_ret
            exact ⟨rfl, f5⟩

end Go.Proofs.YthaekjolbjmjfaaDoor.Ab
