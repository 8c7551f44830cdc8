/-
  The walk of DeviceNumbers.
-/
import Derived.Test.YtkenkgfohgmpnaaSecs
import Derived.Laws.MakeOwn
namespace Go.Proofs.Ytkenkgfohgmpnaa
open Go.RowKit Go.Maps

def made513 : Array Value := madeCells (Value.int .u8 0).cells 513
theorem info5 : (Try.prog.info? 5).map (fun i => (i.zero, i.size, i.bytes)) = some (some (.int .u8 0), 1, 1) := by kernel_rfl
theorem mk513 (w : World) : (Instr.makeSlice 38 (.int .i64 513) (.int .i64 513)).run Try.prog w = .ok (.slice (some ⟨w.heap.size, 0, none⟩) 513 513) (w.alloc (.cells made513 5)) := by
  have h := info5
  cases hi : Try.prog.info? 5 with
  | none => rw [hi] at h; cases h
  | some i =>
    rw [hi] at h
    simp at h
    obtain ⟨h1, h2, h3⟩ := h
    have := run_makeSlice (P := Try.prog) w 38 5 i (.int .u8 0) Try.underlying38 hi h1 .i64 .i64 513 513 (by omega) (by omega) (by rw [h2]; decide) (by rw [h3]; decide) (by omega)
    rw [this, h2]
    rfl

theorem torn_none (l m : List UInt8) (hl : l.length = 512) : tornTo l m 0 8 = l := by
  apply List.ext_getElem
  · rw [tornTo_length, hl]
  · intro i h1 h2
    simp [tornTo, bitOf, List.getElem?_eq_getElem h2]
theorem bit255 : ∀ s, s < 8 → bitOf 255 s = true := by decide
theorem torn_full (l m : List UInt8) (hm : m.length = 512) : tornTo l m 255 8 = m := by
  apply List.ext_getElem
  · rw [tornTo_length, hm]
  · intro i h1 h2
    have h8 : i / 64 < 8 := by rw [hm] at h2; omega
    simp [tornTo, h8, bit255 _ h8, List.getElem?_eq_getElem h2]

theorem nums_latest1 : latest (wokenAt Tab.none (Tab.put Tab.none 0 (fullL 1)) []) Tab.none 0 = zeros := by
  simp [latest, wokenAt, Tab.put, Tab.none, Tab.get, keepOf, torn_none zeros _ zeros_length]
theorem nums_latest2 (S : Tab) : latest (wokenAt S (Tab.put Tab.none 0 (fullL 1)) [(0, 1), (3, 2), (0, 255)]) Tab.none 0 = fullL 1 := by
  have hk : keepOf [(0, 1), (3, 2), (0, 255)] 0 = 255 := by decide
  simp [latest, wokenAt, Tab.put, Tab.none, Tab.get, hk, torn_full _ _ (fullL_length 1)]

theorem fates_three (w : World) : FatesAt (w.alloc (.cells #[.int .i64 0, .int .u8 1, .int .i64 3, .int .u8 2, .int .i64 0, .int .u8 255] 58)) (some ⟨w.heap.size, 0, none⟩) [(0, 1), (3, 2), (0, 255)] := by
  have hc := heap_alloc_new w (.cells #[.int .i64 0, .int .u8 1, .int .i64 3, .int .u8 2, .int .i64 0, .int .u8 255] 58)
  intro i f hf
  match i, hf with
  | 0, hf => simp at hf; subst hf; exact ⟨w.heap.size, 0, rfl, by rw [cell_of_row _ _ _ _ _ _ hc]; rfl, by rw [cell_of_row _ _ _ _ _ _ hc]; rfl, by decide, by omega, by omega⟩
  | 1, hf => simp at hf; subst hf; exact ⟨w.heap.size, 0, rfl, by rw [cell_of_row _ _ _ _ _ _ hc]; rfl, by rw [cell_of_row _ _ _ _ _ _ hc]; rfl, by decide, by omega, by omega⟩
  | 2, hf => simp at hf; subst hf; exact ⟨w.heap.size, 0, rfl, by rw [cell_of_row _ _ _ _ _ _ hc]; rfl, by rw [cell_of_row _ _ _ _ _ _ hc]; rfl, by decide, by omega, by omega⟩
  | n + 3, hf => simp at hf

set_option maxHeartbeats 4000000 in
set_option maxRecDepth 100000 in
theorem nums_law (w : World) : Calls Try.prog 6 #[] w fun e w' => e = .returned (.bool true) ∧ Fr [] w w' := by
  have h513 := mk513
  have h512 := mk512
  go_enter Try.func6, Try.ntmps6
  go_wp2_with fail
  refine (new_no (-1) _ (by omega)).mono ?_
  rintro e w ⟨rfl, rfl⟩
  go_wp2_with fail
  refine (new_no 65537 _ (by omega)).mono ?_
  rintro e w ⟨rfl, rfl⟩
  go_wp2_with fail
  refine (new_dev 65536 _ (by omega) (by omega)).mono ?_
  rintro e w1 ⟨rfl, d1, f1⟩
  go_wp2_with fail
  refine (blocks_dev d1).mono ?_
  rintro e w1 ⟨rfl, rfl⟩
  go_wp2_with fail
  refine (full_any _ 9 (by omega) (by omega)).mono ?_
  rintro e w2 ⟨rfl, b2, f2⟩
  have d2 := d1.kept f2 (by simp) (by simp) (by simp)
  go_wp2_with fail
  refine (write_dev d2 65535 (by omega) (by omega) _ 0 _ (fullL 9) (fullL_length 9) b2.src).mono ?_
  rw [show told (crash 0) = 0 from rfl, show left 0 = 0 from rfl, show crash 0 = false from rfl]
  rintro e w3 ⟨rfl, d3, f3⟩
  have f13 : Fr [] w w3 := (f1.trans f2).then f3 (fun i hi hm => by simp at hm; omega)
  clear d1 d2 b2 f1 f2 f3
  go_wp2_with fail
  refine (full_any _ 9 (by omega) (by omega)).mono ?_
  rintro e w4 ⟨rfl, b4, f4⟩
  have d4 := d3.kept f4 (by simp) (by simp) (by simp)
  go_wp2_with fail
  refine (write_err d4 65536 _ (by decide)).mono ?_
  rw [show reached 65536 65536 false = 6 from rfl]
  rintro e w4 ⟨rfl, rfl⟩
  go_wp2_with fail
  refine (full_any _ 9 (by omega) (by omega)).mono ?_
  rintro e w5 ⟨rfl, b5, f5⟩
  have d5 := d4.kept f5 (by simp) (by simp) (by simp)
  go_wp2_with fail
  refine (write_err d5 (-1) _ (by decide)).mono ?_
  rw [show reached 65536 (-1) false = 6 from rfl]
  rintro e w5 ⟨rfl, rfl⟩
  go_wp2_with fail
  have f15 : Fr [] w w5 := (f13.trans f4).trans f5
  clear d3 d4 b4 b5 f4 f5 f13
  refine (write_arg (d5.alloc _) 0 (by omega) (by omega) _ 513 513 (by omega)).mono ?_
  rintro e w6 ⟨rfl, rfl⟩
  have f16 : Fr [] w (w5.alloc (.cells made513 5)) := f15.alloc _
  generalize w5.alloc (.cells made513 5) = w6 at f16 ⊢
  clear d5 f15 h513
  go_wp2_with fail
  refine (new_dev 1 _ (by omega) (by omega)).mono ?_
  rintro e x1 ⟨rfl, d1, f1⟩
  have hB := f16.size
  generalize w6.heap.size = B at d1 hB ⊢
  have fx1 := f16.trans f1
  clear f16 f1
  go_wp2_with fail
  refine (arm_dev d1 2 (by omega)).mono ?_
  rw [show armed 2 = 2 from rfl]
  rintro e x2 ⟨rfl, d2, f2⟩
  have fx2 : Fr [] w x2 := fx1.then f2 (fun i hi hm => by simp at hm; omega)
  clear d1 fx1 f2
  go_wp2_with fail
  refine (full_any _ 1 (by omega) (by omega)).mono ?_
  rintro e x3 ⟨rfl, b3, f3⟩
  have d3 := d2.kept f3 (by simp) (by simp) (by simp)
  go_wp2_with fail
  refine (write_dev d3 0 (by omega) (by omega) _ 0 _ (fullL 1) (fullL_length 1) b3.src).mono ?_
  rw [show told (crash 2) = 0 from rfl, show left 2 = 1 from rfl, show crash 2 = false from rfl]
  rintro e x4 ⟨rfl, d4, f4⟩
  have fx4 : Fr [] w x4 := (fx2.trans f3).then f4 (fun i hi hm => by simp at hm; omega)
  clear d2 d3 b3 f3 f4 fx2
  go_wp2_with fail
  refine (sync_crash d4 rfl).mono ?_
  rw [show left 1 = 0 from rfl]
  rintro e x5 ⟨rfl, d5, f5⟩
  have fx5 : Fr [] w x5 := fx4.then f5 (fun i hi hm => by simp at hm; omega)
  clear d4 f5 fx4
  go_wp2_with fail
  refine (read_err d5 0 (by decide)).mono ?_
  rw [show reached 1 0 true = 8 from rfl]
  rintro e x5 ⟨rfl, rfl⟩
  go_wp2_with fail
  refine (arm_down d5 5).mono ?_
  rintro e x5 ⟨rfl, rfl⟩
  go_wp2_with fail
  refine (wake_dev d5 [] none 0 (fates_nil _) (by simp)).mono ?_
  rintro e x6 ⟨rfl, d6, f6⟩
  have fx6 : Fr [] w x6 := fx5.then f6 (fun i hi hm => by simp at hm; omega)
  clear d5 f6 fx5
  go_wp2_with fail
  refine (read_dev d6 0 (by omega) (by omega)).mono ?_
  rw [nums_latest1]
  rintro e x7 ⟨g7, rfl, b7, hg7, f7⟩
  have d7 := d6.kept f7 (by simp) (by simp) (by simp)
  have fx7 := fx6.trans f7
  clear d6 fx6 f7 hg7
  go_wp2_with fail
  have b8 : Blk (x7.alloc (.cells (arr zeros) 5)) x7.heap.size 5 zeros := heap_alloc_new _ _
  have b7' : Blk (x7.alloc (.cells (arr zeros) 5)) g7 5 zeros := b7.kept ((Fr.refl [] _).alloc _) (by simp)
  refine (same_any _ _ _ zeros zeros 512 512 512 b7'.bytes b8.bytes zeros_length zeros_length (by omega)).mono ?_
  rw [show (zeros == zeros) = true from by simp]
  rintro e x8 ⟨rfl, f8⟩
  have d8 := (d7.alloc _).kept f8 (by simp) (by simp) (by simp)
  have fx8 : Fr [] w x8 := (fx7.alloc _).trans f8
  clear d7 fx7 f8 b8 b7' b7
  go_wp2_with fail
  refine (down_dev d8).mono ?_
  rintro e x8 ⟨rfl, rfl⟩
  clear h512
  go_wp2_with fail
  refine (arm_dev d8 1 (by omega)).mono ?_
  rw [show armed 1 = 1 from rfl]
  rintro e y1 ⟨rfl, d1, f1⟩
  have fy1 : Fr [] w y1 := fx8.then f1 (fun i hi hm => by simp at hm; omega)
  clear d8 fx8 f1
  go_wp2_with fail
  refine (full_any _ 1 (by omega) (by omega)).mono ?_
  rintro e y2 ⟨rfl, b2, f2⟩
  have d2 := d1.kept f2 (by simp) (by simp) (by simp)
  go_wp2_with fail
  refine (write_err d2 1 _ (by decide)).mono ?_
  rw [show reached 1 1 false = 6 from rfl]
  rintro e y2 ⟨rfl, rfl⟩
  go_wp2_with fail
  refine (write_arg d2 0 (by omega) (by omega) none 0 0 (by omega)).mono ?_
  rintro e y2 ⟨rfl, rfl⟩
  have fy2 := fy1.trans f2
  clear d1 b2 f2 fy1
  go_wp2_with fail
  refine (full_any _ 1 (by omega) (by omega)).mono ?_
  rintro e y3 ⟨rfl, b3, f3⟩
  have d3 := d2.kept f3 (by simp) (by simp) (by simp)
  go_wp2_with fail
  refine (write_dev d3 0 (by omega) (by omega) _ 0 _ (fullL 1) (fullL_length 1) b3.src).mono ?_
  rw [show told (crash 1) = 8 from rfl, show left 1 = 0 from rfl, show crash 1 = true from rfl]
  rintro e y4 ⟨rfl, d4, f4⟩
  have fy4 : Fr [] w y4 := (fy2.trans f3).then f4 (fun i hi hm => by simp at hm; omega)
  clear d2 d3 b3 f3 f4 fy2
  go_wp2_with fail
  refine (down_dev d4).mono ?_
  rintro e y4 ⟨rfl, rfl⟩
  go_wp2_with fail
  refine (full_any _ 2 (by omega) (by omega)).mono ?_
  rintro e y5 ⟨rfl, b5, f5⟩
  have d5 := d4.kept f5 (by simp) (by simp) (by simp)
  go_wp2_with fail
  refine (write_err d5 0 _ (by decide)).mono ?_
  rw [show reached 1 0 true = 8 from rfl]
  rintro e y5 ⟨rfl, rfl⟩
  go_wp2_with fail
  refine (sync_down d5).mono ?_
  rintro e y5 ⟨rfl, rfl⟩
  go_wp2_with fail
  refine (write_err d5 7 _ (by decide)).mono ?_
  rw [show reached 1 7 true = 8 from rfl]
  rintro e y5 ⟨rfl, rfl⟩
  have fy5 := fy4.trans f5
  clear d4 b5 f5 fy4
  go_wp2_with fail
  refine (wake_dev (d5.alloc _) [(0, 1), (3, 2), (0, 255)] _ _ (fates_three y5) (by simp)).mono ?_
  rintro e y6 ⟨rfl, d6, f6⟩
  have fy6 : Fr [] w y6 := (fy5.alloc _).then f6 (fun i hi hm => by simp at hm; omega)
  clear d5 fy5 f6
  go_wp2_with fail
  refine (read_dev d6 0 (by omega) (by omega)).mono ?_
  rw [nums_latest2]
  rintro e y7 ⟨g7, rfl, b7, hg7, f7⟩
  have d7 := d6.kept f7 (by simp) (by simp) (by simp)
  have fy7 := fy6.trans f7
  have hl6 := d6.lt
  have hg8 : B + 2 < g7 := by omega
  clear d6 fy6 f7 hl6 hg7
  go_wp2_with fail
  refine (arm_dev d7 1 (by omega)).mono ?_
  rw [show armed 1 = 1 from rfl]
  rintro e z1 ⟨rfl, d1, f1⟩
  have fz1 : Fr [] w z1 := fy7.then f1 (fun i hi hm => by simp at hm; omega)
  have c1 := b7.kept f1 (by simp; omega)
  clear d7 fy7 f1 b7
  go_wp2_with fail
  refine (arm_dev d1 0 (by omega)).mono ?_
  rw [show armed 0 = 0 from rfl]
  rintro e z2 ⟨rfl, d2, f2⟩
  have fz2 : Fr [] w z2 := fz1.then f2 (fun i hi hm => by simp at hm; omega)
  have c2 := c1.kept f2 (by simp; omega)
  clear d1 fz1 f2 c1
  go_wp2_with fail
  refine (full_any _ 1 (by omega) (by omega)).mono ?_
  rintro e z3 ⟨rfl, b3, f3⟩
  have d3 := d2.kept f3 (by simp) (by simp) (by simp)
  have c3 := c2.kept f3 (by simp)
  go_wp2_with fail
  refine (same_any _ _ _ (fullL 1) (fullL 1) 512 512 512 c3.bytes b3.bytes (fullL_length 1) (fullL_length 1) (by omega)).mono ?_
  rw [show (fullL 1 == fullL 1) = true from by simp]
  rintro e z4 ⟨rfl, f4⟩
  have d4 := d3.kept f4 (by simp) (by simp) (by simp)
  have fz4 : Fr [] w z4 := (fz2.trans f3).trans f4
  clear d2 d3 b3 f3 f4 c2 c3 fz2
  go_wp2_with fail
  refine (sync_dev d4 rfl).mono ?_
  rintro e z5 ⟨rfl, d5, f5⟩
  have fz5 : Fr [] w z5 := fz4.then f5 (fun i hi hm => by simp at hm; omega)
  go_wp2_with fail
  refine (sectors_law _).mono ?_
  rintro e z6 ⟨rfl, f6⟩
  go_wp2_with fail
  refine (awake_law _).mono ?_
  rintro e z7 ⟨rfl, f7⟩
  go_wp2_with fail
  go_ret
  exact ⟨rfl, (fz5.trans f6).trans f7⟩

end Go.Proofs.Ytkenkgfohgmpnaa
