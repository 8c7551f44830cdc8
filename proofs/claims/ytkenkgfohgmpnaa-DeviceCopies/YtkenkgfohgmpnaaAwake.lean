/-
  The law's own helper awake (the chapter's first example): it answers true.
-/
import Derived.Test.YtkenkgfohgmpnaaFull
namespace Go.Proofs.Ytkenkgfohgmpnaa
open Go.RowKit Go.Maps

theorem Blk.cellOf {w : World} {g : Nat} {t : TypeId} {l : List UInt8} (h : Blk w g t l) (j n : Nat) (hj : l[j]?.map UInt8.toNat = some n) : w.cell? ⟨g, j, none⟩ = some (.int .u8 n) := by
  rw [cell_of_row w g j _ _ _ h, arr_at]
  cases e : l[j]? with
  | none => rw [e] at hj; cases hj
  | some b => rw [e] at hj; simp at hj; simp [hj]

theorem ex_cells (w : World) (g : Nat) (h : Blk w g 5 (tornTo (fullL 1) (fullL 50) 3 8)) :
    w.cell? ⟨g, 0, none⟩ = some (.int .u8 50) ∧ w.cell? ⟨g, 127, none⟩ = some (.int .u8 51) ∧ w.cell? ⟨g, 128, none⟩ = some (.int .u8 3) ∧ w.cell? ⟨g, 511, none⟩ = some (.int .u8 8) :=
  ⟨h.cellOf 0 50 (by decide +kernel), h.cellOf 127 51 (by decide +kernel), h.cellOf 128 3 (by decide +kernel), h.cellOf 511 8 (by decide +kernel)⟩

theorem ex_latest : latest (wokenAt (over Tab.none (Tab.put Tab.none 0 (fullL 1))) (Tab.put Tab.none 0 (fullL 50)) [(0, 3)]) Tab.none 0 = tornTo (fullL 1) (fullL 50) 3 8 := by
  simp [latest, wokenAt, over, Tab.put, Tab.none, Tab.get, keepOf]

/-- One fate that the caller has made. -/
theorem fates_one (w : World) (b k : Int) (hb : (Lit.int .i64 b).wf = true) (h0 : 0 ≤ k) (h1 : k < 256) : FatesAt (w.alloc (.cells #[.int .i64 b, .int .u8 k] 58)) (some ⟨w.heap.size, 0, none⟩) [(b, k)] := by
  intro i f hf
  cases i with
  | zero =>
    simp at hf
    subst hf
    have hc := heap_alloc_new w (.cells #[.int .i64 b, .int .u8 k] 58)
    exact ⟨w.heap.size, 0, rfl, by rw [cell_of_row _ _ _ _ _ _ hc]; rfl, by rw [cell_of_row _ _ _ _ _ _ hc]; rfl, hb, h0, h1⟩
  | succ i => simp at hf

theorem fates_nil (w : World) : FatesAt w none [] := by
  intro i f hf
  simp at hf

set_option maxHeartbeats 1000000 in
set_option maxRecDepth 100000 in
theorem awake_law (w : World) : Calls Try.prog 11 #[] w fun e w' => e = .returned (.bool true) ∧ Fr [] w w' := by
  go_enter Try.func11, Try.ntmps11
  go_wp2_with fail
  refine (new_dev 2 _ (by omega) (by omega)).mono ?_
  rintro e w1 ⟨rfl, d1, f1⟩
  go_wp2_with fail
  refine (full_any _ 1 (by omega) (by omega)).mono ?_
  rintro e w2 ⟨rfl, b2, f2⟩
  have d2 := d1.kept f2 (by simp) (by simp) (by simp)
  go_wp2_with fail
  refine (write_dev d2 0 (by omega) (by omega) _ 0 _ (fullL 1) (fullL_length 1) b2.src).mono ?_
  rw [show told (crash 0) = 0 from rfl, show left 0 = 0 from rfl, show crash 0 = false from rfl]
  rintro e w3 ⟨rfl, d3, f3⟩
  have f13 : Fr [] w w3 := (f1.trans f2).then f3 (fun i hi hm => by simp at hm; omega)
  go_wp2_with fail
  refine (sync_dev d3 rfl).mono ?_
  rw [show left 0 = 0 from rfl]
  rintro e w4 ⟨rfl, d4, f4⟩
  have f14 : Fr [] w w4 := f13.then f4 (fun i hi hm => by simp at hm; omega)
  clear f13 d3 d2 d1 b2 f1 f2 f3 f4
  go_wp2_with fail
  refine (full_any _ 50 (by omega) (by omega)).mono ?_
  rintro e w5 ⟨rfl, b5, f5⟩
  have d5 := d4.kept f5 (by simp) (by simp) (by simp)
  go_wp2_with fail
  refine (write_dev d5 0 (by omega) (by omega) _ 0 _ (fullL 50) (fullL_length 50) b5.src).mono ?_
  rw [show told (crash 0) = 0 from rfl, show left 0 = 0 from rfl, show crash 0 = false from rfl]
  rintro e w6 ⟨rfl, d6, f6⟩
  have f16 : Fr [] w w6 := (f14.trans f5).then f6 (fun i hi hm => by simp at hm; omega)
  clear d5 d4 b5 f5 f6 f14
  go_wp2_with fail
  refine (wake_dev (d6.alloc _) [(0, 3)] _ _ (fates_one w6 0 3 (by decide) (by omega) (by omega)) (by simp)).mono ?_
  rintro e w7 ⟨rfl, d7, f7⟩
  have f17 : Fr [] w w7 := (f16.alloc _).then f7 (fun i hi hm => by simp at hm; omega)
  clear d6 f16 f7
  go_wp2_with fail
  refine (read_dev d7 0 (by omega) (by omega)).mono ?_
  rw [ex_latest]
  rintro e w8 ⟨g, rfl, b8, hg, f8⟩
  obtain ⟨q0, q1, q2, q3⟩ := ex_cells w8 g b8
  have d8 := d7.kept f8 (by simp) (by simp) (by simp)
  have f18 : Fr [] w w8 := f17.trans f8
  clear d7 f17 f8 hg
  go_wp2_with fail
  refine (blocks_dev d8).mono ?_
  rintro e w8 ⟨rfl, rfl⟩
  go_wp2_with fail
  refine (new_no 0 _ (by omega)).mono ?_
  rintro e w8 ⟨rfl, rfl⟩
  go_wp2_with fail
  refine (write_arg d8 0 (by omega) (by omega) none 0 0 (by omega)).mono ?_
  rintro e w8 ⟨rfl, rfl⟩
  go_wp2_with fail
  go_ret
  exact ⟨rfl, f18⟩

end Go.Proofs.Ytkenkgfohgmpnaa
