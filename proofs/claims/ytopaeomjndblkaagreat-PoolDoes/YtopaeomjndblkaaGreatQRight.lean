/-
  Records: the program's right, by kinds.
-/
import Derived.Test.YtopaeomjndblkaaGreatQRec
namespace Go.Proofs.YtopaeomjndblkaaGreat
open Go.RowKit Go.Maps

set_option maxHeartbeats 2000000 in
theorem right_one (w : World) (lsn turn tx prev next block off : Int) (no nn : Nat) (a1 a2 : Option Addr) (c1 c2 : Nat) (hnn : nn ≤ 1000000)
    (h0 : 1 ≤ lsn) (h1 : lsn ≤ 4611686018427387904) (h2 : 1 ≤ turn) (h3 : turn ≤ 2147483647) (h4 : placeB tx = true) (h5 : placeB prev = true) :
    Calls Tryz.prog 254 #[.agg #[.int .i64 lsn, .int .i64 turn, .int .u8 1, .int .i64 tx, .int .i64 prev, .int .i64 next, .int .i64 block, .int .i64 off, .slice a1 no c1, .slice a2 nn c2]] w fun e w' => e = .returned (.bool (decide (next = 0) && (fitsB block off nn && decide (no = nn)))) ∧ Fr [] w w' := by
  by_cases g0 : next = 0
  · have q0 : (next == 0) = true := by first | simpa using g0 | (simp; omega)
    rw [decide_eq_true g0]
    clear g0
    cases g1 : fitsB block off nn
    · skip
      go_enter Tryz.func254, Tryz.ntmps254
      go_wp2_with (first | (go_at_call 278; refine (isPlace_any _ _).mono ?_; rintro e w' ⟨rfl, rfl⟩) | (go_at_call 279; refine (fits_any _ block off no c1 nn c2 a1 a2 hnn).mono ?_; rintro e w5 ⟨rfl, f5⟩; have b5 := f5.same (by simp) (heap_alloc2_new w _ _); have z5 := (kept_two _ _).trans f5; have d2 := cell_of_row w5 (w.heap.size + 1) 2 _ _ _ b5; have d3 := cell_of_row w5 (w.heap.size + 1) 3 _ _ _ b5; simp only [List.getElem?_toArray, List.getElem?_cons_succ, List.getElem?_cons_zero] at d2 d3; clear b5 f5))
      go_ret
      exact ⟨rfl, z5⟩
    · skip
      by_cases g2 : no = nn
      · have q2 : ((no : Int) == (nn : Int)) = true := by first | simpa using g2 | (simp; omega)
        rw [decide_eq_true g2]
        clear g2
        go_enter Tryz.func254, Tryz.ntmps254
        go_wp2_with (first | (go_at_call 278; refine (isPlace_any _ _).mono ?_; rintro e w' ⟨rfl, rfl⟩) | (go_at_call 279; refine (fits_any _ block off no c1 nn c2 a1 a2 hnn).mono ?_; rintro e w5 ⟨rfl, f5⟩; have b5 := f5.same (by simp) (heap_alloc2_new w _ _); have z5 := (kept_two _ _).trans f5; have d2 := cell_of_row w5 (w.heap.size + 1) 2 _ _ _ b5; have d3 := cell_of_row w5 (w.heap.size + 1) 3 _ _ _ b5; simp only [List.getElem?_toArray, List.getElem?_cons_succ, List.getElem?_cons_zero] at d2 d3; clear b5 f5))
        go_ret
        exact ⟨rfl, z5⟩
      · have q2 : ((no : Int) == (nn : Int)) = false := by first | simpa using g2 | (simp; omega)
        rw [decide_eq_false g2]
        clear g2
        go_enter Tryz.func254, Tryz.ntmps254
        go_wp2_with (first | (go_at_call 278; refine (isPlace_any _ _).mono ?_; rintro e w' ⟨rfl, rfl⟩) | (go_at_call 279; refine (fits_any _ block off no c1 nn c2 a1 a2 hnn).mono ?_; rintro e w5 ⟨rfl, f5⟩; have b5 := f5.same (by simp) (heap_alloc2_new w _ _); have z5 := (kept_two _ _).trans f5; have d2 := cell_of_row w5 (w.heap.size + 1) 2 _ _ _ b5; have d3 := cell_of_row w5 (w.heap.size + 1) 3 _ _ _ b5; simp only [List.getElem?_toArray, List.getElem?_cons_succ, List.getElem?_cons_zero] at d2 d3; clear b5 f5))
        go_ret
        exact ⟨rfl, z5⟩
  · have q0 : (next == 0) = false := by first | simpa using g0 | (simp; omega)
    rw [decide_eq_false g0]
    clear g0
    go_enter Tryz.func254, Tryz.ntmps254
    go_wp2_with (first | (go_at_call 278; refine (isPlace_any _ _).mono ?_; rintro e w' ⟨rfl, rfl⟩) | (go_at_call 279; refine (fits_any _ block off no c1 nn c2 a1 a2 hnn).mono ?_; rintro e w5 ⟨rfl, f5⟩; have b5 := f5.same (by simp) (heap_alloc2_new w _ _); have z5 := (kept_two _ _).trans f5; have d2 := cell_of_row w5 (w.heap.size + 1) 2 _ _ _ b5; have d3 := cell_of_row w5 (w.heap.size + 1) 3 _ _ _ b5; simp only [List.getElem?_toArray, List.getElem?_cons_succ, List.getElem?_cons_zero] at d2 d3; clear b5 f5))
    go_ret
    exact ⟨rfl, kept_two _ _⟩

set_option maxHeartbeats 2000000 in
theorem right_two (w : World) (lsn turn tx prev next block off : Int) (no nn : Nat) (a1 a2 : Option Addr) (c1 c2 : Nat) (hnn : nn ≤ 1000000)
    (h0 : 1 ≤ lsn) (h1 : lsn ≤ 4611686018427387904) (h2 : 1 ≤ turn) (h3 : turn ≤ 2147483647) (h4 : placeB tx = true) (h5 : placeB prev = true) :
    Calls Tryz.prog 254 #[.agg #[.int .i64 lsn, .int .i64 turn, .int .u8 2, .int .i64 tx, .int .i64 prev, .int .i64 next, .int .i64 block, .int .i64 off, .slice a1 no c1, .slice a2 nn c2]] w fun e w' => e = .returned (.bool (placeB next && (fitsB block off nn && decide (no = 0)))) ∧ Fr [] w w' := by
  cases g0 : placeB next
  · skip
    go_enter Tryz.func254, Tryz.ntmps254
    go_wp2_with (first | (go_at_call 278; refine (isPlace_any _ _).mono ?_; rintro e w' ⟨rfl, rfl⟩) | (go_at_call 279; refine (fits_any _ block off no c1 nn c2 a1 a2 hnn).mono ?_; rintro e w5 ⟨rfl, f5⟩; have b5 := f5.same (by simp) (heap_alloc2_new w _ _); have z5 := (kept_two _ _).trans f5; have d2 := cell_of_row w5 (w.heap.size + 1) 2 _ _ _ b5; have d3 := cell_of_row w5 (w.heap.size + 1) 3 _ _ _ b5; simp only [List.getElem?_toArray, List.getElem?_cons_succ, List.getElem?_cons_zero] at d2 d3; clear b5 f5))
    go_ret
    exact ⟨rfl, kept_two _ _⟩
  · skip
    cases g1 : fitsB block off nn
    · skip
      go_enter Tryz.func254, Tryz.ntmps254
      go_wp2_with (first | (go_at_call 278; refine (isPlace_any _ _).mono ?_; rintro e w' ⟨rfl, rfl⟩) | (go_at_call 279; refine (fits_any _ block off no c1 nn c2 a1 a2 hnn).mono ?_; rintro e w5 ⟨rfl, f5⟩; have b5 := f5.same (by simp) (heap_alloc2_new w _ _); have z5 := (kept_two _ _).trans f5; have d2 := cell_of_row w5 (w.heap.size + 1) 2 _ _ _ b5; have d3 := cell_of_row w5 (w.heap.size + 1) 3 _ _ _ b5; simp only [List.getElem?_toArray, List.getElem?_cons_succ, List.getElem?_cons_zero] at d2 d3; clear b5 f5))
      go_ret
      exact ⟨rfl, z5⟩
    · skip
      by_cases g2 : no = 0
      · have q2 : ((no : Int) == 0) = true := by first | simpa using g2 | (simp; omega)
        rw [decide_eq_true g2]
        clear g2
        go_enter Tryz.func254, Tryz.ntmps254
        go_wp2_with (first | (go_at_call 278; refine (isPlace_any _ _).mono ?_; rintro e w' ⟨rfl, rfl⟩) | (go_at_call 279; refine (fits_any _ block off no c1 nn c2 a1 a2 hnn).mono ?_; rintro e w5 ⟨rfl, f5⟩; have b5 := f5.same (by simp) (heap_alloc2_new w _ _); have z5 := (kept_two _ _).trans f5; have d2 := cell_of_row w5 (w.heap.size + 1) 2 _ _ _ b5; have d3 := cell_of_row w5 (w.heap.size + 1) 3 _ _ _ b5; simp only [List.getElem?_toArray, List.getElem?_cons_succ, List.getElem?_cons_zero] at d2 d3; clear b5 f5))
        go_ret
        exact ⟨rfl, z5⟩
      · have q2 : ((no : Int) == 0) = false := by first | simpa using g2 | (simp; omega)
        rw [decide_eq_false g2]
        clear g2
        go_enter Tryz.func254, Tryz.ntmps254
        go_wp2_with (first | (go_at_call 278; refine (isPlace_any _ _).mono ?_; rintro e w' ⟨rfl, rfl⟩) | (go_at_call 279; refine (fits_any _ block off no c1 nn c2 a1 a2 hnn).mono ?_; rintro e w5 ⟨rfl, f5⟩; have b5 := f5.same (by simp) (heap_alloc2_new w _ _); have z5 := (kept_two _ _).trans f5; have d2 := cell_of_row w5 (w.heap.size + 1) 2 _ _ _ b5; have d3 := cell_of_row w5 (w.heap.size + 1) 3 _ _ _ b5; simp only [List.getElem?_toArray, List.getElem?_cons_succ, List.getElem?_cons_zero] at d2 d3; clear b5 f5))
        go_ret
        exact ⟨rfl, z5⟩

set_option maxHeartbeats 2000000 in
theorem right_three (w : World) (lsn turn tx prev next block off : Int) (no nn : Nat) (a1 a2 : Option Addr) (c1 c2 : Nat) (_hnn : nn ≤ 1000000)
    (h0 : 1 ≤ lsn) (h1 : lsn ≤ 4611686018427387904) (h2 : 1 ≤ turn) (h3 : turn ≤ 2147483647) (h4 : placeB tx = true) (h5 : placeB prev = true) :
    Calls Tryz.prog 254 #[.agg #[.int .i64 lsn, .int .i64 turn, .int .u8 3, .int .i64 tx, .int .i64 prev, .int .i64 next, .int .i64 block, .int .i64 off, .slice a1 no c1, .slice a2 nn c2]] w fun e w' => e = .returned (.bool (decide (next = 0) && (decide (block = 0) && (decide (off = 0) && (decide (no = 0) && decide (nn = 0)))))) ∧ Fr [] w w' := by
  by_cases g0 : next = 0
  · have q0 : (next == 0) = true := by first | simpa using g0 | (simp; omega)
    rw [decide_eq_true g0]
    clear g0
    by_cases g1 : block = 0
    · have q1 : (block == 0) = true := by first | simpa using g1 | (simp; omega)
      rw [decide_eq_true g1]
      clear g1
      by_cases g2 : off = 0
      · have q2 : (off == 0) = true := by first | simpa using g2 | (simp; omega)
        rw [decide_eq_true g2]
        clear g2
        by_cases g3 : no = 0
        · have q3 : ((no : Int) == 0) = true := by first | simpa using g3 | (simp; omega)
          rw [decide_eq_true g3]
          clear g3
          by_cases g4 : nn = 0
          · have q4 : ((nn : Int) == 0) = true := by first | simpa using g4 | (simp; omega)
            rw [decide_eq_true g4]
            clear g4
            go_enter Tryz.func254, Tryz.ntmps254
            go_wp2_with (first | (go_at_call 278; refine (isPlace_any _ _).mono ?_; rintro e w' ⟨rfl, rfl⟩) | (go_at_call 279; refine (fits_any _ block off no c1 nn c2 a1 a2 hnn).mono ?_; rintro e w5 ⟨rfl, f5⟩; have b5 := f5.same (by simp) (heap_alloc2_new w _ _); have z5 := (kept_two _ _).trans f5; have d2 := cell_of_row w5 (w.heap.size + 1) 2 _ _ _ b5; have d3 := cell_of_row w5 (w.heap.size + 1) 3 _ _ _ b5; simp only [List.getElem?_toArray, List.getElem?_cons_succ, List.getElem?_cons_zero] at d2 d3; clear b5 f5))
            go_ret
            exact ⟨rfl, kept_two _ _⟩
          · have q4 : ((nn : Int) == 0) = false := by first | simpa using g4 | (simp; omega)
            rw [decide_eq_false g4]
            clear g4
            go_enter Tryz.func254, Tryz.ntmps254
            go_wp2_with (first | (go_at_call 278; refine (isPlace_any _ _).mono ?_; rintro e w' ⟨rfl, rfl⟩) | (go_at_call 279; refine (fits_any _ block off no c1 nn c2 a1 a2 hnn).mono ?_; rintro e w5 ⟨rfl, f5⟩; have b5 := f5.same (by simp) (heap_alloc2_new w _ _); have z5 := (kept_two _ _).trans f5; have d2 := cell_of_row w5 (w.heap.size + 1) 2 _ _ _ b5; have d3 := cell_of_row w5 (w.heap.size + 1) 3 _ _ _ b5; simp only [List.getElem?_toArray, List.getElem?_cons_succ, List.getElem?_cons_zero] at d2 d3; clear b5 f5))
            go_ret
            exact ⟨rfl, kept_two _ _⟩
        · have q3 : ((no : Int) == 0) = false := by first | simpa using g3 | (simp; omega)
          rw [decide_eq_false g3]
          clear g3
          go_enter Tryz.func254, Tryz.ntmps254
          go_wp2_with (first | (go_at_call 278; refine (isPlace_any _ _).mono ?_; rintro e w' ⟨rfl, rfl⟩) | (go_at_call 279; refine (fits_any _ block off no c1 nn c2 a1 a2 hnn).mono ?_; rintro e w5 ⟨rfl, f5⟩; have b5 := f5.same (by simp) (heap_alloc2_new w _ _); have z5 := (kept_two _ _).trans f5; have d2 := cell_of_row w5 (w.heap.size + 1) 2 _ _ _ b5; have d3 := cell_of_row w5 (w.heap.size + 1) 3 _ _ _ b5; simp only [List.getElem?_toArray, List.getElem?_cons_succ, List.getElem?_cons_zero] at d2 d3; clear b5 f5))
          go_ret
          exact ⟨rfl, kept_two _ _⟩
      · have q2 : (off == 0) = false := by first | simpa using g2 | (simp; omega)
        rw [decide_eq_false g2]
        clear g2
        go_enter Tryz.func254, Tryz.ntmps254
        go_wp2_with (first | (go_at_call 278; refine (isPlace_any _ _).mono ?_; rintro e w' ⟨rfl, rfl⟩) | (go_at_call 279; refine (fits_any _ block off no c1 nn c2 a1 a2 hnn).mono ?_; rintro e w5 ⟨rfl, f5⟩; have b5 := f5.same (by simp) (heap_alloc2_new w _ _); have z5 := (kept_two _ _).trans f5; have d2 := cell_of_row w5 (w.heap.size + 1) 2 _ _ _ b5; have d3 := cell_of_row w5 (w.heap.size + 1) 3 _ _ _ b5; simp only [List.getElem?_toArray, List.getElem?_cons_succ, List.getElem?_cons_zero] at d2 d3; clear b5 f5))
        go_ret
        exact ⟨rfl, kept_two _ _⟩
    · have q1 : (block == 0) = false := by first | simpa using g1 | (simp; omega)
      rw [decide_eq_false g1]
      clear g1
      go_enter Tryz.func254, Tryz.ntmps254
      go_wp2_with (first | (go_at_call 278; refine (isPlace_any _ _).mono ?_; rintro e w' ⟨rfl, rfl⟩) | (go_at_call 279; refine (fits_any _ block off no c1 nn c2 a1 a2 hnn).mono ?_; rintro e w5 ⟨rfl, f5⟩; have b5 := f5.same (by simp) (heap_alloc2_new w _ _); have z5 := (kept_two _ _).trans f5; have d2 := cell_of_row w5 (w.heap.size + 1) 2 _ _ _ b5; have d3 := cell_of_row w5 (w.heap.size + 1) 3 _ _ _ b5; simp only [List.getElem?_toArray, List.getElem?_cons_succ, List.getElem?_cons_zero] at d2 d3; clear b5 f5))
      go_ret
      exact ⟨rfl, kept_two _ _⟩
  · have q0 : (next == 0) = false := by first | simpa using g0 | (simp; omega)
    rw [decide_eq_false g0]
    clear g0
    go_enter Tryz.func254, Tryz.ntmps254
    go_wp2_with (first | (go_at_call 278; refine (isPlace_any _ _).mono ?_; rintro e w' ⟨rfl, rfl⟩) | (go_at_call 279; refine (fits_any _ block off no c1 nn c2 a1 a2 hnn).mono ?_; rintro e w5 ⟨rfl, f5⟩; have b5 := f5.same (by simp) (heap_alloc2_new w _ _); have z5 := (kept_two _ _).trans f5; have d2 := cell_of_row w5 (w.heap.size + 1) 2 _ _ _ b5; have d3 := cell_of_row w5 (w.heap.size + 1) 3 _ _ _ b5; simp only [List.getElem?_toArray, List.getElem?_cons_succ, List.getElem?_cons_zero] at d2 d3; clear b5 f5))
    go_ret
    exact ⟨rfl, kept_two _ _⟩

set_option maxHeartbeats 2000000 in
theorem right_four (w : World) (lsn turn tx prev next block off : Int) (no nn : Nat) (a1 a2 : Option Addr) (c1 c2 : Nat) (_hnn : nn ≤ 1000000)
    (h0 : 1 ≤ lsn) (h1 : lsn ≤ 4611686018427387904) (h2 : 1 ≤ turn) (h3 : turn ≤ 2147483647) (h4 : placeB tx = true) (h5 : placeB prev = true) :
    Calls Tryz.prog 254 #[.agg #[.int .i64 lsn, .int .i64 turn, .int .u8 4, .int .i64 tx, .int .i64 prev, .int .i64 next, .int .i64 block, .int .i64 off, .slice a1 no c1, .slice a2 nn c2]] w fun e w' => e = .returned (.bool (decide (next = 0) && (decide (block = 0) && (decide (off = 0) && (decide (no = 0) && decide (nn = 0)))))) ∧ Fr [] w w' := by
  by_cases g0 : next = 0
  · have q0 : (next == 0) = true := by first | simpa using g0 | (simp; omega)
    rw [decide_eq_true g0]
    clear g0
    by_cases g1 : block = 0
    · have q1 : (block == 0) = true := by first | simpa using g1 | (simp; omega)
      rw [decide_eq_true g1]
      clear g1
      by_cases g2 : off = 0
      · have q2 : (off == 0) = true := by first | simpa using g2 | (simp; omega)
        rw [decide_eq_true g2]
        clear g2
        by_cases g3 : no = 0
        · have q3 : ((no : Int) == 0) = true := by first | simpa using g3 | (simp; omega)
          rw [decide_eq_true g3]
          clear g3
          by_cases g4 : nn = 0
          · have q4 : ((nn : Int) == 0) = true := by first | simpa using g4 | (simp; omega)
            rw [decide_eq_true g4]
            clear g4
            go_enter Tryz.func254, Tryz.ntmps254
            go_wp2_with (first | (go_at_call 278; refine (isPlace_any _ _).mono ?_; rintro e w' ⟨rfl, rfl⟩) | (go_at_call 279; refine (fits_any _ block off no c1 nn c2 a1 a2 hnn).mono ?_; rintro e w5 ⟨rfl, f5⟩; have b5 := f5.same (by simp) (heap_alloc2_new w _ _); have z5 := (kept_two _ _).trans f5; have d2 := cell_of_row w5 (w.heap.size + 1) 2 _ _ _ b5; have d3 := cell_of_row w5 (w.heap.size + 1) 3 _ _ _ b5; simp only [List.getElem?_toArray, List.getElem?_cons_succ, List.getElem?_cons_zero] at d2 d3; clear b5 f5))
            go_ret
            exact ⟨rfl, kept_two _ _⟩
          · have q4 : ((nn : Int) == 0) = false := by first | simpa using g4 | (simp; omega)
            rw [decide_eq_false g4]
            clear g4
            go_enter Tryz.func254, Tryz.ntmps254
            go_wp2_with (first | (go_at_call 278; refine (isPlace_any _ _).mono ?_; rintro e w' ⟨rfl, rfl⟩) | (go_at_call 279; refine (fits_any _ block off no c1 nn c2 a1 a2 hnn).mono ?_; rintro e w5 ⟨rfl, f5⟩; have b5 := f5.same (by simp) (heap_alloc2_new w _ _); have z5 := (kept_two _ _).trans f5; have d2 := cell_of_row w5 (w.heap.size + 1) 2 _ _ _ b5; have d3 := cell_of_row w5 (w.heap.size + 1) 3 _ _ _ b5; simp only [List.getElem?_toArray, List.getElem?_cons_succ, List.getElem?_cons_zero] at d2 d3; clear b5 f5))
            go_ret
            exact ⟨rfl, kept_two _ _⟩
        · have q3 : ((no : Int) == 0) = false := by first | simpa using g3 | (simp; omega)
          rw [decide_eq_false g3]
          clear g3
          go_enter Tryz.func254, Tryz.ntmps254
          go_wp2_with (first | (go_at_call 278; refine (isPlace_any _ _).mono ?_; rintro e w' ⟨rfl, rfl⟩) | (go_at_call 279; refine (fits_any _ block off no c1 nn c2 a1 a2 hnn).mono ?_; rintro e w5 ⟨rfl, f5⟩; have b5 := f5.same (by simp) (heap_alloc2_new w _ _); have z5 := (kept_two _ _).trans f5; have d2 := cell_of_row w5 (w.heap.size + 1) 2 _ _ _ b5; have d3 := cell_of_row w5 (w.heap.size + 1) 3 _ _ _ b5; simp only [List.getElem?_toArray, List.getElem?_cons_succ, List.getElem?_cons_zero] at d2 d3; clear b5 f5))
          go_ret
          exact ⟨rfl, kept_two _ _⟩
      · have q2 : (off == 0) = false := by first | simpa using g2 | (simp; omega)
        rw [decide_eq_false g2]
        clear g2
        go_enter Tryz.func254, Tryz.ntmps254
        go_wp2_with (first | (go_at_call 278; refine (isPlace_any _ _).mono ?_; rintro e w' ⟨rfl, rfl⟩) | (go_at_call 279; refine (fits_any _ block off no c1 nn c2 a1 a2 hnn).mono ?_; rintro e w5 ⟨rfl, f5⟩; have b5 := f5.same (by simp) (heap_alloc2_new w _ _); have z5 := (kept_two _ _).trans f5; have d2 := cell_of_row w5 (w.heap.size + 1) 2 _ _ _ b5; have d3 := cell_of_row w5 (w.heap.size + 1) 3 _ _ _ b5; simp only [List.getElem?_toArray, List.getElem?_cons_succ, List.getElem?_cons_zero] at d2 d3; clear b5 f5))
        go_ret
        exact ⟨rfl, kept_two _ _⟩
    · have q1 : (block == 0) = false := by first | simpa using g1 | (simp; omega)
      rw [decide_eq_false g1]
      clear g1
      go_enter Tryz.func254, Tryz.ntmps254
      go_wp2_with (first | (go_at_call 278; refine (isPlace_any _ _).mono ?_; rintro e w' ⟨rfl, rfl⟩) | (go_at_call 279; refine (fits_any _ block off no c1 nn c2 a1 a2 hnn).mono ?_; rintro e w5 ⟨rfl, f5⟩; have b5 := f5.same (by simp) (heap_alloc2_new w _ _); have z5 := (kept_two _ _).trans f5; have d2 := cell_of_row w5 (w.heap.size + 1) 2 _ _ _ b5; have d3 := cell_of_row w5 (w.heap.size + 1) 3 _ _ _ b5; simp only [List.getElem?_toArray, List.getElem?_cons_succ, List.getElem?_cons_zero] at d2 d3; clear b5 f5))
      go_ret
      exact ⟨rfl, kept_two _ _⟩
  · have q0 : (next == 0) = false := by first | simpa using g0 | (simp; omega)
    rw [decide_eq_false g0]
    clear g0
    go_enter Tryz.func254, Tryz.ntmps254
    go_wp2_with (first | (go_at_call 278; refine (isPlace_any _ _).mono ?_; rintro e w' ⟨rfl, rfl⟩) | (go_at_call 279; refine (fits_any _ block off no c1 nn c2 a1 a2 hnn).mono ?_; rintro e w5 ⟨rfl, f5⟩; have b5 := f5.same (by simp) (heap_alloc2_new w _ _); have z5 := (kept_two _ _).trans f5; have d2 := cell_of_row w5 (w.heap.size + 1) 2 _ _ _ b5; have d3 := cell_of_row w5 (w.heap.size + 1) 3 _ _ _ b5; simp only [List.getElem?_toArray, List.getElem?_cons_succ, List.getElem?_cons_zero] at d2 d3; clear b5 f5))
    go_ret
    exact ⟨rfl, kept_two _ _⟩

set_option maxHeartbeats 2000000 in
theorem right_other (w : World) (lsn turn tx prev next block off : Int) (K : Int) (k1 : (K == 1) = false) (k2 : (K == 2) = false) (k3 : (K == 3) = false) (k4 : (K == 4) = false) (no nn : Nat) (a1 a2 : Option Addr) (c1 c2 : Nat) (_hnn : nn ≤ 1000000)
    (h0 : 1 ≤ lsn) (h1 : lsn ≤ 4611686018427387904) (h2 : 1 ≤ turn) (h3 : turn ≤ 2147483647) (h4 : placeB tx = true) (h5 : placeB prev = true) :
    Calls Tryz.prog 254 #[.agg #[.int .i64 lsn, .int .i64 turn, .int .u8 K, .int .i64 tx, .int .i64 prev, .int .i64 next, .int .i64 block, .int .i64 off, .slice a1 no c1, .slice a2 nn c2]] w fun e w' => e = .returned (.bool (false)) ∧ Fr [] w w' := by
  go_enter Tryz.func254, Tryz.ntmps254
  go_wp2_with (first | (go_at_call 278; refine (isPlace_any _ _).mono ?_; rintro e w' ⟨rfl, rfl⟩) | (go_at_call 279; refine (fits_any _ block off no c1 nn c2 a1 a2 hnn).mono ?_; rintro e w5 ⟨rfl, f5⟩; have b5 := f5.same (by simp) (heap_alloc2_new w _ _); have z5 := (kept_two _ _).trans f5; have d2 := cell_of_row w5 (w.heap.size + 1) 2 _ _ _ b5; have d3 := cell_of_row w5 (w.heap.size + 1) 3 _ _ _ b5; simp only [List.getElem?_toArray, List.getElem?_cons_succ, List.getElem?_cons_zero] at d2 d3; clear b5 f5))
  go_ret
  exact ⟨rfl, kept_two _ _⟩

theorem right_any (w : World) (r : Rec) (s : Spots) (hnn : r.new.length ≤ 1000000) : Calls Tryz.prog 254 #[.agg (recV r s)] w fun e w' => e = .returned (.bool (rightB r)) ∧ Fr [] w w' := by
  cases hh : headB r with
  | false =>
    have e : rightB r = false := by simp [rightB, hh]
    rw [e]
    exact right_no w r s hh
  | true =>
    have e : rightB r = kindB r := by simp [rightB, hh]
    rw [e]
    obtain ⟨lsn, turn, kind, tx, prev, next, block, off, old, new⟩ := r
    simp [headB] at hh
    obtain ⟨⟨⟨⟨⟨h0, h1⟩, h2⟩, h3⟩, h4⟩, h5⟩ := hh
    unfold recV kindB
    dsimp only at hnn ⊢
    by_cases k1 : kind = 1
    · subst k1
      exact right_one w lsn turn tx prev next block off _ _ s.a1 s.a2 s.c1 s.c2 hnn h0 h1 h2 h3 h4 h5
    rw [if_neg k1]
    by_cases k2 : kind = 2
    · subst k2
      exact right_two w lsn turn tx prev next block off _ _ s.a1 s.a2 s.c1 s.c2 hnn h0 h1 h2 h3 h4 h5
    rw [if_neg k2]
    by_cases k3 : kind = 3
    · subst k3
      exact right_three w lsn turn tx prev next block off _ _ s.a1 s.a2 s.c1 s.c2 hnn h0 h1 h2 h3 h4 h5
    by_cases k4 : kind = 4
    · subst k4
      exact right_four w lsn turn tx prev next block off _ _ s.a1 s.a2 s.c1 s.c2 hnn h0 h1 h2 h3 h4 h5
    rw [if_neg (by omega)]
    exact right_other w lsn turn tx prev next block off kind (by simp; omega) (by simp; omega) (by simp; omega) (by simp; omega) _ _ s.a1 s.a2 s.c1 s.c2 hnn h0 h1 h2 h3 h4 h5

end Go.Proofs.YtopaeomjndblkaaGreat
