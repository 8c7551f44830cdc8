/-
  A record's bytes: the program's Put.
-/
import Derived.Test.YthajipigppndgaaGreatY02Z
import Derived.Test.YthajipigppndgaaGreatY03Z
namespace Go.Proofs.YthajipigppndgaaGreat
open Go.RowKit Go.Maps

set_option maxHeartbeats 2000000 in
theorem right_one (w : World) (lsn turn tx prev next block off : Int) (no nn : Nat) (a1 a2 : Option Addr) (c1 c2 : Nat) (hnn : nn ≤ 1000000)
    (h0 : 1 ≤ lsn) (h1 : lsn ≤ 4611686018427387904) (h2 : 1 ≤ turn) (h3 : turn ≤ 2147483647) (h4 : placeB tx = true) (h5 : placeB prev = true) :
    Calls Tryz.prog 262 #[.agg #[.int .i64 lsn, .int .i64 turn, .int .u8 1, .int .i64 tx, .int .i64 prev, .int .i64 next, .int .i64 block, .int .i64 off, .slice a1 no c1, .slice a2 nn c2]] w fun e w' => e = .returned (.bool (decide (next = 0) && (fitsB block off nn && decide (no = nn)))) ∧ Fr [] w w' := by
  by_cases g0 : next = 0
  · have q0 : (next == 0) = true := by first | simpa using g0 | (simp; omega)
    rw [decide_eq_true g0]
    clear g0
    cases g1 : fitsB block off nn
    · skip
      go_enter Tryz.func262, Tryz.ntmps262
      go_wp2_with (first | (go_at_call 289; refine (isPlace_any _ _).mono ?_; rintro e w' ⟨rfl, rfl⟩) | (go_at_call 290; refine (fits_any _ block off no c1 nn c2 a1 a2 hnn).mono ?_; rintro e w5 ⟨rfl, f5⟩; have b5 := f5.same (by simp) (heap_alloc2_new w _ _); have z5 := (kept_two _ _).trans f5; have d2 := cell_of_row w5 (w.heap.size + 1) 2 _ _ _ b5; have d3 := cell_of_row w5 (w.heap.size + 1) 3 _ _ _ b5; simp only [List.getElem?_toArray, List.getElem?_cons_succ, List.getElem?_cons_zero] at d2 d3; clear b5 f5))
      go_ret
      exact ⟨rfl, z5⟩
    · skip
      by_cases g2 : no = nn
      · have q2 : ((no : Int) == (nn : Int)) = true := by first | simpa using g2 | (simp; omega)
        rw [decide_eq_true g2]
        clear g2
        go_enter Tryz.func262, Tryz.ntmps262
        go_wp2_with (first | (go_at_call 289; refine (isPlace_any _ _).mono ?_; rintro e w' ⟨rfl, rfl⟩) | (go_at_call 290; refine (fits_any _ block off no c1 nn c2 a1 a2 hnn).mono ?_; rintro e w5 ⟨rfl, f5⟩; have b5 := f5.same (by simp) (heap_alloc2_new w _ _); have z5 := (kept_two _ _).trans f5; have d2 := cell_of_row w5 (w.heap.size + 1) 2 _ _ _ b5; have d3 := cell_of_row w5 (w.heap.size + 1) 3 _ _ _ b5; simp only [List.getElem?_toArray, List.getElem?_cons_succ, List.getElem?_cons_zero] at d2 d3; clear b5 f5))
        go_ret
        exact ⟨rfl, z5⟩
      · have q2 : ((no : Int) == (nn : Int)) = false := by first | simpa using g2 | (simp; omega)
        rw [decide_eq_false g2]
        clear g2
        go_enter Tryz.func262, Tryz.ntmps262
        go_wp2_with (first | (go_at_call 289; refine (isPlace_any _ _).mono ?_; rintro e w' ⟨rfl, rfl⟩) | (go_at_call 290; refine (fits_any _ block off no c1 nn c2 a1 a2 hnn).mono ?_; rintro e w5 ⟨rfl, f5⟩; have b5 := f5.same (by simp) (heap_alloc2_new w _ _); have z5 := (kept_two _ _).trans f5; have d2 := cell_of_row w5 (w.heap.size + 1) 2 _ _ _ b5; have d3 := cell_of_row w5 (w.heap.size + 1) 3 _ _ _ b5; simp only [List.getElem?_toArray, List.getElem?_cons_succ, List.getElem?_cons_zero] at d2 d3; clear b5 f5))
        go_ret
        exact ⟨rfl, z5⟩
  · have q0 : (next == 0) = false := by first | simpa using g0 | (simp; omega)
    rw [decide_eq_false g0]
    clear g0
    go_enter Tryz.func262, Tryz.ntmps262
    go_wp2_with (first | (go_at_call 289; refine (isPlace_any _ _).mono ?_; rintro e w' ⟨rfl, rfl⟩) | (go_at_call 290; refine (fits_any _ block off no c1 nn c2 a1 a2 hnn).mono ?_; rintro e w5 ⟨rfl, f5⟩; have b5 := f5.same (by simp) (heap_alloc2_new w _ _); have z5 := (kept_two _ _).trans f5; have d2 := cell_of_row w5 (w.heap.size + 1) 2 _ _ _ b5; have d3 := cell_of_row w5 (w.heap.size + 1) 3 _ _ _ b5; simp only [List.getElem?_toArray, List.getElem?_cons_succ, List.getElem?_cons_zero] at d2 d3; clear b5 f5))
    go_ret
    exact ⟨rfl, kept_two _ _⟩

set_option maxHeartbeats 2000000 in
theorem right_two (w : World) (lsn turn tx prev next block off : Int) (no nn : Nat) (a1 a2 : Option Addr) (c1 c2 : Nat) (hnn : nn ≤ 1000000)
    (h0 : 1 ≤ lsn) (h1 : lsn ≤ 4611686018427387904) (h2 : 1 ≤ turn) (h3 : turn ≤ 2147483647) (h4 : placeB tx = true) (h5 : placeB prev = true) :
    Calls Tryz.prog 262 #[.agg #[.int .i64 lsn, .int .i64 turn, .int .u8 2, .int .i64 tx, .int .i64 prev, .int .i64 next, .int .i64 block, .int .i64 off, .slice a1 no c1, .slice a2 nn c2]] w fun e w' => e = .returned (.bool (placeB next && (fitsB block off nn && decide (no = 0)))) ∧ Fr [] w w' := by
  cases g0 : placeB next
  · skip
    go_enter Tryz.func262, Tryz.ntmps262
    go_wp2_with (first | (go_at_call 289; refine (isPlace_any _ _).mono ?_; rintro e w' ⟨rfl, rfl⟩) | (go_at_call 290; refine (fits_any _ block off no c1 nn c2 a1 a2 hnn).mono ?_; rintro e w5 ⟨rfl, f5⟩; have b5 := f5.same (by simp) (heap_alloc2_new w _ _); have z5 := (kept_two _ _).trans f5; have d2 := cell_of_row w5 (w.heap.size + 1) 2 _ _ _ b5; have d3 := cell_of_row w5 (w.heap.size + 1) 3 _ _ _ b5; simp only [List.getElem?_toArray, List.getElem?_cons_succ, List.getElem?_cons_zero] at d2 d3; clear b5 f5))
    go_ret
    exact ⟨rfl, kept_two _ _⟩
  · skip
    cases g1 : fitsB block off nn
    · skip
      go_enter Tryz.func262, Tryz.ntmps262
      go_wp2_with (first | (go_at_call 289; refine (isPlace_any _ _).mono ?_; rintro e w' ⟨rfl, rfl⟩) | (go_at_call 290; refine (fits_any _ block off no c1 nn c2 a1 a2 hnn).mono ?_; rintro e w5 ⟨rfl, f5⟩; have b5 := f5.same (by simp) (heap_alloc2_new w _ _); have z5 := (kept_two _ _).trans f5; have d2 := cell_of_row w5 (w.heap.size + 1) 2 _ _ _ b5; have d3 := cell_of_row w5 (w.heap.size + 1) 3 _ _ _ b5; simp only [List.getElem?_toArray, List.getElem?_cons_succ, List.getElem?_cons_zero] at d2 d3; clear b5 f5))
      go_ret
      exact ⟨rfl, z5⟩
    · skip
      by_cases g2 : no = 0
      · have q2 : ((no : Int) == 0) = true := by first | simpa using g2 | (simp; omega)
        rw [decide_eq_true g2]
        clear g2
        go_enter Tryz.func262, Tryz.ntmps262
        go_wp2_with (first | (go_at_call 289; refine (isPlace_any _ _).mono ?_; rintro e w' ⟨rfl, rfl⟩) | (go_at_call 290; refine (fits_any _ block off no c1 nn c2 a1 a2 hnn).mono ?_; rintro e w5 ⟨rfl, f5⟩; have b5 := f5.same (by simp) (heap_alloc2_new w _ _); have z5 := (kept_two _ _).trans f5; have d2 := cell_of_row w5 (w.heap.size + 1) 2 _ _ _ b5; have d3 := cell_of_row w5 (w.heap.size + 1) 3 _ _ _ b5; simp only [List.getElem?_toArray, List.getElem?_cons_succ, List.getElem?_cons_zero] at d2 d3; clear b5 f5))
        go_ret
        exact ⟨rfl, z5⟩
      · have q2 : ((no : Int) == 0) = false := by first | simpa using g2 | (simp; omega)
        rw [decide_eq_false g2]
        clear g2
        go_enter Tryz.func262, Tryz.ntmps262
        go_wp2_with (first | (go_at_call 289; refine (isPlace_any _ _).mono ?_; rintro e w' ⟨rfl, rfl⟩) | (go_at_call 290; refine (fits_any _ block off no c1 nn c2 a1 a2 hnn).mono ?_; rintro e w5 ⟨rfl, f5⟩; have b5 := f5.same (by simp) (heap_alloc2_new w _ _); have z5 := (kept_two _ _).trans f5; have d2 := cell_of_row w5 (w.heap.size + 1) 2 _ _ _ b5; have d3 := cell_of_row w5 (w.heap.size + 1) 3 _ _ _ b5; simp only [List.getElem?_toArray, List.getElem?_cons_succ, List.getElem?_cons_zero] at d2 d3; clear b5 f5))
        go_ret
        exact ⟨rfl, z5⟩

set_option maxHeartbeats 2000000 in
theorem right_three (w : World) (lsn turn tx prev next block off : Int) (no nn : Nat) (a1 a2 : Option Addr) (c1 c2 : Nat) (_hnn : nn ≤ 1000000)
    (h0 : 1 ≤ lsn) (h1 : lsn ≤ 4611686018427387904) (h2 : 1 ≤ turn) (h3 : turn ≤ 2147483647) (h4 : placeB tx = true) (h5 : placeB prev = true) :
    Calls Tryz.prog 262 #[.agg #[.int .i64 lsn, .int .i64 turn, .int .u8 3, .int .i64 tx, .int .i64 prev, .int .i64 next, .int .i64 block, .int .i64 off, .slice a1 no c1, .slice a2 nn c2]] w fun e w' => e = .returned (.bool (decide (next = 0) && (decide (block = 0) && (decide (off = 0) && (decide (no = 0) && decide (nn = 0)))))) ∧ Fr [] w w' := by
  by_cases g0 : next = 0
  · have q0 : (next == 0) = true := by first | simpa using g0 | (simp; omega)
    rw [decide_eq_true g0]
    clear g0
    by_cases g1 : block = 0
    · have q1 : (block == 0) = true := by first | simpa using g1 | (simp; omega)
      rw [decide_eq_true g1]
      clear g1
      by_cases g2 : off = 0
      · have q2 : (off == 0) = true := by first | simpa using g2 | (simp; omega)
        rw [decide_eq_true g2]
        clear g2
        by_cases g3 : no = 0
        · have q3 : ((no : Int) == 0) = true := by first | simpa using g3 | (simp; omega)
          rw [decide_eq_true g3]
          clear g3
          by_cases g4 : nn = 0
          · have q4 : ((nn : Int) == 0) = true := by first | simpa using g4 | (simp; omega)
            rw [decide_eq_true g4]
            clear g4
            go_enter Tryz.func262, Tryz.ntmps262
            go_wp2_with (first | (go_at_call 289; refine (isPlace_any _ _).mono ?_; rintro e w' ⟨rfl, rfl⟩) | (go_at_call 290; refine (fits_any _ block off no c1 nn c2 a1 a2 hnn).mono ?_; rintro e w5 ⟨rfl, f5⟩; have b5 := f5.same (by simp) (heap_alloc2_new w _ _); have z5 := (kept_two _ _).trans f5; have d2 := cell_of_row w5 (w.heap.size + 1) 2 _ _ _ b5; have d3 := cell_of_row w5 (w.heap.size + 1) 3 _ _ _ b5; simp only [List.getElem?_toArray, List.getElem?_cons_succ, List.getElem?_cons_zero] at d2 d3; clear b5 f5))
            go_ret
            exact ⟨rfl, kept_two _ _⟩
          · have q4 : ((nn : Int) == 0) = false := by first | simpa using g4 | (simp; omega)
            rw [decide_eq_false g4]
            clear g4
            go_enter Tryz.func262, Tryz.ntmps262
            go_wp2_with (first | (go_at_call 289; refine (isPlace_any _ _).mono ?_; rintro e w' ⟨rfl, rfl⟩) | (go_at_call 290; refine (fits_any _ block off no c1 nn c2 a1 a2 hnn).mono ?_; rintro e w5 ⟨rfl, f5⟩; have b5 := f5.same (by simp) (heap_alloc2_new w _ _); have z5 := (kept_two _ _).trans f5; have d2 := cell_of_row w5 (w.heap.size + 1) 2 _ _ _ b5; have d3 := cell_of_row w5 (w.heap.size + 1) 3 _ _ _ b5; simp only [List.getElem?_toArray, List.getElem?_cons_succ, List.getElem?_cons_zero] at d2 d3; clear b5 f5))
            go_ret
            exact ⟨rfl, kept_two _ _⟩
        · have q3 : ((no : Int) == 0) = false := by first | simpa using g3 | (simp; omega)
          rw [decide_eq_false g3]
          clear g3
          go_enter Tryz.func262, Tryz.ntmps262
          go_wp2_with (first | (go_at_call 289; refine (isPlace_any _ _).mono ?_; rintro e w' ⟨rfl, rfl⟩) | (go_at_call 290; refine (fits_any _ block off no c1 nn c2 a1 a2 hnn).mono ?_; rintro e w5 ⟨rfl, f5⟩; have b5 := f5.same (by simp) (heap_alloc2_new w _ _); have z5 := (kept_two _ _).trans f5; have d2 := cell_of_row w5 (w.heap.size + 1) 2 _ _ _ b5; have d3 := cell_of_row w5 (w.heap.size + 1) 3 _ _ _ b5; simp only [List.getElem?_toArray, List.getElem?_cons_succ, List.getElem?_cons_zero] at d2 d3; clear b5 f5))
          go_ret
          exact ⟨rfl, kept_two _ _⟩
      · have q2 : (off == 0) = false := by first | simpa using g2 | (simp; omega)
        rw [decide_eq_false g2]
        clear g2
        go_enter Tryz.func262, Tryz.ntmps262
        go_wp2_with (first | (go_at_call 289; refine (isPlace_any _ _).mono ?_; rintro e w' ⟨rfl, rfl⟩) | (go_at_call 290; refine (fits_any _ block off no c1 nn c2 a1 a2 hnn).mono ?_; rintro e w5 ⟨rfl, f5⟩; have b5 := f5.same (by simp) (heap_alloc2_new w _ _); have z5 := (kept_two _ _).trans f5; have d2 := cell_of_row w5 (w.heap.size + 1) 2 _ _ _ b5; have d3 := cell_of_row w5 (w.heap.size + 1) 3 _ _ _ b5; simp only [List.getElem?_toArray, List.getElem?_cons_succ, List.getElem?_cons_zero] at d2 d3; clear b5 f5))
        go_ret
        exact ⟨rfl, kept_two _ _⟩
    · have q1 : (block == 0) = false := by first | simpa using g1 | (simp; omega)
      rw [decide_eq_false g1]
      clear g1
      go_enter Tryz.func262, Tryz.ntmps262
      go_wp2_with (first | (go_at_call 289; refine (isPlace_any _ _).mono ?_; rintro e w' ⟨rfl, rfl⟩) | (go_at_call 290; refine (fits_any _ block off no c1 nn c2 a1 a2 hnn).mono ?_; rintro e w5 ⟨rfl, f5⟩; have b5 := f5.same (by simp) (heap_alloc2_new w _ _); have z5 := (kept_two _ _).trans f5; have d2 := cell_of_row w5 (w.heap.size + 1) 2 _ _ _ b5; have d3 := cell_of_row w5 (w.heap.size + 1) 3 _ _ _ b5; simp only [List.getElem?_toArray, List.getElem?_cons_succ, List.getElem?_cons_zero] at d2 d3; clear b5 f5))
      go_ret
      exact ⟨rfl, kept_two _ _⟩
  · have q0 : (next == 0) = false := by first | simpa using g0 | (simp; omega)
    rw [decide_eq_false g0]
    clear g0
    go_enter Tryz.func262, Tryz.ntmps262
    go_wp2_with (first | (go_at_call 289; refine (isPlace_any _ _).mono ?_; rintro e w' ⟨rfl, rfl⟩) | (go_at_call 290; refine (fits_any _ block off no c1 nn c2 a1 a2 hnn).mono ?_; rintro e w5 ⟨rfl, f5⟩; have b5 := f5.same (by simp) (heap_alloc2_new w _ _); have z5 := (kept_two _ _).trans f5; have d2 := cell_of_row w5 (w.heap.size + 1) 2 _ _ _ b5; have d3 := cell_of_row w5 (w.heap.size + 1) 3 _ _ _ b5; simp only [List.getElem?_toArray, List.getElem?_cons_succ, List.getElem?_cons_zero] at d2 d3; clear b5 f5))
    go_ret
    exact ⟨rfl, kept_two _ _⟩

set_option maxHeartbeats 2000000 in
theorem right_four (w : World) (lsn turn tx prev next block off : Int) (no nn : Nat) (a1 a2 : Option Addr) (c1 c2 : Nat) (_hnn : nn ≤ 1000000)
    (h0 : 1 ≤ lsn) (h1 : lsn ≤ 4611686018427387904) (h2 : 1 ≤ turn) (h3 : turn ≤ 2147483647) (h4 : placeB tx = true) (h5 : placeB prev = true) :
    Calls Tryz.prog 262 #[.agg #[.int .i64 lsn, .int .i64 turn, .int .u8 4, .int .i64 tx, .int .i64 prev, .int .i64 next, .int .i64 block, .int .i64 off, .slice a1 no c1, .slice a2 nn c2]] w fun e w' => e = .returned (.bool (decide (next = 0) && (decide (block = 0) && (decide (off = 0) && (decide (no = 0) && decide (nn = 0)))))) ∧ Fr [] w w' := by
  by_cases g0 : next = 0
  · have q0 : (next == 0) = true := by first | simpa using g0 | (simp; omega)
    rw [decide_eq_true g0]
    clear g0
    by_cases g1 : block = 0
    · have q1 : (block == 0) = true := by first | simpa using g1 | (simp; omega)
      rw [decide_eq_true g1]
      clear g1
      by_cases g2 : off = 0
      · have q2 : (off == 0) = true := by first | simpa using g2 | (simp; omega)
        rw [decide_eq_true g2]
        clear g2
        by_cases g3 : no = 0
        · have q3 : ((no : Int) == 0) = true := by first | simpa using g3 | (simp; omega)
          rw [decide_eq_true g3]
          clear g3
          by_cases g4 : nn = 0
          · have q4 : ((nn : Int) == 0) = true := by first | simpa using g4 | (simp; omega)
            rw [decide_eq_true g4]
            clear g4
            go_enter Tryz.func262, Tryz.ntmps262
            go_wp2_with (first | (go_at_call 289; refine (isPlace_any _ _).mono ?_; rintro e w' ⟨rfl, rfl⟩) | (go_at_call 290; refine (fits_any _ block off no c1 nn c2 a1 a2 hnn).mono ?_; rintro e w5 ⟨rfl, f5⟩; have b5 := f5.same (by simp) (heap_alloc2_new w _ _); have z5 := (kept_two _ _).trans f5; have d2 := cell_of_row w5 (w.heap.size + 1) 2 _ _ _ b5; have d3 := cell_of_row w5 (w.heap.size + 1) 3 _ _ _ b5; simp only [List.getElem?_toArray, List.getElem?_cons_succ, List.getElem?_cons_zero] at d2 d3; clear b5 f5))
            go_ret
            exact ⟨rfl, kept_two _ _⟩
          · have q4 : ((nn : Int) == 0) = false := by first | simpa using g4 | (simp; omega)
            rw [decide_eq_false g4]
            clear g4
            go_enter Tryz.func262, Tryz.ntmps262
            go_wp2_with (first | (go_at_call 289; refine (isPlace_any _ _).mono ?_; rintro e w' ⟨rfl, rfl⟩) | (go_at_call 290; refine (fits_any _ block off no c1 nn c2 a1 a2 hnn).mono ?_; rintro e w5 ⟨rfl, f5⟩; have b5 := f5.same (by simp) (heap_alloc2_new w _ _); have z5 := (kept_two _ _).trans f5; have d2 := cell_of_row w5 (w.heap.size + 1) 2 _ _ _ b5; have d3 := cell_of_row w5 (w.heap.size + 1) 3 _ _ _ b5; simp only [List.getElem?_toArray, List.getElem?_cons_succ, List.getElem?_cons_zero] at d2 d3; clear b5 f5))
            go_ret
            exact ⟨rfl, kept_two _ _⟩
        · have q3 : ((no : Int) == 0) = false := by first | simpa using g3 | (simp; omega)
          rw [decide_eq_false g3]
          clear g3
          go_enter Tryz.func262, Tryz.ntmps262
          go_wp2_with (first | (go_at_call 289; refine (isPlace_any _ _).mono ?_; rintro e w' ⟨rfl, rfl⟩) | (go_at_call 290; refine (fits_any _ block off no c1 nn c2 a1 a2 hnn).mono ?_; rintro e w5 ⟨rfl, f5⟩; have b5 := f5.same (by simp) (heap_alloc2_new w _ _); have z5 := (kept_two _ _).trans f5; have d2 := cell_of_row w5 (w.heap.size + 1) 2 _ _ _ b5; have d3 := cell_of_row w5 (w.heap.size + 1) 3 _ _ _ b5; simp only [List.getElem?_toArray, List.getElem?_cons_succ, List.getElem?_cons_zero] at d2 d3; clear b5 f5))
          go_ret
          exact ⟨rfl, kept_two _ _⟩
      · have q2 : (off == 0) = false := by first | simpa using g2 | (simp; omega)
        rw [decide_eq_false g2]
        clear g2
        go_enter Tryz.func262, Tryz.ntmps262
        go_wp2_with (first | (go_at_call 289; refine (isPlace_any _ _).mono ?_; rintro e w' ⟨rfl, rfl⟩) | (go_at_call 290; refine (fits_any _ block off no c1 nn c2 a1 a2 hnn).mono ?_; rintro e w5 ⟨rfl, f5⟩; have b5 := f5.same (by simp) (heap_alloc2_new w _ _); have z5 := (kept_two _ _).trans f5; have d2 := cell_of_row w5 (w.heap.size + 1) 2 _ _ _ b5; have d3 := cell_of_row w5 (w.heap.size + 1) 3 _ _ _ b5; simp only [List.getElem?_toArray, List.getElem?_cons_succ, List.getElem?_cons_zero] at d2 d3; clear b5 f5))
        go_ret
        exact ⟨rfl, kept_two _ _⟩
    · have q1 : (block == 0) = false := by first | simpa using g1 | (simp; omega)
      rw [decide_eq_false g1]
      clear g1
      go_enter Tryz.func262, Tryz.ntmps262
      go_wp2_with (first | (go_at_call 289; refine (isPlace_any _ _).mono ?_; rintro e w' ⟨rfl, rfl⟩) | (go_at_call 290; refine (fits_any _ block off no c1 nn c2 a1 a2 hnn).mono ?_; rintro e w5 ⟨rfl, f5⟩; have b5 := f5.same (by simp) (heap_alloc2_new w _ _); have z5 := (kept_two _ _).trans f5; have d2 := cell_of_row w5 (w.heap.size + 1) 2 _ _ _ b5; have d3 := cell_of_row w5 (w.heap.size + 1) 3 _ _ _ b5; simp only [List.getElem?_toArray, List.getElem?_cons_succ, List.getElem?_cons_zero] at d2 d3; clear b5 f5))
      go_ret
      exact ⟨rfl, kept_two _ _⟩
  · have q0 : (next == 0) = false := by first | simpa using g0 | (simp; omega)
    rw [decide_eq_false g0]
    clear g0
    go_enter Tryz.func262, Tryz.ntmps262
    go_wp2_with (first | (go_at_call 289; refine (isPlace_any _ _).mono ?_; rintro e w' ⟨rfl, rfl⟩) | (go_at_call 290; refine (fits_any _ block off no c1 nn c2 a1 a2 hnn).mono ?_; rintro e w5 ⟨rfl, f5⟩; have b5 := f5.same (by simp) (heap_alloc2_new w _ _); have z5 := (kept_two _ _).trans f5; have d2 := cell_of_row w5 (w.heap.size + 1) 2 _ _ _ b5; have d3 := cell_of_row w5 (w.heap.size + 1) 3 _ _ _ b5; simp only [List.getElem?_toArray, List.getElem?_cons_succ, List.getElem?_cons_zero] at d2 d3; clear b5 f5))
    go_ret
    exact ⟨rfl, kept_two _ _⟩

set_option maxHeartbeats 2000000 in
theorem right_other (w : World) (lsn turn tx prev next block off : Int) (K : Int) (k1 : (K == 1) = false) (k2 : (K == 2) = false) (k3 : (K == 3) = false) (k4 : (K == 4) = false) (no nn : Nat) (a1 a2 : Option Addr) (c1 c2 : Nat) (_hnn : nn ≤ 1000000)
    (h0 : 1 ≤ lsn) (h1 : lsn ≤ 4611686018427387904) (h2 : 1 ≤ turn) (h3 : turn ≤ 2147483647) (h4 : placeB tx = true) (h5 : placeB prev = true) :
    Calls Tryz.prog 262 #[.agg #[.int .i64 lsn, .int .i64 turn, .int .u8 K, .int .i64 tx, .int .i64 prev, .int .i64 next, .int .i64 block, .int .i64 off, .slice a1 no c1, .slice a2 nn c2]] w fun e w' => e = .returned (.bool (false)) ∧ Fr [] w w' := by
  go_enter Tryz.func262, Tryz.ntmps262
  go_wp2_with (first | (go_at_call 289; refine (isPlace_any _ _).mono ?_; rintro e w' ⟨rfl, rfl⟩) | (go_at_call 290; refine (fits_any _ block off no c1 nn c2 a1 a2 hnn).mono ?_; rintro e w5 ⟨rfl, f5⟩; have b5 := f5.same (by simp) (heap_alloc2_new w _ _); have z5 := (kept_two _ _).trans f5; have d2 := cell_of_row w5 (w.heap.size + 1) 2 _ _ _ b5; have d3 := cell_of_row w5 (w.heap.size + 1) 3 _ _ _ b5; simp only [List.getElem?_toArray, List.getElem?_cons_succ, List.getElem?_cons_zero] at d2 d3; clear b5 f5))
  go_ret
  exact ⟨rfl, kept_two _ _⟩

theorem right_any (w : World) (r : Rec) (s : Spots) (hnn : r.new.length ≤ 1000000) : Calls Tryz.prog 262 #[.agg (recV r s)] w fun e w' => e = .returned (.bool (rightB r)) ∧ Fr [] w w' := by
  cases hh : headB r with
  | false =>
    have e : rightB r = false := by simp [rightB, hh]
    rw [e]
    exact right_no w r s hh
  | true =>
    have e : rightB r = kindB r := by simp [rightB, hh]
    rw [e]
    obtain ⟨lsn, turn, kind, tx, prev, next, block, off, old, new⟩ := r
    simp [headB] at hh
    obtain ⟨⟨⟨⟨⟨h0, h1⟩, h2⟩, h3⟩, h4⟩, h5⟩ := hh
    unfold recV kindB
    dsimp only at hnn ⊢
    by_cases k1 : kind = 1
    · subst k1
      exact right_one w lsn turn tx prev next block off _ _ s.a1 s.a2 s.c1 s.c2 hnn h0 h1 h2 h3 h4 h5
    rw [if_neg k1]
    by_cases k2 : kind = 2
    · subst k2
      exact right_two w lsn turn tx prev next block off _ _ s.a1 s.a2 s.c1 s.c2 hnn h0 h1 h2 h3 h4 h5
    rw [if_neg k2]
    by_cases k3 : kind = 3
    · subst k3
      exact right_three w lsn turn tx prev next block off _ _ s.a1 s.a2 s.c1 s.c2 hnn h0 h1 h2 h3 h4 h5
    by_cases k4 : kind = 4
    · subst k4
      exact right_four w lsn turn tx prev next block off _ _ s.a1 s.a2 s.c1 s.c2 hnn h0 h1 h2 h3 h4 h5
    rw [if_neg (by omega)]
    exact right_other w lsn turn tx prev next block off kind (by simp; omega) (by simp; omega) (by simp; omega) (by simp; omega) _ _ s.a1 s.a2 s.c1 s.c2 hnn h0 h1 h2 h3 h4 h5

end Go.Proofs.YthajipigppndgaaGreat

namespace Go.Proofs.YthajipigppndgaaGreat
open Go.RowKit Go.Maps

def headL (r : Rec) : List UInt8 := beK 8 r.lsn.toNat ++ beK 4 r.turn.toNat ++ beK 2 (bodyL r).length
def encL (r : Rec) : List UInt8 := headL r ++ beK 4 (crc (headL r ++ bodyL r)) ++ bodyL r
theorem headL_length (r : Rec) : (headL r).length = 14 := by simp [headL, beK_length]
theorem encL_length (r : Rec) : (encL r).length = 18 + (bodyL r).length := by simp [encL, headL_length, beK_length]; omega
theorem body_bounds {r : Rec} (h : rightB r = true) : 17 ≤ (bodyL r).length ∧ (bodyL r).length ≤ 1049 := by
  rw [bodyL_length]
  rcases right_kinds h with ⟨hk, hn, b0, b1, o0, n0, o1, on⟩ | ⟨hk, hn, b0, b1, o0, n0, o1, on⟩ | ⟨hk, hn, b0, o0, on, nn⟩
  · rw [if_neg (by omega), if_neg (by omega)]; omega
  · rw [if_pos (by omega), if_neg (by omega)]; omega
  · rw [if_neg (by omega), if_pos (by omega)]; omega

set_option maxHeartbeats 400000 in
set_option maxRecDepth 100000 in
theorem put_ok (w : World) (r : Rec) (s : Spots) (hs : SpotsAt w r s) (hr : rightB r = true) :
    Calls Tryz.prog 237 #[.agg (recV r s)] w fun e w' => ∃ v, e = .returned (.tuple #[v, .int .i64 0]) ∧ Own w w' v (encL r).length (arr (encL r)).toList := by
  obtain ⟨l0, l1, t0, t1, -, -, -⟩ := right_facts hr
  obtain ⟨n0, n1⟩ := body_bounds hr
  have hnn : r.new.length ≤ 1000000 := by
    rcases right_kinds hr with ⟨hk, hn, b0, b1, o0, n0, o1, on⟩ | ⟨hk, hn, b0, b1, o0, n0, o1, on⟩ | ⟨hk, hn, b0, o0, on, nn⟩ <;> omega
  have f1 : Fr [] w (w.alloc (.cells (recV r s) 148)) := (Fr.refl [] w).alloc _
  have rb : RBox (w.alloc (.cells (recV r s) 148)) w.heap.size r s := heap_alloc_new w _
  have hR := right_any (w.alloc (.cells (recV r s) 148)) r s hnn
  rw [hr] at hR
  have HB : Hid (∀ w', Fr [] w w' → Calls Tryz.prog 263 #[.agg (recV r s)] w' fun e w'' => ∃ v, e = .returned v ∧ Own w' w'' v (bodyL r).length (arr (bodyL r)).toList) := fun w' f => body_any w' r s (hs.kept f) hr
  obtain ⟨N, HN⟩ : ∃ N, Hid ((bodyL r).length = N) := ⟨_, rfl⟩
  rw [HN.out] at n0 n1
  have n0' : (17 : Int) ≤ N := by omega
  have n1' : (N : Int) ≤ 1049 := by omega
  have hwN : IntKind.i64.wrap (18 + (N : Int)) = 18 + (N : Int) := by simp [IntKind.wrap, IntKind.signed, IntKind.bits]; omega
  unfold recV at f1 hR HB
  unfold RBox recV at rb
  unfold recV
  go_enter Tryz.func237, Tryz.ntmps237
  go_wp2_with fail
  refine hR.mono ?_
  rintro e w2 ⟨rfl, f2⟩
  have rb2 : RBox w2 w.heap.size r s := f2.same (by simp) rb
  have x0 := rb2.c0
  have x1 := rb2.c1
  have x2 := rb2.c2
  have x3 := rb2.c3
  have x4 := rb2.c4
  have x5 := rb2.c5
  have x6 := rb2.c6
  have x7 := rb2.c7
  have x8 := rb2.c8
  have x9 := rb2.c9
  have ff := f1.trans f2
  clear hR rb f1 f2
  go_wp2_with fail
  refine (HB.out w2 ff).mono ?_
  clear HB
  rintro e w3 ⟨vb, rfl, ob⟩
  clear x0 x1 x2 x3 x4 x5 x6 x7 x8 x9
  rw [HN.out] at ob
  obtain ⟨gb, cb, rfl, hbb, hgb, -⟩ := own_at ob (by omega) HN.out
  have fw := ff.trans ob.2
  replace rb2 := rb2.kept ob.2 (by simp)
  clear ff ob
  go_wp2_with (refine wp_make0 rfl _ _ rfl (18 + N) rfl (by rfl) (by omega) w3 (Fr.refl _ _) ?_; intro w4 o4; have x0 := (rb2.kept o4.2 (by simp)).c0)
  replace o4 := own_nil o4
  refine (put64_any w3 _ _ 0 [] r.lsn.toNat _ (by omega) (by omega) rfl (by omega) o4).mono ?_
  rintro e w5 ⟨v5, rfl, o5⟩
  clear x0
  have x1 := (rb2.kept o5.2 (by simp)).c1
  have ht1 : r.turn < 4294967296 := by omega
  go_wp2_with fail
  refine (put32_any w3 _ _ (0 + 8) ([] ++ beK 8 r.lsn.toNat) r.turn.toNat _ (by omega) (by omega) (by simp [beK_length]) (by omega) o5).mono ?_
  rintro e w6 ⟨v6, rfl, o6⟩
  clear x1
  go_wp2_with fail
  refine (put16_any w3 _ _ (0 + 8 + 4) ([] ++ beK 8 r.lsn.toNat ++ beK 4 r.turn.toNat) N _ (by omega) (by omega) (by simp [beK_length]) (by omega) o6).mono ?_
  rintro e w7 ⟨v7, rfl, o7⟩
  have eh : [] ++ beK 8 r.lsn.toNat ++ beK 4 r.turn.toNat ++ beK 2 N = headL r := by rw [← HN.out]; rfl
  rw [eh] at o7
  replace o7 := own_len (m := 14) o7 rfl
  obtain ⟨g7, c7, rfl, hb7, hg7, -⟩ := own_at o7 (by omega) (headL_length r)
  clear eh o5 o6 o4
  go_wp2_with fail
  refine (sum_any _ w7.heap.size 2 14 c7 N cb _ _ (headL r) (bodyL r) (heap_alloc_new w7 _) (headL_length r) HN.out (hb7.kept ((Fr.refl [] w7).alloc _) (by simp)) (hbb.kept (o7.2.alloc _) (by simp)) (by omega) (by omega)).mono ?_
  rintro e w8 ⟨rfl, hw8⟩
  subst hw8
  have o8 := o7.kept ((Fr.refl [] w7).alloc (.cells #[.slice (some ⟨g7, 0, none⟩) 14 c7, .slice (some ⟨gb, 0, none⟩) N cb] 26))
  generalize w7.alloc (.cells #[.slice (some ⟨g7, 0, none⟩) 14 c7, .slice (some ⟨gb, 0, none⟩) N cb] 26) = w8 at o8 ⊢
  obtain ⟨C, HC, hC⟩ : ∃ C : Nat, Hid (crc (headL r ++ bodyL r) = C) ∧ C < 4294967296 := ⟨_, rfl, crc_lt _⟩
  rw [HC.out]
  clear o7 hb7
  go_wp2_with fail
  refine (put32_any w3 _ _ 14 (headL r) C _ rfl hC (headL_length r) (by omega) o8).mono ?_
  rintro e w9 ⟨v9, rfl, o9⟩
  obtain ⟨g9, c9, rfl, -, -, -⟩ := own_at o9 (by omega) (by simp [headL_length, beK_length])
  clear o8
  go_wp2_with (refine wp_appB rfl _ _ rfl w3 g9 (14 + 4) c9 _ rfl o9 (some ⟨gb, 0, none⟩) N cb (bodyL r) rfl HN.out (hbb.kept o9.2 (by simp)) (by omega) (by omega) (fun h => nomatch h) ?_; intro gA cA wA oA)
  go_ret2
  rw [arr_append] at oA
  refine ⟨_, rfl, own_base ?_ fw⟩
  have el : encL r = headL r ++ beK 4 C ++ bodyL r := by rw [← HC.out]; rfl
  rw [el]
  exact own_len oA (by rw [← el, encL_length, HN.out])

end Go.Proofs.YthajipigppndgaaGreat

